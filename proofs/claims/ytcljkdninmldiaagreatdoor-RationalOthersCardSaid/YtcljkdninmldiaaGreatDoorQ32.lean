/- What the reference implementation's Canonical, Check, New, Of and Ratio of layer 2 return. Condition: at most 10^6 bytes. -/
import Derived.Test.YtcljkdninmldiaaGreatDoorQ31

namespace Go.Proofs.YtcljkdninmldiaaGreatDoor
open Go.RowKit
set_option linter.unusedSimpArgs false
set_option linter.unusedVariables false

/-- A rational number whose integers have at most L bytes. -/
def AR (v : Value) (q : Rat) (L : Nat) : Prop := ∃ na sa nb sb n d, v = .agg #[.bool na, .string sa, .bool nb, .string sb] ∧ AI (.agg #[.bool na, .string sa]) n L ∧ AI (.agg #[.bool nb, .string sb]) d L ∧ Rat.divInt n d = q
theorem AR.wider {v : Value} {q : Rat} {L M : Nat} (h : AR v q L) (hl : L ≤ M) : AR v q M := by
  obtain ⟨na, sa, nb, sb, n, d, h1, h2, h3, h4⟩ := h
  exact ⟨na, sa, nb, sb, n, d, h1, h2.wider hl, h3.wider hl, h4⟩
/-- Sizes in bytes. -/
def Rb8 (q : Rat) (L : Nat) : Prop := q.num.natAbs < 256 ^ L ∧ q.den < 256 ^ L
theorem ar_ratV {q : Rat} {L : Nat} (h : Rb8 q L) : AR (.agg #[.bool (sg q.num), .string (mg q.num), .bool (sg (q.den : Int)), .string (mg (q.den : Int))]) q L :=
  ⟨_, _, _, _, q.num, (q.den : Int), rfl, ai_mg h.1, ai_mg (by rw [Int.natAbs_natCast]; exact h.2), Rat.num_divInt_den q⟩
theorem Rb8.wider {q : Rat} {L M : Nat} (h : Rb8 q L) (hl : L ≤ M) : Rb8 q M :=
  ⟨Nat.lt_of_lt_of_le h.1 (Nat.pow_le_pow_right (by omega) hl), Nat.lt_of_lt_of_le h.2 (Nat.pow_le_pow_right (by omega) hl)⟩
theorem rb8_divInt {n d : Int} {L : Nat} (hn : n.natAbs < 256 ^ L) (hd : d.natAbs < 256 ^ L) : Rb8 (Rat.divInt n d) (L + 1) := by
  have h1 : 256 ^ L < 256 ^ (L + 1) := Nat.pow_lt_pow_right (by omega) (by omega)
  rcases Int.lt_trichotomy d 0 with h | h | h
  · rw [← Rat.neg_divInt_neg]
    have a := low_num_le (n := -n) (d := -d) (by omega)
    have b := low_den_le (n := -n) (d := -d) (by omega)
    rw [Int.natAbs_neg] at a b
    exact ⟨by omega, by omega⟩
  · subst h
    rw [Rat.divInt_zero]
    exact ⟨by show 0 < _; omega, by show 1 < _; omega⟩
  · have a := low_num_le (n := n) h
    have b := low_den_le (n := n) h
    exact ⟨by omega, by omega⟩
theorem AR.bd {v : Value} {q : Rat} {L : Nat} (h : AR v q L) : Rb8 q (L + 1) := by
  obtain ⟨_, _, _, _, n, d, _, h2, h3, rfl⟩ := h
  exact rb8_divInt h2.bd h3.bd
/-- A rational number in a box of one's own. -/
def BR (W : World) (p : Nat) (g1 : Bool) (s1 : ByteArray) (g2 : Bool) (s2 : ByteArray) : Prop := RIn W p g1 s1 g2 s2 ∧ W.frozen? ⟨p, 0, none⟩ = false ∧ W.frozen? ⟨p, 1, none⟩ = false ∧ W.frozen? ⟨p, 2, none⟩ = false ∧ W.frozen? ⟨p, 3, none⟩ = false
theorem BR.keep {W W1 : World} {p : Nat} {g1 g2 : Bool} {s1 s2 : ByteArray} (h : BR W p g1 s1 g2 s2) (hb : Below W.heap.size W W1) : BR W1 p g1 s1 g2 s2 :=
  ⟨h.1.keep hb, frozen_keep h.1.1 h.2.1 hb, frozen_keep h.1.2.1 h.2.2.1 hb, frozen_keep h.1.2.2.1 h.2.2.2.1 hb, frozen_keep h.1.2.2.2 h.2.2.2.2 hb⟩
theorem BR.new (W : World) (t : TypeId) (g1 g2 : Bool) (s1 s2 : ByteArray) : BR (W.alloc (.cells #[.bool g1, .string s1, .bool g2, .string s2] t)) W.heap.size g1 s1 g2 s2 := by
  refine ⟨⟨?_, ?_, ?_, ?_⟩, ?_, ?_, ?_, ?_⟩ <;> simp [go_sem]
theorem BR.far {W : World} {p : Nat} {g1 g2 : Bool} {s1 s2 : ByteArray} {a : Addr} (h : BR W p g1 s1 g2 s2) (ha : p ≠ a.block) (u : Value) : BR (W.setCell a u) p g1 s1 g2 s2 := by
  refine ⟨h.1.set a ha u, ?_, ?_, ?_, ?_⟩ <;> rw [World.frozen?_setCell]
  · exact h.2.1
  · exact h.2.2.1
  · exact h.2.2.2.1
  · exact h.2.2.2.2
theorem BR.far4 {W : World} {p q : Nat} {g1 g2 : Bool} {s1 s2 : ByteArray} (h : BR W p g1 s1 g2 s2) (ha : p ≠ q) (u1 u2 u3 u4 : Value) : BR ((((W.setCell ⟨q, 0, none⟩ u1).setCell ⟨q, 1, none⟩ u2).setCell ⟨q, 2, none⟩ u3).setCell ⟨q, 3, none⟩ u4) p g1 s1 g2 s2 :=
  (((h.far ha _).far ha _).far ha _).far ha _
theorem ResRat.far4 {W : World} {p q : Nat} (h : ResRat W p) (ha : p ≠ q) (u1 u2 u3 u4 : Value) : ResRat ((((W.setCell ⟨q, 0, none⟩ u1).setCell ⟨q, 1, none⟩ u2).setCell ⟨q, 2, none⟩ u3).setCell ⟨q, 3, none⟩ u4) p :=
  (((h.far ha _).far ha _).far ha _).far ha _
theorem BR.put {W : World} {p : Nat} {g1 g2 g1' g2' : Bool} {s1 s2 s1' s2' : ByteArray} (h : BR W p g1 s1 g2 s2) :
    BR ((((W.setCell ⟨p, 0, none⟩ (.bool g1')).setCell ⟨p, 1, none⟩ (.string s1')).setCell ⟨p, 2, none⟩ (.bool g2')).setCell ⟨p, 3, none⟩ (.string s2')) p g1' s1' g2' s2' := by
  obtain ⟨⟨r1, r2, r3, r4⟩, r5, r6, r7, r8⟩ := h
  refine ⟨⟨?_, ?_, ?_, ?_⟩, ?_, ?_, ?_, ?_⟩ <;> simp [go_sem, r1, r2, r3, r4, r5, r6, r7, r8]
/-- A rational number that came in, and the result's box. -/
def Cw (w W : World) (p : Nat) (g1 g2 : Bool) (s1 s2 : ByteArray) : Prop := BR W p g1 s1 g2 s2 ∧ ResRat W (p + 1) ∧ p + 1 < W.heap.size ∧ Below w.heap.size w W ∧ w.heap.size ≤ p
theorem Cw.keep {w W W1 : World} {p : Nat} {g1 g2 : Bool} {s1 s2 : ByteArray} (h : Cw w W p g1 g2 s1 s2) (hb : Below W.heap.size W W1) : Cw w W1 p g1 g2 s1 s2 :=
  ⟨h.1.keep hb, h.2.1.keep hb, Nat.lt_of_lt_of_le h.2.2.1 hb.size, below_more h.2.2.2.1 (Nat.le_refl _) hb, h.2.2.2.2⟩
theorem Cw.drew {w W : World} {p : Nat} {g1 g2 : Bool} {s1 s2 : ByteArray} (h : Cw w W p g1 g2 s1 s2) : Cw w W.drew p g1 g2 s1 s2 := h.keep (Below.refl _ _).drew
theorem Cw.start (w : World) (g1 g2 : Bool) (s1 s2 : ByteArray) : Cw w ((w.alloc (.cells #[.bool g1, .string s1, .bool g2, .string s2] 25)).alloc (.cells #[.bool false, .string ⟨#[]⟩, .bool false, .string ⟨#[]⟩] 25)) w.heap.size g1 g2 s1 s2 := by
  refine ⟨(BR.new w _ g1 g2 s1 s2).keep (below1 _ _), ?_, ?_, below2 w _ _, Nat.le_refl _⟩
  · have h := ResRat.new (w.alloc (.cells #[.bool g1, .string s1, .bool g2, .string s2] 25))
    rw [World.size_alloc] at h
    exact h
  · simp only [World.size_alloc]; omega
theorem ratV_zero : ratV 0 = .agg #[.bool false, .string ⟨#[]⟩, .bool (sg 1), .string (mg 1)] := by
  unfold ratV
  rw [show (0 : Rat).num = 0 from rfl, sg_zero9, mg_zero9, show (((0 : Rat).den : Nat) : Int) = 1 from rfl]
set_option maxRecDepth 100000 in
set_option maxHeartbeats 6400000 in
theorem rcan02_any (v : Value) (q : Rat) (L : Nat) (w : World) (h : AR v q L) (hL : L ≤ 10000000) : Calls Tryz.prog 21 #[v] w (RatOut w q) := by
  obtain ⟨g1, s1, g2, s2, n, d, rfl, h1, h2, hq⟩ := h
  have H1 := Lib.hid h1
  have H2 := Lib.hid h2
  have Hq := Lib.hid hq
  clear h1 h2 hq
  obtain ⟨W0, hW0⟩ : ∃ W0, W0 = (w.alloc (.cells #[.bool g1, .string s1, .bool g2, .string s2] 25)).alloc (.cells #[.bool false, .string ⟨#[]⟩, .bool false, .string ⟨#[]⟩] 25) := ⟨_, rfl⟩
  have K : Cw w W0 w.heap.size g1 g2 s1 s2 := by rw [hW0]; exact Cw.start w _ _ _ _
  have HW := Lib.hid hW0
  clear hW0
  go_enter Tryz.func21, Tryz.ntmps21
  go_upto_region 1 with fail
  rw [← HW.out]
  obtain ⟨c, Hc⟩ : ∃ c : Int, Hid (cmpZ d 0 = c) := ⟨_, Lib.hid rfl⟩
  obtain ⟨⟨⟨x1, x2, x3, x4⟩, -⟩, -⟩ := id K
  go_wp2_with fail
  refine (rsign_any H2.out hL Hc.out).mono ?_
  rintro e X ⟨rfl, bX⟩
  have K := K.keep bX
  clear bX x1 x2 x3 x4 HW
  obtain ⟨⟨⟨x1, x2, x3, x4⟩, -⟩, -⟩ := id K
  have hc3 : (d = 0 ∧ c = 0) ∨ (d ≠ 0 ∧ c = -1) ∨ (d ≠ 0 ∧ c = 1) := by rw [← Hc.out]; unfold cmpZ; split <;> (try split) <;> omega
  rcases hc3 with ⟨h0, rfl⟩ | hc3
  · have HQ := Lib.hid (show q = 0 by rw [← Hq.out, h0, Rat.divInt_zero])
    clear h0
    go_wp2_with fail
    refine (rone_any _).mono ?_
    rintro e X1 ⟨rfl, b1⟩
    have K := K.keep b1
    obtain ⟨-, ⟨⟨r1, r2, r3, r4⟩, r5, r6, r7, r8⟩, -, B, -⟩ := id K
    go_wp2_with fail
    exact bodyPost_ret (v := .agg #[.bool false, .string ⟨#[]⟩, .bool (sg 1), .string (mg 1)]) (by simp [results, Tryz.results21, go_sem, r1, r2, r3, r4, r5, r6, r7, r8]) rfl ⟨by rw [HQ.out, ratV_zero], below4s B _ (by omega) _ _ _ _⟩
  · have H0 := Lib.hid (show d ≠ 0 by rcases hc3 with ⟨h, _⟩ | ⟨h, _⟩ <;> exact h)
    rcases hc3 with ⟨-, rfl⟩ | ⟨-, rfl⟩
    all_goals
      go_wp2_with fail
      refine (rlow02_any _ _ n d q L _ H1.out H2.out hL H0.out Hq.out).mono ?_
      rintro e X1 ⟨rfl, b1⟩
      have K := K.keep b1
      obtain ⟨-, ⟨⟨r1, r2, r3, r4⟩, r5, r6, r7, r8⟩, -, B, -⟩ := id K
      unfold ratV
      go_wp2_with fail
      exact bodyPost_ret (v := ratV q) (by simp [results, Tryz.results21, go_sem, r1, r2, r3, r4, r5, r6, r7, r8, ratV]) rfl ⟨rfl, below4s B _ (by omega) _ _ _ _⟩
end Go.Proofs.YtcljkdninmldiaaGreatDoor
