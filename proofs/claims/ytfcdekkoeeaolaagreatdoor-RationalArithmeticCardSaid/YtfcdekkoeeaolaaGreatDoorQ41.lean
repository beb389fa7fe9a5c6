/- What the reference implementation's Canonical, Check, New, Of and Ratio of layer 2 return. Condition: at most 10^6 bytes. What the reference implementation's Check, New, Of and Ratio of layer 2 return. Condition: at most 10^6 bytes. What the reference implementation's Ratio, Neg and Floor of layer 2 return; two rational numbers that came in. Condition: at most 10^6 bytes. -/
import Derived.Test.YtfcdekkoeeaolaaGreatDoorQ40

namespace Go.Proofs.YtfcdekkoeeaolaaGreatDoor
open Go.RowKit
set_option linter.unusedSimpArgs false
set_option linter.unusedVariables false

/-- A rational number whose integers have at most L bytes. -/
def AR (v : Value) (q : Rat) (L : Nat) : Prop := ∃ na sa nb sb n d, v = .agg #[.bool na, .string sa, .bool nb, .string sb] ∧ AI (.agg #[.bool na, .string sa]) n L ∧ AI (.agg #[.bool nb, .string sb]) d L ∧ Rat.divInt n d = q
theorem AR.wider {v : Value} {q : Rat} {L M : Nat} (h : AR v q L) (hl : L ≤ M) : AR v q M := by
  obtain ⟨na, sa, nb, sb, n, d, h1, h2, h3, h4⟩ := h
  exact ⟨na, sa, nb, sb, n, d, h1, h2.wider hl, h3.wider hl, h4⟩
/-- Sizes in bytes. -/
def Rb8 (q : Rat) (L : Nat) : Prop := q.num.natAbs < 256 ^ L ∧ q.den < 256 ^ L
theorem ar_ratV {q : Rat} {L : Nat} (h : Rb8 q L) : AR (.agg #[.bool (sg q.num), .string (mg q.num), .bool (sg (q.den : Int)), .string (mg (q.den : Int))]) q L :=
  ⟨_, _, _, _, q.num, (q.den : Int), rfl, ai_mg h.1, ai_mg (by rw [Int.natAbs_natCast]; exact h.2), Rat.num_divInt_den q⟩
theorem Rb8.wider {q : Rat} {L M : Nat} (h : Rb8 q L) (hl : L ≤ M) : Rb8 q M :=
  ⟨Nat.lt_of_lt_of_le h.1 (Nat.pow_le_pow_right (by omega) hl), Nat.lt_of_lt_of_le h.2 (Nat.pow_le_pow_right (by omega) hl)⟩
theorem rb8_divInt {n d : Int} {L : Nat} (hn : n.natAbs < 256 ^ L) (hd : d.natAbs < 256 ^ L) : Rb8 (Rat.divInt n d) (L + 1) := by
  have h1 : 256 ^ L < 256 ^ (L + 1) := Nat.pow_lt_pow_right (by omega) (by omega)
  rcases Int.lt_trichotomy d 0 with h | h | h
  · rw [← Rat.neg_divInt_neg]
    have a := low_num_le (n := -n) (d := -d) (by omega)
    have b := low_den_le (n := -n) (d := -d) (by omega)
    rw [Int.natAbs_neg] at a b
    exact ⟨by omega, by omega⟩
  · subst h
    rw [Rat.divInt_zero]
    exact ⟨by show 0 < _; omega, by show 1 < _; omega⟩
  · have a := low_num_le (n := n) h
    have b := low_den_le (n := n) h
    exact ⟨by omega, by omega⟩
theorem AR.bd {v : Value} {q : Rat} {L : Nat} (h : AR v q L) : Rb8 q (L + 1) := by
  obtain ⟨_, _, _, _, n, d, _, h2, h3, rfl⟩ := h
  exact rb8_divInt h2.bd h3.bd
/-- A rational number in a box of one's own. -/
def BR (W : World) (p : Nat) (g1 : Bool) (s1 : ByteArray) (g2 : Bool) (s2 : ByteArray) : Prop := RIn W p g1 s1 g2 s2 ∧ W.frozen? ⟨p, 0, none⟩ = false ∧ W.frozen? ⟨p, 1, none⟩ = false ∧ W.frozen? ⟨p, 2, none⟩ = false ∧ W.frozen? ⟨p, 3, none⟩ = false
theorem BR.keep {W W1 : World} {p : Nat} {g1 g2 : Bool} {s1 s2 : ByteArray} (h : BR W p g1 s1 g2 s2) (hb : Below W.heap.size W W1) : BR W1 p g1 s1 g2 s2 :=
  ⟨h.1.keep hb, frozen_keep h.1.1 h.2.1 hb, frozen_keep h.1.2.1 h.2.2.1 hb, frozen_keep h.1.2.2.1 h.2.2.2.1 hb, frozen_keep h.1.2.2.2 h.2.2.2.2 hb⟩
theorem BR.new (W : World) (t : TypeId) (g1 g2 : Bool) (s1 s2 : ByteArray) : BR (W.alloc (.cells #[.bool g1, .string s1, .bool g2, .string s2] t)) W.heap.size g1 s1 g2 s2 := by
  refine ⟨⟨?_, ?_, ?_, ?_⟩, ?_, ?_, ?_, ?_⟩ <;> simp [go_sem]
theorem BR.far {W : World} {p : Nat} {g1 g2 : Bool} {s1 s2 : ByteArray} {a : Addr} (h : BR W p g1 s1 g2 s2) (ha : p ≠ a.block) (u : Value) : BR (W.setCell a u) p g1 s1 g2 s2 := by
  refine ⟨h.1.set a ha u, ?_, ?_, ?_, ?_⟩ <;> rw [World.frozen?_setCell]
  · exact h.2.1
  · exact h.2.2.1
  · exact h.2.2.2.1
  · exact h.2.2.2.2
theorem BR.far4 {W : World} {p q : Nat} {g1 g2 : Bool} {s1 s2 : ByteArray} (h : BR W p g1 s1 g2 s2) (ha : p ≠ q) (u1 u2 u3 u4 : Value) : BR ((((W.setCell ⟨q, 0, none⟩ u1).setCell ⟨q, 1, none⟩ u2).setCell ⟨q, 2, none⟩ u3).setCell ⟨q, 3, none⟩ u4) p g1 s1 g2 s2 :=
  (((h.far ha _).far ha _).far ha _).far ha _
theorem ResRat.far4 {W : World} {p q : Nat} (h : ResRat W p) (ha : p ≠ q) (u1 u2 u3 u4 : Value) : ResRat ((((W.setCell ⟨q, 0, none⟩ u1).setCell ⟨q, 1, none⟩ u2).setCell ⟨q, 2, none⟩ u3).setCell ⟨q, 3, none⟩ u4) p :=
  (((h.far ha _).far ha _).far ha _).far ha _
theorem BR.put {W : World} {p : Nat} {g1 g2 g1' g2' : Bool} {s1 s2 s1' s2' : ByteArray} (h : BR W p g1 s1 g2 s2) :
    BR ((((W.setCell ⟨p, 0, none⟩ (.bool g1')).setCell ⟨p, 1, none⟩ (.string s1')).setCell ⟨p, 2, none⟩ (.bool g2')).setCell ⟨p, 3, none⟩ (.string s2')) p g1' s1' g2' s2' := by
  obtain ⟨⟨r1, r2, r3, r4⟩, r5, r6, r7, r8⟩ := h
  refine ⟨⟨?_, ?_, ?_, ?_⟩, ?_, ?_, ?_, ?_⟩ <;> simp [go_sem, r1, r2, r3, r4, r5, r6, r7, r8]
/-- A rational number that came in, and the result's box. -/
def Cw (w W : World) (p : Nat) (g1 g2 : Bool) (s1 s2 : ByteArray) : Prop := BR W p g1 s1 g2 s2 ∧ ResRat W (p + 1) ∧ p + 1 < W.heap.size ∧ Below w.heap.size w W ∧ w.heap.size ≤ p
theorem Cw.keep {w W W1 : World} {p : Nat} {g1 g2 : Bool} {s1 s2 : ByteArray} (h : Cw w W p g1 g2 s1 s2) (hb : Below W.heap.size W W1) : Cw w W1 p g1 g2 s1 s2 :=
  ⟨h.1.keep hb, h.2.1.keep hb, Nat.lt_of_lt_of_le h.2.2.1 hb.size, below_more h.2.2.2.1 (Nat.le_refl _) hb, h.2.2.2.2⟩
theorem Cw.drew {w W : World} {p : Nat} {g1 g2 : Bool} {s1 s2 : ByteArray} (h : Cw w W p g1 g2 s1 s2) : Cw w W.drew p g1 g2 s1 s2 := h.keep (Below.refl _ _).drew
theorem Cw.start (w : World) (g1 g2 : Bool) (s1 s2 : ByteArray) : Cw w ((w.alloc (.cells #[.bool g1, .string s1, .bool g2, .string s2] 36)).alloc (.cells #[.bool false, .string ⟨#[]⟩, .bool false, .string ⟨#[]⟩] 36)) w.heap.size g1 g2 s1 s2 := by
  refine ⟨(BR.new w _ g1 g2 s1 s2).keep (below1 _ _), ?_, ?_, below2 w _ _, Nat.le_refl _⟩
  · have h := ResRat.new (w.alloc (.cells #[.bool g1, .string s1, .bool g2, .string s2] 36))
    rw [World.size_alloc] at h
    exact h
  · simp only [World.size_alloc]; omega
theorem ratV_zero : ratV 0 = .agg #[.bool false, .string ⟨#[]⟩, .bool (sg 1), .string (mg 1)] := by
  unfold ratV
  rw [show (0 : Rat).num = 0 from rfl, sg_zero9, mg_zero9, show (((0 : Rat).den : Nat) : Int) = 1 from rfl]
set_option maxRecDepth 100000 in
set_option maxHeartbeats 6400000 in
theorem rcan02_any (v : Value) (q : Rat) (L : Nat) (w : World) (h : AR v q L) (hL : L ≤ 10000000) : Calls Tryz.prog 93 #[v] w (RatOut w q) := by
  obtain ⟨g1, s1, g2, s2, n, d, rfl, h1, h2, hq⟩ := h
  have H1 := Lib.hid h1
  have H2 := Lib.hid h2
  have Hq := Lib.hid hq
  clear h1 h2 hq
  obtain ⟨W0, hW0⟩ : ∃ W0, W0 = (w.alloc (.cells #[.bool g1, .string s1, .bool g2, .string s2] 36)).alloc (.cells #[.bool false, .string ⟨#[]⟩, .bool false, .string ⟨#[]⟩] 36) := ⟨_, rfl⟩
  have K : Cw w W0 w.heap.size g1 g2 s1 s2 := by rw [hW0]; exact Cw.start w _ _ _ _
  have HW := Lib.hid hW0
  clear hW0
  go_enter Tryz.func93, Tryz.ntmps93
  go_upto_region 1 with fail
  rw [← HW.out]
  obtain ⟨c, Hc⟩ : ∃ c : Int, Hid (cmpZ d 0 = c) := ⟨_, Lib.hid rfl⟩
  obtain ⟨⟨⟨x1, x2, x3, x4⟩, -⟩, -⟩ := id K
  go_wp2_with fail
  refine (rsign_any H2.out hL Hc.out).mono ?_
  rintro e X ⟨rfl, bX⟩
  have K := K.keep bX
  clear bX x1 x2 x3 x4 HW
  obtain ⟨⟨⟨x1, x2, x3, x4⟩, -⟩, -⟩ := id K
  have hc3 : (d = 0 ∧ c = 0) ∨ (d ≠ 0 ∧ c = -1) ∨ (d ≠ 0 ∧ c = 1) := by rw [← Hc.out]; unfold cmpZ; split <;> (try split) <;> omega
  rcases hc3 with ⟨h0, rfl⟩ | hc3
  · have HQ := Lib.hid (show q = 0 by rw [← Hq.out, h0, Rat.divInt_zero])
    clear h0
    go_wp2_with fail
    refine (rone_any _).mono ?_
    rintro e X1 ⟨rfl, b1⟩
    have K := K.keep b1
    obtain ⟨-, ⟨⟨r1, r2, r3, r4⟩, r5, r6, r7, r8⟩, -, B, -⟩ := id K
    go_wp2_with fail
    exact bodyPost_ret (v := .agg #[.bool false, .string ⟨#[]⟩, .bool (sg 1), .string (mg 1)]) (by simp [results, Tryz.results93, go_sem, r1, r2, r3, r4, r5, r6, r7, r8]) rfl ⟨by rw [HQ.out, ratV_zero], below4s B _ (by omega) _ _ _ _⟩
  · have H0 := Lib.hid (show d ≠ 0 by rcases hc3 with ⟨h, _⟩ | ⟨h, _⟩ <;> exact h)
    rcases hc3 with ⟨-, rfl⟩ | ⟨-, rfl⟩
    all_goals
      go_wp2_with fail
      refine (rlow02_any _ _ n d q L _ H1.out H2.out hL H0.out Hq.out).mono ?_
      rintro e X1 ⟨rfl, b1⟩
      have K := K.keep b1
      obtain ⟨-, ⟨⟨r1, r2, r3, r4⟩, r5, r6, r7, r8⟩, -, B, -⟩ := id K
      unfold ratV
      go_wp2_with fail
      exact bodyPost_ret (v := ratV q) (by simp [results, Tryz.results93, go_sem, r1, r2, r3, r4, r5, r6, r7, r8, ratV]) rfl ⟨rfl, below4s B _ (by omega) _ _ _ _⟩
end Go.Proofs.YtfcdekkoeeaolaaGreatDoor

namespace Go.Proofs.YtfcdekkoeeaolaaGreatDoor
open Go.RowKit
set_option linter.unusedSimpArgs false
set_option linter.unusedVariables false

set_option maxRecDepth 100000 in
set_option maxHeartbeats 6400000 in
theorem rchk02_any (na nb : Bool) (sa sb : ByteArray) (q : Rat) (c : Bool) (L : Nat) (w : World) (h : AR (.agg #[.bool na, .string sa, .bool nb, .string sb]) q L) (hL : L ≤ 10000000) (hc : sameR (sg q.num) (mg q.num) (sg (q.den : Int)) (mg (q.den : Int)) na sa nb sb = c) :
    Calls Tryz.prog 33 #[.agg #[.bool na, .string sa, .bool nb, .string sb]] w fun e w' => e = .returned (.int .i64 (if c then 0 else 1)) ∧ Below w.heap.size w w' := by
  have H := Lib.hid h
  have Hc := Lib.hid hc
  clear hc h
  have X0 := BR.new w 36 na nb sa sb
  have B0 := below1 w (.cells #[.bool na, .string sa, .bool nb, .string sb] 36)
  go_enter Tryz.func33, Tryz.ntmps33
  go_upto_region 1 with fail
  generalize w.alloc (.cells #[.bool na, .string sa, .bool nb, .string sb] 36) = W0 at *
  have KB : BR W0.drew w.heap.size na sa nb sb ∧ Below w.heap.size w W0.drew := ⟨X0, B0.drew⟩
  clear X0 B0
  go_cut [6] (fun s6 wx => s6 = .bool (!c) ∧ Below w.heap.size w wx)
  case first =>
    obtain ⟨⟨⟨x1, x2, x3, x4⟩, -⟩, -⟩ := id KB
    go_region_with (first
      | (go_at_call 93; (with_reducible refine (rcan02_any _ q L _ H.out hL).mono ?_); rintro e X ⟨rfl, bX⟩; unfold ratV; have KB := And.intro (KB.1.keep bX) (below_more KB.2 (Nat.le_refl _) bX); obtain ⟨⟨⟨x1, x2, x3, x4⟩, -⟩, -⟩ := id KB))
    all_goals go_wp2_with fail
    all_goals go_meet
    all_goals exact ⟨by rw [Hc.out], KB.2⟩
  case rest =>
    obtain ⟨rfl, B⟩ := hcut
    cases c
    all_goals
      go_wp2_with fail
      go_ret
      exact ⟨rfl, B⟩
set_option maxRecDepth 100000 in
set_option maxHeartbeats 6400000 in
theorem rnew02_any (v1 v2 : Value) (n d : Int) (q : Rat) (L : Nat) (w : World) (h1 : AI v1 n L) (h2 : AI v2 d L) (hL : L ≤ 10000000) (hq : Rat.divInt n d = q) (h0 : d ≠ 0) : Calls Tryz.prog 27 #[v1, v2] w (RatGood w q) := by
  have H1 := Lib.hid h1
  have H2 := Lib.hid h2
  have Hq := Lib.hid hq
  have H0 := Lib.hid h0
  obtain ⟨g1, l1, rfl, -, -⟩ := h1
  obtain ⟨g2, l2, rfl, -, -⟩ := h2
  obtain ⟨W0, hW0⟩ : ∃ W0, W0 = ((w.alloc (.cells #[.bool g1, .string ⟨l1.toArray⟩] 23)).alloc (.cells #[.bool g2, .string ⟨l2.toArray⟩] 23)).alloc (.cells #[.bool false, .string ⟨#[]⟩, .bool false, .string ⟨#[]⟩] 36) := ⟨_, rfl⟩
  have K : Lw w W0 w.heap.size g1 g2 ⟨l1.toArray⟩ ⟨l2.toArray⟩ := by rw [hW0]; exact Lw.start w _ _ _ _
  have HW := Lib.hid hW0
  clear hW0 hq h0
  go_enter Tryz.func27, Tryz.ntmps27
  go_upto_region 1 with fail
  rw [← HW.out]
  obtain ⟨c, Hc⟩ : ∃ c : Int, Hid (cmpZ d 0 = c) := ⟨_, Lib.hid rfl⟩
  obtain ⟨⟨x1, x2, x3, x4⟩, ⟨y1, y2, y3, y4⟩, -⟩ := id K
  go_wp2_with fail
  refine (rsign_any H2.out hL Hc.out).mono ?_
  rintro e X ⟨rfl, bX⟩
  have K := K.keep bX
  clear bX x1 x2 x3 x4 y1 y2 y3 y4 HW
  obtain ⟨⟨x1, x2, x3, x4⟩, ⟨y1, y2, y3, y4⟩, -⟩ := id K
  have hc3 : c = -1 ∨ c = 1 := by have h0 := H0.out; rw [← Hc.out]; unfold cmpZ; split <;> (try split) <;> omega
  rcases hc3 with rfl | rfl
  all_goals
    go_wp2_with fail
    refine (rlow02_any _ _ n d q L _ H1.out H2.out hL H0.out Hq.out).mono ?_
    rintro e X1 ⟨rfl, b1⟩
    have K := K.keep b1
    obtain ⟨-, -, ⟨⟨r1, r2, r3, r4⟩, r5, r6, r7, r8⟩, -, B, -⟩ := id K
    unfold ratV
    go_wp2_with fail
    exact bodyPost_ret (v := .tuple #[ratV q, .int .i64 0]) (by simp [results, Tryz.results27, go_sem, r1, r2, r3, r4, r5, r6, r7, r8, ratV]) rfl ⟨rfl, below4s B _ (by omega) _ _ _ _⟩
set_option maxRecDepth 100000 in
set_option maxHeartbeats 6400000 in
theorem rnew02_none (v1 v2 : Value) (n : Int) (L : Nat) (w : World) (h1 : AI v1 n L) (h2 : AI v2 0 L) (hL : L ≤ 10000000) : Calls Tryz.prog 27 #[v1, v2] w (RatFail w 9) := by
  have H1 := Lib.hid h1
  have H2 := Lib.hid h2
  obtain ⟨g1, l1, rfl, -, -⟩ := h1
  obtain ⟨g2, l2, rfl, -, -⟩ := h2
  obtain ⟨W0, hW0⟩ : ∃ W0, W0 = ((w.alloc (.cells #[.bool g1, .string ⟨l1.toArray⟩] 23)).alloc (.cells #[.bool g2, .string ⟨l2.toArray⟩] 23)).alloc (.cells #[.bool false, .string ⟨#[]⟩, .bool false, .string ⟨#[]⟩] 36) := ⟨_, rfl⟩
  have K : Lw w W0 w.heap.size g1 g2 ⟨l1.toArray⟩ ⟨l2.toArray⟩ := by rw [hW0]; exact Lw.start w _ _ _ _
  have HW := Lib.hid hW0
  clear hW0
  go_enter Tryz.func27, Tryz.ntmps27
  go_upto_region 1 with fail
  rw [← HW.out]
  have Hc : Hid (cmpZ 0 0 = 0) := rfl
  obtain ⟨⟨x1, x2, x3, x4⟩, ⟨y1, y2, y3, y4⟩, -⟩ := id K
  go_wp2_with fail
  refine (rsign_any H2.out hL Hc.out).mono ?_
  rintro e X ⟨rfl, bX⟩
  have K := K.keep bX
  clear bX x1 x2 x3 x4 y1 y2 y3 y4 HW
  obtain ⟨-, -, ⟨⟨r1, r2, r3, r4⟩, r5, r6, r7, r8⟩, -, B, -⟩ := id K
  go_wp2_with fail
  exact bodyPost_ret (v := .tuple #[.agg #[.bool false, .string ⟨#[]⟩, .bool false, .string ⟨#[]⟩], .int .i64 9]) (by simp [results, Tryz.results27, go_sem, r1, r2, r3, r4, r5, r6, r7, r8]) rfl ⟨rfl, below4s B _ (by omega) _ _ _ _⟩
set_option maxRecDepth 100000 in
set_option maxHeartbeats 6400000 in
theorem rof02_any (v1 : Value) (n : Int) (L : Nat) (w : World) (h1 : AI v1 n L) (hL : L + 1 ≤ 10000000) : Calls Tryz.prog 35 #[v1] w (RatOut w (n : Rat)) := by
  have H1 := Lib.hid (h1.wider (Nat.le_succ L))
  have HO := Lib.hid (show AI (.agg #[.bool (sg 1), .string (mg 1)]) 1 (L + 1) from ai_mg (by show 1 < _; exact Nat.one_lt_pow (by omega) (by omega)))
  have Hq := Lib.hid (divInt_one n)
  obtain ⟨q, HQ⟩ : ∃ q : Rat, Hid ((n : Rat) = q) := ⟨_, Lib.hid rfl⟩
  rw [HQ.out] at Hq ⊢
  obtain ⟨g1, l1, rfl, -, -⟩ := h1
  have X0 := (Box2.new w 23 g1 ⟨l1.toArray⟩).keep (below1 _ (.cells #[.bool false, .string ⟨#[]⟩, .bool false, .string ⟨#[]⟩] 36))
  have R0 := ResRat.new (w.alloc (.cells #[.bool g1, .string ⟨l1.toArray⟩] 23))
  rw [World.size_alloc] at R0
  have B0 := below2 w (.cells #[.bool g1, .string ⟨l1.toArray⟩] 23) (.cells #[.bool false, .string ⟨#[]⟩, .bool false, .string ⟨#[]⟩] 36)
  go_enter Tryz.func35, Tryz.ntmps35
  go_upto_region 1 with fail
  generalize (w.alloc (.cells #[.bool g1, .string ⟨l1.toArray⟩] 23)).alloc (.cells #[.bool false, .string ⟨#[]⟩, .bool false, .string ⟨#[]⟩] 36) = W0 at *
  have KB : Box2 W0.drew w.heap.size g1 ⟨l1.toArray⟩ ∧ ResRat W0.drew (w.heap.size + 1) ∧ Below w.heap.size w W0.drew := ⟨X0, R0, B0.drew⟩
  clear X0 R0 B0
  obtain ⟨⟨x1, x2, x3, x4⟩, ⟨⟨r1, r2, r3, r4⟩, r5, r6, r7, r8⟩, -⟩ := id KB
  go_region_with (first
    | (go_at_call 95; (refine (rone_any _).mono ?_); rintro e X ⟨rfl, bX⟩; have KB := And.intro (KB.1.keep bX) (And.intro (KB.2.1.keep bX) (below_more KB.2.2 (Nat.le_refl _) bX)); obtain ⟨⟨x1, x2, x3, x4⟩, ⟨⟨r1, r2, r3, r4⟩, r5, r6, r7, r8⟩, -⟩ := id KB)
    | (go_at_call 91; (refine (rlow02_any _ _ n 1 q (L + 1) _ H1.out HO.out hL (by omega) Hq.out).mono ?_); rintro e X ⟨rfl, bX⟩; unfold ratV; have KB := And.intro (KB.1.keep bX) (And.intro (KB.2.1.keep bX) (below_more KB.2.2 (Nat.le_refl _) bX)); obtain ⟨⟨x1, x2, x3, x4⟩, ⟨⟨r1, r2, r3, r4⟩, r5, r6, r7, r8⟩, -⟩ := id KB))
  all_goals
    go_wp2_with fail
    exact bodyPost_ret (v := ratV q) (by simp [results, Tryz.results35, go_sem, r1, r2, r3, r4, r5, r6, r7, r8, ratV]) rfl ⟨rfl, below4s KB.2.2 _ (by omega) _ _ _ _⟩
end Go.Proofs.YtfcdekkoeeaolaaGreatDoor

namespace Go.Proofs.YtfcdekkoeeaolaaGreatDoor
open Go.RowKit
set_option linter.unusedSimpArgs false
set_option linter.unusedVariables false

theorem mul_b8 {x y z : Int} {L M : Nat} (hx : x.natAbs < 256 ^ L) (hy : y.natAbs < 256 ^ M) (e : x * y = z) : z.natAbs < 256 ^ (L + M) := by
  subst e
  rw [Int.natAbs_mul, Nat.pow_add]
  exact Nat.mul_lt_mul'' hx hy
theorem add_b8 {x y z : Int} {L : Nat} (hx : x.natAbs < 256 ^ L) (hy : y.natAbs < 256 ^ L) (e : x + y = z) : z.natAbs < 256 ^ (L + 1) := by
  subst e
  have := Int.natAbs_add_le x y
  rw [Nat.pow_succ]
  omega
theorem wid_b8 {x : Int} {L M : Nat} (hx : x.natAbs < 256 ^ L) (h : L ≤ M) : x.natAbs < 256 ^ M := Nat.lt_of_lt_of_le hx (Nat.pow_le_pow_right (by omega) h)
theorem ar_num {q : Rat} {L : Nat} (h : Rb8 q L) : AI (.agg #[.bool (sg q.num), .string (mg q.num)]) q.num L := ai_mg h.1
theorem ar_den {q : Rat} {L : Nat} (h : Rb8 q L) : AI (.agg #[.bool (sg (q.den : Int)), .string (mg (q.den : Int))]) (q.den : Int) L := ai_mg (by rw [Int.natAbs_natCast]; exact h.2)
theorem den_b8 {q : Rat} {L : Nat} (h : Rb8 q L) : (q.den : Int).natAbs < 256 ^ L := by rw [Int.natAbs_natCast]; exact h.2
theorem ai_of {n : Int} (h0 : -9223372036854775808 ≤ n) (h1 : n ≤ 9223372036854775807) : AI (.agg #[.bool (sg n), .string (mg n)]) n 8 := ai_mg (by show _ < 18446744073709551616; omega)
set_option maxRecDepth 100000 in
set_option maxHeartbeats 6400000 in
theorem ratio02_any (n d : Int) (q : Rat) (w : World) (hn : -9223372036854775808 ≤ n) (hn' : n ≤ 9223372036854775807) (hd : -9223372036854775808 ≤ d) (hd' : d ≤ 9223372036854775807) (h0 : d ≠ 0) (hq : Rat.divInt n d = q) :
    Calls Tryz.prog 29 #[.int .i64 n, .int .i64 d] w (RatGood w q) := by
  have An := Lib.hid (ai_of hn hn')
  have Ad := Lib.hid (ai_of hd hd')
  have Hq := Lib.hid hq
  have H0 := Lib.hid h0
  have R0 := ResRat.new w
  have B0 := below1 w (.cells #[.bool false, .string ⟨#[]⟩, .bool false, .string ⟨#[]⟩] 36)
  clear hq h0
  go_enter Tryz.func29, Tryz.ntmps29
  go_wp2_with fail
  refine (rof01_any n _ hn hn').mono ?_
  rintro e X1 ⟨rfl, b1⟩
  go_wp2_with fail
  refine (rof01_any d _ hd hd').mono ?_
  rintro e X2 ⟨rfl, b2⟩
  go_wp2_with fail
  refine (rnew02_any _ _ n d q 8 _ An.out Ad.out (by omega) Hq.out H0.out).mono ?_
  rintro e X3 ⟨rfl, b3⟩
  unfold ratV
  have B := below_more (below_more (below_more B0 (Nat.le_refl _) b1) (Nat.le_refl _) b2) (Nat.le_refl _) b3
  obtain ⟨⟨r1, r2, r3, r4⟩, r5, r6, r7, r8⟩ := ((R0.keep b1).keep b2).keep b3
  go_wp2_with fail
  exact bodyPost_ret (v := .tuple #[ratV q, .int .i64 0]) (by simp [results, Tryz.results29, go_sem, r1, r2, r3, r4, r5, r6, r7, r8, ratV]) rfl ⟨rfl, below4s B _ (by omega) _ _ _ _⟩
set_option maxRecDepth 100000 in
set_option maxHeartbeats 6400000 in
theorem ratio02_none (n : Int) (w : World) (hn : -9223372036854775808 ≤ n) (hn' : n ≤ 9223372036854775807) :
    Calls Tryz.prog 29 #[.int .i64 n, .int .i64 0] w (RatFail w 9) := by
  have An := Lib.hid (ai_of hn hn')
  have Ad := Lib.hid (ai_of (n := 0) (by omega) (by omega))
  have R0 := ResRat.new w
  have B0 := below1 w (.cells #[.bool false, .string ⟨#[]⟩, .bool false, .string ⟨#[]⟩] 36)
  go_enter Tryz.func29, Tryz.ntmps29
  go_wp2_with fail
  refine (rof01_any n _ hn hn').mono ?_
  rintro e X1 ⟨rfl, b1⟩
  go_wp2_with fail
  refine (rof01_any 0 _ (by omega) (by omega)).mono ?_
  rintro e X2 ⟨rfl, b2⟩
  go_wp2_with fail
  refine (rnew02_none _ _ n 8 _ An.out Ad.out (by omega)).mono ?_
  rintro e X3 ⟨rfl, b3⟩
  have B := below_more (below_more (below_more B0 (Nat.le_refl _) b1) (Nat.le_refl _) b2) (Nat.le_refl _) b3
  obtain ⟨⟨r1, r2, r3, r4⟩, r5, r6, r7, r8⟩ := ((R0.keep b1).keep b2).keep b3
  go_wp2_with fail
  exact bodyPost_ret (v := .tuple #[.agg #[.bool false, .string ⟨#[]⟩, .bool false, .string ⟨#[]⟩], .int .i64 9]) (by simp [results, Tryz.results29, go_sem, r1, r2, r3, r4, r5, r6, r7, r8]) rfl ⟨rfl, below4s B _ (by omega) _ _ _ _⟩
theorem Cw.put {w W : World} {p : Nat} {g1 g2 : Bool} {s1 s2 : ByteArray} (h : Cw w W p g1 g2 s1 s2) (g1' g2' : Bool) (s1' s2' : ByteArray) :
    Cw w ((((W.setCell ⟨p, 0, none⟩ (.bool g1')).setCell ⟨p, 1, none⟩ (.string s1')).setCell ⟨p, 2, none⟩ (.bool g2')).setCell ⟨p, 3, none⟩ (.string s2')) p g1' g2' s1' s2' :=
  ⟨h.1.put, h.2.1.far4 (by omega) _ _ _ _, by simp only [World.size_setCell]; exact h.2.2.1, below4s h.2.2.2.1 _ h.2.2.2.2 _ _ _ _, h.2.2.2.2⟩
set_option maxRecDepth 100000 in
set_option maxHeartbeats 6400000 in
theorem rneg02_any (v : Value) (q r : Rat) (L : Nat) (w : World) (h : AR v q L) (hL : L ≤ 1000000) (hr : -q = r) : Calls Tryz.prog 43 #[v] w (RatOut w r) := by
  have H := Lib.hid h
  have Q := Lib.hid h.bd
  obtain ⟨n, Hn⟩ : ∃ n : Int, Hid (-q.num = n) := ⟨_, Lib.hid rfl⟩
  have HR := Lib.hid (show ratV r = .agg #[.bool (sg n), .string (mg n), .bool (sg (q.den : Int)), .string (mg (q.den : Int))] by
    subst hr
    unfold ratV
    rw [show (-q).num = -q.num from rfl, show (-q).den = q.den from rfl, Hn.out])
  obtain ⟨g1, s1, g2, s2, _, _, rfl, -, -, -⟩ := h
  clear hr
  obtain ⟨W0, hW0⟩ : ∃ W0, W0 = (w.alloc (.cells #[.bool g1, .string s1, .bool g2, .string s2] 36)).alloc (.cells #[.bool false, .string ⟨#[]⟩, .bool false, .string ⟨#[]⟩] 36) := ⟨_, rfl⟩
  have K : Cw w W0 w.heap.size g1 g2 s1 s2 := by rw [hW0]; exact Cw.start w _ _ _ _
  have HW := Lib.hid hW0
  clear hW0
  go_enter Tryz.func43, Tryz.ntmps43
  go_upto_region 1 with fail
  rw [← HW.out]
  obtain ⟨⟨⟨x1, x2, x3, x4⟩, x5, x6, x7, x8⟩, -⟩ := id K
  go_wp2_with fail
  refine (rcan02_any _ q L _ H.out (by omega)).mono ?_
  rintro e X ⟨rfl, bX⟩
  unfold ratV
  have K := K.keep bX
  have K2 := K.put (sg q.num) (sg (q.den : Int)) (mg q.num) (mg (q.den : Int))
  clear bX x1 x2 x3 x4 x5 x6 x7 x8 HW
  obtain ⟨⟨⟨x1, x2, x3, x4⟩, x5, x6, x7, x8⟩, -⟩ := id K
  go_upto_region 2 with fail
  generalize (((X.setCell ⟨w.heap.size, 0, none⟩ (.bool (sg q.num))).setCell ⟨w.heap.size, 1, none⟩ (.string (mg q.num))).setCell ⟨w.heap.size, 2, none⟩ (.bool (sg (q.den : Int)))).setCell ⟨w.heap.size, 3, none⟩ (.string (mg (q.den : Int))) = X2 at *
  clear K x1 x2 x3 x4 x5 x6 x7 x8
  have KB := K2.drew
  obtain ⟨⟨⟨x1, x2, x3, x4⟩, -⟩, ⟨⟨r1, r2, r3, r4⟩, r5, r6, r7, r8⟩, -⟩ := id KB
  go_region_with (first
    | (go_at_call 72; (refine (ai_neg (ar_num Q.out) (by omega) Hn.out).mono ?_); rintro e X ⟨rfl, bX⟩; have KB := KB.keep bX; obtain ⟨⟨⟨x1, x2, x3, x4⟩, -⟩, ⟨⟨r1, r2, r3, r4⟩, r5, r6, r7, r8⟩, -⟩ := id KB))
  all_goals
    go_wp2_with fail
    exact bodyPost_ret (v := .agg #[.bool (sg n), .string (mg n), .bool (sg (q.den : Int)), .string (mg (q.den : Int))]) (by simp [results, Tryz.results43, go_sem, r1, r2, r3, r4, r5, r6, r7, r8]) rfl ⟨by rw [HR.out], below4s KB.2.2.2.1 _ (by omega) _ _ _ _⟩
end Go.Proofs.YtfcdekkoeeaolaaGreatDoor
