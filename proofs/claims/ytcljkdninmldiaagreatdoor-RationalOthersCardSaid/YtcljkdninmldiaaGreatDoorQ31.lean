/- What rational.isZero, canonical and New return. Condition: the integers have at most 10^7 digits to the base 2^32. What the reference implementation's lowest returns. Condition: at most 10^6 bytes. How rational numbers are compared as values of the program. No condition. -/
import Derived.Test.YtcljkdninmldiaaGreatDoorQ30
import Derived.Test.YtcljkdninmldiaaGreatDoorQ23
import Derived.Test.YtcljkdninmldiaaGreatDoorQ25

namespace Go.Proofs.YtcljkdninmldiaaGreatDoor
open Go.RowKit
set_option linter.unusedSimpArgs false

theorem nbits_zero {n : Nat} : ((nbits n : Nat) : Int) = 0 ↔ n = 0 := by
  constructor
  · intro h
    rcases Nat.eq_zero_or_pos n with h0 | h0
    · exact h0
    · exfalso
      have h1 := nbits_lt n
      have h2 : nbits n = 0 := by omega
      rw [h2] at h1
      simp at h1
      omega
  · rintro rfl; rfl
set_option maxRecDepth 100000 in
theorem isZero_any (v : Value) (z : Int) (k : Nat) (w : World) (h : IsInt v z k) : Calls Tryz.prog 93 #[v] w fun e w' => e = .returned (.bool (decide (z = 0))) ∧ Below w.heap.size w w' := by
  have Hv := Lib.hid h
  obtain ⟨na, sa, rfl, _⟩ := h
  have B0 := below1 w (.cells #[.bool na, .string sa] 23)
  obtain ⟨nb, En⟩ : ∃ nb : Int, Hid (((nbits z.natAbs : Nat) : Int) = nb) := ⟨_, Lib.hid rfl⟩
  have Hd := Lib.hid (show decide (z = 0) = (nb == 0) by
    rw [← En.out]
    have h1 := nbits_zero (n := z.natAbs)
    by_cases h0 : z = 0
    · rw [decide_eq_true h0, h1.2 (by omega)]; rfl
    · rw [decide_eq_false h0, beq_eq_false_iff_ne.2 (fun e => h0 (by have := h1.1 e; omega))])
  rw [Hd.out]
  go_enter Tryz.func93, Tryz.ntmps93
  go_wp2_with fail
  refine (ibits_any _ z k _ Hv.out).mono ?_
  rintro e W1 ⟨rfl, b1⟩
  rw [En.out]
  have B1 := below_more B0 (Nat.le_refl _) b1
  go_wp2
  go_ret
  exact ⟨rfl, B1⟩

set_option maxRecDepth 100000 in
theorem rcanon_any (v : Value) (q : Rat) (k : Nat) (w : World) (h : IsRat v q k) : Calls Tryz.prog 19 #[v] w (RatOut w q) := by
  have Hv := Lib.hid h
  obtain ⟨na, sa, nb, sb, _, _, rfl, _⟩ := h
  have P0 := ResRat.new (w.alloc (.cells #[.bool na, .string sa, .bool nb, .string sb] 25))
  rw [World.size_alloc] at P0
  have B0 := below2 w (.cells #[.bool na, .string sa, .bool nb, .string sb] 25) (.cells #[.bool false, .string ⟨#[]⟩, .bool false, .string ⟨#[]⟩] 25)
  go_enter Tryz.func19, Tryz.ntmps19
  go_wp2_with fail
  refine (upright_any _ q k _ Hv.out).mono ?_
  rintro e W1 ⟨v1, rfl, hup, b1⟩
  go_wp2_with fail
  refine (lowest_any v1 q _ _ hup).mono ?_
  rintro e W2 ⟨rfl, b2⟩
  obtain ⟨⟨r1, r2, r3, r4⟩, r5, r6, r7, r8⟩ := (P0.keep b1).keep b2
  unfold ratV
  go_wp2
  exact bodyPost_ret (v := ratV q) (by simp [results, Tryz.results19, go_sem, r1, r2, r3, r4, ratV]) rfl ⟨rfl, below4s (below_more (below_more B0 (Nat.le_refl _) b1) (Nat.le_refl _) b2) _ (by omega) _ _ _ _⟩

/-- What New and Ratio return, the number and OK. -/
def RatGood (w : World) (q : Rat) (e : Ending) (w' : World) : Prop := e = .returned (.tuple #[ratV q, .int .i64 0]) ∧ Below w.heap.size w w'
def RatFail (w : World) (n : Int) (e : Ending) (w' : World) : Prop := e = .returned (.tuple #[.agg #[.bool false, .string ⟨#[]⟩, .bool false, .string ⟨#[]⟩], .int .i64 n]) ∧ Below w.heap.size w w'
theorem new_some (v1 v2 : Value) (n d : Int) (k : Nat) (w : World) (h1 : IsInt v1 n k) (h2 : IsInt v2 d k) (h0 : d ≠ 0) : Calls Tryz.prog 76 #[v1, v2] w (RatGood w (Rat.divInt n d)) := by
  have H1 := Lib.hid h1
  have H2 := Lib.hid h2
  obtain ⟨na, sa, rfl, _⟩ := h1
  obtain ⟨nb, sb, rfl, _⟩ := h2
  have Hr := Lib.hid (show IsRat (.agg #[.bool na, .string sa, .bool nb, .string sb]) (Rat.divInt n d) k from ⟨na, sa, nb, sb, n, d, rfl, H1.out, H2.out, rfl⟩)
  have Hd := Lib.hid (decide_eq_false h0)
  generalize Rat.divInt n d = q at *
  have S0 := boxes2 w 23 na nb sa sb
  have S1 := keep4a (o := .cells #[.bool false, .string ⟨#[]⟩, .bool false, .string ⟨#[]⟩] 25) S0
  have P0 := ResRat.new ((w.alloc (.cells #[.bool na, .string sa] 23)).alloc (.cells #[.bool nb, .string sb] 23))
  rw [World.size_alloc, World.size_alloc] at P0
  have B0 := below3 w (.cells #[.bool na, .string sa] 23) (.cells #[.bool nb, .string sb] 23) (.cells #[.bool false, .string ⟨#[]⟩, .bool false, .string ⟨#[]⟩] 25)
  go_enter Tryz.func76, Tryz.ntmps76
  go_wp2_with fail
  refine (isZero_any _ d k _ H2.out).mono ?_
  rintro e W1 ⟨rfl, b1⟩
  rw [Hd.out]
  obtain ⟨t1, t2, t3, t4⟩ := keep4 b1 S1
  have P1 := P0.keep b1
  have B1 := below_more B0 (Nat.le_refl _) b1
  clear S0 S1 P0 B0 b1
  go_wp2_with fail
  refine (rcanon_any _ q k _ Hr.out).mono ?_
  rintro e W2 ⟨rfl, b2⟩
  obtain ⟨⟨r1, r2, r3, r4⟩, r5, r6, r7, r8⟩ := P1.keep b2
  unfold ratV
  go_wp2
  exact bodyPost_ret (v := .tuple #[ratV q, .int .i64 0]) (by simp [results, Tryz.results76, go_sem, r1, r2, r3, r4, ratV]) rfl ⟨rfl, below4s (below_more B1 (Nat.le_refl _) b2) _ (by omega) _ _ _ _⟩
theorem new_none (v1 v2 : Value) (n : Int) (k : Nat) (w : World) (h1 : IsInt v1 n k) (h2 : IsInt v2 0 k) : Calls Tryz.prog 76 #[v1, v2] w (RatFail w 9) := by
  have H2 := Lib.hid h2
  obtain ⟨na, sa, rfl, _⟩ := h1
  obtain ⟨nb, sb, rfl, _⟩ := h2
  have P0 := ResRat.new ((w.alloc (.cells #[.bool na, .string sa] 23)).alloc (.cells #[.bool nb, .string sb] 23))
  rw [World.size_alloc, World.size_alloc] at P0
  have B0 := below3 w (.cells #[.bool na, .string sa] 23) (.cells #[.bool nb, .string sb] 23) (.cells #[.bool false, .string ⟨#[]⟩, .bool false, .string ⟨#[]⟩] 25)
  go_enter Tryz.func76, Tryz.ntmps76
  go_wp2_with fail
  refine (isZero_any _ 0 k _ H2.out).mono ?_
  rintro e W1 ⟨rfl, b1⟩
  rw [show decide ((0 : Int) = 0) = true from rfl]
  have B1 := below_more B0 (Nat.le_refl _) b1
  obtain ⟨⟨r1, r2, r3, r4⟩, r5, r6, r7, r8⟩ := P0.keep b1
  clear P0 B0 b1
  go_wp2
  exact bodyPost_ret (v := .tuple #[.agg #[.bool false, .string ⟨#[]⟩, .bool false, .string ⟨#[]⟩], .int .i64 9]) (by simp [results, Tryz.results76, go_sem, r1, r2, r3, r4]) rfl ⟨rfl, below4s B1 _ (by omega) _ _ _ _⟩
end Go.Proofs.YtcljkdninmldiaaGreatDoor

namespace Go.Proofs.YtcljkdninmldiaaGreatDoor
open Go.RowKit
set_option linter.unusedSimpArgs false
set_option linter.unusedVariables false

theorem ResRat.far {W : World} {b : Nat} {a : Addr} (h : ResRat W b) (ha : b ≠ a.block) (u : Value) : ResRat (W.setCell a u) b := by
  refine ⟨h.1.set a ha u, ?_, ?_, ?_, ?_⟩ <;> rw [World.frozen?_setCell]
  · exact h.2.1
  · exact h.2.2.1
  · exact h.2.2.2.1
  · exact h.2.2.2.2
/-- Two integers that came in, and the result's box. -/
def Lw (w W : World) (p : Nat) (g1 g2 : Bool) (s1 s2 : ByteArray) : Prop := Box2 W p g1 s1 ∧ Box2 W (p + 1) g2 s2 ∧ ResRat W (p + 1 + 1) ∧ p + 1 + 1 < W.heap.size ∧ Below w.heap.size w W ∧ w.heap.size ≤ p
theorem Lw.keep {w W W1 : World} {p : Nat} {g1 g2 : Bool} {s1 s2 : ByteArray} (h : Lw w W p g1 g2 s1 s2) (hb : Below W.heap.size W W1) : Lw w W1 p g1 g2 s1 s2 :=
  ⟨h.1.keep hb, h.2.1.keep hb, h.2.2.1.keep hb, Nat.lt_of_lt_of_le h.2.2.2.1 hb.size, below_more h.2.2.2.2.1 (Nat.le_refl _) hb, h.2.2.2.2.2⟩
theorem Lw.drew {w W : World} {p : Nat} {g1 g2 : Bool} {s1 s2 : ByteArray} (h : Lw w W p g1 g2 s1 s2) : Lw w W.drew p g1 g2 s1 s2 := h.keep (Below.refl _ _).drew
theorem Lw.alloc {w W : World} {p : Nat} {g1 g2 : Bool} {s1 s2 : ByteArray} (h : Lw w W p g1 g2 s1 s2) (o : Obj) : Lw w (W.alloc o) p g1 g2 s1 s2 := h.keep (below1 _ _)
theorem Lw.start (w : World) (g1 g2 : Bool) (s1 s2 : ByteArray) : Lw w (((w.alloc (.cells #[.bool g1, .string s1] 23)).alloc (.cells #[.bool g2, .string s2] 23)).alloc (.cells #[.bool false, .string ⟨#[]⟩, .bool false, .string ⟨#[]⟩] 25)) w.heap.size g1 g2 s1 s2 := by
  refine ⟨((Box2.new w _ g1 s1).keep (below1 _ _)).keep (below1 _ _), ?_, ?_, ?_, below3 w _ _ _, Nat.le_refl _⟩
  · have h := (Box2.new (w.alloc (.cells #[.bool g1, .string s1] 23)) 23 g2 s2).keep (below1 _ (.cells #[.bool false, .string ⟨#[]⟩, .bool false, .string ⟨#[]⟩] 25))
    rw [World.size_alloc] at h
    exact h
  · have h := ResRat.new ((w.alloc (.cells #[.bool g1, .string s1] 23)).alloc (.cells #[.bool g2, .string s2] 23))
    rw [World.size_alloc, World.size_alloc] at h
    exact h
  · simp only [World.size_alloc]; omega
theorem Lw.set1 {w W : World} {p : Nat} {g1 g2 : Bool} {s1 s2 : ByteArray} (h : Lw w W p g1 g2 s1 s2) (z : Int) : Lw w ((W.setCell ⟨p, 0, none⟩ (.bool (sg z))).setCell ⟨p, 1, none⟩ (.string (mg z))) p (sg z) g2 (mg z) s2 :=
  ⟨h.1.set, (h.2.1.far (by dsimp only; omega) _).far (by dsimp only; omega) _, (h.2.2.1.far (by dsimp only; omega) _).far (by dsimp only; omega) _, by rw [World.size_setCell, World.size_setCell]; exact h.2.2.2.1, (h.2.2.2.2.1.setCell (by have := h.2.2.2.2.2; dsimp only; omega) _).setCell (by have := h.2.2.2.2.2; dsimp only; omega) _, h.2.2.2.2.2⟩
theorem Lw.set2 {w W : World} {p : Nat} {g1 g2 : Bool} {s1 s2 : ByteArray} (h : Lw w W p g1 g2 s1 s2) (z : Int) : Lw w ((W.setCell ⟨p + 1, 0, none⟩ (.bool (sg z))).setCell ⟨p + 1, 1, none⟩ (.string (mg z))) p g1 (sg z) s1 (mg z) :=
  ⟨(h.1.far (by dsimp only; omega) _).far (by dsimp only; omega) _, h.2.1.set, (h.2.2.1.far (by dsimp only; omega) _).far (by dsimp only; omega) _, by rw [World.size_setCell, World.size_setCell]; exact h.2.2.2.1, (h.2.2.2.2.1.setCell (by have := h.2.2.2.2.2; dsimp only; omega) _).setCell (by have := h.2.2.2.2.2; dsimp only; omega) _, h.2.2.2.2.2⟩
theorem gcd_bd8 {n d : Int} {L : Nat} {g : Int} (h : d.natAbs < 256 ^ L) (h0 : d ≠ 0) (e : ((Nat.gcd n.natAbs d.natAbs : Nat) : Int) = g) : g.natAbs < 256 ^ L := by
  subst e
  rw [Int.natAbs_natCast]
  exact Nat.lt_of_le_of_lt (Nat.gcd_le_right _ (by omega)) h
theorem quot_bd {n g q : Int} {L : Nat} (h : n.natAbs < 256 ^ L) (e : n / g = q) (hg : 0 < g) (hd : g ∣ n) : q.natAbs < 256 ^ L := by
  subst e
  obtain ⟨k, rfl⟩ := hd
  rw [Int.mul_ediv_cancel_left _ (by omega)]
  rw [Int.natAbs_mul] at h
  have h1 : 1 * k.natAbs ≤ g.natAbs * k.natAbs := Nat.mul_le_mul_right _ (by omega)
  omega
theorem qD_exact8 {n g : Int} (hg : 0 < g) : qD n g = n / g := by rw [qD_floor (by omega), floor_divInt hg]
set_option maxRecDepth 100000 in
set_option maxHeartbeats 6400000 in
theorem rlow02_any (v1 v2 : Value) (n d : Int) (q : Rat) (L : Nat) (w : World) (h1 : AI v1 n L) (h2 : AI v2 d L) (hL : L ≤ 10000000) (h0 : d ≠ 0) (e : Rat.divInt n d = q) :
    Calls Tryz.prog 37 #[v1, v2] w (RatOut w q) := by
  have bn := h1.bd
  have bd := h2.bd
  have H1 := Lib.hid h1
  have H2 := Lib.hid h2
  obtain ⟨g1, l1, rfl, -, -⟩ := h1
  obtain ⟨g2, l2, rfl, -, -⟩ := h2
  obtain ⟨n', d', HD, Dn, Dd, He⟩ : ∃ n' d' : Int, Hid (0 < d') ∧ Hid (n'.natAbs < 256 ^ L) ∧ Hid (d'.natAbs < 256 ^ L) ∧ Hid ((d < 0 ∧ -n = n' ∧ -d = d') ∨ (0 < d ∧ n = n' ∧ d = d')) := by
    by_cases hd : d < 0
    · exact ⟨-n, -d, by show 0 < -d; omega, by show _ < _; rw [Int.natAbs_neg]; exact bn, by show _ < _; rw [Int.natAbs_neg]; exact bd, Or.inl ⟨hd, rfl, rfl⟩⟩
    · exact ⟨n, d, by show 0 < d; omega, bn, bd, Or.inr ⟨by omega, rfl, rfl⟩⟩
  have Hq := Lib.hid (show Rat.divInt n' d' = q by
    rcases He.out with ⟨_, a, b⟩ | ⟨_, a, b⟩
    · rw [← a, ← b, Rat.neg_divInt_neg]; exact e
    · rw [← a, ← b]; exact e)
  obtain ⟨g, Hg⟩ : ∃ g : Int, Hid (((Nat.gcd n'.natAbs d'.natAbs : Nat) : Int) = g) := ⟨_, Lib.hid rfl⟩
  have Gp := Lib.hid (show 0 < g by rw [← Hg.out]; exact dv_pos HD.out)
  have Dg := Lib.hid (gcd_bd8 Dd.out (by have := HD.out; omega) Hg.out)
  obtain ⟨a, Ha⟩ : ∃ a : Int, Hid (n' / g = a) := ⟨_, Lib.hid rfl⟩
  obtain ⟨b, Hb⟩ : ∃ b : Int, Hid (d' / g = b) := ⟨_, Lib.hid rfl⟩
  have Da := Lib.hid (quot_bd Dn.out Ha.out Gp.out (by rw [← Hg.out]; exact dv_dvd))
  have Db := Lib.hid (quot_bd Dd.out Hb.out Gp.out (by rw [← Hg.out]; exact dv_dvd'))
  have Qa := Lib.hid (show qD n' g = a by rw [qD_exact8 Gp.out]; exact Ha.out)
  have Qb := Lib.hid (show qD d' g = b by rw [qD_exact8 Gp.out]; exact Hb.out)
  have G0 := Lib.hid (show g ≠ 0 by have := Gp.out; omega)
  have HR := Lib.hid (show ratV q = .agg #[.bool (sg a), .string (mg a), .bool (sg b), .string (mg b)] by
    unfold ratV
    rw [← Hq.out, low_num HD.out, low_den HD.out, Hg.out, Ha.out, Hb.out])
  clear bn bd h0 e
  obtain ⟨W0, hW0⟩ : ∃ W0, W0 = ((w.alloc (.cells #[.bool g1, .string ⟨l1.toArray⟩] 23)).alloc (.cells #[.bool g2, .string ⟨l2.toArray⟩] 23)).alloc (.cells #[.bool false, .string ⟨#[]⟩, .bool false, .string ⟨#[]⟩] 25) := ⟨_, rfl⟩
  have K : Lw w W0 w.heap.size g1 g2 ⟨l1.toArray⟩ ⟨l2.toArray⟩ := by rw [hW0]; exact Lw.start w _ _ _ _
  have HW := Lib.hid hW0
  clear hW0
  go_enter Tryz.func37, Tryz.ntmps37
  go_upto_region 1 with fail
  rw [← HW.out]
  obtain ⟨c, Hc⟩ : ∃ c : Int, Hid (cmpZ d 0 = c) := ⟨_, Lib.hid rfl⟩
  obtain ⟨⟨x1, x2, x3, x4⟩, ⟨y1, y2, y3, y4⟩, ⟨⟨r1, r2, r3, r4⟩, -⟩, -⟩ := id K
  go_wp2_with fail
  refine (rsign_any H2.out hL Hc.out).mono ?_
  rintro e X ⟨rfl, bX⟩
  have K := K.keep bX
  clear bX x1 x2 x3 x4 y1 y2 y3 y4 r1 r2 r3 r4 HW
  go_upto_if 8 with fail
  go_cut [5] (fun s5 wx => ∃ G1 S1 G2 S2, Lw w wx w.heap.size G1 G2 S1 S2 ∧ AI (.agg #[.bool G1, .string S1]) n' L ∧ AI (.agg #[.bool G2, .string S2]) d' L)
  case first =>
    rcases He.out with ⟨hd, ha, hb⟩ | ⟨hd, ha, hb⟩
    · have hc : c = -1 := by rw [← Hc.out]; exact if_pos hd
      subst hc
      have Ea := Lib.hid ha
      have Eb := Lib.hid hb
      clear ha hb hd
      go_upto_region 2 with fail
      have KB := K.drew
      clear K
      obtain ⟨⟨x1, x2, x3, x4⟩, ⟨y1, y2, y3, y4⟩, -⟩ := id KB
      go_region_with (first
        | (go_at_call 59; (first | (with_reducible refine (ai_neg H1.out hL Ea.out).mono ?_) | (with_reducible refine (ai_neg H2.out hL Eb.out).mono ?_)); rintro e X ⟨rfl, bX⟩; have KB := KB.keep bX; obtain ⟨⟨x1, x2, x3, x4⟩, ⟨y1, y2, y3, y4⟩, -⟩ := id KB))
      all_goals go_wp2_with fail
      all_goals go_meet
      all_goals first
        | exact ⟨_, _, _, _, (KB.set1 n').set2 d', ai_mg Dn.out, ai_mg Dd.out⟩
        | exact ⟨_, _, _, _, (KB.set2 d').set1 n', ai_mg Dn.out, ai_mg Dd.out⟩
    · have hc : c = 1 := by rw [← Hc.out]; unfold cmpZ; rw [if_neg (by omega), if_pos hd]
      subst hc ha hb
      clear hd
      go_wp2_with fail
      go_meet
      exact ⟨_, _, _, _, K, H1.out, H2.out⟩
  case rest =>
    obtain ⟨G1, S1, G2, S2, K9, A1, A2⟩ := hcut
    clear K H1 H2 He Hc
    have K := K9
    clear K9
    have J1 := Lib.hid A1
    have J2 := Lib.hid A2
    clear A1 A2
    obtain ⟨⟨x1, x2, x3, x4⟩, ⟨y1, y2, y3, y4⟩, -⟩ := id K
    go_wp2_with fail
    refine (ai_gcd J1.out J2.out hL Hg.out).mono ?_
    rintro e X ⟨rfl, bX⟩
    have K := K.keep bX
    have U := Box2.new X 23 (sg g) (mg g)
    have hu : w.heap.size + 1 + 1 < X.heap.size := K.2.2.2.1
    have K := K.alloc (.cells #[.bool (sg g), .string (mg g)] 23)
    clear bX x1 x2 x3 x4 y1 y2 y3 y4
    go_upto_region 4 with fail
    generalize X.alloc (.cells #[.bool (sg g), .string (mg g)] 23) = X2 at *
    generalize X.heap.size = u at *
    obtain ⟨⟨x1, x2, x3, x4⟩, ⟨y1, y2, y3, y4⟩, -⟩ := id K
    obtain ⟨u1, u2, u3, u4⟩ := id U
    go_wp2_with fail
    refine (ai_div J1.out (ai_mg Dg.out) hL G0.out Qa.out rfl).mono ?_
    rintro e X3 ⟨rfl, b3⟩
    have K := K.keep b3
    have U := U.keep b3
    have K2 := K.set1 a
    have U2 := (U.far (a := ⟨w.heap.size, 0, none⟩) (by dsimp only; omega) (.bool (sg a))).far (a := ⟨w.heap.size, 1, none⟩) (by dsimp only; omega) (.string (mg a))
    clear b3 x1 x2 x3 x4 y1 y2 y3 y4 u1 u2 u3 u4
    obtain ⟨⟨x1, x2, x3, x4⟩, ⟨y1, y2, y3, y4⟩, -⟩ := id K
    obtain ⟨u1, u2, u3, u4⟩ := id U
    go_upto_region 5 with fail
    generalize (X3.setCell ⟨w.heap.size, 0, none⟩ (.bool (sg a))).setCell ⟨w.heap.size, 1, none⟩ (.string (mg a)) = X4 at *
    clear K U x1 x2 x3 x4 y1 y2 y3 y4 u1 u2 u3 u4
    obtain ⟨⟨x1, x2, x3, x4⟩, ⟨y1, y2, y3, y4⟩, -⟩ := id K2
    obtain ⟨u1, u2, u3, u4⟩ := id U2
    go_wp2_with fail
    refine (ai_div J2.out (ai_mg Dg.out) hL G0.out Qb.out rfl).mono ?_
    rintro e X5 ⟨rfl, b5⟩
    have K := K2.keep b5
    have K3 := K.set2 b
    clear b5 x1 x2 x3 x4 y1 y2 y3 y4 u1 u2 u3 u4 U2
    obtain ⟨⟨x1, x2, x3, x4⟩, ⟨y1, y2, y3, y4⟩, -⟩ := id K
    go_upto_region 6 with fail
    generalize (X5.setCell ⟨w.heap.size + 1, 0, none⟩ (.bool (sg b))).setCell ⟨w.heap.size + 1, 1, none⟩ (.string (mg b)) = X6 at *
    clear K K2 x1 x2 x3 x4 y1 y2 y3 y4
    obtain ⟨⟨x1, x2, x3, x4⟩, ⟨y1, y2, y3, y4⟩, ⟨⟨r1, r2, r3, r4⟩, r5, r6, r7, r8⟩, -, B, -⟩ := id K3
    go_wp2_with fail
    exact bodyPost_ret (v := .agg #[.bool (sg a), .string (mg a), .bool (sg b), .string (mg b)]) (by simp [results, Tryz.results37, go_sem, r1, r2, r3, r4, r5, r6, r7, r8]) rfl ⟨by rw [HR.out], below4s B _ (by omega) _ _ _ _⟩
end Go.Proofs.YtcljkdninmldiaaGreatDoor

namespace Go.Proofs.YtcljkdninmldiaaGreatDoor
open Go.RowKit

theorem Tryz.fieldsRat : (Tryz.prog.fieldsOf 25).toList = [{ name := "Num", type := 23, offset := 0, embedded := false, tag := "", pkgPath := "", byteOffset := 0 }, { name := "Den", type := 23, offset := 2, embedded := false, tag := "", pkgPath := "", byteOffset := 24 }] := by kernel_rfl
theorem partR0 (a b : Bool) (s t : ByteArray) (w : World) : (part 23 #[Value.bool a, Value.string s, Value.bool b, Value.string t] 0).run Tryz.prog w = .ok (.agg #[.bool a, .string s]) w := by kernel_rfl
theorem partR1 (a b : Bool) (s t : ByteArray) (w : World) : (part 23 #[Value.bool a, Value.string s, Value.bool b, Value.string t] 2).run Tryz.prog w = .ok (.agg #[.bool b, .string t]) w := by kernel_rfl
theorem eq0' (a b : Bool) (w : World) : (Op.equalIn 9998 4 (.bool a) (.bool b)).run Tryz.prog w = .ok (a == b) w := run_equalIn_bool' w 9997 4 a b Tryz.underlying4
theorem eq1' (a b : ByteArray) (w : World) : (Op.equalIn 9998 9 (.string a) (.string b)).run Tryz.prog w = .ok (a.toList == b.toList) w := run_equalIn_string w 9997 9 a b Tryz.underlying9
set_option maxRecDepth 100000 in
theorem eqInt9 (a b : Bool) (s t : ByteArray) (w : World) : (Op.equalIn 9999 23 (.agg #[.bool a, .string s]) (.agg #[.bool b, .string t])).run Tryz.prog w = .ok (a == b && s.toList == t.toList) w := by
  rw [run_equalIn_agg w 9998 23 _ _ (by kernel_rfl) (by kernel_rfl), Tryz.fieldsInt]
  simp only [Op.eqFields]
  rw [if_pos (by decide)]
  rw [if_pos (by decide)]
  simp only [Sem.run_bind, part0, eq0', Result.andThen]
  cases a == b
  · rfl
  · simp only [Bool.not_true, Bool.true_and, if_neg (show ¬ (false = true) by decide), Sem.run_bind, part1, eq1', Result.andThen]
    cases s.toList == t.toList <;> rfl
/-- Whether two rational numbers are the same values. -/
def sameR (a : Bool) (s : ByteArray) (b : Bool) (t : ByteArray) (a' : Bool) (s' : ByteArray) (b' : Bool) (t' : ByteArray) : Bool := (a == a' && s.toList == s'.toList) && (b == b' && t.toList == t'.toList)
set_option maxRecDepth 100000 in
theorem neqRat (a b a' b' : Bool) (s t s' t' : ByteArray) (w : World) : (binOp .neq 25 (.agg #[.bool a, .string s, .bool b, .string t]) (.agg #[.bool a', .string s', .bool b', .string t'])).run Tryz.prog w = .ok (.bool (!(sameR a s b t a' s' b' t'))) w := by
  rw [run_neq_struct, run_equalIn_agg w 9999 25 _ _ (by kernel_rfl) (by kernel_rfl), Tryz.fieldsRat]
  simp only [Op.eqFields]
  rw [if_pos (by decide)]
  rw [if_pos (by decide)]
  simp only [Sem.run_bind, partR0, eqInt9, Result.andThen]
  unfold sameR
  cases (a == a' && s.toList == s'.toList)
  · rfl
  · simp only [Bool.not_true, Bool.true_and, if_neg (show ¬ (false = true) by decide), Sem.run_bind, partR1, eqInt9, Result.andThen]
    cases (b == b' && t.toList == t'.toList) <;> rfl
set_option maxRecDepth 100000 in
theorem eqlRat (a b a' b' : Bool) (s t s' t' : ByteArray) (w : World) : (binOp .eql 25 (.agg #[.bool a, .string s, .bool b, .string t]) (.agg #[.bool a', .string s', .bool b', .string t'])).run Tryz.prog w = .ok (.bool (sameR a s b t a' s' b' t')) w := by
  rw [run_eql_struct, run_equalIn_agg w 9999 25 _ _ (by kernel_rfl) (by kernel_rfl), Tryz.fieldsRat]
  simp only [Op.eqFields]
  rw [if_pos (by decide)]
  rw [if_pos (by decide)]
  simp only [Sem.run_bind, partR0, eqInt9, Result.andThen]
  unfold sameR
  cases (a == a' && s.toList == s'.toList)
  · rfl
  · simp only [Bool.not_true, Bool.true_and, if_neg (show ¬ (false = true) by decide), Sem.run_bind, partR1, eqInt9, Result.andThen]
    cases (b == b' && t.toList == t'.toList) <;> rfl
theorem guardRat (x y : Operand) (a b a' b' : Bool) (s t s' t' : ByteArray) (w : World) : (eqGuard .neq 25 x y (.agg #[.bool a, .string s, .bool b, .string t]) (.agg #[.bool a', .string s', .bool b', .string t'])).run Tryz.prog w = .ok () w := run_eqGuard_agg w .neq 25 x y _ _ (by kernel_rfl)
theorem guardRat2 (x y : Operand) (a b a' b' : Bool) (s t s' t' : ByteArray) (w : World) : (eqGuard .eql 25 x y (.agg #[.bool a, .string s, .bool b, .string t]) (.agg #[.bool a', .string s', .bool b', .string t'])).run Tryz.prog w = .ok () w := run_eqGuard_agg w .eql 25 x y _ _ (by kernel_rfl)
attribute [go_sem ↓] neqRat eqlRat guardRat guardRat2
/-- Two rational numbers in lowest terms are the same values just if they are equal. -/
theorem mg_inj {x y : Int} (h1 : sg x = sg y) (h2 : (mg x).toList = (mg y).toList) : x = y := by
  have h3 : mg x = mg y := by
    have := toList_eq (mg x) (mg y)
    rw [h2] at this
    simpa using this
  rw [← zv_mg x, ← zv_mg y, h1, h3]
theorem sameR_ratV (p q : Rat) : sameR (sg p.num) (mg p.num) (sg (p.den : Int)) (mg (p.den : Int)) (sg q.num) (mg q.num) (sg (q.den : Int)) (mg (q.den : Int)) = decide (p = q) := by
  by_cases h : p = q
  · subst h; simp [sameR]
  · rw [decide_eq_false h]
    unfold sameR
    rw [Bool.eq_false_iff]
    intro hh
    simp only [Bool.and_eq_true, beq_iff_eq] at hh
    obtain ⟨⟨h1, h2⟩, h3, h4⟩ := hh
    have e1 := mg_inj h1 h2
    have e2 := mg_inj h3 h4
    exact h (Rat.ext e1 (by exact_mod_cast e2))
theorem sameR_self (a b : Bool) (s t : ByteArray) : sameR a s b t a s b t = true := by simp [sameR]
end Go.Proofs.YtcljkdninmldiaaGreatDoor
