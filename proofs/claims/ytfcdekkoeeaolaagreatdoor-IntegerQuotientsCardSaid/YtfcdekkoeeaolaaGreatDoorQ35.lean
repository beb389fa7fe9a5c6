/- The reference implementation's Div by 0; what the law asks before it compares; both implementations' results by the same words. Condition: at most 60 bytes. -/
import Derived.Test.YtfcdekkoeeaolaaGreatDoorQ22
import Derived.Test.YtfcdekkoeeaolaaGreatDoorQ23
import Derived.Test.YtfcdekkoeeaolaaGreatDoorQ25
import Derived.Test.YtfcdekkoeeaolaaGreatDoorQ28
import Derived.Test.YtfcdekkoeeaolaaGreatDoorQ29
import Derived.Test.YtfcdekkoeeaolaaGreatDoorQ30
import Derived.Test.YtfcdekkoeeaolaaGreatDoorQ34

namespace Go.Proofs.YtfcdekkoeeaolaaGreatDoor
open Go.RowKit
set_option linter.unusedSimpArgs false
set_option linter.unusedVariables false

set_option maxRecDepth 100000 in
set_option maxHeartbeats 3200000 in
theorem rdiv01_zero (g1 g2 : Bool) (l1 l2 : List UInt8) (z1 : Int) (w : World) (hl1 : l1.length ≤ 10000000) (hl2 : l2.length ≤ 10000000) (hz1 : zv g1 ⟨l1.toArray⟩ = z1) (hz2 : zv g2 ⟨l2.toArray⟩ = 0) :
    Calls Tryz.prog 17 #[.agg #[.bool g1, .string ⟨l1.toArray⟩], .agg #[.bool g2, .string ⟨l2.toArray⟩]] w fun e w' => e = .returned (.tuple #[.agg #[.bool false, .string ⟨#[]⟩], .agg #[.bool false, .string ⟨#[]⟩], .int .i64 9]) ∧ Below w.heap.size w w' := by
  have Hz1 := Lib.hid hz1
  have Hz2 := Lib.hid hz2
  clear hz1 hz2
  obtain ⟨W0, hW0⟩ : ∃ W0, W0 = (((w.alloc (.cells #[.bool g1, .string ⟨l1.toArray⟩] 23)).alloc (.cells #[.bool g2, .string ⟨l2.toArray⟩] 23)).alloc (.cells #[.bool false, .string ⟨#[]⟩] 23)).alloc (.cells #[.bool false, .string ⟨#[]⟩] 23) := ⟨_, rfl⟩
  have B0 : Below w.heap.size w W0 := by rw [hW0]; exact (below3 w _ _ _).alloc (by simp only [World.size_alloc]; omega) _
  have X0 : Bx4 W0 w.heap.size g1 g2 ⟨l1.toArray⟩ ⟨l2.toArray⟩ := by rw [hW0]; exact Bx4.start w _ _ _ _ _
  have HW := Lib.hid hW0
  clear hW0
  go_enter Tryz.func17, Tryz.ntmps17
  go_upto_region 1 with fail
  rw [← HW.out]
  go_cut [13] (fun s13 wx => Bx4 wx w.heap.size (sg z1) (sg 0) (mg z1) (mg 0) ∧ Below w.heap.size w wx)
  case first =>
    have KB : Bx4 W0.drew w.heap.size g1 g2 ⟨l1.toArray⟩ ⟨l2.toArray⟩ ∧ Below w.heap.size w W0.drew := ⟨X0, B0.drew⟩
    obtain ⟨⟨⟨x1, x2, x3, x4⟩, ⟨y1, y2, y3, y4⟩, -⟩, -⟩ := id X0
    go_region_with (first
      | (go_at_call 65; (first | (with_reducible refine (rcan_eq (by omega) Hz1.out).mono ?_) | (with_reducible refine (rcan_eq (by omega) Hz2.out).mono ?_)); rintro e X ⟨rfl, bX⟩; have KB := And.intro (KB.1.keep bX) (below_more KB.2 (Nat.le_refl _) bX); obtain ⟨⟨⟨x1, x2, x3, x4⟩, ⟨y1, y2, y3, y4⟩, -⟩, -⟩ := id KB.1))
    all_goals go_wp2_with fail
    all_goals go_meet
    all_goals
      have hne : w.heap.size ≠ w.heap.size + 1 := by omega
      have F4 := fun (a b c d : Value) => (((KB.1.2.far (a := ⟨w.heap.size, 0, none⟩) (by dsimp only; omega) a).far (a := ⟨w.heap.size, 1, none⟩) (by dsimp only; omega) b).far (a := ⟨w.heap.size + 1, 0, none⟩) (by dsimp only; omega) c).far (a := ⟨w.heap.size + 1, 1, none⟩) (by dsimp only; omega) d
      exact ⟨⟨⟨((KB.1.1.1.set (g' := sg z1) (s' := mg z1)).far (by dsimp only; omega) _).far (by dsimp only; omega) _, ((KB.1.1.2.1.far (by dsimp only; omega) _).far (by dsimp only; omega) _).set (g' := sg 0) (s' := mg 0), (((KB.1.1.2.2.far (by dsimp only; omega) _).far (by dsimp only; omega) _).far (by dsimp only; omega) _).far (by dsimp only; omega) _⟩, F4 _ _ _ _⟩, (((KB.2.setCell (Nat.le_refl _) _).setCell (Nat.le_refl _) _).setCell (Nat.le_succ _) _).setCell (Nat.le_succ _) _⟩
  case rest =>
    obtain ⟨KX, B⟩ := hcut
    clear X0 B0 HW
    rw [mg_zero9, sg_zero9] at KX
    obtain ⟨⟨⟨x1, x2, x3, x4⟩, ⟨y1, y2, y3, y4⟩, ⟨o1, o2, o3, o4⟩⟩, ⟨p1, p2, p3, p4⟩⟩ := id KX
    go_wp2_with fail
    exact bodyPost_ret (v := .tuple #[.agg #[.bool false, .string ⟨#[]⟩], .agg #[.bool false, .string ⟨#[]⟩], .int .i64 9]) (by simp [results, Tryz.results17, go_sem, o1, o2, o3, o4, p1, p2, p3, p4]) rfl ⟨rfl, (by first | exact ((((B.setCell (by dsimp only; omega) _).setCell (by dsimp only; omega) _).setCell (by dsimp only; omega) _).setCell (by dsimp only; omega) _) | exact B)⟩
theorem root_exists (N m : Nat) (hm : 1 ≤ m) : ∃ R, IsRoot N m R := by
  have h : ∀ k, (∃ R, IsRoot N m R) ∨ k ^ m ≤ N := by
    intro k
    induction k with
    | zero => right; rw [Nat.zero_pow (by omega)]; omega
    | succ k ih =>
      rcases ih with h | h
      · exact Or.inl h
      · rcases Nat.lt_or_ge N ((k + 1) ^ m) with h1 | h1
        · exact Or.inl ⟨k, h, h1⟩
        · exact Or.inr h1
  rcases h (N + 1) with h | h
  · exact h
  · exfalso
    have := rroot_le hm h
    omega
/-- What Div returns, by both. -/
theorem div_both (na nb : Bool) (la lb : List UInt8) (ha : la.length ≤ 60) (hb : lb.length ≤ 60) : ∃ (gq : Bool) (sq : ByteArray) (gr : Bool) (sr : ByteArray) (e : Int),
    (∀ w, Calls Tryz.prog 16 #[.agg #[.bool na, .string ⟨la.toArray⟩], .agg #[.bool nb, .string ⟨lb.toArray⟩]] w fun x w' => x = .returned (.tuple #[.agg #[.bool gq, .string sq], .agg #[.bool gr, .string sr], .int .i64 e]) ∧ Below w.heap.size w w') ∧
    (∀ w, Calls Tryz.prog 17 #[.agg #[.bool na, .string ⟨la.toArray⟩], .agg #[.bool nb, .string ⟨lb.toArray⟩]] w fun x w' => x = .returned (.tuple #[.agg #[.bool gq, .string sq], .agg #[.bool gr, .string sr], .int .i64 e]) ∧ Below w.heap.size w w') := by
  have Ia := arg_int na ⟨la.toArray⟩ ha
  have Ib := arg_int nb ⟨lb.toArray⟩ hb
  by_cases h0 : zv nb ⟨lb.toArray⟩ = 0
  · rw [h0] at Ib
    exact ⟨_, _, _, _, _, fun w => idiv_zero _ _ _ _ _ w Ia Ib, fun w => rdiv01_zero na nb la lb _ w (by omega) (by omega) rfl h0⟩
  · exact ⟨_, _, _, _, _, fun w => idiv_all _ _ _ _ _ _ w Ia Ib h0, fun w => rdiv01_any na nb la lb _ _ w (by omega) (by omega) rfl rfl h0⟩
theorem root_both (na : Bool) (la : List UInt8) (ha : la.length ≤ 60) (n : Int) : ∃ (g : Bool) (s : ByteArray) (e : Int),
    (∀ w, Calls Tryz.prog 18 #[.agg #[.bool na, .string ⟨la.toArray⟩], .int .i64 n] w fun x w' => x = .returned (.tuple #[.agg #[.bool g, .string s], .int .i64 e]) ∧ Below w.heap.size w w') ∧
    (∀ w, Calls Tryz.prog 19 #[.agg #[.bool na, .string ⟨la.toArray⟩], .int .i64 n] w fun x w' => x = .returned (.tuple #[.agg #[.bool g, .string s], .int .i64 e]) ∧ Below w.heap.size w w') := by
  have Ia := arg_int na ⟨la.toArray⟩ ha
  by_cases hx : zv na ⟨la.toArray⟩ < 0 ∨ n < 1 ∨ 4096 < n
  · exact ⟨_, _, _, fun w => iroot_range _ _ _ n w Ia hx, fun w => rroot_range na la _ n w (by omega) rfl hx⟩
  · obtain ⟨m, rfl⟩ : ∃ m : Nat, n = (m : Int) := ⟨n.toNat, by omega⟩
    have hm1 : 1 ≤ m := by omega
    obtain ⟨R, hR⟩ := root_exists (zv na ⟨la.toArray⟩).natAbs m hm1
    refine ⟨_, _, _, fun w => (iroot_any _ _ _ m w Ia (by omega) (by omega) hm1 (by omega)).mono fun _ _ ⟨R2, h2, h3⟩ => ?_, fun w => rroot_any na la _ m R w (by omega) rfl (by omega) hm1 (by omega) hR⟩
    rw [rroot_uniq hm1 h2 hR] at h3
    exact h3
theorem pow_both (na : Bool) (la : List UInt8) (ha : la.length ≤ 60) (n : Int) : ∃ (g : Bool) (s : ByteArray) (e : Int),
    (∀ w, Calls Tryz.prog 20 #[.agg #[.bool na, .string ⟨la.toArray⟩], .int .i64 n] w fun x w' => x = .returned (.tuple #[.agg #[.bool g, .string s], .int .i64 e]) ∧ Below w.heap.size w w') ∧
    (∀ w, Calls Tryz.prog 21 #[.agg #[.bool na, .string ⟨la.toArray⟩], .int .i64 n] w fun x w' => x = .returned (.tuple #[.agg #[.bool g, .string s], .int .i64 e]) ∧ Below w.heap.size w w') := by
  have Ia := arg_int na ⟨la.toArray⟩ ha
  by_cases hx : n < 0 ∨ 4096 < n
  · exact ⟨_, _, _, fun w => ipow_range na ⟨la.toArray⟩ n w hx, fun w => rpow_range na la n w hx⟩
  · obtain ⟨m, rfl⟩ : ∃ m : Nat, n = (m : Int) := ⟨n.toNat, by omega⟩
    by_cases hl : 65536 < m * nbits (zv na ⟨la.toArray⟩).natAbs
    · exact ⟨_, _, _, fun w => ipow_limit _ _ _ m w Ia (by omega) hl, fun w => rpow_limit na la _ m w (by omega) rfl (by omega) hl⟩
    · exact ⟨_, _, _, fun w => ipow_any _ _ _ m w Ia (by omega) (by omega), fun w => rpow_any na la _ m w (by omega) rfl (by omega) (by omega)⟩
theorem gcd_both (na nb : Bool) (la lb : List UInt8) (ha : la.length ≤ 60) (hb : lb.length ≤ 60) : ∃ (g : Bool) (s : ByteArray),
    (∀ w, Calls Tryz.prog 22 #[.agg #[.bool na, .string ⟨la.toArray⟩], .agg #[.bool nb, .string ⟨lb.toArray⟩]] w fun x w' => x = .returned (.agg #[.bool g, .string s]) ∧ Below w.heap.size w w') ∧
    (∀ w, Calls Tryz.prog 23 #[.agg #[.bool na, .string ⟨la.toArray⟩], .agg #[.bool nb, .string ⟨lb.toArray⟩]] w fun x w' => x = .returned (.agg #[.bool g, .string s]) ∧ Below w.heap.size w w') := by
  have Ia := arg_int na ⟨la.toArray⟩ ha
  have Ib := arg_int nb ⟨lb.toArray⟩ hb
  exact ⟨_, _, fun w => gcd_any _ _ _ _ _ _ w Ia Ib, fun w => rgcd01_any na nb la lb _ _ w (by omega) (by omega) rfl rfl⟩
/-- Whether a power is left out. -/
def heavyB (g : Bool) (l : List UInt8) (n : Int) : Bool := decide (0 < n ∧ n ≤ 4096 ∧ 4000 < ((nbits (zv g ⟨l.toArray⟩).natAbs : Nat) : Int) * n ∧ ((nbits (zv g ⟨l.toArray⟩).natAbs : Nat) : Int) * n ≤ 65536)
set_option maxRecDepth 100000 in
set_option maxHeartbeats 3200000 in
theorem heavy_any (g : Bool) (l : List UInt8) (n : Int) (w : World) (hl : l.length ≤ 60) (hn0 : -9223372036854775808 ≤ n) (hn1 : n ≤ 9223372036854775807) : ∃ t : Bool, (t = heavyB g l n) ∧
    Calls Tryz.prog 15 #[.agg #[.bool g, .string ⟨l.toArray⟩], .int .i64 n] w fun e w' => e = .returned (.bool t) ∧ Below w.heap.size w w' := by
  obtain ⟨z, hz⟩ : ∃ z, zv g ⟨l.toArray⟩ = z := ⟨_, rfl⟩
  have hb8 := nbits_bytes_le hz
  obtain ⟨nb, Hnb⟩ : ∃ n : Int, Hid (((nbits z.natAbs : Nat) : Int) = n) := ⟨_, Lib.hid rfl⟩
  have hb9 : 0 ≤ nb ∧ nb ≤ 480 := by have := Hnb.out; omega
  have Hz := Lib.hid hz
  have HB := Lib.hid (show heavyB g l n = decide (0 < n ∧ n ≤ 4096 ∧ 4000 < nb * n ∧ nb * n ≤ 65536) by unfold heavyB; rw [hz, Hnb.out])
  have Hl := Lib.hid (show l.length ≤ 1000000000 by omega)
  have B0 := below1 w (.cells #[.bool g, .string ⟨l.toArray⟩] 23)
  have X0 := Box2.new w 23 g ⟨l.toArray⟩
  clear hz hb8
  by_cases h1 : 0 < n
  · by_cases h2 : n ≤ 4096
    · obtain ⟨P, hP⟩ : ∃ P, nb * n = P := ⟨_, rfl⟩
      have hPb : 0 ≤ P ∧ P ≤ 480 * 4096 := by
        rw [← hP]
        exact ⟨Int.mul_nonneg hb9.1 (by omega), Int.mul_le_mul hb9.2 h2 (by omega) (by omega)⟩
      have hw : IntKind.i64.wrap (nb * n) = P := by rw [hP]; exact IntWalk.i64_in _ (by omega)
      have hd1 : decide (0 < n) = true := decide_eq_true h1
      have hd2 : decide (n ≤ 4096) = true := decide_eq_true h2
      have HP := Lib.hid hP
      clear hP
      by_cases h3 : 4000 < P
      · have hd3 : decide (4000 < P) = true := decide_eq_true h3
        refine ⟨decide (P ≤ 65536), by rw [HB.out, HP.out]; simp [h1, h2, h3], ?_⟩
        go_enter Tryz.func15, Tryz.ntmps15
        obtain ⟨x1, x2, x3, x4⟩ := id X0
        go_wp2_with fail
        refine (rbits_b Hl.out Hz.out Hnb.out).mono ?_
        rintro e W1 ⟨rfl, b1⟩
        obtain ⟨x1, x2, x3, x4⟩ := X0.keep b1
        go_wp2_with fail
        refine (rbits_b Hl.out Hz.out Hnb.out).mono ?_
        rintro e W2 ⟨rfl, b2⟩
        go_wp2_with fail
        go_ret
        exact ⟨rfl, below_more (below_more B0 (Nat.le_refl _) b1) (Nat.le_refl _) b2⟩
      · refine ⟨false, by rw [HB.out, HP.out]; simp [h3], ?_⟩
        go_enter Tryz.func15, Tryz.ntmps15
        obtain ⟨x1, x2, x3, x4⟩ := id X0
        go_wp2_with fail
        refine (rbits_b Hl.out Hz.out Hnb.out).mono ?_
        rintro e W1 ⟨rfl, b1⟩
        go_wp2_with fail
        go_ret
        exact ⟨rfl, below_more B0 (Nat.le_refl _) b1⟩
    · refine ⟨false, by rw [HB.out]; simp [h2], ?_⟩
      have hd1 : decide (0 < n) = true := decide_eq_true h1
      go_enter Tryz.func15, Tryz.ntmps15
      go_wp2_with fail
      go_ret
      exact ⟨rfl, B0⟩
  · refine ⟨false, by rw [HB.out]; simp [h1], ?_⟩
    go_enter Tryz.func15, Tryz.ntmps15
    go_wp2_with fail
    go_ret
    exact ⟨rfl, B0⟩
theorem heavy_all (g : Bool) (l : List UInt8) (n : Int) (hl : l.length ≤ 60) (hn0 : -9223372036854775808 ≤ n) (hn1 : n ≤ 9223372036854775807) : ∃ t : Bool, ∀ w,
    Calls Tryz.prog 15 #[.agg #[.bool g, .string ⟨l.toArray⟩], .int .i64 n] w fun e w' => e = .returned (.bool t) ∧ Below w.heap.size w w' := by
  refine ⟨heavyB g l n, fun w => ?_⟩
  obtain ⟨t, rfl, h⟩ := heavy_any g l n w hl hn0 hn1
  exact h
end Go.Proofs.YtfcdekkoeeaolaaGreatDoor
