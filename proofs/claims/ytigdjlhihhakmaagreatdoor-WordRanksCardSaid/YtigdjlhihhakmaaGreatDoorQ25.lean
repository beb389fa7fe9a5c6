/- What word.unrank and word.Unrank return for words of at most 30 letters. Condition: so many letters, or an error. What word.Unrank returns for words of at most 30 letters. Condition: so many letters, or an error. -/
import Derived.Test.YtigdjlhihhakmaaGreatDoorQ24
import Derived.Test.YtigdjlhihhakmaaGreatDoorQ13

namespace Go.Proofs.YtigdjlhihhakmaaGreatDoor
open Go.RowKit
set_option linter.unusedSimpArgs false
set_option linter.unusedVariables false

theorem AS.box (w : World) (z : Int) : AS w w.heap.size z (w.alloc (.cells #[.bool (sg z), .string (mg z)] 23)) := ⟨⟨below1 w _, by rw [World.size_alloc]; omega⟩, cell_two0 _ _ _ _, cell_two1 _ _ _ _⟩
/-- A string that is returned. -/
def StrOut (w : World) (l : List UInt8) (e : Ending) (w' : World) : Prop := e = .returned (.string ⟨l.toArray⟩) ∧ Below w.heap.size w w'
set_option maxRecDepth 100000 in
set_option maxHeartbeats 3200000 in
theorem unrank_short (q n z : Nat) (w : World) (q1 : 1 ≤ q) (q2 : q ≤ 16) (hn : n ≤ 15) (hz : z < q ^ n) :
    Calls Tryz.prog 33 #[.int .i64 (q : Int), .int .i64 (n : Int), .agg #[.bool (sg (z : Int)), .string (mg (z : Int))]] w (StrOut w (unrk q n z)) := by
  have hz2 : z < 1152921504606846976 := Nat.lt_of_lt_of_le hz (pow15 q2 hn)
  have I := isInt_lt (k := 2) q2 hz (by omega) (by omega)
  have HS := Lib.hid (fun W => small_any _ _ 2 W I)
  simp only [if_pos (show fitsInt (z : Int) from ⟨by omega, by omega⟩)] at HS
  have HU := Lib.hid (fun W => shortUnrank_any q n z W q1 q2 hn hz2)
  obtain ⟨R, hR⟩ : ∃ R, unrk q n z = R := ⟨_, rfl⟩
  obtain ⟨x, hx⟩ : ∃ x : Int, (z : Int) = x := ⟨_, rfl⟩
  simp only [hR] at HU
  simp only [hx] at HS HU
  rw [hR, hx]
  clear hx hR hz I hz2
  have K := AS.box w x
  obtain ⟨x1, x2⟩ := K.cells
  go_enter Tryz.func33, Tryz.ntmps33
  go_wp2_with (first
    | (go_at_call 69; (with_reducible refine (HS.out _).mono ?_); rintro e W1 ⟨rfl, b1⟩)
    | (go_at_call 70; (with_reducible refine (HU.out _).mono ?_); rintro e W2 ⟨rfl, b2⟩))
  go_ret
  exact ⟨rfl, below_more (K.keep b1).below (Nat.le_refl _) b2⟩
theorem qD_nat (a b : Nat) : qD (a : Int) (b : Int) = ((a / b : Nat) : Int) := by
  unfold qD
  have h1 : sg (a : Int) = false := by unfold sg; exact decide_eq_false (by omega)
  have h2 : sg (b : Int) = false := by unfold sg; exact decide_eq_false (by omega)
  rw [h1, h2, Int.natAbs_natCast, Int.natAbs_natCast]; simp [dq]
theorem rD_nat (a b : Nat) : rD (a : Int) (b : Int) = ((a % b : Nat) : Int) := by
  unfold rD
  have h1 : sg (a : Int) = false := by unfold sg; exact decide_eq_false (by omega)
  have h2 : sg (b : Int) = false := by unfold sg; exact decide_eq_false (by omega)
  rw [h1, h2, Int.natAbs_natCast, Int.natAbs_natCast]; simp [dr]
/-- What two calls leave: two variables of integers. -/
def A2 (w : World) (p q : Nat) (x y : Int) (W : World) : Prop := Below w.heap.size w W ∧ BVar W p x ∧ BVar W q y
theorem A2.keep {w W X : World} {p q : Nat} {x y : Int} (h : A2 w p q x y W) (b : Below W.heap.size W X) : A2 w p q x y X := ⟨below_more h.1 (Nat.le_refl _) b, h.2.1.keep b, h.2.2.keep b⟩
theorem A2.drew {w W : World} {p q : Nat} {x y : Int} (h : A2 w p q x y W) : A2 w p q x y W.drew := h.keep (Below.refl _ _).drew
theorem A2.cells {w W : World} {p q : Nat} {x y : Int} (h : A2 w p q x y W) : W.cell? ⟨p, 0, none⟩ = some (.bool (sg x)) ∧ W.cell? ⟨p, 1, none⟩ = some (.string (mg x)) ∧ W.cell? ⟨q, 0, none⟩ = some (.bool (sg y)) ∧ W.cell? ⟨q, 1, none⟩ = some (.string (mg y)) := ⟨h.2.1.1, h.2.1.2, h.2.2.1, h.2.2.2⟩
set_option maxRecDepth 100000 in
set_option maxHeartbeats 12800000 in
theorem unrank_mid (q n a : Nat) (w : World) (q1 : 1 ≤ q) (q2 : q ≤ 16) (hn0 : 15 < n) (hn : n ≤ 30) (hz : a < q ^ n) :
    Calls Tryz.prog 33 #[.int .i64 (q : Int), .int .i64 (n : Int), .agg #[.bool (sg (a : Int)), .string (mg (a : Int))]] w (StrOut w (unrk q n a)) := by
  have hq : Int.tdiv (n : Int) 2 = ((n / 2 : Nat) : Int) := by rw [Int.tdiv_eq_ediv_of_nonneg (by omega)]; rfl
  obtain ⟨h, hh⟩ : ∃ h, n / 2 = h := ⟨_, rfl⟩
  rw [hh] at hq
  obtain ⟨n2, hn2⟩ : ∃ n2, n - h = n2 := ⟨_, rfl⟩
  have hsum : h + n2 = n := by omega
  have hh15 : h ≤ 15 := by omega
  have hn15 : n2 ≤ 15 := by omega
  have HP := Lib.hid (power_any q q1 q2 n2 (by omega))
  have hp0 : 0 < q ^ n2 := Nat.pow_pos (by omega)
  have I1 := isInt_lt (k := 4) q2 hz (by omega) (by omega)
  have I2 := isInt_pow (n := n2) (k := 2) q2 (by omega) (by omega) (by omega) (by omega)
  have HD := Lib.hid (fun W => idiv_all _ _ _ _ 4 2 W I1 I2 (by omega))
  simp only [qD_nat, rD_nat] at HD
  have ha1 : a / q ^ n2 < q ^ h := Nat.div_lt_of_lt_mul (by rw [← Nat.pow_add, Nat.add_comm, hsum]; exact hz)
  have ha2 : a % q ^ n2 < q ^ n2 := Nat.mod_lt _ hp0
  have HU1 := Lib.hid (fun W => unrank_short q h _ W q1 q2 hh15 ha1)
  have HU2 := Lib.hid (fun W => unrank_short q n2 _ W q1 q2 hn15 ha2)
  have hadd := unrk_add q h n2 a
  rw [hsum] at hadd
  have l1 := unrk_len q h (a / q ^ n2)
  have l2 := unrk_len q n2 (a % q ^ n2)
  rw [hadd]
  obtain ⟨U, hU⟩ : ∃ U, unrk q h (a / q ^ n2) = U := ⟨_, rfl⟩
  obtain ⟨V, hV⟩ : ∃ V, unrk q n2 (a % q ^ n2) = V := ⟨_, rfl⟩
  obtain ⟨x, hx⟩ : ∃ x : Int, ((a / q ^ n2 : Nat) : Int) = x := ⟨_, rfl⟩
  obtain ⟨y, hy⟩ : ∃ y : Int, ((a % q ^ n2 : Nat) : Int) = y := ⟨_, rfl⟩
  obtain ⟨p, hp⟩ : ∃ p : Int, ((q ^ n2 : Nat) : Int) = p := ⟨_, rfl⟩
  obtain ⟨z, hzz⟩ : ∃ z : Int, (a : Int) = z := ⟨_, rfl⟩
  simp only [hU, hx] at HU1
  simp only [hV, hy] at HU2
  simp only [hx, hy, hp, hzz] at HD
  simp only [hp] at HP
  rw [hU, hV, hzz]
  rw [hU] at l1
  rw [hV] at l2
  obtain ⟨T, hT⟩ : ∃ T, U ++ V = T := ⟨_, rfl⟩
  have hs1 : ∀ w, (Op.stringOp .add ⟨U.toArray⟩ ⟨V.toArray⟩).run Tryz.prog w = .ok (.string ⟨T.toArray⟩) w := fun w => by
    rw [← hT]; exact run_string_add_lists w U V (by omega) (by omega)
  have hw1 : IntKind.i64.wrap ((n : Int) - (h : Int)) = (n2 : Int) := by rw [IntKind.wrap_i64]; omega
  have hw2 : IntKind.i64.wrap (n2 : Int) = (n2 : Int) := by rw [IntKind.wrap_i64]; omega
  have hw3 : IntKind.i64.wrap (h : Int) = (h : Int) := by rw [IntKind.wrap_i64]; omega
  have hsub : (n : Int) - (h : Int) = (n2 : Int) := by omega
  rw [hT]
  have HTL := Lib.hid (show T.length = n by rw [← hT, List.length_append]; omega)
  clear hU hV hx hy hp hzz hT hadd I1 I2 ha1 ha2 hp0 hz l1 l2 hh hn2
  have K := AS.box w z
  have hmx : Tryz.prog.follows .mixedOrders = true := by kernel_rfl
  go_enter Tryz.func33, Tryz.ntmps33
  go_upto_region 5 with fail
  have KB := K.drew
  clear K
  generalize decide ((n : Int) ≤ 15) = D0
  refine region_inv' (J := (fun L a wx => ∃ u27 u28 u29 u30 u31 u32 u33 u26 u34 u35 u36 u10 u11 u12, a = { tmps := #[.int .i64 (q : Int), .int .i64 (n : Int), .agg #[.bool (sg z), .string (mg z)], undef, undef, .pointer (some ⟨w.heap.size, 0, none⟩), .string ⟨#[]⟩, undef, undef, .int .i64 (h : Int), u10, u11, u12, .int .i64 (n : Int), .bool D0, undef, undef, undef, undef, undef, undef, undef, undef, undef, .int .i64 (n : Int), .int .i64 (h : Int), u26, u27, u28, u29, u30, u31, u32, u33, u34, u35, u36, undef, undef, undef, undef, undef, undef, undef, undef, undef, undef, undef], defers := [] } ∧ AS w w.heap.size z wx ∧
      (L.getD 0 false = true → u27 = .agg #[.bool (sg z), .string (mg z)]) ∧ (L.getD 1 false = true → u28 = .int .i64 (q : Int)) ∧ (L.getD 2 false = true → u29 = .int .i64 (n : Int)) ∧ (L.getD 3 false = true → u30 = .int .i64 (h : Int)) ∧ (L.getD 4 false = true → u31 = .int .i64 (n2 : Int)) ∧ (L.getD 5 false = true → u32 = .agg #[.bool (sg p), .string (mg p)]) ∧ (L.getD 6 false = true → u33 = .tuple #[.agg #[.bool (sg x), .string (mg x)], .agg #[.bool (sg y), .string (mg y)], .int .i64 0]) ∧ (L.getD 7 false = true → u26 = .tuple #[.agg #[.bool (sg x), .string (mg x)], .agg #[.bool (sg y), .string (mg y)], .int .i64 0]) ∧ (L.getD 8 false = true → u34 = .agg #[.bool (sg x), .string (mg x)]) ∧ (L.getD 9 false = true → u35 = .agg #[.bool (sg y), .string (mg y)]) ∧ (L.getD 10 false = true → u36 = .int .i64 0) ∧ (L.getD 15 false = true → u12 = .int .i64 0) ∧ (L.getD 11 false = true → SlW (w.heap.size + 1) (x) (L.getD 13 false = true) u10 wx) ∧ (L.getD 12 false = true → SlW (w.heap.size + 1) (y) (L.getD 14 false = true) u11 wx) ∧ (L.getD 11 false = true → L.getD 12 false = true → u10 ≠ u11) ∧ (L.getD 13 false = true → L.getD 11 false = true) ∧ (L.getD 14 false = true → L.getD 12 false = true))) hmx (by kernel_rfl) ?_ ?_ ?_
  · exact ⟨undef, undef, undef, undef, undef, undef, undef, undef, undef, undef, undef, undef, undef, undef, rfl, KB, fun h => absurd h (by decide), fun h => absurd h (by decide), fun h => absurd h (by decide), fun h => absurd h (by decide), fun h => absurd h (by decide), fun h => absurd h (by decide), fun h => absurd h (by decide), fun h => absurd h (by decide), fun h => absurd h (by decide), fun h => absurd h (by decide), fun h => absurd h (by decide), fun h => absurd h (by decide), fun h => absurd h (by decide), fun h => absurd h (by decide), fun h _ => absurd h (by decide), fun h => absurd h (by decide), fun h => absurd h (by decide)⟩
  · intro i hi L a wx hl hw ⟨u27, u28, u29, u30, u31, u32, u33, u26, u34, u35, u36, u10, u11, u12, ha, lo, c0, c1, c2, c3, c4, c5, c6, c7, c8, c9, c10, c15, s11, s12, d11_12, k13, k14⟩
    subst ha
    obtain ⟨x1, x2⟩ := lo.cells
    clear KB
    have hi' : i = 0 ∨ i = 1 ∨ i = 2 ∨ i = 3 ∨ i = 4 ∨ i = 5 ∨ i = 6 ∨ i = 7 ∨ i = 8 ∨ i = 9 ∨ i = 10 ∨ i = 11 ∨ i = 12 ∨ i = 13 ∨ i = 14 ∨ i = 15 := by
      have : i < 16 := hi
      omega
    rcases hi' with rfl | rfl | rfl | rfl | rfl | rfl | rfl | rfl | rfl | rfl | rfl | rfl | rfl | rfl | rfl | rfl
    · refine stepJ (i := 0) rfl (fun K hK => ?_)
      go_simp
      refine hK.out _ _ ⟨_, u28, u29, u30, u31, u32, u33, u26, u34, u35, u36, u10, u11, u12, rfl, lo, fun _ => rfl, fun h => c1 (fl (by decide) h), fun h => c2 (fl (by decide) h), fun h => c3 (fl (by decide) h), fun h => c4 (fl (by decide) h), fun h => c5 (fl (by decide) h), fun h => c6 (fl (by decide) h), fun h => c7 (fl (by decide) h), fun h => c8 (fl (by decide) h), fun h => c9 (fl (by decide) h), fun h => c10 (fl (by decide) h), fun h => c15 (fl (by decide) h), fun h => ((s11 (fl (by decide) h)).imp (fl (by decide))), fun h => ((s12 (fl (by decide) h)).imp (fl (by decide))), fun h h' => d11_12 (fl (by decide) h) (fl (by decide) h'), fun h => getD_set_true (k13 (fl (by decide) h)), fun h => getD_set_true (k14 (fl (by decide) h))⟩
    · refine stepJ (i := 1) rfl (fun K hK => ?_)
      go_simp
      refine hK.out _ _ ⟨u27, _, u29, u30, u31, u32, u33, u26, u34, u35, u36, u10, u11, u12, rfl, lo, fun h => c0 (fl (by decide) h), fun _ => rfl, fun h => c2 (fl (by decide) h), fun h => c3 (fl (by decide) h), fun h => c4 (fl (by decide) h), fun h => c5 (fl (by decide) h), fun h => c6 (fl (by decide) h), fun h => c7 (fl (by decide) h), fun h => c8 (fl (by decide) h), fun h => c9 (fl (by decide) h), fun h => c10 (fl (by decide) h), fun h => c15 (fl (by decide) h), fun h => ((s11 (fl (by decide) h)).imp (fl (by decide))), fun h => ((s12 (fl (by decide) h)).imp (fl (by decide))), fun h h' => d11_12 (fl (by decide) h) (fl (by decide) h'), fun h => getD_set_true (k13 (fl (by decide) h)), fun h => getD_set_true (k14 (fl (by decide) h))⟩
    · refine stepJ (i := 2) rfl (fun K hK => ?_)
      go_simp
      refine hK.out _ _ ⟨u27, u28, _, u30, u31, u32, u33, u26, u34, u35, u36, u10, u11, u12, rfl, lo, fun h => c0 (fl (by decide) h), fun h => c1 (fl (by decide) h), fun _ => rfl, fun h => c3 (fl (by decide) h), fun h => c4 (fl (by decide) h), fun h => c5 (fl (by decide) h), fun h => c6 (fl (by decide) h), fun h => c7 (fl (by decide) h), fun h => c8 (fl (by decide) h), fun h => c9 (fl (by decide) h), fun h => c10 (fl (by decide) h), fun h => c15 (fl (by decide) h), fun h => ((s11 (fl (by decide) h)).imp (fl (by decide))), fun h => ((s12 (fl (by decide) h)).imp (fl (by decide))), fun h h' => d11_12 (fl (by decide) h) (fl (by decide) h'), fun h => getD_set_true (k13 (fl (by decide) h)), fun h => getD_set_true (k14 (fl (by decide) h))⟩
    · refine stepJ (i := 3) rfl (fun K hK => ?_)
      go_simp
      refine hK.out _ _ ⟨u27, u28, u29, _, u31, u32, u33, u26, u34, u35, u36, u10, u11, u12, rfl, lo, fun h => c0 (fl (by decide) h), fun h => c1 (fl (by decide) h), fun h => c2 (fl (by decide) h), fun _ => rfl, fun h => c4 (fl (by decide) h), fun h => c5 (fl (by decide) h), fun h => c6 (fl (by decide) h), fun h => c7 (fl (by decide) h), fun h => c8 (fl (by decide) h), fun h => c9 (fl (by decide) h), fun h => c10 (fl (by decide) h), fun h => c15 (fl (by decide) h), fun h => ((s11 (fl (by decide) h)).imp (fl (by decide))), fun h => ((s12 (fl (by decide) h)).imp (fl (by decide))), fun h h' => d11_12 (fl (by decide) h) (fl (by decide) h'), fun h => getD_set_true (k13 (fl (by decide) h)), fun h => getD_set_true (k14 (fl (by decide) h))⟩
    · refine stepJ (i := 4) rfl (fun K hK => ?_)
      obtain rfl := c2 (hw 2 (by kernel_rfl))
      obtain rfl := c3 (hw 3 (by kernel_rfl))
      go_simp
      refine hK.out _ _ ⟨u27, u28, _, _, _, u32, u33, u26, u34, u35, u36, u10, u11, u12, rfl, lo, fun h => c0 (fl (by decide) h), fun h => c1 (fl (by decide) h), fun _ => rfl, fun _ => rfl, fun _ => rfl, fun h => c5 (fl (by decide) h), fun h => c6 (fl (by decide) h), fun h => c7 (fl (by decide) h), fun h => c8 (fl (by decide) h), fun h => c9 (fl (by decide) h), fun h => c10 (fl (by decide) h), fun h => c15 (fl (by decide) h), fun h => ((s11 (fl (by decide) h)).imp (fl (by decide))), fun h => ((s12 (fl (by decide) h)).imp (fl (by decide))), fun h h' => d11_12 (fl (by decide) h) (fl (by decide) h'), fun h => getD_set_true (k13 (fl (by decide) h)), fun h => getD_set_true (k14 (fl (by decide) h))⟩
    · refine stepJ (i := 5) rfl (fun K hK => ?_)
      obtain rfl := c1 (hw 1 (by kernel_rfl))
      obtain rfl := c4 (hw 4 (by kernel_rfl))
      go_simp
      go_at_call 32
      refine (HP.out _).mono ?_
      rintro e W2 ⟨rfl, b2⟩
      go_wp2_with fail
      refine hK.out _ _ ⟨u27, _, u29, u30, _, _, u33, u26, u34, u35, u36, u10, u11, u12, rfl, lo.keep b2, fun h => c0 (fl (by decide) h), fun _ => rfl, fun h => c2 (fl (by decide) h), fun h => c3 (fl (by decide) h), fun _ => rfl, fun _ => rfl, fun h => c6 (fl (by decide) h), fun h => c7 (fl (by decide) h), fun h => c8 (fl (by decide) h), fun h => c9 (fl (by decide) h), fun h => c10 (fl (by decide) h), fun h => c15 (fl (by decide) h), fun h => ((s11 (fl (by decide) h)).imp (fl (by decide))).keep b2, fun h => ((s12 (fl (by decide) h)).imp (fl (by decide))).keep b2, fun h h' => d11_12 (fl (by decide) h) (fl (by decide) h'), fun h => getD_set_true (k13 (fl (by decide) h)), fun h => getD_set_true (k14 (fl (by decide) h))⟩
    · refine stepJ (i := 6) rfl (fun K hK => ?_)
      obtain rfl := c0 (hw 0 (by kernel_rfl))
      obtain rfl := c5 (hw 5 (by kernel_rfl))
      go_simp
      go_at_call 71
      refine (HD.out _).mono ?_
      rintro e W2 ⟨rfl, b2⟩
      go_wp2_with fail
      refine hK.out _ _ ⟨_, u28, u29, u30, u31, _, _, u26, u34, u35, u36, u10, u11, u12, rfl, lo.keep b2, fun _ => rfl, fun h => c1 (fl (by decide) h), fun h => c2 (fl (by decide) h), fun h => c3 (fl (by decide) h), fun h => c4 (fl (by decide) h), fun _ => rfl, fun _ => rfl, fun h => c7 (fl (by decide) h), fun h => c8 (fl (by decide) h), fun h => c9 (fl (by decide) h), fun h => c10 (fl (by decide) h), fun h => c15 (fl (by decide) h), fun h => ((s11 (fl (by decide) h)).imp (fl (by decide))).keep b2, fun h => ((s12 (fl (by decide) h)).imp (fl (by decide))).keep b2, fun h h' => d11_12 (fl (by decide) h) (fl (by decide) h'), fun h => getD_set_true (k13 (fl (by decide) h)), fun h => getD_set_true (k14 (fl (by decide) h))⟩
    · refine stepJ (i := 7) rfl (fun K hK => ?_)
      obtain rfl := c6 (hw 6 (by kernel_rfl))
      go_simp
      refine hK.out _ _ ⟨u27, u28, u29, u30, u31, u32, _, _, u34, u35, u36, u10, u11, u12, rfl, lo, fun h => c0 (fl (by decide) h), fun h => c1 (fl (by decide) h), fun h => c2 (fl (by decide) h), fun h => c3 (fl (by decide) h), fun h => c4 (fl (by decide) h), fun h => c5 (fl (by decide) h), fun _ => rfl, fun _ => rfl, fun h => c8 (fl (by decide) h), fun h => c9 (fl (by decide) h), fun h => c10 (fl (by decide) h), fun h => c15 (fl (by decide) h), fun h => ((s11 (fl (by decide) h)).imp (fl (by decide))), fun h => ((s12 (fl (by decide) h)).imp (fl (by decide))), fun h h' => d11_12 (fl (by decide) h) (fl (by decide) h'), fun h => getD_set_true (k13 (fl (by decide) h)), fun h => getD_set_true (k14 (fl (by decide) h))⟩
    · refine stepJ (i := 8) rfl (fun K hK => ?_)
      obtain rfl := c7 (hw 7 (by kernel_rfl))
      go_simp
      refine hK.out _ _ ⟨u27, u28, u29, u30, u31, u32, u33, _, _, u35, u36, u10, u11, u12, rfl, lo, fun h => c0 (fl (by decide) h), fun h => c1 (fl (by decide) h), fun h => c2 (fl (by decide) h), fun h => c3 (fl (by decide) h), fun h => c4 (fl (by decide) h), fun h => c5 (fl (by decide) h), fun h => c6 (fl (by decide) h), fun _ => rfl, fun _ => rfl, fun h => c9 (fl (by decide) h), fun h => c10 (fl (by decide) h), fun h => c15 (fl (by decide) h), fun h => ((s11 (fl (by decide) h)).imp (fl (by decide))), fun h => ((s12 (fl (by decide) h)).imp (fl (by decide))), fun h h' => d11_12 (fl (by decide) h) (fl (by decide) h'), fun h => getD_set_true (k13 (fl (by decide) h)), fun h => getD_set_true (k14 (fl (by decide) h))⟩
    · refine stepJ (i := 9) rfl (fun K hK => ?_)
      obtain rfl := c7 (hw 7 (by kernel_rfl))
      go_simp
      refine hK.out _ _ ⟨u27, u28, u29, u30, u31, u32, u33, _, u34, _, u36, u10, u11, u12, rfl, lo, fun h => c0 (fl (by decide) h), fun h => c1 (fl (by decide) h), fun h => c2 (fl (by decide) h), fun h => c3 (fl (by decide) h), fun h => c4 (fl (by decide) h), fun h => c5 (fl (by decide) h), fun h => c6 (fl (by decide) h), fun _ => rfl, fun h => c8 (fl (by decide) h), fun _ => rfl, fun h => c10 (fl (by decide) h), fun h => c15 (fl (by decide) h), fun h => ((s11 (fl (by decide) h)).imp (fl (by decide))), fun h => ((s12 (fl (by decide) h)).imp (fl (by decide))), fun h h' => d11_12 (fl (by decide) h) (fl (by decide) h'), fun h => getD_set_true (k13 (fl (by decide) h)), fun h => getD_set_true (k14 (fl (by decide) h))⟩
    · refine stepJ (i := 10) rfl (fun K hK => ?_)
      obtain rfl := c7 (hw 7 (by kernel_rfl))
      go_simp
      refine hK.out _ _ ⟨u27, u28, u29, u30, u31, u32, u33, _, u34, u35, _, u10, u11, u12, rfl, lo, fun h => c0 (fl (by decide) h), fun h => c1 (fl (by decide) h), fun h => c2 (fl (by decide) h), fun h => c3 (fl (by decide) h), fun h => c4 (fl (by decide) h), fun h => c5 (fl (by decide) h), fun h => c6 (fl (by decide) h), fun _ => rfl, fun h => c8 (fl (by decide) h), fun h => c9 (fl (by decide) h), fun _ => rfl, fun h => c15 (fl (by decide) h), fun h => ((s11 (fl (by decide) h)).imp (fl (by decide))), fun h => ((s12 (fl (by decide) h)).imp (fl (by decide))), fun h h' => d11_12 (fl (by decide) h) (fl (by decide) h'), fun h => getD_set_true (k13 (fl (by decide) h)), fun h => getD_set_true (k14 (fl (by decide) h))⟩
    · refine stepJ (i := 11) rfl (fun K hK => ?_)
      go_simp
      refine hK.out _ _ ⟨u27, u28, u29, u30, u31, u32, u33, u26, u34, u35, u36, _, u11, u12, rfl, lo.alloc _, fun h => c0 (fl (by decide) h), fun h => c1 (fl (by decide) h), fun h => c2 (fl (by decide) h), fun h => c3 (fl (by decide) h), fun h => c4 (fl (by decide) h), fun h => c5 (fl (by decide) h), fun h => c6 (fl (by decide) h), fun h => c7 (fl (by decide) h), fun h => c8 (fl (by decide) h), fun h => c9 (fl (by decide) h), fun h => c10 (fl (by decide) h), fun h => c15 (fl (by decide) h), fun _ => SlW.new (fun h => absurd ((k13 (fl (by decide) h)).symm.trans hl) (by decide)  ) lo.lt, fun h => ((s12 (fl (by decide) h)).imp (fl (by decide))).keep (below1 wx _), fun _ h' => Ne.symm (s12 (fl (by decide) h')).ne_new, fun h => getD_set_true (k13 (fl (by decide) h)), fun h => getD_set_true (k14 (fl (by decide) h))⟩
    · refine stepJ (i := 12) rfl (fun K hK => ?_)
      go_simp
      refine hK.out _ _ ⟨u27, u28, u29, u30, u31, u32, u33, u26, u34, u35, u36, u10, _, u12, rfl, lo.alloc _, fun h => c0 (fl (by decide) h), fun h => c1 (fl (by decide) h), fun h => c2 (fl (by decide) h), fun h => c3 (fl (by decide) h), fun h => c4 (fl (by decide) h), fun h => c5 (fl (by decide) h), fun h => c6 (fl (by decide) h), fun h => c7 (fl (by decide) h), fun h => c8 (fl (by decide) h), fun h => c9 (fl (by decide) h), fun h => c10 (fl (by decide) h), fun h => c15 (fl (by decide) h), fun h => ((s11 (fl (by decide) h)).imp (fl (by decide))).keep (below1 wx _), fun _ => SlW.new (fun h => absurd ((k14 (fl (by decide) h)).symm.trans hl) (by decide)  ) lo.lt, fun h _ => (s11 (fl (by decide) h)).ne_new, fun h => getD_set_true (k13 (fl (by decide) h)), fun h => getD_set_true (k14 (fl (by decide) h))⟩
    · refine stepJ (i := 13) rfl (fun K hK => ?_)
      obtain rfl := c8 (hw 8 (by kernel_rfl))
      obtain ⟨pp, rfl, hpp, ⟨g9, t9, y1, y2, y3, y4⟩, _⟩ := id (s11 (hw 11 (by kernel_rfl)))
      go_simp
      refine hK.out _ _ ⟨u27, u28, u29, u30, u31, u32, u33, u26, _, u35, u36, _, u11, u12, rfl, lo.far (Nat.le_of_succ_le hpp) (Nat.ne_of_gt hpp), fun h => c0 (fl (by decide) h), fun h => c1 (fl (by decide) h), fun h => c2 (fl (by decide) h), fun h => c3 (fl (by decide) h), fun h => c4 (fl (by decide) h), fun h => c5 (fl (by decide) h), fun h => c6 (fl (by decide) h), fun h => c7 (fl (by decide) h), fun _ => rfl, fun h => c9 (fl (by decide) h), fun h => c10 (fl (by decide) h), fun h => c15 (fl (by decide) h), fun _ => (s11 (hw 11 (by kernel_rfl))).put, fun h => ((s12 (fl (by decide) h)).imp (fl (by decide))).far (Ne.symm (d11_12 (hw 11 (by kernel_rfl)) (fl (by decide) h))), fun h h' => d11_12 (fl (by decide) h) (fl (by decide) h'), fun _ => getD_set_true (hw 11 (by kernel_rfl)), fun h => getD_set_true (k14 (fl (by decide) h))⟩
    · refine stepJ (i := 14) rfl (fun K hK => ?_)
      obtain rfl := c9 (hw 9 (by kernel_rfl))
      obtain ⟨pp, rfl, hpp, ⟨g9, t9, y1, y2, y3, y4⟩, _⟩ := id (s12 (hw 12 (by kernel_rfl)))
      go_simp
      refine hK.out _ _ ⟨u27, u28, u29, u30, u31, u32, u33, u26, u34, _, u36, u10, _, u12, rfl, lo.far (Nat.le_of_succ_le hpp) (Nat.ne_of_gt hpp), fun h => c0 (fl (by decide) h), fun h => c1 (fl (by decide) h), fun h => c2 (fl (by decide) h), fun h => c3 (fl (by decide) h), fun h => c4 (fl (by decide) h), fun h => c5 (fl (by decide) h), fun h => c6 (fl (by decide) h), fun h => c7 (fl (by decide) h), fun h => c8 (fl (by decide) h), fun _ => rfl, fun h => c10 (fl (by decide) h), fun h => c15 (fl (by decide) h), fun h => ((s11 (fl (by decide) h)).imp (fl (by decide))).far (d11_12 (fl (by decide) h) (hw 12 (by kernel_rfl))), fun _ => (s12 (hw 12 (by kernel_rfl))).put, fun h h' => d11_12 (fl (by decide) h) (fl (by decide) h'), fun h => getD_set_true (k13 (fl (by decide) h)), fun _ => getD_set_true (hw 12 (by kernel_rfl))⟩
    · refine stepJ (i := 15) rfl (fun K hK => ?_)
      obtain rfl := c10 (hw 10 (by kernel_rfl))
      go_simp
      refine hK.out _ _ ⟨u27, u28, u29, u30, u31, u32, u33, u26, u34, u35, _, u10, u11, _, rfl, lo, fun h => c0 (fl (by decide) h), fun h => c1 (fl (by decide) h), fun h => c2 (fl (by decide) h), fun h => c3 (fl (by decide) h), fun h => c4 (fl (by decide) h), fun h => c5 (fl (by decide) h), fun h => c6 (fl (by decide) h), fun h => c7 (fl (by decide) h), fun h => c8 (fl (by decide) h), fun h => c9 (fl (by decide) h), fun _ => rfl, fun _ => rfl, fun h => ((s11 (fl (by decide) h)).imp (fl (by decide))), fun h => ((s12 (fl (by decide) h)).imp (fl (by decide))), fun h h' => d11_12 (fl (by decide) h) (fl (by decide) h'), fun h => getD_set_true (k13 (fl (by decide) h)), fun h => getD_set_true (k14 (fl (by decide) h))⟩
  · rintro L a wx hall ⟨u27, u28, u29, u30, u31, u32, u33, u26, u34, u35, u36, u10, u11, u12, rfl, lo, c0, c1, c2, c3, c4, c5, c6, c7, c8, c9, c10, c15, s11, s12, d11_12, k13, k14⟩
    obtain rfl := c0 (hall 0 (by decide))
    obtain rfl := c1 (hall 1 (by decide))
    obtain rfl := c2 (hall 2 (by decide))
    obtain rfl := c3 (hall 3 (by decide))
    obtain rfl := c4 (hall 4 (by decide))
    obtain rfl := c5 (hall 5 (by decide))
    obtain rfl := c6 (hall 6 (by decide))
    obtain rfl := c7 (hall 7 (by decide))
    obtain rfl := c8 (hall 8 (by decide))
    obtain rfl := c9 (hall 9 (by decide))
    obtain rfl := c10 (hall 10 (by decide))
    obtain rfl := c15 (hall 15 (by decide))
    obtain ⟨p11, rfl, hp11, -, H11⟩ := s11 (hall 11 (by decide))
    have V11 := H11 (hall 13 (by decide))
    obtain ⟨p12, rfl, hp12, -, H12⟩ := s12 (hall 12 (by decide))
    have V12 := H12 (hall 14 (by decide))
    have n11_12 : p11 ≠ p12 := fun e => d11_12 (hall 11 (by decide)) (hall 12 (by decide)) (by rw [e])
    clear hall c0 c1 c2 c3 c4 c5 c6 c7 c8 c9 c10 c15 s11 H11 s12 H12 d11_12 k13 k14
    dsimp only
    go_upto_region 6 with fail
    have A := Lib.hid (show A2 w p11 p12 x y wx.drew from ⟨lo.drew.below, V11.keep (Below.refl _ _).drew, V12.keep (Below.refl _ _).drew⟩)
    clear lo V11 V12 KB n11_12 hp11 hp12
    go_region_held3 (fun W => W.cell? ⟨p11, 0, none⟩ = some (.bool (sg x)) ∧ W.cell? ⟨p11, 1, none⟩ = some (.string (mg x)) ∧ W.cell? ⟨p12, 0, none⟩ = some (.bool (sg y)) ∧ W.cell? ⟨p12, 1, none⟩ = some (.string (mg y)))
      (with_reducible exact A.out.cells)
      (first
        | (go_at_call 33; first
          | ((with_reducible refine (HU1.out _).mono ?_); rintro e X ⟨rfl, bX⟩; (have A := Lib.hid (A.out.keep bX)))
          | ((with_reducible refine (HU2.out _).mono ?_); rintro e X ⟨rfl, bX⟩; (have A := Lib.hid (A.out.keep bX)))))
    all_goals
      go_wp2
      go_ret
      exact ⟨rfl, A.out.1⟩
end Go.Proofs.YtigdjlhihhakmaaGreatDoor

namespace Go.Proofs.YtigdjlhihhakmaaGreatDoor
open Go.RowKit
set_option linter.unusedSimpArgs false
set_option linter.unusedVariables false

theorem unrank_30 (q n z : Nat) (w : World) (q1 : 1 ≤ q) (q2 : q ≤ 16) (hn : n ≤ 30) (hz : z < q ^ n) :
    Calls Tryz.prog 33 #[.int .i64 (q : Int), .int .i64 (n : Int), .agg #[.bool (sg (z : Int)), .string (mg (z : Int))]] w (StrOut w (unrk q n z)) := by
  rcases Nat.lt_or_ge 15 n with h | h
  · exact unrank_mid q n z w q1 q2 h hn hz
  · exact unrank_short q n z w q1 q2 h hz
/-- A variable with an integer's cells, and what lies below. -/
def AB (w : World) (p : Nat) (g : Bool) (s : ByteArray) (W : World) : Prop := (Below w.heap.size w W ∧ w.heap.size ≤ W.heap.size) ∧ W.cell? ⟨p, 0, none⟩ = some (.bool g) ∧ W.cell? ⟨p, 1, none⟩ = some (.string s)
theorem AB.cells {w W : World} {p : Nat} {g : Bool} {s : ByteArray} (h : AB w p g s W) : W.cell? ⟨p, 0, none⟩ = some (.bool g) ∧ W.cell? ⟨p, 1, none⟩ = some (.string s) := h.2
theorem AB.below {w W : World} {p : Nat} {g : Bool} {s : ByteArray} (h : AB w p g s W) : Below w.heap.size w W := h.1.1
theorem AB.keep {w W X : World} {p : Nat} {g : Bool} {s : ByteArray} (h : AB w p g s W) (b : Below W.heap.size W X) : AB w p g s X :=
  ⟨⟨below_more h.1.1 (Nat.le_refl _) b, Nat.le_trans h.1.2 b.size⟩, cell_keep h.2.1 b, cell_keep h.2.2 b⟩
theorem AB.drew {w W : World} {p : Nat} {g : Bool} {s : ByteArray} (h : AB w p g s W) : AB w p g s W.drew := h.keep (Below.refl _ _).drew
theorem AB.box (w : World) (g : Bool) (s : ByteArray) : AB w w.heap.size g s (w.alloc (.cells #[.bool g, .string s] 23)) := ⟨⟨below1 w _, by rw [World.size_alloc]; omega⟩, cell_two0 _ _ _ _, cell_two1 _ _ _ _⟩
theorem isInt_raw (g : Bool) (s : ByteArray) {k : Nat} (h : s.size ≤ 4 * k) (hk : k ≤ 10000000) : IsInt (.agg #[.bool g, .string s]) (zv g s) k := by
  have hl : s.data.toList.length ≤ 4 * k := Nat.le_trans (Nat.le_of_eq Array.length_toList) h
  refine ⟨g, s, rfl, rfl, by omega, ?_, hk⟩
  rw [natAbs_zv, b256]
  exact Nat.lt_of_lt_of_le (vB_lt s.data.toList) (Nat.pow_le_pow_right (by omega) hl)
/-- What Unrank returns. -/
def unrV (q n : Int) (g : Bool) (s : ByteArray) : List UInt8 × Int :=
  if chkL q n ≠ 0 then ([], chkL q n) else if checkN g s ≠ 0 then ([], 1) else if g = true ∨ ((q.toNat ^ n.toNat : Nat) : Int) ≤ zv g s then ([], 2) else (unrk q.toNat n.toNat (zv g s).toNat, 0)
set_option maxRecDepth 100000 in
set_option maxHeartbeats 3200000 in
theorem Unrank_len (q n : Int) (g : Bool) (s : ByteArray) (w : World) (h : chkL q n ≠ 0) :
    Calls Tryz.prog 10 #[.int .i64 q, .int .i64 n, .agg #[.bool g, .string s]] w (TxOut w ([], chkL q n)) := by
  have HC := Lib.hid (fun W => checkLength_any q n W)
  obtain ⟨c, hc⟩ : ∃ c, chkL q n = c := ⟨_, rfl⟩
  simp only [hc] at HC
  rw [hc] at h ⊢
  have h1 : (c == 0) = false := by rw [beq_eq_false_iff_ne]; exact h
  clear hc h
  have K := AB.box w g s
  go_enter Tryz.func10, Tryz.ntmps10
  go_wp2_with (go_at_call 29; (with_reducible refine (HC.out _).mono ?_); rintro e W1 ⟨rfl, hW⟩; (rw [hW]); (clear hW))
  exact bodyPost_ret (v := .tuple #[.string ⟨#[]⟩, .int .i64 c]) (by simp [results, Tryz.results10, go_sem]) rfl ⟨rfl, K.below⟩
set_option maxRecDepth 100000 in
set_option maxHeartbeats 3200000 in
theorem Unrank_bad (q n : Int) (g : Bool) (s : ByteArray) (w : World) (h : chkL q n = 0) (h2 : checkN g s ≠ 0) :
    Calls Tryz.prog 10 #[.int .i64 q, .int .i64 n, .agg #[.bool g, .string s]] w (TxOut w ([], 1)) := by
  have HC := Lib.hid (fun W => checkLength_any q n W)
  simp only [h] at HC
  have HK := Lib.hid (fun W => check_int g s W)
  obtain ⟨c, hc⟩ : ∃ c, checkN g s = c := ⟨_, rfl⟩
  simp only [hc] at HK
  rw [hc] at h2
  have h1 : (c == 0) = false := by rw [beq_eq_false_iff_ne]; exact h2
  clear hc h2 h
  have K := AB.box w g s
  obtain ⟨x1, x2⟩ := K.cells
  go_enter Tryz.func10, Tryz.ntmps10
  go_wp2_with (first
    | (go_at_call 29; (with_reducible refine (HC.out _).mono ?_); rintro e W1 ⟨rfl, hW⟩; (rw [hW]); (clear hW))
    | (go_at_call 30; (with_reducible refine (HK.out _).mono ?_); rintro e W2 ⟨rfl, b2⟩))
  exact bodyPost_ret (v := .tuple #[.string ⟨#[]⟩, .int .i64 1]) (by simp [results, Tryz.results10, go_sem]) rfl ⟨rfl, (K.keep b2).below⟩
set_option maxRecDepth 100000 in
set_option maxHeartbeats 12800000 in
theorem Unrank_neg (q n : Int) (s : ByteArray) (w : World) (h : chkL q n = 0) (h2 : checkN true s = 0) :
    Calls Tryz.prog 10 #[.int .i64 q, .int .i64 n, .agg #[.bool true, .string s]] w (TxOut w ([], 2)) := by
  have HC := Lib.hid (fun W => checkLength_any q n W)
  simp only [h] at HC
  have HK := Lib.hid (fun W => check_int true s W)
  simp only [h2] at HK
  clear h h2
  have K := AB.box w true s
  have hmx : Tryz.prog.follows .mixedOrders = true := by kernel_rfl
  go_enter Tryz.func10, Tryz.ntmps10
  go_upto_region 4 with (go_at_call 29; (with_reducible refine (HC.out _).mono ?_); rintro e W1 ⟨rfl, hW⟩; (rw [hW]); (clear hW))
  obtain ⟨x1, x2⟩ := K.cells
  go_upto_region 6 with (go_at_call 30; (with_reducible refine (HK.out _).mono ?_); rintro e W2 ⟨rfl, b2⟩)
  have KB := (K.keep b2).drew
  clear K x1 x2 b2
  refine region_inv' (J := (fun L a wx => ∃ u18 u19 u20 u21 u22 u23 u24 u25 u26 u27, a = { tmps := #[.int .i64 q, .int .i64 n, .agg #[.bool true, .string s], undef, undef, .pointer (some ⟨w.heap.size, 0, none⟩), .string ⟨#[]⟩, .int .i64 0, .int .i64 0, .int .i64 q, .int .i64 n, .int .i64 0, .int .i64 0, .bool false, undef, .agg #[.bool true, .string s], .int .i64 0, .bool false, u18, u19, u20, u21, u22, u23, u24, u25, u26, u27, undef, undef, undef, undef], defers := [] } ∧ AB w w.heap.size true s wx ∧
      (L.getD 0 false = true → u18 = .pointer (some ⟨w.heap.size, 0, none⟩)) ∧ (L.getD 1 false = true → u19 = .bool true) ∧ (L.getD 2 false = true → u20 = .bool true) ∧ (L.getD 9 false = true → u27 = .bool true))) hmx (by kernel_rfl) ?_ ?_ ?_
  · exact ⟨undef, undef, undef, undef, undef, undef, undef, undef, undef, undef, rfl, KB, fun h => absurd h (by decide), fun h => absurd h (by decide), fun h => absurd h (by decide), fun h => absurd h (by decide)⟩
  · intro i hi L a wx hl hw ⟨u18, u19, u20, u21, u22, u23, u24, u25, u26, u27, ha, lo, c0, c1, c2, c9⟩
    subst ha
    obtain ⟨x1, x2⟩ := lo.cells
    clear KB
    have hi' : i = 0 ∨ i = 1 ∨ i = 2 ∨ i = 3 ∨ i = 4 ∨ i = 5 ∨ i = 6 ∨ i = 7 ∨ i = 8 ∨ i = 9 := by
      have : i < 10 := hi
      omega
    rcases hi' with rfl | rfl | rfl | rfl | rfl | rfl | rfl | rfl | rfl | rfl
    · refine stepJ (i := 0) rfl (fun K hK => ?_)
      go_simp
      refine hK.out _ _ ⟨_, u19, u20, u21, u22, u23, u24, u25, u26, u27, rfl, lo, fun _ => rfl, fun h => c1 (fl (by decide) h), fun h => c2 (fl (by decide) h), fun h => c9 (fl (by decide) h)⟩
    · refine stepJ (i := 1) rfl (fun K hK => ?_)
      obtain rfl := c0 (hw 0 (by kernel_rfl))
      go_simp
      refine hK.out _ _ ⟨_, _, u20, u21, u22, u23, u24, u25, u26, u27, rfl, lo, fun _ => rfl, fun _ => rfl, fun h => c2 (fl (by decide) h), fun h => c9 (fl (by decide) h)⟩
    · refine stepJ (i := 2) rfl (fun K hK => ?_)
      obtain rfl := c1 (hw 1 (by kernel_rfl))
      go_simp
      refine hK.out _ _ ⟨u18, _, _, u21, u22, u23, u24, u25, u26, u27, rfl, lo, fun h => c0 (fl (by decide) h), fun _ => rfl, fun _ => rfl, fun h => c9 (fl (by decide) h)⟩
    · refine stepJ (i := 3) rfl (fun K hK => ?_)
      obtain rfl := c2 (hw 2 (by kernel_rfl))
      go_simp
      refine hK.out _ _ ⟨u18, u19, _, _, u22, u23, u24, u25, u26, u27, rfl, lo, fun h => c0 (fl (by decide) h), fun h => c1 (fl (by decide) h), fun _ => rfl, fun h => c9 (fl (by decide) h)⟩
    · refine stepJ (i := 4) rfl (fun K hK => ?_)
      obtain rfl := c2 (hw 2 (by kernel_rfl))
      go_simp
      refine hK.out _ _ ⟨u18, u19, _, u21, _, u23, u24, u25, u26, u27, rfl, lo, fun h => c0 (fl (by decide) h), fun h => c1 (fl (by decide) h), fun _ => rfl, fun h => c9 (fl (by decide) h)⟩
    · refine stepJ (i := 5) rfl (fun K hK => ?_)
      obtain rfl := c2 (hw 2 (by kernel_rfl))
      go_simp
      refine hK.out _ _ ⟨u18, u19, _, u21, u22, _, u24, u25, u26, u27, rfl, lo, fun h => c0 (fl (by decide) h), fun h => c1 (fl (by decide) h), fun _ => rfl, fun h => c9 (fl (by decide) h)⟩
    · refine stepJ (i := 6) rfl (fun K hK => ?_)
      obtain rfl := c2 (hw 2 (by kernel_rfl))
      go_simp
      refine hK.out _ _ ⟨u18, u19, _, u21, u22, u23, _, u25, u26, u27, rfl, lo, fun h => c0 (fl (by decide) h), fun h => c1 (fl (by decide) h), fun _ => rfl, fun h => c9 (fl (by decide) h)⟩
    · refine stepJ (i := 7) rfl (fun K hK => ?_)
      obtain rfl := c2 (hw 2 (by kernel_rfl))
      go_simp
      refine hK.out _ _ ⟨u18, u19, _, u21, u22, u23, u24, _, u26, u27, rfl, lo, fun h => c0 (fl (by decide) h), fun h => c1 (fl (by decide) h), fun _ => rfl, fun h => c9 (fl (by decide) h)⟩
    · refine stepJ (i := 8) rfl (fun K hK => ?_)
      obtain rfl := c2 (hw 2 (by kernel_rfl))
      go_simp
      refine hK.out _ _ ⟨u18, u19, _, u21, u22, u23, u24, u25, _, u27, rfl, lo, fun h => c0 (fl (by decide) h), fun h => c1 (fl (by decide) h), fun _ => rfl, fun h => c9 (fl (by decide) h)⟩
    · refine stepJ (i := 9) rfl (fun K hK => ?_)
      obtain rfl := c2 (hw 2 (by kernel_rfl))
      go_simp
      refine hK.out _ _ ⟨u18, u19, _, u21, u22, u23, u24, u25, u26, _, rfl, lo, fun h => c0 (fl (by decide) h), fun h => c1 (fl (by decide) h), fun _ => rfl, fun _ => rfl⟩
  · rintro L a wx hall ⟨u18, u19, u20, u21, u22, u23, u24, u25, u26, u27, rfl, lo, c0, c1, c2, c9⟩
    obtain rfl := c0 (hall 0 (by decide))
    obtain rfl := c1 (hall 1 (by decide))
    obtain rfl := c2 (hall 2 (by decide))
    obtain rfl := c9 (hall 9 (by decide))
    clear hall c0 c1 c2 c9
    go_wp2
    exact bodyPost_ret (v := .tuple #[.string ⟨#[]⟩, .int .i64 2]) (by simp [results, Tryz.results10, go_sem]) rfl ⟨rfl, lo.below⟩
set_option maxRecDepth 100000 in
set_option maxHeartbeats 12800000 in
theorem Unrank_less (q n : Int) (s : ByteArray) (w : World) (h : chkL q n = 0) (h2 : checkN false s = 0) (z : Int) (hz : zv false s = z) (hk : n.toNat ≤ 30) (hss : s.size ≤ 1000000) (hlt : z < ((q.toNat ^ n.toNat : Nat) : Int)) :
    Calls Tryz.prog 10 #[.int .i64 q, .int .i64 n, .agg #[.bool false, .string s]] w (TxOut w (unrk q.toNat n.toNat z.toNat, 0)) := by
  have HC := Lib.hid (fun W => checkLength_any q n W)
  simp only [h] at HC
  have HK := Lib.hid (fun W => check_int false s W)
  simp only [h2] at HK
  obtain ⟨m, k, rfl, rfl, q1, q2, k2⟩ := chkL_zero h
  have HP := Lib.hid (power_any m q1 q2 k hk)
  have I1 := isInt_raw false s (k := 250000) (by omega) (by omega)
  rw [hz] at I1
  rw [Int.toNat_natCast, Int.toNat_natCast] at hlt
  rw [Int.toNat_natCast] at hk
  have I2 := isInt_pow (n := k) (k := 4) q2 (by omega) (by omega) (by omega) (by omega)
  have HM := Lib.hid (fun W => icmp_any _ _ _ _ 250000 4 W I1 I2)
  simp only [show cmpZ z ((m ^ k : Nat) : Int) = -1 by unfold cmpZ; rw [if_pos hlt]] at HM
  have hzn : ∃ y : Nat, z = (y : Int) := ⟨z.toNat, by have h1 := hz; unfold zv at h1; simp at h1; omega⟩
  obtain ⟨y, rfl⟩ := hzn
  have HU := Lib.hid (fun W => unrank_30 m k y W q1 q2 hk (by omega))
  have hcn : sg (y : Int) = false ∧ mg (y : Int) = s := by
    have h1 := h2
    unfold checkN at h1
    split at h1
    · next h3 => rw [hz] at h3; exact h3
    · cases h1
  simp only [hcn.1, hcn.2] at HU
  rw [Int.toNat_natCast, Int.toNat_natCast, Int.toNat_natCast]
  obtain ⟨R, hR⟩ : ∃ R, unrk m k y = R := ⟨_, rfl⟩
  simp only [hR] at HU
  rw [hR]
  clear hR hcn
  obtain ⟨p, hp⟩ : ∃ p : Int, ((m ^ k : Nat) : Int) = p := ⟨_, rfl⟩
  simp only [hp] at HP HM
  clear hp I1 I2 hlt hz
  obtain ⟨q, hqq⟩ : ∃ q : Int, (m : Int) = q := ⟨_, rfl⟩
  obtain ⟨n, hnn⟩ : ∃ n : Int, (k : Int) = n := ⟨_, rfl⟩
  simp only [hqq, hnn] at HP HC HU
  rw [hqq, hnn]
  rw [hqq, hnn] at h
  clear hqq hnn q1 q2 k2 hk
  clear h h2
  have K := AB.box w false s
  have hmx : Tryz.prog.follows .mixedOrders = true := by kernel_rfl
  go_enter Tryz.func10, Tryz.ntmps10
  go_upto_region 4 with (go_at_call 29; (with_reducible refine (HC.out _).mono ?_); rintro e W1 ⟨rfl, hW⟩; (rw [hW]); (clear hW))
  obtain ⟨x1, x2⟩ := K.cells
  go_upto_region 6 with (go_at_call 30; (with_reducible refine (HK.out _).mono ?_); rintro e W2 ⟨rfl, b2⟩)
  have KB := (K.keep b2).drew
  clear K x1 x2 b2
  refine region_inv' (J := (fun L a wx => ∃ u18 u19 u20 u21 u22 u23 u24 u25 u26 u27, a = { tmps := #[.int .i64 q, .int .i64 n, .agg #[.bool false, .string s], undef, undef, .pointer (some ⟨w.heap.size, 0, none⟩), .string ⟨#[]⟩, .int .i64 0, .int .i64 0, .int .i64 q, .int .i64 n, .int .i64 0, .int .i64 0, .bool false, undef, .agg #[.bool false, .string s], .int .i64 0, .bool false, u18, u19, u20, u21, u22, u23, u24, u25, u26, u27, undef, undef, undef, undef], defers := [] } ∧ AB w w.heap.size false s wx ∧
      (L.getD 0 false = true → u18 = .pointer (some ⟨w.heap.size, 0, none⟩)) ∧ (L.getD 1 false = true → u19 = .bool false) ∧ (L.getD 2 false = true → u20 = .bool false) ∧ (L.getD 3 false = true → u21 = .agg #[.bool false, .string s]) ∧ (L.getD 4 false = true → u22 = .int .i64 q) ∧ (L.getD 5 false = true → u23 = .int .i64 n) ∧ (L.getD 6 false = true → u24 = .agg #[.bool (sg p), .string (mg p)]) ∧ (L.getD 7 false = true → u25 = .int .i64 (-1)) ∧ (L.getD 8 false = true → u26 = .bool false) ∧ (L.getD 9 false = true → u27 = .bool false))) hmx (by kernel_rfl) ?_ ?_ ?_
  · exact ⟨undef, undef, undef, undef, undef, undef, undef, undef, undef, undef, rfl, KB, fun h => absurd h (by decide), fun h => absurd h (by decide), fun h => absurd h (by decide), fun h => absurd h (by decide), fun h => absurd h (by decide), fun h => absurd h (by decide), fun h => absurd h (by decide), fun h => absurd h (by decide), fun h => absurd h (by decide), fun h => absurd h (by decide)⟩
  · intro i hi L a wx hl hw ⟨u18, u19, u20, u21, u22, u23, u24, u25, u26, u27, ha, lo, c0, c1, c2, c3, c4, c5, c6, c7, c8, c9⟩
    subst ha
    obtain ⟨x1, x2⟩ := lo.cells
    clear KB
    have hi' : i = 0 ∨ i = 1 ∨ i = 2 ∨ i = 3 ∨ i = 4 ∨ i = 5 ∨ i = 6 ∨ i = 7 ∨ i = 8 ∨ i = 9 := by
      have : i < 10 := hi
      omega
    rcases hi' with rfl | rfl | rfl | rfl | rfl | rfl | rfl | rfl | rfl | rfl
    · refine stepJ (i := 0) rfl (fun K hK => ?_)
      go_simp
      refine hK.out _ _ ⟨_, u19, u20, u21, u22, u23, u24, u25, u26, u27, rfl, lo, fun _ => rfl, fun h => c1 (fl (by decide) h), fun h => c2 (fl (by decide) h), fun h => c3 (fl (by decide) h), fun h => c4 (fl (by decide) h), fun h => c5 (fl (by decide) h), fun h => c6 (fl (by decide) h), fun h => c7 (fl (by decide) h), fun h => c8 (fl (by decide) h), fun h => c9 (fl (by decide) h)⟩
    · refine stepJ (i := 1) rfl (fun K hK => ?_)
      obtain rfl := c0 (hw 0 (by kernel_rfl))
      go_simp
      refine hK.out _ _ ⟨_, _, u20, u21, u22, u23, u24, u25, u26, u27, rfl, lo, fun _ => rfl, fun _ => rfl, fun h => c2 (fl (by decide) h), fun h => c3 (fl (by decide) h), fun h => c4 (fl (by decide) h), fun h => c5 (fl (by decide) h), fun h => c6 (fl (by decide) h), fun h => c7 (fl (by decide) h), fun h => c8 (fl (by decide) h), fun h => c9 (fl (by decide) h)⟩
    · refine stepJ (i := 2) rfl (fun K hK => ?_)
      obtain rfl := c1 (hw 1 (by kernel_rfl))
      go_simp
      refine hK.out _ _ ⟨u18, _, _, u21, u22, u23, u24, u25, u26, u27, rfl, lo, fun h => c0 (fl (by decide) h), fun _ => rfl, fun _ => rfl, fun h => c3 (fl (by decide) h), fun h => c4 (fl (by decide) h), fun h => c5 (fl (by decide) h), fun h => c6 (fl (by decide) h), fun h => c7 (fl (by decide) h), fun h => c8 (fl (by decide) h), fun h => c9 (fl (by decide) h)⟩
    · refine stepJ (i := 3) rfl (fun K hK => ?_)
      obtain rfl := c2 (hw 2 (by kernel_rfl))
      go_simp
      refine hK.out _ _ ⟨u18, u19, _, _, u22, u23, u24, u25, u26, u27, rfl, lo, fun h => c0 (fl (by decide) h), fun h => c1 (fl (by decide) h), fun _ => rfl, fun _ => rfl, fun h => c4 (fl (by decide) h), fun h => c5 (fl (by decide) h), fun h => c6 (fl (by decide) h), fun h => c7 (fl (by decide) h), fun h => c8 (fl (by decide) h), fun h => c9 (fl (by decide) h)⟩
    · refine stepJ (i := 4) rfl (fun K hK => ?_)
      obtain rfl := c2 (hw 2 (by kernel_rfl))
      go_simp
      refine hK.out _ _ ⟨u18, u19, _, u21, _, u23, u24, u25, u26, u27, rfl, lo, fun h => c0 (fl (by decide) h), fun h => c1 (fl (by decide) h), fun _ => rfl, fun h => c3 (fl (by decide) h), fun _ => rfl, fun h => c5 (fl (by decide) h), fun h => c6 (fl (by decide) h), fun h => c7 (fl (by decide) h), fun h => c8 (fl (by decide) h), fun h => c9 (fl (by decide) h)⟩
    · refine stepJ (i := 5) rfl (fun K hK => ?_)
      obtain rfl := c2 (hw 2 (by kernel_rfl))
      go_simp
      refine hK.out _ _ ⟨u18, u19, _, u21, u22, _, u24, u25, u26, u27, rfl, lo, fun h => c0 (fl (by decide) h), fun h => c1 (fl (by decide) h), fun _ => rfl, fun h => c3 (fl (by decide) h), fun h => c4 (fl (by decide) h), fun _ => rfl, fun h => c6 (fl (by decide) h), fun h => c7 (fl (by decide) h), fun h => c8 (fl (by decide) h), fun h => c9 (fl (by decide) h)⟩
    · refine stepJ (i := 6) rfl (fun K hK => ?_)
      obtain rfl := c2 (hw 2 (by kernel_rfl))
      obtain rfl := c4 (hw 4 (by kernel_rfl))
      obtain rfl := c5 (hw 5 (by kernel_rfl))
      go_simp
      go_at_call 32
      refine (HP.out _).mono ?_
      rintro e W2 ⟨rfl, b2⟩
      go_wp2_with fail
      refine hK.out _ _ ⟨u18, u19, _, u21, _, _, _, u25, u26, u27, rfl, lo.keep b2, fun h => c0 (fl (by decide) h), fun h => c1 (fl (by decide) h), fun _ => rfl, fun h => c3 (fl (by decide) h), fun _ => rfl, fun _ => rfl, fun _ => rfl, fun h => c7 (fl (by decide) h), fun h => c8 (fl (by decide) h), fun h => c9 (fl (by decide) h)⟩
    · refine stepJ (i := 7) rfl (fun K hK => ?_)
      obtain rfl := c2 (hw 2 (by kernel_rfl))
      obtain rfl := c3 (hw 3 (by kernel_rfl))
      obtain rfl := c6 (hw 6 (by kernel_rfl))
      go_simp
      go_at_call 31
      refine (HM.out _).mono ?_
      rintro e W2 ⟨rfl, b2⟩
      go_wp2_with fail
      refine hK.out _ _ ⟨u18, u19, _, _, u22, u23, _, _, u26, u27, rfl, lo.keep b2, fun h => c0 (fl (by decide) h), fun h => c1 (fl (by decide) h), fun _ => rfl, fun _ => rfl, fun h => c4 (fl (by decide) h), fun h => c5 (fl (by decide) h), fun _ => rfl, fun _ => rfl, fun h => c8 (fl (by decide) h), fun h => c9 (fl (by decide) h)⟩
    · refine stepJ (i := 8) rfl (fun K hK => ?_)
      obtain rfl := c2 (hw 2 (by kernel_rfl))
      obtain rfl := c7 (hw 7 (by kernel_rfl))
      go_simp
      refine hK.out _ _ ⟨u18, u19, _, u21, u22, u23, u24, _, _, u27, rfl, lo, fun h => c0 (fl (by decide) h), fun h => c1 (fl (by decide) h), fun _ => rfl, fun h => c3 (fl (by decide) h), fun h => c4 (fl (by decide) h), fun h => c5 (fl (by decide) h), fun h => c6 (fl (by decide) h), fun _ => rfl, fun _ => rfl, fun h => c9 (fl (by decide) h)⟩
    · refine stepJ (i := 9) rfl (fun K hK => ?_)
      obtain rfl := c2 (hw 2 (by kernel_rfl))
      obtain rfl := c8 (hw 8 (by kernel_rfl))
      go_simp
      refine hK.out _ _ ⟨u18, u19, _, u21, u22, u23, u24, u25, _, _, rfl, lo, fun h => c0 (fl (by decide) h), fun h => c1 (fl (by decide) h), fun _ => rfl, fun h => c3 (fl (by decide) h), fun h => c4 (fl (by decide) h), fun h => c5 (fl (by decide) h), fun h => c6 (fl (by decide) h), fun h => c7 (fl (by decide) h), fun _ => rfl, fun _ => rfl⟩
  · rintro L a wx hall ⟨u18, u19, u20, u21, u22, u23, u24, u25, u26, u27, rfl, lo, c0, c1, c2, c3, c4, c5, c6, c7, c8, c9⟩
    obtain rfl := c0 (hall 0 (by decide))
    obtain rfl := c1 (hall 1 (by decide))
    obtain rfl := c2 (hall 2 (by decide))
    obtain rfl := c3 (hall 3 (by decide))
    obtain rfl := c4 (hall 4 (by decide))
    obtain rfl := c5 (hall 5 (by decide))
    obtain rfl := c6 (hall 6 (by decide))
    obtain rfl := c7 (hall 7 (by decide))
    obtain rfl := c8 (hall 8 (by decide))
    obtain rfl := c9 (hall 9 (by decide))
    clear hall c0 c1 c2 c3 c4 c5 c6 c7 c8 c9
    obtain ⟨x1, x2⟩ := lo.cells
    go_wp2_with (go_at_call 33; (with_reducible refine (HU.out _).mono ?_); rintro e W5 ⟨rfl, b5⟩)
    exact bodyPost_ret (v := .tuple #[.string ⟨R.toArray⟩, .int .i64 0]) (by simp [results, Tryz.results10, go_sem]) rfl ⟨rfl, (lo.keep b5).below⟩
set_option maxRecDepth 100000 in
set_option maxHeartbeats 12800000 in
theorem Unrank_same (q n : Int) (s : ByteArray) (w : World) (h : chkL q n = 0) (h2 : checkN false s = 0) (z : Int) (hz : zv false s = z) (hk : n.toNat ≤ 30) (hss : s.size ≤ 1000000) (hlt : z = ((q.toNat ^ n.toNat : Nat) : Int)) :
    Calls Tryz.prog 10 #[.int .i64 q, .int .i64 n, .agg #[.bool false, .string s]] w (TxOut w ([], 2)) := by
  have HC := Lib.hid (fun W => checkLength_any q n W)
  simp only [h] at HC
  have HK := Lib.hid (fun W => check_int false s W)
  simp only [h2] at HK
  obtain ⟨m, k, rfl, rfl, q1, q2, k2⟩ := chkL_zero h
  have HP := Lib.hid (power_any m q1 q2 k hk)
  have I1 := isInt_raw false s (k := 250000) (by omega) (by omega)
  rw [hz] at I1
  rw [Int.toNat_natCast, Int.toNat_natCast] at hlt
  rw [Int.toNat_natCast] at hk
  have I2 := isInt_pow (n := k) (k := 4) q2 (by omega) (by omega) (by omega) (by omega)
  have HM := Lib.hid (fun W => icmp_any _ _ _ _ 250000 4 W I1 I2)
  simp only [show cmpZ z ((m ^ k : Nat) : Int) = 0 by unfold cmpZ; rw [if_neg (by omega)]; rw [if_neg (by omega)]] at HM
  obtain ⟨p, hp⟩ : ∃ p : Int, ((m ^ k : Nat) : Int) = p := ⟨_, rfl⟩
  simp only [hp] at HP HM
  clear hp I1 I2 hlt hz
  obtain ⟨q, hqq⟩ : ∃ q : Int, (m : Int) = q := ⟨_, rfl⟩
  obtain ⟨n, hnn⟩ : ∃ n : Int, (k : Int) = n := ⟨_, rfl⟩
  simp only [hqq, hnn] at HP HC 
  rw [hqq, hnn]
  rw [hqq, hnn] at h
  clear hqq hnn q1 q2 k2 hk
  clear h h2
  have K := AB.box w false s
  have hmx : Tryz.prog.follows .mixedOrders = true := by kernel_rfl
  go_enter Tryz.func10, Tryz.ntmps10
  go_upto_region 4 with (go_at_call 29; (with_reducible refine (HC.out _).mono ?_); rintro e W1 ⟨rfl, hW⟩; (rw [hW]); (clear hW))
  obtain ⟨x1, x2⟩ := K.cells
  go_upto_region 6 with (go_at_call 30; (with_reducible refine (HK.out _).mono ?_); rintro e W2 ⟨rfl, b2⟩)
  have KB := (K.keep b2).drew
  clear K x1 x2 b2
  refine region_inv' (J := (fun L a wx => ∃ u18 u19 u20 u21 u22 u23 u24 u25 u26 u27, a = { tmps := #[.int .i64 q, .int .i64 n, .agg #[.bool false, .string s], undef, undef, .pointer (some ⟨w.heap.size, 0, none⟩), .string ⟨#[]⟩, .int .i64 0, .int .i64 0, .int .i64 q, .int .i64 n, .int .i64 0, .int .i64 0, .bool false, undef, .agg #[.bool false, .string s], .int .i64 0, .bool false, u18, u19, u20, u21, u22, u23, u24, u25, u26, u27, undef, undef, undef, undef], defers := [] } ∧ AB w w.heap.size false s wx ∧
      (L.getD 0 false = true → u18 = .pointer (some ⟨w.heap.size, 0, none⟩)) ∧ (L.getD 1 false = true → u19 = .bool false) ∧ (L.getD 2 false = true → u20 = .bool false) ∧ (L.getD 3 false = true → u21 = .agg #[.bool false, .string s]) ∧ (L.getD 4 false = true → u22 = .int .i64 q) ∧ (L.getD 5 false = true → u23 = .int .i64 n) ∧ (L.getD 6 false = true → u24 = .agg #[.bool (sg p), .string (mg p)]) ∧ (L.getD 7 false = true → u25 = .int .i64 (0)) ∧ (L.getD 8 false = true → u26 = .bool true) ∧ (L.getD 9 false = true → u27 = .bool true))) hmx (by kernel_rfl) ?_ ?_ ?_
  · exact ⟨undef, undef, undef, undef, undef, undef, undef, undef, undef, undef, rfl, KB, fun h => absurd h (by decide), fun h => absurd h (by decide), fun h => absurd h (by decide), fun h => absurd h (by decide), fun h => absurd h (by decide), fun h => absurd h (by decide), fun h => absurd h (by decide), fun h => absurd h (by decide), fun h => absurd h (by decide), fun h => absurd h (by decide)⟩
  · intro i hi L a wx hl hw ⟨u18, u19, u20, u21, u22, u23, u24, u25, u26, u27, ha, lo, c0, c1, c2, c3, c4, c5, c6, c7, c8, c9⟩
    subst ha
    obtain ⟨x1, x2⟩ := lo.cells
    clear KB
    have hi' : i = 0 ∨ i = 1 ∨ i = 2 ∨ i = 3 ∨ i = 4 ∨ i = 5 ∨ i = 6 ∨ i = 7 ∨ i = 8 ∨ i = 9 := by
      have : i < 10 := hi
      omega
    rcases hi' with rfl | rfl | rfl | rfl | rfl | rfl | rfl | rfl | rfl | rfl
    · refine stepJ (i := 0) rfl (fun K hK => ?_)
      go_simp
      refine hK.out _ _ ⟨_, u19, u20, u21, u22, u23, u24, u25, u26, u27, rfl, lo, fun _ => rfl, fun h => c1 (fl (by decide) h), fun h => c2 (fl (by decide) h), fun h => c3 (fl (by decide) h), fun h => c4 (fl (by decide) h), fun h => c5 (fl (by decide) h), fun h => c6 (fl (by decide) h), fun h => c7 (fl (by decide) h), fun h => c8 (fl (by decide) h), fun h => c9 (fl (by decide) h)⟩
    · refine stepJ (i := 1) rfl (fun K hK => ?_)
      obtain rfl := c0 (hw 0 (by kernel_rfl))
      go_simp
      refine hK.out _ _ ⟨_, _, u20, u21, u22, u23, u24, u25, u26, u27, rfl, lo, fun _ => rfl, fun _ => rfl, fun h => c2 (fl (by decide) h), fun h => c3 (fl (by decide) h), fun h => c4 (fl (by decide) h), fun h => c5 (fl (by decide) h), fun h => c6 (fl (by decide) h), fun h => c7 (fl (by decide) h), fun h => c8 (fl (by decide) h), fun h => c9 (fl (by decide) h)⟩
    · refine stepJ (i := 2) rfl (fun K hK => ?_)
      obtain rfl := c1 (hw 1 (by kernel_rfl))
      go_simp
      refine hK.out _ _ ⟨u18, _, _, u21, u22, u23, u24, u25, u26, u27, rfl, lo, fun h => c0 (fl (by decide) h), fun _ => rfl, fun _ => rfl, fun h => c3 (fl (by decide) h), fun h => c4 (fl (by decide) h), fun h => c5 (fl (by decide) h), fun h => c6 (fl (by decide) h), fun h => c7 (fl (by decide) h), fun h => c8 (fl (by decide) h), fun h => c9 (fl (by decide) h)⟩
    · refine stepJ (i := 3) rfl (fun K hK => ?_)
      obtain rfl := c2 (hw 2 (by kernel_rfl))
      go_simp
      refine hK.out _ _ ⟨u18, u19, _, _, u22, u23, u24, u25, u26, u27, rfl, lo, fun h => c0 (fl (by decide) h), fun h => c1 (fl (by decide) h), fun _ => rfl, fun _ => rfl, fun h => c4 (fl (by decide) h), fun h => c5 (fl (by decide) h), fun h => c6 (fl (by decide) h), fun h => c7 (fl (by decide) h), fun h => c8 (fl (by decide) h), fun h => c9 (fl (by decide) h)⟩
    · refine stepJ (i := 4) rfl (fun K hK => ?_)
      obtain rfl := c2 (hw 2 (by kernel_rfl))
      go_simp
      refine hK.out _ _ ⟨u18, u19, _, u21, _, u23, u24, u25, u26, u27, rfl, lo, fun h => c0 (fl (by decide) h), fun h => c1 (fl (by decide) h), fun _ => rfl, fun h => c3 (fl (by decide) h), fun _ => rfl, fun h => c5 (fl (by decide) h), fun h => c6 (fl (by decide) h), fun h => c7 (fl (by decide) h), fun h => c8 (fl (by decide) h), fun h => c9 (fl (by decide) h)⟩
    · refine stepJ (i := 5) rfl (fun K hK => ?_)
      obtain rfl := c2 (hw 2 (by kernel_rfl))
      go_simp
      refine hK.out _ _ ⟨u18, u19, _, u21, u22, _, u24, u25, u26, u27, rfl, lo, fun h => c0 (fl (by decide) h), fun h => c1 (fl (by decide) h), fun _ => rfl, fun h => c3 (fl (by decide) h), fun h => c4 (fl (by decide) h), fun _ => rfl, fun h => c6 (fl (by decide) h), fun h => c7 (fl (by decide) h), fun h => c8 (fl (by decide) h), fun h => c9 (fl (by decide) h)⟩
    · refine stepJ (i := 6) rfl (fun K hK => ?_)
      obtain rfl := c2 (hw 2 (by kernel_rfl))
      obtain rfl := c4 (hw 4 (by kernel_rfl))
      obtain rfl := c5 (hw 5 (by kernel_rfl))
      go_simp
      go_at_call 32
      refine (HP.out _).mono ?_
      rintro e W2 ⟨rfl, b2⟩
      go_wp2_with fail
      refine hK.out _ _ ⟨u18, u19, _, u21, _, _, _, u25, u26, u27, rfl, lo.keep b2, fun h => c0 (fl (by decide) h), fun h => c1 (fl (by decide) h), fun _ => rfl, fun h => c3 (fl (by decide) h), fun _ => rfl, fun _ => rfl, fun _ => rfl, fun h => c7 (fl (by decide) h), fun h => c8 (fl (by decide) h), fun h => c9 (fl (by decide) h)⟩
    · refine stepJ (i := 7) rfl (fun K hK => ?_)
      obtain rfl := c2 (hw 2 (by kernel_rfl))
      obtain rfl := c3 (hw 3 (by kernel_rfl))
      obtain rfl := c6 (hw 6 (by kernel_rfl))
      go_simp
      go_at_call 31
      refine (HM.out _).mono ?_
      rintro e W2 ⟨rfl, b2⟩
      go_wp2_with fail
      refine hK.out _ _ ⟨u18, u19, _, _, u22, u23, _, _, u26, u27, rfl, lo.keep b2, fun h => c0 (fl (by decide) h), fun h => c1 (fl (by decide) h), fun _ => rfl, fun _ => rfl, fun h => c4 (fl (by decide) h), fun h => c5 (fl (by decide) h), fun _ => rfl, fun _ => rfl, fun h => c8 (fl (by decide) h), fun h => c9 (fl (by decide) h)⟩
    · refine stepJ (i := 8) rfl (fun K hK => ?_)
      obtain rfl := c2 (hw 2 (by kernel_rfl))
      obtain rfl := c7 (hw 7 (by kernel_rfl))
      go_simp
      refine hK.out _ _ ⟨u18, u19, _, u21, u22, u23, u24, _, _, u27, rfl, lo, fun h => c0 (fl (by decide) h), fun h => c1 (fl (by decide) h), fun _ => rfl, fun h => c3 (fl (by decide) h), fun h => c4 (fl (by decide) h), fun h => c5 (fl (by decide) h), fun h => c6 (fl (by decide) h), fun _ => rfl, fun _ => rfl, fun h => c9 (fl (by decide) h)⟩
    · refine stepJ (i := 9) rfl (fun K hK => ?_)
      obtain rfl := c2 (hw 2 (by kernel_rfl))
      obtain rfl := c8 (hw 8 (by kernel_rfl))
      go_simp
      refine hK.out _ _ ⟨u18, u19, _, u21, u22, u23, u24, u25, _, _, rfl, lo, fun h => c0 (fl (by decide) h), fun h => c1 (fl (by decide) h), fun _ => rfl, fun h => c3 (fl (by decide) h), fun h => c4 (fl (by decide) h), fun h => c5 (fl (by decide) h), fun h => c6 (fl (by decide) h), fun h => c7 (fl (by decide) h), fun _ => rfl, fun _ => rfl⟩
  · rintro L a wx hall ⟨u18, u19, u20, u21, u22, u23, u24, u25, u26, u27, rfl, lo, c0, c1, c2, c3, c4, c5, c6, c7, c8, c9⟩
    obtain rfl := c0 (hall 0 (by decide))
    obtain rfl := c1 (hall 1 (by decide))
    obtain rfl := c2 (hall 2 (by decide))
    obtain rfl := c3 (hall 3 (by decide))
    obtain rfl := c4 (hall 4 (by decide))
    obtain rfl := c5 (hall 5 (by decide))
    obtain rfl := c6 (hall 6 (by decide))
    obtain rfl := c7 (hall 7 (by decide))
    obtain rfl := c8 (hall 8 (by decide))
    obtain rfl := c9 (hall 9 (by decide))
    clear hall c0 c1 c2 c3 c4 c5 c6 c7 c8 c9
    go_wp2
    exact bodyPost_ret (v := .tuple #[.string ⟨#[]⟩, .int .i64 2]) (by simp [results, Tryz.results10, go_sem]) rfl ⟨rfl, lo.below⟩
set_option maxRecDepth 100000 in
set_option maxHeartbeats 12800000 in
theorem Unrank_more (q n : Int) (s : ByteArray) (w : World) (h : chkL q n = 0) (h2 : checkN false s = 0) (z : Int) (hz : zv false s = z) (hk : n.toNat ≤ 30) (hss : s.size ≤ 1000000) (hlt : ((q.toNat ^ n.toNat : Nat) : Int) < z) :
    Calls Tryz.prog 10 #[.int .i64 q, .int .i64 n, .agg #[.bool false, .string s]] w (TxOut w ([], 2)) := by
  have HC := Lib.hid (fun W => checkLength_any q n W)
  simp only [h] at HC
  have HK := Lib.hid (fun W => check_int false s W)
  simp only [h2] at HK
  obtain ⟨m, k, rfl, rfl, q1, q2, k2⟩ := chkL_zero h
  have HP := Lib.hid (power_any m q1 q2 k hk)
  have I1 := isInt_raw false s (k := 250000) (by omega) (by omega)
  rw [hz] at I1
  rw [Int.toNat_natCast, Int.toNat_natCast] at hlt
  rw [Int.toNat_natCast] at hk
  have I2 := isInt_pow (n := k) (k := 4) q2 (by omega) (by omega) (by omega) (by omega)
  have HM := Lib.hid (fun W => icmp_any _ _ _ _ 250000 4 W I1 I2)
  simp only [show cmpZ z ((m ^ k : Nat) : Int) = 1 by unfold cmpZ; rw [if_neg (by omega)]; rw [if_pos (by omega)]] at HM
  obtain ⟨p, hp⟩ : ∃ p : Int, ((m ^ k : Nat) : Int) = p := ⟨_, rfl⟩
  simp only [hp] at HP HM
  clear hp I1 I2 hlt hz
  obtain ⟨q, hqq⟩ : ∃ q : Int, (m : Int) = q := ⟨_, rfl⟩
  obtain ⟨n, hnn⟩ : ∃ n : Int, (k : Int) = n := ⟨_, rfl⟩
  simp only [hqq, hnn] at HP HC 
  rw [hqq, hnn]
  rw [hqq, hnn] at h
  clear hqq hnn q1 q2 k2 hk
  clear h h2
  have K := AB.box w false s
  have hmx : Tryz.prog.follows .mixedOrders = true := by kernel_rfl
  go_enter Tryz.func10, Tryz.ntmps10
  go_upto_region 4 with (go_at_call 29; (with_reducible refine (HC.out _).mono ?_); rintro e W1 ⟨rfl, hW⟩; (rw [hW]); (clear hW))
  obtain ⟨x1, x2⟩ := K.cells
  go_upto_region 6 with (go_at_call 30; (with_reducible refine (HK.out _).mono ?_); rintro e W2 ⟨rfl, b2⟩)
  have KB := (K.keep b2).drew
  clear K x1 x2 b2
  refine region_inv' (J := (fun L a wx => ∃ u18 u19 u20 u21 u22 u23 u24 u25 u26 u27, a = { tmps := #[.int .i64 q, .int .i64 n, .agg #[.bool false, .string s], undef, undef, .pointer (some ⟨w.heap.size, 0, none⟩), .string ⟨#[]⟩, .int .i64 0, .int .i64 0, .int .i64 q, .int .i64 n, .int .i64 0, .int .i64 0, .bool false, undef, .agg #[.bool false, .string s], .int .i64 0, .bool false, u18, u19, u20, u21, u22, u23, u24, u25, u26, u27, undef, undef, undef, undef], defers := [] } ∧ AB w w.heap.size false s wx ∧
      (L.getD 0 false = true → u18 = .pointer (some ⟨w.heap.size, 0, none⟩)) ∧ (L.getD 1 false = true → u19 = .bool false) ∧ (L.getD 2 false = true → u20 = .bool false) ∧ (L.getD 3 false = true → u21 = .agg #[.bool false, .string s]) ∧ (L.getD 4 false = true → u22 = .int .i64 q) ∧ (L.getD 5 false = true → u23 = .int .i64 n) ∧ (L.getD 6 false = true → u24 = .agg #[.bool (sg p), .string (mg p)]) ∧ (L.getD 7 false = true → u25 = .int .i64 (1)) ∧ (L.getD 8 false = true → u26 = .bool true) ∧ (L.getD 9 false = true → u27 = .bool true))) hmx (by kernel_rfl) ?_ ?_ ?_
  · exact ⟨undef, undef, undef, undef, undef, undef, undef, undef, undef, undef, rfl, KB, fun h => absurd h (by decide), fun h => absurd h (by decide), fun h => absurd h (by decide), fun h => absurd h (by decide), fun h => absurd h (by decide), fun h => absurd h (by decide), fun h => absurd h (by decide), fun h => absurd h (by decide), fun h => absurd h (by decide), fun h => absurd h (by decide)⟩
  · intro i hi L a wx hl hw ⟨u18, u19, u20, u21, u22, u23, u24, u25, u26, u27, ha, lo, c0, c1, c2, c3, c4, c5, c6, c7, c8, c9⟩
    subst ha
    obtain ⟨x1, x2⟩ := lo.cells
    clear KB
    have hi' : i = 0 ∨ i = 1 ∨ i = 2 ∨ i = 3 ∨ i = 4 ∨ i = 5 ∨ i = 6 ∨ i = 7 ∨ i = 8 ∨ i = 9 := by
      have : i < 10 := hi
      omega
    rcases hi' with rfl | rfl | rfl | rfl | rfl | rfl | rfl | rfl | rfl | rfl
    · refine stepJ (i := 0) rfl (fun K hK => ?_)
      go_simp
      refine hK.out _ _ ⟨_, u19, u20, u21, u22, u23, u24, u25, u26, u27, rfl, lo, fun _ => rfl, fun h => c1 (fl (by decide) h), fun h => c2 (fl (by decide) h), fun h => c3 (fl (by decide) h), fun h => c4 (fl (by decide) h), fun h => c5 (fl (by decide) h), fun h => c6 (fl (by decide) h), fun h => c7 (fl (by decide) h), fun h => c8 (fl (by decide) h), fun h => c9 (fl (by decide) h)⟩
    · refine stepJ (i := 1) rfl (fun K hK => ?_)
      obtain rfl := c0 (hw 0 (by kernel_rfl))
      go_simp
      refine hK.out _ _ ⟨_, _, u20, u21, u22, u23, u24, u25, u26, u27, rfl, lo, fun _ => rfl, fun _ => rfl, fun h => c2 (fl (by decide) h), fun h => c3 (fl (by decide) h), fun h => c4 (fl (by decide) h), fun h => c5 (fl (by decide) h), fun h => c6 (fl (by decide) h), fun h => c7 (fl (by decide) h), fun h => c8 (fl (by decide) h), fun h => c9 (fl (by decide) h)⟩
    · refine stepJ (i := 2) rfl (fun K hK => ?_)
      obtain rfl := c1 (hw 1 (by kernel_rfl))
      go_simp
      refine hK.out _ _ ⟨u18, _, _, u21, u22, u23, u24, u25, u26, u27, rfl, lo, fun h => c0 (fl (by decide) h), fun _ => rfl, fun _ => rfl, fun h => c3 (fl (by decide) h), fun h => c4 (fl (by decide) h), fun h => c5 (fl (by decide) h), fun h => c6 (fl (by decide) h), fun h => c7 (fl (by decide) h), fun h => c8 (fl (by decide) h), fun h => c9 (fl (by decide) h)⟩
    · refine stepJ (i := 3) rfl (fun K hK => ?_)
      obtain rfl := c2 (hw 2 (by kernel_rfl))
      go_simp
      refine hK.out _ _ ⟨u18, u19, _, _, u22, u23, u24, u25, u26, u27, rfl, lo, fun h => c0 (fl (by decide) h), fun h => c1 (fl (by decide) h), fun _ => rfl, fun _ => rfl, fun h => c4 (fl (by decide) h), fun h => c5 (fl (by decide) h), fun h => c6 (fl (by decide) h), fun h => c7 (fl (by decide) h), fun h => c8 (fl (by decide) h), fun h => c9 (fl (by decide) h)⟩
    · refine stepJ (i := 4) rfl (fun K hK => ?_)
      obtain rfl := c2 (hw 2 (by kernel_rfl))
      go_simp
      refine hK.out _ _ ⟨u18, u19, _, u21, _, u23, u24, u25, u26, u27, rfl, lo, fun h => c0 (fl (by decide) h), fun h => c1 (fl (by decide) h), fun _ => rfl, fun h => c3 (fl (by decide) h), fun _ => rfl, fun h => c5 (fl (by decide) h), fun h => c6 (fl (by decide) h), fun h => c7 (fl (by decide) h), fun h => c8 (fl (by decide) h), fun h => c9 (fl (by decide) h)⟩
    · refine stepJ (i := 5) rfl (fun K hK => ?_)
      obtain rfl := c2 (hw 2 (by kernel_rfl))
      go_simp
      refine hK.out _ _ ⟨u18, u19, _, u21, u22, _, u24, u25, u26, u27, rfl, lo, fun h => c0 (fl (by decide) h), fun h => c1 (fl (by decide) h), fun _ => rfl, fun h => c3 (fl (by decide) h), fun h => c4 (fl (by decide) h), fun _ => rfl, fun h => c6 (fl (by decide) h), fun h => c7 (fl (by decide) h), fun h => c8 (fl (by decide) h), fun h => c9 (fl (by decide) h)⟩
    · refine stepJ (i := 6) rfl (fun K hK => ?_)
      obtain rfl := c2 (hw 2 (by kernel_rfl))
      obtain rfl := c4 (hw 4 (by kernel_rfl))
      obtain rfl := c5 (hw 5 (by kernel_rfl))
      go_simp
      go_at_call 32
      refine (HP.out _).mono ?_
      rintro e W2 ⟨rfl, b2⟩
      go_wp2_with fail
      refine hK.out _ _ ⟨u18, u19, _, u21, _, _, _, u25, u26, u27, rfl, lo.keep b2, fun h => c0 (fl (by decide) h), fun h => c1 (fl (by decide) h), fun _ => rfl, fun h => c3 (fl (by decide) h), fun _ => rfl, fun _ => rfl, fun _ => rfl, fun h => c7 (fl (by decide) h), fun h => c8 (fl (by decide) h), fun h => c9 (fl (by decide) h)⟩
    · refine stepJ (i := 7) rfl (fun K hK => ?_)
      obtain rfl := c2 (hw 2 (by kernel_rfl))
      obtain rfl := c3 (hw 3 (by kernel_rfl))
      obtain rfl := c6 (hw 6 (by kernel_rfl))
      go_simp
      go_at_call 31
      refine (HM.out _).mono ?_
      rintro e W2 ⟨rfl, b2⟩
      go_wp2_with fail
      refine hK.out _ _ ⟨u18, u19, _, _, u22, u23, _, _, u26, u27, rfl, lo.keep b2, fun h => c0 (fl (by decide) h), fun h => c1 (fl (by decide) h), fun _ => rfl, fun _ => rfl, fun h => c4 (fl (by decide) h), fun h => c5 (fl (by decide) h), fun _ => rfl, fun _ => rfl, fun h => c8 (fl (by decide) h), fun h => c9 (fl (by decide) h)⟩
    · refine stepJ (i := 8) rfl (fun K hK => ?_)
      obtain rfl := c2 (hw 2 (by kernel_rfl))
      obtain rfl := c7 (hw 7 (by kernel_rfl))
      go_simp
      refine hK.out _ _ ⟨u18, u19, _, u21, u22, u23, u24, _, _, u27, rfl, lo, fun h => c0 (fl (by decide) h), fun h => c1 (fl (by decide) h), fun _ => rfl, fun h => c3 (fl (by decide) h), fun h => c4 (fl (by decide) h), fun h => c5 (fl (by decide) h), fun h => c6 (fl (by decide) h), fun _ => rfl, fun _ => rfl, fun h => c9 (fl (by decide) h)⟩
    · refine stepJ (i := 9) rfl (fun K hK => ?_)
      obtain rfl := c2 (hw 2 (by kernel_rfl))
      obtain rfl := c8 (hw 8 (by kernel_rfl))
      go_simp
      refine hK.out _ _ ⟨u18, u19, _, u21, u22, u23, u24, u25, _, _, rfl, lo, fun h => c0 (fl (by decide) h), fun h => c1 (fl (by decide) h), fun _ => rfl, fun h => c3 (fl (by decide) h), fun h => c4 (fl (by decide) h), fun h => c5 (fl (by decide) h), fun h => c6 (fl (by decide) h), fun h => c7 (fl (by decide) h), fun _ => rfl, fun _ => rfl⟩
  · rintro L a wx hall ⟨u18, u19, u20, u21, u22, u23, u24, u25, u26, u27, rfl, lo, c0, c1, c2, c3, c4, c5, c6, c7, c8, c9⟩
    obtain rfl := c0 (hall 0 (by decide))
    obtain rfl := c1 (hall 1 (by decide))
    obtain rfl := c2 (hall 2 (by decide))
    obtain rfl := c3 (hall 3 (by decide))
    obtain rfl := c4 (hall 4 (by decide))
    obtain rfl := c5 (hall 5 (by decide))
    obtain rfl := c6 (hall 6 (by decide))
    obtain rfl := c7 (hall 7 (by decide))
    obtain rfl := c8 (hall 8 (by decide))
    obtain rfl := c9 (hall 9 (by decide))
    clear hall c0 c1 c2 c3 c4 c5 c6 c7 c8 c9
    go_wp2
    exact bodyPost_ret (v := .tuple #[.string ⟨#[]⟩, .int .i64 2]) (by simp [results, Tryz.results10, go_sem]) rfl ⟨rfl, lo.below⟩
theorem Unrank_any (q n : Int) (g : Bool) (s : ByteArray) (w : World) (hn : n.toNat ≤ 30 ∨ chkL q n ≠ 0) (hs : s.size ≤ 1000000) :
    Calls Tryz.prog 10 #[.int .i64 q, .int .i64 n, .agg #[.bool g, .string s]] w (TxOut w (unrV q n g s)) := by
  unfold unrV
  by_cases h : chkL q n = 0
  · rw [if_neg (fun h1 => h1 h)]
    by_cases h2 : checkN g s = 0
    · rw [if_neg (fun h1 => h1 h2)]
      cases g
      · have hk : n.toNat ≤ 30 := hn.resolve_right (fun h1 => h1 h)
        rcases Int.lt_trichotomy (zv false s) ((q.toNat ^ n.toNat : Nat) : Int) with h3 | h3 | h3
        · rw [if_neg (by intro h4; rcases h4 with h4 | h4; cases h4; omega)]; exact Unrank_less q n s w h h2 _ rfl hk hs h3
        · rw [if_pos (Or.inr (by omega))]; exact Unrank_same q n s w h h2 _ rfl hk hs h3
        · rw [if_pos (Or.inr (by omega))]; exact Unrank_more q n s w h h2 _ rfl hk hs h3
      · rw [if_pos (Or.inl rfl)]; exact Unrank_neg q n s w h h2
    · rw [if_pos h2]; exact Unrank_bad q n g s w h h2
  · rw [if_pos h]; exact Unrank_len q n g s w h
end Go.Proofs.YtigdjlhihhakmaaGreatDoor
