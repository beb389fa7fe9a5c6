/- Closed values that awake compares. Integers in cells, and how they are compared as values of the program. No condition. What awake returns: true. -/
import Derived.Test.YtfcdekkoeeaolaaGreatDoorQ31
import Derived.Test.YtfcdekkoeeaolaaGreatDoorQ09
import Derived.Deep.DeepCutAuto
import Derived.Test.YtfcdekkoeeaolaaGreatDoorQ12
import Derived.Test.YtfcdekkoeeaolaaGreatDoorQ08
import Derived.Test.YtfcdekkoeeaolaaGreatDoorQ30
import Derived.Test.YtfcdekkoeeaolaaGreatDoorQ29

namespace Go.Proofs.YtfcdekkoeeaolaaGreatDoor
open Go.RowKit

theorem gs_two64 : gs 18446744073709551616 = [709551616, 446744073, 18] := by
  rw [gs_pos (by omega), gs_pos (by omega), gs_pos (by omega), gs_zero]

theorem two64_text : (⟨(prZ 18446744073709551616).toArray⟩ : ByteArray) = ⟨#[49, 56, 52, 52, 54, 55, 52, 52, 48, 55, 51, 55, 48, 57, 53, 53, 49, 54, 49, 54]⟩ := by
  have h0 : prZ 18446744073709551616 = prS [709551616, 446744073, 18] := by
    unfold prZ
    rw [if_neg (by decide)]
    show sgnT (sg 18446744073709551616) ++ prS (gs 18446744073709551616) = _
    rw [gs_two64]
    rfl
  rw [h0]
  simp [prS, pad9, Lib.decDigits, Lib.repeatL]

theorem eqlInt (a b : Bool) (s t : ByteArray) (w : World) : (binOp .eql 23 (.agg #[.bool a, .string s]) (.agg #[.bool b, .string t])).run Tryz.prog w = .ok (.bool (a == b && s.toList == t.toList)) w := by
  rw [run_eql_struct, run_equalIn_agg w 9999 23 _ _ (by kernel_rfl) (by kernel_rfl), Tryz.fieldsInt]
  simp only [Op.eqFields]
  rw [if_pos (by decide)]
  rw [if_pos (by decide)]
  simp only [Sem.run_bind, part0, eq0, Result.andThen]
  cases a == b
  · rfl
  · simp only [Bool.not_true, Bool.true_and, if_neg (show ¬ (false = true) by decide), Sem.run_bind, part1, eq1, Result.andThen]
    cases s.toList == t.toList <;> rfl
end Go.Proofs.YtfcdekkoeeaolaaGreatDoor

namespace Go.Proofs.YtfcdekkoeeaolaaGreatDoor
open Go.RowKit

theorem isInt_of {z : Int} {k : Nat} (h : z.natAbs < 4294967296 ^ k) (hk : k ≤ 10000000) : IsInt (.agg #[.bool (sg z), .string (mg z)]) z k := isInt_mg h hk
/-- An integer's cells. -/
def IntAt (W : World) (b : Nat) (z : Int) : Prop := W.cell? ⟨b, 0, none⟩ = some (.bool (sg z)) ∧ W.cell? ⟨b, 1, none⟩ = some (.string (mg z))
theorem IntAt.keep {W W1 : World} {b : Nat} {z : Int} (h : IntAt W b z) (hb : Below W.heap.size W W1) : IntAt W1 b z := ⟨cell_keep h.1 hb, cell_keep h.2 hb⟩
theorem IntAt.new (W : World) (t : TypeId) (z : Int) : IntAt (W.alloc (.cells #[.bool (sg z), .string (mg z)] t)) W.heap.size z := by
  constructor <;> simp [go_sem]

theorem guardInt2 (x y : Operand) (a b : Bool) (s t : ByteArray) (w : World) : (eqGuard .eql 23 x y (.agg #[.bool a, .string s]) (.agg #[.bool b, .string t])).run Tryz.prog w = .ok () w := run_eqGuard_agg w .eql 23 x y _ _ (by kernel_rfl)
attribute [go_sem ↓] eqlInt guardInt2
end Go.Proofs.YtfcdekkoeeaolaaGreatDoor

namespace Go.Proofs.YtfcdekkoeeaolaaGreatDoor
open Go.RowKit

theorem root_ten {R : Nat} (h : IsRoot 10 2 R) : R = 3 := by
  obtain ⟨h1, h2⟩ := h
  rcases Nat.lt_or_ge R 4 with h3 | h3
  · rcases Nat.lt_or_ge R 3 with h4 | h4
    · have : (R + 1) ^ 2 ≤ 3 ^ 2 := Nat.pow_le_pow_left (by omega) 2
      omega
    · omega
  · have : 4 ^ 2 ≤ R ^ 2 := Nat.pow_le_pow_left h3 2
    omega

/-- The integers that awake compares. -/
def AwkS (bn bq bp bw bu : Nat) : World → Prop := fun W : World => W.cell? ⟨bn, 0, none⟩ = some (.bool (sg (18446744073709551616))) ∧ W.cell? ⟨bn, 1, none⟩ = some (.string (mg (18446744073709551616))) ∧ W.cell? ⟨bq, 0, none⟩ = some (.bool (sg (-4))) ∧ W.cell? ⟨bq, 1, none⟩ = some (.string (mg (-4))) ∧ W.cell? ⟨bq + 1, 0, none⟩ = some (.bool (sg (1))) ∧ W.cell? ⟨bq + 1, 1, none⟩ = some (.string (mg (1))) ∧ W.cell? ⟨bp, 0, none⟩ = some (.bool (sg (-4))) ∧ W.cell? ⟨bp, 1, none⟩ = some (.string (mg (-4))) ∧ W.cell? ⟨bp + 1, 0, none⟩ = some (.bool (sg (-1))) ∧ W.cell? ⟨bp + 1, 1, none⟩ = some (.string (mg (-1))) ∧ W.cell? ⟨bw, 0, none⟩ = some (.bool (sg (3))) ∧ W.cell? ⟨bw, 1, none⟩ = some (.string (mg (3))) ∧ W.cell? ⟨bu, 0, none⟩ = some (.bool (sg (-243))) ∧ W.cell? ⟨bu, 1, none⟩ = some (.string (mg (-243)))
theorem AwkS.keep {bn bq bp bw bu : Nat} {W W1 : World} (hb : Below W.heap.size W W1) (h : AwkS bn bq bp bw bu W) : AwkS bn bq bp bw bu W1 := ⟨cell_keep h.1 hb, cell_keep h.2.1 hb, cell_keep h.2.2.1 hb, cell_keep h.2.2.2.1 hb, cell_keep h.2.2.2.2.1 hb, cell_keep h.2.2.2.2.2.1 hb, cell_keep h.2.2.2.2.2.2.1 hb, cell_keep h.2.2.2.2.2.2.2.1 hb, cell_keep h.2.2.2.2.2.2.2.2.1 hb, cell_keep h.2.2.2.2.2.2.2.2.2.1 hb, cell_keep h.2.2.2.2.2.2.2.2.2.2.1 hb, cell_keep h.2.2.2.2.2.2.2.2.2.2.2.1 hb, cell_keep h.2.2.2.2.2.2.2.2.2.2.2.2.1 hb, cell_keep h.2.2.2.2.2.2.2.2.2.2.2.2.2 hb⟩


set_option maxRecDepth 100000 in
set_option maxHeartbeats 6400000 in
theorem awake_any (w : World) (htab : Lib.TabIs Tryz.prog w "internal/strconv.uint64pow10" .u64 Lib.pow10Tab) :
    Calls Tryz.prog 8 #[] w fun e w' => e = .returned (.bool true) ∧ Below w.heap.size w w' := by
  have Htab : Hid (Lib.TabIs Tryz.prog w "internal/strconv.uint64pow10" .u64 Lib.pow10Tab) := htab
  clear htab
  go_enter Tryz.func8, Tryz.ntmps8
  go_wp2_with fail
  refine (iof_any 4294967296 _ (by decide) (by decide)).mono ?_
  rintro e W1 ⟨rfl, b1⟩
  go_wp2_with fail
  refine (iof_any 4294967296 _ (by decide) (by decide)).mono ?_
  rintro e W2 ⟨rfl, b2⟩
  go_wp2_with fail
  refine (imul_any _ _ 4294967296 4294967296 2 2 _ (isInt_of (by decide) (by decide)) (isInt_of (by decide) (by decide))).mono ?_
  rintro e W3 ⟨rfl, b3⟩
  have B3 := below_more (below_more b1 (Nat.le_refl _) b2) (Nat.le_refl _) b3
  clear b1 b2 b3
  rw [show (4294967296 : Int) * 4294967296 = 18446744073709551616 by decide]
  go_wp2_with fail
  refine (iof_any (-7) _ (by decide) (by decide)).mono ?_
  rintro e W4 ⟨rfl, b4⟩
  go_wp2_with fail
  refine (iof_any 2 _ (by decide) (by decide)).mono ?_
  rintro e W5 ⟨rfl, b5⟩
  go_wp2_with fail
  refine (idiv_any _ _ (-7) 2 1 1 _ (isInt_of (by decide) (by decide)) (isInt_of (by decide) (by decide)) (by decide) (by decide)).mono ?_
  rintro e W6 ⟨rfl, b6⟩
  rw [show qD (-7) 2 = -4 by decide, show rD (-7) 2 = 1 by decide]
  have u1 := below1 W3 (.cells #[.bool (sg 18446744073709551616), .string (mg 18446744073709551616)] 23)
  have B6 := below_more (below_more (below_more (below_more B3 (Nat.le_refl _) u1) (Nat.le_refl _) b4) (Nat.le_refl _) b5) (Nat.le_refl _) b6
  have n1 := (((IntAt.new W3 23 18446744073709551616).keep b4).keep b5).keep b6
  generalize W3.heap.size = bn at *
  clear u1 b4 b5 b6 B3
  go_wp2_with fail
  refine (iof_any 7 _ (by decide) (by decide)).mono ?_
  rintro e W7 ⟨rfl, b7⟩
  go_wp2_with fail
  refine (iof_any (-2) _ (by decide) (by decide)).mono ?_
  rintro e W8 ⟨rfl, b8⟩
  go_wp2_with fail
  refine (idiv_any _ _ 7 (-2) 1 1 _ (isInt_of (by decide) (by decide)) (isInt_of (by decide) (by decide)) (by decide) (by decide)).mono ?_
  rintro e W9 ⟨rfl, b9⟩
  rw [show qD 7 (-2) = -4 by decide, show rD 7 (-2) = -1 by decide]
  have u6 := below2 W6 (.cells #[.bool (sg (-4)), .string (mg (-4))] 23) (.cells #[.bool (sg 1), .string (mg 1)] 23)
  have q6 := (IntAt.new W6 23 (-4)).keep (below1 _ (.cells #[.bool (sg 1), .string (mg 1)] 23))
  have r6 := IntAt.new (W6.alloc (.cells #[.bool (sg (-4)), .string (mg (-4))] 23)) 23 1
  rw [World.size_alloc] at r6
  have B9 := below_more (below_more (below_more (below_more B6 (Nat.le_refl _) u6) (Nat.le_refl _) b7) (Nat.le_refl _) b8) (Nat.le_refl _) b9
  have n2 := (((n1.keep u6).keep b7).keep b8).keep b9
  have q2 := ((q6.keep b7).keep b8).keep b9
  have r2 := ((r6.keep b7).keep b8).keep b9
  generalize W6.heap.size = bq at *
  clear u6 q6 r6 n1 b7 b8 b9 B6
  go_wp2_with fail
  refine (iof_any 10 _ (by decide) (by decide)).mono ?_
  rintro e W10 ⟨rfl, b10⟩
  go_wp2_with fail
  refine (iroot_any _ 10 1 2 _ (isInt_of (by decide) (by decide)) (by decide) (by decide) (by decide) (by decide)).mono ?_
  rintro e W11 ⟨R, hR, rfl, b11⟩
  obtain rfl := root_ten hR
  clear hR
  have u9 := below2 W9 (.cells #[.bool (sg (-4)), .string (mg (-4))] 23) (.cells #[.bool (sg (-1)), .string (mg (-1))] 23)
  have p9 := (IntAt.new W9 23 (-4)).keep (below1 _ (.cells #[.bool (sg (-1)), .string (mg (-1))] 23))
  have s9 := IntAt.new (W9.alloc (.cells #[.bool (sg (-4)), .string (mg (-4))] 23)) 23 (-1)
  rw [World.size_alloc] at s9
  have B11 := below_more (below_more (below_more B9 (Nat.le_refl _) u9) (Nat.le_refl _) b10) (Nat.le_refl _) b11
  have n3 := ((n2.keep u9).keep b10).keep b11
  have q3 := ((q2.keep u9).keep b10).keep b11
  have r3 := ((r2.keep u9).keep b10).keep b11
  have p3 := (p9.keep b10).keep b11
  have s3 := (s9.keep b10).keep b11
  generalize W9.heap.size = bp at *
  clear u9 p9 s9 n2 q2 r2 b10 b11 B9
  rw [show (((3 : Nat) : Int)) = 3 by rfl]
  go_wp2_with fail
  refine (iof_any (-3) _ (by decide) (by decide)).mono ?_
  rintro e W12 ⟨rfl, b12⟩
  go_wp2_with fail
  refine (ipow_any _ (-3) 1 5 _ (isInt_of (by decide) (by decide)) (by decide) (by decide)).mono ?_
  rintro e W13 ⟨rfl, b13⟩
  rw [show (-3 : Int) ^ 5 = -243 by decide]
  have u11 := below1 W11 (.cells #[.bool (sg 3), .string (mg 3)] 23)
  have w11 := IntAt.new W11 23 3
  have B13 := below_more (below_more (below_more B11 (Nat.le_refl _) u11) (Nat.le_refl _) b12) (Nat.le_refl _) b13
  have n4 := ((n3.keep u11).keep b12).keep b13
  have q4 := ((q3.keep u11).keep b12).keep b13
  have r4 := ((r3.keep u11).keep b12).keep b13
  have p4 := ((p3.keep u11).keep b12).keep b13
  have s4 := ((s3.keep u11).keep b12).keep b13
  have w4 := (w11.keep b12).keep b13
  generalize W11.heap.size = bw at *
  clear u11 w11 n3 q3 r3 p3 s3 b12 b13 B11
  have u13 := below1 W13 (.cells #[.bool (sg (-243)), .string (mg (-243))] 23)
  have m5 := IntAt.new W13 23 (-243)
  have n5 := n4.keep u13
  have q5 := q4.keep u13
  have r5 := r4.keep u13
  have p5 := p4.keep u13
  have s5 := s4.keep u13
  have w5 := w4.keep u13
  have B14 := (below_more B13 (Nat.le_refl _) u13).drew
  clear n4 q4 r4 p4 s4 w4 B13 u13
  have hS : AwkS bn bq bp bw W13.heap.size _ := ⟨n5.1, n5.2, q5.1, q5.2, r5.1, r5.2, p5.1, p5.2, s5.1, s5.2, w5.1, w5.2, m5.1, m5.2⟩
  clear n5 q5 r5 p5 s5 w5 m5
  have HB : Hid (nbits (18446744073709551616 : Int).natAbs = 65) := by show _ = _; rfl
  go_upto_region 6 with fail
  go_region_held3 (fun W => W.cell? ⟨bn, 0, none⟩ = some (.bool (sg (18446744073709551616))) ∧ W.cell? ⟨bn, 1, none⟩ = some (.string (mg (18446744073709551616))) ∧ W.cell? ⟨bq, 0, none⟩ = some (.bool (sg (-4))) ∧ W.cell? ⟨bq, 1, none⟩ = some (.string (mg (-4))) ∧ W.cell? ⟨bq + 1, 0, none⟩ = some (.bool (sg (1))) ∧ W.cell? ⟨bq + 1, 1, none⟩ = some (.string (mg (1))) ∧ W.cell? ⟨bp, 0, none⟩ = some (.bool (sg (-4))) ∧ W.cell? ⟨bp, 1, none⟩ = some (.string (mg (-4))) ∧ W.cell? ⟨bp + 1, 0, none⟩ = some (.bool (sg (-1))) ∧ W.cell? ⟨bp + 1, 1, none⟩ = some (.string (mg (-1))) ∧ W.cell? ⟨bw, 0, none⟩ = some (.bool (sg (3))) ∧ W.cell? ⟨bw, 1, none⟩ = some (.string (mg (3))) ∧ W.cell? ⟨W13.heap.size, 0, none⟩ = some (.bool (sg (-243))) ∧ W.cell? ⟨W13.heap.size, 1, none⟩ = some (.string (mg (-243)))) (first | exact AwkS.keep (bn := bn) (bq := bq) (bp := bp) (bw := bw) (bu := W13.heap.size) (by assumption) (by assumption) | exact hS | go_keep)
    (first
      | (go_at_call 58; refine (print_any _ 18446744073709551616 3 _ (isInt_of (by decide) (by decide)) (tab_keep Htab.out B14)).mono ?_; rintro e X0 ⟨rfl, t0⟩; rw [two64_text]; have B14 := below_more B14 (Nat.le_refl _) t0; have t0 := t0)
      | (go_at_call 59; refine (ibits_any _ 18446744073709551616 3 _ (isInt_of (by decide) (by decide))).mono ?_; rintro e X6 ⟨rfl, t6⟩; rw [HB.out]; have B14 := below_more B14 (Nat.le_refl _) t6; have t6 := t6)
      | (go_at_call 57; refine (iof_any _ _ (by decide) (by decide)).mono ?_; rintro e X1 ⟨rfl, t1⟩; have B14 := below_more B14 (Nat.le_refl _) t1; have t1 := t1))
  all_goals
    go_wp2
    go_ret
    exact ⟨rfl, B14⟩
end Go.Proofs.YtfcdekkoeeaolaaGreatDoor
