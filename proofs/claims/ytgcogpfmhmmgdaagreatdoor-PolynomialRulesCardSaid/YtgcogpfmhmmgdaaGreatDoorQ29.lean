/- What rational.apply returns at the place 2 of its table. Condition: the integers have at most 10^6 digits to the base 2^32. -/
import Derived.Test.YtgcogpfmhmmgdaaGreatDoorQ27

namespace Go.Proofs.YtgcogpfmhmmgdaaGreatDoor
open Go.RowKit
set_option linter.unusedSimpArgs false

set_option maxRecDepth 100000 in
set_option maxHeartbeats 6400000 in
theorem app2_any (v1 v2 : Value) (p q : Rat) (k : Nat) (w : World) (h1 : IsRat v1 p k) (h2 : IsRat v2 q k) (hk : k ≤ 1000000) :
    Calls Tryz.prog 59 #[.int .i64 2, v1, v2] w (RatGood w (p * q)) := by
  have H1 := Lib.hid h1
  have H2 := Lib.hid h2
  obtain ⟨na, sa, nb, sb, -, -, rfl, -⟩ := h1
  obtain ⟨nc, sc, nd, sd, -, -, rfl, -⟩ := h2
  have S00 : RIn2 (((w.alloc (.cells #[.bool na, .string sa, .bool nb, .string sb] 33)).alloc (.cells #[.bool nc, .string sc, .bool nd, .string sd] 33)).alloc (.cells #[.bool false, .string ⟨#[]⟩, .bool false, .string ⟨#[]⟩] 33)) (w.heap.size) (w.heap.size + 1) na sa nb sb nc sc nd sd := by
    refine ⟨?_, ?_, ?_, ?_, ?_, ?_, ?_, ?_⟩ <;> simp [go_sem]
  have P0 := ResRat.new ((w.alloc (.cells #[.bool na, .string sa, .bool nb, .string sb] 33)).alloc (.cells #[.bool nc, .string sc, .bool nd, .string sd] 33))
  rw [World.size_alloc, World.size_alloc] at P0
  have B0 := below3 w (.cells #[.bool na, .string sa, .bool nb, .string sb] 33) (.cells #[.bool nc, .string sc, .bool nd, .string sd] 33) (.cells #[.bool false, .string ⟨#[]⟩, .bool false, .string ⟨#[]⟩] 33)
  go_enter Tryz.func59, Tryz.ntmps59
  go_wp2_with fail
  refine (table_any _).mono ?_
  rintro e V1 ⟨c1, c2, rfl, Q1, Q2, b0⟩
  have hbl := below1 V1 (.cells #[(.func (.func 118) #[] #[]), (.func (.func 115) #[] #[])] 103)
  have L8' := (P0.keep b0).1.lt
  have S01 := (S00.keep b0).keep hbl
  have P1 := (P0.keep b0).keep hbl
  have B1 := below_more (below_more B0 (Nat.le_refl _) b0) (Nat.le_refl _) hbl
  have Q1 := cell_keep Q1 hbl
  have Q2 := cell_keep Q2 hbl
  have O1 : (V1.alloc (.cells #[(.func (.func 118) #[] #[]), (.func (.func 115) #[] #[])] 103)).cell? ⟨V1.heap.size, 0, none⟩ = some (.func (.func 118) #[] #[]) := by simp [go_sem]
  have O2 : (V1.alloc (.cells #[(.func (.func 118) #[] #[]), (.func (.func 115) #[] #[])] 103)).cell? ⟨V1.heap.size, 1, none⟩ = some (.func (.func 115) #[] #[]) := by simp [go_sem]
  clear S00 P0 B0 b0 hbl
  have hidx : Sem.run Tryz.prog (Instr.index 104 (.agg #[(.func (.func 116) #[] #[.pointer (some ⟨c1, 0, none⟩), .pointer (some ⟨c2, 0, none⟩)]), (.func (.func 115) #[] #[]), (.func (.func 117) #[] #[.pointer (some ⟨c1, 0, none⟩), .pointer (some ⟨c2, 0, none⟩)]), (.func (.func 115) #[] #[]), (.func (.func 118) #[] #[]), (.func (.func 115) #[] #[]), (.func (.func 113) #[] #[]), (.func (.func 114) #[] #[])]) (.int .i64 2)) V1 = .ok (.agg #[(.func (.func 118) #[] #[]), (.func (.func 115) #[] #[])]) V1 := by kernel_rfl
  go_upto_region 2 with fail
  have L8 : w.heap.size + 1 + 1 < V1.heap.size := L8'
  have L0 : w.heap.size + 1 + 1 < (V1.alloc (.cells #[(.func (.func 118) #[] #[]), (.func (.func 115) #[] #[])] 103)).heap.size := by rw [World.size_alloc]; omega
  generalize V1.alloc (.cells #[(.func (.func 118) #[] #[]), (.func (.func 115) #[] #[])] 103) = W0 at *
  generalize V1.heap.size = p8 at *
  go_cut [9, 10] (fun s9 s10 wx => ∃ p9 p10 g1 t1 g2 t2 g3 t3 g4 t4, s9 = .pointer (some ⟨p9, 0, none⟩) ∧ s10 = .pointer (some ⟨p10, 0, none⟩) ∧ RIn2 wx p9 p10 g1 t1 g2 t2 g3 t3 g4 t4 ∧ IsUp (.agg #[.bool g1, .string t1, .bool g2, .string t2]) p (max k 1) ∧ IsUp (.agg #[.bool g3, .string t3, .bool g4, .string t4]) q (max k 1) ∧ Below W0.heap.size W0 wx ∧ W0.heap.size ≤ p9 ∧ W0.heap.size ≤ p10)
  case first =>
    have hb := Below.refl W0.heap.size W0
    have hbd := hb.drew
    have hl1 : w.heap.size + 1 < W0.heap.size := S01.snd.lt
    have S0 : RIn2 W0.drew w.heap.size (w.heap.size + 1) na sa nb sb nc sc nd sd := S01
    go_region_held3 (fun W => W.cell? ⟨w.heap.size, 0, none⟩ = some (.bool na) ∧ W.cell? ⟨w.heap.size, 1, none⟩ = some (.string sa) ∧ W.cell? ⟨w.heap.size, 2, none⟩ = some (.bool nb) ∧ W.cell? ⟨w.heap.size, 3, none⟩ = some (.string sb) ∧ W.cell? ⟨w.heap.size + 1, 0, none⟩ = some (.bool nc) ∧ W.cell? ⟨w.heap.size + 1, 1, none⟩ = some (.string sc) ∧ W.cell? ⟨w.heap.size + 1, 2, none⟩ = some (.bool nd) ∧ W.cell? ⟨w.heap.size + 1, 3, none⟩ = some (.string sd)) ((show RIn2 _ w.heap.size (w.heap.size + 1) na sa nb sb nc sc nd sd; repeat (first | with_reducible exact S2 | with_reducible exact S1 | with_reducible exact S0 | with_reducible exact S01 | with_reducible refine RIn2.drew ?_ | with_reducible refine RIn2.alloc ?_ _ | ((with_reducible refine RIn2.set ?_ _ _ ?_ ?_); rotate_left; (dsimp only; omega); (dsimp only; omega)))))
      (first
        | (go_at_call_of 92 (Value.agg #[Value.bool na, Value.string sa, Value.bool nb, Value.string sb]); refine (upright_any _ p k _ H1.out).mono ?_; rintro e W1 ⟨_, rfl, hup, b1⟩; have HU1 := Lib.hid hup; obtain ⟨g1, t1, g2, t2, -, -, rfl, -⟩ := hup; have S1 : RIn2 W1 w.heap.size (w.heap.size + 1) na sa nb sb nc sc nd sd := RIn2.keep (by (repeat (first | with_reducible exact S2 | with_reducible exact S0 | with_reducible exact S01 | with_reducible refine RIn2.drew ?_ | with_reducible refine RIn2.alloc ?_ _))) b1; obtain ⟨c1, f1⟩ := bcell b1; have y1 := b1.size; (try simp only [World.size_alloc, World.size_drew] at y1); (have u1 : w.heap.size + 1 < W1.heap.size := (by omega)); (try have u2 : W0.heap.size < W1.heap.size := (by omega)); (try have u3 : W0.heap.size + 1 < W1.heap.size := (by omega)))
        | (go_at_call_of 92 (Value.agg #[Value.bool nc, Value.string sc, Value.bool nd, Value.string sd]); refine (upright_any _ q k _ H2.out).mono ?_; rintro e W2 ⟨_, rfl, hup, b2⟩; have HU2 := Lib.hid hup; obtain ⟨g3, t3, g4, t4, -, -, rfl, -⟩ := hup; have S2 : RIn2 W2 w.heap.size (w.heap.size + 1) na sa nb sb nc sc nd sd := RIn2.keep (by (repeat (first | with_reducible exact S1 | with_reducible exact S0 | with_reducible exact S01 | with_reducible refine RIn2.drew ?_ | with_reducible refine RIn2.alloc ?_ _))) b2; obtain ⟨c2, f2⟩ := bcell b2; have y2 := b2.size; (try simp only [World.size_alloc, World.size_drew] at y2); (have u4 : w.heap.size + 1 < W2.heap.size := (by omega)); (try have u5 : W0.heap.size < W2.heap.size := (by omega)); (try have u6 : W0.heap.size + 1 < W2.heap.size := (by omega)); (try have u7 : W1.heap.size < W2.heap.size := (by omega)); (try have u8 : W1.heap.size + 1 < W2.heap.size := (by omega))))
    all_goals go_wp2_with fail
    all_goals go_meet
    all_goals have z1 : W0.heap.size ≤ W1.heap.size := by omega
    all_goals have z2 : W0.heap.size ≤ W2.heap.size := by omega
    all_goals have z3 : W0.heap.size ≤ W0.heap.size := Nat.le_refl _
    all_goals have z4 : W0.heap.size ≤ W0.heap.size + 1 := by omega
    all_goals have z5 := Nat.le_succ_of_le z1
    all_goals have z6 := Nat.le_succ_of_le z2
    all_goals refine ⟨_, _, g1, t1, g2, t2, g3, t3, g4, t4, rfl, rfl, ?_, HU1.out, HU2.out, ?_, by (first | exact z1 | exact z2 | exact z3 | exact z4 | exact z5 | exact z6), by (first | exact z1 | exact z2 | exact z3 | exact z4 | exact z5 | exact z6)⟩
    all_goals clear HU1 HU2 H1 H2
    all_goals (first | (with_reducible refine RIn2.mk ?_ ?_) | skip)
    all_goals (repeat (first
      | (with_reducible refine RIn.new ?_; (first | rfl | (simp only [World.size_alloc, World.size_setCell, World.size_drew]; done) | (simp only [World.size_alloc, World.size_setCell, World.size_drew]; omega) | omega))
      | with_reducible refine RIn.made ?_ _ _ _ _
      | ((with_reducible refine RIn.set ?_ _ ?_ _); rotate_left; (dsimp only; omega))
      | with_reducible refine RIn.alloc ?_ _
      | (with_reducible refine Four.new ?_; (first | rfl | (simp only [World.size_alloc, World.size_setCell, World.size_drew]; done) | (simp only [World.size_alloc, World.size_setCell, World.size_drew]; omega) | omega))
      | ((with_reducible refine Four.set ?_ _ ?_ _); rotate_left; (dsimp only; omega))
      | with_reducible refine Four.alloc ?_ _
      | with_reducible refine Four.keep ?_ b2
      | with_reducible refine Four.keep ?_ b1))
    all_goals (repeat (first | (with_reducible refine below_st ?_ _ _ ?_ _; rotate_left; (first | with_reducible exact z1 | with_reducible exact z2 | with_reducible exact z3 | with_reducible exact z4 | with_reducible exact z5 | with_reducible exact z6)) | with_reducible refine below_al ?_ _ | with_reducible refine below_more ?_ (Nat.le_refl _) b2 | with_reducible refine below_more ?_ (Nat.le_refl _) b1 | with_reducible exact hbd))
    all_goals (first
      | (show Below _ _ _; first | exact (below_al hb _).drew | exact (below_al (below_al hb _) _).drew)
      | (refine Four.drew ?_; repeat (first | (with_reducible refine Four.new ?_; (first | rfl | (simp only [World.size_alloc, World.size_setCell, World.size_drew]; done) | (simp only [World.size_alloc, World.size_setCell, World.size_drew]; omega) | omega)) | with_reducible refine Four.alloc ?_ _)))
  case rest =>
    obtain ⟨p9, p10, g1, t1, g2, t2, g3, t3, g4, t4, rfl, rfl, hS, U1, U2, hB, m9, m10⟩ := hcut
    obtain ⟨_, _, _, _, n1, d1, e1, i1, i2, i3, i4⟩ := U1
    obtain ⟨_, _, _, _, n2, d2, e2, j1, j2, j3, j4⟩ := U2
    injection e1 with e1
    injection e2 with e2
    simp only [Array.mk.injEq, List.cons.injEq, Value.bool.injEq, Value.string.injEq, and_true] at e1 e2
    obtain ⟨rfl, rfl, rfl, rfl⟩ := e1
    obtain ⟨rfl, rfl, rfl, rfl⟩ := e2
    have P2 := P1.keep hB
    have Q1 := cell_keep Q1 hB
    have Q2 := cell_keep Q2 hB
    have O1 := cell_keep O1 hB
    have O2 := cell_keep O2 hB
    have B2 := below_more B1 (Nat.le_refl _) hB
    clear S01 P1 B1 hB
    have I1 := Lib.hid i1
    have I2 := Lib.hid i2
    have J1 := Lib.hid j1
    have J2 := Lib.hid j2
    obtain ⟨x, En⟩ : ∃ x, Hid (n1 * n2 = x) := ⟨_, Lib.hid rfl⟩
    obtain ⟨y, Ed⟩ : ∃ x, Hid (d1 * d2 = x) := ⟨_, Lib.hid rfl⟩
    have hk1 : max k 1 ≤ 1000000 := by omega
    have E0 := Lib.hid (show y ≠ 0 by
      rw [← Ed.out]
      exact Int.ne_of_gt (Int.mul_pos i3 j3))
    have Ev := Lib.hid (show Rat.divInt x y = p * q by rw [← En.out, ← Ed.out, ← i4, ← j4]; exact (Rat.divInt_mul_divInt n1 n2).symm)
    have Jx := Lib.hid (show IsInt (.agg #[.bool (sg x), .string (mg x)]) x 4000001 from (isInt_mg (db_mul I1.out.bd J1.out.bd En.out) (by omega)).wider (by omega) (by omega))
    have Jy := Lib.hid (show IsInt (.agg #[.bool (sg y), .string (mg y)]) y 4000001 from (isInt_mg (db_mul I2.out.bd J2.out.bd Ed.out) (by omega)).wider (by omega) (by omega))
    clear i1 i2 i3 i4 j1 j2 j3 j4
    have T00 : Ten8 wc (.func (.func 118) #[] #[]) (.func (.func 115) #[] #[]) c1 c2 p8 p9 p10 g1 t1 g2 t2 g3 t3 g4 t4 := ⟨O1, O2, Q1, Q2, hS⟩
    have T0 : Ten8 wc.drew (.func (.func 118) #[] #[]) (.func (.func 115) #[] #[]) c1 c2 p8 p9 p10 g1 t1 g2 t2 g3 t3 g4 t4 := T00
    have x1 := cell_ne Q1 P2.1.1
    have x2 := cell_ne Q2 P2.1.1
    have x3 : p8 ≠ w.heap.size + 1 + 1 := by omega
    have x4 : p9 ≠ w.heap.size + 1 + 1 := by omega
    have x5 : p10 ≠ w.heap.size + 1 + 1 := by omega
    clear O1 O2 Q1 Q2 hS
    have P3 : ResRat wc.drew (w.heap.size + 1 + 1) := P2
    go_upto_region 3 with fail
    go_region_held3 (fun W => W.cell? ⟨p8, 0, none⟩ = some (.func (.func 118) #[] #[]) ∧ W.cell? ⟨p8, 1, none⟩ = some (.func (.func 115) #[] #[]) ∧ W.cell? ⟨c1, 0, none⟩ = some (.func (.func 113) #[] #[]) ∧ W.cell? ⟨c2, 0, none⟩ = some (.func (.func 114) #[] #[]) ∧ W.cell? ⟨p9, 0, none⟩ = some (.bool g1) ∧ W.cell? ⟨p9, 1, none⟩ = some (.string t1) ∧ W.cell? ⟨p9, 2, none⟩ = some (.bool g2) ∧ W.cell? ⟨p9, 3, none⟩ = some (.string t2) ∧ W.cell? ⟨p10, 0, none⟩ = some (.bool g3) ∧ W.cell? ⟨p10, 1, none⟩ = some (.string t3) ∧ W.cell? ⟨p10, 2, none⟩ = some (.bool g4) ∧ W.cell? ⟨p10, 3, none⟩ = some (.string t4)) (first | exact T00 | exact T0 | exact Ten8.keep T0 (by assumption) | exact Ten8.keep T1 (by assumption) | exact Ten8.keep T2 (by assumption) | exact Ten8.set4 (Ten8.keep T2 (by assumption)) (w.heap.size + 1 + 1) _ _ _ _ x1 x2 x3 x4 x5 | go_keep)
      (first
        | (go_at_call 118; refine (ops6_any g1 g2 g3 g4 t1 t2 t3 t4 n1 n2 (max k 1) _ I1.out J1.out).mono ?_; rintro e W1 ⟨rfl, b1⟩; rw [En.out]; have T1 := T0.keep b1; have P4 := P3.keep b1)
        | (go_at_call 115; refine (ops3_any g1 g2 g3 g4 t1 t2 t3 t4 d1 d2 (max k 1) _ I2.out J2.out).mono ?_; rintro e W2 ⟨rfl, b2⟩; rw [Ed.out]; have T2 := T1.keep b2; have P5 := P4.keep b2)
        | (go_at_call 93; refine (new_some _ _ x y 4000001 _ Jx.out Jy.out E0.out).mono ?_; rw [Ev.out]; rintro e W3 ⟨rfl, b3⟩; obtain ⟨⟨r1, r2, r3, r4⟩, r5, r6, r7, r8⟩ := P5.keep b3; (try unfold ratV)))
    all_goals
      go_wp2
      exact bodyPost_ret (v := .tuple #[ratV (p * q), .int .i64 0]) (by simp [results, Tryz.results59, go_sem, r1, r2, r3, r4, ratV]) rfl ⟨rfl, below4s (below_more (below_more (below_more B2.drew (Nat.le_refl _) b1) (Nat.le_refl _) b2) (Nat.le_refl _) b3) _ (by omega) _ _ _ _⟩
end Go.Proofs.YtgcogpfmhmmgdaaGreatDoor
