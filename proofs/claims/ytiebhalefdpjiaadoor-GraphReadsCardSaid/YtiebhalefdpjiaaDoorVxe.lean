/- What graph.Step returns. Conditions: the edges and the set can be read. -/
import Derived.Test.YtiebhalefdpjiaaDoorVxd
namespace Go.Proofs.YtiebhalefdpjiaaDoor
open Go.RowKit
set_option linter.unusedSimpArgs false
set_option linter.unusedVariables false

set_option maxRecDepth 100000 in
set_option maxHeartbeats 6400000 in
theorem step_any (La S lab : Int) (es : List E3) (v vs : Value) (set : List Int) (w : World) (hrd : EdgesRd w v es) (hn : es.length ≤ 9223372036854775807) (hst : IntsRd w vs set) (hsl : set.length ≤ 9223372036854775807) :
    Calls Tryd.prog 19 #[grV La S v, vs, .int .i64 lab] w (IOut w (stepR La S es set lab)) := by
  have HV := Lib.hid (fun W h => isValid_any La S es v W h hn)
  have HC := Lib.hid (fun W h => checkSet_any La S v vs set W h hsl)
  have HL := Lib.hid (fun W => isLabel_any La S v lab W)
  have HRD := Lib.hid hrd
  have HST := Lib.hid hst
  have b0 := below_more (below1 w (.cells #[.int .i64 La, .int .i64 S, v] 24)) (Nat.le_refl _) (below1 _ (.cells #[.int .i64 lab] 3))
  have BO := Lib.hid b0
  have K0 := Lib.hid ((BoxG.new w La S v 24).keep (below1 _ (.cells #[.int .i64 lab] 3)))
  have L0 := Lib.hid (show ((w.alloc (.cells #[.int .i64 La, .int .i64 S, v] 24)).alloc (.cells #[.int .i64 lab] 3)).cell? ⟨w.heap.size + 1, 0, none⟩ = some (.int .i64 lab) by
    rw [← World.size_alloc w (.cells #[.int .i64 La, .int .i64 S, v] 24)]; simp [go_sem])
  by_cases h0 : chkG La S es = 0
  · have H0 := Lib.hid (show (chkG La S es == 0) = true by rw [h0]; rfl)
    by_cases h1 : chkS S none set = 0
    · have H1 := Lib.hid h1
      by_cases h2 : 0 ≤ lab ∧ lab < La
      · have hs1 := (chkG_zero h0).s1
        obtain ⟨n, rfl⟩ : ∃ n : Nat, S = (n : Int) := ⟨S.toNat, by omega⟩
        refine (step_good La n es v vs set lab w hrd (chkG_zero h0) hst (chkS_ok h1) h2).mono ?_
        rintro e w' ⟨u, rfl, i1, b1⟩
        rw [stepR_good h0 h1 h2]
        exact ⟨u, rfl, i1, b1⟩
      · have HE := Lib.hid (stepR_lab h0 h1 h2)
        have H2 := Lib.hid (show inB La lab = false from decide_eq_false h2)
        obtain ⟨a, c, rfl⟩ := hrd.form
        obtain ⟨a2, c2, rfl⟩ := hst.form
        clear h0 h1 h2 hrd hst b0
        refine (callsIn_wide (n := 8)).1 ?_
        refine callsIn_of_wp_marks Tryd.func19 rfl trivial ?_ rfl
        simp only [Tryd.ntmps19, List.size_toArray, List.length_cons, List.length_nil, Nat.reduceAdd, Nat.reduceSub, Array.replicate_succ, Array.replicate_zero, List.push_toArray, List.append_toArray, List.nil_append, List.cons_append]
        gi_wp2_with (first | (refine ⟨trivial, ?_⟩; gi_at_call 44; (with_reducible refine (callsIn_wide.2 (HV.out _ (HRD.out.keep BO.out))).mono ?_); rintro e W1 ⟨rfl, b1⟩; (rw [H0.out]); (have K1 := Lib.hid (K0.out.keep b1)); (have L1 := Lib.hid (cell_keep L0.out b1)); (have B1 := Lib.hid (below_more BO.out (Nat.le_refl _) b1)); (clear b1); (obtain ⟨g1, g2, g3⟩ := id K1.out)) | (refine ⟨trivial, ?_⟩; gi_at_call 46; (with_reducible refine (callsIn_wide.2 (HC.out _ (IntsRd.keep HST.out B1.out))).mono ?_); rintro e W2 ⟨rfl, b2⟩; (rw [H1.out]); (have K2 := Lib.hid (K1.out.keep b2)); (have L2 := Lib.hid (cell_keep L1.out b2)); (have B2 := Lib.hid (below_more B1.out (Nat.le_refl _) b2)); (clear b2 g1 g2 g3); (obtain ⟨g1, g2, g3⟩ := id K2.out); (have g4 := L2.out)) | (refine ⟨trivial, ?_⟩; gi_at_call 41; (with_reducible refine (callsIn_wide.2 (HL.out _)).mono ?_); rintro e W3 ⟨rfl, b3⟩; (rw [H2.out]); (have B3 := Lib.hid (below_more B2.out (Nat.le_refl _) b3)); (clear b3)))
        refine marks_leave (B := w.heap.size) (fun X => Below w.heap.size w X) ?_ ?_ [] W3 trivial B3.out
        · rintro X r x2 hr hX
          exact below_put9 x2 r hr _
        · rintro X x2
          exact ⟨.tuple #[.slice none 0 0, .int .i64 2], by simp [results, Tryd.results19, go_sem], _, by rw [HE.out], by rw [HE.out]; exact ints_nil _ _, x2⟩
    · have HE := Lib.hid (stepR_set (lab := lab) h0 h1)
      obtain ⟨a, c, rfl⟩ := hrd.form
      obtain ⟨a2, c2, rfl⟩ := hst.form
      obtain ⟨z, hz⟩ : ∃ z, chkS S none set = z := ⟨_, rfl⟩
      simp only [hz] at HC HE
      rw [hz] at h1
      have d1 : (z != 0) = true := by simpa using h1
      clear h0 h1 hrd hst b0 hz
      refine (callsIn_wide (n := 8)).1 ?_
      refine callsIn_of_wp_marks Tryd.func19 rfl trivial ?_ rfl
      simp only [Tryd.ntmps19, List.size_toArray, List.length_cons, List.length_nil, Nat.reduceAdd, Nat.reduceSub, Array.replicate_succ, Array.replicate_zero, List.push_toArray, List.append_toArray, List.nil_append, List.cons_append]
      gi_wp2_with (first | (refine ⟨trivial, ?_⟩; gi_at_call 44; (with_reducible refine (callsIn_wide.2 (HV.out _ (HRD.out.keep BO.out))).mono ?_); rintro e W1 ⟨rfl, b1⟩; (rw [H0.out]); (have K1 := Lib.hid (K0.out.keep b1)); (have L1 := Lib.hid (cell_keep L0.out b1)); (have B1 := Lib.hid (below_more BO.out (Nat.le_refl _) b1)); (clear b1); (obtain ⟨g1, g2, g3⟩ := id K1.out)) | (refine ⟨trivial, ?_⟩; gi_at_call 46; (with_reducible refine (callsIn_wide.2 (HC.out _ (IntsRd.keep HST.out B1.out))).mono ?_); rintro e W2 ⟨rfl, b2⟩; (have K2 := Lib.hid (K1.out.keep b2)); (have L2 := Lib.hid (cell_keep L1.out b2)); (have B2 := Lib.hid (below_more B1.out (Nat.le_refl _) b2)); (clear b2 g1 g2 g3); (obtain ⟨g1, g2, g3⟩ := id K2.out); (have g4 := L2.out)))
      refine marks_leave (B := w.heap.size) (fun X => Below w.heap.size w X) ?_ ?_ [] W2 trivial B2.out
      · rintro X r x2 hr hX
        exact below_put9 x2 r hr _
      · rintro X x2
        exact ⟨.tuple #[.slice none 0 0, .int .i64 z], by simp [results, Tryd.results19, go_sem], _, by rw [HE.out], by rw [HE.out]; exact ints_nil _ _, x2⟩
  · have HE := Lib.hid (stepR_bad (set := set) (lab := lab) h0)
    have H0 := Lib.hid (show (chkG La S es == 0) = false by simpa using h0)
    obtain ⟨a, c, rfl⟩ := hrd.form
    obtain ⟨a2, c2, rfl⟩ := hst.form
    clear h0 hrd hst b0
    refine (callsIn_wide (n := 8)).1 ?_
    refine callsIn_of_wp_marks Tryd.func19 rfl trivial ?_ rfl
    simp only [Tryd.ntmps19, List.size_toArray, List.length_cons, List.length_nil, Nat.reduceAdd, Nat.reduceSub, Array.replicate_succ, Array.replicate_zero, List.push_toArray, List.append_toArray, List.nil_append, List.cons_append]
    gi_wp2_with (refine ⟨trivial, ?_⟩; gi_at_call 44; (with_reducible refine (callsIn_wide.2 (HV.out _ (HRD.out.keep BO.out))).mono ?_); rintro e W1 ⟨rfl, b1⟩; (rw [H0.out]); (have K1 := Lib.hid (K0.out.keep b1)); (have L1 := Lib.hid (cell_keep L0.out b1)); (have B1 := Lib.hid (below_more BO.out (Nat.le_refl _) b1)); (clear b1); (obtain ⟨g1, g2, g3⟩ := id K1.out))
    refine marks_leave (B := w.heap.size) (fun X => Below w.heap.size w X) ?_ ?_ [] W1 trivial B1.out
    · rintro X r x2 hr hX
      exact below_put9 x2 r hr _
    · rintro X x2
      exact ⟨.tuple #[.slice none 0 0, .int .i64 1], by simp [results, Tryd.results19, go_sem], _, by rw [HE.out], by rw [HE.out]; exact ints_nil _ _, x2⟩
end Go.Proofs.YtiebhalefdpjiaaDoor
