/- ComponentParts: the reference's Irreducible, and the walk. Condition: the edges can be read. -/
import Derived.Test.YtfkplnmhlpabaaaMd
import Derived.Test.YtfkplnmhlpabaaaLm
namespace Go.Proofs.Ytfkplnmhlpabaaa
open Go.RowKit Go.Shelf
set_option linter.unusedSimpArgs false
set_option linter.unusedVariables false

theorem parts_filter (L S : Int) (es : List E3) (q : List Int → Bool) : (partsR L S es (fun _ => true)).filter q = partsR L S es q := by
  unfold partsR
  split
  · rw [List.filter_eq_self.2 (fun _ _ => rfl)]
  · rfl
theorem parts_row {L S : Int} {es : List E3} {q : List Int → Bool} {x : List Int} (hx : x ∈ partsR L S es q) : x.length ≤ 64 := by
  unfold partsR at hx
  split at hx
  · obtain ⟨r, -, rfl⟩ := comps_mem (List.mem_filter.1 hx).1
    have := (chkG_zero ‹_›).s2
    have := (chkG_zero ‹_›).s1
    exact Nat.le_trans (compF_len _ _ _) (by omega)
  · cases hx
theorem parts_len (L S : Int) (es : List E3) (q : List Int → Bool) : (partsR L S es q).length ≤ 64 := by
  unfold partsR
  split
  · have := (chkG_zero ‹_›).s2
    have := (chkG_zero ‹_›).s1
    exact Nat.le_trans (List.length_filter_le _ _) (Nat.le_trans (comps_len _ _) (by omega))
  · exact Nat.zero_le _
theorem irr_parts {L : Int} {n : Nat} {es : List E3} (h : ∀ e ∈ es, okE L (n : Int) e = true) : irrB es n = (decide ((comps es n).length = 1) && decide ((cycs es n).length = 1)) := by
  rw [Bool.eq_iff_iff, Bool.and_eq_true, decide_eq_true_iff, decide_eq_true_iff]
  constructor
  · intro hi
    have h1 : (cycs es n).length = 1 := by
      unfold irrB at hi
      rw [Bool.and_eq_true, decide_eq_true_iff] at hi
      exact hi.1
    obtain ⟨hne, hc⟩ := (irr_iff h).1 hi
    refine ⟨?_, h1⟩
    have h2 : 1 ≤ (comps es n).length := by
      have h3 : (cycs es n).length ≤ (comps es n).length := List.length_filter_le _ _
      omega
    unfold comps at h2 ⊢
    rw [List.length_map] at h2 ⊢
    have h3 : ∀ i j r s : Nat, (repsK es n n)[i]? = some r → (repsK es n n)[j]? = some s → i = j := fun i j r s hr hs => by
      have mr := List.mem_of_getElem? hr
      have ms := List.mem_of_getElem? hs
      have rn := (reps_lt mr).1
      have sn := (reps_lt ms).1
      obtain rfl : r = s := rep_one mr ms ((compB_iff h rn sn).2 ⟨hc r s rn sn, hc s r sn rn⟩)
      exact reps_idx hr hs
    refine Classical.byContradiction fun hlen => ?_
    have h4 : 1 < (repsK es n n).length := by omega
    have := h3 0 1 _ _ (List.getElem?_eq_getElem (by omega)) (List.getElem?_eq_getElem h4)
    omega
  · rintro ⟨h1, h2⟩
    unfold irrB
    rw [Bool.and_eq_true, decide_eq_true_iff, decide_eq_true_iff]
    refine ⟨h2, ?_⟩
    obtain ⟨c, hc⟩ := List.length_eq_one_iff.1 h1
    obtain ⟨d, hd⟩ := List.length_eq_one_iff.1 h2
    have hdc : d ∈ comps es n := (List.mem_filter.1 (show d ∈ cycs es n by rw [hd]; exact List.mem_singleton_self _)).1
    rw [hc] at hdc
    obtain rfl := List.mem_singleton.1 hdc
    rw [hd]
    show d.length = n
    obtain ⟨r, hr, rfl⟩ := comps_mem (show d ∈ comps es n by rw [hc]; exact List.mem_singleton_self _)
    have hall : ∀ t, t < n → compB es n r t = true := fun t ht => by
      obtain ⟨j, q, a1, a2, a3, a4, a5⟩ := comps_all h ht
      have hj : j = 0 := by rw [h1] at a1; omega
      subst hj
      rw [hc] at a5
      obtain ⟨y, hy, hyn, y1, y2⟩ := (compF_mem h (reps_lt hr).1).1 (show (t : Int) ∈ compF es n r from a5)
      obtain rfl : t = y := by omega
      exact (compB_iff h (reps_lt hr).1 ht).2 ⟨y1, y2⟩
    unfold compF
    rw [mems_all hall, allI_len]
set_option maxRecDepth 100000 in
set_option maxHeartbeats 3200000 in
theorem refIrr_any (L S : Int) (es : List E3) (v : Value) (w : World) (hrd : EdgesRd w v es) (hn : es.length ≤ 9223372036854775807) :
    Calls Try.prog 21 #[grV L S v] w fun e w' => e = .returned (.tuple #[.bool (irrR L S es), .int .i64 (errC L S es)]) ∧ Below w.heap.size w w' := by
  have HOF := Lib.hid (fun W h => refOf_any L S es v W h hn)
  have HCY := Lib.hid (fun W h => refCyc_any L S es v W h hn)
  rw [parts_filter] at HCY
  have hir : irrR L S es = (decide (errC L S es = 0) && (decide ((partsR L S es (fun _ => true)).length = 1) && decide ((partsR L S es (fun c => hasEd es c true)).length = 1))) := by
    unfold irrR errC partsR
    by_cases h0 : chkG L S es = 0
    · rw [if_pos h0, if_pos h0, if_pos h0, if_pos h0, List.filter_eq_self.2 (fun _ _ => rfl)]
      have hvg := chkG_zero h0
      have hs1 := hvg.s1
      obtain ⟨n, rfl⟩ : ∃ n : Nat, S = (n : Int) := ⟨S.toNat, by omega⟩
      rw [Int.toNat_natCast, irr_parts hvg.ok]
      rfl
    · rw [if_neg h0, if_neg h0]; rfl
  obtain ⟨K, hK⟩ : ∃ K, partsR L S es (fun _ => true) = K := ⟨_, rfl⟩
  obtain ⟨M, hM⟩ : ∃ M, partsR L S es (fun c => hasEd es c true) = M := ⟨_, rfl⟩
  obtain ⟨z, hz⟩ : ∃ z, errC L S es = z := ⟨_, rfl⟩
  obtain ⟨I, hI⟩ : ∃ I, irrR L S es = I := ⟨_, rfl⟩
  rw [hK, hz] at HOF
  rw [hM, hz] at HCY
  rw [hK, hM, hz, hI] at hir
  rw [hz, hI]
  have b1 := below1 w (.cells #[.int .i64 L, .int .i64 S, v] 24)
  have G1 := Lib.hid (BoxG.new w L S v 24)
  have HB := Lib.hid b1
  have HRD := Lib.hid hrd
  obtain ⟨a, c, rfl⟩ := hrd.form
  obtain ⟨x1, x2, x3⟩ := id G1.out
  obtain ⟨d1, hd1⟩ : ∃ d, (z == 0) = d := ⟨_, rfl⟩
  obtain ⟨d2, hd2⟩ : ∃ d, ((K.length : Int) == 1) = d := ⟨_, rfl⟩
  obtain ⟨d3, hd3⟩ : ∃ d, ((M.length : Int) == 1) = d := ⟨_, rfl⟩
  have e1 : decide (z = 0) = d1 := by rw [← hd1, Bool.eq_iff_iff, decide_eq_true_iff, beq_iff_eq]
  have e2 : decide (K.length = 1) = d2 := by rw [← hd2, Bool.eq_iff_iff, decide_eq_true_iff, beq_iff_eq]; omega
  have e3 : decide (M.length = 1) = d3 := by rw [← hd3, Bool.eq_iff_iff, decide_eq_true_iff, beq_iff_eq]; omega
  rw [e1, e2, e3] at hir
  have HI := Lib.hid hir
  clear hrd b1 hK hM hz hI hir e1 e2 e3
  cases d1 <;> cases d2 <;> cases d3
  all_goals
    go_enter Try.func21, Try.ntmps21
    go_wp2_with (first
      | (go_at_call 15; (with_reducible refine (HOF.out _ (HRD.out.keep HB.out)).mono ?_); rintro e W2 ⟨v2, rfl, r2, b2⟩; (have B2 := Lib.hid (below_more HB.out (Nat.le_refl _) b2)); (have G2 := Lib.hid (G1.out.keep b2)); (obtain ⟨a2, c2, rfl⟩ := r2.form); clear b2 r2 x1 x2 x3; (obtain ⟨x1, x2, x3⟩ := id G2.out))
      | (go_at_call 17; (with_reducible refine (HCY.out _ (HRD.out.keep B2.out)).mono ?_); rintro e W3 ⟨v3, rfl, r3, b3⟩; (have B3 := Lib.hid (below_more B2.out (Nat.le_refl _) b3)); (obtain ⟨a3, c3, rfl⟩ := r3.form); clear b3 r3 x1 x2 x3))
    exact bodyPost_ret (v := .tuple #[.bool I, .int .i64 z]) (by rw [HI.out]; simp [results, Try.results21, go_sem]) rfl ⟨rfl, B3.out⟩
set_option maxRecDepth 100000 in
set_option maxHeartbeats 6400000 in
theorem compParts_any (L S : Int) (es : List E3) (v : Value) (w : World) (hrd : EdgesRd w v es) (hn : es.length ≤ 9223372036854775807) :
    Calls Try.prog 3 #[grV L S v] w fun e w' => e = .returned (.bool true) ∧ Below w.heap.size w w' := by
  have b1 := below1 w (.cells #[.int .i64 L, .int .i64 S, v] 24)
  have G0 := Lib.hid (BoxG.new w L S v 24)
  have HB0 := Lib.hid b1
  have HRD := Lib.hid hrd
  have HAW := Lib.hid (fun W => awake_any W)
  have HOF := Lib.hid (fun W h => of_any L S es v W h hn)
  have HOR := Lib.hid (fun W h => refOf_any L S es v W h hn)
  have HCY := Lib.hid (fun W h => cyclic_any L S es v W h hn)
  have HCR := Lib.hid (fun W h => refCyc_any L S es v W h hn)
  have HSK := Lib.hid (fun W h => sinks_any L S es v W h hn)
  have HSR := Lib.hid (fun W h => refSnk_any L S es v W h hn)
  have HIR := Lib.hid (fun W h => irreducible_any L S es v W h hn)
  have HII := Lib.hid (fun W h => refIrr_any L S es v W h hn)
  rw [parts_filter] at HCR HSR
  have HSK' := Lib.hid (fun va vb W ha hb => same10_yes va vb (partsR L S es (fun _ => true)) W ha hb (Nat.le_trans (parts_len _ _ _ _) (by omega)) (fun r hr => Nat.le_trans (parts_row hr) (by omega)))
  have HSM := Lib.hid (fun va vb W ha hb => same10_yes va vb (partsR L S es (fun c => hasEd es c true)) W ha hb (Nat.le_trans (parts_len _ _ _ _) (by omega)) (fun r hr => Nat.le_trans (parts_row hr) (by omega)))
  have HSN := Lib.hid (fun va vb W ha hb => same10_yes va vb (partsR L S es (fun c => !hasEd es c false)) W ha hb (Nat.le_trans (parts_len _ _ _ _) (by omega)) (fun r hr => Nat.le_trans (parts_row hr) (by omega)))
  obtain ⟨K, hK⟩ : ∃ K, partsR L S es (fun _ => true) = K := ⟨_, rfl⟩
  obtain ⟨M, hM⟩ : ∃ M, partsR L S es (fun c => hasEd es c true) = M := ⟨_, rfl⟩
  obtain ⟨N, hN⟩ : ∃ N, partsR L S es (fun c => !hasEd es c false) = N := ⟨_, rfl⟩
  obtain ⟨z, hz⟩ : ∃ z, errC L S es = z := ⟨_, rfl⟩
  obtain ⟨I, hI⟩ : ∃ I, irrR L S es = I := ⟨_, rfl⟩
  rw [hK] at HOF HOR HSK'
  rw [hM] at HCY HCR HSM
  rw [hN] at HSK HSR HSN
  rw [hz] at HOF HOR HCY HCR HSK HSR HIR HII
  rw [hI] at HIR HII
  have dz : (z == z) = true := by simp
  have dI : (I == I) = true := by simp
  obtain ⟨a, c, rfl⟩ := hrd.form
  obtain ⟨x1, x2, x3⟩ := id G0.out
  clear hrd b1 hK hM hN hz hI
  cases hgr : greatC S es.length with
  | true =>
    go_enter Try.func3, Try.ntmps3
    go_wp2_with (first
      | (go_at_call 12; (with_reducible refine (greatC_any L S a es.length c _).mono ?_); rintro e W1 ⟨rfl, b0⟩; (rw [hgr]); (have B1 := Lib.hid (below_more HB0.out (Nat.le_refl _) b0)); (have G1 := Lib.hid (G0.out.keep b0)); clear b0 x1 x2 x3; (obtain ⟨x1, x2, x3⟩ := id G1.out))
      | (go_at_call 13; (with_reducible refine (HAW.out _).mono ?_); rintro e W13 ⟨rfl, b13⟩; (have B13 := Lib.hid (below_more B1.out (Nat.le_refl _) b13)); clear b13))
    go_ret
    exact ⟨rfl, B13.out⟩
  | false =>
    go_enter Try.func3, Try.ntmps3
    go_wp2_with (first
      | (go_at_call 12; (with_reducible refine (greatC_any L S a es.length c _).mono ?_); rintro e W1 ⟨rfl, b0⟩; (rw [hgr]); (have B1 := Lib.hid (below_more HB0.out (Nat.le_refl _) b0)); (have G1 := Lib.hid (G0.out.keep b0)); clear b0 x1 x2 x3; (obtain ⟨x1, x2, x3⟩ := id G1.out))
      | (go_at_call 14; (with_reducible refine (HOF.out _ (HRD.out.keep B1.out)).mono ?_); rintro e W2 ⟨v2, rfl, r2, b2, -⟩; (have B2 := Lib.hid (below_more B1.out (Nat.le_refl _) b2)); (have G2 := Lib.hid (G1.out.keep b2)); (have R2_2 := Lib.hid r2); (obtain ⟨a2, c2, rfl⟩ := r2.form); clear r2; clear b2 x1 x2 x3; (obtain ⟨x1, x2, x3⟩ := id G2.out))
      | (go_at_call 15; (with_reducible refine (HOR.out _ (HRD.out.keep B2.out)).mono ?_); rintro e W3 ⟨v3, rfl, r3, b3⟩; (have B3 := Lib.hid (below_more B2.out (Nat.le_refl _) b3)); (have G3 := Lib.hid (G2.out.keep b3)); (have R2_3 := Lib.hid (R2_2.out.keep b3)); (have R3_3 := Lib.hid r3); (obtain ⟨a3, c3, rfl⟩ := r3.form); clear r3; clear b3 x1 x2 x3; (obtain ⟨x1, x2, x3⟩ := id G3.out))
      | (go_at_call 16; (with_reducible refine (HCY.out _ (HRD.out.keep B3.out)).mono ?_); rintro e W4 ⟨v4, rfl, r4, b4, -⟩; (have B4 := Lib.hid (below_more B3.out (Nat.le_refl _) b4)); (have G4 := Lib.hid (G3.out.keep b4)); (have R2_4 := Lib.hid (R2_3.out.keep b4)); (have R3_4 := Lib.hid (R3_3.out.keep b4)); (have R4_4 := Lib.hid r4); (obtain ⟨a4, c4, rfl⟩ := r4.form); clear r4; clear b4 x1 x2 x3; (obtain ⟨x1, x2, x3⟩ := id G4.out))
      | (go_at_call 17; (with_reducible refine (HCR.out _ (HRD.out.keep B4.out)).mono ?_); rintro e W5 ⟨v5, rfl, r5, b5⟩; (have B5 := Lib.hid (below_more B4.out (Nat.le_refl _) b5)); (have G5 := Lib.hid (G4.out.keep b5)); (have R2_5 := Lib.hid (R2_4.out.keep b5)); (have R3_5 := Lib.hid (R3_4.out.keep b5)); (have R4_5 := Lib.hid (R4_4.out.keep b5)); (have R5_5 := Lib.hid r5); (obtain ⟨a5, c5, rfl⟩ := r5.form); clear r5; clear b5 x1 x2 x3; (obtain ⟨x1, x2, x3⟩ := id G5.out))
      | (go_at_call 18; (with_reducible refine (HSK.out _ (HRD.out.keep B5.out)).mono ?_); rintro e W6 ⟨v6, rfl, r6, b6, -⟩; (have B6 := Lib.hid (below_more B5.out (Nat.le_refl _) b6)); (have G6 := Lib.hid (G5.out.keep b6)); (have R2_6 := Lib.hid (R2_5.out.keep b6)); (have R3_6 := Lib.hid (R3_5.out.keep b6)); (have R4_6 := Lib.hid (R4_5.out.keep b6)); (have R5_6 := Lib.hid (R5_5.out.keep b6)); (have R6_6 := Lib.hid r6); (obtain ⟨a6, c6, rfl⟩ := r6.form); clear r6; clear b6 x1 x2 x3; (obtain ⟨x1, x2, x3⟩ := id G6.out))
      | (go_at_call 19; (with_reducible refine (HSR.out _ (HRD.out.keep B6.out)).mono ?_); rintro e W7 ⟨v7, rfl, r7, b7⟩; (have B7 := Lib.hid (below_more B6.out (Nat.le_refl _) b7)); (have G7 := Lib.hid (G6.out.keep b7)); (have R2_7 := Lib.hid (R2_6.out.keep b7)); (have R3_7 := Lib.hid (R3_6.out.keep b7)); (have R4_7 := Lib.hid (R4_6.out.keep b7)); (have R5_7 := Lib.hid (R5_6.out.keep b7)); (have R6_7 := Lib.hid (R6_6.out.keep b7)); (have R7_7 := Lib.hid r7); (obtain ⟨a7, c7, rfl⟩ := r7.form); clear r7; clear b7 x1 x2 x3; (obtain ⟨x1, x2, x3⟩ := id G7.out))
      | (go_at_call 20; (with_reducible refine (HIR.out _ (HRD.out.keep B7.out)).mono ?_); rintro e W8 ⟨rfl, b8⟩; (have B8 := Lib.hid (below_more B7.out (Nat.le_refl _) b8)); (have G8 := Lib.hid (G7.out.keep b8)); (have R2_8 := Lib.hid (R2_7.out.keep b8)); (have R3_8 := Lib.hid (R3_7.out.keep b8)); (have R4_8 := Lib.hid (R4_7.out.keep b8)); (have R5_8 := Lib.hid (R5_7.out.keep b8)); (have R6_8 := Lib.hid (R6_7.out.keep b8)); (have R7_8 := Lib.hid (R7_7.out.keep b8)); clear b8 x1 x2 x3; (obtain ⟨x1, x2, x3⟩ := id G8.out))
      | (go_at_call 21; (with_reducible refine (HII.out _ (HRD.out.keep B8.out)).mono ?_); rintro e W9 ⟨rfl, b9⟩; (have B9 := Lib.hid (below_more B8.out (Nat.le_refl _) b9)); (have G9 := Lib.hid (G8.out.keep b9)); (have R2_9 := Lib.hid (R2_8.out.keep b9)); (have R3_9 := Lib.hid (R3_8.out.keep b9)); (have R4_9 := Lib.hid (R4_8.out.keep b9)); (have R5_9 := Lib.hid (R5_8.out.keep b9)); (have R6_9 := Lib.hid (R6_8.out.keep b9)); (have R7_9 := Lib.hid (R7_8.out.keep b9)); clear b9 x1 x2 x3; (obtain ⟨x1, x2, x3⟩ := id G9.out))
      | (go_at_call_of 22 a2; (with_reducible refine (HSK'.out _ _ _ R2_9.out R3_9.out).mono ?_); rintro e W10 ⟨rfl, b10⟩; (have B10 := Lib.hid (below_more B9.out (Nat.le_refl _) b10)); (have R2_10 := Lib.hid (R2_9.out.keep b10)); (have R3_10 := Lib.hid (R3_9.out.keep b10)); (have R4_10 := Lib.hid (R4_9.out.keep b10)); (have R5_10 := Lib.hid (R5_9.out.keep b10)); (have R6_10 := Lib.hid (R6_9.out.keep b10)); (have R7_10 := Lib.hid (R7_9.out.keep b10)); clear b10)
      | (go_at_call_of 22 a4; (with_reducible refine (HSM.out _ _ _ R4_10.out R5_10.out).mono ?_); rintro e W11 ⟨rfl, b11⟩; (have B11 := Lib.hid (below_more B10.out (Nat.le_refl _) b11)); (have R2_11 := Lib.hid (R2_10.out.keep b11)); (have R3_11 := Lib.hid (R3_10.out.keep b11)); (have R4_11 := Lib.hid (R4_10.out.keep b11)); (have R5_11 := Lib.hid (R5_10.out.keep b11)); (have R6_11 := Lib.hid (R6_10.out.keep b11)); (have R7_11 := Lib.hid (R7_10.out.keep b11)); clear b11)
      | (go_at_call_of 22 a6; (with_reducible refine (HSN.out _ _ _ R6_11.out R7_11.out).mono ?_); rintro e W12 ⟨rfl, b12⟩; (have B12 := Lib.hid (below_more B11.out (Nat.le_refl _) b12)); (have R2_12 := Lib.hid (R2_11.out.keep b12)); (have R3_12 := Lib.hid (R3_11.out.keep b12)); (have R4_12 := Lib.hid (R4_11.out.keep b12)); (have R5_12 := Lib.hid (R5_11.out.keep b12)); (have R6_12 := Lib.hid (R6_11.out.keep b12)); (have R7_12 := Lib.hid (R7_11.out.keep b12)); clear b12)
      | (go_at_call 13; (with_reducible refine (HAW.out _).mono ?_); rintro e W13 ⟨rfl, b13⟩; (have B13 := Lib.hid (below_more B12.out (Nat.le_refl _) b13)); clear b13))
    go_ret
    exact ⟨rfl, B13.out⟩
end Go.Proofs.Ytfkplnmhlpabaaa
