/- What grooveref09.Next and Step return. Conditions: the edges and the set can be read. Plain facts on graphs of sets: they are valid and deterministic, their edges are the steps. No condition. What subset.Count returns at the example's graph, and groovelaw12.awake: true. Condition: the library's table reads as its text lays it. -/
import Derived.Test.YthhbbiafffpknaaDoorQ20
import Derived.Test.YthhbbiafffpknaaDoorQ16
import Derived.Deep.CutBlock
import Derived.Test.YthhbbiafffpknaaDoorQ15
import Derived.Test.YthhbbiafffpknaaDoorQ19
import Derived.Test.YthhbbiafffpknaaDoorQ18

namespace Go.Proofs.YthhbbiafffpknaaDoor
open Go.RowKit
set_option linter.unusedSimpArgs false
set_option linter.unusedVariables false

theorem stepF_take {es : List E3} {set : List Int} {lab : Int} {t i : Nat} {e : E3} (h : es[i]? = some e) : stepF (es.take (i + 1)) set lab t = (stepF (es.take i) set lab t || (e.2.2 == (t : Int) && (e.2.1 == lab && decide (e.1 ∈ set)))) := by
  unfold stepF
  rw [List.take_add_one, h, List.any_append]
  simp only [Option.toList_some, List.any_cons, List.any_nil, Bool.or_false]
  congr 1
  cases (e.2.2 == (t : Int)) <;> cases (e.2.1 == lab) <;> cases decide (e.1 ∈ set) <;> rfl
set_option maxRecDepth 100000 in
set_option maxHeartbeats 6400000 in
theorem rnext_any (La lab : Int) (n : Nat) (es : List E3) (v vs : Value) (set : List Int) (w : World) (hrd : EdgesRd w v es) (hst : IntsRd w vs set) (hn : n ≤ 64) (hlen : es.length ≤ 1024) (hsl : set.length ≤ 9223372036854775807) :
    Calls Tryd.prog 58 #[grV La (n : Int) v, vs, .int .i64 lab] w (NewInts w (mems n (stepF es set lab))) := by
  obtain ⟨i0, hi, hz0, hz1, hz2⟩ := info_parts Tryd.infoI64
  have HRD := Lib.hid hrd
  have HST := Lib.hid hst
  have K0 := Lib.hid (BoxG.new w La (n : Int) v 24)
  have HH := Lib.hid (fun x W h => rhas_any vs set x W h hsl)
  have BO := Lib.hid (below1 w (.cells #[.int .i64 La, .int .i64 (n : Int), v] 24))
  obtain ⟨a, c, rfl⟩ := hrd.form
  obtain ⟨a2, c2, rfl⟩ := hst.form
  have hW1 : w.heap.size + 1 ≤ (w.alloc (.cells #[.int .i64 La, .int .i64 (n : Int), .slice a es.length c] 24)).heap.size := by rw [World.size_alloc]; exact Nat.le_refl _
  obtain ⟨W1, hW⟩ : ∃ W1, w.alloc (.cells #[.int .i64 La, .int .i64 (n : Int), .slice a es.length c] 24) = W1 := ⟨_, rfl⟩
  rw [hW] at K0 BO hW1
  have HW := Lib.hid hW
  clear hrd hst hW
  go_enter Tryd.func58, Tryd.ntmps58
  go_wp2_with fail
  rw [HW.out]
  clear HW
  go_loopg [7, 8] n (fun q s7 s8 wx => ∃ t : Nat, t + q = n ∧ s8 = .int .i64 (t : Int) ∧ IntsAt wx (w.heap.size + 1) s7 (mems t (stepF es set lab)) ∧ Below (w.heap.size + 1) W1 wx)
  case atStart => exact ⟨0, by omega, rfl, ints_nil _ _, Below.refl _ _⟩
  case round =>
    obtain ⟨t, htn, rfl, hown, hb⟩ := hrel
    have g1 := (hb.cell (p := ⟨w.heap.size, 0, none⟩) (Nat.lt_succ_self _)).trans K0.out.1
    have g2 := (hb.cell (p := ⟨w.heap.size, 1, none⟩) (Nat.lt_succ_self _)).trans K0.out.2.1
    have g3 := (hb.cell (p := ⟨w.heap.size, 2, none⟩) (Nat.lt_succ_self _)).trans K0.out.2.2
    obtain ⟨a7, c7, rfl⟩ := hown.slice
    have hml := mems_len t (stepF es set lab)
    have hsn := mems_succ t (stepF es set lab)
    rcases gk with _ | q
    · obtain rfl : t = n := by omega
      have HI := Lib.hid (own_low hown (Nat.le_succ w.heap.size))
      clear hown hsn
      obtain ⟨m, hm⟩ : ∃ m, (mems t (stepF es set lab)).length = m := ⟨_, rfl⟩
      rw [hm] at HI ⊢
      have HM := Lib.hid hm
      clear hm
      go_wp2_with fail
      go_ret
      exact ⟨_, rfl, by unfold IntsAt; rw [HM.out]; exact HI.out, BO.out.trans (hb.mono (Nat.le_succ _))⟩
    · have HOW := Lib.hid hown
      obtain ⟨m, hm⟩ : ∃ m, (mems t (stepF es set lab)).length = m := ⟨_, rfl⟩
      rw [hm] at hml ⊢
      have HM := Lib.hid hm
      have j0 : (t : Int) < (n : Int) := by omega
      obtain ⟨W7, hW7⟩ : ∃ W7, W7 = wr := ⟨_, rfl⟩
      rw [← hW7] at HOW hb g1 g2 g3
      have HB := Lib.hid hb
      have HG := Lib.hid (show BoxG W7 w.heap.size La (n : Int) (.slice a es.length c) from ⟨g1, g2, g3⟩)
      clear hm hown hb g1 g2 g3
      obtain ⟨g1, g2, g3⟩ := id HG.out
      rw [hW7] at g1 g2 g3
      go_upto_block 2 with fail
      subst hW7
      go_cut [9] (fun s9 wx => s9 = .bool (stepF es set lab t) ∧ Below W7.heap.size W7 wx)
      case first =>
        go_wp2_with fail
        go_loopg [9, 10, 11] es.length (fun q s9 s10 s11 wx => ∃ i : Nat, i + q = es.length ∧ s10 = .int .i64 (i : Int) ∧ s9 = .bool (stepF (es.take i) set lab t) ∧ Below W7.heap.size W7 wx)
        case atStart => exact ⟨0, by omega, rfl, rfl, Below.refl _ _⟩
        case round =>
          clear g1 g2 g3
          obtain ⟨i, hi2, rfl, rfl, hb2⟩ := hrel
          obtain ⟨g1, g2, g3⟩ := HG.out.keep hb2
          rcases gk with _ | q2
          · obtain rfl : i = es.length := by omega
            have HF := Lib.hid (show stepF (es.take es.length) set lab t = stepF es set lab t by rw [List.take_length])
            go_wp2_with fail
            go_meet
            exact ⟨by rw [HF.out], hb2⟩
          · obtain ⟨e, he⟩ : ∃ e, es[i]? = some e := ⟨_, List.getElem?_eq_getElem (by omega)⟩
            have hbw := (BO.out.trans (HB.out.mono (Nat.le_succ _))).trans (hb2.mono (show w.heap.size ≤ W7.heap.size by have := HB.out.size; omega))
            obtain ⟨b, off, c', hv, k1, k2, k3⟩ := (HRD.out.keep hbw).at he
            injection hv with e1 e2 e3
            subst e1
            subst e3
            have hst := stepF_take (set := set) (lab := lab) (t := t) he
            obtain ⟨x, y, z⟩ := e
            dsimp only at k1 k2 k3 hst
            have j1 : (i : Int) < (es.length : Int) := by omega
            have HSR := Lib.hid (HST.out.keep (hbw.alloc hbw.size (.cells #[.int .i64 x, .int .i64 y, .int .i64 z] 57)))
            have HB3 := Lib.hid (hb2.alloc hb2.size (.cells #[.int .i64 x, .int .i64 y, .int .i64 z] 57))
            clear he e2 hbw
            cases hf : stepF (es.take i) set lab t with
            | true =>
              have HT := Lib.hid (show stepF (es.take (i + 1)) set lab t = true by rw [hst, hf]; rfl)
              clear hst hf
              go_wp2_with fail
              go_roundg q2
              case measure => omega
              case rel => exact ⟨i + 1, by omega, by go_num, by rw [HT.out], HB3.out⟩
            | false =>
              rw [hf, Bool.false_or] at hst
              clear hf
              cases h1 : (z == (t : Int)) with
              | false =>
                have HT := Lib.hid (show stepF (es.take (i + 1)) set lab t = false by rw [hst, h1]; rfl)
                clear hst
                go_wp2_with fail
                go_roundg q2
                case measure => omega
                case rel => exact ⟨i + 1, by omega, by go_num, by rw [HT.out], HB3.out⟩
              | true =>
                cases h2 : (y == lab) with
                | false =>
                  have HT := Lib.hid (show stepF (es.take (i + 1)) set lab t = false by rw [hst, h1, h2]; rfl)
                  clear hst
                  go_wp2_with fail
                  go_roundg q2
                  case measure => omega
                  case rel => exact ⟨i + 1, by omega, by go_num, by rw [HT.out], HB3.out⟩
                | true =>
                  have HT := Lib.hid (show stepF (es.take (i + 1)) set lab t = decide (x ∈ set) by rw [hst, h1, h2]; simp)
                  clear hst
                  obtain ⟨bq, hbq⟩ : ∃ bq, decide (x ∈ set) = bq := ⟨_, rfl⟩
                  have HX := Lib.hid (hbq ▸ HH.out x _ HSR.out)
                  rw [hbq] at HT
                  clear hbq
                  go_wp2_with (go_at_call 68; (with_reducible refine HX.out.mono ?_); rintro e0 W5 ⟨rfl, rfl⟩)
                  go_roundg q2
                  case measure => omega
                  case rel => exact ⟨i + 1, by omega, by go_num, by rw [HT.out], HB3.out⟩
      case rest =>
        clear g1 g2 g3
        obtain ⟨rfl, hb2⟩ := hcut
        obtain ⟨g1, g2, g3⟩ := HG.out.keep hb2
        have hown0 := HOW.out.keep hb2
        have HOX := Lib.hid hown0
        have hbt : Below (w.heap.size + 1) W1 wc := HB.out.trans (hb2.mono (by have := HB.out.size; omega))
        clear hb2
        unfold IntsAt at hown0
        rw [HM.out] at hown0
        cases hf : stepF es set lab t with
        | true =>
          have HS := Lib.hid (show mems (t + 1) (stepF es set lab) = mems t (stepF es set lab) ++ [(t : Int)] by rw [hsn, hf]; rfl)
          have hlt := hown0.lt
          clear hsn hf
          go_wp2_with (first | (at_builtin; refine wpList_append_own_at _ rfl _ _ 25 rfl (w.heap.size + 1) 3 i0 (.int .i64 0) 1 8 Tryd.underlying25 hi hz0 hz1 hz2 rfl (by decide) _ _ _ rfl (hown0.alloc _) ⟨wc.heap.size, 0, none⟩ 1 1 [.int .i64 (t : Int)] rfl rfl ?c1 ?c2 ?c3 ?c4 ?c5 ?_))
          case c1 => exact World.news_of_block (cs := #[.int .i64 (t : Int)]) (t := 3) (fr := (0, 0)) (heap_alloc_new wc _)
          case c2 => intro u hu; simp at hu; subst hu; rfl
          case c3 => unfold maxLen; omega
          case c4 => omega
          case c5 => rw [World.size_alloc]; have := hbt.size; omega
          intro v' W2 hown2 hgrow _ hv'
          have hb3 : Below (w.heap.size + 1) W1 W2 := (hbt.alloc (by have := hbt.size; omega) _).grown hgrow (by rw [World.size_alloc]; have := hbt.size; omega) (fun k hk => (hlt k hk).1)
          rw [← intz_snoc, ← HS.out] at hown2
          have HI2 := Lib.hid (show IntsAt W2 (w.heap.size + 1) v' (mems (t + 1) (stepF es set lab)) by unfold IntsAt; rw [HS.out, List.length_append, HM.out]; rw [HS.out] at hown2; exact hown2)
          obtain ⟨a', c'', rfl⟩ := own_slice hown2
          clear hown0 hown2 hgrow hlt hv' hbt
          go_wp2_with fail
          go_roundg q
          case measure => omega
          case rel => exact ⟨t + 1, by omega, by go_num, HI2.out, hb3⟩
        | false =>
          have HI2 := Lib.hid (show IntsAt wc (w.heap.size + 1) (.slice a7 m c7) (mems (t + 1) (stepF es set lab)) by rw [hsn, hf]; have h := HOX.out; rw [HM.out] at h; simpa using h)
          clear hsn hf hown0
          go_wp2_with fail
          go_roundg q
          case measure => omega
          case rel => exact ⟨t + 1, by omega, by go_num, HI2.out, hbt⟩
/-- What Step returns: the states, the error. -/
def stepR (La S : Int) (es : List E3) (set : List Int) (lab : Int) : List Int × Int :=
  if chkG La S es = 0 then (if chkS S none set = 0 then (if 0 ≤ lab ∧ lab < La then (mems S.toNat (stepF es set lab), 0) else ([], 2)) else ([], chkS S none set)) else ([], 1)
theorem stepR_good {La S : Int} {es : List E3} {set : List Int} {lab : Int} (h0 : chkG La S es = 0) (h1 : chkS S none set = 0) (h2 : 0 ≤ lab ∧ lab < La) : stepR La S es set lab = (mems S.toNat (stepF es set lab), 0) := by unfold stepR; rw [if_pos h0, if_pos h1, if_pos h2]
theorem stepR_lab {La S : Int} {es : List E3} {set : List Int} {lab : Int} (h0 : chkG La S es = 0) (h1 : chkS S none set = 0) (h2 : ¬ (0 ≤ lab ∧ lab < La)) : stepR La S es set lab = ([], 2) := by unfold stepR; rw [if_pos h0, if_pos h1, if_neg h2]
theorem stepR_set {La S : Int} {es : List E3} {set : List Int} {lab : Int} (h0 : chkG La S es = 0) (h1 : ¬ chkS S none set = 0) : stepR La S es set lab = ([], chkS S none set) := by unfold stepR; rw [if_pos h0, if_neg h1]
theorem stepR_bad {La S : Int} {es : List E3} {set : List Int} {lab : Int} (h0 : ¬ chkG La S es = 0) : stepR La S es set lab = ([], 1) := by unfold stepR; rw [if_neg h0]
set_option maxRecDepth 100000 in
set_option maxHeartbeats 6400000 in
theorem rstep_any (La S lab : Int) (es : List E3) (v vs : Value) (set : List Int) (w : World) (hrd : EdgesRd w v es) (hn : es.length ≤ 9223372036854775807) (hst : IntsRd w vs set) (hsl : set.length ≤ 9223372036854775807) :
    Calls Tryd.prog 44 #[grV La S v, vs, .int .i64 lab] w (IOut w (stepR La S es set lab)) := by
  have HV := Lib.hid (fun W h => rcheck_any La S es v W h hn)
  have HC := Lib.hid (fun W h => rcheckSet_any La S v vs set W h hsl)
  have HRD := Lib.hid hrd
  have HST := Lib.hid hst
  have K0 := Lib.hid (BoxG.new w La S v 24)
  have BO := Lib.hid (below1 w (.cells #[.int .i64 La, .int .i64 S, v] 24))
  obtain ⟨a, c, rfl⟩ := hrd.form
  obtain ⟨a2, c2, rfl⟩ := hst.form
  clear hrd hst
  by_cases h0 : chkG La S es = 0
  · have H0 := Lib.hid h0
    by_cases h1 : chkS S none set = 0
    · have H1 := Lib.hid h1
      by_cases h2 : 0 ≤ lab ∧ lab < La
      · have HE := Lib.hid (stepR_good h0 h1 h2)
        have hlen := (chkG_zero h0).len
        have hs1 := (chkG_zero h0).s1
        have hs2 := (chkG_zero h0).s2
        have d1 : decide (lab < 0) = false := decide_eq_false (by omega)
        have d2 : decide (La ≤ lab) = false := decide_eq_false (by omega)
        obtain ⟨n, rfl⟩ : ∃ n : Nat, S = (n : Int) := ⟨S.toNat, by omega⟩
        have HN := Lib.hid (fun W h h' => rnext_any La lab n es (.slice a es.length c) (.slice a2 set.length c2) set W h h' (by omega) hlen hsl)
        clear h0 h1 h2
        go_enter Tryd.func44, Tryd.ntmps44
        go_wp2_with (first | (go_at_call 21; (with_reducible refine (HV.out _ (HRD.out.keep BO.out)).mono ?_); rintro e0 W1 ⟨rfl, b1⟩; (rw [H0.out]); (have G1 := Lib.hid (K0.out.keep b1)); (have B1 := Lib.hid (below_more BO.out (Nat.le_refl _) b1)); (clear b1); (obtain ⟨g1, g2, g3⟩ := id G1.out)) | (go_at_call 57; (with_reducible refine (HC.out _ (HST.out.keep B1.out)).mono ?_); rintro e0 W2 ⟨rfl, b2⟩; (rw [H1.out]); (have G2 := Lib.hid (G1.out.keep b2)); (have B2 := Lib.hid (below_more B1.out (Nat.le_refl _) b2)); (clear b2 g1 g2 g3); (obtain ⟨g1, g2, g3⟩ := id G2.out)) | (go_at_call 58; (with_reducible refine (HN.out _ (HRD.out.keep B2.out) (HST.out.keep B2.out)).mono ?_); rintro e0 W3 ⟨v3, rfl, i3, b3⟩))
        exact bodyPost_ret (v := .tuple #[v3, .int .i64 0]) (by simp [results, Tryd.results44, go_sem]) rfl ⟨_, by rw [HE.out], by rw [HE.out]; exact own_low i3 B2.out.size, below_more B2.out (Nat.le_refl _) b3⟩
      · have HE := Lib.hid (stepR_lab h0 h1 h2)
        clear h0 h1
        by_cases h3 : lab < 0
        · have d1 : decide (lab < 0) = true := decide_eq_true h3
          clear h2 h3
          go_enter Tryd.func44, Tryd.ntmps44
          go_wp2_with (first | (go_at_call 21; (with_reducible refine (HV.out _ (HRD.out.keep BO.out)).mono ?_); rintro e0 W1 ⟨rfl, b1⟩; (rw [H0.out]); (have G1 := Lib.hid (K0.out.keep b1)); (have B1 := Lib.hid (below_more BO.out (Nat.le_refl _) b1)); (clear b1); (obtain ⟨g1, g2, g3⟩ := id G1.out)) | (go_at_call 57; (with_reducible refine (HC.out _ (HST.out.keep B1.out)).mono ?_); rintro e0 W2 ⟨rfl, b2⟩; (rw [H1.out]); (have G2 := Lib.hid (G1.out.keep b2)); (have B2 := Lib.hid (below_more B1.out (Nat.le_refl _) b2)); (clear b2 g1 g2 g3); (obtain ⟨g1, g2, g3⟩ := id G2.out)))
          exact bodyPost_ret (v := .tuple #[.slice none 0 0, .int .i64 2]) (by simp [results, Tryd.results44, go_sem]) rfl ⟨_, by rw [HE.out], by rw [HE.out]; exact ints_nil _ _, B2.out⟩
        · have d1 : decide (lab < 0) = false := decide_eq_false h3
          have d2 : decide (La ≤ lab) = true := decide_eq_true (by omega)
          clear h2 h3
          go_enter Tryd.func44, Tryd.ntmps44
          go_wp2_with (first | (go_at_call 21; (with_reducible refine (HV.out _ (HRD.out.keep BO.out)).mono ?_); rintro e0 W1 ⟨rfl, b1⟩; (rw [H0.out]); (have G1 := Lib.hid (K0.out.keep b1)); (have B1 := Lib.hid (below_more BO.out (Nat.le_refl _) b1)); (clear b1); (obtain ⟨g1, g2, g3⟩ := id G1.out)) | (go_at_call 57; (with_reducible refine (HC.out _ (HST.out.keep B1.out)).mono ?_); rintro e0 W2 ⟨rfl, b2⟩; (rw [H1.out]); (have G2 := Lib.hid (G1.out.keep b2)); (have B2 := Lib.hid (below_more B1.out (Nat.le_refl _) b2)); (clear b2 g1 g2 g3); (obtain ⟨g1, g2, g3⟩ := id G2.out)))
          exact bodyPost_ret (v := .tuple #[.slice none 0 0, .int .i64 2]) (by simp [results, Tryd.results44, go_sem]) rfl ⟨_, by rw [HE.out], by rw [HE.out]; exact ints_nil _ _, B2.out⟩
    · have HE := Lib.hid (stepR_set (lab := lab) h0 h1)
      obtain ⟨z, hz⟩ : ∃ z, chkS S none set = z := ⟨_, rfl⟩
      simp only [hz] at HC HE
      rw [hz] at h1
      have d1 : (z != 0) = true := by simpa using h1
      clear h0 h1 hz
      go_enter Tryd.func44, Tryd.ntmps44
      go_wp2_with (first | (go_at_call 21; (with_reducible refine (HV.out _ (HRD.out.keep BO.out)).mono ?_); rintro e0 W1 ⟨rfl, b1⟩; (rw [H0.out]); (have G1 := Lib.hid (K0.out.keep b1)); (have B1 := Lib.hid (below_more BO.out (Nat.le_refl _) b1)); (clear b1); (obtain ⟨g1, g2, g3⟩ := id G1.out)) | (go_at_call 57; (with_reducible refine (HC.out _ (HST.out.keep B1.out)).mono ?_); rintro e0 W2 ⟨rfl, b2⟩; (have B2 := Lib.hid (below_more B1.out (Nat.le_refl _) b2)); (clear b2)))
      exact bodyPost_ret (v := .tuple #[.slice none 0 0, .int .i64 z]) (by simp [results, Tryd.results44, go_sem]) rfl ⟨_, by rw [HE.out], by rw [HE.out]; exact ints_nil _ _, B2.out⟩
  · have HE := Lib.hid (stepR_bad (set := set) (lab := lab) h0)
    obtain ⟨z, hz⟩ : ∃ z, chkG La S es = z := ⟨_, rfl⟩
    simp only [hz] at HV
    rw [hz] at h0
    have d1 : (z != 0) = true := by simpa using h0
    clear h0 hz
    go_enter Tryd.func44, Tryd.ntmps44
    go_wp2_with (go_at_call 21; (with_reducible refine (HV.out _ (HRD.out.keep BO.out)).mono ?_); rintro e0 W1 ⟨rfl, b1⟩; (have B1 := Lib.hid (below_more BO.out (Nat.le_refl _) b1)); (clear b1))
    exact bodyPost_ret (v := .tuple #[.slice none 0 0, .int .i64 1]) (by simp [results, Tryd.results44, go_sem]) rfl ⟨_, by rw [HE.out], by rw [HE.out]; exact ints_nil _ _, B1.out⟩
end Go.Proofs.YthhbbiafffpknaaDoor

namespace Go.Proofs.YthhbbiafffpknaaDoor
set_option linter.unusedVariables false

theorem mem_edsN {es : List E3} {sets : List Nat} {i c : Nat} {e : E3} (h : e ∈ edsN es sets i c) : ∃ l : Nat, l < c ∧ stN es (sets.getD i 0) l ≠ 0 ∧ e = ((i : Int), (l : Int), ((sets.idxOf (stN es (sets.getD i 0) l) : Nat) : Int)) := by
  unfold edsN at h
  rw [List.mem_filterMap] at h
  obtain ⟨l, hl, h⟩ := h
  unfold edN at h
  split at h
  · cases h
  · rename_i h0
    injection h with h
    exact ⟨l, List.mem_range.1 hl, h0, h.symm⟩
theorem mem_allN {es : List E3} {La : Nat} {sets : List Nat} {i : Nat} {e : E3} (h : e ∈ allN es La sets i) : ∃ j l : Nat, j < i ∧ l < La ∧ stN es (sets.getD j 0) l ≠ 0 ∧ e = ((j : Int), (l : Int), ((sets.idxOf (stN es (sets.getD j 0) l) : Nat) : Int)) := by
  unfold allN at h
  rw [List.mem_flatMap] at h
  obtain ⟨j, hj, h⟩ := h
  obtain ⟨l, hl, h0, h1⟩ := mem_edsN h
  exact ⟨j, l, List.mem_range.1 hj, hl, h0, h1⟩
def ltFL (a b : E3) : Prop := a.1 < b.1 ∨ (a.1 = b.1 ∧ a.2.1 < b.2.1)
theorem edsN_asc (es : List E3) (sets : List Nat) (i : Nat) : ∀ c, (edsN es sets i c).Pairwise ltFL
  | 0 => by unfold edsN; simp
  | c + 1 => by
    rw [edsN_succ, List.pairwise_append]
    refine ⟨edsN_asc es sets i c, ?_, fun a ha b hb => ?_⟩
    · cases edN es sets i c <;> simp
    · obtain ⟨l, hl, -, rfl⟩ := mem_edsN ha
      rw [Option.mem_toList] at hb
      unfold edN at hb
      split at hb
      · cases hb
      · injection hb with hb
        subst hb
        exact .inr ⟨rfl, by show (l : Int) < (c : Int); omega⟩
theorem allN_asc (es : List E3) (La : Nat) (sets : List Nat) : ∀ i, (allN es La sets i).Pairwise ltFL
  | 0 => by unfold allN; simp
  | i + 1 => by
    rw [allN_succ, List.pairwise_append]
    refine ⟨allN_asc es La sets i, edsN_asc es sets i La, fun a ha b hb => ?_⟩
    obtain ⟨j, l, hj, -, -, rfl⟩ := mem_allN ha
    obtain ⟨l2, -, -, rfl⟩ := mem_edsN hb
    exact .inl (by show (j : Int) < (i : Int); omega)
theorem ltFL_ltE {a b : E3} (h : ltFL a b) : ltE a b = true := by
  rw [ltE_iff]
  unfold ltFL at h
  omega
theorem detE_asc : ∀ {l : List E3}, l.Pairwise ltFL → detE l = true
  | [], _ => rfl
  | [_], _ => rfl
  | a :: b :: r, h => by
    rw [List.pairwise_cons] at h
    have h1 : ltFL a b := h.1 b (by simp)
    have h2 : (a.1 == b.1 && a.2.1 == b.2.1) = false := by
      unfold ltFL at h1
      rw [Bool.and_eq_false_iff, beq_eq_false_iff_ne, beq_eq_false_iff_ne]
      omega
    unfold detE
    rw [h2, detE_asc h.2]; rfl
section
variable {es : List E3} {La S : Nat} {b : Bs}
theorem ResN.vg (h : ResN es La S b) (h1 : 1 ≤ La) (h2 : La ≤ 256) : VG (La : Int) ((b.1.length : Nat) : Int) b.2 := by
  refine ⟨by omega, by omega, by omega, by have := h.n; omega, h.m, fun e he => ?_, ?_⟩
  · rw [h.ed] at he
    obtain ⟨j, l, hj, hl, h0, rfl⟩ := mem_allN he
    rw [okE_iff]
    have hx : stN es (b.1.getD j 0) l ∈ b.1 := (h.cl j l hj hl).resolve_left h0
    have hi := List.idxOf_lt_length_iff.2 hx
    dsimp only
    omega
  · rw [h.ed]
    exact (allN_asc es La b.1 _).imp (fun h => ltFL_ltE h)
theorem ResN.det (h : ResN es La S b) : detE b.2 = true := by
  rw [h.ed]
  exact detE_asc (allN_asc es La b.1 _)
theorem getD_idx {l : List Nat} {T : Nat} (h : T ∈ l) : l[l.idxOf T]? = some T := by
  have hi := List.idxOf_lt_length_iff.2 h
  rw [List.getElem?_eq_getElem hi, List.getElem_idxOf]
/-- An edge leads to where the step leads. -/
theorem ResN.edge (h : ResN es La S b) {e : E3} (he : e ∈ b.2) : ∃ j l T : Nat, j < b.1.length ∧ l < La ∧ b.1[j]? = some T ∧ e.1 = (j : Int) ∧ e.2.1 = (l : Int) ∧ stN es T l ≠ 0 ∧ ∃ t : Nat, e.2.2 = (t : Int) ∧ b.1[t]? = some (stN es T l) := by
  rw [h.ed] at he
  obtain ⟨j, l, hj, hl, h0, rfl⟩ := mem_allN he
  have hx : stN es (b.1.getD j 0) l ∈ b.1 := (h.cl j l hj hl).resolve_left h0
  obtain ⟨T, hT⟩ : ∃ T, b.1[j]? = some T := ⟨_, List.getElem?_eq_getElem hj⟩
  have hg : b.1.getD j 0 = T := by rw [List.getD_eq_getElem?_getD, hT]; rfl
  rw [hg] at h0 hx
  rw [hg]
  exact ⟨j, l, T, hj, hl, hT, rfl, rfl, h0, _, rfl, getD_idx hx⟩
end
theorem built_small {es : List E3} {La n S : Nat} {b : Bs} (hok : ∀ e ∈ es, okE (La : Int) (n : Int) e = true) (hS : ∀ i, S.testBit i = true → i < n) (hb : builtN es La S = some b) : BN n b.1 :=
  built_ind (P := fun b => BN n b.1) (fun i l b hi h => visN_small hok h) (fun T hT => by rw [List.mem_singleton] at hT; subst hT; exact hS) hb
theorem memN_sg {n S : Nat} (h : ∀ i, S.testBit i = true → i < n) : SG (n : Int) (memN S) :=
  ⟨fun x hx => by obtain ⟨i, rfl, -, h2⟩ := mems_mem.1 hx; have := h i h2; omega, memN_asc S⟩
theorem stepR_memN {es : List E3} {La n S l : Nat} (hvg : VG (La : Int) (n : Int) es) (hS : S < 18446744073709551616) (hb : ∀ i, S.testBit i = true → i < n) (hl : l < La) : stepR (La : Int) (n : Int) es (memN S) (l : Int) = (memN (stN es S l), 0) := by
  have hn : n ≤ 64 := by have := hvg.s2; omega
  rw [stepR_good hvg.chk (memN_sg hb).chk ⟨by omega, by omega⟩, Int.toNat_natCast]
  congr 1
  refine asc_ext (mems_asc _ _) (memN_asc _) (fun x => ?_)
  rw [mems_mem]
  have hx : ∀ t : Nat, stepF es (memN S) (l : Int) t = true ↔ t < 64 ∧ (stN es S l).testBit t = true := fun t => by
    rw [stN_bit]
    unfold stepF
    rw [Bool.and_eq_true, decide_eq_true_iff, List.any_eq_true, List.any_eq_true]
    constructor
    · rintro ⟨e, he, h⟩
      simp only [Bool.and_eq_true, beq_iff_eq, decide_eq_true_iff] at h
      have h3 := okE_iff.1 (hvg.ok e he)
      obtain ⟨i, hi⟩ : ∃ i : Nat, e.1 = (i : Int) := ⟨e.1.toNat, by omega⟩
      have h4 : S.testBit i = true := (memN_mem hS).1 (by rw [← hi]; exact h.1.1)
      refine ⟨by omega, by omega, e, he, ?_⟩
      simp only [Bool.and_eq_true, beq_iff_eq, decide_eq_true_iff]
      exact ⟨⟨⟨⟨by omega, by omega⟩, by rw [hi, Int.toNat_natCast]; exact h4⟩, h.1.2⟩, h.2⟩
    · rintro ⟨h1, -, e, he, h⟩
      simp only [Bool.and_eq_true, beq_iff_eq, decide_eq_true_iff] at h
      refine ⟨e, he, ?_⟩
      simp only [Bool.and_eq_true, beq_iff_eq, decide_eq_true_iff]
      refine ⟨⟨?_, h.1.2⟩, h.2⟩
      have h4 := (memN_mem (s := e.1.toNat) hS).2 h.1.1.2
      rwa [show ((e.1.toNat : Nat) : Int) = e.1 by omega] at h4
  constructor
  · rintro ⟨t, rfl, h1, h2⟩
    exact mems_mem.2 ⟨t, rfl, (hx t).1 h2⟩
  · intro h
    obtain ⟨t, rfl, h1, h2⟩ := mems_mem.1 h
    exact ⟨t, rfl, stN_small hvg.ok t h2, (hx t).2 ⟨h1, h2⟩⟩
theorem memN_nil {S : Nat} (h : S < 18446744073709551616) : memN S = [] ↔ S = 0 := by
  constructor
  · intro e
    exact memN_inj h (by decide) (e.trans (by decide : memN 0 = []).symm)
  · rintro rfl; decide
theorem fromR_ok {La S : Int} {es : List E3} {set : List Int} (h : (fromR La S es set).1 = 0) : ∃ (L n : Nat) (b : Bs), La = (L : Int) ∧ S = (n : Int) ∧ VG (L : Int) (n : Int) es ∧ SG (n : Int) set ∧ set ≠ [] ∧ builtN es L (ofN set) = some b ∧ (fromR La S es set).2 = b := by
  unfold fromR at h ⊢
  by_cases h0 : chkG La S es = 0
  · rw [if_pos h0] at h ⊢
    have hvg := chkG_zero h0
    obtain ⟨L, rfl⟩ : ∃ L : Nat, La = (L : Int) := ⟨La.toNat, by have := hvg.l1; omega⟩
    obtain ⟨n, rfl⟩ : ∃ n : Nat, S = (n : Int) := ⟨S.toNat, by have := hvg.s1; omega⟩
    by_cases h1 : chkS (n : Int) none set = 0
    · rw [if_pos h1] at h ⊢
      by_cases h2 : set = []
      · rw [if_pos h2] at h; cases h
      · rw [if_neg h2] at h ⊢
        rw [Int.toNat_natCast] at h ⊢
        cases hb : builtN es L (ofN set) with
        | none => rw [hb] at h; cases h
        | some b => exact ⟨L, n, b, rfl, rfl, hvg, chkS_ok h1, h2, hb, rfl⟩
    · rw [if_neg h1] at h; exact absurd h h1
  · rw [if_neg h0] at h; cases h
theorem fromR_no {La S : Int} {es : List E3} {set : List Int} (h : (fromR La S es set).1 ≠ 0) : (fromR La S es set).2 = ([], []) := by
  unfold fromR at h ⊢
  by_cases h0 : chkG La S es = 0
  · rw [if_pos h0] at h ⊢
    by_cases h1 : chkS S none set = 0
    · rw [if_pos h1] at h ⊢
      by_cases h2 : set = []
      · rw [if_pos h2]
      · rw [if_neg h2] at h ⊢
        cases hb : builtN es La.toNat (ofN set) with
        | none => rfl
        | some b => rw [hb] at h; exact absurd rfl h
    · rw [if_neg h1]
  · rw [if_neg h0]
end Go.Proofs.YthhbbiafffpknaaDoor

namespace Go.Proofs.YthhbbiafffpknaaDoor
open Go.RowKit
set_option linter.unusedSimpArgs false
set_option linter.unusedVariables false

abbrev bE : Bs := ([3, 1, 2], [(0, 0, 0), (0, 1, 1), (1, 0, 2), (1, 1, 1), (2, 0, 1)])
theorem buildE : buildR 2 2 evE = (0, bE) := by decide +kernel
theorem focE : focR 2 2 evE = ([1], 0, true, 0) := by decide +kernel
theorem setsE : bE.1.map memN = [[0, 1], [0], [1]] := by decide +kernel
theorem wayE : wayF bE.2 3 0 = 7 := by decide +kernel
theorem wayB : ∀ k, k < 3 → ∀ i, i ≤ bE.2.length → ∀ s, s < 3 → lonF (wayF bE.2 k) (bE.2.take i) s < 18446744073709551616 := by
  have h : ∀ k, k < 3 → ∀ i, i < 6 → ∀ s, s < 3 → lonF (wayF bE.2 k) (bE.2.take i) s < 18446744073709551616 := by decide +kernel
  exact fun k hk i hi s hs => h k hk i (by have : bE.2.length = 5 := rfl; omega) s hs
theorem chkE : chkG 2 2 evE = 0 := by decide
theorem build_even (v : Value) (W : World) (h : EdgesRd W v evE) (hT : TabD W) : Calls Tryd.prog 6 #[grV 2 2 v] W fun e w' => ∃ ah ch al, e = .returned (.tuple #[grV 2 3 (.slice ah 5 ch), .slice al 3 3, .int .i64 0]) ∧ EdgesRd w' (.slice ah 5 ch) bE.2 ∧ RowsRd w' (.slice al 3 3) [[0, 1], [0], [1]] ∧ Below W.heap.size W w' := by
  refine (Build_any 2 2 evE v W h (by decide) hT).mono ?_
  rw [buildE]
  rintro e w' ⟨hv, lv, he, h1, h2, h3⟩
  obtain ⟨ah, ch, rfl⟩ := h1.slice
  have h4 := h2.rd
  obtain ⟨al, rfl⟩ := h2.form
  rw [setsE] at h4
  exact ⟨ah, ch, al, he, h1.rd, h4, h3⟩
theorem focus_even (v : Value) (W : World) (h : EdgesRd W v evE) (hT : TabD W) : Calls Tryd.prog 14 #[grV 2 2 v] W fun e w' => ∃ a c, e = .returned (.tuple #[.slice a 1 c, .int .i64 0, .bool true, .int .i64 0]) ∧ IntsRd w' (.slice a 1 c) [1] ∧ Below W.heap.size W w' := by
  refine (Focus_any 2 2 evE v W h (by decide) hT).mono ?_
  rw [focE]
  rintro e w' ⟨hv, he, h1, h3⟩
  obtain ⟨a, c, rfl⟩ := h1.form
  exact ⟨a, c, he, h1, h3⟩
set_option maxRecDepth 100000 in
set_option maxHeartbeats 6400000 in
theorem count7_any (v : Value) (w : World) (hrd : EdgesRd w v evE) (hT : TabD w) :
    Calls Tryd.prog 15 #[grV 2 2 v, .int .i64 3] w fun e w' => e = .returned (.tuple #[.agg #[.bool false, .string ⟨#[7]⟩], .int .i64 0]) ∧ Below w.heap.size w w' := by
  obtain ⟨a, c, hv⟩ : ∃ a c, v = .slice a 3 c := hrd.form
  subst hv
  obtain ⟨W1, hW1⟩ : ∃ W1, ((w.alloc (.cells #[.int .i64 2, .int .i64 2, .slice a 3 c] 24)).alloc (.cells #[.bool false, .string ⟨#[]⟩] 40)) = W1 := ⟨_, rfl⟩
  have z1 : W1.heap.size = w.heap.size + 2 := by rw [← hW1, World.size_alloc, World.size_alloc]
  have G1 := Lib.hid (show BoxG W1 w.heap.size 2 2 (.slice a 3 c) by rw [← hW1]; exact (BoxG.new w 2 2 _ _).keep (below1 _ _))
  have B1 := Lib.hid (show Below w.heap.size w W1 by rw [← hW1]; exact below_more (below1 w _) (Nat.le_refl _) (below1 _ _))
  have R1 := Lib.hid (show W1.heap[w.heap.size + 1]? = some (.cells #[.bool false, .string ⟨#[]⟩] 40 (0, 0)) by
    rw [← hW1]
    have h := heap_alloc_new (w.alloc (.cells #[.int .i64 2, .int .i64 2, .slice a 3 c] 24)) (.cells #[.bool false, .string ⟨#[]⟩] 40)
    rw [World.size_alloc] at h
    exact h)
  have HRD := Lib.hid hrd
  have HT := Lib.hid hT
  have HCH := Lib.hid (fun W h => chkE ▸ gcheck_any 2 2 evE (.slice a 3 c) W h (by decide))
  have HBD := Lib.hid (fun W (h : EdgesRd W (.slice a 3 c) evE) (hT : TabD W) => build_even (.slice a 3 c) W h hT)
  have HPA := Lib.hid (fun W hv (h : EdgesRd W hv bE.2) => paths_any 2 3 3 bE.2 hv W h (by decide) (by decide) (by decide) (by decide) wayB)
  obtain ⟨x1, x2, x3⟩ := id G1.out
  clear hrd hT
  go_enter Tryd.func15, Tryd.ntmps15
  go_wp2_with (first
    | (go_at_call 18; (refine (HCH.out _ (HRD.out.keep B1.out)).mono ?_); rintro e W2 ⟨rfl, b2⟩; (have B2 := Lib.hid (B1.out.trans (b2.mono B1.out.size))); (have R2 := Lib.hid ((b2.block (w.heap.size + 1) (by omega)).trans R1.out)); (have z2 : w.heap.size + 2 ≤ W2.heap.size := by have := b2.size; omega); (obtain ⟨x1, x2, x3⟩ := G1.out.keep b2); clear b2)
    | (go_at_call 6; (refine (HBD.out _ (HRD.out.keep B2.out) (HT.out.keep B2.out)).mono ?_); rintro e W3 ⟨ah, ch, al, rfl, he3, hr3, b3⟩; (have k3 := below_more b3 (by omega) (below1 W3 (.cells #[.int .i64 2, .int .i64 3, .slice ah 5 ch] 24))); (have B3 := Lib.hid (B2.out.trans (k3.mono B2.out.size))); (have R3 := Lib.hid ((k3.block (w.heap.size + 1) (by omega)).trans R2.out)); (have z3 : w.heap.size + 2 ≤ (W3.alloc (.cells #[.int .i64 2, .int .i64 3, .slice ah 5 ch] 24)).heap.size := by have := k3.size; omega); (have HE3 := Lib.hid (he3.keep (below1 W3 (.cells #[.int .i64 2, .int .i64 3, .slice ah 5 ch] 24)))); clear b3 k3 he3 hr3)
    | (go_at_call 29; (refine (HPA.out _ _ HE3.out).mono ?_); rintro e W4 ⟨u, rfl, hnum, b4⟩; (obtain ⟨bn, rfl, -, hn⟩ := hnum); (obtain ⟨u0, cu0, hd0⟩ := hn 0 (by decide)); (rw [wayE] at hd0); (obtain ⟨q0, c0, rfl, h7⟩ : ∃ q c, u0 = .slice (some ⟨q, 0, none⟩) 1 c ∧ W4.cell? ⟨q, 0, none⟩ = some (u64v 7) := by (rcases hd0 with ⟨_, h⟩ | h; (exact absurd h (by decide)); exact h)); (have HV7 := Lib.hid (value7_any q0 0 c0 W4 h7)); (have B4 := Lib.hid (B3.out.trans (b4.mono B3.out.size))); (have R4 := Lib.hid ((b4.block (w.heap.size + 1) (by omega)).trans R3.out)); (have z4 : w.heap.size + 2 ≤ W4.heap.size := by have := b4.size; omega); clear b4 hn hd0 h7)
    | (go_at_call 30; (refine HV7.out.mono ?_); rintro e W5 ⟨rfl, b5⟩; (have B5 := Lib.hid (B4.out.trans (b5.mono B4.out.size))); (have h6 := (b5.block (w.heap.size + 1) (by omega)).trans R4.out); (have r1 : W5.cell? ⟨w.heap.size + 1, 0, none⟩ = some (.bool false) := by simp [World.cell?, h6]); (have r2 : W5.cell? ⟨w.heap.size + 1, 1, none⟩ = some (.string ⟨#[]⟩) := by simp [World.cell?, h6]); (have r3 : W5.frozen? ⟨w.heap.size + 1, 0, none⟩ = false := by simp [World.frozen?, h6]); (have r4 : W5.frozen? ⟨w.heap.size + 1, 1, none⟩ = false := by simp [World.frozen?, h6]); clear b5 h6))
  refine bodyPost_ret (v := .tuple #[.agg #[.bool false, .string ⟨#[7]⟩], .int .i64 0]) (by simp [results, Tryd.results15, go_sem, r1, r2]) rfl ?_
  exact ⟨rfl, (B5.out.setCell (p := ⟨w.heap.size + 1, 0, none⟩) (Nat.le_succ _) _).setCell (p := ⟨w.heap.size + 1, 1, none⟩) (Nat.le_succ _) _⟩
/-- max of three. -/
theorem max_3n {P : Program} (w : World) (ts : Array TypeId) (t : TypeId) (k : IntKind) (x y z : Int) :
    (Builtin.max_ ts t #[.int k x, .int k y, .int k z]).run P w = .ok (.int k (max (max x y) z)) w := by
  have e : ∀ x y : Int, (if y > x then y else x) = max x y := fun x y => by
    rw [Int.max_def]
    split <;> split <;> omega
  simp [Builtin.max_, Builtin.max2, e]
attribute [go_sem] max_3n
theorem lit3 (W : World) : RowsRd ((((W.alloc (.cells #[.int .i64 0, .int .i64 1] 3)).alloc (.cells #[.int .i64 0] 3)).alloc (.cells #[.int .i64 1] 3)).alloc (.cells #[.slice (some ⟨W.heap.size, 0, none⟩) 2 2, .slice (some ⟨W.heap.size + 1, 0, none⟩) 1 1, .slice (some ⟨W.heap.size + 1 + 1, 0, none⟩) 1 1] 25))
    (.slice (some ⟨W.heap.size + 1 + 1 + 1, 0, none⟩) 3 3) [[0, 1], [0], [1]] := by
  have e1 : IntsRd (W.alloc (.cells #[.int .i64 0, .int .i64 1] 3)) (.slice (some ⟨W.heap.size, 0, none⟩) 2 2) [0, 1] := (intsLit W [0, 1] (by decide) (by decide)).rd
  obtain ⟨W1, hW1⟩ : ∃ W1, W.alloc (.cells #[.int .i64 0, .int .i64 1] 3) = W1 := ⟨_, rfl⟩
  have z1 : W1.heap.size = W.heap.size + 1 := by rw [← hW1, World.size_alloc]
  rw [hW1] at e1 ⊢
  have e2 : IntsRd (W1.alloc (.cells #[.int .i64 0] 3)) (.slice (some ⟨W1.heap.size, 0, none⟩) 1 1) [0] := (intsLit W1 [0] (by decide) (by decide)).rd
  have e12 := e1.keep (below1 W1 (.cells #[.int .i64 0] 3))
  obtain ⟨W2, hW2⟩ : ∃ W2, W1.alloc (.cells #[.int .i64 0] 3) = W2 := ⟨_, rfl⟩
  have z2 : W2.heap.size = W.heap.size + 1 + 1 := by rw [← hW2, World.size_alloc, z1]
  rw [z1] at e2
  rw [hW2] at e2 e12 ⊢
  have e3 : IntsRd (W2.alloc (.cells #[.int .i64 1] 3)) (.slice (some ⟨W2.heap.size, 0, none⟩) 1 1) [1] := (intsLit W2 [1] (by decide) (by decide)).rd
  have e13 := e12.keep (below1 W2 (.cells #[.int .i64 1] 3))
  have e23 := e2.keep (below1 W2 (.cells #[.int .i64 1] 3))
  obtain ⟨W3, hW3⟩ : ∃ W3, W2.alloc (.cells #[.int .i64 1] 3) = W3 := ⟨_, rfl⟩
  have z3 : W3.heap.size = W.heap.size + 1 + 1 + 1 := by rw [← hW3, World.size_alloc, z2]
  rw [z2] at e3
  rw [hW3] at e3 e13 e23 ⊢
  have k4 := below1 W3 (.cells #[.slice (some ⟨W.heap.size, 0, none⟩) 2 2, .slice (some ⟨W.heap.size + 1, 0, none⟩) 1 1, .slice (some ⟨W.heap.size + 1 + 1, 0, none⟩) 1 1] 25)
  rw [← z3]
  refine ⟨_, _, rfl, fun i r hr => ?_⟩
  match i, hr with
  | 0, hr =>
    simp at hr
    subst hr
    exact ⟨_, _, _, rfl, by simp [go_sem], e13.keep k4⟩
  | 1, hr =>
    simp at hr
    subst hr
    exact ⟨_, _, _, rfl, by simp [go_sem], e23.keep k4⟩
  | 2, hr =>
    simp at hr
    subst hr
    exact ⟨_, _, _, rfl, by simp [go_sem], e3.keep k4⟩
def SA (p : Nat) (W : World) : Prop := W.cell? ⟨p, 0, none⟩ = some (.bool false) ∧ W.cell? ⟨p, 1, none⟩ = some (.string ⟨#[7]⟩)
theorem SA.keep {p : Nat} {W W' : World} (h : SA p W) (hb : Below W.heap.size W W') : SA p W' := ⟨cell_keep h.1 hb, cell_keep h.2 hb⟩
set_option maxRecDepth 100000 in
set_option maxHeartbeats 6400000 in
theorem awake12_any (w : World) (hT : TabD w) : Calls Tryd.prog 5 #[] w fun e w' => e = .returned (.bool true) ∧ Below w.heap.size w w' := by
  have hmx : Tryd.prog.follows .mixedOrders = true := by kernel_rfl
  have HT := Lib.hid hT
  clear hT
  go_enter Tryd.func5, Tryd.ntmps5
  go_upto_region 2 with (first
    | (go_at_call 13; (with_reducible refine (even_any w).mono ?_); rintro e W1 ⟨g1, rfl, he1, b1⟩)
    | (go_at_call 6; (with_reducible refine (build_even _ W1 he1 (HT.out.keep b1)).mono ?_); rintro e W2 ⟨ah, ch, al, rfl, he2, hr2, b2⟩))
  have k2 := below1 W2 (.cells #[.int .i64 2, .int .i64 3, .slice ah 5 ch] 24)
  have B2 := Lib.hid (below_more (below_more b1 (Nat.le_refl _) b2) (Nat.le_refl _) k2)
  have R2 := Lib.hid (hr2.keep k2)
  have G2 := Lib.hid (BoxG.new W2 2 3 (.slice ah 5 ch) 24)
  obtain ⟨ph, hph⟩ : ∃ ph, W2.heap.size = ph := ⟨_, rfl⟩
  rw [hph] at G2 ⊢
  clear he1 b1 he2 hr2 b2 k2 hph
  generalize W2.alloc (.cells #[.int .i64 2, .int .i64 3, .slice ah 5 ch] 24) = W2 at *
  go_upto_region 3 with (first
    | (go_at_call 13; (with_reducible refine (even_any _).mono ?_); rintro e W3 ⟨g3, rfl, he3, b3⟩)
    | (go_at_call 14; (with_reducible refine (focus_even _ W3 he3 ((HT.out.keep B2.out).keep b3)).mono ?_); rintro e W4 ⟨af, cf, rfl, hf4, b4⟩))
  have k4 := below_more b3 (Nat.le_refl _) b4
  have B4 := Lib.hid (B2.out.trans (k4.mono B2.out.size))
  have R4 := Lib.hid (R2.out.keep k4)
  have G4 := Lib.hid (G2.out.keep k4)
  have F4 := Lib.hid hf4
  clear he3 b3 hf4 b4 k4 B2 R2 G2
  go_upto_region 4 with (first
    | (go_at_call 13; (with_reducible refine (even_any _).mono ?_); rintro e W5 ⟨g5, rfl, he5, b5⟩)
    | (go_at_call 15; (with_reducible refine (count7_any _ W5 he5 ((HT.out.keep B4.out).keep b5)).mono ?_); rintro e W6 ⟨rfl, b6⟩))
  have k6 := below_more (below_more b5 (Nat.le_refl _) b6) (Nat.le_refl _) (below1 W6 (.cells #[.bool false, .string ⟨#[7]⟩] 40))
  have B6 := Lib.hid (B4.out.trans (k6.mono B4.out.size))
  have R6 := Lib.hid (R4.out.keep k6)
  have G6 := Lib.hid (G4.out.keep k6)
  have F6 := Lib.hid (F4.out.keep k6)
  have S6 : SA W6.heap.size (W6.alloc (.cells #[.bool false, .string ⟨#[7]⟩] 40)) := ⟨by simp [go_sem], by simp [go_sem]⟩
  obtain ⟨p8, hp8⟩ : ∃ p8, W6.heap.size = p8 := ⟨_, rfl⟩
  rw [hp8] at S6 ⊢
  clear he5 b5 b6 k6 B4 R4 G4 F4 hp8
  generalize W6.alloc (.cells #[.bool false, .string ⟨#[7]⟩] 40) = W7 at *
  have hR0 : SA p8 W7.drew := S6
  have HL := Lib.hid (same12_any [1] [1] (.slice af 1 cf) (.slice (some ⟨W7.heap.size, 0, none⟩) 1 1) (W7.alloc (.cells #[.int .i64 1] 3)).drew ((F6.out.keep (below1 W7 (.cells #[.int .i64 1] 3))).keep (Below.refl _ _).drew) (((intsLit W7 [1] (by decide) (by decide)).rd).keep (Below.refl _ _).drew) (by decide) (by decide))
  rw [show decide (([1] : List Int) = [1]) = true by decide] at HL
  have HOF := Lib.hid (fun W => of7_any W)
  have HSA := Lib.hid (fun o => show SA p8 (W7.alloc o).drew from S6.keep (below1 W7 o).drew)
  go_region_held3 (fun W => W.cell? ⟨p8, 0, none⟩ = some (.bool false) ∧ W.cell? ⟨p8, 1, none⟩ = some (.string ⟨#[7]⟩))
    (first | exact hR0 | exact HSA.out _ | exact hR6.out | exact hR7.out)
    (first
      | (go_at_call 16; (with_reducible refine HL.out.mono ?_); rintro e0 Y1 ⟨rfl, c1⟩; (have K1 := Lib.hid (below_more (below1 W7 (.cells #[.int .i64 1] 3)).drew (Nat.le_refl _) c1)); (have hR6 := Lib.hid (S6.keep K1.out)))
      | (go_at_call 17; (with_reducible refine (HOF.out _).mono ?_); rintro e0 Y2 ⟨rfl, c2⟩; (have K2 := Lib.hid (below_more K1.out (Nat.le_refl _) c2)); (have hR7 := Lib.hid (S6.keep K2.out))))
  all_goals
    obtain ⟨x1, x2, x3⟩ := G6.out.keep K2.out
    have R7 := R6.out.keep K2.out
    have B7 := Lib.hid (B6.out.trans (K2.out.mono B6.out.size))
    have b9 := below_more (below_more (below_more (below1 Y2 (.cells #[.int .i64 0, .int .i64 1] 3)) (Nat.le_refl _) (below1 _ (.cells #[.int .i64 0] 3))) (Nat.le_refl _) (below1 _ (.cells #[.int .i64 1] 3))) (Nat.le_refl _) (below1 _ (.cells #[.slice (some ⟨Y2.heap.size, 0, none⟩) 2 2, .slice (some ⟨Y2.heap.size + 1, 0, none⟩) 1 1, .slice (some ⟨Y2.heap.size + 1 + 1, 0, none⟩) 1 1] 25))
    have HSS := Lib.hid (sameSets_any _ _ _ _ _ (R7.keep b9) (lit3 Y2) (by decide) (by decide) (by decide) (by decide))
    rw [show decide (([[0, 1], [0], [1]] : List (List Int)) = [[0, 1], [0], [1]]) = true by decide] at HSS
    have B9 := Lib.hid (B7.out.trans (b9.mono B7.out.size))
    clear R7 b9 K2 hR6 hR7 HSA HL HOF
    go_wp2_with (go_at_call 11; (with_reducible refine HSS.out.mono ?_); rintro e0 Y3 ⟨rfl, c3⟩; (have B10 := Lib.hid (B9.out.trans (c3.mono B9.out.size))))
    go_ret
    exact ⟨rfl, B10.out⟩
end Go.Proofs.YthhbbiafffpknaaDoor
