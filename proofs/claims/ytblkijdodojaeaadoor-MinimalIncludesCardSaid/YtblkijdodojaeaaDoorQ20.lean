/- What grooveref09.Next and Step return. Conditions: the edges and the set can be read. Plain facts on graphs of sets: they are valid and deterministic, their edges are the steps. No condition. Plain facts on the graph of sets of a graph of sets, and of a deterministic graph. No condition. -/
import Derived.Test.YtblkijdodojaeaaDoorQ18
import Derived.Test.YtblkijdodojaeaaDoorQ19
import Derived.Deep.CutBlock
import Derived.Test.YtblkijdodojaeaaDoorQ16
import Derived.Test.YtblkijdodojaeaaDoorQ09

namespace Go.Proofs.YtblkijdodojaeaaDoor
open Go.RowKit
set_option linter.unusedSimpArgs false
set_option linter.unusedVariables false

theorem stepF_take {es : List E3} {set : List Int} {lab : Int} {t i : Nat} {e : E3} (h : es[i]? = some e) : stepF (es.take (i + 1)) set lab t = (stepF (es.take i) set lab t || (e.2.2 == (t : Int) && (e.2.1 == lab && decide (e.1 ∈ set)))) := by
  unfold stepF
  rw [List.take_add_one, h, List.any_append]
  simp only [Option.toList_some, List.any_cons, List.any_nil, Bool.or_false]
  congr 1
  cases (e.2.2 == (t : Int)) <;> cases (e.2.1 == lab) <;> cases decide (e.1 ∈ set) <;> rfl
set_option maxRecDepth 100000 in
set_option maxHeartbeats 6400000 in
theorem rnext_any (La lab : Int) (n : Nat) (es : List E3) (v vs : Value) (set : List Int) (w : World) (hrd : EdgesRd w v es) (hst : IntsRd w vs set) (hn : n ≤ 64) (hlen : es.length ≤ 1024) (hsl : set.length ≤ 9223372036854775807) :
    Calls Tryd.prog 113 #[grV La (n : Int) v, vs, .int .i64 lab] w (NewInts w (mems n (stepF es set lab))) := by
  obtain ⟨i0, hi, hz0, hz1, hz2⟩ := info_parts Tryd.infoI64
  have HRD := Lib.hid hrd
  have HST := Lib.hid hst
  have K0 := Lib.hid (BoxG.new w La (n : Int) v 24)
  have HH := Lib.hid (fun x W h => rhas_any vs set x W h hsl)
  have BO := Lib.hid (below1 w (.cells #[.int .i64 La, .int .i64 (n : Int), v] 24))
  obtain ⟨a, c, rfl⟩ := hrd.form
  obtain ⟨a2, c2, rfl⟩ := hst.form
  have hW1 : w.heap.size + 1 ≤ (w.alloc (.cells #[.int .i64 La, .int .i64 (n : Int), .slice a es.length c] 24)).heap.size := by rw [World.size_alloc]; exact Nat.le_refl _
  obtain ⟨W1, hW⟩ : ∃ W1, w.alloc (.cells #[.int .i64 La, .int .i64 (n : Int), .slice a es.length c] 24) = W1 := ⟨_, rfl⟩
  rw [hW] at K0 BO hW1
  have HW := Lib.hid hW
  clear hrd hst hW
  go_enter Tryd.func113, Tryd.ntmps113
  go_wp2_with fail
  rw [HW.out]
  clear HW
  go_loopg [7, 8] n (fun q s7 s8 wx => ∃ t : Nat, t + q = n ∧ s8 = .int .i64 (t : Int) ∧ IntsAt wx (w.heap.size + 1) s7 (mems t (stepF es set lab)) ∧ Below (w.heap.size + 1) W1 wx)
  case atStart => exact ⟨0, by omega, rfl, ints_nil _ _, Below.refl _ _⟩
  case round =>
    obtain ⟨t, htn, rfl, hown, hb⟩ := hrel
    have g1 := (hb.cell (p := ⟨w.heap.size, 0, none⟩) (Nat.lt_succ_self _)).trans K0.out.1
    have g2 := (hb.cell (p := ⟨w.heap.size, 1, none⟩) (Nat.lt_succ_self _)).trans K0.out.2.1
    have g3 := (hb.cell (p := ⟨w.heap.size, 2, none⟩) (Nat.lt_succ_self _)).trans K0.out.2.2
    obtain ⟨a7, c7, rfl⟩ := hown.slice
    have hml := mems_len t (stepF es set lab)
    have hsn := mems_succ t (stepF es set lab)
    rcases gk with _ | q
    · obtain rfl : t = n := by omega
      have HI := Lib.hid (own_low hown (Nat.le_succ w.heap.size))
      clear hown hsn
      obtain ⟨m, hm⟩ : ∃ m, (mems t (stepF es set lab)).length = m := ⟨_, rfl⟩
      rw [hm] at HI ⊢
      have HM := Lib.hid hm
      clear hm
      go_wp2_with fail
      go_ret
      exact ⟨_, rfl, by unfold IntsAt; rw [HM.out]; exact HI.out, BO.out.trans (hb.mono (Nat.le_succ _))⟩
    · have HOW := Lib.hid hown
      obtain ⟨m, hm⟩ : ∃ m, (mems t (stepF es set lab)).length = m := ⟨_, rfl⟩
      rw [hm] at hml ⊢
      have HM := Lib.hid hm
      have j0 : (t : Int) < (n : Int) := by omega
      obtain ⟨W7, hW7⟩ : ∃ W7, W7 = wr := ⟨_, rfl⟩
      rw [← hW7] at HOW hb g1 g2 g3
      have HB := Lib.hid hb
      have HG := Lib.hid (show BoxG W7 w.heap.size La (n : Int) (.slice a es.length c) from ⟨g1, g2, g3⟩)
      clear hm hown hb g1 g2 g3
      obtain ⟨g1, g2, g3⟩ := id HG.out
      rw [hW7] at g1 g2 g3
      go_upto_block 2 with fail
      subst hW7
      go_cut [9] (fun s9 wx => s9 = .bool (stepF es set lab t) ∧ Below W7.heap.size W7 wx)
      case first =>
        go_wp2_with fail
        go_loopg [9, 10, 11] es.length (fun q s9 s10 s11 wx => ∃ i : Nat, i + q = es.length ∧ s10 = .int .i64 (i : Int) ∧ s9 = .bool (stepF (es.take i) set lab t) ∧ Below W7.heap.size W7 wx)
        case atStart => exact ⟨0, by omega, rfl, rfl, Below.refl _ _⟩
        case round =>
          clear g1 g2 g3
          obtain ⟨i, hi2, rfl, rfl, hb2⟩ := hrel
          obtain ⟨g1, g2, g3⟩ := HG.out.keep hb2
          rcases gk with _ | q2
          · obtain rfl : i = es.length := by omega
            have HF := Lib.hid (show stepF (es.take es.length) set lab t = stepF es set lab t by rw [List.take_length])
            go_wp2_with fail
            go_meet
            exact ⟨by rw [HF.out], hb2⟩
          · obtain ⟨e, he⟩ : ∃ e, es[i]? = some e := ⟨_, List.getElem?_eq_getElem (by omega)⟩
            have hbw := (BO.out.trans (HB.out.mono (Nat.le_succ _))).trans (hb2.mono (show w.heap.size ≤ W7.heap.size by have := HB.out.size; omega))
            obtain ⟨b, off, c', hv, k1, k2, k3⟩ := (HRD.out.keep hbw).at he
            injection hv with e1 e2 e3
            subst e1
            subst e3
            have hst := stepF_take (set := set) (lab := lab) (t := t) he
            obtain ⟨x, y, z⟩ := e
            dsimp only at k1 k2 k3 hst
            have j1 : (i : Int) < (es.length : Int) := by omega
            have HSR := Lib.hid (HST.out.keep (hbw.alloc hbw.size (.cells #[.int .i64 x, .int .i64 y, .int .i64 z] 63)))
            have HB3 := Lib.hid (hb2.alloc hb2.size (.cells #[.int .i64 x, .int .i64 y, .int .i64 z] 63))
            clear he e2 hbw
            cases hf : stepF (es.take i) set lab t with
            | true =>
              have HT := Lib.hid (show stepF (es.take (i + 1)) set lab t = true by rw [hst, hf]; rfl)
              clear hst hf
              go_wp2_with fail
              go_roundg q2
              case measure => omega
              case rel => exact ⟨i + 1, by omega, by go_num, by rw [HT.out], HB3.out⟩
            | false =>
              rw [hf, Bool.false_or] at hst
              clear hf
              cases h1 : (z == (t : Int)) with
              | false =>
                have HT := Lib.hid (show stepF (es.take (i + 1)) set lab t = false by rw [hst, h1]; rfl)
                clear hst
                go_wp2_with fail
                go_roundg q2
                case measure => omega
                case rel => exact ⟨i + 1, by omega, by go_num, by rw [HT.out], HB3.out⟩
              | true =>
                cases h2 : (y == lab) with
                | false =>
                  have HT := Lib.hid (show stepF (es.take (i + 1)) set lab t = false by rw [hst, h1, h2]; rfl)
                  clear hst
                  go_wp2_with fail
                  go_roundg q2
                  case measure => omega
                  case rel => exact ⟨i + 1, by omega, by go_num, by rw [HT.out], HB3.out⟩
                | true =>
                  have HT := Lib.hid (show stepF (es.take (i + 1)) set lab t = decide (x ∈ set) by rw [hst, h1, h2]; simp)
                  clear hst
                  obtain ⟨bq, hbq⟩ : ∃ bq, decide (x ∈ set) = bq := ⟨_, rfl⟩
                  have HX := Lib.hid (hbq ▸ HH.out x _ HSR.out)
                  rw [hbq] at HT
                  clear hbq
                  go_wp2_with (go_at_call 129; (with_reducible refine HX.out.mono ?_); rintro e0 W5 ⟨rfl, rfl⟩)
                  go_roundg q2
                  case measure => omega
                  case rel => exact ⟨i + 1, by omega, by go_num, by rw [HT.out], HB3.out⟩
      case rest =>
        clear g1 g2 g3
        obtain ⟨rfl, hb2⟩ := hcut
        obtain ⟨g1, g2, g3⟩ := HG.out.keep hb2
        have hown0 := HOW.out.keep hb2
        have HOX := Lib.hid hown0
        have hbt : Below (w.heap.size + 1) W1 wc := HB.out.trans (hb2.mono (by have := HB.out.size; omega))
        clear hb2
        unfold IntsAt at hown0
        rw [HM.out] at hown0
        cases hf : stepF es set lab t with
        | true =>
          have HS := Lib.hid (show mems (t + 1) (stepF es set lab) = mems t (stepF es set lab) ++ [(t : Int)] by rw [hsn, hf]; rfl)
          have hlt := hown0.lt
          clear hsn hf
          go_wp2_with (first | (at_builtin; refine wpList_append_own_at _ rfl _ _ 28 rfl (w.heap.size + 1) 3 i0 (.int .i64 0) 1 8 Tryd.underlying28 hi hz0 hz1 hz2 rfl (by decide) _ _ _ rfl (hown0.alloc _) ⟨wc.heap.size, 0, none⟩ 1 1 [.int .i64 (t : Int)] rfl rfl ?c1 ?c2 ?c3 ?c4 ?c5 ?_))
          case c1 => exact World.news_of_block (cs := #[.int .i64 (t : Int)]) (t := 3) (fr := (0, 0)) (heap_alloc_new wc _)
          case c2 => intro u hu; simp at hu; subst hu; rfl
          case c3 => unfold maxLen; omega
          case c4 => omega
          case c5 => rw [World.size_alloc]; have := hbt.size; omega
          intro v' W2 hown2 hgrow _ hv'
          have hb3 : Below (w.heap.size + 1) W1 W2 := (hbt.alloc (by have := hbt.size; omega) _).grown hgrow (by rw [World.size_alloc]; have := hbt.size; omega) (fun k hk => (hlt k hk).1)
          rw [← intz_snoc, ← HS.out] at hown2
          have HI2 := Lib.hid (show IntsAt W2 (w.heap.size + 1) v' (mems (t + 1) (stepF es set lab)) by unfold IntsAt; rw [HS.out, List.length_append, HM.out]; rw [HS.out] at hown2; exact hown2)
          obtain ⟨a', c'', rfl⟩ := own_slice hown2
          clear hown0 hown2 hgrow hlt hv' hbt
          go_wp2_with fail
          go_roundg q
          case measure => omega
          case rel => exact ⟨t + 1, by omega, by go_num, HI2.out, hb3⟩
        | false =>
          have HI2 := Lib.hid (show IntsAt wc (w.heap.size + 1) (.slice a7 m c7) (mems (t + 1) (stepF es set lab)) by rw [hsn, hf]; have h := HOX.out; rw [HM.out] at h; simpa using h)
          clear hsn hf hown0
          go_wp2_with fail
          go_roundg q
          case measure => omega
          case rel => exact ⟨t + 1, by omega, by go_num, HI2.out, hbt⟩
/-- What Step returns: the states, the error. -/
def stepR (La S : Int) (es : List E3) (set : List Int) (lab : Int) : List Int × Int :=
  if chkG La S es = 0 then (if chkS S none set = 0 then (if 0 ≤ lab ∧ lab < La then (mems S.toNat (stepF es set lab), 0) else ([], 2)) else ([], chkS S none set)) else ([], 1)
theorem stepR_good {La S : Int} {es : List E3} {set : List Int} {lab : Int} (h0 : chkG La S es = 0) (h1 : chkS S none set = 0) (h2 : 0 ≤ lab ∧ lab < La) : stepR La S es set lab = (mems S.toNat (stepF es set lab), 0) := by unfold stepR; rw [if_pos h0, if_pos h1, if_pos h2]
theorem stepR_lab {La S : Int} {es : List E3} {set : List Int} {lab : Int} (h0 : chkG La S es = 0) (h1 : chkS S none set = 0) (h2 : ¬ (0 ≤ lab ∧ lab < La)) : stepR La S es set lab = ([], 2) := by unfold stepR; rw [if_pos h0, if_pos h1, if_neg h2]
theorem stepR_set {La S : Int} {es : List E3} {set : List Int} {lab : Int} (h0 : chkG La S es = 0) (h1 : ¬ chkS S none set = 0) : stepR La S es set lab = ([], chkS S none set) := by unfold stepR; rw [if_pos h0, if_neg h1]
theorem stepR_bad {La S : Int} {es : List E3} {set : List Int} {lab : Int} (h0 : ¬ chkG La S es = 0) : stepR La S es set lab = ([], 1) := by unfold stepR; rw [if_neg h0]
set_option maxRecDepth 100000 in
set_option maxHeartbeats 6400000 in
theorem rstep_any (La S lab : Int) (es : List E3) (v vs : Value) (set : List Int) (w : World) (hrd : EdgesRd w v es) (hn : es.length ≤ 9223372036854775807) (hst : IntsRd w vs set) (hsl : set.length ≤ 9223372036854775807) :
    Calls Tryd.prog 85 #[grV La S v, vs, .int .i64 lab] w (IOut w (stepR La S es set lab)) := by
  have HV := Lib.hid (fun W h => rcheck_any La S es v W h hn)
  have HC := Lib.hid (fun W h => rcheckSet_any La S v vs set W h hsl)
  have HRD := Lib.hid hrd
  have HST := Lib.hid hst
  have K0 := Lib.hid (BoxG.new w La S v 24)
  have BO := Lib.hid (below1 w (.cells #[.int .i64 La, .int .i64 S, v] 24))
  obtain ⟨a, c, rfl⟩ := hrd.form
  obtain ⟨a2, c2, rfl⟩ := hst.form
  clear hrd hst
  by_cases h0 : chkG La S es = 0
  · have H0 := Lib.hid h0
    by_cases h1 : chkS S none set = 0
    · have H1 := Lib.hid h1
      by_cases h2 : 0 ≤ lab ∧ lab < La
      · have HE := Lib.hid (stepR_good h0 h1 h2)
        have hlen := (chkG_zero h0).len
        have hs1 := (chkG_zero h0).s1
        have hs2 := (chkG_zero h0).s2
        have d1 : decide (lab < 0) = false := decide_eq_false (by omega)
        have d2 : decide (La ≤ lab) = false := decide_eq_false (by omega)
        obtain ⟨n, rfl⟩ : ∃ n : Nat, S = (n : Int) := ⟨S.toNat, by omega⟩
        have HN := Lib.hid (fun W h h' => rnext_any La lab n es (.slice a es.length c) (.slice a2 set.length c2) set W h h' (by omega) hlen hsl)
        clear h0 h1 h2
        go_enter Tryd.func85, Tryd.ntmps85
        go_wp2_with (first | (go_at_call 49; (with_reducible refine (HV.out _ (HRD.out.keep BO.out)).mono ?_); rintro e0 W1 ⟨rfl, b1⟩; (rw [H0.out]); (have G1 := Lib.hid (K0.out.keep b1)); (have B1 := Lib.hid (below_more BO.out (Nat.le_refl _) b1)); (clear b1); (obtain ⟨g1, g2, g3⟩ := id G1.out)) | (go_at_call 112; (with_reducible refine (HC.out _ (HST.out.keep B1.out)).mono ?_); rintro e0 W2 ⟨rfl, b2⟩; (rw [H1.out]); (have G2 := Lib.hid (G1.out.keep b2)); (have B2 := Lib.hid (below_more B1.out (Nat.le_refl _) b2)); (clear b2 g1 g2 g3); (obtain ⟨g1, g2, g3⟩ := id G2.out)) | (go_at_call 113; (with_reducible refine (HN.out _ (HRD.out.keep B2.out) (HST.out.keep B2.out)).mono ?_); rintro e0 W3 ⟨v3, rfl, i3, b3⟩))
        exact bodyPost_ret (v := .tuple #[v3, .int .i64 0]) (by simp [results, Tryd.results85, go_sem]) rfl ⟨_, by rw [HE.out], by rw [HE.out]; exact own_low i3 B2.out.size, below_more B2.out (Nat.le_refl _) b3⟩
      · have HE := Lib.hid (stepR_lab h0 h1 h2)
        clear h0 h1
        by_cases h3 : lab < 0
        · have d1 : decide (lab < 0) = true := decide_eq_true h3
          clear h2 h3
          go_enter Tryd.func85, Tryd.ntmps85
          go_wp2_with (first | (go_at_call 49; (with_reducible refine (HV.out _ (HRD.out.keep BO.out)).mono ?_); rintro e0 W1 ⟨rfl, b1⟩; (rw [H0.out]); (have G1 := Lib.hid (K0.out.keep b1)); (have B1 := Lib.hid (below_more BO.out (Nat.le_refl _) b1)); (clear b1); (obtain ⟨g1, g2, g3⟩ := id G1.out)) | (go_at_call 112; (with_reducible refine (HC.out _ (HST.out.keep B1.out)).mono ?_); rintro e0 W2 ⟨rfl, b2⟩; (rw [H1.out]); (have G2 := Lib.hid (G1.out.keep b2)); (have B2 := Lib.hid (below_more B1.out (Nat.le_refl _) b2)); (clear b2 g1 g2 g3); (obtain ⟨g1, g2, g3⟩ := id G2.out)))
          exact bodyPost_ret (v := .tuple #[.slice none 0 0, .int .i64 2]) (by simp [results, Tryd.results85, go_sem]) rfl ⟨_, by rw [HE.out], by rw [HE.out]; exact ints_nil _ _, B2.out⟩
        · have d1 : decide (lab < 0) = false := decide_eq_false h3
          have d2 : decide (La ≤ lab) = true := decide_eq_true (by omega)
          clear h2 h3
          go_enter Tryd.func85, Tryd.ntmps85
          go_wp2_with (first | (go_at_call 49; (with_reducible refine (HV.out _ (HRD.out.keep BO.out)).mono ?_); rintro e0 W1 ⟨rfl, b1⟩; (rw [H0.out]); (have G1 := Lib.hid (K0.out.keep b1)); (have B1 := Lib.hid (below_more BO.out (Nat.le_refl _) b1)); (clear b1); (obtain ⟨g1, g2, g3⟩ := id G1.out)) | (go_at_call 112; (with_reducible refine (HC.out _ (HST.out.keep B1.out)).mono ?_); rintro e0 W2 ⟨rfl, b2⟩; (rw [H1.out]); (have G2 := Lib.hid (G1.out.keep b2)); (have B2 := Lib.hid (below_more B1.out (Nat.le_refl _) b2)); (clear b2 g1 g2 g3); (obtain ⟨g1, g2, g3⟩ := id G2.out)))
          exact bodyPost_ret (v := .tuple #[.slice none 0 0, .int .i64 2]) (by simp [results, Tryd.results85, go_sem]) rfl ⟨_, by rw [HE.out], by rw [HE.out]; exact ints_nil _ _, B2.out⟩
    · have HE := Lib.hid (stepR_set (lab := lab) h0 h1)
      obtain ⟨z, hz⟩ : ∃ z, chkS S none set = z := ⟨_, rfl⟩
      simp only [hz] at HC HE
      rw [hz] at h1
      have d1 : (z != 0) = true := by simpa using h1
      clear h0 h1 hz
      go_enter Tryd.func85, Tryd.ntmps85
      go_wp2_with (first | (go_at_call 49; (with_reducible refine (HV.out _ (HRD.out.keep BO.out)).mono ?_); rintro e0 W1 ⟨rfl, b1⟩; (rw [H0.out]); (have G1 := Lib.hid (K0.out.keep b1)); (have B1 := Lib.hid (below_more BO.out (Nat.le_refl _) b1)); (clear b1); (obtain ⟨g1, g2, g3⟩ := id G1.out)) | (go_at_call 112; (with_reducible refine (HC.out _ (HST.out.keep B1.out)).mono ?_); rintro e0 W2 ⟨rfl, b2⟩; (have B2 := Lib.hid (below_more B1.out (Nat.le_refl _) b2)); (clear b2)))
      exact bodyPost_ret (v := .tuple #[.slice none 0 0, .int .i64 z]) (by simp [results, Tryd.results85, go_sem]) rfl ⟨_, by rw [HE.out], by rw [HE.out]; exact ints_nil _ _, B2.out⟩
  · have HE := Lib.hid (stepR_bad (set := set) (lab := lab) h0)
    obtain ⟨z, hz⟩ : ∃ z, chkG La S es = z := ⟨_, rfl⟩
    simp only [hz] at HV
    rw [hz] at h0
    have d1 : (z != 0) = true := by simpa using h0
    clear h0 hz
    go_enter Tryd.func85, Tryd.ntmps85
    go_wp2_with (go_at_call 49; (with_reducible refine (HV.out _ (HRD.out.keep BO.out)).mono ?_); rintro e0 W1 ⟨rfl, b1⟩; (have B1 := Lib.hid (below_more BO.out (Nat.le_refl _) b1)); (clear b1))
    exact bodyPost_ret (v := .tuple #[.slice none 0 0, .int .i64 1]) (by simp [results, Tryd.results85, go_sem]) rfl ⟨_, by rw [HE.out], by rw [HE.out]; exact ints_nil _ _, B1.out⟩
end Go.Proofs.YtblkijdodojaeaaDoor

namespace Go.Proofs.YtblkijdodojaeaaDoor
set_option linter.unusedVariables false

theorem mem_edsN {es : List E3} {sets : List Nat} {i c : Nat} {e : E3} (h : e ∈ edsN es sets i c) : ∃ l : Nat, l < c ∧ stN es (sets.getD i 0) l ≠ 0 ∧ e = ((i : Int), (l : Int), ((sets.idxOf (stN es (sets.getD i 0) l) : Nat) : Int)) := by
  unfold edsN at h
  rw [List.mem_filterMap] at h
  obtain ⟨l, hl, h⟩ := h
  unfold edN at h
  split at h
  · cases h
  · rename_i h0
    injection h with h
    exact ⟨l, List.mem_range.1 hl, h0, h.symm⟩
theorem mem_allN {es : List E3} {La : Nat} {sets : List Nat} {i : Nat} {e : E3} (h : e ∈ allN es La sets i) : ∃ j l : Nat, j < i ∧ l < La ∧ stN es (sets.getD j 0) l ≠ 0 ∧ e = ((j : Int), (l : Int), ((sets.idxOf (stN es (sets.getD j 0) l) : Nat) : Int)) := by
  unfold allN at h
  rw [List.mem_flatMap] at h
  obtain ⟨j, hj, h⟩ := h
  obtain ⟨l, hl, h0, h1⟩ := mem_edsN h
  exact ⟨j, l, List.mem_range.1 hj, hl, h0, h1⟩
def ltFL (a b : E3) : Prop := a.1 < b.1 ∨ (a.1 = b.1 ∧ a.2.1 < b.2.1)
theorem edsN_asc (es : List E3) (sets : List Nat) (i : Nat) : ∀ c, (edsN es sets i c).Pairwise ltFL
  | 0 => by unfold edsN; simp
  | c + 1 => by
    rw [edsN_succ, List.pairwise_append]
    refine ⟨edsN_asc es sets i c, ?_, fun a ha b hb => ?_⟩
    · cases edN es sets i c <;> simp
    · obtain ⟨l, hl, -, rfl⟩ := mem_edsN ha
      rw [Option.mem_toList] at hb
      unfold edN at hb
      split at hb
      · cases hb
      · injection hb with hb
        subst hb
        exact .inr ⟨rfl, by show (l : Int) < (c : Int); omega⟩
theorem allN_asc (es : List E3) (La : Nat) (sets : List Nat) : ∀ i, (allN es La sets i).Pairwise ltFL
  | 0 => by unfold allN; simp
  | i + 1 => by
    rw [allN_succ, List.pairwise_append]
    refine ⟨allN_asc es La sets i, edsN_asc es sets i La, fun a ha b hb => ?_⟩
    obtain ⟨j, l, hj, -, -, rfl⟩ := mem_allN ha
    obtain ⟨l2, -, -, rfl⟩ := mem_edsN hb
    exact .inl (by show (j : Int) < (i : Int); omega)
theorem ltFL_ltE {a b : E3} (h : ltFL a b) : ltE a b = true := by
  rw [ltE_iff]
  unfold ltFL at h
  omega
theorem detE_asc : ∀ {l : List E3}, l.Pairwise ltFL → detE l = true
  | [], _ => rfl
  | [_], _ => rfl
  | a :: b :: r, h => by
    rw [List.pairwise_cons] at h
    have h1 : ltFL a b := h.1 b (by simp)
    have h2 : (a.1 == b.1 && a.2.1 == b.2.1) = false := by
      unfold ltFL at h1
      rw [Bool.and_eq_false_iff, beq_eq_false_iff_ne, beq_eq_false_iff_ne]
      omega
    unfold detE
    rw [h2, detE_asc h.2]; rfl
section
variable {es : List E3} {La S : Nat} {b : Bs}
theorem ResN.vg (h : ResN es La S b) (h1 : 1 ≤ La) (h2 : La ≤ 256) : VG (La : Int) ((b.1.length : Nat) : Int) b.2 := by
  refine ⟨by omega, by omega, by omega, by have := h.n; omega, h.m, fun e he => ?_, ?_⟩
  · rw [h.ed] at he
    obtain ⟨j, l, hj, hl, h0, rfl⟩ := mem_allN he
    rw [okE_iff]
    have hx : stN es (b.1.getD j 0) l ∈ b.1 := (h.cl j l hj hl).resolve_left h0
    have hi := List.idxOf_lt_length_iff.2 hx
    dsimp only
    omega
  · rw [h.ed]
    exact (allN_asc es La b.1 _).imp (fun h => ltFL_ltE h)
theorem ResN.det (h : ResN es La S b) : detE b.2 = true := by
  rw [h.ed]
  exact detE_asc (allN_asc es La b.1 _)
theorem getD_idx {l : List Nat} {T : Nat} (h : T ∈ l) : l[l.idxOf T]? = some T := by
  have hi := List.idxOf_lt_length_iff.2 h
  rw [List.getElem?_eq_getElem hi, List.getElem_idxOf]
/-- An edge leads to where the step leads. -/
theorem ResN.edge (h : ResN es La S b) {e : E3} (he : e ∈ b.2) : ∃ j l T : Nat, j < b.1.length ∧ l < La ∧ b.1[j]? = some T ∧ e.1 = (j : Int) ∧ e.2.1 = (l : Int) ∧ stN es T l ≠ 0 ∧ ∃ t : Nat, e.2.2 = (t : Int) ∧ b.1[t]? = some (stN es T l) := by
  rw [h.ed] at he
  obtain ⟨j, l, hj, hl, h0, rfl⟩ := mem_allN he
  have hx : stN es (b.1.getD j 0) l ∈ b.1 := (h.cl j l hj hl).resolve_left h0
  obtain ⟨T, hT⟩ : ∃ T, b.1[j]? = some T := ⟨_, List.getElem?_eq_getElem hj⟩
  have hg : b.1.getD j 0 = T := by rw [List.getD_eq_getElem?_getD, hT]; rfl
  rw [hg] at h0 hx
  rw [hg]
  exact ⟨j, l, T, hj, hl, hT, rfl, rfl, h0, _, rfl, getD_idx hx⟩
end
theorem built_small {es : List E3} {La n S : Nat} {b : Bs} (hok : ∀ e ∈ es, okE (La : Int) (n : Int) e = true) (hS : ∀ i, S.testBit i = true → i < n) (hb : builtN es La S = some b) : BN n b.1 :=
  built_ind (P := fun b => BN n b.1) (fun i l b hi h => visN_small hok h) (fun T hT => by rw [List.mem_singleton] at hT; subst hT; exact hS) hb
theorem memN_sg {n S : Nat} (h : ∀ i, S.testBit i = true → i < n) : SG (n : Int) (memN S) :=
  ⟨fun x hx => by obtain ⟨i, rfl, -, h2⟩ := mems_mem.1 hx; have := h i h2; omega, memN_asc S⟩
theorem stepR_memN {es : List E3} {La n S l : Nat} (hvg : VG (La : Int) (n : Int) es) (hS : S < 18446744073709551616) (hb : ∀ i, S.testBit i = true → i < n) (hl : l < La) : stepR (La : Int) (n : Int) es (memN S) (l : Int) = (memN (stN es S l), 0) := by
  have hn : n ≤ 64 := by have := hvg.s2; omega
  rw [stepR_good hvg.chk (memN_sg hb).chk ⟨by omega, by omega⟩, Int.toNat_natCast]
  congr 1
  refine asc_ext (mems_asc _ _) (memN_asc _) (fun x => ?_)
  rw [mems_mem]
  have hx : ∀ t : Nat, stepF es (memN S) (l : Int) t = true ↔ t < 64 ∧ (stN es S l).testBit t = true := fun t => by
    rw [stN_bit]
    unfold stepF
    rw [Bool.and_eq_true, decide_eq_true_iff, List.any_eq_true, List.any_eq_true]
    constructor
    · rintro ⟨e, he, h⟩
      simp only [Bool.and_eq_true, beq_iff_eq, decide_eq_true_iff] at h
      have h3 := okE_iff.1 (hvg.ok e he)
      obtain ⟨i, hi⟩ : ∃ i : Nat, e.1 = (i : Int) := ⟨e.1.toNat, by omega⟩
      have h4 : S.testBit i = true := (memN_mem hS).1 (by rw [← hi]; exact h.1.1)
      refine ⟨by omega, by omega, e, he, ?_⟩
      simp only [Bool.and_eq_true, beq_iff_eq, decide_eq_true_iff]
      exact ⟨⟨⟨⟨by omega, by omega⟩, by rw [hi, Int.toNat_natCast]; exact h4⟩, h.1.2⟩, h.2⟩
    · rintro ⟨h1, -, e, he, h⟩
      simp only [Bool.and_eq_true, beq_iff_eq, decide_eq_true_iff] at h
      refine ⟨e, he, ?_⟩
      simp only [Bool.and_eq_true, beq_iff_eq, decide_eq_true_iff]
      refine ⟨⟨?_, h.1.2⟩, h.2⟩
      have h4 := (memN_mem (s := e.1.toNat) hS).2 h.1.1.2
      rwa [show ((e.1.toNat : Nat) : Int) = e.1 by omega] at h4
  constructor
  · rintro ⟨t, rfl, h1, h2⟩
    exact mems_mem.2 ⟨t, rfl, (hx t).1 h2⟩
  · intro h
    obtain ⟨t, rfl, h1, h2⟩ := mems_mem.1 h
    exact ⟨t, rfl, stN_small hvg.ok t h2, (hx t).2 ⟨h1, h2⟩⟩
theorem memN_nil {S : Nat} (h : S < 18446744073709551616) : memN S = [] ↔ S = 0 := by
  constructor
  · intro e
    exact memN_inj h (by decide) (e.trans (by decide : memN 0 = []).symm)
  · rintro rfl; decide
theorem fromR_ok {La S : Int} {es : List E3} {set : List Int} (h : (fromR La S es set).1 = 0) : ∃ (L n : Nat) (b : Bs), La = (L : Int) ∧ S = (n : Int) ∧ VG (L : Int) (n : Int) es ∧ SG (n : Int) set ∧ set ≠ [] ∧ builtN es L (ofN set) = some b ∧ (fromR La S es set).2 = b := by
  unfold fromR at h ⊢
  by_cases h0 : chkG La S es = 0
  · rw [if_pos h0] at h ⊢
    have hvg := chkG_zero h0
    obtain ⟨L, rfl⟩ : ∃ L : Nat, La = (L : Int) := ⟨La.toNat, by have := hvg.l1; omega⟩
    obtain ⟨n, rfl⟩ : ∃ n : Nat, S = (n : Int) := ⟨S.toNat, by have := hvg.s1; omega⟩
    by_cases h1 : chkS (n : Int) none set = 0
    · rw [if_pos h1] at h ⊢
      by_cases h2 : set = []
      · rw [if_pos h2] at h; cases h
      · rw [if_neg h2] at h ⊢
        rw [Int.toNat_natCast] at h ⊢
        cases hb : builtN es L (ofN set) with
        | none => rw [hb] at h; cases h
        | some b => exact ⟨L, n, b, rfl, rfl, hvg, chkS_ok h1, h2, hb, rfl⟩
    · rw [if_neg h1] at h; exact absurd h h1
  · rw [if_neg h0] at h; cases h
theorem fromR_no {La S : Int} {es : List E3} {set : List Int} (h : (fromR La S es set).1 ≠ 0) : (fromR La S es set).2 = ([], []) := by
  unfold fromR at h ⊢
  by_cases h0 : chkG La S es = 0
  · rw [if_pos h0] at h ⊢
    by_cases h1 : chkS S none set = 0
    · rw [if_pos h1] at h ⊢
      by_cases h2 : set = []
      · rw [if_pos h2]
      · rw [if_neg h2] at h ⊢
        cases hb : builtN es La.toNat (ofN set) with
        | none => rfl
        | some b => rw [hb] at h; exact absurd rfl h
    · rw [if_neg h1]
  · rw [if_neg h0]
end Go.Proofs.YtblkijdodojaeaaDoor

namespace Go.Proofs.YtblkijdodojaeaaDoor
set_option linter.unusedVariables false

theorem nodup_le {α : Type} [DecidableEq α] : ∀ {l m : List α}, l.Nodup → (∀ x ∈ l, x ∈ m) → l.length ≤ m.length
  | [], _, _, _ => Nat.zero_le _
  | a :: l, m, h, hs => by
    have ha := hs a (by simp)
    rw [List.nodup_cons] at h
    have h1 := nodup_le (l := l) (m := m.erase a) h.2 (fun x hx => (List.mem_erase_of_ne (fun e => by subst e; exact h.1 hx)).2 (hs x (by simp [hx])))
    rw [List.length_erase_of_mem ha] at h1
    have := List.length_pos_of_mem ha
    simp only [List.length_cons]; omega
theorem visN_pre (es : List E3) (i : Nat) (b : Bs) (l : Nat) : b.1 <+: (visN es i b l).1 := by
  unfold visN
  split
  · exact List.prefix_rfl
  · dsimp only
    split
    · exact List.prefix_rfl
    · exact List.prefix_append _ _
theorem rowN_pre2 (es : List E3) (i : Nat) (b : Bs) (c : Nat) : ∀ k, (rowN es i b c).1 <+: (rowN es i b (c + k)).1
  | 0 => List.prefix_rfl
  | k + 1 => by rw [← Nat.add_assoc, rowN_succ]; exact (rowN_pre2 es i b c k).trans (visN_pre _ _ _ _)
theorem runN_pre {es : List E3} {La : Nat} : ∀ {k i : Nat} {b b' : Bs}, runN es La k i b = some b' → b.1 <+: b'.1
  | 0, _, _, _, h => by cases h
  | k + 1, i, b, b', h => by
    by_cases h1 : i < b.1.length
    · by_cases h2 : tooN (rowN es i b La)
      · rw [runN_many h1 h2] at h; cases h
      · rw [runN_more h1 h2] at h
        have h3 := rowN_pre2 es i b 0 La
        rw [Nat.zero_add, rowN_zero] at h3
        exact h3.trans (runN_pre h)
    · rw [runN_end h1] at h
      injection h with h
      rw [h]
      exact List.prefix_rfl
/-- The sets of one state: 0, 1, .. -/
def sg1 (k : Nat) : List Nat := (List.range k).map (2 ^ ·)
theorem sg1_len (k : Nat) : (sg1 k).length = k := by unfold sg1; rw [List.length_map, List.length_range]
theorem sg1_at {k i : Nat} (h : i < k) : (sg1 k)[i]? = some (2 ^ i) := by
  unfold sg1; rw [List.getElem?_map, List.getElem?_range h]; rfl
theorem sg1_get {k i : Nat} (h : i < k) : (sg1 k).getD i 0 = 2 ^ i := by rw [List.getD_eq_getElem?_getD, sg1_at h]; rfl
theorem pow_inj2 {i j : Nat} (h : 2 ^ i = 2 ^ j) : i = j := by
  have h1 : (2 ^ i).testBit i = true := by rw [Nat.testBit_two_pow]; simp
  rw [h, Nat.testBit_two_pow] at h1
  exact (decide_eq_true_iff.1 h1).symm
theorem sg1_mem {k t : Nat} : 2 ^ t ∈ sg1 k ↔ t < k := by
  unfold sg1
  rw [List.mem_map]
  constructor
  · rintro ⟨x, hx, he⟩
    rw [← pow_inj2 he]; exact List.mem_range.1 hx
  · intro h; exact ⟨t, List.mem_range.2 h, rfl⟩
theorem sg1_succ (k : Nat) : sg1 (k + 1) = sg1 k ++ [2 ^ k] := by unfold sg1; rw [List.range_succ, List.map_append]; rfl
theorem sg1_nd : ∀ k, (sg1 k).Nodup
  | 0 => by unfold sg1; simp
  | k + 1 => by
    rw [sg1_succ, List.nodup_append]
    refine ⟨sg1_nd k, by simp, fun a ha b hb e => ?_⟩
    rw [List.mem_singleton] at hb
    subst hb
    subst e
    have := sg1_mem.1 ha
    omega
theorem idx_nd {l : List Nat} (h : l.Nodup) {i x : Nat} (hx : l[i]? = some x) : l.idxOf x = i :=
  (List.getElem?_inj (List.idxOf_lt_length_iff.2 (List.mem_of_getElem? hx)) h).1 ((getD_idx (List.mem_of_getElem? hx)).trans hx.symm)
theorem allN_mk {es : List E3} {La : Nat} {F : List Nat} {n i c : Nat} (hi : i < n) (hc : c < La) (h : stN es (F.getD i 0) c ≠ 0) : (((i : Int), (c : Int), ((F.idxOf (stN es (F.getD i 0) c) : Nat) : Int)) : E3) ∈ allN es La F n := by
  unfold allN edsN
  exact List.mem_flatMap.2 ⟨i, List.mem_range.2 hi, List.mem_filterMap.2 ⟨c, List.mem_range.2 hc, by unfold edN; rw [if_neg h]⟩⟩
section
variable {es : List E3} {La : Nat} {F : List Nat}
theorem stAll (hn : F.length ≤ 64) (hcl : ∀ j l, j < F.length → l < La → stN es (F.getD j 0) l = 0 ∨ stN es (F.getD j 0) l ∈ F) {i c : Nat} (hi : i < F.length) (hc : c < La) :
    stN (allN es La F F.length) (2 ^ i) c = if stN es (F.getD i 0) c = 0 then 0 else 2 ^ (F.idxOf (stN es (F.getD i 0) c)) := by
  refine Nat.eq_of_testBit_eq fun t => ?_
  rw [stN_bit]
  have key : ∀ e ∈ allN es La F F.length, (decide (0 ≤ e.1) && decide (e.1 < 64) && (2 ^ i).testBit e.1.toNat && e.2.1 == (c : Int) && e.2.2 == (t : Int)) = true → stN es (F.getD i 0) c ≠ 0 ∧ F.idxOf (stN es (F.getD i 0) c) = t := by
    intro e he h
    obtain ⟨j, l, hj, hl, h0, rfl⟩ := mem_allN he
    simp only [Bool.and_eq_true, beq_iff_eq, decide_eq_true_iff, Int.toNat_natCast, Nat.testBit_two_pow] at h
    obtain ⟨⟨⟨-, h1⟩, h2⟩, h3⟩ := h
    obtain rfl : i = j := h1
    obtain rfl : l = c := by omega
    exact ⟨h0, by omega⟩
  split
  · rename_i h0
    rw [Nat.zero_testBit, Bool.and_eq_false_iff]
    right
    rw [List.any_eq_false]
    intro e he h
    exact (key e he h).1 h0
  · rename_i h0
    rw [Nat.testBit_two_pow, Bool.eq_iff_iff, Bool.and_eq_true, decide_eq_true_iff, List.any_eq_true, decide_eq_true_iff]
    constructor
    · rintro ⟨-, e, he, h⟩
      exact (key e he h).2
    · intro h
      have hx := List.idxOf_lt_length_iff.2 ((hcl i c hi hc).resolve_left h0)
      refine ⟨by omega, _, allN_mk hi hc h0, ?_⟩
      simp only [Bool.and_eq_true, beq_iff_eq, decide_eq_true_iff, Int.toNat_natCast, Nat.testBit_two_pow]
      exact ⟨⟨⟨⟨by omega, by omega⟩, trivial⟩, trivial⟩, by rw [h]⟩
theorem again_vis (hnd : F.Nodup) (hn : F.length ≤ 64) (hcl : ∀ j l, j < F.length → l < La → stN es (F.getD j 0) l = 0 ∨ stN es (F.getD j 0) l ∈ F) {i c k : Nat} {ed : List E3} (hi : i < k) (hk : k ≤ F.length) (hc : c < La) (hpre : (visN es i (F.take k, ed) c).1 <+: F) :
    visN (allN es La F F.length) i (sg1 k, ed) c = (sg1 (visN es i (F.take k, ed) c).1.length, (visN es i (F.take k, ed) c).2) := by
  have hlk : (F.take k).length = k := by rw [List.length_take]; omega
  have hg : (F.take k).getD i 0 = F.getD i 0 := by rw [List.getD_eq_getElem?_getD, List.getElem?_take_of_lt hi, ← List.getD_eq_getElem?_getD]
  have hs : (sg1 k).getD i 0 = 2 ^ i := sg1_get hi
  have hst := stAll (es := es) (La := La) hn hcl (i := i) (c := c) (by omega) hc
  by_cases hT : stN es (F.getD i 0) c = 0
  · rw [if_pos hT] at hst
    rw [visN_none (b := (F.take k, ed)) (by dsimp only; rw [hg]; exact hT), visN_none (b := (sg1 k, ed)) (by dsimp only; rw [hs]; exact hst)]
    dsimp only
    rw [hlk]
  · rw [if_neg hT] at hst
    have h2 : (2 : Nat) ^ (F.idxOf (stN es (F.getD i 0) c)) ≠ 0 := Nat.ne_of_gt (Nat.two_pow_pos _)
    by_cases hm : stN es (F.getD i 0) c ∈ F.take k
    · have ht := List.idxOf_lt_length_iff.2 hm
      have hx := getD_idx hm
      rw [hlk] at ht
      rw [List.getElem?_take_of_lt ht] at hx
      have hix := idx_nd hnd hx
      rw [hix] at hst
      rw [visN_old (b := (F.take k, ed)) (by dsimp only; rw [hg]; exact hT) (by dsimp only; rw [hg]; exact hm), visN_old (b := (sg1 k, ed)) (by dsimp only; rw [hs, hst]; exact Nat.ne_of_gt (Nat.two_pow_pos _)) (by dsimp only; rw [hs, hst]; exact sg1_mem.2 ht)]
      dsimp only
      rw [hlk, hg, hs, hst, idx_nd (sg1_nd k) (sg1_at ht)]
    · rw [visN_new (b := (F.take k, ed)) (by dsimp only; rw [hg]; exact hT) (by dsimp only; rw [hg]; exact hm)] at hpre ⊢
      dsimp only at hpre ⊢
      rw [hg] at hpre ⊢
      have hF : F[k]? = some (stN es (F.getD i 0) c) := by
        obtain ⟨r, hr⟩ := hpre
        have h5 : ((F.take k ++ [stN es (F.getD i 0) c]) ++ r)[k]? = F[k]? := by rw [hr]
        rw [← h5, List.append_assoc, List.getElem?_append_right (by omega), hlk, Nat.sub_self]; rfl
      have hix := idx_nd hnd hF
      rw [hix] at hst
      rw [visN_new (b := (sg1 k, ed)) (by dsimp only; rw [hs, hst]; exact Nat.ne_of_gt (Nat.two_pow_pos _)) (by dsimp only; rw [hs, hst, sg1_mem]; omega)]
      dsimp only
      rw [hs, hst, List.length_append, hlk, sg1_len, ← sg1_succ]; rfl
theorem again_row (hnd : F.Nodup) (hn : F.length ≤ 64) (hcl : ∀ j l, j < F.length → l < La → stN es (F.getD j 0) l = 0 ∨ stN es (F.getD j 0) l ∈ F) {i : Nat} {b : Bs} (hi : i < b.1.length) (hpre : (rowN es i b La).1 <+: F) :
    ∀ c, c ≤ La → rowN (allN es La F F.length) i (sg1 b.1.length, b.2) c = (sg1 (rowN es i b c).1.length, (rowN es i b c).2)
  | 0, _ => rfl
  | c + 1, h => by
    have ih := again_row hnd hn hcl hi hpre c (by omega)
    have hp1 : (rowN es i b c).1 <+: F := by
      have := rowN_pre2 es i b c (La - c)
      rw [show c + (La - c) = La by omega] at this
      exact this.trans hpre
    have hp2 : (rowN es i b (c + 1)).1 <+: F := by
      have := rowN_pre2 es i b (c + 1) (La - (c + 1))
      rw [show c + 1 + (La - (c + 1)) = La by omega] at this
      exact this.trans hpre
    have hl := (rowN_len es i b c).1
    have e1 : rowN es i b c = (F.take (rowN es i b c).1.length, (rowN es i b c).2) := Prod.ext (List.prefix_iff_eq_take.1 hp1) rfl
    rw [rowN_succ, rowN_succ, ih]
    rw [rowN_succ, e1] at hp2
    have := again_vis hnd hn hcl (i := i) (c := c) (k := (rowN es i b c).1.length) (ed := (rowN es i b c).2) (by omega) hp1.length_le (by omega) hp2
    rw [← e1] at this
    exact this
theorem again_run (hnd : F.Nodup) (hn : F.length ≤ 64) (hcl : ∀ j l, j < F.length → l < La → stN es (F.getD j 0) l = 0 ∨ stN es (F.getD j 0) l ∈ F) : ∀ {k i : Nat} {b b' : Bs}, runN es La k i b = some b' → b'.1 = F →
    runN (allN es La F F.length) La k i (sg1 b.1.length, b.2) = some (sg1 F.length, b'.2)
  | 0, _, _, _, h, _ => by cases h
  | k + 1, i, b, b', h, hF => by
    by_cases h1 : i < b.1.length
    · by_cases h2 : tooN (rowN es i b La)
      · rw [runN_many h1 h2] at h; cases h
      · rw [runN_more h1 h2] at h
        have hp := runN_pre h
        rw [hF] at hp
        have hr := again_row hnd hn hcl h1 hp La (Nat.le_refl _)
        have h3 : i < (sg1 b.1.length, b.2).1.length := by dsimp only; rw [sg1_len]; exact h1
        rw [runN_more h3 (by rw [hr]; unfold tooN at h2 ⊢; dsimp only; rw [sg1_len]; exact h2), hr]
        exact again_run hnd hn hcl h hF
    · rw [runN_end h1] at h
      injection h with h
      subst h
      rw [runN_end (by dsimp only; rw [sg1_len]; exact h1), hF]
end
theorem again_built {es : List E3} {La S : Nat} {b : Bs} (h : ResN es La S b) (hb : builtN es La S = some b) : builtN b.2 La 1 = some (sg1 b.1.length, b.2) := by
  have h1 := again_run (F := b.1) h.nd h.n h.cl hb rfl
  rw [← h.ed] at h1
  exact h1
end Go.Proofs.YtblkijdodojaeaaDoor
