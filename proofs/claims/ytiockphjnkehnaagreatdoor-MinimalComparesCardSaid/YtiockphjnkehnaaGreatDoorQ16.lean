/- What graph.leaving's function yields: the edges that leave a state, in order. Conditions: at most 1024 edges, numbers below 64, in order. What graph.Step returns for a valid graph, a set of its states and a label: what edges with the label lead to. What grooveref09.Next and Step return. Conditions: the edges and the set can be read. -/
import Derived.Test.YtiockphjnkehnaaGreatDoorQ03
import Derived.Test.YtiockphjnkehnaaGreatDoorQ02
import Derived.RangeFuncNested
import Derived.RangeFuncBound
import Derived.RangeFuncCalls
import Derived.RangeFuncLeaves
import Derived.RangeFuncOne
import Derived.Shelf.Abstract
import Derived.Shelf.RegionOpen
import Derived.WalkKit
import Derived.OwnWalkIn
import Derived.TacticsInMore
import Derived.LoopNIn
import Derived.LoopIn
import Derived.Sort.QuietIn
import Derived.Sort.LoopGhostIn
import Derived.Lib.Builder
import Derived.Test.YtiockphjnkehnaaGreatDoorQ07
import Derived.Test.YtiockphjnkehnaaGreatDoorQ15
import Derived.Deep.CutBlock

namespace Go.Proofs.YtiockphjnkehnaaGreatDoor
open Go.RowKit Go.Shelf
attribute [local go_sem] Oper.semAt_some
set_option linter.unusedSimpArgs false
set_option linter.unusedVariables false

theorem below_grown' {W W1 : World} (h : Below W.heap.size W W1) : W.grownBy W1 none := ⟨h.os, h.tape, h.output, h.size, fun k hk _ => h.block k hk⟩
def natV : Value → Nat
  | .int _ z => z.toNat
  | _ => 0
end Go.Proofs.YtiockphjnkehnaaGreatDoor

namespace Go.Proofs.YtiockphjnkehnaaGreatDoor
open Go.RowKit Go.Shelf
attribute [local go_sem] Oper.semAt_some
set_option linter.unusedSimpArgs false
set_option linter.unusedVariables false

def stepF (es : List E3) (set : List Int) (lab : Int) (t : Nat) : Bool := es.any fun e => decide (e.1 ∈ set) && e.2.1 == lab && e.2.2 == (t : Int)
theorem BoxG.own {W W' : World} {p : Nat} {L S : Int} {v : Value} {row : Option Nat} (h : BoxG W p L S v) (hg : W.grownBy W' row) (hr : ∀ r, row = some r → ∃ o : Obj, W.heap[r]? = some o ∧ o.isCells = false) : BoxG W' p L S v :=
  ⟨cell_kept h.1 hg hr, cell_kept h.2.1 hg hr, cell_kept h.2.2 hg hr⟩
theorem BRow.own {W W' : World} {b n : Nat} {f : Nat → Bool} {row : Option Nat} (h : BRow W b n f) (hg : W.grownBy W' row) (hr : ∀ r, row = some r → ∃ o : Obj, W.heap[r]? = some o ∧ o.isCells = false) : BRow W' b n f := by
  obtain ⟨c, h1, h2⟩ := h
  exact ⟨c, (grownBy_keeps_cells hg hr h1 rfl).trans h1, h2⟩
theorem BRow.frozen {W : World} {b n : Nat} {f : Nat → Bool} (h : BRow W b n f) (i : Nat) : W.frozen? ⟨b, i, none⟩ = false := by
  obtain ⟨c, h1, -⟩ := h
  simp [World.frozen?, h1]
theorem below_put9 {B : Nat} {W W' : World} (h : Below B W W') (l : Nat) (hl : B ≤ l) (o : Obj) : Below B W (W'.putObj l o) :=
  h.trans ⟨rfl, rfl, rfl, by simp, fun k hk => World.putObj_heap_other (by omega)⟩
theorem Box3.own {W W' : World} {p : Nat} {e : E3} {row : Option Nat} (h : Box3 W p e) (hg : W.grownBy W' row) (hr : ∀ r, row = some r → ∃ o : Obj, W.heap[r]? = some o ∧ o.isCells = false) : Box3 W' p e :=
  ⟨cell_kept h.1 hg hr, cell_kept h.2.1 hg hr, cell_kept h.2.2.1 hg hr, (frozen_kept h.1 hg hr).trans h.2.2.2.1, (frozen_kept h.2.1 hg hr).trans h.2.2.2.2.1, (frozen_kept h.2.2.1 hg hr).trans h.2.2.2.2.2⟩
end Go.Proofs.YtiockphjnkehnaaGreatDoor

namespace Go.Proofs.YtiockphjnkehnaaGreatDoor
open Go.RowKit
set_option linter.unusedSimpArgs false
set_option linter.unusedVariables false

theorem stepF_take {es : List E3} {set : List Int} {lab : Int} {t i : Nat} {e : E3} (h : es[i]? = some e) : stepF (es.take (i + 1)) set lab t = (stepF (es.take i) set lab t || (e.2.2 == (t : Int) && (e.2.1 == lab && decide (e.1 ∈ set)))) := by
  unfold stepF
  rw [List.take_add_one, h, List.any_append]
  simp only [Option.toList_some, List.any_cons, List.any_nil, Bool.or_false]
  congr 1
  cases (e.2.2 == (t : Int)) <;> cases (e.2.1 == lab) <;> cases decide (e.1 ∈ set) <;> rfl
set_option maxRecDepth 100000 in
set_option maxHeartbeats 6400000 in
theorem rnext_any (La lab : Int) (n : Nat) (es : List E3) (v vs : Value) (set : List Int) (w : World) (hrd : EdgesRd w v es) (hst : IntsRd w vs set) (hn : n ≤ 64) (hlen : es.length ≤ 1024) (hsl : set.length ≤ 9223372036854775807) :
    Calls Tryz.prog 117 #[grV La (n : Int) v, vs, .int .i64 lab] w (NewInts w (mems n (stepF es set lab))) := by
  obtain ⟨i0, hi, hz0, hz1, hz2⟩ := info_parts Tryz.infoI64
  have HRD := Lib.hid hrd
  have HST := Lib.hid hst
  have K0 := Lib.hid (BoxG.new w La (n : Int) v 24)
  have HH := Lib.hid (fun x W h => rhas_any vs set x W h hsl)
  have BO := Lib.hid (below1 w (.cells #[.int .i64 La, .int .i64 (n : Int), v] 24))
  obtain ⟨a, c, rfl⟩ := hrd.form
  obtain ⟨a2, c2, rfl⟩ := hst.form
  have hW1 : w.heap.size + 1 ≤ (w.alloc (.cells #[.int .i64 La, .int .i64 (n : Int), .slice a es.length c] 24)).heap.size := by rw [World.size_alloc]; exact Nat.le_refl _
  obtain ⟨W1, hW⟩ : ∃ W1, w.alloc (.cells #[.int .i64 La, .int .i64 (n : Int), .slice a es.length c] 24) = W1 := ⟨_, rfl⟩
  rw [hW] at K0 BO hW1
  have HW := Lib.hid hW
  clear hrd hst hW
  go_enter Tryz.func117, Tryz.ntmps117
  go_wp2_with fail
  rw [HW.out]
  clear HW
  go_loopg [7, 8] n (fun q s7 s8 wx => ∃ t : Nat, t + q = n ∧ s8 = .int .i64 (t : Int) ∧ IntsAt wx (w.heap.size + 1) s7 (mems t (stepF es set lab)) ∧ Below (w.heap.size + 1) W1 wx)
  case atStart => exact ⟨0, by omega, rfl, ints_nil _ _, Below.refl _ _⟩
  case round =>
    obtain ⟨t, htn, rfl, hown, hb⟩ := hrel
    have g1 := (hb.cell (p := ⟨w.heap.size, 0, none⟩) (Nat.lt_succ_self _)).trans K0.out.1
    have g2 := (hb.cell (p := ⟨w.heap.size, 1, none⟩) (Nat.lt_succ_self _)).trans K0.out.2.1
    have g3 := (hb.cell (p := ⟨w.heap.size, 2, none⟩) (Nat.lt_succ_self _)).trans K0.out.2.2
    obtain ⟨a7, c7, rfl⟩ := hown.slice
    have hml := mems_len t (stepF es set lab)
    have hsn := mems_succ t (stepF es set lab)
    rcases gk with _ | q
    · obtain rfl : t = n := by omega
      have HI := Lib.hid (own_low hown (Nat.le_succ w.heap.size))
      clear hown hsn
      obtain ⟨m, hm⟩ : ∃ m, (mems t (stepF es set lab)).length = m := ⟨_, rfl⟩
      rw [hm] at HI ⊢
      have HM := Lib.hid hm
      clear hm
      go_wp2_with fail
      go_ret
      exact ⟨_, rfl, by unfold IntsAt; rw [HM.out]; exact HI.out, BO.out.trans (hb.mono (Nat.le_succ _))⟩
    · have HOW := Lib.hid hown
      obtain ⟨m, hm⟩ : ∃ m, (mems t (stepF es set lab)).length = m := ⟨_, rfl⟩
      rw [hm] at hml ⊢
      have HM := Lib.hid hm
      have j0 : (t : Int) < (n : Int) := by omega
      obtain ⟨W7, hW7⟩ : ∃ W7, W7 = wr := ⟨_, rfl⟩
      rw [← hW7] at HOW hb g1 g2 g3
      have HB := Lib.hid hb
      have HG := Lib.hid (show BoxG W7 w.heap.size La (n : Int) (.slice a es.length c) from ⟨g1, g2, g3⟩)
      clear hm hown hb g1 g2 g3
      obtain ⟨g1, g2, g3⟩ := id HG.out
      rw [hW7] at g1 g2 g3
      go_upto_block 2 with fail
      subst hW7
      go_cut [9] (fun s9 wx => s9 = .bool (stepF es set lab t) ∧ Below W7.heap.size W7 wx)
      case first =>
        go_wp2_with fail
        go_loopg [9, 10, 11] es.length (fun q s9 s10 s11 wx => ∃ i : Nat, i + q = es.length ∧ s10 = .int .i64 (i : Int) ∧ s9 = .bool (stepF (es.take i) set lab t) ∧ Below W7.heap.size W7 wx)
        case atStart => exact ⟨0, by omega, rfl, rfl, Below.refl _ _⟩
        case round =>
          clear g1 g2 g3
          obtain ⟨i, hi2, rfl, rfl, hb2⟩ := hrel
          obtain ⟨g1, g2, g3⟩ := HG.out.keep hb2
          rcases gk with _ | q2
          · obtain rfl : i = es.length := by omega
            have HF := Lib.hid (show stepF (es.take es.length) set lab t = stepF es set lab t by rw [List.take_length])
            go_wp2_with fail
            go_meet
            exact ⟨by rw [HF.out], hb2⟩
          · obtain ⟨e, he⟩ : ∃ e, es[i]? = some e := ⟨_, List.getElem?_eq_getElem (by omega)⟩
            have hbw := (BO.out.trans (HB.out.mono (Nat.le_succ _))).trans (hb2.mono (show w.heap.size ≤ W7.heap.size by have := HB.out.size; omega))
            obtain ⟨b, off, c', hv, k1, k2, k3⟩ := (HRD.out.keep hbw).at he
            injection hv with e1 e2 e3
            subst e1
            subst e3
            have hst := stepF_take (set := set) (lab := lab) (t := t) he
            obtain ⟨x, y, z⟩ := e
            dsimp only at k1 k2 k3 hst
            have j1 : (i : Int) < (es.length : Int) := by omega
            have HSR := Lib.hid (HST.out.keep (hbw.alloc hbw.size (.cells #[.int .i64 x, .int .i64 y, .int .i64 z] 39)))
            have HB3 := Lib.hid (hb2.alloc hb2.size (.cells #[.int .i64 x, .int .i64 y, .int .i64 z] 39))
            clear he e2 hbw
            cases hf : stepF (es.take i) set lab t with
            | true =>
              have HT := Lib.hid (show stepF (es.take (i + 1)) set lab t = true by rw [hst, hf]; rfl)
              clear hst hf
              go_wp2_with fail
              go_roundg q2
              case measure => omega
              case rel => exact ⟨i + 1, by omega, by go_num, by rw [HT.out], HB3.out⟩
            | false =>
              rw [hf, Bool.false_or] at hst
              clear hf
              cases h1 : (z == (t : Int)) with
              | false =>
                have HT := Lib.hid (show stepF (es.take (i + 1)) set lab t = false by rw [hst, h1]; rfl)
                clear hst
                go_wp2_with fail
                go_roundg q2
                case measure => omega
                case rel => exact ⟨i + 1, by omega, by go_num, by rw [HT.out], HB3.out⟩
              | true =>
                cases h2 : (y == lab) with
                | false =>
                  have HT := Lib.hid (show stepF (es.take (i + 1)) set lab t = false by rw [hst, h1, h2]; rfl)
                  clear hst
                  go_wp2_with fail
                  go_roundg q2
                  case measure => omega
                  case rel => exact ⟨i + 1, by omega, by go_num, by rw [HT.out], HB3.out⟩
                | true =>
                  have HT := Lib.hid (show stepF (es.take (i + 1)) set lab t = decide (x ∈ set) by rw [hst, h1, h2]; simp)
                  clear hst
                  obtain ⟨bq, hbq⟩ : ∃ bq, decide (x ∈ set) = bq := ⟨_, rfl⟩
                  have HX := Lib.hid (hbq ▸ HH.out x _ HSR.out)
                  rw [hbq] at HT
                  clear hbq
                  go_wp2_with (go_at_call 62; (with_reducible refine HX.out.mono ?_); rintro e0 W5 ⟨rfl, rfl⟩)
                  go_roundg q2
                  case measure => omega
                  case rel => exact ⟨i + 1, by omega, by go_num, by rw [HT.out], HB3.out⟩
      case rest =>
        clear g1 g2 g3
        obtain ⟨rfl, hb2⟩ := hcut
        obtain ⟨g1, g2, g3⟩ := HG.out.keep hb2
        have hown0 := HOW.out.keep hb2
        have HOX := Lib.hid hown0
        have hbt : Below (w.heap.size + 1) W1 wc := HB.out.trans (hb2.mono (by have := HB.out.size; omega))
        clear hb2
        unfold IntsAt at hown0
        rw [HM.out] at hown0
        cases hf : stepF es set lab t with
        | true =>
          have HS := Lib.hid (show mems (t + 1) (stepF es set lab) = mems t (stepF es set lab) ++ [(t : Int)] by rw [hsn, hf]; rfl)
          have hlt := hown0.lt
          clear hsn hf
          go_wp2_with (first | (at_builtin; refine wpList_append_own_at _ rfl _ _ 30 rfl (w.heap.size + 1) 3 i0 (.int .i64 0) 1 8 Tryz.underlying30 hi hz0 hz1 hz2 rfl (by decide) _ _ _ rfl (hown0.alloc _) ⟨wc.heap.size, 0, none⟩ 1 1 [.int .i64 (t : Int)] rfl rfl ?c1 ?c2 ?c3 ?c4 ?c5 ?_))
          case c1 => exact World.news_of_block (cs := #[.int .i64 (t : Int)]) (t := 3) (fr := (0, 0)) (heap_alloc_new wc _)
          case c2 => intro u hu; simp at hu; subst hu; rfl
          case c3 => unfold maxLen; omega
          case c4 => omega
          case c5 => rw [World.size_alloc]; have := hbt.size; omega
          intro v' W2 hown2 hgrow _ hv'
          have hb3 : Below (w.heap.size + 1) W1 W2 := (hbt.alloc (by have := hbt.size; omega) _).grown hgrow (by rw [World.size_alloc]; have := hbt.size; omega) (fun k hk => (hlt k hk).1)
          rw [← intz_snoc, ← HS.out] at hown2
          have HI2 := Lib.hid (show IntsAt W2 (w.heap.size + 1) v' (mems (t + 1) (stepF es set lab)) by unfold IntsAt; rw [HS.out, List.length_append, HM.out]; rw [HS.out] at hown2; exact hown2)
          obtain ⟨a', c'', rfl⟩ := own_slice hown2
          clear hown0 hown2 hgrow hlt hv' hbt
          go_wp2_with fail
          go_roundg q
          case measure => omega
          case rel => exact ⟨t + 1, by omega, by go_num, HI2.out, hb3⟩
        | false =>
          have HI2 := Lib.hid (show IntsAt wc (w.heap.size + 1) (.slice a7 m c7) (mems (t + 1) (stepF es set lab)) by rw [hsn, hf]; have h := HOX.out; rw [HM.out] at h; simpa using h)
          clear hsn hf hown0
          go_wp2_with fail
          go_roundg q
          case measure => omega
          case rel => exact ⟨t + 1, by omega, by go_num, HI2.out, hbt⟩
def stepR (La S : Int) (es : List E3) (set : List Int) (lab : Int) : List Int × Int :=
  if chkG La S es = 0 then (if chkS S none set = 0 then (if 0 ≤ lab ∧ lab < La then (mems S.toNat (stepF es set lab), 0) else ([], 2)) else ([], chkS S none set)) else ([], 1)
theorem stepR_good {La S : Int} {es : List E3} {set : List Int} {lab : Int} (h0 : chkG La S es = 0) (h1 : chkS S none set = 0) (h2 : 0 ≤ lab ∧ lab < La) : stepR La S es set lab = (mems S.toNat (stepF es set lab), 0) := by unfold stepR; rw [if_pos h0, if_pos h1, if_pos h2]
theorem stepR_lab {La S : Int} {es : List E3} {set : List Int} {lab : Int} (h0 : chkG La S es = 0) (h1 : chkS S none set = 0) (h2 : ¬ (0 ≤ lab ∧ lab < La)) : stepR La S es set lab = ([], 2) := by unfold stepR; rw [if_pos h0, if_pos h1, if_neg h2]
theorem stepR_set {La S : Int} {es : List E3} {set : List Int} {lab : Int} (h0 : chkG La S es = 0) (h1 : ¬ chkS S none set = 0) : stepR La S es set lab = ([], chkS S none set) := by unfold stepR; rw [if_pos h0, if_neg h1]
theorem stepR_bad {La S : Int} {es : List E3} {set : List Int} {lab : Int} (h0 : ¬ chkG La S es = 0) : stepR La S es set lab = ([], 1) := by unfold stepR; rw [if_neg h0]
set_option maxRecDepth 100000 in
set_option maxHeartbeats 6400000 in
theorem rstep_any (La S lab : Int) (es : List E3) (v vs : Value) (set : List Int) (w : World) (hrd : EdgesRd w v es) (hn : es.length ≤ 9223372036854775807) (hst : IntsRd w vs set) (hsl : set.length ≤ 9223372036854775807) :
    Calls Tryz.prog 105 #[grV La S v, vs, .int .i64 lab] w (IOut w (stepR La S es set lab)) := by
  have HV := Lib.hid (fun W h => rcheck_any La S es v W h hn)
  have HC := Lib.hid (fun W h => rcheckSet_any La S v vs set W h hsl)
  have HRD := Lib.hid hrd
  have HST := Lib.hid hst
  have K0 := Lib.hid (BoxG.new w La S v 24)
  have BO := Lib.hid (below1 w (.cells #[.int .i64 La, .int .i64 S, v] 24))
  obtain ⟨a, c, rfl⟩ := hrd.form
  obtain ⟨a2, c2, rfl⟩ := hst.form
  clear hrd hst
  by_cases h0 : chkG La S es = 0
  · have H0 := Lib.hid h0
    by_cases h1 : chkS S none set = 0
    · have H1 := Lib.hid h1
      by_cases h2 : 0 ≤ lab ∧ lab < La
      · have HE := Lib.hid (stepR_good h0 h1 h2)
        have hlen := (chkG_zero h0).len
        have hs1 := (chkG_zero h0).s1
        have hs2 := (chkG_zero h0).s2
        have d1 : decide (lab < 0) = false := decide_eq_false (by omega)
        have d2 : decide (La ≤ lab) = false := decide_eq_false (by omega)
        obtain ⟨n, rfl⟩ : ∃ n : Nat, S = (n : Int) := ⟨S.toNat, by omega⟩
        have HN := Lib.hid (fun W h h' => rnext_any La lab n es (.slice a es.length c) (.slice a2 set.length c2) set W h h' (by omega) hlen hsl)
        clear h0 h1 h2
        go_enter Tryz.func105, Tryz.ntmps105
        go_wp2_with (first | (go_at_call 23; (with_reducible refine (HV.out _ (HRD.out.keep BO.out)).mono ?_); rintro e0 W1 ⟨rfl, b1⟩; (rw [H0.out]); (have G1 := Lib.hid (K0.out.keep b1)); (have B1 := Lib.hid (below_more BO.out (Nat.le_refl _) b1)); (clear b1); (obtain ⟨g1, g2, g3⟩ := id G1.out)) | (go_at_call 116; (with_reducible refine (HC.out _ (HST.out.keep B1.out)).mono ?_); rintro e0 W2 ⟨rfl, b2⟩; (rw [H1.out]); (have G2 := Lib.hid (G1.out.keep b2)); (have B2 := Lib.hid (below_more B1.out (Nat.le_refl _) b2)); (clear b2 g1 g2 g3); (obtain ⟨g1, g2, g3⟩ := id G2.out)) | (go_at_call 117; (with_reducible refine (HN.out _ (HRD.out.keep B2.out) (HST.out.keep B2.out)).mono ?_); rintro e0 W3 ⟨v3, rfl, i3, b3⟩))
        exact bodyPost_ret (v := .tuple #[v3, .int .i64 0]) (by simp [results, Tryz.results105, go_sem]) rfl ⟨_, by rw [HE.out], by rw [HE.out]; exact own_low i3 B2.out.size, below_more B2.out (Nat.le_refl _) b3⟩
      · have HE := Lib.hid (stepR_lab h0 h1 h2)
        clear h0 h1
        by_cases h3 : lab < 0
        · have d1 : decide (lab < 0) = true := decide_eq_true h3
          clear h2 h3
          go_enter Tryz.func105, Tryz.ntmps105
          go_wp2_with (first | (go_at_call 23; (with_reducible refine (HV.out _ (HRD.out.keep BO.out)).mono ?_); rintro e0 W1 ⟨rfl, b1⟩; (rw [H0.out]); (have G1 := Lib.hid (K0.out.keep b1)); (have B1 := Lib.hid (below_more BO.out (Nat.le_refl _) b1)); (clear b1); (obtain ⟨g1, g2, g3⟩ := id G1.out)) | (go_at_call 116; (with_reducible refine (HC.out _ (HST.out.keep B1.out)).mono ?_); rintro e0 W2 ⟨rfl, b2⟩; (rw [H1.out]); (have G2 := Lib.hid (G1.out.keep b2)); (have B2 := Lib.hid (below_more B1.out (Nat.le_refl _) b2)); (clear b2 g1 g2 g3); (obtain ⟨g1, g2, g3⟩ := id G2.out)))
          exact bodyPost_ret (v := .tuple #[.slice none 0 0, .int .i64 2]) (by simp [results, Tryz.results105, go_sem]) rfl ⟨_, by rw [HE.out], by rw [HE.out]; exact ints_nil _ _, B2.out⟩
        · have d1 : decide (lab < 0) = false := decide_eq_false h3
          have d2 : decide (La ≤ lab) = true := decide_eq_true (by omega)
          clear h2 h3
          go_enter Tryz.func105, Tryz.ntmps105
          go_wp2_with (first | (go_at_call 23; (with_reducible refine (HV.out _ (HRD.out.keep BO.out)).mono ?_); rintro e0 W1 ⟨rfl, b1⟩; (rw [H0.out]); (have G1 := Lib.hid (K0.out.keep b1)); (have B1 := Lib.hid (below_more BO.out (Nat.le_refl _) b1)); (clear b1); (obtain ⟨g1, g2, g3⟩ := id G1.out)) | (go_at_call 116; (with_reducible refine (HC.out _ (HST.out.keep B1.out)).mono ?_); rintro e0 W2 ⟨rfl, b2⟩; (rw [H1.out]); (have G2 := Lib.hid (G1.out.keep b2)); (have B2 := Lib.hid (below_more B1.out (Nat.le_refl _) b2)); (clear b2 g1 g2 g3); (obtain ⟨g1, g2, g3⟩ := id G2.out)))
          exact bodyPost_ret (v := .tuple #[.slice none 0 0, .int .i64 2]) (by simp [results, Tryz.results105, go_sem]) rfl ⟨_, by rw [HE.out], by rw [HE.out]; exact ints_nil _ _, B2.out⟩
    · have HE := Lib.hid (stepR_set (lab := lab) h0 h1)
      obtain ⟨z, hz⟩ : ∃ z, chkS S none set = z := ⟨_, rfl⟩
      simp only [hz] at HC HE
      rw [hz] at h1
      have d1 : (z != 0) = true := by simpa using h1
      clear h0 h1 hz
      go_enter Tryz.func105, Tryz.ntmps105
      go_wp2_with (first | (go_at_call 23; (with_reducible refine (HV.out _ (HRD.out.keep BO.out)).mono ?_); rintro e0 W1 ⟨rfl, b1⟩; (rw [H0.out]); (have G1 := Lib.hid (K0.out.keep b1)); (have B1 := Lib.hid (below_more BO.out (Nat.le_refl _) b1)); (clear b1); (obtain ⟨g1, g2, g3⟩ := id G1.out)) | (go_at_call 116; (with_reducible refine (HC.out _ (HST.out.keep B1.out)).mono ?_); rintro e0 W2 ⟨rfl, b2⟩; (have B2 := Lib.hid (below_more B1.out (Nat.le_refl _) b2)); (clear b2)))
      exact bodyPost_ret (v := .tuple #[.slice none 0 0, .int .i64 z]) (by simp [results, Tryz.results105, go_sem]) rfl ⟨_, by rw [HE.out], by rw [HE.out]; exact ints_nil _ _, B2.out⟩
  · have HE := Lib.hid (stepR_bad (set := set) (lab := lab) h0)
    obtain ⟨z, hz⟩ : ∃ z, chkG La S es = z := ⟨_, rfl⟩
    simp only [hz] at HV
    rw [hz] at h0
    have d1 : (z != 0) = true := by simpa using h0
    clear h0 hz
    go_enter Tryz.func105, Tryz.ntmps105
    go_wp2_with (go_at_call 23; (with_reducible refine (HV.out _ (HRD.out.keep BO.out)).mono ?_); rintro e0 W1 ⟨rfl, b1⟩; (have B1 := Lib.hid (below_more BO.out (Nat.le_refl _) b1)); (clear b1))
    exact bodyPost_ret (v := .tuple #[.slice none 0 0, .int .i64 1]) (by simp [results, Tryz.results105, go_sem]) rfl ⟨_, by rw [HE.out], by rw [HE.out]; exact ints_nil _ _, B1.out⟩
end Go.Proofs.YtiockphjnkehnaaGreatDoor
