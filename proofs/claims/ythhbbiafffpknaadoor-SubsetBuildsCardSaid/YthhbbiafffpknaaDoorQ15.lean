/- What subset.Focus returns. Conditions: the edges can be read; the library's table reads as its text lays it. What slices.BinarySearchFunc by where an edge begins, and graph.leaving, return. Conditions: at most 1024 edges, numbers below 64, in order. What graph.leaving returns, and what the function that it returns yields: the edges that leave a state, in order. Conditions: at most 1024 edges, numbers below 64, in order. -/
import Derived.Test.YthhbbiafffpknaaDoorQ14
import Derived.Test.YthhbbiafffpknaaDoorQ03
import Derived.Test.YthhbbiafffpknaaDoorQ02
import Derived.RangeFuncNested
import Derived.RangeFuncBound
import Derived.RangeFuncCalls
import Derived.RangeFuncLeaves
import Derived.RangeFuncOne
import Derived.Shelf.Abstract
import Derived.Shelf.RegionOpen
import Derived.WalkKit
import Derived.OwnWalkIn
import Derived.TacticsInMore
import Derived.LoopNIn
import Derived.LoopIn

namespace Go.Proofs.YthhbbiafffpknaaDoor
open Go.RowKit Go.Maps
set_option linter.unusedSimpArgs false
set_option linter.unusedVariables false

/-- What holds of what Build returns. -/
structure GoodB (b : Bs) : Prop where
  ff : FFN b
  n : b.1.length ≤ 64
  m : b.2.length ≤ 1024
  lt : ∀ S ∈ b.1, S < 18446744073709551616
theorem goodB_nil : GoodB ([], []) := ⟨⟨fun e he => (by cases he), fun t h1 h2 => absurd h2 (Nat.not_lt_zero _)⟩, Nat.zero_le _, Nat.zero_le _, fun S hS => (by cases hS)⟩
theorem built_good {es : List E3} {La S : Nat} (h : S ≠ 0) (h2 : S < 18446744073709551616) : GoodB (bSets (builtN es La S)) := by
  cases hb : builtN es La S with
  | none => exact goodB_nil
  | some b =>
    have hr := built_res h h2 hb
    exact ⟨built_ff hb, hr.n, hr.m, fun S hS => (hr.lt S hS).2⟩
theorem buildR_good (La S : Int) (es : List E3) : GoodB (buildR La S es).2 := by
  unfold buildR
  by_cases h0 : chkG La S es = 0
  · rw [if_pos h0]
    have hvg := chkG_zero h0
    by_cases h1 : S = 0
    · rw [if_pos h1]; exact goodB_nil
    · rw [if_neg h1]
      exact built_good (fullN_ne (by have := hvg.s1; omega)) (fullN_lt (by have := hvg.s2; omega))
  · rw [if_neg h0]; exact goodB_nil
def FocOut (w : World) (r : List Int × Int × Bool × Int) (e : Ending) (w' : World) : Prop := ∃ v, e = .returned (.tuple #[v, .int .i64 r.2.1, .bool r.2.2.1, .int .i64 r.2.2.2]) ∧ IntsRd w' v r.1 ∧ Below w.heap.size w w'
theorem rd_nil (W : World) : IntsRd W (.slice none 0 0) [] := ⟨none, 0, rfl, fun i x hx => by simp at hx⟩
def SF (p q r i : Nat) (x y : Int) (z u : Value) (k : Int) (g o off : Nat) (W : World) : Prop := W.cell? ⟨p, 0, none⟩ = some (.int .i64 x) ∧ W.cell? ⟨p, 1, none⟩ = some (.int .i64 y) ∧ W.cell? ⟨p, 2, none⟩ = some z ∧ W.cell? ⟨q, off + i, none⟩ = some u ∧ W.cell? ⟨g, o, none⟩ = some (.int .i64 k)
theorem SF.keep {p q r i : Nat} {x y : Int} {z u : Value} {k : Int} {g o off : Nat} {W W' : World} (h : SF p q r i x y z u k g o off W) (hb : Below W.heap.size W W') : SF p q r i x y z u k g o off W' := ⟨cell_keep h.1 hb, cell_keep h.2.1 hb, cell_keep h.2.2.1 hb, cell_keep h.2.2.2.1 hb, cell_keep h.2.2.2.2 hb⟩
theorem find_map (l : List Nat) : (l.map memN).findIdx? (fun r => r.length == 1) = l.findIdx? (fun S => (memN S).length == 1) := by rw [List.findIdx?_map]; rfl
set_option maxRecDepth 100000 in
set_option maxHeartbeats 6400000 in
theorem Focus_any (La S : Int) (es : List E3) (v : Value) (w : World) (hrd : EdgesRd w v es) (hn : es.length ≤ 9223372036854775807) (hT : TabD w) :
    Calls Tryd.prog 14 #[grV La S v] w (FocOut w (focR La S es)) := by
  have hmx : Tryd.prog.follows .mixedOrders = true := by kernel_rfl
  have b0 := below1 w (.cells #[.int .i64 La, .int .i64 S, v] 24)
  have HB := Lib.hid (Build_any La S es v _ (hrd.keep b0) hn (hT.keep b0))
  have hg := buildR_good La S es
  have B0 := Lib.hid b0
  obtain ⟨x1, x2, x3⟩ := id (BoxG.new w La S v 24)
  obtain ⟨z, hz⟩ : ∃ z, (buildR La S es).1 = z := ⟨_, rfl⟩
  obtain ⟨b, hb⟩ : ∃ b, (buildR La S es).2 = b := ⟨_, rfl⟩
  have HE := Lib.hid (show focR La S es = if z = 0 then ((focN b).1, (focN b).2.1, (focN b).2.2, 0) else ([], 0, false, z) by unfold focR; rw [hz, hb])
  rw [hz, hb] at HB
  rw [hb] at hg
  obtain ⟨a, c, rfl⟩ := hrd.form
  clear hrd hT hz hb b0
  obtain ⟨L', hL'⟩ : ∃ L', onOk z La = L' := ⟨_, rfl⟩
  unfold SetsOut at HB
  rw [hL'] at HB
  clear hL'
  have G := Lib.hid hg
  clear hg
  obtain ⟨m1, hm1⟩ : ∃ m1, b.1.length = m1 := ⟨_, rfl⟩
  obtain ⟨m2, hm2⟩ : ∃ m2, b.2.length = m2 := ⟨_, rfl⟩
  have HM1 := Lib.hid hm1
  have HM2 := Lib.hid hm2
  rw [hm1] at HB
  clear hm1 hm2
  by_cases h0 : z = 0
  · subst h0
    rw [if_pos rfl] at HE
    have HBL := Lib.hid (fun (W : World) (hv : Value) (h : EdgesRd W hv b.2) (s : Nat) (hs : s < b.1.length) => labels_any L' b hv s W h G.out.ff hs G.out.n G.out.m)
    rw [HM1.out] at HBL
    cases hf : b.1.findIdx? (fun S => (memN S).length == 1) with
    | none =>
      have HF := Lib.hid (show focN b = ([], 0, false) by unfold focN; rw [hf])
      have HIX := Lib.hid (fun W lv (h : RowsRd W lv (b.1.map memN)) => idxR_any (b.1.map memN) lv W h (by rw [List.length_map]; have := G.out.n; omega))
      rw [find_map, hf] at HIX
      rw [HF.out] at HE
      clear hf HBL HF
      go_enter Tryd.func14, Tryd.ntmps14
      go_wp2_with (first
        | (go_at_call 6; (with_reducible refine HB.out.mono ?_); rintro e W2 ⟨hv, lv, rfl, he2, hr2, b2⟩; (obtain ⟨ah, ch, rfl⟩ := he2.slice); (have HRR := Lib.hid hr2.rd); (obtain ⟨al, rfl⟩ := hr2.form); (have B2 := Lib.hid (below_more (below_more B0.out (Nat.le_refl _) b2) (by have := b2.size; rw [World.size_alloc] at this; omega) (below1 W2 (.cells #[.int .i64 L', .int .i64 (m1 : Int), .slice ah b.2.length ch] 24)))))
        | (go_at_call 26; (with_reducible refine (HIX.out _ _ (HRR.out.keep (below1 W2 (.cells #[.int .i64 L', .int .i64 (m1 : Int), .slice ah b.2.length ch] 24)))).mono ?_); rintro e W3 ⟨rfl, rfl⟩))
      rw [HE.out]
      exact bodyPost_ret (v := .tuple #[.slice none 0 0, .int .i64 0, .bool false, .int .i64 0]) (by simp [results, Tryd.results14, go_sem]) rfl ⟨_, rfl, rd_nil _, B2.out⟩
    | some i =>
      obtain ⟨hil, hone, -⟩ := List.findIdx?_eq_some_iff_getElem.1 hf
      obtain ⟨T, hTi⟩ : ∃ T, b.1[i] = T := ⟨_, rfl⟩
      rw [hTi] at hone
      have hTg : b.1[i]? = some T := by rw [List.getElem?_eq_getElem hil, hTi]
      obtain ⟨x, hx⟩ : ∃ x, memN T = [x] := List.length_eq_one_iff.1 (beq_iff_eq.1 hone)
      have HF := Lib.hid (show focN b = (labF b.2 i, x, true) by
        unfold focN; rw [hf]; dsimp only
        rw [List.getD_eq_getElem?_getD, hTg]; dsimp only [Option.getD]
        rw [hx]; rfl)
      have HIX := Lib.hid (fun W lv (h : RowsRd W lv (b.1.map memN)) => idxR_any (b.1.map memN) lv W h (by rw [List.length_map]; have := G.out.n; omega))
      have HROW := Lib.hid (show (b.1.map memN)[i]? = some [x] by rw [List.getElem?_map, hTg]; show some (memN T) = _; rw [hx])
      rw [find_map, hf] at HIX
      rw [HF.out] at HE
      rw [HM1.out] at hil
      have hn64 := G.out.n
      rw [HM1.out] at hn64
      clear hf HF hone hTi hTg hx
      have d2 : ¬ ((i : Int) < 0) := by omega
      go_enter Tryd.func14, Tryd.ntmps14
      go_upto_region 7 with (first
        | (go_at_call 6; (with_reducible refine HB.out.mono ?_); rintro e W2 ⟨hv, lv, rfl, he2, hr2, b2⟩; (obtain ⟨ah, ch, rfl⟩ := he2.slice); (have HRR := Lib.hid hr2.rd); (obtain ⟨al, rfl⟩ := hr2.form); (have B2 := Lib.hid (below_more (below_more B0.out (Nat.le_refl _) b2) (by have := b2.size; rw [World.size_alloc] at this; omega) (below1 W2 (.cells #[.int .i64 L', .int .i64 (m1 : Int), .slice ah b.2.length ch] 24)))))
        | (go_at_call 26; (with_reducible refine (HIX.out _ _ (HRR.out.keep (below1 W2 (.cells #[.int .i64 L', .int .i64 (m1 : Int), .slice ah b.2.length ch] 24)))).mono ?_); rintro e W3 ⟨rfl, hW3⟩; subst hW3))
      clear x1 x2 x3
      have HR2 := Lib.hid (HRR.out.keep (below1 W2 (.cells #[.int .i64 L', .int .i64 (m1 : Int), .slice ah b.2.length ch] 24)))
      have HE2 := Lib.hid (he2.keep (below1 W2 (.cells #[.int .i64 L', .int .i64 (m1 : Int), .slice ah b.2.length ch] 24))).rd
      obtain ⟨y1, y2, y3⟩ := BoxG.new W2 L' (m1 : Int) (.slice ah b.2.length ch) 24
      obtain ⟨q, off, cc, u, hv, k1, k2⟩ := HR2.out.at HROW.out
      injection hv with e1 e2 e3
      subst e1
      obtain ⟨g, o, c5, hu5, k3⟩ := k2.at (i := 0) (x := x) rfl
      subst hu5
      rw [Nat.add_zero] at k3
      obtain ⟨pp, hpp⟩ : ∃ pp, W2.heap.size = pp := ⟨_, rfl⟩
      rw [hpp] at y1 y2 y3 ⊢
      have hR0 : SF pp q i i L' (m1 : Int) (.slice ah b.2.length ch) (.slice (some ⟨g, o, none⟩) 1 c5) x g o off (W2.alloc (.cells #[.int .i64 L', .int .i64 (m1 : Int), .slice ah b.2.length ch] 24)).drew := ⟨y1, y2, y3, k1, k3⟩
      have HLB := Lib.hid (HBL.out (W2.alloc (.cells #[.int .i64 L', .int .i64 (m1 : Int), .slice ah b.2.length ch] 24)).drew (.slice ah b.2.length ch) (HE2.out.keep (Below.refl _ _).drew) i hil)
      have j1 : (i : Int) < (m1 : Int) := by omega
      clear y1 y2 y3 k1 k2 k3 e2 e3 hpp he2 hr2 b2 HB HIX HR2 HRR d2
      refine regionT (T := T2 10 10 (SF pp q i i L' (m1 : Int) (.slice ah b.2.length ch) (.slice (some ⟨g, o, none⟩) 1 c5) x g o off) (SF pp q i i L' (m1 : Int) (.slice ah b.2.length ch) (.slice (some ⟨g, o, none⟩) 1 c5) x g o off)) hmx ?_
      have hR := hR0
      refine take1 (i := 0) (v := ?_) rfl (by kernel_rfl) (by kernel_rfl) (by kernel_rfl) (by kernel_rfl) (by kernel_rfl) (by decide) (by decide) (fun _ _ _ h => h) (Or.inl ⟨by rfl, ?_⟩) hR hR ?_
      rotate_left
      · intro w hSw
        (try unfold SF at hSw)
        go_simp
        all_goals with_reducible rfl
      (try simp only [Act.put, List.setIfInBounds_toArray, List.set_cons_zero, List.set_cons_succ])
      refine take1 (i := 1) (v := ?_) rfl (by kernel_rfl) (by kernel_rfl) (by kernel_rfl) (by kernel_rfl) (by kernel_rfl) (by decide) (by decide) (fun _ _ _ h => h) (Or.inl ⟨by rfl, ?_⟩) hR hR ?_
      rotate_left
      · intro w hSw
        (try unfold SF at hSw)
        go_simp
        all_goals with_reducible rfl
      (try simp only [Act.put, List.setIfInBounds_toArray, List.set_cons_zero, List.set_cons_succ])
      refine take1 (i := 3) (v := ?_) rfl (by kernel_rfl) (by kernel_rfl) (by kernel_rfl) (by kernel_rfl) (by kernel_rfl) (by decide) (by decide) (fun _ _ _ h => h) (Or.inl ⟨by rfl, ?_⟩) hR hR ?_
      rotate_left
      · intro w hSw
        (try unfold SF at hSw)
        go_simp
        all_goals with_reducible rfl
      (try simp only [Act.put, List.setIfInBounds_toArray, List.set_cons_zero, List.set_cons_succ])
      refine take1 (i := 4) (v := ?_) rfl (by kernel_rfl) (by kernel_rfl) (by kernel_rfl) (by kernel_rfl) (by kernel_rfl) (by decide) (by decide) (fun _ _ _ h => h) (Or.inl ⟨by rfl, ?_⟩) hR hR ?_
      rotate_left
      · intro w hSw
        (try unfold SF at hSw)
        go_simp
        all_goals with_reducible rfl
      (try simp only [Act.put, List.setIfInBounds_toArray, List.set_cons_zero, List.set_cons_succ])
      refine take1 (i := 5) (v := ?_) rfl (by kernel_rfl) (by kernel_rfl) (by kernel_rfl) (by kernel_rfl) (by kernel_rfl) (by decide) (by decide) (fun _ _ _ h => h) (Or.inl ⟨by rfl, ?_⟩) hR hR ?_
      rotate_left
      · intro w hSw
        (try unfold SF at hSw)
        go_simp
        all_goals with_reducible rfl
      (try simp only [Act.put, List.setIfInBounds_toArray, List.set_cons_zero, List.set_cons_succ])
      refine take1 (i := 6) (v := ?_) rfl (by kernel_rfl) (by kernel_rfl) (by kernel_rfl) (by kernel_rfl) (by kernel_rfl) (by decide) (by decide) (fun _ _ _ h => h) (Or.inl ⟨by rfl, ?_⟩) hR hR ?_
      rotate_left
      · intro w hSw
        (try unfold SF at hSw)
        go_simp
        all_goals with_reducible rfl
      (try simp only [Act.put, List.setIfInBounds_toArray, List.set_cons_zero, List.set_cons_succ])
      refine take1 (i := 7) (v := ?_) rfl (by kernel_rfl) (by kernel_rfl) (by kernel_rfl) (by kernel_rfl) (by kernel_rfl) (by decide) (by decide) (fun _ _ _ h => h) (Or.inl ⟨by rfl, ?_⟩) hR hR ?_
      rotate_left
      · intro w hSw
        (try unfold SF at hSw)
        go_simp
        all_goals with_reducible rfl
      (try simp only [Act.put, List.setIfInBounds_toArray, List.set_cons_zero, List.set_cons_succ])
      refine take1 (i := 8) (v := ?_) rfl (by kernel_rfl) (by kernel_rfl) (by kernel_rfl) (by kernel_rfl) (by kernel_rfl) (by decide) (by decide) (fun _ _ _ h => h) (Or.inl ⟨by rfl, ?_⟩) hR hR ?_
      rotate_left
      · intro w hSw
        (try unfold SF at hSw)
        go_simp
        all_goals with_reducible rfl
      (try simp only [Act.put, List.setIfInBounds_toArray, List.set_cons_zero, List.set_cons_succ])
      refine stepT (i := 2) (by kernel_rfl) rfl (fun K hK => ?_)
      go_simp
      go_at_call 28
      (with_reducible refine HLB.out.mono ?_)
      rintro e0 W6 ⟨v6, rfl, hi6, b6⟩
      have hR6 := hR0.keep b6
      obtain ⟨a6, c6, rfl⟩ := hi6.form
      go_wp2_with fail
      refine hK.out _ _ ⟨fun _ => hR6, fun _ => hR6⟩ ?_
      clear hK K hR
      have hR := hR6
      (try simp only [Act.put, List.setIfInBounds_toArray, List.set_cons_zero, List.set_cons_succ])
      refine stepT (i := 9) (by kernel_rfl) rfl (fun K hK => ?_)
      go_simp
      refine hK.out _ _ ⟨fun _ => hR6, fun _ => hR6⟩ ?_
      clear hK K hR
      have hR := hR6
      (try simp only [Act.put, List.setIfInBounds_toArray, List.set_cons_zero, List.set_cons_succ])
      refine stepT (i := 10) (by kernel_rfl) rfl (fun K hK => ?_)
      go_simp
      refine hK.out _ _ ⟨fun h => absurd h (by decide), fun h => absurd h (by decide)⟩ ?_
      clear hK K
      (try simp only [Act.put, List.setIfInBounds_toArray, List.set_cons_zero, List.set_cons_succ])
      refine stepT (i := 11) (by kernel_rfl) rfl (fun K hK => ?_)
      go_simp
      refine hK.out _ _ ⟨fun h => absurd h (by decide), fun h => absurd h (by decide)⟩ ?_
      clear hK K
      (try simp only [Act.put, List.setIfInBounds_toArray, List.set_cons_zero, List.set_cons_succ])
      refine stepT (i := 12) (by kernel_rfl) rfl (fun K hK => ?_)
      go_simp
      refine hK.out _ _ ⟨fun h => absurd h (by decide), fun h => absurd h (by decide)⟩ ?_
      clear hK K
      (try simp only [Act.put, List.setIfInBounds_toArray, List.set_cons_zero, List.set_cons_succ])
      refine doneT (by kernel_rfl) ?_ _
      go_wp2_with fail
      rw [HE.out]
      exact bodyPost_ret (v := .tuple #[.slice a6 (labF b.2 i).length c6, .int .i64 x, .bool true, .int .i64 0]) (by simp [results, Tryd.results14, go_sem]) rfl ⟨_, rfl, hi6, below_more B2.out.drew (by have := B2.out.size; omega) b6⟩
  · rw [if_neg h0] at HE
    have d1 : (z != 0) = true := by simpa using h0
    clear h0
    go_enter Tryd.func14, Tryd.ntmps14
    go_wp2_with (go_at_call 6; (with_reducible refine HB.out.mono ?_); rintro e W2 ⟨hv, lv, rfl, he2, hr2, b2⟩; (obtain ⟨ah, ch, rfl⟩ := he2.slice); (obtain ⟨al, rfl⟩ := hr2.form); (have B2 := Lib.hid (below_more (below_more B0.out (Nat.le_refl _) b2) (by have := b2.size; rw [World.size_alloc] at this; omega) (below1 W2 (.cells #[.int .i64 L', .int .i64 (m1 : Int), .slice ah b.2.length ch] 24)))))
    rw [HE.out]
    exact bodyPost_ret (v := .tuple #[.slice none 0 0, .int .i64 0, .bool false, .int .i64 z]) (by simp [results, Tryd.results14, go_sem]) rfl ⟨_, rfl, rd_nil _, B2.out⟩
end Go.Proofs.YthhbbiafffpknaaDoor

namespace Go.Proofs.YthhbbiafffpknaaDoor
open Go.RowKit
set_option linter.unusedSimpArgs false
set_option linter.unusedVariables false

end Go.Proofs.YthhbbiafffpknaaDoor

namespace Go.Proofs.YthhbbiafffpknaaDoor
open Go.RowKit Go.Shelf
attribute [local go_sem] Oper.semAt_some
set_option linter.unusedSimpArgs false
set_option linter.unusedVariables false

/-- The indices from i on of the edges that leave s. -/
def lvF (es : List E3) (s : Int) (i : Nat) : List Nat := (List.range' i (es.length - i)).filter (fun j => (es[j]!).1 == s)
theorem lvF_step {es : List E3} {s : Int} {i : Nat} {e : E3} (h : es[i]? = some e) : lvF es s i = if e.1 = s then i :: lvF es s (i + 1) else lvF es s (i + 1) := by
  obtain ⟨hi, he⟩ := List.getElem?_eq_some_iff.1 h
  have e1 : es[i]! = e := by rw [getElem!_pos es i hi]; exact he
  unfold lvF
  rw [show es.length - i = (es.length - (i + 1)) + 1 by omega, List.range'_succ, List.filter_cons, e1]
  by_cases h1 : e.1 = s
  · rw [if_pos h1, if_pos (by rw [h1]; exact beq_self_eq_true _)]
  · rw [if_neg h1, if_neg (by simpa using h1)]
theorem lvF_end {es : List E3} {s : Int} {i : Nat} (h : ∀ j e, i ≤ j → es[j]? = some e → e.1 ≠ s) : lvF es s i = [] := by
  unfold lvF
  rw [List.filter_eq_nil_iff]
  intro j hj
  rw [List.mem_range'_1] at hj
  have hjl : j < es.length := by omega
  rw [getElem!_pos es j hjl]
  have := h j es[j] hj.1 (List.getElem?_eq_getElem hjl)
  simpa using this
theorem lvF_skip {es : List E3} {s : Int} : ∀ {i : Nat}, (∀ j e, j < i → es[j]? = some e → e.1 ≠ s) → i ≤ es.length → lvF es s i = lvF es s 0
  | 0, _, _ => rfl
  | i + 1, h, hl => by
    have h1 := List.getElem?_eq_getElem (l := es) (i := i) (by omega)
    rw [← lvF_skip (i := i) (fun j e hj => h j e (by omega)) (by omega), lvF_step h1, if_neg (h i _ (by omega) h1)]
theorem lvF_mem {es : List E3} {s : Int} {j : Nat} : j ∈ lvF es s 0 ↔ ∃ e, es[j]? = some e ∧ e.1 = s := by
  unfold lvF
  rw [List.mem_filter, List.mem_range'_1]
  constructor
  · rintro ⟨⟨-, h2⟩, h3⟩
    have hj : j < es.length := by omega
    rw [getElem!_pos es j hj] at h3
    exact ⟨_, List.getElem?_eq_getElem hj, by simpa using h3⟩
  · rintro ⟨e, he, h1⟩
    obtain ⟨hj, h2⟩ := List.getElem?_eq_some_iff.1 he
    refine ⟨⟨Nat.zero_le _, by omega⟩, ?_⟩
    rw [getElem!_pos es j hj, h2, h1]
    exact beq_self_eq_true _
end Go.Proofs.YthhbbiafffpknaaDoor
