/- What slices.Compact returns for the edges of a row of one's own: each once, where equal ones stand beside each other. Condition: at most 100000 edges. What graph.Make returns: the edges in order, each once, if they make a valid graph. Condition: at most 100000 edges. What graph.Reverse returns for a valid graph: the graph with its edges turned around. No condition. -/
import Derived.Test.YtiockphjnkehnaaGreatDoorQ25
import Derived.Test.YtiockphjnkehnaaGreatDoorQ07

namespace Go.Proofs.YtiockphjnkehnaaGreatDoor
open Go.RowKit Go.Shelf
set_option linter.unusedSimpArgs false
set_option linter.unusedVariables false

theorem ddE_head : ∀ (y : E3) (r : List E3), ddE (y :: r) = y :: (ddE (y :: r)).tail
  | y, [] => rfl
  | y, b :: r => by
    unfold ddE
    by_cases h : y = b
    · subst h
      rw [if_pos rfl]
      exact ddE_head y r
    · rw [if_neg h]; rfl
theorem drop_two {es : List E3} {p : Nat} {x y : E3} (hx : es[p]? = some x) (hy : es[p + 1]? = some y) : es.drop p = x :: y :: es.drop (p + 2) ∧ es.drop (p + 1) = y :: es.drop (p + 2) := by
  obtain ⟨h1, e1⟩ := List.getElem?_eq_some_iff.1 hx
  obtain ⟨h2, e2⟩ := List.getElem?_eq_some_iff.1 hy
  have k2 : es.drop (p + 1) = y :: es.drop (p + 2) := by rw [List.drop_eq_getElem_cons h2, e2]
  exact ⟨by rw [List.drop_eq_getElem_cons h1, e1, k2], k2⟩
theorem dd_skip {es : List E3} {p : Nat} {x : E3} (hx : es[p]? = some x) (hy : es[p + 1]? = some x) : (ddE (es.drop p)).tail = (ddE (es.drop (p + 1))).tail := by
  obtain ⟨h1, h2⟩ := drop_two hx hy
  rw [h1, h2, ddE, if_pos rfl]
theorem dd_keep {es : List E3} {p : Nat} {x y : E3} (hx : es[p]? = some x) (hy : es[p + 1]? = some y) (h : x ≠ y) : (ddE (es.drop p)).tail = y :: (ddE (es.drop (p + 1))).tail := by
  obtain ⟨h1, h2⟩ := drop_two hx hy
  rw [h1, h2, ddE, if_neg h, List.tail_cons]
  exact ddE_head _ _
theorem dd_start {es : List E3} {p : Nat} {x : E3} (ha : ∀ i, i < p → es[i]? ≠ es[i + 1]?) (hx : es[p]? = some x) (hy : es[p + 1]? = some x) : es.take (p + 1) ++ (ddE (es.drop (p + 1))).tail = ddE es := by
  obtain ⟨h1, h2⟩ := drop_two hx hy
  have hp := (List.getElem?_eq_some_iff.1 hx).1
  rw [ddE_take es p (fun i hi _ => ha i hi) hp, h1, ddE, if_pos rfl, List.take_add_one, hx, h2, ddE_head x, List.append_assoc]
  rfl
theorem dd_end {es : List E3} {p : Nat} (h : es.length = p + 1) : (ddE (es.drop p)).tail = [] := by
  have : (es.drop p).length = 1 := by rw [List.length_drop]; omega
  match hd : es.drop p, this with
  | [a], _ => rfl
theorem below_setCellsE {B g : Nat} {w : World} (hg : B ≤ g) : ∀ (vs : List Value) (o : Nat) (W : World), Below B w W → Below B w (W.setCells g o vs)
  | [], _, _, h => h
  | v :: r, o, W, h => below_setCellsE hg r (o + 1) _ (h.setCell (p := ⟨g, o, none⟩) hg v)
theorem set9_below {w W : World} {B g : Nat} (h : Below B w W) (hg : B ≤ g) (i j k : Nat) (x y z : Value) : Below B w (((W.setCell ⟨g, i, none⟩ x).setCell ⟨g, j, none⟩ y).setCell ⟨g, k, none⟩ z) :=
  ((h.setCell (p := ⟨g, i, none⟩) hg _).setCell (p := ⟨g, j, none⟩) hg _).setCell (p := ⟨g, k, none⟩) hg _
theorem range_map_take {es : List E3} {k : Nat} (hk : k ≤ es.length) : (List.range k).map (fun i => es[i]!) = es.take k := by
  apply List.ext_getElem?
  intro i
  by_cases hi : i < k
  · rw [List.getElem?_map, List.getElem?_range hi, List.getElem?_take_of_lt hi, List.getElem?_eq_getElem (by omega)]
    show some es[i]! = _
    rw [getElem!_pos es i (by omega)]
  · rw [List.getElem?_eq_none (by simp; omega), List.getElem?_eq_none (by simp; omega)]
set_option maxRecDepth 100000 in
set_option maxHeartbeats 6400000 in
theorem compact_any (B : Nat) (v : Value) (es : List E3) (w : World) (h : EdgesAt w B v es) (hB : B ≤ w.heap.size) (hlen : es.length ≤ 100000) :
    Calls Tryz.prog 92 #[v] w fun e w' => ∃ v', e = .returned v' ∧ EdgesAt w' B v' (ddE es) ∧ Below B w w' := by
  by_cases h2 : es.length < 2
  · obtain ⟨a, c, rfl⟩ := h.slice
    have d1 : decide ((es.length : Int) < 2) = true := decide_eq_true (by omega)
    have d2 : decide (es.length < 2) = true := decide_eq_true h2
    have HH := Lib.hid h
    have HE := Lib.hid (show ddE es = es from ddE_whole es (fun i hi => by omega))
    clear h
    go_enter Tryz.func92, Tryz.ntmps92
    go_wp2
    go_ret
    exact ⟨_, rfl, by rw [HE.out]; exact HH.out, Below.refl _ _⟩
  · obtain ⟨g, cap, rfl⟩ := h.row (by omega)
    obtain ⟨hR, hg, hcap⟩ := ERow.of h
    have d1 : decide ((es.length : Int) < 2) = false := decide_eq_false (by omega)
    have d2 : decide (es.length < 2) = false := decide_eq_false h2
    have HH := Lib.hid h
    have HR := Lib.hid hR
    have hcl : es.length ≤ cap := by obtain ⟨F, _, h3, _⟩ := hR; exact h3
    unfold maxLen at hcap
    clear h hR
    go_enter Tryz.func92, Tryz.ntmps92
    go_wp2
    clear d1 d2
    go_loopg [3] (es.length - 1) (fun q s3 wx => ∃ (k nq : Nat), k + q = es.length ∧ 1 ≤ k ∧ s3 = .int .i64 (k : Int) ∧ wx = w.drewN nq ∧ Hid (∀ i, i + 1 < k → es[i]? ≠ es[i + 1]?))
    case atStart => exact ⟨1, 0, by omega, Nat.le_refl _, rfl, rfl, Lib.hid (fun i hi => absurd hi (by omega))⟩
    case round =>
      obtain ⟨k, nq, hkq, hk1, rfl, rfl, HA⟩ := hrel
      rcases gk with _ | q
      · have hk : k = es.length := by omega
        have HE := Lib.hid (show ddE es = es from ddE_whole es (fun i hi => HA.out i (by omega)))
        have j1 : decide ((k : Int) < (es.length : Int)) = false := decide_eq_false (by omega)
        have j2 : decide (k < es.length) = false := decide_eq_false (by omega)
        clear hk HA hkq
        go_wp2_with fail
        go_ret
        exact ⟨_, rfl, by rw [HE.out]; exact HH.out, below_drewM (Below.refl _ _) _⟩
      · obtain ⟨p, hp⟩ : ∃ p, k = p + 1 := ⟨k - 1, by omega⟩
        obtain ⟨x, hx⟩ : ∃ x, es[k]? = some x := ⟨_, List.getElem?_eq_getElem (by omega)⟩
        obtain ⟨y, hy⟩ : ∃ y, es[p]? = some y := ⟨_, List.getElem?_eq_getElem (by omega)⟩
        have HX := Lib.hid (show es[p + 1]? = some x by rw [← hp]; exact hx)
        have HY := Lib.hid hy
        have hxe : es[k]! = x := by obtain ⟨a, b⟩ := List.getElem?_eq_some_iff.1 hx; rw [getElem!_pos es k a, b]
        have hye : es[p]! = y := by obtain ⟨a, b⟩ := List.getElem?_eq_some_iff.1 hy; rw [getElem!_pos es p a, b]
        obtain ⟨x1, x2, x3⟩ := x
        obtain ⟨y1, y2, y3⟩ := y
        obtain ⟨c1, c2, c3⟩ := HR.out.cells (i := k) (by omega) hxe
        obtain ⟨c4, c5, c6⟩ := HR.out.cells (i := p) (by omega) hye
        have hgd := fun (op : BinOp) (a b : Operand) (w : World) => eqlE.2 op a b (x1, x2, x3) (y1, y2, y3) w
        have heq := fun (w : World) => eqlE.1 (x1, x2, x3) (y1, y2, y3) w
        simp only [encE] at hgd heq
        have j3 : (k : Int) < (es.length : Int) := by omega
        have hw : (k : Int) - 1 = (p : Int) := by omega
        have j5 : (p : Int) < (es.length : Int) := by omega
        have HP := Lib.hid hp
        clear hx hy hxe hye hp
        cases hq : eqE (x1, x2, x3) (y1, y2, y3) with
        | true =>
          rw [hq] at heq
          have HQ := Lib.hid (eqE_iff.1 hq)
          clear hq
          go_wp2_with fail
          go_quiet (fail)
          rename_i nq2
          have j6 : k ≤ es.length := by omega
          go_wp2_with fail
          obtain ⟨m, hm⟩ : ∃ m, es.length - k = m := ⟨_, rfl⟩
          obtain ⟨cm, hcm⟩ : ∃ cm, cap - k = cm := ⟨_, rfl⟩
          rw [hm, hcm]
          have hkm : k + m = es.length := by omega
          have hm1 : 1 ≤ m := by omega
          have HST := Lib.hid (show es.take k ++ (ddE (es.drop k)).tail = ddE es by
            have h1 := dd_start (es := es) (p := p) (fun i hi => HA.out i (by have := HP.out; omega)) HY.out (by rw [HX.out, HQ.out])
            rwa [← HP.out] at h1)
          clear c1 c2 c3 c4 c5 c6 hgd heq HX HY HQ HP HA hw hkq j3 j5 hm hcm
          go_loopg [3, 5] (m - 1) (fun q s3 s5 wx => ∃ (kk k2 : Nat) (f : Nat → E3), s3 = .int .i64 (kk : Int) ∧ s5 = .int .i64 (k2 : Int) ∧ 1 ≤ k2 ∧ k2 + q = m ∧ kk + 1 ≤ k + k2 ∧ ERow wx g cap es.length f ∧ Hid (∀ i, k + k2 ≤ i + 1 → i < es.length → f i = es[i]!) ∧ Hid ((List.range kk).map f ++ (ddE (es.drop (k + k2 - 1))).tail = ddE es) ∧ Below B w wx)
          case atStart => exact ⟨k, 1, fun i => es[i]!, rfl, rfl, Nat.le_refl _, by omega, Nat.le_refl _, HR.out, Lib.hid (fun i _ _ => rfl), Lib.hid (by rw [range_map_take (by omega), show k + 1 - 1 = k by omega]; exact HST.out), below_drewM (Below.refl _ _) _⟩
          case round =>
            clear HST
            obtain ⟨kk, k2, f, rfl, rfl, h21, h2q, hkk, hRf, HF, HD, hb⟩ := hrel
            have RF := Lib.hid hRf
            have hkl : kk < es.length := by omega
            rcases gk with _ | q2
            · obtain rfl : k2 = m := by omega
              have HE := Lib.hid (show (List.range kk).map f = ddE es by rw [← HD.out, dd_end (by omega), List.append_nil])
              obtain ⟨vs, hcl2⟩ := run_clearE hRf hkl (cap - kk)
              have j1 : decide ((k2 : Int) < (k2 : Int)) = false := decide_eq_false (by omega)
              have HLE := Lib.hid (show (ddE es).length = kk by rw [← HE.out]; simp)
              have HW := Lib.hid (show EdgesAt (wr.setCells g (kk * 3) vs) B (.slice (some ⟨g, 0, none⟩) (ddE es).length cap) (ddE es) from by
                refine ERow.at (f := f) ?_ hg (by unfold maxLen; exact hcap) (fun i hi => ?_)
                · rw [HLE.out]; exact RF.out.clear (by omega) vs
                · rw [HLE.out] at hi
                  rw [← HE.out, List.getElem?_map, List.getElem?_range hi]; rfl)
              have HW2 := Lib.hid (show EdgesAt (wr.setCells g (kk * 3) vs) B (.slice (some ⟨g, 0, none⟩) kk cap) (ddE es) from by have h9 := HW.out; rw [HLE.out] at h9; exact h9)
              have HB := Lib.hid (below_setCellsE hg vs (kk * 3) wr hb)
              have j2 : kk ≤ es.length := by omega
              have j3 : kk ≤ cap := by omega
              clear hRf hb
              go_wp2_with fail
              go_ret
              exact ⟨_, rfl, HW2.out, HB.out⟩
            · obtain ⟨k3, hk3⟩ : ∃ k3, k2 = k3 + 1 := ⟨k2 - 1, by omega⟩
              obtain ⟨x, hx⟩ : ∃ x, es[k + k2]? = some x := ⟨_, List.getElem?_eq_getElem (by omega)⟩
              obtain ⟨y, hy⟩ : ∃ y, es[k + k3]? = some y := ⟨_, List.getElem?_eq_getElem (by omega)⟩
              have HX := Lib.hid (show es[k + k3 + 1]? = some x by rw [show k + k3 + 1 = k + k2 by omega]; exact hx)
              have HY := Lib.hid hy
              have hxe : f (k + k2) = x := by obtain ⟨a, b⟩ := List.getElem?_eq_some_iff.1 hx; rw [HF.out _ (by omega) a, getElem!_pos es _ a, b]
              have hye : f (k + k3) = y := by obtain ⟨a, b⟩ := List.getElem?_eq_some_iff.1 hy; rw [HF.out _ (by omega) a, getElem!_pos es _ a, b]
              have HKK := Lib.hid (show k + k2 - 1 = k + k3 ∧ k + (k2 + 1) - 1 = k + k3 + 1 from ⟨by omega, by omega⟩)
              obtain ⟨x1, x2, x3⟩ := x
              obtain ⟨y1, y2, y3⟩ := y
              obtain ⟨c1, c2, c3⟩ := hRf.cells (i := k + k2) (by omega) hxe
              obtain ⟨c4, c5, c6⟩ := hRf.cells (i := k + k3) (by omega) hye
              rw [show (k + k2) * 3 = k * 3 + k2 * 3 by omega] at c1 c2 c3
              rw [show (k + k3) * 3 = k * 3 + k3 * 3 by omega] at c4 c5 c6
              have hgd := fun (op : BinOp) (a b : Operand) (w : World) => eqlE.2 op a b (x1, x2, x3) (y1, y2, y3) w
              have heq := fun (w : World) => neqE.1 (x1, x2, x3) (y1, y2, y3) w
              simp only [encE] at hgd heq
              have j3 : (k2 : Int) < (m : Int) := by omega
              have hw : (k2 : Int) - 1 = (k3 : Int) := by omega
              have j5 : (k3 : Int) < (m : Int) := by omega
              clear hx hy hxe hye hk3
              cases hq : eqE (x1, x2, x3) (y1, y2, y3) with
              | true =>
                rw [hq] at heq
                simp only [Bool.not_true] at heq
                have HD2 := Lib.hid (show (List.range kk).map f ++ (ddE (es.drop (k + (k2 + 1) - 1))).tail = ddE es by
                  rw [← HD.out, HKK.out.1, HKK.out.2, dd_skip (x := (y1, y2, y3)) HY.out (by rw [HX.out, eqE_iff.1 hq])])
                clear hq hRf
                go_wp2_with fail
                go_quiet (fail)
                rename_i nq3
                go_wp2_with fail
                go_roundg q2
                case measure => omega
                case rel => exact ⟨kk, k2 + 1, f, rfl, by go_num, by omega, by omega, by omega, RF.out.drew _, Lib.hid (fun i h1 h2 => HF.out i (by omega) h2), HD2, below_drewM hb _⟩
              | false =>
                rw [hq] at heq
                simp only [Bool.not_false] at heq
                have hne : (y1, y2, y3) ≠ (x1, x2, x3) := fun e => by rw [eqE_iff.2 e.symm] at hq; cases hq
                have HD2 := Lib.hid (show (List.range (kk + 1)).map (fun j => if j = kk then (x1, x2, x3) else f j) ++ (ddE (es.drop (k + (k2 + 1) - 1))).tail = ddE es by
                  rw [← HD.out, HKK.out.1, HKK.out.2, dd_keep HY.out HX.out hne, List.range_succ, List.map_append, List.append_assoc]
                  congr 1
                  · apply List.map_congr_left
                    intro j hj
                    rw [List.mem_range] at hj
                    rw [if_neg (by omega)]
                  · simp)
                have HF2 := Lib.hid (show ∀ i, k + (k2 + 1) ≤ i + 1 → i < es.length → (fun j => if j = kk then ((x1, x2, x3) : E3) else f j) i = es[i]! from fun i h1 h2 => by
                  dsimp only
                  rw [if_neg (by omega)]
                  exact HF.out i (by omega) h2)
                obtain ⟨⟨o1, o2, o3⟩, ho⟩ : ∃ o, f kk = o := ⟨_, rfl⟩
                obtain ⟨c7, c8, c9⟩ := hRf.cells hkl ho
                have f1 := hRf.frozen (kk * 3)
                have f2 := hRf.frozen (kk * 3 + 1)
                have f3 := hRf.frozen (kk * 3 + 2)
                have j7 : (kk : Int) < (es.length : Int) := by omega
                have HRS := Lib.hid (fun nq => (RF.out.drew nq).set hkl x1 x2 x3)
                clear hq hRf ho hne
                go_wp2_with fail
                go_quiet (fail)
                rename_i nq3
                go_wp2_with fail
                go_roundg q2
                case measure => omega
                case rel => exact ⟨kk + 1, k2 + 1, _, by go_num, by go_num, by omega, by omega, by omega, HRS.out _, HF2, HD2, set9_below (below_drewM hb _) hg _ _ _ _ _ _⟩
        | false =>
          rw [hq] at heq
          have HQ := Lib.hid (show (x1, x2, x3) ≠ (y1, y2, y3) from fun e => by rw [eqE_iff.2 e] at hq; cases hq)
          have HA2 := Lib.hid (show ∀ i, i + 1 < k + 1 → es[i]? ≠ es[i + 1]? from fun i hi => by
            rcases (show i + 1 < k ∨ i = p by have := HP.out; omega) with h1 | rfl
            · exact HA.out i h1
            · rw [HX.out, HY.out]; intro e; injection e with e; exact HQ.out e.symm)
          clear hq
          go_wp2_with fail
          go_quiet (fail)
          rename_i nq2
          go_wp2_with fail
          go_roundg q
          case measure => omega
          case rel => exact ⟨k + 1, _, by omega, by omega, by go_num, rfl, HA2⟩
end Go.Proofs.YtiockphjnkehnaaGreatDoor

namespace Go.Proofs.YtiockphjnkehnaaGreatDoor
open Go.RowKit Go.Shelf
set_option linter.unusedSimpArgs false
set_option linter.unusedVariables false

theorem sorted_any (v : Value) (es : List E3) (w : World) (hrd : EdgesRd w v es) (hlen : es.length ≤ 100000) :
    Calls Tryz.prog 66 #[v, .func (.func 67) #[] #[]] w (NewEdges w (mkE es)) := by
  obtain ⟨a, c, rfl⟩ := hrd.form
  have HV := Lib.hid (values_any (.slice a es.length c) a es.length c rfl w)
  have hB := below1 w (.cells #[.slice a es.length c] 22)
  have HS := Lib.hid (sortedFunc_any w.heap.size (.slice a es.length c) es (w.alloc (.cells #[.slice a es.length c] 22)) (hrd.keep hB) hlen (by simp [go_sem]))
  have B0 := Lib.hid hB
  clear hrd hB
  go_enter Tryz.func66, Tryz.ntmps66
  go_wp2_with (first
    | (go_at_call 94; (with_reducible refine HV.out.mono ?_); rintro e W1 ⟨rfl, rfl⟩)
    | (go_at_call 93; (with_reducible refine HS.out.mono ?_); rintro e W2 ⟨v2, rfl, i2, b2⟩; (obtain ⟨a2, c2, rfl⟩ := i2.slice); (have HC := Lib.hid (compact_any w.heap.size _ (srtE es) W2 (own_low i2 (by rw [World.size_alloc]; omega)) (Nat.le_trans B0.out.size b2.size) (by rw [srtE_len]; exact hlen))); (have B2 := Lib.hid (below_more B0.out (Nat.le_refl _) b2)); (clear i2 b2))
    | (go_at_call 92; (with_reducible refine HC.out.mono ?_); rintro e W3 ⟨v3, rfl, i3, b3⟩; (obtain ⟨a3, c3, rfl⟩ := i3.slice); (have I3 := Lib.hid i3); (have B3 := Lib.hid (B2.out.trans b3)); (clear i3 b3)))
  go_ret
  exact ⟨_, rfl, I3.out, B3.out⟩
def makeR (L S : Int) (es : List E3) : Int × Int × List E3 × Int := if chkG L S (mkE es) = 0 then (L, S, mkE es, 0) else (0, 0, [], chkG L S (mkE es))
structure MK (w : World) (L S : Int) (v : Value) (ms : List E3) (p : Nat) (W : World) : Prop where
  r : BoxF W w.heap.size 0 0 (.slice none 0 0)
  g : BoxG W p L S v
  e : EdgesAt W (w.heap.size + 1) v ms
  b : Below w.heap.size w W
theorem MK.keep {w W W' : World} {L S : Int} {v : Value} {ms : List E3} {p : Nat} (h : MK w L S v ms p W) (hb : Below W.heap.size W W') : MK w L S v ms p W' :=
  ⟨h.r.keep hb, h.g.keep hb, EdgesAt.keep h.e hb, h.b.trans (hb.mono h.b.size)⟩
set_option maxRecDepth 100000 in
set_option maxHeartbeats 3200000 in
theorem make_any (L S : Int) (es : List E3) (v : Value) (w : World) (hrd : EdgesRd w v es) (hlen : es.length ≤ 100000) :
    Calls Tryz.prog 37 #[.int .i64 L, .int .i64 S, v] w (GOut w (makeR L S es)) := by
  have hB := below1 w (.cells #[.int .i64 0, .int .i64 0, .slice none 0 0] 24)
  have HS := Lib.hid (sorted_any v es _ (hrd.keep hB) hlen)
  have R0 := Lib.hid (BoxF.new w 0 0 (.slice none 0 0) 24)
  have B0 := Lib.hid hB
  have Z0 := Lib.hid (World.size_alloc w (.cells #[.int .i64 0, .int .i64 0, .slice none 0 0] 24))
  have hml := mkE_len es
  have HMR := Lib.hid (show makeR L S es = if chkG L S (mkE es) = 0 then (L, S, mkE es, 0) else (0, 0, [], chkG L S (mkE es)) from rfl)
  obtain ⟨ms, hms⟩ : ∃ ms, mkE es = ms := ⟨_, rfl⟩
  simp only [hms] at HS HMR
  rw [hms] at hml
  have HCK := Lib.hid (fun v' W h => gcheck_any L S ms v' W h (by omega))
  obtain ⟨z, hz⟩ : ∃ z, chkG L S ms = z := ⟨_, rfl⟩
  simp only [hz] at HMR HCK
  obtain ⟨a, c, rfl⟩ := hrd.form
  clear hrd hB hms hz
  by_cases h0 : z = 0
  · subst h0
    have HE := Lib.hid (show makeR L S es = (L, S, ms, 0) from HMR.out)
    go_enter Tryz.func37, Tryz.ntmps37
    go_wp2_with (first
      | (go_at_call 66; (with_reducible refine HS.out.mono ?_); rintro e W2 ⟨v2, rfl, i2, b2⟩; (obtain ⟨a2, c2, rfl⟩ := i2.slice); (have bm := below1 W2 (.cells #[.int .i64 L, .int .i64 S, .slice a2 ms.length c2] 24)); (have K2 := Lib.hid (show MK w L S (.slice a2 ms.length c2) ms W2.heap.size (W2.alloc (.cells #[.int .i64 L, .int .i64 S, .slice a2 ms.length c2] 24)) from ⟨(R0.out.keep b2).keep bm, BoxG.new W2 L S _ _, EdgesAt.keep (by rw [Z0.out] at i2; exact i2) bm, below_more (below_more B0.out (Nat.le_refl _) b2) (Nat.le_refl _) bm⟩)); (clear i2 b2 bm); (obtain ⟨g1, g2, g3⟩ := id K2.out.g))
      | (go_at_call 42; (with_reducible refine (HCK.out _ _ (EdgesAt.rd K2.out.e)).mono ?_); rintro e W3 ⟨rfl, b3⟩; (have K3 := Lib.hid (K2.out.keep b3)); (clear b3 g1 g2 g3); (obtain ⟨g1, g2, g3⟩ := id K3.out.g); (obtain ⟨⟨r1, r2, r3⟩, r4, r5, r6⟩ := id K3.out.r)))
    rw [HE.out]
    exact bodyPost_ret (v := .tuple #[grV L S (.slice a2 ms.length c2), .int .i64 0]) (by simp [results, Tryz.results37, go_sem, r1, r2, r3]) rfl
      ⟨_, rfl, edges_over K3.out.e (Nat.lt_succ_self _) _ _ _ (Nat.le_succ _), below_over K3.out.b (Nat.le_refl _) _ _ _⟩
  · have HE := Lib.hid (show makeR L S es = (0, 0, [], z) by rw [HMR.out, if_neg h0])
    have d1 : (z != 0) = true := by simpa using h0
    clear h0
    go_enter Tryz.func37, Tryz.ntmps37
    go_wp2_with (first
      | (go_at_call 66; (with_reducible refine HS.out.mono ?_); rintro e W2 ⟨v2, rfl, i2, b2⟩; (obtain ⟨a2, c2, rfl⟩ := i2.slice); (have bm := below1 W2 (.cells #[.int .i64 L, .int .i64 S, .slice a2 ms.length c2] 24)); (have K2 := Lib.hid (show MK w L S (.slice a2 ms.length c2) ms W2.heap.size (W2.alloc (.cells #[.int .i64 L, .int .i64 S, .slice a2 ms.length c2] 24)) from ⟨(R0.out.keep b2).keep bm, BoxG.new W2 L S _ _, EdgesAt.keep (by rw [Z0.out] at i2; exact i2) bm, below_more (below_more B0.out (Nat.le_refl _) b2) (Nat.le_refl _) bm⟩)); (clear i2 b2 bm); (obtain ⟨g1, g2, g3⟩ := id K2.out.g))
      | (go_at_call 42; (with_reducible refine (HCK.out _ _ (EdgesAt.rd K2.out.e)).mono ?_); rintro e W3 ⟨rfl, b3⟩; (have K3 := Lib.hid (K2.out.keep b3)); (clear b3 g1 g2 g3); (obtain ⟨g1, g2, g3⟩ := id K3.out.g); (obtain ⟨⟨r1, r2, r3⟩, r4, r5, r6⟩ := id K3.out.r)))
    rw [HE.out]
    exact bodyPost_ret (v := .tuple #[grV 0 0 (.slice none 0 0), .int .i64 z]) (by simp [results, Tryz.results37, go_sem, r1, r2, r3]) rfl
      ⟨_, rfl, edges_nil _ _, below_over K3.out.b (Nat.le_refl _) _ _ _⟩
end Go.Proofs.YtiockphjnkehnaaGreatDoor

namespace Go.Proofs.YtiockphjnkehnaaGreatDoor
open Go.RowKit Go.Shelf
set_option linter.unusedSimpArgs false
set_option linter.unusedVariables false

theorem make_edges (n : Nat) (hn : n ≤ 100000) (W : World) : (Instr.makeSlice 22 (.int .i64 (n : Int)) (.int .i64 (n : Int))).run Tryz.prog W = .ok (.slice (some ⟨W.heap.size, 0, none⟩) n n) (W.alloc (.cells (madeCells #[.int .i64 0, .int .i64 0, .int .i64 0] (n * 3)) 39)) := by
  obtain ⟨i0, hi, hz0, hz1, hz2⟩ := info_parts Tryz.infoEdge
  have h := run_make (P := Tryz.prog) W 22 39 i0 _ Tryz.underlying22 hi hz0 .i64 .i64 (n : Int) (n : Int) (by omega) (Int.le_refl _) (by rw [hz2]; omega) (by omega)
  rw [hz1, show (Value.agg #[.int .i64 0, .int .i64 0, .int .i64 0]).cells = #[.int .i64 0, .int .i64 0, .int .i64 0] from by rfl] at h
  simp only [Int.toNat_natCast] at h
  exact h
theorem ERow.made (W : World) (n : Nat) : ERow (W.alloc (.cells (madeCells #[.int .i64 0, .int .i64 0, .int .i64 0] (n * 3)) 39)) W.heap.size n n (fun _ => (0, 0, 0)) := by
  have hz : ∀ i, i < n * 3 → (madeCells #[Value.int .i64 0, .int .i64 0, .int .i64 0] (n * 3))[i]? = some (.int .i64 0) := fun i hi => by
    have hs := size_madeCells #[Value.int .i64 0, .int .i64 0, .int .i64 0] (n * 3)
    rw [Array.getElem?_eq_getElem (by omega)]
    simp only [madeCells, Array.getElem_map, Array.getElem_range]
    have hm : i % 3 = 0 ∨ i % 3 = 1 ∨ i % 3 = 2 := by omega
    show some (#[Value.int .i64 0, .int .i64 0, .int .i64 0][i % 3]!) = _
    rcases hm with h | h | h <;> rw [h] <;> rfl
  refine ⟨fun _ => .int .i64 0, ⟨_, heap_alloc_new W _, size_madeCells _ _, hz⟩, Nat.le_refl _, fun i hi => ⟨rfl, rfl, rfl⟩⟩
theorem ERow.keep {W W' : World} {g cap n : Nat} {f : Nat → E3} (h : ERow W g cap n f) (hb : Below W.heap.size W W') : ERow W' g cap n f := by
  obtain ⟨F, h1, h2⟩ := h
  exact ⟨F, World.rowIs.of_block h1 (hb.block g h1.lt), h2⟩
theorem ERow.lt {W : World} {g cap n : Nat} {f : Nat → E3} (h : ERow W g cap n f) : g < W.heap.size := by
  obtain ⟨F, h1, -⟩ := h
  exact h1.lt
structure RVs (w : World) (L : Int) (n : Nat) (v : Value) (T m : Nat) (f : Nat → E3) (W : World) : Prop where
  g : BoxG W w.heap.size L (n : Int) v
  r : BoxF W (w.heap.size + 1) 0 0 (.slice none 0 0)
  t : ERow W T m m f
  lo : w.heap.size + 2 ≤ T
  b : Below w.heap.size w W
theorem RVs.keep {w W W' : World} {L : Int} {n : Nat} {v : Value} {T m : Nat} {f : Nat → E3} (h : RVs w L n v T m f W) (hb : Below W.heap.size W W') : RVs w L n v T m f W' :=
  ⟨h.g.keep hb, h.r.keep hb, h.t.keep hb, h.lo, h.b.trans (hb.mono h.b.size)⟩
theorem RVs.set {w W : World} {L : Int} {n : Nat} {v : Value} {T m : Nat} {f : Nat → E3} (h : RVs w L n v T m f W) {i : Nat} (hi : i < m) (x y z : Int) :
    RVs w L n v T m (fun j => if j = i then (x, y, z) else f j) (((W.setCell ⟨T, i * 3, none⟩ (.int .i64 x)).setCell ⟨T, i * 3 + 1, none⟩ (.int .i64 y)).setCell ⟨T, i * 3 + 2, none⟩ (.int .i64 z)) := by
  have hlo := h.lo
  have h1 : T ≠ w.heap.size := by omega
  have h2 : T ≠ w.heap.size + 1 := by omega
  exact ⟨boxG_other (boxG_other (boxG_other h.g (a := ⟨T, i * 3, none⟩) h1 _) (a := ⟨T, i * 3 + 1, none⟩) h1 _) (a := ⟨T, i * 3 + 2, none⟩) h1 _,
    ((h.r.other (a := ⟨T, i * 3, none⟩) h2 _).other (a := ⟨T, i * 3 + 1, none⟩) h2 _).other (a := ⟨T, i * 3 + 2, none⟩) h2 _, h.t.set hi x y z, h.lo, set9_below h.b (by omega) _ _ _ _ _ _⟩
end Go.Proofs.YtiockphjnkehnaaGreatDoor
