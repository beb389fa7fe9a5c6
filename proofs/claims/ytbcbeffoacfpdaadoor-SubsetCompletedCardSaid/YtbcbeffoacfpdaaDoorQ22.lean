/- What grooveref12.Same and SameSets return; groovelaw12.even; subset.Count where the number is 7. Conditions: all can be read. What subset.Count returns at the example's graph, and groovelaw12.awake: true. Condition: the library's table reads as its text lays it. What graph.Step returns. Conditions: the edges and the set can be read. -/
import Derived.Test.YtbcbeffoacfpdaaDoorQ21
import Derived.Test.YtbcbeffoacfpdaaDoorQ09
import Derived.Test.YtbcbeffoacfpdaaDoorQ19

namespace Go.Proofs.YtbcbeffoacfpdaaDoor
open Go.RowKit
set_option linter.unusedSimpArgs false
set_option linter.unusedVariables false

theorem take_ne {α : Type} {l m : List α} {i : Nat} {x y : α} (hx : l[i]? = some x) (hy : m[i]? = some y) (h : x ≠ y) : l ≠ m := fun e => h (by rw [e, hy] at hx; injection hx with hx; exact hx.symm)
theorem take_all {α : Type} {l m : List α} (hl : l.length = m.length) (h : l.take l.length = m.take l.length) : l = m := by
  rw [List.take_length, hl, List.take_length] at h; exact h
set_option maxRecDepth 100000 in
set_option maxHeartbeats 3200000 in
theorem same12_any (l m : List Int) (u v : Value) (w : World) (hu : IntsRd w u l) (hv : IntsRd w v m) (hl : l.length ≤ 100000) (hm : m.length ≤ 9223372036854775807) :
    Calls Tryd.prog 23 #[u, v] w fun e w' => e = .returned (.bool (decide (l = m))) ∧ Below w.heap.size w w' := by
  have HU := Lib.hid hu
  have HV := Lib.hid hv
  obtain ⟨a, c, rfl⟩ := hu.form
  obtain ⟨a2, c2, rfl⟩ := hv.form
  clear hu hv
  by_cases h0 : l.length = m.length
  · have d0 : ((l.length : Int) != (m.length : Int)) = false := by rw [h0]; simp
    obtain ⟨R, hR⟩ : ∃ R, decide (l = m) = R := ⟨_, rfl⟩
    have HR := Lib.hid hR
    have HL0 := Lib.hid h0
    rw [hR]
    rw [← h0] at d0 ⊢
    clear hR h0
    go_enter Tryd.func23, Tryd.ntmps23
    go_wp2_with fail
    go_loopg [5] l.length (fun q s5 wx => ∃ i : Nat, i + q = l.length ∧ s5 = .int .i64 (i : Int) ∧ Hid (l.take i = m.take i) ∧ Hid (Below w.heap.size w wx))
    case atStart => exact ⟨0, by omega, rfl, Lib.hid rfl, Lib.hid (Below.refl _ _)⟩
    case round =>
      obtain ⟨i, hin, rfl, HT, HB⟩ := hrel
      rcases gk with _ | q
      · obtain rfl : i = l.length := by omega
        have HE := Lib.hid (show R = true by rw [← HR.out]; exact decide_eq_true (take_all HL0.out HT.out))
        have j1 : ¬ ((l.length : Int) < (l.length : Int)) := by omega
        go_wp2_with fail
        go_ret
        exact ⟨by rw [HE.out]; rfl, HB.out⟩
      · obtain ⟨x, hx⟩ : ∃ x, l[i]? = some x := ⟨_, List.getElem?_eq_getElem (by omega)⟩
        obtain ⟨y, hy⟩ : ∃ y, m[i]? = some y := ⟨_, List.getElem?_eq_getElem (by have := HL0.out; omega)⟩
        obtain ⟨b1, o1, k1, e1, c1⟩ := (HU.out.keep HB.out).at hx
        obtain ⟨b2, o2, k2, e2, c3⟩ := (HV.out.keep HB.out).at hy
        injection e1 with e1 _ e3
        injection e2 with e2 _ e4
        subst e1
        subst e2
        subst e3
        subst e4
        have HX := Lib.hid hx
        have HY := Lib.hid hy
        have HLM := Lib.hid HL0.out
        have j1 : (i : Int) < (l.length : Int) := by omega
        have KX := Lib.hid (show wr.drew.cell? ⟨b1, o1 + i, none⟩ = some (.int .i64 x) ∧ wr.drew.cell? ⟨b2, o2 + i, none⟩ = some (.int .i64 y) from ⟨c1, c3⟩)
        have j2 : i < l.length := by omega
        clear hx hy
        by_cases hxy : x = y
        · have d1 : (x != y) = false := by simpa using hxy
          have HT2 := Lib.hid (show l.take (i + 1) = m.take (i + 1) by rw [take_snoc HX.out, take_snoc HY.out, HT.out, hxy])
          clear hxy
          go_upto_region 6 with fail
          go_region_held3 (fun W => W.cell? ⟨b1, o1 + i, none⟩ = some (.int .i64 x) ∧ W.cell? ⟨b2, o2 + i, none⟩ = some (.int .i64 y)) (first | exact KX.out | go_keep) (fail)
          all_goals
            go_wp2_with fail
            go_roundg q
            case measure => omega
            case rel => exact ⟨i + 1, by omega, by go_num, HT2, Lib.hid HB.out.drew⟩
        · have d1 : (x != y) = true := by simpa using hxy
          have HE := Lib.hid (show R = false by rw [← HR.out]; exact decide_eq_false (take_ne HX.out HY.out hxy))
          clear hxy
          go_upto_region 6 with fail
          go_region_held3 (fun W => W.cell? ⟨b1, o1 + i, none⟩ = some (.int .i64 x) ∧ W.cell? ⟨b2, o2 + i, none⟩ = some (.int .i64 y)) (first | exact KX.out | go_keep) (fail)
          all_goals
            go_wp2_with fail
            go_ret
            exact ⟨by rw [HE.out]; rfl, HB.out.drew⟩
  · have d0 : ((l.length : Int) != (m.length : Int)) = true := by rw [bne_iff_ne]; omega
    have HE := Lib.hid (show decide (l = m) = false from decide_eq_false (fun e => h0 (by rw [e])))
    clear h0
    go_enter Tryd.func23, Tryd.ntmps23
    go_wp2_with fail
    go_ret
    exact ⟨by rw [HE.out]; rfl, Below.refl _ _⟩
set_option maxRecDepth 100000 in
set_option maxHeartbeats 3200000 in
theorem sameSets_any (l m : List (List Int)) (u v : Value) (w : World) (hu : RowsRd w u l) (hv : RowsRd w v m) (hl : l.length ≤ 100000) (hm : m.length ≤ 9223372036854775807) (hl2 : ∀ r ∈ l, r.length ≤ 100000) (hm2 : ∀ r ∈ m, r.length ≤ 100000) :
    Calls Tryd.prog 16 #[u, v] w fun e w' => e = .returned (.bool (decide (l = m))) ∧ Below w.heap.size w w' := by
  have HU := Lib.hid hu
  have HV := Lib.hid hv
  have HL2 := Lib.hid hl2
  have HM2 := Lib.hid hm2
  obtain ⟨a, c, rfl⟩ := hu.form
  obtain ⟨a2, c2, rfl⟩ := hv.form
  clear hu hv hl2 hm2
  by_cases h0 : l.length = m.length
  · have d0 : ((l.length : Int) != (m.length : Int)) = false := by rw [h0]; simp
    obtain ⟨R, hR⟩ : ∃ R, decide (l = m) = R := ⟨_, rfl⟩
    have HR := Lib.hid hR
    have HL0 := Lib.hid h0
    rw [hR]
    rw [← h0] at d0 ⊢
    clear hR h0
    go_enter Tryd.func16, Tryd.ntmps16
    go_wp2_with fail
    go_loopg [5] l.length (fun q s5 wx => ∃ i : Nat, i + q = l.length ∧ s5 = .int .i64 (i : Int) ∧ Hid (l.take i = m.take i) ∧ Hid (Below w.heap.size w wx))
    case atStart => exact ⟨0, by omega, rfl, Lib.hid rfl, Lib.hid (Below.refl _ _)⟩
    case round =>
      obtain ⟨i, hin, rfl, HT, HB⟩ := hrel
      rcases gk with _ | q
      · obtain rfl : i = l.length := by omega
        have HE := Lib.hid (show R = true by rw [← HR.out]; exact decide_eq_true (take_all HL0.out HT.out))
        have j1 : ¬ ((l.length : Int) < (l.length : Int)) := by omega
        go_wp2_with fail
        go_ret
        exact ⟨by rw [HE.out]; rfl, HB.out⟩
      · obtain ⟨x, hx⟩ : ∃ x, l[i]? = some x := ⟨_, List.getElem?_eq_getElem (by omega)⟩
        obtain ⟨y, hy⟩ : ∃ y, m[i]? = some y := ⟨_, List.getElem?_eq_getElem (by have := HL0.out; omega)⟩
        obtain ⟨b1, o1, k1, u1, e1, c1, r1⟩ := (HU.out.keep HB.out).at hx
        obtain ⟨b2, o2, k2, u2, e2, c3, r2⟩ := (HV.out.keep HB.out).at hy
        injection e1 with e1 _ e3
        injection e2 with e2 _ e4
        subst e1
        subst e2
        subst e3
        subst e4
        have HX := Lib.hid hx
        have HY := Lib.hid hy
        have HS := Lib.hid (same12_any x y u1 u2 wr.drew (r1.keep (Below.refl _ _).drew) (r2.keep (Below.refl _ _).drew) (HL2.out x (List.mem_of_getElem? hx)) (by have := HM2.out y (List.mem_of_getElem? hy); omega))
        obtain ⟨a1, k1', rfl⟩ := r1.form
        obtain ⟨a3, k2', rfl⟩ := r2.form
        have j1 : (i : Int) < (l.length : Int) := by omega
        have KX := Lib.hid (show wr.drew.cell? ⟨b1, o1 + i, none⟩ = some (.slice a1 x.length k1') ∧ wr.drew.cell? ⟨b2, o2 + i, none⟩ = some (.slice a3 y.length k2') from ⟨c1, c3⟩)
        have j2 : i < l.length := by omega
        clear hx hy r1 r2 c1 c3
        by_cases hxy : x = y
        · have HT2 := Lib.hid (show l.take (i + 1) = m.take (i + 1) by rw [take_snoc HX.out, take_snoc HY.out, HT.out, hxy])
          rw [decide_eq_true hxy] at HS
          clear hxy
          go_upto_region 6 with fail
          go_region_held3 (fun W => W.cell? ⟨b1, o1 + i, none⟩ = some (.slice a1 x.length k1') ∧ W.cell? ⟨b2, o2 + i, none⟩ = some (.slice a3 y.length k2')) (first | exact KX.out | exact ⟨cell_keep KX.out.1 b5, cell_keep KX.out.2 b5⟩ | go_keep)
            (first | (go_at_call 23; (with_reducible refine HS.out.mono ?_); rintro e0 W5 ⟨rfl, b5⟩))
          all_goals
            go_wp2_with fail
            go_roundg q
            case measure => omega
            case rel => exact ⟨i + 1, by omega, by go_num, HT2, Lib.hid (HB.out.drew.trans (b5.mono HB.out.size))⟩
        · have HE := Lib.hid (show R = false by rw [← HR.out]; exact decide_eq_false (take_ne HX.out HY.out hxy))
          rw [decide_eq_false hxy] at HS
          clear hxy
          go_upto_region 6 with fail
          go_region_held3 (fun W => W.cell? ⟨b1, o1 + i, none⟩ = some (.slice a1 x.length k1') ∧ W.cell? ⟨b2, o2 + i, none⟩ = some (.slice a3 y.length k2')) (first | exact KX.out | exact ⟨cell_keep KX.out.1 b5, cell_keep KX.out.2 b5⟩ | go_keep)
            (first | (go_at_call 23; (with_reducible refine HS.out.mono ?_); rintro e0 W5 ⟨rfl, b5⟩))
          all_goals
            go_wp2_with fail
            go_ret
            exact ⟨by rw [HE.out]; rfl, HB.out.drew.trans (b5.mono HB.out.size)⟩
  · have d0 : ((l.length : Int) != (m.length : Int)) = true := by rw [bne_iff_ne]; omega
    have HE := Lib.hid (show decide (l = m) = false from decide_eq_false (fun e => h0 (by rw [e])))
    clear h0
    go_enter Tryd.func16, Tryd.ntmps16
    go_wp2_with fail
    go_ret
    exact ⟨by rw [HE.out]; rfl, Below.refl _ _⟩
/-- The example's graph. -/
abbrev evE : List E3 := [(0, 0, 1), (0, 1, 0), (1, 0, 0)]
set_option maxRecDepth 100000 in
set_option maxHeartbeats 1600000 in
theorem even_any (w : World) : Calls Tryd.prog 36 #[] w fun e w' => ∃ g, e = .returned (grV 2 2 (.slice (some ⟨g, 0, none⟩) 3 3)) ∧ EdgesRd w' (.slice (some ⟨g, 0, none⟩) 3 3) evE ∧ Below w.heap.size w w' := by
  have hs : (w.alloc (.cells #[.int .i64 2, .int .i64 2, .slice (some ⟨w.heap.size + 1, 0, none⟩) 3 3] 24)).heap.size = w.heap.size + 1 := World.size_alloc ..
  have he : EdgesAt ((w.alloc (.cells #[.int .i64 2, .int .i64 2, .slice (some ⟨w.heap.size + 1, 0, none⟩) 3 3] 24)).alloc (.cells #[.int .i64 0, .int .i64 0, .int .i64 1, .int .i64 0, .int .i64 1, .int .i64 0, .int .i64 1, .int .i64 0, .int .i64 0] 55)) (w.heap.size + 1) (.slice (some ⟨w.heap.size + 1, 0, none⟩) 3 3) evE := by
    have k := edgesLit (w.alloc (.cells #[.int .i64 2, .int .i64 2, .slice (some ⟨w.heap.size + 1, 0, none⟩) 3 3] 24)) evE (by decide) (by decide)
    rw [hs] at k
    exact k
  have HE := Lib.hid he
  have hb := Lib.hid ((below1 w (.cells #[.int .i64 2, .int .i64 2, .slice (some ⟨w.heap.size + 1, 0, none⟩) 3 3] 24)).alloc (by rw [hs]; omega) (.cells #[.int .i64 0, .int .i64 0, .int .i64 1, .int .i64 0, .int .i64 1, .int .i64 0, .int .i64 1, .int .i64 0, .int .i64 0] 55))
  clear he
  go_enter Tryd.func36, Tryd.ntmps36
  go_wp2
  exact bodyPost_ret (v := grV 2 2 (.slice (some ⟨w.heap.size + 1, 0, none⟩) 3 3)) (by simp [results, Tryd.results36, go_sem]) rfl ⟨_, rfl, HE.out.rd, hb.out⟩
end Go.Proofs.YtbcbeffoacfpdaaDoor

namespace Go.Proofs.YtbcbeffoacfpdaaDoor
open Go.RowKit
set_option linter.unusedSimpArgs false
set_option linter.unusedVariables false

abbrev bE : Bs := ([3, 1, 2], [(0, 0, 0), (0, 1, 1), (1, 0, 2), (1, 1, 1), (2, 0, 1)])
theorem buildE : buildR 2 2 evE = (0, bE) := by decide +kernel
theorem focE : focR 2 2 evE = ([1], 0, true, 0) := by decide +kernel
theorem setsE : bE.1.map memN = [[0, 1], [0], [1]] := by decide +kernel
theorem wayE : wayF bE.2 3 0 = 7 := by decide +kernel
theorem wayB : ∀ k, k < 3 → ∀ i, i ≤ bE.2.length → ∀ s, s < 3 → lonF (wayF bE.2 k) (bE.2.take i) s < 18446744073709551616 := by
  have h : ∀ k, k < 3 → ∀ i, i < 6 → ∀ s, s < 3 → lonF (wayF bE.2 k) (bE.2.take i) s < 18446744073709551616 := by decide +kernel
  exact fun k hk i hi s hs => h k hk i (by have : bE.2.length = 5 := rfl; omega) s hs
theorem chkE : chkG 2 2 evE = 0 := by decide
theorem build_even (v : Value) (W : World) (h : EdgesRd W v evE) (hT : TabD W) : Calls Tryd.prog 11 #[grV 2 2 v] W fun e w' => ∃ ah ch al, e = .returned (.tuple #[grV 2 3 (.slice ah 5 ch), .slice al 3 3, .int .i64 0]) ∧ EdgesRd w' (.slice ah 5 ch) bE.2 ∧ RowsRd w' (.slice al 3 3) [[0, 1], [0], [1]] ∧ Below W.heap.size W w' := by
  refine (Build_any 2 2 evE v W h (by decide) hT).mono ?_
  rw [buildE]
  rintro e w' ⟨hv, lv, he, h1, h2, h3⟩
  obtain ⟨ah, ch, rfl⟩ := h1.slice
  have h4 := h2.rd
  obtain ⟨al, rfl⟩ := h2.form
  rw [setsE] at h4
  exact ⟨ah, ch, al, he, h1.rd, h4, h3⟩
theorem focus_even (v : Value) (W : World) (h : EdgesRd W v evE) (hT : TabD W) : Calls Tryd.prog 17 #[grV 2 2 v] W fun e w' => ∃ a c, e = .returned (.tuple #[.slice a 1 c, .int .i64 0, .bool true, .int .i64 0]) ∧ IntsRd w' (.slice a 1 c) [1] ∧ Below W.heap.size W w' := by
  refine (Focus_any 2 2 evE v W h (by decide) hT).mono ?_
  rw [focE]
  rintro e w' ⟨hv, he, h1, h3⟩
  obtain ⟨a, c, rfl⟩ := h1.form
  exact ⟨a, c, he, h1, h3⟩
set_option maxRecDepth 100000 in
set_option maxHeartbeats 6400000 in
theorem count7_any (v : Value) (w : World) (hrd : EdgesRd w v evE) (hT : TabD w) :
    Calls Tryd.prog 19 #[grV 2 2 v, .int .i64 3] w fun e w' => e = .returned (.tuple #[.agg #[.bool false, .string ⟨#[7]⟩], .int .i64 0]) ∧ Below w.heap.size w w' := by
  obtain ⟨a, c, hv⟩ : ∃ a c, v = .slice a 3 c := hrd.form
  subst hv
  obtain ⟨W1, hW1⟩ : ∃ W1, ((w.alloc (.cells #[.int .i64 2, .int .i64 2, .slice a 3 c] 24)).alloc (.cells #[.bool false, .string ⟨#[]⟩] 39)) = W1 := ⟨_, rfl⟩
  have z1 : W1.heap.size = w.heap.size + 2 := by rw [← hW1, World.size_alloc, World.size_alloc]
  have G1 := Lib.hid (show BoxG W1 w.heap.size 2 2 (.slice a 3 c) by rw [← hW1]; exact (BoxG.new w 2 2 _ _).keep (below1 _ _))
  have B1 := Lib.hid (show Below w.heap.size w W1 by rw [← hW1]; exact below_more (below1 w _) (Nat.le_refl _) (below1 _ _))
  have R1 := Lib.hid (show W1.heap[w.heap.size + 1]? = some (.cells #[.bool false, .string ⟨#[]⟩] 39 (0, 0)) by
    rw [← hW1]
    have h := heap_alloc_new (w.alloc (.cells #[.int .i64 2, .int .i64 2, .slice a 3 c] 24)) (.cells #[.bool false, .string ⟨#[]⟩] 39)
    rw [World.size_alloc] at h
    exact h)
  have HRD := Lib.hid hrd
  have HT := Lib.hid hT
  have HCH := Lib.hid (fun W h => chkE ▸ gcheck_any 2 2 evE (.slice a 3 c) W h (by decide))
  have HBD := Lib.hid (fun W (h : EdgesRd W (.slice a 3 c) evE) (hT : TabD W) => build_even (.slice a 3 c) W h hT)
  have HPA := Lib.hid (fun W hv (h : EdgesRd W hv bE.2) => paths_any 2 3 3 bE.2 hv W h (by decide) (by decide) (by decide) (by decide) wayB)
  obtain ⟨x1, x2, x3⟩ := id G1.out
  clear hrd hT
  go_enter Tryd.func19, Tryd.ntmps19
  go_wp2_with (first
    | (go_at_call 29; (refine (HCH.out _ (HRD.out.keep B1.out)).mono ?_); rintro e W2 ⟨rfl, b2⟩; (have B2 := Lib.hid (B1.out.trans (b2.mono B1.out.size))); (have R2 := Lib.hid ((b2.block (w.heap.size + 1) (by omega)).trans R1.out)); (have z2 : w.heap.size + 2 ≤ W2.heap.size := by have := b2.size; omega); (obtain ⟨x1, x2, x3⟩ := G1.out.keep b2); clear b2)
    | (go_at_call 11; (refine (HBD.out _ (HRD.out.keep B2.out) (HT.out.keep B2.out)).mono ?_); rintro e W3 ⟨ah, ch, al, rfl, he3, hr3, b3⟩; (have k3 := below_more b3 (by omega) (below1 W3 (.cells #[.int .i64 2, .int .i64 3, .slice ah 5 ch] 24))); (have B3 := Lib.hid (B2.out.trans (k3.mono B2.out.size))); (have R3 := Lib.hid ((k3.block (w.heap.size + 1) (by omega)).trans R2.out)); (have z3 : w.heap.size + 2 ≤ (W3.alloc (.cells #[.int .i64 2, .int .i64 3, .slice ah 5 ch] 24)).heap.size := by have := k3.size; omega); (have HE3 := Lib.hid (he3.keep (below1 W3 (.cells #[.int .i64 2, .int .i64 3, .slice ah 5 ch] 24)))); clear b3 k3 he3 hr3)
    | (go_at_call 47; (refine (HPA.out _ _ HE3.out).mono ?_); rintro e W4 ⟨u, rfl, hnum, b4⟩; (obtain ⟨bn, rfl, -, hn⟩ := hnum); (obtain ⟨u0, cu0, hd0⟩ := hn 0 (by decide)); (rw [wayE] at hd0); (obtain ⟨q0, c0, rfl, h7⟩ : ∃ q c, u0 = .slice (some ⟨q, 0, none⟩) 1 c ∧ W4.cell? ⟨q, 0, none⟩ = some (u64v 7) := by (rcases hd0 with ⟨_, h⟩ | h; (exact absurd h (by decide)); exact h)); (have HV7 := Lib.hid (value7_any q0 0 c0 W4 h7)); (have B4 := Lib.hid (B3.out.trans (b4.mono B3.out.size))); (have R4 := Lib.hid ((b4.block (w.heap.size + 1) (by omega)).trans R3.out)); (have z4 : w.heap.size + 2 ≤ W4.heap.size := by have := b4.size; omega); clear b4 hn hd0 h7)
    | (go_at_call 48; (refine HV7.out.mono ?_); rintro e W5 ⟨rfl, b5⟩; (have B5 := Lib.hid (B4.out.trans (b5.mono B4.out.size))); (have h6 := (b5.block (w.heap.size + 1) (by omega)).trans R4.out); (have r1 : W5.cell? ⟨w.heap.size + 1, 0, none⟩ = some (.bool false) := by simp [World.cell?, h6]); (have r2 : W5.cell? ⟨w.heap.size + 1, 1, none⟩ = some (.string ⟨#[]⟩) := by simp [World.cell?, h6]); (have r3 : W5.frozen? ⟨w.heap.size + 1, 0, none⟩ = false := by simp [World.frozen?, h6]); (have r4 : W5.frozen? ⟨w.heap.size + 1, 1, none⟩ = false := by simp [World.frozen?, h6]); clear b5 h6))
  refine bodyPost_ret (v := .tuple #[.agg #[.bool false, .string ⟨#[7]⟩], .int .i64 0]) (by simp [results, Tryd.results19, go_sem, r1, r2]) rfl ?_
  exact ⟨rfl, (B5.out.setCell (p := ⟨w.heap.size + 1, 0, none⟩) (Nat.le_succ _) _).setCell (p := ⟨w.heap.size + 1, 1, none⟩) (Nat.le_succ _) _⟩
/-- max of three. -/
theorem max_3n {P : Program} (w : World) (ts : Array TypeId) (t : TypeId) (k : IntKind) (x y z : Int) :
    (Builtin.max_ ts t #[.int k x, .int k y, .int k z]).run P w = .ok (.int k (max (max x y) z)) w := by
  have e : ∀ x y : Int, (if y > x then y else x) = max x y := fun x y => by
    rw [Int.max_def]
    split <;> split <;> omega
  simp [Builtin.max_, Builtin.max2, e]
attribute [go_sem] max_3n
theorem lit3 (W : World) : RowsRd ((((W.alloc (.cells #[.int .i64 0, .int .i64 1] 3)).alloc (.cells #[.int .i64 0] 3)).alloc (.cells #[.int .i64 1] 3)).alloc (.cells #[.slice (some ⟨W.heap.size, 0, none⟩) 2 2, .slice (some ⟨W.heap.size + 1, 0, none⟩) 1 1, .slice (some ⟨W.heap.size + 1 + 1, 0, none⟩) 1 1] 25))
    (.slice (some ⟨W.heap.size + 1 + 1 + 1, 0, none⟩) 3 3) [[0, 1], [0], [1]] := by
  have e1 : IntsRd (W.alloc (.cells #[.int .i64 0, .int .i64 1] 3)) (.slice (some ⟨W.heap.size, 0, none⟩) 2 2) [0, 1] := (intsLit W [0, 1] (by decide) (by decide)).rd
  obtain ⟨W1, hW1⟩ : ∃ W1, W.alloc (.cells #[.int .i64 0, .int .i64 1] 3) = W1 := ⟨_, rfl⟩
  have z1 : W1.heap.size = W.heap.size + 1 := by rw [← hW1, World.size_alloc]
  rw [hW1] at e1 ⊢
  have e2 : IntsRd (W1.alloc (.cells #[.int .i64 0] 3)) (.slice (some ⟨W1.heap.size, 0, none⟩) 1 1) [0] := (intsLit W1 [0] (by decide) (by decide)).rd
  have e12 := e1.keep (below1 W1 (.cells #[.int .i64 0] 3))
  obtain ⟨W2, hW2⟩ : ∃ W2, W1.alloc (.cells #[.int .i64 0] 3) = W2 := ⟨_, rfl⟩
  have z2 : W2.heap.size = W.heap.size + 1 + 1 := by rw [← hW2, World.size_alloc, z1]
  rw [z1] at e2
  rw [hW2] at e2 e12 ⊢
  have e3 : IntsRd (W2.alloc (.cells #[.int .i64 1] 3)) (.slice (some ⟨W2.heap.size, 0, none⟩) 1 1) [1] := (intsLit W2 [1] (by decide) (by decide)).rd
  have e13 := e12.keep (below1 W2 (.cells #[.int .i64 1] 3))
  have e23 := e2.keep (below1 W2 (.cells #[.int .i64 1] 3))
  obtain ⟨W3, hW3⟩ : ∃ W3, W2.alloc (.cells #[.int .i64 1] 3) = W3 := ⟨_, rfl⟩
  have z3 : W3.heap.size = W.heap.size + 1 + 1 + 1 := by rw [← hW3, World.size_alloc, z2]
  rw [z2] at e3
  rw [hW3] at e3 e13 e23 ⊢
  have k4 := below1 W3 (.cells #[.slice (some ⟨W.heap.size, 0, none⟩) 2 2, .slice (some ⟨W.heap.size + 1, 0, none⟩) 1 1, .slice (some ⟨W.heap.size + 1 + 1, 0, none⟩) 1 1] 25)
  rw [← z3]
  refine ⟨_, _, rfl, fun i r hr => ?_⟩
  match i, hr with
  | 0, hr =>
    simp at hr
    subst hr
    exact ⟨_, _, _, rfl, by simp [go_sem], e13.keep k4⟩
  | 1, hr =>
    simp at hr
    subst hr
    exact ⟨_, _, _, rfl, by simp [go_sem], e23.keep k4⟩
  | 2, hr =>
    simp at hr
    subst hr
    exact ⟨_, _, _, rfl, by simp [go_sem], e3.keep k4⟩
def SA (p : Nat) (W : World) : Prop := W.cell? ⟨p, 0, none⟩ = some (.bool false) ∧ W.cell? ⟨p, 1, none⟩ = some (.string ⟨#[7]⟩)
theorem SA.keep {p : Nat} {W W' : World} (h : SA p W) (hb : Below W.heap.size W W') : SA p W' := ⟨cell_keep h.1 hb, cell_keep h.2 hb⟩
set_option maxRecDepth 100000 in
set_option maxHeartbeats 6400000 in
theorem awake12_any (w : World) (hT : TabD w) : Calls Tryd.prog 10 #[] w fun e w' => e = .returned (.bool true) ∧ Below w.heap.size w w' := by
  have hmx : Tryd.prog.follows .mixedOrders = true := by kernel_rfl
  have HT := Lib.hid hT
  clear hT
  go_enter Tryd.func10, Tryd.ntmps10
  go_upto_region 2 with (first
    | (go_at_call 36; (with_reducible refine (even_any w).mono ?_); rintro e W1 ⟨g1, rfl, he1, b1⟩)
    | (go_at_call 11; (with_reducible refine (build_even _ W1 he1 (HT.out.keep b1)).mono ?_); rintro e W2 ⟨ah, ch, al, rfl, he2, hr2, b2⟩))
  have k2 := below1 W2 (.cells #[.int .i64 2, .int .i64 3, .slice ah 5 ch] 24)
  have B2 := Lib.hid (below_more (below_more b1 (Nat.le_refl _) b2) (Nat.le_refl _) k2)
  have R2 := Lib.hid (hr2.keep k2)
  have G2 := Lib.hid (BoxG.new W2 2 3 (.slice ah 5 ch) 24)
  obtain ⟨ph, hph⟩ : ∃ ph, W2.heap.size = ph := ⟨_, rfl⟩
  rw [hph] at G2 ⊢
  clear he1 b1 he2 hr2 b2 k2 hph
  generalize W2.alloc (.cells #[.int .i64 2, .int .i64 3, .slice ah 5 ch] 24) = W2 at *
  go_upto_region 3 with (first
    | (go_at_call 36; (with_reducible refine (even_any _).mono ?_); rintro e W3 ⟨g3, rfl, he3, b3⟩)
    | (go_at_call 17; (with_reducible refine (focus_even _ W3 he3 ((HT.out.keep B2.out).keep b3)).mono ?_); rintro e W4 ⟨af, cf, rfl, hf4, b4⟩))
  have k4 := below_more b3 (Nat.le_refl _) b4
  have B4 := Lib.hid (B2.out.trans (k4.mono B2.out.size))
  have R4 := Lib.hid (R2.out.keep k4)
  have G4 := Lib.hid (G2.out.keep k4)
  have F4 := Lib.hid hf4
  clear he3 b3 hf4 b4 k4 B2 R2 G2
  go_upto_region 4 with (first
    | (go_at_call 36; (with_reducible refine (even_any _).mono ?_); rintro e W5 ⟨g5, rfl, he5, b5⟩)
    | (go_at_call 19; (with_reducible refine (count7_any _ W5 he5 ((HT.out.keep B4.out).keep b5)).mono ?_); rintro e W6 ⟨rfl, b6⟩))
  have k6 := below_more (below_more b5 (Nat.le_refl _) b6) (Nat.le_refl _) (below1 W6 (.cells #[.bool false, .string ⟨#[7]⟩] 39))
  have B6 := Lib.hid (B4.out.trans (k6.mono B4.out.size))
  have R6 := Lib.hid (R4.out.keep k6)
  have G6 := Lib.hid (G4.out.keep k6)
  have F6 := Lib.hid (F4.out.keep k6)
  have S6 : SA W6.heap.size (W6.alloc (.cells #[.bool false, .string ⟨#[7]⟩] 39)) := ⟨by simp [go_sem], by simp [go_sem]⟩
  obtain ⟨p8, hp8⟩ : ∃ p8, W6.heap.size = p8 := ⟨_, rfl⟩
  rw [hp8] at S6 ⊢
  clear he5 b5 b6 k6 B4 R4 G4 F4 hp8
  generalize W6.alloc (.cells #[.bool false, .string ⟨#[7]⟩] 39) = W7 at *
  have hR0 : SA p8 W7.drew := S6
  have HL := Lib.hid (same12_any [1] [1] (.slice af 1 cf) (.slice (some ⟨W7.heap.size, 0, none⟩) 1 1) (W7.alloc (.cells #[.int .i64 1] 3)).drew ((F6.out.keep (below1 W7 (.cells #[.int .i64 1] 3))).keep (Below.refl _ _).drew) (((intsLit W7 [1] (by decide) (by decide)).rd).keep (Below.refl _ _).drew) (by decide) (by decide))
  rw [show decide (([1] : List Int) = [1]) = true by decide] at HL
  have HOF := Lib.hid (fun W => of7_any W)
  have HSA := Lib.hid (fun o => show SA p8 (W7.alloc o).drew from S6.keep (below1 W7 o).drew)
  go_region_held3 (fun W => W.cell? ⟨p8, 0, none⟩ = some (.bool false) ∧ W.cell? ⟨p8, 1, none⟩ = some (.string ⟨#[7]⟩))
    (first | exact hR0 | exact HSA.out _ | exact hR6.out | exact hR7.out)
    (first
      | (go_at_call 23; (with_reducible refine HL.out.mono ?_); rintro e0 Y1 ⟨rfl, c1⟩; (have K1 := Lib.hid (below_more (below1 W7 (.cells #[.int .i64 1] 3)).drew (Nat.le_refl _) c1)); (have hR6 := Lib.hid (S6.keep K1.out)))
      | (go_at_call 37; (with_reducible refine (HOF.out _).mono ?_); rintro e0 Y2 ⟨rfl, c2⟩; (have K2 := Lib.hid (below_more K1.out (Nat.le_refl _) c2)); (have hR7 := Lib.hid (S6.keep K2.out))))
  all_goals
    obtain ⟨x1, x2, x3⟩ := G6.out.keep K2.out
    have R7 := R6.out.keep K2.out
    have B7 := Lib.hid (B6.out.trans (K2.out.mono B6.out.size))
    have b9 := below_more (below_more (below_more (below1 Y2 (.cells #[.int .i64 0, .int .i64 1] 3)) (Nat.le_refl _) (below1 _ (.cells #[.int .i64 0] 3))) (Nat.le_refl _) (below1 _ (.cells #[.int .i64 1] 3))) (Nat.le_refl _) (below1 _ (.cells #[.slice (some ⟨Y2.heap.size, 0, none⟩) 2 2, .slice (some ⟨Y2.heap.size + 1, 0, none⟩) 1 1, .slice (some ⟨Y2.heap.size + 1 + 1, 0, none⟩) 1 1] 25))
    have HSS := Lib.hid (sameSets_any _ _ _ _ _ (R7.keep b9) (lit3 Y2) (by decide) (by decide) (by decide) (by decide))
    rw [show decide (([[0, 1], [0], [1]] : List (List Int)) = [[0, 1], [0], [1]]) = true by decide] at HSS
    have B9 := Lib.hid (B7.out.trans (b9.mono B7.out.size))
    clear R7 b9 K2 hR6 hR7 HSA HL HOF
    go_wp2_with (go_at_call 16; (with_reducible refine HSS.out.mono ?_); rintro e0 Y3 ⟨rfl, c3⟩; (have B10 := Lib.hid (B9.out.trans (c3.mono B9.out.size))))
    go_ret
    exact ⟨rfl, B10.out⟩
end Go.Proofs.YtbcbeffoacfpdaaDoor

namespace Go.Proofs.YtbcbeffoacfpdaaDoor
open Go.RowKit
set_option linter.unusedSimpArgs false
set_option linter.unusedVariables false

set_option maxRecDepth 100000 in
set_option maxHeartbeats 6400000 in
theorem step_any (La S lab : Int) (es : List E3) (v vs : Value) (set : List Int) (w : World) (hrd : EdgesRd w v es) (hn : es.length ≤ 9223372036854775807) (hst : IntsRd w vs set) (hsl : set.length ≤ 9223372036854775807) :
    Calls Tryd.prog 28 #[grV La S v, vs, .int .i64 lab] w (IOut w (stepR La S es set lab)) := by
  have HV := Lib.hid (fun W h => isValid_any La S es v W h hn)
  have HC := Lib.hid (fun W h => checkSet_any La S v vs set W h hsl)
  have HL := Lib.hid (fun W => isLabel_any La S v lab W)
  have HRD := Lib.hid hrd
  have HST := Lib.hid hst
  have b0 := below_more (below1 w (.cells #[.int .i64 La, .int .i64 S, v] 24)) (Nat.le_refl _) (below1 _ (.cells #[.int .i64 lab] 3))
  have BO := Lib.hid b0
  have K0 := Lib.hid ((BoxG.new w La S v 24).keep (below1 _ (.cells #[.int .i64 lab] 3)))
  have L0 := Lib.hid (show ((w.alloc (.cells #[.int .i64 La, .int .i64 S, v] 24)).alloc (.cells #[.int .i64 lab] 3)).cell? ⟨w.heap.size + 1, 0, none⟩ = some (.int .i64 lab) by
    rw [← World.size_alloc w (.cells #[.int .i64 La, .int .i64 S, v] 24)]; simp [go_sem])
  by_cases h0 : chkG La S es = 0
  · have H0 := Lib.hid (show (chkG La S es == 0) = true by rw [h0]; rfl)
    by_cases h1 : chkS S none set = 0
    · have H1 := Lib.hid h1
      by_cases h2 : 0 ≤ lab ∧ lab < La
      · have hs1 := (chkG_zero h0).s1
        obtain ⟨n, rfl⟩ : ∃ n : Nat, S = (n : Int) := ⟨S.toNat, by omega⟩
        refine (step_good La n es v vs set lab w hrd (chkG_zero h0) hst (chkS_ok h1) h2).mono ?_
        rintro e w' ⟨u, rfl, i1, b1⟩
        rw [stepR_good h0 h1 h2]
        exact ⟨u, rfl, i1, b1⟩
      · have HE := Lib.hid (stepR_lab h0 h1 h2)
        have H2 := Lib.hid (show inB La lab = false from decide_eq_false h2)
        obtain ⟨a, c, rfl⟩ := hrd.form
        obtain ⟨a2, c2, rfl⟩ := hst.form
        clear h0 h1 h2 hrd hst b0
        refine (callsIn_wide (n := 8)).1 ?_
        refine callsIn_of_wp_marks Tryd.func28 rfl trivial ?_ rfl
        simp only [Tryd.ntmps28, List.size_toArray, List.length_cons, List.length_nil, Nat.reduceAdd, Nat.reduceSub, Array.replicate_succ, Array.replicate_zero, List.push_toArray, List.append_toArray, List.nil_append, List.cons_append]
        gi_wp2_with (first | (refine ⟨trivial, ?_⟩; gi_at_call 52; (with_reducible refine (callsIn_wide.2 (HV.out _ (HRD.out.keep BO.out))).mono ?_); rintro e W1 ⟨rfl, b1⟩; (rw [H0.out]); (have K1 := Lib.hid (K0.out.keep b1)); (have L1 := Lib.hid (cell_keep L0.out b1)); (have B1 := Lib.hid (below_more BO.out (Nat.le_refl _) b1)); (clear b1); (obtain ⟨g1, g2, g3⟩ := id K1.out)) | (refine ⟨trivial, ?_⟩; gi_at_call 54; (with_reducible refine (callsIn_wide.2 (HC.out _ (IntsRd.keep HST.out B1.out))).mono ?_); rintro e W2 ⟨rfl, b2⟩; (rw [H1.out]); (have K2 := Lib.hid (K1.out.keep b2)); (have L2 := Lib.hid (cell_keep L1.out b2)); (have B2 := Lib.hid (below_more B1.out (Nat.le_refl _) b2)); (clear b2 g1 g2 g3); (obtain ⟨g1, g2, g3⟩ := id K2.out); (have g4 := L2.out)) | (refine ⟨trivial, ?_⟩; gi_at_call 55; (with_reducible refine (callsIn_wide.2 (HL.out _)).mono ?_); rintro e W3 ⟨rfl, b3⟩; (rw [H2.out]); (have B3 := Lib.hid (below_more B2.out (Nat.le_refl _) b3)); (clear b3)))
        refine marks_leave (B := w.heap.size) (fun X => Below w.heap.size w X) ?_ ?_ [] W3 trivial B3.out
        · rintro X r x2 hr hX
          exact below_put9 x2 r hr _
        · rintro X x2
          exact ⟨.tuple #[.slice none 0 0, .int .i64 2], by simp [results, Tryd.results28, go_sem], _, by rw [HE.out], by rw [HE.out]; exact ints_nil _ _, x2⟩
    · have HE := Lib.hid (stepR_set (lab := lab) h0 h1)
      obtain ⟨a, c, rfl⟩ := hrd.form
      obtain ⟨a2, c2, rfl⟩ := hst.form
      obtain ⟨z, hz⟩ : ∃ z, chkS S none set = z := ⟨_, rfl⟩
      simp only [hz] at HC HE
      rw [hz] at h1
      have d1 : (z != 0) = true := by simpa using h1
      clear h0 h1 hrd hst b0 hz
      refine (callsIn_wide (n := 8)).1 ?_
      refine callsIn_of_wp_marks Tryd.func28 rfl trivial ?_ rfl
      simp only [Tryd.ntmps28, List.size_toArray, List.length_cons, List.length_nil, Nat.reduceAdd, Nat.reduceSub, Array.replicate_succ, Array.replicate_zero, List.push_toArray, List.append_toArray, List.nil_append, List.cons_append]
      gi_wp2_with (first | (refine ⟨trivial, ?_⟩; gi_at_call 52; (with_reducible refine (callsIn_wide.2 (HV.out _ (HRD.out.keep BO.out))).mono ?_); rintro e W1 ⟨rfl, b1⟩; (rw [H0.out]); (have K1 := Lib.hid (K0.out.keep b1)); (have L1 := Lib.hid (cell_keep L0.out b1)); (have B1 := Lib.hid (below_more BO.out (Nat.le_refl _) b1)); (clear b1); (obtain ⟨g1, g2, g3⟩ := id K1.out)) | (refine ⟨trivial, ?_⟩; gi_at_call 54; (with_reducible refine (callsIn_wide.2 (HC.out _ (IntsRd.keep HST.out B1.out))).mono ?_); rintro e W2 ⟨rfl, b2⟩; (have K2 := Lib.hid (K1.out.keep b2)); (have L2 := Lib.hid (cell_keep L1.out b2)); (have B2 := Lib.hid (below_more B1.out (Nat.le_refl _) b2)); (clear b2 g1 g2 g3); (obtain ⟨g1, g2, g3⟩ := id K2.out); (have g4 := L2.out)))
      refine marks_leave (B := w.heap.size) (fun X => Below w.heap.size w X) ?_ ?_ [] W2 trivial B2.out
      · rintro X r x2 hr hX
        exact below_put9 x2 r hr _
      · rintro X x2
        exact ⟨.tuple #[.slice none 0 0, .int .i64 z], by simp [results, Tryd.results28, go_sem], _, by rw [HE.out], by rw [HE.out]; exact ints_nil _ _, x2⟩
  · have HE := Lib.hid (stepR_bad (set := set) (lab := lab) h0)
    have H0 := Lib.hid (show (chkG La S es == 0) = false by simpa using h0)
    obtain ⟨a, c, rfl⟩ := hrd.form
    obtain ⟨a2, c2, rfl⟩ := hst.form
    clear h0 hrd hst b0
    refine (callsIn_wide (n := 8)).1 ?_
    refine callsIn_of_wp_marks Tryd.func28 rfl trivial ?_ rfl
    simp only [Tryd.ntmps28, List.size_toArray, List.length_cons, List.length_nil, Nat.reduceAdd, Nat.reduceSub, Array.replicate_succ, Array.replicate_zero, List.push_toArray, List.append_toArray, List.nil_append, List.cons_append]
    gi_wp2_with (refine ⟨trivial, ?_⟩; gi_at_call 52; (with_reducible refine (callsIn_wide.2 (HV.out _ (HRD.out.keep BO.out))).mono ?_); rintro e W1 ⟨rfl, b1⟩; (rw [H0.out]); (have K1 := Lib.hid (K0.out.keep b1)); (have L1 := Lib.hid (cell_keep L0.out b1)); (have B1 := Lib.hid (below_more BO.out (Nat.le_refl _) b1)); (clear b1); (obtain ⟨g1, g2, g3⟩ := id K1.out))
    refine marks_leave (B := w.heap.size) (fun X => Below w.heap.size w X) ?_ ?_ [] W1 trivial B1.out
    · rintro X r x2 hr hX
      exact below_put9 x2 r hr _
    · rintro X x2
      exact ⟨.tuple #[.slice none 0 0, .int .i64 1], by simp [results, Tryd.results28, go_sem], _, by rw [HE.out], by rw [HE.out]; exact ints_nil _ _, x2⟩
end Go.Proofs.YtbcbeffoacfpdaaDoor
