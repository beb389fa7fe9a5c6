/- What slices.Clone, Compact and Sort do with numbers: Sort at a list of one's own; Compact at an ascending one. Condition: at most 100000 numbers. -/
import Derived.Test.YtfkplnmhlpabaaaKv
import Derived.Test.YtfkplnmhlpabaaaKz
import Derived.Test.YtfkplnmhlpabaaaShelfS
import Derived.Sort.OwnSorted
import Derived.BigQuiet
namespace Go.Proofs.Ytfkplnmhlpabaaa
open Go.RowKit Go.Shelf Go.Sort
set_option linter.unusedSimpArgs false
set_option linter.unusedVariables false

theorem cloneI_any (l : List Int) (v : Value) (w : World) (hrd : IntsRd w v l) (h0 : 0 < l.length) (hn : l.length ≤ 100000) :
    Calls Try.prog 34 #[v] w fun e w' => ∃ u, e = .returned u ∧ IntsAt w' w.heap.size u l ∧ Below w.heap.size w w' := by
  obtain ⟨x, hx⟩ : ∃ x, l[0]? = some x := ⟨_, List.getElem?_eq_getElem h0⟩
  obtain ⟨b, off, c, rfl, -⟩ := hrd.at hx
  have h := Try.slices_Clone_int b off l.length c l w (Nat.le_refl _) (by omega) (fun j hj => by
    obtain ⟨y, hy⟩ : ∃ y, l[j]? = some y := ⟨_, List.getElem?_eq_getElem hj⟩
    obtain ⟨b', off', c', hv, k⟩ := hrd.at hy
    injection hv with q1 q2 q3
    injection q1 with q1
    injection q1 with q4 q5
    subst q4 q5
    rw [k, List.getD_eq_getElem?_getD, hy]; rfl)
  refine h.mono fun e w' ⟨u, he, ho, _, hb⟩ => ⟨u, he, ?_, hb⟩
  rw [List.take_length] at ho
  exact ho
set_option maxRecDepth 100000 in
set_option maxHeartbeats 3200000 in
theorem compactI_any (l : List Int) (v : Value) (w : World) (hrd : IntsRd w v l) (hn : l.length ≤ 100000) (hs : l.Pairwise (· < ·)) :
    Calls Try.prog 33 #[v] w fun e w' => e = .returned v ∧ ∃ m, w' = w.drewN m := by
  have HRD := Lib.hid hrd
  have HS := Lib.hid hs
  obtain ⟨a, c, rfl⟩ := hrd.form
  obtain ⟨n, hl⟩ : ∃ n, l.length = n := ⟨_, rfl⟩
  have HN := Lib.hid hl
  rw [hl] at hn ⊢
  clear hrd hs hl
  by_cases h2 : n < 2
  · have j1 : (n : Int) < 2 := by omega
    go_enter Try.func33, Try.ntmps33
    go_wp2_with fail
    go_ret
    exact ⟨rfl, 0, rfl⟩
  · have j1 : decide ((n : Int) < 2) = false := decide_eq_false (by omega)
    have j0 : ¬ (n : Int) < 2 := by omega
    go_enter Try.func33, Try.ntmps33
    go_wp2_with fail
    clear j0 j1
    go_loopg [3] (n - 1) (fun q s3 wx => ∃ k : Nat, k + q = n ∧ 1 ≤ k ∧ s3 = .int .i64 (k : Int) ∧ Hid (∃ m, wx = w.drewN m))
    case atStart => exact ⟨1, by omega, by omega, rfl, Lib.hid ⟨0, rfl⟩⟩
    case round =>
      obtain ⟨k, hkn, hk1, rfl, HM⟩ := hrel
      rcases gk with _ | q
      · obtain rfl : n = k := by omega
        go_wp2_with fail
        go_ret
        exact ⟨rfl, HM.out⟩
      · obtain ⟨k', hk'⟩ : ∃ k', k' + 1 = k := ⟨k - 1, by omega⟩
        obtain ⟨x, hx⟩ : ∃ x, l[k']? = some x := ⟨_, List.getElem?_eq_getElem (by rw [HN.out]; omega)⟩
        obtain ⟨y, hy⟩ : ∃ y, l[k]? = some y := ⟨_, List.getElem?_eq_getElem (by rw [HN.out]; omega)⟩
        have hxy : x < y := asc_lt HS.out hx hy (by omega)
        have H0 := HRD.out.keep (show Below w.heap.size w wr by obtain ⟨m, hm⟩ := HM.out; rw [hm]; exact below_drewM (Below.refl _ _) m)
        obtain ⟨b, off, c', hv, k1⟩ := H0.at hx
        obtain ⟨b', off', c'', hv', k2⟩ := H0.at hy
        injection hv with e1 e2 e3
        injection hv' with e4 e5 e6
        subst e1
        injection e4 with e4
        injection e4 with e7 e8
        subst e7 e8
        have hd : (y == x) = false := by rw [beq_eq_false_iff_ne]; omega
        have w1 : IntKind.i64.wrap ((k : Int) - 1) = (k' : Int) := by rw [IntKind.wrap_i64]; omega
        have j2 : (k : Int) < (n : Int) := by omega
        have j3 : (k' : Int) < (n : Int) := by omega
        clear hx hy e2 e3 e5 e6 H0 hxy
        go_upto_region 6 with fail
        go_quiet (fail)
        go_wp2_with fail
        go_roundg q
        case measure => omega
        case rel => exact ⟨k + 1, by omega, by omega, by go_num, Lib.hid (by obtain ⟨m, hm⟩ := HM.out; rw [hm, World.drewN_drewN]; exact ⟨_, rfl⟩)⟩
abbrev encZ : Int → Value := Value.int .i64
theorem holds_of_blockI {w : World} {g : Nat} {cur : Array Value} {e : TypeId} {ss : List Int} (hb : w.heap[g]? = some (.cells cur e (0, 0))) (ht : cur.toList.take ss.length = ss.map encZ) : Holds encZ w g 0 ss.toArray := by
  intro j hj
  have hj' : j < ss.length := by simpa using hj
  refine ⟨?_, by simp [World.frozen?, hb]⟩
  have h1 : (cur.toList.take ss.length)[j]? = (ss.map encZ)[j]? := by rw [ht]
  rw [List.getElem?_take_of_lt hj'] at h1
  simp only [World.cell?, hb, Nat.zero_add]
  simp only [Option.isSome_none, Bool.false_eq_true, if_false]
  rw [← Array.getElem?_toList, h1]
  simp [hj']
theorem heap_sortedI {w : World} {g n : Nat} {os : Array Obj} {cur : Array Value} {e : TypeId} {fr : Nat × Nat} (d : Array Int) (hb : w.heap[g]? = some (.cells cur e fr)) :
    (grow (putRow encZ (Sort.ahead w n) g 0 d) os).heap[g]? = some (.cells (putCells encZ 0 d cur) e fr) := by
  have hg : g < w.heap.size := (Array.getElem?_eq_some_iff.1 hb).1
  rw [heap_grow_old _ _ (by simpa using hg)]
  simp [putRow, mapBlock, Sort.ahead, Array.getElem?_modify, hb, onCells]
theorem grownBy_sortedI {w : World} {g n : Nat} {os : Array Obj} (d : Array Int) : w.grownBy (grow (putRow encZ (Sort.ahead w n) g 0 d) os) (some g) := by
  refine ⟨rfl, rfl, rfl, by simp, fun k hk hne => ?_⟩
  rw [heap_grow_old _ _ (by simpa using hk)]
  have : g ≠ k := fun e => hne (by rw [e])
  simp [putRow, mapBlock, Sort.ahead, Array.getElem?_modify, this]
theorem take_putCellsI (cur : Array Value) (ts : List Int) (h : ts.length ≤ cur.size) : (putCells encZ 0 ts.toArray cur).toList.take ts.length = ts.map encZ := by
  apply List.ext_getElem?
  intro j
  by_cases hj : j < ts.length
  · rw [List.getElem?_take_of_lt hj, Array.getElem?_toList]
    simp [putCells, hj, show j < cur.size by omega]
  · rw [List.getElem?_take_eq_none (by omega), List.getElem?_eq_none (by simp; omega)]
theorem sortI_any (l : List Int) (v : Value) (B : Nat) (w : World) (h : IntsAt w B v l) (hn : l.length ≤ 100000) :
    Calls Try.prog 35 #[v] w fun e w' => e = .returned (.tuple #[]) ∧ IntsAt w' B v (l.mergeSort fun x y => decide (x ≤ y)) ∧ w.grownBy w' v.ownBlock := by
  rcases h.2 with ⟨rfl, h0⟩ | ⟨g, cap, cur, rfl, k1, k2, k3, k4, k5, k6⟩
  · obtain rfl : l = [] := List.eq_nil_of_length_eq_zero h0
    refine (Try.slices_Sort_int_none none 0 w).mono ?_
    rintro e w' ⟨rfl, rfl⟩
    exact ⟨rfl, by simpa using h, ⟨rfl, rfl, rfl, Nat.le_refl _, fun _ _ _ => rfl⟩⟩
  · have hlt := (Array.getElem?_eq_some_iff.1 k2).1
    rw [Nat.mul_one] at k6
    refine (Try.slices_Sort_int g 0 cap l w (holds_of_blockI k2 k6) hlt (by omega)).mono ?_
    rintro e w' ⟨rfl, n, os, rfl⟩
    have hl : (l.mergeSort fun x y => decide (x ≤ y)).length = l.length := List.length_mergeSort _
    refine ⟨rfl, ⟨by unfold intz; rw [List.length_map, Nat.mul_one], .inr ⟨g, cap, _, by rw [hl], k1, heap_sortedI _ k2, by rw [hl]; exact k3, k4, by simp [putCells, k5], ?_⟩⟩, grownBy_sortedI _⟩
    rw [Nat.mul_one]
    exact take_putCellsI cur _ (by rw [hl]; omega)
end Go.Proofs.Ytfkplnmhlpabaaa
