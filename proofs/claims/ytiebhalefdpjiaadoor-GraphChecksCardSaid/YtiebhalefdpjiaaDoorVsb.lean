/- A row of edges that a call has built, between two vocabularies (ownsRow; HoldsK, putRowK). No condition. -/
import Derived.Test.YtiebhalefdpjiaaDoorVb
import Derived.Test.YtiebhalefdpjiaaDoorVsm
import Derived.Sort.OwnSorted
import Derived.Shelf.SlSortCmp.NoneTotal
namespace Go.Proofs.YtiebhalefdpjiaaDoor
open Go Go.Sort Go.RowKit Go.Shelf
set_option linter.unusedSimpArgs false
set_option linter.unusedVariables false

theorem flat_ecl (es : List E3) : (flatK encE 3 es.toArray).toList = ecl es := by
  apply List.ext_getElem?
  intro t
  have hs : (flatK encE 3 es.toArray).size = es.length * 3 := by rw [size_flatK]; simp
  by_cases ht : t < es.length * 3
  · have hg := get_flatK encE 3 es.toArray t (by simpa using ht)
    rw [getElem!_pos _ t (by rw [hs]; exact ht)] at hg
    rw [Array.getElem?_toList, Array.getElem?_eq_getElem (by rw [hs]; exact ht), hg]
    obtain ⟨i, hi⟩ : ∃ i, t / 3 = i := ⟨_, rfl⟩
    obtain ⟨c, hc⟩ : ∃ c, t % 3 = c := ⟨_, rfl⟩
    rw [hi, hc]
    have hil : i < es.length := by omega
    obtain ⟨k1, k2, k3⟩ := ecl_at (List.getElem?_eq_getElem hil)
    have he : es.toArray[i]! = es[i] := by rw [getElem!_pos es.toArray i (by simpa using hil)]; simp
    rw [he]
    rcases (show c = 0 ∨ c = 1 ∨ c = 2 by omega) with rfl | rfl | rfl
    · rw [show t = i * 3 by omega, k1]; rfl
    · rw [show t = i * 3 + 1 by omega, k2]; rfl
    · rw [show t = i * 3 + 2 by omega, k3]; rfl
  · rw [List.getElem?_eq_none (by rw [Array.length_toList, hs]; omega), List.getElem?_eq_none (by rw [ecl_len]; omega)]
theorem holdsE {w : World} {g : Nat} {cur : Array Value} {t : TypeId} {es : List E3} (hb : w.heap[g]? = some (.cells cur t (0, 0))) (ht : cur.toList.take (es.length * 3) = ecl es) : HoldsK encE 3 w g 0 es.toArray := by
  intro j hj
  have hj' : j < es.length * 3 := by rw [size_flatK] at hj; simpa using hj
  refine ⟨?_, by simp [World.frozen?, hb]⟩
  have h1 : (cur.toList.take (es.length * 3))[j]? = (flatK encE 3 es.toArray).toList[j]? := by rw [ht, flat_ecl]
  rw [List.getElem?_take_of_lt hj'] at h1
  simp only [World.cell?, hb, Nat.zero_add]
  simp only [Option.isSome_none, Bool.false_eq_true, if_false]
  rw [← Array.getElem?_toList, h1, Array.getElem?_toList, Array.getElem?_eq_getElem hj, getElem!_pos _ j hj]
  rfl
theorem heap_sortedE {w : World} {g n : Nat} {os : Array Obj} {cur : Array Value} {e : TypeId} {fr : Nat × Nat} (d : Array E3) (hb : w.heap[g]? = some (.cells cur e fr)) :
    (grow (putRowK encE 3 (Sort.ahead w n) g 0 d) os).heap[g]? = some (.cells (putCells id 0 (flatK encE 3 d) cur) e fr) := by
  have hg : g < w.heap.size := (Array.getElem?_eq_some_iff.1 hb).1
  rw [heap_grow_old _ _ (by simpa [putRowK] using hg)]
  simp [putRowK, putRow, mapBlock, Sort.ahead, Array.getElem?_modify, hb, onCells]
theorem grownBy_sortedE {w : World} {g n : Nat} {os : Array Obj} (d : Array E3) : w.grownBy (grow (putRowK encE 3 (Sort.ahead w n) g 0 d) os) (some g) := by
  refine ⟨rfl, rfl, rfl, by simp [putRowK], fun k hk hne => ?_⟩
  rw [heap_grow_old _ _ (by simpa [putRowK] using hk)]
  have : g ≠ k := fun e => hne (by rw [e])
  simp [putRowK, putRow, mapBlock, Sort.ahead, Array.getElem?_modify, this]
theorem take_putCellsE (cur : Array Value) (es : List E3) (h : es.length * 3 ≤ cur.size) : (putCells id 0 (flatK encE 3 es.toArray) cur).toList.take (es.length * 3) = ecl es := by
  rw [← flat_ecl]
  apply List.ext_getElem?
  intro j
  have hs : (flatK encE 3 es.toArray).size = es.length * 3 := by rw [size_flatK]; simp
  by_cases hj : j < es.length * 3
  · rw [List.getElem?_take_of_lt hj, Array.getElem?_toList, Array.getElem?_toList]
    rw [Array.getElem?_eq_getElem (xs := flatK encE 3 es.toArray) (by rw [hs]; exact hj)]
    have : j < (putCells id 0 (flatK encE 3 es.toArray) cur).size := by simp [putCells]; omega
    rw [Array.getElem?_eq_getElem this]
    simp only [putCells, Array.getElem_mapIdx, Nat.zero_le, true_and, Nat.zero_add, Nat.sub_zero, id]
    rw [if_pos (by rw [hs]; exact hj), getElem!_pos _ j (by rw [hs]; exact hj)]
  · rw [List.getElem?_take_eq_none (by omega), List.getElem?_eq_none (by rw [Array.length_toList, hs]; omega)]
/-- Behind the sort the same slice owns the sorted edges. -/
theorem edges_sorted {w : World} {base g cap n : Nat} {os : Array Obj} {cur : Array Value} {es ts : List E3} (hl : ts.length = es.length) (hbase : base ≤ g) (hb : w.heap[g]? = some (.cells cur 43 (0, 0)))
    (h1 : es.length ≤ cap) (h2 : cap ≤ maxLen) (h3 : cur.size = cap * 3) :
    EdgesAt (grow (putRowK encE 3 (Sort.ahead w n) g 0 ts.toArray) os) base (.slice (some ⟨g, 0, none⟩) ts.length cap) ts :=
  ⟨ecl_len ts, .inr ⟨g, cap, _, rfl, hbase, heap_sortedE _ hb, by omega, h2, by simp [putCells, h3], take_putCellsE cur ts (by omega)⟩⟩
/-! ### A world behind another one, of which it is known how far it has drawn -/
def Bd (w W : World) : Prop := Below w.heap.size w W ∧ w.drawn ≤ W.drawn
theorem Bd.refl (w : World) : Bd w w := ⟨Below.refl _ _, Nat.le_refl _⟩
theorem Bd.alloc {w W : World} (h : Bd w W) (o : Obj) : Bd w (W.alloc o) := ⟨h.1.alloc h.1.size o, h.2⟩
theorem Bd.one (w : World) (o : Obj) : Bd w (w.alloc o) := (Bd.refl w).alloc o
theorem Bd.trans {w W X : World} (h : Bd w W) (k : Bd W X) : Bd w X := ⟨below_more h.1 (Nat.le_refl _) k.1, Nat.le_trans h.2 k.2⟩
theorem Bd.drew {w W : World} (h : Bd w W) : Bd w W.drew := ⟨h.1.drew, Nat.le_trans h.2 (Nat.le_succ _)⟩
theorem Bd.drewN {w W : World} (h : Bd w W) (q : Nat) : Bd w (W.drewN q) := ⟨below_drewM h.1 q, Nat.le_trans h.2 (Nat.le_add_right _ _)⟩
theorem Bd.grow {w W : World} (h : Bd w W) : ∃ q os, W = Sort.grow (w.drewN q) os := by
  refine ⟨W.drawn - w.drawn, W.heap.extract w.heap.size W.heap.size, ?_⟩
  obtain ⟨⟨h1, h2, h3, h4, h5⟩, h6⟩ := h
  obtain ⟨hp, tp, dr, os, out⟩ := W
  obtain ⟨hp0, tp0, dr0, os0, out0⟩ := w
  dsimp only at *
  subst h1 h2 h3
  have e1 : dr0 + (dr - dr0) = dr := by omega
  have e2 : hp0 ++ hp.extract hp0.size hp.size = hp := by
    apply Array.ext_getElem?
    intro k
    rcases Nat.lt_or_ge k hp0.size with hk | hk
    · rw [Array.getElem?_append_left hk]; exact (h5 k hk).symm
    · rw [Array.getElem?_append_right hk, Array.getElem?_extract]
      split
      · rw [show hp0.size + (k - hp0.size) = k by omega]
      · rw [Array.getElem?_eq_none (by omega)]
  simp only [Sort.grow, World.drewN, e1, e2]
end Go.Proofs.YtiebhalefdpjiaaDoor
