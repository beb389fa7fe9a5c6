/- What grooveref09.CheckSet, Has and index return. Condition: a list's length is one of a slice. What slices.BinarySearchFunc by where an edge begins, and graph.leaving, return. Conditions: at most 1024 edges, numbers below 64, in order. What graph.leaving returns, and what the function that it returns yields: the edges that leave a state, in order. Conditions: at most 1024 edges, numbers below 64, in order. -/
import Derived.Test.YtbgfllohedhmaaaQ15
import Derived.Test.YtbgfllohedhmaaaQ07
import Derived.BigQuiet
import Derived.Test.YtbgfllohedhmaaaQ03
import Derived.Test.YtbgfllohedhmaaaQ02
import Derived.RangeFuncNested
import Derived.RangeFuncBound
import Derived.RangeFuncCalls
import Derived.RangeFuncLeaves
import Derived.RangeFuncOne
import Derived.Shelf.Abstract
import Derived.Shelf.RegionOpen
import Derived.WalkKit
import Derived.OwnWalkIn
import Derived.TacticsInMore
import Derived.LoopNIn
import Derived.LoopIn

namespace Go.Proofs.Ytbgfllohedhmaaa
open Go.RowKit
set_option linter.unusedSimpArgs false
set_option linter.unusedVariables false

theorem mem_take_succI {l : List Int} {i : Nat} {x n : Int} (hx : l[i]? = some x) (h : n ∉ l.take i) (hne : x ≠ n) : n ∉ l.take (i + 1) := by
  rw [List.take_add_one, hx, List.mem_append]
  rintro (h1 | h1)
  · exact h h1
  · simp at h1; exact hne h1.symm
end Go.Proofs.Ytbgfllohedhmaaa

namespace Go.Proofs.Ytbgfllohedhmaaa
open Go.RowKit
set_option linter.unusedSimpArgs false
set_option linter.unusedVariables false

end Go.Proofs.Ytbgfllohedhmaaa

namespace Go.Proofs.Ytbgfllohedhmaaa
open Go.RowKit Go.Shelf
attribute [local go_sem] Oper.semAt_some
set_option linter.unusedSimpArgs false
set_option linter.unusedVariables false

/-- The indices from i on of the edges that leave s. -/
def lvF (es : List E3) (s : Int) (i : Nat) : List Nat := (List.range' i (es.length - i)).filter (fun j => (es[j]!).1 == s)
theorem lvF_step {es : List E3} {s : Int} {i : Nat} {e : E3} (h : es[i]? = some e) : lvF es s i = if e.1 = s then i :: lvF es s (i + 1) else lvF es s (i + 1) := by
  obtain ⟨hi, he⟩ := List.getElem?_eq_some_iff.1 h
  have e1 : es[i]! = e := by rw [getElem!_pos es i hi]; exact he
  unfold lvF
  rw [show es.length - i = (es.length - (i + 1)) + 1 by omega, List.range'_succ, List.filter_cons, e1]
  by_cases h1 : e.1 = s
  · rw [if_pos h1, if_pos (by rw [h1]; exact beq_self_eq_true _)]
  · rw [if_neg h1, if_neg (by simpa using h1)]
theorem lvF_end {es : List E3} {s : Int} {i : Nat} (h : ∀ j e, i ≤ j → es[j]? = some e → e.1 ≠ s) : lvF es s i = [] := by
  unfold lvF
  rw [List.filter_eq_nil_iff]
  intro j hj
  rw [List.mem_range'_1] at hj
  have hjl : j < es.length := by omega
  rw [getElem!_pos es j hjl]
  have := h j es[j] hj.1 (List.getElem?_eq_getElem hjl)
  simpa using this
theorem lvF_skip {es : List E3} {s : Int} : ∀ {i : Nat}, (∀ j e, j < i → es[j]? = some e → e.1 ≠ s) → i ≤ es.length → lvF es s i = lvF es s 0
  | 0, _, _ => rfl
  | i + 1, h, hl => by
    have h1 := List.getElem?_eq_getElem (l := es) (i := i) (by omega)
    rw [← lvF_skip (i := i) (fun j e hj => h j e (by omega)) (by omega), lvF_step h1, if_neg (h i _ (by omega) h1)]
theorem lvF_mem {es : List E3} {s : Int} {j : Nat} : j ∈ lvF es s 0 ↔ ∃ e, es[j]? = some e ∧ e.1 = s := by
  unfold lvF
  rw [List.mem_filter, List.mem_range'_1]
  constructor
  · rintro ⟨⟨-, h2⟩, h3⟩
    have hj : j < es.length := by omega
    rw [getElem!_pos es j hj] at h3
    exact ⟨_, List.getElem?_eq_getElem hj, by simpa using h3⟩
  · rintro ⟨e, he, h1⟩
    obtain ⟨hj, h2⟩ := List.getElem?_eq_some_iff.1 he
    refine ⟨⟨Nat.zero_le _, by omega⟩, ?_⟩
    rw [getElem!_pos es j hj, h2, h1]
    exact beq_self_eq_true _
end Go.Proofs.Ytbgfllohedhmaaa
