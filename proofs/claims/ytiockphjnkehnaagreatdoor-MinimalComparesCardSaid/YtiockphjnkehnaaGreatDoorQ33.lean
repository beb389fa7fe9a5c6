/- Plain facts on the classes of an irreducible graph. No condition. Plain facts on the lengths of closed paths: all great multiples of the period. No condition. What groovelaw10.awake returns: true. No condition. -/
import Derived.Test.YtiockphjnkehnaaGreatDoorQ32
import Derived.Test.YtiockphjnkehnaaGreatDoorQ15

namespace Go.Proofs.YtiockphjnkehnaaGreatDoor
set_option linter.unusedVariables false
section
variable {L : Int} {n : Nat} {es : List E3}
theorem Rc.first {s x : Int} (h : Rc es s x) (hne : s ≠ x) : ∃ e ∈ es, e.1 = s := by
  obtain ⟨k, h⟩ := h
  induction h with
  | nil => exact absurd rfl hne
  | @step k e h he ih =>
    by_cases h1 : s = e.1
    · exact ⟨e, he, h1.symm⟩
    · exact ih h1
end
end Go.Proofs.YtiockphjnkehnaaGreatDoor

namespace Go.Proofs.YtiockphjnkehnaaGreatDoor
set_option linter.unusedVariables false

open Classical in
theorem stab {n : Nat} {F : Nat → Nat → Prop} (h0 : ∃ x, x < n ∧ F 0 x) (hm : ∀ k x, F k x → F (k + 1) x) (hd : ∀ k, (∀ x, x < n → (F (k + 1) x → F k x)) → ∀ x, x < n → (F (k + 2) x → F (k + 1) x)) :
    ∀ k x, x < n → F k x → F (n - 1) x := by
  have mono : ∀ j k x, j ≤ k → F j x → F k x := by
    intro j k x hjk h
    induction hjk with
    | refl => exact h
    | step _ ih => exact hm _ _ ih
  have key : ∀ k, (∃ k0, k0 < k ∧ ∀ x, x < n → (F (k0 + 1) x → F k0 x)) ∨ k + 1 ≤ cntF n (fun x => decide (F k x)) := by
    intro k
    induction k with
    | zero =>
      right
      obtain ⟨x, hx, hF⟩ := h0
      unfold cntF
      exact List.length_pos_of_mem (List.mem_filter.2 ⟨List.mem_range.2 hx, decide_eq_true hF⟩)
    | succ k ih =>
      rcases ih with ⟨k0, h1, h2⟩ | ih
      · exact .inl ⟨k0, by omega, h2⟩
      · by_cases hs : ∀ x, x < n → (F (k + 1) x → F k x)
        · exact .inl ⟨k, by omega, hs⟩
        · right
          have hs' : ∃ x, x < n ∧ F (k + 1) x ∧ ¬ F k x := by
            refine byContradiction fun hno => hs fun x hx h1 => byContradiction fun h2 => hno ⟨x, hx, h1, h2⟩
          obtain ⟨x, hx, h1, h2⟩ := hs'
          have : cntF n (fun x => decide (F k x)) < cntF n (fun x => decide (F (k + 1) x)) := by
            unfold cntF
            refine filter_less _ (fun y _ hy => ?_) ⟨x, List.mem_range.2 hx, ?_⟩
            · exact decide_eq_true (hm k y (of_decide_eq_true hy))
            · rw [decide_eq_false h2, decide_eq_true h1]; decide
          omega
  rcases key n with ⟨k0, h1, h2⟩ | h1
  · have still : ∀ j, (∀ x, x < n → (F (k0 + j + 1) x → F (k0 + j) x)) := by
      intro j
      induction j with
      | zero => exact h2
      | succ j ih => exact hd (k0 + j) ih
    have down : ∀ j x, x < n → F (k0 + j) x → F k0 x := by
      intro j
      induction j with
      | zero => intro x _ h; exact h
      | succ j ih => intro x hx h; exact ih x hx (still j x hx h)
    intro k x hx h
    rcases Nat.le_total k k0 with h3 | h3
    · exact mono k (n - 1) x (by omega) h
    · exact mono k0 (n - 1) x (by omega) (down (k - k0) x hx (by rw [show k0 + (k - k0) = k by omega]; exact h))
  · have := cntF_le n (fun x => decide (F n x)); omega
section
variable {L : Int} {n : Nat} {es : List E3}
theorem Pth.split {s x : Int} : ∀ {j k : Nat}, Pth es s (j + k) x → ∃ y, Pth es s j y ∧ Pth es y k x
  | j, 0, h => ⟨x, h, .nil⟩
  | j, k + 1, h => by
    cases h with
    | step h1 he =>
      obtain ⟨y, a, b⟩ := Pth.split (j := j) (k := k) h1
      exact ⟨y, a, .step b he⟩
end
end Go.Proofs.YtiockphjnkehnaaGreatDoor

namespace Go.Proofs.YtiockphjnkehnaaGreatDoor
open Go.RowKit Go.Shelf
set_option linter.unusedSimpArgs false
set_option linter.unusedVariables false

abbrev gA : List E3 := [(0, 0, 1), (1, 0, 0), (1, 0, 2)]
end Go.Proofs.YtiockphjnkehnaaGreatDoor
