/- What graph.Essential returns for a valid graph. No further condition. -/
import Derived.Test.YtfkplnmhlpabaaaVm
namespace Go.Proofs.Ytfkplnmhlpabaaa
open Go.RowKit
set_option linter.unusedSimpArgs false
set_option linter.unusedVariables false

theorem mems_iff {n : Nat} {f : Nat → Bool} {x : Int} : x ∈ mems n f ↔ ∃ i : Nat, x = (i : Int) ∧ i < n ∧ f i = true := by
  unfold mems
  rw [List.mem_map]
  constructor
  · rintro ⟨i, h, rfl⟩
    obtain ⟨h1, h2⟩ := List.mem_filter.1 h
    exact ⟨i, rfl, List.mem_range.1 h1, h2⟩
  · rintro ⟨i, rfl, h1, h2⟩
    exact ⟨i, List.mem_filter.2 ⟨List.mem_range.2 h1, h2⟩, rfl⟩
theorem mems_asc (n : Nat) (f : Nat → Bool) : (mems n f).Pairwise (· < ·) := by
  unfold mems
  rw [List.pairwise_map]
  refine (List.Pairwise.filter f List.pairwise_lt_range).imp ?_
  intro a b h
  omega
theorem mems_sg (n : Nat) (f : Nat → Bool) : SG (n : Int) (mems n f) := ⟨fun x hx => by obtain ⟨i, rfl, h, -⟩ := mems_iff.1 hx; omega, mems_asc n f⟩
theorem ints_over {W : World} {A b : Nat} {v : Value} {l : List Int} (h : IntsAt W A v l) (hb : b < A) (x y z : Value) {B : Nat} (hB : B ≤ A) : IntsAt (((W.setCell ⟨b, 0, none⟩ x).setCell ⟨b, 1, none⟩ y).setCell ⟨b, 2, none⟩ z) B v l :=
  own_low (ownsRow_setCell_below (ownsRow_setCell_below (ownsRow_setCell_below h (a := ⟨b, 0, none⟩) hb _) (a := ⟨b, 1, none⟩) hb _) (a := ⟨b, 2, none⟩) hb _) hB
/-- The essential part, and its states. -/
def EOut (w : World) (L : Int) (n : Nat) (es : List E3) (e : Ending) (w' : World) : Prop := ∃ f v u, Ess n es f ∧ e = .returned (.tuple #[grV L ((mems n f).length : Int) v, u, .int .i64 0]) ∧ EdgesAt w' w.heap.size v (partE (mems n f) es) ∧ IntsAt w' w.heap.size u (mems n f) ∧ Below w.heap.size w w'
end Go.Proofs.Ytfkplnmhlpabaaa
