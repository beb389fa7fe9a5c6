/- What slices.Contains of integers returns. Condition: the length is one of a slice. -/
import Derived.Test.YtfkplnmhlpabaaaVj
import Derived.Test.YtfkplnmhlpabaaaShelf
namespace Go.Proofs.Ytfkplnmhlpabaaa
open Go.RowKit
set_option linter.unusedSimpArgs false
set_option linter.unusedVariables false

theorem has_any (l : List Int) (x : Int) (v : Value) (w : World) (hrd : IntsRd w v l) (hn : l.length ≤ 9223372036854775807) :
    Calls Try.prog 32 #[v, .int .i64 x] w fun e w' => e = .returned (.bool (decide (x ∈ l))) ∧ w' = w := by
  rcases Nat.eq_zero_or_pos l.length with h0 | h0
  · obtain ⟨a, c, rfl⟩ := hrd.form
    obtain rfl : l = [] := List.eq_nil_of_length_eq_zero h0
    refine (Try.slices_Contains_int_empty a c x w).mono ?_
    rintro e w' ⟨rfl, rfl⟩
    exact ⟨by rw [decide_eq_false (List.not_mem_nil)], rfl⟩
  · obtain ⟨b1, o1, c1, rfl, -⟩ := hrd.at (List.getElem?_eq_getElem h0)
    refine (Try.slices_Contains_int b1 o1 l.length c1 l x w (Nat.le_refl _) hn (fun j hj => ?_)).mono ?_
    · obtain ⟨b9, o9, c9, hv, k9⟩ := hrd.at (List.getElem?_eq_getElem hj)
      injection hv with e1 e2 e3
      injection e1 with e1
      injection e1 with e1 e4
      subst e1
      subst e4
      rw [k9, List.getD_eq_getElem?_getD, List.getElem?_eq_getElem hj]; rfl
    · rintro e w' ⟨rfl, rfl⟩
      refine ⟨?_, rfl⟩
      rw [List.take_length]
      congr 2
      rw [Bool.eq_iff_iff, List.contains_iff_mem, decide_eq_true_iff]
end Go.Proofs.Ytfkplnmhlpabaaa
