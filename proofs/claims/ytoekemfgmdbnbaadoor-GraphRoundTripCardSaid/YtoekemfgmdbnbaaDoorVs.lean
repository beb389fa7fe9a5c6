/- What grooveref09.Compare returns. No condition. -/
import Derived.Test.YtoekemfgmdbnbaaDoorVr
namespace Go.Proofs.YtoekemfgmdbnbaaDoor
open Go.RowKit
set_option linter.unusedSimpArgs false
set_option linter.unusedVariables false

/-- A row of three integers. -/
def BsW (B : Nat) (x : E3) (u : Value) (W : World) : Prop := ∃ p, u = .slice (some ⟨p, 0, none⟩) 3 3 ∧ B ≤ p ∧ Box3 W p x
theorem BsW.keep {B : Nat} {x : E3} {u : Value} {W W' : World} (h : BsW B x u W) (hb : Below W.heap.size W W') : BsW B x u W' := by
  obtain ⟨p, h1, h2, h3⟩ := h
  exact ⟨p, h1, h2, h3.keep hb⟩
theorem BsW.new {B : Nat} {W : World} {a b c : Int} {t : TypeId} (hb : B ≤ W.heap.size) : BsW B (a, b, c) (.slice (some ⟨W.heap.size, 0, none⟩) 3 3) (W.alloc (.cells #[.int .i64 a, .int .i64 b, .int .i64 c] t)) :=
  ⟨_, rfl, hb, Box3.new _ _ _ _ _⟩
end Go.Proofs.YtoekemfgmdbnbaaDoor
