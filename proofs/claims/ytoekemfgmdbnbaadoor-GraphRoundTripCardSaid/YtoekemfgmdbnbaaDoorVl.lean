/- What graph.checkSet, Keep and Essential return. Conditions: the graph is valid; a list's length is one of a slice. -/
import Derived.Test.YtoekemfgmdbnbaaDoorVk
namespace Go.Proofs.YtoekemfgmdbnbaaDoor
open Go.RowKit
set_option linter.unusedSimpArgs false
set_option linter.unusedVariables false

/-- What Keep returns: labels, states, edges, the error. -/
def keepR (L S : Int) (es : List E3) (st : List Int) : Int × Int × List E3 × Int :=
  if chkG L S es = 0 then (if chkS S none st = 0 then (L, (st.length : Int), partE st es, 0) else (0, 0, [], chkS S none st)) else (0, 0, [], 1)
def GOut (w : World) (r : Int × Int × List E3 × Int) (e : Ending) (w' : World) : Prop := ∃ v, e = .returned (.tuple #[grV r.1 r.2.1 v, .int .i64 r.2.2.2]) ∧ EdgesAt w' w.heap.size v r.2.2.1 ∧ Below w.heap.size w w'
/-- The graph's variable and the result's. -/
def KB (w : World) (L S : Int) (v : Value) (W : World) : Prop := BoxG W w.heap.size L S v ∧ BoxF W (w.heap.size + 1) 0 0 (.slice none 0 0) ∧ Below w.heap.size w W ∧ w.heap.size + 2 ≤ W.heap.size
section
variable {w W W' : World} {L S : Int} {v : Value}
theorem KB.keep (h : KB w L S v W) (hb : Below W.heap.size W W') : KB w L S v W' := ⟨h.1.keep hb, h.2.1.keep hb, h.2.2.1.trans (hb.mono h.2.2.1.size), Nat.le_trans h.2.2.2 hb.size⟩
theorem KB.bel (h : KB w L S v W) : Below w.heap.size w W := h.2.2.1
theorem KB.start (w : World) (L S : Int) (v : Value) (t : TypeId) : KB w L S v ((w.alloc (.cells #[.int .i64 L, .int .i64 S, v] t)).alloc (.cells #[.int .i64 0, .int .i64 0, .slice none 0 0] t)) := by
  have g1 := BoxG.new w L S v t
  have b1 := below1 w (.cells #[.int .i64 L, .int .i64 S, v] t)
  have s1 := World.size_alloc w (.cells #[.int .i64 L, .int .i64 S, v] t)
  generalize w.alloc (.cells #[.int .i64 L, .int .i64 S, v] t) = W1 at *
  have g2 := BoxF.new W1 0 0 (.slice none 0 0) t
  rw [s1] at g2
  exact ⟨g1.keep (below1 _ _), g2, below_more b1 (Nat.le_refl _) (below1 _ _), by rw [World.size_alloc]; omega⟩
end
theorem edges_over {W : World} {A b : Nat} {v : Value} {es : List E3} (h : EdgesAt W A v es) (hb : b < A) (x y z : Value) {B : Nat} (hB : B ≤ A) : EdgesAt (((W.setCell ⟨b, 0, none⟩ x).setCell ⟨b, 1, none⟩ y).setCell ⟨b, 2, none⟩ z) B v es :=
  own_low (ownsRow_setCell_below (ownsRow_setCell_below (ownsRow_setCell_below h (a := ⟨b, 0, none⟩) hb _) (a := ⟨b, 1, none⟩) hb _) (a := ⟨b, 2, none⟩) hb _) hB
theorem below_over {w W : World} {B b : Nat} (h : Below B w W) (hb : B ≤ b) (x y z : Value) : Below B w (((W.setCell ⟨b, 0, none⟩ x).setCell ⟨b, 1, none⟩ y).setCell ⟨b, 2, none⟩ z) :=
  ((h.setCell (p := ⟨b, 0, none⟩) hb _).setCell (p := ⟨b, 1, none⟩) hb _).setCell (p := ⟨b, 2, none⟩) hb _
end Go.Proofs.YtoekemfgmdbnbaaDoor
