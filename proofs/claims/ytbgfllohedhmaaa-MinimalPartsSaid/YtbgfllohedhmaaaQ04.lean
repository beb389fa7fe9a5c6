/- What graph.passed returns. Conditions: at most 64 states, edges between states. -/
import Derived.Test.YtbgfllohedhmaaaQ03
import Derived.Deep.DeepCutAuto

namespace Go.Proofs.Ytbgfllohedhmaaa
open Go.RowKit
set_option linter.unusedSimpArgs false
set_option linter.unusedVariables false

/-- Both ends of an edge belong. -/
def bothF (f : Nat → Bool) (e : E3) : Bool := f e.1.toNat && f e.2.2.toNat
def leftF (f : Nat → Bool) (es : List E3) (s : Nat) : Bool := es.any fun e => bothF f e && decide (e.1 = (s : Int))
def enteredF (f : Nat → Bool) (es : List E3) (s : Nat) : Bool := es.any fun e => bothF f e && decide (e.2.2 = (s : Int))
def passF (f : Nat → Bool) (es : List E3) (s : Nat) : Bool := enteredF f es s && leftF f es s
theorem leftF_snoc (f : Nat → Bool) (es : List E3) (e : E3) (s : Nat) : leftF f (es ++ [e]) s = (leftF f es s || (bothF f e && decide (e.1 = (s : Int)))) := by
  unfold leftF; rw [List.any_append]; simp
theorem enteredF_snoc (f : Nat → Bool) (es : List E3) (e : E3) (s : Nat) : enteredF f (es ++ [e]) s = (enteredF f es s || (bothF f e && decide (e.2.2 = (s : Int)))) := by
  unfold enteredF; rw [List.any_append]; simp
theorem take_snoc {α : Type} {l : List α} {i : Nat} {e : α} (h : l[i]? = some e) : l.take (i + 1) = l.take i ++ [e] := by rw [List.take_add_one, h]; rfl
/-- Two rows, the graph's variable, and what lay before. -/
structure TB (w : World) (n : Nat) (L S : Int) (v : Value) (p q : Nat) (f g : Nat → Bool) (W : World) : Prop where
  rp : BRow W p n f
  rq : BRow W q n g
  ne : p ≠ q
  lp : w.heap.size < p
  lq : w.heap.size < q
  box : BoxG W w.heap.size L S v
  b : Below w.heap.size w W
section
variable {w W W' : World} {n p q : Nat} {L S : Int} {v : Value} {f g : Nat → Bool}
theorem TB.keep (h : TB w n L S v p q f g W) (hb : Below W.heap.size W W') : TB w n L S v p q f g W' :=
  ⟨h.rp.keep hb, h.rq.keep hb, h.ne, h.lp, h.lq, h.box.keep hb, h.b.trans (hb.mono h.b.size)⟩
theorem boxG_other (h : BoxG W p L S v) {a : Addr} (ha : a.block ≠ p) (x : Value) : BoxG (W.setCell a x) p L S v := by
  unfold BoxG
  rw [World.cell?_setCell_far _ _ _ _ (by exact ha), World.cell?_setCell_far _ _ _ _ (by exact ha), World.cell?_setCell_far _ _ _ _ (by exact ha)]
  exact h
theorem TB.setP (h : TB w n L S v p q f g W) (i : Nat) (x : Bool) : TB w n L S v p q (fun j => if j = i then x else f j) g (W.setCell ⟨p, i, none⟩ (.bool x)) :=
  ⟨h.rp.set i x, h.rq.other (by exact Ne.symm h.ne) _, h.ne, h.lp, h.lq, boxG_other h.box (by have := h.lp; show p ≠ _; omega) _, h.b.setCell (by have := h.lp; show _ ≤ p; omega) _⟩
theorem TB.setQ (h : TB w n L S v p q f g W) (i : Nat) (x : Bool) : TB w n L S v p q f (fun j => if j = i then x else g j) (W.setCell ⟨q, i, none⟩ (.bool x)) :=
  ⟨h.rp.other (by exact h.ne) _, h.rq.set i x, h.ne, h.lp, h.lq, boxG_other h.box (by have := h.lq; show q ≠ _; omega) _, h.b.setCell (by have := h.lq; show _ ≤ q; omega) _⟩
theorem TB.far (h : TB w n L S v p q f g W) {a : Addr} (h1 : p ≠ a.block) (h2 : q ≠ a.block) (h3 : w.heap.size < a.block) (x : Value) : TB w n L S v p q f g (W.setCell a x) :=
  ⟨h.rp.other h1 _, h.rq.other h2 _, h.ne, h.lp, h.lq, boxG_other h.box (by omega) _, h.b.setCell (by omega) _⟩
theorem TB.congr {f' g' : Nat → Bool} (h : TB w n L S v p q f g W) (e1 : ∀ i, i < n → f i = f' i) (e2 : ∀ i, i < n → g i = g' i) : TB w n L S v p q f' g' W := { h with rp := h.rp.congr e1, rq := h.rq.congr e2 }
end
end Go.Proofs.Ytbgfllohedhmaaa
