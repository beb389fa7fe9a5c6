/- What graph.Same returns. Condition: the lists' lengths are those of slices. -/
import Derived.Test.YtfkplnmhlpabaaaVl
import Derived.Laws.StructEq
namespace Go.Proofs.Ytfkplnmhlpabaaa
open Go.RowKit Go.Lib
set_option linter.unusedSimpArgs false
set_option linter.unusedVariables false

/-- Whether two edges are equal. -/
def eqE (x y : E3) : Bool := x.1 == y.1 && x.2.1 == y.2.1 && x.2.2 == y.2.2
theorem eqE_iff {x y : E3} : eqE x y = true ↔ x = y := by
  unfold eqE
  rw [Bool.and_eq_true, Bool.and_eq_true, beq_iff_eq, beq_iff_eq, beq_iff_eq]
  constructor
  · rintro ⟨⟨h1, h2⟩, h3⟩; exact e3_ext h1 h2 h3
  · rintro rfl; exact ⟨⟨rfl, rfl⟩, rfl⟩
theorem neqE : NeqAt Try.prog 46 (fun x => .agg (encE x).toArray) eqE := by
  refine ⟨fun x y w => ?_, GuardAt.agg _ (by kernel_rfl)⟩
  have u3 := Try.underlying3
  have a3 := Try.isAgg3
  have z3 := Try.sizeOf3
  have hS : Try.prog.underlying 46 = some (.struct (Try.prog.fieldsOf 46)) := by kernel_rfl
  have hp : Try.prog.stoodInHeld 46 = false := by kernel_rfl
  simp only [encE]
  rw [run_neq_struct, show (10000 : Nat) = 9999 + 1 from rfl, run_equalIn_agg w 9999 46 _ _ hS hp]
  simp only [Program.fieldsOf, Try.underlying46]
  go_simp
  unfold eqE
  by_cases h1 : x.1 = y.1 <;> by_cases h2 : x.2.1 = y.2.1 <;> by_cases h3 : x.2.2 = y.2.2 <;> simp [h1, h2, h3]
theorem allEq_eq : ∀ {xs ys : List E3}, xs.length = ys.length → Lib.allEq eqE xs ys = decide (xs = ys)
  | [], [], _ => rfl
  | x :: xs, y :: ys, h => by
    have ih := allEq_eq (xs := xs) (ys := ys) (by simpa using h)
    show (eqE x y && Lib.allEq eqE xs ys) = _
    rw [ih, Bool.eq_iff_iff, Bool.and_eq_true, eqE_iff, decide_eq_true_iff, decide_eq_true_iff, List.cons.injEq]
theorem encE_getElem (e : E3) {i : Nat} {v : Value} (h : (encE e)[i]? = some v) : (i = 0 ∧ v = .int .i64 e.1) ∨ (i = 1 ∧ v = .int .i64 e.2.1) ∨ (i = 2 ∧ v = .int .i64 e.2.2) := by
  unfold encE at h
  match i, h with
  | 0, h => simp at h; exact .inl ⟨rfl, h.symm⟩
  | 1, h => simp at h; exact .inr (.inl ⟨rfl, h.symm⟩)
  | 2, h => simp at h; exact .inr (.inr ⟨rfl, h.symm⟩)
  | (n + 3), h => simp at h
theorem EdgesRd.cells {W : World} {v : Value} {es : List E3} (h : EdgesRd W v es) (h0 : 0 < es.length) : ∃ b off c, v = .slice (some ⟨b, off, none⟩) es.length c ∧ ∀ j, j < es.length → ∀ i u, (encE es[j]!)[i]? = some u → W.cell? ⟨b, off + j * 3 + i, none⟩ = some u := by
  obtain ⟨b, off, c, rfl, -⟩ := h.at (List.getElem?_eq_getElem h0)
  refine ⟨b, off, c, rfl, fun j hj i u hu => ?_⟩
  obtain ⟨b2, off2, c2, hv, k1, k2, k3⟩ := h.at (List.getElem?_eq_getElem hj)
  injection hv with e1 e2 e3
  injection e1 with e1
  injection e1 with e1 e4
  subst e1
  subst e4
  rw [getElem!_pos es j hj] at hu
  rcases encE_getElem _ hu with ⟨rfl, rfl⟩ | ⟨rfl, rfl⟩ | ⟨rfl, rfl⟩
  · exact k1
  · exact k2
  · exact k3
def sameG (L S : Int) (es : List E3) (L' S' : Int) (fs : List E3) : Bool := decide (L = L' ∧ S = S' ∧ es = fs)
end Go.Proofs.Ytfkplnmhlpabaaa
