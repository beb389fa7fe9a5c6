/- What graph.checkSet, Keep and Essential return. Conditions: the graph is valid; a list's length is one of a slice. What graph.Same returns. Condition: the lists' lengths are those of slices. What graph.Essential returns for a valid graph. No further condition. -/
import Derived.Test.YtkpmapeapiodcaaDoorQ11
import Derived.Laws.StructEq
import Derived.Shelf.SlicesE.Equal

namespace Go.Proofs.YtkpmapeapiodcaaDoor
open Go.RowKit
set_option linter.unusedSimpArgs false
set_option linter.unusedVariables false

def KB (w : World) (L S : Int) (v : Value) (W : World) : Prop := BoxG W w.heap.size L S v ∧ BoxF W (w.heap.size + 1) 0 0 (.slice none 0 0) ∧ Below w.heap.size w W ∧ w.heap.size + 2 ≤ W.heap.size
section
variable {w W W' : World} {L S : Int} {v : Value}
theorem KB.keep (h : KB w L S v W) (hb : Below W.heap.size W W') : KB w L S v W' := ⟨h.1.keep hb, h.2.1.keep hb, h.2.2.1.trans (hb.mono h.2.2.1.size), Nat.le_trans h.2.2.2 hb.size⟩
theorem KB.bel (h : KB w L S v W) : Below w.heap.size w W := h.2.2.1
theorem KB.start (w : World) (L S : Int) (v : Value) (t : TypeId) : KB w L S v ((w.alloc (.cells #[.int .i64 L, .int .i64 S, v] t)).alloc (.cells #[.int .i64 0, .int .i64 0, .slice none 0 0] t)) := by
  have g1 := BoxG.new w L S v t
  have b1 := below1 w (.cells #[.int .i64 L, .int .i64 S, v] t)
  have s1 := World.size_alloc w (.cells #[.int .i64 L, .int .i64 S, v] t)
  generalize w.alloc (.cells #[.int .i64 L, .int .i64 S, v] t) = W1 at *
  have g2 := BoxF.new W1 0 0 (.slice none 0 0) t
  rw [s1] at g2
  exact ⟨g1.keep (below1 _ _), g2, below_more b1 (Nat.le_refl _) (below1 _ _), by rw [World.size_alloc]; omega⟩
end
theorem edges_over {W : World} {A b : Nat} {v : Value} {es : List E3} (h : EdgesAt W A v es) (hb : b < A) (x y z : Value) {B : Nat} (hB : B ≤ A) : EdgesAt (((W.setCell ⟨b, 0, none⟩ x).setCell ⟨b, 1, none⟩ y).setCell ⟨b, 2, none⟩ z) B v es :=
  own_low (ownsRow_setCell_below (ownsRow_setCell_below (ownsRow_setCell_below h (a := ⟨b, 0, none⟩) hb _) (a := ⟨b, 1, none⟩) hb _) (a := ⟨b, 2, none⟩) hb _) hB
theorem below_over {w W : World} {B b : Nat} (h : Below B w W) (hb : B ≤ b) (x y z : Value) : Below B w (((W.setCell ⟨b, 0, none⟩ x).setCell ⟨b, 1, none⟩ y).setCell ⟨b, 2, none⟩ z) :=
  ((h.setCell (p := ⟨b, 0, none⟩) hb _).setCell (p := ⟨b, 1, none⟩) hb _).setCell (p := ⟨b, 2, none⟩) hb _
end Go.Proofs.YtkpmapeapiodcaaDoor

namespace Go.Proofs.YtkpmapeapiodcaaDoor
open Go.RowKit Go.Lib
set_option linter.unusedSimpArgs false
set_option linter.unusedVariables false

def eqE (x y : E3) : Bool := x.1 == y.1 && x.2.1 == y.2.1 && x.2.2 == y.2.2
theorem eqE_iff {x y : E3} : eqE x y = true ↔ x = y := by
  unfold eqE
  rw [Bool.and_eq_true, Bool.and_eq_true, beq_iff_eq, beq_iff_eq, beq_iff_eq]
  constructor
  · rintro ⟨⟨h1, h2⟩, h3⟩; exact e3_ext h1 h2 h3
  · rintro rfl; exact ⟨⟨rfl, rfl⟩, rfl⟩
theorem neqE : NeqAt Tryd.prog 45 (fun x => .agg (encE x).toArray) eqE := by
  refine ⟨fun x y w => ?_, GuardAt.agg _ (by kernel_rfl)⟩
  have u3 := Tryd.underlying3
  have a3 := Tryd.isAgg3
  have z3 := Tryd.sizeOf3
  have hS : Tryd.prog.underlying 45 = some (.struct (Tryd.prog.fieldsOf 45)) := by kernel_rfl
  have hp : Tryd.prog.stoodInHeld 45 = false := by kernel_rfl
  simp only [encE]
  rw [run_neq_struct, show (10000 : Nat) = 9999 + 1 from rfl, run_equalIn_agg w 9999 45 _ _ hS hp]
  simp only [Program.fieldsOf, Tryd.underlying45]
  go_simp
  unfold eqE
  by_cases h1 : x.1 = y.1 <;> by_cases h2 : x.2.1 = y.2.1 <;> by_cases h3 : x.2.2 = y.2.2 <;> simp [h1, h2, h3]
theorem encE_getElem (e : E3) {i : Nat} {v : Value} (h : (encE e)[i]? = some v) : (i = 0 ∧ v = .int .i64 e.1) ∨ (i = 1 ∧ v = .int .i64 e.2.1) ∨ (i = 2 ∧ v = .int .i64 e.2.2) := by
  unfold encE at h
  match i, h with
  | 0, h => simp at h; exact .inl ⟨rfl, h.symm⟩
  | 1, h => simp at h; exact .inr (.inl ⟨rfl, h.symm⟩)
  | 2, h => simp at h; exact .inr (.inr ⟨rfl, h.symm⟩)
  | (n + 3), h => simp at h
theorem EdgesRd.cells {W : World} {v : Value} {es : List E3} (h : EdgesRd W v es) (h0 : 0 < es.length) : ∃ b off c, v = .slice (some ⟨b, off, none⟩) es.length c ∧ ∀ j, j < es.length → ∀ i u, (encE es[j]!)[i]? = some u → W.cell? ⟨b, off + j * 3 + i, none⟩ = some u := by
  obtain ⟨b, off, c, rfl, -⟩ := h.at (List.getElem?_eq_getElem h0)
  refine ⟨b, off, c, rfl, fun j hj i u hu => ?_⟩
  obtain ⟨b2, off2, c2, hv, k1, k2, k3⟩ := h.at (List.getElem?_eq_getElem hj)
  injection hv with e1 e2 e3
  injection e1 with e1
  injection e1 with e1 e4
  subst e1
  subst e4
  rw [getElem!_pos es j hj] at hu
  rcases encE_getElem _ hu with ⟨rfl, rfl⟩ | ⟨rfl, rfl⟩ | ⟨rfl, rfl⟩
  · exact k1
  · exact k2
  · exact k3
def sameG (L S : Int) (es : List E3) (L' S' : Int) (fs : List E3) : Bool := decide (L = L' ∧ S = S' ∧ es = fs)
end Go.Proofs.YtkpmapeapiodcaaDoor

namespace Go.Proofs.YtkpmapeapiodcaaDoor
open Go.RowKit
set_option linter.unusedSimpArgs false
set_option linter.unusedVariables false

theorem mems_iff {n : Nat} {f : Nat → Bool} {x : Int} : x ∈ mems n f ↔ ∃ i : Nat, x = (i : Int) ∧ i < n ∧ f i = true := by
  unfold mems
  rw [List.mem_map]
  constructor
  · rintro ⟨i, h, rfl⟩
    obtain ⟨h1, h2⟩ := List.mem_filter.1 h
    exact ⟨i, rfl, List.mem_range.1 h1, h2⟩
  · rintro ⟨i, rfl, h1, h2⟩
    exact ⟨i, List.mem_filter.2 ⟨List.mem_range.2 h1, h2⟩, rfl⟩
theorem mems_asc (n : Nat) (f : Nat → Bool) : (mems n f).Pairwise (· < ·) := by
  unfold mems
  rw [List.pairwise_map]
  refine (List.Pairwise.filter f List.pairwise_lt_range).imp ?_
  intro a b h
  omega
theorem mems_sg (n : Nat) (f : Nat → Bool) : SG (n : Int) (mems n f) := ⟨fun x hx => by obtain ⟨i, rfl, h, -⟩ := mems_iff.1 hx; omega, mems_asc n f⟩
theorem ints_over {W : World} {A b : Nat} {v : Value} {l : List Int} (h : IntsAt W A v l) (hb : b < A) (x y z : Value) {B : Nat} (hB : B ≤ A) : IntsAt (((W.setCell ⟨b, 0, none⟩ x).setCell ⟨b, 1, none⟩ y).setCell ⟨b, 2, none⟩ z) B v l :=
  own_low (ownsRow_setCell_below (ownsRow_setCell_below (ownsRow_setCell_below h (a := ⟨b, 0, none⟩) hb _) (a := ⟨b, 1, none⟩) hb _) (a := ⟨b, 2, none⟩) hb _) hB
def EOut (w : World) (L : Int) (n : Nat) (es : List E3) (e : Ending) (w' : World) : Prop := ∃ f v u, Ess n es f ∧ e = .returned (.tuple #[grV L ((mems n f).length : Int) v, u, .int .i64 0]) ∧ EdgesAt w' w.heap.size v (partE (mems n f) es) ∧ IntsAt w' w.heap.size u (mems n f) ∧ Below w.heap.size w w'
set_option maxRecDepth 100000 in
set_option maxHeartbeats 3200000 in
theorem essential_good (L : Int) (n : Nat) (es : List E3) (v : Value) (w : World) (hrd : EdgesRd w v es) (hvg : VG L (n : Int) es) :
    Calls Tryd.prog 44 #[grV L (n : Int) v] w (EOut w L n es) := by
  have hn : n ≤ 64 := by have := hvg.s2; omega
  have HRD := Lib.hid hrd
  have hlen := hvg.len
  have HV := Lib.hid (fun W h => isValid_any L (n : Int) es v W h (by omega))
  have HX := Lib.hid (fun W h => essential_any L n es v W h hn hvg.ok hvg.len)
  have HP := Lib.hid (fun f vs W h h2 => part_any L n es v vs (mems n f) W h h2 hn hvg.ok hvg.len (mems_sg n f))
  have K0 := Lib.hid (KB.start w L (n : Int) v 41)
  have H0 := Lib.hid (show (chkG L (n : Int) es == 0) = true by rw [hvg.chk]; rfl)
  obtain ⟨a, c, rfl⟩ := hrd.form
  clear hrd hvg
  go_enter Tryd.func44, Tryd.ntmps44
  go_wp2_with (first
    | (go_at_call 62; (with_reducible refine (HV.out _ (HRD.out.keep K0.out.bel)).mono ?_); rintro e0 W1 ⟨rfl, b1⟩; (rw [H0.out]); (have K1 := Lib.hid (K0.out.keep b1)); (clear b1); (obtain ⟨⟨g1, g2, g3⟩, -⟩ := id K1.out))
    | (go_at_call 63; (with_reducible refine (HX.out _ (HRD.out.keep K1.out.bel)).mono ?_); rintro e0 W2 ⟨f, hf, v2, rfl, i2, b2⟩; (obtain ⟨a2, c2, rfl⟩ := i2.slice); (have K2 := Lib.hid (K1.out.keep b2)); (have HF := Lib.hid hf); (have I2 := Lib.hid i2); (have RD2 := Lib.hid i2.rd); (clear b2 hf i2); (obtain ⟨⟨g4, g5, g6⟩, -⟩ := id K2.out))
    | (go_at_call 64; (with_reducible refine (HP.out _ _ _ (HRD.out.keep K2.out.bel) RD2.out).mono ?_); rintro e0 W3 ⟨v3, rfl, o3, b3⟩; (obtain ⟨a3, c3, rfl⟩ := o3.slice); (have K3 := Lib.hid (K2.out.keep b3)); (have O3 := Lib.hid o3); (have I3 := Lib.hid (I2.out.keep b3)); (clear b3 o3); (obtain ⟨-, ⟨⟨r1, r2, r3⟩, r4, r5, r6⟩, -⟩ := id K3.out)))
  exact bodyPost_ret (v := .tuple #[grV L ((mems n f).length : Int) (.slice a3 (partE (mems n f) es).length c3), .slice a2 (mems n f).length c2, .int .i64 0]) (by simp [results, Tryd.results44, go_sem, r1, r2, r3]) rfl
    ⟨f, _, _, HF.out, rfl, edges_over O3.out (by have := K2.out.2.2.2; omega) _ _ _ (by have := K2.out.2.2.2; omega), ints_over I3.out (by have := K1.out.2.2.2; omega) _ _ _ (by have := K1.out.2.2.2; omega), below_over K3.out.2.2.1 (Nat.le_succ _) _ _ _⟩
end Go.Proofs.YtkpmapeapiodcaaDoor
