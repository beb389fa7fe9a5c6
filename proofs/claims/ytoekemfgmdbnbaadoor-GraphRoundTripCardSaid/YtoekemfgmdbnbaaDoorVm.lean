/- What graph.Same returns. Condition: the lists' lengths are those of slices. -/
import Derived.Test.YtoekemfgmdbnbaaDoorVl
import Derived.Test.YtoekemfgmdbnbaaDoorGen
import Derived.Laws.StructEq
namespace Go.Proofs.YtoekemfgmdbnbaaDoor
open Go.RowKit Go.Lib
set_option linter.unusedSimpArgs false
set_option linter.unusedVariables false

/-- Whether two edges are equal. -/
def eqE (x y : E3) : Bool := x.1 == y.1 && x.2.1 == y.2.1 && x.2.2 == y.2.2
theorem eqE_iff {x y : E3} : eqE x y = true ↔ x = y := by
  unfold eqE
  rw [Bool.and_eq_true, Bool.and_eq_true, beq_iff_eq, beq_iff_eq, beq_iff_eq]
  constructor
  · rintro ⟨⟨h1, h2⟩, h3⟩; exact e3_ext h1 h2 h3
  · rintro rfl; exact ⟨⟨rfl, rfl⟩, rfl⟩
theorem neqE : NeqAt Tryd.prog 40 (fun x => .agg (encE x).toArray) eqE := by
  refine ⟨fun x y w => ?_, GuardAt.agg _ (by kernel_rfl)⟩
  have u3 := Tryd.underlying3
  have a3 := Tryd.isAgg3
  have z3 := Tryd.sizeOf3
  have hS : Tryd.prog.underlying 40 = some (.struct (Tryd.prog.fieldsOf 40)) := by kernel_rfl
  have hp : Tryd.prog.stoodInHeld 40 = false := by kernel_rfl
  simp only [encE]
  rw [run_neq_struct, show (10000 : Nat) = 9999 + 1 from rfl, run_equalIn_agg w 9999 40 _ _ hS hp]
  simp only [Program.fieldsOf, Tryd.underlying40]
  go_simp
  unfold eqE
  by_cases h1 : x.1 = y.1 <;> by_cases h2 : x.2.1 = y.2.1 <;> by_cases h3 : x.2.2 = y.2.2 <;> simp [h1, h2, h3]
theorem allEq_eq : ∀ {xs ys : List E3}, xs.length = ys.length → Lib.allEq eqE xs ys = decide (xs = ys)
  | [], [], _ => rfl
  | x :: xs, y :: ys, h => by
    have ih := allEq_eq (xs := xs) (ys := ys) (by simpa using h)
    show (eqE x y && Lib.allEq eqE xs ys) = _
    rw [ih, Bool.eq_iff_iff, Bool.and_eq_true, eqE_iff, decide_eq_true_iff, decide_eq_true_iff, List.cons.injEq]
theorem encE_getElem (e : E3) {i : Nat} {v : Value} (h : (encE e)[i]? = some v) : (i = 0 ∧ v = .int .i64 e.1) ∨ (i = 1 ∧ v = .int .i64 e.2.1) ∨ (i = 2 ∧ v = .int .i64 e.2.2) := by
  unfold encE at h
  match i, h with
  | 0, h => simp at h; exact .inl ⟨rfl, h.symm⟩
  | 1, h => simp at h; exact .inr (.inl ⟨rfl, h.symm⟩)
  | 2, h => simp at h; exact .inr (.inr ⟨rfl, h.symm⟩)
  | (n + 3), h => simp at h
theorem EdgesRd.cells {W : World} {v : Value} {es : List E3} (h : EdgesRd W v es) (h0 : 0 < es.length) : ∃ b off c, v = .slice (some ⟨b, off, none⟩) es.length c ∧ ∀ j, j < es.length → ∀ i u, (encE es[j]!)[i]? = some u → W.cell? ⟨b, off + j * 3 + i, none⟩ = some u := by
  obtain ⟨b, off, c, rfl, -⟩ := h.at (List.getElem?_eq_getElem h0)
  refine ⟨b, off, c, rfl, fun j hj i u hu => ?_⟩
  obtain ⟨b2, off2, c2, hv, k1, k2, k3⟩ := h.at (List.getElem?_eq_getElem hj)
  injection hv with e1 e2 e3
  injection e1 with e1
  injection e1 with e1 e4
  subst e1
  subst e4
  rw [getElem!_pos es j hj] at hu
  rcases encE_getElem _ hu with ⟨rfl, rfl⟩ | ⟨rfl, rfl⟩ | ⟨rfl, rfl⟩
  · exact k1
  · exact k2
  · exact k3
set_option maxRecDepth 100000 in
set_option maxHeartbeats 1600000 in
theorem equalE_any (es fs : List E3) (v1 v2 : Value) (w : World) (h1 : EdgesRd w v1 es) (h2 : EdgesRd w v2 fs) (hn : es.length ≤ 9223372036854775807) (hm : fs.length ≤ 9223372036854775807) :
    Calls Tryd.prog 20 #[v1, v2] w fun e w' => e = .returned (.bool (decide (es = fs))) ∧ Below w.heap.size w w' := by
  by_cases hl : es.length = fs.length
  · rcases Nat.eq_zero_or_pos es.length with h0 | h0
    · obtain rfl : es = [] := List.eq_nil_of_length_eq_zero h0
      obtain rfl : fs = [] := List.eq_nil_of_length_eq_zero (by omega)
      obtain ⟨a1, c1, rfl⟩ := h1.form
      obtain ⟨a2, c2, rfl⟩ := h2.form
      clear hl h0 h1 h2
      go_enter Tryd.func20, Tryd.ntmps20
      go_wp2_with fail
      go_loopg [13] 0 (fun k s13 wx => k = 0 ∧ s13 = .int .i64 0 ∧ wx = w)
      case atStart => exact ⟨rfl, rfl, rfl⟩
      case round =>
        obtain ⟨-, rfl, rfl⟩ := hrel
        go_wp2_with fail
        go_ret
        exact ⟨rfl, Below.refl _ _⟩
    · obtain ⟨b1, o1, c1, rfl, k1⟩ := h1.cells h0
      obtain ⟨b2, o2, c2, rfl, k2⟩ := h2.cells (by omega)
      have h := AnyQ.slices_Equal Tryd.equalE 3 Tryd.isAgg40 Tryd.sizeOf40 encE (fun _ => rfl) eqE neqE b1 o1 es.length c1 b2 o2 fs.length c2 es fs w (Nat.le_refl _) (Nat.le_refl _) hn hm k1 k2
      rw [List.take_length, List.take_length, allEq_eq hl] at h
      exact h.mono fun e w' ⟨he, q, hw⟩ => ⟨he, by rw [hw]; exact below_drewM (Below.refl _ _) q⟩
  · have hne : ¬ es = fs := fun h => hl (by rw [h])
    have HE := Lib.hid (show decide (es = fs) = false from decide_eq_false hne)
    obtain ⟨a1, c1, rfl⟩ := h1.form
    obtain ⟨a2, c2, rfl⟩ := h2.form
    have d1 : ((es.length : Int) != (fs.length : Int)) = true := by simp; omega
    clear hl h1 h2 hne
    go_enter Tryd.func20, Tryd.ntmps20
    go_wp2_with fail
    go_ret
    exact ⟨by rw [HE.out]; rfl, Below.refl _ _⟩
def sameG (L S : Int) (es : List E3) (L' S' : Int) (fs : List E3) : Bool := decide (L = L' ∧ S = S' ∧ es = fs)
set_option maxRecDepth 100000 in
set_option maxHeartbeats 1600000 in
theorem same_any (L S L' S' : Int) (es fs : List E3) (v1 v2 : Value) (w : World) (h1 : EdgesRd w v1 es) (h2 : EdgesRd w v2 fs) (hn : es.length ≤ 9223372036854775807) (hm : fs.length ≤ 9223372036854775807) :
    Calls Tryd.prog 8 #[grV L S v1, grV L' S' v2] w fun e w' => e = .returned (.bool (sameG L S es L' S' fs)) ∧ Below w.heap.size w w' := by
  have b0 := below_more (below1 w (.cells #[.int .i64 L, .int .i64 S, v1] 24)) (Nat.le_refl _) (below1 _ (.cells #[.int .i64 L', .int .i64 S', v2] 24))
  have HQ := Lib.hid (fun W h h' => equalE_any es fs v1 v2 W h h' hn hm)
  have HA := Lib.hid (h1.keep b0)
  have HB := Lib.hid (h2.keep b0)
  have B0 := Lib.hid b0
  obtain ⟨a1, c1, rfl⟩ := h1.form
  obtain ⟨a2, c2, rfl⟩ := h2.form
  clear h1 h2 b0
  by_cases hL : L = L'
  · have d1 : (L == L') = true := by simpa using hL
    by_cases hS : S = S'
    · have d2 : (S == S') = true := by simpa using hS
      have HE := Lib.hid (show sameG L S es L' S' fs = decide (es = fs) by unfold sameG; rw [decide_eq_decide]; exact ⟨fun h => h.2.2, fun h => ⟨hL, hS, h⟩⟩)
      clear hL hS
      obtain ⟨q, hq⟩ : ∃ q, decide (es = fs) = q := ⟨_, rfl⟩
      simp only [hq] at HQ
      rw [hq] at HE
      clear hq
      go_enter Tryd.func8, Tryd.ntmps8
      go_wp2_with (go_at_call 20; (with_reducible refine (HQ.out _ HA.out HB.out).mono ?_); rintro e0 W1 ⟨rfl, b1⟩)
      go_ret
      exact ⟨by rw [HE.out]; rfl, below_more B0.out (Nat.le_refl _) b1⟩
    · have d2 : (S == S') = false := by simpa using hS
      have HE := Lib.hid (show sameG L S es L' S' fs = false from decide_eq_false (fun h => hS h.2.1))
      clear hL hS
      go_enter Tryd.func8, Tryd.ntmps8
      go_wp2_with fail
      go_ret
      exact ⟨by rw [HE.out]; rfl, B0.out⟩
  · have d1 : (L == L') = false := by simpa using hL
    have HE := Lib.hid (show sameG L S es L' S' fs = false from decide_eq_false (fun h => hL h.1))
    clear hL
    go_enter Tryd.func8, Tryd.ntmps8
    go_wp2_with fail
    go_ret
    exact ⟨by rw [HE.out]; rfl, B0.out⟩
end Go.Proofs.YtoekemfgmdbnbaaDoor
