/- What slices.Equal of rows of truth values and slices.Repeat of one that is true return. Condition: at most 64. -/
import Derived.Test.YtfkplnmhlpabaaaVg
import Derived.Test.YtfkplnmhlpabaaaShelf
import Derived.Lib.SlBuf
import Derived.BigCall
import Derived.BigGuard
import Derived.Deep.Draws
namespace Go.Proofs.Ytfkplnmhlpabaaa
open Go.RowKit
set_option linter.unusedSimpArgs false
set_option linter.unusedVariables false

def sameF (n : Nat) (f g : Nat → Bool) : Bool := (List.range n).all fun i => f i == g i
theorem sameF_true {n : Nat} {f g : Nat → Bool} : sameF n f g = true ↔ ∀ i, i < n → f i = g i := by
  unfold sameF
  rw [List.all_eq_true]
  constructor
  · intro h i hi; simpa using h i (List.mem_range.2 hi)
  · intro h i hi; simpa using h i (List.mem_range.1 hi)
theorem sameF_no {n i : Nat} {f g : Nat → Bool} (hi : i < n) (h : f i ≠ g i) : sameF n f g = false := by
  cases e : sameF n f g with
  | false => rfl
  | true => exact absurd (sameF_true.1 e i hi) h
/-- A row whose first k truth values are true, as far as copied. -/
structure CB (w : World) (R n k : Nat) (W : World) : Prop where
  b : Below w.heap.size w W
  c : ∀ j, j < n → W.cell? ⟨R, j, none⟩ = some (.bool (decide (j < k)))
  f : ∀ j, j < n → W.frozen? ⟨R, j, none⟩ = false
theorem infoBools : (Try.prog.info? 4).map (·.size) = some 1 := by kernel_rfl
theorem sizeBool : ∀ w, (Go.sizeOf 4).run Try.prog w = .ok 1 w := fun w => by kernel_rfl
set_option maxRecDepth 100000 in
theorem copy_bools {w W : World} {R n k : Nat} (h : CB w R n k W) (hR : w.heap.size ≤ R) (hk : k ≤ n) (a : Addr) (sLen cap : Nat) (ty : TypeId) (m : Nat) (hm : m = Nat.min sLen (n - k)) (hc : ∀ j, j < m → W.cell? (a.add j) = some (.bool true)) :
    ∃ W', (Builtin.copy_ #[53, 53] ty #[.slice (some ⟨R, k, none⟩) (n - k) (n - k), .slice (some a) sLen cap]).run Try.prog W = .ok (.int .i64 (m : Int)) W' ∧ CB w R n (k + m) W' := by
  have hm2 : m ≤ n - k := by rw [hm]; exact Nat.min_le_right _ _
  have hr := run_copy_cells (P := Try.prog) W 53 53 ty 4 R k (n - k) (n - k) a sLen cap (List.replicate m (.bool true)) Try.underlying53 infoBools (by rw [List.length_replicate]; exact hm)
    (fun j u hj => by
      have hj2 : j < m := by have := (List.getElem?_eq_some_iff.1 hj).1; rwa [List.length_replicate] at this
      rw [List.getElem?_replicate, if_pos hj2] at hj
      injection hj with hj
      subst hj
      exact hc j hj2)
    (fun j hj => by rw [List.length_replicate] at hj; rw [h.c _ (by omega)]; rfl) (fun j hj => by rw [List.length_replicate] at hj; exact h.f _ (by omega))
    (fun u hu => by rw [List.eq_of_mem_replicate hu]; rfl)
  rw [List.length_replicate] at hr
  refine ⟨_, hr, ?_⟩
  have hin := World.cell?_setCells_in R (List.replicate m (Value.bool true)) k W (fun j hj => by rw [List.length_replicate] at hj; rw [h.c _ (by omega)]; rfl)
  have hout := World.cell?_setCells_out R (List.replicate m (Value.bool true)) k W
  refine ⟨Lib.below_setCells R hR _ _ h.b, fun j hj => ?_, fun j hj => ?_⟩
  · by_cases h1 : k ≤ j ∧ j < k + m
    · obtain ⟨d, rfl⟩ : ∃ d, j = k + d := ⟨j - k, by omega⟩
      refine (hin d (by rw [List.length_replicate]; omega)).trans ?_
      rw [show decide (k + d < k + m) = true from decide_eq_true (by omega), List.getElem_replicate]
    · rw [hout ⟨R, j, none⟩ (fun _ _ => by rw [List.length_replicate]; show j < _ ∨ _ ≤ j; omega), h.c j hj]
      congr 2
      rw [decide_eq_decide]
      omega
  · rw [World.frozen?_setCells]
    exact h.f j hj
theorem CB.drew {w W : World} {R n k : Nat} (h : CB w R n k W) : CB w R n k W.drew := ⟨h.b.drew, h.c, h.f⟩
/-- copy, at a step of a region that draws its order. -/
theorem step_copy {P : Program} (w : World) {ops : Array Oper} {o : Oper} {a : Act} {K : Act → World → Prop} {Q : Exit → Act → World → Prop} {E : Prop} (hgd : o.guard = none) (d s : Operand) (t t' : TypeId)
    (ho : o.op = .call { callee := .builtin .copy, args := #[d, s], argTypes := #[t, t'] }) (v u : Value) (hd : a.eval d = v) (hs : a.eval s = u) {v' : Value} {w' : World}
    (hr : (Builtin.copy_ #[t, t'] o.type #[v, u]).run P w = .ok v' w') (h : K (a.put o.dst v') w') : if Region.wanted o (yielded ops a.tmps) = true then Oper.wp P o a w K Q else E := by
  have hw : Region.wanted o (yielded ops a.tmps) = true := by simp [Region.wanted, hgd]
  rw [if_pos hw]
  exact Lib.wp_copy_run w d s t t' ho v u hd hs hr h
end Go.Proofs.Ytfkplnmhlpabaaa
