/- A range over a function whose rounds all go on to their end: the statement, and one round. No condition. -/
import Derived.Test.YtfkplnmhlpabaaaVb
import Derived.RangeFuncNested
import Derived.RangeFuncBound
import Derived.RangeFuncCalls
import Derived.RangeFuncLeaves
import Derived.Shelf.Abstract
import Derived.Shelf.RegionOpen
import Derived.WalkKit
import Derived.OwnWalkIn
import Derived.TacticsInMore
import Derived.LoopNIn
import Derived.LoopIn
namespace Go.Proofs.Ytfkplnmhlpabaaa
open Go.RowKit Go.Shelf

/-- The record of a loop over a function. -/
def lrec (fn : FuncId) (tmps : Array Value) (ps : Array Tmp) (assign body : Code) (D : Nat) (st : LoopState) : Loop := { state := st, pending := none, fn, tmps, params := ps, assign, body, defers := D }

/-- One round that goes on to its end. -/
theorem round_on {F : Fence} {m : Nat} {P : Program} {l : Nat} {fn : FuncId} {tmps : Array Value} {ps : Array Tmp} {assign body : Code} {D : Nat} {W : World} {args : Array Value} {R : World → Prop} {REC : Loop}
    (hREC : REC = lrec fn tmps ps assign body D .ready) (hfn : F.fn fn) (hl : W.heap[l]? = some (.loop REC)) (hs : args.size = ps.size)
    (h : ∀ RB, assign.wpIn (F.inRound l) m P (Exit.then (fun a₁ w₁ => w₁.heap[l]? = some (.loop REC) ∧
          body.wpIn (F.inRound l) m P (fun e _ W' => e = .normal ∧ W'.heap[l]? = some (.loop RB) ∧ R (W'.putObj l (.loop REC))) a₁ (w₁.putObj l (.loop RB))) (fun _ _ _ => False))
        { tmps := (ps.zip args).foldl (fun t (p, v) => t.setIfInBounds p v) tmps, defers := [] } W) :
    YieldAt F m P l args W fun e W' => e = .returned (.bool true) ∧ R W' := by
  subst hREC
  refine ⟨fn, _, assign, body, run_yield hl hs, roundIn_of_wpIn hfn (wpIn_mono (h (lrec fn tmps ps assign body D .busy)) ?_)⟩
  intro e a₁ w₁ h1
  cases e with
  | normal =>
    obtain ⟨hl1, hb⟩ := h1
    refine ⟨_, run_beginRound hl1 rfl, wpIn_mono hb ?_⟩
    rintro e a₂ W' ⟨rfl, hl2, hR⟩
    exact ⟨_, _, run_endRound none hl2, rfl, hR⟩
  | exit id => exact h1.elim
  | goto t => exact h1.elim
  | ret => exact h1.elim
  | panic ch => exact h1.elim
  | outgrown => exact h1.elim

/-- The statement. -/
theorem rangeFunc_on {F : Fence} {n : Nat} {P : Program} {g : Operand} {ps : Array Tmp} {assign body : Code} {Q : Exit → Act → World → Prop} {a : Act} {w : World} {R : FuncId → World → Prop}
    (hro : F.round = none) (h1 : 1 ≤ n) {gf : Nat} {lb : Array Value} (hg : a.eval g = .func (.func gf) #[] lb) (hFg : F.fn gf) (eg : ∀ args w, (callFunc gf args).run P w = .ok (.enter gf args) w)
    (hcall : ∀ fn, F.fn fn → ∀ REC, REC = lrec fn a.tmps ps assign body w.heap.size .ready → CallsIn F (n - 1) P gf (#[.func (.yield (w.heap.size + 1)) #[] #[]] ++ lb) ((w.alloc (.deferred (some []))).alloc (.loop REC)) fun e W' =>
      (∃ v, e = .returned v) ∧ W'.heap[w.heap.size + 1]? = some (.loop REC) ∧ R fn W')
    (hdone : ∀ fn W o r, R fn W → W.heap[w.heap.size + 1]? = some (.loop r) → Q .normal { a with defers := { target := .collected w.heap.size, args := #[] } :: a.defers } (W.putObj (w.heap.size + 1) o)) :
    (Code.rangeFunc g ps assign body).wpIn F n P Q a w := by
  refine wpIn_rangeFunc fun fn hfn => ?_
  rw [hro]
  have hc := hcall fn hfn _ rfl
  have he := run_enterLoop_outer (P := P) (w := w) fn a.tmps ps assign body
  have hd := hdone fn
  generalize hW : (w.alloc (.deferred (some []))).alloc (.loop (lrec fn a.tmps ps assign body w.heap.size .ready)) = W1 at hc
  have he' : (Instr.enterLoop fn a.tmps ps assign body none).run P w = .ok (w.heap.size + 1, [{ target := .collected w.heap.size, args := #[] }]) W1 := by rw [← hW]; exact he
  clear he hW
  refine ⟨w.heap.size + 1, [{ target := .collected w.heap.size, args := #[] }], W1, { target := .fn (.func gf) lb, args := #[.func (.yield (w.heap.size + 1)) #[] #[]] }, W1, gf,
    #[.func (.yield (w.heap.size + 1)) #[] #[]] ++ lb, W1, he', ?_, ?_, ?_, fun _ => h1, ?_⟩
  · simp only [resolve, hg]
    simp [go_sem]
  · intro f' hf'; simp [Target.leads] at hf'; subst hf'; exact hFg
  · simp [invoke, go_sem, eg]
  · refine hc.mono ?_
    rintro e W' ⟨⟨v, rfl⟩, hl, hR⟩
    have hend := run_endLoop (P := P) hl (by simp [lrec])
    exact ⟨none, _, hend, hd W' _ _ hR hl⟩
end Go.Proofs.Ytfkplnmhlpabaaa
