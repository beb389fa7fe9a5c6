/- The marks that ranges over functions within a plain loop leave among a frame's deferred calls: how a function returns behind them. No condition. -/
import Derived.Test.YtiebhalefdpjiaaDoorVbd
namespace Go.Proofs.YtiebhalefdpjiaaDoor
open Go.RowKit
set_option linter.unusedVariables false

/-- Marks, each of a block of its own from B on, whose calls have not been taken. -/
def Marks (B : Nat) : List Deferred → World → Prop
  | [], _ => True
  | d :: ds, W => ∃ r, d.target = .collected r ∧ B ≤ r ∧ W.heap[r]? = some (.deferred (some [])) ∧ (∀ d' ∈ ds, d'.target ≠ .collected r) ∧ Marks B ds W
theorem Marks.of {B : Nat} {W W' : World} : ∀ {ds : List Deferred}, Marks B ds W → (∀ d ∈ ds, ∀ r, d.target = .collected r → W.heap[r]? = some (.deferred (some [])) → W'.heap[r]? = some (.deferred (some []))) → Marks B ds W'
  | [], _, _ => trivial
  | d :: ds, h, hk => by
    obtain ⟨r, h1, h2, h3, h4, h5⟩ := h
    exact ⟨r, h1, h2, hk d List.mem_cons_self r h1 h3, h4, Marks.of h5 (fun x hx => hk x (List.mem_cons_of_mem _ hx))⟩
theorem Marks.below {B : Nat} {ds : List Deferred} {W W' : World} (h : Marks B ds W) (hb : Below W.heap.size W W') : Marks B ds W' :=
  h.of (fun _ _ r _ hr => (hb.block r (Array.getElem?_eq_some_iff.1 hr).1).trans hr)
theorem Marks.lt {B : Nat} {W : World} : ∀ {ds : List Deferred}, Marks B ds W → ∀ d ∈ ds, ∀ r, d.target = .collected r → r < W.heap.size
  | [], _, _, hd, _, _ => by cases hd
  | d :: ds, h, x, hx, r, hr => by
    obtain ⟨r', h1, h2, h3, h4, h5⟩ := h
    rcases List.mem_cons.1 hx with rfl | hx
    · rw [h1] at hr
      injection hr with hr
      subst hr
      exact (Array.getElem?_eq_some_iff.1 h3).1
    · exact Marks.lt h5 x hx r hr
/-- A mark more, of a block that was not there. -/
theorem Marks.more {B D : Nat} {W W' : World} {ds : List Deferred} {a : Array Value} (h : Marks B ds W') (hl : ∀ d ∈ ds, ∀ r, d.target = .collected r → r < D) (hB : B ≤ D) (hD : W'.heap[D]? = some (.deferred (some []))) : Marks B ({ target := .collected D, args := a } :: ds) W' :=
  ⟨D, rfl, hB, hD, fun d hd e => by have := hl d hd D e; omega, h⟩
/-- A function returns behind its marks. -/
theorem marks_leave {F : Fence} {n : Nat} {P : Program} {fn : Func} {tmps : Array Value} {R : Ending → World → Prop} {B : Nat} (Q : World → Prop)
    (hput : ∀ W r, Q W → B ≤ r → W.heap[r]? = some (.deferred (some [])) → Q (W.putObj r (.deferred none)))
    (hend : ∀ W, Q W → ∃ v, (results fn tmps).run P W = .ok v W ∧ R (.returned v) W) :
    ∀ (ds : List Deferred) (W : World), Marks B ds W → Q W → LeavesInM F n P fn tmps R ds .returning W
  | [], W, _, hq => hend W hq
  | d :: ds, W, h, hq => by
    obtain ⟨r, h1, h2, h3, h4, h5⟩ := h
    refine ⟨by simp, .inl ⟨r, _, h1, run_takeDeferred h3, marks_leave Q hput hend ds _ (h5.of ?_) (hput W r hq h2 h3)⟩⟩
    intro d' hd' r' hr' h'
    have hne : r' ≠ r := fun e => h4 d' hd' (by rw [hr', e])
    rw [World.putObj_heap_other hne]
    exact h'
end Go.Proofs.YtiebhalefdpjiaaDoor
