/- What graph.leaving's function yields: the edges that leave a state, in order. Conditions: at most 1024 edges, numbers below 64, in order. The marks that ranges over functions within a plain loop leave among a frame's deferred calls: how a function returns behind them. No condition. What graph.Step returns for a valid graph, a set of its states and a label: what edges with the label lead to. -/
import Derived.Test.YthhbbiafffpknaaDoorQ15
import Derived.Sort.QuietIn
import Derived.Sort.LoopGhostIn
import Derived.Lib.Builder
import Derived.Test.YthhbbiafffpknaaDoorQ07

namespace Go.Proofs.YthhbbiafffpknaaDoor
open Go.RowKit Go.Shelf
attribute [local go_sem] Oper.semAt_some
set_option linter.unusedSimpArgs false
set_option linter.unusedVariables false

theorem below_grown' {W W1 : World} (h : Below W.heap.size W W1) : W.grownBy W1 none := ⟨h.os, h.tape, h.output, h.size, fun k hk _ => h.block k hk⟩
/-- What a round keeps: what lay below n₀, and the two variables of leaving. -/
def KtG (n₀ B : Nat) (W W1 : World) : Prop := Below n₀ W W1 ∧ W1.heap[B]? = W.heap[B]? ∧ W1.heap[B + 1]? = W.heap[B + 1]?
theorem KtG.refl (n₀ B : Nat) (W : World) : KtG n₀ B W W := ⟨Below.refl _ _, rfl, rfl⟩
theorem KtG.trans {n₀ B : Nat} {X Y Z : World} (h : KtG n₀ B X Y) (k : KtG n₀ B Y Z) : KtG n₀ B X Z := ⟨h.1.trans k.1, k.2.1.trans h.2.1, k.2.2.trans h.2.2⟩
theorem KtG.of_below {n₀ B : Nat} {W W1 : World} (h : Below W.heap.size W W1) (h0 : n₀ ≤ W.heap.size) (h1 : B + 1 < W.heap.size) : KtG n₀ B W W1 := ⟨h.mono h0, h.block _ (by omega), h.block _ h1⟩
/-- An edge that leaves s, by its index. -/
abbrev Lv (es : List E3) (s : Int) : Type := { x : Nat // ∃ e, es[x]? = some e ∧ e.1 = s }
def natV : Value → Nat
  | .int _ z => z.toNat
  | _ => 0
end Go.Proofs.YthhbbiafffpknaaDoor

namespace Go.Proofs.YthhbbiafffpknaaDoor
open Go.RowKit
set_option linter.unusedVariables false

/-- Marks, each of a block of its own from B on, whose calls have not been taken. -/
def Marks (B : Nat) : List Deferred → World → Prop
  | [], _ => True
  | d :: ds, W => ∃ r, d.target = .collected r ∧ B ≤ r ∧ W.heap[r]? = some (.deferred (some [])) ∧ (∀ d' ∈ ds, d'.target ≠ .collected r) ∧ Marks B ds W
theorem Marks.of {B : Nat} {W W' : World} : ∀ {ds : List Deferred}, Marks B ds W → (∀ d ∈ ds, ∀ r, d.target = .collected r → W.heap[r]? = some (.deferred (some [])) → W'.heap[r]? = some (.deferred (some []))) → Marks B ds W'
  | [], _, _ => trivial
  | d :: ds, h, hk => by
    obtain ⟨r, h1, h2, h3, h4, h5⟩ := h
    exact ⟨r, h1, h2, hk d List.mem_cons_self r h1 h3, h4, Marks.of h5 (fun x hx => hk x (List.mem_cons_of_mem _ hx))⟩
theorem Marks.below {B : Nat} {ds : List Deferred} {W W' : World} (h : Marks B ds W) (hb : Below W.heap.size W W') : Marks B ds W' :=
  h.of (fun _ _ r _ hr => (hb.block r (Array.getElem?_eq_some_iff.1 hr).1).trans hr)
theorem Marks.lt {B : Nat} {W : World} : ∀ {ds : List Deferred}, Marks B ds W → ∀ d ∈ ds, ∀ r, d.target = .collected r → r < W.heap.size
  | [], _, _, hd, _, _ => by cases hd
  | d :: ds, h, x, hx, r, hr => by
    obtain ⟨r', h1, h2, h3, h4, h5⟩ := h
    rcases List.mem_cons.1 hx with rfl | hx
    · rw [h1] at hr
      injection hr with hr
      subst hr
      exact (Array.getElem?_eq_some_iff.1 h3).1
    · exact Marks.lt h5 x hx r hr
/-- A mark more, of a block that was not there. -/
theorem Marks.more {B D : Nat} {W W' : World} {ds : List Deferred} {a : Array Value} (h : Marks B ds W') (hl : ∀ d ∈ ds, ∀ r, d.target = .collected r → r < D) (hB : B ≤ D) (hD : W'.heap[D]? = some (.deferred (some []))) : Marks B ({ target := .collected D, args := a } :: ds) W' :=
  ⟨D, rfl, hB, hD, fun d hd e => by have := hl d hd D e; omega, h⟩
/-- A function returns behind its marks. -/
theorem marks_leave {F : Fence} {n : Nat} {P : Program} {fn : Func} {tmps : Array Value} {R : Ending → World → Prop} {B : Nat} (Q : World → Prop)
    (hput : ∀ W r, Q W → B ≤ r → W.heap[r]? = some (.deferred (some [])) → Q (W.putObj r (.deferred none)))
    (hend : ∀ W, Q W → ∃ v, (results fn tmps).run P W = .ok v W ∧ R (.returned v) W) :
    ∀ (ds : List Deferred) (W : World), Marks B ds W → Q W → LeavesInM F n P fn tmps R ds .returning W
  | [], W, _, hq => hend W hq
  | d :: ds, W, h, hq => by
    obtain ⟨r, h1, h2, h3, h4, h5⟩ := h
    refine ⟨by simp, .inl ⟨r, _, h1, run_takeDeferred h3, marks_leave Q hput hend ds _ (h5.of ?_) (hput W r hq h2 h3)⟩⟩
    intro d' hd' r' hr' h'
    have hne : r' ≠ r := fun e => h4 d' hd' (by rw [hr', e])
    rw [World.putObj_heap_other hne]
    exact h'
end Go.Proofs.YthhbbiafffpknaaDoor

namespace Go.Proofs.YthhbbiafffpknaaDoor
open Go.RowKit Go.Shelf
attribute [local go_sem] Oper.semAt_some
set_option linter.unusedSimpArgs false
set_option linter.unusedVariables false

/-- Where edges with a label lead from a set. -/
def stepF (es : List E3) (set : List Int) (lab : Int) (t : Nat) : Bool := es.any fun e => decide (e.1 ∈ set) && e.2.1 == lab && e.2.2 == (t : Int)
def stepX (es : List E3) (s : Int) (f : Nat → Bool) (lab : Int) (pre : List (Lv es s)) (t : Nat) : Bool := f t || pre.any fun x => (es[x.1]!).2.1 == lab && (es[x.1]!).2.2 == (t : Int)
theorem stepF_snoc (es : List E3) (l : List Int) (s lab : Int) (t : Nat) : stepF es (l ++ [s]) lab t = (stepF es l lab t || es.any fun e => e.1 == s && e.2.1 == lab && e.2.2 == (t : Int)) := by
  unfold stepF
  rw [Bool.eq_iff_iff]
  simp only [List.any_eq_true, Bool.or_eq_true, Bool.and_eq_true, decide_eq_true_eq, beq_iff_eq, List.mem_append, List.mem_singleton]
  constructor
  · rintro ⟨e, he, ⟨h1 | h1, h2⟩, h3⟩
    · exact .inl ⟨e, he, ⟨h1, h2⟩, h3⟩
    · exact .inr ⟨e, he, ⟨h1, h2⟩, h3⟩
  · rintro (⟨e, he, ⟨h1, h2⟩, h3⟩ | ⟨e, he, ⟨h1, h2⟩, h3⟩)
    · exact ⟨e, he, ⟨.inl h1, h2⟩, h3⟩
    · exact ⟨e, he, ⟨.inr h1, h2⟩, h3⟩
theorem stepX_nil (es : List E3) (s : Int) (f : Nat → Bool) (lab : Int) : stepX es s f lab [] = f := by funext t; unfold stepX; simp
theorem stepX_snoc {es : List E3} {s : Int} {f : Nat → Bool} {lab : Int} {pre : List (Lv es s)} {x : Lv es s} {e : E3} (he : es[x.1]! = e) (t : Nat) : stepX es s f lab (pre ++ [x]) t = (stepX es s f lab pre t || (e.2.1 == lab && e.2.2 == (t : Int))) := by
  unfold stepX
  rw [List.any_append, ← Bool.or_assoc, he.symm]
  simp
theorem stepX_all {es : List E3} {s : Int} {lab : Int} {l : List Int} {xs : List (Lv es s)} (h : xs.map (·.1) = lvF es s 0) (t : Nat) : stepX es s (stepF es l lab) lab xs t = stepF es (l ++ [s]) lab t := by
  rw [stepF_snoc]
  unfold stepX
  congr 1
  rw [Bool.eq_iff_iff]
  simp only [List.any_eq_true, Bool.and_eq_true, beq_iff_eq]
  constructor
  · rintro ⟨x, -, h1, h2⟩
    obtain ⟨e, he, hs⟩ := x.2
    obtain ⟨hx, he'⟩ := List.getElem?_eq_some_iff.1 he
    rw [getElem!_pos es x.1 hx, he'] at h1 h2
    exact ⟨e, List.mem_of_getElem? he, ⟨hs, h1⟩, h2⟩
  · rintro ⟨e, he, ⟨h0, h1⟩, h2⟩
    obtain ⟨j, hj⟩ := List.getElem?_of_mem he
    have hm : j ∈ lvF es s 0 := lvF_mem.2 ⟨e, hj, h0⟩
    rw [← h] at hm
    obtain ⟨x, hx, rfl⟩ := List.mem_map.1 hm
    obtain ⟨hx', he'⟩ := List.getElem?_eq_some_iff.1 hj
    exact ⟨x, hx, by rw [getElem!_pos es x.1 hx', he']; exact h1, by rw [getElem!_pos es x.1 hx', he']; exact h2⟩
theorem KtG.turn {n₀ B : Nat} {w : World} (hn : n₀ ≤ w.heap.size) (hB : B + 1 < w.heap.size) (W : World) (l : Nat) (o o' : Obj) (hl : w.heap.size ≤ l) (h : W.heap[l]? = some o) (h1 : o.isCells = false) (h2 : o.isWalk = false) : KtG n₀ B W (W.putObj l o') :=
  ⟨⟨rfl, rfl, rfl, by simp, fun k hk => World.putObj_heap_other (by omega)⟩, World.putObj_heap_other (by omega), World.putObj_heap_other (by omega)⟩
theorem KtG.setc {n₀ B : Nat} {W W1 : World} (h : KtG n₀ B W W1) {a : Addr} (ha : n₀ ≤ a.block) (hb : a.block < B) (u : Value) : KtG n₀ B W (W1.setCell a u) :=
  ⟨h.1.setCell ha u, (Below.heap_setCell _ _ _ _ (by omega)).trans h.2.1, (Below.heap_setCell _ _ _ _ (by omega)).trans h.2.2⟩
theorem Marks.kept {B : Nat} {ds : List Deferred} {W W' : World} (h : Marks B ds W) (hk : KeepsOthers W W') : Marks B ds W' := h.of (fun _ _ r _ hr => hk.same r _ hr rfl)
theorem Marks.grown {B D : Nat} {ds : List Deferred} {W W' : World} {row : Option Nat} (h : Marks B ds W) (hl : ∀ d ∈ ds, ∀ r, d.target = .collected r → r < D) (hg : W.grownBy W' row) (hr : ∀ r, row = some r → D ≤ r) : Marks B ds W' :=
  h.of (fun d hd r ht hw => (hg.block r (Array.getElem?_eq_some_iff.1 hw).1 (fun e => by have := hl d hd r ht; have := hr r e.symm; omega)).trans hw)
theorem BoxG.own {W W' : World} {p : Nat} {L S : Int} {v : Value} {row : Option Nat} (h : BoxG W p L S v) (hg : W.grownBy W' row) (hr : ∀ r, row = some r → ∃ o : Obj, W.heap[r]? = some o ∧ o.isCells = false) : BoxG W' p L S v :=
  ⟨cell_kept h.1 hg hr, cell_kept h.2.1 hg hr, cell_kept h.2.2 hg hr⟩
theorem BRow.own {W W' : World} {b n : Nat} {f : Nat → Bool} {row : Option Nat} (h : BRow W b n f) (hg : W.grownBy W' row) (hr : ∀ r, row = some r → ∃ o : Obj, W.heap[r]? = some o ∧ o.isCells = false) : BRow W' b n f := by
  obtain ⟨c, h1, h2⟩ := h
  exact ⟨c, (grownBy_keeps_cells hg hr h1 rfl).trans h1, h2⟩
/-- The graph's variable, the label's, and what lay before. -/
def SB (w : World) (La : Int) (n : Nat) (v : Value) (lab : Int) (W : World) : Prop := BoxG W w.heap.size La (n : Int) v ∧ W.cell? ⟨w.heap.size + 1, 0, none⟩ = some (.int .i64 lab) ∧ Below w.heap.size w W
theorem SB.keep {w W W' : World} {La : Int} {n : Nat} {v : Value} {lab : Int} (h : SB w La n v lab W) (hb : Below W.heap.size W W') : SB w La n v lab W' := ⟨h.1.keep hb, cell_keep h.2.1 hb, h.2.2.trans (hb.mono h.2.2.size)⟩
theorem SB.b {w W : World} {La : Int} {n : Nat} {v : Value} {lab : Int} (h : SB w La n v lab W) : Below w.heap.size w W := h.2.2
theorem SB.start (w : World) (La : Int) (n : Nat) (v : Value) (lab : Int) (t t' : TypeId) : SB w La n v lab ((w.alloc (.cells #[.int .i64 La, .int .i64 (n : Int), v] t)).alloc (.cells #[.int .i64 lab] t')) := by
  have g1 := BoxG.new w La (n : Int) v t
  have b1 := below1 w (.cells #[.int .i64 La, .int .i64 (n : Int), v] t)
  have s1 := World.size_alloc w (.cells #[.int .i64 La, .int .i64 (n : Int), v] t)
  generalize w.alloc (.cells #[.int .i64 La, .int .i64 (n : Int), v] t) = W1 at *
  refine ⟨g1.keep (below1 _ _), ?_, below_more b1 (Nat.le_refl _) (below1 _ _)⟩
  rw [← s1]
  simp [go_sem]
/-- .. with the row of what is reached, and its variable. -/
structure SR (w : World) (La : Int) (n : Nat) (v : Value) (lab : Int) (R : Nat) (f : Nat → Bool) (W : World) : Prop where
  sb : SB w La n v lab W
  row : BRow W R n f
  p9 : W.heap[R + 1]? = some (.cells #[.slice (some ⟨R, 0, none⟩) n n] 101 (0, 0))
  lo : w.heap.size + 2 ≤ R
theorem SR.lt {w W : World} {La : Int} {n : Nat} {v : Value} {lab : Int} {R : Nat} {f : Nat → Bool} (h : SR w La n v lab R f W) : R + 1 < W.heap.size := (Array.getElem?_eq_some_iff.1 h.p9).1
theorem SR.keep {w W W' : World} {La : Int} {n : Nat} {v : Value} {lab : Int} {R : Nat} {f : Nat → Bool} (h : SR w La n v lab R f W) (hb : Below W.heap.size W W') : SR w La n v lab R f W' :=
  ⟨h.sb.keep hb, h.row.keep hb, (hb.block _ h.lt).trans h.p9, h.lo⟩
theorem SR.cell {w W : World} {La : Int} {n : Nat} {v : Value} {lab : Int} {R : Nat} {f : Nat → Bool} (h : SR w La n v lab R f W) : W.cell? ⟨R + 1, 0, none⟩ = some (.slice (some ⟨R, 0, none⟩) n n) := by rw [Lib.cell_of_heap h.p9]; rfl
theorem SR.congr {w W : World} {La : Int} {n : Nat} {v : Value} {lab : Int} {R : Nat} {f g : Nat → Bool} (h : SR w La n v lab R f W) (e : ∀ i, i < n → f i = g i) : SR w La n v lab R g W := ⟨h.sb, h.row.congr e, h.p9, h.lo⟩
theorem SR.own {w W W' : World} {La : Int} {n : Nat} {v : Value} {lab : Int} {R : Nat} {f : Nat → Bool} {row : Option Nat} (h : SR w La n v lab R f W) (hg : W.grownBy W' row) (hB : ∀ r, row = some r → w.heap.size ≤ r) (hr : ∀ r, row = some r → ∃ o : Obj, W.heap[r]? = some o ∧ o.isCells = false) : SR w La n v lab R f W' :=
  ⟨⟨h.sb.1.own hg hr, cell_kept h.sb.2.1 hg hr, h.sb.2.2.grown hg h.sb.2.2.size hB⟩, h.row.own hg hr, (grownBy_keeps_cells hg hr h.p9 rfl).trans h.p9, h.lo⟩
theorem SR.put {w W : World} {La : Int} {n : Nat} {v : Value} {lab : Int} {R : Nat} {f : Nat → Bool} (h : SR w La n v lab R f W) (i : Nat) : SR w La n v lab R (fun j => if j = i then true else f j) (W.setCell ⟨R, i, none⟩ (.bool true)) := by
  have hlo := h.lo
  refine ⟨⟨?_, ?_, h.sb.2.2.setCell (p := ⟨R, i, none⟩) (by show w.heap.size ≤ R; omega) _⟩, h.row.set i true, ?_, h.lo⟩
  · obtain ⟨g1, g2, g3⟩ := h.sb.1
    have e : ∀ j, (W.setCell ⟨R, i, none⟩ (.bool true)).cell? ⟨w.heap.size, j, none⟩ = W.cell? ⟨w.heap.size, j, none⟩ := fun j => World.cell?_setCell_far _ _ _ _ (by show R ≠ w.heap.size; omega)
    exact ⟨(e 0).trans g1, (e 1).trans g2, (e 2).trans g3⟩
  · exact (World.cell?_setCell_far _ _ _ _ (by show R ≠ w.heap.size + 1; omega)).trans h.sb.2.1
  · exact (Below.heap_setCell _ _ _ _ (by show R + 1 ≠ R; omega)).trans h.p9
theorem BRow.frozen {W : World} {b n : Nat} {f : Nat → Bool} (h : BRow W b n f) (i : Nat) : W.frozen? ⟨b, i, none⟩ = false := by
  obtain ⟨c, h1, -⟩ := h
  simp [World.frozen?, h1]
theorem SR.start {w W3 : World} {La : Int} {n : Nat} {v : Value} {lab : Int} (h : SB w La n v lab W3) (h2 : w.heap.size + 2 ≤ W3.heap.size) :
    SR w La n v lab W3.heap.size (fun _ => false) ((W3.alloc (.cells (madeCells #[.bool false] n) 4)).alloc (.cells #[.slice (some ⟨W3.heap.size, 0, none⟩) n n] 101)) := by
  have b1 := below1 W3 (.cells (madeCells #[.bool false] n) 4)
  have r1 := BRow.made W3 n
  have s1 := World.size_alloc W3 (.cells (madeCells #[.bool false] n) 4)
  generalize W3.alloc (.cells (madeCells #[.bool false] n) 4) = W4 at *
  have b2 := below1 W4 (.cells #[.slice (some ⟨W3.heap.size, 0, none⟩) n n] 101)
  refine ⟨(h.keep b1).keep b2, r1.keep b2, ?_, h2⟩
  rw [← s1]
  exact heap_alloc_new W4 _
theorem below_put9 {B : Nat} {W W' : World} (h : Below B W W') (l : Nat) (hl : B ≤ l) (o : Obj) : Below B W (W'.putObj l o) :=
  h.trans ⟨rfl, rfl, rfl, by simp, fun k hk => World.putObj_heap_other (by omega)⟩
theorem Box3.own {W W' : World} {p : Nat} {e : E3} {row : Option Nat} (h : Box3 W p e) (hg : W.grownBy W' row) (hr : ∀ r, row = some r → ∃ o : Obj, W.heap[r]? = some o ∧ o.isCells = false) : Box3 W' p e :=
  ⟨cell_kept h.1 hg hr, cell_kept h.2.1 hg hr, cell_kept h.2.2.1 hg hr, (frozen_kept h.1 hg hr).trans h.2.2.2.1, (frozen_kept h.2.1 hg hr).trans h.2.2.2.2.1, (frozen_kept h.2.2.1 hg hr).trans h.2.2.2.2.2⟩
theorem vg_from {L : Int} {n : Nat} {es : List E3} (h : VG L (n : Int) es) : ∀ e ∈ es, 0 ≤ e.1 ∧ e.1 < 64 := fun e he => by
  have h1 := okE_iff.1 (h.ok e he)
  have h2 := h.s2
  omega
theorem vg_mono {L : Int} {n : Nat} {es : List E3} (h : VG L (n : Int) es) : ∀ i j : Nat, i < j → ∀ e f, es[i]? = some e → es[j]? = some f → e.1 ≤ f.1 := fun i j hij e f he hf => by
  obtain ⟨hi, he⟩ := List.getElem?_eq_some_iff.1 he
  obtain ⟨hj, hf⟩ := List.getElem?_eq_some_iff.1 hf
  have h1 := List.pairwise_iff_getElem.1 h.asc i j hi hj hij
  rw [he, hf] at h1
  unfold ltE at h1
  simp only [decide_eq_true_eq] at h1
  omega
end Go.Proofs.YthhbbiafffpknaaDoor
