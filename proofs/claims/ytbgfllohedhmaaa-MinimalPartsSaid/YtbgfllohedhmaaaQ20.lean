/- The marks that ranges over functions within a plain loop leave among a frame's deferred calls: how a function returns behind them. No condition. What graph.Step returns for a valid graph, a set of its states and a label: what edges with the label lead to. DERIVED: THE SHELF's CONTRACTS AT THIS DUMP, IN PLAIN WORDS (tools/lay-plain.mjs out of 'TryGenS.lean', which tools/lay-shelf.mjs wrote): THE SAME DECLARATIONS UNDER THE SAME NAMES: 'import', 'namespace', 'open', 'def', 'theorem' AND NOTHING ELSE: no command of the shelf's: FOR A HAND-IN. Each laying: the table of numbers ('.._ren') and one theorem, a field a fact of the dump's own or the kernel's comparison; each contract: ONE APPLICATION. -/
import Derived.Test.YtbgfllohedhmaaaQ18
import Derived.Sort.LoopGhostIn
import Derived.Lib.Builder
import Derived.Test.YtbgfllohedhmaaaQ07
import Derived.Shelf.SlSortCmp.NoneTotal
import Derived.Test.YtbgfllohedhmaaaProg

namespace Go.Proofs.Ytbgfllohedhmaaa
open Go.RowKit
set_option linter.unusedVariables false

/-- Marks, each of a block of its own from B on, whose calls have not been taken. -/
def Marks (B : Nat) : List Deferred → World → Prop
  | [], _ => True
  | d :: ds, W => ∃ r, d.target = .collected r ∧ B ≤ r ∧ W.heap[r]? = some (.deferred (some [])) ∧ (∀ d' ∈ ds, d'.target ≠ .collected r) ∧ Marks B ds W
theorem Marks.of {B : Nat} {W W' : World} : ∀ {ds : List Deferred}, Marks B ds W → (∀ d ∈ ds, ∀ r, d.target = .collected r → W.heap[r]? = some (.deferred (some [])) → W'.heap[r]? = some (.deferred (some []))) → Marks B ds W'
  | [], _, _ => trivial
  | d :: ds, h, hk => by
    obtain ⟨r, h1, h2, h3, h4, h5⟩ := h
    exact ⟨r, h1, h2, hk d List.mem_cons_self r h1 h3, h4, Marks.of h5 (fun x hx => hk x (List.mem_cons_of_mem _ hx))⟩
theorem Marks.below {B : Nat} {ds : List Deferred} {W W' : World} (h : Marks B ds W) (hb : Below W.heap.size W W') : Marks B ds W' :=
  h.of (fun _ _ r _ hr => (hb.block r (Array.getElem?_eq_some_iff.1 hr).1).trans hr)
theorem Marks.lt {B : Nat} {W : World} : ∀ {ds : List Deferred}, Marks B ds W → ∀ d ∈ ds, ∀ r, d.target = .collected r → r < W.heap.size
  | [], _, _, hd, _, _ => by cases hd
  | d :: ds, h, x, hx, r, hr => by
    obtain ⟨r', h1, h2, h3, h4, h5⟩ := h
    rcases List.mem_cons.1 hx with rfl | hx
    · rw [h1] at hr
      injection hr with hr
      subst hr
      exact (Array.getElem?_eq_some_iff.1 h3).1
    · exact Marks.lt h5 x hx r hr
/-- A mark more, of a block that was not there. -/
theorem Marks.more {B D : Nat} {W W' : World} {ds : List Deferred} {a : Array Value} (h : Marks B ds W') (hl : ∀ d ∈ ds, ∀ r, d.target = .collected r → r < D) (hB : B ≤ D) (hD : W'.heap[D]? = some (.deferred (some []))) : Marks B ({ target := .collected D, args := a } :: ds) W' :=
  ⟨D, rfl, hB, hD, fun d hd e => by have := hl d hd D e; omega, h⟩
/-- A function returns behind its marks. -/
theorem marks_leave {F : Fence} {n : Nat} {P : Program} {fn : Func} {tmps : Array Value} {R : Ending → World → Prop} {B : Nat} (Q : World → Prop)
    (hput : ∀ W r, Q W → B ≤ r → W.heap[r]? = some (.deferred (some [])) → Q (W.putObj r (.deferred none)))
    (hend : ∀ W, Q W → ∃ v, (results fn tmps).run P W = .ok v W ∧ R (.returned v) W) :
    ∀ (ds : List Deferred) (W : World), Marks B ds W → Q W → LeavesInM F n P fn tmps R ds .returning W
  | [], W, _, hq => hend W hq
  | d :: ds, W, h, hq => by
    obtain ⟨r, h1, h2, h3, h4, h5⟩ := h
    refine ⟨by simp, .inl ⟨r, _, h1, run_takeDeferred h3, marks_leave Q hput hend ds _ (h5.of ?_) (hput W r hq h2 h3)⟩⟩
    intro d' hd' r' hr' h'
    have hne : r' ≠ r := fun e => h4 d' hd' (by rw [hr', e])
    rw [World.putObj_heap_other hne]
    exact h'
end Go.Proofs.Ytbgfllohedhmaaa

namespace Go.Proofs.Ytbgfllohedhmaaa
open Go.RowKit Go.Shelf
attribute [local go_sem] Oper.semAt_some
set_option linter.unusedSimpArgs false
set_option linter.unusedVariables false

/-- Where edges with a label lead from a set. -/
def stepF (es : List E3) (set : List Int) (lab : Int) (t : Nat) : Bool := es.any fun e => decide (e.1 ∈ set) && e.2.1 == lab && e.2.2 == (t : Int)
def stepX (es : List E3) (s : Int) (f : Nat → Bool) (lab : Int) (pre : List (Lv es s)) (t : Nat) : Bool := f t || pre.any fun x => (es[x.1]!).2.1 == lab && (es[x.1]!).2.2 == (t : Int)
theorem stepF_snoc (es : List E3) (l : List Int) (s lab : Int) (t : Nat) : stepF es (l ++ [s]) lab t = (stepF es l lab t || es.any fun e => e.1 == s && e.2.1 == lab && e.2.2 == (t : Int)) := by
  unfold stepF
  rw [Bool.eq_iff_iff]
  simp only [List.any_eq_true, Bool.or_eq_true, Bool.and_eq_true, decide_eq_true_eq, beq_iff_eq, List.mem_append, List.mem_singleton]
  constructor
  · rintro ⟨e, he, ⟨h1 | h1, h2⟩, h3⟩
    · exact .inl ⟨e, he, ⟨h1, h2⟩, h3⟩
    · exact .inr ⟨e, he, ⟨h1, h2⟩, h3⟩
  · rintro (⟨e, he, ⟨h1, h2⟩, h3⟩ | ⟨e, he, ⟨h1, h2⟩, h3⟩)
    · exact ⟨e, he, ⟨.inl h1, h2⟩, h3⟩
    · exact ⟨e, he, ⟨.inr h1, h2⟩, h3⟩
theorem stepX_nil (es : List E3) (s : Int) (f : Nat → Bool) (lab : Int) : stepX es s f lab [] = f := by funext t; unfold stepX; simp
theorem stepX_snoc {es : List E3} {s : Int} {f : Nat → Bool} {lab : Int} {pre : List (Lv es s)} {x : Lv es s} {e : E3} (he : es[x.1]! = e) (t : Nat) : stepX es s f lab (pre ++ [x]) t = (stepX es s f lab pre t || (e.2.1 == lab && e.2.2 == (t : Int))) := by
  unfold stepX
  rw [List.any_append, ← Bool.or_assoc, he.symm]
  simp
theorem stepX_all {es : List E3} {s : Int} {lab : Int} {l : List Int} {xs : List (Lv es s)} (h : xs.map (·.1) = lvF es s 0) (t : Nat) : stepX es s (stepF es l lab) lab xs t = stepF es (l ++ [s]) lab t := by
  rw [stepF_snoc]
  unfold stepX
  congr 1
  rw [Bool.eq_iff_iff]
  simp only [List.any_eq_true, Bool.and_eq_true, beq_iff_eq]
  constructor
  · rintro ⟨x, -, h1, h2⟩
    obtain ⟨e, he, hs⟩ := x.2
    obtain ⟨hx, he'⟩ := List.getElem?_eq_some_iff.1 he
    rw [getElem!_pos es x.1 hx, he'] at h1 h2
    exact ⟨e, List.mem_of_getElem? he, ⟨hs, h1⟩, h2⟩
  · rintro ⟨e, he, ⟨h0, h1⟩, h2⟩
    obtain ⟨j, hj⟩ := List.getElem?_of_mem he
    have hm : j ∈ lvF es s 0 := lvF_mem.2 ⟨e, hj, h0⟩
    rw [← h] at hm
    obtain ⟨x, hx, rfl⟩ := List.mem_map.1 hm
    obtain ⟨hx', he'⟩ := List.getElem?_eq_some_iff.1 hj
    exact ⟨x, hx, by rw [getElem!_pos es x.1 hx', he']; exact h1, by rw [getElem!_pos es x.1 hx', he']; exact h2⟩
theorem KtG.turn {n₀ B : Nat} {w : World} (hn : n₀ ≤ w.heap.size) (hB : B + 1 < w.heap.size) (W : World) (l : Nat) (o o' : Obj) (hl : w.heap.size ≤ l) (h : W.heap[l]? = some o) (h1 : o.isCells = false) (h2 : o.isWalk = false) : KtG n₀ B W (W.putObj l o') :=
  ⟨⟨rfl, rfl, rfl, by simp, fun k hk => World.putObj_heap_other (by omega)⟩, World.putObj_heap_other (by omega), World.putObj_heap_other (by omega)⟩
theorem KtG.setc {n₀ B : Nat} {W W1 : World} (h : KtG n₀ B W W1) {a : Addr} (ha : n₀ ≤ a.block) (hb : a.block < B) (u : Value) : KtG n₀ B W (W1.setCell a u) :=
  ⟨h.1.setCell ha u, (Below.heap_setCell _ _ _ _ (by omega)).trans h.2.1, (Below.heap_setCell _ _ _ _ (by omega)).trans h.2.2⟩
theorem Marks.kept {B : Nat} {ds : List Deferred} {W W' : World} (h : Marks B ds W) (hk : KeepsOthers W W') : Marks B ds W' := h.of (fun _ _ r _ hr => hk.same r _ hr rfl)
theorem Marks.grown {B D : Nat} {ds : List Deferred} {W W' : World} {row : Option Nat} (h : Marks B ds W) (hl : ∀ d ∈ ds, ∀ r, d.target = .collected r → r < D) (hg : W.grownBy W' row) (hr : ∀ r, row = some r → D ≤ r) : Marks B ds W' :=
  h.of (fun d hd r ht hw => (hg.block r (Array.getElem?_eq_some_iff.1 hw).1 (fun e => by have := hl d hd r ht; have := hr r e.symm; omega)).trans hw)
theorem BoxG.own {W W' : World} {p : Nat} {L S : Int} {v : Value} {row : Option Nat} (h : BoxG W p L S v) (hg : W.grownBy W' row) (hr : ∀ r, row = some r → ∃ o : Obj, W.heap[r]? = some o ∧ o.isCells = false) : BoxG W' p L S v :=
  ⟨cell_kept h.1 hg hr, cell_kept h.2.1 hg hr, cell_kept h.2.2 hg hr⟩
theorem BRow.own {W W' : World} {b n : Nat} {f : Nat → Bool} {row : Option Nat} (h : BRow W b n f) (hg : W.grownBy W' row) (hr : ∀ r, row = some r → ∃ o : Obj, W.heap[r]? = some o ∧ o.isCells = false) : BRow W' b n f := by
  obtain ⟨c, h1, h2⟩ := h
  exact ⟨c, (grownBy_keeps_cells hg hr h1 rfl).trans h1, h2⟩
/-- The graph's variable, the label's, and what lay before. -/
def SB (w : World) (La : Int) (n : Nat) (v : Value) (lab : Int) (W : World) : Prop := BoxG W w.heap.size La (n : Int) v ∧ W.cell? ⟨w.heap.size + 1, 0, none⟩ = some (.int .i64 lab) ∧ Below w.heap.size w W
theorem SB.keep {w W W' : World} {La : Int} {n : Nat} {v : Value} {lab : Int} (h : SB w La n v lab W) (hb : Below W.heap.size W W') : SB w La n v lab W' := ⟨h.1.keep hb, cell_keep h.2.1 hb, h.2.2.trans (hb.mono h.2.2.size)⟩
theorem SB.b {w W : World} {La : Int} {n : Nat} {v : Value} {lab : Int} (h : SB w La n v lab W) : Below w.heap.size w W := h.2.2
theorem SB.start (w : World) (La : Int) (n : Nat) (v : Value) (lab : Int) (t t' : TypeId) : SB w La n v lab ((w.alloc (.cells #[.int .i64 La, .int .i64 (n : Int), v] t)).alloc (.cells #[.int .i64 lab] t')) := by
  have g1 := BoxG.new w La (n : Int) v t
  have b1 := below1 w (.cells #[.int .i64 La, .int .i64 (n : Int), v] t)
  have s1 := World.size_alloc w (.cells #[.int .i64 La, .int .i64 (n : Int), v] t)
  generalize w.alloc (.cells #[.int .i64 La, .int .i64 (n : Int), v] t) = W1 at *
  refine ⟨g1.keep (below1 _ _), ?_, below_more b1 (Nat.le_refl _) (below1 _ _)⟩
  rw [← s1]
  simp [go_sem]
theorem BRow.frozen {W : World} {b n : Nat} {f : Nat → Bool} (h : BRow W b n f) (i : Nat) : W.frozen? ⟨b, i, none⟩ = false := by
  obtain ⟨c, h1, -⟩ := h
  simp [World.frozen?, h1]
theorem below_put9 {B : Nat} {W W' : World} (h : Below B W W') (l : Nat) (hl : B ≤ l) (o : Obj) : Below B W (W'.putObj l o) :=
  h.trans ⟨rfl, rfl, rfl, by simp, fun k hk => World.putObj_heap_other (by omega)⟩
theorem Box3.own {W W' : World} {p : Nat} {e : E3} {row : Option Nat} (h : Box3 W p e) (hg : W.grownBy W' row) (hr : ∀ r, row = some r → ∃ o : Obj, W.heap[r]? = some o ∧ o.isCells = false) : Box3 W' p e :=
  ⟨cell_kept h.1 hg hr, cell_kept h.2.1 hg hr, cell_kept h.2.2.1 hg hr, (frozen_kept h.1 hg hr).trans h.2.2.2.1, (frozen_kept h.2.1 hg hr).trans h.2.2.2.2.1, (frozen_kept h.2.2.1 hg hr).trans h.2.2.2.2.2⟩
theorem vg_from {L : Int} {n : Nat} {es : List E3} (h : VG L (n : Int) es) : ∀ e ∈ es, 0 ≤ e.1 ∧ e.1 < 64 := fun e he => by
  have h1 := okE_iff.1 (h.ok e he)
  have h2 := h.s2
  omega
theorem vg_mono {L : Int} {n : Nat} {es : List E3} (h : VG L (n : Int) es) : ∀ i j : Nat, i < j → ∀ e f, es[i]? = some e → es[j]? = some f → e.1 ≤ f.1 := fun i j hij e f he hf => by
  obtain ⟨hi, he⟩ := List.getElem?_eq_some_iff.1 he
  obtain ⟨hj, hf⟩ := List.getElem?_eq_some_iff.1 hf
  have h1 := List.pairwise_iff_getElem.1 h.asc i j hi hj hij
  rw [he, hf] at h1
  unfold ltE at h1
  simp only [decide_eq_true_eq] at h1
  omega
end Go.Proofs.Ytbgfllohedhmaaa

namespace Go.Proofs
open Go.Shelf
def Try.sortE_ren : Go.Shelf.Ren := ⟨fun | 6 => 57 | 15 => 62 | 14 => 61 | 28 => 72 | 29 => 73 | 20 => 64 | 21 => 65 | 22 => 66 | 23 => 67 | 24 => 68 | 25 => 69 | 26 => 70 | 27 => 71 | 46 => 75 | 47 => 76 | 48 => 77 | 49 => 78 | 50 => 79 | 57 => 80 | n => n, fun | 22 => 22 | 24 => 42 | 25 => 65 | 3 => 3 | 39 => 79 | 0 => 0 | 53 => 91 | 55 => 94 | 4 => 4 | 46 => 107 | 45 => 106 | 50 => 78 | 5 => 5 | 9 => 9 | 66 => 115 | 70 => 119 | 76 => 121 | 77 => 122 | n => n, fun | n => n⟩
theorem Try.sortE : Go.Proofs.SlLaysF0.n6 Try.prog Try.sortE_ren := {
  mixed := by kernel_rfl
  f6 := ⟨Try.f57.name, by decide, Try.func57.trans (congrArg some (by kernel_rfl))⟩
  f14 := ⟨Try.f61.name, by decide, Try.func61.trans (congrArg some (by kernel_rfl))⟩
  f15 := Try.func62.trans (congrArg some (by kernel_rfl))
  f20 := ⟨Try.f64.name, by decide, Try.func64.trans (congrArg some (by kernel_rfl))⟩
  f21 := ⟨Try.f65.name, by decide, Try.func65.trans (congrArg some (by kernel_rfl))⟩
  f22 := ⟨Try.f66.name, by decide, Try.func66.trans (congrArg some (by kernel_rfl))⟩
  f23 := ⟨Try.f67.name, by decide, Try.func67.trans (congrArg some (by kernel_rfl))⟩
  f24 := ⟨Try.f68.name, by decide, Try.func68.trans (congrArg some (by kernel_rfl))⟩
  f25 := ⟨Try.f69.name, by decide, Try.func69.trans (congrArg some (by kernel_rfl))⟩
  f26 := ⟨Try.f70.name, by decide, Try.func70.trans (congrArg some (by kernel_rfl))⟩
  f27 := ⟨Try.f71.name, by decide, Try.func71.trans (congrArg some (by kernel_rfl))⟩
  f28 := Try.func72.trans (congrArg some (by kernel_rfl))
  f29 := Try.func73.trans (congrArg some (by kernel_rfl))
  f46 := ⟨Try.f75.name, by decide, Try.func75.trans (congrArg some (by kernel_rfl))⟩
  f47 := Try.func76.trans (congrArg some (by kernel_rfl))
  f48 := Try.func77.trans (congrArg some (by kernel_rfl))
  f49 := ⟨Try.f78.name, by decide, Try.func78.trans (congrArg some (by kernel_rfl))⟩
  f50 := ⟨Try.f79.name, by decide, Try.func79.trans (congrArg some (by kernel_rfl))⟩
  f57 := ⟨Try.f80.name, by decide, Try.func80.trans (congrArg some (by kernel_rfl))⟩
  t0 := Try.underlying0
  a0 := Try.isAgg0
  z0 := Try.sizeOf0
  v0 := Try.zeroValue0
  t3 := Try.underlying3
  a3 := Try.isAgg3
  z3 := Try.sizeOf3
  v3 := Try.zeroValue3
  t4 := Try.underlying4
  a4 := Try.isAgg4
  z4 := Try.sizeOf4
  v4 := Try.zeroValue4
  t5 := Try.underlying5
  a5 := Try.isAgg5
  z5 := Try.sizeOf5
  v5 := Try.zeroValue5
  t9 := Try.underlying9
  a9 := Try.isAgg9
  z9 := Try.sizeOf9
  v9 := Try.zeroValue9
  t22 := Try.underlying22
  a22 := Try.isAgg22
  z22 := Try.sizeOf22
  v22 := Try.zeroValue22
  t25 := Try.underlying65
  a25 := Try.isAgg65
  z25 := Try.sizeOf65
  v25 := Try.zeroValue65
  t39 := Try.underlying79
  a39 := Try.isAgg79
  z39 := Try.sizeOf79
  v39 := Try.zeroValue79
  t45 := Try.underlying106
  a45 := Try.isAgg106
  z45 := Try.sizeOf106
  v45 := Try.zeroValue106
  t46 := Try.underlying107
  a46 := Try.isAgg107
  z46 := Try.sizeOf107
  v46 := Try.zeroValue107
  t50 := Try.underlying78
  a50 := Try.isAgg78
  z50 := Try.sizeOf78
  v50 := Try.zeroValue78
  t53 := Try.underlying91
  a53 := Try.isAgg91
  z53 := Try.sizeOf91
  v53 := Try.zeroValue91
  t55 := Try.underlying94
  a55 := Try.isAgg94
  z55 := Try.sizeOf94
  v55 := Try.zeroValue94
  t66 := Try.underlying115
  a66 := Try.isAgg115
  z66 := Try.sizeOf115
  v66 := Try.zeroValue115
  t70 := Try.underlying119
  a70 := Try.isAgg119
  z70 := Try.sizeOf119
  v70 := Try.zeroValue119
  t76 := Try.underlying121
  a76 := Try.isAgg121
  z76 := Try.sizeOf121
  v76 := Try.zeroValue121
  t77 := Try.underlying122
  a77 := Try.isAgg122
  z77 := Try.sizeOf122
  v77 := Try.zeroValue122 }
end Go.Proofs
