/- What graph.leaving's function yields: the edges that leave a state, in order. Conditions: at most 1024 edges, numbers below 64, in order. The marks that ranges over functions within a plain loop leave among a frame's deferred calls: how a function returns behind them. No condition. What graph.Step returns for a valid graph, a set of its states and a label: what edges with the label lead to. -/
import Derived.Test.YtblkijdodojaeaaDoorQ18
import Derived.Sort.QuietIn
import Derived.Sort.LoopGhostIn
import Derived.Lib.Builder
import Derived.Test.YtblkijdodojaeaaDoorQ08

namespace Go.Proofs.YtblkijdodojaeaaDoor
open Go.RowKit Go.Shelf
attribute [local go_sem] Oper.semAt_some
set_option linter.unusedSimpArgs false
set_option linter.unusedVariables false

theorem below_grown' {W W1 : World} (h : Below W.heap.size W W1) : W.grownBy W1 none := ⟨h.os, h.tape, h.output, h.size, fun k hk _ => h.block k hk⟩
/-- What a round keeps: what lay below n₀, and the two variables of leaving. -/
def KtG (n₀ B : Nat) (W W1 : World) : Prop := Below n₀ W W1 ∧ W1.heap[B]? = W.heap[B]? ∧ W1.heap[B + 1]? = W.heap[B + 1]?
theorem KtG.refl (n₀ B : Nat) (W : World) : KtG n₀ B W W := ⟨Below.refl _ _, rfl, rfl⟩
theorem KtG.trans {n₀ B : Nat} {X Y Z : World} (h : KtG n₀ B X Y) (k : KtG n₀ B Y Z) : KtG n₀ B X Z := ⟨h.1.trans k.1, k.2.1.trans h.2.1, k.2.2.trans h.2.2⟩
theorem KtG.of_below {n₀ B : Nat} {W W1 : World} (h : Below W.heap.size W W1) (h0 : n₀ ≤ W.heap.size) (h1 : B + 1 < W.heap.size) : KtG n₀ B W W1 := ⟨h.mono h0, h.block _ (by omega), h.block _ h1⟩
/-- An edge that leaves s, by its index. -/
abbrev Lv (es : List E3) (s : Int) : Type := { x : Nat // ∃ e, es[x]? = some e ∧ e.1 = s }
def natV : Value → Nat
  | .int _ z => z.toNat
  | _ => 0
set_option maxRecDepth 100000 in
set_option maxHeartbeats 3200000 in
theorem leaving1_in (n l B : Nat) (w0 : World) (La S s : Int) (v : Value) (es : List E3) (J Jx : List (Lv es s) → World → Prop) (hn : 1 ≤ n) (W : World) (hJ : AbidesFrom W.heap.size J)
    (hY : ∀ (pre : List (Lv es s)) (x : Lv es s) (W1 : World), J pre W1 → pre.length < es.length → YieldAt Fence.wide (n - 1) Tryd.prog l #[.int .i64 (x.1 : Int), edgV es[x.1]!] W1 fun e W' =>
      (e = .returned (.bool true) ∧ J (pre ++ [x]) W' ∧ KtG w0.heap.size B W1 W') ∨ (e = .returned (.bool false) ∧ Jx (pre ++ [x]) W'))
    (hrd : EdgesRd w0 v es) (hW0 : Below w0.heap.size w0 W) (hBn : B + 1 < W.heap.size) (hg : BoxG W B La S v) (hsB : W.cell? ⟨B + 1, 0, none⟩ = some (.int .i64 s)) (hlen : es.length ≤ 1024) (hs : 0 ≤ s ∧ s < 64)
    (hb : ∀ e ∈ es, 0 ≤ e.1 ∧ e.1 < 64) (ho : ∀ i j : Nat, i < j → ∀ e f, es[i]? = some e → es[j]? = some f → e.1 ≤ f.1) (h0 : J [] W) :
    CallsIn Fence.wide n Tryd.prog 102 #[.func (.yield l) #[] #[], .pointer (some ⟨B, 0, none⟩), .pointer (some ⟨B + 1, 0, none⟩)] W fun e W' => (∃ u, e = .returned u) ∧
      ((∃ ys : List (Lv es s), ys.map (·.1) = lvF es s 0 ∧ J ys W') ∨ (∃ pre, True ∧ Jx pre W')) := by
  have hmx : Tryd.prog.follows .mixedOrders = true := by kernel_rfl
  have HY := Lib.hid hY
  have HJ := Lib.hid hJ
  have HRD := Lib.hid hrd
  have HO := Lib.hid ho
  have HBS := Lib.hid (fun W h => bsearch_any es s v W h hlen hs hb ho)
  have HG := Lib.hid hg
  have HSB := Lib.hid hsB
  have HW0 := Lib.hid hW0
  obtain ⟨a, c, rfl⟩ := hrd.form
  obtain ⟨g1, g2, g3⟩ := id hg
  clear hY hJ hrd ho hb hg hW0
  refine callsIn_of_wp Tryd.func102 rfl trivial ?_ rfl
  simp only [Tryd.ntmps102, List.size_toArray, List.length_cons, List.length_nil, Nat.reduceAdd, Nat.reduceSub, Array.replicate_succ, Array.replicate_zero, List.push_toArray, List.append_toArray, List.nil_append, List.cons_append]
  gi_wp2_with (refine ⟨trivial, ?_⟩; gi_at_call 103; (with_reducible refine (callsIn_wide.2 (HBS.out _ (HRD.out.keep HW0.out))).mono ?_); rintro e W1 ⟨i0, bo, rfl, hil, hl1, hl2, b1⟩; (have HL1 := Lib.hid hl1); (have HL2 := Lib.hid hl2); (have hJ1 := HJ.out [] _ _ none h0 (below_grown' b1) (fun r e => by cases e)); (have B1 := Lib.hid (KtG.of_below (n₀ := w0.heap.size) (B := B) b1 HW0.out.size hBn)); (have SZ1 := b1.size); (clear hl1 hl2 b1))
  clear g1 g2 g3 hsB
  gi_loopw [6] (fun s6 wr => ∃ (i : Nat) (pre : List (Lv es s)), s6 = .int .i64 (i : Int) ∧ i0 ≤ i ∧ i ≤ es.length ∧ Hid (pre.map (·.1) ++ lvF es s i = lvF es s 0) ∧ J pre wr ∧ KtG w0.heap.size B W wr ∧ W.heap.size ≤ wr.heap.size) (fun s6 _ => es.length - natV s6)
  case atStart => exact ⟨i0, [], rfl, Nat.le_refl _, hil, Lib.hid (lvF_skip (fun j e hj he => by have := HL1.out j e hj he; omega) hil), hJ1, B1.out, SZ1⟩
  case round =>
    clear hJ1 B1 SZ1 h0
    obtain ⟨i, pre, rfl, hi0, hile, HE, hJs, hB, hsz⟩ := hrel
    have x0 : BoxG wr B La S (.slice a es.length c) := ⟨(World.cell?_of_block (a := ⟨B, 0, none⟩) hB.2.1).trans HG.out.1, (World.cell?_of_block (a := ⟨B, 1, none⟩) hB.2.1).trans HG.out.2.1, (World.cell?_of_block (a := ⟨B, 2, none⟩) hB.2.1).trans HG.out.2.2⟩
    have x1 : wr.cell? ⟨B + 1, 0, none⟩ = some (.int .i64 s) := (World.cell?_of_block (a := ⟨B + 1, 0, none⟩) hB.2.2).trans HSB.out
    have hw0 := HW0.out.trans hB.1
    obtain ⟨g1, g2, g3⟩ := id x0
    rcases Nat.lt_or_ge i es.length with hlt | hge
    · obtain ⟨e, he⟩ : ∃ e, es[i]? = some e := ⟨_, List.getElem?_eq_getElem hlt⟩
      obtain ⟨bb, off, c', hv, k1, k2, k3⟩ := (HRD.out.keep hw0).at he
      injection hv with e1 e2 e3
      subst e1
      subst e3
      have j1 : decide ((i : Int) < (es.length : Int)) = true := decide_eq_true (by omega)
      have j2 : decide (i < es.length) = true := decide_eq_true hlt
      have j3 : (i : Int) < (es.length : Int) := by omega
      have hin := HL2.out i e hi0 he
      have HEE := Lib.hid he
      by_cases hx : e.1 = s
      · have hbq : (e.1 == s) = true := by rw [hx]; exact beq_self_eq_true _
        have hxx : ∃ e, es[i]? = some e ∧ e.1 = s := ⟨e, he, hx⟩
        have hst := lvF_step (s := s) he
        rw [if_pos hx] at hst
        have HE2 := Lib.hid (show (pre ++ [(⟨i, hxx⟩ : Lv es s)]).map (·.1) ++ lvF es s (i + 1) = lvF es s 0 by rw [List.map_append, List.append_assoc, ← HE.out, hst]; rfl)
        have hplen : pre.length < es.length := by
          have h1 := congrArg List.length HE2.out
          have h2 : (lvF es s 0).length ≤ es.length := by unfold lvF; exact Nat.le_trans (List.length_filter_le _ _) (by rw [List.length_range']; omega)
          simp only [List.length_append, List.length_map, List.length_singleton] at h1
          omega
        have hee : es[i]! = e := by rw [getElem!_pos es i hlt]; exact (List.getElem?_eq_some_iff.1 he).2
        have HYD := Lib.hid (fun q => HY.out pre ⟨i, hxx⟩ (wr.drewN q) (HJ.out pre _ _ none hJs (below_grown' (below_drewM (Below.refl _ wr) q)) (fun r e => by cases e)) hplen)
        dsimp only at HYD
        rw [hee] at HYD
        have hlt2 := hlt
        clear hst hee hplen hin he hx hlt HE hJs e2
        obtain ⟨x, y, z⟩ := e
        dsimp only at k1 k2 k3 hbq
        gi_wp2
        gi_quiet (fail)
        rename_i nq
        obtain ⟨fn, tmps, assign, body, hy, hR⟩ := HYD.out nq
        gi_wp2
        refine hR.mono ?_
        rintro e W3 (⟨rfl, hJ3, hk3⟩ | ⟨rfl, hJx3⟩)
        · gi_wp2
          go_roundw
          case rel => exact ⟨i + 1, pre ++ [⟨i, hxx⟩], by go_num, by omega, hlt2, HE2, hJ3, hB.trans ((show KtG w0.heap.size B wr (wr.drewN nq) from ⟨below_drewM (Below.refl _ _) _, rfl, rfl⟩).trans hk3), Nat.le_trans hsz hk3.1.size⟩
          case measure => simp [natV]; omega
        · gi_wp2
          refine bodyPost_ret (results_none rfl _ _ _) rfl ?_
          exact ⟨⟨_, rfl⟩, .inr ⟨_, trivial, hJx3⟩⟩
      · have hbq : (e.1 == s) = false := by simpa using hx
        have HEN := Lib.hid (show lvF es s i = [] from lvF_end (fun j f hj hf => by
          rcases (show i < j ∨ i = j by omega) with h1 | rfl
          · have := HO.out i j h1 e f he hf
            omega
          · rw [he] at hf
            injection hf with hf
            subst hf
            exact hx))
        obtain ⟨x, y, z⟩ := e
        dsimp only at k1 k2 k3 hbq
        clear hx hin he e2
        gi_wp2
        gi_quiet (fail)
        gi_wp2
        go_end0
        exact ⟨⟨_, rfl⟩, .inl ⟨pre, by have := HE.out; rwa [HEN.out, List.append_nil] at this, HJ.out pre _ _ none hJs (below_grown' (below_drewM (Below.refl _ _) _)) (fun r e => by cases e)⟩⟩
    · have j1 : decide ((i : Int) < (es.length : Int)) = false := decide_eq_false (by omega)
      have j2 : decide (i < es.length) = false := decide_eq_false (by omega)
      have HEN := Lib.hid (show lvF es s i = [] from lvF_end (fun j f hj hf => absurd (List.getElem?_eq_some_iff.1 hf).1 (by omega)))
      gi_wp2
      gi_quiet (fail)
      gi_wp2
      go_end0
      exact ⟨⟨_, rfl⟩, .inl ⟨pre, by have := HE.out; rwa [HEN.out, List.append_nil] at this, HJ.out pre _ _ none hJs (below_grown' (below_drewM (Below.refl _ _) _)) (fun r e => by cases e)⟩⟩
/-- The contract of the iterator. -/
theorem leaving_stops (n B : Nat) (w0 w : World) (La S s : Int) (v : Value) (es : List E3) (hn : 1 ≤ n) (hrd : EdgesRd w0 v es) (hW0 : Below w0.heap.size w0 w) (hBn : B + 1 < w.heap.size) (hg : BoxG w B La S v) (hsB : w.cell? ⟨B + 1, 0, none⟩ = some (.int .i64 s)) (hlen : es.length ≤ 1024) (hs : 0 ≤ s ∧ s < 64)
    (hb : ∀ e ∈ es, 0 ≤ e.1 ∧ e.1 < 64) (ho : ∀ i j : Nat, i < j → ∀ e f, es[i]? = some e → es[j]? = some f → e.1 ≤ f.1) :
    SeqStopsK Fence.wide n Tryd.prog 102 #[.pointer (some ⟨B, 0, none⟩), .pointer (some ⟨B + 1, 0, none⟩)] (fun x : Lv es s => #[Value.int .i64 (x.1 : Int), edgV es[x.1]!]) (KtG w0.heap.size B) (fun ys => ys.map (·.1) = lvF es s 0) (fun _ => True) es.length w :=
  fun l J Jx W hW hJ hJx hY h0 => by
    have hs2 := hW.size
    exact leaving1_in n l B w0 La S s v es J Jx hn W hJ hY hrd (hW0.trans (hW.mono hW0.size)) (by omega) (hg.keep hW) (cell_keep hsB hW) hlen hs hb ho h0
end Go.Proofs.YtblkijdodojaeaaDoor

namespace Go.Proofs.YtblkijdodojaeaaDoor
open Go.RowKit
set_option linter.unusedVariables false

/-- Marks, each of a block of its own from B on, whose calls have not been taken. -/
def Marks (B : Nat) : List Deferred → World → Prop
  | [], _ => True
  | d :: ds, W => ∃ r, d.target = .collected r ∧ B ≤ r ∧ W.heap[r]? = some (.deferred (some [])) ∧ (∀ d' ∈ ds, d'.target ≠ .collected r) ∧ Marks B ds W
theorem Marks.of {B : Nat} {W W' : World} : ∀ {ds : List Deferred}, Marks B ds W → (∀ d ∈ ds, ∀ r, d.target = .collected r → W.heap[r]? = some (.deferred (some [])) → W'.heap[r]? = some (.deferred (some []))) → Marks B ds W'
  | [], _, _ => trivial
  | d :: ds, h, hk => by
    obtain ⟨r, h1, h2, h3, h4, h5⟩ := h
    exact ⟨r, h1, h2, hk d List.mem_cons_self r h1 h3, h4, Marks.of h5 (fun x hx => hk x (List.mem_cons_of_mem _ hx))⟩
theorem Marks.below {B : Nat} {ds : List Deferred} {W W' : World} (h : Marks B ds W) (hb : Below W.heap.size W W') : Marks B ds W' :=
  h.of (fun _ _ r _ hr => (hb.block r (Array.getElem?_eq_some_iff.1 hr).1).trans hr)
theorem Marks.lt {B : Nat} {W : World} : ∀ {ds : List Deferred}, Marks B ds W → ∀ d ∈ ds, ∀ r, d.target = .collected r → r < W.heap.size
  | [], _, _, hd, _, _ => by cases hd
  | d :: ds, h, x, hx, r, hr => by
    obtain ⟨r', h1, h2, h3, h4, h5⟩ := h
    rcases List.mem_cons.1 hx with rfl | hx
    · rw [h1] at hr
      injection hr with hr
      subst hr
      exact (Array.getElem?_eq_some_iff.1 h3).1
    · exact Marks.lt h5 x hx r hr
/-- A mark more, of a block that was not there. -/
theorem Marks.more {B D : Nat} {W W' : World} {ds : List Deferred} {a : Array Value} (h : Marks B ds W') (hl : ∀ d ∈ ds, ∀ r, d.target = .collected r → r < D) (hB : B ≤ D) (hD : W'.heap[D]? = some (.deferred (some []))) : Marks B ({ target := .collected D, args := a } :: ds) W' :=
  ⟨D, rfl, hB, hD, fun d hd e => by have := hl d hd D e; omega, h⟩
/-- A function returns behind its marks. -/
theorem marks_leave {F : Fence} {n : Nat} {P : Program} {fn : Func} {tmps : Array Value} {R : Ending → World → Prop} {B : Nat} (Q : World → Prop)
    (hput : ∀ W r, Q W → B ≤ r → W.heap[r]? = some (.deferred (some [])) → Q (W.putObj r (.deferred none)))
    (hend : ∀ W, Q W → ∃ v, (results fn tmps).run P W = .ok v W ∧ R (.returned v) W) :
    ∀ (ds : List Deferred) (W : World), Marks B ds W → Q W → LeavesInM F n P fn tmps R ds .returning W
  | [], W, _, hq => hend W hq
  | d :: ds, W, h, hq => by
    obtain ⟨r, h1, h2, h3, h4, h5⟩ := h
    refine ⟨by simp, .inl ⟨r, _, h1, run_takeDeferred h3, marks_leave Q hput hend ds _ (h5.of ?_) (hput W r hq h2 h3)⟩⟩
    intro d' hd' r' hr' h'
    have hne : r' ≠ r := fun e => h4 d' hd' (by rw [hr', e])
    rw [World.putObj_heap_other hne]
    exact h'
end Go.Proofs.YtblkijdodojaeaaDoor

namespace Go.Proofs.YtblkijdodojaeaaDoor
open Go.RowKit Go.Shelf
attribute [local go_sem] Oper.semAt_some
set_option linter.unusedSimpArgs false
set_option linter.unusedVariables false

/-- Where edges with a label lead from a set. -/
def stepF (es : List E3) (set : List Int) (lab : Int) (t : Nat) : Bool := es.any fun e => decide (e.1 ∈ set) && e.2.1 == lab && e.2.2 == (t : Int)
def stepX (es : List E3) (s : Int) (f : Nat → Bool) (lab : Int) (pre : List (Lv es s)) (t : Nat) : Bool := f t || pre.any fun x => (es[x.1]!).2.1 == lab && (es[x.1]!).2.2 == (t : Int)
theorem stepF_snoc (es : List E3) (l : List Int) (s lab : Int) (t : Nat) : stepF es (l ++ [s]) lab t = (stepF es l lab t || es.any fun e => e.1 == s && e.2.1 == lab && e.2.2 == (t : Int)) := by
  unfold stepF
  rw [Bool.eq_iff_iff]
  simp only [List.any_eq_true, Bool.or_eq_true, Bool.and_eq_true, decide_eq_true_eq, beq_iff_eq, List.mem_append, List.mem_singleton]
  constructor
  · rintro ⟨e, he, ⟨h1 | h1, h2⟩, h3⟩
    · exact .inl ⟨e, he, ⟨h1, h2⟩, h3⟩
    · exact .inr ⟨e, he, ⟨h1, h2⟩, h3⟩
  · rintro (⟨e, he, ⟨h1, h2⟩, h3⟩ | ⟨e, he, ⟨h1, h2⟩, h3⟩)
    · exact ⟨e, he, ⟨.inl h1, h2⟩, h3⟩
    · exact ⟨e, he, ⟨.inr h1, h2⟩, h3⟩
theorem stepX_nil (es : List E3) (s : Int) (f : Nat → Bool) (lab : Int) : stepX es s f lab [] = f := by funext t; unfold stepX; simp
theorem stepX_snoc {es : List E3} {s : Int} {f : Nat → Bool} {lab : Int} {pre : List (Lv es s)} {x : Lv es s} {e : E3} (he : es[x.1]! = e) (t : Nat) : stepX es s f lab (pre ++ [x]) t = (stepX es s f lab pre t || (e.2.1 == lab && e.2.2 == (t : Int))) := by
  unfold stepX
  rw [List.any_append, ← Bool.or_assoc, he.symm]
  simp
theorem stepX_all {es : List E3} {s : Int} {lab : Int} {l : List Int} {xs : List (Lv es s)} (h : xs.map (·.1) = lvF es s 0) (t : Nat) : stepX es s (stepF es l lab) lab xs t = stepF es (l ++ [s]) lab t := by
  rw [stepF_snoc]
  unfold stepX
  congr 1
  rw [Bool.eq_iff_iff]
  simp only [List.any_eq_true, Bool.and_eq_true, beq_iff_eq]
  constructor
  · rintro ⟨x, -, h1, h2⟩
    obtain ⟨e, he, hs⟩ := x.2
    obtain ⟨hx, he'⟩ := List.getElem?_eq_some_iff.1 he
    rw [getElem!_pos es x.1 hx, he'] at h1 h2
    exact ⟨e, List.mem_of_getElem? he, ⟨hs, h1⟩, h2⟩
  · rintro ⟨e, he, ⟨h0, h1⟩, h2⟩
    obtain ⟨j, hj⟩ := List.getElem?_of_mem he
    have hm : j ∈ lvF es s 0 := lvF_mem.2 ⟨e, hj, h0⟩
    rw [← h] at hm
    obtain ⟨x, hx, rfl⟩ := List.mem_map.1 hm
    obtain ⟨hx', he'⟩ := List.getElem?_eq_some_iff.1 hj
    exact ⟨x, hx, by rw [getElem!_pos es x.1 hx', he']; exact h1, by rw [getElem!_pos es x.1 hx', he']; exact h2⟩
theorem KtG.turn {n₀ B : Nat} {w : World} (hn : n₀ ≤ w.heap.size) (hB : B + 1 < w.heap.size) (W : World) (l : Nat) (o o' : Obj) (hl : w.heap.size ≤ l) (h : W.heap[l]? = some o) (h1 : o.isCells = false) (h2 : o.isWalk = false) : KtG n₀ B W (W.putObj l o') :=
  ⟨⟨rfl, rfl, rfl, by simp, fun k hk => World.putObj_heap_other (by omega)⟩, World.putObj_heap_other (by omega), World.putObj_heap_other (by omega)⟩
theorem KtG.setc {n₀ B : Nat} {W W1 : World} (h : KtG n₀ B W W1) {a : Addr} (ha : n₀ ≤ a.block) (hb : a.block < B) (u : Value) : KtG n₀ B W (W1.setCell a u) :=
  ⟨h.1.setCell ha u, (Below.heap_setCell _ _ _ _ (by omega)).trans h.2.1, (Below.heap_setCell _ _ _ _ (by omega)).trans h.2.2⟩
theorem Marks.kept {B : Nat} {ds : List Deferred} {W W' : World} (h : Marks B ds W) (hk : KeepsOthers W W') : Marks B ds W' := h.of (fun _ _ r _ hr => hk.same r _ hr rfl)
theorem Marks.grown {B D : Nat} {ds : List Deferred} {W W' : World} {row : Option Nat} (h : Marks B ds W) (hl : ∀ d ∈ ds, ∀ r, d.target = .collected r → r < D) (hg : W.grownBy W' row) (hr : ∀ r, row = some r → D ≤ r) : Marks B ds W' :=
  h.of (fun d hd r ht hw => (hg.block r (Array.getElem?_eq_some_iff.1 hw).1 (fun e => by have := hl d hd r ht; have := hr r e.symm; omega)).trans hw)
theorem BoxG.own {W W' : World} {p : Nat} {L S : Int} {v : Value} {row : Option Nat} (h : BoxG W p L S v) (hg : W.grownBy W' row) (hr : ∀ r, row = some r → ∃ o : Obj, W.heap[r]? = some o ∧ o.isCells = false) : BoxG W' p L S v :=
  ⟨cell_kept h.1 hg hr, cell_kept h.2.1 hg hr, cell_kept h.2.2 hg hr⟩
theorem BRow.own {W W' : World} {b n : Nat} {f : Nat → Bool} {row : Option Nat} (h : BRow W b n f) (hg : W.grownBy W' row) (hr : ∀ r, row = some r → ∃ o : Obj, W.heap[r]? = some o ∧ o.isCells = false) : BRow W' b n f := by
  obtain ⟨c, h1, h2⟩ := h
  exact ⟨c, (grownBy_keeps_cells hg hr h1 rfl).trans h1, h2⟩
/-- The graph's variable, the label's, and what lay before. -/
def SB (w : World) (La : Int) (n : Nat) (v : Value) (lab : Int) (W : World) : Prop := BoxG W w.heap.size La (n : Int) v ∧ W.cell? ⟨w.heap.size + 1, 0, none⟩ = some (.int .i64 lab) ∧ Below w.heap.size w W
theorem SB.keep {w W W' : World} {La : Int} {n : Nat} {v : Value} {lab : Int} (h : SB w La n v lab W) (hb : Below W.heap.size W W') : SB w La n v lab W' := ⟨h.1.keep hb, cell_keep h.2.1 hb, h.2.2.trans (hb.mono h.2.2.size)⟩
theorem SB.b {w W : World} {La : Int} {n : Nat} {v : Value} {lab : Int} (h : SB w La n v lab W) : Below w.heap.size w W := h.2.2
theorem SB.start (w : World) (La : Int) (n : Nat) (v : Value) (lab : Int) (t t' : TypeId) : SB w La n v lab ((w.alloc (.cells #[.int .i64 La, .int .i64 (n : Int), v] t)).alloc (.cells #[.int .i64 lab] t')) := by
  have g1 := BoxG.new w La (n : Int) v t
  have b1 := below1 w (.cells #[.int .i64 La, .int .i64 (n : Int), v] t)
  have s1 := World.size_alloc w (.cells #[.int .i64 La, .int .i64 (n : Int), v] t)
  generalize w.alloc (.cells #[.int .i64 La, .int .i64 (n : Int), v] t) = W1 at *
  refine ⟨g1.keep (below1 _ _), ?_, below_more b1 (Nat.le_refl _) (below1 _ _)⟩
  rw [← s1]
  simp [go_sem]
/-- .. with the row of what is reached, and its variable. -/
structure SR (w : World) (La : Int) (n : Nat) (v : Value) (lab : Int) (R : Nat) (f : Nat → Bool) (W : World) : Prop where
  sb : SB w La n v lab W
  row : BRow W R n f
  p9 : W.heap[R + 1]? = some (.cells #[.slice (some ⟨R, 0, none⟩) n n] 85 (0, 0))
  lo : w.heap.size + 2 ≤ R
theorem SR.lt {w W : World} {La : Int} {n : Nat} {v : Value} {lab : Int} {R : Nat} {f : Nat → Bool} (h : SR w La n v lab R f W) : R + 1 < W.heap.size := (Array.getElem?_eq_some_iff.1 h.p9).1
theorem SR.keep {w W W' : World} {La : Int} {n : Nat} {v : Value} {lab : Int} {R : Nat} {f : Nat → Bool} (h : SR w La n v lab R f W) (hb : Below W.heap.size W W') : SR w La n v lab R f W' :=
  ⟨h.sb.keep hb, h.row.keep hb, (hb.block _ h.lt).trans h.p9, h.lo⟩
theorem SR.cell {w W : World} {La : Int} {n : Nat} {v : Value} {lab : Int} {R : Nat} {f : Nat → Bool} (h : SR w La n v lab R f W) : W.cell? ⟨R + 1, 0, none⟩ = some (.slice (some ⟨R, 0, none⟩) n n) := by rw [Lib.cell_of_heap h.p9]; rfl
theorem SR.congr {w W : World} {La : Int} {n : Nat} {v : Value} {lab : Int} {R : Nat} {f g : Nat → Bool} (h : SR w La n v lab R f W) (e : ∀ i, i < n → f i = g i) : SR w La n v lab R g W := ⟨h.sb, h.row.congr e, h.p9, h.lo⟩
theorem SR.own {w W W' : World} {La : Int} {n : Nat} {v : Value} {lab : Int} {R : Nat} {f : Nat → Bool} {row : Option Nat} (h : SR w La n v lab R f W) (hg : W.grownBy W' row) (hB : ∀ r, row = some r → w.heap.size ≤ r) (hr : ∀ r, row = some r → ∃ o : Obj, W.heap[r]? = some o ∧ o.isCells = false) : SR w La n v lab R f W' :=
  ⟨⟨h.sb.1.own hg hr, cell_kept h.sb.2.1 hg hr, h.sb.2.2.grown hg h.sb.2.2.size hB⟩, h.row.own hg hr, (grownBy_keeps_cells hg hr h.p9 rfl).trans h.p9, h.lo⟩
theorem SR.put {w W : World} {La : Int} {n : Nat} {v : Value} {lab : Int} {R : Nat} {f : Nat → Bool} (h : SR w La n v lab R f W) (i : Nat) : SR w La n v lab R (fun j => if j = i then true else f j) (W.setCell ⟨R, i, none⟩ (.bool true)) := by
  have hlo := h.lo
  refine ⟨⟨?_, ?_, h.sb.2.2.setCell (p := ⟨R, i, none⟩) (by show w.heap.size ≤ R; omega) _⟩, h.row.set i true, ?_, h.lo⟩
  · obtain ⟨g1, g2, g3⟩ := h.sb.1
    have e : ∀ j, (W.setCell ⟨R, i, none⟩ (.bool true)).cell? ⟨w.heap.size, j, none⟩ = W.cell? ⟨w.heap.size, j, none⟩ := fun j => World.cell?_setCell_far _ _ _ _ (by show R ≠ w.heap.size; omega)
    exact ⟨(e 0).trans g1, (e 1).trans g2, (e 2).trans g3⟩
  · exact (World.cell?_setCell_far _ _ _ _ (by show R ≠ w.heap.size + 1; omega)).trans h.sb.2.1
  · exact (Below.heap_setCell _ _ _ _ (by show R + 1 ≠ R; omega)).trans h.p9
theorem BRow.frozen {W : World} {b n : Nat} {f : Nat → Bool} (h : BRow W b n f) (i : Nat) : W.frozen? ⟨b, i, none⟩ = false := by
  obtain ⟨c, h1, -⟩ := h
  simp [World.frozen?, h1]
theorem SR.start {w W3 : World} {La : Int} {n : Nat} {v : Value} {lab : Int} (h : SB w La n v lab W3) (h2 : w.heap.size + 2 ≤ W3.heap.size) :
    SR w La n v lab W3.heap.size (fun _ => false) ((W3.alloc (.cells (madeCells #[.bool false] n) 4)).alloc (.cells #[.slice (some ⟨W3.heap.size, 0, none⟩) n n] 85)) := by
  have b1 := below1 W3 (.cells (madeCells #[.bool false] n) 4)
  have r1 := BRow.made W3 n
  have s1 := World.size_alloc W3 (.cells (madeCells #[.bool false] n) 4)
  generalize W3.alloc (.cells (madeCells #[.bool false] n) 4) = W4 at *
  have b2 := below1 W4 (.cells #[.slice (some ⟨W3.heap.size, 0, none⟩) n n] 85)
  refine ⟨(h.keep b1).keep b2, r1.keep b2, ?_, h2⟩
  rw [← s1]
  exact heap_alloc_new W4 _
theorem below_put9 {B : Nat} {W W' : World} (h : Below B W W') (l : Nat) (hl : B ≤ l) (o : Obj) : Below B W (W'.putObj l o) :=
  h.trans ⟨rfl, rfl, rfl, by simp, fun k hk => World.putObj_heap_other (by omega)⟩
theorem Box3.own {W W' : World} {p : Nat} {e : E3} {row : Option Nat} (h : Box3 W p e) (hg : W.grownBy W' row) (hr : ∀ r, row = some r → ∃ o : Obj, W.heap[r]? = some o ∧ o.isCells = false) : Box3 W' p e :=
  ⟨cell_kept h.1 hg hr, cell_kept h.2.1 hg hr, cell_kept h.2.2.1 hg hr, (frozen_kept h.1 hg hr).trans h.2.2.2.1, (frozen_kept h.2.1 hg hr).trans h.2.2.2.2.1, (frozen_kept h.2.2.1 hg hr).trans h.2.2.2.2.2⟩
theorem vg_from {L : Int} {n : Nat} {es : List E3} (h : VG L (n : Int) es) : ∀ e ∈ es, 0 ≤ e.1 ∧ e.1 < 64 := fun e he => by
  have h1 := okE_iff.1 (h.ok e he)
  have h2 := h.s2
  omega
theorem vg_mono {L : Int} {n : Nat} {es : List E3} (h : VG L (n : Int) es) : ∀ i j : Nat, i < j → ∀ e f, es[i]? = some e → es[j]? = some f → e.1 ≤ f.1 := fun i j hij e f he hf => by
  obtain ⟨hi, he⟩ := List.getElem?_eq_some_iff.1 he
  obtain ⟨hj, hf⟩ := List.getElem?_eq_some_iff.1 hf
  have h1 := List.pairwise_iff_getElem.1 h.asc i j hi hj hij
  rw [he, hf] at h1
  unfold ltE at h1
  simp only [decide_eq_true_eq] at h1
  omega
set_option maxRecDepth 100000 in
set_option maxHeartbeats 6400000 in
theorem step_good (La : Int) (n : Nat) (es : List E3) (v vs : Value) (set : List Int) (lab : Int) (w : World) (hrd : EdgesRd w v es) (hvg : VG La (n : Int) es) (hst : IntsRd w vs set) (hsg : SG (n : Int) set) (hl : 0 ≤ lab ∧ lab < La) :
    Calls Tryd.prog 33 #[grV La (n : Int) v, vs, .int .i64 lab] w fun e w' => ∃ u, e = .returned (.tuple #[u, .int .i64 0]) ∧ IntsAt w' w.heap.size u (mems n (stepF es set lab)) ∧ Below w.heap.size w w' := by
  have hlen := hvg.len
  have hsl := hsg.len
  have hn64 : n ≤ 64 := by have := hvg.s2; omega
  have HRD := Lib.hid hrd
  have HST := Lib.hid hst
  have HV := Lib.hid (fun W h => isValid_any La (n : Int) es v W h (by omega))
  have HC := Lib.hid (fun W h => checkSet_any La (n : Int) v vs set W h (by omega))
  have HL := Lib.hid (fun W => isLabel_any La (n : Int) v lab W)
  have H0 := Lib.hid (show (chkG La (n : Int) es == 0) = true by rw [hvg.chk]; rfl)
  have H1 := Lib.hid hsg.chk
  have H2 := Lib.hid (show inB La lab = true from decide_eq_true hl)
  have HVG := Lib.hid hvg
  have HSG := Lib.hid hsg
  have K0 := Lib.hid (SB.start w La n v lab 24 3)
  have HMK := Lib.hid (fun W => make_bools n (by omega) W)
  obtain ⟨a, c, rfl⟩ := hrd.form
  obtain ⟨a2, c2, rfl⟩ := hst.form
  clear hrd hst hvg hsg
  refine (callsIn_wide (n := 8)).1 ?_
  refine callsIn_of_wp_marks Tryd.func33 rfl trivial ?_ rfl
  simp only [Tryd.ntmps33, List.size_toArray, List.length_cons, List.length_nil, Nat.reduceAdd, Nat.reduceSub, Array.replicate_succ, Array.replicate_zero, List.push_toArray, List.append_toArray, List.nil_append, List.cons_append]
  gi_wp2_with (first
    | (refine ⟨trivial, ?_⟩; gi_at_call 66; (with_reducible refine (callsIn_wide.2 (HV.out _ (HRD.out.keep K0.out.b))).mono ?_); rintro e W1 ⟨rfl, b1⟩; (rw [H0.out]); (have K1 := Lib.hid (K0.out.keep b1)); (clear b1 K0); (obtain ⟨⟨g1, g2, g3⟩, g4, -⟩ := id K1.out))
    | (refine ⟨trivial, ?_⟩; gi_at_call 67; (with_reducible refine (callsIn_wide.2 (HC.out _ (IntsRd.keep HST.out K1.out.b))).mono ?_); rintro e W2 ⟨rfl, b2⟩; (rw [H1.out]); (have K2 := Lib.hid (K1.out.keep b2)); (clear b2 K1 g1 g2 g3 g4); (obtain ⟨⟨g1, g2, g3⟩, g4, -⟩ := id K2.out))
    | (refine ⟨trivial, ?_⟩; gi_at_call 64; (with_reducible refine (callsIn_wide.2 (HL.out _)).mono ?_); rintro e W3 ⟨rfl, b3⟩; (rw [H2.out]); (have K3 := Lib.hid (K2.out.keep b3)); (clear b3 K2 g1 g2 g3 g4); (obtain ⟨⟨g1, g2, g3⟩, g4, -⟩ := id K3.out)))
  rw [HMK.out]
  gi_wp2
  have S0 := Lib.hid (SR.start K3.out (by have := World.block_lt_of_cell? W3 ⟨w.heap.size + 1, 0, none⟩ K3.out.2.1; exact this))
  obtain ⟨R, hR⟩ : ∃ R, W3.heap.size = R := ⟨_, rfl⟩
  obtain ⟨W4, hW4⟩ : ∃ W4, (W3.alloc (.cells (madeCells #[.bool false] n) 4)).alloc (.cells #[.slice (some ⟨R, 0, none⟩) n n] 85) = W4 := ⟨_, rfl⟩
  rw [hR] at S0 ⊢
  rw [hW4] at S0 ⊢
  clear hR hW4 K3 g1 g2 g3 g4
  refine wpIn_loop_ghost_k (fun k act W => ∃ (i : Nat) (ds : List Deferred) (u10 u11 u12 u13 u33 u34 u35 u36 u37 u38 u39 u40 u41 u42 u43 u44 u45 u46 u47 u48 u49 u50 u51 : Value), i + k = set.length ∧ act = { tmps := #[.agg #[.int .i64 La, .int .i64 (n : Int), .slice a es.length c], .slice a2 set.length c2, .int .i64 lab, .pointer (some ⟨w.heap.size, 0, none⟩), undef, .pointer (some ⟨w.heap.size + 1, 0, none⟩), .slice none 0 0, .int .i64 0, .int .i64 0, .pointer (some ⟨R + 1, 0, none⟩), u10, u11, u12, u13, .agg #[.int .i64 La, .int .i64 (n : Int), .slice a es.length c], .bool true, .bool false, .agg #[.int .i64 La, .int .i64 (n : Int), .slice a es.length c], .slice a2 set.length c2, .int .i64 0, .int .i64 0, .bool false, undef, .agg #[.int .i64 La, .int .i64 (n : Int), .slice a es.length c], .int .i64 lab, .bool true, .bool false, .pointer (some ⟨w.heap.size, 1, none⟩), .int .i64 (n : Int), .slice (some ⟨R, 0, none⟩) n n, .slice a2 set.length c2, .int .i64 (set.length : Int), .int .i64 (i : Int), u33, u34, u35, u36, u37, u38, u39, u40, u41, u42, u43, u44, u45, u46, u47, u48, u49, u50, u51], defers := ds } ∧ Marks w.heap.size ds W ∧ SR w La n (.slice a es.length c) lab R (stepF es (set.take i) lab) W) set.length ?_ ?_
  · exact ⟨0, [], undef, undef, undef, undef, undef, undef, undef, undef, undef, undef, undef, undef, undef, undef, undef, undef, undef, undef, undef, undef, undef, undef, undef, by omega, rfl, trivial, S0.out.congr (fun t _ => by unfold stepF; simp)⟩
  · rintro k act W ⟨i, ds, u10, u11, u12, u13, u33, u34, u35, u36, u37, u38, u39, u40, u41, u42, u43, u44, u45, u46, u47, u48, u49, u50, u51, hik, rfl, hM, hS⟩ J K hJ hK
    clear S0
    dsimp only
    have hiw : w.heap.size ≤ W.heap.size := hS.sb.b.size
    have j0 := hS.cell
    have HS := Lib.hid hS
    rcases k with _ | k
    · have ie : i = set.length := by omega
      have HF := Lib.hid (show stepF es (set.take i) lab = stepF es set lab by rw [ie, List.take_length])
      have j1 : decide ((i : Int) < (set.length : Int)) = false := decide_eq_false (by omega)
      have j2 : decide (i < set.length) = false := decide_eq_false (by omega)
      have HME := Lib.hid (members_any n (stepF es (set.take i) lab) (.slice (some ⟨R, 0, none⟩) n n) W (hS.row.rd n) hn64)
      clear ie hik
      gi_wp2_with (refine ⟨trivial, ?_⟩; gi_at_call 69; (with_reducible refine (callsIn_wide.2 HME.out).mono ?_); rintro e W5 ⟨v5, rfl, i5, b5⟩)
      refine marks_leave (B := w.heap.size) (fun X => IntsAt X w.heap.size v5 (mems n (stepF es set lab)) ∧ Below w.heap.size w X) ?_ ?_ ds W5 (hM.below b5) ⟨?_, below_more HS.out.sb.b (Nat.le_refl _) b5⟩
      · rintro X r ⟨x1, x2⟩ hr hX
        exact ⟨ownsRow_putObj x1 _ hX rfl, below_put9 x2 r hr _⟩
      · rintro X ⟨x1, x2⟩
        exact ⟨.tuple #[v5, .int .i64 0], by simp [results, Tryd.results33, go_sem], v5, rfl, x1, x2⟩
      · rw [← HF.out]
        exact own_low i5 hiw
    · obtain ⟨s, hs⟩ : ∃ s, set[i]? = some s := ⟨_, List.getElem?_eq_getElem (by omega)⟩
      have hsb := HSG.out.bd s (List.mem_of_getElem? hs)
      obtain ⟨bb, off, c', hv, k1⟩ := (IntsRd.keep HST.out hS.sb.b).at hs
      injection hv with e1 e2 e3
      subst e1
      subst e3
      have j1 : decide ((i : Int) < (set.length : Int)) = true := decide_eq_true (by omega)
      have j2 : decide (i < set.length) = true := decide_eq_true (by omega)
      have j3 : (i : Int) < (set.length : Int) := by omega
      have HTK := Lib.hid (show set.take (i + 1) = set.take i ++ [s] by rw [List.take_add_one, hs]; rfl)
      obtain ⟨⟨g1, g2, g3⟩, g4, -⟩ := id hS.sb
      have SR5 := Lib.hid ((hS.keep (below1 W (.cells #[.int .i64 La, .int .i64 (n : Int), .slice a es.length c] 24))).keep (below1 _ (.cells #[.int .i64 s] 3)))
      have M5 := Lib.hid ((hM.below (below1 W (.cells #[.int .i64 La, .int .i64 (n : Int), .slice a es.length c] 24))).below (below1 _ (.cells #[.int .i64 s] 3)))
      have G5 := Lib.hid ((BoxG.new W La (n : Int) (.slice a es.length c) 24).keep (below1 _ (.cells #[.int .i64 s] 3)))
      have C5 := Lib.hid (show ((W.alloc (.cells #[.int .i64 La, .int .i64 (n : Int), .slice a es.length c] 24)).alloc (.cells #[.int .i64 s] 3)).cell? ⟨W.heap.size + 1, 0, none⟩ = some (.int .i64 s) by
        rw [← World.size_alloc W (.cells #[.int .i64 La, .int .i64 (n : Int), .slice a es.length c] 24)]; simp [go_sem])
      have Z5 := Lib.hid (show ((W.alloc (.cells #[.int .i64 La, .int .i64 (n : Int), .slice a es.length c] 24)).alloc (.cells #[.int .i64 s] 3)).heap.size = W.heap.size + 2 by rw [World.size_alloc, World.size_alloc])
      have RB := Lib.hid hS.lt
      have ML := Lib.hid (hM.lt)
      clear hS HS hM hs e2
      gi_wp2_with (refine ⟨trivial, ?_⟩; gi_at_call 68; (with_reducible refine (callsIn_wide.2 (leaving_any La (n : Int) s (.slice a es.length c) W)).mono ?_); rintro e W5 ⟨rfl, rfl⟩)
      obtain ⟨B, hB⟩ : ∃ B, W.heap.size = B := ⟨_, rfl⟩
      rw [hB] at RB hiw
      obtain ⟨W5, hW5⟩ : ∃ W5, (W.alloc (.cells #[.int .i64 La, .int .i64 (n : Int), .slice a es.length c] 24)).alloc (.cells #[.int .i64 s] 3) = W5 := ⟨_, rfl⟩
      rw [hW5] at SR5 M5 G5 C5 Z5 ⊢
      rw [hB] at G5 C5 Z5 ⊢
      have hRB := RB.out
      have hZ5 := Z5.out
      clear hW5 j0 k1 g1 g2 g3 g4
      have HVE := Lib.hid HVG.out.ok
      have HVA := Lib.hid HVG.out.asc
      refine wpIn_rangeFunc_ownH rfl (by omega) (gf := 102) (lb := #[.pointer (some ⟨B, 0, none⟩), .pointer (some ⟨B + 1, 0, none⟩)]) rfl trivial (enters_of Tryd.func102 (by kernel_rfl) rfl)
        (leaving_stops _ B w W5 La (n : Int) s (.slice a es.length c) es (by omega) HRD.out SR5.out.sb.b (by omega) G5.out C5.out hlen ⟨hsb.1, by omega⟩ (vg_from HVG.out) (vg_mono HVG.out)) (fun h h' => h.trans h') (KtG.turn (by omega) (by omega)) (Below.refl _ _) (fun _ => rfl)
        (fun pre X => SR w La n (.slice a es.length c) lab R (stepX es s (stepF es (set.take i) lab) lab pre) X ∧ Marks w.heap.size ds X ∧ B + 2 ≤ X.heap.size)
        (fun _ _ _ => False)
        (fun pre X Y row hs hg hr => ⟨hs.1.own hg (fun r e => by have := (hr r e).1; omega) (fun r e => (hr r e).2), hs.2.1.grown (D := B) (fun d hd r e => by have := ML.out d hd r e; omega) hg (fun r e => by have := (hr r e).1; omega), Nat.le_trans hs.2.2 hg.size⟩)
        (fun _ _ _ _ _ hs _ _ => hs)
        ⟨by rw [stepX_nil]; exact SR5.out, M5.out, by omega⟩
        (fun x a' X => ∃ Bx, B + 2 ≤ Bx ∧ Box3 X Bx es[x.1]! ∧ a' = { tmps := #[.agg #[.int .i64 La, .int .i64 (n : Int), .slice a es.length c], .slice (some ⟨bb, off, none⟩) set.length c2, .int .i64 lab, .pointer (some ⟨w.heap.size, 0, none⟩), undef, .pointer (some ⟨w.heap.size + 1, 0, none⟩), .slice none 0 0, .int .i64 0, .int .i64 0, .pointer (some ⟨R + 1, 0, none⟩), u10, .int .i64 s, u12, .pointer (some ⟨Bx, 0, none⟩), .agg #[.int .i64 La, .int .i64 (n : Int), .slice a es.length c], .bool true, .bool false, .agg #[.int .i64 La, .int .i64 (n : Int), .slice a es.length c], .slice (some ⟨bb, off, none⟩) set.length c2, .int .i64 0, .int .i64 0, .bool false, undef, .agg #[.int .i64 La, .int .i64 (n : Int), .slice a es.length c], .int .i64 lab, .bool true, .bool false, .pointer (some ⟨w.heap.size, 1, none⟩), .int .i64 (n : Int), .slice (some ⟨R, 0, none⟩) n n, .slice (some ⟨bb, off, none⟩) set.length c2, .int .i64 (set.length : Int), .int .i64 (i : Int), .bool true, .pointer (some ⟨bb, off + i, none⟩), .int .i64 s, .agg #[.int .i64 La, .int .i64 (n : Int), .slice a es.length c], .int .i64 s, .func (.func 102) #[] #[.pointer (some ⟨B, 0, none⟩), .pointer (some ⟨B + 1, 0, none⟩)], .int .i64 (x.1 : Int), edgV es[x.1]!, u41, u42, u43, u44, u45, u46, u47, u48, u49, u50, u51], defers := [] })
        (fun x a' _ X Y row hs hg hr => by
          obtain ⟨Bx, h1, h2, h3⟩ := hs
          exact ⟨Bx, h1, h2.own hg (fun r e => (hr r e).2), h3⟩)
        ?assign ?body ?done ?stop
      case assign =>
        rintro l pre x X K ⟨i1, i2, i3⟩ hK'
        have HKK := Lib.hid hK'
        have I1 := Lib.hid i1
        have I2 := Lib.hid i2
        obtain ⟨e, he⟩ : ∃ e, es[x.1]! = e := ⟨_, rfl⟩
        rw [he] at HKK ⊢
        have HE := Lib.hid he
        obtain ⟨e1, e2, e3⟩ := e
        clear hK' i1 i2 he hJ hK
        gi_wp2
        refine HKK.out _ _ ((KeepsOthers.alloc _ _).from _) (KtG.of_below (below1 X _) I1.out.sb.b.size (by omega)) ⟨I1.out.keep (below1 X _), I2.out.below (below1 X _), ?_⟩ ⟨X.heap.size, i3, Box3.new X e1 e2 e3 _, rfl⟩
        have := (below1 X (.cells #[.int .i64 e1, .int .i64 e2, .int .i64 e3] 63)).size
        omega
      case body =>
        rintro l pre x a' X hl ⟨r, hr⟩ ⟨i1, i2, i3⟩ ⟨Bx, hBx, bX, rfl⟩ hlt
        obtain ⟨e, he, hes⟩ := x.2
        obtain ⟨hx, he'⟩ := List.getElem?_eq_some_iff.1 he
        have hee : es[x.1]! = e := by rw [getElem!_pos es x.1 hx]; exact he'
        have hok := okE_iff.1 (HVE.out e (List.mem_of_getElem? he))
        have HSN := Lib.hid (fun t => stepX_snoc (s := s) (f := stepF es (set.take i) lab) (lab := lab) (pre := pre) hee t)
        rw [hee] at bX ⊢
        obtain ⟨x1, x2, x3, -⟩ := id bX
        have x4 := i1.sb.2.1
        have x5 := i1.cell
        have I1 := Lib.hid i1
        have I2 := Lib.hid i2
        obtain ⟨e1, e2, e3⟩ := e
        dsimp only at x1 x2 x3 hok HSN
        obtain ⟨t, ht⟩ : ∃ t : Nat, e3 = (t : Int) := ⟨e3.toNat, by omega⟩
        have htn : t < n := by omega
        subst ht
        have hXB := i1.sb.b.size
        clear i1 i2 he hes hx he' hee bX hok hJ hK hr
        cases hb : (e2 == lab) with
        | true =>
          have HC := Lib.hid (show ∀ j, j < n → stepX es s (stepF es (set.take i) lab) lab (pre ++ [x]) j = (fun j => if j = t then true else stepX es s (stepF es (set.take i) lab) lab pre j) j from fun j _ => by
            rw [HSN.out j, hb]
            by_cases hj : j = t
            · subst hj; simp
            · have : ((t : Int) == (j : Int)) = false := by
                rw [beq_eq_false_iff_ne]; omega
              simp [this, hj])
          have q1 : (t : Int) < (n : Int) := by omega
          have q2 : X.cell? ⟨R, t, none⟩ = some (.bool (stepX es s (stepF es (set.take i) lab) lab pre t)) := World.rowIs.cell I1.out.row htn
          have q3 := I1.out.row.frozen t
          clear HSN
          gi_wp2
          refine ⟨(KeepsOthers.setCell _ _ _).from _, ?_, ?_, ?_, ?_⟩
          · exact (KtG.setc ⟨Below.refl _ _, rfl, rfl⟩ (a := ⟨R, t, none⟩) (by show w.heap.size ≤ R; have := I1.out.lo; omega) (by show R < B; omega) _)
          · exact (I1.out.put t).congr (fun j hj => (HC.out j hj).symm)
          · exact I2.out.kept (KeepsOthers.setCell _ _ _)
          · exact Nat.le_trans i3 (KeepsOthers.setCell X ⟨R, t, none⟩ (.bool true)).size
        | false =>
          have HC := Lib.hid (show ∀ j, j < n → stepX es s (stepF es (set.take i) lab) lab pre j = stepX es s (stepF es (set.take i) lab) lab (pre ++ [x]) j from fun j _ => by
            rw [HSN.out j, hb]; simp)
          clear HSN
          gi_wp2
          exact ⟨KeepsFrom.refl _ _, ⟨Below.refl _ _, rfl, rfl⟩, I1.out.congr HC.out, I2.out, i3⟩
      case done =>
        rintro D xs X hD hxs ⟨i1, i2, i3⟩ hDX
        have HI := Lib.hid (show SR w La n (.slice a es.length c) lab R (stepF es (set.take (i + 1)) lab) X by rw [HTK.out]; exact i1.congr (fun t _ => stepX_all hxs t))
        have HM := Lib.hid (i2.more (W := X) (a := #[]) (D := D) (fun d hd r e => by have := ML.out d hd r e; omega) (by omega) hDX)
        clear i1 i2 hxs hDX
        gi_wp2
        refine Handed.intro k (by omega) (hJ _ _ _ ?_)
        rw [show (i : Int) + 1 = ((i + 1 : Nat) : Int) from by omega]
        exact ⟨i + 1, _, _, _, _, _, _, _, _, _, _, _, _, _, _, _, _, _, _, _, _, _, _, _, _, by omega, rfl, HM.out, HI.out⟩
      case stop =>
        rintro D cc pre X _ _ h _
        exact h.elim
end Go.Proofs.YtblkijdodojaeaaDoor
