/- What component.allLengths returns. Conditions: at most 64 states, at most 1024 edges, between states. What component.components' function yields: the components, in the order of their least states. Conditions: at most 64 states, at most 1024 edges, between states. What component.chosen returns: the components for which a function returns true. Condition: the edges can be read. -/
import Derived.Test.YtiockphjnkehnaaGreatDoorQ30
import Derived.Test.YtiockphjnkehnaaGreatDoorQ02
import Derived.Sort.QuietIn
import Derived.Sort.LoopGhostIn
import Derived.RangeFuncBox

namespace Go.Proofs.YtiockphjnkehnaaGreatDoor
open Go.RowKit
set_option linter.unusedSimpArgs false
set_option linter.unusedVariables false

structure Sq (es : List E3) (n b k : Nat) (vs : Nat → Value) (W : World) : Prop where
  row : W.rowIs b 30 n vs
  el : ∀ j, j < k → ∃ g, vs j = .slice (some ⟨g, 0, none⟩) n n ∧ b < g ∧ IRow W g n (lenF es n j)
section
variable {es : List E3} {n b k : Nat} {vs : Nat → Value} {W W' : World}
theorem Sq.keep (h : Sq es n b k vs W) (hb : Below W.heap.size W W') : Sq es n b k vs W' :=
  ⟨World.rowIs.of_block h.row (hb.block b (World.rowIs.lt h.row)), fun j hj => by
    obtain ⟨g, h1, h2, h3⟩ := h.el j hj
    exact ⟨g, h1, h2, h3.keep hb⟩⟩
theorem Sq.lt (h : Sq es n b k vs W) : b < W.heap.size := World.rowIs.lt h.row
theorem Sq.blocks {m M : Nat} (h : Sq es n b k vs W) (hm : W.heap.size ≤ M) (hmb : m ≤ b) (hb : ∀ q, m ≤ q → q < M → W'.heap[q]? = W.heap[q]?) : Sq es n b k vs W' :=
  ⟨World.rowIs.of_block h.row (hb b hmb (by have := h.lt; omega)), fun j hj => by
    obtain ⟨g, h1, h2, h3⟩ := h.el j hj
    exact ⟨g, h1, h2, World.rowIs.of_block h3 (hb g (by omega) (by have := h3.lt; omega))⟩⟩
theorem Sq.put (h : Sq es n b k vs W) {g : Nat} (hg : b < g) (hr : IRow W g n (lenF es n k)) : Sq es n b (k + 1) (upd vs k (.slice (some ⟨g, 0, none⟩) n n)) (W.setCell ⟨b, k, none⟩ (.slice (some ⟨g, 0, none⟩) n n)) := by
  refine ⟨World.rowIs.congr (World.rowIs.set h.row k _) (fun j _ => by unfold upd; dsimp only), fun j hj => ?_⟩
  unfold upd
  by_cases hjk : j = k
  · subst hjk
    rw [if_pos rfl]
    exact ⟨g, rfl, hg, hr.other (by show g ≠ b; omega) _⟩
  · rw [if_neg hjk]
    obtain ⟨g', h1, h2, h3⟩ := h.el j (by omega)
    exact ⟨g', h1, h2, h3.other (by show g' ≠ b; omega) _⟩
theorem Sq.at (h : Sq es n b n vs W) {s t : Nat} (hs : s < n) (ht : t < n) : ∃ g, W.cell? ⟨b, s, none⟩ = some (.slice (some ⟨g, 0, none⟩) n n) ∧ W.cell? ⟨g, t, none⟩ = some (.int .i64 (lenF es n s t)) := by
  obtain ⟨g, h1, h2, h3⟩ := h.el s hs
  exact ⟨g, by rw [World.rowIs.cell h.row hs, h1], h3.cell ht⟩
end
set_option maxRecDepth 100000 in
set_option maxHeartbeats 6400000 in
theorem all_any (L : Int) (n : Nat) (es : List E3) (v : Value) (w : World) (hrd : EdgesRd w v es) (hn : n ≤ 64) (hok : ∀ e ∈ es, okE L (n : Int) e = true) (hlen : es.length ≤ 1024) :
    Calls Tryz.prog 102 #[grV L (n : Int) v] w fun e w' => ∃ b vs, e = .returned (.slice (some ⟨b, 0, none⟩) n n) ∧ Sq es n b n vs w' ∧ w.heap.size ≤ b ∧ Below w.heap.size w w' := by
  have HMR := make_rows n (by omega)
  obtain ⟨a, c, rfl⟩ := hrd.form
  have b1 := below1 w (.cells #[.int .i64 L, .int .i64 (n : Int), .slice a es.length c] 24)
  have HT := Lib.hid (targets_any L n es (.slice a es.length c) (w.alloc (.cells #[.int .i64 L, .int .i64 (n : Int), .slice a es.length c] 24)) (hrd.keep b1) hn hok hlen)
  have G1 := BoxG.new w L (n : Int) (.slice a es.length c) 24
  obtain ⟨x1, x2, x3⟩ := id G1
  have HNX := Lib.hid (show ∀ s, s < n → ∀ u ∈ (fun s : Nat => tgE es (s : Int)) s, 0 ≤ u ∧ u < (n : Int) from fun s _ u hu => by
    obtain ⟨e, he, -, rfl⟩ := tgE_mem.1 hu
    have := okE_iff.1 (hok e he); omega)
  have HL := Lib.hid (show ∀ s, ((fun s : Nat => tgE es (s : Int)) s).length ≤ 100000 from fun s => by have := tgE_len es (s : Int); show (tgE es (s : Int)).length ≤ _; omega)
  have HG1 := Lib.hid G1
  have B1 := Lib.hid b1
  clear hrd hok b1 G1
  go_enter Tryz.func102, Tryz.ntmps102
  go_upto_region 2 with (go_at_call 114; (with_reducible refine HT.out.mono ?_); rintro e W2 ⟨vs0, rfl, r2, b2⟩; clear x1 x2 x3)
  obtain ⟨P1, hP1⟩ : ∃ P1, w.heap.size + 1 + 1 = P1 := ⟨_, rfl⟩
  rw [World.size_alloc, hP1] at r2
  rw [hP1]
  have G2 := HG1.out.keep b2
  have b2 := below_more B1.out (Nat.le_refl _) b2
  have NXT := Lib.hid (rows_rd r2 n)
  obtain ⟨x1, x2, x3⟩ := id G2
  obtain ⟨W3, hW3⟩ : ∃ W3, W2.alloc (.cells (madeCells #[.slice none 0 0] n) 30) = W3 := ⟨_, rfl⟩
  obtain ⟨b, hb⟩ : ∃ b, W2.heap.size = b := ⟨_, rfl⟩
  have S3 : Sq es n b 0 (fun _ => .slice none 0 0) W3 := by
    rw [← hW3, ← hb]; exact ⟨World.rowIs_made W2 _ n _, fun j hj => absurd hj (Nat.not_lt_zero _)⟩
  have b3 : Below b W2 W3 := by rw [← hW3, ← hb]; exact below1 _ _
  have hwb : w.heap.size ≤ b := by rw [← hb]; exact b2.size
  have HS3 := Lib.hid S3
  have HB3 := Lib.hid b3
  have HB2 := Lib.hid b2
  clear r2 hP1 HG1 B1 HT S3 b3 b2 G2
  have HW3 := Lib.hid hW3
  have HBB := Lib.hid hb
  clear hW3 hb
  go_wp2_with fail
  rw [HW3.out, HBB.out]
  have hb := HBB.out
  clear x1 x2 x3 HW3 HBB
  go_loopg [13] n (fun q s13 wx => ∃ (i : Nat) (vs : Nat → Value), i + q = n ∧ s13 = .int .i64 (i : Int) ∧ Hid (Sq es n b i vs wx) ∧ Hid (Below b W2 wx))
  case atStart => exact ⟨0, _, by omega, rfl, HS3, HB3⟩
  case round =>
    clear HS3 HB3
    obtain ⟨i, vs, hin, rfl, HS, HB⟩ := hrel
    rcases gk with _ | q
    · obtain rfl : i = n := by omega
      go_wp2_with fail
      go_ret
      exact ⟨b, vs, rfl, HS.out, hwb, HB2.out.trans (HB.out.mono (by omega))⟩
    · have hiN : i < n := by omega
      have HLA := Lib.hid (lengths_any n (.slice (some ⟨P1, 0, none⟩) n n) (fun s => tgE es (s : Int)) i wr (by omega) (NXT.out.keep (by rw [hb]; exact HB.out)) HNX.out HL.out hiN)
      have j1 : (i : Int) < (n : Int) := by omega
      have hblt := HS.out.lt
      have cE := World.rowIs.cell HS.out.row hiN
      have fE := World.rowIs.frozen HS.out.row i
      have HKE := Lib.hid (fun X (h : Below wr.heap.size wr X) => And.intro (cell_keep cE h) (frozen_keep cE fE h))
      clear cE fE
      go_wp2_with (go_at_call 115; (with_reducible refine HLA.out.mono ?_); rintro e W5 ⟨rfl, i5, b5⟩; (obtain ⟨c5, f5⟩ := HKE.out W5 b5); (have HS5 := Lib.hid ((HS.out.keep b5).put (by omega) i5)); (have HB5 := Lib.hid ((below_more HB.out (by omega) b5).setCell (p := ⟨b, i, none⟩) (Nat.le_refl _) (.slice (some ⟨wr.heap.size + 2, 0, none⟩) n n))); clear i5 b5)
      go_roundg q
      case measure => omega
      case rel => exact ⟨i + 1, _, by omega, by go_num, HS5, HB5⟩
end Go.Proofs.YtiockphjnkehnaaGreatDoor

namespace Go.Proofs.YtiockphjnkehnaaGreatDoor
open Go.RowKit Go.Shelf
attribute [local go_sem] Oper.semAt_some
set_option linter.unusedSimpArgs false
set_option linter.unusedVariables false

structure KpC (N B S R : Nat) (X X' : World) : Prop where
  b : Below N X X'
  g : X'.heap[B]? = X.heap[B]?
  m : ∀ q, S ≤ q → q ≤ R → X'.heap[q]? = X.heap[q]?
structure OC (w0 W X0 : World) (B n R : Nat) (f : Nat → Bool) (X : World) : Prop where
  b : Below w0.heap.size w0 X
  g : X.heap[B]? = W.heap[B]?
  m : ∀ q, W.heap.size ≤ q → q < R → X.heap[q]? = X0.heap[q]?
  pl : BRow X R n f
section
variable {w0 W X0 X X' X1 : World} {B n R : Nat} {f f' : Nat → Bool}
theorem OC.lt (h : OC w0 W X0 B n R f X) : R < X.heap.size := World.rowIs.lt h.pl
theorem OC.congr (h : OC w0 W X0 B n R f X) (e : ∀ i, i < n → f i = f' i) : OC w0 W X0 B n R f' X := { h with pl := h.pl.congr e }
theorem OC.round (h : OC w0 W X0 B n R f X) (hS : W.heap.size ≤ R) (k : KpC w0.heap.size B W.heap.size R X X') : OC w0 W X0 B n R f X' :=
  ⟨h.b.trans k.b, k.g.trans h.g, fun q h1 h2 => (k.m q h1 (by omega)).trans (h.m q h1 h2), World.rowIs.of_block h.pl (k.m R hS (Nat.le_refl _))⟩
theorem OC.below (h : OC w0 W X0 B n R f X) (hB : B < R) (hb : Below X.heap.size X X') : OC w0 W X0 B n R f X' := by
  have hR := h.lt
  exact ⟨below_more h.b (Nat.le_refl _) hb, (hb.block B (by omega)).trans h.g, fun q h1 h2 => (hb.block q (by omega)).trans (h.m q h1 h2), h.pl.keep hb⟩
theorem OC.above (h : OC w0 W X0 B n R f X) (hB : B < R) (hw : w0.heap.size ≤ R) {row : Option Nat} (hg : X.grownBy X' row) (hr : ∀ k, row = some k → R < k) : OC w0 W X0 B n R f X' := by
  have hR := h.lt
  have hk : ∀ q, q ≤ R → X'.heap[q]? = X.heap[q]? := fun q hq => hg.block q (by omega) (fun e => by have := hr q e.symm; omega)
  exact ⟨h.b.grown hg h.b.size (fun k e => by have := hr k e; omega), (hk B (by omega)).trans h.g, fun q h1 h2 => (hk q (by omega)).trans (h.m q h1 h2), World.rowIs.of_block h.pl (hk R (Nat.le_refl _))⟩
theorem OC.set (h : OC w0 W X0 B n R f X) (hB : B < R) (hw : w0.heap.size ≤ R) (t : Nat) (x : Bool) : OC w0 W X0 B n R (fun j => if j = t then x else f j) (X.setCell ⟨R, t, none⟩ (.bool x)) := by
  have hk : ∀ q, q ≠ R → (X.setCell ⟨R, t, none⟩ (.bool x)).heap[q]? = X.heap[q]? := fun q hq => Below.heap_setCell _ _ _ _ (by exact hq)
  exact ⟨h.b.setCell hw _, (hk B (by omega)).trans h.g, fun q h1 h2 => (hk q (by omega)).trans (h.m q h1 h2), h.pl.set t x⟩
theorem OC.box (h : OC w0 W X0 B n R f X) {La S : Int} {v : Value} (hg : BoxG W B La S v) : BoxG X B La S v :=
  ⟨(World.cell?_of_block (a := ⟨B, 0, none⟩) h.g).trans hg.1, (World.cell?_of_block (a := ⟨B, 1, none⟩) h.g).trans hg.2.1, (World.cell?_of_block (a := ⟨B, 2, none⟩) h.g).trans hg.2.2⟩
theorem OC.sq (h : OC w0 W X0 B n R f X) {es : List E3} {b k : Nat} {vs : Nat → Value} (hs : Sq es n b k vs X0) (hb : W.heap.size ≤ b) (hX : X0.heap.size = R) : Sq es n b k vs X :=
  hs.blocks (m := W.heap.size) (M := R) (by omega) hb (fun q h1 h2 => h.m q h1 h2)
end
theorem gb_refl (X : World) (row : Option Nat) : X.grownBy X row := World.grownBy.refl X row
theorem gb_below {X Y Z : World} {row : Option Nat} (h : X.grownBy Y row) (hb : Below Y.heap.size Y Z) : X.grownBy Z row :=
  ⟨hb.os.trans h.os, hb.tape.trans h.tape, hb.output.trans h.output, Nat.le_trans h.size hb.size, fun k hk hn => (hb.block k (Nat.lt_of_lt_of_le hk h.size)).trans (h.block k hk hn)⟩
theorem gb_above {X Y Z : World} {row row2 : Option Nat} (h : X.grownBy Y row) (hg : Y.grownBy Z row2) (hr : ∀ k, row2 = some k → X.heap.size ≤ k ∨ some k = row) : X.grownBy Z row :=
  ⟨hg.os.trans h.os, hg.tape.trans h.tape, hg.output.trans h.output, Nat.le_trans h.size hg.size, fun k hk hn => (hg.block k (Nat.lt_of_lt_of_le hk h.size) (fun e => by
    rcases hr k e.symm with h1 | h1
    · omega
    · exact hn h1)).trans (h.block k hk hn)⟩
theorem gb_set (X : World) (R t : Nat) (v : Value) : X.grownBy (X.setCell ⟨R, t, none⟩ v) (some R) :=
  have hb := (Below.refl R X).setCell (p := ⟨R, t, none⟩) (Nat.le_refl _) v
  ⟨hb.os, hb.tape, hb.output, hb.size, fun k hk hn => Below.heap_setCell _ _ _ _ (by show k ≠ R; exact fun e => hn (by rw [e]))⟩
def nV : Value → Nat
  | .int _ z => z.toNat
  | _ => 0
def plT (es : List E3) (n k t : Nat) : Nat → Bool := fun j => placedB es n k j || (decide (j < t) && compB es n k j)
theorem plT_zero (es : List E3) (n k j : Nat) : plT es n k 0 j = placedB es n k j := by unfold plT; simp
theorem plT_end {es : List E3} {n k j : Nat} (hj : j < n) : plT es n k n j = placedB es n (k + 1) j := by unfold plT; rw [placed_step, decide_eq_true hj, Bool.true_and]
theorem plT_no {es : List E3} {n k t : Nat} (h : compB es n k t = false) (j : Nat) : plT es n k t j = plT es n k (t + 1) j := by
  unfold plT
  by_cases hj : j = t
  · subst hj; rw [h]; simp
  · rw [show decide (j < t) = decide (j < t + 1) from decide_eq_decide.2 (by omega)]
theorem plT_yes {es : List E3} {n k t : Nat} (h : compB es n k t = true) (j : Nat) : (if j = t then true else plT es n k t j) = plT es n k (t + 1) j := by
  unfold plT
  by_cases hj : j = t
  · subst hj; rw [if_pos rfl, h]; simp
  · rw [if_neg hj, show decide (j < t) = decide (j < t + 1) from decide_eq_decide.2 (by omega)]
set_option maxRecDepth 100000 in
set_option maxHeartbeats 12800000 in
theorem comps_in (m l B : Nat) (w0 W : World) (La : Int) (n : Nat) (v : Value) (es : List E3) (J : Nat → List Nat → World → Prop) (hm : 1 ≤ m) (hn : n ≤ 64) (hok : ∀ e ∈ es, okE La (n : Int) e = true) (hlen : es.length ≤ 1024)
    (hJ : ∀ R pre X Y row, W.heap.size ≤ R → J R pre X → X.grownBy Y row → (row = none ∨ row = some R) → J R pre Y)
    (hY : ∀ R pre s u X, W.heap.size ≤ R → R < X.heap.size → J R pre X → pre.length ≤ 64 → s ∈ repsK es n n → IntsAt X (R + 1) u (compF es n s) →
      YieldAt Fence.wide (m - 1) Tryz.prog l #[u] X fun e X' => e = .returned (.bool true) ∧ J R (pre ++ [s]) X' ∧ KpC w0.heap.size B W.heap.size R X X')
    (hrd : EdgesRd w0 v es) (hW0 : Below w0.heap.size w0 W) (hB : B < W.heap.size) (hg : BoxG W B La (n : Int) v) (h0 : ∀ R, J R [] W) :
    CallsIn Fence.wide m Tryz.prog 101 #[.func (.yield l) #[] #[], .pointer (some ⟨B, 0, none⟩)] W fun e W' => (∃ u, e = .returned u) ∧ ∃ R, W.heap.size ≤ R ∧ J R (repsK es n n) W' := by
  have hmx : Tryz.prog.follows .mixedOrders = true := by kernel_rfl
  obtain ⟨i0, hi, hz0, hz1, hz2⟩ := info_parts Tryz.infoI64
  have HMB := make_bools n (by omega)
  have HY := Lib.hid hY
  have HJ := Lib.hid hJ
  have HOK := Lib.hid hok
  have HG := Lib.hid hg
  have HA := Lib.hid (all_any La n es v W (hrd.keep hW0) hn hok hlen)
  have HW0 := Lib.hid hW0
  have hsz0 := hW0.size
  obtain ⟨g1, g2, g3⟩ := id hg
  clear hY hJ hok hg hrd hW0
  refine callsIn_of_wp Tryz.func101 rfl trivial ?_ rfl
  simp only [Tryz.ntmps101, List.size_toArray, List.length_cons, List.length_nil, Nat.reduceAdd, Nat.reduceSub, Array.replicate_succ, Array.replicate_zero, List.push_toArray, List.append_toArray, List.nil_append, List.cons_append]
  gi_wp2_with (refine ⟨trivial, ?_⟩; gi_at_call 102; (with_reducible refine (callsIn_wide.2 HA.out).mono ?_); rintro e X0 ⟨b, vs, rfl, sq0, hb0, b0⟩; clear g1 g2 g3; (obtain ⟨g1, g2, g3⟩ := (HG.out.keep b0)); (have h2 := cell_keep g2 (below1 X0 (.cells (madeCells #[.bool false] n) 4))); (have HSQ := Lib.hid sq0); (have HB0 := Lib.hid b0); clear sq0 b0)
  obtain ⟨R, hR⟩ : ∃ R, X0.heap.size = R := ⟨_, rfl⟩
  have hWR : W.heap.size ≤ R := by rw [← hR]; exact HB0.out.size
  have O1 : OC w0 W X0 B n R (placedB es n 0) (X0.alloc (.cells (madeCells #[.bool false] n) 4)) := by
    have k1 := below1 X0 (.cells (madeCells #[.bool false] n) 4)
    have k2 := HB0.out.trans (k1.mono HB0.out.size)
    exact ⟨HW0.out.trans (k2.mono hsz0), k2.block B hB, fun q h1 h2 => k1.block q (by omega), by rw [← hR]; exact (BRow.made X0 n).congr (fun i _ => (placed_zero es n i).symm)⟩
  have J1 := HJ.out R [] W _ none hWR (h0 R) (grown_none (below_more HB0.out (Nat.le_refl _) (below1 X0 (.cells (madeCells #[.bool false] n) 4)))) (.inl rfl)
  have HR := Lib.hid hR
  have HO1 := Lib.hid O1
  rw [hR]
  clear hR O1 g1 g2 g3 h2
  generalize X0.alloc (.cells (madeCells #[.bool false] n) 4) = X1 at *
  gi_loopw [15] (fun s15 wr => ∃ k : Nat, s15 = .int .i64 (k : Int) ∧ k ≤ n ∧ J R (repsK es n k) wr ∧ Hid (OC w0 W X0 B n R (placedB es n k) wr)) (fun s15 _ => n - nV s15)
  case atStart => exact ⟨0, rfl, Nat.zero_le _, J1, HO1⟩
  case round =>
    clear J1 HO1 h0
    obtain ⟨k, rfl, hkn, hJk, HO⟩ := hrel
    obtain ⟨g1, g2, g3⟩ := HO.out.box HG.out
    rcases Nat.lt_or_ge k n with hlt | hge
    · have j1 : decide ((k : Int) < (n : Int)) = true := decide_eq_true (by omega)
      have j2 : decide (k < n) = true := decide_eq_true hlt
      have j3 : (k : Int) < (n : Int) := by omega
      have c1 := World.rowIs.cell HO.out.pl hlt
      have HP := Lib.hid (placed_rep es n k)
      have HRS := Lib.hid (repsK_step es n k)
      cases hp : placedB es n k k with
      | true =>
        rw [hp] at c1
        have hr : repB es n k = false := by have := HP.out; rw [hp] at this; cases h : repB es n k with | false => rfl | true => rw [h] at this; cases this
        have HO2 := Lib.hid (HO.out.congr (f' := placedB es n (k + 1)) (fun i hi => (placed_skip HOK.out hlt hi hr).symm))
        have hJ2 : J R (repsK es n (k + 1)) wr := by rw [HRS.out, if_neg (by rw [hr]; decide)]; exact hJk
        clear hJk HP HRS hp hr
        gi_wp2
        go_roundw
        case rel => exact ⟨k + 1, by go_num, by omega, hJ2, HO2⟩
        case measure => simp [nV]; omega
      | false =>
        rw [hp] at c1
        have hr : repB es n k = true := by have := HP.out; rw [hp] at this; cases h : repB es n k with | true => rfl | false => rw [h] at this; cases this
        have hmem : k ∈ repsK es n n := by unfold repsK; exact List.mem_filter.2 ⟨List.mem_range.2 hlt, hr⟩
        have HRS2 := Lib.hid (show repsK es n (k + 1) = repsK es n k ++ [k] by rw [HRS.out, if_pos hr])
        clear HP HRS hp hr
        gi_wp2
        have HRw := HO.out.lt
        obtain ⟨Wo, hWo⟩ : ∃ Wo, Wo = wr := ⟨_, rfl⟩
        have HI0 := Lib.hid (show IntsAt wr Wo.heap.size (.slice none 0 0) (mems 0 (compB es n k)) from ints_nil _ _)
        have HO3 := Lib.hid (HO.out.congr (f' := plT es n k 0) (fun i _ => (plT_zero es n k i).symm))
        have HG3 := Lib.hid (show Wo.grownBy wr (some R) by rw [hWo]; exact gb_refl wr (some R))
        rw [← hWo] at hJk HRw
        clear g1 g2 g3 c1 HO hWo
        gi_loopw [6, 24] (fun s6 s24 wx => ∃ t : Nat, s24 = .int .i64 (t : Int) ∧ t ≤ n ∧ Hid (IntsAt wx Wo.heap.size s6 (mems t (compB es n k))) ∧ Hid (OC w0 W X0 B n R (plT es n k t) wx) ∧ Hid (Wo.grownBy wx (some R))) (fun _ s24 _ => n - nV s24)
        case atStart => exact ⟨0, rfl, Nat.zero_le _, HI0, HO3, HG3⟩
        case round =>
          clear HI0 HO3 HG3
          obtain ⟨t, rfl, htn, HI, HO, HG2⟩ := hrel
          rcases Nat.lt_or_ge t n with hlt2 | hge2
          · have i1 : decide ((t : Int) < (n : Int)) = true := decide_eq_true (by omega)
            have i2 : decide (t < n) = true := decide_eq_true hlt2
            have i3 : (t : Int) < (n : Int) := by omega
            have SQ := HO.out.sq HSQ.out hb0 HR.out
            obtain ⟨p1, c1, c2⟩ := SQ.at hlt hlt2
            obtain ⟨p2, c3, c4⟩ := SQ.at hlt2 hlt
            have HM := Lib.hid (mems_succ t (compB es n k))
            have HCB := Lib.hid (show compB es n k t = (rb es n k t && rb es n t k) from rfl)
            have HN := Lib.hid (fun h => plT_no (es := es) (n := n) (k := k) (t := t) h)
            have HYS := Lib.hid (fun h => plT_yes (es := es) (n := n) (k := k) (t := t) h)
            unfold rb at HCB
            obtain ⟨z1, hz1'⟩ : ∃ z, lenF es n k t = z := ⟨_, rfl⟩
            obtain ⟨z2, hz2'⟩ : ∃ z, lenF es n t k = z := ⟨_, rfl⟩
            rw [hz1'] at c2 HCB
            rw [hz2'] at c4 HCB
            clear SQ hz1' hz2'
            by_cases d1 : z1 = -1
            · have e1 : (z1 != -1) = false := by simpa using d1
              have hcb : compB es n k t = false := by rw [HCB.out, d1]; simp
              have HI2 := Lib.hid (show IntsAt wr Wo.heap.size u6 (mems (t + 1) (compB es n k)) by rw [HM.out, hcb]; simpa using HI.out)
              have HO2 := Lib.hid (HO.out.congr (fun i _ => HN.out hcb i))
              clear d1 hcb HI HO HM HCB HN HYS c3 c4
              gi_wp2
              go_roundw
              case rel => exact ⟨t + 1, by go_num, by omega, HI2, HO2, HG2⟩
              case measure => simp [nV]; omega
            · have e1 : (z1 != -1) = true := by simpa using d1
              by_cases d2 : z2 = -1
              · have e2 : (z2 != -1) = false := by simpa using d2
                have hcb : compB es n k t = false := by rw [HCB.out, d2]; simp
                have HI2 := Lib.hid (show IntsAt wr Wo.heap.size u6 (mems (t + 1) (compB es n k)) by rw [HM.out, hcb]; simpa using HI.out)
                have HO2 := Lib.hid (HO.out.congr (fun i _ => HN.out hcb i))
                clear d1 d2 hcb HI HO HM HCB HN HYS
                gi_wp2
                go_roundw
                case rel => exact ⟨t + 1, by go_num, by omega, HI2, HO2, HG2⟩
                case measure => simp [nV]; omega
              · have e2 : (z2 != -1) = true := by simpa using d2
                have hcb : compB es n k t = true := by rw [HCB.out]; simp [d1, d2]
                have HM2 := Lib.hid (show mems (t + 1) (compB es n k) = mems t (compB es n k) ++ [(t : Int)] by rw [HM.out, hcb]; rfl)
                have hml := mems_len t (compB es n k)
                have HYT := Lib.hid (fun j => HYS.out hcb j)
                have hBR : B < R := by omega
                have hwR : w0.heap.size ≤ R := by omega
                have hown : wr.ownsRow Wo.heap.size 3 1 u6 (mems t (compB es n k)).length (intz (mems t (compB es n k))) := HI.out
                have hWw := HG2.out.size
                have hl6 := hown.lt
                obtain ⟨x, hx⟩ : ∃ x, plT es n k t t = x := ⟨_, rfl⟩
                have HX := Lib.hid hx
                obtain ⟨L6, hL6⟩ : ∃ L6, mems t (compB es n k) = L6 := ⟨_, rfl⟩
                rw [hL6] at hown hml HM2
                clear d1 d2 hcb HM HCB HN HYS HI hx hL6
                gi_wp2_with (gi_at_builtin; refine wpListIn_append_own _ rfl _ _ 30 rfl Wo.heap.size 3 i0 (.int .i64 0) 1 8 Tryz.underlying30 hi hz0 hz1 hz2 rfl (by decide) _ _ _ rfl (hown.alloc _) ⟨wr.heap.size, 0, none⟩ 1 1 [.int .i64 (t : Int)] rfl rfl (World.news_of_block (cs := #[.int .i64 (t : Int)]) (t := 3) (fr := (0, 0)) (heap_alloc_new wr _)) (by simp [Value.oneCell']) (by unfold maxLen; omega) (by omega) (by rw [World.size_alloc]; omega) ?_; intro v' w4 hown4 hgrow4 hv4; (have O4 := ((HO.out.below hBR (below1 wr (.cells #[.int .i64 (t : Int)] 3))).above hBR hwR hgrow4 (fun q e => by have := (hl6 q e).1; omega))); (have G4 := Lib.hid (gb_above (gb_below HG2.out (below1 wr (.cells #[.int .i64 (t : Int)] 3))) hgrow4 (fun q e => .inl (hl6 q e).1))); (have c5 := World.rowIs.cell O4.pl hlt2); (have f5 := World.rowIs.frozen O4.pl t); (rw [HX.out] at c5); (have HO4 := Lib.hid O4); (have HI4 := Lib.hid (show IntsAt w4 Wo.heap.size v' (mems (t + 1) (compB es n k)) by unfold IntsAt; rw [HM2.out, intz_snoc, List.length_append]; exact hown4)); (obtain ⟨g', cap', rfl, -, -⟩ := hown4.form (Nat.succ_pos _)); clear O4 hgrow4 hv4 hown4 c1 c2 c3 c4)
                have HI5 := Lib.hid (ownsRow_setCell_below (a := ⟨R, t, none⟩) HI4.out (by exact HRw) (.bool true))
                have HO5 := Lib.hid ((HO4.out.set hBR hwR t true).congr (fun i _ => HYT.out i))
                have HG5 := Lib.hid (gb_above G4.out (gb_set _ R t (.bool true)) (fun q e => .inr e.symm))
                go_roundw
                case rel => exact ⟨t + 1, by go_num, by omega, HI5, HO5, HG5⟩
                case measure => simp [nV]; omega
          · obtain rfl : t = n := by omega
            have i1 : decide ((t : Int) < (t : Int)) = false := decide_eq_false (by omega)
            have i2 : decide (t < t) = false := decide_eq_false (by omega)
            have hJ2 := HJ.out R _ Wo wr (some R) hWR hJk HG2.out (.inr rfl)
            have HYD := Lib.hid (HY.out R _ k u6 wr hWR HO.out.lt hJ2 (by have := reps_len es t k; omega) hmem (own_low HI.out (by omega)))
            have HO5 := Lib.hid (HO.out.congr (f' := placedB es t (k + 1)) (fun i hi => plT_end hi))
            clear hJ2 hJk HI HO HG2
            obtain ⟨fn, tmps, assign, body, hy, hR2⟩ := HYD.out
            gi_wp2
            refine hR2.mono ?_
            rintro e W3 ⟨rfl, hJ3, hk3⟩
            have HO6 := Lib.hid (HO5.out.round hWR hk3)
            have hJ4 : J R (repsK es t (k + 1)) W3 := by rw [HRS2.out]; exact hJ3
            clear hJ3 hk3 HO5
            gi_wp2
            go_roundw
            case rel => exact ⟨k + 1, by go_num, by omega, hJ4, HO6⟩
            case measure => simp [nV]; omega
    · obtain rfl : k = n := by omega
      have j1 : decide ((k : Int) < (k : Int)) = false := decide_eq_false (by omega)
      have j2 : decide (k < k) = false := decide_eq_false (by omega)
      gi_wp2
      go_end0
      exact ⟨⟨_, rfl⟩, R, hWR, hJk⟩
end Go.Proofs.YtiockphjnkehnaaGreatDoor

namespace Go.Proofs.YtiockphjnkehnaaGreatDoor
open Go.RowKit Go.Shelf
attribute [local go_sem] Oper.semAt_some
set_option linter.unusedSimpArgs false
set_option linter.unusedVariables false

theorem components_any (L S : Int) (v : Value) (w : World) :
    Calls Tryz.prog 80 #[grV L S v] w fun e w' =>
      e = .returned (.func (.func 101) #[] #[.pointer (some ⟨w.heap.size, 0, none⟩)]) ∧ w' = w.alloc (.cells #[.int .i64 L, .int .i64 S, v] 24) := by
  go_enter Tryz.func80, Tryz.ntmps80
  go_wp2
  go_ret
  exact ⟨rfl, rfl⟩
theorem gb_putObj (W : World) (l : Nat) (o : Obj) : W.grownBy (W.putObj l o) (some l) := grownBy_putObj' W l o
theorem below_putK {B : Nat} {W W' : World} (h : Below B W W') (l : Nat) (hl : B ≤ l) (o : Obj) : Below B W (W'.putObj l o) :=
  h.trans ⟨rfl, rfl, rfl, by simp, fun k hk => World.putObj_heap_other (by omega)⟩
theorem row_types {W : World} {A1 A2 e1 e2 s1 s2 k1 k2 : Nat} {v1 v2 : Value} {x1 x2 : List Value} (h1 : W.ownsRow A1 e1 s1 v1 k1 x1) (h2 : W.ownsRow A2 e2 s2 v2 k2 x2) (he : e1 ≠ e2) : v1.ownBlock = none ∨ v1.ownBlock ≠ v2.ownBlock := by
  rcases h1.2 with ⟨rfl, -⟩ | ⟨g1, c1, q1, rfl, -, p1, -⟩
  · exact .inl rfl
  rcases h2.2 with ⟨rfl, -⟩ | ⟨g2, c2, q2, rfl, -, p2, -⟩
  · exact .inr (fun h => by simp [Value.ownBlock] at h)
  refine .inr (fun h => ?_)
  simp only [Value.ownBlock, Option.some.injEq] at h
  subst h
  rw [p1] at p2
  injection p2 with p2
  injection p2 with _ p2 _
  exact he p2
structure CJ (w : World) (l D p3 p6 : Nat) (fv : Value) (LO : Obj) (R : Nat) (cs : List (List Int)) (X : World) : Prop where
  lp : X.heap[l]? = some LO
  dp : X.heap[D]? = some (.deferred (some []))
  b : Below w.heap.size w X
  i3 : X.cell? ⟨p3, 0, none⟩ = some fv
  ls : ∃ lv us, Boxed X p6 45 lv ∧ X.ownsRow (R + 1) 30 1 lv us.length us ∧ us.length = cs.length ∧ ∀ (i : Nat) u c, us[i]? = some u → cs[i]? = some c → IntsAt X (R + 1) u c
section
variable {w X Y : World} {l D p3 p6 R : Nat} {fv : Value} {LO LO2 : Obj} {cs : List (List Int)}
theorem CJ.turn (h : CJ w l D p3 p6 fv LO R cs X) {row : Option Nat} (hg : X.grownBy Y row) (hl : Y.heap[l]? = some LO2) (hr : ∀ k, row = some k → k ≠ p3 ∧ k ≠ p6 ∧ k ≠ D ∧ w.heap.size ≤ k ∧ k ≤ R) : CJ w l D p3 p6 fv LO2 R cs Y := by
  obtain ⟨lv, us, h1, h2, h3, h4⟩ := h.ls
  have hb : ∀ k, k < X.heap.size → (∀ q, row = some q → k ≠ q) → Y.heap[k]? = X.heap[k]? := fun k hk hne => hg.block k hk (fun e => hne k e.symm rfl)
  have hrow : ∀ {A e s k : Nat} {v : Value} {xs : List Value}, X.ownsRow A e s v k xs → R + 1 ≤ A → v.ownBlock = none ∨ v.ownBlock ≠ row := fun {A e s k v xs} ho hA => by
    cases hv : v.ownBlock with
    | none => exact .inl rfl
    | some g =>
      refine .inr (fun e => ?_)
      have h5 := (ho.lt g hv).1
      have := (hr g e.symm).2.2.2.2
      omega
  have l3 := World.block_lt_of_cell? _ _ h.i3
  refine ⟨hl, ?_, h.b.grown hg h.b.size (fun k e => (hr k e).2.2.2.1), ?_, lv, us, h1.kept hg (fun e => (hr p6 e.symm).2.1 rfl), h2.kept hg (hrow h2 (Nat.le_refl _)), h3, fun i u c hu hc => World.ownsRow.kept (h4 i u c hu hc) hg (hrow (h4 i u c hu hc) (Nat.le_refl _))⟩
  · exact (hb D (Array.getElem?_eq_some_iff.1 h.dp).1 (fun q e => fun e2 => (hr q e).2.2.1 e2.symm)).trans h.dp
  · exact (World.cell?_of_block (w := X) (hb p3 l3 (fun q e => fun e2 => (hr q e).1 e2.symm))).trans h.i3
theorem CJ.keep (h : CJ w l D p3 p6 fv LO R cs X) (hb : Below X.heap.size X Y) : CJ w l D p3 p6 fv LO R cs Y :=
  h.turn (grown_none hb) ((hb.block l (Array.getElem?_eq_some_iff.1 h.lp).1).trans h.lp) (fun k e => by cases e)
theorem CJ.put (h : CJ w l D p3 p6 fv LO R cs X) (o : Obj) (h3 : l ≠ p3) (h6 : l ≠ p6) (hD : l ≠ D) (hw : w.heap.size ≤ l) (hR : l ≤ R) : CJ w l D p3 p6 fv o R cs (X.putObj l o) :=
  h.turn (gb_putObj X l o) (World.putObj_heap_same (Array.getElem?_eq_some_iff.1 h.lp).1) (fun k e => by cases e; exact ⟨h3, h6, hD, hw, hR⟩)
theorem CJ.abide (h : CJ w l D p3 p6 fv LO R cs X) {row : Option Nat} (hg : X.grownBy Y row) (hr : row = none ∨ row = some R) (hl : l < R) (h3 : p3 < R) (h6 : p6 < R) (hD : D < R) (hw : w.heap.size ≤ R) : CJ w l D p3 p6 fv LO R cs Y := by
  refine h.turn hg ((hg.block l (Array.getElem?_eq_some_iff.1 h.lp).1 (fun e => ?_)).trans h.lp) (fun k e => ?_)
  · rcases hr with rfl | rfl
    · cases e
    · injection e with e; omega
  · rcases hr with rfl | rfl
    · cases e
    · injection e with e; subst e; exact ⟨by omega, by omega, by omega, hw, Nat.le_refl _⟩
end
theorem rows_of {Y : World} {R : Nat} {lv : Value} {us : List Value} {cs : List (List Int)} (h2 : Y.ownsRow (R + 1) 30 1 lv us.length us) (h3 : us.length = cs.length) (h4 : ∀ (i : Nat) u c, us[i]? = some u → cs[i]? = some c → IntsAt Y (R + 1) u c) : RowsRd Y lv cs := by
  obtain ⟨a, c, rfl⟩ := own_slice h2
  rw [h3]
  refine ⟨a, c, rfl, fun i r hr => ?_⟩
  have hi : i < cs.length := (List.getElem?_eq_some_iff.1 hr).1
  obtain ⟨u, hu⟩ : ∃ u, us[i]? = some u := ⟨_, List.getElem?_eq_getElem (by omega)⟩
  obtain ⟨g, c2, hv, -⟩ := World.ownsRow.form h2 (by omega)
  injection hv with e1 e2 e3
  subst e1
  exact ⟨g, 0, u, rfl, by rw [Nat.zero_add, World.ownsRow.cellAt h2 i (by omega)]; exact hu, (h4 i u r hu hr).rd⟩
theorem CJ.rows {w X : World} {l D p3 p6 R : Nat} {fv : Value} {LO : Obj} {cs : List (List Int)} (h : CJ w l D p3 p6 fv LO R cs X) (hD : D ≤ R) (hw : w.heap.size ≤ D) (hne : D ≠ p6) : ∃ a c, cs.length ≤ c ∧ X.cell? ⟨p6, 0, none⟩ = some (.slice a cs.length c) ∧ RowsRd (X.putObj D (.deferred none)) (.slice a cs.length c) cs ∧ Below w.heap.size w (X.putObj D (.deferred none)) := by
  obtain ⟨lv, us, h1, h2, h3, h4⟩ := h.ls
  obtain ⟨a, c, hv⟩ := own_slice h2
  have hg := gb_putObj X D (.deferred none)
  have hrow : ∀ {A e s k : Nat} {v : Value} {xs : List Value}, X.ownsRow A e s v k xs → R + 1 ≤ A → v.ownBlock = none ∨ v.ownBlock ≠ some D := fun {A e s k v xs} ho hA => by
    cases hv : v.ownBlock with
    | none => exact .inl rfl
    | some g => exact .inr (fun e => by injection e with e; have := (ho.lt g hv).1; omega)
  have hr := rows_of (Y := X.putObj D (.deferred none)) (h2.kept hg (hrow h2 (Nat.le_refl _))) h3 (fun i u c hu hc => World.ownsRow.kept (h4 i u c hu hc) hg (hrow (h4 i u c hu hc) (Nat.le_refl _)))
  rw [hv, h3] at hr
  have hcap : us.length ≤ c := by
    rcases h2.2 with ⟨h5, h6⟩ | ⟨g, cap, cur, h5, _, _, h6, _⟩
    · omega
    · rw [hv] at h5
      injection h5 with _ _ h5
      omega
  refine ⟨a, c, by omega, by rw [h1.cell, hv, h3], hr, below_putK h.b _ hw _⟩
theorem CJ.app {w X w4 : World} {l D p3 p6 R : Nat} {fv lv v' u : Value} {LO tmp : Obj} {cs : List (List Int)} {us : List Value} {c : List Int} (h : CJ w l D p3 p6 fv LO R cs X) (h1 : Boxed X p6 45 lv) (h2 : X.ownsRow (R + 1) 30 1 lv us.length us) (h3 : us.length = cs.length)
    (h4 : ∀ (i : Nat) u c, us[i]? = some u → cs[i]? = some c → IntsAt X (R + 1) u c) (hRX : R < X.heap.size) (hu : IntsAt X (R + 1) u c)
    (hg4 : (X.alloc tmp).grownBy w4 lv.ownBlock) (ho4 : w4.ownsRow (R + 1) 30 1 v' (us.length + 1) (us ++ [u])) (e1 : l ≠ p6) (e2 : D ≠ p6) (e3 : p3 ≠ p6) (q1 : l ≤ R) (q2 : D ≤ R) (q3 : p3 ≤ R) (q6 : p6 ≤ R) (hw : w.heap.size ≤ p6) :
    CJ w l D p3 p6 fv LO R (cs ++ [c]) (w4.setCell ⟨p6, 0, none⟩ v') ∧ w4.cell? ⟨p6, 0, none⟩ = some lv ∧ w4.frozen? ⟨p6, 0, none⟩ = false ∧ (∀ j, j ≤ R → j ≠ p6 → (w4.setCell ⟨p6, 0, none⟩ v').heap[j]? = X.heap[j]?) ∧ Below w.heap.size X (w4.setCell ⟨p6, 0, none⟩ v') := by
  obtain ⟨b1, b2, b3, b4, b5, b6⟩ : Boxed w4 p6 45 lv ∧ Boxed (w4.setCell ⟨p6, 0, none⟩ v') p6 45 v' ∧ (w4.setCell ⟨p6, 0, none⟩ v').ownsRow (R + 1) 30 1 v' (us.length + 1) (us ++ [u]) ∧ KeepsOthers X (w4.setCell ⟨p6, 0, none⟩ v') ∧ Below w.heap.size X (w4.setCell ⟨p6, 0, none⟩ v') ∧
      ∀ j, j < R + 1 → j ≠ p6 → (w4.setCell ⟨p6, 0, none⟩ v').heap[j]? = X.heap[j]? := by
    obtain ⟨k1, k2, k3, k4, k5⟩ := Boxed.appended h1 (by decide) (own_low h2 (show w.heap.size ≤ R + 1 by omega)) (by omega) hw (own_low ho4 (show w.heap.size ≤ R + 1 by omega)) hg4
    refine ⟨k1, k2, ho4.kept (grownBy_setCell' w4 p6 v') (.inr (k1.not_row (by decide) ho4).symm), k4, k5, fun j hj hjB => ?_⟩
    rw [Below.heap_setCell _ _ _ _ (show j ≠ p6 from hjB)]
    rw [hg4.block j (by rw [World.size_alloc]; omega) (fun hb => by have := (h2.lt j hb.symm).1; omega)]
    exact (World.grownBy_alloc X tmp none).block j (by omega) (by simp)
  have l3 := World.block_lt_of_cell? _ _ h.i3
  have hint : ∀ {x : Value} {d : List Int}, IntsAt X (R + 1) x d → IntsAt (w4.setCell ⟨p6, 0, none⟩ v') (R + 1) x d := fun {x d} hx =>
    ownsRow_setCell_below (World.ownsRow.kept (hx.keep (below1 X tmp)) hg4 (row_types hx h2 (by decide))) (by show p6 < R + 1; omega) v'
  refine ⟨⟨(b6 l (by omega) e1).trans h.lp, (b6 D (by omega) e2).trans h.dp, h.b.trans b5, (World.cell?_of_block (w := X) (b6 p3 (by omega) e3)).trans h.i3, v', us ++ [u], b2, by rw [List.length_append]; exact b3, by rw [List.length_append, List.length_append, h3]; rfl, fun i x d hx hd => ?_⟩, b1.cell, b1.frozen, fun j hj hne => b6 j (by omega) hne, b5⟩
  by_cases hi : i < us.length
  · rw [List.getElem?_append_left hi] at hx
    rw [List.getElem?_append_left (by omega)] at hd
    exact hint (h4 i x d hx hd)
  · rw [List.getElem?_append_right (by omega)] at hx
    rw [List.getElem?_append_right (by omega)] at hd
    have e0 : i - us.length = 0 := by
      have := (List.getElem?_eq_some_iff.1 hx).1
      simp at this; omega
    rw [e0] at hx
    rw [← h3, e0] at hd
    simp at hx hd
    subst hx hd
    exact hint hu
theorem filter_map_snoc {α β : Type} (f : α → β) (q : β → Bool) (l : List α) (x : α) : ((l ++ [x]).map f).filter q = if q (f x) = true then (l.map f).filter q ++ [f x] else (l.map f).filter q := by
  rw [List.map_append, List.filter_append]
  by_cases h : q (f x) = true
  · rw [if_pos h]; simp [h]
  · rw [if_neg h]; simp [h]
def CapOk (v : Value) : Prop := ∃ a n c, v = .slice a n c ∧ n ≤ c
def RowsOut (w : World) (cs : List (List Int)) (k : Int) (e : Ending) (w' : World) : Prop := ∃ v, e = .returned (.tuple #[v, .int .i64 k]) ∧ RowsRd w' v cs ∧ Below w.heap.size w w' ∧ CapOk v
set_option maxRecDepth 100000 in
set_option maxHeartbeats 12800000 in
theorem chosen_good (La : Int) (n : Nat) (es : List E3) (v : Value) (f : FuncId) (caps : Array Value) (q : List Int → Bool) (w : World) (hrd : EdgesRd w v es) (hvg : VG La (n : Int) es)
    (hE : ∀ args w, (callFunc f args).run Tryz.prog w = .ok (.enter f args) w)
    (hq : ∀ X u c, Below w.heap.size w X → IntsRd X u c → c.length ≤ 64 → Calls Tryz.prog f (#[u] ++ caps) X fun e X' => e = .returned (.bool (q c)) ∧ Below X.heap.size X X') :
    Calls Tryz.prog 45 #[grV La (n : Int) v, .func (.func f) #[] caps] w (RowsOut w ((comps es n).filter q) 0) := by
  obtain ⟨i0, hi, hz0, hz1, hz2⟩ := info_parts Tryz.infoRow
  have hlen := hvg.len
  have hn64 : n ≤ 64 := by have := hvg.s2; omega
  have HRD := Lib.hid hrd
  have HVG := Lib.hid hvg
  have HV := Lib.hid (fun W h => hvg.chk ▸ gcheck_any La (n : Int) es v W h (by omega))
  have HQ := Lib.hid hq
  obtain ⟨a, c, rfl⟩ := hrd.form
  have K0 := BoxG.new w La (n : Int) (.slice a es.length c) 24
  have k1 := below1 (w.alloc (.cells #[.int .i64 La, .int .i64 (n : Int), .slice a es.length c] 24)) (.cells #[.func (.func f) #[] caps] 74)
  have K1 := Lib.hid (K0.keep k1)
  have B1 := Lib.hid (below_more (below1 w (.cells #[.int .i64 La, .int .i64 (n : Int), .slice a es.length c] 24)) (Nat.le_refl _) k1)
  have C1 := Lib.hid (show ((w.alloc (.cells #[.int .i64 La, .int .i64 (n : Int), .slice a es.length c] 24)).alloc (.cells #[.func (.func f) #[] caps] 74)).cell? ⟨w.heap.size + 1, 0, none⟩ = some (.func (.func f) #[] caps) by
    rw [← World.size_alloc w (.cells #[.int .i64 La, .int .i64 (n : Int), .slice a es.length c] 24)]; simp [go_sem])
  have Z1 := Lib.hid (show ((w.alloc (.cells #[.int .i64 La, .int .i64 (n : Int), .slice a es.length c] 24)).alloc (.cells #[.func (.func f) #[] caps] 74)).heap.size = w.heap.size + 2 by rw [World.size_alloc, World.size_alloc])
  clear hrd hvg K0 k1 hq
  refine (callsIn_wide (n := 8)).1 ?_
  refine callsIn_of_wp_marks Tryz.func45 rfl trivial ?_ rfl
  simp only [Tryz.ntmps45, List.size_toArray, List.length_cons, List.length_nil, Nat.reduceAdd, Nat.reduceSub, Array.replicate_succ, Array.replicate_zero, List.push_toArray, List.append_toArray, List.nil_append, List.cons_append]
  obtain ⟨g1, g2, g3⟩ := id K1.out
  gi_wp2_with (first
    | (refine ⟨trivial, ?_⟩; gi_at_call 42; (with_reducible refine (callsIn_wide.2 (HV.out _ (HRD.out.keep B1.out))).mono ?_); rintro e W2 ⟨rfl, b2⟩; (have K2 := Lib.hid ((K1.out.keep b2).keep (below1 W2 (.cells #[.slice none 0 0] 45)))); (have C2 := Lib.hid (cell_keep (cell_keep C1.out b2) (below1 W2 (.cells #[.slice none 0 0] 45)))); (have B2 := Lib.hid (below_more (below_more B1.out (Nat.le_refl _) b2) (Nat.le_refl _) (below1 W2 (.cells #[.slice none 0 0] 45)))); (have X2 := Lib.hid (Boxed.new W2 45 (.slice none 0 0))); (have S2 := Lib.hid (show w.heap.size + 2 ≤ W2.heap.size by have := b2.size; have := Z1.out; omega)); (clear b2 g1 g2 g3); (obtain ⟨g1, g2, g3⟩ := id K2.out))
    | (refine ⟨trivial, ?_⟩; gi_at_call 80; (with_reducible refine (callsIn_wide.2 (components_any La (n : Int) (.slice a es.length c) _)).mono ?_); rintro e W5 ⟨rfl, rfl⟩))
  obtain ⟨p6, hp6⟩ : ∃ p6, W2.heap.size = p6 := ⟨_, rfl⟩
  obtain ⟨W3, hW3⟩ : ∃ W3, W2.alloc (.cells #[.slice none 0 0] 45) = W3 := ⟨_, rfl⟩
  have hZ3 : W3.heap.size = p6 + 1 := by rw [← hW3, World.size_alloc, hp6]
  rw [hW3] at K2 B2 X2 C2 ⊢
  rw [hp6] at X2 S2 ⊢
  clear hW3 hp6 g1 g2 g3
  have bg := below1 W3 (.cells #[.int .i64 La, .int .i64 (n : Int), .slice a es.length c] 24)
  have G5 := Lib.hid (BoxG.new W3 La (n : Int) (.slice a es.length c) 24)
  have C5 := Lib.hid (cell_keep C2.out bg)
  have hZ5 : (W3.alloc (.cells #[.int .i64 La, .int .i64 (n : Int), .slice a es.length c] 24)).heap.size = p6 + 2 := by rw [World.size_alloc, hZ3]
  have X5 := Lib.hid (X2.out.alloc (.cells #[.int .i64 La, .int .i64 (n : Int), .slice a es.length c] 24))
  have B5 := Lib.hid (below_more B2.out (Nat.le_refl _) bg)
  obtain ⟨W5, hW5⟩ : ∃ W5, W3.alloc (.cells #[.int .i64 La, .int .i64 (n : Int), .slice a es.length c] 24) = W5 := ⟨_, rfl⟩
  rw [hZ3] at G5
  rw [hW5] at G5 C5 hZ5 X5 B5 ⊢
  clear hW5 bg K2 B2 X2 C2 hZ3
  obtain ⟨p3, hp3⟩ : ∃ p3, w.heap.size + 1 = p3 := ⟨_, rfl⟩
  rw [hp3] at C5 ⊢
  have hS2 := S2.out
  refine rangeFunc_on rfl (by omega) (gf := 101) (lb := #[.pointer (some ⟨p6 + 1, 0, none⟩)]) rfl trivial (enters_of Tryz.func101 (by kernel_rfl) rfl)
    (R := fun _ W' => ∃ R LO, p6 + 3 < R ∧ CJ w (p6 + 3) (p6 + 2) p3 p6 (.func (.func f) #[] caps) LO R ((comps es n).filter q) W') ?_ ?_
  · intro fn hfn REC hREC
    have HREC := Lib.hid hREC
    clear hREC
    rw [hZ5]
    obtain ⟨W6, hW6⟩ : ∃ W6, (W5.alloc (.deferred (some []))).alloc (.loop REC) = W6 := ⟨_, rfl⟩
    have b6 : Below W5.heap.size W5 W6 := by rw [← hW6]; exact below_more (below1 W5 _) (Nat.le_refl _) (below1 _ _)
    have z6 : W6.heap.size = p6 + 4 := by rw [← hW6, World.size_alloc, World.size_alloc, hZ5]
    have l6 : W6.heap[p6 + 3]? = some (.loop REC) := by
      have := World.alloc_heap_new (W5.alloc (.deferred (some []))) (.loop REC)
      rw [World.size_alloc, hZ5] at this
      rw [← hW6]; exact this
    have d6 : W6.heap[p6 + 2]? = some (.deferred (some [])) := by
      have := World.alloc_heap_new W5 (.deferred (some []))
      rw [hZ5] at this
      rw [← hW6]; exact (Below.heap_alloc _ _ _ (by rw [World.size_alloc]; omega)).trans this
    rw [hW6]
    clear hW6
    have CJ0 : ∀ R, CJ w (p6 + 3) (p6 + 2) p3 p6 (.func (.func f) #[] caps) (.loop REC) R [] W6 := fun R =>
      ⟨l6, d6, below_more B5.out (Nat.le_refl _) b6, cell_keep C5.out b6, _, [], X5.out.kept (grown_none b6) (by simp), World.ownsRow_nil _ _ _ _, rfl, fun i u c hu => by simp at hu⟩
    refine (comps_in 7 (p6 + 3) (p6 + 1) w W6 La n (.slice a es.length c) es (fun R pre X => p6 + 3 < R → CJ w (p6 + 3) (p6 + 2) p3 p6 (.func (.func f) #[] caps) (.loop REC) R ((pre.map (compF es n)).filter q) X) (by omega) hn64 HVG.out.ok hlen ?_ ?_ HRD.out (below_more B5.out (Nat.le_refl _) b6) (by omega) (G5.out.keep b6) (fun R _ => CJ0 R)).mono ?_
    · intro R pre X Y row hWR hJ hg hr hR
      exact (hJ hR).abide hg hr (by omega) (by omega) (by omega) (by omega) (by omega)
    · intro R pre s u X hWR hRX hJ hpl hs hu
      have hR : p6 + 3 < R := by omega
      have HJ := Lib.hid (hJ hR)
      clear hJ CJ0 l6 d6 b6
      obtain ⟨PR, hPR⟩ : ∃ PR : World → Prop, PR = fun X' => (p6 + 3 < R → CJ w (p6 + 3) (p6 + 2) p3 p6 (.func (.func f) #[] caps) (.loop REC) R (((pre ++ [s]).map (compF es n)).filter q) X') ∧ KpC w.heap.size (p6 + 1) W6.heap.size R X X' := ⟨_, rfl⟩
      have HPR := Lib.hid (fun Y (h1 : CJ w (p6 + 3) (p6 + 2) p3 p6 (.func (.func f) #[] caps) (.loop REC) R (((pre ++ [s]).map (compF es n)).filter q) Y) (h2 : KpC w.heap.size (p6 + 1) W6.heap.size R X Y) => show PR Y by rw [hPR]; exact ⟨fun _ => h1, h2⟩)
      suffices hst : YieldAt Fence.wide (7 - 1) Tryz.prog (p6 + 3) #[u] X (fun e X' => e = .returned (.bool true) ∧ PR X') by rw [hPR] at hst; exact hst
      clear hPR
      obtain ⟨au, cu, rfl⟩ := own_slice hu
      have hcl := compF_len es n s
      refine round_on HREC.out trivial HJ.out.lp rfl fun RB => ?_
      have HP := Lib.hid (HJ.out.put (.loop RB) (by omega) (by omega) (by omega) (by omega) (by omega))
      have gP := gb_putObj X (p6 + 3) (.loop RB)
      have hszP : (X.putObj (p6 + 3) (.loop RB)).heap.size = X.heap.size := by simp
      have HKX := Lib.hid (show ∀ j, j ≠ p6 + 3 → (X.putObj (p6 + 3) (.loop RB)).heap[j]? = X.heap[j]? from fun j hj => World.putObj_heap_other hj)
      have HBP := Lib.hid (below_putK (Below.refl w.heap.size X) (p6 + 3) (by omega) (.loop RB))
      have HU := Lib.hid (show IntsAt (X.putObj (p6 + 3) (.loop RB)) (R + 1) (.slice au (compF es n s).length cu) (compF es n s) from World.ownsRow.kept hu gP (by
        cases hv : (Value.slice au (compF es n s).length cu).ownBlock with
        | none => exact .inl rfl
        | some g => exact .inr (fun e => by injection e with e; have := (hu.lt g hv).1; omega)))
      have HCQ := Lib.hid (HQ.out _ (.slice au (compF es n s).length cu) (compF es n s) HP.out.b HU.out.rd (by omega))
      have HFM := Lib.hid (filter_map_snoc (compF es n) q pre s)
      have x3 := HP.out.i3
      have HJl := HJ.out.lp
      have hcs : ((pre.map (compF es n)).filter q).length ≤ 64 := Nat.le_trans (List.length_filter_le _ _) (by rw [List.length_map]; exact hpl)
      clear hu gP
      obtain ⟨kc, hkc⟩ : ∃ kc, (compF es n s).length = kc := ⟨_, rfl⟩
      rw [hkc] at HU HCQ ⊢
      cases hqc : q (compF es n s) with
      | false =>
        rw [hqc] at HCQ HFM
        have HFM2 := Lib.hid (show ((pre ++ [s]).map (compF es n)).filter q = (pre.map (compF es n)).filter q by rw [HFM.out, if_neg (by decide)])
        clear HFM hqc
        gi_wp2_with (first
          | exact HJl
          | (refine ⟨trivial, ?_⟩; (with_reducible refine (CallsIn.inRound (p6 + 3) (callsIn_wide.2 HCQ.out)).mono ?_); rintro e W7 ⟨rfl, b7⟩; clear x3))
        have hP7 := HP.out.keep b7
        have hl7 : p6 + 3 < W7.heap.size := (Array.getElem?_eq_some_iff.1 hP7.lp).1
        refine ⟨hP7.lp, HPR.out _ ?_ ⟨below_putK (HBP.out.trans (b7.mono (by have := HP.out.b.size; omega))) _ (by omega) _, ?_, fun j h1 h2 => ?_⟩⟩
        · rw [HFM2.out]
          exact hP7.put _ (by omega) (by omega) (by omega) (by omega) (by omega)
        · rw [World.putObj_heap_other (by omega)]
          exact (b7.block _ (by rw [hszP]; omega)).trans (HKX.out _ (by omega))
        · rw [World.putObj_heap_other (by omega)]
          exact (b7.block _ (by rw [hszP]; omega)).trans (HKX.out _ (by omega))
      | true =>
        rw [hqc] at HCQ HFM
        have HFM2 := Lib.hid (show ((pre ++ [s]).map (compF es n)).filter q = (pre.map (compF es n)).filter q ++ [compF es n s] by rw [HFM.out, if_pos rfl])
        clear HFM hqc
        gi_wp2_with (first
          | exact HJl
          | (refine ⟨trivial, ?_⟩; (with_reducible refine (CallsIn.inRound (p6 + 3) (callsIn_wide.2 HCQ.out)).mono ?_); rintro e W7 ⟨rfl, b7⟩; clear x3; (have hP7 := HP.out.keep b7); (obtain ⟨lv, us, q1, q2, q3, q4⟩ := hP7.ls); (have HQ3 := Lib.hid q3); (obtain ⟨m9, hm9⟩ : ∃ m9, us.length = m9 := ⟨_, rfl⟩); (have HM9 := Lib.hid hm9); (have hm64 : m9 ≤ 64 := by rw [← hm9, q3]; exact hcs); (have HQ2 := Lib.hid q2); (rw [hm9] at q2); clear q3 hm9; (obtain ⟨a9, c9, rfl⟩ := own_slice q2); (have c7 := q1.cell); (have HP7 := Lib.hid hP7); (have HQ1 := Lib.hid q1); (have HQ4 := Lib.hid q4); (have hz7 := b7.size); clear hP7 q1 q4)
          | (gi_at_builtin; refine wpListIn_append_own _ rfl _ _ 45 rfl (R + 1) 30 i0 (.slice none 0 0) 1 24 Tryz.underlying45 hi hz0 hz1 hz2 rfl (by decide) _ _ _ rfl (q2.alloc _) ⟨W7.heap.size, 0, none⟩ 1 1 [.slice au kc cu] rfl rfl (World.news_of_block (cs := #[.slice au kc cu]) (t := 30) (fr := (0, 0)) (heap_alloc_new W7 _)) (by simp [Value.oneCell']) (by unfold maxLen; omega) (by omega) (by rw [World.size_alloc]; omega) ?_; intro v' w4 hown4 hgrow4 hv4; (obtain ⟨hC, y1, y2, hsm, hbw⟩ := HP7.out.app (c := compF es n s) HQ1.out HQ2.out HQ3.out HQ4.out (by omega) (HU.out.keep b7) hgrow4 (by rw [HM9.out]; exact hown4) (by omega) (by omega) (by omega) (by omega) (by omega) (by omega) (by omega) (by omega)); (have HC := Lib.hid hC); (have HSM := Lib.hid hsm); (have HBW := Lib.hid hbw); (obtain ⟨g', cap', rfl, -, -⟩ := hown4.form (Nat.succ_pos _)); clear hC hsm hbw hown4 hgrow4 hv4))
        refine ⟨HC.out.lp, HPR.out _ ?_ ⟨below_putK ((HBP.out.trans (b7.mono (by have := HP.out.b.size; omega))).trans HBW.out) _ (by omega) _, ?_, fun j h1 h2 => ?_⟩⟩
        · rw [HFM2.out]
          exact HC.out.put _ (by omega) (by omega) (by omega) (by omega) (by omega)
        · rw [World.putObj_heap_other (by omega)]
          exact (HSM.out _ (by omega) (by omega)).trans ((b7.block _ (by rw [hszP]; omega)).trans (HKX.out _ (by omega)))
        · rw [World.putObj_heap_other (by omega)]
          exact (HSM.out _ (by omega) (by omega)).trans ((b7.block _ (by rw [hszP]; omega)).trans (HKX.out _ (by omega)))
    · rintro e W' ⟨hv, R, hWR, hJ⟩
      have hJ' := hJ (by omega)
      exact ⟨hv, hJ'.lp, R, _, by omega, hJ'⟩
  · rintro fn W' o r ⟨R, LO, hR, hJ⟩ hl
    have hK := hJ.put o (by omega) (by omega) (by omega) (by omega) (by omega)
    rw [hZ5]
    obtain ⟨a9, c9, hcp, x6, hr, hb⟩ := hK.rows (by omega) (by omega) (by omega)
    have IX := Lib.hid hK.dp
    have HR2 := Lib.hid hr
    have HB2 := Lib.hid hb
    clear hK hJ hr hb hl
    gi_wp2
    refine ⟨by simp, .inl ⟨_, _, rfl, run_takeDeferred IX.out, ?_⟩⟩
    exact ⟨_, by simp [results, Tryz.results45, go_sem], _, rfl, HR2.out, HB2.out, _, _, _, rfl, hcp⟩
theorem chosen_any (La S : Int) (es : List E3) (v : Value) (f : FuncId) (caps : Array Value) (q : List Int → Bool) (w : World) (hrd : EdgesRd w v es) (hn : es.length ≤ 9223372036854775807)
    (hE : ∀ args w, (callFunc f args).run Tryz.prog w = .ok (.enter f args) w)
    (hq : chkG La S es = 0 → ∀ X u c, Below w.heap.size w X → IntsRd X u c → c.length ≤ 64 → Calls Tryz.prog f (#[u] ++ caps) X fun e X' => e = .returned (.bool (q c)) ∧ Below X.heap.size X X') :
    Calls Tryz.prog 45 #[grV La S v, .func (.func f) #[] caps] w (RowsOut w (if chkG La S es = 0 then (comps es S.toNat).filter q else []) (if chkG La S es = 0 then 0 else 1)) := by
  by_cases h0 : chkG La S es = 0
  · rw [if_pos h0, if_pos h0]
    have hvg := chkG_zero h0
    have hs1 := hvg.s1
    obtain ⟨n, rfl⟩ : ∃ n : Nat, S = (n : Int) := ⟨S.toNat, by omega⟩
    rw [Int.toNat_natCast]
    exact chosen_good La n es v f caps q w hrd hvg hE (hq h0)
  · rw [if_neg h0, if_neg h0]
    obtain ⟨z, hz⟩ : ∃ z, chkG La S es = z := ⟨_, rfl⟩
    have HRD := Lib.hid hrd
    have HV := Lib.hid (fun W h => hz ▸ gcheck_any La S es v W h hn)
    rw [hz] at h0
    have d0 : (z != 0) = true := by simpa using h0
    have k1 := below1 (w.alloc (.cells #[.int .i64 La, .int .i64 S, v] 24)) (.cells #[.func (.func f) #[] caps] 74)
    have K1 := Lib.hid ((BoxG.new w La S v 24).keep k1)
    have B1 := Lib.hid (below_more (below1 w (.cells #[.int .i64 La, .int .i64 S, v] 24)) (Nat.le_refl _) k1)
    obtain ⟨a, c, rfl⟩ := hrd.form
    clear hrd k1 hq hz h0
    refine (callsIn_wide (n := 8)).1 ?_
    refine callsIn_of_wp_marks Tryz.func45 rfl trivial ?_ rfl
    simp only [Tryz.ntmps45, List.size_toArray, List.length_cons, List.length_nil, Nat.reduceAdd, Nat.reduceSub, Array.replicate_succ, Array.replicate_zero, List.push_toArray, List.append_toArray, List.nil_append, List.cons_append]
    obtain ⟨g1, g2, g3⟩ := id K1.out
    gi_wp2_with (refine ⟨trivial, ?_⟩; gi_at_call 42; (with_reducible refine (callsIn_wide.2 (HV.out _ (HRD.out.keep B1.out))).mono ?_); rintro e W2 ⟨rfl, b2⟩; (have B2 := Lib.hid (below_more B1.out (Nat.le_refl _) b2)); (clear b2 g1 g2 g3))
    exact ⟨.tuple #[.slice none 0 0, .int .i64 1], by simp [results, Tryz.results45, go_sem], _, rfl, ⟨none, 0, rfl, fun i r hr => by simp at hr⟩, B2.out, _, _, _, rfl, Nat.le_refl _⟩
end Go.Proofs.YtiockphjnkehnaaGreatDoor
