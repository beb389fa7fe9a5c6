/- What component.components' function yields: the components, in the order of their least states. Conditions: at most 64 states, at most 1024 edges, between states. -/
import Derived.Test.YtfkplnmhlpabaaaKh
import Derived.Test.YtfkplnmhlpabaaaRfw
import Derived.Sort.QuietIn
import Derived.Sort.LoopGhostIn
namespace Go.Proofs.Ytfkplnmhlpabaaa
open Go.RowKit Go.Shelf
attribute [local go_sem] Oper.semAt_some
set_option linter.unusedSimpArgs false
set_option linter.unusedVariables false

/-- What a round keeps: what lay below N, the block B, and the blocks from S to R. -/
structure KpC (N B S R : Nat) (X X' : World) : Prop where
  b : Below N X X'
  g : X'.heap[B]? = X.heap[B]?
  m : ∀ q, S ≤ q → q ≤ R → X'.heap[q]? = X.heap[q]?
/-- Between two statements of the iterator: X0 is the world before its row of marks (block R) was made. -/
structure OC (w0 W X0 : World) (B n R : Nat) (f : Nat → Bool) (X : World) : Prop where
  b : Below w0.heap.size w0 X
  g : X.heap[B]? = W.heap[B]?
  m : ∀ q, W.heap.size ≤ q → q < R → X.heap[q]? = X0.heap[q]?
  pl : BRow X R n f
section
variable {w0 W X0 X X' X1 : World} {B n R : Nat} {f f' : Nat → Bool}
theorem OC.lt (h : OC w0 W X0 B n R f X) : R < X.heap.size := World.rowIs.lt h.pl
theorem OC.congr (h : OC w0 W X0 B n R f X) (e : ∀ i, i < n → f i = f' i) : OC w0 W X0 B n R f' X := { h with pl := h.pl.congr e }
theorem OC.round (h : OC w0 W X0 B n R f X) (hS : W.heap.size ≤ R) (k : KpC w0.heap.size B W.heap.size R X X') : OC w0 W X0 B n R f X' :=
  ⟨h.b.trans k.b, k.g.trans h.g, fun q h1 h2 => (k.m q h1 (by omega)).trans (h.m q h1 h2), World.rowIs.of_block h.pl (k.m R hS (Nat.le_refl _))⟩
theorem OC.below (h : OC w0 W X0 B n R f X) (hB : B < R) (hb : Below X.heap.size X X') : OC w0 W X0 B n R f X' := by
  have hR := h.lt
  exact ⟨below_more h.b (Nat.le_refl _) hb, (hb.block B (by omega)).trans h.g, fun q h1 h2 => (hb.block q (by omega)).trans (h.m q h1 h2), h.pl.keep hb⟩
/-- A block above R is turned. -/
theorem OC.above (h : OC w0 W X0 B n R f X) (hB : B < R) (hw : w0.heap.size ≤ R) {row : Option Nat} (hg : X.grownBy X' row) (hr : ∀ k, row = some k → R < k) : OC w0 W X0 B n R f X' := by
  have hR := h.lt
  have hk : ∀ q, q ≤ R → X'.heap[q]? = X.heap[q]? := fun q hq => hg.block q (by omega) (fun e => by have := hr q e.symm; omega)
  exact ⟨h.b.grown hg h.b.size (fun k e => by have := hr k e; omega), (hk B (by omega)).trans h.g, fun q h1 h2 => (hk q (by omega)).trans (h.m q h1 h2), World.rowIs.of_block h.pl (hk R (Nat.le_refl _))⟩
theorem OC.set (h : OC w0 W X0 B n R f X) (hB : B < R) (hw : w0.heap.size ≤ R) (t : Nat) (x : Bool) : OC w0 W X0 B n R (fun j => if j = t then x else f j) (X.setCell ⟨R, t, none⟩ (.bool x)) := by
  have hk : ∀ q, q ≠ R → (X.setCell ⟨R, t, none⟩ (.bool x)).heap[q]? = X.heap[q]? := fun q hq => Below.heap_setCell _ _ _ _ (by exact hq)
  exact ⟨h.b.setCell hw _, (hk B (by omega)).trans h.g, fun q h1 h2 => (hk q (by omega)).trans (h.m q h1 h2), h.pl.set t x⟩
theorem OC.box (h : OC w0 W X0 B n R f X) {La S : Int} {v : Value} (hg : BoxG W B La S v) : BoxG X B La S v :=
  ⟨(World.cell?_of_block (a := ⟨B, 0, none⟩) h.g).trans hg.1, (World.cell?_of_block (a := ⟨B, 1, none⟩) h.g).trans hg.2.1, (World.cell?_of_block (a := ⟨B, 2, none⟩) h.g).trans hg.2.2⟩
theorem OC.sq (h : OC w0 W X0 B n R f X) {es : List E3} {b k : Nat} {vs : Nat → Value} (hs : Sq es n b k vs X0) (hb : W.heap.size ≤ b) (hX : X0.heap.size = R) : Sq es n b k vs X :=
  hs.blocks (m := W.heap.size) (M := R) (by omega) hb (fun q h1 h2 => h.m q h1 h2)
end
theorem gb_refl (X : World) (row : Option Nat) : X.grownBy X row := World.grownBy.refl X row
theorem gb_below {X Y Z : World} {row : Option Nat} (h : X.grownBy Y row) (hb : Below Y.heap.size Y Z) : X.grownBy Z row :=
  ⟨hb.os.trans h.os, hb.tape.trans h.tape, hb.output.trans h.output, Nat.le_trans h.size hb.size, fun k hk hn => (hb.block k (Nat.lt_of_lt_of_le hk h.size)).trans (h.block k hk hn)⟩
theorem gb_above {X Y Z : World} {row row2 : Option Nat} (h : X.grownBy Y row) (hg : Y.grownBy Z row2) (hr : ∀ k, row2 = some k → X.heap.size ≤ k ∨ some k = row) : X.grownBy Z row :=
  ⟨hg.os.trans h.os, hg.tape.trans h.tape, hg.output.trans h.output, Nat.le_trans h.size hg.size, fun k hk hn => (hg.block k (Nat.lt_of_lt_of_le hk h.size) (fun e => by
    rcases hr k e.symm with h1 | h1
    · omega
    · exact hn h1)).trans (h.block k hk hn)⟩
theorem gb_set (X : World) (R t : Nat) (v : Value) : X.grownBy (X.setCell ⟨R, t, none⟩ v) (some R) :=
  have hb := (Below.refl R X).setCell (p := ⟨R, t, none⟩) (Nat.le_refl _) v
  ⟨hb.os, hb.tape, hb.output, hb.size, fun k hk hn => Below.heap_setCell _ _ _ _ (by show k ≠ R; exact fun e => hn (by rw [e]))⟩
def nV : Value → Nat
  | .int _ z => z.toNat
  | _ => 0
/-- The marks while the component of k is collected, up to t. -/
def plT (es : List E3) (n k t : Nat) : Nat → Bool := fun j => placedB es n k j || (decide (j < t) && compB es n k j)
theorem plT_zero (es : List E3) (n k j : Nat) : plT es n k 0 j = placedB es n k j := by unfold plT; simp
theorem plT_end {es : List E3} {n k j : Nat} (hj : j < n) : plT es n k n j = placedB es n (k + 1) j := by unfold plT; rw [placed_step, decide_eq_true hj, Bool.true_and]
theorem plT_no {es : List E3} {n k t : Nat} (h : compB es n k t = false) (j : Nat) : plT es n k t j = plT es n k (t + 1) j := by
  unfold plT
  by_cases hj : j = t
  · subst hj; rw [h]; simp
  · rw [show decide (j < t) = decide (j < t + 1) from decide_eq_decide.2 (by omega)]
theorem plT_yes {es : List E3} {n k t : Nat} (h : compB es n k t = true) (j : Nat) : (if j = t then true else plT es n k t j) = plT es n k (t + 1) j := by
  unfold plT
  by_cases hj : j = t
  · subst hj; rw [if_pos rfl, h]; simp
  · rw [if_neg hj, show decide (j < t) = decide (j < t + 1) from decide_eq_decide.2 (by omega)]
set_option maxRecDepth 100000 in
set_option maxHeartbeats 12800000 in
theorem comps_in (m l B : Nat) (w0 W : World) (La : Int) (n : Nat) (v : Value) (es : List E3) (J : Nat → List Nat → World → Prop) (hm : 1 ≤ m) (hn : n ≤ 64) (hok : ∀ e ∈ es, okE La (n : Int) e = true) (hlen : es.length ≤ 1024)
    (hJ : ∀ R pre X Y row, W.heap.size ≤ R → J R pre X → X.grownBy Y row → (row = none ∨ row = some R) → J R pre Y)
    (hY : ∀ R pre s u X, W.heap.size ≤ R → R < X.heap.size → J R pre X → pre.length ≤ 64 → s ∈ repsK es n n → IntsAt X (R + 1) u (compF es n s) →
      YieldAt Fence.wide (m - 1) Try.prog l #[u] X fun e X' => e = .returned (.bool true) ∧ J R (pre ++ [s]) X' ∧ KpC w0.heap.size B W.heap.size R X X')
    (hrd : EdgesRd w0 v es) (hW0 : Below w0.heap.size w0 W) (hB : B < W.heap.size) (hg : BoxG W B La (n : Int) v) (h0 : ∀ R, J R [] W) :
    CallsIn Fence.wide m Try.prog 93 #[.func (.yield l) #[] #[], .pointer (some ⟨B, 0, none⟩)] W fun e W' => (∃ u, e = .returned u) ∧ ∃ R, W.heap.size ≤ R ∧ J R (repsK es n n) W' := by
  have hmx : Try.prog.follows .mixedOrders = true := by kernel_rfl
  obtain ⟨i0, hi, hz0, hz1, hz2⟩ := info_parts Try.infoI64
  have HMB := make_bools n (by omega)
  have HY := Lib.hid hY
  have HJ := Lib.hid hJ
  have HOK := Lib.hid hok
  have HG := Lib.hid hg
  have HA := Lib.hid (all_any La n es v W (hrd.keep hW0) hn hok hlen)
  have HW0 := Lib.hid hW0
  have hsz0 := hW0.size
  obtain ⟨g1, g2, g3⟩ := id hg
  clear hY hJ hok hg hrd hW0
  refine callsIn_of_wp Try.func93 rfl trivial ?_ rfl
  simp only [Try.ntmps93, List.size_toArray, List.length_cons, List.length_nil, Nat.reduceAdd, Nat.reduceSub, Array.replicate_succ, Array.replicate_zero, List.push_toArray, List.append_toArray, List.nil_append, List.cons_append]
  gi_wp2_with (refine ⟨trivial, ?_⟩; gi_at_call 94; (with_reducible refine (callsIn_wide.2 HA.out).mono ?_); rintro e X0 ⟨b, vs, rfl, sq0, hb0, b0⟩; clear g1 g2 g3; (obtain ⟨g1, g2, g3⟩ := (HG.out.keep b0)); (have h2 := cell_keep g2 (below1 X0 (.cells (madeCells #[.bool false] n) 4))); (have HSQ := Lib.hid sq0); (have HB0 := Lib.hid b0); clear sq0 b0)
  obtain ⟨R, hR⟩ : ∃ R, X0.heap.size = R := ⟨_, rfl⟩
  have hWR : W.heap.size ≤ R := by rw [← hR]; exact HB0.out.size
  have O1 : OC w0 W X0 B n R (placedB es n 0) (X0.alloc (.cells (madeCells #[.bool false] n) 4)) := by
    have k1 := below1 X0 (.cells (madeCells #[.bool false] n) 4)
    have k2 := HB0.out.trans (k1.mono HB0.out.size)
    exact ⟨HW0.out.trans (k2.mono hsz0), k2.block B hB, fun q h1 h2 => k1.block q (by omega), by rw [← hR]; exact (BRow.made X0 n).congr (fun i _ => (placed_zero es n i).symm)⟩
  have J1 := HJ.out R [] W _ none hWR (h0 R) (grown_none (below_more HB0.out (Nat.le_refl _) (below1 X0 (.cells (madeCells #[.bool false] n) 4)))) (.inl rfl)
  have HR := Lib.hid hR
  have HO1 := Lib.hid O1
  rw [hR]
  clear hR O1 g1 g2 g3 h2
  generalize X0.alloc (.cells (madeCells #[.bool false] n) 4) = X1 at *
  gi_loopw [15] (fun s15 wr => ∃ k : Nat, s15 = .int .i64 (k : Int) ∧ k ≤ n ∧ J R (repsK es n k) wr ∧ Hid (OC w0 W X0 B n R (placedB es n k) wr)) (fun s15 _ => n - nV s15)
  case atStart => exact ⟨0, rfl, Nat.zero_le _, J1, HO1⟩
  case round =>
    clear J1 HO1 h0
    obtain ⟨k, rfl, hkn, hJk, HO⟩ := hrel
    obtain ⟨g1, g2, g3⟩ := HO.out.box HG.out
    rcases Nat.lt_or_ge k n with hlt | hge
    · have j1 : decide ((k : Int) < (n : Int)) = true := decide_eq_true (by omega)
      have j2 : decide (k < n) = true := decide_eq_true hlt
      have j3 : (k : Int) < (n : Int) := by omega
      have c1 := World.rowIs.cell HO.out.pl hlt
      have HP := Lib.hid (placed_rep es n k)
      have HRS := Lib.hid (repsK_step es n k)
      cases hp : placedB es n k k with
      | true =>
        rw [hp] at c1
        have hr : repB es n k = false := by have := HP.out; rw [hp] at this; cases h : repB es n k with | false => rfl | true => rw [h] at this; cases this
        have HO2 := Lib.hid (HO.out.congr (f' := placedB es n (k + 1)) (fun i hi => (placed_skip HOK.out hlt hi hr).symm))
        have hJ2 : J R (repsK es n (k + 1)) wr := by rw [HRS.out, if_neg (by rw [hr]; decide)]; exact hJk
        clear hJk HP HRS hp hr
        gi_wp2
        go_roundw
        case rel => exact ⟨k + 1, by go_num, by omega, hJ2, HO2⟩
        case measure => simp [nV]; omega
      | false =>
        rw [hp] at c1
        have hr : repB es n k = true := by have := HP.out; rw [hp] at this; cases h : repB es n k with | true => rfl | false => rw [h] at this; cases this
        have hmem : k ∈ repsK es n n := by unfold repsK; exact List.mem_filter.2 ⟨List.mem_range.2 hlt, hr⟩
        have HRS2 := Lib.hid (show repsK es n (k + 1) = repsK es n k ++ [k] by rw [HRS.out, if_pos hr])
        clear HP HRS hp hr
        gi_wp2
        have HRw := HO.out.lt
        obtain ⟨Wo, hWo⟩ : ∃ Wo, Wo = wr := ⟨_, rfl⟩
        have HI0 := Lib.hid (show IntsAt wr Wo.heap.size (.slice none 0 0) (mems 0 (compB es n k)) from ints_nil _ _)
        have HO3 := Lib.hid (HO.out.congr (f' := plT es n k 0) (fun i _ => (plT_zero es n k i).symm))
        have HG3 := Lib.hid (show Wo.grownBy wr (some R) by rw [hWo]; exact gb_refl wr (some R))
        rw [← hWo] at hJk HRw
        clear g1 g2 g3 c1 HO hWo
        gi_loopw [6, 24] (fun s6 s24 wx => ∃ t : Nat, s24 = .int .i64 (t : Int) ∧ t ≤ n ∧ Hid (IntsAt wx Wo.heap.size s6 (mems t (compB es n k))) ∧ Hid (OC w0 W X0 B n R (plT es n k t) wx) ∧ Hid (Wo.grownBy wx (some R))) (fun _ s24 _ => n - nV s24)
        case atStart => exact ⟨0, rfl, Nat.zero_le _, HI0, HO3, HG3⟩
        case round =>
          clear HI0 HO3 HG3
          obtain ⟨t, rfl, htn, HI, HO, HG2⟩ := hrel
          rcases Nat.lt_or_ge t n with hlt2 | hge2
          · have i1 : decide ((t : Int) < (n : Int)) = true := decide_eq_true (by omega)
            have i2 : decide (t < n) = true := decide_eq_true hlt2
            have i3 : (t : Int) < (n : Int) := by omega
            have SQ := HO.out.sq HSQ.out hb0 HR.out
            obtain ⟨p1, c1, c2⟩ := SQ.at hlt hlt2
            obtain ⟨p2, c3, c4⟩ := SQ.at hlt2 hlt
            have HM := Lib.hid (mems_succ t (compB es n k))
            have HCB := Lib.hid (show compB es n k t = (rb es n k t && rb es n t k) from rfl)
            have HN := Lib.hid (fun h => plT_no (es := es) (n := n) (k := k) (t := t) h)
            have HYS := Lib.hid (fun h => plT_yes (es := es) (n := n) (k := k) (t := t) h)
            unfold rb at HCB
            obtain ⟨z1, hz1'⟩ : ∃ z, lenF es n k t = z := ⟨_, rfl⟩
            obtain ⟨z2, hz2'⟩ : ∃ z, lenF es n t k = z := ⟨_, rfl⟩
            rw [hz1'] at c2 HCB
            rw [hz2'] at c4 HCB
            clear SQ hz1' hz2'
            by_cases d1 : z1 = -1
            · have e1 : (z1 != -1) = false := by simpa using d1
              have hcb : compB es n k t = false := by rw [HCB.out, d1]; simp
              have HI2 := Lib.hid (show IntsAt wr Wo.heap.size u6 (mems (t + 1) (compB es n k)) by rw [HM.out, hcb]; simpa using HI.out)
              have HO2 := Lib.hid (HO.out.congr (fun i _ => HN.out hcb i))
              clear d1 hcb HI HO HM HCB HN HYS c3 c4
              gi_wp2
              go_roundw
              case rel => exact ⟨t + 1, by go_num, by omega, HI2, HO2, HG2⟩
              case measure => simp [nV]; omega
            · have e1 : (z1 != -1) = true := by simpa using d1
              by_cases d2 : z2 = -1
              · have e2 : (z2 != -1) = false := by simpa using d2
                have hcb : compB es n k t = false := by rw [HCB.out, d2]; simp
                have HI2 := Lib.hid (show IntsAt wr Wo.heap.size u6 (mems (t + 1) (compB es n k)) by rw [HM.out, hcb]; simpa using HI.out)
                have HO2 := Lib.hid (HO.out.congr (fun i _ => HN.out hcb i))
                clear d1 d2 hcb HI HO HM HCB HN HYS
                gi_wp2
                go_roundw
                case rel => exact ⟨t + 1, by go_num, by omega, HI2, HO2, HG2⟩
                case measure => simp [nV]; omega
              · have e2 : (z2 != -1) = true := by simpa using d2
                have hcb : compB es n k t = true := by rw [HCB.out]; simp [d1, d2]
                have HM2 := Lib.hid (show mems (t + 1) (compB es n k) = mems t (compB es n k) ++ [(t : Int)] by rw [HM.out, hcb]; rfl)
                have hml := mems_len t (compB es n k)
                have HYT := Lib.hid (fun j => HYS.out hcb j)
                have hBR : B < R := by omega
                have hwR : w0.heap.size ≤ R := by omega
                have hown : wr.ownsRow Wo.heap.size 3 1 u6 (mems t (compB es n k)).length (intz (mems t (compB es n k))) := HI.out
                have hWw := HG2.out.size
                have hl6 := hown.lt
                obtain ⟨x, hx⟩ : ∃ x, plT es n k t t = x := ⟨_, rfl⟩
                have HX := Lib.hid hx
                obtain ⟨L6, hL6⟩ : ∃ L6, mems t (compB es n k) = L6 := ⟨_, rfl⟩
                rw [hL6] at hown hml HM2
                clear d1 d2 hcb HM HCB HN HYS HI hx hL6
                gi_wp2_with (gi_at_builtin; refine wpListIn_append_own _ rfl _ _ 34 rfl Wo.heap.size 3 i0 (.int .i64 0) 1 8 Try.underlying34 hi hz0 hz1 hz2 rfl (by decide) _ _ _ rfl (hown.alloc _) ⟨wr.heap.size, 0, none⟩ 1 1 [.int .i64 (t : Int)] rfl rfl (World.news_of_block (cs := #[.int .i64 (t : Int)]) (t := 3) (fr := (0, 0)) (heap_alloc_new wr _)) (by simp [Value.oneCell']) (by unfold maxLen; omega) (by omega) (by rw [World.size_alloc]; omega) ?_; intro v' w4 hown4 hgrow4 hv4; (have O4 := ((HO.out.below hBR (below1 wr (.cells #[.int .i64 (t : Int)] 3))).above hBR hwR hgrow4 (fun q e => by have := (hl6 q e).1; omega))); (have G4 := Lib.hid (gb_above (gb_below HG2.out (below1 wr (.cells #[.int .i64 (t : Int)] 3))) hgrow4 (fun q e => .inl (hl6 q e).1))); (have c5 := World.rowIs.cell O4.pl hlt2); (have f5 := World.rowIs.frozen O4.pl t); (rw [HX.out] at c5); (have HO4 := Lib.hid O4); (have HI4 := Lib.hid (show IntsAt w4 Wo.heap.size v' (mems (t + 1) (compB es n k)) by unfold IntsAt; rw [HM2.out, intz_snoc, List.length_append]; exact hown4)); (obtain ⟨g', cap', rfl, -, -⟩ := hown4.form (Nat.succ_pos _)); clear O4 hgrow4 hv4 hown4 c1 c2 c3 c4)
                have HI5 := Lib.hid (ownsRow_setCell_below (a := ⟨R, t, none⟩) HI4.out (by exact HRw) (.bool true))
                have HO5 := Lib.hid ((HO4.out.set hBR hwR t true).congr (fun i _ => HYT.out i))
                have HG5 := Lib.hid (gb_above G4.out (gb_set _ R t (.bool true)) (fun q e => .inr e.symm))
                go_roundw
                case rel => exact ⟨t + 1, by go_num, by omega, HI5, HO5, HG5⟩
                case measure => simp [nV]; omega
          · obtain rfl : t = n := by omega
            have i1 : decide ((t : Int) < (t : Int)) = false := decide_eq_false (by omega)
            have i2 : decide (t < t) = false := decide_eq_false (by omega)
            have hJ2 := HJ.out R _ Wo wr (some R) hWR hJk HG2.out (.inr rfl)
            have HYD := Lib.hid (HY.out R _ k u6 wr hWR HO.out.lt hJ2 (by have := reps_len es t k; omega) hmem (own_low HI.out (by omega)))
            have HO5 := Lib.hid (HO.out.congr (f' := placedB es t (k + 1)) (fun i hi => plT_end hi))
            clear hJ2 hJk HI HO HG2
            obtain ⟨fn, tmps, assign, body, hy, hR2⟩ := HYD.out
            gi_wp2
            refine hR2.mono ?_
            rintro e W3 ⟨rfl, hJ3, hk3⟩
            have HO6 := Lib.hid (HO5.out.round hWR hk3)
            have hJ4 : J R (repsK es t (k + 1)) W3 := by rw [HRS2.out]; exact hJ3
            clear hJ3 hk3 HO5
            gi_wp2
            go_roundw
            case rel => exact ⟨k + 1, by go_num, by omega, hJ4, HO6⟩
            case measure => simp [nV]; omega
    · obtain rfl : k = n := by omega
      have j1 : decide ((k : Int) < (k : Int)) = false := decide_eq_false (by omega)
      have j2 : decide (k < k) = false := decide_eq_false (by omega)
      gi_wp2
      go_end0
      exact ⟨⟨_, rfl⟩, R, hWR, hJk⟩
end Go.Proofs.Ytfkplnmhlpabaaa
