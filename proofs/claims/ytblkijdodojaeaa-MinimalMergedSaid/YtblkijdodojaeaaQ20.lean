/- What minimal.Separate returns for a valid, deterministic graph and two of its states. Condition: the edges can be read. A row of edges that a call has built, between two vocabularies (ownsRow; HoldsK, putRowK). No condition. What slices.Values at edges returns, and what its function yields: the edges, in order. Condition: at most 2^62 edges. -/
import Derived.Test.YtblkijdodojaeaaQ18
import Derived.Test.YtblkijdodojaeaaQ19
import Derived.Test.YtblkijdodojaeaaQ01
import Derived.Test.YtblkijdodojaeaaQ13
import Derived.Sort.OwnSorted
import Derived.Shelf.SlSortCmp.NoneTotal
import Derived.Test.YtblkijdodojaeaaQ16

namespace Go.Proofs.Ytblkijdodojaeaa
open Go.RowKit Go.Maps Go.Lib
set_option linter.unusedSimpArgs false
set_option linter.unusedVariables false

abbrev xorB : Bool → Bool → Bool := fun x y => x != y
set_option maxRecDepth 100000 in
set_option maxHeartbeats 3200000 in
theorem sep_yes (La n s t : Nat) (es : List E3) (v : Value) (w : World) (hrd : EdgesRd w v es) (hvg : VG (La : Int) (n : Int) es) (hd : detE es = true) (hs : s < n) (ht : t < n) :
    Calls Try.prog 12 #[grV (La : Int) (n : Int) v, .int .i64 (s : Int), .int .i64 (t : Int)] w fun e w' => ∃ g c u is, e = .returned (.tuple #[.slice g u.length c, .bool is, .int .i64 0]) ∧ IntsRd w' (.slice g u.length c) u ∧ FW (fun x y : Bool => x != y) (mT n es) (mT n es) n n La s t u is ∧ Below w.heap.size w w' := by
  have hn64 : n ≤ 64 := by have := hvg.s2; omega
  have hL256 : La ≤ 256 := by have := hvg.l2; omega
  have hl := hvg.len
  have HCD : Hid (∀ W, EdgesRd W v es → Calls Try.prog 22 #[grV (La : Int) (n : Int) v] W fun e W' => e = .returned (.int .i64 0) ∧ Below W.heap.size W W') := Lib.hid (fun W h => by
    refine (checkDet_any La n es v W h (by omega)).mono ?_
    rw [cdR_ok hvg hd]
    exact fun e W' h => h)
  have HMO := Lib.hid (fun W h => machineOf_any (La : Int) La n es v W h hvg.ok hn64 hL256 (by omega))
  have HFW := Lib.hid (fun M W h => firstWord_xo (mT n es) (mT n es) n n La s t (some ⟨M, 0, none⟩) (some ⟨M, 0, none⟩) (n + 1) (n + 1) W h h (fun x l _ => mT_le hvg.ok x l) (fun x l _ => mT_le hvg.ok x l) (fun l => mT_none hvg.ok l) (fun l => mT_none hvg.ok l) hn64 hn64 hL256 (by omega) (by omega))
  have HRD := Lib.hid hrd
  have B0 := Lib.hid (below1 w (.cells #[.int .i64 (La : Int), .int .i64 (n : Int), v] 24))
  have G0 := Lib.hid (BoxG.new w (La : Int) (n : Int) v 24)
  obtain ⟨x1, x2, x3⟩ := id G0.out
  have d1 : decide ((s : Int) < 0) = false := decide_eq_false (by omega)
  have d2 : decide ((n : Int) ≤ (s : Int)) = false := decide_eq_false (by omega)
  have d3 : decide ((t : Int) < 0) = false := decide_eq_false (by omega)
  have d4 : decide ((n : Int) ≤ (t : Int)) = false := decide_eq_false (by omega)
  have d5 : (s : Int) < (n : Int) := by omega
  have d6 : (t : Int) < (n : Int) := by omega
  obtain ⟨a, c, rfl⟩ := hrd.form
  clear hrd hvg hd
  go_enter Try.func12, Try.ntmps12
  go_wp2_with (first
    | (go_at_call 22; (with_reducible refine (HCD.out _ (HRD.out.keep B0.out)).mono ?_); rintro e W1 ⟨rfl, b1⟩; (have B1 := Lib.hid (below_more B0.out (Nat.le_refl _) b1)); (have G1 := Lib.hid (G0.out.keep b1)); clear b1 x1 x2 x3; (obtain ⟨x1, x2, x3⟩ := id G1.out))
    | (go_at_call 24; (with_reducible refine (HMO.out _ (HRD.out.keep B1.out)).mono ?_); rintro e W2 ⟨M, rfl, r2, b2⟩; (have B2 := Lib.hid (B1.out.trans (b2.mono B1.out.size))); (have R2 := Lib.hid r2); clear b2 r2 x1 x2 x3)
    | (go_at_call 29; (with_reducible refine (HFW.out _ _ R2.out).mono ?_); rintro e W3 ⟨g3, c3, u3, is3, rfl, i3, fw3, b3⟩; (have B3 := Lib.hid (B2.out.trans (b3.mono B2.out.size))); (have I3 := Lib.hid i3); (have FW3 := Lib.hid fw3); clear b3 i3 fw3))
  exact bodyPost_ret (v := .tuple #[.slice g3 u3.length c3, .bool is3, .int .i64 0]) (by simp [results, Try.results12, go_sem]) rfl ⟨g3, c3, u3, is3, rfl, I3.out, FW3.out, B3.out⟩
end Go.Proofs.Ytblkijdodojaeaa

namespace Go.Proofs.Ytblkijdodojaeaa
open Go Go.Sort Go.RowKit Go.Shelf
set_option linter.unusedSimpArgs false
set_option linter.unusedVariables false

theorem flat_ecl (es : List E3) : (flatK encE 3 es.toArray).toList = ecl es := by
  apply List.ext_getElem?
  intro t
  have hs : (flatK encE 3 es.toArray).size = es.length * 3 := by rw [size_flatK]; simp
  by_cases ht : t < es.length * 3
  · have hg := get_flatK encE 3 es.toArray t (by simpa using ht)
    rw [getElem!_pos _ t (by rw [hs]; exact ht)] at hg
    rw [Array.getElem?_toList, Array.getElem?_eq_getElem (by rw [hs]; exact ht), hg]
    obtain ⟨i, hi⟩ : ∃ i, t / 3 = i := ⟨_, rfl⟩
    obtain ⟨c, hc⟩ : ∃ c, t % 3 = c := ⟨_, rfl⟩
    rw [hi, hc]
    have hil : i < es.length := by omega
    obtain ⟨k1, k2, k3⟩ := ecl_at (List.getElem?_eq_getElem hil)
    have he : es.toArray[i]! = es[i] := by rw [getElem!_pos es.toArray i (by simpa using hil)]; simp
    rw [he]
    rcases (show c = 0 ∨ c = 1 ∨ c = 2 by omega) with rfl | rfl | rfl
    · rw [show t = i * 3 by omega, k1]; rfl
    · rw [show t = i * 3 + 1 by omega, k2]; rfl
    · rw [show t = i * 3 + 2 by omega, k3]; rfl
  · rw [List.getElem?_eq_none (by rw [Array.length_toList, hs]; omega), List.getElem?_eq_none (by rw [ecl_len]; omega)]
theorem holdsE {w : World} {g : Nat} {cur : Array Value} {t : TypeId} {es : List E3} (hb : w.heap[g]? = some (.cells cur t (0, 0))) (ht : cur.toList.take (es.length * 3) = ecl es) : HoldsK encE 3 w g 0 es.toArray := by
  intro j hj
  have hj' : j < es.length * 3 := by rw [size_flatK] at hj; simpa using hj
  refine ⟨?_, by simp [World.frozen?, hb]⟩
  have h1 : (cur.toList.take (es.length * 3))[j]? = (flatK encE 3 es.toArray).toList[j]? := by rw [ht, flat_ecl]
  rw [List.getElem?_take_of_lt hj'] at h1
  simp only [World.cell?, hb, Nat.zero_add]
  simp only [Option.isSome_none, Bool.false_eq_true, if_false]
  rw [← Array.getElem?_toList, h1, Array.getElem?_toList, Array.getElem?_eq_getElem hj, getElem!_pos _ j hj]
  rfl
theorem heap_sortedE {w : World} {g n : Nat} {os : Array Obj} {cur : Array Value} {e : TypeId} {fr : Nat × Nat} (d : Array E3) (hb : w.heap[g]? = some (.cells cur e fr)) :
    (grow (putRowK encE 3 (Sort.ahead w n) g 0 d) os).heap[g]? = some (.cells (putCells id 0 (flatK encE 3 d) cur) e fr) := by
  have hg : g < w.heap.size := (Array.getElem?_eq_some_iff.1 hb).1
  rw [heap_grow_old _ _ (by simpa [putRowK] using hg)]
  simp [putRowK, putRow, mapBlock, Sort.ahead, Array.getElem?_modify, hb, onCells]
theorem grownBy_sortedE {w : World} {g n : Nat} {os : Array Obj} (d : Array E3) : w.grownBy (grow (putRowK encE 3 (Sort.ahead w n) g 0 d) os) (some g) := by
  refine ⟨rfl, rfl, rfl, by simp [putRowK], fun k hk hne => ?_⟩
  rw [heap_grow_old _ _ (by simpa [putRowK] using hk)]
  have : g ≠ k := fun e => hne (by rw [e])
  simp [putRowK, putRow, mapBlock, Sort.ahead, Array.getElem?_modify, this]
theorem take_putCellsE (cur : Array Value) (es : List E3) (h : es.length * 3 ≤ cur.size) : (putCells id 0 (flatK encE 3 es.toArray) cur).toList.take (es.length * 3) = ecl es := by
  rw [← flat_ecl]
  apply List.ext_getElem?
  intro j
  have hs : (flatK encE 3 es.toArray).size = es.length * 3 := by rw [size_flatK]; simp
  by_cases hj : j < es.length * 3
  · rw [List.getElem?_take_of_lt hj, Array.getElem?_toList, Array.getElem?_toList]
    rw [Array.getElem?_eq_getElem (xs := flatK encE 3 es.toArray) (by rw [hs]; exact hj)]
    have : j < (putCells id 0 (flatK encE 3 es.toArray) cur).size := by simp [putCells]; omega
    rw [Array.getElem?_eq_getElem this]
    simp only [putCells, Array.getElem_mapIdx, Nat.zero_le, true_and, Nat.zero_add, Nat.sub_zero, id]
    rw [if_pos (by rw [hs]; exact hj), getElem!_pos _ j (by rw [hs]; exact hj)]
  · rw [List.getElem?_take_eq_none (by omega), List.getElem?_eq_none (by rw [Array.length_toList, hs]; omega)]
/-- Behind the sort the same slice owns the sorted edges. -/
theorem edges_sorted {w : World} {base g cap n : Nat} {os : Array Obj} {cur : Array Value} {es ts : List E3} (hl : ts.length = es.length) (hbase : base ≤ g) (hb : w.heap[g]? = some (.cells cur 47 (0, 0)))
    (h1 : es.length ≤ cap) (h2 : cap ≤ maxLen) (h3 : cur.size = cap * 3) :
    EdgesAt (grow (putRowK encE 3 (Sort.ahead w n) g 0 ts.toArray) os) base (.slice (some ⟨g, 0, none⟩) ts.length cap) ts :=
  ⟨ecl_len ts, .inr ⟨g, cap, _, rfl, hbase, heap_sortedE _ hb, by omega, h2, by simp [putCells, h3], take_putCellsE cur ts (by omega)⟩⟩
/-! ### A world behind another one, of which it is known how far it has drawn -/
def Bd (w W : World) : Prop := Below w.heap.size w W ∧ w.drawn ≤ W.drawn
theorem Bd.refl (w : World) : Bd w w := ⟨Below.refl _ _, Nat.le_refl _⟩
theorem Bd.alloc {w W : World} (h : Bd w W) (o : Obj) : Bd w (W.alloc o) := ⟨h.1.alloc h.1.size o, h.2⟩
theorem Bd.one (w : World) (o : Obj) : Bd w (w.alloc o) := (Bd.refl w).alloc o
theorem Bd.trans {w W X : World} (h : Bd w W) (k : Bd W X) : Bd w X := ⟨below_more h.1 (Nat.le_refl _) k.1, Nat.le_trans h.2 k.2⟩
theorem Bd.drew {w W : World} (h : Bd w W) : Bd w W.drew := ⟨h.1.drew, Nat.le_trans h.2 (Nat.le_succ _)⟩
theorem Bd.drewN {w W : World} (h : Bd w W) (q : Nat) : Bd w (W.drewN q) := ⟨below_drewM h.1 q, Nat.le_trans h.2 (Nat.le_add_right _ _)⟩
theorem Bd.grow {w W : World} (h : Bd w W) : ∃ q os, W = Sort.grow (w.drewN q) os := by
  refine ⟨W.drawn - w.drawn, W.heap.extract w.heap.size W.heap.size, ?_⟩
  obtain ⟨⟨h1, h2, h3, h4, h5⟩, h6⟩ := h
  obtain ⟨hp, tp, dr, os, out⟩ := W
  obtain ⟨hp0, tp0, dr0, os0, out0⟩ := w
  dsimp only at *
  subst h1 h2 h3
  have e1 : dr0 + (dr - dr0) = dr := by omega
  have e2 : hp0 ++ hp.extract hp0.size hp.size = hp := by
    apply Array.ext_getElem?
    intro k
    rcases Nat.lt_or_ge k hp0.size with hk | hk
    · rw [Array.getElem?_append_left hk]; exact (h5 k hk).symm
    · rw [Array.getElem?_append_right hk, Array.getElem?_extract]
      split
      · rw [show hp0.size + (k - hp0.size) = k by omega]
      · rw [Array.getElem?_eq_none (by omega)]
  simp only [Sort.grow, World.drewN, e1, e2]
end Go.Proofs.Ytblkijdodojaeaa

namespace Go.Proofs.Ytblkijdodojaeaa
open Go.RowKit Go.Shelf
attribute [local go_sem] Oper.semAt_some
set_option linter.unusedSimpArgs false
set_option linter.unusedVariables false

theorem values_any (v : Value) (a : Option Addr) (k c : Nat) (hv : v = .slice a k c) (w : World) :
    Calls Try.prog 60 #[v] w fun e w' => e = .returned (.func (.func 72) #[] #[.pointer (some ⟨w.heap.size, 0, none⟩)]) ∧ w' = w.alloc (.cells #[v] 22) := by
  subst hv
  go_enter Try.func60, Try.ntmps60
  go_wp2
  go_ret
  exact ⟨rfl, rfl⟩
/-- What a round keeps: what lay below n₀, and the variable of Values. -/
def KtV (n₀ B : Nat) (W W1 : World) : Prop := Below n₀ W W1 ∧ W1.heap[B]? = W.heap[B]?
theorem KtV.trans {n₀ B : Nat} {X Y Z : World} (h : KtV n₀ B X Y) (k : KtV n₀ B Y Z) : KtV n₀ B X Z := ⟨h.1.trans k.1, k.2.trans h.2⟩
theorem KtV.of_below {n₀ B : Nat} {W W1 : World} (h : Below W.heap.size W W1) (h0 : n₀ ≤ W.heap.size) (h1 : B < W.heap.size) : KtV n₀ B W W1 := ⟨h.mono h0, h.block _ h1⟩
set_option maxRecDepth 100000 in
set_option maxHeartbeats 3200000 in
theorem values1_in (n l B : Nat) (w0 : World) (v : Value) (es : List E3) (J Jx : List E3 → World → Prop) (hn : 1 ≤ n) (W : World) (hJ : AbidesFrom W.heap.size J)
    (hY : ∀ (pre : List E3) (x : E3) (W1 : World), J pre W1 → pre.length < es.length → YieldAt Fence.wide (n - 1) Try.prog l #[edgV x] W1 fun e W' =>
      (e = .returned (.bool true) ∧ J (pre ++ [x]) W' ∧ KtV w0.heap.size B W1 W') ∨ (e = .returned (.bool false) ∧ Jx (pre ++ [x]) W'))
    (hrd : EdgesRd w0 v es) (hW0 : Below w0.heap.size w0 W) (hBn : B < W.heap.size) (hg : W.cell? ⟨B, 0, none⟩ = some v) (hlen : es.length < 4611686018427387904) (h0 : J [] W) :
    CallsIn Fence.wide n Try.prog 72 #[.func (.yield l) #[] #[], .pointer (some ⟨B, 0, none⟩)] W fun e W' => (∃ u, e = .returned u) ∧
      ((∃ ys : List E3, ys = es ∧ J ys W') ∨ (∃ pre, True ∧ Jx pre W')) := by
  have hmx : Try.prog.follows .mixedOrders = true := by kernel_rfl
  have HY := Lib.hid hY
  have HJ := Lib.hid hJ
  have HRD := Lib.hid hrd
  have HG := Lib.hid hg
  have HW0 := Lib.hid hW0
  obtain ⟨a, c, rfl⟩ := hrd.form
  have g1 := hg
  clear hY hJ hrd hg hW0
  refine callsIn_of_wp Try.func72 rfl trivial ?_ rfl
  simp only [Try.ntmps72, List.size_toArray, List.length_cons, List.length_nil, Nat.reduceAdd, Nat.reduceSub, Array.replicate_succ, Array.replicate_zero, List.push_toArray, List.append_toArray, List.nil_append, List.cons_append]
  gi_wp2
  gi_loopw [7] (fun s7 wr => ∃ i : Nat, s7 = .int .i64 (i : Int) ∧ i ≤ es.length ∧ J (es.take i) wr ∧ KtV w0.heap.size B W wr ∧ W.heap.size ≤ wr.heap.size) (fun s7 _ => es.length - natV s7)
  case atStart => exact ⟨0, rfl, Nat.zero_le _, h0, ⟨Below.refl _ _, rfl⟩, Nat.le_refl _⟩
  case round =>
    clear h0 g1
    obtain ⟨i, rfl, hile, hJs, hB, hsz⟩ := hrel
    have hw0 := HW0.out.trans hB.1
    rcases Nat.lt_or_ge i es.length with hlt | hge
    · obtain ⟨e, he⟩ : ∃ e, es[i]? = some e := ⟨_, List.getElem?_eq_getElem hlt⟩
      obtain ⟨bb, off, c', hv, k1, k2, k3⟩ := (HRD.out.keep hw0).at he
      injection hv with e1 e2 e3
      subst e1
      subst e3
      have j1 : decide ((i : Int) < (es.length : Int)) = true := decide_eq_true (by omega)
      have j2 : decide (i < es.length) = true := decide_eq_true hlt
      have j3 : (i : Int) < (es.length : Int) := by omega
      have HTK := Lib.hid (show es.take (i + 1) = es.take i ++ [e] by rw [List.take_add_one, he]; rfl)
      have hpl : (es.take i).length < es.length := by rw [List.length_take]; omega
      have HYD := Lib.hid (fun o => HY.out (es.take i) e (wr.alloc o) (HJ.out (es.take i) _ _ none hJs (below_grown' (below1 wr o)) (fun r e => by cases e)) hpl)
      clear he hJs e2 hpl
      obtain ⟨x, y, z⟩ := e
      dsimp only at k1 k2 k3 HYD
      obtain ⟨fn, tmps, assign, body, hy, hR⟩ := HYD.out (.cells #[.int .i64 x, .int .i64 y, .int .i64 z] 47)
      gi_wp2
      refine hR.mono ?_
      have HKV := Lib.hid (KtV.of_below (n₀ := w0.heap.size) (B := B) (below1 wr (.cells #[.int .i64 x, .int .i64 y, .int .i64 z] 47)) hw0.size (by omega))
      rintro e W3 (⟨rfl, hJ3, hk3⟩ | ⟨rfl, hJx3⟩)
      · gi_wp2
        go_roundw
        case rel => exact ⟨i + 1, by go_num, hlt, by rw [HTK.out]; exact hJ3, hB.trans (HKV.out.trans hk3), Nat.le_trans hsz (Nat.le_trans (by rw [World.size_alloc]; omega) hk3.1.size)⟩
        case measure => simp [natV]; omega
      · gi_wp2
        refine bodyPost_ret (results_none rfl _ _ _) rfl ?_
        exact ⟨⟨_, rfl⟩, .inr ⟨_, trivial, hJx3⟩⟩
    · have j1 : decide ((i : Int) < (es.length : Int)) = false := decide_eq_false (by omega)
      have j2 : decide (i < es.length) = false := decide_eq_false (by omega)
      have HT := Lib.hid (show es.take i = es from List.take_of_length_le hge)
      gi_wp2
      go_end0
      exact ⟨⟨_, rfl⟩, .inl ⟨es, rfl, by rw [HT.out] at hJs; exact hJs⟩⟩
/-- The contract of the iterator. -/
theorem values_stops (n B : Nat) (w0 w : World) (v : Value) (es : List E3) (hn : 1 ≤ n) (hrd : EdgesRd w0 v es) (hW0 : Below w0.heap.size w0 w) (hBn : B < w.heap.size) (hg : w.cell? ⟨B, 0, none⟩ = some v) (hlen : es.length < 4611686018427387904) :
    SeqStopsK Fence.wide n Try.prog 72 #[.pointer (some ⟨B, 0, none⟩)] (fun x : E3 => #[edgV x]) (KtV w0.heap.size B) (fun ys => ys = es) (fun _ => True) es.length w :=
  fun l J Jx W hW hJ hJx hY h0 => by
    have hs2 := hW.size
    exact values1_in n l B w0 v es J Jx hn W hJ hY hrd (hW0.trans (hW.mono hW0.size)) (by omega) (cell_keep hg hW) hlen h0
end Go.Proofs.Ytblkijdodojaeaa
