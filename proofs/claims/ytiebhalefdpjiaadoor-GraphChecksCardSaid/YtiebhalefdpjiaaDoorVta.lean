/- What slices.Values at edges returns, and what its function yields: the edges, in order. Condition: at most 2^62 edges. -/
import Derived.Test.YtiebhalefdpjiaaDoorVbd
import Derived.Test.YtiebhalefdpjiaaDoorVsb
namespace Go.Proofs.YtiebhalefdpjiaaDoor
open Go.RowKit Go.Shelf
attribute [local go_sem] Oper.semAt_some
set_option linter.unusedSimpArgs false
set_option linter.unusedVariables false

theorem values_any (v : Value) (a : Option Addr) (k c : Nat) (hv : v = .slice a k c) (w : World) :
    Calls Tryd.prog 62 #[v] w fun e w' => e = .returned (.func (.func 82) #[] #[.pointer (some ⟨w.heap.size, 0, none⟩)]) ∧ w' = w.alloc (.cells #[v] 22) := by
  subst hv
  go_enter Tryd.func62, Tryd.ntmps62
  go_wp2
  go_ret
  exact ⟨rfl, rfl⟩
/-- What a round keeps: what lay below n₀, and the variable of Values. -/
def KtV (n₀ B : Nat) (W W1 : World) : Prop := Below n₀ W W1 ∧ W1.heap[B]? = W.heap[B]?
theorem KtV.trans {n₀ B : Nat} {X Y Z : World} (h : KtV n₀ B X Y) (k : KtV n₀ B Y Z) : KtV n₀ B X Z := ⟨h.1.trans k.1, k.2.trans h.2⟩
theorem KtV.of_below {n₀ B : Nat} {W W1 : World} (h : Below W.heap.size W W1) (h0 : n₀ ≤ W.heap.size) (h1 : B < W.heap.size) : KtV n₀ B W W1 := ⟨h.mono h0, h.block _ h1⟩
set_option maxRecDepth 100000 in
set_option maxHeartbeats 3200000 in
theorem values1_in (n l B : Nat) (w0 : World) (v : Value) (es : List E3) (J Jx : List E3 → World → Prop) (hn : 1 ≤ n) (W : World) (hJ : AbidesFrom W.heap.size J)
    (hY : ∀ (pre : List E3) (x : E3) (W1 : World), J pre W1 → pre.length < es.length → YieldAt Fence.wide (n - 1) Tryd.prog l #[edgV x] W1 fun e W' =>
      (e = .returned (.bool true) ∧ J (pre ++ [x]) W' ∧ KtV w0.heap.size B W1 W') ∨ (e = .returned (.bool false) ∧ Jx (pre ++ [x]) W'))
    (hrd : EdgesRd w0 v es) (hW0 : Below w0.heap.size w0 W) (hBn : B < W.heap.size) (hg : W.cell? ⟨B, 0, none⟩ = some v) (hlen : es.length < 4611686018427387904) (h0 : J [] W) :
    CallsIn Fence.wide n Tryd.prog 82 #[.func (.yield l) #[] #[], .pointer (some ⟨B, 0, none⟩)] W fun e W' => (∃ u, e = .returned u) ∧
      ((∃ ys : List E3, ys = es ∧ J ys W') ∨ (∃ pre, True ∧ Jx pre W')) := by
  have hmx : Tryd.prog.follows .mixedOrders = true := by kernel_rfl
  have HY := Lib.hid hY
  have HJ := Lib.hid hJ
  have HRD := Lib.hid hrd
  have HG := Lib.hid hg
  have HW0 := Lib.hid hW0
  obtain ⟨a, c, rfl⟩ := hrd.form
  have g1 := hg
  clear hY hJ hrd hg hW0
  refine callsIn_of_wp Tryd.func82 rfl trivial ?_ rfl
  simp only [Tryd.ntmps82, List.size_toArray, List.length_cons, List.length_nil, Nat.reduceAdd, Nat.reduceSub, Array.replicate_succ, Array.replicate_zero, List.push_toArray, List.append_toArray, List.nil_append, List.cons_append]
  gi_wp2
  gi_loopw [7] (fun s7 wr => ∃ i : Nat, s7 = .int .i64 (i : Int) ∧ i ≤ es.length ∧ J (es.take i) wr ∧ KtV w0.heap.size B W wr ∧ W.heap.size ≤ wr.heap.size) (fun s7 _ => es.length - natV s7)
  case atStart => exact ⟨0, rfl, Nat.zero_le _, h0, ⟨Below.refl _ _, rfl⟩, Nat.le_refl _⟩
  case round =>
    clear h0 g1
    obtain ⟨i, rfl, hile, hJs, hB, hsz⟩ := hrel
    have hw0 := HW0.out.trans hB.1
    rcases Nat.lt_or_ge i es.length with hlt | hge
    · obtain ⟨e, he⟩ : ∃ e, es[i]? = some e := ⟨_, List.getElem?_eq_getElem hlt⟩
      obtain ⟨bb, off, c', hv, k1, k2, k3⟩ := (HRD.out.keep hw0).at he
      injection hv with e1 e2 e3
      subst e1
      subst e3
      have j1 : decide ((i : Int) < (es.length : Int)) = true := decide_eq_true (by omega)
      have j2 : decide (i < es.length) = true := decide_eq_true hlt
      have j3 : (i : Int) < (es.length : Int) := by omega
      have HTK := Lib.hid (show es.take (i + 1) = es.take i ++ [e] by rw [List.take_add_one, he]; rfl)
      have hpl : (es.take i).length < es.length := by rw [List.length_take]; omega
      have HYD := Lib.hid (fun o => HY.out (es.take i) e (wr.alloc o) (HJ.out (es.take i) _ _ none hJs (below_grown' (below1 wr o)) (fun r e => by cases e)) hpl)
      clear he hJs e2 hpl
      obtain ⟨x, y, z⟩ := e
      dsimp only at k1 k2 k3 HYD
      obtain ⟨fn, tmps, assign, body, hy, hR⟩ := HYD.out (.cells #[.int .i64 x, .int .i64 y, .int .i64 z] 43)
      gi_wp2
      refine hR.mono ?_
      have HKV := Lib.hid (KtV.of_below (n₀ := w0.heap.size) (B := B) (below1 wr (.cells #[.int .i64 x, .int .i64 y, .int .i64 z] 43)) hw0.size (by omega))
      rintro e W3 (⟨rfl, hJ3, hk3⟩ | ⟨rfl, hJx3⟩)
      · gi_wp2
        go_roundw
        case rel => exact ⟨i + 1, by go_num, hlt, by rw [HTK.out]; exact hJ3, hB.trans (HKV.out.trans hk3), Nat.le_trans hsz (Nat.le_trans (by rw [World.size_alloc]; omega) hk3.1.size)⟩
        case measure => simp [natV]; omega
      · gi_wp2
        refine bodyPost_ret (results_none rfl _ _ _) rfl ?_
        exact ⟨⟨_, rfl⟩, .inr ⟨_, trivial, hJx3⟩⟩
    · have j1 : decide ((i : Int) < (es.length : Int)) = false := decide_eq_false (by omega)
      have j2 : decide (i < es.length) = false := decide_eq_false (by omega)
      have HT := Lib.hid (show es.take i = es from List.take_of_length_le hge)
      gi_wp2
      go_end0
      exact ⟨⟨_, rfl⟩, .inl ⟨es, rfl, by rw [HT.out] at hJs; exact hJs⟩⟩
/-- The contract of the iterator. -/
theorem values_stops (n B : Nat) (w0 w : World) (v : Value) (es : List E3) (hn : 1 ≤ n) (hrd : EdgesRd w0 v es) (hW0 : Below w0.heap.size w0 w) (hBn : B < w.heap.size) (hg : w.cell? ⟨B, 0, none⟩ = some v) (hlen : es.length < 4611686018427387904) :
    SeqStopsK Fence.wide n Tryd.prog 82 #[.pointer (some ⟨B, 0, none⟩)] (fun x : E3 => #[edgV x]) (KtV w0.heap.size B) (fun ys => ys = es) (fun _ => True) es.length w :=
  fun l J Jx W hW hJ hJx hY h0 => by
    have hs2 := hW.size
    exact values1_in n l B w0 v es J Jx hn W hJ hY hrd (hW0.trans (hW.mono hW0.size)) (by omega) (cell_keep hg hW) hlen h0
end Go.Proofs.YtiebhalefdpjiaaDoor
