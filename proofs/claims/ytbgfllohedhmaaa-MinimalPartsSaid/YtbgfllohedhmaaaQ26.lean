/- What minimal.Separate returns for a valid, deterministic graph and two of its states. Condition: the edges can be read. What grooveref13.Separate returns, and minimal.Separate where a graph or a state is none. Conditions: the edges can be read. What grooveref13.alike returns: whether the edges of two states have the same labels and lead to the same classes. Conditions: the edges and the classes can be read; the graph is valid and deterministic. -/
import Derived.Test.YtbgfllohedhmaaaQ14
import Derived.Test.YtbgfllohedhmaaaQ25
import Derived.Test.YtbgfllohedhmaaaQ24
import Derived.Test.YtbgfllohedhmaaaQ17
import Derived.BigQuiet
import Derived.Deep.RegionHeld3

namespace Go.Proofs.Ytbgfllohedhmaaa
open Go.RowKit Go.Maps Go.Lib
set_option linter.unusedSimpArgs false
set_option linter.unusedVariables false

abbrev xorB : Bool → Bool → Bool := fun x y => x != y
set_option maxRecDepth 100000 in
set_option maxHeartbeats 3200000 in
theorem sep_yes (La n s t : Nat) (es : List E3) (v : Value) (w : World) (hrd : EdgesRd w v es) (hvg : VG (La : Int) (n : Int) es) (hd : detE es = true) (hs : s < n) (ht : t < n) :
    Calls Try.prog 10 #[grV (La : Int) (n : Int) v, .int .i64 (s : Int), .int .i64 (t : Int)] w fun e w' => ∃ g c u is, e = .returned (.tuple #[.slice g u.length c, .bool is, .int .i64 0]) ∧ IntsRd w' (.slice g u.length c) u ∧ FW (fun x y : Bool => x != y) (mT n es) (mT n es) n n La s t u is ∧ Below w.heap.size w w' := by
  have hn64 : n ≤ 64 := by have := hvg.s2; omega
  have hL256 : La ≤ 256 := by have := hvg.l2; omega
  have hl := hvg.len
  have HCD : Hid (∀ W, EdgesRd W v es → Calls Try.prog 16 #[grV (La : Int) (n : Int) v] W fun e W' => e = .returned (.int .i64 0) ∧ Below W.heap.size W W') := Lib.hid (fun W h => by
    refine (checkDet_any La n es v W h (by omega)).mono ?_
    rw [cdR_ok hvg hd]
    exact fun e W' h => h)
  have HMO := Lib.hid (fun W h => machineOf_any (La : Int) La n es v W h hvg.ok hn64 hL256 (by omega))
  have HFW := Lib.hid (fun M W h => firstWord_xo (mT n es) (mT n es) n n La s t (some ⟨M, 0, none⟩) (some ⟨M, 0, none⟩) (n + 1) (n + 1) W h h (fun x l _ => mT_le hvg.ok x l) (fun x l _ => mT_le hvg.ok x l) (fun l => mT_none hvg.ok l) (fun l => mT_none hvg.ok l) hn64 hn64 hL256 (by omega) (by omega))
  have HRD := Lib.hid hrd
  have B0 := Lib.hid (below1 w (.cells #[.int .i64 (La : Int), .int .i64 (n : Int), v] 24))
  have G0 := Lib.hid (BoxG.new w (La : Int) (n : Int) v 24)
  obtain ⟨x1, x2, x3⟩ := id G0.out
  have d1 : decide ((s : Int) < 0) = false := decide_eq_false (by omega)
  have d2 : decide ((n : Int) ≤ (s : Int)) = false := decide_eq_false (by omega)
  have d3 : decide ((t : Int) < 0) = false := decide_eq_false (by omega)
  have d4 : decide ((n : Int) ≤ (t : Int)) = false := decide_eq_false (by omega)
  have d5 : (s : Int) < (n : Int) := by omega
  have d6 : (t : Int) < (n : Int) := by omega
  obtain ⟨a, c, rfl⟩ := hrd.form
  clear hrd hvg hd
  go_enter Try.func10, Try.ntmps10
  go_wp2_with (first
    | (go_at_call 16; (with_reducible refine (HCD.out _ (HRD.out.keep B0.out)).mono ?_); rintro e W1 ⟨rfl, b1⟩; (have B1 := Lib.hid (below_more B0.out (Nat.le_refl _) b1)); (have G1 := Lib.hid (G0.out.keep b1)); clear b1 x1 x2 x3; (obtain ⟨x1, x2, x3⟩ := id G1.out))
    | (go_at_call 18; (with_reducible refine (HMO.out _ (HRD.out.keep B1.out)).mono ?_); rintro e W2 ⟨M, rfl, r2, b2⟩; (have B2 := Lib.hid (B1.out.trans (b2.mono B1.out.size))); (have R2 := Lib.hid r2); clear b2 r2 x1 x2 x3)
    | (go_at_call 23; (with_reducible refine (HFW.out _ _ R2.out).mono ?_); rintro e W3 ⟨g3, c3, u3, is3, rfl, i3, fw3, b3⟩; (have B3 := Lib.hid (B2.out.trans (b3.mono B2.out.size))); (have I3 := Lib.hid i3); (have FW3 := Lib.hid fw3); clear b3 i3 fw3))
  exact bodyPost_ret (v := .tuple #[.slice g3 u3.length c3, .bool is3, .int .i64 0]) (by simp [results, Try.results10, go_sem]) rfl ⟨g3, c3, u3, is3, rfl, I3.out, FW3.out, B3.out⟩
end Go.Proofs.Ytbgfllohedhmaaa

namespace Go.Proofs.Ytbgfllohedhmaaa
open Go.RowKit Go.Maps Go.Lib
set_option linter.unusedSimpArgs false
set_option linter.unusedVariables false

set_option maxRecDepth 100000 in
set_option maxHeartbeats 3200000 in
theorem rsep_yes (La n s t : Nat) (es : List E3) (v : Value) (w : World) (hrd : EdgesRd w v es) (hvg : VG (La : Int) (n : Int) es) (hd : detE es = true) (hs : s < n) (ht : t < n) :
    Calls Try.prog 11 #[grV (La : Int) (n : Int) v, .int .i64 (s : Int), .int .i64 (t : Int)] w fun e w' => ∃ g c u is, e = .returned (.tuple #[.slice g u.length c, .bool is, .int .i64 0]) ∧ IntsRd w' (.slice g u.length c) u ∧ FW (fun x y : Bool => x != y) (mT n es) (mT n es) n n La s t u is ∧ Below w.heap.size w w' := by
  have hl := hvg.len
  have HCH : Hid (∀ W, EdgesRd W v es → Calls Try.prog 19 #[grV (La : Int) (n : Int) v] W fun e W' => e = .returned (.int .i64 0) ∧ Below W.heap.size W W') := Lib.hid (fun W h => by
    refine (rcheck13_any La n es v W h (by omega)).mono ?_
    rw [cdR_ok hvg hd]
    exact fun e W' h => h)
  have HFI : Hid (∀ W, EdgesRd W v es → Calls Try.prog 25 #[grV (La : Int) (n : Int) v, grV (La : Int) (n : Int) v, .int .i64 (s : Int), .int .i64 (t : Int), .bool true] W (FWOut (fun x y : Bool => x != y) (mT n es) (mT n es) n n La s t W)) := Lib.hid (fun W h => by
    have k := rfirst_xo La La n n s t es es v v W h h hvg hvg hd hd (by omega) (by omega) La (Nat.max_self La)
    rw [tgV_some (show s ≠ n by omega), tgV_some (show t ≠ n by omega)] at k
    exact k)
  have HRD := Lib.hid hrd
  have B0 := Lib.hid (below1 w (.cells #[.int .i64 (La : Int), .int .i64 (n : Int), v] 24))
  have G0 := Lib.hid (BoxG.new w (La : Int) (n : Int) v 24)
  obtain ⟨x1, x2, x3⟩ := id G0.out
  have d1 : decide ((s : Int) < 0) = false := decide_eq_false (by omega)
  have d2 : decide ((n : Int) ≤ (s : Int)) = false := decide_eq_false (by omega)
  have d3 : decide ((t : Int) < 0) = false := decide_eq_false (by omega)
  have d4 : decide ((n : Int) ≤ (t : Int)) = false := decide_eq_false (by omega)
  have d5 : (s : Int) < (n : Int) := by omega
  have d6 : (t : Int) < (n : Int) := by omega
  obtain ⟨a, c, rfl⟩ := hrd.form
  clear hrd hvg hd
  go_enter Try.func11, Try.ntmps11
  go_wp2_with (first
    | (go_at_call 19; (with_reducible refine (HCH.out _ (HRD.out.keep B0.out)).mono ?_); rintro e W1 ⟨rfl, b1⟩; (have B1 := Lib.hid (below_more B0.out (Nat.le_refl _) b1)); (have G1 := Lib.hid (G0.out.keep b1)); clear b1 x1 x2 x3; (obtain ⟨x1, x2, x3⟩ := id G1.out))
    | (go_at_call 25; (with_reducible refine (HFI.out _ (HRD.out.keep B1.out)).mono ?_); rintro e W3 ⟨g3, c3, u3, is3, rfl, i3, fw3, b3⟩; (have B3 := Lib.hid (B1.out.trans (b3.mono B1.out.size))); (have I3 := Lib.hid i3); (have FW3 := Lib.hid fw3); clear b3 i3 fw3))
  exact bodyPost_ret (v := .tuple #[.slice g3 u3.length c3, .bool is3, .int .i64 0]) (by simp [results, Try.results11, go_sem]) rfl ⟨g3, c3, u3, is3, rfl, I3.out, FW3.out, B3.out⟩
set_option maxRecDepth 100000 in
set_option maxHeartbeats 3200000 in
theorem rsep_no (La S z s t : Int) (es : List E3) (v : Value) (w : World) (hrd : EdgesRd w v es) (hn : es.length ≤ 9223372036854775807) (hz : cdR La S es = z) (h0 : z ≠ 0) :
    Calls Try.prog 11 #[grV La S v, .int .i64 s, .int .i64 t] w fun e w' => e = .returned (.tuple #[.slice none 0 0, .bool false, .int .i64 z]) ∧ Below w.heap.size w w' := by
  have HCD := Lib.hid (rcheck13_any La S es v _ (hrd.keep (below1 w (.cells #[.int .i64 La, .int .i64 S, v] 24))) hn)
  rw [hz] at HCD
  have B0 := Lib.hid (below1 w (.cells #[.int .i64 La, .int .i64 S, v] 24))
  obtain ⟨x1, x2, x3⟩ := BoxG.new w La S v 24
  have d1 : (z != 0) = true := by simpa using h0
  obtain ⟨a, c, rfl⟩ := hrd.form
  clear hrd hz h0
  go_enter Try.func11, Try.ntmps11
  go_wp2_with (go_at_call 19; (with_reducible refine HCD.out.mono ?_); rintro e W1 ⟨rfl, b1⟩; (have B1 := Lib.hid (below_more B0.out (Nat.le_refl _) b1)); clear b1 x1 x2 x3)
  exact bodyPost_ret (v := .tuple #[.slice none 0 0, .bool false, .int .i64 z]) (by simp [results, Try.results11, go_sem]) rfl ⟨rfl, B1.out⟩
set_option maxRecDepth 100000 in
set_option maxHeartbeats 6400000 in
theorem rsep_bad (La S s t : Int) (es : List E3) (v : Value) (w : World) (hrd : EdgesRd w v es) (hn : es.length ≤ 9223372036854775807) (hz : cdR La S es = 0) (h0 : ¬ (0 ≤ s ∧ s < S ∧ 0 ≤ t ∧ t < S)) :
    Calls Try.prog 11 #[grV La S v, .int .i64 s, .int .i64 t] w fun e w' => e = .returned (.tuple #[.slice none 0 0, .bool false, .int .i64 25]) ∧ Below w.heap.size w w' := by
  have HCD := Lib.hid (rcheck13_any La S es v _ (hrd.keep (below1 w (.cells #[.int .i64 La, .int .i64 S, v] 24))) hn)
  rw [hz] at HCD
  have B0 := Lib.hid (below1 w (.cells #[.int .i64 La, .int .i64 S, v] 24))
  have G0 := Lib.hid (BoxG.new w La S v 24)
  obtain ⟨x1, x2, x3⟩ := id G0.out
  obtain ⟨a, c, rfl⟩ := hrd.form
  clear hrd hz
  by_cases h1 : s < 0
  · have d1 : decide (s < 0) = true := decide_eq_true h1
    clear h0 h1
    go_enter Try.func11, Try.ntmps11
    go_wp2_with (go_at_call 19; (with_reducible refine HCD.out.mono ?_); rintro e W1 ⟨rfl, b1⟩; (have B1 := Lib.hid (below_more B0.out (Nat.le_refl _) b1)); (have G1 := Lib.hid (G0.out.keep b1)); clear b1 x1 x2 x3; (obtain ⟨x1, x2, x3⟩ := id G1.out))
    exact bodyPost_ret (v := .tuple #[.slice none 0 0, .bool false, .int .i64 25]) (by simp [results, Try.results11, go_sem]) rfl ⟨rfl, B1.out⟩
  · have d1 : decide (s < 0) = false := decide_eq_false h1
    by_cases h2 : S ≤ s
    · have d2 : decide (S ≤ s) = true := decide_eq_true h2
      clear h0 h1 h2
      go_enter Try.func11, Try.ntmps11
      go_wp2_with (go_at_call 19; (with_reducible refine HCD.out.mono ?_); rintro e W1 ⟨rfl, b1⟩; (have B1 := Lib.hid (below_more B0.out (Nat.le_refl _) b1)); (have G1 := Lib.hid (G0.out.keep b1)); clear b1 x1 x2 x3; (obtain ⟨x1, x2, x3⟩ := id G1.out))
      exact bodyPost_ret (v := .tuple #[.slice none 0 0, .bool false, .int .i64 25]) (by simp [results, Try.results11, go_sem]) rfl ⟨rfl, B1.out⟩
    · have d2 : decide (S ≤ s) = false := decide_eq_false h2
      by_cases h3 : t < 0
      · have d3 : decide (t < 0) = true := decide_eq_true h3
        clear h0 h1 h2 h3
        go_enter Try.func11, Try.ntmps11
        go_wp2_with (go_at_call 19; (with_reducible refine HCD.out.mono ?_); rintro e W1 ⟨rfl, b1⟩; (have B1 := Lib.hid (below_more B0.out (Nat.le_refl _) b1)); (have G1 := Lib.hid (G0.out.keep b1)); clear b1 x1 x2 x3; (obtain ⟨x1, x2, x3⟩ := id G1.out))
        exact bodyPost_ret (v := .tuple #[.slice none 0 0, .bool false, .int .i64 25]) (by simp [results, Try.results11, go_sem]) rfl ⟨rfl, B1.out⟩
      · have d3 : decide (t < 0) = false := decide_eq_false h3
        have d4 : decide (S ≤ t) = true := decide_eq_true (by omega)
        clear h0 h1 h2 h3
        go_enter Try.func11, Try.ntmps11
        go_wp2_with (go_at_call 19; (with_reducible refine HCD.out.mono ?_); rintro e W1 ⟨rfl, b1⟩; (have B1 := Lib.hid (below_more B0.out (Nat.le_refl _) b1)); (have G1 := Lib.hid (G0.out.keep b1)); clear b1 x1 x2 x3; (obtain ⟨x1, x2, x3⟩ := id G1.out))
        exact bodyPost_ret (v := .tuple #[.slice none 0 0, .bool false, .int .i64 25]) (by simp [results, Try.results11, go_sem]) rfl ⟨rfl, B1.out⟩
set_option maxRecDepth 100000 in
set_option maxHeartbeats 3200000 in
theorem sep_no (La S z s t : Int) (es : List E3) (v : Value) (w : World) (hrd : EdgesRd w v es) (hn : es.length ≤ 9223372036854775807) (hz : cdR La S es = z) (h0 : z ≠ 0) :
    Calls Try.prog 10 #[grV La S v, .int .i64 s, .int .i64 t] w fun e w' => e = .returned (.tuple #[.slice none 0 0, .bool false, .int .i64 z]) ∧ Below w.heap.size w w' := by
  have HCD := Lib.hid (checkDet_any La S es v _ (hrd.keep (below1 w (.cells #[.int .i64 La, .int .i64 S, v] 24))) hn)
  rw [hz] at HCD
  have B0 := Lib.hid (below1 w (.cells #[.int .i64 La, .int .i64 S, v] 24))
  obtain ⟨x1, x2, x3⟩ := BoxG.new w La S v 24
  have d1 : (z != 0) = true := by simpa using h0
  obtain ⟨a, c, rfl⟩ := hrd.form
  clear hrd hz h0
  go_enter Try.func10, Try.ntmps10
  go_wp2_with (go_at_call 16; (with_reducible refine HCD.out.mono ?_); rintro e W1 ⟨rfl, b1⟩; (have B1 := Lib.hid (below_more B0.out (Nat.le_refl _) b1)); clear b1 x1 x2 x3)
  exact bodyPost_ret (v := .tuple #[.slice none 0 0, .bool false, .int .i64 z]) (by simp [results, Try.results10, go_sem]) rfl ⟨rfl, B1.out⟩
set_option maxRecDepth 100000 in
set_option maxHeartbeats 6400000 in
theorem sep_bad (La S s t : Int) (es : List E3) (v : Value) (w : World) (hrd : EdgesRd w v es) (hn : es.length ≤ 9223372036854775807) (hz : cdR La S es = 0) (h0 : ¬ (0 ≤ s ∧ s < S ∧ 0 ≤ t ∧ t < S)) :
    Calls Try.prog 10 #[grV La S v, .int .i64 s, .int .i64 t] w fun e w' => e = .returned (.tuple #[.slice none 0 0, .bool false, .int .i64 25]) ∧ Below w.heap.size w w' := by
  have HCD := Lib.hid (checkDet_any La S es v _ (hrd.keep (below1 w (.cells #[.int .i64 La, .int .i64 S, v] 24))) hn)
  rw [hz] at HCD
  have B0 := Lib.hid (below1 w (.cells #[.int .i64 La, .int .i64 S, v] 24))
  have G0 := Lib.hid (BoxG.new w La S v 24)
  obtain ⟨x1, x2, x3⟩ := id G0.out
  obtain ⟨a, c, rfl⟩ := hrd.form
  clear hrd hz
  by_cases h1 : s < 0
  · have d1 : decide (s < 0) = true := decide_eq_true h1
    clear h0 h1
    go_enter Try.func10, Try.ntmps10
    go_wp2_with (go_at_call 16; (with_reducible refine HCD.out.mono ?_); rintro e W1 ⟨rfl, b1⟩; (have B1 := Lib.hid (below_more B0.out (Nat.le_refl _) b1)); (have G1 := Lib.hid (G0.out.keep b1)); clear b1 x1 x2 x3; (obtain ⟨x1, x2, x3⟩ := id G1.out))
    exact bodyPost_ret (v := .tuple #[.slice none 0 0, .bool false, .int .i64 25]) (by simp [results, Try.results10, go_sem]) rfl ⟨rfl, B1.out⟩
  · have d1 : decide (s < 0) = false := decide_eq_false h1
    by_cases h2 : S ≤ s
    · have d2 : decide (S ≤ s) = true := decide_eq_true h2
      clear h0 h1 h2
      go_enter Try.func10, Try.ntmps10
      go_wp2_with (go_at_call 16; (with_reducible refine HCD.out.mono ?_); rintro e W1 ⟨rfl, b1⟩; (have B1 := Lib.hid (below_more B0.out (Nat.le_refl _) b1)); (have G1 := Lib.hid (G0.out.keep b1)); clear b1 x1 x2 x3; (obtain ⟨x1, x2, x3⟩ := id G1.out))
      exact bodyPost_ret (v := .tuple #[.slice none 0 0, .bool false, .int .i64 25]) (by simp [results, Try.results10, go_sem]) rfl ⟨rfl, B1.out⟩
    · have d2 : decide (S ≤ s) = false := decide_eq_false h2
      by_cases h3 : t < 0
      · have d3 : decide (t < 0) = true := decide_eq_true h3
        clear h0 h1 h2 h3
        go_enter Try.func10, Try.ntmps10
        go_wp2_with (go_at_call 16; (with_reducible refine HCD.out.mono ?_); rintro e W1 ⟨rfl, b1⟩; (have B1 := Lib.hid (below_more B0.out (Nat.le_refl _) b1)); (have G1 := Lib.hid (G0.out.keep b1)); clear b1 x1 x2 x3; (obtain ⟨x1, x2, x3⟩ := id G1.out))
        exact bodyPost_ret (v := .tuple #[.slice none 0 0, .bool false, .int .i64 25]) (by simp [results, Try.results10, go_sem]) rfl ⟨rfl, B1.out⟩
      · have d3 : decide (t < 0) = false := decide_eq_false h3
        have d4 : decide (S ≤ t) = true := decide_eq_true (by omega)
        clear h0 h1 h2 h3
        go_enter Try.func10, Try.ntmps10
        go_wp2_with (go_at_call 16; (with_reducible refine HCD.out.mono ?_); rintro e W1 ⟨rfl, b1⟩; (have B1 := Lib.hid (below_more B0.out (Nat.le_refl _) b1)); (have G1 := Lib.hid (G0.out.keep b1)); clear b1 x1 x2 x3; (obtain ⟨x1, x2, x3⟩ := id G1.out))
        exact bodyPost_ret (v := .tuple #[.slice none 0 0, .bool false, .int .i64 25]) (by simp [results, Try.results10, go_sem]) rfl ⟨rfl, B1.out⟩
end Go.Proofs.Ytbgfllohedhmaaa

namespace Go.Proofs.Ytbgfllohedhmaaa
open Go.RowKit
set_option linter.unusedSimpArgs false
set_option linter.unusedVariables false

set_option maxRecDepth 100000 in
set_option maxHeartbeats 6400000 in
theorem alike_any (La n s t : Nat) (es : List E3) (v vc : Value) (c : List Nat) (w : World) (hrd : EdgesRd w v es) (hrc : IntsRd w vc (labsI c)) (hvg : VG (La : Int) (n : Int) es) (hd : detE es = true) (hc : c.length = n) :
    Calls Try.prog 34 #[grV (La : Int) (n : Int) v, vc, .int .i64 (s : Int), .int .i64 (t : Int)] w fun e w' => e = .returned (.bool (decide ((sigC (mT n es) n La c s).2 = (sigC (mT n es) n La c t).2))) ∧ Below w.heap.size w w' := by
  have hL256 : La ≤ 256 := by have := hvg.l2; omega
  have HTA : Hid (∀ W j l (X : Int), tgV n (mT n es j l) = X → EdgesRd W v es → Calls Try.prog 41 #[grV (La : Int) (n : Int) v, .int .i64 (j : Int), .int .i64 (l : Int)] W fun e W' => e = .returned (.int .i64 X) ∧ Below W.heap.size W W') := Lib.hid (fun W j l X hX h => by
    have k := rtarget_any La n j l es v W h hvg hd
    rw [hX] at k
    exact k)
  have HM := Lib.hid (fun j l => mT_le hvg.ok j l)
  have HRD := Lib.hid hrd
  have HRC := Lib.hid hrc
  have HC := Lib.hid hc
  have B0 := Lib.hid (below1 w (.cells #[.int .i64 (La : Int), .int .i64 (n : Int), v] 24))
  have G0 := Lib.hid (BoxG.new w (La : Int) (n : Int) v 24)
  obtain ⟨x1, x2, x3⟩ := id G0.out
  obtain ⟨a, k0, rfl⟩ := hrd.form
  obtain ⟨ac, kc, rfl⟩ := hrc.form
  have hll := labsI_lenH c
  rw [hc] at hll
  rw [hll] at HRC ⊢
  clear hrd hrc hvg hd hc hll
  obtain ⟨W1, hW⟩ : ∃ W1, w.alloc (.cells #[.int .i64 (La : Int), .int .i64 (n : Int), .slice a es.length k0] 24) = W1 := ⟨_, rfl⟩
  have HW := Lib.hid hW
  rw [hW] at B0 G0 x1 x2 x3
  clear hW
  obtain ⟨R, hR⟩ : ∃ R, decide ((sigC (mT n es) n La c s).2 = (sigC (mT n es) n La c t).2) = R := ⟨_, rfl⟩
  have HR := Lib.hid hR
  rw [hR]
  clear hR
  go_enter Try.func34, Try.ntmps34
  go_wp2_with fail
  rw [HW.out]
  clear HW x1 x2 x3
  go_loopg [9, 10, 11] La (fun q s9 s10 s11 wx => ∃ i : Nat, i + q = La ∧ s9 = .int .i64 (i : Int) ∧ Hid (∀ l, l < i → sgC (mT n es) n c s l = sgC (mT n es) n c t l) ∧ Hid (Below W1.heap.size W1 wx))
  case atStart => exact ⟨0, by omega, rfl, Lib.hid (fun l hl => absurd hl (by omega)), Lib.hid (Below.refl _ _)⟩
  case round =>
    obtain ⟨i, hin, rfl, HI, HB⟩ := hrel
    obtain ⟨x1, x2, x3⟩ := G0.out.keep HB.out
    rcases gk with _ | q
    · obtain rfl : i = La := by omega
      have HE := Lib.hid (show R = true by rw [← HR.out]; exact decide_eq_true (sig2_iff.2 HI.out))
      have j1 : ¬ ((i : Int) < (i : Int)) := by omega
      have HBW := Lib.hid (B0.out.trans (HB.out.mono B0.out.size))
      clear HI
      go_wp2_with fail
      go_ret
      exact ⟨by rw [HE.out]; rfl, HBW.out⟩
    · have j1 : (i : Int) < (La : Int) := by omega
      have hiL : i < La := by omega
      have HBW := Lib.hid (B0.out.trans (HB.out.mono B0.out.size))
      obtain ⟨x, hx⟩ : ∃ x, mT n es s i = x := ⟨_, rfl⟩
      obtain ⟨y, hy⟩ : ∃ y, mT n es t i = y := ⟨_, rfl⟩
      have hxn : x ≤ n := by rw [← hx]; exact HM.out s i
      have hyn : y ≤ n := by rw [← hy]; exact HM.out t i
      have HNO := Lib.hid (show ¬ ((x = n ↔ y = n) ∧ (x ≠ n → c.getD x 0 = c.getD y 0)) → R = false from fun h => by
        rw [← HR.out]
        refine decide_eq_false (fun h2 => h ?_)
        have h3 := sgC_iff.1 (sig2_iff.1 h2 i hiL)
        rw [hx, hy] at h3
        exact h3)
      have HYE := Lib.hid (show ((x = n ↔ y = n) ∧ (x ≠ n → c.getD x 0 = c.getD y 0)) → ∀ l, l < i + 1 → sgC (mT n es) n c s l = sgC (mT n es) n c t l from fun h l hl => by
        rcases (show l < i ∨ l = i by omega) with h2 | rfl
        · exact HI.out l h2
        · rw [sgC_iff, hx, hy]; exact h)
      clear HI
      by_cases hxx : x = n <;> by_cases hyy : y = n
      · replace HYE := Lib.hid (HYE.out ⟨⟨fun _ => hyy, fun _ => hxx⟩, fun h => absurd hxx h⟩)
        clear HNO HR
        have C1 := Lib.hid (HTA.out wr.drew s i (-1) (by rw [hx]; rw [hxx]; exact tgV_none n) ((HRD.out.keep HBW.out).keep (Below.refl _ _).drew))
        have C2 : Hid (∀ W, Below wr.heap.size wr W → _) := Lib.hid (fun W hb => HTA.out W t i (-1) (by rw [hy]; rw [hyy]; exact tgV_none n) ((HRD.out.keep HBW.out).keep hb))
        have BD := Lib.hid (Below.refl wr.heap.size wr).drew
        have GX : Hid (∀ W, Below wr.heap.size wr W → BoxG W w.heap.size (La : Int) (n : Int) (.slice a es.length k0)) := Lib.hid (fun W hb => (G0.out.keep HB.out).keep hb)
        clear hx hy
        go_upto_region 4 with fail
        go_region_held3 (fun W => W.cell? ⟨w.heap.size, 0, none⟩ = some (.int .i64 (La : Int)) ∧ W.cell? ⟨w.heap.size, 1, none⟩ = some (.int .i64 (n : Int)) ∧ W.cell? ⟨w.heap.size, 2, none⟩ = some (.slice a es.length k0))
          (first | exact GX.out _ BD.out | exact GX.out _ K2.out | exact GX.out _ K1.out)
          (first
            | (go_at_call 41; (with_reducible refine C1.out.mono ?_); rintro e0 Y1 ⟨rfl, q1⟩; (have K1 := Lib.hid (below_more BD.out (Nat.le_refl _) q1)); clear q1 C1)
            | (go_at_call 41; (with_reducible refine (C2.out Y1 K1.out).mono ?_); rintro e0 Y2 ⟨rfl, q2⟩; (have K2 := Lib.hid (K1.out.trans (q2.mono K1.out.size))); clear q2 C2))
        all_goals
          have HB2 := Lib.hid (HB.out.trans (K2.out.mono HB.out.size))
          have HBW2 := Lib.hid (HBW.out.trans (K2.out.mono HBW.out.size))
          go_upto_region 5 with fail
          go_quiet (fail)
          go_wp2_with fail
          go_roundg q
          case measure => omega
          case rel => exact ⟨i + 1, by omega, by go_num, HYE, Lib.hid (below_drewM HB2.out _)⟩
      · replace HNO := Lib.hid (HNO.out (fun h => hyy (h.1.1 hxx)))
        clear HYE HR
        have d1 : decide ((y : Int) < 0) = false := decide_eq_false (by omega)
        have C1 := Lib.hid (HTA.out wr.drew s i (-1) (by rw [hx]; rw [hxx]; exact tgV_none n) ((HRD.out.keep HBW.out).keep (Below.refl _ _).drew))
        have C2 : Hid (∀ W, Below wr.heap.size wr W → _) := Lib.hid (fun W hb => HTA.out W t i ((y : Int)) (by rw [hy]; exact tgV_some hyy) ((HRD.out.keep HBW.out).keep hb))
        have BD := Lib.hid (Below.refl wr.heap.size wr).drew
        have GX : Hid (∀ W, Below wr.heap.size wr W → BoxG W w.heap.size (La : Int) (n : Int) (.slice a es.length k0)) := Lib.hid (fun W hb => (G0.out.keep HB.out).keep hb)
        clear hx hy
        go_upto_region 4 with fail
        go_region_held3 (fun W => W.cell? ⟨w.heap.size, 0, none⟩ = some (.int .i64 (La : Int)) ∧ W.cell? ⟨w.heap.size, 1, none⟩ = some (.int .i64 (n : Int)) ∧ W.cell? ⟨w.heap.size, 2, none⟩ = some (.slice a es.length k0))
          (first | exact GX.out _ BD.out | exact GX.out _ K2.out | exact GX.out _ K1.out)
          (first
            | (go_at_call 41; (with_reducible refine C1.out.mono ?_); rintro e0 Y1 ⟨rfl, q1⟩; (have K1 := Lib.hid (below_more BD.out (Nat.le_refl _) q1)); clear q1 C1)
            | (go_at_call 41; (with_reducible refine (C2.out Y1 K1.out).mono ?_); rintro e0 Y2 ⟨rfl, q2⟩; (have K2 := Lib.hid (K1.out.trans (q2.mono K1.out.size))); clear q2 C2))
        all_goals
          have HB2 := Lib.hid (HB.out.trans (K2.out.mono HB.out.size))
          have HBW2 := Lib.hid (HBW.out.trans (K2.out.mono HBW.out.size))
          go_upto_region 5 with fail
          go_quiet (fail)
          go_wp2_with fail
          go_ret
          exact ⟨by rw [HNO.out]; rfl, below_drewM HBW2.out _⟩
      · replace HNO := Lib.hid (HNO.out (fun h => hxx (h.1.2 hyy)))
        clear HYE HR
        have d1 : decide ((x : Int) < 0) = false := decide_eq_false (by omega)
        have C1 := Lib.hid (HTA.out wr.drew s i ((x : Int)) (by rw [hx]; exact tgV_some hxx) ((HRD.out.keep HBW.out).keep (Below.refl _ _).drew))
        have C2 : Hid (∀ W, Below wr.heap.size wr W → _) := Lib.hid (fun W hb => HTA.out W t i (-1) (by rw [hy]; rw [hyy]; exact tgV_none n) ((HRD.out.keep HBW.out).keep hb))
        have BD := Lib.hid (Below.refl wr.heap.size wr).drew
        have GX : Hid (∀ W, Below wr.heap.size wr W → BoxG W w.heap.size (La : Int) (n : Int) (.slice a es.length k0)) := Lib.hid (fun W hb => (G0.out.keep HB.out).keep hb)
        clear hx hy
        go_upto_region 4 with fail
        go_region_held3 (fun W => W.cell? ⟨w.heap.size, 0, none⟩ = some (.int .i64 (La : Int)) ∧ W.cell? ⟨w.heap.size, 1, none⟩ = some (.int .i64 (n : Int)) ∧ W.cell? ⟨w.heap.size, 2, none⟩ = some (.slice a es.length k0))
          (first | exact GX.out _ BD.out | exact GX.out _ K2.out | exact GX.out _ K1.out)
          (first
            | (go_at_call 41; (with_reducible refine C1.out.mono ?_); rintro e0 Y1 ⟨rfl, q1⟩; (have K1 := Lib.hid (below_more BD.out (Nat.le_refl _) q1)); clear q1 C1)
            | (go_at_call 41; (with_reducible refine (C2.out Y1 K1.out).mono ?_); rintro e0 Y2 ⟨rfl, q2⟩; (have K2 := Lib.hid (K1.out.trans (q2.mono K1.out.size))); clear q2 C2))
        all_goals
          have HB2 := Lib.hid (HB.out.trans (K2.out.mono HB.out.size))
          have HBW2 := Lib.hid (HBW.out.trans (K2.out.mono HBW.out.size))
          go_upto_region 5 with fail
          go_quiet (fail)
          go_wp2_with fail
          go_ret
          exact ⟨by rw [HNO.out]; rfl, below_drewM HBW2.out _⟩
      · have d1 : decide ((x : Int) < 0) = false := decide_eq_false (by omega)
        have d2 : decide ((y : Int) < 0) = false := decide_eq_false (by omega)
        have d3 : decide ((0 : Int) ≤ (x : Int)) = true := decide_eq_true (by omega)
        have jx : (x : Int) < (n : Int) := by omega
        have jy : (y : Int) < (n : Int) := by omega
        have HXX := Lib.hid hxx
        have HYY := Lib.hid hyy
        by_cases hcc : c.getD x 0 = c.getD y 0
        · replace HYE := Lib.hid (HYE.out ⟨⟨fun h => absurd h hxx, fun h => absurd h hyy⟩, fun _ => hcc⟩)
          clear HNO HR
          have C1 := Lib.hid (HTA.out wr.drew s i ((x : Int)) (by rw [hx]; exact tgV_some HXX.out) ((HRD.out.keep HBW.out).keep (Below.refl _ _).drew))
          have C2 : Hid (∀ W, Below wr.heap.size wr W → _) := Lib.hid (fun W hb => HTA.out W t i ((y : Int)) (by rw [hy]; exact tgV_some HYY.out) ((HRD.out.keep HBW.out).keep hb))
          have BD := Lib.hid (Below.refl wr.heap.size wr).drew
          have GX : Hid (∀ W, Below wr.heap.size wr W → BoxG W w.heap.size (La : Int) (n : Int) (.slice a es.length k0)) := Lib.hid (fun W hb => (G0.out.keep HB.out).keep hb)
          clear hx hy
          go_upto_region 4 with fail
          go_region_held3 (fun W => W.cell? ⟨w.heap.size, 0, none⟩ = some (.int .i64 (La : Int)) ∧ W.cell? ⟨w.heap.size, 1, none⟩ = some (.int .i64 (n : Int)) ∧ W.cell? ⟨w.heap.size, 2, none⟩ = some (.slice a es.length k0))
            (first | exact GX.out _ BD.out | exact GX.out _ K2.out | exact GX.out _ K1.out)
            (first
              | (go_at_call 41; (with_reducible refine C1.out.mono ?_); rintro e0 Y1 ⟨rfl, q1⟩; (have K1 := Lib.hid (below_more BD.out (Nat.le_refl _) q1)); clear q1 C1)
              | (go_at_call 41; (with_reducible refine (C2.out Y1 K1.out).mono ?_); rintro e0 Y2 ⟨rfl, q2⟩; (have K2 := Lib.hid (K1.out.trans (q2.mono K1.out.size))); clear q2 C2))
          all_goals
            have HB2 := Lib.hid (HB.out.trans (K2.out.mono HB.out.size))
            have HBW2 := Lib.hid (HBW.out.trans (K2.out.mono HBW.out.size))
            have hcl := HC.out
            obtain ⟨b1, o1, k1, e1, p1⟩ := (HRC.out.keep HBW2.out).at (natR (c := c) (i := x) (by omega))
            obtain ⟨b2, o2, k2, e2, p2⟩ := (HRC.out.keep HBW2.out).at (natR (c := c) (i := y) (by omega))
            rw [labsI_lenH, hcl] at e1 e2
            injection e1 with e1 _ e9
            injection e2 with e2 _ e8
            subst e1
            subst e9
            subst e8
            injection e2 with e2
            injection e2 with e2 e3
            subst e2
            subst e3
            rw [hcc] at p1
            generalize c.getD y 0 = z at p1 p2
            clear hcc hcl
            go_upto_region 5 with fail
            go_quiet (fail)
            go_wp2_with fail
            go_roundg q
            case measure => omega
            case rel => exact ⟨i + 1, by omega, by go_num, HYE, Lib.hid (below_drewM HB2.out _)⟩
        · replace HNO := Lib.hid (HNO.out (fun h => hcc (h.2 hxx)))
          clear HYE HR
          have C1 := Lib.hid (HTA.out wr.drew s i ((x : Int)) (by rw [hx]; exact tgV_some HXX.out) ((HRD.out.keep HBW.out).keep (Below.refl _ _).drew))
          have C2 : Hid (∀ W, Below wr.heap.size wr W → _) := Lib.hid (fun W hb => HTA.out W t i ((y : Int)) (by rw [hy]; exact tgV_some HYY.out) ((HRD.out.keep HBW.out).keep hb))
          have BD := Lib.hid (Below.refl wr.heap.size wr).drew
          have GX : Hid (∀ W, Below wr.heap.size wr W → BoxG W w.heap.size (La : Int) (n : Int) (.slice a es.length k0)) := Lib.hid (fun W hb => (G0.out.keep HB.out).keep hb)
          clear hx hy
          go_upto_region 4 with fail
          go_region_held3 (fun W => W.cell? ⟨w.heap.size, 0, none⟩ = some (.int .i64 (La : Int)) ∧ W.cell? ⟨w.heap.size, 1, none⟩ = some (.int .i64 (n : Int)) ∧ W.cell? ⟨w.heap.size, 2, none⟩ = some (.slice a es.length k0))
            (first | exact GX.out _ BD.out | exact GX.out _ K2.out | exact GX.out _ K1.out)
            (first
              | (go_at_call 41; (with_reducible refine C1.out.mono ?_); rintro e0 Y1 ⟨rfl, q1⟩; (have K1 := Lib.hid (below_more BD.out (Nat.le_refl _) q1)); clear q1 C1)
              | (go_at_call 41; (with_reducible refine (C2.out Y1 K1.out).mono ?_); rintro e0 Y2 ⟨rfl, q2⟩; (have K2 := Lib.hid (K1.out.trans (q2.mono K1.out.size))); clear q2 C2))
          all_goals
            have HB2 := Lib.hid (HB.out.trans (K2.out.mono HB.out.size))
            have HBW2 := Lib.hid (HBW.out.trans (K2.out.mono HBW.out.size))
            have hcl := HC.out
            obtain ⟨b1, o1, k1, e1, p1⟩ := (HRC.out.keep HBW2.out).at (natR (c := c) (i := x) (by omega))
            obtain ⟨b2, o2, k2, e2, p2⟩ := (HRC.out.keep HBW2.out).at (natR (c := c) (i := y) (by omega))
            rw [labsI_lenH, hcl] at e1 e2
            injection e1 with e1 _ e9
            injection e2 with e2 _ e8
            subst e1
            subst e9
            subst e8
            injection e2 with e2
            injection e2 with e2 e3
            subst e2
            subst e3
            have d4 : (((c.getD x 0 : Nat) : Int) != ((c.getD y 0 : Nat) : Int)) = true := by rw [bne_iff_ne]; omega
            generalize c.getD x 0 = z1 at p1 d4 hcc
            generalize c.getD y 0 = z2 at p2 d4 hcc
            clear hcc hcl
            go_upto_region 5 with fail
            go_quiet (fail)
            go_wp2_with fail
            go_ret
            exact ⟨by rw [HNO.out]; rfl, below_drewM HBW2.out _⟩
end Go.Proofs.Ytbgfllohedhmaaa
