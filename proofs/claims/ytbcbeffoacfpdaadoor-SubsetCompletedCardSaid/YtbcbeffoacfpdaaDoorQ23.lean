/- What groovelaw12.great returns; SubsetSets where the graph is great or From finds a fault. Conditions: the edges and the set can be read; the library's table reads as its text lays it. SubsetSets returns true. Conditions: the edges and the set can be read; the library's table reads as its text lays it. What rows without listed variables share. No condition. -/
import Derived.Test.YtbcbeffoacfpdaaDoorQ20
import Derived.Test.YtbcbeffoacfpdaaDoorQ22
import Derived.Test.YtbcbeffoacfpdaaDoorQ16
import Derived.Test.YtbcbeffoacfpdaaDoorQ17
import Derived.Test.YtbcbeffoacfpdaaDoorRows
import Derived.WalkKit
import Derived.ProofKit
import Derived.OpenShut
import Derived.Deep.DeepHandedRow
import Derived.Below
import Derived.Lib.SmallJoins

namespace Go.Proofs.YtbcbeffoacfpdaaDoor
open Go.RowKit
set_option linter.unusedSimpArgs false
set_option linter.unusedVariables false

set_option maxRecDepth 100000 in
set_option maxHeartbeats 1600000 in
theorem great12_any (L S : Int) (a : Option Addr) (k c : Nat) (w : World) :
    Calls Tryd.prog 9 #[grV L S (.slice a k c)] w fun e w' => e = .returned (.bool (greatB S k)) ∧ Below w.heap.size w w' := by
  have HG := Lib.hid (fun W => great_any L S a k c W)
  have B0 := Lib.hid (below1 w (.cells #[.int .i64 L, .int .i64 S, .slice a k c] 24))
  obtain ⟨x1, x2, x3⟩ := BoxG.new w L S (.slice a k c) 24
  go_enter Tryd.func9, Tryd.ntmps9
  go_wp2_with (go_at_call 35; (refine (HG.out _).mono ?_); rintro e W1 ⟨rfl, b1⟩; (have B1 := Lib.hid (below_more B0.out (Nat.le_refl _) b1)))
  go_ret
  exact ⟨rfl, B1.out⟩
set_option maxRecDepth 100000 in
set_option maxHeartbeats 3200000 in
theorem sets_great (La S : Int) (es : List E3) (v vs : Value) (set : List Int) (w : World) (hrd : EdgesRd w v es) (hst : IntsRd w vs set) (hT : TabD w) (h : greatB S es.length = true ∨ 10 < set.length) :
    Calls Tryd.prog 5 #[grV La S v, vs] w fun e w' => e = .returned (.bool true) ∧ Below w.heap.size w w' := by
  obtain ⟨a, c, rfl⟩ := hrd.form
  obtain ⟨a2, c2, rfl⟩ := hst.form
  have HG := Lib.hid (fun W => great12_any La S a es.length c W)
  have HA := Lib.hid (fun W h => awake12_any W h)
  have HT := Lib.hid hT
  have B0 := Lib.hid (below1 w (.cells #[.int .i64 La, .int .i64 S, .slice a es.length c] 24))
  obtain ⟨x1, x2, x3⟩ := BoxG.new w La S (.slice a es.length c) 24
  clear hrd hst hT
  cases hg : greatB S es.length
  · rw [hg] at HG
    have h10 : 10 < set.length := h.resolve_left (by rw [hg]; exact Bool.false_ne_true)
    have d1 : decide ((10 : Int) < (set.length : Int)) = true := decide_eq_true (by omega)
    clear h hg
    go_enter Tryd.func5, Tryd.ntmps5
    go_wp2_with (first
      | (go_at_call 9; (refine (HG.out _).mono ?_); rintro e W1 ⟨rfl, b1⟩; (have B1 := Lib.hid (below_more B0.out (Nat.le_refl _) b1)))
      | (go_at_call 10; (refine (HA.out _ (HT.out.keep B1.out)).mono ?_); rintro e W2 ⟨rfl, b2⟩; (have B2 := Lib.hid (B1.out.trans (b2.mono B1.out.size)))))
    go_ret
    exact ⟨rfl, B2.out⟩
  · rw [hg] at HG
    clear h hg
    go_enter Tryd.func5, Tryd.ntmps5
    go_wp2_with (first
      | (go_at_call 9; (refine (HG.out _).mono ?_); rintro e W1 ⟨rfl, b1⟩; (have B1 := Lib.hid (below_more B0.out (Nat.le_refl _) b1)))
      | (go_at_call 10; (refine (HA.out _ (HT.out.keep B1.out)).mono ?_); rintro e W2 ⟨rfl, b2⟩; (have B2 := Lib.hid (B1.out.trans (b2.mono B1.out.size)))))
    go_ret
    exact ⟨rfl, B2.out⟩
set_option maxRecDepth 100000 in
set_option maxHeartbeats 3200000 in
theorem sets_fault (La S : Int) (es : List E3) (v vs : Value) (set : List Int) (w : World) (hrd : EdgesRd w v es) (hn : es.length ≤ 9223372036854775807) (hst : IntsRd w vs set) (hT : TabD w) (hg : greatB S es.length = false) (h10 : set.length ≤ 10) (hk : (fromR La S es set).1 ≠ 0) :
    Calls Tryd.prog 5 #[grV La S v, vs] w fun e w' => e = .returned (.bool true) ∧ Below w.heap.size w w' := by
  have hno := fromR_no hk
  obtain ⟨z, hz⟩ : ∃ z, (fromR La S es set).1 = z := ⟨_, rfl⟩
  rw [hz] at hk
  have d0 : onOk z La = 0 := if_neg hk
  have d2 : (z != 0) = true := by simpa using hk
  have HF : Hid (∀ W, EdgesRd W v es → IntsRd W vs set → TabD W → Calls Tryd.prog 13 #[grV La S v, vs] W fun e W' => ∃ hv lv, e = .returned (.tuple #[grV 0 0 hv, lv, .int .i64 z]) ∧ EdgesAt W' W.heap.size hv [] ∧ RowsAt W' W.heap.size lv [] ∧ Below W.heap.size W W') := Lib.hid (fun W h1 h2 h3 => by
    refine (From_any La S es v vs set W h1 hn h2 (by omega) h3).mono ?_
    rw [hno, hz]
    rintro e W' ⟨hv, lv, he, h⟩
    rw [d0] at he
    exact ⟨hv, lv, he, h⟩)
  have HRD := Lib.hid hrd
  have HST := Lib.hid hst
  obtain ⟨a, c, rfl⟩ := hrd.form
  obtain ⟨a2, c2, rfl⟩ := hst.form
  have HG := Lib.hid (fun W => great12_any La S a es.length c W)
  have HA := Lib.hid (fun W h => awake12_any W h)
  have HT := Lib.hid hT
  rw [hg] at HG
  have B0 := Lib.hid (below1 w (.cells #[.int .i64 La, .int .i64 S, .slice a es.length c] 24))
  have G0 := Lib.hid (BoxG.new w La S (.slice a es.length c) 24)
  obtain ⟨x1, x2, x3⟩ := id G0.out
  have d1 : decide ((10 : Int) < (set.length : Int)) = false := decide_eq_false (by omega)
  clear hrd hst hT hno hz hk d0 hg
  go_enter Tryd.func5, Tryd.ntmps5
  go_wp2_with (first
    | (go_at_call 9; (refine (HG.out _).mono ?_); rintro e W1 ⟨rfl, b1⟩; (have B1 := Lib.hid (below_more B0.out (Nat.le_refl _) b1)); (obtain ⟨x1, x2, x3⟩ := G0.out.keep b1); clear b1)
    | (go_at_call 13; (refine (HF.out _ (HRD.out.keep B1.out) (HST.out.keep B1.out) (HT.out.keep B1.out)).mono ?_); rintro e W2 ⟨hv, lv, rfl, he2, hr2, b2⟩; (obtain ⟨ah, ch, rfl⟩ := he2.slice); (obtain ⟨al, rfl⟩ := hr2.form); (have B2 := Lib.hid ((B1.out.trans (b2.mono B1.out.size)).alloc (by have := B1.out.size; have := b2.size; omega) (.cells #[.int .i64 0, .int .i64 0, .slice ah 0 ch] 24))); clear b2 he2 hr2)
    | (go_at_call 10; (refine (HA.out _ (HT.out.keep B2.out)).mono ?_); rintro e W3 ⟨rfl, b3⟩; (have B3 := Lib.hid (B2.out.trans (b3.mono B2.out.size)))))
  go_ret
  exact ⟨rfl, B3.out⟩
end Go.Proofs.YtbcbeffoacfpdaaDoor

namespace Go.Proofs.YtbcbeffoacfpdaaDoor
open Go.RowKit
set_option linter.unusedSimpArgs false
set_option linter.unusedVariables false

theorem EdgesRd.form2 {W : World} {v : Value} {es : List E3} (h : EdgesRd W v es) : ∃ a c, v = .slice a es.length c := h.form
theorem memN_len (S : Nat) : (memN S).length ≤ 64 := mems_len _ _
/-- What a loop over the letters of a set knows of the step. -/
theorem edsN_le (es : List E3) (sets : List Nat) (i c : Nat) : (edsN es sets i c).length ≤ c := by
  have h := List.length_filterMap_le (edN es sets i) (List.range c)
  rw [List.length_range] at h
  exact h
theorem allN_le (es : List E3) (La : Nat) (sets : List Nat) : ∀ i, (allN es La sets i).length ≤ i * La
  | 0 => by unfold allN; simp
  | i + 1 => by
    rw [allN_succ, List.length_append]
    have h1 := allN_le es La sets i
    have h2 := edsN_le es sets i La
    rw [Nat.succ_mul]
    omega
theorem edsN_len0 {es : List E3} {sets : List Nat} {i c T : Nat} (hT : sets[i]? = some T) (h : stN es T c = 0) : (edsN es sets i (c + 1)).length = (edsN es sets i c).length := by
  have hg : sets.getD i 0 = T := by rw [List.getD_eq_getElem?_getD, hT]; rfl
  rw [edsN_succ]
  unfold edN
  rw [hg, if_pos h]
  simp
theorem edsN_len1 {es : List E3} {sets : List Nat} {i c T : Nat} (hT : sets[i]? = some T) (h : stN es T c ≠ 0) : (edsN es sets i (c + 1)).length = (edsN es sets i c).length + 1 := by
  have hg : sets.getD i 0 = T := by rw [List.getD_eq_getElem?_getD, hT]; rfl
  rw [edsN_succ]
  unfold edN
  rw [hg, if_neg h]
  simp
/-- The cells that the statement of the last loop reads. -/
def SX (p P0 b q : Nat) (L n : Int) (v : Value) (j l : Nat) (u : Value) (W : World) : Prop := W.cell? ⟨p, 0, none⟩ = some (.int .i64 L) ∧ W.cell? ⟨p, 1, none⟩ = some (.int .i64 n) ∧ W.cell? ⟨p, 2, none⟩ = some v ∧ W.cell? ⟨P0, 0, none⟩ = some (.int .i64 (j : Int)) ∧ W.cell? ⟨P0, 1, none⟩ = some (.int .i64 (l : Int)) ∧ W.cell? ⟨b, q, none⟩ = some u
theorem SX.keep {p P0 b q : Nat} {L n : Int} {v : Value} {j l : Nat} {u : Value} {W W' : World} (h : SX p P0 b q L n v j l u W) (k : Below W.heap.size W W') : SX p P0 b q L n v j l u W' := ⟨cell_keep h.1 k, cell_keep h.2.1 k, cell_keep h.2.2.1 k, cell_keep h.2.2.2.1 k, cell_keep h.2.2.2.2.1 k, cell_keep h.2.2.2.2.2 k⟩
set_option maxRecDepth 100000 in
set_option maxHeartbeats 12800000 in
theorem sets_good (La n : Nat) (es : List E3) (v vs : Value) (set : List Int) (b : Bs) (w : World) (hrd : EdgesRd w v es) (hn : es.length ≤ 9223372036854775807) (hst : IntsRd w vs set) (hT : TabD w) (hg : greatB (n : Int) es.length = false) (h10 : set.length ≤ 10)
    (hvg : VG (La : Int) (n : Int) es) (hsg : SG (n : Int) set) (hne : set ≠ []) (hb : builtN es La (ofN set) = some b) (hfr : fromR (La : Int) (n : Int) es set = (0, b)) :
    Calls Tryd.prog 5 #[grV (La : Int) (n : Int) v, vs] w fun e w' => e = .returned (.bool true) ∧ Below w.heap.size w w' := by
  have hmx : Tryd.prog.follows .mixedOrders = true := by kernel_rfl
  have hn64 : n ≤ 64 := by have := hvg.s2; omega
  have hL256 : La ≤ 256 := by have := hvg.l2; omega
  have hL1 : 1 ≤ La := by have := hvg.l1; omega
  have hb64 : ∀ s ∈ set, 0 ≤ s ∧ s < 64 := fun s hs => by have := hsg.1 s hs; omega
  have hlt := ofN_lt64 hb64
  have hres := built_res (ofN_ne hb64 hne) hlt hb
  have hsmall := built_small hvg.ok (ofN_small hsg hn64) hb
  have hmset := memN_ofN hsg hn64
  obtain ⟨m, hm⟩ : ∃ m, b.1.length = m := ⟨_, rfl⟩
  have hm64 : m ≤ 64 := by rw [← hm]; exact hres.n
  have hm1 : 1 ≤ m := by
    have := hres.hd
    rcases Nat.eq_zero_or_pos m with h | h
    · rw [h] at hm
      rw [List.eq_nil_of_length_eq_zero hm] at this
      cases this
    · exact h
  have hvg2 : VG (La : Int) (m : Int) b.2 := by rw [← hm]; exact hres.vg hL1 hL256
  have hlt2 : ∀ T ∈ b.1, T < 18446744073709551616 := fun T hT => (hres.lt T hT).2
  -- the facts
  have HF : Hid (∀ W, EdgesRd W v es → IntsRd W vs set → TabD W → Calls Tryd.prog 13 #[grV (La : Int) (n : Int) v, vs] W fun e W' => ∃ ah ch al, e = .returned (.tuple #[grV (La : Int) (m : Int) (.slice ah b.2.length ch), .slice al m m, .int .i64 0]) ∧ EdgesRd W' (.slice ah b.2.length ch) b.2 ∧ RowsRd W' (.slice al m m) (b.1.map memN) ∧ Below W.heap.size W W') := Lib.hid (fun W h1 h2 h3 => by
    refine (From_any La n es v vs set W h1 hn h2 (by omega) h3).mono ?_
    rw [hfr]
    rintro e W' ⟨hv, lv, he, h4, h5, h6⟩
    obtain ⟨ah, ch, rfl⟩ := h4.slice
    have h7 := h5.rd
    obtain ⟨al, rfl⟩ := h5.form
    rw [hm] at he h7
    exact ⟨ah, ch, al, he, h4.rd, h7, h6⟩)
  have HD : Hid (∀ W ah ch, EdgesRd W (.slice ah b.2.length ch) b.2 → Calls Tryd.prog 25 #[grV (La : Int) (m : Int) (.slice ah b.2.length ch)] W fun e W' => e = .returned (.tuple #[.bool true, .int .i64 0]) ∧ Below W.heap.size W W') := Lib.hid (fun W ah ch h => by
    refine (deterministic_any La m b.2 _ W h (by have := hres.m; omega)).mono ?_
    have hd : detR (La : Int) (m : Int) b.2 = (true, 0) := by unfold detR; rw [if_pos hvg2.chk, hres.det]
    rw [hd]
    exact fun e W' h => h)
  have HC : Hid (∀ W ah ch, EdgesRd W (.slice ah b.2.length ch) b.2 → Calls Tryd.prog 26 #[grV (La : Int) (m : Int) (.slice ah b.2.length ch)] W fun e W' => e = .returned (.int .i64 0) ∧ Below W.heap.size W W') := Lib.hid (fun W ah ch h => by
    refine (rcheck_any La m b.2 _ W h (by have := hres.m; omega)).mono ?_
    rw [hvg2.chk]
    exact fun e W' h => h)
  have HS : Hid (∀ W u T (l : Nat), EdgesRd W v es → IntsRd W u (memN T) → T ∈ b.1 → l < La → Calls Tryd.prog 28 #[grV (La : Int) (n : Int) v, u, .int .i64 (l : Int)] W fun e W' => ∃ a c, e = .returned (.tuple #[.slice a (memN (stN es T l)).length c, .int .i64 0]) ∧ IntsRd W' (.slice a (memN (stN es T l)).length c) (memN (stN es T l)) ∧ Below W.heap.size W W') := Lib.hid (fun W u T l h1 h2 h3 h4 => by
    refine (step_any La n l es v u (memN T) W h1 hn h2 (by have := memN_len T; omega)).mono ?_
    rw [stepR_memN hvg (hlt2 T h3) (hsmall T h3) h4]
    rintro e W' ⟨u, he, h5, h6⟩
    obtain ⟨a, c, rfl⟩ := h5.slice
    exact ⟨a, c, he, h5.rd, h6⟩)
  have HQ : Hid (∀ W u u' T T', IntsRd W u (memN T) → IntsRd W u' (memN T') → Calls Tryd.prog 27 #[u, u'] W fun e W' => e = .returned (.bool (decide (memN T = memN T'))) ∧ Below W.heap.size W W') := Lib.hid (fun W u u' T T' h1 h2 => intsEq_any h1 h2 (by have := memN_len T; omega) (by have := memN_len T'; omega))
  have HST : Hid (IntsRd w vs (memN (ofN set))) := Lib.hid (hmset.symm ▸ hst)
  have HNE : Hid (∀ (i k T T' : Nat), b.1[i]? = some T → b.1[k]? = some T' → decide (memN T = memN T') = decide (i = k)) := Lib.hid (fun i k T T' h1 h2 => by
    by_cases hik : i = k
    · subst hik
      rw [h1] at h2
      injection h2 with h2
      rw [h2]; simp
    · rw [decide_eq_false hik]
      refine decide_eq_false (fun e => hik ?_)
      have e2 := memN_inj (hlt2 T (List.mem_of_getElem? h1)) (hlt2 T' (List.mem_of_getElem? h2)) e
      subst e2
      exact (List.getElem?_inj (List.getElem?_eq_some_iff.1 h1).1 hres.nd).1 (h1.trans h2.symm))
  have HED : Hid (∀ e, e ∈ b.2 → ∃ j l T t : Nat, j < m ∧ l < La ∧ b.1[j]? = some T ∧ e = ((j : Int), (l : Int), (t : Int)) ∧ t < m ∧ b.1[t]? = some (stN es T l)) := Lib.hid (fun e he => by
    obtain ⟨j, l, T, h1, h2, h3, h4, h5, -, t, h6, h7⟩ := hres.edge he
    refine ⟨j, l, T, t, by omega, h2, h3, ?_, by have := (List.getElem?_eq_some_iff.1 h7).1; omega, h7⟩
    obtain ⟨x, y, z⟩ := e
    dsimp only at h4 h5 h6
    rw [h4, h5, h6])
  have HCN : Hid ((allN es La b.1 m).length = b.2.length) := Lib.hid (by rw [hres.ed, hm])
  have HHD : Hid (b.1[0]? = some (ofN set)) := Lib.hid hres.hd
  have HZ : Hid (∀ T l, stN es T l < 18446744073709551616) := Lib.hid (fun T l => stN_lt es T l)
  have HGT : Hid (∀ i, i < m → ∃ T, b.1[i]? = some T) := Lib.hid (fun i hi => ⟨_, List.getElem?_eq_getElem (by omega)⟩)
  have hm2 : b.2.length ≤ 1024 := hres.m
  have HAN : Hid (∀ i, i ≤ m → (allN es La b.1 i).length ≤ 64 * 256) := Lib.hid (fun i hi => Nat.le_trans (allN_le es La b.1 i) (Nat.mul_le_mul (by omega) hL256))
  have HEN : Hid (∀ i c, (edsN es b.1 i c).length ≤ c) := Lib.hid (fun i c => edsN_le es b.1 i c)
  have HRD := Lib.hid hrd
  have HT := Lib.hid hT
  obtain ⟨a, c, hv⟩ := hrd.form
  subst hv
  obtain ⟨a2, c2, hv2⟩ := hst.form
  subst hv2
  have HG := Lib.hid (fun W => great12_any (La : Int) (n : Int) a es.length c W)
  rw [hg] at HG
  have HA := Lib.hid (fun W h => awake12_any W h)
  have B0 := Lib.hid (below1 w (.cells #[.int .i64 (La : Int), .int .i64 (n : Int), .slice a es.length c] 24))
  have G0 := Lib.hid (BoxG.new w (La : Int) (n : Int) (.slice a es.length c) 24)
  obtain ⟨x1, x2, x3⟩ := id G0.out
  have d1 : decide ((10 : Int) < (set.length : Int)) = false := decide_eq_false (by omega)
  have d2 : ((m : Int) == 0) = false := by rw [beq_eq_false_iff_ne]; omega
  have d3 : ((m : Int) != (m : Int)) = false := by simp
  have HSS := Lib.hid hst
  clear hrd hst hT hg hvg hsg hne hb hfr hb64 hlt hres hsmall hmset hvg2 hlt2 h10
  go_enter Tryd.func5, Tryd.ntmps5
  go_wp2_with (first
    | (go_at_call 9; (refine (HG.out _).mono ?_); rintro e W1 ⟨rfl, b1⟩; (have B1 := Lib.hid (below_more B0.out (Nat.le_refl _) b1)); (have G1 := Lib.hid (G0.out.keep b1)); clear b1 x1 x2 x3; (obtain ⟨x1, x2, x3⟩ := id G1.out))
    | (go_at_call 13; (refine (HF.out _ (HRD.out.keep B1.out) (HSS.out.keep B1.out) (HT.out.keep B1.out)).mono ?_); rintro e W2 ⟨ah, ch, al, rfl, he2, hr2, b2⟩;
        (have k2 := Lib.hid (below_more b2 (Nat.le_refl _) (below1 W2 (.cells #[.int .i64 (La : Int), .int .i64 (m : Int), .slice ah b.2.length ch] 24))));
        (have B2 := Lib.hid (B1.out.trans (k2.out.mono B1.out.size)));
        (have G2 := Lib.hid (G1.out.keep k2.out));
        (have E2 := Lib.hid (he2.keep (below1 W2 (.cells #[.int .i64 (La : Int), .int .i64 (m : Int), .slice ah b.2.length ch] 24))));
        (have R2 := Lib.hid (hr2.keep (below1 W2 (.cells #[.int .i64 (La : Int), .int .i64 (m : Int), .slice ah b.2.length ch] 24))));
        (have Y2 := Lib.hid (BoxG.new W2 (La : Int) (m : Int) (.slice ah b.2.length ch) 24));
        clear x1 x2 x3 he2 hr2 b2)
    | (go_at_call 25; (refine (HD.out _ _ _ E2.out).mono ?_); rintro e W3 ⟨rfl, b3⟩;
        (have B3 := Lib.hid (B2.out.trans (b3.mono B2.out.size))); (have G3 := Lib.hid (G2.out.keep b3)); (have E3 := Lib.hid (E2.out.keep b3)); (have R3 := Lib.hid (R2.out.keep b3)); (have Y3 := Lib.hid (Y2.out.keep b3)); clear b3; (obtain ⟨y1, y2, y3⟩ := id Y3.out))
    | (go_at_call 26; (refine (HC.out _ _ _ E3.out).mono ?_); rintro e W4 ⟨rfl, b4⟩;
        (have B4 := Lib.hid (B3.out.trans (b4.mono B3.out.size))); (have G4 := Lib.hid (G3.out.keep b4)); (have E4 := Lib.hid (E3.out.keep b4)); (have R4 := Lib.hid (R3.out.keep b4)); (have Y4 := Lib.hid (Y3.out.keep b4)); clear b4 y1 y2 y3; (obtain ⟨y1, y2, y3⟩ := id Y4.out);
        (obtain ⟨b0, o0, k0, u0, hv0, c0, r0⟩ := R4.out.at (i := 0) (r := memN (ofN set)) (by rw [List.getElem?_map, HHD.out]; rfl)); injection hv0 with e0 e00 e000; subst e0; (have R0 := Lib.hid r0); clear r0 e00 e000; (rw [Nat.add_zero] at c0))
    | (go_at_call 27; (with_reducible refine (HQ.out _ _ _ _ _ R0.out (HST.out.keep B4.out)).mono ?_); rintro e W5 ⟨rfl, b5⟩; (rw [decide_eq_true (rfl : memN (ofN set) = memN (ofN set))]);
        (have B5 := Lib.hid (B4.out.trans (b5.mono B4.out.size))); (have G5 := Lib.hid (G4.out.keep b5)); (have E5 := Lib.hid (E4.out.keep b5)); (have R5 := Lib.hid (R4.out.keep b5)); (have Y5 := Lib.hid (Y4.out.keep b5)); clear b5 y1 y2 y3 c0))
  clear HF HD HC HG HSS HST R0 B4 G4 E4 R4 Y4 B3 G3 E3 R3 Y3 B2 G2 E2 R2 Y2 k2 B1 G1 B0 G0 d1 d2 d3
  have HSZ := Lib.hid (Nat.le_refl W5.heap.size)
  go_loopg [10, 88] m (fun q s10 s88 wx => ∃ i : Nat, i + q = m ∧ s88 = .int .i64 (i : Int) ∧ s10 = .int .i64 (((allN es La b.1 i).length : Nat) : Int) ∧ Hid (Below W5.heap.size W5 wx))
  case atStart => exact ⟨0, by omega, rfl, by unfold allN; rfl, Lib.hid (Below.refl _ _)⟩
  case round =>
    obtain ⟨i, hin, rfl, rfl, B6⟩ := hrel
    rcases gk with _ | q
    · obtain rfl : i = m := by omega
      rw [HCN.out]
      have BW6 := Lib.hid (B5.out.trans (B6.out.mono B5.out.size))
      obtain ⟨y1, y2, y3⟩ := id (Y5.out.keep B6.out)
      have j3 : ¬ ((i : Int) < (i : Int)) := by omega
      go_upto_region 30 with fail
      clear y1 y2 y3
      obtain ⟨Wo, hWo⟩ : ∃ Wo, Wo = wr := ⟨_, rfl⟩
      rw [← hWo] at B6 BW6 ⊢
      clear hWo
      go_loopg [132] b.2.length (fun q s132 wx => ∃ k : Nat, k + q = b.2.length ∧ s132 = .int .i64 (k : Int) ∧ Hid (Below Wo.heap.size Wo wx))
      case atStart => exact ⟨0, by omega, rfl, Lib.hid (Below.refl _ _)⟩
      case round =>
        obtain ⟨k, hkn, rfl, B7⟩ := hrel
        have B57 := Lib.hid (B6.out.trans (B7.out.mono B6.out.size))
        have BW7 := Lib.hid (BW6.out.trans (B7.out.mono BW6.out.size))
        rcases gk with _ | q2
        · obtain rfl : k = b.2.length := by omega
          obtain ⟨y1, y2, y3⟩ := id (Y5.out.keep B57.out)
          have j4 : ¬ ((b.2.length : Int) < (b.2.length : Int)) := by omega
          go_wp2_with (go_at_call 10; (refine (HA.out _ (HT.out.keep BW7.out)).mono ?_); rintro e W9 ⟨rfl, b9⟩; (have B9 := Lib.hid (BW7.out.trans (b9.mono BW7.out.size))))
          go_ret
          exact ⟨rfl, B9.out⟩
        · obtain ⟨e, he⟩ : ∃ e, b.2[k]? = some e := ⟨_, List.getElem?_eq_getElem (by omega)⟩
          obtain ⟨j, l, T, t, hj, hl, hT, rfl, ht, hT2⟩ := HED.out e (List.mem_of_getElem? he)
          obtain ⟨be, oe, ce, hve, k1, k2, k3⟩ := (E5.out.keep B57.out).at he
          injection hve with e0 e00 e000
          subst e0
          dsimp only at k1 k2 k3
          have o1 := below1 wr (.cells #[.int .i64 (j : Int), .int .i64 (l : Int), .int .i64 (t : Int)] 55)
          have X1 := Box3.new wr (j : Int) (l : Int) (t : Int) 55
          have B71 := Lib.hid (B7.out.alloc B7.out.size (.cells #[.int .i64 (j : Int), .int .i64 (l : Int), .int .i64 (t : Int)] 55))
          have j4 : (k : Int) < (b.2.length : Int) := by omega
          have j5 : k < b.2.length := by omega
          clear he e00 e000
          go_upto_region 32 with fail
          obtain ⟨W1, hW1⟩ : ∃ W1, wr.alloc (.cells #[.int .i64 (j : Int), .int .i64 (l : Int), .int .i64 (t : Int)] 55) = W1 := ⟨_, rfl⟩
          obtain ⟨P0, hP0⟩ : ∃ P0, wr.heap.size = P0 := ⟨_, rfl⟩
          rw [hP0] at X1
          rw [hW1] at X1 B71 ⊢
          rw [hP0]
          have BD := Lib.hid (show Below Wo.heap.size Wo W1.drew from B71.out.drew)
          have B5D := Lib.hid (B6.out.trans (BD.out.mono B6.out.size))
          have BWD := Lib.hid (BW6.out.trans (BD.out.mono BW6.out.size))
          obtain ⟨x1, x2, x3⟩ := id (G5.out.keep B5D.out)
          obtain ⟨z1, z2, z3, -, -, -⟩ := X1.keep (Below.refl _ _).drew
          obtain ⟨bj, oj, kj, uj, hvj, cj, rj⟩ := (R5.out.keep B5D.out).at (i := j) (r := memN T) (by rw [List.getElem?_map, hT]; rfl)
          injection hvj with e0 e00 e000
          simp only [Option.some.injEq, Addr.mk.injEq] at e0
          obtain ⟨rfl, rfl, -⟩ := e0
          clear e00 e000
          obtain ⟨bt, ot, kt, ut, hvt, ct, rt⟩ := (R5.out.keep B5D.out).at (i := t) (r := memN (stN es T l)) (by rw [List.getElem?_map, hT2]; rfl)
          injection hvt with e0 e00 e000
          simp only [Option.some.injEq, Addr.mk.injEq] at e0
          obtain ⟨rfl, rfl, -⟩ := e0
          have hST := Lib.hid (HS.out _ _ T l (HRD.out.keep BWD.out) rj (List.mem_of_getElem? hT) hl)
          have RT := Lib.hid rt
          have Z3 := Lib.hid (show W1.drew.cell? ⟨P0, 2, none⟩ = some (.int .i64 (t : Int)) from z3)
          have CT := Lib.hid ct
          have hR0 : SX w.heap.size P0 b0 (o0 + j) (La : Int) (n : Int) (.slice a es.length c) j l uj W1.drew := ⟨x1, x2, x3, z1, z2, cj⟩
          have j6 : (j : Int) < (i : Int) := by omega
          have j7 : (t : Int) < (i : Int) := by omega
          clear hW1 hP0 X1 k1 k2 k3 o1 x1 x2 x3 z1 z2 z3 cj ct rj rt hT hT2 e00 e000
          refine regionT (T := T2 13 13 (SX w.heap.size P0 b0 (o0 + j) (La : Int) (n : Int) (.slice a es.length c) j l uj) (SX w.heap.size P0 b0 (o0 + j) (La : Int) (n : Int) (.slice a es.length c) j l uj)) hmx ?_
          have hR := hR0
          refine take1 (i := 0) (v := ?_) rfl (by kernel_rfl) (by kernel_rfl) (by kernel_rfl) (by kernel_rfl) (by kernel_rfl) (by decide) (by decide) (fun _ _ _ h => h) (Or.inl ⟨by rfl, ?_⟩) hR hR ?_
          rotate_left
          · intro w hSw
            (try unfold SX at hSw)
            go_simp
            all_goals with_reducible rfl
          (try simp only [Act.put, List.setIfInBounds_toArray, List.set_cons_zero, List.set_cons_succ])
          refine take1 (i := 1) (v := ?_) rfl (by kernel_rfl) (by kernel_rfl) (by kernel_rfl) (by kernel_rfl) (by kernel_rfl) (by decide) (by decide) (fun _ _ _ h => h) (Or.inl ⟨by rfl, ?_⟩) hR hR ?_
          rotate_left
          · intro w hSw
            (try unfold SX at hSw)
            go_simp
            all_goals with_reducible rfl
          (try simp only [Act.put, List.setIfInBounds_toArray, List.set_cons_zero, List.set_cons_succ])
          refine take1 (i := 2) (v := ?_) rfl (by kernel_rfl) (by kernel_rfl) (by kernel_rfl) (by kernel_rfl) (by kernel_rfl) (by decide) (by decide) (fun _ _ _ h => h) (Or.inl ⟨by rfl, ?_⟩) hR hR ?_
          rotate_left
          · intro w hSw
            (try unfold SX at hSw)
            go_simp
            all_goals with_reducible rfl
          (try simp only [Act.put, List.setIfInBounds_toArray, List.set_cons_zero, List.set_cons_succ])
          refine take1 (i := 3) (v := ?_) rfl (by kernel_rfl) (by kernel_rfl) (by kernel_rfl) (by kernel_rfl) (by kernel_rfl) (by decide) (by decide) (fun _ _ _ h => h) (Or.inl ⟨by rfl, ?_⟩) hR hR ?_
          rotate_left
          · intro w hSw
            (try unfold SX at hSw)
            go_simp
            all_goals with_reducible rfl
          (try simp only [Act.put, List.setIfInBounds_toArray, List.set_cons_zero, List.set_cons_succ])
          refine take1 (i := 4) (v := ?_) rfl (by kernel_rfl) (by kernel_rfl) (by kernel_rfl) (by kernel_rfl) (by kernel_rfl) (by decide) (by decide) (fun _ _ _ h => h) (Or.inl ⟨by rfl, ?_⟩) hR hR ?_
          rotate_left
          · intro w hSw
            (try unfold SX at hSw)
            go_simp
            all_goals with_reducible rfl
          (try simp only [Act.put, List.setIfInBounds_toArray, List.set_cons_zero, List.set_cons_succ])
          refine take1 (i := 5) (v := ?_) rfl (by kernel_rfl) (by kernel_rfl) (by kernel_rfl) (by kernel_rfl) (by kernel_rfl) (by decide) (by decide) (fun _ _ _ h => h) (Or.inl ⟨by rfl, ?_⟩) hR hR ?_
          rotate_left
          · intro w hSw
            (try unfold SX at hSw)
            go_simp
            all_goals with_reducible rfl
          (try simp only [Act.put, List.setIfInBounds_toArray, List.set_cons_zero, List.set_cons_succ])
          refine take1 (i := 6) (v := ?_) rfl (by kernel_rfl) (by kernel_rfl) (by kernel_rfl) (by kernel_rfl) (by kernel_rfl) (by decide) (by decide) (fun _ _ _ h => h) (Or.inl ⟨by rfl, ?_⟩) hR hR ?_
          rotate_left
          · intro w hSw
            (try unfold SX at hSw)
            go_simp
            all_goals with_reducible rfl
          (try simp only [Act.put, List.setIfInBounds_toArray, List.set_cons_zero, List.set_cons_succ])
          refine take1 (i := 7) (v := ?_) rfl (by kernel_rfl) (by kernel_rfl) (by kernel_rfl) (by kernel_rfl) (by kernel_rfl) (by decide) (by decide) (fun _ _ _ h => h) (Or.inl ⟨by rfl, ?_⟩) hR hR ?_
          rotate_left
          · intro w hSw
            (try unfold SX at hSw)
            go_simp
            all_goals with_reducible rfl
          (try simp only [Act.put, List.setIfInBounds_toArray, List.set_cons_zero, List.set_cons_succ])
          refine stepT (i := 8) (by kernel_rfl) rfl (fun K hK => ?_)
          go_simp
          go_at_call 28
          (with_reducible refine hST.out.mono ?_)
          rintro e0 W9 ⟨a9, c9, rfl, r9, b9⟩
          have hR2 : SX w.heap.size P0 b0 (o0 + j) (La : Int) (n : Int) (.slice a es.length c) j l uj W9 := hR0.keep b9
          refine hK.out _ _ ⟨fun _ => hR2, fun _ => hR2⟩ ?_
          clear hK K hR
          have hR := hR2
          (try simp only [Act.put, List.setIfInBounds_toArray, List.set_cons_zero, List.set_cons_succ])
          refine take1 (i := 9) (v := ?_) rfl (by kernel_rfl) (by kernel_rfl) (by kernel_rfl) (by kernel_rfl) (by kernel_rfl) (by decide) (by decide) (fun _ _ _ h => h) (Or.inl ⟨by rfl, ?_⟩) hR hR ?_
          rotate_left
          · intro w hSw
            (try unfold SX at hSw)
            go_simp
            all_goals with_reducible rfl
          (try simp only [Act.put, List.setIfInBounds_toArray, List.set_cons_zero, List.set_cons_succ])
          refine take1 (i := 10) (v := ?_) rfl (by kernel_rfl) (by kernel_rfl) (by kernel_rfl) (by kernel_rfl) (by kernel_rfl) (by decide) (by decide) (fun _ _ _ h => h) (Or.inl ⟨by rfl, ?_⟩) hR hR ?_
          rotate_left
          · intro w hSw
            (try unfold SX at hSw)
            go_simp
            all_goals with_reducible rfl
          (try simp only [Act.put, List.setIfInBounds_toArray, List.set_cons_zero, List.set_cons_succ])
          refine take1 (i := 11) (v := ?_) rfl (by kernel_rfl) (by kernel_rfl) (by kernel_rfl) (by kernel_rfl) (by kernel_rfl) (by decide) (by decide) (fun _ _ _ h => h) (Or.inl ⟨by rfl, ?_⟩) hR hR ?_
          rotate_left
          · intro w hSw
            (try unfold SX at hSw)
            go_simp
            all_goals with_reducible rfl
          (try simp only [Act.put, List.setIfInBounds_toArray, List.set_cons_zero, List.set_cons_succ])
          refine take1 (i := 12) (v := ?_) rfl (by kernel_rfl) (by kernel_rfl) (by kernel_rfl) (by kernel_rfl) (by kernel_rfl) (by decide) (by decide) (fun _ _ _ h => h) (Or.inl ⟨by rfl, ?_⟩) hR hR ?_
          rotate_left
          · intro w hSw
            (try unfold SX at hSw)
            go_simp
            all_goals with_reducible rfl
          (try simp only [Act.put, List.setIfInBounds_toArray, List.set_cons_zero, List.set_cons_succ])
          refine stepT (i := 13) (by kernel_rfl) rfl (fun K hK => ?_)
          go_simp
          refine hK.out _ _ ⟨fun h => absurd h (by decide), fun h => absurd h (by decide)⟩ ?_
          clear hK K
          (try simp only [Act.put, List.setIfInBounds_toArray, List.set_cons_zero, List.set_cons_succ])
          refine doneT (by kernel_rfl) ?_ _
          have R9 := Lib.hid r9
          have z3 := cell_keep Z3.out b9
          have ct := cell_keep CT.out b9
          have B9 := Lib.hid (BD.out.trans (b9.mono BD.out.size))
          have RT9 := Lib.hid (RT.out.keep b9)
          clear r9 b9
          go_wp2_with (go_at_call 27; (with_reducible refine (HQ.out _ _ _ _ _ R9.out RT9.out).mono ?_); rintro e W10 ⟨rfl, b10⟩; (rw [decide_eq_true (rfl : memN (stN es T l) = memN (stN es T l))]); (have B10 := Lib.hid (B9.out.trans (b10.mono B9.out.size))); clear b10)
          go_roundg q2
          case measure => omega
          case rel => exact ⟨k + 1, by omega, by go_num, B10⟩
    · obtain ⟨T, hT⟩ := HGT.out i (by omega)
      have HT0 := Lib.hid hT
      obtain ⟨bi, oi, ki, ui, hvi, ci, ri⟩ := (R5.out.keep B6.out).at (i := i) (r := memN T) (by rw [List.getElem?_map, hT]; rfl)
      injection hvi with e0 e00 e000
      simp only [Option.some.injEq, Addr.mk.injEq] at e0
      obtain ⟨rfl, rfl, -⟩ := e0
      have RI := Lib.hid ri
      have CI := Lib.hid ci
      have j1 : (i : Int) < (m : Int) := by omega
      have j2 : i < m := by omega
      clear hT ri e00 e000
      obtain ⟨A, hA⟩ : ∃ A, (allN es La b.1 i).length = A := ⟨_, rfl⟩
      have HAA := Lib.hid hA
      rw [hA]
      have hA2 : A ≤ 64 * 256 := by rw [← hA]; exact HAN.out i (by omega)
      clear hA
      go_upto_region 14 with fail
      clear ci
      obtain ⟨Wo, hWo⟩ : ∃ Wo, Wo = wr := ⟨_, rfl⟩
      rw [← hWo] at B6 RI CI ⊢
      clear hWo
      go_loopg [95] m (fun q s95 wx => ∃ k : Nat, k + q = m ∧ s95 = .int .i64 (k : Int) ∧ Hid (Below Wo.heap.size Wo wx))
      case atStart => exact ⟨0, by omega, rfl, Lib.hid (Below.refl _ _)⟩
      case round =>
        obtain ⟨k, hkn, rfl, B7⟩ := hrel
        have B57 := Lib.hid (B6.out.trans (B7.out.mono B6.out.size))
        rcases gk with _ | q2
        · obtain rfl : k = m := by omega
          obtain ⟨x1, x2, x3⟩ := id (G5.out.keep B57.out)
          go_upto_region 20 with fail
          clear x1 x2 x3
          go_loopg [10, 110] La (fun q s10 s110 wx => ∃ c : Nat, c + q = La ∧ s110 = .int .i64 (c : Int) ∧ s10 = .int .i64 (((A + (edsN es b.1 i c).length) : Nat) : Int) ∧ Hid (Below Wo.heap.size Wo wx))
          case atStart => exact ⟨0, by omega, rfl, by unfold edsN; rfl, B7⟩
          case round =>
            clear B57 B7
            obtain ⟨l, hln, rfl, rfl, B8⟩ := hrel
            rcases gk with _ | q3
            · obtain rfl : l = La := by omega
              have HA3 := Lib.hid (show (allN es l b.1 (i + 1)).length = A + (edsN es b.1 i l).length by rw [allN_succ, List.length_append, HAA.out])
              have j3 : ¬ ((l : Int) < (l : Int)) := by omega
              go_wp2_with fail
              go_roundg q
              case measure => omega
              case rel => exact ⟨i + 1, by omega, by go_num, by rw [HA3.out, Int.natCast_add], Lib.hid (B6.out.trans (B8.out.mono B6.out.size))⟩
            · have B58 := Lib.hid (B6.out.trans (B8.out.mono B6.out.size))
              have BW8 := Lib.hid (B5.out.trans (B58.out.mono B5.out.size))
              obtain ⟨x1, x2, x3⟩ := id (G5.out.keep B58.out)
              have j3 : (l : Int) < (La : Int) := by omega
              have hE2 := HEN.out i l
              have hST := Lib.hid (HS.out _ _ T l (HRD.out.keep BW8.out) (RI.out.keep B8.out) (List.mem_of_getElem? HT0.out) (by omega))
              by_cases hz : stN es T l = 0
              · have hl0 : (memN (stN es T l)).length = 0 := by rw [hz]; decide
                have d4 : ¬ 0 < (memN (stN es T l)).length := by omega
                have d5 : decide ((0 : Int) < ((memN (stN es T l)).length : Int)) = false := decide_eq_false (by omega)
                have HLE := Lib.hid (edsN_len0 HT0.out hz)
                clear hz hl0
                go_wp2_with (go_at_call 28; (with_reducible refine hST.out.mono ?_); rintro e W9 ⟨a9, c9, rfl, -, b9⟩; (have B9 := Lib.hid (B8.out.trans (b9.mono B8.out.size))); clear b9)
                go_roundg q3
                case measure => omega
                case rel => exact ⟨l + 1, by omega, by go_num, by rw [HLE.out, Int.natCast_add], B9⟩
              · have hl0 : 0 < (memN (stN es T l)).length := by
                  rcases Nat.eq_zero_or_pos (memN (stN es T l)).length with h | h
                  · exact absurd ((memN_nil (HZ.out T l)).1 (List.eq_nil_of_length_eq_zero h)) hz
                  · exact h
                have d4 : decide ((0 : Int) < ((memN (stN es T l)).length : Int)) = true := decide_eq_true (by omega)
                have HLE := Lib.hid (edsN_len1 HT0.out hz)
                clear hz
                go_wp2_with (go_at_call 28; (with_reducible refine hST.out.mono ?_); rintro e W9 ⟨a9, c9, rfl, -, b9⟩; (have B9 := Lib.hid (B8.out.trans (b9.mono B8.out.size))); clear b9)
                go_roundg q3
                case measure => omega
                case rel => exact ⟨l + 1, by omega, by go_num, by rw [HLE.out, Int.natCast_add, Int.natCast_add, ← Int.add_assoc]; rfl, B9⟩
        · obtain ⟨T2, hT2⟩ := HGT.out k (by omega)
          obtain ⟨bk, ok, kk, uk, hvk, ck, rk⟩ := (R5.out.keep B57.out).at (i := k) (r := memN T2) (by rw [List.getElem?_map, hT2]; rfl)
          injection hvk with e0 e00 e000
          simp only [Option.some.injEq, Addr.mk.injEq] at e0
          obtain ⟨rfl, rfl, -⟩ := e0
          have HQ2 := Lib.hid (HQ.out _ _ _ _ _ (RI.out.keep B7.out) rk)
          rw [HNE.out i k T T2 HT0.out hT2] at HQ2
          have j4 : (k : Int) < (m : Int) := by omega
          have j5 : k < m := by omega
          clear hT2 rk e00 e000
          by_cases hik : i = k
          · have d4 : ((i : Int) == (k : Int)) = true := by rw [hik]; simp
            rw [decide_eq_true hik] at HQ2
            clear hik
            go_wp2_with (go_at_call 27; (with_reducible refine HQ2.out.mono ?_); rintro e W9 ⟨rfl, b9⟩; (have B9 := Lib.hid (B7.out.trans (b9.mono B7.out.size))); clear b9)
            go_roundg q2
            case measure => omega
            case rel => exact ⟨k + 1, by omega, by go_num, B9⟩
          · have d4 : ((i : Int) == (k : Int)) = false := by rw [beq_eq_false_iff_ne]; omega
            rw [decide_eq_false hik] at HQ2
            clear hik
            go_wp2_with (go_at_call 27; (with_reducible refine HQ2.out.mono ?_); rintro e W9 ⟨rfl, b9⟩; (have B9 := Lib.hid (B7.out.trans (b9.mono B7.out.size))); clear b9)
            go_roundg q2
            case measure => omega
            case rel => exact ⟨k + 1, by omega, by go_num, B9⟩
end Go.Proofs.YtbcbeffoacfpdaaDoor

namespace Go.Proofs.YtbcbeffoacfpdaaDoor
open Go.ChangeShapes Go.WideShapes Go.ChangeAt Go.RowKit

theorem ownNone : ownKnob Tryd.prog.godebug = none := by kernel_rfl
end Go.Proofs.YtbcbeffoacfpdaaDoor
