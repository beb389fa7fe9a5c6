/- MinimalMerged returns true. Conditions: the edges and the labels can be read. MinimalMerged returns true for every input: the law's row. No condition. -/
import Derived.Test.YtblkijdodojaeaaVHi
import Derived.Test.YtblkijdodojaeaaQ26
import Derived.Test.YtblkijdodojaeaaQ23
import Derived.Test.YtblkijdodojaeaaQ08
import Derived.Test.YtblkijdodojaeaaQ25

namespace Go.Proofs.Ytblkijdodojaeaa
open Go.RowKit
set_option linter.unusedSimpArgs false
set_option linter.unusedVariables false

set_option maxRecDepth 100000 in
set_option maxHeartbeats 6400000 in
theorem mergedL_no (L S a : Int) (es : List E3) (v vp : Value) (pl : List Nat) (w : World) (hrd : EdgesRd w v es) (hn : es.length ≤ 9223372036854775807) (hpr : BysRd w vp pl) (h : det13B L S es = false ∨ S = 0 ∨ 10 < pl.length) :
    Calls Try.prog 5 #[grV L S v, .int .u8 a, vp] w fun e w' => e = .returned (.bool true) ∧ Below w.heap.size w w' := by
  have HD := Lib.hid (fun W h => det13_any L S es v W h hn)
  have HA := Lib.hid (fun W => awake13_any W)
  have HRD := Lib.hid hrd
  obtain ⟨a3, c3, rfl, -⟩ := hpr
  have B0 := Lib.hid (below1 w (.cells #[.int .i64 L, .int .i64 S, v] 24))
  have G0 := Lib.hid (BoxG.new w L S v 24)
  obtain ⟨x1, x2, x3⟩ := id G0.out
  clear hrd
  cases hd : det13B L S es
  · rw [hd] at HD
    clear hd h
    go_enter Try.func5, Try.ntmps5
    go_wp2_with (first
      | (go_at_call 16; (with_reducible refine (HD.out _ (HRD.out.keep B0.out)).mono ?_); rintro e W1 ⟨rfl, b1⟩; (have B1 := Lib.hid (below_more B0.out (Nat.le_refl _) b1)); clear b1 x1 x2 x3)
      | (go_at_call 7; (with_reducible refine (HA.out _).mono ?_); rintro e W2 ⟨rfl, b2⟩; (have B2 := Lib.hid (B1.out.trans (b2.mono B1.out.size)))))
    go_ret
    exact ⟨rfl, B2.out⟩
  · rw [hd] at HD
    have h := h.resolve_left (by rw [hd]; exact fun e => by cases e)
    clear hd
    by_cases h0 : S = 0
    · subst h0
      clear h
      go_enter Try.func5, Try.ntmps5
      go_wp2_with (first
        | (go_at_call 16; (with_reducible refine (HD.out _ (HRD.out.keep B0.out)).mono ?_); rintro e W1 ⟨rfl, b1⟩; (have B1 := Lib.hid (below_more B0.out (Nat.le_refl _) b1)); (obtain ⟨y1, y2, y3⟩ := G0.out.keep b1); clear b1 x1 x2 x3)
        | (go_at_call 7; (with_reducible refine (HA.out _).mono ?_); rintro e W2 ⟨rfl, b2⟩; (have B2 := Lib.hid (B1.out.trans (b2.mono B1.out.size)))))
      go_ret
      exact ⟨rfl, B2.out⟩
    · have h2 := h.resolve_left h0
      have d2 : (S == 0) = false := by rw [beq_eq_false_iff_ne]; exact h0
      have d3 : decide ((10 : Int) < (pl.length : Int)) = true := decide_eq_true (by omega)
      have d3' : decide (10 < pl.length) = true := decide_eq_true h2
      clear h h0 h2
      go_enter Try.func5, Try.ntmps5
      go_wp2_with (first
        | (go_at_call 16; (with_reducible refine (HD.out _ (HRD.out.keep B0.out)).mono ?_); rintro e W1 ⟨rfl, b1⟩; (have B1 := Lib.hid (below_more B0.out (Nat.le_refl _) b1)); (obtain ⟨y1, y2, y3⟩ := G0.out.keep b1); clear b1 x1 x2 x3)
        | (go_at_call 7; (with_reducible refine (HA.out _).mono ?_); rintro e W2 ⟨rfl, b2⟩; (have B2 := Lib.hid (B1.out.trans (b2.mono B1.out.size)))))
      go_ret
      exact ⟨rfl, B2.out⟩
/-- What the last region reads. -/
def GM (pg pm b o : Nat) (La n k q : Int) (v vm : Value) (W : World) : Prop := W.cell? ⟨pg, 0, none⟩ = some (.int .i64 La) ∧ W.cell? ⟨pg, 1, none⟩ = some (.int .i64 n) ∧ W.cell? ⟨pg, 2, none⟩ = some v ∧
  W.cell? ⟨pm, 0, none⟩ = some (.int .i64 La) ∧ W.cell? ⟨pm, 1, none⟩ = some (.int .i64 k) ∧ W.cell? ⟨pm, 2, none⟩ = some vm ∧ W.cell? ⟨b, o, none⟩ = some (.int .i64 q)
theorem GM.keep {pg pm b o : Nat} {La n k q : Int} {v vm : Value} {W W' : World} (h : GM pg pm b o La n k q v vm W) (hb : Below W.heap.size W W') : GM pg pm b o La n k q v vm W' :=
  ⟨cell_keep h.1 hb, cell_keep h.2.1 hb, cell_keep h.2.2.1 hb, cell_keep h.2.2.2.1 hb, cell_keep h.2.2.2.2.1 hb, cell_keep h.2.2.2.2.2.1 hb, cell_keep h.2.2.2.2.2.2 hb⟩
set_option maxRecDepth 100000 in
set_option maxHeartbeats 12800000 in
theorem mergedL_yes (La n a : Nat) (es : List E3) (v vp : Value) (pl : List Nat) (w : World) (hrd : EdgesRd w v es) (hvg : VG (La : Int) (n : Int) es) (hd : detE es = true) (h13 : det13B (La : Int) (n : Int) es = true) (hn0 : n ≠ 0) (ha : a < 256) (hpr : BysRd w vp pl) (hpl : pl.length ≤ 10) :
    Calls Try.prog 5 #[grV (La : Int) (n : Int) v, .int .u8 (a : Int), vp] w fun e w' => e = .returned (.bool true) ∧ Below w.heap.size w w' := by
  have hmx : Try.prog.follows .mixedOrders = true := by kernel_rfl
  obtain ⟨i0, hi, hz0, hz1, hz2⟩ := info_parts Try.infoI64
  have hn64 : n ≤ 64 := by have := hvg.s2; omega
  have hL1 : 1 ≤ La := by have := hvg.l1; omega
  have hL256 : La ≤ 256 := by have := hvg.l2; omega
  have hl := hvg.len
  obtain ⟨s, hs⟩ : ∃ s, a % n = s := ⟨_, rfl⟩
  have hsn : s < n := by rw [← hs]; exact Nat.mod_lt _ (by omega)
  have tm1 : Int.tmod (a : Int) (n : Int) = (s : Int) := by rw [Int.tmod_eq_emod_of_nonneg (by omega), ← hs]; rfl
  have HD := Lib.hid (fun W h => det13_any (La : Int) (n : Int) es v W h (by omega))
  rw [h13] at HD
  have HA := Lib.hid (fun W => awake13_any W)
  obtain ⟨cs, hcs⟩ : ∃ cs, classN (mT n es) La n = cs := ⟨_, rfl⟩
  have hcl : cs.length = n := by rw [← hcs]; exact classN_len _ _ _ hL1
  have hcn : numC cs ≤ n := by rw [← hcs]; exact classN_num _ _ _ hL1
  have hmv := merged_vg hvg hcl (by omega)
  have hmd := merged_det hvg hd hcs
  have hmc := merged_cls hvg hd hcs
  have hma := merged_again hvg hcl (by omega)
  have hend := fun (ws : List Nat) (hw : ∀ l ∈ ws, l < La) => merged_end hvg hd hcs (w := ws) (x := s) hw hsn
  have hq := numC_lt cs _ (getD_mem (c := cs) (i := s) (by omega))
  have hcs1 : (labsI cs)[s]? = some (((cs.getD s 0 : Nat) : Int)) := labsI_atH (by rw [List.getD_eq_getElem?_getD, List.getElem?_eq_getElem (by omega)]; rfl)
  have hml : (mkE (mgE es cs)).length ≤ 1024 := hmv.len
  have HME : Hid (∀ W, EdgesRd W v es → Calls Try.prog 10 #[grV (La : Int) (n : Int) v] W fun e W' => ∃ am cm g c, e = .returned (.tuple #[grV (La : Int) ((numC cs : Nat) : Int) (.slice am (mkE (mgE es cs)).length cm), .slice g n c, .int .i64 0]) ∧ EdgesRd W' (.slice am (mkE (mgE es cs)).length cm) (mkE (mgE es cs)) ∧ IntsRd W' (.slice g n c) (labsI cs) ∧ Below W.heap.size W W') := Lib.hid (fun W h => by
    refine (merge_yes La n es v W cs hcs h hvg hd).mono ?_
    rintro e W' ⟨v', g, c, he, h1, h2, h3⟩
    obtain ⟨am, cm, rfl⟩ := h1.slice
    exact ⟨am, cm, _, c, he, h1.rd, h2, h3⟩)
  have HM2 : Hid (∀ W u, EdgesRd W u (mkE (mgE es cs)) → Calls Try.prog 10 #[grV (La : Int) ((numC cs : Nat) : Int) u] W fun e W' => ∃ am cm g c, e = .returned (.tuple #[grV (La : Int) ((numC cs : Nat) : Int) (.slice am (mkE (mgE es cs)).length cm), .slice g (numC cs) c, .int .i64 0]) ∧ EdgesRd W' (.slice am (mkE (mgE es cs)).length cm) (mkE (mgE es cs)) ∧ IntsRd W' (.slice g (numC cs) c) (labsI (List.range (numC cs))) ∧ Below W.heap.size W W') := Lib.hid (fun W u h => by
    refine (merge_yes La (numC cs) (mkE (mgE es cs)) u W (List.range (numC cs)) hmc h hmv hmd).mono ?_
    rw [numC_range, hma]
    rintro e W' ⟨v', g, c, he, h1, h2, h3⟩
    obtain ⟨am, cm, rfl⟩ := h1.slice
    exact ⟨am, cm, _, c, he, h1.rd, h2, h3⟩)
  have HLS : Hid (∀ x ws W u uw, x < n → (∀ l ∈ ws, l < La) → ws.length ≤ 100000 → EdgesRd W v es → IntsRd W u [(x : Int)] → IntsRd W uw (labsI ws) → Calls Try.prog 17 #[grV (La : Int) (n : Int) v, u, uw] W fun e W' => ∃ a c, e = .returned (.slice a (setL n (mrun (mT n es) x ws)).length c) ∧ Below W.heap.size W W') := Lib.hid (fun x ws W u uw h1 h2 h3 h4 h5 h6 =>
    leads_any La n x es v u uw ws W h4 hvg hd (by omega) (by unfold setL; rw [if_neg (by omega)]; exact h5) h6 h2 h3)
  have HLM : Hid (∀ vm x ws W u uw, x < numC cs → (∀ l ∈ ws, l < La) → ws.length ≤ 100000 → EdgesRd W vm (mkE (mgE es cs)) → IntsRd W u [(x : Int)] → IntsRd W uw (labsI ws) → Calls Try.prog 17 #[grV (La : Int) ((numC cs : Nat) : Int) vm, u, uw] W fun e W' => ∃ a c, e = .returned (.slice a (setL (numC cs) (mrun (mT (numC cs) (mkE (mgE es cs))) x ws)).length c) ∧ Below W.heap.size W W') := Lib.hid (fun vm x ws W u uw h1 h2 h3 h4 h5 h6 =>
    leads_any La (numC cs) x (mkE (mgE es cs)) vm u uw ws W h4 hmv hmd (by omega) (by unfold setL; rw [if_neg (by omega)]; exact h5) h6 h2 h3)
  have HLE : Hid (∀ ws, (∀ l ∈ ws, l < La) → ((setL n (mrun (mT n es) s ws)).length = 1 ∧ (setL (numC cs) (mrun (mT (numC cs) (mkE (mgE es cs))) (cs.getD s 0) ws)).length = 1) ∨ ((setL n (mrun (mT n es) s ws)).length = 0 ∧ (setL (numC cs) (mrun (mT (numC cs) (mkE (mgE es cs))) (cs.getD s 0) ws)).length = 0)) := Lib.hid (fun ws hw => by
    have h1 := hend ws hw
    unfold setL
    by_cases h2 : mrun (mT n es) s ws = n
    · right; rw [if_pos h2, if_pos (h1.2 h2)]; exact ⟨rfl, rfl⟩
    · left; rw [if_neg h2, if_neg (fun e => h2 (h1.1 e))]; exact ⟨rfl, rfl⟩)
  have HSA : Hid (∀ W v1 v2, EdgesRd W v1 (mkE (mgE es cs)) → EdgesRd W v2 (mkE (mgE es cs)) → Calls Try.prog 18 #[grV (La : Int) ((numC cs : Nat) : Int) v1, grV (La : Int) ((numC cs : Nat) : Int) v2] W fun e W' => e = .returned (.bool true) ∧ Below W.heap.size W W') := Lib.hid (fun W v1 v2 h1 h2 => by
    have h := same_any (La : Int) ((numC cs : Nat) : Int) (La : Int) ((numC cs : Nat) : Int) _ _ v1 v2 W h1 h2 (by omega) (by omega)
    rw [show sameG (La : Int) ((numC cs : Nat) : Int) (mkE (mgE es cs)) (La : Int) ((numC cs : Nat) : Int) (mkE (mgE es cs)) = true from decide_eq_true ⟨rfl, rfl, rfl⟩] at h
    exact h)
  have HAL : Hid (∀ W vm, Calls Try.prog 19 #[grV (La : Int) ((numC cs : Nat) : Int) vm] W fun e W' => ∃ a c, e = .returned (.slice a (numC cs) c) ∧ IntsRd W' (.slice a (numC cs) c) (labsI (List.range (numC cs))) ∧ Below W.heap.size W W') := Lib.hid (fun W vm => by
    refine (all13_any (La : Int) (numC cs) vm W (by omega)).mono ?_
    rintro e W' ⟨u, he, h1, h2⟩
    obtain ⟨a, c, rfl⟩ := h1.slice
    have h3 := h1.rd
    rw [labsI_lenH, List.length_range] at he h3
    exact ⟨a, c, he, h3, h2⟩)
  have HEQ : Hid (∀ W u u', IntsRd W u (labsI (List.range (numC cs))) → IntsRd W u' (labsI (List.range (numC cs))) → Calls Try.prog 14 #[u, u'] W fun e W' => e = .returned (.bool true) ∧ Below W.heap.size W W') := Lib.hid (fun W u u' h1 h2 => by
    have h := intsEq_any h1 h2 (by rw [labsI_lenH, List.length_range]; omega) (by rw [labsI_lenH, List.length_range]; omega)
    rw [decide_eq_true rfl] at h
    exact h)
  clear hend hma hmc hmd hmv hcs hvg hd h13
  generalize mkE (mgE es cs) = M at *
  generalize numC cs = k at *
  generalize cs.getD s 0 = q at *
  have HPR := Lib.hid hpr
  have HRD := Lib.hid hrd
  obtain ⟨a3, c3, hvp, hc3, hc3', hpb, -⟩ := id hpr
  subst hvp
  have HPB := Lib.hid hpb
  have B0 := Lib.hid (below1 w (.cells #[.int .i64 (La : Int), .int .i64 (n : Int), v] 24))
  have G0 := Lib.hid (BoxG.new w (La : Int) (n : Int) v 24)
  obtain ⟨x1, x2, x3⟩ := id G0.out
  have d1 : ((n : Int) == 0) = false := by rw [beq_eq_false_iff_ne]; omega
  have d3 : decide ((10 : Int) < (pl.length : Int)) = false := decide_eq_false (by omega)
  have d3' : decide (10 < pl.length) = false := decide_eq_false (by omega)
  have d4 : ((n : Int) != (n : Int)) = false := by simp
  have hn9 : ¬ (n = 0) := hn0
  have hn7 : ¬ ((n : Int) = 0) := by omega
  have hwa : IntKind.i64.wrap (a : Int) = (a : Int) := IntWalk.i64_in _ (by omega)
  have hws : IntKind.i64.wrap (s : Int) = (s : Int) := IntWalk.i64_in _ (by omega)
  clear hrd hpr hs hpb
  go_enter Try.func5, Try.ntmps5
  go_upto_region 3 with (go_at_call 16; (with_reducible refine (HD.out _ (HRD.out.keep B0.out)).mono ?_); rintro e W1 ⟨rfl, b1⟩; (have B1 := Lib.hid (below_more B0.out (Nat.le_refl _) b1)); (have G1 := Lib.hid (G0.out.keep b1)); clear b1 x1 x2 x3; (obtain ⟨x1, x2, x3⟩ := id G1.out))
  go_upto_region 4 with (go_at_call 10; (with_reducible refine (HME.out _ (HRD.out.keep B1.out)).mono ?_); rintro e W2 ⟨am, cm, g2, c2, rfl, m2, i2, b2⟩)
  have k1 := below_more b2 (Nat.le_refl _) (below1 W2 (.cells #[.int .i64 (La : Int), .int .i64 (k : Int), .slice am M.length cm] 24))
  have M1 := Lib.hid (m2.keep (below1 W2 (.cells #[.int .i64 (La : Int), .int .i64 (k : Int), .slice am M.length cm] 24)))
  have I1 := Lib.hid (i2.keep (below1 W2 (.cells #[.int .i64 (La : Int), .int .i64 (k : Int), .slice am M.length cm] 24)))
  have GM1 := Lib.hid (BoxG.new W2 (La : Int) (k : Int) (.slice am M.length cm) 24)
  have B2 := Lib.hid (B1.out.trans (k1.mono B1.out.size))
  have G2 := Lib.hid (G1.out.keep k1)
  obtain ⟨P7, hP7⟩ : ∃ P7, W2.heap.size = P7 := ⟨_, rfl⟩
  rw [hP7] at GM1 ⊢
  clear m2 i2 b2 k1 x1 x2 x3 G1 hP7
  generalize (W2.alloc (.cells #[.int .i64 (La : Int), .int .i64 (k : Int), .slice am M.length cm] 24)) = Y at *
  obtain ⟨x1, x2, x3⟩ := id GM1.out
  go_upto_region 5 with (go_at_call 10; (with_reducible refine (HM2.out _ _ M1.out).mono ?_); rintro e W3 ⟨an, cn, g3, c4, rfl, m3, i3, b3⟩)
  have k1 := below_more b3 (Nat.le_refl _) (below1 W3 (.cells #[.int .i64 (La : Int), .int .i64 (k : Int), .slice an M.length cn] 24))
  have N1 := Lib.hid (m3.keep (below1 W3 (.cells #[.int .i64 (La : Int), .int .i64 (k : Int), .slice an M.length cn] 24)))
  have J1 := Lib.hid (i3.keep (below1 W3 (.cells #[.int .i64 (La : Int), .int .i64 (k : Int), .slice an M.length cn] 24)))
  have GN1 := Lib.hid (BoxG.new W3 (La : Int) (k : Int) (.slice an M.length cn) 24)
  have B3 := Lib.hid (B2.out.trans (k1.mono B2.out.size))
  have G3 := Lib.hid (G2.out.keep k1)
  have M3 := Lib.hid (M1.out.keep k1)
  have I3 := Lib.hid (I1.out.keep k1)
  have GM3 := Lib.hid (GM1.out.keep k1)
  obtain ⟨P8, hP8⟩ : ∃ P8, W3.heap.size = P8 := ⟨_, rfl⟩
  rw [hP8] at GN1 ⊢
  clear m3 i3 b3 k1 x1 x2 x3 G2 M1 I1 GM1 B2 hP8
  generalize (W3.alloc (.cells #[.int .i64 (La : Int), .int .i64 (k : Int), .slice an M.length cn] 24)) = Z at *
  obtain ⟨x1, x2, x3⟩ := id GM3.out
  obtain ⟨y1, y2, y3⟩ := id GN1.out
  obtain ⟨u1, u2, u3⟩ := id G3.out
  go_upto_region 8 with (first
    | (go_at_call 18; (with_reducible refine (HSA.out _ _ _ N1.out M3.out).mono ?_); rintro e W4 ⟨rfl, b4⟩; (have B4 := Lib.hid (B3.out.trans (b4.mono B3.out.size))); (have G4 := Lib.hid (G3.out.keep b4)); (have M4 := Lib.hid (M3.out.keep b4)); (have I4 := Lib.hid (I3.out.keep b4)); (have J4 := Lib.hid (J1.out.keep b4)); (have GM4 := Lib.hid (GM3.out.keep b4)); clear b4 x1 x2 x3 y1 y2 y3 u1 u2 u3; (obtain ⟨x1, x2, x3⟩ := id GM4.out))
    | (go_at_call 19; (with_reducible refine (HAL.out _ _).mono ?_); rintro e W5 ⟨a9, c9, rfl, i9, b5⟩; (have K5 := Lib.hid b5); (have J5 := Lib.hid (J4.out.keep b5)); (have I9 := Lib.hid i9); clear b5 i9 x1 x2 x3)
    | (go_at_call 14; (with_reducible refine (HEQ.out _ _ _ J5.out I9.out).mono ?_); rintro e W6 ⟨rfl, b6⟩; (have K6 := Lib.hid (below_more K5.out (Nat.le_refl _) b6)); (have B6 := Lib.hid (B4.out.trans (K6.out.mono B4.out.size))); (have G6 := Lib.hid (G4.out.keep K6.out)); (have M6 := Lib.hid (M4.out.keep K6.out)); (have I6 := Lib.hid (I4.out.keep K6.out)); (have GM6 := Lib.hid (GM4.out.keep K6.out)); clear b6; (obtain ⟨u1, u2, u3⟩ := id G6.out)))
  obtain ⟨a9', c9', hv9, hcell⟩ := id I6.out
  injection hv9 with e1 e2 e3
  subst e1
  obtain ⟨b8, o8, e4, p8⟩ := hcell s (q : Int) hcs1
  subst e4
  obtain ⟨x1, x2, x3⟩ := id GM6.out
  have HGM := Lib.hid (show GM w.heap.size P7 b8 (o8 + s) (La : Int) (n : Int) (k : Int) (q : Int) v (.slice am M.length cm) W6 from ⟨u1, u2, u3, x1, x2, x3, p8⟩)
  have d5 : decide ((s : Int) < 0) = false := decide_eq_false (by omega)
  have d6 : decide ((n : Int) ≤ (s : Int)) = false := decide_eq_false (by omega)
  have d7 : (s : Int) < (n : Int) := by omega
  have d8 : decide ((q : Int) < 0) = false := decide_eq_false (by omega)
  have d9 : decide ((k : Int) ≤ (q : Int)) = false := decide_eq_false (by omega)
  have d9' : decide (k ≤ q) = false := decide_eq_false (by omega)
  clear hcell e2 e3
  go_quiet (fail)
  go_upto_region 11 with fail
  have HGX := Lib.hid (HGM.out.keep (below_drewM (Below.refl W6.heap.size W6) nq))
  have AX := Lib.hid (below_drewM B6.out nq)
  have MX := Lib.hid (M6.out.keep (below_drewM (Below.refl W6.heap.size W6) nq))
  clear u1 u2 u3 x1 x2 x3 p8 HGM M6 I6 GM6 G6 B6 hcs1
  generalize W6.drewN nq = X at *
  obtain ⟨ws, hws2⟩ : ∃ ws, pl.map (· % La) = ws := ⟨_, rfl⟩
  have hwl : ws.length = pl.length := by rw [← hws2, List.length_map]
  have HWL : Hid (∀ l ∈ ws, l < La) := Lib.hid (fun l hl => by
    rw [← hws2] at hl
    obtain ⟨y, -, rfl⟩ := List.mem_map.1 hl
    exact Nat.mod_lt _ (by omega))
  have HWA : Hid (∀ i y, pl[i]? = some y → ws[i]? = some (y % La)) := Lib.hid (fun i y h => by rw [← hws2, List.getElem?_map, h]; rfl)
  clear hws2
  go_wp2_with fail
  go_loopg [14, 90] pl.length (fun q' s14 s90 wx => ∃ i : Nat, i + q' = pl.length ∧ s90 = .int .i64 (i : Int) ∧ IntsAt wx X.heap.size s14 (labsI (ws.take i)) ∧ Below X.heap.size X wx)
  case atStart => exact ⟨0, by omega, rfl, ints_nil _ _, Below.refl _ _⟩
  case round =>
    obtain ⟨i, hin, rfl, hown, hb⟩ := hrel
    obtain ⟨a8, c8, rfl⟩ := hown.slice
    have BW := Lib.hid (AX.out.trans (hb.mono AX.out.size))
    rcases gk with _ | q'
    · obtain rfl : i = pl.length := by omega
      have j0 : ¬ ((pl.length : Int) < (pl.length : Int)) := by omega
      have HI := Lib.hid hown.rd
      clear hown
      have hmm : ws.take pl.length = ws := by rw [← hwl, List.take_length]
      rw [hmm, labsI_lenH, hwl] at HI ⊢
      have HG8 := Lib.hid (HGX.out.keep hb)
      have HM8 := Lib.hid (MX.out.keep hb)
      have B8 := Lib.hid BW
      have hk := HLE.out ws HWL.out
      have L1 := Lib.hid (fun W u uw => HLS.out s ws W u uw hsn HWL.out (by omega))
      have L2 := Lib.hid (fun W u uw => HLM.out (.slice am M.length cm) q ws W u uw hq HWL.out (by omega))
      clear HLS HLM HLE HSA HAL HEQ HME HM2 HPR HGX MX hb BW
      generalize (setL n (mrun (mT n es) s ws)).length = k1 at L1 hk
      generalize (setL k (mrun (mT k M) q ws)).length = k2 at L2 hk
      go_upto_region 16 with fail
      generalize wr = W4 at *
      have G4K : Hid (∀ W, Below W4.heap.size W4 W → GM w.heap.size P7 b8 (o8 + s) (La : Int) (n : Int) (k : Int) (q : Int) v (.slice am M.length cm) W) := Lib.hid (fun W hb => HG8.out.keep hb)
      have BD := Lib.hid (Below.refl W4.heap.size W4).drew
      have BA := Lib.hid (below_more (below1 W4 (.cells #[.int .i64 (s : Int)] 3)).drew (Nat.le_refl _) (Below.refl _ _))
      have BT := Lib.hid (below_more (below1 W4 (.cells #[.int .i64 (q : Int)] 3)).drew (Nat.le_refl _) (Below.refl _ _))
      have C1 := Lib.hid (L1.out (W4.alloc (.cells #[.int .i64 (s : Int)] 3)).drew (.slice (some ⟨W4.heap.size, 0, none⟩) 1 1) (.slice a8 pl.length c8) (HRD.out.keep (B8.out.trans (BA.out.mono B8.out.size))) ((lit1H W4 (s : Int)).keep (Below.refl _ _).drew) (HI.out.keep BA.out))
      have C2 : Hid (∀ W, Below W4.heap.size W4 W → _) := Lib.hid (fun W hb =>
        L2.out (W.alloc (.cells #[.int .i64 (q : Int)] 3)) (.slice (some ⟨W.heap.size, 0, none⟩) 1 1) (.slice a8 pl.length c8) (HM8.out.keep (below_more hb (Nat.le_refl _) (below1 W (.cells #[.int .i64 (q : Int)] 3)))) (lit1H W (q : Int)) (HI.out.keep (below_more hb (Nat.le_refl _) (below1 W (.cells #[.int .i64 (q : Int)] 3)))))
      have BV := Lib.hid (below_more (below1 W4 (.cells #[.int .i64 (s : Int)] 3)) (Nat.le_refl _) (below1 (W4.alloc (.cells #[.int .i64 (s : Int)] 3)) (.cells #[.int .i64 (q : Int)] 3)).drew)
      have T0 := lit1H (W4.alloc (.cells #[.int .i64 (s : Int)] 3)) (q : Int)
      rw [World.size_alloc] at T0
      have T1 := Lib.hid (T0.keep (Below.refl _ _).drew)
      clear T0
      have D1 := Lib.hid (L1.out ((W4.alloc (.cells #[.int .i64 (s : Int)] 3)).alloc (.cells #[.int .i64 (q : Int)] 3)).drew (.slice (some ⟨W4.heap.size, 0, none⟩) 1 1) (.slice a8 pl.length c8) (HRD.out.keep (B8.out.trans (BV.out.mono B8.out.size))) (((lit1H W4 (s : Int)).keep (below1 (W4.alloc (.cells #[.int .i64 (s : Int)] 3)) (.cells #[.int .i64 (q : Int)] 3))).keep (Below.refl _ _).drew) (HI.out.keep BV.out))
      have D2 : Hid (∀ W, Below W4.heap.size W4 W → IntsRd W (.slice (some ⟨W4.heap.size + 1, 0, none⟩) 1 1) [(q : Int)] → _) := Lib.hid (fun W hb ht =>
        L2.out W (.slice (some ⟨W4.heap.size + 1, 0, none⟩) 1 1) (.slice a8 pl.length c8) (HM8.out.keep hb) ht (HI.out.keep hb))
      have BU := Lib.hid (below_more (below1 W4 (.cells #[.int .i64 (q : Int)] 3)) (Nat.le_refl _) (below1 (W4.alloc (.cells #[.int .i64 (q : Int)] 3)) (.cells #[.int .i64 (s : Int)] 3)).drew)
      have U0 := lit1H (W4.alloc (.cells #[.int .i64 (q : Int)] 3)) (s : Int)
      rw [World.size_alloc] at U0
      have E1 := Lib.hid (L1.out ((W4.alloc (.cells #[.int .i64 (q : Int)] 3)).alloc (.cells #[.int .i64 (s : Int)] 3)).drew (.slice (some ⟨W4.heap.size + 1, 0, none⟩) 1 1) (.slice a8 pl.length c8) (HRD.out.keep (B8.out.trans (BU.out.mono B8.out.size))) (U0.keep (Below.refl _ _).drew) (HI.out.keep BU.out))
      clear U0
      have U1 := Lib.hid (((lit1H W4 (q : Int)).keep (below1 (W4.alloc (.cells #[.int .i64 (q : Int)] 3)) (.cells #[.int .i64 (s : Int)] 3))).keep (Below.refl _ _).drew)
      have E2 : Hid (∀ W, Below W4.heap.size W4 W → IntsRd W (.slice (some ⟨W4.heap.size, 0, none⟩) 1 1) [(q : Int)] → _) := Lib.hid (fun W hb ht =>
        L2.out W (.slice (some ⟨W4.heap.size, 0, none⟩) 1 1) (.slice a8 pl.length c8) (HM8.out.keep hb) ht (HI.out.keep hb))
      have KY : Hid (∀ W, Below W4.heap.size W4 W → Below W4.heap.size W4 (W.alloc (.cells #[.int .i64 (q : Int)] 3))) := Lib.hid (fun W hb => below_more hb (Nat.le_refl _) (below1 W (.cells #[.int .i64 (q : Int)] 3)))
      clear HG8 HI HM8 HRD HWL HWA HPB
      rcases hk with ⟨rfl, rfl⟩ | ⟨rfl, rfl⟩
      all_goals
        go_region_held3 (fun W => W.cell? ⟨w.heap.size, 0, none⟩ = some (.int .i64 (La : Int)) ∧ W.cell? ⟨w.heap.size, 1, none⟩ = some (.int .i64 (n : Int)) ∧ W.cell? ⟨w.heap.size, 2, none⟩ = some v ∧ W.cell? ⟨P7, 0, none⟩ = some (.int .i64 (La : Int)) ∧ W.cell? ⟨P7, 1, none⟩ = some (.int .i64 (k : Int)) ∧ W.cell? ⟨P7, 2, none⟩ = some (.slice am M.length cm) ∧ W.cell? ⟨b8, o8 + s, none⟩ = some (.int .i64 (q : Int)))
          (first | exact G4K.out _ BD.out | exact G4K.out _ BA.out | exact G4K.out _ BT.out | exact G4K.out _ BV.out | exact G4K.out _ BU.out | exact G4K.out _ K3.out | exact G4K.out _ K2.out | exact G4K.out _ K1.out | exact G4K.out _ (KY.out _ K1.out))
          (first
            | (go_at_call 17; (with_reducible refine C1.out.mono ?_); rintro e0 Y1 ⟨a1, c1, rfl, q1⟩; (have K1 := Lib.hid (below_more BA.out (Nat.le_refl _) q1)); clear q1 C1)
            | (go_at_call 17; (with_reducible refine (C2.out Y1 K1.out).mono ?_); rintro e0 Y2 ⟨a2, c2, rfl, q2⟩; (have K2 := Lib.hid (below_more (KY.out _ K1.out) (Nat.le_refl _) q2)); clear q2 C2)
            | (go_at_call 17; (with_reducible refine D1.out.mono ?_); rintro e0 Y1 ⟨a1, c1, rfl, q1⟩; (have K1 := Lib.hid (below_more BV.out (Nat.le_refl _) q1)); (have T2 := Lib.hid (T1.out.keep q1)); clear q1 C1 C2 D1 T1)
            | (go_at_call 17; (with_reducible refine (D2.out Y1 K1.out T2.out).mono ?_); rintro e0 Y2 ⟨a2, c2, rfl, q2⟩; (have K2 := Lib.hid (below_more K1.out (Nat.le_refl _) q2)); clear q2 D2)
            | (go_at_call 17; (with_reducible refine E1.out.mono ?_); rintro e0 Y1 ⟨a1, c1, rfl, q1⟩; (have K1 := Lib.hid (below_more BU.out (Nat.le_refl _) q1)); (have U2 := Lib.hid (U1.out.keep q1)); clear q1 C1 C2 D1 T1 D2 U1)
            | (go_at_call 17; (with_reducible refine (E2.out Y1 K1.out U2.out).mono ?_); rintro e0 Y2 ⟨a2, c2, rfl, q2⟩; (have K2 := Lib.hid (below_more K1.out (Nat.le_refl _) q2)); clear q2 E2)
            | (go_at_call 7; (with_reducible refine (HA.out _).mono ?_); rintro e0 Y3 ⟨rfl, q3⟩; (have K3 := Lib.hid (below_more K2.out (Nat.le_refl _) q3)); clear q3))
        all_goals
          go_wp2_with fail
          go_ret
          exact ⟨rfl, (B8.out.trans (K3.out.mono B8.out.size))⟩
    · obtain ⟨y, hy⟩ : ∃ y, pl[i]? = some y := ⟨_, List.getElem?_eq_getElem (by omega)⟩
      have hy256 := HPB.out y (List.mem_of_getElem? hy)
      obtain ⟨a', c', hv', -, -, -, hcell⟩ := HPR.out.keep BW.out
      injection hv' with e1 e2 e3
      subst e1
      obtain ⟨b3, o3, e4, cb⟩ := hcell i y hy
      subst e4
      have HTK := Lib.hid (take_snoc (HWA.out i y hy))
      obtain ⟨lab, hlab⟩ : ∃ lab, y % La = lab := ⟨_, rfl⟩
      have tm2 : Int.tmod (y : Int) (La : Int) = (lab : Int) := by rw [Int.tmod_eq_emod_of_nonneg (by omega), ← hlab]; rfl
      have hwy : IntKind.i64.wrap (y : Int) = (y : Int) := IntWalk.i64_in _ (by omega)
      have hwb : IntKind.i64.wrap (lab : Int) = (lab : Int) := IntWalk.i64_in _ (by have := Nat.mod_le y La; omega)
      have hL9 : ¬ (La = 0) := by omega
      have hL7 : ¬ ((La : Int) = 0) := by omega
      rw [hlab] at HTK
      have HS := Lib.hid (show labsI (ws.take (i + 1)) = labsI (ws.take i) ++ [(lab : Int)] by rw [HTK.out]; unfold labsI; rw [List.map_append]; rfl)
      have hml2 : (labsI (ws.take i)).length ≤ 64 := by rw [labsI_lenH, List.length_take]; omega
      have j1 : (i : Int) < (pl.length : Int) := by omega
      have hlt := hown.lt
      have hown0 := hown
      unfold IntsAt at hown0
      obtain ⟨m, hm⟩ : ∃ m, (labsI (ws.take i)).length = m := ⟨_, rfl⟩
      rw [hm] at hown0 hml2 hlt ⊢
      have HM := Lib.hid hm
      obtain ⟨u1, u2, u3, -⟩ := HGX.out.keep hb
      clear hown hm hy hcell e2 e3 hlab
      go_wp2_with (first | (at_builtin; refine wpList_append_own_at _ rfl _ _ 27 rfl X.heap.size 3 i0 (.int .i64 0) 1 8 Try.underlying27 hi hz0 hz1 hz2 rfl (by decide) _ _ _ rfl (hown0.alloc _) ⟨wr.heap.size, 0, none⟩ 1 1 [.int .i64 (lab : Int)] rfl rfl ?c1 ?c2 ?c3 ?c4 ?c5 ?_))
      case c1 => exact World.news_of_block (cs := #[.int .i64 (lab : Int)]) (t := 3) (fr := (0, 0)) (heap_alloc_new wr _)
      case c2 => intro u hu; simp at hu; subst hu; rfl
      case c3 => unfold maxLen; omega
      case c4 => omega
      case c5 => rw [World.size_alloc]; have := hb.size; omega
      intro v' W2' hown2 hgrow _ hv'
      have hb2 : Below X.heap.size X W2' := (hb.alloc hb.size _).grown hgrow (by rw [World.size_alloc]; have := hb.size; omega) (fun k hk => (hlt k hk).1)
      rw [← intz_snoc, ← HS.out] at hown2
      have HI2 := Lib.hid (show IntsAt W2' X.heap.size v' (labsI (ws.take (i + 1))) by unfold IntsAt; rw [HS.out, List.length_append, HM.out]; rw [HS.out] at hown2; exact hown2)
      obtain ⟨a', c', rfl⟩ := own_slice hown2
      clear hown0 hown2 hgrow hlt hv' hb
      go_wp2_with fail
      go_roundg q'
      case measure => omega
      case rel => exact ⟨i + 1, by omega, by go_num, HI2.out, hb2⟩
theorem mergedL_any (L S : Int) (a : Nat) (es : List E3) (v vp : Value) (pl : List Nat) (w : World) (hrd : EdgesRd w v es) (hn : es.length ≤ 9223372036854775807) (hpr : BysRd w vp pl) (ha : a < 256) :
    Calls Try.prog 5 #[grV L S v, .int .u8 (a : Int), vp] w fun e w' => e = .returned (.bool true) ∧ Below w.heap.size w w' := by
  by_cases h : det13B L S es = false ∨ S = 0 ∨ 10 < pl.length
  · exact mergedL_no L S a es v vp pl w hrd hn hpr h
  · have h13 : det13B L S es = true := by
      cases h1 : det13B L S es
      · exact absurd (.inl h1) h
      · rfl
    obtain ⟨hvg, hd⟩ := det13B_vg h13
    obtain ⟨La, rfl⟩ : ∃ La : Nat, L = (La : Int) := ⟨L.toNat, by have := hvg.l1; omega⟩
    obtain ⟨n, rfl⟩ : ∃ n : Nat, S = (n : Int) := ⟨S.toNat, by have := hvg.s1; omega⟩
    have hpl : pl.length ≤ 10 := by
      by_cases h2 : pl.length ≤ 10
      · exact h2
      · exact absurd (.inr (.inr (by omega))) h
    exact mergedL_yes La n a es v vp pl w hrd hvg hd h13 (fun e => h (.inr (.inl (by rw [e]; rfl)))) ha hpr hpl
end Go.Proofs.Ytblkijdodojaeaa

namespace Go.Proofs.Ytblkijdodojaeaa.minimalMerged
open Go.ChangeShapes Go.WideShapes Go.ChangeAt Go.RowKit
open Go.ChangeMaps (open_string shut_string)
set_option maxRecDepth 100000
set_option linter.unusedVariables false

theorem contract (H : Type) (enc : TypeId × Value → H) (W : World) (args : Array Value) (ds gs : List (DataW H)) (before : List MemPlace)
    (hval : ∀ (j : Nat) t v, Try.f5.params[j]? = some t → args[j]? = some v → Value.okWide Try.prog W .any 0 t v)
    (hW : DataW.Whole enc Try.prog Try.f5.params.toList Rows.minimalMergedSpec.vars false W args.toList ds gs before) :
    Calls Try.prog 5 args W fun e W' => ∃ v, e = .returned v ∧ Rows.minimalMergedSpec.post enc Try.prog Try.f5 false true false false W args v W' := by
  have hW' := hW
  obtain ⟨p, q, hA0, hV, rfl, hfz, hnd⟩ := hW
  have hA : DataW.TrodAll enc Try.prog W 0 (fun _ => true) true Try.f5.params.toList args.toList ds p := hA0
  rw [Try.params5] at hA hval
  obtain ⟨v0, vs0, d0, ds0, p0, q0, hargs, rfl, rfl, h0, r0⟩ := trodAll_cons hA
  obtain ⟨v1, vs1, d1, ds1, p1, q1, rfl, rfl, rfl, h1, r1⟩ := trodAll_cons r0
  obtain ⟨v2, vs2, d2, ds2, p2, q2, rfl, rfl, rfl, h2, r2⟩ := trodAll_cons r1
  obtain ⟨rfl, rfl, rfl⟩ := trodAll_nil r2
  obtain rfl : args = #[v0, v1, v2] := by cases args; simp_all
  obtain ⟨rfl, rfl⟩ := trodVars_none hV
  obtain ⟨L0, S0, u0, es0, rfl, k0, l0⟩ := graph_open (hval 0 24 v0 rfl rfl) h0
  have t0 : ∀ x ∈ p0, x.block < W.heap.size := fun x hx => by simpa using hW'.lt x (by simp [hx])
  obtain ⟨n1, rfl, rfl, rfl, w1⟩ := open_int Try.underlying5 (hval 1 5 v1 rfl rfl) h1
  have b1 : (IntKind.min .u8) ≤ n1 ∧ n1 ≤ (IntKind.max .u8) := by simpa [Lit.wf] using w1
  simp [IntKind.min, IntKind.max, IntKind.signed, IntKind.bits] at b1
  obtain ⟨m1, rfl⟩ : ∃ m : Nat, n1 = (m : Int) := ⟨n1.toNat, by omega⟩
  obtain ⟨bs2, k2⟩ := bytes_open (hval 2 41 v2 rfl rfl) h2
  have t2 : ∀ x ∈ p2, x.block < W.heap.size := fun x hx => by simpa using hW'.lt x (by simp [hx])
  clear hA0
  refine (mergedL_any L0 S0 m1 es0 u0 v2 bs2 W k0 l0 k2 (by omega)).mono fun e W' ⟨he, hb⟩ => ?_
  subst he
  refine ⟨_, rfl, _, _, _, [], (p0 ++ (([] : List MemPlace) ++ (p2 ++ []))), [], hW', ?_, ?_, ?_, hb.frame _, fun h => by cases h⟩
  · exact trodAll_cons_mk (p := []) (shut_bool Try.underlying4 true) trodAll_mk0
  · exact (trodAll_cons_mk (graph_keep h0 hb t0) (trodAll_cons_mk (p := []) (shut_int Try.underlying5 w1) (trodAll_cons_mk (bytes_keep h2 hb t2) trodAll_mk0)))
  · rfl

set_option maxRecDepth 100000 in
theorem lifted (os : Os) (started : os.Started) (H : Type) (enc : TypeId × Value → H) :
    ReturnsInHanded {} Try.checked os 5 .any (Rows.minimalMergedSpec.pre6 enc Try.prog Try.f5 Rows.minimalMergedRow.domain false) (Rows.minimalMergedSpec.post enc Try.prog Try.f5 false true false false) := by
  refine returnsInHanded_of_change (C := Try.checked) ownNone started (by kernel_rfl) Try.func5
    (ChangeSpec.witness6 (enc := enc) (C := Try.checked) false ⟨#[], #[.agg #[.int .i64 0, .int .i64 0, .slice none 0 0], .int .u8 0, .slice none 0 0], []⟩ 8 (by kernel_rfl) (by kernel_rfl) (by kernel_rfl) (by kernel_rfl)) ?_
  intro W base args ds gs before hval hW hcnd _
  exact contract H enc W args ds gs before hval hW

/-- MinimalMerged. -/
theorem said : Rows.MinimalMergedSaid :=
  OpenClaim.holds_of_wide 5 Try.f5 rfl rfl rfl rfl rfl rfl rfl ⟨rfl, rfl, rfl, rfl, rfl⟩ rfl rfl rfl rfl rfl (by kernel_rfl) Try.func5 (by kernel_rfl)
    (of_decide_eq_true (by kernel_rfl)) (by unfold Func.isWrapper; first | (rw [if_pos (by decide +kernel)]; kernel_rfl) | (rw [if_neg (by decide +kernel)]; exact ⟨rfl, rfl⟩))
    (fun os started H enc _ => lifted os started H enc)
end Go.Proofs.Ytblkijdodojaeaa.minimalMerged
