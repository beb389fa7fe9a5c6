/- MinimalClasses returns true. Condition: the edges can be read. MinimalClasses returns true for every input: the law's row. No condition. -/
import Derived.Test.YtblkijdodojaeaaQ24
import Derived.Test.YtblkijdodojaeaaQ25

namespace Go.Proofs.Ytblkijdodojaeaa
open Go.RowKit
set_option linter.unusedSimpArgs false
set_option linter.unusedVariables false

set_option maxRecDepth 100000 in
set_option maxHeartbeats 6400000 in
theorem classes_no (L S a b : Int) (es : List E3) (v : Value) (w : World) (hrd : EdgesRd w v es) (hn : es.length ≤ 9223372036854775807) (h : det13B L S es = false ∨ S = 0) :
    Calls Try.prog 4 #[grV L S v, .int .u8 a, .int .u8 b] w fun e w' => e = .returned (.bool true) ∧ Below w.heap.size w w' := by
  have HD := Lib.hid (fun W h => det13_any L S es v W h hn)
  have HA := Lib.hid (fun W => awake13_any W)
  have HRD := Lib.hid hrd
  have B0 := Lib.hid (below1 w (.cells #[.int .i64 L, .int .i64 S, v] 24))
  have G0 := Lib.hid (BoxG.new w L S v 24)
  obtain ⟨x1, x2, x3⟩ := id G0.out
  clear hrd
  cases hd : det13B L S es
  · rw [hd] at HD
    clear hd h
    go_enter Try.func4, Try.ntmps4
    go_wp2_with (first
      | (go_at_call 16; (with_reducible refine (HD.out _ (HRD.out.keep B0.out)).mono ?_); rintro e W1 ⟨rfl, b1⟩; (have B1 := Lib.hid (below_more B0.out (Nat.le_refl _) b1)); clear b1 x1 x2 x3)
      | (go_at_call 7; (with_reducible refine (HA.out _).mono ?_); rintro e W2 ⟨rfl, b2⟩; (have B2 := Lib.hid (B1.out.trans (b2.mono B1.out.size)))))
    go_ret
    exact ⟨rfl, B2.out⟩
  · rw [hd] at HD
    obtain rfl : S = 0 := h.resolve_left (by rw [hd]; exact fun e => by cases e)
    clear hd h
    go_enter Try.func4, Try.ntmps4
    go_wp2_with (first
      | (go_at_call 16; (with_reducible refine (HD.out _ (HRD.out.keep B0.out)).mono ?_); rintro e W1 ⟨rfl, b1⟩; (have B1 := Lib.hid (below_more B0.out (Nat.le_refl _) b1)); (obtain ⟨y1, y2, y3⟩ := G0.out.keep b1); clear b1 x1 x2 x3)
      | (go_at_call 7; (with_reducible refine (HA.out _).mono ?_); rintro e W2 ⟨rfl, b2⟩; (have B2 := Lib.hid (B1.out.trans (b2.mono B1.out.size)))))
    go_ret
    exact ⟨rfl, B2.out⟩
theorem dif_false {m : Nat → Nat → Nat} {n s t : Nat} {w : List Nat} : Dif (fun x y : Bool => x != y) m m n n s t w = false ↔ (mrun m s w = n ↔ mrun m t w = n) := by
  unfold Dif
  by_cases h1 : mrun m s w = n <;> by_cases h2 : mrun m t w = n <;> simp [h1, h2]
theorem FW.cls {m : Nat → Nat → Nat} {La n s t : Nat} {u : List Int} {is : Bool} (hL : 1 ≤ La) (hm : ∀ s l, s < n + 1 → m s l < n + 1) (hn : ∀ l, m n l = n) (hs : s < n) (ht : t < n) (h : FW (fun x y : Bool => x != y) m m n n La s t u is) :
    is = ((((classN m La n).getD s 0 : Nat) : Int) != (((classN m La n).getD t 0 : Nat) : Int)) := by
  have hi := classN_iff (m := m) hL hm hn hs ht
  rcases h with ⟨rfl, w, -, hw, hd, -⟩ | ⟨rfl, -, hd⟩
  · symm
    rw [bne_iff_ne]
    intro e
    have h2 := hi.1 (by omega) w hw
    rw [dif_false.2 h2] at hd
    cases hd
  · symm
    rw [bne_eq_false_iff_eq]
    have h2 := hi.2 (fun w hw => dif_false.1 (hd w hw))
    omega
theorem FW.lens {m : Nat → Nat → Nat} {La n s t : Nat} {u : List Int} (h : FW (fun x y : Bool => x != y) m m n n La s t u true) :
    ∃ ws : List Nat, u = labsI ws ∧ (∀ l ∈ ws, l < La) ∧ (((setL n (mrun m s ws)).length = 1 ∧ (setL n (mrun m t ws)).length = 0) ∨ ((setL n (mrun m s ws)).length = 0 ∧ (setL n (mrun m t ws)).length = 1)) := by
  rcases h with ⟨-, w, h1, hw, hd, -⟩ | ⟨h0, -, -⟩
  · refine ⟨w, h1, hw, ?_⟩
    unfold Dif at hd
    unfold setL
    by_cases h1 : mrun m s w = n <;> by_cases h2 : mrun m t w = n <;> simp [h1, h2] at hd ⊢
  · cases h0
set_option maxRecDepth 100000 in
set_option maxHeartbeats 12800000 in
theorem classes_yes (La n a b : Nat) (es : List E3) (v : Value) (w : World) (hrd : EdgesRd w v es) (hvg : VG (La : Int) (n : Int) es) (hd : detE es = true) (h13 : det13B (La : Int) (n : Int) es = true) (hn0 : n ≠ 0) (ha : a < 256) (hb : b < 256) :
    Calls Try.prog 4 #[grV (La : Int) (n : Int) v, .int .u8 (a : Int), .int .u8 (b : Int)] w fun e w' => e = .returned (.bool true) ∧ Below w.heap.size w w' := by
  have hmx : Try.prog.follows .mixedOrders = true := by kernel_rfl
  have hn64 : n ≤ 64 := by have := hvg.s2; omega
  have hL1 : 1 ≤ La := by have := hvg.l1; omega
  have hl := hvg.len
  obtain ⟨s, hs⟩ : ∃ s, a % n = s := ⟨_, rfl⟩
  obtain ⟨t, ht⟩ : ∃ t, b % n = t := ⟨_, rfl⟩
  have hsn : s < n := by rw [← hs]; exact Nat.mod_lt _ (by omega)
  have htn : t < n := by rw [← ht]; exact Nat.mod_lt _ (by omega)
  have tm1 : Int.tmod (a : Int) (n : Int) = (s : Int) := by rw [Int.tmod_eq_emod_of_nonneg (by omega), ← hs]; rfl
  have tm2 : Int.tmod (b : Int) (n : Int) = (t : Int) := by rw [Int.tmod_eq_emod_of_nonneg (by omega), ← ht]; rfl
  have HD := Lib.hid (fun W h => det13_any (La : Int) (n : Int) es v W h (by omega))
  rw [h13] at HD
  have HA := Lib.hid (fun W => awake13_any W)
  have HPA : Hid (∀ W, EdgesRd W v es → Calls Try.prog 8 #[grV (La : Int) (n : Int) v] W fun e W' => ∃ g c, e = .returned (.tuple #[.slice g n c, .int .i64 0]) ∧ IntsRd W' (.slice g n c) (labsI (classN (mT n es) La n)) ∧ Below W.heap.size W W') := Lib.hid (fun W h => by
    refine (part_yes La n es v W h hvg hd).mono ?_
    rintro e W' ⟨g, c, he, -, h1, h2⟩
    exact ⟨_, c, he, h1, h2⟩)
  have HSE := Lib.hid (fun W h => sep_yes La n s t es v W h hvg hd hsn htn)
  have hmle : ∀ x l, x ≤ n → mT n es x l ≤ n := fun x l _ => mT_le hvg.ok x l
  have HFC : Hid (∀ u is, FW (fun x y : Bool => x != y) (mT n es) (mT n es) n n La s t u is → is = ((((classN (mT n es) La n).getD s 0 : Nat) : Int) != (((classN (mT n es) La n).getD t 0 : Nat) : Int)) ∧ u.length ≤ 100000) := Lib.hid (fun u is h => by
    refine ⟨h.cls hL1 (fun s l _ => Nat.lt_succ_of_le (mT_le hvg.ok s l)) (fun l => mT_none hvg.ok l) hsn htn, ?_⟩
    have h1 := h.lenH hmle hmle (by omega) (by omega)
    have h2 : (n + 1) * (n + 1) ≤ 65 * 65 := Nat.mul_le_mul (by omega) (by omega)
    omega)
  have HLS : Hid (∀ x ws W u uw, x < n → (∀ l ∈ ws, l < La) → ws.length ≤ 100000 → EdgesRd W v es → IntsRd W u [(x : Int)] → IntsRd W uw (labsI ws) → Calls Try.prog 17 #[grV (La : Int) (n : Int) v, u, uw] W fun e W' => ∃ a c, e = .returned (.slice a (setL n (mrun (mT n es) x ws)).length c) ∧ Below W.heap.size W W') := Lib.hid (fun x ws W u uw h1 h2 h3 h4 h5 h6 =>
    leads_any La n x es v u uw ws W h4 hvg hd (by omega) (by unfold setL; rw [if_neg (by omega)]; exact h5) h6 h2 h3)
  have hclen := classN_len (mT n es) La n hL1
  have HC : Hid (∀ k, k < n → (labsI (classN (mT n es) La n))[k]? = some (((classN (mT n es) La n).getD k 0 : Nat) : Int)) := Lib.hid (fun k hk => by
    refine labsI_atH ?_
    rw [List.getD_eq_getElem?_getD, List.getElem?_eq_getElem (by omega)]; rfl)
  have HRD := Lib.hid hrd
  have B0 := Lib.hid (below1 w (.cells #[.int .i64 (La : Int), .int .i64 (n : Int), v] 24))
  have G0 := Lib.hid (BoxG.new w (La : Int) (n : Int) v 24)
  obtain ⟨x1, x2, x3⟩ := id G0.out
  have d1 : ((n : Int) == 0) = false := by rw [beq_eq_false_iff_ne]; omega
  have hn9 : ¬ (n = 0) := hn0
  have hn7 : ¬ ((n : Int) = 0) := by omega
  have hwa : IntKind.i64.wrap (a : Int) = (a : Int) := IntWalk.i64_in _ (by omega)
  have hwb : IntKind.i64.wrap (b : Int) = (b : Int) := IntWalk.i64_in _ (by omega)
  have hws : IntKind.i64.wrap (s : Int) = (s : Int) := IntWalk.i64_in _ (by omega)
  have hwt : IntKind.i64.wrap (t : Int) = (t : Int) := IntWalk.i64_in _ (by omega)
  clear hrd hvg hd h13 hs ht hmle
  go_enter Try.func4, Try.ntmps4
  go_upto_region 3 with (go_at_call 16; (with_reducible refine (HD.out _ (HRD.out.keep B0.out)).mono ?_); rintro e W1 ⟨rfl, b1⟩; (have B1 := Lib.hid (below_more B0.out (Nat.le_refl _) b1)); (have G1 := Lib.hid (G0.out.keep b1)); clear b1 x1 x2 x3; (obtain ⟨x1, x2, x3⟩ := id G1.out))
  go_quiet (fail)
  go_upto_region 6 with (first
    | (go_at_call 8; (with_reducible refine (HPA.out _ (HRD.out.keep (below_drewM B1.out _))).mono ?_); rintro e W2 ⟨ac, cc, rfl, i2, b2⟩; (have B2 := Lib.hid ((below_drewM B1.out _).trans (b2.mono (below_drewM B1.out _).size))); (have I2 := Lib.hid i2); (have G2 := Lib.hid ((G1.out.keep (below_drewM (Below.refl _ _) _)).keep b2)); clear b2 i2 x1 x2 x3; (obtain ⟨x1, x2, x3⟩ := id G2.out))
    | (go_at_call 12; (with_reducible refine (HSE.out _ (HRD.out.keep B2.out)).mono ?_); rintro e W3 ⟨g3, c3, u3, is3, rfl, i3, fw3, b3⟩; (have B3 := Lib.hid (B2.out.trans (b3.mono B2.out.size))); (have I3 := Lib.hid i3); (have C3 := Lib.hid (I2.out.keep b3)); (have FW3 := Lib.hid fw3); (have G3 := Lib.hid (G2.out.keep b3)); clear b3 i3 fw3 x1 x2 x3))
  obtain ⟨hfc, hul⟩ := HFC.out _ _ FW3.out
  have hcs := HC.out s hsn
  have hct := HC.out t htn
  generalize (((classN (mT n es) La n).getD s 0 : Nat) : Int) = X at hfc hcs
  generalize (((classN (mT n es) La n).getD t 0 : Nat) : Int) = Y at hfc hct
  obtain ⟨a9, c9, hv9, hcell⟩ := id C3.out
  injection hv9 with e1 e2 e3
  subst e1
  obtain ⟨b8, o8, e4, p8⟩ := hcell s X hcs
  subst e4
  obtain ⟨b7, o7, e5, p7⟩ := hcell t Y hct
  cases e5
  obtain ⟨x1, x2, x3⟩ := id G3.out
  have d2 : ((n : Int) != (n : Int)) = false := by simp
  have d3 : decide ((s : Int) < 0) = false := decide_eq_false (by omega)
  have d4 : decide ((n : Int) ≤ (s : Int)) = false := decide_eq_false (by omega)
  have d5 : decide ((t : Int) < 0) = false := decide_eq_false (by omega)
  have d6 : decide ((n : Int) ≤ (t : Int)) = false := decide_eq_false (by omega)
  have d7 : (s : Int) < (n : Int) := by omega
  have d8 : (t : Int) < (n : Int) := by omega
  clear hcell hcs hct e2 e3 C3 HFC HC
  cases is3
  · have d9 : (X != Y) = false := hfc.symm
    have hu0 : u3 = [] := by
      rcases FW3.out with ⟨h, -⟩ | ⟨-, h, -⟩
      · cases h
      · exact h
    subst hu0
    clear hfc
    go_quiet (fail)
    go_wp2_with (go_at_call 7; (with_reducible refine (HA.out _).mono ?_); rintro e W4 ⟨rfl, b4⟩; (have B4 := Lib.hid ((below_drewM B3.out _).trans (b4.mono (below_drewM B3.out _).size))))
    go_ret
    exact ⟨rfl, B4.out⟩
  · have d9 : (X != Y) = true := hfc.symm
    obtain ⟨ws, hu0, hwl, hk⟩ := FW3.out.lens
    subst hu0
    rw [labsI_lenH] at hul
    have L1 := Lib.hid (fun W u uw => HLS.out s ws W u uw hsn hwl hul)
    have L2 := Lib.hid (fun W u uw => HLS.out t ws W u uw htn hwl hul)
    clear HLS hfc FW3
    generalize (setL n (mrun (mT n es) s ws)).length = k1 at L1 hk
    generalize (setL n (mrun (mT n es) t ws)).length = k2 at L2 hk
    go_quiet (fail)
    go_upto_region 10 with fail
    have hR0 := G3.out.keep (below_drewM (Below.refl W3.heap.size W3) nq)
    have I4 := Lib.hid (I3.out.keep (below_drewM (Below.refl W3.heap.size W3) nq))
    have B4 := Lib.hid (below_drewM B3.out nq)
    rw [labsI_lenH] at I4 ⊢
    generalize W3.drewN nq = W4 at *
    have G4 := Lib.hid hR0
    have KA : Hid (∀ (W : World) o, BoxG W w.heap.size (La : Int) (n : Int) v → BoxG (W.alloc o).drew w.heap.size (La : Int) (n : Int) v) := Lib.hid (fun W o h => (h.keep (below1 W o)).keep (Below.refl _ _).drew)
    have hR1 := Lib.hid (G4.out.keep (Below.refl _ _).drew)
    have BA := Lib.hid (below_more (below1 W4 (.cells #[.int .i64 (s : Int)] 3)).drew (Nat.le_refl _) (Below.refl _ _))
    have C1 := Lib.hid (L1.out (W4.alloc (.cells #[.int .i64 (s : Int)] 3)).drew (.slice (some ⟨W4.heap.size, 0, none⟩) 1 1) (.slice g3 ws.length c3) (HRD.out.keep (B4.out.trans (BA.out.mono B4.out.size))) ((lit1H W4 (s : Int)).keep (Below.refl _ _).drew) (I4.out.keep BA.out))
    have C2 : Hid (∀ W, Below W4.heap.size W4 W → _) := Lib.hid (fun W hb =>
      L2.out (W.alloc (.cells #[.int .i64 (t : Int)] 3)) (.slice (some ⟨W.heap.size, 0, none⟩) 1 1) (.slice g3 ws.length c3) (HRD.out.keep (B4.out.trans ((below_more hb (Nat.le_refl _) (below1 W (.cells #[.int .i64 (t : Int)] 3))).mono B4.out.size))) (lit1H W (t : Int)) (I4.out.keep (below_more hb (Nat.le_refl _) (below1 W (.cells #[.int .i64 (t : Int)] 3)))))
    have KA2 : Hid (∀ (W : World) o o', BoxG W w.heap.size (La : Int) (n : Int) v → BoxG ((W.alloc o).alloc o').drew w.heap.size (La : Int) (n : Int) v) := Lib.hid (fun W o o' h => ((h.keep (below1 W o)).keep (below1 _ o')).keep (Below.refl _ _).drew)
    have BV := Lib.hid (below_more (below1 W4 (.cells #[.int .i64 (s : Int)] 3)) (Nat.le_refl _) (below1 (W4.alloc (.cells #[.int .i64 (s : Int)] 3)) (.cells #[.int .i64 (t : Int)] 3)).drew)
    have T0 := lit1H (W4.alloc (.cells #[.int .i64 (s : Int)] 3)) (t : Int)
    rw [World.size_alloc] at T0
    have T1 := Lib.hid (T0.keep (Below.refl _ _).drew)
    clear T0
    have D1 := Lib.hid (L1.out ((W4.alloc (.cells #[.int .i64 (s : Int)] 3)).alloc (.cells #[.int .i64 (t : Int)] 3)).drew (.slice (some ⟨W4.heap.size, 0, none⟩) 1 1) (.slice g3 ws.length c3) (HRD.out.keep (B4.out.trans (BV.out.mono B4.out.size))) (((lit1H W4 (s : Int)).keep (below1 (W4.alloc (.cells #[.int .i64 (s : Int)] 3)) (.cells #[.int .i64 (t : Int)] 3))).keep (Below.refl _ _).drew) (I4.out.keep BV.out))
    have D2 : Hid (∀ W, Below W4.heap.size W4 W → IntsRd W (.slice (some ⟨W4.heap.size + 1, 0, none⟩) 1 1) [(t : Int)] → _) := Lib.hid (fun W hb ht =>
      L2.out W (.slice (some ⟨W4.heap.size + 1, 0, none⟩) 1 1) (.slice g3 ws.length c3) (HRD.out.keep (B4.out.trans (hb.mono B4.out.size))) ht (I4.out.keep hb))
    have BU := Lib.hid (below_more (below1 W4 (.cells #[.int .i64 (t : Int)] 3)) (Nat.le_refl _) (below1 (W4.alloc (.cells #[.int .i64 (t : Int)] 3)) (.cells #[.int .i64 (s : Int)] 3)).drew)
    have U0 := lit1H (W4.alloc (.cells #[.int .i64 (t : Int)] 3)) (s : Int)
    rw [World.size_alloc] at U0
    have E1 := Lib.hid (L1.out ((W4.alloc (.cells #[.int .i64 (t : Int)] 3)).alloc (.cells #[.int .i64 (s : Int)] 3)).drew (.slice (some ⟨W4.heap.size + 1, 0, none⟩) 1 1) (.slice g3 ws.length c3) (HRD.out.keep (B4.out.trans (BU.out.mono B4.out.size))) (U0.keep (Below.refl _ _).drew) (I4.out.keep BU.out))
    clear U0
    have U1 := Lib.hid (((lit1H W4 (t : Int)).keep (below1 (W4.alloc (.cells #[.int .i64 (t : Int)] 3)) (.cells #[.int .i64 (s : Int)] 3))).keep (Below.refl _ _).drew)
    have E2 : Hid (∀ W, Below W4.heap.size W4 W → IntsRd W (.slice (some ⟨W4.heap.size, 0, none⟩) 1 1) [(t : Int)] → _) := Lib.hid (fun W hb ht =>
      L2.out W (.slice (some ⟨W4.heap.size, 0, none⟩) 1 1) (.slice g3 ws.length c3) (HRD.out.keep (B4.out.trans (hb.mono B4.out.size))) ht (I4.out.keep hb))
    have G4K : Hid (∀ W, Below W4.heap.size W4 W → BoxG W w.heap.size (La : Int) (n : Int) v) := Lib.hid (fun W hb => G4.out.keep hb)
    unfold BoxG at hR0 hR1 G4 KA G4K KA2
    rcases hk with ⟨rfl, rfl⟩ | ⟨rfl, rfl⟩
    all_goals
      go_region_held3 (fun W => W.cell? ⟨w.heap.size, 0, none⟩ = some (.int .i64 (La : Int)) ∧ W.cell? ⟨w.heap.size, 1, none⟩ = some (.int .i64 (n : Int)) ∧ W.cell? ⟨w.heap.size, 2, none⟩ = some v)
        (first | exact hR1.out | exact KA.out _ _ G4.out | exact G4.out | exact hR6.out | exact KA.out _ _ hR6.out | exact hR7.out | exact hR8.out | exact KA2.out _ _ _ G4.out)
        (first
          | (go_at_call 17; (with_reducible refine C1.out.mono ?_); rintro e0 Y1 ⟨a1, c1, rfl, q1⟩; (have K1 := Lib.hid (below_more BA.out (Nat.le_refl _) q1)); (have hR6 := Lib.hid (G4K.out _ K1.out)); clear q1 C1)
          | (go_at_call 17; (with_reducible refine (C2.out Y1 K1.out).mono ?_); rintro e0 Y2 ⟨a2, c2, rfl, q2⟩; (have K2 := Lib.hid (below_more (below_more K1.out (Nat.le_refl _) (below1 Y1 (.cells #[.int .i64 (t : Int)] 3))) (Nat.le_refl _) q2)); (have hR7 := Lib.hid (G4K.out _ K2.out)); clear q2 C2)
          | (go_at_call 17; (with_reducible refine D1.out.mono ?_); rintro e0 Y1 ⟨a1, c1, rfl, q1⟩; (have K1 := Lib.hid (below_more BV.out (Nat.le_refl _) q1)); (have hR6 := Lib.hid (G4K.out _ K1.out)); (have T2 := Lib.hid (T1.out.keep q1)); clear q1 C1 C2 D1 T1)
          | (go_at_call 17; (with_reducible refine (D2.out Y1 K1.out T2.out).mono ?_); rintro e0 Y2 ⟨a2, c2, rfl, q2⟩; (have K2 := Lib.hid (below_more K1.out (Nat.le_refl _) q2)); (have hR7 := Lib.hid (G4K.out _ K2.out)); clear q2 D2)
          | (go_at_call 17; (with_reducible refine E1.out.mono ?_); rintro e0 Y1 ⟨a1, c1, rfl, q1⟩; (have K1 := Lib.hid (below_more BU.out (Nat.le_refl _) q1)); (have hR6 := Lib.hid (G4K.out _ K1.out)); (have U2 := Lib.hid (U1.out.keep q1)); clear q1 C1 C2 D1 T1 D2 U1)
          | (go_at_call 17; (with_reducible refine (E2.out Y1 K1.out U2.out).mono ?_); rintro e0 Y2 ⟨a2, c2, rfl, q2⟩; (have K2 := Lib.hid (below_more K1.out (Nat.le_refl _) q2)); (have hR7 := Lib.hid (G4K.out _ K2.out)); clear q2 E2)
          | (go_at_call 7; (with_reducible refine (HA.out _).mono ?_); rintro e0 Y3 ⟨rfl, q3⟩; (have K3 := Lib.hid (below_more K2.out (Nat.le_refl _) q3)); (have hR8 := Lib.hid (G4K.out _ K3.out)); clear q3))
      all_goals
        go_wp2_with fail
        go_ret
        exact ⟨rfl, (B4.out.trans (K3.out.mono B4.out.size))⟩
theorem det13B_vg {L S : Int} {es : List E3} (h : det13B L S es = true) : VG L S es ∧ detE es = true := by
  unfold det13B at h
  rw [Bool.and_eq_true, Bool.and_eq_true, beq_iff_eq] at h
  exact ⟨chkG_zero h.1.2, h.2⟩
theorem classes_any (L S : Int) (a b : Nat) (es : List E3) (v : Value) (w : World) (hrd : EdgesRd w v es) (hn : es.length ≤ 9223372036854775807) (ha : a < 256) (hb : b < 256) :
    Calls Try.prog 4 #[grV L S v, .int .u8 (a : Int), .int .u8 (b : Int)] w fun e w' => e = .returned (.bool true) ∧ Below w.heap.size w w' := by
  by_cases h : det13B L S es = false ∨ S = 0
  · exact classes_no L S a b es v w hrd hn h
  · have h13 : det13B L S es = true := by
      cases h1 : det13B L S es
      · exact absurd (.inl h1) h
      · rfl
    obtain ⟨hvg, hd⟩ := det13B_vg h13
    obtain ⟨La, rfl⟩ : ∃ La : Nat, L = (La : Int) := ⟨L.toNat, by have := hvg.l1; omega⟩
    obtain ⟨n, rfl⟩ : ∃ n : Nat, S = (n : Int) := ⟨S.toNat, by have := hvg.s1; omega⟩
    exact classes_yes La n a b es v w hrd hvg hd h13 (fun e => h (.inr (by rw [e]; rfl))) ha hb
end Go.Proofs.Ytblkijdodojaeaa

namespace Go.Proofs.Ytblkijdodojaeaa.minimalClasses
open Go.ChangeShapes Go.WideShapes Go.ChangeAt Go.RowKit
open Go.ChangeMaps (open_string shut_string)
set_option maxRecDepth 100000
set_option linter.unusedVariables false

theorem contract (H : Type) (enc : TypeId × Value → H) (W : World) (args : Array Value) (ds gs : List (DataW H)) (before : List MemPlace)
    (hval : ∀ (j : Nat) t v, Try.f4.params[j]? = some t → args[j]? = some v → Value.okWide Try.prog W .any 0 t v)
    (hW : DataW.Whole enc Try.prog Try.f4.params.toList Rows.minimalClassesSpec.vars false W args.toList ds gs before) :
    Calls Try.prog 4 args W fun e W' => ∃ v, e = .returned v ∧ Rows.minimalClassesSpec.post enc Try.prog Try.f4 false true false false W args v W' := by
  have hW' := hW
  obtain ⟨p, q, hA0, hV, rfl, hfz, hnd⟩ := hW
  have hA : DataW.TrodAll enc Try.prog W 0 (fun _ => true) true Try.f4.params.toList args.toList ds p := hA0
  rw [Try.params4] at hA hval
  obtain ⟨v0, vs0, d0, ds0, p0, q0, hargs, rfl, rfl, h0, r0⟩ := trodAll_cons hA
  obtain ⟨v1, vs1, d1, ds1, p1, q1, rfl, rfl, rfl, h1, r1⟩ := trodAll_cons r0
  obtain ⟨v2, vs2, d2, ds2, p2, q2, rfl, rfl, rfl, h2, r2⟩ := trodAll_cons r1
  obtain ⟨rfl, rfl, rfl⟩ := trodAll_nil r2
  obtain rfl : args = #[v0, v1, v2] := by cases args; simp_all
  obtain ⟨rfl, rfl⟩ := trodVars_none hV
  obtain ⟨L0, S0, u0, es0, rfl, k0, l0⟩ := graph_open (hval 0 24 v0 rfl rfl) h0
  have t0 : ∀ x ∈ p0, x.block < W.heap.size := fun x hx => by simpa using hW'.lt x (by simp [hx])
  obtain ⟨n1, rfl, rfl, rfl, w1⟩ := open_int Try.underlying5 (hval 1 5 v1 rfl rfl) h1
  have b1 : (IntKind.min .u8) ≤ n1 ∧ n1 ≤ (IntKind.max .u8) := by simpa [Lit.wf] using w1
  simp [IntKind.min, IntKind.max, IntKind.signed, IntKind.bits] at b1
  obtain ⟨m1, rfl⟩ : ∃ m : Nat, n1 = (m : Int) := ⟨n1.toNat, by omega⟩
  obtain ⟨n2, rfl, rfl, rfl, w2⟩ := open_int Try.underlying5 (hval 2 5 v2 rfl rfl) h2
  have b2 : (IntKind.min .u8) ≤ n2 ∧ n2 ≤ (IntKind.max .u8) := by simpa [Lit.wf] using w2
  simp [IntKind.min, IntKind.max, IntKind.signed, IntKind.bits] at b2
  obtain ⟨m2, rfl⟩ : ∃ m : Nat, n2 = (m : Int) := ⟨n2.toNat, by omega⟩
  clear hA0
  refine (classes_any L0 S0 m1 m2 es0 u0 W k0 l0 (by omega) (by omega)).mono fun e W' ⟨he, hb⟩ => ?_
  subst he
  refine ⟨_, rfl, _, _, _, [], (p0 ++ (([] : List MemPlace) ++ (([] : List MemPlace) ++ []))), [], hW', ?_, ?_, ?_, hb.frame _, fun h => by cases h⟩
  · exact trodAll_cons_mk (p := []) (shut_bool Try.underlying4 true) trodAll_mk0
  · exact (trodAll_cons_mk (graph_keep h0 hb t0) (trodAll_cons_mk (p := []) (shut_int Try.underlying5 w1) (trodAll_cons_mk (p := []) (shut_int Try.underlying5 w2) trodAll_mk0)))
  · rfl

set_option maxRecDepth 100000 in
theorem lifted (os : Os) (started : os.Started) (H : Type) (enc : TypeId × Value → H) :
    ReturnsInHanded {} Try.checked os 4 .any (Rows.minimalClassesSpec.pre6 enc Try.prog Try.f4 Rows.minimalClassesRow.domain false) (Rows.minimalClassesSpec.post enc Try.prog Try.f4 false true false false) := by
  refine returnsInHanded_of_change (C := Try.checked) ownNone started (by kernel_rfl) Try.func4
    (ChangeSpec.witness6 (enc := enc) (C := Try.checked) false ⟨#[], #[.agg #[.int .i64 0, .int .i64 0, .slice none 0 0], .int .u8 0, .int .u8 0], []⟩ 8 (by kernel_rfl) (by kernel_rfl) (by kernel_rfl) (by kernel_rfl)) ?_
  intro W base args ds gs before hval hW hcnd _
  exact contract H enc W args ds gs before hval hW

/-- MinimalClasses. -/
theorem said : Rows.MinimalClassesSaid :=
  OpenClaim.holds_of_wide 4 Try.f4 rfl rfl rfl rfl rfl rfl rfl ⟨rfl, rfl, rfl, rfl, rfl⟩ rfl rfl rfl rfl rfl (by kernel_rfl) Try.func4 (by kernel_rfl)
    (of_decide_eq_true (by kernel_rfl)) (by unfold Func.isWrapper; first | (rw [if_pos (by decide +kernel)]; kernel_rfl) | (rw [if_neg (by decide +kernel)]; exact ⟨rfl, rfl⟩))
    (fun os started H enc _ => lifted os started H enc)
end Go.Proofs.Ytblkijdodojaeaa.minimalClasses
