/- What minimal.classesOf returns: the classes of the states of a machine. Conditions: the machine can be read; at most 64 states, 1 to 256 labels. What minimal.checkDeterministic and Partition return. Condition: the edges can be read. What grooveref13.target returns for a valid, deterministic graph, and check for any graph. Condition: the edges can be read. -/
import Derived.Test.YtiockphjnkehnaaGreatDoorQ21
import Derived.Test.YtiockphjnkehnaaGreatDoorQ09
import Derived.Test.YtiockphjnkehnaaGreatDoorQ08
import Derived.Test.YtiockphjnkehnaaGreatDoorQ14
import Derived.Test.YtiockphjnkehnaaGreatDoorQ15

namespace Go.Proofs.YtiockphjnkehnaaGreatDoor
open Go.RowKit Go.Maps
set_option linter.unusedSimpArgs false
set_option linter.unusedVariables false

theorem labsI_inj {a b : List Nat} (h : labsI a = labsI b) : a = b := by
  unfold labsI at h
  exact (List.map_inj_right (fun x y e => by omega)).1 h
theorem labsI_take (c : List Nat) (k : Nat) : (labsI c).take k = labsI (c.take k) := by unfold labsI; rw [List.map_take]
theorem ints_pre {W : World} {g : Nat} {N n c : Nat} {l : List Int} (h : IntsRd W (.slice (some ⟨g, 0, none⟩) N c) l) (hn : n ≤ l.length) : IntsRd W (.slice (some ⟨g, 0, none⟩) n c) (l.take n) := by
  obtain ⟨a, c2, hv, h1⟩ := h
  injection hv with e1 e2 e3
  subst e1
  subst e3
  refine ⟨_, _, by rw [List.length_take, Nat.min_eq_left hn], fun i x hx => ?_⟩
  have hi : i < n := by
    have := (List.getElem?_eq_some_iff.1 hx).1
    rw [List.length_take] at this
    omega
  rw [List.getElem?_take_of_lt hi] at hx
  exact h1 i x hx
set_option maxRecDepth 100000 in
set_option maxHeartbeats 6400000 in
theorem classesOf_any (m : Nat → Nat → Nat) (n La : Nat) (am : Option Addr) (cm : Nat) (w : World) (hrm : RowsRd w (.slice am (n + 1) cm) (mRows m n La)) (hm : ∀ s l, s < n + 1 → m s l < n + 1) (hn : n ≤ 64) (hL1 : 1 ≤ La) (hL : La ≤ 256) :
    Calls Tryz.prog 65 #[.slice am (n + 1) cm] w fun e w' => ∃ g c, e = .returned (.slice (some ⟨g, 0, none⟩) n c) ∧ w.heap.size ≤ g ∧ IntsRd w' (.slice (some ⟨g, 0, none⟩) n c) (labsI (classN m La n)) ∧ Below w.heap.size w w' := by
  have hmk := make_intsH (n + 1) (by omega)
  have HRM := Lib.hid hrm
  obtain ⟨K, hK1, hK2, hK3, hK4⟩ := stopC_get m La n hL1
  have HK2 := Lib.hid hK2
  have HK3 := Lib.hid hK3
  have HK4 := Lib.hid hK4
  have HNO := Lib.hid (fun W => mnone_any am n cm W (by omega))
  have HSP : Hid (∀ W (c : List Nat) (g l : Nat), RowsRd W (.slice am (n + 1) cm) (mRows m n La) → IntsRd W (.slice (some ⟨g, 0, none⟩) (n + 1) (n + 1)) (labsI c) → c.length = n + 1 → (∀ x ∈ c, x ≤ n + 1) → l < La → Calls Tryz.prog 91 #[.slice am (n + 1) cm, .slice (some ⟨g, 0, none⟩) (n + 1) (n + 1), .int .i64 (l : Int)] W fun e w' => ∃ R, e = .returned (.slice (some ⟨R, 0, none⟩) (n + 1) (n + 1)) ∧ W.heap.size ≤ R ∧ IntsRd w' (.slice (some ⟨R, 0, none⟩) (n + 1) (n + 1)) (labsI (splitC m c l)) ∧ Below W.heap.size W w') :=
    Lib.hid (fun W c g l h1 h2 h3 h4 h5 => split_any m n La l c _ _ W h1 h2 h3 h4 h5 hm hn hL)
  have HEQ : Hid (∀ W u u' (a b : List Nat), IntsRd W u (labsI a) → IntsRd W u' (labsI b) → a.length = n + 1 → b.length = n + 1 → Calls Tryz.prog 13 #[u, u'] W fun e W' => e = .returned (.bool (decide (a = b))) ∧ Below W.heap.size W W') := Lib.hid (fun W u u' a b h1 h2 h3 h4 => by
    refine (intsEq_any h1 h2 (by rw [labsI_lenH]; omega) (by rw [labsI_lenH]; omega)).mono ?_
    rintro e W' ⟨rfl, h5⟩
    refine ⟨?_, h5⟩
    congr 2
    rw [decide_eq_decide]
    exact ⟨labsI_inj, fun e => by rw [e]⟩)
  have hup : ∀ k j, ((List.range j).foldl (splitC m) (rndC m La (startC n) k)).length = n + 1 ∧ ∀ x ∈ (List.range j).foldl (splitC m) (rndC m La (startC n) k), x ≤ n + 1 := fun k j =>
    ⟨by rw [upC_len, rndC_len, startC_len], upC_le (by rw [rndC_len, startC_len]; exact Nat.le_refl _) (rndC_le k) j⟩
  have HUP := Lib.hid hup
  have hrow := mRows_at (m := m) (La := La) (n := n) (j := n) (Nat.lt_succ_self n)
  have HROW := Lib.hid hrow
  obtain ⟨N, hN⟩ : ∃ N, n + 1 = N := ⟨_, rfl⟩
  rw [hN] at hmk HNO HSP HEQ HUP HRM ⊢
  have HNN := Lib.hid hN
  have hN1 : n < N := by omega
  have hN2 : N ≤ 65 := by omega
  have R0 := Lib.hid ((IRow.made w N).set n 1)
  obtain ⟨R, hR⟩ : ∃ R, w.heap.size = R := ⟨_, rfl⟩
  have c0 := (IRow.made w N).cell hN1
  have f0 := (IRow.made w N).frozen n
  have B0 := Lib.hid (show Below w.heap.size w ((w.alloc (.cells (madeCells #[.int .i64 0] N) 3)).setCell ⟨R, n, none⟩ (.int .i64 1)) from (below1 w (.cells (madeCells #[.int .i64 0] N) 3)).setCell (by show w.heap.size ≤ R; omega) (.int .i64 1))
  clear hrm hN hK1 hK2 hK3 hK4 hup hrow hm
  go_enter Tryz.func65, Tryz.ntmps65
  rw [hR] at R0 c0 f0
  go_upto_region 2 with fail
  have HRR := Lib.hid hR
  clear hR hmk
  generalize (w.alloc (.cells (madeCells #[.int .i64 0] N) 3)) = X at *
  go_wp2_with (go_at_call 70; (with_reducible refine (HNO.out _).mono ?_); rintro e W3 ⟨rfl, rfl⟩)
  have I0 := Lib.hid (show IntsRd (W3.setCell ⟨R, n, none⟩ (.int .i64 1)) (.slice (some ⟨R, 0, none⟩) N N) (labsI (startC n)) by
    have hl := startC_len n
    rw [HNN.out] at hl
    refine ⟨_, _, by rw [labsI_lenH, hl], fun j x hx => ⟨R, 0, rfl, ?_⟩⟩
    have hj : j < N := by
      have := (List.getElem?_eq_some_iff.1 hx).1
      rwa [labsI_lenH, hl] at this
    rw [natR (by omega), startC_at (by rw [HNN.out]; exact hj)] at hx
    injection hx with hx
    rw [Nat.zero_add, R0.out.cell hj, ← hx]
    by_cases e : j = n
    · rw [if_pos e, if_pos e]; rfl
    · rw [if_neg e, if_neg e]; rfl)
  clear R0 c0 f0
  generalize (W3.setCell ⟨R, n, none⟩ (.int .i64 1)) = Y at *
  go_loopg [3] K (fun q s3 wx => ∃ (k g : Nat), k + q = K ∧ s3 = .slice (some ⟨g, 0, none⟩) N N ∧ w.heap.size ≤ g ∧ Hid (IntsRd wx (.slice (some ⟨g, 0, none⟩) N N) (labsI (rndC m La (startC n) k))) ∧ Hid (Below w.heap.size w wx))
  case atStart => exact ⟨0, R, by omega, rfl, by rw [HRR.out]; exact Nat.le_refl _, I0, B0⟩
  case round =>
    clear I0 B0
    obtain ⟨k, g, hk, rfl, hwg, HI, HB⟩ := hrel
    obtain ⟨q, rfl⟩ : ∃ q, q = gk := ⟨_, rfl⟩
    obtain ⟨b2, o2, k2, u2, hv2, p2, r2⟩ := (HRM.out.keep HB.out).at HROW.out
    injection hv2 with e4 e5 e6
    subst e4
    obtain ⟨a7, c7, hu7⟩ := r2.form
    rw [mRow_len] at hu7
    subst hu7
    have jn : (n : Int) < (N : Int) := by omega
    clear e5 e6 r2
    go_upto_region 5 with (go_at_call 70; (with_reducible refine (HNO.out _).mono ?_); rintro e W4 ⟨rfl, rfl⟩)
    have HIK := Lib.hid HI.out
    have hu0 := HUP.out k 0
    go_loopg [4, 20] La (fun q2 s4 s20 wx => ∃ (j g2 : Nat), j + q2 = La ∧ s20 = .int .i64 (j : Int) ∧ s4 = .slice (some ⟨g2, 0, none⟩) N N ∧ w.heap.size ≤ g2 ∧ Hid (IntsRd wx (.slice (some ⟨g2, 0, none⟩) N N) (labsI ((List.range j).foldl (splitC m) (rndC m La (startC n) k)))) ∧ Hid (Below W4.heap.size W4 wx))
    case atStart => exact ⟨0, g, by omega, rfl, rfl, hwg, HI, Lib.hid (Below.refl _ _)⟩
    case round =>
      clear p2 HI
      obtain ⟨j, g2, hj, rfl, rfl, hwg2, HJ, HB2⟩ := hrel
      have BW := Lib.hid (HB.out.trans (HB2.out.mono HB.out.size))
      rcases gk with _ | q2
      · obtain rfl : j = La := by omega
        have j0 : ¬ ((j : Int) < (j : Int)) := by omega
        have hu1 := HUP.out k j
        have HEQ2 := Lib.hid (HEQ.out wr _ _ _ _ HJ.out (HIK.out.keep HB2.out) hu1.1 hu0.1)
        by_cases hkK : k = K
        · have d1 : decide ((List.range j).foldl (splitC m) (rndC m j (startC n) k) = rndC m j (startC n) k) = true := decide_eq_true (by rw [hkK]; exact HK2.out)
          rw [d1] at HEQ2
          have HF := Lib.hid (show labsI (classN m j n) = (labsI (rndC m j (startC n) k)).take n by rw [HK4.out, labsI_take, hkK])
          have hlen : (labsI (rndC m j (startC n) k)).length = N := by rw [labsI_lenH]; exact hu0.1
          have hle : (n : Int) ≤ (N : Int) := by omega
          have HLE := Lib.hid hlen
          clear d1 hu0 hu1 HEQ hkK hlen
          go_wp2_with (first
            | (go_at_call 70; (with_reducible refine (HNO.out _).mono ?_); rintro e W6 ⟨rfl, hW6⟩)
            | (go_at_call 13; (with_reducible refine HEQ2.out.mono ?_); rintro e W5 ⟨rfl, b5⟩; (have B5 := Lib.hid (BW.out.trans (b5.mono BW.out.size))); (have I5 := Lib.hid ((HIK.out.keep HB2.out).keep b5)); clear b5))
          go_ret
          refine ⟨_, _, rfl, hwg, ?_, B5.out⟩
          rw [HF.out]
          exact ints_pre I5.out (by rw [HLE.out]; omega)
        · have d1 : decide ((List.range j).foldl (splitC m) (rndC m j (startC n) k) = rndC m j (startC n) k) = false := decide_eq_false (HK3.out k (by omega))
          rw [d1] at HEQ2
          clear d1 hu0 hu1 HEQ
          obtain ⟨q, rfl⟩ : ∃ q', q = q' + 1 := ⟨q - 1, by omega⟩
          go_wp2_with (go_at_call 13; (with_reducible refine HEQ2.out.mono ?_); rintro e W5 ⟨rfl, b5⟩; (have B5 := Lib.hid (BW.out.trans (b5.mono BW.out.size))); (have I5 := Lib.hid (HJ.out.keep b5)); clear b5)
          go_roundg q
          case measure => omega
          case rel => exact ⟨k + 1, g2, by omega, rfl, hwg2, I5, B5⟩
      · have hu1 := HUP.out k j
        have HS2 := Lib.hid (HSP.out wr _ g2 j (HRM.out.keep BW.out) HJ.out hu1.1 hu1.2 (by omega))
        have j1 : (j : Int) < (La : Int) := by omega
        clear hu1
        go_wp2_with (go_at_call 91; (with_reducible refine HS2.out.mono ?_); rintro e W5 ⟨R5, rfl, hwR, i5, b5⟩; (have I5 := Lib.hid i5); (have B5 := Lib.hid (HB2.out.trans (b5.mono HB2.out.size))); clear i5 b5)
        go_roundg q2
        case measure => omega
        case rel => exact ⟨j + 1, R5, by omega, by go_num, rfl, by have := BW.out.size; omega, Lib.hid (by rw [List.range_succ, List.foldl_append]; exact I5.out), B5⟩
end Go.Proofs.YtiockphjnkehnaaGreatDoor

namespace Go.Proofs.YtiockphjnkehnaaGreatDoor
open Go.RowKit Go.Maps Go.Lib
set_option linter.unusedSimpArgs false
set_option linter.unusedVariables false

def cdR (La S : Int) (es : List E3) : Int := if chkG La S es = 0 then (if detE es = true then 0 else 8) else 1
theorem cdR_ok {La S : Int} {es : List E3} (hvg : VG La S es) (hd : detE es = true) : cdR La S es = 0 := by
  unfold cdR; rw [if_pos hvg.chk, if_pos hd]
set_option maxRecDepth 100000 in
set_option maxHeartbeats 3200000 in
theorem checkDet_any (La S : Int) (es : List E3) (v : Value) (w : World) (hrd : EdgesRd w v es) (hn : es.length ≤ 9223372036854775807) :
    Calls Tryz.prog 38 #[grV La S v] w fun e w' => e = .returned (.int .i64 (cdR La S es)) ∧ Below w.heap.size w w' := by
  have HD := Lib.hid (deterministic_any La S es v _ (hrd.keep (below1 w (.cells #[.int .i64 La, .int .i64 S, v] 24))) hn)
  have B0 := Lib.hid (below1 w (.cells #[.int .i64 La, .int .i64 S, v] 24))
  obtain ⟨x1, x2, x3⟩ := BoxG.new w La S v 24
  obtain ⟨z, hz⟩ : ∃ z, cdR La S es = z := ⟨_, rfl⟩
  have HZ := Lib.hid hz
  rw [hz]
  obtain ⟨a, c, rfl⟩ := hrd.form
  clear hrd hz
  by_cases h1 : chkG La S es = 0
  · by_cases h2 : detE es = true
    · have e1 : detR La S es = (true, 0) := by unfold detR; rw [if_pos h1, h2]
      have HE := Lib.hid (show z = 0 by rw [← HZ.out]; unfold cdR; rw [if_pos h1, if_pos h2])
      rw [e1] at HD
      clear HZ h1 h2 e1
      go_enter Tryz.func38, Tryz.ntmps38
      go_wp2_with (go_at_call 68; (with_reducible refine HD.out.mono ?_); rintro e W1 ⟨rfl, b1⟩; (have B1 := Lib.hid (below_more B0.out (Nat.le_refl _) b1)); clear b1 x1 x2 x3)
      go_ret
      exact ⟨by rw [HE.out]; rfl, B1.out⟩
    · have e1 : detR La S es = (false, 0) := by unfold detR; rw [if_pos h1, Bool.eq_false_iff.2 h2]
      have HE := Lib.hid (show z = 8 by rw [← HZ.out]; unfold cdR; rw [if_pos h1, if_neg h2])
      rw [e1] at HD
      clear HZ h1 h2 e1
      go_enter Tryz.func38, Tryz.ntmps38
      go_wp2_with (go_at_call 68; (with_reducible refine HD.out.mono ?_); rintro e W1 ⟨rfl, b1⟩; (have B1 := Lib.hid (below_more B0.out (Nat.le_refl _) b1)); clear b1 x1 x2 x3)
      go_ret
      exact ⟨by rw [HE.out]; rfl, B1.out⟩
  · have e1 : detR La S es = (false, 1) := by unfold detR; rw [if_neg h1]
    have HE := Lib.hid (show z = 1 by rw [← HZ.out]; unfold cdR; rw [if_neg h1])
    rw [e1] at HD
    clear HZ h1 e1
    go_enter Tryz.func38, Tryz.ntmps38
    go_wp2_with (go_at_call 68; (with_reducible refine HD.out.mono ?_); rintro e W1 ⟨rfl, b1⟩; (have B1 := Lib.hid (below_more B0.out (Nat.le_refl _) b1)); clear b1 x1 x2 x3)
    go_ret
    exact ⟨by rw [HE.out]; rfl, B1.out⟩
set_option maxRecDepth 100000 in
set_option maxHeartbeats 3200000 in
theorem part_yes (La n : Nat) (es : List E3) (v : Value) (w : World) (hrd : EdgesRd w v es) (hvg : VG (La : Int) (n : Int) es) (hd : detE es = true) :
    Calls Tryz.prog 36 #[grV (La : Int) (n : Int) v] w fun e w' => ∃ g c, e = .returned (.tuple #[.slice (some ⟨g, 0, none⟩) n c, .int .i64 0]) ∧ w.heap.size ≤ g ∧ IntsRd w' (.slice (some ⟨g, 0, none⟩) n c) (labsI (classN (mT n es) La n)) ∧ Below w.heap.size w w' := by
  have hn64 : n ≤ 64 := by have := hvg.s2; omega
  have hL256 : La ≤ 256 := by have := hvg.l2; omega
  have hL1 : 1 ≤ La := by have := hvg.l1; omega
  have hl := hvg.len
  have HCD : Hid (∀ W, EdgesRd W v es → Calls Tryz.prog 38 #[grV (La : Int) (n : Int) v] W fun e W' => e = .returned (.int .i64 0) ∧ Below W.heap.size W W') := Lib.hid (fun W h => by
    refine (checkDet_any La n es v W h (by omega)).mono ?_
    rw [cdR_ok hvg hd]
    exact fun e W' h => h)
  have HMO := Lib.hid (fun W h => machineOf_any (La : Int) La n es v W h hvg.ok hn64 hL256 (by omega))
  have HCO := Lib.hid (fun M W h => classesOf_any (mT n es) n La (some ⟨M, 0, none⟩) (n + 1) W h (fun s l _ => Nat.lt_succ_of_le (mT_le hvg.ok s l)) hn64 hL1 hL256)
  have HRD := Lib.hid hrd
  have B0 := Lib.hid (below1 w (.cells #[.int .i64 (La : Int), .int .i64 (n : Int), v] 24))
  have G0 := Lib.hid (BoxG.new w (La : Int) (n : Int) v 24)
  obtain ⟨x1, x2, x3⟩ := id G0.out
  obtain ⟨a, c, rfl⟩ := hrd.form
  clear hrd hvg hd
  go_enter Tryz.func36, Tryz.ntmps36
  go_wp2_with (first
    | (go_at_call 38; (with_reducible refine (HCD.out _ (HRD.out.keep B0.out)).mono ?_); rintro e W1 ⟨rfl, b1⟩; (have B1 := Lib.hid (below_more B0.out (Nat.le_refl _) b1)); (have G1 := Lib.hid (G0.out.keep b1)); clear b1 x1 x2 x3; (obtain ⟨x1, x2, x3⟩ := id G1.out))
    | (go_at_call 39; (with_reducible refine (HMO.out _ (HRD.out.keep B1.out)).mono ?_); rintro e W2 ⟨M, rfl, r2, b2⟩; (have B2 := Lib.hid (B1.out.trans (b2.mono B1.out.size))); (have R2 := Lib.hid r2); clear b2 r2 x1 x2 x3)
    | (go_at_call 65; (with_reducible refine (HCO.out _ _ R2.out).mono ?_); rintro e W3 ⟨g3, c3, rfl, hg3, i3, b3⟩; (have B3 := Lib.hid (B2.out.trans (b3.mono B2.out.size))); (have I3 := Lib.hid i3); clear b3 i3))
  exact bodyPost_ret (v := .tuple #[.slice (some ⟨g3, 0, none⟩) n c3, .int .i64 0]) (by simp [results, Tryz.results36, go_sem]) rfl ⟨g3, c3, rfl, by have := B2.out.size; omega, I3.out, B3.out⟩
end Go.Proofs.YtiockphjnkehnaaGreatDoor

namespace Go.Proofs.YtiockphjnkehnaaGreatDoor
open Go.RowKit
set_option linter.unusedSimpArgs false
set_option linter.unusedVariables false

theorem detE_pwJ : ∀ {es : List E3}, es.Pairwise (fun a b => ltE a b = true) → (detE es = true ↔ es.Pairwise (fun a b => ¬ (a.1 = b.1 ∧ a.2.1 = b.2.1)))
  | [], _ => by simp [detE]
  | [a], _ => by simp [detE]
  | a :: b :: r, h => by
    obtain ⟨h1, h2⟩ := List.pairwise_cons.1 h
    obtain ⟨h3, h4⟩ := List.pairwise_cons.1 h2
    have ih := detE_pwJ h2
    rw [detE, Bool.and_eq_true, ih, List.pairwise_cons (a := a) (l := b :: r)]
    refine and_congr_left (fun hp => ?_)
    simp only [Bool.not_eq_true', Bool.and_eq_false_imp, beq_iff_eq, beq_eq_false_iff_ne]
    constructor
    · intro hab x hx hxx
      rcases List.mem_cons.1 hx with rfl | hx
      · exact hab hxx.1 hxx.2
      · have k1 := (ltE_iff _ _).1 (h1 b List.mem_cons_self)
        have k2 := (ltE_iff _ _).1 (h3 x hx)
        have e1 : a.1 = b.1 := by omega
        exact hab e1 (by omega)
    · intro hab h1 h2
      exact hab b List.mem_cons_self ⟨h1, h2⟩
theorem det_uqJ {es : List E3} {La S : Int} (hvg : VG La S es) (hd : detE es = true) {e f : E3} (he : e ∈ es) (hf : f ∈ es) (h1 : e.1 = f.1) (h2 : e.2.1 = f.2.1) : e = f := by
  have hp := (detE_pwJ hvg.asc).1 hd
  rw [List.pairwise_iff_getElem] at hp
  obtain ⟨i, hi, rfl⟩ := List.mem_iff_getElem.1 he
  obtain ⟨j, hj, rfl⟩ := List.mem_iff_getElem.1 hf
  rcases Nat.lt_trichotomy i j with h | h | h
  · exact absurd ⟨h1, h2⟩ (hp i j hi hj h)
  · subst h; rfl
  · exact absurd ⟨h1.symm, h2.symm⟩ (hp j i hj hi h)
theorem mT_hitJ {n j l : Nat} {es : List E3} {La : Int} (hvg : VG La (n : Int) es) (hd : detE es = true) {e : E3} (he : e ∈ es) (h1 : e.1 = (j : Int)) (h2 : e.2.1 = (l : Int)) : mT n es j l = e.2.2.toNat := by
  have key : ∀ fs : List E3, (∀ f ∈ fs, f ∈ es) → mT n fs j l = n ∧ (∀ f ∈ fs, ¬ (f.1 = (j : Int) ∧ f.2.1 = (l : Int))) ∨ mT n fs j l = e.2.2.toNat := fun fs => by
    refine snocI (P := fun fs => (∀ f ∈ fs, f ∈ es) → mT n fs j l = n ∧ (∀ f ∈ fs, ¬ (f.1 = (j : Int) ∧ f.2.1 = (l : Int))) ∨ mT n fs j l = e.2.2.toNat) (fun _ => .inl ⟨rfl, fun f hf => by cases hf⟩) (fun fs f ih h => ?_) fs
    rw [mT_snoc]
    by_cases hf : f.1 = (j : Int) ∧ f.2.1 = (l : Int)
    · rw [if_pos hf]
      right
      rw [det_uqJ hvg hd (h f (by simp)) he (hf.1.trans h1.symm) (hf.2.trans h2.symm)]
    · rw [if_neg hf]
      rcases ih (fun f hf => h f (List.mem_append_left _ hf)) with ⟨k1, k2⟩ | k1
      · refine .inl ⟨k1, fun g hg => ?_⟩
        rw [List.mem_append, List.mem_singleton] at hg
        rcases hg with hg | rfl
        · exact k2 g hg
        · exact hf
      · exact .inr k1
  rcases key es (fun f h => h) with ⟨-, k⟩ | k
  · exact absurd ⟨h1, h2⟩ (k e he)
  · exact k
theorem mT_missJ {n j l : Nat} {es : List E3} (h : ∀ e ∈ es, ¬ (e.1 = (j : Int) ∧ e.2.1 = (l : Int))) : mT n es j l = n :=
  mT_ind (P := fun x => x = n) rfl (fun e he h1 h2 => absurd ⟨h1, h2⟩ (h e he))
def tgV (n x : Nat) : Int := if x = n then -1 else (x : Int)
theorem tgV_none (n : Nat) : tgV n n = -1 := if_pos rfl
theorem tgV_some {n x : Nat} (h : x ≠ n) : tgV n x = (x : Int) := if_neg h
theorem tgV_inj {n x y : Nat} (hx : x ≤ n) (hy : y ≤ n) (h : tgV n x = tgV n y) : x = y := by
  unfold tgV at h
  by_cases h1 : x = n <;> by_cases h2 : y = n
  · omega
  · rw [if_pos h1, if_neg h2] at h; omega
  · rw [if_neg h1, if_pos h2] at h; omega
  · rw [if_neg h1, if_neg h2] at h; omega
theorem tgV_neg {n x : Nat} : tgV n x < 0 ↔ x = n := by
  unfold tgV
  by_cases h : x = n
  · rw [if_pos h]; exact ⟨fun _ => h, fun _ => by omega⟩
  · rw [if_neg h]; exact ⟨fun h2 => by omega, fun h2 => absurd h2 h⟩
set_option maxRecDepth 100000 in
set_option maxHeartbeats 3200000 in
theorem rtarget_any (La n j l : Nat) (es : List E3) (v : Value) (w : World) (hrd : EdgesRd w v es) (hvg : VG (La : Int) (n : Int) es) (hd : detE es = true) :
    Calls Tryz.prog 61 #[grV (La : Int) (n : Int) v, .int .i64 (j : Int), .int .i64 (l : Int)] w fun e w' => e = .returned (.int .i64 (tgV n (mT n es j l))) ∧ Below w.heap.size w w' := by
  have hlen := hvg.len
  have HRD := Lib.hid hrd
  have HVG := Lib.hid hvg
  have HD := Lib.hid hd
  have B0 := Lib.hid (below1 w (.cells #[.int .i64 (La : Int), .int .i64 (n : Int), v] 24))
  have G0 := Lib.hid (BoxG.new w (La : Int) (n : Int) v 24)
  obtain ⟨x1, x2, x3⟩ := id G0.out
  obtain ⟨a, c, rfl⟩ := hrd.form
  clear hrd hvg hd
  obtain ⟨W1, hW⟩ : ∃ W1, w.alloc (.cells #[.int .i64 (La : Int), .int .i64 (n : Int), .slice a es.length c] 24) = W1 := ⟨_, rfl⟩
  have HW := Lib.hid hW
  rw [hW] at B0 x1 x2 x3
  have HR1 := Lib.hid (HRD.out.keep B0.out)
  clear hW G0
  go_enter Tryz.func61, Tryz.ntmps61
  go_wp2_with fail
  rw [HW.out]
  clear HW
  go_loopg [7] es.length (fun q s7 wx => ∃ i : Nat, i + q = es.length ∧ s7 = .int .i64 (i : Int) ∧ Hid (∀ e ∈ es.take i, ¬ (e.1 = (j : Int) ∧ e.2.1 = (l : Int))) ∧ wx = W1)
  case atStart => exact ⟨0, by omega, rfl, Lib.hid (fun e he => by simp at he), rfl⟩
  case round =>
    obtain ⟨i, hi, rfl, HI, rfl⟩ := hrel
    rcases gk with _ | q
    · obtain rfl : i = es.length := by omega
      have HE := Lib.hid (show tgV n (mT n es j l) = -1 by
        have h := HI.out
        rw [List.take_length] at h
        rw [mT_missJ h, tgV_none])
      have j1 : ¬ ((es.length : Int) < (es.length : Int)) := by omega
      clear HI
      go_wp2_with fail
      go_ret
      exact ⟨by rw [HE.out]; rfl, B0.out⟩
    · obtain ⟨e, he⟩ : ∃ e, es[i]? = some e := ⟨_, List.getElem?_eq_getElem (by omega)⟩
      obtain ⟨b, off, c', hv, k1, k2, k3⟩ := HR1.out.at he
      injection hv with e1 e2 e3
      subst e1
      subst e3
      have j1 : (i : Int) < (es.length : Int) := by omega
      have HN := Lib.hid (show ¬ (e.1 = (j : Int) ∧ e.2.1 = (l : Int)) → ∀ f ∈ es.take (i + 1), ¬ (f.1 = (j : Int) ∧ f.2.1 = (l : Int)) from fun h f hf => by
        rw [List.take_add_one, he, List.mem_append] at hf
        rcases hf with hf | hf
        · exact HI.out f hf
        · simp at hf; subst hf; exact h)
      have HY := Lib.hid (show e.1 = (j : Int) → e.2.1 = (l : Int) → tgV n (mT n es j l) = e.2.2 from fun h1 h2 => by
        have hm := List.mem_of_getElem? he
        have hok := okE_iff.1 (HVG.out.ok e hm)
        rw [mT_hitJ HVG.out HD.out hm h1 h2, tgV_some (by omega)]
        omega)
      obtain ⟨x, y, z⟩ := e
      dsimp only at k1 k2 k3 HN HY
      clear HI he e2
      by_cases hx : x = (j : Int)
      · subst hx
        by_cases hy : y = (l : Int)
        · subst hy
          have HE := Lib.hid (HY.out rfl rfl)
          clear HY HN
          go_wp2_with fail
          go_ret
          exact ⟨by rw [HE.out]; rfl, B0.out⟩
        · have HI2 := Lib.hid (HN.out (fun h => hy h.2))
          have d2 : (y == (l : Int)) = false := by simpa using hy
          clear HY HN hy
          go_wp2_with fail
          go_roundg q
          case measure => omega
          case rel => exact ⟨i + 1, by omega, by go_num, HI2, rfl⟩
      · have HI2 := Lib.hid (HN.out (fun h => hx h.1))
        have d1 : (x == (j : Int)) = false := by simpa using hx
        clear HY HN hx
        go_wp2_with fail
        go_roundg q
        case measure => omega
        case rel => exact ⟨i + 1, by omega, by go_num, HI2, rfl⟩
set_option maxRecDepth 100000 in
set_option maxHeartbeats 3200000 in
theorem rcheck13_any (La S : Int) (es : List E3) (v : Value) (w : World) (hrd : EdgesRd w v es) (hn : es.length ≤ 9223372036854775807) :
    Calls Tryz.prog 57 #[grV La S v] w fun e w' => e = .returned (.int .i64 (cdR La S es)) ∧ Below w.heap.size w w' := by
  have HC := Lib.hid (fun W h => rcheck_any La S es v W h hn)
  have HD := Lib.hid (fun W h => rdeterministic_any La S es v W h hn)
  have HRD := Lib.hid hrd
  have B0 := Lib.hid (below1 w (.cells #[.int .i64 La, .int .i64 S, v] 24))
  have G0 := Lib.hid (BoxG.new w La S v 24)
  obtain ⟨x1, x2, x3⟩ := id G0.out
  obtain ⟨z, hz⟩ : ∃ z, cdR La S es = z := ⟨_, rfl⟩
  have HZ := Lib.hid hz
  rw [hz]
  obtain ⟨y, hy⟩ : ∃ y, chkG La S es = y := ⟨_, rfl⟩
  rw [hy] at HC
  obtain ⟨a, c, rfl⟩ := hrd.form
  clear hrd hz
  by_cases h1 : y = 0
  · subst h1
    by_cases h2 : detE es = true
    · have e1 : detR La S es = (true, 0) := by unfold detR; rw [if_pos hy, h2]
      have HE := Lib.hid (show z = 0 by rw [← HZ.out]; unfold cdR; rw [if_pos hy, if_pos h2])
      rw [e1] at HD
      clear HZ h2 e1 hy
      go_enter Tryz.func57, Tryz.ntmps57
      go_wp2_with (first
        | (go_at_call 23; (with_reducible refine (HC.out _ (HRD.out.keep B0.out)).mono ?_); rintro e W1 ⟨rfl, b1⟩; (have B1 := Lib.hid (below_more B0.out (Nat.le_refl _) b1)); (have G1 := Lib.hid (G0.out.keep b1)); clear b1 x1 x2 x3; (obtain ⟨x1, x2, x3⟩ := id G1.out))
        | (go_at_call 86; (with_reducible refine (HD.out _ (HRD.out.keep B1.out)).mono ?_); rintro e W2 ⟨rfl, b2⟩; (have B2 := Lib.hid (B1.out.trans (b2.mono B1.out.size))); clear b2 x1 x2 x3))
      go_ret
      exact ⟨by rw [HE.out]; rfl, B2.out⟩
    · have e1 : detR La S es = (false, 0) := by unfold detR; rw [if_pos hy, Bool.eq_false_iff.2 h2]
      have HE := Lib.hid (show z = 8 by rw [← HZ.out]; unfold cdR; rw [if_pos hy, if_neg h2])
      rw [e1] at HD
      clear HZ h2 e1 hy
      go_enter Tryz.func57, Tryz.ntmps57
      go_wp2_with (first
        | (go_at_call 23; (with_reducible refine (HC.out _ (HRD.out.keep B0.out)).mono ?_); rintro e W1 ⟨rfl, b1⟩; (have B1 := Lib.hid (below_more B0.out (Nat.le_refl _) b1)); (have G1 := Lib.hid (G0.out.keep b1)); clear b1 x1 x2 x3; (obtain ⟨x1, x2, x3⟩ := id G1.out))
        | (go_at_call 86; (with_reducible refine (HD.out _ (HRD.out.keep B1.out)).mono ?_); rintro e W2 ⟨rfl, b2⟩; (have B2 := Lib.hid (B1.out.trans (b2.mono B1.out.size))); clear b2 x1 x2 x3))
      go_ret
      exact ⟨by rw [HE.out]; rfl, B2.out⟩
  · have d1 : (y != 0) = true := by simpa using h1
    have HE := Lib.hid (show z = 1 by rw [← HZ.out]; unfold cdR; rw [hy, if_neg h1])
    clear HZ h1 hy
    go_enter Tryz.func57, Tryz.ntmps57
    go_wp2_with (go_at_call 23; (with_reducible refine (HC.out _ (HRD.out.keep B0.out)).mono ?_); rintro e W1 ⟨rfl, b1⟩; (have B1 := Lib.hid (below_more B0.out (Nat.le_refl _) b1)); clear b1 x1 x2 x3)
    go_ret
    exact ⟨by rw [HE.out]; rfl, B1.out⟩
end Go.Proofs.YtiockphjnkehnaaGreatDoor
