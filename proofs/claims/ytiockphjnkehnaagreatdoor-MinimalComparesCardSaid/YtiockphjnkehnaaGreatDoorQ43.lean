/- What minimal.Separate returns for a valid, deterministic graph and two of its states. Condition: the edges can be read. groovelaw13.awake returns true. No condition. grooveref13.Great, groovelaw13.deterministic and leads; the first word's length. No condition. -/
import Derived.Test.YtiockphjnkehnaaGreatDoorQ22
import Derived.Test.YtiockphjnkehnaaGreatDoorQ41
import Derived.Test.YtiockphjnkehnaaGreatDoorQ27
import Derived.Test.YtiockphjnkehnaaGreatDoorQ28
import Derived.Test.YtiockphjnkehnaaGreatDoorQ09
import Derived.Test.YtiockphjnkehnaaGreatDoorQ20
import Derived.Test.YtiockphjnkehnaaGreatDoorQ15
import Derived.Test.YtiockphjnkehnaaGreatDoorQ16
import Derived.Test.YtiockphjnkehnaaGreatDoorQ08

namespace Go.Proofs.YtiockphjnkehnaaGreatDoor
open Go.RowKit Go.Maps Go.Lib
set_option linter.unusedSimpArgs false
set_option linter.unusedVariables false

set_option maxRecDepth 100000 in
set_option maxHeartbeats 3200000 in
theorem sep_yes (La n s t : Nat) (es : List E3) (v : Value) (w : World) (hrd : EdgesRd w v es) (hvg : VG (La : Int) (n : Int) es) (hd : detE es = true) (hs : s < n) (ht : t < n) :
    Calls Tryz.prog 17 #[grV (La : Int) (n : Int) v, .int .i64 (s : Int), .int .i64 (t : Int)] w fun e w' => ∃ g c u is, e = .returned (.tuple #[.slice g u.length c, .bool is, .int .i64 0]) ∧ IntsRd w' (.slice g u.length c) u ∧ FW (fun x y : Bool => x != y) (mT n es) (mT n es) n n La s t u is ∧ Below w.heap.size w w' := by
  have hn64 : n ≤ 64 := by have := hvg.s2; omega
  have hL256 : La ≤ 256 := by have := hvg.l2; omega
  have hl := hvg.len
  have HCD : Hid (∀ W, EdgesRd W v es → Calls Tryz.prog 38 #[grV (La : Int) (n : Int) v] W fun e W' => e = .returned (.int .i64 0) ∧ Below W.heap.size W W') := Lib.hid (fun W h => by
    refine (checkDet_any La n es v W h (by omega)).mono ?_
    rw [cdR_ok hvg hd]
    exact fun e W' h => h)
  have HMO := Lib.hid (fun W h => machineOf_any (La : Int) La n es v W h hvg.ok hn64 hL256 (by omega))
  have HFW := Lib.hid (fun M W h => firstWord_xo (mT n es) (mT n es) n n La s t (some ⟨M, 0, none⟩) (some ⟨M, 0, none⟩) (n + 1) (n + 1) W h h (fun x l _ => mT_le hvg.ok x l) (fun x l _ => mT_le hvg.ok x l) (fun l => mT_none hvg.ok l) (fun l => mT_none hvg.ok l) hn64 hn64 hL256 (by omega) (by omega))
  have HRD := Lib.hid hrd
  have B0 := Lib.hid (below1 w (.cells #[.int .i64 (La : Int), .int .i64 (n : Int), v] 24))
  have G0 := Lib.hid (BoxG.new w (La : Int) (n : Int) v 24)
  obtain ⟨x1, x2, x3⟩ := id G0.out
  have d1 : decide ((s : Int) < 0) = false := decide_eq_false (by omega)
  have d2 : decide ((n : Int) ≤ (s : Int)) = false := decide_eq_false (by omega)
  have d3 : decide ((t : Int) < 0) = false := decide_eq_false (by omega)
  have d4 : decide ((n : Int) ≤ (t : Int)) = false := decide_eq_false (by omega)
  have d5 : (s : Int) < (n : Int) := by omega
  have d6 : (t : Int) < (n : Int) := by omega
  obtain ⟨a, c, rfl⟩ := hrd.form
  clear hrd hvg hd
  go_enter Tryz.func17, Tryz.ntmps17
  go_wp2_with (first
    | (go_at_call 38; (with_reducible refine (HCD.out _ (HRD.out.keep B0.out)).mono ?_); rintro e W1 ⟨rfl, b1⟩; (have B1 := Lib.hid (below_more B0.out (Nat.le_refl _) b1)); (have G1 := Lib.hid (G0.out.keep b1)); clear b1 x1 x2 x3; (obtain ⟨x1, x2, x3⟩ := id G1.out))
    | (go_at_call 39; (with_reducible refine (HMO.out _ (HRD.out.keep B1.out)).mono ?_); rintro e W2 ⟨M, rfl, r2, b2⟩; (have B2 := Lib.hid (B1.out.trans (b2.mono B1.out.size))); (have R2 := Lib.hid r2); clear b2 r2 x1 x2 x3)
    | (go_at_call 40; (with_reducible refine (HFW.out _ _ R2.out).mono ?_); rintro e W3 ⟨g3, c3, u3, is3, rfl, i3, fw3, b3⟩; (have B3 := Lib.hid (B2.out.trans (b3.mono B2.out.size))); (have I3 := Lib.hid i3); (have FW3 := Lib.hid fw3); clear b3 i3 fw3))
  exact bodyPost_ret (v := .tuple #[.slice g3 u3.length c3, .bool is3, .int .i64 0]) (by simp [results, Tryz.results17, go_sem]) rfl ⟨g3, c3, u3, is3, rfl, I3.out, FW3.out, B3.out⟩
end Go.Proofs.YtiockphjnkehnaaGreatDoor

namespace Go.Proofs.YtiockphjnkehnaaGreatDoor
open Go.RowKit
set_option linter.unusedSimpArgs false
set_option linter.unusedVariables false

def exG : List E3 := [(0, 0, 0), (0, 1, 1), (1, 0, 2), (2, 0, 2), (2, 1, 1)]
def exM : List E3 := [(0, 0, 0), (0, 1, 1), (1, 0, 0)]
theorem exG_vg : VG ((2 : Nat) : Int) ((3 : Nat) : Int) exG := chkG_zero (by decide)
theorem exG_det : detE exG = true := by decide
theorem exG_cls : classN (mT 3 exG) 2 3 = [0, 1, 0] := by decide +kernel
theorem exG_mg : mkE (mgE exG [0, 1, 0]) = exM := by
  refine asc_eq (mkE_pw _) (by decide) (fun x => ?_)
  rw [mkE_mem]
  have h : mgE exG [0, 1, 0] = [(0, 0, 0), (0, 1, 1), (1, 0, 0), (0, 0, 0), (0, 1, 1)] := by decide
  rw [h]
  unfold exM
  simp only [List.mem_cons, List.not_mem_nil, or_false]
  constructor
  · rintro (h | h | h | h | h) <;> simp [h]
  · rintro (h | h | h) <;> simp [h]
theorem exG_fw {u : List Int} {is : Bool} (h : FW (fun x y : Bool => x != y) (mT 3 exG) (mT 3 exG) 3 3 2 0 1 u is) : u = [1] ∧ is = true := by
  have h1 : Dif (fun x y : Bool => x != y) (mT 3 exG) (mT 3 exG) 3 3 0 1 [1] = true := by decide
  have hl : ∀ l ∈ [1], l < 2 := by decide
  rcases h with ⟨hi, w, rfl, hw, hd, hle⟩ | ⟨-, -, hn⟩
  · refine ⟨?_, hi⟩
    have h2 := hle [1] hl h1
    have hlen : w.length ≤ 1 := by
      unfold sle at h2
      unfold labsI at h2
      rw [List.length_map, List.length_map, show ([1] : List Nat).length = 1 from rfl] at h2
      omega
    match w, hw, hd, hlen with
    | [], _, hd, _ => exact absurd hd (by decide)
    | [l], hw, hd, _ =>
      have hl2 := hw l (by simp)
      obtain rfl | rfl : l = 0 ∨ l = 1 := by omega
      · exact absurd hd (by decide)
      · rfl
    | _ :: _ :: _, _, _, hlen => simp at hlen
  · rw [hn [1] hl] at h1
    cases h1
theorem lit010 (W : World) : IntsRd (W.alloc (.cells #[.int .i64 0, .int .i64 1, .int .i64 0] 3)) (.slice (some ⟨W.heap.size, 0, none⟩) 3 3) [0, 1, 0] := (intsLit W [0, 1, 0] (by decide) (by decide)).rd
theorem lit1H (W : World) (z : Int) : IntsRd (W.alloc (.cells #[.int .i64 z] 3)) (.slice (some ⟨W.heap.size, 0, none⟩) 1 1) [z] := (intsLit W [z] (by simp) (by simp)).rd
set_option maxRecDepth 100000 in
set_option maxHeartbeats 6400000 in
theorem awake13_any (w : World) : Calls Tryz.prog 5 #[] w fun e w' => e = .returned (.bool true) ∧ Below w.heap.size w w' := by
  have HME : Hid (∀ W v, EdgesRd W v exG → Calls Tryz.prog 16 #[grV 2 3 v] W fun e W' => ∃ a7 c7 g c, e = .returned (.tuple #[grV 2 2 (.slice a7 3 c7), .slice (some ⟨g, 0, none⟩) 3 c, .int .i64 0]) ∧ EdgesRd W' (.slice a7 3 c7) exM ∧ IntsRd W' (.slice (some ⟨g, 0, none⟩) 3 c) [0, 1, 0] ∧ Below W.heap.size W W') := Lib.hid (fun W v h => by
    refine (merge_yes 2 3 exG v W _ exG_cls h exG_vg exG_det).mono ?_
    rintro e W' ⟨v', g, c, he, h1, h2, h3⟩
    rw [exG_mg] at h1
    obtain ⟨a7, c7, rfl⟩ := h1.slice
    exact ⟨a7, c7, g, c, he, h1.rd, h2, h3⟩)
  have HSE : Hid (∀ W v, EdgesRd W v exG → Calls Tryz.prog 17 #[grV 2 3 v, .int .i64 0, .int .i64 1] W fun e W' => ∃ g c, e = .returned (.tuple #[.slice g 1 c, .bool true, .int .i64 0]) ∧ IntsRd W' (.slice g 1 c) [1] ∧ Below W.heap.size W W') := Lib.hid (fun W v h => by
    refine (sep_yes 2 3 0 1 exG v W h exG_vg exG_det (by decide) (by decide)).mono ?_
    rintro e W' ⟨g, c, u, is, he, h1, h2, h3⟩
    obtain ⟨rfl, rfl⟩ := exG_fw h2
    exact ⟨g, c, he, h1, h3⟩)
  have HSA : Hid (∀ W v1 v2, EdgesRd W v1 exM → EdgesRd W v2 exM → Calls Tryz.prog 12 #[grV 2 2 v1, grV 2 2 v2] W fun e W' => e = .returned (.bool true) ∧ Below W.heap.size W W') := Lib.hid (fun W v1 v2 h1 h2 => by
    have h := rsame_any 2 2 2 2 exM exM v1 v2 W h1 h2 (by decide) (by decide)
    have h3 : sameG 2 2 exM 2 2 exM = true := by unfold sameG; simp
    rw [h3] at h
    exact h)
  have HE1 : Hid (∀ W u u', IntsRd W u [0, 1, 0] → IntsRd W u' [0, 1, 0] → Calls Tryz.prog 13 #[u, u'] W fun e W' => e = .returned (.bool true) ∧ Below W.heap.size W W') := Lib.hid (fun W u u' h1 h2 => by
    have h := intsEq_any h1 h2 (by simp) (by simp)
    rw [decide_eq_true rfl] at h
    exact h)
  have HE2 : Hid (∀ W u u', IntsRd W u [1] → IntsRd W u' [1] → Calls Tryz.prog 13 #[u, u'] W fun e W' => e = .returned (.bool true) ∧ Below W.heap.size W W') := Lib.hid (fun W u u' h1 h2 => by
    have h := intsEq_any h1 h2 (by simp) (by simp)
    rw [decide_eq_true rfl] at h
    exact h)
  have z1 : (w.alloc (.cells #[.int .i64 0, .int .i64 0, .int .i64 0, .int .i64 0, .int .i64 1, .int .i64 1, .int .i64 1, .int .i64 0, .int .i64 2, .int .i64 2, .int .i64 0, .int .i64 2, .int .i64 2, .int .i64 1, .int .i64 1] 39)).heap.size = w.heap.size + 1 := World.size_alloc ..
  have z2 : ((w.alloc (.cells #[.int .i64 0, .int .i64 0, .int .i64 0, .int .i64 0, .int .i64 1, .int .i64 1, .int .i64 1, .int .i64 0, .int .i64 2, .int .i64 2, .int .i64 0, .int .i64 2, .int .i64 2, .int .i64 1, .int .i64 1] 39)).alloc (.cells #[.int .i64 2, .int .i64 3, .slice (some ⟨w.heap.size, 0, none⟩) 5 5] 24)).heap.size = w.heap.size + 1 + 1 := by rw [World.size_alloc, z1]
  have z3 : (((w.alloc (.cells #[.int .i64 0, .int .i64 0, .int .i64 0, .int .i64 0, .int .i64 1, .int .i64 1, .int .i64 1, .int .i64 0, .int .i64 2, .int .i64 2, .int .i64 0, .int .i64 2, .int .i64 2, .int .i64 1, .int .i64 1] 39)).alloc (.cells #[.int .i64 2, .int .i64 3, .slice (some ⟨w.heap.size, 0, none⟩) 5 5] 24)).alloc (.cells #[.int .i64 0, .int .i64 0, .int .i64 0, .int .i64 0, .int .i64 1, .int .i64 1, .int .i64 1, .int .i64 0, .int .i64 0] 39)).heap.size = w.heap.size + 1 + 1 + 1 := by rw [World.size_alloc, z2]
  have e1 : EdgesRd (w.alloc (.cells #[.int .i64 0, .int .i64 0, .int .i64 0, .int .i64 0, .int .i64 1, .int .i64 1, .int .i64 1, .int .i64 0, .int .i64 2, .int .i64 2, .int .i64 0, .int .i64 2, .int .i64 2, .int .i64 1, .int .i64 1] 39)) (.slice (some ⟨w.heap.size, 0, none⟩) 5 5) exG := (edgesLit w exG (by decide) (by decide)).rd
  have g1 := BoxG.new (w.alloc (.cells #[.int .i64 0, .int .i64 0, .int .i64 0, .int .i64 0, .int .i64 1, .int .i64 1, .int .i64 1, .int .i64 0, .int .i64 2, .int .i64 2, .int .i64 0, .int .i64 2, .int .i64 2, .int .i64 1, .int .i64 1] 39)) 2 3 (.slice (some ⟨w.heap.size, 0, none⟩) 5 5) 24
  have e2 : EdgesRd (((w.alloc (.cells #[.int .i64 0, .int .i64 0, .int .i64 0, .int .i64 0, .int .i64 1, .int .i64 1, .int .i64 1, .int .i64 0, .int .i64 2, .int .i64 2, .int .i64 0, .int .i64 2, .int .i64 2, .int .i64 1, .int .i64 1] 39)).alloc (.cells #[.int .i64 2, .int .i64 3, .slice (some ⟨w.heap.size, 0, none⟩) 5 5] 24)).alloc (.cells #[.int .i64 0, .int .i64 0, .int .i64 0, .int .i64 0, .int .i64 1, .int .i64 1, .int .i64 1, .int .i64 0, .int .i64 0] 39)) (.slice (some ⟨((w.alloc (.cells #[.int .i64 0, .int .i64 0, .int .i64 0, .int .i64 0, .int .i64 1, .int .i64 1, .int .i64 1, .int .i64 0, .int .i64 2, .int .i64 2, .int .i64 0, .int .i64 2, .int .i64 2, .int .i64 1, .int .i64 1] 39)).alloc (.cells #[.int .i64 2, .int .i64 3, .slice (some ⟨w.heap.size, 0, none⟩) 5 5] 24)).heap.size, 0, none⟩) 3 3) exM := (edgesLit ((w.alloc (.cells #[.int .i64 0, .int .i64 0, .int .i64 0, .int .i64 0, .int .i64 1, .int .i64 1, .int .i64 1, .int .i64 0, .int .i64 2, .int .i64 2, .int .i64 0, .int .i64 2, .int .i64 2, .int .i64 1, .int .i64 1] 39)).alloc (.cells #[.int .i64 2, .int .i64 3, .slice (some ⟨w.heap.size, 0, none⟩) 5 5] 24)) exM (by decide) (by decide)).rd
  have g2 := BoxG.new (((w.alloc (.cells #[.int .i64 0, .int .i64 0, .int .i64 0, .int .i64 0, .int .i64 1, .int .i64 1, .int .i64 1, .int .i64 0, .int .i64 2, .int .i64 2, .int .i64 0, .int .i64 2, .int .i64 2, .int .i64 1, .int .i64 1] 39)).alloc (.cells #[.int .i64 2, .int .i64 3, .slice (some ⟨w.heap.size, 0, none⟩) 5 5] 24)).alloc (.cells #[.int .i64 0, .int .i64 0, .int .i64 0, .int .i64 0, .int .i64 1, .int .i64 1, .int .i64 1, .int .i64 0, .int .i64 0] 39)) 2 2 (.slice (some ⟨w.heap.size + 1 + 1, 0, none⟩) 3 3) 24
  rw [z1] at g1
  rw [z2] at e2
  rw [z3] at g2
  have b1 := below1 w (.cells #[.int .i64 0, .int .i64 0, .int .i64 0, .int .i64 0, .int .i64 1, .int .i64 1, .int .i64 1, .int .i64 0, .int .i64 2, .int .i64 2, .int .i64 0, .int .i64 2, .int .i64 2, .int .i64 1, .int .i64 1] 39)
  have b2 := below1 (w.alloc (.cells #[.int .i64 0, .int .i64 0, .int .i64 0, .int .i64 0, .int .i64 1, .int .i64 1, .int .i64 1, .int .i64 0, .int .i64 2, .int .i64 2, .int .i64 0, .int .i64 2, .int .i64 2, .int .i64 1, .int .i64 1] 39)) (.cells #[.int .i64 2, .int .i64 3, .slice (some ⟨w.heap.size, 0, none⟩) 5 5] 24)
  have b3 := below1 ((w.alloc (.cells #[.int .i64 0, .int .i64 0, .int .i64 0, .int .i64 0, .int .i64 1, .int .i64 1, .int .i64 1, .int .i64 0, .int .i64 2, .int .i64 2, .int .i64 0, .int .i64 2, .int .i64 2, .int .i64 1, .int .i64 1] 39)).alloc (.cells #[.int .i64 2, .int .i64 3, .slice (some ⟨w.heap.size, 0, none⟩) 5 5] 24)) (.cells #[.int .i64 0, .int .i64 0, .int .i64 0, .int .i64 0, .int .i64 1, .int .i64 1, .int .i64 1, .int .i64 0, .int .i64 0] 39)
  have b4 := below1 (((w.alloc (.cells #[.int .i64 0, .int .i64 0, .int .i64 0, .int .i64 0, .int .i64 1, .int .i64 1, .int .i64 1, .int .i64 0, .int .i64 2, .int .i64 2, .int .i64 0, .int .i64 2, .int .i64 2, .int .i64 1, .int .i64 1] 39)).alloc (.cells #[.int .i64 2, .int .i64 3, .slice (some ⟨w.heap.size, 0, none⟩) 5 5] 24)).alloc (.cells #[.int .i64 0, .int .i64 0, .int .i64 0, .int .i64 0, .int .i64 1, .int .i64 1, .int .i64 1, .int .i64 0, .int .i64 0] 39)) (.cells #[.int .i64 2, .int .i64 2, .slice (some ⟨w.heap.size + 1 + 1, 0, none⟩) 3 3] 24)
  have E1 := Lib.hid (((e1.keep b2).keep b3).keep b4)
  have G1 := Lib.hid ((g1.keep b3).keep b4)
  have E2 := Lib.hid (e2.keep b4)
  have G2 := Lib.hid g2
  have B0 := Lib.hid (below_more (below_more (below_more b1 (Nat.le_refl _) b2) (Nat.le_refl _) b3) (Nat.le_refl _) b4)
  clear z1 z2 z3 e1 g1 e2 g2 b1 b2 b3 b4
  go_enter Tryz.func5, Tryz.ntmps5
  go_upto_region 3 with fail
  generalize ((((w.alloc (.cells #[.int .i64 0, .int .i64 0, .int .i64 0, .int .i64 0, .int .i64 1, .int .i64 1, .int .i64 1, .int .i64 0, .int .i64 2, .int .i64 2, .int .i64 0, .int .i64 2, .int .i64 2, .int .i64 1, .int .i64 1] 39)).alloc (.cells #[.int .i64 2, .int .i64 3, .slice (some ⟨w.heap.size, 0, none⟩) 5 5] 24)).alloc (.cells #[.int .i64 0, .int .i64 0, .int .i64 0, .int .i64 0, .int .i64 1, .int .i64 1, .int .i64 1, .int .i64 0, .int .i64 0] 39)).alloc (.cells #[.int .i64 2, .int .i64 2, .slice (some ⟨w.heap.size + 1 + 1, 0, none⟩) 3 3] 24)) = X at *
  obtain ⟨x1, x2, x3⟩ := id G1.out
  go_upto_region 4 with (go_at_call 16; (with_reducible refine (HME.out _ _ E1.out).mono ?_); rintro e W1 ⟨a7, c7, g, c, rfl, m1, i1, b1⟩)
  have k1 := below_more b1 (Nat.le_refl _) (below1 W1 (.cells #[.int .i64 2, .int .i64 2, .slice a7 3 c7] 24))
  have M1 := Lib.hid (m1.keep (below1 W1 (.cells #[.int .i64 2, .int .i64 2, .slice a7 3 c7] 24)))
  have I1 := Lib.hid (i1.keep (below1 W1 (.cells #[.int .i64 2, .int .i64 2, .slice a7 3 c7] 24)))
  have G3 := Lib.hid (BoxG.new W1 2 2 (.slice a7 3 c7) 24)
  have B1 := Lib.hid (B0.out.trans (k1.mono B0.out.size))
  have E1a := Lib.hid (E1.out.keep k1)
  have E2a := Lib.hid (E2.out.keep k1)
  have G1a := Lib.hid (G1.out.keep k1)
  have G2a := Lib.hid (G2.out.keep k1)
  obtain ⟨P3, hP3⟩ : ∃ P3, W1.heap.size = P3 := ⟨_, rfl⟩
  rw [hP3] at G3 ⊢
  clear m1 i1 b1 k1 x1 x2 x3 E1 E2 G1 G2 B0 hP3
  generalize (W1.alloc (.cells #[.int .i64 2, .int .i64 2, .slice a7 3 c7] 24)) = Y at *
  obtain ⟨x1, x2, x3⟩ := id G1a.out
  go_upto_region 5 with (go_at_call 17; (with_reducible refine (HSE.out _ _ E1a.out).mono ?_); rintro e W2 ⟨g9, c9, rfl, i2, b2⟩)
  have I2 := Lib.hid i2
  have B2 := Lib.hid (B1.out.trans (b2.mono B1.out.size))
  have M2 := Lib.hid (M1.out.keep b2)
  have J2 := Lib.hid (I1.out.keep b2)
  have E2b := Lib.hid (E2a.out.keep b2)
  obtain ⟨y1, y2, y3⟩ := G2a.out.keep b2
  obtain ⟨u1, u2, u3⟩ := G3.out.keep b2
  clear i2 b2 x1 x2 x3 E1a E2a G1a G2a G3 M1 I1 B1
  go_wp2_with (first
    | (go_at_call 12; (with_reducible refine (HSA.out _ _ _ M2.out E2b.out).mono ?_); rintro e W3 ⟨rfl, b3⟩; (have B3 := Lib.hid (B2.out.trans (b3.mono B2.out.size))); (have I3 := Lib.hid (I2.out.keep b3)); (have J3 := Lib.hid (J2.out.keep b3)); clear b3 y1 y2 y3 u1 u2 u3)
    | (go_at_call 13; (with_reducible refine (HE1.out _ _ _ (J3.out.keep (below1 W3 _)) (lit010 W3)).mono ?_); rintro e W4 ⟨rfl, b4⟩; (have k4 := below_more (below1 W3 (.cells #[.int .i64 0, .int .i64 1, .int .i64 0] 3)) (Nat.le_refl _) b4); (have B4 := Lib.hid (B3.out.trans (k4.mono B3.out.size))); (have I4 := Lib.hid (I3.out.keep k4)); clear b4 k4)
    | (go_at_call 13; (with_reducible refine (HE2.out _ _ _ (I4.out.keep (below1 W4 _)) (lit1H W4 1)).mono ?_); rintro e W5 ⟨rfl, b5⟩; (have k5 := below_more (below1 W4 (.cells #[.int .i64 1] 3)) (Nat.le_refl _) b5); (have B5 := Lib.hid (B4.out.trans (k5.mono B4.out.size))); clear b5 k5))
  go_ret
  exact ⟨rfl, B5.out⟩
end Go.Proofs.YtiockphjnkehnaaGreatDoor

namespace Go.Proofs.YtiockphjnkehnaaGreatDoor
open Go.RowKit
set_option linter.unusedSimpArgs false
set_option linter.unusedVariables false

theorem mrun_app (m : Nat → Nat → Nat) (s : Nat) (u v : List Nat) : mrun m s (u ++ v) = mrun m (mrun m s u) v := by unfold mrun; rw [List.foldl_append]
theorem FW.lenH {D : Bool → Bool → Bool} {a b : Nat → Nat → Nat} {na nb La s t : Nat} {u : List Int} {is : Bool} (h : FW D a b na nb La s t u is) (ha : ∀ x l, x ≤ na → a x l ≤ na) (hb : ∀ x l, x ≤ nb → b x l ≤ nb) (hs : s ≤ na) (ht : t ≤ nb) : u.length ≤ (na + 1) * (nb + 1) := by
  rcases h with ⟨-, w, rfl, hw, hd, hle⟩ | ⟨-, rfl, -⟩
  · rw [labsI_lenH]
    have hA := fun v => mrun_le ha v hs
    have hB := fun v => mrun_le hb v ht
    obtain ⟨f, hf⟩ : ∃ f : Nat → Nat, ∀ i, f i = mrun b t (w.take i) + mrun a s (w.take i) * (nb + 1) := ⟨_, fun _ => rfl⟩
    by_cases hex : ∃ i j, i < j ∧ j ≤ w.length ∧ f i = f j
    · obtain ⟨i, j, hij, hj, he⟩ := hex
      rw [hf, hf] at he
      have e1 : mrun a s (w.take i) = mrun a s (w.take j) := by
        have := congrArg (· / (nb + 1)) he
        rwa [Nat.add_mul_div_right _ _ (Nat.succ_pos nb), Nat.add_mul_div_right _ _ (Nat.succ_pos nb), Nat.div_eq_of_lt (Nat.lt_succ_of_le (hB _)), Nat.div_eq_of_lt (Nat.lt_succ_of_le (hB _)), Nat.zero_add, Nat.zero_add] at this
      have e2 : mrun b t (w.take i) = mrun b t (w.take j) := by rw [e1] at he; exact Nat.add_right_cancel he
      have k1 : mrun a s (w.take i ++ w.drop j) = mrun a s w := by rw [mrun_app, e1, ← mrun_app, List.take_append_drop]
      have k2 : mrun b t (w.take i ++ w.drop j) = mrun b t w := by rw [mrun_app, e2, ← mrun_app, List.take_append_drop]
      have h3 := hle (w.take i ++ w.drop j) (fun l hl => hw l (by
        rcases List.mem_append.1 hl with h | h
        · exact List.mem_of_mem_take h
        · exact List.mem_of_mem_drop h)) (by unfold Dif at hd ⊢; rw [k1, k2]; exact hd)
      have h4 : (labsI w).length ≤ (labsI (w.take i ++ w.drop j)).length := by
        rcases h3 with h | ⟨h, -⟩ <;> omega
      rw [labsI_lenH, labsI_lenH, List.length_append, List.length_take, List.length_drop] at h4
      omega
    · have hnd : ((List.range (w.length + 1)).map f).Nodup := by
        unfold List.Nodup
        rw [List.pairwise_iff_getElem]
        intro i j hi hj hij
        rw [List.getElem_map, List.getElem_map, List.getElem_range, List.getElem_range]
        rw [List.length_map, List.length_range] at hj
        exact fun e => hex ⟨i, j, hij, by omega, e⟩
      have h5 := nodup_leH (m := List.range ((na + 1) * (nb + 1))) hnd (fun x hx => by
        obtain ⟨i, -, rfl⟩ := List.mem_map.1 hx
        rw [List.mem_range, hf]
        have h1 := hA (w.take i)
        have h2 := hB (w.take i)
        have h3 : (mrun a s (w.take i) + 1) * (nb + 1) ≤ (na + 1) * (nb + 1) := Nat.mul_le_mul_right _ (by omega)
        rw [Nat.add_mul] at h3
        omega)
      rw [List.length_map, List.length_range, List.length_range] at h5
      omega
  · exact Nat.zero_le _
def great13B (L S : Int) (k : Nat) : Bool := greatB S k || decide (20 < k) || (decide (6 < S) && decide (S ≤ 64)) || (decide (8 < L) && decide (L ≤ 256))
set_option maxHeartbeats 6400000 in
theorem great13_any (L S : Int) (a : Option Addr) (k c : Nat) (w : World) :
    Calls Tryz.prog 15 #[grV L S (.slice a k c)] w fun e w' => e = .returned (.bool (great13B L S k)) ∧ Below w.heap.size w w' := by
  have HG := Lib.hid (fun W => great_any L S a k c W)
  have B0 := Lib.hid (below1 w (.cells #[.int .i64 L, .int .i64 S, .slice a k c] 24))
  have G0 := Lib.hid (BoxG.new w L S (.slice a k c) 24)
  obtain ⟨x1, x2, x3⟩ := id G0.out
  cases hg : greatB S k
  · rw [hg] at HG
    by_cases h1 : 20 < k
    · have d1 : decide ((20 : Int) < (k : Int)) = true := decide_eq_true (by omega)
      have d1' : decide (20 < k) = true := decide_eq_true h1
      have HE := Lib.hid (show great13B L S k = true by unfold great13B; simp only [hg, d1', Bool.or_true, Bool.true_or])
      clear hg h1
      go_enter Tryz.func15, Tryz.ntmps15
      go_wp2_with (go_at_call 35; (with_reducible refine (HG.out _).mono ?_); rintro e W1 ⟨rfl, b1⟩; (have B1 := Lib.hid (below_more B0.out (Nat.le_refl _) b1)); (have G1 := Lib.hid (G0.out.keep b1)); clear b1 x1 x2 x3; (obtain ⟨x1, x2, x3⟩ := id G1.out))
      go_ret
      exact ⟨by rw [HE.out]; try rfl, B1.out⟩
    · have d1 : decide ((20 : Int) < (k : Int)) = false := decide_eq_false (by omega)
      have d1' : decide (20 < k) = false := decide_eq_false h1
      by_cases h2 : 6 < S
      · have d2 : decide (6 < S) = true := decide_eq_true h2
        by_cases h3 : S ≤ 64
        · have d3 : decide (S ≤ 64) = true := decide_eq_true h3
          have HE := Lib.hid (show great13B L S k = true by unfold great13B; simp only [hg, d1', d2, d3, Bool.or_false, Bool.false_or, Bool.and_true, Bool.true_or])
          clear hg h1 h2 h3
          go_enter Tryz.func15, Tryz.ntmps15
          go_wp2_with (go_at_call 35; (with_reducible refine (HG.out _).mono ?_); rintro e W1 ⟨rfl, b1⟩; (have B1 := Lib.hid (below_more B0.out (Nat.le_refl _) b1)); (have G1 := Lib.hid (G0.out.keep b1)); clear b1 x1 x2 x3; (obtain ⟨x1, x2, x3⟩ := id G1.out))
          go_ret
          exact ⟨by rw [HE.out]; try rfl, B1.out⟩
        · have d3 : decide (S ≤ 64) = false := decide_eq_false h3
          by_cases h4 : 8 < L
          · have d4 : decide (8 < L) = true := decide_eq_true h4
            by_cases h5 : L ≤ 256
            · have d5 : decide (L ≤ 256) = true := decide_eq_true h5
              have HE := Lib.hid (show great13B L S k = true by unfold great13B; simp only [hg, d1', d2, d3, d4, d5, Bool.or_false, Bool.false_or, Bool.and_true, Bool.and_false, Bool.true_or, Bool.false_and, Bool.true_and])
              clear hg h1 h4 h5 h2 h3
              go_enter Tryz.func15, Tryz.ntmps15
              go_wp2_with (go_at_call 35; (with_reducible refine (HG.out _).mono ?_); rintro e W1 ⟨rfl, b1⟩; (have B1 := Lib.hid (below_more B0.out (Nat.le_refl _) b1)); (have G1 := Lib.hid (G0.out.keep b1)); clear b1 x1 x2 x3; (obtain ⟨x1, x2, x3⟩ := id G1.out))
              go_ret
              exact ⟨by rw [HE.out]; try rfl, B1.out⟩
            · have d5 : decide (L ≤ 256) = false := decide_eq_false h5
              have HE := Lib.hid (show great13B L S k = false by unfold great13B; simp only [hg, d1', d2, d3, d4, d5, Bool.or_false, Bool.false_or, Bool.and_true, Bool.and_false, Bool.true_or, Bool.false_and, Bool.true_and])
              clear hg h1 h4 h5 h2 h3
              go_enter Tryz.func15, Tryz.ntmps15
              go_wp2_with (go_at_call 35; (with_reducible refine (HG.out _).mono ?_); rintro e W1 ⟨rfl, b1⟩; (have B1 := Lib.hid (below_more B0.out (Nat.le_refl _) b1)); (have G1 := Lib.hid (G0.out.keep b1)); clear b1 x1 x2 x3; (obtain ⟨x1, x2, x3⟩ := id G1.out))
              go_ret
              exact ⟨by rw [HE.out]; try rfl, B1.out⟩
          · have d4 : decide (8 < L) = false := decide_eq_false h4
            have HE := Lib.hid (show great13B L S k = false by unfold great13B; simp only [hg, d1', d2, d3, d4, Bool.or_false, Bool.false_or, Bool.and_true, Bool.and_false, Bool.true_or, Bool.false_and, Bool.true_and])
            clear hg h1 h4 h2 h3
            go_enter Tryz.func15, Tryz.ntmps15
            go_wp2_with (go_at_call 35; (with_reducible refine (HG.out _).mono ?_); rintro e W1 ⟨rfl, b1⟩; (have B1 := Lib.hid (below_more B0.out (Nat.le_refl _) b1)); (have G1 := Lib.hid (G0.out.keep b1)); clear b1 x1 x2 x3; (obtain ⟨x1, x2, x3⟩ := id G1.out))
            go_ret
            exact ⟨by rw [HE.out]; try rfl, B1.out⟩
      · have d2 : decide (6 < S) = false := decide_eq_false h2
        by_cases h4 : 8 < L
        · have d4 : decide (8 < L) = true := decide_eq_true h4
          by_cases h5 : L ≤ 256
          · have d5 : decide (L ≤ 256) = true := decide_eq_true h5
            have HE := Lib.hid (show great13B L S k = true by unfold great13B; simp only [hg, d1', d2, d4, d5, Bool.or_false, Bool.false_or, Bool.and_true, Bool.and_false, Bool.true_or, Bool.false_and, Bool.true_and])
            clear hg h1 h4 h5 h2
            go_enter Tryz.func15, Tryz.ntmps15
            go_wp2_with (go_at_call 35; (with_reducible refine (HG.out _).mono ?_); rintro e W1 ⟨rfl, b1⟩; (have B1 := Lib.hid (below_more B0.out (Nat.le_refl _) b1)); (have G1 := Lib.hid (G0.out.keep b1)); clear b1 x1 x2 x3; (obtain ⟨x1, x2, x3⟩ := id G1.out))
            go_ret
            exact ⟨by rw [HE.out]; try rfl, B1.out⟩
          · have d5 : decide (L ≤ 256) = false := decide_eq_false h5
            have HE := Lib.hid (show great13B L S k = false by unfold great13B; simp only [hg, d1', d2, d4, d5, Bool.or_false, Bool.false_or, Bool.and_true, Bool.and_false, Bool.true_or, Bool.false_and, Bool.true_and])
            clear hg h1 h4 h5 h2
            go_enter Tryz.func15, Tryz.ntmps15
            go_wp2_with (go_at_call 35; (with_reducible refine (HG.out _).mono ?_); rintro e W1 ⟨rfl, b1⟩; (have B1 := Lib.hid (below_more B0.out (Nat.le_refl _) b1)); (have G1 := Lib.hid (G0.out.keep b1)); clear b1 x1 x2 x3; (obtain ⟨x1, x2, x3⟩ := id G1.out))
            go_ret
            exact ⟨by rw [HE.out]; try rfl, B1.out⟩
        · have d4 : decide (8 < L) = false := decide_eq_false h4
          have HE := Lib.hid (show great13B L S k = false by unfold great13B; simp only [hg, d1', d2, d4, Bool.or_false, Bool.false_or, Bool.and_true, Bool.and_false, Bool.true_or, Bool.false_and, Bool.true_and])
          clear hg h1 h4 h2
          go_enter Tryz.func15, Tryz.ntmps15
          go_wp2_with (go_at_call 35; (with_reducible refine (HG.out _).mono ?_); rintro e W1 ⟨rfl, b1⟩; (have B1 := Lib.hid (below_more B0.out (Nat.le_refl _) b1)); (have G1 := Lib.hid (G0.out.keep b1)); clear b1 x1 x2 x3; (obtain ⟨x1, x2, x3⟩ := id G1.out))
          go_ret
          exact ⟨by rw [HE.out]; try rfl, B1.out⟩
  · rw [hg] at HG
    have HE := Lib.hid (show great13B L S k = true by unfold great13B; simp only [hg, Bool.true_or])
    clear hg
    go_enter Tryz.func15, Tryz.ntmps15
    go_wp2_with (go_at_call 35; (with_reducible refine (HG.out _).mono ?_); rintro e W1 ⟨rfl, b1⟩; (have B1 := Lib.hid (below_more B0.out (Nat.le_refl _) b1)); (have G1 := Lib.hid (G0.out.keep b1)); clear b1 x1 x2 x3; (obtain ⟨x1, x2, x3⟩ := id G1.out))
    go_ret
    exact ⟨by rw [HE.out]; try rfl, B1.out⟩
end Go.Proofs.YtiockphjnkehnaaGreatDoor
