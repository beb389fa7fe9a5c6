/- groovelaw13.awake returns true. No condition. grooveref13.Great, groovelaw13.deterministic and leads; the first word's length. No condition. Included, Equal, groovelaw13.great of two graphs, less; what the first words of two searches have to do with each other. Conditions: the edges can be read; the library's table reads as its text lays it. -/
import Derived.Test.YtblkijdodojaeaaDoorQ37
import Derived.Test.YtblkijdodojaeaaDoorQ34
import Derived.Test.YtblkijdodojaeaaDoorQ10
import Derived.Test.YtblkijdodojaeaaDoorQ17
import Derived.Test.YtblkijdodojaeaaDoorQ22
import Derived.Test.YtblkijdodojaeaaDoorQ09
import Derived.Test.YtblkijdodojaeaaDoorQ35
import Derived.Test.YtblkijdodojaeaaDoorQ36
import Derived.Test.YtblkijdodojaeaaDoorQ21

namespace Go.Proofs.YtblkijdodojaeaaDoor
open Go.RowKit
set_option linter.unusedSimpArgs false
set_option linter.unusedVariables false

def exG : List E3 := [(0, 0, 0), (0, 1, 1), (1, 0, 2), (2, 0, 2), (2, 1, 1)]
def exM : List E3 := [(0, 0, 0), (0, 1, 1), (1, 0, 0)]
theorem exG_vg : VG ((2 : Nat) : Int) ((3 : Nat) : Int) exG := chkG_zero (by decide)
theorem exG_det : detE exG = true := by decide
theorem exG_cls : classN (mT 3 exG) 2 3 = [0, 1, 0] := by decide +kernel
theorem exG_mg : mkE (mgE exG [0, 1, 0]) = exM := by
  refine asc_eq (mkE_pw _) (by decide) (fun x => ?_)
  rw [mkE_mem]
  have h : mgE exG [0, 1, 0] = [(0, 0, 0), (0, 1, 1), (1, 0, 0), (0, 0, 0), (0, 1, 1)] := by decide
  rw [h]
  unfold exM
  simp only [List.mem_cons, List.not_mem_nil, or_false]
  constructor
  · rintro (h | h | h | h | h) <;> simp [h]
  · rintro (h | h | h) <;> simp [h]
theorem exG_fw {u : List Int} {is : Bool} (h : FW (fun x y : Bool => x != y) (mT 3 exG) (mT 3 exG) 3 3 2 0 1 u is) : u = [1] ∧ is = true := by
  have h1 : Dif (fun x y : Bool => x != y) (mT 3 exG) (mT 3 exG) 3 3 0 1 [1] = true := by decide
  have hl : ∀ l ∈ [1], l < 2 := by decide
  rcases h with ⟨hi, w, rfl, hw, hd, hle⟩ | ⟨-, -, hn⟩
  · refine ⟨?_, hi⟩
    have h2 := hle [1] hl h1
    have hlen : w.length ≤ 1 := by
      unfold sle at h2
      unfold labsI at h2
      rw [List.length_map, List.length_map, show ([1] : List Nat).length = 1 from rfl] at h2
      omega
    match w, hw, hd, hlen with
    | [], _, hd, _ => exact absurd hd (by decide)
    | [l], hw, hd, _ =>
      have hl2 := hw l (by simp)
      obtain rfl | rfl : l = 0 ∨ l = 1 := by omega
      · exact absurd hd (by decide)
      · rfl
    | _ :: _ :: _, _, _, hlen => simp at hlen
  · rw [hn [1] hl] at h1
    cases h1
theorem lit010 (W : World) : IntsRd (W.alloc (.cells #[.int .i64 0, .int .i64 1, .int .i64 0] 3)) (.slice (some ⟨W.heap.size, 0, none⟩) 3 3) [0, 1, 0] := (intsLit W [0, 1, 0] (by decide) (by decide)).rd
theorem lit1H (W : World) (z : Int) : IntsRd (W.alloc (.cells #[.int .i64 z] 3)) (.slice (some ⟨W.heap.size, 0, none⟩) 1 1) [z] := (intsLit W [z] (by simp) (by simp)).rd
set_option maxRecDepth 100000 in
set_option maxHeartbeats 6400000 in
theorem awake13_any (w : World) : Calls Tryd.prog 9 #[] w fun e w' => e = .returned (.bool true) ∧ Below w.heap.size w w' := by
  have HME : Hid (∀ W v, EdgesRd W v exG → Calls Tryd.prog 37 #[grV 2 3 v] W fun e W' => ∃ a7 c7 g c, e = .returned (.tuple #[grV 2 2 (.slice a7 3 c7), .slice (some ⟨g, 0, none⟩) 3 c, .int .i64 0]) ∧ EdgesRd W' (.slice a7 3 c7) exM ∧ IntsRd W' (.slice (some ⟨g, 0, none⟩) 3 c) [0, 1, 0] ∧ Below W.heap.size W W') := Lib.hid (fun W v h => by
    refine (merge_yes 2 3 exG v W _ exG_cls h exG_vg exG_det).mono ?_
    rintro e W' ⟨v', g, c, he, h1, h2, h3⟩
    rw [exG_mg] at h1
    obtain ⟨a7, c7, rfl⟩ := h1.slice
    exact ⟨a7, c7, g, c, he, h1.rd, h2, h3⟩)
  have HSE : Hid (∀ W v, EdgesRd W v exG → Calls Tryd.prog 38 #[grV 2 3 v, .int .i64 0, .int .i64 1] W fun e W' => ∃ g c, e = .returned (.tuple #[.slice g 1 c, .bool true, .int .i64 0]) ∧ IntsRd W' (.slice g 1 c) [1] ∧ Below W.heap.size W W') := Lib.hid (fun W v h => by
    refine (sep_yes 2 3 0 1 exG v W h exG_vg exG_det (by decide) (by decide)).mono ?_
    rintro e W' ⟨g, c, u, is, he, h1, h2, h3⟩
    obtain ⟨rfl, rfl⟩ := exG_fw h2
    exact ⟨g, c, he, h1, h3⟩)
  have HSA : Hid (∀ W v1 v2, EdgesRd W v1 exM → EdgesRd W v2 exM → Calls Tryd.prog 21 #[grV 2 2 v1, grV 2 2 v2] W fun e W' => e = .returned (.bool true) ∧ Below W.heap.size W W') := Lib.hid (fun W v1 v2 h1 h2 => by
    have h := rsame_any 2 2 2 2 exM exM v1 v2 W h1 h2 (by decide) (by decide)
    have h3 : sameG 2 2 exM 2 2 exM = true := by unfold sameG; simp
    rw [h3] at h
    exact h)
  have HE1 : Hid (∀ W u u', IntsRd W u [0, 1, 0] → IntsRd W u' [0, 1, 0] → Calls Tryd.prog 13 #[u, u'] W fun e W' => e = .returned (.bool true) ∧ Below W.heap.size W W') := Lib.hid (fun W u u' h1 h2 => by
    have h := intsEq_any h1 h2 (by simp) (by simp)
    rw [decide_eq_true rfl] at h
    exact h)
  have HE2 : Hid (∀ W u u', IntsRd W u [1] → IntsRd W u' [1] → Calls Tryd.prog 13 #[u, u'] W fun e W' => e = .returned (.bool true) ∧ Below W.heap.size W W') := Lib.hid (fun W u u' h1 h2 => by
    have h := intsEq_any h1 h2 (by simp) (by simp)
    rw [decide_eq_true rfl] at h
    exact h)
  have z1 : (w.alloc (.cells #[.int .i64 0, .int .i64 0, .int .i64 0, .int .i64 0, .int .i64 1, .int .i64 1, .int .i64 1, .int .i64 0, .int .i64 2, .int .i64 2, .int .i64 0, .int .i64 2, .int .i64 2, .int .i64 1, .int .i64 1] 63)).heap.size = w.heap.size + 1 := World.size_alloc ..
  have z2 : ((w.alloc (.cells #[.int .i64 0, .int .i64 0, .int .i64 0, .int .i64 0, .int .i64 1, .int .i64 1, .int .i64 1, .int .i64 0, .int .i64 2, .int .i64 2, .int .i64 0, .int .i64 2, .int .i64 2, .int .i64 1, .int .i64 1] 63)).alloc (.cells #[.int .i64 2, .int .i64 3, .slice (some ⟨w.heap.size, 0, none⟩) 5 5] 24)).heap.size = w.heap.size + 1 + 1 := by rw [World.size_alloc, z1]
  have z3 : (((w.alloc (.cells #[.int .i64 0, .int .i64 0, .int .i64 0, .int .i64 0, .int .i64 1, .int .i64 1, .int .i64 1, .int .i64 0, .int .i64 2, .int .i64 2, .int .i64 0, .int .i64 2, .int .i64 2, .int .i64 1, .int .i64 1] 63)).alloc (.cells #[.int .i64 2, .int .i64 3, .slice (some ⟨w.heap.size, 0, none⟩) 5 5] 24)).alloc (.cells #[.int .i64 0, .int .i64 0, .int .i64 0, .int .i64 0, .int .i64 1, .int .i64 1, .int .i64 1, .int .i64 0, .int .i64 0] 63)).heap.size = w.heap.size + 1 + 1 + 1 := by rw [World.size_alloc, z2]
  have e1 : EdgesRd (w.alloc (.cells #[.int .i64 0, .int .i64 0, .int .i64 0, .int .i64 0, .int .i64 1, .int .i64 1, .int .i64 1, .int .i64 0, .int .i64 2, .int .i64 2, .int .i64 0, .int .i64 2, .int .i64 2, .int .i64 1, .int .i64 1] 63)) (.slice (some ⟨w.heap.size, 0, none⟩) 5 5) exG := (edgesLit w exG (by decide) (by decide)).rd
  have g1 := BoxG.new (w.alloc (.cells #[.int .i64 0, .int .i64 0, .int .i64 0, .int .i64 0, .int .i64 1, .int .i64 1, .int .i64 1, .int .i64 0, .int .i64 2, .int .i64 2, .int .i64 0, .int .i64 2, .int .i64 2, .int .i64 1, .int .i64 1] 63)) 2 3 (.slice (some ⟨w.heap.size, 0, none⟩) 5 5) 24
  have e2 : EdgesRd (((w.alloc (.cells #[.int .i64 0, .int .i64 0, .int .i64 0, .int .i64 0, .int .i64 1, .int .i64 1, .int .i64 1, .int .i64 0, .int .i64 2, .int .i64 2, .int .i64 0, .int .i64 2, .int .i64 2, .int .i64 1, .int .i64 1] 63)).alloc (.cells #[.int .i64 2, .int .i64 3, .slice (some ⟨w.heap.size, 0, none⟩) 5 5] 24)).alloc (.cells #[.int .i64 0, .int .i64 0, .int .i64 0, .int .i64 0, .int .i64 1, .int .i64 1, .int .i64 1, .int .i64 0, .int .i64 0] 63)) (.slice (some ⟨((w.alloc (.cells #[.int .i64 0, .int .i64 0, .int .i64 0, .int .i64 0, .int .i64 1, .int .i64 1, .int .i64 1, .int .i64 0, .int .i64 2, .int .i64 2, .int .i64 0, .int .i64 2, .int .i64 2, .int .i64 1, .int .i64 1] 63)).alloc (.cells #[.int .i64 2, .int .i64 3, .slice (some ⟨w.heap.size, 0, none⟩) 5 5] 24)).heap.size, 0, none⟩) 3 3) exM := (edgesLit ((w.alloc (.cells #[.int .i64 0, .int .i64 0, .int .i64 0, .int .i64 0, .int .i64 1, .int .i64 1, .int .i64 1, .int .i64 0, .int .i64 2, .int .i64 2, .int .i64 0, .int .i64 2, .int .i64 2, .int .i64 1, .int .i64 1] 63)).alloc (.cells #[.int .i64 2, .int .i64 3, .slice (some ⟨w.heap.size, 0, none⟩) 5 5] 24)) exM (by decide) (by decide)).rd
  have g2 := BoxG.new (((w.alloc (.cells #[.int .i64 0, .int .i64 0, .int .i64 0, .int .i64 0, .int .i64 1, .int .i64 1, .int .i64 1, .int .i64 0, .int .i64 2, .int .i64 2, .int .i64 0, .int .i64 2, .int .i64 2, .int .i64 1, .int .i64 1] 63)).alloc (.cells #[.int .i64 2, .int .i64 3, .slice (some ⟨w.heap.size, 0, none⟩) 5 5] 24)).alloc (.cells #[.int .i64 0, .int .i64 0, .int .i64 0, .int .i64 0, .int .i64 1, .int .i64 1, .int .i64 1, .int .i64 0, .int .i64 0] 63)) 2 2 (.slice (some ⟨w.heap.size + 1 + 1, 0, none⟩) 3 3) 24
  rw [z1] at g1
  rw [z2] at e2
  rw [z3] at g2
  have b1 := below1 w (.cells #[.int .i64 0, .int .i64 0, .int .i64 0, .int .i64 0, .int .i64 1, .int .i64 1, .int .i64 1, .int .i64 0, .int .i64 2, .int .i64 2, .int .i64 0, .int .i64 2, .int .i64 2, .int .i64 1, .int .i64 1] 63)
  have b2 := below1 (w.alloc (.cells #[.int .i64 0, .int .i64 0, .int .i64 0, .int .i64 0, .int .i64 1, .int .i64 1, .int .i64 1, .int .i64 0, .int .i64 2, .int .i64 2, .int .i64 0, .int .i64 2, .int .i64 2, .int .i64 1, .int .i64 1] 63)) (.cells #[.int .i64 2, .int .i64 3, .slice (some ⟨w.heap.size, 0, none⟩) 5 5] 24)
  have b3 := below1 ((w.alloc (.cells #[.int .i64 0, .int .i64 0, .int .i64 0, .int .i64 0, .int .i64 1, .int .i64 1, .int .i64 1, .int .i64 0, .int .i64 2, .int .i64 2, .int .i64 0, .int .i64 2, .int .i64 2, .int .i64 1, .int .i64 1] 63)).alloc (.cells #[.int .i64 2, .int .i64 3, .slice (some ⟨w.heap.size, 0, none⟩) 5 5] 24)) (.cells #[.int .i64 0, .int .i64 0, .int .i64 0, .int .i64 0, .int .i64 1, .int .i64 1, .int .i64 1, .int .i64 0, .int .i64 0] 63)
  have b4 := below1 (((w.alloc (.cells #[.int .i64 0, .int .i64 0, .int .i64 0, .int .i64 0, .int .i64 1, .int .i64 1, .int .i64 1, .int .i64 0, .int .i64 2, .int .i64 2, .int .i64 0, .int .i64 2, .int .i64 2, .int .i64 1, .int .i64 1] 63)).alloc (.cells #[.int .i64 2, .int .i64 3, .slice (some ⟨w.heap.size, 0, none⟩) 5 5] 24)).alloc (.cells #[.int .i64 0, .int .i64 0, .int .i64 0, .int .i64 0, .int .i64 1, .int .i64 1, .int .i64 1, .int .i64 0, .int .i64 0] 63)) (.cells #[.int .i64 2, .int .i64 2, .slice (some ⟨w.heap.size + 1 + 1, 0, none⟩) 3 3] 24)
  have E1 := Lib.hid (((e1.keep b2).keep b3).keep b4)
  have G1 := Lib.hid ((g1.keep b3).keep b4)
  have E2 := Lib.hid (e2.keep b4)
  have G2 := Lib.hid g2
  have B0 := Lib.hid (below_more (below_more (below_more b1 (Nat.le_refl _) b2) (Nat.le_refl _) b3) (Nat.le_refl _) b4)
  clear z1 z2 z3 e1 g1 e2 g2 b1 b2 b3 b4
  go_enter Tryd.func9, Tryd.ntmps9
  go_upto_region 3 with fail
  generalize ((((w.alloc (.cells #[.int .i64 0, .int .i64 0, .int .i64 0, .int .i64 0, .int .i64 1, .int .i64 1, .int .i64 1, .int .i64 0, .int .i64 2, .int .i64 2, .int .i64 0, .int .i64 2, .int .i64 2, .int .i64 1, .int .i64 1] 63)).alloc (.cells #[.int .i64 2, .int .i64 3, .slice (some ⟨w.heap.size, 0, none⟩) 5 5] 24)).alloc (.cells #[.int .i64 0, .int .i64 0, .int .i64 0, .int .i64 0, .int .i64 1, .int .i64 1, .int .i64 1, .int .i64 0, .int .i64 0] 63)).alloc (.cells #[.int .i64 2, .int .i64 2, .slice (some ⟨w.heap.size + 1 + 1, 0, none⟩) 3 3] 24)) = X at *
  obtain ⟨x1, x2, x3⟩ := id G1.out
  go_upto_region 4 with (go_at_call 37; (with_reducible refine (HME.out _ _ E1.out).mono ?_); rintro e W1 ⟨a7, c7, g, c, rfl, m1, i1, b1⟩)
  have k1 := below_more b1 (Nat.le_refl _) (below1 W1 (.cells #[.int .i64 2, .int .i64 2, .slice a7 3 c7] 24))
  have M1 := Lib.hid (m1.keep (below1 W1 (.cells #[.int .i64 2, .int .i64 2, .slice a7 3 c7] 24)))
  have I1 := Lib.hid (i1.keep (below1 W1 (.cells #[.int .i64 2, .int .i64 2, .slice a7 3 c7] 24)))
  have G3 := Lib.hid (BoxG.new W1 2 2 (.slice a7 3 c7) 24)
  have B1 := Lib.hid (B0.out.trans (k1.mono B0.out.size))
  have E1a := Lib.hid (E1.out.keep k1)
  have E2a := Lib.hid (E2.out.keep k1)
  have G1a := Lib.hid (G1.out.keep k1)
  have G2a := Lib.hid (G2.out.keep k1)
  obtain ⟨P3, hP3⟩ : ∃ P3, W1.heap.size = P3 := ⟨_, rfl⟩
  rw [hP3] at G3 ⊢
  clear m1 i1 b1 k1 x1 x2 x3 E1 E2 G1 G2 B0 hP3
  generalize (W1.alloc (.cells #[.int .i64 2, .int .i64 2, .slice a7 3 c7] 24)) = Y at *
  obtain ⟨x1, x2, x3⟩ := id G1a.out
  go_upto_region 5 with (go_at_call 38; (with_reducible refine (HSE.out _ _ E1a.out).mono ?_); rintro e W2 ⟨g9, c9, rfl, i2, b2⟩)
  have I2 := Lib.hid i2
  have B2 := Lib.hid (B1.out.trans (b2.mono B1.out.size))
  have M2 := Lib.hid (M1.out.keep b2)
  have J2 := Lib.hid (I1.out.keep b2)
  have E2b := Lib.hid (E2a.out.keep b2)
  obtain ⟨y1, y2, y3⟩ := G2a.out.keep b2
  obtain ⟨u1, u2, u3⟩ := G3.out.keep b2
  clear i2 b2 x1 x2 x3 E1a E2a G1a G2a G3 M1 I1 B1
  go_wp2_with (first
    | (go_at_call 21; (with_reducible refine (HSA.out _ _ _ M2.out E2b.out).mono ?_); rintro e W3 ⟨rfl, b3⟩; (have B3 := Lib.hid (B2.out.trans (b3.mono B2.out.size))); (have I3 := Lib.hid (I2.out.keep b3)); (have J3 := Lib.hid (J2.out.keep b3)); clear b3 y1 y2 y3 u1 u2 u3)
    | (go_at_call 13; (with_reducible refine (HE1.out _ _ _ (J3.out.keep (below1 W3 _)) (lit010 W3)).mono ?_); rintro e W4 ⟨rfl, b4⟩; (have k4 := below_more (below1 W3 (.cells #[.int .i64 0, .int .i64 1, .int .i64 0] 3)) (Nat.le_refl _) b4); (have B4 := Lib.hid (B3.out.trans (k4.mono B3.out.size))); (have I4 := Lib.hid (I3.out.keep k4)); clear b4 k4)
    | (go_at_call 13; (with_reducible refine (HE2.out _ _ _ (I4.out.keep (below1 W4 _)) (lit1H W4 1)).mono ?_); rintro e W5 ⟨rfl, b5⟩; (have k5 := below_more (below1 W4 (.cells #[.int .i64 1] 3)) (Nat.le_refl _) b5); (have B5 := Lib.hid (B4.out.trans (k5.mono B4.out.size))); clear b5 k5))
  go_ret
  exact ⟨rfl, B5.out⟩
end Go.Proofs.YtblkijdodojaeaaDoor

namespace Go.Proofs.YtblkijdodojaeaaDoor
open Go.RowKit
set_option linter.unusedSimpArgs false
set_option linter.unusedVariables false

theorem labsI_atH {w : List Nat} {i l : Nat} (h : w[i]? = some l) : (labsI w)[i]? = some (l : Int) := by unfold labsI; rw [List.getElem?_map, h]; rfl
theorem mrun_app (m : Nat → Nat → Nat) (s : Nat) (u v : List Nat) : mrun m s (u ++ v) = mrun m (mrun m s u) v := by unfold mrun; rw [List.foldl_append]
theorem FW.lenH {D : Bool → Bool → Bool} {a b : Nat → Nat → Nat} {na nb La s t : Nat} {u : List Int} {is : Bool} (h : FW D a b na nb La s t u is) (ha : ∀ x l, x ≤ na → a x l ≤ na) (hb : ∀ x l, x ≤ nb → b x l ≤ nb) (hs : s ≤ na) (ht : t ≤ nb) : u.length ≤ (na + 1) * (nb + 1) := by
  rcases h with ⟨-, w, rfl, hw, hd, hle⟩ | ⟨-, rfl, -⟩
  · rw [labsI_lenH]
    have hA := fun v => mrun_le ha v hs
    have hB := fun v => mrun_le hb v ht
    obtain ⟨f, hf⟩ : ∃ f : Nat → Nat, ∀ i, f i = mrun b t (w.take i) + mrun a s (w.take i) * (nb + 1) := ⟨_, fun _ => rfl⟩
    by_cases hex : ∃ i j, i < j ∧ j ≤ w.length ∧ f i = f j
    · obtain ⟨i, j, hij, hj, he⟩ := hex
      rw [hf, hf] at he
      have e1 : mrun a s (w.take i) = mrun a s (w.take j) := by
        have := congrArg (· / (nb + 1)) he
        rwa [Nat.add_mul_div_right _ _ (Nat.succ_pos nb), Nat.add_mul_div_right _ _ (Nat.succ_pos nb), Nat.div_eq_of_lt (Nat.lt_succ_of_le (hB _)), Nat.div_eq_of_lt (Nat.lt_succ_of_le (hB _)), Nat.zero_add, Nat.zero_add] at this
      have e2 : mrun b t (w.take i) = mrun b t (w.take j) := by rw [e1] at he; exact Nat.add_right_cancel he
      have k1 : mrun a s (w.take i ++ w.drop j) = mrun a s w := by rw [mrun_app, e1, ← mrun_app, List.take_append_drop]
      have k2 : mrun b t (w.take i ++ w.drop j) = mrun b t w := by rw [mrun_app, e2, ← mrun_app, List.take_append_drop]
      have h3 := hle (w.take i ++ w.drop j) (fun l hl => hw l (by
        rcases List.mem_append.1 hl with h | h
        · exact List.mem_of_mem_take h
        · exact List.mem_of_mem_drop h)) (by unfold Dif at hd ⊢; rw [k1, k2]; exact hd)
      have h4 : (labsI w).length ≤ (labsI (w.take i ++ w.drop j)).length := by
        rcases h3 with h | ⟨h, -⟩ <;> omega
      rw [labsI_lenH, labsI_lenH, List.length_append, List.length_take, List.length_drop] at h4
      omega
    · have hnd : ((List.range (w.length + 1)).map f).Nodup := by
        unfold List.Nodup
        rw [List.pairwise_iff_getElem]
        intro i j hi hj hij
        rw [List.getElem_map, List.getElem_map, List.getElem_range, List.getElem_range]
        rw [List.length_map, List.length_range] at hj
        exact fun e => hex ⟨i, j, hij, by omega, e⟩
      have h5 := nodup_leH (m := List.range ((na + 1) * (nb + 1))) hnd (fun x hx => by
        obtain ⟨i, -, rfl⟩ := List.mem_map.1 hx
        rw [List.mem_range, hf]
        have h1 := hA (w.take i)
        have h2 := hB (w.take i)
        have h3 : (mrun a s (w.take i) + 1) * (nb + 1) ≤ (na + 1) * (nb + 1) := Nat.mul_le_mul_right _ (by omega)
        rw [Nat.add_mul] at h3
        omega)
      rw [List.length_map, List.length_range, List.length_range] at h5
      omega
  · exact Nat.zero_le _
/-- Larger than the laws of layer 13 examine. -/
def great13B (L S : Int) (k : Nat) : Bool := greatB S k || decide (20 < k) || (decide (6 < S) && decide (S ≤ 64)) || (decide (8 < L) && decide (L ≤ 256))
set_option maxHeartbeats 6400000 in
theorem great13_any (L S : Int) (a : Option Addr) (k c : Nat) (w : World) :
    Calls Tryd.prog 36 #[grV L S (.slice a k c)] w fun e w' => e = .returned (.bool (great13B L S k)) ∧ Below w.heap.size w w' := by
  have HG := Lib.hid (fun W => great_any L S a k c W)
  have B0 := Lib.hid (below1 w (.cells #[.int .i64 L, .int .i64 S, .slice a k c] 24))
  have G0 := Lib.hid (BoxG.new w L S (.slice a k c) 24)
  obtain ⟨x1, x2, x3⟩ := id G0.out
  cases hg : greatB S k
  · rw [hg] at HG
    by_cases h1 : 20 < k
    · have d1 : decide ((20 : Int) < (k : Int)) = true := decide_eq_true (by omega)
      have d1' : decide (20 < k) = true := decide_eq_true h1
      have HE := Lib.hid (show great13B L S k = true by unfold great13B; simp only [hg, d1', Bool.or_true, Bool.true_or])
      clear hg h1
      go_enter Tryd.func36, Tryd.ntmps36
      go_wp2_with (go_at_call 44; (with_reducible refine (HG.out _).mono ?_); rintro e W1 ⟨rfl, b1⟩; (have B1 := Lib.hid (below_more B0.out (Nat.le_refl _) b1)); (have G1 := Lib.hid (G0.out.keep b1)); clear b1 x1 x2 x3; (obtain ⟨x1, x2, x3⟩ := id G1.out))
      go_ret
      exact ⟨by rw [HE.out]; try rfl, B1.out⟩
    · have d1 : decide ((20 : Int) < (k : Int)) = false := decide_eq_false (by omega)
      have d1' : decide (20 < k) = false := decide_eq_false h1
      by_cases h2 : 6 < S
      · have d2 : decide (6 < S) = true := decide_eq_true h2
        by_cases h3 : S ≤ 64
        · have d3 : decide (S ≤ 64) = true := decide_eq_true h3
          have HE := Lib.hid (show great13B L S k = true by unfold great13B; simp only [hg, d1', d2, d3, Bool.or_false, Bool.false_or, Bool.and_true, Bool.true_or])
          clear hg h1 h2 h3
          go_enter Tryd.func36, Tryd.ntmps36
          go_wp2_with (go_at_call 44; (with_reducible refine (HG.out _).mono ?_); rintro e W1 ⟨rfl, b1⟩; (have B1 := Lib.hid (below_more B0.out (Nat.le_refl _) b1)); (have G1 := Lib.hid (G0.out.keep b1)); clear b1 x1 x2 x3; (obtain ⟨x1, x2, x3⟩ := id G1.out))
          go_ret
          exact ⟨by rw [HE.out]; try rfl, B1.out⟩
        · have d3 : decide (S ≤ 64) = false := decide_eq_false h3
          by_cases h4 : 8 < L
          · have d4 : decide (8 < L) = true := decide_eq_true h4
            by_cases h5 : L ≤ 256
            · have d5 : decide (L ≤ 256) = true := decide_eq_true h5
              have HE := Lib.hid (show great13B L S k = true by unfold great13B; simp only [hg, d1', d2, d3, d4, d5, Bool.or_false, Bool.false_or, Bool.and_true, Bool.and_false, Bool.true_or, Bool.false_and, Bool.true_and])
              clear hg h1 h4 h5 h2 h3
              go_enter Tryd.func36, Tryd.ntmps36
              go_wp2_with (go_at_call 44; (with_reducible refine (HG.out _).mono ?_); rintro e W1 ⟨rfl, b1⟩; (have B1 := Lib.hid (below_more B0.out (Nat.le_refl _) b1)); (have G1 := Lib.hid (G0.out.keep b1)); clear b1 x1 x2 x3; (obtain ⟨x1, x2, x3⟩ := id G1.out))
              go_ret
              exact ⟨by rw [HE.out]; try rfl, B1.out⟩
            · have d5 : decide (L ≤ 256) = false := decide_eq_false h5
              have HE := Lib.hid (show great13B L S k = false by unfold great13B; simp only [hg, d1', d2, d3, d4, d5, Bool.or_false, Bool.false_or, Bool.and_true, Bool.and_false, Bool.true_or, Bool.false_and, Bool.true_and])
              clear hg h1 h4 h5 h2 h3
              go_enter Tryd.func36, Tryd.ntmps36
              go_wp2_with (go_at_call 44; (with_reducible refine (HG.out _).mono ?_); rintro e W1 ⟨rfl, b1⟩; (have B1 := Lib.hid (below_more B0.out (Nat.le_refl _) b1)); (have G1 := Lib.hid (G0.out.keep b1)); clear b1 x1 x2 x3; (obtain ⟨x1, x2, x3⟩ := id G1.out))
              go_ret
              exact ⟨by rw [HE.out]; try rfl, B1.out⟩
          · have d4 : decide (8 < L) = false := decide_eq_false h4
            have HE := Lib.hid (show great13B L S k = false by unfold great13B; simp only [hg, d1', d2, d3, d4, Bool.or_false, Bool.false_or, Bool.and_true, Bool.and_false, Bool.true_or, Bool.false_and, Bool.true_and])
            clear hg h1 h4 h2 h3
            go_enter Tryd.func36, Tryd.ntmps36
            go_wp2_with (go_at_call 44; (with_reducible refine (HG.out _).mono ?_); rintro e W1 ⟨rfl, b1⟩; (have B1 := Lib.hid (below_more B0.out (Nat.le_refl _) b1)); (have G1 := Lib.hid (G0.out.keep b1)); clear b1 x1 x2 x3; (obtain ⟨x1, x2, x3⟩ := id G1.out))
            go_ret
            exact ⟨by rw [HE.out]; try rfl, B1.out⟩
      · have d2 : decide (6 < S) = false := decide_eq_false h2
        by_cases h4 : 8 < L
        · have d4 : decide (8 < L) = true := decide_eq_true h4
          by_cases h5 : L ≤ 256
          · have d5 : decide (L ≤ 256) = true := decide_eq_true h5
            have HE := Lib.hid (show great13B L S k = true by unfold great13B; simp only [hg, d1', d2, d4, d5, Bool.or_false, Bool.false_or, Bool.and_true, Bool.and_false, Bool.true_or, Bool.false_and, Bool.true_and])
            clear hg h1 h4 h5 h2
            go_enter Tryd.func36, Tryd.ntmps36
            go_wp2_with (go_at_call 44; (with_reducible refine (HG.out _).mono ?_); rintro e W1 ⟨rfl, b1⟩; (have B1 := Lib.hid (below_more B0.out (Nat.le_refl _) b1)); (have G1 := Lib.hid (G0.out.keep b1)); clear b1 x1 x2 x3; (obtain ⟨x1, x2, x3⟩ := id G1.out))
            go_ret
            exact ⟨by rw [HE.out]; try rfl, B1.out⟩
          · have d5 : decide (L ≤ 256) = false := decide_eq_false h5
            have HE := Lib.hid (show great13B L S k = false by unfold great13B; simp only [hg, d1', d2, d4, d5, Bool.or_false, Bool.false_or, Bool.and_true, Bool.and_false, Bool.true_or, Bool.false_and, Bool.true_and])
            clear hg h1 h4 h5 h2
            go_enter Tryd.func36, Tryd.ntmps36
            go_wp2_with (go_at_call 44; (with_reducible refine (HG.out _).mono ?_); rintro e W1 ⟨rfl, b1⟩; (have B1 := Lib.hid (below_more B0.out (Nat.le_refl _) b1)); (have G1 := Lib.hid (G0.out.keep b1)); clear b1 x1 x2 x3; (obtain ⟨x1, x2, x3⟩ := id G1.out))
            go_ret
            exact ⟨by rw [HE.out]; try rfl, B1.out⟩
        · have d4 : decide (8 < L) = false := decide_eq_false h4
          have HE := Lib.hid (show great13B L S k = false by unfold great13B; simp only [hg, d1', d2, d4, Bool.or_false, Bool.false_or, Bool.and_true, Bool.and_false, Bool.true_or, Bool.false_and, Bool.true_and])
          clear hg h1 h4 h2
          go_enter Tryd.func36, Tryd.ntmps36
          go_wp2_with (go_at_call 44; (with_reducible refine (HG.out _).mono ?_); rintro e W1 ⟨rfl, b1⟩; (have B1 := Lib.hid (below_more B0.out (Nat.le_refl _) b1)); (have G1 := Lib.hid (G0.out.keep b1)); clear b1 x1 x2 x3; (obtain ⟨x1, x2, x3⟩ := id G1.out))
          go_ret
          exact ⟨by rw [HE.out]; try rfl, B1.out⟩
  · rw [hg] at HG
    have HE := Lib.hid (show great13B L S k = true by unfold great13B; simp only [hg, Bool.true_or])
    clear hg
    go_enter Tryd.func36, Tryd.ntmps36
    go_wp2_with (go_at_call 44; (with_reducible refine (HG.out _).mono ?_); rintro e W1 ⟨rfl, b1⟩; (have B1 := Lib.hid (below_more B0.out (Nat.le_refl _) b1)); (have G1 := Lib.hid (G0.out.keep b1)); clear b1 x1 x2 x3; (obtain ⟨x1, x2, x3⟩ := id G1.out))
    go_ret
    exact ⟨by rw [HE.out]; try rfl, B1.out⟩
set_option maxRecDepth 100000 in
set_option maxHeartbeats 6400000 in
theorem leads_any (La n s : Nat) (es : List E3) (v u uw : Value) (ws : List Nat) (w : World) (hrd : EdgesRd w v es) (hvg : VG (La : Int) (n : Int) es) (hd : detE es = true) (hs : s ≤ n) (hu : IntsRd w u (setL n s)) (hw : IntsRd w uw (labsI ws)) (hwl : ∀ l ∈ ws, l < La) (hl : ws.length ≤ 100000) :
    Calls Tryd.prog 41 #[grV (La : Int) (n : Int) v, u, uw] w fun e w' => ∃ a c, e = .returned (.slice a (setL n (mrun (mT n es) s ws)).length c) ∧ Below w.heap.size w w' := by
  have HS : Hid (∀ W u (x l : Nat), EdgesRd W v es → IntsRd W u (setL n x) → x ≤ n → l < La → Calls Tryd.prog 33 #[grV (La : Int) (n : Int) v, u, .int .i64 (l : Int)] W fun e W' => ∃ a c, e = .returned (.tuple #[.slice a (setL n (mT n es x l)).length c, .int .i64 0]) ∧ IntsRd W' (.slice a (setL n (mT n es x l)).length c) (setL n (mT n es x l)) ∧ Below W.heap.size W W') := Lib.hid (fun W u x l h1 h2 h3 h4 => by
    refine (step_any La n l es v u (setL n x) W h1 (by have := hvg.len; omega) h2 (by have := setL_len n x; omega)).mono ?_
    rw [stepR_setL hvg hd h3 h4]
    rintro e W' ⟨u, he, h5, h6⟩
    obtain ⟨a, c, rfl⟩ := h5.slice
    exact ⟨a, c, he, h5.rd, h6⟩)
  have HSM := Lib.hid (fun w => mrun_le (m := mT n es) (fun x l _ => mT_le hvg.ok x l) w hs)
  have HRD := Lib.hid hrd
  have HU := Lib.hid hw
  have HW := Lib.hid hwl
  have HVA := Lib.hid hu
  have B0 := Lib.hid (below1 w (.cells #[.int .i64 (La : Int), .int .i64 (n : Int), v] 24))
  have G0 := Lib.hid (BoxG.new w (La : Int) (n : Int) v 24)
  obtain ⟨a, c, rfl⟩ := hrd.form
  obtain ⟨a1, c1, rfl⟩ := hu.form
  obtain ⟨a2, c2, hu2⟩ := hw.form
  rw [labsI_lenH] at hu2
  subst hu2
  clear hrd hu hw hwl hvg hd hs
  go_enter Tryd.func41, Tryd.ntmps41
  go_wp2_with fail
  generalize hX : (w.alloc (.cells #[.int .i64 (La : Int), .int .i64 (n : Int), .slice a es.length c] 24)) = X at *
  go_loopg [1, 13] ws.length (fun q s1 s13 wx => ∃ (i x : Nat) (a8 : Option Addr) (c8 : Nat), i + q = ws.length ∧ s13 = .int .i64 (i : Int) ∧ s1 = .slice a8 (setL n x).length c8 ∧ Hid (mrun (mT n es) s (ws.take i) = x) ∧ Hid (IntsRd wx (.slice a8 (setL n x).length c8) (setL n x)) ∧ Hid (Below X.heap.size X wx))
  case atStart => exact ⟨0, s, a1, c1, by omega, rfl, rfl, Lib.hid rfl, Lib.hid (HVA.out.keep B0.out), Lib.hid (Below.refl _ _)⟩
  case round =>
    clear HVA
    obtain ⟨i, x, a8, c8, hin, rfl, rfl, HR, HI, HBX⟩ := hrel
    have HB := Lib.hid (B0.out.trans (HBX.out.mono B0.out.size))
    obtain ⟨x1, x2, x3⟩ := G0.out.keep HBX.out
    rcases gk with _ | q
    · obtain rfl : i = ws.length := by omega
      have j0 : ¬ ((ws.length : Int) < (ws.length : Int)) := by omega
      have HE := Lib.hid (show mrun (mT n es) s ws = x by have := HR.out; rwa [List.take_length] at this)
      clear x1 x2 x3
      go_wp2_with fail
      go_ret
      rw [HE.out]
      exact ⟨⟨_, _, rfl⟩, HB.out⟩
    · obtain ⟨l, hl1⟩ : ∃ l, ws[i]? = some l := ⟨_, List.getElem?_eq_getElem (by omega)⟩
      have hlL := HW.out l (List.mem_of_getElem? hl1)
      obtain ⟨b, off, cc, hv1, k1⟩ := (HU.out.keep HB.out).at (labsI_atH hl1)
      rw [labsI_lenH] at hv1
      injection hv1 with e1 e2 e3
      subst e1
      have HST := Lib.hid (HS.out wr _ x l (HRD.out.keep HB.out) HI.out (by rw [← HR.out]; exact HSM.out _) hlL)
      have HR2 := Lib.hid (show mrun (mT n es) s (ws.take (i + 1)) = mT n es x l by rw [take_snoc hl1, mrun_snoc, HR.out])
      have j1 : (i : Int) < (ws.length : Int) := by omega
      clear hl1 e2 e3
      go_wp2_with (go_at_call 33; (with_reducible refine HST.out.mono ?_); rintro e W1 ⟨a9, c9, rfl, i9, b9⟩; (have HI9 := Lib.hid i9); (have HB9 := Lib.hid (HBX.out.trans (b9.mono HBX.out.size))); clear b9 i9 x1 x2 x3 k1)
      go_roundg q
      case measure => omega
      case rel => exact ⟨i + 1, mT n es x l, a9, c9, by omega, by go_num, rfl, HR2, HI9, HB9⟩
end Go.Proofs.YtblkijdodojaeaaDoor

namespace Go.Proofs.YtblkijdodojaeaaDoor
open Go.RowKit
set_option linter.unusedSimpArgs false
set_option linter.unusedVariables false

theorem fwx_xo : FWX (fun x y : Bool => x != y) (.func (.func 43) #[] #[]) := fun a b na nb Lab M M' W h1 h2 h3 h4 h5 h6 h7 h8 h9 =>
  firstWord_xo a b na nb Lab 0 0 (some ⟨M, 0, none⟩) (some ⟨M', 0, none⟩) (na + 1) (nb + 1) W h1 h2 h3 h4 h5 h6 h7 h8 h9 (Nat.zero_le _) (Nat.zero_le _)
theorem fwx_of : FWX (fun x y : Bool => x && !y) (.func (.func 40) #[] #[]) := fun a b na nb Lab M M' W h1 h2 h3 h4 h5 h6 h7 h8 h9 =>
  firstWord_of a b na nb Lab 0 0 (some ⟨M, 0, none⟩) (some ⟨M', 0, none⟩) (na + 1) (nb + 1) W h1 h2 h3 h4 h5 h6 h7 h8 h9 (Nat.zero_le _) (Nat.zero_le _)
set_option maxRecDepth 100000 in
set_option maxHeartbeats 3200000 in
theorem equal_any (La S Lb T : Int) (es fs : List E3) (v u : Value) (w : World) (hrd : EdgesRd w v es) (hru : EdgesRd w u fs) (hn : es.length ≤ 9223372036854775807) (hm : fs.length ≤ 9223372036854775807) (hT : TabD w) :
    Calls Tryd.prog 12 #[grV La S v, grV Lb T u] w (CmpOut (fun x y : Bool => x != y) La S es Lb T fs w) := by
  have HC := Lib.hid (fun W h1 h2 h3 => compare_any _ _ La S Lb T es fs v u W fwx_xo h1 h2 hn hm h3)
  have b0 := below_more (below1 w (.cells #[.int .i64 La, .int .i64 S, v] 24)) (Nat.le_refl _) (below1 _ (.cells #[.int .i64 Lb, .int .i64 T, u] 24))
  have B0 := Lib.hid b0
  have G0 := Lib.hid ((BoxG.new w La S v 24).keep (below1 _ (.cells #[.int .i64 Lb, .int .i64 T, u] 24)))
  have H0 := BoxG.new (w.alloc (.cells #[.int .i64 La, .int .i64 S, v] 24)) Lb T u 24
  rw [World.size_alloc] at H0
  have RA := Lib.hid (hrd.keep b0)
  have RB := Lib.hid (hru.keep b0)
  have HT := Lib.hid (hT.keep b0)
  obtain ⟨x1, x2, x3⟩ := id G0.out
  obtain ⟨y1, y2, y3⟩ := id H0
  clear hrd hru hT b0
  go_enter Tryd.func12, Tryd.ntmps12
  go_wp2_with (go_at_call 39; (with_reducible refine (HC.out _ RA.out RB.out HT.out).mono ?_); rintro e W1 ⟨q, is, g, c, rfl, i1, f1, f2, b1⟩; (have I1 := Lib.hid i1); (have F1 := Lib.hid f1); (have F2 := Lib.hid f2); (have B1 := Lib.hid (below_more B0.out (Nat.le_refl _) b1)); clear i1 f1 f2 b1 x1 x2 x3 y1 y2 y3)
  exact bodyPost_ret (v := .tuple #[.slice g q.length c, .bool is, .int .i64 (cmpZ La S es Lb T fs)]) (by simp [results, Tryd.results12, go_sem]) rfl ⟨q, is, g, c, rfl, I1.out, F1.out, F2.out, B1.out⟩
set_option maxRecDepth 100000 in
set_option maxHeartbeats 3200000 in
theorem included_any (La S Lb T : Int) (es fs : List E3) (v u : Value) (w : World) (hrd : EdgesRd w v es) (hru : EdgesRd w u fs) (hn : es.length ≤ 9223372036854775807) (hm : fs.length ≤ 9223372036854775807) (hT : TabD w) :
    Calls Tryd.prog 10 #[grV La S v, grV Lb T u] w (CmpOut (fun x y : Bool => x && !y) La S es Lb T fs w) := by
  have HC := Lib.hid (fun W h1 h2 h3 => compare_any _ _ La S Lb T es fs v u W fwx_of h1 h2 hn hm h3)
  have b0 := below_more (below1 w (.cells #[.int .i64 La, .int .i64 S, v] 24)) (Nat.le_refl _) (below1 _ (.cells #[.int .i64 Lb, .int .i64 T, u] 24))
  have B0 := Lib.hid b0
  have G0 := Lib.hid ((BoxG.new w La S v 24).keep (below1 _ (.cells #[.int .i64 Lb, .int .i64 T, u] 24)))
  have H0 := BoxG.new (w.alloc (.cells #[.int .i64 La, .int .i64 S, v] 24)) Lb T u 24
  rw [World.size_alloc] at H0
  have RA := Lib.hid (hrd.keep b0)
  have RB := Lib.hid (hru.keep b0)
  have HT := Lib.hid (hT.keep b0)
  obtain ⟨x1, x2, x3⟩ := id G0.out
  obtain ⟨y1, y2, y3⟩ := id H0
  clear hrd hru hT b0
  go_enter Tryd.func10, Tryd.ntmps10
  go_wp2_with (go_at_call 39; (with_reducible refine (HC.out _ RA.out RB.out HT.out).mono ?_); rintro e W1 ⟨q, is, g, c, rfl, i1, f1, f2, b1⟩; (have I1 := Lib.hid i1); (have F1 := Lib.hid f1); (have F2 := Lib.hid f2); (have B1 := Lib.hid (below_more B0.out (Nat.le_refl _) b1)); clear i1 f1 f2 b1 x1 x2 x3 y1 y2 y3)
  exact bodyPost_ret (v := .tuple #[.slice g q.length c, .bool is, .int .i64 (cmpZ La S es Lb T fs)]) (by simp [results, Tryd.results10, go_sem]) rfl ⟨q, is, g, c, rfl, I1.out, F1.out, F2.out, B1.out⟩
/-- Two graphs, one behind the other. -/
def Two (p : Nat) (La S Lb T : Int) (v u : Value) (W : World) : Prop := W.cell? ⟨p, 0, none⟩ = some (.int .i64 La) ∧ W.cell? ⟨p, 1, none⟩ = some (.int .i64 S) ∧ W.cell? ⟨p, 2, none⟩ = some v ∧ W.cell? ⟨p, 3, none⟩ = some (.int .i64 Lb) ∧ W.cell? ⟨p, 4, none⟩ = some (.int .i64 T) ∧ W.cell? ⟨p, 5, none⟩ = some u
theorem Two.keep {p : Nat} {La S Lb T : Int} {v u : Value} {W W' : World} (h : Two p La S Lb T v u W) (hb : Below W.heap.size W W') : Two p La S Lb T v u W' :=
  ⟨cell_keep h.1 hb, cell_keep h.2.1 hb, cell_keep h.2.2.1 hb, cell_keep h.2.2.2.1 hb, cell_keep h.2.2.2.2.1 hb, cell_keep h.2.2.2.2.2 hb⟩
set_option maxRecDepth 100000 in
set_option maxHeartbeats 3200000 in
theorem idx2_any (La S Lb T : Int) (a a' : Option Addr) (k k' c c' p : Nat) (w : World) (h : Two p La S Lb T (.slice a k c) (.slice a' k' c') w) :
    Calls Tryd.prog 71 #[.slice (some ⟨p, 0, none⟩) 2 2, .func (.func 36) #[] #[]] w fun e w' => e = .returned (.int .i64 (if great13B La S k = true then 0 else if great13B Lb T k' = true then 1 else -1)) ∧ Below w.heap.size w w' := by
  have hE : ∀ (args : Array Value) (w : World), (callFunc 36 args).run Tryd.prog w = .ok (.enter 36 args) w := fun args w => by
    simp [callFunc, go_sem, Tryd.func36, Tryd.f36]
  have H1 := Lib.hid (fun W => great13_any La S a k c W)
  have H2 := Lib.hid (fun W => great13_any Lb T a' k' c' W)
  have HT := Lib.hid h
  obtain ⟨x1, x2, x3, x4, x5, x6⟩ := id h
  clear h
  generalize great13B La S k = p1 at *
  generalize great13B Lb T k' = p2 at *
  cases p1
  · cases p2
    · go_enter Tryd.func71, Tryd.ntmps71
      go_wp2_with fail
      refine wp_loop_rounds 3 ?_
      rw [rounds_succ]
      go_wp2_with (go_at_call 36; (with_reducible refine (H1.out _).mono ?_); rintro e W1 ⟨rfl, b1⟩; (have T1 := Lib.hid (HT.out.keep b1)); (have B1 := Lib.hid b1); clear b1 x1 x2 x3 x4 x5 x6; (obtain ⟨x1, x2, x3, x4, x5, x6⟩ := id T1.out))
      rw [rounds_succ]
      go_wp2_with (go_at_call 36; (with_reducible refine (H2.out _).mono ?_); rintro e W2 ⟨rfl, b2⟩; (have B2 := Lib.hid (B1.out.trans (b2.mono B1.out.size))); clear b2 x1 x2 x3 x4 x5 x6)
      rw [rounds_succ]
      go_wp2_with fail
      go_ret
      exact ⟨rfl, B2.out⟩
    · go_enter Tryd.func71, Tryd.ntmps71
      go_wp2_with fail
      refine wp_loop_rounds 2 ?_
      rw [rounds_succ]
      go_wp2_with (go_at_call 36; (with_reducible refine (H1.out _).mono ?_); rintro e W1 ⟨rfl, b1⟩; (have T1 := Lib.hid (HT.out.keep b1)); (have B1 := Lib.hid b1); clear b1 x1 x2 x3 x4 x5 x6; (obtain ⟨x1, x2, x3, x4, x5, x6⟩ := id T1.out))
      rw [rounds_succ]
      go_wp2_with (go_at_call 36; (with_reducible refine (H2.out _).mono ?_); rintro e W2 ⟨rfl, b2⟩; (have B2 := Lib.hid (B1.out.trans (b2.mono B1.out.size))); clear b2 x1 x2 x3 x4 x5 x6)
      go_ret
      exact ⟨rfl, B2.out⟩
  · go_enter Tryd.func71, Tryd.ntmps71
    go_wp2_with fail
    refine wp_loop_rounds 1 ?_
    rw [rounds_succ]
    go_wp2_with (go_at_call 36; (with_reducible refine (H1.out _).mono ?_); rintro e W1 ⟨rfl, b1⟩; (have B1 := Lib.hid b1); clear b1 x1 x2 x3 x4 x5 x6)
    go_ret
    exact ⟨rfl, B1.out⟩
set_option maxRecDepth 100000 in
set_option maxHeartbeats 3200000 in
theorem great2_any (La S Lb T : Int) (a a' : Option Addr) (k k' c c' p : Nat) (w : World) (h : Two p La S Lb T (.slice a k c) (.slice a' k' c') w) :
    Calls Tryd.prog 8 #[.slice (some ⟨p, 0, none⟩) 2 2] w fun e w' => e = .returned (.bool (great13B La S k || great13B Lb T k')) ∧ Below w.heap.size w w' := by
  have HI := Lib.hid (idx2_any La S Lb T a a' k k' c c' p w h)
  have HC : Hid (Calls Tryd.prog 35 #[.slice (some ⟨p, 0, none⟩) 2 2, .func (.func 36) #[] #[]] w fun e w' => e = .returned (.bool (great13B La S k || great13B Lb T k')) ∧ Below w.heap.size w w') := Lib.hid (by
    clear h
    generalize great13B La S k = p1 at *
    generalize great13B Lb T k' = p2 at *
    cases p1 <;> cases p2
    all_goals
      go_enter Tryd.func35, Tryd.ntmps35
      go_wp2_with (go_at_call 71; (with_reducible refine HI.out.mono ?_); rintro e W1 ⟨rfl, b1⟩; (have B1 := Lib.hid b1); clear b1)
      go_ret
      exact ⟨rfl, B1.out⟩)
  clear h HI
  go_enter Tryd.func8, Tryd.ntmps8
  go_wp2_with (go_at_call 35; (with_reducible refine HC.out.mono ?_); rintro e W1 ⟨rfl, b1⟩; (have B1 := Lib.hid b1); clear b1)
  go_ret
  exact ⟨rfl, B1.out⟩
set_option maxRecDepth 100000 in
set_option maxHeartbeats 3200000 in
theorem less_any (l m : List Int) (a a' : Option Addr) (c c' : Nat) (w : World) (hu : IntsRd w (.slice a l.length c) l) (hv : IntsRd w (.slice a' m.length c') m) (hl : l.length ≤ 100000) (hm : m.length ≤ 100000) :
    Calls Tryd.prog 14 #[.slice a l.length c, .slice a' m.length c'] w fun e w' => e = .returned (.bool (decide (slt l m))) ∧ Below w.heap.size w w' := by
  have HS := Lib.hid (cmpS_any l m _ _ w hu hv (by omega) (by omega))
  by_cases h : l.length = m.length
  · have HE := Lib.hid (show decide (slt l m) = decide (cmpL l m < 0) by rw [decide_eq_decide]; unfold slt; exact ⟨fun h2 => h2.elim (fun h3 => absurd h3 (by omega)) (fun h3 => h3.2), fun h2 => .inr ⟨h, h2⟩⟩)
    have d1 : ((l.length : Int) != (m.length : Int)) = false := by rw [h]; simp
    generalize decide (slt l m) = D at *
    generalize cmpL l m = Z at *
    generalize l.length = p at *
    generalize m.length = q at *
    clear hu hv
    subst h
    go_enter Tryd.func14, Tryd.ntmps14
    go_wp2_with (go_at_call 34; (with_reducible refine HS.out.mono ?_); rintro e W1 ⟨rfl, rfl⟩)
    go_ret
    rw [HE.out]
    exact ⟨rfl, Below.refl _ _⟩
  · have HE := Lib.hid (show decide (slt l m) = decide (l.length < m.length) by rw [decide_eq_decide]; unfold slt; exact ⟨fun h2 => h2.elim id (fun h3 => absurd h3.1 h), .inl⟩)
    have d1 : ((l.length : Int) != (m.length : Int)) = true := by rw [bne_iff_ne]; omega
    generalize decide (slt l m) = D at *
    generalize cmpL l m = Z at *
    generalize l.length = p at *
    generalize m.length = q at *
    clear hu hv
    go_enter Tryd.func14, Tryd.ntmps14
    go_wp2_with fail
    go_ret
    rw [HE.out]
    exact ⟨by simp, Below.refl _ _⟩
/-- What two graphs' three first words have to do with each other. -/
theorem fw_both {a b : Nat → Nat → Nat} {na nb La s t : Nat} {x p q : List Int} {ix ip iq : Bool} (h : FW (fun x y : Bool => x != y) a b na nb La s t x ix) (h1 : FW (fun x y : Bool => x && !y) a b na nb La s t p ip) (h2 : FW (fun x y : Bool => x && !y) b a nb na La t s q iq) :
    ix = (ip || iq) ∧ x = (if ip = false ∨ (iq = true ∧ slt q p) then q else p) := by
  have hxo : ∀ w, Dif (fun x y : Bool => x != y) a b na nb s t w = (Dif (fun x y : Bool => x && !y) a b na nb s t w || Dif (fun x y : Bool => x && !y) b a nb na t s w) := fun w => by
    unfold Dif
    cases decide (mrun a s w ≠ na) <;> cases decide (mrun b t w ≠ nb) <;> rfl
  rcases h1 with ⟨rfl, wp, rfl, hp1, hp2, hp3⟩ | ⟨rfl, rfl, hp⟩
  · have hx1 : ix = true := by
      rcases h with ⟨h, -⟩ | ⟨-, -, hn⟩
      · exact h
      · have := hn wp hp1; rw [hxo, hp2, Bool.true_or] at this; cases this
    subst hx1
    refine ⟨by rw [Bool.true_or], ?_⟩
    rcases h with ⟨-, wx, rfl, hx1, hx2, hx3⟩ | ⟨h, -, -⟩
    · have e1 := hx3 wp hp1 (by rw [hxo, hp2, Bool.true_or])
      rcases h2 with ⟨rfl, wq, rfl, hq1, hq2, hq3⟩ | ⟨rfl, rfl, hq⟩
      · have e2 := hx3 wq hq1 (by rw [hxo, hq2, Bool.or_true])
        rw [hxo, Bool.or_eq_true] at hx2
        by_cases hlt : slt (labsI wq) (labsI wp)
        · rw [if_pos (.inr ⟨rfl, hlt⟩)]
          rcases hx2 with hx2 | hx2
          · exact absurd (hp3 wx hx1 hx2) (fun h => slt_irrefl _ (slt_of_slt_sle hlt (sle_trans h e2)))
          · exact sle_antisymm e2 (hq3 wx hx1 hx2)
        · rw [if_neg (fun h => h.elim (fun h => by cases h) (fun h => hlt h.2))]
          rcases hx2 with hx2 | hx2
          · exact sle_antisymm e1 (hp3 wx hx1 hx2)
          · have e3 := hq3 wx hx1 hx2
            rcases sle_or (labsI wp) (labsI wq) with h4 | h4
            · exact sle_antisymm e1 (sle_trans h4 e3)
            · exact absurd h4 hlt
      · rw [if_neg (fun h => h.elim (fun h => by cases h) (fun h => by cases h.1))]
        rw [hxo, hq wx hx1, Bool.or_false] at hx2
        exact sle_antisymm e1 (hp3 wx hx1 hx2)
    · cases h
  · rw [if_pos (.inl rfl), Bool.false_or]
    rcases h2 with ⟨rfl, wq, rfl, hq1, hq2, hq3⟩ | ⟨rfl, rfl, hq⟩
    · rcases h with ⟨rfl, wx, rfl, hx1, hx2, hx3⟩ | ⟨-, -, hn⟩
      · refine ⟨rfl, ?_⟩
        have e2 := hx3 wq hq1 (by rw [hxo, hq2, Bool.or_true])
        rw [hxo, hp wx hx1, Bool.false_or] at hx2
        exact sle_antisymm e2 (hq3 wx hx1 hx2)
      · have := hn wq hq1; rw [hxo, hq2, Bool.or_true] at this; cases this
    · rcases h with ⟨rfl, wx, rfl, hx1, hx2, hx3⟩ | ⟨rfl, rfl, hn⟩
      · rw [hxo, hp wx hx1, hq wx hx1] at hx2; cases hx2
      · exact ⟨rfl, rfl⟩
theorem fw_same {a b : Nat → Nat → Nat} {na nb La s t : Nat} {x y : List Int} {ix iy : Bool} (h : FW (fun x y : Bool => x != y) a b na nb La s t x ix) (h1 : FW (fun x y : Bool => x != y) b a nb na La t s y iy) : ix = iy ∧ x = y := by
  have hs : ∀ w, Dif (fun x y : Bool => x != y) a b na nb s t w = Dif (fun x y : Bool => x != y) b a nb na t s w := fun w => by
    unfold Dif
    cases decide (mrun a s w ≠ na) <;> cases decide (mrun b t w ≠ nb) <;> rfl
  rcases h with ⟨rfl, w, rfl, h2, h3, h4⟩ | ⟨rfl, rfl, h2⟩ <;> rcases h1 with ⟨rfl, w', rfl, h5, h6, h7⟩ | ⟨rfl, rfl, h5⟩
  · exact ⟨rfl, sle_antisymm (h4 w' h5 (by rw [hs]; exact h6)) (h7 w h2 (by rw [← hs]; exact h3))⟩
  · rw [hs, h5 w h2] at h3; cases h3
  · rw [← hs, h2 w' h5] at h6; cases h6
  · exact ⟨rfl, rfl⟩
end Go.Proofs.YtblkijdodojaeaaDoor
