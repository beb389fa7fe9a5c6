/- What integer.Mul returns: the product. Condition: at most 10000000 digits each. -/
import Derived.Test.YtigdjlhihhakmaaGreatDoorQ09
import Derived.Deep.RegionHeld3
import Derived.Deep.DeepCutAuto

namespace Go.Proofs.YtigdjlhihhakmaaGreatDoor
open Go.RowKit

set_option maxRecDepth 100000 in
set_option maxHeartbeats 3200000 in
theorem imul_any (v1 v2 : Value) (z1 z2 : Int) (k1 k2 : Nat) (w : World) (h1 : IsInt v1 z1 k1) (h2 : IsInt v2 z2 k2) :
    Calls Tryz.prog 57 #[v1, v2] w (IntOut w (z1 * z2)) := by
  obtain ⟨na, sa, rfl, hz1, hs1, hk1, hkk1⟩ := h1
  obtain ⟨nb, sb, rfl, hz2, hs2, hk2, hkk2⟩ := h2
  have g1 : vB sa.data.toList < 4294967296 ^ k1 := by rw [← natAbs_zv na sa, hz1]; exact hk1
  have g2 : vB sb.data.toList < 4294967296 ^ k2 := by rw [← natAbs_zv nb sb, hz2]; exact hk2
  have G1 : Hid (vB sa.data.toList < 4294967296 ^ k1) := g1
  have G2 : Hid (vB sb.data.toList < 4294967296 ^ k2) := g2
  have G3 : Hid (vB sa.data.toList * vB sb.data.toList < 4294967296 ^ (k1 + k2)) := prod_bound g1 g2
  have Hs : Hid (z1 * z2 = if (na != nb) then -((vB sa.data.toList * vB sb.data.toList : Nat) : Int) else ((vB sa.data.toList * vB sb.data.toList : Nat) : Int)) := by rw [← hz1, ← hz2]; exact zv_mul na nb sa sb
  clear hz1 hz2 hk1 hk2 g1 g2
  have hr := (ResCell.new ((w.alloc (.cells #[.bool na, .string sa] 23)).alloc (.cells #[.bool nb, .string sb] 23)) 23).drew
  rw [World.size_alloc, World.size_alloc] at hr
  have hb := below3 w (.cells #[.bool na, .string sa] 23) (.cells #[.bool nb, .string sb] 23) (.cells #[.bool false, .string ⟨#[]⟩] 23)
  have e1 : w.heap.size + 1 + 1 ≠ w.heap.size := by omega
  go_enter Tryz.func57, Tryz.ntmps57
  go_upto_region 1 with fail
  go_region_held3 (fun W => W.cell? ⟨w.heap.size, 0, none⟩ = some (.bool na) ∧ W.cell? ⟨w.heap.size, 1, none⟩ = some (.string sa) ∧ W.cell? ⟨w.heap.size + 1, 0, none⟩ = some (.bool nb) ∧ W.cell? ⟨w.heap.size + 1, 1, none⟩ = some (.string sb)) (first | exact keep4 (by assumption) (by assumption) | go_keep)
    (first
      | (go_at_call_of 94 (Value.agg #[Value.bool na, Value.string sa]); refine (magnitude_any na sa _ (by omega)).mono ?_; rintro e W1 ⟨A1, n1, c1, rfl, i1, b1⟩; have l1 := i1.len G1.out)
      | (go_at_call_of 94 (Value.agg #[Value.bool nb, Value.string sb]); refine (magnitude_any nb sb _ (by omega)).mono ?_; rintro e W2 ⟨A2, n2, c2, rfl, i2, b2⟩; have l2 := i2.len G2.out)
      | (go_at_call 98; refine (mul_any A1 A2 n1 n2 c1 c2 _ _ _ (i1.below (Nat.le_refl _) b2) i2 (by omega) (by omega)).mono ?_; rintro e W3 ⟨A3, n3, c3, rfl, i3, b3⟩; have l3 := i3.len G3.out)
      | (go_at_call 42; refine (signed_any (na != nb) A3 n3 c3 _ _ i3 (by omega)).mono ?_; rintro e W4 ⟨rfl, b4⟩; obtain ⟨r1, r2, r3, r4⟩ := (((hr.keep b1).keep b2).keep b3).keep b4; rw [ivN_eq (na != nb) _ (z1 * z2) Hs.out]))
  all_goals
    go_wp2
    exact bodyPost_ret (v := .agg #[.bool (sg (z1 * z2)), .string (mg (z1 * z2))]) (by simp [results, Tryz.results57, go_sem, r1, r2]) rfl ⟨rfl, below_more2 (below_more (below_more (below_more hb.drew (Nat.le_refl _) b1) (Nat.le_refl _) b2) (Nat.le_refl _) b3) (Nat.le_refl _) b4 (by show w.heap.size ≤ w.heap.size + 1 + 1; omega) (by show w.heap.size ≤ w.heap.size + 1 + 1; omega)⟩
end Go.Proofs.YtigdjlhihhakmaaGreatDoor
