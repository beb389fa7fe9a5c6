/- What integer.Div returns for the divisor 0. -/
import Derived.Test.YtmogadgfjcakfaaDoorDgr
import Derived.Deep.RegionHeld3
import Derived.Deep.DeepCutAuto
namespace Go.Proofs.YtmogadgfjcakfaaDoor
open Go.RowKit

set_option maxRecDepth 100000 in
set_option maxHeartbeats 3200000 in
theorem idiv_zero (v1 v2 : Value) (z1 : Int) (k1 k2 : Nat) (w : World) (h1 : IsInt v1 z1 k1) (h2 : IsInt v2 0 k2) :
    Calls Tryd.prog 15 #[v1, v2] w fun e w' => e = .returned (.tuple #[.agg #[.bool false, .string ⟨#[]⟩], .agg #[.bool false, .string ⟨#[]⟩], .int .i64 9]) ∧ Below w.heap.size w w' := by
  obtain ⟨na, sa, rfl, hz1, hs1, hk1, hkk1⟩ := h1
  obtain ⟨nb, sb, rfl, hz2, hs2, hk2, hkk2⟩ := h2
  have HM : Hid (vB sb.data.toList = 0) := by show _ = _; rw [← natAbs_zv nb sb, hz2]; rfl
  clear hz1 hz2 hk1 hk2
  have S00 := boxes2 w 23 na nb sa sb
  have hb := (below3 w (.cells #[.bool na, .string sa] 23) (.cells #[.bool nb, .string sb] 23) (.cells #[.bool false, .string ⟨#[]⟩] 23)).alloc (by rw [World.size_alloc, World.size_alloc, World.size_alloc]; omega) (.cells #[.bool false, .string ⟨#[]⟩] 23)
  have r5 := (ResCell.new ((w.alloc (.cells #[.bool na, .string sa] 23)).alloc (.cells #[.bool nb, .string sb] 23)) 23).keep (below1 _ (.cells #[.bool false, .string ⟨#[]⟩] 23))
  have r6 := ResCell.new (((w.alloc (.cells #[.bool na, .string sa] 23)).alloc (.cells #[.bool nb, .string sb] 23)).alloc (.cells #[.bool false, .string ⟨#[]⟩] 23)) 23
  rw [World.size_alloc, World.size_alloc] at r5
  rw [World.size_alloc, World.size_alloc, World.size_alloc] at r6
  have e5 : w.heap.size + 1 + 1 ≠ w.heap.size + 1 + 1 + 1 := by omega
  have e6 : w.heap.size + 1 + 1 + 1 ≠ w.heap.size + 1 + 1 := by omega
  go_enter Tryd.func15, Tryd.ntmps15
  go_upto_region 1 with fail
  go_region_held3 (fun W => W.cell? ⟨w.heap.size, 0, none⟩ = some (.bool na) ∧ W.cell? ⟨w.heap.size, 1, none⟩ = some (.string sa) ∧ W.cell? ⟨w.heap.size + 1, 0, none⟩ = some (.bool nb) ∧ W.cell? ⟨w.heap.size + 1, 1, none⟩ = some (.string sb)) (first | exact keep4 (by assumption) (by assumption) | exact keep4aa S00 | go_keep)
    (first
      | (go_at_call_of 26 (Value.agg #[Value.bool na, Value.string sa]); refine (magnitude_any na sa _ (by omega)).mono ?_; rintro e W1 ⟨A1, n1, c1, rfl, i1, b1⟩)
      | (go_at_call_of 26 (Value.agg #[Value.bool nb, Value.string sb]); refine (magnitude_any nb sb _ (by omega)).mono ?_; rintro e W2 ⟨A2, n2, c2, rfl, i2, b2⟩; rw [HM.out] at i2; obtain rfl := (nat_none i2).2 rfl; obtain ⟨r1, r2, r3, r4⟩ := (r5.drew.keep b1).keep b2; obtain ⟨q1, q2, q3, q4⟩ := (r6.drew.keep b1).keep b2))
  all_goals
    go_wp2
    exact bodyPost_ret (v := .tuple #[.agg #[.bool false, .string ⟨#[]⟩], .agg #[.bool false, .string ⟨#[]⟩], .int .i64 9]) (by simp [results, Tryd.results15, go_sem, r1, r2, q1, q2]) rfl ⟨rfl, below_more2 (below_more2 (below_more hb.drew (Nat.le_refl _) b1) (Nat.le_refl _) b2 (by show w.heap.size ≤ w.heap.size + 1 + 1; omega) (by show w.heap.size ≤ w.heap.size + 1 + 1; omega)) (Nat.le_refl _) (Below.refl _ _) (by show w.heap.size ≤ w.heap.size + 1 + 1 + 1; omega) (by show w.heap.size ≤ w.heap.size + 1 + 1 + 1; omega)⟩
end Go.Proofs.YtmogadgfjcakfaaDoor
