/- What integer.Neg returns: the opposite. No condition but the sizes. -/
import Derived.Test.YtmdkkeklihfdgaaGreatDoorInt
namespace Go.Proofs.YtmdkkeklihfdgaaGreatDoor
open Go.RowKit

set_option maxRecDepth 100000 in
set_option maxHeartbeats 800000 in
theorem ineg_any (v1 : Value) (z1 : Int) (k1 : Nat) (w : World) (h1 : IsInt v1 z1 k1) :
    Calls Tryz.prog 12 #[v1] w (IntOut w (-z1)) := by
  obtain ⟨na, sa, rfl, hz1, hs1, hk1, hkk1⟩ := h1
  have Hz1 : Hid (zv (!na) sa = -z1) := by rw [← hz1]; exact zv_neg na sa
  clear hz1 hk1
  have hr := ResCell.new (w.alloc (.cells #[.bool na, .string sa] 23)) 23
  rw [World.size_alloc] at hr
  have hb := below2 w (.cells #[.bool na, .string sa] 23) (.cells #[.bool false, .string ⟨#[]⟩] 23)
  go_enter Tryz.func12, Tryz.ntmps12
  go_wp2_with fail
  refine (can_any (!na) sa _).mono ?_
  rintro e W1 ⟨rfl, b1⟩
  rw [Hz1.out]
  obtain ⟨r1, r2, r3, r4⟩ := hr.keep b1
  go_wp2
  exact bodyPost_ret (v := .agg #[.bool (sg (-z1)), .string (mg (-z1))]) (by simp [results, Tryz.results12, go_sem, r1, r2]) rfl ⟨rfl, below_more2 hb (Nat.le_refl _) b1 (by show w.heap.size ≤ w.heap.size + 1; omega) (by show w.heap.size ≤ w.heap.size + 1; omega)⟩
end Go.Proofs.YtmdkkeklihfdgaaGreatDoor
