/- What integer.Sub returns: the difference. Condition: at most 10000000 digits each. -/
import Derived.Test.YtdbfghppjhmelaaDoorIadd
import Derived.Test.YtdbfghppjhmelaaDoorIneg
namespace Go.Proofs.YtdbfghppjhmelaaDoor
open Go.RowKit

theorem sub_eq (a b : Int) : a - b = a + -b := by omega
theorem natAbs_neg_lt {z : Int} {k : Nat} (h : z.natAbs < 4294967296 ^ k) : (-z).natAbs < 4294967296 ^ k := by rw [Int.natAbs_neg]; exact h

set_option maxRecDepth 100000 in
set_option maxHeartbeats 3200000 in
theorem isub_any (v1 v2 : Value) (z1 z2 : Int) (k1 k2 : Nat) (w : World) (h1 : IsInt v1 z1 k1) (h2 : IsInt v2 z2 k2) :
    Calls Tryd.prog 19 #[v1, v2] w (IntOut w (z1 - z2)) := by
  have Hi1 : Hid (IsInt v1 z1 k1) := h1
  have Hi2 : Hid (IsInt v2 z2 k2) := h2
  obtain ⟨na, sa, rfl, hz1, hs1, hk1, hkk1⟩ := h1
  obtain ⟨nb, sb, rfl, hz2, hs2, hk2, hkk2⟩ := h2
  have Hk2 : Hid ((-z2).natAbs < 4294967296 ^ k2 ∧ k2 ≤ 10000000) := ⟨natAbs_neg_lt hk2, hkk2⟩
  clear hz1 hz2 hk1 hk2 hkk1 hkk2 hs1 hs2
  rw [sub_eq]
  have hr := (ResCell.new ((w.alloc (.cells #[.bool na, .string sa] 23)).alloc (.cells #[.bool nb, .string sb] 23)) 23).drew
  rw [World.size_alloc, World.size_alloc] at hr
  have hb := below3 w (.cells #[.bool na, .string sa] 23) (.cells #[.bool nb, .string sb] 23) (.cells #[.bool false, .string ⟨#[]⟩] 23)
  have e1 : w.heap.size + 1 + 1 ≠ w.heap.size := by omega
  go_enter Tryd.func19, Tryd.ntmps19
  go_upto_region 1 with fail
  go_region_held3 (fun W => W.cell? ⟨w.heap.size, 0, none⟩ = some (.bool na) ∧ W.cell? ⟨w.heap.size, 1, none⟩ = some (.string sa) ∧ W.cell? ⟨w.heap.size + 1, 0, none⟩ = some (.bool nb) ∧ W.cell? ⟨w.heap.size + 1, 1, none⟩ = some (.string sb)) (first | exact keep4 (by assumption) (by assumption) | go_keep)
    (first
      | (go_at_call 20; refine (ineg_any _ z2 k2 _ Hi2.out).mono ?_; rintro e W1 ⟨rfl, b1⟩)
      | (go_at_call 17; refine (iadd_any _ _ z1 (-z2) k1 k2 _ Hi1.out (isInt_mg Hk2.out.1 Hk2.out.2)).mono ?_; rintro e W4 ⟨rfl, b4⟩; obtain ⟨r1, r2, r3, r4⟩ := (hr.keep b1).keep b4))
  all_goals
    go_wp2
    exact bodyPost_ret (v := .agg #[.bool (sg (z1 + -z2)), .string (mg (z1 + -z2))]) (by simp [results, Tryd.results19, go_sem, r1, r2]) rfl ⟨rfl, below_more2 (below_more hb.drew (Nat.le_refl _) b1) (Nat.le_refl _) b4 (by show w.heap.size ≤ w.heap.size + 1 + 1; omega) (by show w.heap.size ≤ w.heap.size + 1 + 1; omega)⟩
end Go.Proofs.YtdbfghppjhmelaaDoor
