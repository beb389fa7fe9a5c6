/- What integer.Add returns: the sum. Condition: at most 1000000 digits. -/
import Derived.Test.YtgcogpfmhmmgdaaGreatDoorQ08
import Derived.Deep.RegionHeld3
import Derived.Deep.DeepCutAuto

namespace Go.Proofs.YtgcogpfmhmmgdaaGreatDoor
open Go.RowKit

set_option maxRecDepth 100000 in
set_option maxHeartbeats 3200000 in
theorem iadd_any (v1 v2 : Value) (z1 z2 : Int) (k1 k2 : Nat) (w : World) (h1 : IsInt v1 z1 k1) (h2 : IsInt v2 z2 k2) :
    Calls Tryz.prog 37 #[v1, v2] w (IntOut w (z1 + z2)) := by
  obtain ⟨na, sa, rfl, hz1, hs1, hk1, hkk1⟩ := h1
  obtain ⟨nb, sb, rfl, hz2, hs2, hk2, hkk2⟩ := h2
  go_enter Tryz.func37, Tryz.ntmps37
  go_upto_region 1 with fail
  go_cut [5, 6] (fun s5 s6 wx => ∃ A1 n1 c1 A2 n2 c2, s5 = .slice A1 n1 c1 ∧ s6 = .slice A2 n2 c2 ∧ IsNat wx A1 n1 c1 (vB sa.data.toList) ∧ IsNat wx A2 n2 c2 (vB sb.data.toList) ∧ Below w.heap.size w wx ∧
    wx.cell? ⟨w.heap.size, 0, none⟩ = some (.bool na) ∧ wx.cell? ⟨w.heap.size + 1, 0, none⟩ = some (.bool nb) ∧ ResCell wx (w.heap.size + 1 + 1))
  case first =>
    go_region_held3 (fun W => W.cell? ⟨w.heap.size, 0, none⟩ = some (.bool na) ∧ W.cell? ⟨w.heap.size, 1, none⟩ = some (.string sa) ∧ W.cell? ⟨w.heap.size + 1, 0, none⟩ = some (.bool nb) ∧ W.cell? ⟨w.heap.size + 1, 1, none⟩ = some (.string sb)) (first | exact keep4 (by assumption) (by assumption) | go_keep)
      (first
        | (go_at_call_of 73 (Value.agg #[Value.bool na, Value.string sa]); refine (magnitude_any na sa _ (by omega)).mono ?_; rintro e W1 ⟨A1, n1, c1, rfl, i1, b1⟩)
        | (go_at_call_of 73 (Value.agg #[Value.bool nb, Value.string sb]); refine (magnitude_any nb sb _ (by omega)).mono ?_; rintro e W2 ⟨A2, n2, c2, rfl, i2, b2⟩))
    go_wp2_with fail
    go_meet
    have hr := (ResCell.new ((w.alloc (.cells #[.bool na, .string sa] 27)).alloc (.cells #[.bool nb, .string sb] 27)) 27).drew
    have hb0 : Below w.heap.size w W2 := below_more (below_more (below3 w _ _ _).drew (Nat.le_refl _) b1) (Nat.le_refl _) b2
    rename_i hS
    exact ⟨A1, n1, c1, A2, n2, c2, rfl, rfl, i1.below (Nat.le_refl _) b2, i2, hb0, hS.1, hS.2.2.1, by have h9 := (hr.keep b1).keep b2; rw [World.size_alloc, World.size_alloc] at h9; exact h9⟩
  case rest =>
    obtain ⟨A1, n1, c1, A2, n2, c2, rfl, rfl, i1, i2, hb, q1, q2, hr⟩ := hcut
    have g1 : vB sa.data.toList < 4294967296 ^ k1 := by rw [← natAbs_zv na sa, hz1]; exact hk1
    have g2 : vB sb.data.toList < 4294967296 ^ k2 := by rw [← natAbs_zv nb sb, hz2]; exact hk2
    have l1 : n1 ≤ 10000000 := by have := i1.len g1; omega
    have l2 : n2 ≤ 10000000 := by have := i2.len g2; omega
    have l3 : k1 + k2 + 1 ≤ 1000000000 := by omega
    have H3 : Hid (vB sa.data.toList + vB sb.data.toList < 4294967296 ^ (k1 + k2 + 1)) := sum_bound g1 g2
    have H4 : Hid (vB sb.data.toList - vB sa.data.toList < 4294967296 ^ (k1 + k2 + 1)) := Nat.lt_of_le_of_lt (Nat.le_trans (Nat.sub_le _ _) (Nat.le_add_left _ _)) (sum_bound g1 g2)
    have H5 : Hid (vB sa.data.toList - vB sb.data.toList < 4294967296 ^ (k1 + k2 + 1)) := Nat.lt_of_le_of_lt (Nat.le_trans (Nat.sub_le _ _) (Nat.le_add_right _ _)) (sum_bound g1 g2)
    have Hz1 : Hid (zv na sa = z1) := hz1
    have Hz2 : Hid (zv nb sb = z2) := hz2
    clear hz1 hz2 hk1 hk2 hkk1 hkk2 hs1 hs2 g1 g2
    cases na <;> cases nb
    · have Hs : Hid (z1 + z2 = if false then -((vB sa.data.toList + vB sb.data.toList : Nat) : Int) else ((vB sa.data.toList + vB sb.data.toList : Nat) : Int)) := by rw [← Hz1.out, ← Hz2.out]; exact zv_same false sa sb
      go_wp2_with fail
      go_region_with (first
        | (go_at_call 75; refine (add_any A1 A2 n1 n2 c1 c2 _ _ _ (by exact i1) (by exact i2) (by omega) (by omega)).mono ?_; rintro e W3 ⟨A3, n3, c3, rfl, i3, b3⟩; have q3 := cell_keep (Wp := wc.drew) q1 b3)
        | (go_at_call 74; refine (signed_any false A3 n3 c3 _ _ (by exact i3) (by have := i3.len H3.out; omega)).mono ?_; rintro e W4 ⟨rfl, b4⟩; obtain ⟨r1, r2, r3, r4⟩ := (hr.drew.keep b3).keep b4; rw [ivN_eq false _ (z1 + z2) Hs.out]))
      all_goals
        go_wp2
        exact bodyPost_ret (v := .agg #[.bool (sg (z1 + z2)), .string (mg (z1 + z2))]) (by simp [results, Tryz.results37, go_sem, r1, r2]) rfl ⟨rfl, below_more2 (below_more hb.drew (Nat.le_refl _) b3) (Nat.le_refl _) b4 (by show w.heap.size ≤ w.heap.size + 1 + 1; omega) (by show w.heap.size ≤ w.heap.size + 1 + 1; omega)⟩
    · by_cases hlt : vB sa.data.toList < vB sb.data.toList
      · have hc : cmpN (vB sa.data.toList) (vB sb.data.toList) < 0 := by unfold cmpN; rw [if_pos hlt]; omega
        have Hs : Hid (z1 + z2 = if true then -((vB sb.data.toList - vB sa.data.toList : Nat) : Int) else ((vB sb.data.toList - vB sa.data.toList : Nat) : Int)) := by rw [← Hz1.out, ← Hz2.out]; exact zv_lt true sa sb hlt
        go_wp2_with (go_at_call 76; refine (compare_any A1 A2 n1 n2 c1 c2 _ _ _ i1 i2).mono ?_; rintro e w' ⟨rfl, q, rfl⟩)
        have hb9 : Below w.heap.size w (wc.drewN q) := ⟨hb.os, hb.tape, hb.output, hb.size, hb.block⟩
        have hr9 : ResCell (wc.drewN q) (w.heap.size + 1 + 1) := hr
        go_region_with (first
          | (go_at_call 77; refine (subtract_any A2 A1 n2 n1 c2 c1 _ _ _ (by exact i2) (by exact i1) (by omega) (by omega) (by omega)).mono ?_; rintro e W3 ⟨A3, n3, c3, rfl, i3, b3⟩; have q3 := cell_keep (Wp := (wc.drewN q).drew) q2 b3)
          | (go_at_call 74; refine (signed_any true A3 n3 c3 _ _ (by exact i3) (by have := i3.len H4.out; omega)).mono ?_; rintro e W4 ⟨rfl, b4⟩; obtain ⟨r1, r2, r3, r4⟩ := (hr9.drew.keep b3).keep b4; rw [ivN_eq true _ (z1 + z2) Hs.out]))
        all_goals
          go_wp2
          exact bodyPost_ret (v := .agg #[.bool (sg (z1 + z2)), .string (mg (z1 + z2))]) (by simp [results, Tryz.results37, go_sem, r1, r2]) rfl ⟨rfl, below_more2 (below_more hb9.drew (Nat.le_refl _) b3) (Nat.le_refl _) b4 (by show w.heap.size ≤ w.heap.size + 1 + 1; omega) (by show w.heap.size ≤ w.heap.size + 1 + 1; omega)⟩
      · have hc : ¬ cmpN (vB sa.data.toList) (vB sb.data.toList) < 0 := by unfold cmpN; rw [if_neg hlt]; split <;> omega
        have Hs : Hid (z1 + z2 = if false then -((vB sa.data.toList - vB sb.data.toList : Nat) : Int) else ((vB sa.data.toList - vB sb.data.toList : Nat) : Int)) := by rw [← Hz1.out, ← Hz2.out]; exact zv_ge false sa sb hlt
        go_wp2_with (go_at_call 76; refine (compare_any A1 A2 n1 n2 c1 c2 _ _ _ i1 i2).mono ?_; rintro e w' ⟨rfl, q, rfl⟩)
        have hb9 : Below w.heap.size w (wc.drewN q) := ⟨hb.os, hb.tape, hb.output, hb.size, hb.block⟩
        have hr9 : ResCell (wc.drewN q) (w.heap.size + 1 + 1) := hr
        go_region_with (first
          | (go_at_call 77; refine (subtract_any A1 A2 n1 n2 c1 c2 _ _ _ (by exact i1) (by exact i2) (by omega) (by omega) (by omega)).mono ?_; rintro e W3 ⟨A3, n3, c3, rfl, i3, b3⟩; have q3 := cell_keep (Wp := (wc.drewN q).drew) q1 b3)
          | (go_at_call 74; refine (signed_any false A3 n3 c3 _ _ (by exact i3) (by have := i3.len H5.out; omega)).mono ?_; rintro e W4 ⟨rfl, b4⟩; obtain ⟨r1, r2, r3, r4⟩ := (hr9.drew.keep b3).keep b4; rw [ivN_eq false _ (z1 + z2) Hs.out]))
        all_goals
          go_wp2
          exact bodyPost_ret (v := .agg #[.bool (sg (z1 + z2)), .string (mg (z1 + z2))]) (by simp [results, Tryz.results37, go_sem, r1, r2]) rfl ⟨rfl, below_more2 (below_more hb9.drew (Nat.le_refl _) b3) (Nat.le_refl _) b4 (by show w.heap.size ≤ w.heap.size + 1 + 1; omega) (by show w.heap.size ≤ w.heap.size + 1 + 1; omega)⟩
    · by_cases hlt : vB sa.data.toList < vB sb.data.toList
      · have hc : cmpN (vB sa.data.toList) (vB sb.data.toList) < 0 := by unfold cmpN; rw [if_pos hlt]; omega
        have Hs : Hid (z1 + z2 = if false then -((vB sb.data.toList - vB sa.data.toList : Nat) : Int) else ((vB sb.data.toList - vB sa.data.toList : Nat) : Int)) := by rw [← Hz1.out, ← Hz2.out]; exact zv_lt false sa sb hlt
        go_wp2_with (go_at_call 76; refine (compare_any A1 A2 n1 n2 c1 c2 _ _ _ i1 i2).mono ?_; rintro e w' ⟨rfl, q, rfl⟩)
        have hb9 : Below w.heap.size w (wc.drewN q) := ⟨hb.os, hb.tape, hb.output, hb.size, hb.block⟩
        have hr9 : ResCell (wc.drewN q) (w.heap.size + 1 + 1) := hr
        go_region_with (first
          | (go_at_call 77; refine (subtract_any A2 A1 n2 n1 c2 c1 _ _ _ (by exact i2) (by exact i1) (by omega) (by omega) (by omega)).mono ?_; rintro e W3 ⟨A3, n3, c3, rfl, i3, b3⟩; have q3 := cell_keep (Wp := (wc.drewN q).drew) q2 b3)
          | (go_at_call 74; refine (signed_any false A3 n3 c3 _ _ (by exact i3) (by have := i3.len H4.out; omega)).mono ?_; rintro e W4 ⟨rfl, b4⟩; obtain ⟨r1, r2, r3, r4⟩ := (hr9.drew.keep b3).keep b4; rw [ivN_eq false _ (z1 + z2) Hs.out]))
        all_goals
          go_wp2
          exact bodyPost_ret (v := .agg #[.bool (sg (z1 + z2)), .string (mg (z1 + z2))]) (by simp [results, Tryz.results37, go_sem, r1, r2]) rfl ⟨rfl, below_more2 (below_more hb9.drew (Nat.le_refl _) b3) (Nat.le_refl _) b4 (by show w.heap.size ≤ w.heap.size + 1 + 1; omega) (by show w.heap.size ≤ w.heap.size + 1 + 1; omega)⟩
      · have hc : ¬ cmpN (vB sa.data.toList) (vB sb.data.toList) < 0 := by unfold cmpN; rw [if_neg hlt]; split <;> omega
        have Hs : Hid (z1 + z2 = if true then -((vB sa.data.toList - vB sb.data.toList : Nat) : Int) else ((vB sa.data.toList - vB sb.data.toList : Nat) : Int)) := by rw [← Hz1.out, ← Hz2.out]; exact zv_ge true sa sb hlt
        go_wp2_with (go_at_call 76; refine (compare_any A1 A2 n1 n2 c1 c2 _ _ _ i1 i2).mono ?_; rintro e w' ⟨rfl, q, rfl⟩)
        have hb9 : Below w.heap.size w (wc.drewN q) := ⟨hb.os, hb.tape, hb.output, hb.size, hb.block⟩
        have hr9 : ResCell (wc.drewN q) (w.heap.size + 1 + 1) := hr
        go_region_with (first
          | (go_at_call 77; refine (subtract_any A1 A2 n1 n2 c1 c2 _ _ _ (by exact i1) (by exact i2) (by omega) (by omega) (by omega)).mono ?_; rintro e W3 ⟨A3, n3, c3, rfl, i3, b3⟩; have q3 := cell_keep (Wp := (wc.drewN q).drew) q1 b3)
          | (go_at_call 74; refine (signed_any true A3 n3 c3 _ _ (by exact i3) (by have := i3.len H5.out; omega)).mono ?_; rintro e W4 ⟨rfl, b4⟩; obtain ⟨r1, r2, r3, r4⟩ := (hr9.drew.keep b3).keep b4; rw [ivN_eq true _ (z1 + z2) Hs.out]))
        all_goals
          go_wp2
          exact bodyPost_ret (v := .agg #[.bool (sg (z1 + z2)), .string (mg (z1 + z2))]) (by simp [results, Tryz.results37, go_sem, r1, r2]) rfl ⟨rfl, below_more2 (below_more hb9.drew (Nat.le_refl _) b3) (Nat.le_refl _) b4 (by show w.heap.size ≤ w.heap.size + 1 + 1; omega) (by show w.heap.size ≤ w.heap.size + 1 + 1; omega)⟩
    · have Hs : Hid (z1 + z2 = if true then -((vB sa.data.toList + vB sb.data.toList : Nat) : Int) else ((vB sa.data.toList + vB sb.data.toList : Nat) : Int)) := by rw [← Hz1.out, ← Hz2.out]; exact zv_same true sa sb
      go_wp2_with fail
      go_region_with (first
        | (go_at_call 75; refine (add_any A1 A2 n1 n2 c1 c2 _ _ _ (by exact i1) (by exact i2) (by omega) (by omega)).mono ?_; rintro e W3 ⟨A3, n3, c3, rfl, i3, b3⟩; have q3 := cell_keep (Wp := wc.drew) q1 b3)
        | (go_at_call 74; refine (signed_any true A3 n3 c3 _ _ (by exact i3) (by have := i3.len H3.out; omega)).mono ?_; rintro e W4 ⟨rfl, b4⟩; obtain ⟨r1, r2, r3, r4⟩ := (hr.drew.keep b3).keep b4; rw [ivN_eq true _ (z1 + z2) Hs.out]))
      all_goals
        go_wp2
        exact bodyPost_ret (v := .agg #[.bool (sg (z1 + z2)), .string (mg (z1 + z2))]) (by simp [results, Tryz.results37, go_sem, r1, r2]) rfl ⟨rfl, below_more2 (below_more hb.drew (Nat.le_refl _) b3) (Nat.le_refl _) b4 (by show w.heap.size ≤ w.heap.size + 1 + 1; omega) (by show w.heap.size ≤ w.heap.size + 1 + 1; omega)⟩
end Go.Proofs.YtgcogpfmhmmgdaaGreatDoor
