/- What the reference implementation's Of returns. Condition: int64. What the reference implementation's Compare returns. Condition: at most 10^9 bytes. -/
import Derived.Test.YtgcogpfmhmmgdaaGreatDoorQ42
import Derived.Test.YtgcogpfmhmmgdaaGreatDoorQ14
import Derived.Deep.DeepCutAuto
import Derived.Deep.RegionWith

namespace Go.Proofs.YtgcogpfmhmmgdaaGreatDoor
open Go.RowKit
set_option linter.unusedSimpArgs false
set_option linter.unusedVariables false

theorem mg_least : mg (-9223372036854775808) = ⟨#[128, 0, 0, 0, 0, 0, 0, 0]⟩ := by
  have h := bytesOf_vB [128, 0, 0, 0, 0, 0, 0, 0] (by decide)
  have h2 : vB [128, 0, 0, 0, 0, 0, 0, 0] = 9223372036854775808 := by decide
  rw [h2] at h
  unfold mg
  rw [show (-9223372036854775808 : Int).natAbs = 9223372036854775808 by rfl, h]
set_option maxRecDepth 100000 in
set_option maxHeartbeats 1600000 in
theorem rof01_any (z : Int) (w : World) (h0 : -9223372036854775808 ≤ z) (h1 : z ≤ 9223372036854775807) :
    Calls Tryz.prog 45 #[.int .i64 z] w (IntOut w z) := by
  have B0 := below1 w (.cells #[.bool false, .string ⟨#[]⟩] 27)
  have Y0 : Box2 (w.alloc (.cells #[.bool false, .string ⟨#[]⟩] 27)) w.heap.size false ⟨#[]⟩ := by
    refine ⟨?_, ?_, ?_, ?_⟩ <;> simp [go_sem]
  by_cases hz : 0 ≤ z
  · obtain ⟨N, rfl⟩ := Int.eq_ofNat_of_zero_le hz
    have H1 := Lib.hid (show sg (N : Int) = false from decide_eq_false (by omega))
    have H2 := Lib.hid (show mg (N : Int) = ⟨(bytesOf N).toArray⟩ by unfold mg; rw [Int.natAbs_natCast])
    go_enter Tryz.func45, Tryz.ntmps45
    go_wp2_with fail
    refine (rmag_any N _ (by omega)).mono ?_
    rintro e W1 ⟨rfl, b1⟩
    obtain ⟨y1, y2, y3, y4⟩ := Y0.keep b1
    have B1 := below_more B0 (Nat.le_refl _) b1
    generalize bytesOf N = T at *
    go_wp2
    exact bodyPost_ret (v := .agg #[.bool false, .string ⟨T.toArray⟩]) (by simp [results, Tryz.results45, go_sem, y1, y2, y3, y4]) rfl ⟨by rw [H1.out, H2.out], (B1.setCell (Nat.le_refl _) _).setCell (Nat.le_refl _) _⟩
  · have hs := Lib.hid (show sg z = true from decide_eq_true (by omega))
    obtain ⟨y1, y2, y3, y4⟩ := id Y0
    by_cases hl : z = -9223372036854775808
    · subst hl
      have H2 := Lib.hid mg_least
      have hw : IntKind.i64.wrap 9223372036854775808 = -9223372036854775808 := by decide
      go_enter Tryz.func45, Tryz.ntmps45
      go_wp2
      exact bodyPost_ret (v := .agg #[.bool true, .string ⟨#[128, 0, 0, 0, 0, 0, 0, 0]⟩]) (by simp [results, Tryz.results45, go_sem, y1, y2, y3, y4]) rfl ⟨by rw [hs.out, H2.out], (by first | exact below1 w _ | exact (B0.setCell (Nat.le_refl _) _).setCell (Nat.le_refl _) _)⟩
    · obtain ⟨N, hN⟩ : ∃ N : Nat, -z = (N : Int) := Int.eq_ofNat_of_zero_le (by omega)
      have H2 := Lib.hid (show mg z = ⟨(bytesOf N).toArray⟩ by unfold mg; rw [show z.natAbs = N by omega])
      have hw : IntKind.i64.wrap (-z) = (N : Int) := by rw [hN]; exact IntWalk.i64_in _ (by omega)
      have he : (z == (N : Int)) = false := by rw [beq_eq_false_iff_ne]; omega
      have hd : decide (0 ≤ z) = false := decide_eq_false hz
      have hNn : N < 9223372036854775808 := by omega
      clear hN
      go_enter Tryz.func45, Tryz.ntmps45
      go_wp2_with fail
      refine (rmag_any N _ hNn).mono ?_
      rintro e W1 ⟨rfl, b1⟩
      obtain ⟨y1, y2, y3, y4⟩ := Y0.keep b1
      have B1 := below_more B0 (Nat.le_refl _) b1
      generalize bytesOf N = T at *
      go_wp2
      exact bodyPost_ret (v := .agg #[.bool true, .string ⟨T.toArray⟩]) (by simp [results, Tryz.results45, go_sem, y1, y2, y3, y4]) rfl ⟨by rw [hs.out, H2.out], (B1.setCell (Nat.le_refl _) _).setCell (Nat.le_refl _) _⟩
end Go.Proofs.YtgcogpfmhmmgdaaGreatDoor

namespace Go.Proofs.YtgcogpfmhmmgdaaGreatDoor
open Go.RowKit
set_option linter.unusedSimpArgs false
set_option linter.unusedVariables false

theorem rcan_eq {g : Bool} {l : List UInt8} {z : Int} {w : World} (hl : l.length ≤ 1000000000) (hz : zv g ⟨l.toArray⟩ = z) :
    Calls Tryz.prog 65 #[.agg #[.bool g, .string ⟨l.toArray⟩]] w (IntOut w z) := hz ▸ rcanonical_any g l w hl
theorem cmpMag_eq {A B : Nat} {n : Int} {w : World} (e : cmpN A B = n) :
    Calls Tryz.prog 68 #[.string ⟨(bytesOf A).toArray⟩, .string ⟨(bytesOf B).toArray⟩] w fun e w' => e = .returned (.int .i64 n) ∧ w' = w := e ▸ rcmpMag_any A B w
theorem cmpZ_signs (z1 z2 : Int) : (sg z1 = true ∧ sg z2 = false ∧ cmpZ z1 z2 = -1) ∨ (sg z1 = false ∧ sg z2 = true ∧ cmpZ z1 z2 = 1) ∨ (sg z1 = true ∧ sg z2 = true ∧ cmpN z2.natAbs z1.natAbs = cmpZ z1 z2) ∨ (sg z1 = false ∧ sg z2 = false ∧ cmpN z1.natAbs z2.natAbs = cmpZ z1 z2) := by
  unfold sg cmpZ cmpN
  by_cases h1 : z1 < 0 <;> by_cases h2 : z2 < 0
  · right; right; left
    refine ⟨decide_eq_true h1, decide_eq_true h2, ?_⟩
    split <;> split <;> (try split) <;> (try split) <;> omega
  · left
    refine ⟨decide_eq_true h1, decide_eq_false h2, ?_⟩
    rw [if_pos (by omega)]
  · right; left
    refine ⟨decide_eq_false h1, decide_eq_true h2, ?_⟩
    rw [if_neg (by omega), if_pos (by omega)]
  · right; right; right
    refine ⟨decide_eq_false h1, decide_eq_false h2, ?_⟩
    split <;> split <;> (try split) <;> (try split) <;> omega
set_option maxRecDepth 100000 in
set_option maxHeartbeats 3200000 in
theorem rcompare_any (g1 g2 : Bool) (l1 l2 : List UInt8) (z1 z2 : Int) (w : World) (hl1 : l1.length ≤ 1000000000) (hl2 : l2.length ≤ 1000000000) (hz1 : zv g1 ⟨l1.toArray⟩ = z1) (hz2 : zv g2 ⟨l2.toArray⟩ = z2) :
    Calls Tryz.prog 54 #[.agg #[.bool g1, .string ⟨l1.toArray⟩], .agg #[.bool g2, .string ⟨l2.toArray⟩]] w fun e w' => e = .returned (.int .i64 (cmpZ z1 z2)) ∧ Below w.heap.size w w' := by
  have Hz1 := Lib.hid hz1
  have Hz2 := Lib.hid hz2
  clear hz1 hz2
  obtain ⟨W0, hW0⟩ : ∃ W0, W0 = (w.alloc (.cells #[.bool g1, .string ⟨l1.toArray⟩] 27)).alloc (.cells #[.bool g2, .string ⟨l2.toArray⟩] 27) := ⟨_, rfl⟩
  have B0 : Below w.heap.size w W0 := by rw [hW0]; exact below2 w _ _
  have X0 : Box2 W0 w.heap.size g1 ⟨l1.toArray⟩ := by
    rw [hW0]; refine ⟨?_, ?_, ?_, ?_⟩ <;> simp [go_sem]
  have Y0 : Box2 W0 (w.heap.size + 1) g2 ⟨l2.toArray⟩ := by
    rw [hW0]; refine ⟨?_, ?_, ?_, ?_⟩ <;> simp [go_sem]
  have HW := Lib.hid hW0
  clear hW0
  go_enter Tryz.func54, Tryz.ntmps54
  go_upto_region 1 with fail
  rw [← HW.out]
  go_cut [4] (fun s4 wx => s4 = .int .i64 0 ∧ wx.cell? ⟨w.heap.size, 0, none⟩ = some (.bool (sg z1)) ∧ wx.cell? ⟨w.heap.size, 1, none⟩ = some (.string (mg z1)) ∧ wx.cell? ⟨w.heap.size + 1, 0, none⟩ = some (.bool (sg z2)) ∧ wx.cell? ⟨w.heap.size + 1, 1, none⟩ = some (.string (mg z2)) ∧ Below w.heap.size w wx)
  case first =>
    have KB : (Box2 W0.drew w.heap.size g1 ⟨l1.toArray⟩ ∧ Box2 W0.drew (w.heap.size + 1) g2 ⟨l2.toArray⟩) ∧ Below w.heap.size w W0.drew := ⟨⟨X0, Y0⟩, B0.drew⟩
    obtain ⟨x1, x2, x3, x4⟩ := id X0
    obtain ⟨y1, y2, y3, y4⟩ := id Y0
    go_region_with (first
      | (go_at_call 65; (first | (with_reducible refine (rcan_eq hl1 Hz1.out).mono ?_) | (with_reducible refine (rcan_eq hl2 Hz2.out).mono ?_)); rintro e X ⟨rfl, bX⟩; have KB := And.intro (And.intro (KB.1.1.keep bX) (KB.1.2.keep bX)) (below_more KB.2 (Nat.le_refl _) bX); obtain ⟨x1, x2, x3, x4⟩ := id KB.1.1; obtain ⟨y1, y2, y3, y4⟩ := id KB.1.2))
    all_goals go_wp2_with fail
    all_goals go_meet
    all_goals
      have h := two_set (z1 := z1) (z2 := z2) (show w.heap.size ≠ w.heap.size + 1 by omega) x1 x2 y1 y2
      exact ⟨rfl, h.1, h.2.1, h.2.2.1, h.2.2.2, (((KB.2.setCell (Nat.le_refl _) _).setCell (Nat.le_refl _) _).setCell (Nat.le_succ _) _).setCell (Nat.le_succ _) _⟩
  case rest =>
    obtain ⟨rfl, x1, x2, y1, y2, B⟩ := hcut
    clear X0 Y0 B0
    rcases cmpZ_signs z1 z2 with ⟨h1, h2, h3⟩ | ⟨h1, h2, h3⟩ | ⟨h1, h2, h3⟩ | ⟨h1, h2, h3⟩
    · rw [h1] at x1
      rw [h2] at y1
      have H3 := Lib.hid h3
      clear h1 h2 h3
      go_wp2
      go_ret
      exact ⟨by rw [H3.out]; rfl, B⟩
    · rw [h1] at x1
      rw [h2] at y1
      have H3 := Lib.hid h3
      clear h1 h2 h3
      go_wp2
      go_ret
      exact ⟨by rw [H3.out]; rfl, B⟩
    · rw [h1] at x1
      rw [h2] at y1
      have H3 := Lib.hid h3
      clear h1 h2 h3
      go_wp2_with fail
      refine (cmpMag_eq H3.out).mono ?_
      rintro e W2 ⟨rfl, rfl⟩
      go_wp2
      go_ret
      exact ⟨rfl, B⟩
    · rw [h1] at x1
      rw [h2] at y1
      have H3 := Lib.hid h3
      clear h1 h2 h3
      go_wp2_with fail
      refine (cmpMag_eq H3.out).mono ?_
      rintro e W2 ⟨rfl, rfl⟩
      go_wp2
      go_ret
      exact ⟨rfl, B⟩
end Go.Proofs.YtgcogpfmhmmgdaaGreatDoor
