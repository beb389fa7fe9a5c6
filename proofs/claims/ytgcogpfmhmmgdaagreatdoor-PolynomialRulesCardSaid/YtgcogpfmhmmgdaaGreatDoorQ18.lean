/- What integer.Compare returns: -1, 0 or 1, by the values. No condition but the sizes. -/
import Derived.Test.YtgcogpfmhmmgdaaGreatDoorQ17

namespace Go.Proofs.YtgcogpfmhmmgdaaGreatDoor
open Go.RowKit

set_option maxRecDepth 100000 in
set_option maxHeartbeats 3200000 in
theorem icmp_any (v1 v2 : Value) (z1 z2 : Int) (k1 k2 : Nat) (w : World) (h1 : IsInt v1 z1 k1) (h2 : IsInt v2 z2 k2) :
    Calls Tryz.prog 84 #[v1, v2] w fun e w' => e = .returned (.int .i64 (cmpZ z1 z2)) ∧ Below w.heap.size w w' := by
  obtain ⟨na, sa, rfl, hz1, hs1, hk1, hkk1⟩ := h1
  obtain ⟨nb, sb, rfl, hz2, hs2, hk2, hkk2⟩ := h2
  have m1 := mg_size hk1
  have m2 := mg_size hk2
  have Hz1 : Hid (zv na sa = z1) := hz1
  have Hz2 : Hid (zv nb sb = z2) := hz2
  clear hz1 hz2 hk1 hk2
  go_enter Tryz.func84, Tryz.ntmps84
  go_upto_region 1 with fail
  go_cut [5, 6] (fun s5 s6 wx => ∃ g1 g2 : Nat, s5 = .pointer (some ⟨g1, 0, none⟩) ∧ s6 = .pointer (some ⟨g2, 0, none⟩) ∧ TwoInts wx g1 g2 z1 z2 ∧ Below w.heap.size w wx)
  case first =>
    have S0 : Boxes2 ((w.alloc (.cells #[.bool na, .string sa] 27)).alloc (.cells #[.bool nb, .string sb] 27)).drew w.heap.size na nb sa sb := boxes2 w 27 na nb sa sb
    have S00 := boxes2 w 27 na nb sa sb
    have hb := below2 w (.cells #[.bool na, .string sa] 27) (.cells #[.bool nb, .string sb] 27)
    go_region_held3 (fun W => W.cell? ⟨w.heap.size, 0, none⟩ = some (.bool na) ∧ W.cell? ⟨w.heap.size, 1, none⟩ = some (.string sa) ∧ W.cell? ⟨w.heap.size + 1, 0, none⟩ = some (.bool nb) ∧ W.cell? ⟨w.heap.size + 1, 1, none⟩ = some (.string sb)) ((show Boxes2 _ w.heap.size na nb sa sb; repeat (first | with_reducible exact S2 | with_reducible exact S1 | with_reducible exact S0 | with_reducible exact S00 | with_reducible refine boxes_drew ?_ | with_reducible refine boxes_alloc ?_ | ((with_reducible refine boxes_set ?_ ?_ ?_); rotate_left; (dsimp only; omega); (dsimp only; omega)))))
      (first
        | (go_at_call_of 70 (Value.agg #[Value.bool na, Value.string sa]); refine (can_any na sa _).mono ?_; rintro e W1 ⟨rfl, b1⟩; rw [Hz1.out]; have S1 : Boxes2 W1 w.heap.size na nb sa sb := keep4 b1 (by (repeat (first | with_reducible exact S2 | with_reducible exact S1 | with_reducible exact S0 | with_reducible exact S00 | with_reducible refine boxes_drew ?_ | with_reducible refine boxes_alloc ?_))); obtain ⟨c1, f1⟩ := bcell b1; have y1 := b1.size; (try simp only [World.size_alloc] at y1); (try simp at y1); (have u1 : w.heap.size + 1 < W1.heap.size := (by omega)); (try have u2 : w.heap.size + 1 + 1 < W1.heap.size := (by omega)); (try have u3 : w.heap.size + 1 + 1 + 1 < W1.heap.size := (by omega)))
        | (go_at_call_of 70 (Value.agg #[Value.bool nb, Value.string sb]); refine (can_any nb sb _).mono ?_; rintro e W2 ⟨rfl, b2⟩; rw [Hz2.out]; have S2 : Boxes2 W2 w.heap.size na nb sa sb := keep4 b2 (by (repeat (first | with_reducible exact S2 | with_reducible exact S1 | with_reducible exact S0 | with_reducible exact S00 | with_reducible refine boxes_drew ?_ | with_reducible refine boxes_alloc ?_))); obtain ⟨c2, f2⟩ := bcell b2; have y2 := b2.size; (try simp only [World.size_alloc] at y2); (have u4 : w.heap.size + 1 < W2.heap.size := (by omega)); (try have u5 : w.heap.size + 1 + 1 < W2.heap.size := (by omega)); (try have u6 : w.heap.size + 1 + 1 + 1 < W2.heap.size := (by omega)); (try have u7 : W1.heap.size < W2.heap.size := (by omega)); (try have u8 : W1.heap.size + 1 < W2.heap.size := (by omega))))
    all_goals go_wp2_with fail
    all_goals go_meet
    all_goals refine ⟨_, _, rfl, rfl, ?_, ?_⟩
    all_goals try (unfold TwoInts; refine ⟨?_, ?_, ?_, ?_⟩ <;> simp [go_sem, *] <;> done)
    all_goals try (repeat (first | with_reducible exact hb | with_reducible refine Below.drew ?_ | with_reducible refine below_more ?_ (Nat.le_refl _) b2 | with_reducible refine below_more ?_ (Nat.le_refl _) b1 | ((with_reducible refine Below.alloc ?_ ?_ _); rotate_left; ((try simp only [World.size_alloc, World.size_setCell]); omega)) | ((with_reducible refine Below.setCell ?_ ?_ _); rotate_left; (dsimp only; omega))))
    all_goals (refine two_set (by omega) (u1 := .bool false) (u2 := .string ⟨#[]⟩) (u3 := .bool false) (u4 := .string ⟨#[]⟩) ?_ ?_ ?_ ?_ <;> (rw [c2 _ _ (by rw [World.size_alloc, World.size_alloc]; omega)]; simp [go_sem]))
  case rest =>
    obtain ⟨g1, g2, rfl, rfl, ⟨q1, q2, q3, q4⟩, hb⟩ := hcut
    have hg1 : g1 < wc.heap.size := World.block_lt_of_cell? wc ⟨g1, 0, none⟩ q1
    have hg2 : g2 < wc.heap.size := World.block_lt_of_cell? wc ⟨g2, 0, none⟩ q3
    by_cases hsg : sg z1 = sg z2
    · have Hc : Hid (orI (Lib.compareInt ((mg z1).size : Int) ((mg z2).size : Int)) (cmpS (mg z1).toList (mg z2).toList) = cmpN z1.natAbs z2.natAbs) := cmp_abs z1 z2
      obtain ⟨hn1, hn2⟩ := cmpN_abs z1.natAbs z2.natAbs
      cases hs1 : sg z1
      · have hs2 : sg z2 = false := by rw [← hsg]; exact hs1
        have Hz : Hid (cmpZ z1 z2 = cmpN z1.natAbs z2.natAbs) := cmpZ_pos (by simpa [sg] using hs1) (by simpa [sg] using hs2)
        rw [hs1] at q1
        rw [hs2] at q3
        clear hs1 hs2 hsg
        go_wp2_with fail
        go_region_held3 (fun W => W.cell? ⟨g1, 0, none⟩ = some (.bool false) ∧ W.cell? ⟨g1, 1, none⟩ = some (.string (mg z1)) ∧ W.cell? ⟨g2, 0, none⟩ = some (.bool false) ∧ W.cell? ⟨g2, 1, none⟩ = some (.string (mg z2))) (first | exact ⟨q1, q2, q3, q4⟩ | exact keep4a ⟨q1, q2, q3, q4⟩)
          (first
            | (go_at_call 104; refine (Tryz.cmp_Compare_int _ _ _).mono ?_; rintro e w' ⟨rfl, hw'⟩; subst hw')
            | (go_at_call 105; refine (cmpStr_any _ _ _).mono ?_; rintro e w' ⟨rfl, hw'⟩; subst hw')
            | (go_at_call 103; refine (or_any _ (Lib.compareInt ((mg z1).size : Int) ((mg z2).size : Int)) (cmpS (mg z1).toList (mg z2).toList) _ ?_ ?_).mono ?_; (simp [go_sem]); (simp [go_sem]); rintro e w' ⟨rfl, hw'⟩; subst hw'; rw [Hc.out]))
        go_wp2
        go_ret
        exact ⟨by rw [Hz.out]; rfl, (hb.alloc hb.size _).drew⟩
      · have hs2 : sg z2 = true := by rw [← hsg]; exact hs1
        have Hz : Hid (cmpZ z1 z2 = - cmpN z1.natAbs z2.natAbs) := cmpZ_neg (by simpa [sg] using hs1) (by simpa [sg] using hs2)
        rw [hs1] at q1
        rw [hs2] at q3
        clear hs1 hs2 hsg
        go_wp2_with fail
        go_region_held3 (fun W => W.cell? ⟨g1, 0, none⟩ = some (.bool true) ∧ W.cell? ⟨g1, 1, none⟩ = some (.string (mg z1)) ∧ W.cell? ⟨g2, 0, none⟩ = some (.bool true) ∧ W.cell? ⟨g2, 1, none⟩ = some (.string (mg z2))) (first | exact ⟨q1, q2, q3, q4⟩ | exact keep4a ⟨q1, q2, q3, q4⟩)
          (first
            | (go_at_call 104; refine (Tryz.cmp_Compare_int _ _ _).mono ?_; rintro e w' ⟨rfl, hw'⟩; subst hw')
            | (go_at_call 105; refine (cmpStr_any _ _ _).mono ?_; rintro e w' ⟨rfl, hw'⟩; subst hw')
            | (go_at_call 103; refine (or_any _ (Lib.compareInt ((mg z1).size : Int) ((mg z2).size : Int)) (cmpS (mg z1).toList (mg z2).toList) _ ?_ ?_).mono ?_; (simp [go_sem]); (simp [go_sem]); rintro e w' ⟨rfl, hw'⟩; subst hw'; rw [Hc.out]))
        go_wp2
        go_ret
        exact ⟨by rw [Hz.out]; rfl, (hb.alloc hb.size _).drew⟩
    · have hq := cmpZ_sign hsg
      cases hs1 : sg z1
      · have hs2 : sg z2 = true := by
          cases h : sg z2
          · rw [hs1, h] at hsg; exact absurd rfl hsg
          · rfl
        rw [hs1] at hq
        have Hz : Hid (cmpZ z1 z2 = 1) := hq
        rw [hs1] at q1
        rw [hs2] at q3
        clear hs1 hs2 hsg hq
        go_wp2
        go_ret
        exact ⟨by rw [Hz.out]; rfl, hb⟩
      · have hs2 : sg z2 = false := by
          cases h : sg z2
          · rfl
          · rw [hs1, h] at hsg; exact absurd rfl hsg
        rw [hs1] at hq
        have Hz : Hid (cmpZ z1 z2 = -1) := hq
        rw [hs1] at q1
        rw [hs2] at q3
        clear hs1 hs2 hsg hq
        go_wp2
        go_ret
        exact ⟨by rw [Hz.out]; rfl, hb⟩
end Go.Proofs.YtgcogpfmhmmgdaaGreatDoor
