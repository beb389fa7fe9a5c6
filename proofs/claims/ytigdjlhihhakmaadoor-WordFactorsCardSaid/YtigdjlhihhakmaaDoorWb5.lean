/- WordFactors returns true for every input. -/
import Derived.Test.YtigdjlhihhakmaaDoorWo
namespace Go.Proofs.YtigdjlhihhakmaaDoor
open Go.RowKit
set_option linter.unusedSimpArgs false
set_option linter.unusedVariables false

theorem equal_any {W : World} {B1 B2 : Nat} {v v' : Value} {l : List Nat} (h : NumsAt W B1 v l) (h' : NumsAt W B2 v' l) (hl : l.length ≤ 100000) :
    Calls Tryd.prog 22 #[v, v'] W fun e W' => e = .returned (.bool true) ∧ Below W.heap.size W W' := by
  rcases h.cases with ⟨rfl, a, c, rfl⟩ | ⟨h0, g, c, rfl, hB, hc⟩
  · obtain ⟨a2, c2, rfl⟩ := h'.slice
    refine (Tryd.slices_Equal_int_empty a a2 c 0 c2 W (by omega)).mono ?_
    rintro e W' ⟨rfl, rfl⟩
    exact ⟨rfl, Below.refl _ _⟩
  · rcases h'.cases with ⟨rfl, _⟩ | ⟨h0', g', c', rfl, hB', hc'⟩
    · simp at h0
    · refine (Tryd.slices_Equal_int g 0 l.length c g' 0 l.length c' (zl l) (zl l) W (by rw [zl_len]; exact Nat.le_refl _) (by rw [zl_len]; exact Nat.le_refl _) (by omega) (by omega) hc hc').mono ?_
      rintro e W' ⟨rfl, q, rfl⟩
      exact ⟨by simp, below_drewM (Below.refl _ _) q⟩
set_option maxRecDepth 100000 in
set_option maxHeartbeats 6400000 in
theorem wordFactors_main (l u : List UInt8) (w : World) (hl : l.length ≤ 40) (hu : u.length ≤ 40) :
    Calls Tryd.prog 4 #[.string ⟨l.toArray⟩, .string ⟨u.toArray⟩] w fun e w' => e = .returned (.bool true) ∧ Below w.heap.size w w' := by
  have hd1 : decide ((40 : Int) < (l.length : Int)) = false := decide_eq_false (by omega)
  have hd2 : decide ((40 : Int) < (u.length : Int)) = false := decide_eq_false (by omega)
  have HV := Lib.hid (fun W => reverse_any l W (by omega))
  have HV2 := Lib.hid (fun W => refReverse_any l W (by omega))
  have HR := Lib.hid (fun W => root_any l W (by omega))
  have HR2 := Lib.hid (fun W => refRoot_any l W (by omega))
  have HB := Lib.hid (fun W => border_any l W (by omega))
  have HB2 := Lib.hid (fun W => refBorder_any l W (by omega))
  have HP := Lib.hid (fun W => period_any l W (by omega))
  have HP2 := Lib.hid (fun W => refPeriod_any l W (by omega))
  have HF := Lib.hid (fun W => find_any l u W (by omega) (by omega))
  have HF2 := Lib.hid (fun W => refFind_any l u W (by omega) (by omega))
  have hlb := inc_bound (l.length + 1) (occ_sorted l u) (fun x hx => by have := occ_le hx; omega)
  obtain ⟨L, hL⟩ : ∃ L, occ l u = L := ⟨_, rfl⟩
  obtain ⟨v, hv⟩ : ∃ v, l.reverse = v := ⟨_, rfl⟩
  obtain ⟨a, ha⟩ : ∃ a, rootL l = a := ⟨_, rfl⟩
  obtain ⟨m, hm⟩ : ∃ m, rootN l = m := ⟨_, rfl⟩
  obtain ⟨b, hb⟩ : ∃ b, bord l = b := ⟨_, rfl⟩
  obtain ⟨p, hp⟩ : ∃ p, per l = p := ⟨_, rfl⟩
  simp only [hL] at HF HF2
  simp only [hv] at HV HV2
  simp only [ha, hm] at HR HR2
  simp only [hb] at HB HB2
  simp only [hp] at HP HP2
  rw [hL] at hlb
  have e1 : (v == v) = true := by simp
  have e2 : (a == a) = true := by simp
  have e3 : ((m : Int) == (m : Int)) = true := by simp
  have e4 : ((b : Int) == (b : Int)) = true := by simp
  have e5 : ((p : Int) == (p : Int)) = true := by simp
  clear hL hv ha hm hb hp
  go_enter Tryd.func4, Tryd.ntmps4
  go_wp2_with (first
    | (go_at_call 20; (with_reducible refine (HR.out _).mono ?_); rintro e W1 ⟨rfl, b1⟩)
    | (go_at_call 21; (with_reducible refine (HR2.out _).mono ?_); rintro e W2 ⟨rfl, b2⟩; (have B2 := below_more b1 (Nat.le_refl _) b2))
    | (go_at_call 23; (with_reducible refine (HF.out _).mono ?_); rintro e W3 ⟨v3, rfl, hN3, b3⟩; (obtain ⟨a3, c3, rfl⟩ := NumsAt.slice hN3); (have HN3 := Lib.hid (show NumsAt W3 W2.heap.size (.slice a3 L.length c3) L from hN3)); (have B3 := below_more B2 (Nat.le_refl _) b3); (clear hN3))
    | (go_at_call 24; (with_reducible refine (HF2.out _).mono ?_); rintro e W4 ⟨v4, rfl, hN4, b4⟩; (obtain ⟨a4, c4, rfl⟩ := NumsAt.slice hN4); (have HN4 := Lib.hid (show NumsAt W4 W3.heap.size (.slice a4 L.length c4) L from hN4)); (have HN34 := Lib.hid (HN3.out.keep b4)); (have B4 := below_more B3 (Nat.le_refl _) b4); (clear hN4))
    | (go_at_call 22; (with_reducible refine (equal_any HN34.out HN4.out (by omega)).mono ?_); rintro e W5 ⟨rfl, b5⟩; (have B5 := below_more B4 (Nat.le_refl _) b5))
    | (go_at_call 25; (with_reducible refine (HB.out _).mono ?_); rintro e W6 ⟨rfl, b6⟩; (have B6 := below_more B5 (Nat.le_refl _) b6))
    | (go_at_call 26; (with_reducible refine (HB2.out _).mono ?_); rintro e W7 ⟨rfl, b7⟩; (have B7 := below_more B6 (Nat.le_refl _) b7))
    | (go_at_call 27; (with_reducible refine (HP.out _).mono ?_); rintro e W8 ⟨rfl, b8⟩; (have B8 := below_more B7 (Nat.le_refl _) b8))
    | (go_at_call 28; (with_reducible refine (HP2.out _).mono ?_); rintro e W9 ⟨rfl, b9⟩; (have B9 := below_more B8 (Nat.le_refl _) b9))
    | (go_at_call 29; (with_reducible refine (HV.out _).mono ?_); rintro e X1 ⟨rfl, x1⟩; (have Y1 := below_more B9 (Nat.le_refl _) x1))
    | (go_at_call 30; (with_reducible refine (HV2.out _).mono ?_); rintro e X2 ⟨rfl, x2⟩; (have Y2 := below_more Y1 (Nat.le_refl _) x2))
    | (go_at_call 12; (with_reducible refine (awake_any _).mono ?_); rintro e X3 ⟨rfl, x3⟩))
  go_ret
  exact ⟨rfl, below_more Y2 (Nat.le_refl _) x3⟩
set_option maxRecDepth 100000 in
set_option maxHeartbeats 6400000 in
theorem wordFactors_any (l u : List UInt8) (w : World) (hl : l.length ≤ 9223372036854775807) (hu : u.length ≤ 9223372036854775807) :
    Calls Tryd.prog 4 #[.string ⟨l.toArray⟩, .string ⟨u.toArray⟩] w fun e w' => e = .returned (.bool true) ∧ Below w.heap.size w w' := by
  rcases (show 40 < l.length ∨ (l.length ≤ 40 ∧ 40 < u.length) ∨ (l.length ≤ 40 ∧ u.length ≤ 40) by omega) with a | ⟨a, b⟩ | ⟨a, b⟩
  case inr.inr => exact wordFactors_main l u w a b
  all_goals
    go_enter Tryd.func4, Tryd.ntmps4
    go_wp2_with (go_at_call 12; (with_reducible refine (awake_any _).mono ?_); rintro e W7 ⟨rfl, b7⟩)
    go_ret
    exact ⟨rfl, b7⟩
end Go.Proofs.YtigdjlhihhakmaaDoor
