/- What integer.root returns: the greatest number whose power is at most x. Condition: the exponent is from 1 to 4096, x has at most 1000 digits. -/
import Derived.Test.YtmdkkeklihfdgaaGreatDoorRoot1
import Derived.Lib.Hide
namespace Go.Proofs.YtmdkkeklihfdgaaGreatDoor
open Go.RowKit

/-- R is the root of X for the exponent m. -/
def IsRoot (X m R : Nat) : Prop := R ^ m ≤ X ∧ X < (R + 1) ^ m
theorem root_step {X m g R : Nat} (h : IsRoot (X / 2 ^ (m * (g + 1))) m R) :
    IsRoot (X / 2 ^ (m * g)) m (if (R * 2 + 1) ^ m ≤ X / 2 ^ (m * g) then R * 2 + 1 else R * 2) := by
  obtain ⟨h1, h2⟩ := h
  rw [Nat.mul_succ, Nat.pow_add, ← Nat.div_div_eq_div_mul] at h1 h2
  generalize X / 2 ^ (m * g) = Y at *
  have hp : 0 < 2 ^ m := Nat.two_pow_pos m
  have a1 : (R * 2) ^ m ≤ Y := by
    rw [Nat.mul_pow]
    exact Nat.le_trans (Nat.mul_le_mul_right _ h1) (Nat.div_mul_le_self _ _)
  have a2 : Y < (R * 2 + 2) ^ m := by
    rw [show R * 2 + 2 = (R + 1) * 2 by omega, Nat.mul_pow]
    exact (Nat.div_lt_iff_lt_mul hp).1 h2
  split
  · exact ⟨by assumption, a2⟩
  · exact ⟨a1, by omega⟩
theorem root_start {X m : Nat} (hm : 1 ≤ m) : IsRoot (X / 2 ^ (m * (nbits X / m + 1))) m 0 := by
  have h1 := nbits_lt X
  have h2 : nbits X < m * (nbits X / m + 1) := by
    have := Nat.div_add_mod (nbits X) m
    have := Nat.mod_lt (nbits X) (show 0 < m by omega)
    rw [Nat.mul_add]
    omega
  have h3 : (2 : Nat) ^ nbits X ≤ 2 ^ (m * (nbits X / m + 1)) := Nat.pow_le_pow_right (by omega) (by omega)
  rw [Nat.div_eq_of_lt (by omega)]
  refine ⟨?_, by simp⟩
  rw [Nat.zero_pow (by omega)]
  exact Nat.le_refl _
theorem root_le {X m R : Nat} (hm : 1 ≤ m) (h : R ^ m ≤ X) : R ≤ X := by
  rcases Nat.eq_zero_or_pos R with h0 | h0
  · omega
  · exact Nat.le_trans (Nat.le_self_pow (by omega) R) h
theorem two_bound {R X k : Nat} (h : R ≤ X) (hX : X < 4294967296 ^ k) : R * 2 + 1 < 4294967296 ^ (k + 1) := by
  rw [Nat.pow_succ]
  generalize (4294967296 : Nat) ^ k = P at *
  omega
theorem nbits_len {w : World} {A : Option Addr} {n c X : Nat} (h : IsNat w A n c X) : nbits X ≤ 32 * n := by
  obtain ⟨_, _, f, _, df, _, rfl⟩ := h
  have h1 := val_lt df
  by_cases h0 : val f n = 0
  · rw [h0]; show 0 ≤ _; omega
  · have h2 := nbits_ge h0
    rw [show (4294967296 : Nat) = 2 ^ 32 by rfl, ← Nat.pow_mul] at h1
    rcases Nat.lt_or_ge (32 * n) (nbits (val f n)) with h3 | h3
    · have : (2 : Nat) ^ (32 * n) ≤ 2 ^ (nbits (val f n) - 1) := Nat.pow_le_pow_right (by omega) (by omega)
      omega
    · exact h3

theorem isNat_set {w : World} {A : Option Addr} {n c N : Nat} (h : IsNat w A n c N) (p : Addr) (u : Value) (hp : ∀ x, w.cell? p = some x → ∀ d, x ≠ .int .u32 d) : IsNat (w.setCell p u) A n c N := by
  obtain ⟨h1, h2, f, ⟨b, off, hA, hc⟩, h4⟩ := h
  refine ⟨h1, h2, f, ⟨b, off, hA, fun i hi => ?_⟩, h4⟩
  have h5 := hc i hi
  by_cases e : p = ⟨b, off + i, none⟩
  · subst e; exact absurd rfl (hp _ h5 _)
  · rw [World.cell?_setCell_other _ _ _ _ (fun e2 => e (by first | exact e2 | exact e2.symm))]; exact h5

def RootOut (w : World) (X m : Nat) (e : Ending) (w' : World) : Prop := ∃ R, IsRoot X m R ∧ NatOut w R e w'

set_option maxRecDepth 100000 in
set_option maxHeartbeats 3200000 in
theorem root_any (A : Option Addr) (n c X m k : Nat) (w : World) (hA : IsNat w A n c X) (hm1 : 1 ≤ m) (hm : m ≤ 4096) (hX : X < 4294967296 ^ k) (hk : k ≤ 1000) :
    Calls Tryz.prog 41 #[.slice A n c, .int .i64 (m : Int)] w (RootOut w X m) := by
  have hn : n ≤ k := hA.len hX
  by_cases h1 : m = 1
  · subst h1
    have hone : (((1 : Nat) : Int) == 1) = true := rfl
    go_enter Tryz.func41, Tryz.ntmps41
    go_wp2
    go_ret
    exact ⟨X, ⟨by simp, by simp⟩, A, n, c, rfl, (hA.below (Nat.le_refl _) (below2 w _ _)), below2 w _ _⟩
  · have hone : ((m : Int) == 1) = false := beq_eq_false_iff_ne.2 (by omega)
    have hnb := nbits_len hA
    go_enter Tryz.func41, Tryz.ntmps41
    go_wp2_with fail
    go_cut [7] (fun s7 wx => s7 = .int .i64 ((nbits X / m : Nat) : Int) ∧ Below w.heap.size w wx ∧ IsNat wx A n c X ∧ wx.cell? ⟨w.heap.size, 0, none⟩ = some (.slice A n c) ∧ wx.cell? ⟨w.heap.size + 1, 0, none⟩ = some (.int .i64 (m : Int)) ∧ wx.cell? ⟨w.heap.size + 1 + 1, 0, none⟩ = some (.slice none 0 0) ∧ wx.frozen? ⟨w.heap.size + 1 + 1, 0, none⟩ = false ∧ w.heap.size + 1 + 1 < wx.heap.size)
    case first =>
      have hb := below3 w (.cells #[.slice A n c] 45) (.cells #[.int .i64 (m : Int)] 3) (.cells #[.slice none 0 0] 45)
      have hA3 := (hA.below (Nat.le_refl _) hb)
      have e1 : ((nbits X : Nat) : Int).tdiv (m : Int) = (nbits X : Int) / (m : Int) := Int.tdiv_eq_ediv_of_nonneg (by omega)
      have e0 : 0 ≤ ((nbits X : Nat) : Int) / (m : Int) := Int.ediv_nonneg (by omega) (by omega)
      have e5 : ((nbits X : Nat) : Int) / (m : Int) ≤ (nbits X : Int) := Int.ediv_le_self _ (by omega)
      have e3 : IntKind.i64.wrap (((nbits X : Nat) : Int) / (m : Int)) = (nbits X : Int) / (m : Int) := by rw [IntKind.wrap_i64]; omega
      have hmz : ((m : Int) == 0) = false := beq_eq_false_iff_ne.2 (by omega)
      have hm0 : ¬ m = 0 := by omega
      have hmi : ¬ (m : Int) = 0 := by omega
      have hmI : 1 ≤ (m : Int) := by omega
      have hnI : 0 ≤ ((nbits X : Nat) : Int) := by omega
      go_region_held3 (fun W => W.cell? ⟨w.heap.size, 0, none⟩ = some (.slice A n c) ∧ W.cell? ⟨w.heap.size + 1, 0, none⟩ = some (.int .i64 (m : Int)) ∧ W.cell? ⟨w.heap.size + 1 + 1, 0, none⟩ = some (.slice none 0 0)) (first | assumption | (simp [go_sem]; done) | go_keep)
        (first | (go_at_call 61; refine (size_any A n c X _ (by exact hA3) (by omega)).mono ?_; rintro e W1 ⟨rfl, hw⟩; subst hw))
      go_wp2_with fail
      go_meet
      refine ⟨by rw [Int.natCast_ediv], hb.drew, hA3, ?_, ?_, ?_, ?_, ?_⟩
      all_goals simp [go_sem]
    case rest =>
      obtain ⟨rfl, hb, hAc, q1, q2, q3, q4, hsz⟩ := hcut
      have Hst : Hid (IsRoot (X / 2 ^ (m * (nbits X / m + 1))) m 0) := root_start hm1
      have Hq : Hid (m * (nbits X / m) ≤ nbits X) := Nat.mul_div_le _ _
      have HX : Hid (X < 4294967296 ^ k) := hX
      have hq2 : nbits X / m ≤ nbits X := Nat.div_le_self _ _
      clear hX
      generalize nbits X / m = P at *
      go_wp2_with fail
      go_loopg [7] (P + 1) (fun g s7 wx => ∃ R A1 n1 c1, g ≤ P + 1 ∧ s7 = .int .i64 ((g : Int) - 1) ∧ IsRoot (X / 2 ^ (m * g)) m R ∧ IsNat wx A1 n1 c1 R ∧ Below w.heap.size w wx ∧ IsNat wx A n c X ∧ wx.cell? ⟨w.heap.size, 0, none⟩ = some (.slice A n c) ∧ wx.cell? ⟨w.heap.size + 1, 0, none⟩ = some (.int .i64 (m : Int)) ∧ wx.cell? ⟨w.heap.size + 1 + 1, 0, none⟩ = some (.slice A1 n1 c1) ∧ wx.frozen? ⟨w.heap.size + 1 + 1, 0, none⟩ = false ∧ w.heap.size + 1 + 1 < wx.heap.size)
      case atStart => exact ⟨0, none, 0, 0, Nat.le_refl _, by go_num, Hst.out, ⟨Nat.le_refl _, by omega, fun _ => 0, Rd.nil _ _ _, fun i h => absurd h (by omega), fun h => absurd h (by omega), rfl⟩, hb, hAc, q1, q2, q3, q4, hsz⟩
      case round =>
        clear hb hAc q1 q2 q3 q4 hsz
        obtain ⟨R, A1, n1, c1, hg, rfl, hR, iR, hb, hAc, q1, q2, q3, q4, hsz⟩ := hrel
        rcases gk with _ | g
        · have hR2 : IsRoot X m R := by simpa using hR
          clear hR
          go_wp2
          go_ret
          exact ⟨R, hR2, A1, n1, c1, rfl, iR, hb⟩
        · have HR : Hid (IsRoot (X / 2 ^ (m * (g + 1))) m R) := hR
          have HR2 : Hid (R * 2 + 1 < 4294967296 ^ (k + 1)) := two_bound (Nat.le_trans (root_le hm1 hR.1) (Nat.div_le_self _ _)) HX.out
          have HR1 : Hid (R < 4294967296 ^ (k + 1)) := Nat.lt_of_le_of_lt (by omega) HR2.out
          have Hpl : Hid (m * g ≤ 32 * n) := Nat.le_trans (Nat.mul_le_mul_left _ (by omega)) (Nat.le_trans Hq.out hnb)
          have hkm : (k + 1) * m + 1 ≤ 10000000 := by
            have : (k + 1) * m ≤ 1001 * 4096 := Nat.mul_le_mul (by omega) hm
            omega
          have HKM : Hid ((k + 1) * m + 1 ≤ 10000000) := hkm
          clear hR hkm
          go_wp2_with fail
          rw [show ((g + 1 : Nat) : Int) - 1 = (g : Int) from by omega]
          refine (belongs_any g _ _ _ A1 A n1 c1 n c R X m _ q3 q2 q1 iR hAc (by omega) (k + 1) HR2.out HKM.out (by omega) (by omega) Hpl.out).mono ?_
          rintro e W2 ⟨rfl, b2⟩
          have hl1 : n1 ≤ k + 1 := iR.len HR1.out
          have hb2 := below_more hb (Nat.le_refl _) b2
          have z3 := cell_keep q3 b2
          by_cases hbit : (R * 2 + 1) ^ m ≤ X / 2 ^ (m * g)
          · rw [show decide ((R * 2 + 1) ^ m ≤ X / 2 ^ (m * g)) = true from by simp; exact hbit]
            have Hnew : Hid (IsRoot (X / 2 ^ (m * g)) m (R * 2 + 1)) := by
              have h := root_step HR.out
              rw [if_pos hbit] at h
              exact h
            clear hbit
            go_wp2_with fail
            refine (mulAdd_any A1 n1 c1 R 2 1 _ (iR.below (Nat.le_refl _) b2) (by omega) (by omega) (by omega)).mono ?_
            rintro e W3 ⟨A3, n3, c3, rfl, i3, b3⟩
            have hbn := below_more hb2 (Nat.le_refl _) b3
            have y1 := cell_keep (cell_keep q1 b2) b3
            have y2 := cell_keep (cell_keep q2 b2) b3
            have y3 := cell_keep (cell_keep q3 b2) b3
            have y4 := frozen_keep (cell_keep q3 b2) (frozen_keep q3 q4 b2) b3
            have y5 : w.heap.size + 1 + 1 < W3.heap.size := Nat.lt_of_lt_of_le hsz (Nat.le_trans b2.size b3.size)
            have hnd : ∀ x, W3.cell? ⟨w.heap.size + 1 + 1, 0, none⟩ = some x → ∀ d, x ≠ .int .u32 d := fun x hx d e => by rw [y3] at hx; injection hx with hx; rw [← hx] at e; cases e
            have Hnd := Lib.hid hnd
            clear hnd
            have iX := (hAc.below (Nat.le_refl _) b2).below (Nat.le_refl _) b3
            go_wp2
            go_roundg g
            case measure => omega
            case rel => exact ⟨R * 2 + 1, A3, n3, c3, by omega, by go_num, Hnew.out, isNat_set i3 _ _ Hnd.out, hbn.setCell (by show w.heap.size ≤ w.heap.size + 1 + 1; omega) _, isNat_set iX _ _ Hnd.out, by rw [World.cell?_setCell_far _ _ _ _ (by show w.heap.size + 1 + 1 ≠ w.heap.size; omega)]; exact y1, by rw [World.cell?_setCell_far _ _ _ _ (by show w.heap.size + 1 + 1 ≠ w.heap.size + 1; omega)]; exact y2, World.cell?_setCell_same' _ _ _ (by rw [y3]; rfl), by rw [World.frozen?_setCell]; exact y4, by rw [World.size_setCell]; exact y5⟩
          · rw [show decide ((R * 2 + 1) ^ m ≤ X / 2 ^ (m * g)) = false from by simp; omega]
            have Hnew : Hid (IsRoot (X / 2 ^ (m * g)) m (R * 2)) := by
              have h := root_step HR.out
              rw [if_neg hbit] at h
              exact h
            clear hbit
            go_wp2_with fail
            refine (mulAdd_any A1 n1 c1 R 2 0 _ (iR.below (Nat.le_refl _) b2) (by omega) (by omega) (by omega)).mono ?_
            rintro e W3 ⟨A3, n3, c3, rfl, i3, b3⟩
            have hbn := below_more hb2 (Nat.le_refl _) b3
            have y1 := cell_keep (cell_keep q1 b2) b3
            have y2 := cell_keep (cell_keep q2 b2) b3
            have y3 := cell_keep (cell_keep q3 b2) b3
            have y4 := frozen_keep (cell_keep q3 b2) (frozen_keep q3 q4 b2) b3
            have y5 : w.heap.size + 1 + 1 < W3.heap.size := Nat.lt_of_lt_of_le hsz (Nat.le_trans b2.size b3.size)
            have hnd : ∀ x, W3.cell? ⟨w.heap.size + 1 + 1, 0, none⟩ = some x → ∀ d, x ≠ .int .u32 d := fun x hx d e => by rw [y3] at hx; injection hx with hx; rw [← hx] at e; cases e
            have Hnd := Lib.hid hnd
            clear hnd
            have iX := (hAc.below (Nat.le_refl _) b2).below (Nat.le_refl _) b3
            go_wp2
            go_roundg g
            case measure => omega
            case rel => exact ⟨R * 2, A3, n3, c3, by omega, by go_num, Hnew.out, isNat_set i3 _ _ Hnd.out, hbn.setCell (by show w.heap.size ≤ w.heap.size + 1 + 1; omega) _, isNat_set iX _ _ Hnd.out, by rw [World.cell?_setCell_far _ _ _ _ (by show w.heap.size + 1 + 1 ≠ w.heap.size; omega)]; exact y1, by rw [World.cell?_setCell_far _ _ _ _ (by show w.heap.size + 1 + 1 ≠ w.heap.size + 1; omega)]; exact y2, World.cell?_setCell_same' _ _ _ (by rw [y3]; rfl), by rw [World.frozen?_setCell]; exact y4, by rw [World.size_setCell]; exact y5⟩
end Go.Proofs.YtmdkkeklihfdgaaGreatDoor
