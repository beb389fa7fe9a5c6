/- What integer.power returns: the power of a number. Condition: the exponent is at most 1000000, the power has at most 10000000 digits. -/
import Derived.Test.YtcljkdninmldiaaGreatDoorQ07
import Derived.Test.YtcljkdninmldiaaGreatDoorQ09

namespace Go.Proofs.YtcljkdninmldiaaGreatDoor
open Go.RowKit

/-- The exponent n, without its last i bits. -/
theorem pow_step (N n i : Nat) : N ^ (n / 2 ^ i) = N ^ (n / 2 ^ (i + 1)) * N ^ (n / 2 ^ (i + 1)) * (if n / 2 ^ i % 2 = 1 then N else 1) := by
  have h : n / 2 ^ (i + 1) = n / 2 ^ i / 2 := by rw [Nat.pow_succ, ← Nat.div_div_eq_div_mul]
  rw [h]
  generalize n / 2 ^ i = m
  rw [← Nat.pow_add]
  split
  · rw [← Nat.pow_succ]; congr 1; omega
  · rw [Nat.mul_one]; congr 1; omega

theorem pow_bound {N k e m : Nat} (hN : N < 4294967296 ^ k) (he : e ≤ m) : N ^ e < 4294967296 ^ (k * m + 1) := by
  have h1 : N ^ e ≤ (4294967296 ^ k) ^ e := Nat.pow_le_pow_left (by omega) e
  rw [← Nat.pow_mul] at h1
  have h2 : (4294967296 : Nat) ^ (k * e) ≤ 4294967296 ^ (k * m) := Nat.pow_le_pow_right (by omega) (Nat.mul_le_mul_left _ he)
  have h3 : (4294967296 : Nat) ^ (k * m) < 4294967296 ^ (k * m + 1) := Nat.pow_lt_pow_right (by omega) (by omega)
  omega
theorem one_nat (w : World) (t : TypeId) : IsNat (w.alloc (.cells #[.int .u32 1] t)) (some ⟨w.heap.size, 0, none⟩) 1 1 1 := by
  refine ⟨Nat.le_refl _, by omega, fun _ => 1, ⟨w.heap.size, 0, fun _ => rfl, fun i hi => ?_⟩, fun i _ => (by omega : (1 : Nat) < 4294967296), fun _ => (by show (1 : Nat) ≠ 0; omega), by simp [val]⟩
  obtain rfl : i = 0 := by omega
  simp [go_sem]
theorem and_one (x : Nat) (h : x < 9223372036854775808) : bits .and .i64 (x : Int) 1 = ((x % 2 : Nat) : Int) := by
  show IntKind.i64.wrap ((BitVec.ofInt 64 (x : Int) &&& BitVec.ofInt 64 1).toNat : Int) = _
  rw [BitVec.toNat_and, BitVec.ofInt_natCast, BitVec.toNat_ofNat, Nat.mod_eq_of_lt (by omega), show (BitVec.ofInt 64 1).toNat = 1 from rfl, Nat.and_one_is_mod, IntKind.wrap_i64]
  omega

set_option maxRecDepth 100000 in
set_option maxHeartbeats 1600000 in
theorem power_any (A : Option Addr) (n c N m k : Nat) (w : World) (hA : IsNat w A n c N) (hm : m ≤ 1000000) (hN : N < 4294967296 ^ k) (hk : k * m + 1 ≤ 10000000) (hn : n ≤ 10000000) :
    Calls Tryz.prog 47 #[.slice A n c, .int .i64 (m : Int)] w (NatOut w (N ^ m)) := by
  have Hpow : Hid (∀ i, N ^ (m / 2 ^ i) < 4294967296 ^ (k * m + 1)) := fun i => pow_bound hN (Nat.div_le_self _ _)
  have hbl : Lib.bitLen m ≤ 20 := Lib.bitLen_le m 20 (by omega) (by omega)
  have hlt : m < 2 ^ Lib.bitLen m := by rw [nbits_bitLen (by omega)]; exact nbits_lt m
  have hone := one_nat w 63
  clear hN
  go_enter Tryz.func47, Tryz.ntmps47
  go_wp2_with fail
  refine (Tryz.bits_Len (m : Int) _ (by omega) (by omega)).mono ?_
  rintro e w' ⟨rfl, hw⟩
  subst hw
  rw [Int.toNat_natCast]
  generalize Lib.bitLen m = L at *
  have Hlt : Hid (m < 2 ^ L) := hlt
  clear hlt
  go_wp2_with fail
  go_loopg [5, 6] L (fun g r i wx => ∃ A1 n1 c1, g ≤ L ∧ r = .slice A1 n1 c1 ∧ i = .int .i64 ((g : Int) - 1) ∧ IsNat wx A1 n1 c1 (N ^ (m / 2 ^ g)) ∧ Below w.heap.size w wx)
  case atStart => exact ⟨_, _, _, Nat.le_refl _, rfl, by go_num, by rw [Nat.div_eq_of_lt Hlt.out, Nat.pow_zero]; exact hone, below1 _ _⟩
  case round =>
    obtain ⟨A1, n1, c1, hg, rfl, rfl, hi, hb⟩ := hrel
    rcases gk with _ | g
    · have hi2 : IsNat wr A1 n1 c1 (N ^ m) := by simpa using hi
      clear hi
      go_wp2
      go_ret
      exact ⟨_, _, _, rfl, hi2, hb⟩
    · have hl1 : n1 ≤ k * m + 1 := hi.len (Hpow.out _)
      have hA1 := hA.below (Nat.le_refl _) hb
      have hst := pow_step N m g
      have Hst : Hid (N ^ (m / 2 ^ g) = N ^ (m / 2 ^ (g + 1)) * N ^ (m / 2 ^ (g + 1)) * (if m / 2 ^ g % 2 = 1 then N else 1)) := hst
      have hle : N ^ (m / 2 ^ (g + 1)) * N ^ (m / 2 ^ (g + 1)) < 4294967296 ^ (k * m + 1 + (k * m + 1)) := prod_bound (Hpow.out _) (Hpow.out _)
      have Hle : Hid (N ^ (m / 2 ^ (g + 1)) * N ^ (m / 2 ^ (g + 1)) < 4294967296 ^ (k * m + 1 + (k * m + 1))) := hle
      have hd : m / 2 ^ g ≤ m := Nat.div_le_self _ _
      have hand : bits .and .i64 ((m : Int) / 2 ^ g) 1 = ((m / 2 ^ g % 2 : Nat) : Int) := by
        have h := and_one (m / 2 ^ g) (by omega)
        rw [Int.natCast_ediv, Int.natCast_pow] at h
        exact h
      have Hand : Hid (bits .and .i64 ((m : Int) / 2 ^ g) 1 = ((m / 2 ^ g % 2 : Nat) : Int)) := hand
      clear hand
      clear hst hle
      go_wp2_with fail
      refine (mul_any A1 A1 n1 n1 c1 c1 _ _ _ hi hi (by omega) (by omega)).mono ?_
      rintro e W2 ⟨A2, n2, c2, rfl, i2, b2⟩
      have l2 := i2.len Hle.out
      have hb2 := below_more hb (Nat.le_refl _) b2
      have hA2 := hA.below (Nat.le_refl _) hb2
      by_cases hbit : m / 2 ^ g % 2 = 1
      · have hbb : (bits .and .i64 ((m : Int) / 2 ^ g) 1 == 1) = true := by rw [Hand.out, hbit]; rfl
        have Hfin : Hid (N ^ (m / 2 ^ (g + 1)) * N ^ (m / 2 ^ (g + 1)) * N = N ^ (m / 2 ^ g)) := by
          have h := Hst.out
          rw [if_pos hbit] at h
          exact h.symm
        clear hbit
        go_wp2_with fail
        refine (mul_any A2 A n2 n c2 c _ _ _ i2 hA2 (by omega) (by omega)).mono ?_
        rintro e W3 ⟨A3, n3, c3, rfl, i3, b3⟩
        rw [Hfin.out] at i3
        go_wp2
        go_roundg g
        case measure => omega
        case rel => exact ⟨A3, n3, c3, by omega, rfl, rfl, i3, below_more hb2 (Nat.le_refl _) b3⟩
      · have hbb : (bits .and .i64 ((m : Int) / 2 ^ g) 1 == 1) = false := by rw [Hand.out]; exact beq_eq_false_iff_ne.2 (by omega)
        have Hfin : Hid (N ^ (m / 2 ^ (g + 1)) * N ^ (m / 2 ^ (g + 1)) = N ^ (m / 2 ^ g)) := by
          have h := Hst.out
          rw [if_neg hbit, Nat.mul_one] at h
          exact h.symm
        clear hbit
        rw [Hfin.out] at i2
        go_wp2
        go_roundg g
        case measure => omega
        case rel => exact ⟨A2, n2, c2, by omega, rfl, rfl, i2, hb2⟩
end Go.Proofs.YtcljkdninmldiaaGreatDoor
