/- What integer.power returns: the power of a number. Condition: the exponent is at most 1000000, the power has at most 10000000 digits. -/
import Derived.Test.YtgcogpfmhmmgdaaGreatDoorQ08
import Derived.Test.YtgcogpfmhmmgdaaGreatDoorQ09

namespace Go.Proofs.YtgcogpfmhmmgdaaGreatDoor
open Go.RowKit

/-- The exponent n, without its last i bits. -/
theorem pow_step (N n i : Nat) : N ^ (n / 2 ^ i) = N ^ (n / 2 ^ (i + 1)) * N ^ (n / 2 ^ (i + 1)) * (if n / 2 ^ i % 2 = 1 then N else 1) := by
  have h : n / 2 ^ (i + 1) = n / 2 ^ i / 2 := by rw [Nat.pow_succ, ← Nat.div_div_eq_div_mul]
  rw [h]
  generalize n / 2 ^ i = m
  rw [← Nat.pow_add]
  split
  · rw [← Nat.pow_succ]; congr 1; omega
  · rw [Nat.mul_one]; congr 1; omega

theorem pow_bound {N k e m : Nat} (hN : N < 4294967296 ^ k) (he : e ≤ m) : N ^ e < 4294967296 ^ (k * m + 1) := by
  have h1 : N ^ e ≤ (4294967296 ^ k) ^ e := Nat.pow_le_pow_left (by omega) e
  rw [← Nat.pow_mul] at h1
  have h2 : (4294967296 : Nat) ^ (k * e) ≤ 4294967296 ^ (k * m) := Nat.pow_le_pow_right (by omega) (Nat.mul_le_mul_left _ he)
  have h3 : (4294967296 : Nat) ^ (k * m) < 4294967296 ^ (k * m + 1) := Nat.pow_lt_pow_right (by omega) (by omega)
  omega
theorem one_nat (w : World) (t : TypeId) : IsNat (w.alloc (.cells #[.int .u32 1] t)) (some ⟨w.heap.size, 0, none⟩) 1 1 1 := by
  refine ⟨Nat.le_refl _, by omega, fun _ => 1, ⟨w.heap.size, 0, fun _ => rfl, fun i hi => ?_⟩, fun i _ => (by omega : (1 : Nat) < 4294967296), fun _ => (by show (1 : Nat) ≠ 0; omega), by simp [val]⟩
  obtain rfl : i = 0 := by omega
  simp [go_sem]
theorem and_one (x : Nat) (h : x < 9223372036854775808) : bits .and .i64 (x : Int) 1 = ((x % 2 : Nat) : Int) := by
  show IntKind.i64.wrap ((BitVec.ofInt 64 (x : Int) &&& BitVec.ofInt 64 1).toNat : Int) = _
  rw [BitVec.toNat_and, BitVec.ofInt_natCast, BitVec.toNat_ofNat, Nat.mod_eq_of_lt (by omega), show (BitVec.ofInt 64 1).toNat = 1 from rfl, Nat.and_one_is_mod, IntKind.wrap_i64]
  omega

end Go.Proofs.YtgcogpfmhmmgdaaGreatDoor
