/- What integer.Bits returns: the number of bits; likewise integer.size of digits. No condition but the sizes. -/
import Derived.Test.YtmdkkeklihfdgaaGreatDoorInt
import Derived.Lib.BitFns
import Derived.Lib.ItoaNum
namespace Go.Proofs.YtmdkkeklihfdgaaGreatDoor
open Go.RowKit

/-- The least number n with N < 2^n. -/
def nbits (N : Nat) : Nat := if N = 0 then 0 else Nat.log2 N + 1
theorem nbits_lt (N : Nat) : N < 2 ^ nbits N := by
  unfold nbits; split
  · subst ‹N = 0›; simp
  · exact Nat.lt_log2_self
theorem nbits_ge {N : Nat} (h : N ≠ 0) : 2 ^ (nbits N - 1) ≤ N := by
  unfold nbits; rw [if_neg h]; exact Nat.log2_self_le h
theorem nbits_unique {N n : Nat} (h0 : N ≠ 0) (h1 : N < 2 ^ n) (h2 : 2 ^ (n - 1) ≤ N) : nbits N = n := by
  have a := nbits_lt N
  have b := nbits_ge h0
  have hn : 0 < n := by
    rcases Nat.eq_zero_or_pos n with e | e
    · subst e; simp at h1; omega
    · exact e
  have hn2 : 0 < nbits N := by unfold nbits; rw [if_neg h0]; omega
  rcases Nat.lt_trichotomy (nbits N) n with h | h | h
  · have : (2 : Nat) ^ nbits N ≤ 2 ^ (n - 1) := Nat.pow_le_pow_right (by omega) (by omega)
    omega
  · exact h
  · have : (2 : Nat) ^ n ≤ 2 ^ (nbits N - 1) := Nat.pow_le_pow_right (by omega) (by omega)
    omega
theorem nbits_bitLen {x : Nat} (h : x < 2 ^ 64) : Lib.bitLen x = nbits x := by
  by_cases h0 : x = 0
  · subst h0; rfl
  · obtain ⟨h1, h2, h3⟩ := Lib.bitLenAux_bounds 64 x h h0
    exact (nbits_unique h0 h3 h2).symm
theorem nbits_top {b r m : Nat} (hb : b ≠ 0) (hr : r < 2 ^ m) : nbits (b * 2 ^ m + r) = m + nbits b := by
  have h1 := nbits_lt b
  have h2 := nbits_ge hb
  have hp : 0 < 2 ^ m := Nat.two_pow_pos m
  have h3 : 1 * 2 ^ m ≤ b * 2 ^ m := Nat.mul_le_mul_right _ (by omega)
  have hn : 0 < nbits b := by unfold nbits; rw [if_neg hb]; omega
  apply nbits_unique
  · omega
  · rw [Nat.pow_add, Nat.mul_comm]
    have h4 : (b + 1) * 2 ^ m ≤ 2 ^ nbits b * 2 ^ m := Nat.mul_le_mul_right _ (by omega)
    rw [Nat.add_mul] at h4
    rw [Nat.mul_comm] 
    rw [Nat.mul_comm (2 ^ m)]
    omega
  · rw [show m + nbits b - 1 = (nbits b - 1) + m by omega, Nat.pow_add]
    have h4 : 2 ^ (nbits b - 1) * 2 ^ m ≤ b * 2 ^ m := Nat.mul_le_mul_right _ h2
    omega
theorem nbits_bytes (b : UInt8) (l : List UInt8) (hb : b ≠ 0) : nbits (vB (b :: l)) = 8 * l.length + nbits b.toNat := by
  rw [vB_cons, show (256 : Nat) = 2 ^ 8 by rfl, ← Nat.pow_mul]
  apply nbits_top
  · exact fun e => hb (by apply UInt8.toNat_inj.1; simpa using e)
  · rw [Nat.pow_mul]; exact vB_lt l
theorem nbits_digits (f : Nat → Nat) (n : Nat) (h : Dig f n) (h0 : f n ≠ 0) : nbits (val f (n + 1)) = 32 * n + nbits (f n) := by
  rw [val, Nat.add_comm (val f n), show (4294967296 : Nat) = 2 ^ 32 by rfl, ← Nat.pow_mul]
  apply nbits_top h0
  rw [Nat.pow_mul]; exact val_lt h
theorem bytesOf_cons {N : Nat} {b : UInt8} {t : List UInt8} (h : bytesOf N = b :: t) : b ≠ 0 ∧ vB (b :: t) = N := by
  have h2 : vB (b :: t) = N := by rw [← h]; exact vB_bytesOf N
  refine ⟨fun e => ?_, h2⟩
  have hh := head_trim (bytesOf N)
  rw [trim_bytes, vB_bytesOf, h, e] at hh
  simp at hh

set_option maxRecDepth 100000 in
set_option maxHeartbeats 800000 in
theorem ibits_any (v1 : Value) (z1 : Int) (k1 : Nat) (w : World) (h1 : IsInt v1 z1 k1) :
    Calls Tryz.prog 16 #[v1] w fun e w' => e = .returned (.int .i64 (nbits z1.natAbs : Int)) ∧ Below w.heap.size w w' := by
  obtain ⟨na, sa, rfl, hz1, hs1, hk1, hkk1⟩ := h1
  have Hz : Hid (zv na sa = z1) := hz1
  have hsz := mg_size hk1
  have hb := below1 w (.cells #[.bool na, .string sa] 23)
  clear hz1 hk1
  cases hl : bytesOf z1.natAbs with
  | nil =>
    have h0 : z1.natAbs = 0 := bytesOf_nil.1 hl
    have hm : mg z1 = ⟨#[]⟩ := by unfold mg; rw [hl]
    have Hm : Hid (mg z1 = ⟨#[]⟩) := hm
    have Hn : Hid (nbits z1.natAbs = 0) := by rw [h0]; rfl
    clear hl h0 hm
    go_enter Tryz.func16, Tryz.ntmps16
    go_wp2_with fail
    refine (can_any na sa _).mono ?_
    rintro e W1 ⟨rfl, b1⟩
    rw [Hz.out, Hm.out]
    go_wp2
    go_ret
    exact ⟨by rw [Hn.out]; rfl, below_more hb (Nat.le_refl _) b1⟩
  | cons b t =>
    obtain ⟨hb0, hv⟩ := bytesOf_cons hl
    have hm : mg z1 = ⟨(b :: t).toArray⟩ := by unfold mg; rw [hl]
    have Hm : Hid (mg z1 = ⟨(b :: t).toArray⟩) := hm
    have Hn : Hid (nbits z1.natAbs = 8 * t.length + Lib.bitLen b.toNat) := by
      rw [← hv, nbits_bytes _ _ hb0, nbits_bitLen (by have := b.toNat_lt; omega)]; rfl
    have hix := run_index_bytes (b :: t) 0 b rfl 0 (by simp)
    have hb' := b.toNat_lt
    have hlen : t.length + 1 ≤ 40000000 := by
      rw [hm] at hsz
      have : (⟨(b :: t).toArray⟩ : ByteArray).size = t.length + 1 := by simp [ByteArray.size]
      omega
    have hbl := Lib.bitLen_le b.toNat 8 (by omega) hb'
    clear hl hm hv hsz
    go_enter Tryz.func16, Tryz.ntmps16
    go_wp2_with fail
    refine (can_any na sa _).mono ?_
    rintro e W1 ⟨rfl, b1⟩
    rw [Hz.out, Hm.out]
    go_wp2_with fail
    refine (Tryz.bits_Len8 b.toNat _ (by omega) (by omega)).mono ?_
    rintro e w' ⟨rfl, hw⟩
    subst hw
    rw [Int.toNat_natCast]
    go_wp2
    go_ret
    exact ⟨by rw [Hn.out]; go_num, below_more hb (Nat.le_refl _) b1⟩

set_option maxHeartbeats 800000 in
theorem size_any (A : Option Addr) (n c N : Nat) (w : World) (hA : IsNat w A n c N) (hn : n ≤ 10000000000) :
    Calls Tryz.prog 61 #[.slice A n c] w fun e w' => e = .returned (.int .i64 (nbits N : Int)) ∧ w = w' := by
  obtain ⟨hnc, hc, f, ⟨b, off, hAe, hcell⟩, df, tf, rfl⟩ := hA
  rcases n with _ | n
  · go_enter Tryz.func61, Tryz.ntmps61
    go_wp2
    go_ret
    exact ⟨rfl, rfl⟩
  · obtain rfl := hAe (by omega)
    have hx := hcell n (by omega)
    have dn := df n (by omega)
    have t0 : f n ≠ 0 := tf (by omega)
    have Hn : Hid (nbits (val f (n + 1)) = 32 * n + Lib.bitLen (f n)) := by
      rw [nbits_digits f n (fun i hi => df i (by omega)) t0, nbits_bitLen (by omega)]; rfl
    have hbl := Lib.bitLen_le (f n) 32 (by omega) (by omega)
    have hne : (((n + 1 : Nat) : Int) == 0) = false := by simp; omega
    clear tf
    go_enter Tryz.func61, Tryz.ntmps61
    go_wp2_with fail
    refine (Tryz.bits_Len32 (f n) _ (by omega) (by omega)).mono ?_
    rintro e w' ⟨rfl, hw⟩
    subst hw
    rw [Int.toNat_natCast]
    go_wp2
    go_ret
    exact ⟨by rw [Hn.out]; go_num, rfl⟩
end Go.Proofs.YtmdkkeklihfdgaaGreatDoor
