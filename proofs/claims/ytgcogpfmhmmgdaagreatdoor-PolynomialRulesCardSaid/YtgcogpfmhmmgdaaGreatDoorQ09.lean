/- What integer.divide returns where the divisor has one digit, or is greater: the quotient and the rest. What integer.Bits returns: the number of bits; likewise integer.size of digits. No condition but the sizes. What integer.multiplyAdd returns: the product with a digit, and a digit more. Condition: a number in memory. -/
import Derived.Test.YtgcogpfmhmmgdaaGreatDoorQ02
import Derived.Test.YtgcogpfmhmmgdaaGreatDoorQ08
import Derived.Lib.Hide
import Derived.Lib.BitFns
import Derived.Lib.ItoaNum
import Derived.Test.YtgcogpfmhmmgdaaGreatDoorQ01

namespace Go.Proofs.YtgcogpfmhmmgdaaGreatDoor
open Go.RowKit

def DivdOut (w : World) (Q R : Nat) (e : Ending) (w' : World) : Prop :=
  ∃ A1 n1 c1 A2 n2 c2, e = .returned (.tuple #[.slice A1 n1 c1, .slice A2 n2 c2]) ∧ IsNat w' A1 n1 c1 Q ∧ IsNat w' A2 n2 c2 R ∧ Below w.heap.size w w'

theorem zero_nat (w : World) : IsNat w none 0 0 0 := ⟨Nat.le_refl _, by omega, fun _ => 0, Rd.nil _ _ _, fun i h => absurd h (by omega), fun h => absurd h (by omega), rfl⟩
theorem oneRow (w : World) (t : TypeId) (d : Nat) : Rd (w.alloc (.cells #[.int .u32 (d : Int)] t)) (some ⟨w.heap.size, 0, none⟩) 1 (fun _ => d) := by
  refine ⟨w.heap.size, 0, fun _ => rfl, fun i hi => ?_⟩
  obtain rfl : i = 0 := by omega
  simp [go_sem]

set_option maxRecDepth 100000 in
set_option maxHeartbeats 1600000 in
theorem divide_lt (A B : Option Addr) (n m c d N M : Nat) (w : World) (hA : IsNat w A n c N) (hB : IsNat w B m d M) (hlt : N < M) :
    Calls Tryz.prog 112 #[.slice A n c, .slice B m d] w (DivdOut w (N / M) (N % M)) := by
  have hc : cmpN N M < 0 := by unfold cmpN; rw [if_pos hlt]; omega
  have Hq : Hid (N / M = 0 ∧ N % M = N) := ⟨Nat.div_eq_of_lt hlt, Nat.mod_eq_of_lt hlt⟩
  clear hlt
  go_enter Tryz.func112, Tryz.ntmps112
  go_wp2_with fail
  refine (compare_any A B n m c d N M _ hA hB).mono ?_
  rintro e w' ⟨rfl, q, rfl⟩
  go_wp2
  go_ret2
  exact ⟨none, 0, 0, A, n, c, rfl, by rw [Hq.out.1]; exact zero_nat _, by rw [Hq.out.2]; exact hA, ⟨rfl, rfl, rfl, Nat.le_refl _, fun _ _ => rfl⟩⟩

set_option maxRecDepth 100000 in
set_option maxHeartbeats 1600000 in
theorem divide_one (A B : Option Addr) (n m c d N M : Nat) (w : World) (hA : IsNat w A n c N) (hB : IsNat w B m d M) (hn : n ≤ 10000000) (hge : ¬ N < M) (h0 : M ≠ 0) (h1 : M < 4294967296) :
    Calls Tryz.prog 112 #[.slice A n c, .slice B m d] w (DivdOut w (N / M) (N % M)) := by
  have hc : ¬ cmpN N M < 0 := by unfold cmpN; rw [if_neg hge]; split <;> omega
  have hm1 : m = 1 := by
    have h2 := hB.len (k := 1) (by simpa using h1)
    obtain ⟨_, _, g, _, _, _, hv⟩ := hB
    rcases m with _ | m
    · simp [val] at hv; omega
    · omega
  subst hm1
  have hB2 := hB
  obtain ⟨hmd, hd, g, ⟨b', off', hBe, hcell'⟩, dg, tg, hv⟩ := hB
  obtain rfl := hBe (by omega)
  have hg : g 0 = M := by simpa [val] using hv
  have hx : w.cell? ⟨b', off', none⟩ = some (.int .u32 (M : Int)) := by have := hcell' 0 (by omega); rw [hg] at this; simpa using this
  have hone : (((1 : Nat) : Int) == 1) = true := rfl
  clear hcell' hv hg hge
  go_enter Tryz.func112, Tryz.ntmps112
  go_wp2_with fail
  refine (compare_any A _ n 1 c d N M _ hA hB2).mono ?_
  rintro e w' ⟨rfl, q, rfl⟩
  have hA' : IsNat (w.drewN q) A n c N := hA
  have hb0 : Below w.heap.size w (w.drewN q) := ⟨rfl, rfl, rfl, Nat.le_refl _, fun _ _ => rfl⟩
  go_wp2_with fail
  refine (divSmall_any A n c N M _ (by obtain ⟨_, _, f, a1, a2, _, a3⟩ := hA'; exact ⟨f, a1, a2, a3⟩) (by omega) (by omega) h1).mono ?_
  rintro e W1 ⟨A1, n1, c1, rfl, i1, b1⟩
  have hmod := Nat.mod_lt N (show 0 < M by omega)
  have hr := oneRow W1 93 (N % M)
  have hbb := below1 W1 (.cells #[.int .u32 ((N % M : Nat) : Int)] 93)
  have i1' := i1.below (Nat.le_refl _) hbb
  have hrd := nat_out hr (Below.refl _ _) (s := fun _ => N % M) (fun i _ => (by omega : N % M < 4294967296)) (by omega) (by simp [val] : val (fun _ => N % M) 1 = N % M)
  have Hrd := Lib.hid hrd
  clear hrd hmod
  generalize N % M = r at *
  go_wp2_with fail
  refine (trim_any _ 1 1 (fun _ => r) _ (Nat.le_refl _) (by omega) hr).mono ?_
  rintro e W2 ⟨rfl, rfl⟩
  go_wp2
  go_ret2
  obtain ⟨A2, n2, c2, he, hi, _⟩ := Hrd.out
  injection he with he
  injection he with x1 x2 x3
  subst x1 x2 x3
  exact ⟨_, _, _, _, _, _, rfl, i1', hi, (below_more hb0 (Nat.le_refl _) b1).trans (hbb.mono (by have := b1.size; have := hb0.size; omega))⟩
end Go.Proofs.YtgcogpfmhmmgdaaGreatDoor

namespace Go.Proofs.YtgcogpfmhmmgdaaGreatDoor
open Go.RowKit

/-- The least number n with N < 2^n. -/
def nbits (N : Nat) : Nat := if N = 0 then 0 else Nat.log2 N + 1
theorem nbits_lt (N : Nat) : N < 2 ^ nbits N := by
  unfold nbits; split
  · subst ‹N = 0›; simp
  · exact Nat.lt_log2_self
theorem nbits_ge {N : Nat} (h : N ≠ 0) : 2 ^ (nbits N - 1) ≤ N := by
  unfold nbits; rw [if_neg h]; exact Nat.log2_self_le h
theorem nbits_unique {N n : Nat} (h0 : N ≠ 0) (h1 : N < 2 ^ n) (h2 : 2 ^ (n - 1) ≤ N) : nbits N = n := by
  have a := nbits_lt N
  have b := nbits_ge h0
  have hn : 0 < n := by
    rcases Nat.eq_zero_or_pos n with e | e
    · subst e; simp at h1; omega
    · exact e
  have hn2 : 0 < nbits N := by unfold nbits; rw [if_neg h0]; omega
  rcases Nat.lt_trichotomy (nbits N) n with h | h | h
  · have : (2 : Nat) ^ nbits N ≤ 2 ^ (n - 1) := Nat.pow_le_pow_right (by omega) (by omega)
    omega
  · exact h
  · have : (2 : Nat) ^ n ≤ 2 ^ (nbits N - 1) := Nat.pow_le_pow_right (by omega) (by omega)
    omega
theorem nbits_bitLen {x : Nat} (h : x < 2 ^ 64) : Lib.bitLen x = nbits x := by
  by_cases h0 : x = 0
  · subst h0; rfl
  · obtain ⟨h1, h2, h3⟩ := Lib.bitLenAux_bounds 64 x h h0
    exact (nbits_unique h0 h3 h2).symm
theorem nbits_top {b r m : Nat} (hb : b ≠ 0) (hr : r < 2 ^ m) : nbits (b * 2 ^ m + r) = m + nbits b := by
  have h1 := nbits_lt b
  have h2 := nbits_ge hb
  have hp : 0 < 2 ^ m := Nat.two_pow_pos m
  have h3 : 1 * 2 ^ m ≤ b * 2 ^ m := Nat.mul_le_mul_right _ (by omega)
  have hn : 0 < nbits b := by unfold nbits; rw [if_neg hb]; omega
  apply nbits_unique
  · omega
  · rw [Nat.pow_add, Nat.mul_comm]
    have h4 : (b + 1) * 2 ^ m ≤ 2 ^ nbits b * 2 ^ m := Nat.mul_le_mul_right _ (by omega)
    rw [Nat.add_mul] at h4
    rw [Nat.mul_comm] 
    rw [Nat.mul_comm (2 ^ m)]
    omega
  · rw [show m + nbits b - 1 = (nbits b - 1) + m by omega, Nat.pow_add]
    have h4 : 2 ^ (nbits b - 1) * 2 ^ m ≤ b * 2 ^ m := Nat.mul_le_mul_right _ h2
    omega
theorem nbits_bytes (b : UInt8) (l : List UInt8) (hb : b ≠ 0) : nbits (vB (b :: l)) = 8 * l.length + nbits b.toNat := by
  rw [vB_cons, show (256 : Nat) = 2 ^ 8 by rfl, ← Nat.pow_mul]
  apply nbits_top
  · exact fun e => hb (by apply UInt8.toNat_inj.1; simpa using e)
  · rw [Nat.pow_mul]; exact vB_lt l
theorem nbits_digits (f : Nat → Nat) (n : Nat) (h : Dig f n) (h0 : f n ≠ 0) : nbits (val f (n + 1)) = 32 * n + nbits (f n) := by
  rw [val, Nat.add_comm (val f n), show (4294967296 : Nat) = 2 ^ 32 by rfl, ← Nat.pow_mul]
  apply nbits_top h0
  rw [Nat.pow_mul]; exact val_lt h
theorem bytesOf_cons {N : Nat} {b : UInt8} {t : List UInt8} (h : bytesOf N = b :: t) : b ≠ 0 ∧ vB (b :: t) = N := by
  have h2 : vB (b :: t) = N := by rw [← h]; exact vB_bytesOf N
  refine ⟨fun e => ?_, h2⟩
  have hh := head_trim (bytesOf N)
  rw [trim_bytes, vB_bytesOf, h, e] at hh
  simp at hh

set_option maxRecDepth 100000 in
set_option maxHeartbeats 800000 in
theorem ibits_any (v1 : Value) (z1 : Int) (k1 : Nat) (w : World) (h1 : IsInt v1 z1 k1) :
    Calls Tryz.prog 34 #[v1] w fun e w' => e = .returned (.int .i64 (nbits z1.natAbs : Int)) ∧ Below w.heap.size w w' := by
  obtain ⟨na, sa, rfl, hz1, hs1, hk1, hkk1⟩ := h1
  have Hz : Hid (zv na sa = z1) := hz1
  have hsz := mg_size hk1
  have hb := below1 w (.cells #[.bool na, .string sa] 27)
  clear hz1 hk1
  cases hl : bytesOf z1.natAbs with
  | nil =>
    have h0 : z1.natAbs = 0 := bytesOf_nil.1 hl
    have hm : mg z1 = ⟨#[]⟩ := by unfold mg; rw [hl]
    have Hm : Hid (mg z1 = ⟨#[]⟩) := hm
    have Hn : Hid (nbits z1.natAbs = 0) := by rw [h0]; rfl
    clear hl h0 hm
    go_enter Tryz.func34, Tryz.ntmps34
    go_wp2_with fail
    refine (can_any na sa _).mono ?_
    rintro e W1 ⟨rfl, b1⟩
    rw [Hz.out, Hm.out]
    go_wp2
    go_ret
    exact ⟨by rw [Hn.out]; rfl, below_more hb (Nat.le_refl _) b1⟩
  | cons b t =>
    obtain ⟨hb0, hv⟩ := bytesOf_cons hl
    have hm : mg z1 = ⟨(b :: t).toArray⟩ := by unfold mg; rw [hl]
    have Hm : Hid (mg z1 = ⟨(b :: t).toArray⟩) := hm
    have Hn : Hid (nbits z1.natAbs = 8 * t.length + Lib.bitLen b.toNat) := by
      rw [← hv, nbits_bytes _ _ hb0, nbits_bitLen (by have := b.toNat_lt; omega)]; rfl
    have hix := run_index_bytes (b :: t) 0 b rfl 0 (by simp)
    have hb' := b.toNat_lt
    have hlen : t.length + 1 ≤ 40000000 := by
      rw [hm] at hsz
      have : (⟨(b :: t).toArray⟩ : ByteArray).size = t.length + 1 := by simp [ByteArray.size]
      omega
    have hbl := Lib.bitLen_le b.toNat 8 (by omega) hb'
    clear hl hm hv hsz
    go_enter Tryz.func34, Tryz.ntmps34
    go_wp2_with fail
    refine (can_any na sa _).mono ?_
    rintro e W1 ⟨rfl, b1⟩
    rw [Hz.out, Hm.out]
    go_wp2_with fail
    refine (Tryz.bits_Len8 b.toNat _ (by omega) (by omega)).mono ?_
    rintro e w' ⟨rfl, hw⟩
    subst hw
    rw [Int.toNat_natCast]
    go_wp2
    go_ret
    exact ⟨by rw [Hn.out]; go_num, below_more hb (Nat.le_refl _) b1⟩

end Go.Proofs.YtgcogpfmhmmgdaaGreatDoor

namespace Go.Proofs.YtgcogpfmhmmgdaaGreatDoor
open Go.RowKit

theorem muladd_step {s f : Nat → Nat} {k x a y : Nat} (hv : val s k + y * 4294967296 ^ k = val f k * x + a) :
    val (upd s k ((y + f k * x) % 4294967296)) (k + 1) + (y + f k * x) / 4294967296 * 4294967296 ^ (k + 1) = val f (k + 1) * x + a := by
  rw [val_upd, val, Nat.pow_succ]
  have h := Nat.div_add_mod (y + f k * x) 4294967296
  generalize hq : (y + f k * x) / 4294967296 = q at *
  generalize hr : (y + f k * x) % 4294967296 = r at *
  generalize 4294967296 ^ k = P at *
  have e : (4294967296 * q + r) * P = (y + f k * x) * P := by rw [h]
  rw [Nat.add_mul, Nat.add_mul] at e
  have e2 : q * (P * 4294967296) = 4294967296 * q * P := by rw [Nat.mul_comm P, ← Nat.mul_assoc, Nat.mul_comm q]
  have e3 : f k * P * x = f k * x * P := by rw [Nat.mul_assoc, Nat.mul_comm P, Nat.mul_assoc]
  rw [e2, Nat.add_mul, e3]
  omega

set_option maxHeartbeats 800000 in
theorem mulAdd_any (A : Option Addr) (n c N x a : Nat) (w : World) (hA : IsNat w A n c N) (hn : n ≤ 10000000000) (hx : x < 4294967296) (ha : a < 4294967296) :
    Calls Tryz.prog 135 #[.slice A n c, .int .u32 (x : Int), .int .u32 (a : Int)] w (NatOut w (N * x + a)) := by
  obtain ⟨hnc, hc, f, ⟨b, off, hAe, hcell⟩, df, tf, rfl⟩ := hA
  have hmk := run_make_row' (P := Tryz.prog) 86 93 (.int .u32 0) 4 Tryz.underlying86 Tryz.infoU32 rfl .i64 .i64 (n + 1) (by omega) (by omega)
  rw [show ((n + 1 : Nat) : Int) = (n : Int) + 1 by omega] at hmk
  go_enter Tryz.func135, Tryz.ntmps135
  go_wp2
  clear hmk
  go_loopg [8, 19] n (fun q cy i wx => ∃ (k y : Nat) (s : Nat → Nat), k + q = n ∧ i = .int .i64 k ∧ cy = .int .u64 (y : Int) ∧ y < 4294967296 ∧ Dig s k ∧ val s k + y * 4294967296 ^ k = val f k * x + a ∧ Below w.heap.size w wx ∧ wx.heap.size = w.heap.size + 1 ∧ wx.rowIs w.heap.size 93 (n + 1) (dsts s k))
  case atStart => exact ⟨0, a, fun _ => 0, by omega, rfl, rfl, by omega, fun i h => absurd h (by omega), by simp [val], (Below.refl _ _).alloc (Nat.le_refl _) _, by simp, (World.rowIs_made w _ (n + 1) _).congr (fun i _ => by simp [dsts])⟩
  case round =>
    obtain ⟨k, y, s, hk, rfl, rfl, hy, ds, hv, hb, hsz, hrow⟩ := hrel
    rcases gk with _ | q
    · obtain rfl : k = n := by omega
      clear hk
      have hw1 := hrow.cell (i := k) (by omega)
      have hw2 := hrow.frozen k
      have Hv : Hid (val s k + y * 4294967296 ^ k = val f k * x + a) := hv
      have Hs : Hid (wr.heap.size = w.heap.size + 1) := hsz
      clear hv hsz
      have hrow2 := dsts_step hrow (x := (y : Int)) rfl
      have hb2 := hb.setCell (p := ⟨w.heap.size, k, none⟩) (Nat.le_refl _) (.int .u32 (y : Int))
      have ds2 := dig_upd ds (show y < 4294967296 by omega)
      have hr2 := dsts_rd hrow2
      clear hrow2
      go_wp2_with fail
      refine (trim_any _ (k + 1) (k + 1) (upd s k y) _ (Nat.le_refl _) (by omega) hr2).mono ?_
      rintro e w' ⟨rfl, rfl⟩
      go_wp2
      go_ret
      exact nat_out hr2 hb2 ds2 (by omega) (by rw [val_upd, Hv.out])
    · obtain rfl := hAe (by omega)
      have hx : wr.cell? ⟨b, off + k, none⟩ = some (.int .u32 (f k : Int)) := by rw [hb.cell (Rd.lt hcell (by omega))]; exact hcell k (by omega)
      have hw1 := hrow.cell (i := k) (by omega)
      have hw2 := hrow.frozen k
      have dk := df k (by omega)
      have hkn : k < n := by omega
      have Hv : Hid (val s k + y * 4294967296 ^ k = val f k * x + a) := hv
      have Hs : Hid (wr.heap.size = w.heap.size + 1) := hsz
      have Hk : Hid (k + (q + 1) = n) := hk
      clear hv hsz hk
      have hp : f k * x ≤ 4294967295 * 4294967295 := Nat.mul_le_mul (by omega) (by omega)
      have hp1 : (f k : Int) * (x : Int) ≤ 18446744065119617025 := by
        rw [← Int.natCast_mul]; omega
      have hp0 : 0 ≤ (f k : Int) * (x : Int) := by rw [← Int.natCast_mul]; omega
      go_wp2
      have hst := muladd_step Hv.out
      go_roundg q
      case measure => omega
      case rel => exact ⟨k + 1, (y + f k * x) / 4294967296, _, by have := Hk.out; omega, by go_num, by rw [Int.natCast_ediv, Int.natCast_add, Int.natCast_mul]; rfl, by omega, dig_upd ds (Nat.mod_lt _ (by omega)), hst, hb.setCell (Nat.le_refl _) _, by simpa using Hs.out, dsts_step hrow (by rw [Int.natCast_emod, Int.natCast_add, Int.natCast_mul]; rfl)⟩
end Go.Proofs.YtgcogpfmhmmgdaaGreatDoor
