/- What integer.Bits returns: the number of bits; likewise integer.size of digits. No condition but the sizes. Plain facts on numbers by their digits, read from above. No condition. What integer.divideSmall returns: the quotient and the rest. Condition: a number in memory; the divisor is not 0. -/
import Derived.Test.YtigdjlhihhakmaaGreatDoorQ09
import Derived.Lib.BitFns
import Derived.Lib.ItoaNum
import Derived.Test.YtigdjlhihhakmaaGreatDoorQ04
import Derived.Laws.BitsAllLaws
import Derived.Test.YtigdjlhihhakmaaGreatDoorQ06

namespace Go.Proofs.YtigdjlhihhakmaaGreatDoor
open Go.RowKit

/-- The least number n with N < 2^n. -/
def nbits (N : Nat) : Nat := if N = 0 then 0 else Nat.log2 N + 1
theorem nbits_lt (N : Nat) : N < 2 ^ nbits N := by
  unfold nbits; split
  · subst ‹N = 0›; simp
  · exact Nat.lt_log2_self
theorem nbits_ge {N : Nat} (h : N ≠ 0) : 2 ^ (nbits N - 1) ≤ N := by
  unfold nbits; rw [if_neg h]; exact Nat.log2_self_le h
theorem nbits_unique {N n : Nat} (h0 : N ≠ 0) (h1 : N < 2 ^ n) (h2 : 2 ^ (n - 1) ≤ N) : nbits N = n := by
  have a := nbits_lt N
  have b := nbits_ge h0
  have hn : 0 < n := by
    rcases Nat.eq_zero_or_pos n with e | e
    · subst e; simp at h1; omega
    · exact e
  have hn2 : 0 < nbits N := by unfold nbits; rw [if_neg h0]; omega
  rcases Nat.lt_trichotomy (nbits N) n with h | h | h
  · have : (2 : Nat) ^ nbits N ≤ 2 ^ (n - 1) := Nat.pow_le_pow_right (by omega) (by omega)
    omega
  · exact h
  · have : (2 : Nat) ^ n ≤ 2 ^ (nbits N - 1) := Nat.pow_le_pow_right (by omega) (by omega)
    omega
theorem nbits_bitLen {x : Nat} (h : x < 2 ^ 64) : Lib.bitLen x = nbits x := by
  by_cases h0 : x = 0
  · subst h0; rfl
  · obtain ⟨h1, h2, h3⟩ := Lib.bitLenAux_bounds 64 x h h0
    exact (nbits_unique h0 h3 h2).symm
theorem nbits_top {b r m : Nat} (hb : b ≠ 0) (hr : r < 2 ^ m) : nbits (b * 2 ^ m + r) = m + nbits b := by
  have h1 := nbits_lt b
  have h2 := nbits_ge hb
  have hp : 0 < 2 ^ m := Nat.two_pow_pos m
  have h3 : 1 * 2 ^ m ≤ b * 2 ^ m := Nat.mul_le_mul_right _ (by omega)
  have hn : 0 < nbits b := by unfold nbits; rw [if_neg hb]; omega
  apply nbits_unique
  · omega
  · rw [Nat.pow_add, Nat.mul_comm]
    have h4 : (b + 1) * 2 ^ m ≤ 2 ^ nbits b * 2 ^ m := Nat.mul_le_mul_right _ (by omega)
    rw [Nat.add_mul] at h4
    rw [Nat.mul_comm] 
    rw [Nat.mul_comm (2 ^ m)]
    omega
  · rw [show m + nbits b - 1 = (nbits b - 1) + m by omega, Nat.pow_add]
    have h4 : 2 ^ (nbits b - 1) * 2 ^ m ≤ b * 2 ^ m := Nat.mul_le_mul_right _ h2
    omega
theorem nbits_bytes (b : UInt8) (l : List UInt8) (hb : b ≠ 0) : nbits (vB (b :: l)) = 8 * l.length + nbits b.toNat := by
  rw [vB_cons, show (256 : Nat) = 2 ^ 8 by rfl, ← Nat.pow_mul]
  apply nbits_top
  · exact fun e => hb (by apply UInt8.toNat_inj.1; simpa using e)
  · rw [Nat.pow_mul]; exact vB_lt l
theorem nbits_digits (f : Nat → Nat) (n : Nat) (h : Dig f n) (h0 : f n ≠ 0) : nbits (val f (n + 1)) = 32 * n + nbits (f n) := by
  rw [val, Nat.add_comm (val f n), show (4294967296 : Nat) = 2 ^ 32 by rfl, ← Nat.pow_mul]
  apply nbits_top h0
  rw [Nat.pow_mul]; exact val_lt h
theorem bytesOf_cons {N : Nat} {b : UInt8} {t : List UInt8} (h : bytesOf N = b :: t) : b ≠ 0 ∧ vB (b :: t) = N := by
  have h2 : vB (b :: t) = N := by rw [← h]; exact vB_bytesOf N
  refine ⟨fun e => ?_, h2⟩
  have hh := head_trim (bytesOf N)
  rw [trim_bytes, vB_bytesOf, h, e] at hh
  simp at hh

set_option maxRecDepth 100000 in
set_option maxHeartbeats 800000 in
theorem ibits_any (v1 : Value) (z1 : Int) (k1 : Nat) (w : World) (h1 : IsInt v1 z1 k1) :
    Calls Tryz.prog 102 #[v1] w fun e w' => e = .returned (.int .i64 (nbits z1.natAbs : Int)) ∧ Below w.heap.size w w' := by
  obtain ⟨na, sa, rfl, hz1, hs1, hk1, hkk1⟩ := h1
  have Hz : Hid (zv na sa = z1) := hz1
  have hsz := mg_size hk1
  have hb := below1 w (.cells #[.bool na, .string sa] 23)
  clear hz1 hk1
  cases hl : bytesOf z1.natAbs with
  | nil =>
    have h0 : z1.natAbs = 0 := bytesOf_nil.1 hl
    have hm : mg z1 = ⟨#[]⟩ := by unfold mg; rw [hl]
    have Hm : Hid (mg z1 = ⟨#[]⟩) := hm
    have Hn : Hid (nbits z1.natAbs = 0) := by rw [h0]; rfl
    clear hl h0 hm
    go_enter Tryz.func102, Tryz.ntmps102
    go_wp2_with fail
    refine (can_any na sa _).mono ?_
    rintro e W1 ⟨rfl, b1⟩
    rw [Hz.out, Hm.out]
    go_wp2
    go_ret
    exact ⟨by rw [Hn.out]; rfl, below_more hb (Nat.le_refl _) b1⟩
  | cons b t =>
    obtain ⟨hb0, hv⟩ := bytesOf_cons hl
    have hm : mg z1 = ⟨(b :: t).toArray⟩ := by unfold mg; rw [hl]
    have Hm : Hid (mg z1 = ⟨(b :: t).toArray⟩) := hm
    have Hn : Hid (nbits z1.natAbs = 8 * t.length + Lib.bitLen b.toNat) := by
      rw [← hv, nbits_bytes _ _ hb0, nbits_bitLen (by have := b.toNat_lt; omega)]; rfl
    have hix := run_index_bytes (b :: t) 0 b rfl 0 (by simp)
    have hb' := b.toNat_lt
    have hlen : t.length + 1 ≤ 40000000 := by
      rw [hm] at hsz
      have : (⟨(b :: t).toArray⟩ : ByteArray).size = t.length + 1 := by simp [ByteArray.size]
      omega
    have hbl := Lib.bitLen_le b.toNat 8 (by omega) hb'
    clear hl hm hv hsz
    go_enter Tryz.func102, Tryz.ntmps102
    go_wp2_with fail
    refine (can_any na sa _).mono ?_
    rintro e W1 ⟨rfl, b1⟩
    rw [Hz.out, Hm.out]
    go_wp2_with fail
    refine (Tryz.bits_Len8 b.toNat _ (by omega) (by omega)).mono ?_
    rintro e w' ⟨rfl, hw⟩
    subst hw
    rw [Int.toNat_natCast]
    go_wp2
    go_ret
    exact ⟨by rw [Hn.out]; go_num, below_more hb (Nat.le_refl _) b1⟩

end Go.Proofs.YtigdjlhihhakmaaGreatDoor

namespace Go.Proofs.YtigdjlhihhakmaaGreatDoor
open Go.RowKit

theorem val_cons (f : Nat → Nat) (n : Nat) : val f (n + 1) = f 0 + 4294967296 * val (fun j => f (j + 1)) n := by
  induction n with
  | zero => simp [val]
  | succ n ih =>
    rw [val, ih, val, Nat.pow_succ, Nat.mul_add, Nat.add_assoc]
    congr 2
    rw [Nat.mul_comm (4294967296 ^ n), ← Nat.mul_assoc, ← Nat.mul_assoc, Nat.mul_comm (f (n + 1))]

/-- The number above the first k digits. -/
def top (f : Nat → Nat) (k n : Nat) : Nat := val (fun j => f (j + k)) (n - k)
theorem top_zero (f : Nat → Nat) (n : Nat) : top f 0 n = val f n := rfl
theorem top_all (f : Nat → Nat) (n : Nat) : top f n n = 0 := by simp [top, val]
theorem top_step (f : Nat → Nat) {k n : Nat} (h : k < n) : top f k n = f k + 4294967296 * top f (k + 1) n := by
  unfold top
  rw [show n - k = (n - (k + 1)) + 1 by omega, val_cons]
  congr 2
  · simp
  · exact val_congr fun i _ => by congr 1; omega
theorem top_congr {f g : Nat → Nat} {k n : Nat} (h : ∀ i, k ≤ i → i < n → f i = g i) : top f k n = top g k n :=
  val_congr fun i hi => h _ (by omega) (by omega)

/-- The row that holds the digits of s from k on, and zeros before them. -/
def dsdn (s : Nat → Nat) (k : Nat) : Nat → Value := fun j => .int .u32 ((if k ≤ j then s j else 0 : Nat) : Int)
theorem dsdn_step {w : World} {b n k : Nat} {t : TypeId} {s : Nat → Nat} (h : w.rowIs b t n (dsdn s (k + 1))) {x : Int} {v : Nat} (hx : x = (v : Int)) :
    (w.setCell ⟨b, k, none⟩ (.int .u32 x)).rowIs b t n (dsdn (upd s k v) k) :=
  (h.set k _).congr fun j _ => by
    subst hx
    unfold dsdn
    by_cases e : j = k
    · subst e; rw [if_pos rfl, if_pos (Nat.le_refl _), upd_same]
    · rw [if_neg e]
      by_cases hl : k + 1 ≤ j
      · rw [if_pos hl, if_pos (by omega)]; simp [upd, e]
      · rw [if_neg hl, if_neg (by omega)]
theorem dsdn_rd {w : World} {b n : Nat} {t : TypeId} {s : Nat → Nat} (h : w.rowIs b t n (dsdn s 0)) : Rd w (some ⟨b, 0, none⟩) n s :=
  Rd.of_row h (Nat.le_refl _) fun i hi => by simp [dsdn]

theorem or_shl (a b : Nat) (h : b < 4294967296) : a * 4294967296 ||| b = a * 4294967296 + b := by
  have := Nat.two_pow_add_eq_or_of_lt (i := 32) (b := b) (by simpa using h) a
  rw [show (2 : Nat) ^ 32 = 4294967296 from rfl, Nat.mul_comm] at this
  exact this.symm
theorem u64_or_shl (a b : Nat) (ha : a < 4294967296) (hb : b < 4294967296) : bits .or .u64 ((a : Int) * 4294967296) (b : Int) = (a : Int) * 4294967296 + (b : Int) := by
  have h := u64_or_nat (a * 4294967296) b (by omega) (by omega)
  rw [or_shl a b hb, Int.natCast_mul, Int.natCast_add, Int.natCast_mul] at h
  exact h

theorem div_step {f s : Nat → Nat} {k n d r q t : Nat} (hk : k < n) (hv : top f (k + 1) n = d * top s (k + 1) n + r) (hq : q * d + t = r * 4294967296 + f k) :
    top f k n = d * top (upd s k q) k n + t := by
  rw [top_step f hk, top_step _ hk, hv, upd_same, top_congr (f := upd s k q) (g := s) (fun i a _ => by simp [upd, show i ≠ k by omega])]
  generalize top s (k + 1) n = S
  rw [Nat.mul_add 4294967296, Nat.mul_add d, Nat.mul_comm d q, Nat.mul_left_comm 4294967296 d S]
  omega
end Go.Proofs.YtigdjlhihhakmaaGreatDoor

namespace Go.Proofs.YtigdjlhihhakmaaGreatDoor
open Go.RowKit

def DivOut (w : World) (Q R : Nat) (e : Ending) (w' : World) : Prop :=
  ∃ A n c, e = .returned (.tuple #[.slice A n c, .int .u32 (R : Int)]) ∧ IsNat w' A n c Q ∧ Below w.heap.size w w'

/-- .. and where the quotient lies: in the block that was made first. -/
def DivNew (w : World) (Q R : Nat) (e : Ending) (w' : World) : Prop :=
  ∃ n c, e = .returned (.tuple #[.slice (some ⟨w.heap.size, 0, none⟩) n c, .int .u32 (R : Int)]) ∧ IsNat w' (some ⟨w.heap.size, 0, none⟩) n c Q ∧ Below w.heap.size w w'

set_option maxHeartbeats 800000 in
theorem divSmall_new (A : Option Addr) (n c N d : Nat) (w : World) (hA : ∃ f, Rd w A n f ∧ Dig f n ∧ val f n = N) (hn : n ≤ 10000000000) (hd0 : 1 ≤ d) (hd : d < 4294967296) :
    Calls Tryz.prog 113 #[.slice A n c, .int .u32 (d : Int)] w (DivNew w (N / d) (N % d)) := by
  obtain ⟨f, ⟨b, off, hAe, hcell⟩, df, rfl⟩ := hA
  have hmk := run_make_row' (P := Tryz.prog) 68 70 (.int .u32 0) 4 Tryz.underlying68 Tryz.infoU32 rfl .i64 .i64 n (by omega) (by omega)
  go_enter Tryz.func113, Tryz.ntmps113
  go_wp2
  clear hmk
  go_loopg [7, 8] n (fun k rs i wx => ∃ (r : Nat) (s : Nat → Nat), k ≤ n ∧ i = .int .i64 ((k : Int) - 1) ∧ rs = .int .u64 (r : Int) ∧ r < d ∧ (∀ j, k ≤ j → j < n → s j < 4294967296) ∧ top f k n = d * top s k n + r ∧ Below w.heap.size w wx ∧ wx.heap.size = w.heap.size + 1 ∧ wx.rowIs w.heap.size 70 n (dsdn s k))
  case atStart => exact ⟨0, fun _ => 0, Nat.le_refl _, by go_num, rfl, by omega, fun i _ _ => by omega, by rw [top_all, top_all]; simp, (Below.refl _ _).alloc (Nat.le_refl _) _, by simp, (World.rowIs_made w _ n _).congr (fun i _ => by simp [dsdn])⟩
  case round =>
    obtain ⟨r, s, hk, rfl, rfl, hr, ds, hv, hb, hsz, hrow⟩ := hrel
    rcases gk with _ | k
    · have Hv : Hid (top f 0 n = d * top s 0 n + r) := hv
      have hr2 := dsdn_rd hrow
      clear hv hsz
      go_wp2_with fail
      refine (trim_any _ n n s _ (Nat.le_refl _) (by omega) hr2).mono ?_
      rintro e w' ⟨rfl, rfl⟩
      go_wp2
      go_ret2
      have h := Hv.out
      rw [top_zero, top_zero] at h
      have hq : val f n / d = val s n := by rw [h, Nat.add_comm, Nat.add_mul_div_left _ _ (by omega), Nat.div_eq_of_lt hr, Nat.zero_add]
      have hm : val f n % d = r := by rw [h, Nat.add_comm, Nat.add_mul_mod_self_left, Nat.mod_eq_of_lt hr]
      rw [hq, hm]
      obtain ⟨A', n', c', he, hi, hbb⟩ := nat_out hr2 hb (fun i hi => ds i (Nat.zero_le _) hi) (by omega) (rfl : val s n = val s n)
      injection he with he
      injection he with h1 h2 h3
      subst h1 h2 h3
      exact ⟨_, _, rfl, hi, hbb⟩
    · obtain rfl := hAe (by omega)
      have hx : wr.cell? ⟨b, off + k, none⟩ = some (.int .u32 (f k : Int)) := by rw [hb.cell (Rd.lt hcell (by omega))]; exact hcell k (by omega)
      have hw1 := hrow.cell (i := k) (by omega)
      have hw2 := hrow.frozen k
      have dk := df k (by omega)
      have hor := u64_or_shl r (f k) (by omega) dk
      have Hv : Hid (top f (k + 1) n = d * top s (k + 1) n + r) := hv
      have Hs : Hid (wr.heap.size = w.heap.size + 1) := hsz
      clear hv hsz
      go_wp2
      have hlt : (r * 4294967296 + f k) / d < 4294967296 := by
        apply Nat.div_lt_of_lt_mul
        have : (r + 1) * 4294967296 ≤ d * 4294967296 := Nat.mul_le_mul_right _ (by omega)
        omega
      have hmd : (r * 4294967296 + f k) % d < d := Nat.mod_lt _ (by omega)
      have hdm : (r * 4294967296 + f k) / d * d + (r * 4294967296 + f k) % d = r * 4294967296 + f k := by
        rw [Nat.mul_comm]; exact Nat.div_add_mod _ _
      have hst := div_step hk Hv.out hdm
      have e1 : ((r : Int) * 4294967296 + (f k : Int)) / (d : Int) = (((r * 4294967296 + f k) / d : Nat) : Int) := by rw [Int.natCast_ediv, Int.natCast_add, Int.natCast_mul]; rfl
      have e2 : ((r : Int) * 4294967296 + (f k : Int)) % (d : Int) = (((r * 4294967296 + f k) % d : Nat) : Int) := by rw [Int.natCast_emod, Int.natCast_add, Int.natCast_mul]; rfl
      have e3 : ((r : Int) * 4294967296 + (f k : Int)) / (d : Int) % 4294967296 = (((r * 4294967296 + f k) / d : Nat) : Int) := by
        rw [e1]
        clear hst hdm hmd e1 e2
        generalize (r * 4294967296 + f k) / d = Q at hlt ⊢
        omega
      go_roundg k
      case measure => omega
      case rel => exact ⟨(r * 4294967296 + f k) % d, upd s k ((r * 4294967296 + f k) / d), by omega, rfl, by rw [e2], hmd, (fun j a b' => by
        by_cases e : j = k
        · subst e; rw [upd_same]; exact hlt
        · simp only [upd, if_neg e]; exact ds j (by omega) b'), hst, hb.setCell (Nat.le_refl _) _, by simpa using Hs.out, dsdn_step hrow e3⟩

theorem divSmall_any (A : Option Addr) (n c N d : Nat) (w : World) (hA : ∃ f, Rd w A n f ∧ Dig f n ∧ val f n = N) (hn : n ≤ 10000000000) (hd0 : 1 ≤ d) (hd : d < 4294967296) :
    Calls Tryz.prog 113 #[.slice A n c, .int .u32 (d : Int)] w (DivOut w (N / d) (N % d)) :=
  (divSmall_new A n c N d w hA hn hd0 hd).mono fun _ _ ⟨m, k, h1, h2, h3⟩ => ⟨_, m, k, h1, h2, h3⟩
end Go.Proofs.YtigdjlhihhakmaaGreatDoor
