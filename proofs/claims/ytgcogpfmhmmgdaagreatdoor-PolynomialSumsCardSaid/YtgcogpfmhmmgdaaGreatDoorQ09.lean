/- What integer.Bits returns: the number of bits; likewise integer.size of digits. No condition but the sizes. What polynomial.Degree, coefficient, leading, isNegative, isLarge and blank return. Condition: at most 10^6 coefficients, of at most 10^7 digits to the base 2^32. Plain facts on numbers by their digits, read from above. No condition. -/
import Derived.Test.YtgcogpfmhmmgdaaGreatDoorQ08
import Derived.Lib.BitFns
import Derived.Lib.ItoaNum
import Derived.Test.YtgcogpfmhmmgdaaGreatDoorQ03
import Derived.Laws.BitsAllLaws

namespace Go.Proofs.YtgcogpfmhmmgdaaGreatDoor
open Go.RowKit

/-- The least number n with N < 2^n. -/
def nbits (N : Nat) : Nat := if N = 0 then 0 else Nat.log2 N + 1
theorem nbits_lt (N : Nat) : N < 2 ^ nbits N := by
  unfold nbits; split
  · subst ‹N = 0›; simp
  · exact Nat.lt_log2_self
theorem nbits_ge {N : Nat} (h : N ≠ 0) : 2 ^ (nbits N - 1) ≤ N := by
  unfold nbits; rw [if_neg h]; exact Nat.log2_self_le h
theorem nbits_unique {N n : Nat} (h0 : N ≠ 0) (h1 : N < 2 ^ n) (h2 : 2 ^ (n - 1) ≤ N) : nbits N = n := by
  have a := nbits_lt N
  have b := nbits_ge h0
  have hn : 0 < n := by
    rcases Nat.eq_zero_or_pos n with e | e
    · subst e; simp at h1; omega
    · exact e
  have hn2 : 0 < nbits N := by unfold nbits; rw [if_neg h0]; omega
  rcases Nat.lt_trichotomy (nbits N) n with h | h | h
  · have : (2 : Nat) ^ nbits N ≤ 2 ^ (n - 1) := Nat.pow_le_pow_right (by omega) (by omega)
    omega
  · exact h
  · have : (2 : Nat) ^ n ≤ 2 ^ (nbits N - 1) := Nat.pow_le_pow_right (by omega) (by omega)
    omega
theorem nbits_bitLen {x : Nat} (h : x < 2 ^ 64) : Lib.bitLen x = nbits x := by
  by_cases h0 : x = 0
  · subst h0; rfl
  · obtain ⟨h1, h2, h3⟩ := Lib.bitLenAux_bounds 64 x h h0
    exact (nbits_unique h0 h3 h2).symm
theorem nbits_top {b r m : Nat} (hb : b ≠ 0) (hr : r < 2 ^ m) : nbits (b * 2 ^ m + r) = m + nbits b := by
  have h1 := nbits_lt b
  have h2 := nbits_ge hb
  have hp : 0 < 2 ^ m := Nat.two_pow_pos m
  have h3 : 1 * 2 ^ m ≤ b * 2 ^ m := Nat.mul_le_mul_right _ (by omega)
  have hn : 0 < nbits b := by unfold nbits; rw [if_neg hb]; omega
  apply nbits_unique
  · omega
  · rw [Nat.pow_add, Nat.mul_comm]
    have h4 : (b + 1) * 2 ^ m ≤ 2 ^ nbits b * 2 ^ m := Nat.mul_le_mul_right _ (by omega)
    rw [Nat.add_mul] at h4
    rw [Nat.mul_comm] 
    rw [Nat.mul_comm (2 ^ m)]
    omega
  · rw [show m + nbits b - 1 = (nbits b - 1) + m by omega, Nat.pow_add]
    have h4 : 2 ^ (nbits b - 1) * 2 ^ m ≤ b * 2 ^ m := Nat.mul_le_mul_right _ h2
    omega
theorem nbits_bytes (b : UInt8) (l : List UInt8) (hb : b ≠ 0) : nbits (vB (b :: l)) = 8 * l.length + nbits b.toNat := by
  rw [vB_cons, show (256 : Nat) = 2 ^ 8 by rfl, ← Nat.pow_mul]
  apply nbits_top
  · exact fun e => hb (by apply UInt8.toNat_inj.1; simpa using e)
  · rw [Nat.pow_mul]; exact vB_lt l
theorem nbits_digits (f : Nat → Nat) (n : Nat) (h : Dig f n) (h0 : f n ≠ 0) : nbits (val f (n + 1)) = 32 * n + nbits (f n) := by
  rw [val, Nat.add_comm (val f n), show (4294967296 : Nat) = 2 ^ 32 by rfl, ← Nat.pow_mul]
  apply nbits_top h0
  rw [Nat.pow_mul]; exact val_lt h
theorem bytesOf_cons {N : Nat} {b : UInt8} {t : List UInt8} (h : bytesOf N = b :: t) : b ≠ 0 ∧ vB (b :: t) = N := by
  have h2 : vB (b :: t) = N := by rw [← h]; exact vB_bytesOf N
  refine ⟨fun e => ?_, h2⟩
  have hh := head_trim (bytesOf N)
  rw [trim_bytes, vB_bytesOf, h, e] at hh
  simp at hh

set_option maxRecDepth 100000 in
set_option maxHeartbeats 800000 in
theorem ibits_any (v1 : Value) (z1 : Int) (k1 : Nat) (w : World) (h1 : IsInt v1 z1 k1) :
    Calls Tryz.prog 34 #[v1] w fun e w' => e = .returned (.int .i64 (nbits z1.natAbs : Int)) ∧ Below w.heap.size w w' := by
  obtain ⟨na, sa, rfl, hz1, hs1, hk1, hkk1⟩ := h1
  have Hz : Hid (zv na sa = z1) := hz1
  have hsz := mg_size hk1
  have hb := below1 w (.cells #[.bool na, .string sa] 27)
  clear hz1 hk1
  cases hl : bytesOf z1.natAbs with
  | nil =>
    have h0 : z1.natAbs = 0 := bytesOf_nil.1 hl
    have hm : mg z1 = ⟨#[]⟩ := by unfold mg; rw [hl]
    have Hm : Hid (mg z1 = ⟨#[]⟩) := hm
    have Hn : Hid (nbits z1.natAbs = 0) := by rw [h0]; rfl
    clear hl h0 hm
    go_enter Tryz.func34, Tryz.ntmps34
    go_wp2_with fail
    refine (can_any na sa _).mono ?_
    rintro e W1 ⟨rfl, b1⟩
    rw [Hz.out, Hm.out]
    go_wp2
    go_ret
    exact ⟨by rw [Hn.out]; rfl, below_more hb (Nat.le_refl _) b1⟩
  | cons b t =>
    obtain ⟨hb0, hv⟩ := bytesOf_cons hl
    have hm : mg z1 = ⟨(b :: t).toArray⟩ := by unfold mg; rw [hl]
    have Hm : Hid (mg z1 = ⟨(b :: t).toArray⟩) := hm
    have Hn : Hid (nbits z1.natAbs = 8 * t.length + Lib.bitLen b.toNat) := by
      rw [← hv, nbits_bytes _ _ hb0, nbits_bitLen (by have := b.toNat_lt; omega)]; rfl
    have hix := run_index_bytes (b :: t) 0 b rfl 0 (by simp)
    have hb' := b.toNat_lt
    have hlen : t.length + 1 ≤ 40000000 := by
      rw [hm] at hsz
      have : (⟨(b :: t).toArray⟩ : ByteArray).size = t.length + 1 := by simp [ByteArray.size]
      omega
    have hbl := Lib.bitLen_le b.toNat 8 (by omega) hb'
    clear hl hm hv hsz
    go_enter Tryz.func34, Tryz.ntmps34
    go_wp2_with fail
    refine (can_any na sa _).mono ?_
    rintro e W1 ⟨rfl, b1⟩
    rw [Hz.out, Hm.out]
    go_wp2_with fail
    refine (Tryz.bits_Len8 b.toNat _ (by omega) (by omega)).mono ?_
    rintro e w' ⟨rfl, hw⟩
    subst hw
    rw [Int.toNat_natCast]
    go_wp2
    go_ret
    exact ⟨by rw [Hn.out]; go_num, below_more hb (Nat.le_refl _) b1⟩

end Go.Proofs.YtgcogpfmhmmgdaaGreatDoor

namespace Go.Proofs.YtgcogpfmhmmgdaaGreatDoor
open Go.RowKit
set_option linter.unusedSimpArgs false
set_option linter.unusedVariables false

theorem nbits_zero {z : Int} : ((nbits z.natAbs : Nat) : Int) = 0 ↔ z = 0 := by
  constructor
  · intro h
    unfold nbits at h
    split at h
    · omega
    · omega
  · intro h
    subst h
    rfl
/-- The degree; -1 for 0. -/
def degZ (L : List Int) : Int := ((trm L).length : Int) - 1
theorem deg_of {L : List Int} {n : Nat} (h0 : ∀ i, n ≤ i → co L i = 0) (h1 : n = 0 ∨ co L (n - 1) ≠ 0) : degZ L = (n : Int) - 1 := by
  unfold degZ
  rw [trm_len_of h0 h1]
set_option maxRecDepth 100000 in
set_option maxHeartbeats 3200000 in
theorem deg_any (v : Value) (L : List Int) (k : Nat) (w : World) (h : PolyAt w v L k) (hn : L.length ≤ 1000000) :
    Calls Tryz.prog 10 #[v] w fun e w' => e = .returned (.int .i64 (degZ L)) ∧ Below w.heap.size w w' := by
  obtain ⟨A, c, g, s, rfl, hc, hcell⟩ := h
  have H := Lib.hid hcell
  clear hcell hc
  go_enter Tryz.func10, Tryz.ntmps10
  go_wp2_with fail
  go_loopg [3] L.length (fun q s3 wx => q ≤ L.length ∧ s3 = .int .i64 ((q : Int) - 1) ∧ Below w.heap.size w wx ∧ Hid (∀ i, q ≤ i → co L i = 0))
  case atStart => exact ⟨Nat.le_refl _, rfl, Below.refl _ _, fun i hi => co_ge hi⟩
  case round =>
    obtain ⟨hq, rfl, hb, hz⟩ := hrel
    rcases gk with _ | q
    · have HD := Lib.hid (deg_of hz.out (.inl rfl))
      go_wp2
      go_ret
      exact ⟨by rw [HD.out]; rfl, hb⟩
    · obtain ⟨a, rfl, c0, c1, hI⟩ := H.out q (by omega)
      have x0 := cell_keep c0 hb
      have x1 := cell_keep c1 hb
      have HI := Lib.hid hI
      obtain ⟨m, Hm⟩ : ∃ m : Int, Hid (((nbits (co L q).natAbs : Nat) : Int) = m) := ⟨_, Lib.hid rfl⟩
      have hq1 : ((q + 1 : Nat) : Int) - 1 = (q : Int) := by omega
      have hq0 : (0 : Int) ≤ (q : Int) := by omega
      have hql : (q : Int) < (L.length : Int) := by omega
      have HQ := Lib.hid hq
      clear c0 c1 hI hq
      rw [hq1]
      by_cases hm : m = 0
      · have hzq := nbits_zero.1 (Hm.out.trans hm)
        have HZ := Lib.hid (show ∀ i, q ≤ i → co L i = 0 by
          intro i hi
          rcases Nat.lt_or_ge q i with h1 | h1
          · exact hz.out i (by omega)
          · rw [show i = q by omega]; exact hzq)
        subst hm
        clear hz hzq
        go_wp2_with fail
        refine (ibits_any _ _ k _ HI.out).mono ?_
        rw [Hm.out]
        rintro e W1 ⟨rfl, b1⟩
        have hb2 := below_more hb (Nat.le_refl _) b1
        clear hb b1 x0 x1
        go_wp2_with fail
        go_roundg q
        case measure => omega
        case rel => exact ⟨by have := HQ.out; omega, by go_num, hb2, HZ⟩
      · have hzq : co L q ≠ 0 := fun h => hm (by rw [← Hm.out]; exact nbits_zero.2 h)
        have HD := Lib.hid (deg_of (n := q + 1) hz.out (.inr hzq))
        have hmb : (m == 0) = false := beq_eq_false_iff_ne.2 hm
        clear hz hzq hm
        go_wp2_with fail
        refine (ibits_any _ _ k _ HI.out).mono ?_
        rw [Hm.out]
        rintro e W1 ⟨rfl, b1⟩
        have hb2 := below_more hb (Nat.le_refl _) b1
        clear hb b1 x0 x1
        go_wp2
        go_ret
        exact ⟨by rw [HD.out, hq1]; rfl, hb2⟩
/-- What returns an integer as it lies there. -/
def IntIn (w : World) (z : Int) (k : Nat) (e : Ending) (w' : World) : Prop := ∃ g s, e = .returned (.agg #[.bool g, .string s]) ∧ IsInt (.agg #[.bool g, .string s]) z k ∧ Below w.heap.size w w'
theorem zero_at {k : Nat} (hk : k ≤ 10000000) : IsInt (.agg #[.bool false, .string ⟨#[]⟩]) 0 k := ⟨false, ⟨#[]⟩, rfl, by rfl, by decide, Nat.pow_pos (by omega), hk⟩
set_option maxRecDepth 100000 in
set_option maxHeartbeats 3200000 in
theorem coef_any (v : Value) (L : List Int) (k i : Nat) (w : World) (h : PolyAt w v L k) (hn : L.length ≤ 1000000) (hi : i ≤ 1000000000) (hk : k ≤ 10000000) :
    Calls Tryz.prog 72 #[v, .int .i64 (i : Int)] w (IntIn w (co L i) k) := by
  obtain ⟨A, c, g, s, rfl, hc, hcell⟩ := h
  have r := ResCell.new w 27
  obtain ⟨r1, r2, r3, r4⟩ := r
  have hb := below1 w (.cells #[.bool false, .string ⟨#[]⟩] 27)
  by_cases hl : i < L.length
  · obtain ⟨a, rfl, c0, c1, hI⟩ := hcell i hl
    have x0 := cell_keep c0 hb
    have x1 := cell_keep c1 hb
    have hil : (i : Int) < (L.length : Int) := by omega
    have HI := Lib.hid hI
    clear c0 c1 hI hcell hl
    go_enter Tryz.func72, Tryz.ntmps72
    go_wp2_with fail
    refine bodyPost_ret (v := .agg #[.bool (g i), .string (s i)]) (by simp [results, Tryz.results72, go_sem, r1, r2, r3, r4]) rfl ⟨g i, s i, rfl, HI.out, ?_⟩
    first | exact hb | exact below1 w _ | exact (hb.setCell (Nat.le_refl _) _).setCell (Nat.le_refl _) _
  · have hz : co L i = 0 := co_ge (by omega)
    have hil : (L.length : Int) ≤ (i : Int) := by omega
    rw [hz]
    clear hcell
    go_enter Tryz.func72, Tryz.ntmps72
    go_wp2_with fail
    refine bodyPost_ret (v := .agg #[.bool false, .string ⟨#[]⟩]) (by simp [results, Tryz.results72, go_sem, r1, r2, r3, r4]) rfl ⟨_, _, rfl, zero_at hk, ?_⟩
    first | exact hb | exact below1 w _ | exact (hb.setCell (Nat.le_refl _) _).setCell (Nat.le_refl _) _
set_option maxRecDepth 100000 in
theorem coef_neg (A : Option Addr) (n c : Nat) (k : Nat) (i : Int) (w : World) (hi : i < 0) (hk : k ≤ 10000000) :
    Calls Tryz.prog 72 #[.slice A n c, .int .i64 i] w (IntIn w 0 k) := by
  have r := ResCell.new w 27
  obtain ⟨r1, r2, r3, r4⟩ := r
  have hb := below1 w (.cells #[.bool false, .string ⟨#[]⟩] 27)
  go_enter Tryz.func72, Tryz.ntmps72
  go_wp2_with fail
  refine bodyPost_ret (v := .agg #[.bool false, .string ⟨#[]⟩]) (by simp [results, Tryz.results72, go_sem, r1, r2, r3, r4]) rfl ⟨_, _, rfl, zero_at hk, ?_⟩
  first | exact hb | exact below1 w _ | exact (hb.setCell (Nat.le_refl _) _).setCell (Nat.le_refl _) _
/-- The leading coefficient; 0 for 0. -/
def lead (L : List Int) : Int := if trm L = [] then 0 else co L ((trm L).length - 1)
set_option maxRecDepth 100000 in
theorem lead_any (v : Value) (L : List Int) (k : Nat) (w : World) (h : PolyAt w v L k) (hn : L.length ≤ 1000000) (hk : k ≤ 10000000) :
    Calls Tryz.prog 95 #[v] w (IntIn w (lead L) k) := by
  have H := Lib.hid h
  obtain ⟨A, c, g, s, rfl, -, -⟩ := h
  have r := ResCell.new w 27
  have hb := below1 w (.cells #[.bool false, .string ⟨#[]⟩] 27)
  go_enter Tryz.func95, Tryz.ntmps95
  go_wp2_with fail
  refine (deg_any _ L k _ (H.out.keep hb) hn).mono ?_
  rintro e W1 ⟨rfl, b1⟩
  have r := r.keep b1
  have hb1 := below_more hb (Nat.le_refl _) b1
  by_cases hL : trm L = []
  · have e : degZ L = -1 := by unfold degZ; rw [hL]; rfl
    have el : lead L = 0 := by unfold lead; rw [if_pos hL]
    rw [e]
    have El := Lib.hid el
    clear hL e el
    go_wp2_with fail
    refine (coef_neg _ _ _ k (-1) _ (by omega) hk).mono ?_
    rintro e W2 ⟨g2, s2, rfl, hI, b2⟩
    obtain ⟨r1, r2, r3, r4⟩ := r.keep b2
    have hb2 := below_more hb1 (Nat.le_refl _) b2
    go_wp2_with fail
    exact bodyPost_ret (v := .agg #[.bool g2, .string s2]) (by simp [results, Tryz.results95, go_sem, r1, r2, r3, r4]) rfl ⟨g2, s2, rfl, by rw [El.out]; exact hI, (hb2.setCell (Nat.le_refl _) _).setCell (Nat.le_refl _) _⟩
  · obtain ⟨m, hm⟩ : ∃ m, (trm L).length = m + 1 := ⟨(trm L).length - 1, by have := List.length_pos_iff.2 hL; omega⟩
    have e : degZ L = (m : Int) := by unfold degZ; rw [hm]; omega
    have el : lead L = co L m := by unfold lead; rw [if_neg hL, hm]; rfl
    have hml : m ≤ 1000000000 := by have := trm_len L; omega
    rw [e]
    have El := Lib.hid el
    clear hL e el hm
    go_wp2_with fail
    refine (coef_any _ L k m _ (H.out.keep2 hb1) hn hml hk).mono ?_
    rintro e W2 ⟨g2, s2, rfl, hI, b2⟩
    obtain ⟨r1, r2, r3, r4⟩ := r.keep b2
    have hb2 := below_more hb1 (Nat.le_refl _) b2
    go_wp2_with fail
    exact bodyPost_ret (v := .agg #[.bool g2, .string s2]) (by simp [results, Tryz.results95, go_sem, r1, r2, r3, r4]) rfl ⟨g2, s2, rfl, by rw [El.out]; exact hI, (hb2.setCell (Nat.le_refl _) _).setCell (Nat.le_refl _) _⟩
set_option maxRecDepth 100000 in
theorem large_any (v : Value) (L : List Int) (k : Nat) (w : World) (h : PolyAt w v L k) (hn : L.length ≤ 1000000) :
    Calls Tryz.prog 57 #[v] w fun e w' => e = .returned (.bool (decide (64 < degZ L))) ∧ Below w.heap.size w w' := by
  have H := Lib.hid h
  obtain ⟨A, c, g, s, rfl, -, -⟩ := h
  go_enter Tryz.func57, Tryz.ntmps57
  go_wp2_with fail
  refine (deg_any _ L k _ H.out hn).mono ?_
  rintro e W1 ⟨rfl, b1⟩
  go_wp2
  go_ret
  exact ⟨rfl, b1⟩
/-- A row of n zeros, or none. -/
def BlankOut (w : World) (n : Nat) (e : Ending) (w' : World) : Prop := (n = 0 ∧ e = .returned (.slice none 0 0) ∧ w' = w) ∨ (0 < n ∧ e = .returned (.slice (some ⟨w.heap.size, 0, none⟩) n n) ∧ w' = w.alloc (.cells (madeCells #[.bool false, .string ⟨#[]⟩] (n * 2)) 27))
set_option maxRecDepth 100000 in
theorem blank_any (d : Int) (n : Nat) (w : World) (hd : (n : Int) = d + 1 ∨ (n = 0 ∧ d < 0)) (hn : n ≤ 1000000000) (hd0 : -9223372036854775807 ≤ d) :
    Calls Tryz.prog 41 #[.int .i64 d] w (BlankOut w n) := by
  rcases Nat.eq_zero_or_pos n with h0 | h0
  · have h1 : d < 0 := by omega
    go_enter Tryz.func41, Tryz.ntmps41
    go_wp2
    go_ret
    exact .inl ⟨h0, rfl, rfl⟩
  · obtain rfl : d = (n : Int) - 1 := by omega
    have h1 : ¬ (n : Int) - 1 < 0 := by omega
    have hmk := run_make2 .i64 .i64 n hn
    go_enter Tryz.func41, Tryz.ntmps41
    go_wp2
    go_ret
    exact .inr ⟨h0, rfl, rfl⟩
end Go.Proofs.YtgcogpfmhmmgdaaGreatDoor

namespace Go.Proofs.YtgcogpfmhmmgdaaGreatDoor
open Go.RowKit

theorem val_cons (f : Nat → Nat) (n : Nat) : val f (n + 1) = f 0 + 4294967296 * val (fun j => f (j + 1)) n := by
  induction n with
  | zero => simp [val]
  | succ n ih =>
    rw [val, ih, val, Nat.pow_succ, Nat.mul_add, Nat.add_assoc]
    congr 2
    rw [Nat.mul_comm (4294967296 ^ n), ← Nat.mul_assoc, ← Nat.mul_assoc, Nat.mul_comm (f (n + 1))]

/-- The number above the first k digits. -/
def top (f : Nat → Nat) (k n : Nat) : Nat := val (fun j => f (j + k)) (n - k)
theorem top_zero (f : Nat → Nat) (n : Nat) : top f 0 n = val f n := rfl
theorem top_all (f : Nat → Nat) (n : Nat) : top f n n = 0 := by simp [top, val]
theorem top_step (f : Nat → Nat) {k n : Nat} (h : k < n) : top f k n = f k + 4294967296 * top f (k + 1) n := by
  unfold top
  rw [show n - k = (n - (k + 1)) + 1 by omega, val_cons]
  congr 2
  · simp
  · exact val_congr fun i _ => by congr 1; omega
theorem top_congr {f g : Nat → Nat} {k n : Nat} (h : ∀ i, k ≤ i → i < n → f i = g i) : top f k n = top g k n :=
  val_congr fun i hi => h _ (by omega) (by omega)

/-- The row that holds the digits of s from k on, and zeros before them. -/
def dsdn (s : Nat → Nat) (k : Nat) : Nat → Value := fun j => .int .u32 ((if k ≤ j then s j else 0 : Nat) : Int)
theorem dsdn_step {w : World} {b n k : Nat} {t : TypeId} {s : Nat → Nat} (h : w.rowIs b t n (dsdn s (k + 1))) {x : Int} {v : Nat} (hx : x = (v : Int)) :
    (w.setCell ⟨b, k, none⟩ (.int .u32 x)).rowIs b t n (dsdn (upd s k v) k) :=
  (h.set k _).congr fun j _ => by
    subst hx
    unfold dsdn
    by_cases e : j = k
    · subst e; rw [if_pos rfl, if_pos (Nat.le_refl _), upd_same]
    · rw [if_neg e]
      by_cases hl : k + 1 ≤ j
      · rw [if_pos hl, if_pos (by omega)]; simp [upd, e]
      · rw [if_neg hl, if_neg (by omega)]
theorem dsdn_rd {w : World} {b n : Nat} {t : TypeId} {s : Nat → Nat} (h : w.rowIs b t n (dsdn s 0)) : Rd w (some ⟨b, 0, none⟩) n s :=
  Rd.of_row h (Nat.le_refl _) fun i hi => by simp [dsdn]

theorem or_shl (a b : Nat) (h : b < 4294967296) : a * 4294967296 ||| b = a * 4294967296 + b := by
  have := Nat.two_pow_add_eq_or_of_lt (i := 32) (b := b) (by simpa using h) a
  rw [show (2 : Nat) ^ 32 = 4294967296 from rfl, Nat.mul_comm] at this
  exact this.symm
theorem u64_or_shl (a b : Nat) (ha : a < 4294967296) (hb : b < 4294967296) : bits .or .u64 ((a : Int) * 4294967296) (b : Int) = (a : Int) * 4294967296 + (b : Int) := by
  have h := u64_or_nat (a * 4294967296) b (by omega) (by omega)
  rw [or_shl a b hb, Int.natCast_mul, Int.natCast_add, Int.natCast_mul] at h
  exact h

theorem div_step {f s : Nat → Nat} {k n d r q t : Nat} (hk : k < n) (hv : top f (k + 1) n = d * top s (k + 1) n + r) (hq : q * d + t = r * 4294967296 + f k) :
    top f k n = d * top (upd s k q) k n + t := by
  rw [top_step f hk, top_step _ hk, hv, upd_same, top_congr (f := upd s k q) (g := s) (fun i a _ => by simp [upd, show i ≠ k by omega])]
  generalize top s (k + 1) n = S
  rw [Nat.mul_add 4294967296, Nat.mul_add d, Nat.mul_comm d q, Nat.mul_left_comm 4294967296 d S]
  omega
end Go.Proofs.YtgcogpfmhmmgdaaGreatDoor
