/- What integer.divide returns where the divisor has one digit, or is greater: the quotient and the rest. What integer.power returns: the power of a number. Condition: the exponent is at most 1000000, the power has at most 10000000 digits. What integer.Power returns: the power, or the error's number and zero. -/
import Derived.Test.YtfcdekkoeeaolaaDoorQ09
import Derived.Test.YtfcdekkoeeaolaaDoorQ07
import Derived.Lib.Hide

namespace Go.Proofs.YtfcdekkoeeaolaaDoor
open Go.RowKit

def DivdOut (w : World) (Q R : Nat) (e : Ending) (w' : World) : Prop :=
  ∃ A1 n1 c1 A2 n2 c2, e = .returned (.tuple #[.slice A1 n1 c1, .slice A2 n2 c2]) ∧ IsNat w' A1 n1 c1 Q ∧ IsNat w' A2 n2 c2 R ∧ Below w.heap.size w w'

theorem zero_nat (w : World) : IsNat w none 0 0 0 := ⟨Nat.le_refl _, by omega, fun _ => 0, Rd.nil _ _ _, fun i h => absurd h (by omega), fun h => absurd h (by omega), rfl⟩
theorem oneRow (w : World) (t : TypeId) (d : Nat) : Rd (w.alloc (.cells #[.int .u32 (d : Int)] t)) (some ⟨w.heap.size, 0, none⟩) 1 (fun _ => d) := by
  refine ⟨w.heap.size, 0, fun _ => rfl, fun i hi => ?_⟩
  obtain rfl : i = 0 := by omega
  simp [go_sem]

set_option maxRecDepth 100000 in
set_option maxHeartbeats 1600000 in
theorem divide_lt (A B : Option Addr) (n m c d N M : Nat) (w : World) (hA : IsNat w A n c N) (hB : IsNat w B m d M) (hlt : N < M) :
    Calls Tryd.prog 31 #[.slice A n c, .slice B m d] w (DivdOut w (N / M) (N % M)) := by
  have hc : cmpN N M < 0 := by unfold cmpN; rw [if_pos hlt]; omega
  have Hq : Hid (N / M = 0 ∧ N % M = N) := ⟨Nat.div_eq_of_lt hlt, Nat.mod_eq_of_lt hlt⟩
  clear hlt
  go_enter Tryd.func31, Tryd.ntmps31
  go_wp2_with fail
  refine (compare_any A B n m c d N M _ hA hB).mono ?_
  rintro e w' ⟨rfl, q, rfl⟩
  go_wp2
  go_ret2
  exact ⟨none, 0, 0, A, n, c, rfl, by rw [Hq.out.1]; exact zero_nat _, by rw [Hq.out.2]; exact hA, ⟨rfl, rfl, rfl, Nat.le_refl _, fun _ _ => rfl⟩⟩

set_option maxRecDepth 100000 in
set_option maxHeartbeats 1600000 in
theorem divide_one (A B : Option Addr) (n m c d N M : Nat) (w : World) (hA : IsNat w A n c N) (hB : IsNat w B m d M) (hn : n ≤ 10000000) (hge : ¬ N < M) (h0 : M ≠ 0) (h1 : M < 4294967296) :
    Calls Tryd.prog 31 #[.slice A n c, .slice B m d] w (DivdOut w (N / M) (N % M)) := by
  have hc : ¬ cmpN N M < 0 := by unfold cmpN; rw [if_neg hge]; split <;> omega
  have hm1 : m = 1 := by
    have h2 := hB.len (k := 1) (by simpa using h1)
    obtain ⟨_, _, g, _, _, _, hv⟩ := hB
    rcases m with _ | m
    · simp [val] at hv; omega
    · omega
  subst hm1
  have hB2 := hB
  obtain ⟨hmd, hd, g, ⟨b', off', hBe, hcell'⟩, dg, tg, hv⟩ := hB
  obtain rfl := hBe (by omega)
  have hg : g 0 = M := by simpa [val] using hv
  have hx : w.cell? ⟨b', off', none⟩ = some (.int .u32 (M : Int)) := by have := hcell' 0 (by omega); rw [hg] at this; simpa using this
  have hone : (((1 : Nat) : Int) == 1) = true := rfl
  clear hcell' hv hg hge
  go_enter Tryd.func31, Tryd.ntmps31
  go_wp2_with fail
  refine (compare_any A _ n 1 c d N M _ hA hB2).mono ?_
  rintro e w' ⟨rfl, q, rfl⟩
  have hA' : IsNat (w.drewN q) A n c N := hA
  have hb0 : Below w.heap.size w (w.drewN q) := ⟨rfl, rfl, rfl, Nat.le_refl _, fun _ _ => rfl⟩
  go_wp2_with fail
  refine (divSmall_any A n c N M _ (by obtain ⟨_, _, f, a1, a2, _, a3⟩ := hA'; exact ⟨f, a1, a2, a3⟩) (by omega) (by omega) h1).mono ?_
  rintro e W1 ⟨A1, n1, c1, rfl, i1, b1⟩
  have hmod := Nat.mod_lt N (show 0 < M by omega)
  have hr := oneRow W1 58 (N % M)
  have hbb := below1 W1 (.cells #[.int .u32 ((N % M : Nat) : Int)] 58)
  have i1' := i1.below (Nat.le_refl _) hbb
  have hrd := nat_out hr (Below.refl _ _) (s := fun _ => N % M) (fun i _ => (by omega : N % M < 4294967296)) (by omega) (by simp [val] : val (fun _ => N % M) 1 = N % M)
  have Hrd := Lib.hid hrd
  clear hrd hmod
  generalize N % M = r at *
  go_wp2_with fail
  refine (trim_any _ 1 1 (fun _ => r) _ (Nat.le_refl _) (by omega) hr).mono ?_
  rintro e W2 ⟨rfl, rfl⟩
  go_wp2
  go_ret2
  obtain ⟨A2, n2, c2, he, hi, _⟩ := Hrd.out
  injection he with he
  injection he with x1 x2 x3
  subst x1 x2 x3
  exact ⟨_, _, _, _, _, _, rfl, i1', hi, (below_more hb0 (Nat.le_refl _) b1).trans (hbb.mono (by have := b1.size; have := hb0.size; omega))⟩
end Go.Proofs.YtfcdekkoeeaolaaDoor

namespace Go.Proofs.YtfcdekkoeeaolaaDoor
open Go.RowKit

/-- The exponent n, without its last i bits. -/
theorem pow_step (N n i : Nat) : N ^ (n / 2 ^ i) = N ^ (n / 2 ^ (i + 1)) * N ^ (n / 2 ^ (i + 1)) * (if n / 2 ^ i % 2 = 1 then N else 1) := by
  have h : n / 2 ^ (i + 1) = n / 2 ^ i / 2 := by rw [Nat.pow_succ, ← Nat.div_div_eq_div_mul]
  rw [h]
  generalize n / 2 ^ i = m
  rw [← Nat.pow_add]
  split
  · rw [← Nat.pow_succ]; congr 1; omega
  · rw [Nat.mul_one]; congr 1; omega

theorem pow_bound {N k e m : Nat} (hN : N < 4294967296 ^ k) (he : e ≤ m) : N ^ e < 4294967296 ^ (k * m + 1) := by
  have h1 : N ^ e ≤ (4294967296 ^ k) ^ e := Nat.pow_le_pow_left (by omega) e
  rw [← Nat.pow_mul] at h1
  have h2 : (4294967296 : Nat) ^ (k * e) ≤ 4294967296 ^ (k * m) := Nat.pow_le_pow_right (by omega) (Nat.mul_le_mul_left _ he)
  have h3 : (4294967296 : Nat) ^ (k * m) < 4294967296 ^ (k * m + 1) := Nat.pow_lt_pow_right (by omega) (by omega)
  omega
theorem one_nat (w : World) (t : TypeId) : IsNat (w.alloc (.cells #[.int .u32 1] t)) (some ⟨w.heap.size, 0, none⟩) 1 1 1 := by
  refine ⟨Nat.le_refl _, by omega, fun _ => 1, ⟨w.heap.size, 0, fun _ => rfl, fun i hi => ?_⟩, fun i _ => (by omega : (1 : Nat) < 4294967296), fun _ => (by show (1 : Nat) ≠ 0; omega), by simp [val]⟩
  obtain rfl : i = 0 := by omega
  simp [go_sem]
theorem and_one (x : Nat) (h : x < 9223372036854775808) : bits .and .i64 (x : Int) 1 = ((x % 2 : Nat) : Int) := by
  show IntKind.i64.wrap ((BitVec.ofInt 64 (x : Int) &&& BitVec.ofInt 64 1).toNat : Int) = _
  rw [BitVec.toNat_and, BitVec.ofInt_natCast, BitVec.toNat_ofNat, Nat.mod_eq_of_lt (by omega), show (BitVec.ofInt 64 1).toNat = 1 from rfl, Nat.and_one_is_mod, IntKind.wrap_i64]
  omega

set_option maxRecDepth 100000 in
set_option maxHeartbeats 1600000 in
theorem power_any (A : Option Addr) (n c N m k : Nat) (w : World) (hA : IsNat w A n c N) (hm : m ≤ 1000000) (hN : N < 4294967296 ^ k) (hk : k * m + 1 ≤ 10000000) (hn : n ≤ 10000000) :
    Calls Tryd.prog 36 #[.slice A n c, .int .i64 (m : Int)] w (NatOut w (N ^ m)) := by
  have Hpow : Hid (∀ i, N ^ (m / 2 ^ i) < 4294967296 ^ (k * m + 1)) := fun i => pow_bound hN (Nat.div_le_self _ _)
  have hbl : Lib.bitLen m ≤ 20 := Lib.bitLen_le m 20 (by omega) (by omega)
  have hlt : m < 2 ^ Lib.bitLen m := by rw [nbits_bitLen (by omega)]; exact nbits_lt m
  have hone := one_nat w 58
  clear hN
  go_enter Tryd.func36, Tryd.ntmps36
  go_wp2_with fail
  refine (Tryd.bits_Len (m : Int) _ (by omega) (by omega)).mono ?_
  rintro e w' ⟨rfl, hw⟩
  subst hw
  rw [Int.toNat_natCast]
  generalize Lib.bitLen m = L at *
  have Hlt : Hid (m < 2 ^ L) := hlt
  clear hlt
  go_wp2_with fail
  go_loopg [5, 6] L (fun g r i wx => ∃ A1 n1 c1, g ≤ L ∧ r = .slice A1 n1 c1 ∧ i = .int .i64 ((g : Int) - 1) ∧ IsNat wx A1 n1 c1 (N ^ (m / 2 ^ g)) ∧ Below w.heap.size w wx)
  case atStart => exact ⟨_, _, _, Nat.le_refl _, rfl, by go_num, by rw [Nat.div_eq_of_lt Hlt.out, Nat.pow_zero]; exact hone, below1 _ _⟩
  case round =>
    obtain ⟨A1, n1, c1, hg, rfl, rfl, hi, hb⟩ := hrel
    rcases gk with _ | g
    · have hi2 : IsNat wr A1 n1 c1 (N ^ m) := by simpa using hi
      clear hi
      go_wp2
      go_ret
      exact ⟨_, _, _, rfl, hi2, hb⟩
    · have hl1 : n1 ≤ k * m + 1 := hi.len (Hpow.out _)
      have hA1 := hA.below (Nat.le_refl _) hb
      have hst := pow_step N m g
      have Hst : Hid (N ^ (m / 2 ^ g) = N ^ (m / 2 ^ (g + 1)) * N ^ (m / 2 ^ (g + 1)) * (if m / 2 ^ g % 2 = 1 then N else 1)) := hst
      have hle : N ^ (m / 2 ^ (g + 1)) * N ^ (m / 2 ^ (g + 1)) < 4294967296 ^ (k * m + 1 + (k * m + 1)) := prod_bound (Hpow.out _) (Hpow.out _)
      have Hle : Hid (N ^ (m / 2 ^ (g + 1)) * N ^ (m / 2 ^ (g + 1)) < 4294967296 ^ (k * m + 1 + (k * m + 1))) := hle
      have hd : m / 2 ^ g ≤ m := Nat.div_le_self _ _
      have hand : bits .and .i64 ((m : Int) / 2 ^ g) 1 = ((m / 2 ^ g % 2 : Nat) : Int) := by
        have h := and_one (m / 2 ^ g) (by omega)
        rw [Int.natCast_ediv, Int.natCast_pow] at h
        exact h
      have Hand : Hid (bits .and .i64 ((m : Int) / 2 ^ g) 1 = ((m / 2 ^ g % 2 : Nat) : Int)) := hand
      clear hand
      clear hst hle
      go_wp2_with fail
      refine (mul_any A1 A1 n1 n1 c1 c1 _ _ _ hi hi (by omega) (by omega)).mono ?_
      rintro e W2 ⟨A2, n2, c2, rfl, i2, b2⟩
      have l2 := i2.len Hle.out
      have hb2 := below_more hb (Nat.le_refl _) b2
      have hA2 := hA.below (Nat.le_refl _) hb2
      by_cases hbit : m / 2 ^ g % 2 = 1
      · have hbb : (bits .and .i64 ((m : Int) / 2 ^ g) 1 == 1) = true := by rw [Hand.out, hbit]; rfl
        have Hfin : Hid (N ^ (m / 2 ^ (g + 1)) * N ^ (m / 2 ^ (g + 1)) * N = N ^ (m / 2 ^ g)) := by
          have h := Hst.out
          rw [if_pos hbit] at h
          exact h.symm
        clear hbit
        go_wp2_with fail
        refine (mul_any A2 A n2 n c2 c _ _ _ i2 hA2 (by omega) (by omega)).mono ?_
        rintro e W3 ⟨A3, n3, c3, rfl, i3, b3⟩
        rw [Hfin.out] at i3
        go_wp2
        go_roundg g
        case measure => omega
        case rel => exact ⟨A3, n3, c3, by omega, rfl, rfl, i3, below_more hb2 (Nat.le_refl _) b3⟩
      · have hbb : (bits .and .i64 ((m : Int) / 2 ^ g) 1 == 1) = false := by rw [Hand.out]; exact beq_eq_false_iff_ne.2 (by omega)
        have Hfin : Hid (N ^ (m / 2 ^ (g + 1)) * N ^ (m / 2 ^ (g + 1)) = N ^ (m / 2 ^ g)) := by
          have h := Hst.out
          rw [if_neg hbit, Nat.mul_one] at h
          exact h.symm
        clear hbit
        rw [Hfin.out] at i2
        go_wp2
        go_roundg g
        case measure => omega
        case rel => exact ⟨A2, n2, c2, by omega, rfl, rfl, i2, hb2⟩
end Go.Proofs.YtfcdekkoeeaolaaDoor

namespace Go.Proofs.YtfcdekkoeeaolaaDoor
open Go.RowKit

theorem neg_pow_m (x : Int) (m : Nat) : (-x) ^ m = if m % 2 = 1 then -(x ^ m) else x ^ m := by
  induction m with
  | zero => simp
  | succ m ih =>
    rw [Int.pow_succ, Int.pow_succ, ih]
    rcases Nat.mod_two_eq_zero_or_one m with h | h
    · rw [if_neg (by omega), if_pos (by omega), Int.mul_neg]
    · rw [if_pos h, if_neg (by omega), Int.neg_mul_neg]
theorem zv_pow (na : Bool) (s : ByteArray) (m : Nat) : zv na s ^ m = if (na && (((m % 2 : Nat) : Int) == 1)) then -((vB s.data.toList ^ m : Nat) : Int) else ((vB s.data.toList ^ m : Nat) : Int) := by
  unfold zv
  cases na
  · simp [Int.natCast_pow]
  · rw [if_pos rfl, neg_pow_m, Int.natCast_pow]
    rcases Nat.mod_two_eq_zero_or_one m with h | h
    · rw [h, if_neg (by omega)]; rfl
    · rw [h, if_pos rfl]; rfl
theorem pow_room {N m : Nat} (hm : m ≤ 4096) (hl : m * nbits N ≤ 65536) : ∃ kk, N < 4294967296 ^ kk ∧ kk * m + 1 ≤ 10000000 := by
  refine ⟨nbits N / 32 + 1, ?_, ?_⟩
  · refine Nat.lt_of_lt_of_le (nbits_lt N) ?_
    rw [show (4294967296 : Nat) = 2 ^ 32 from rfl, ← Nat.pow_mul]
    exact Nat.pow_le_pow_right (by omega) (by omega)
  · have h1 : nbits N / 32 * m ≤ nbits N * m := Nat.mul_le_mul_right _ (Nat.div_le_self _ _)
    rw [Nat.mul_comm (nbits N) m] at h1
    rw [Nat.add_mul]
    omega

theorem nbits_le {N k : Nat} (h : N < 4294967296 ^ k) : nbits N ≤ 32 * k := by
  rcases Nat.eq_zero_or_pos N with h0 | h0
  · subst h0; exact Nat.zero_le _
  · have h1 := nbits_ge (N := N) (by omega)
    rw [show (4294967296 : Nat) = 2 ^ 32 from rfl, ← Nat.pow_mul] at h
    have := (Nat.pow_lt_pow_iff_right (a := 2) (by omega)).1 (Nat.lt_of_le_of_lt h1 h)
    omega

/-- What a call returns that fails. -/
def FailOut (w : World) (x : Int) (e : Ending) (w' : World) : Prop := e = .returned (.tuple #[.agg #[.bool false, .string ⟨#[]⟩], .int .i64 x]) ∧ Below w.heap.size w w'
/-- What a call returns that does not fail. -/
def GoodOut (w : World) (z : Int) (e : Ending) (w' : World) : Prop := e = .returned (.tuple #[.agg #[.bool (sg z), .string (mg z)], .int .i64 0]) ∧ Below w.heap.size w w'

set_option maxRecDepth 100000 in
set_option maxHeartbeats 3200000 in
theorem ipow_range (na : Bool) (sa : ByteArray) (m : Int) (w : World) (hm : m < 0 ∨ 4096 < m) :
    Calls Tryd.prog 15 #[.agg #[.bool na, .string sa], .int .i64 m] w (FailOut w 2) := by
  have hr := ResCell.new (w.alloc (.cells #[.bool na, .string sa] 23)) 23
  rw [World.size_alloc] at hr
  obtain ⟨r1, r2, r3, r4⟩ := hr
  have hb := below2 w (.cells #[.bool na, .string sa] 23) (.cells #[.bool false, .string ⟨#[]⟩] 23)
  rcases hm with hm | hm
  all_goals
    go_enter Tryd.func15, Tryd.ntmps15
    go_wp2
    exact bodyPost_ret (v := .tuple #[.agg #[.bool false, .string ⟨#[]⟩], .int .i64 2]) (by simp [results, Tryd.results15, go_sem, r1, r2]) rfl ⟨rfl, hb⟩

set_option maxRecDepth 100000 in
set_option maxHeartbeats 3200000 in
theorem ipow_any (v : Value) (z : Int) (k m : Nat) (w : World) (h : IsInt v z k) (hm : m ≤ 4096) (hl : m * nbits z.natAbs ≤ 65536) :
    Calls Tryd.prog 15 #[v, .int .i64 (m : Int)] w (GoodOut w (z ^ m)) := by
  have Hi : Hid (IsInt v z k) := h
  obtain ⟨na, sa, rfl, hz, hs, hk, hkk⟩ := h
  have hN : vB sa.data.toList = z.natAbs := by rw [← natAbs_zv na sa, hz]
  have HN := Lib.hid hN
  have Hp : Hid (z ^ m = if (na && (((m % 2 : Nat) : Int) == 1)) then -((z.natAbs ^ m : Nat) : Int) else ((z.natAbs ^ m : Nat) : Int)) := by
    rw [← hz]; exact (zv_pow na sa m).trans (by rw [hN, hz])
  have Hk : Hid (z.natAbs < 4294967296 ^ k) := hk
  have hroom := pow_room hm hl
  have Hkk : Hid (∃ kk, z.natAbs < 4294967296 ^ kk ∧ kk * m + 1 ≤ 10000000) := hroom
  have hmul : IntKind.i64.wrap ((m : Int) * (nbits z.natAbs : Int)) = ((m * nbits z.natAbs : Nat) : Int) := by rw [IntKind.wrap_i64, Int.natCast_mul]; rw [← Int.natCast_mul]; omega
  clear hz hk hN hroom
  generalize m * nbits z.natAbs = t at *
  obtain ⟨nb, hnb⟩ : ∃ nb, nb = nbits z.natAbs := ⟨_, rfl⟩
  have Hb : Hid (nbits z.natAbs = nb) := hnb.symm
  rw [← hnb] at hmul
  clear hnb
  have q1 : (m : Int).tmod 2 = ((m % 2 : Nat) : Int) := Int.tmod_eq_emod_of_nonneg (by omega)
  have q2 : IntKind.i64.wrap ((m % 2 : Nat) : Int) = ((m % 2 : Nat) : Int) := by rw [IntKind.wrap_i64]; omega
  generalize m % 2 = r at *
  have hr := ResCell.new (w.alloc (.cells #[.bool na, .string sa] 23)) 23
  rw [World.size_alloc] at hr
  have hb := below2 w (.cells #[.bool na, .string sa] 23) (.cells #[.bool false, .string ⟨#[]⟩] 23)
  have c1 : ((w.alloc (.cells #[.bool na, .string sa] 23)).alloc (.cells #[.bool false, .string ⟨#[]⟩] 23)).cell? ⟨w.heap.size, 0, none⟩ = some (.bool na) := by simp [go_sem]
  have c2 : ((w.alloc (.cells #[.bool na, .string sa] 23)).alloc (.cells #[.bool false, .string ⟨#[]⟩] 23)).cell? ⟨w.heap.size, 1, none⟩ = some (.string sa) := by simp [go_sem]
  go_enter Tryd.func15, Tryd.ntmps15
  go_wp2_with fail
  refine (ibits_any _ z k _ Hi.out).mono ?_
  rintro e W1 ⟨rfl, b1⟩
  rw [Hb.out]
  have y1 := cell_keep c1 b1
  have y2 := cell_keep c2 b1
  have HR := hr.keep b1
  clear c1 c2 hr
  have hb1 := below_more hb (Nat.le_refl _) b1
  cases na
  all_goals
    go_wp2_with fail
    refine (magnitude_any _ sa _ (by omega)).mono ?_
    rintro e W2 ⟨A, n, c, rfl, i2, b2⟩
    rw [HN.out] at i2
    have l2 : n ≤ 10000000 := by have := i2.len Hk.out; omega
    obtain ⟨kk, hkk1, hkk2⟩ := Hkk.out
    have Hkk3 : Hid (z.natAbs ^ m < 4294967296 ^ (kk * m + 1)) := pow_bound hkk1 (Nat.le_refl _)
    go_wp2_with fail
    refine (power_any A n c z.natAbs m kk _ i2 (by omega) hkk1 hkk2 l2).mono ?_
    rintro e W3 ⟨A3, n3, c3, rfl, i3, b3⟩
    have l3 : n3 ≤ 1000000000 := by have := i3.len Hkk3.out; omega
    go_wp2_with fail
    refine (signed_any _ A3 n3 c3 _ _ i3 l3).mono ?_
    rintro e W4 ⟨rfl, b4⟩
    first | rw [ivN_eq false _ (z ^ m) Hp.out] | rw [ivN_eq (((r : Nat) : Int) == 1) _ (z ^ m) Hp.out]
    obtain ⟨r1, r2, r3, r4⟩ := ((HR.keep b2).keep b3).keep b4
    go_wp2
    exact bodyPost_ret (v := .tuple #[.agg #[.bool (sg (z ^ m)), .string (mg (z ^ m))], .int .i64 0]) (by simp [results, Tryd.results15, go_sem, r1, r2]) rfl ⟨rfl, below_more2 (below_more (below_more hb1 (Nat.le_refl _) b2) (Nat.le_refl _) b3) (Nat.le_refl _) b4 (by show w.heap.size ≤ w.heap.size + 1; omega) (by show w.heap.size ≤ w.heap.size + 1; omega)⟩

/-- The power would be too great. -/
theorem ipow_limit (v : Value) (z : Int) (k m : Nat) (w : World) (h : IsInt v z k) (hm : m ≤ 4096) (hl : 65536 < m * nbits z.natAbs) :
    Calls Tryd.prog 15 #[v, .int .i64 (m : Int)] w (FailOut w 4) := by
  have Hi : Hid (IsInt v z k) := h
  obtain ⟨na, sa, rfl, hz, hs, hk, hkk⟩ := h
  have hnb := nbits_le hk
  have hmul : IntKind.i64.wrap ((m : Int) * (nbits z.natAbs : Int)) = ((m * nbits z.natAbs : Nat) : Int) := by
    have : m * nbits z.natAbs ≤ 4096 * nbits z.natAbs := Nat.mul_le_mul_right _ hm
    rw [IntKind.wrap_i64, ← Int.natCast_mul]; omega
  clear hz hk
  generalize m * nbits z.natAbs = t at *
  obtain ⟨nb, hnb⟩ : ∃ nb, nb = nbits z.natAbs := ⟨_, rfl⟩
  have Hb : Hid (nbits z.natAbs = nb) := hnb.symm
  rw [← hnb] at hmul
  clear hnb
  have hr := ResCell.new (w.alloc (.cells #[.bool na, .string sa] 23)) 23
  rw [World.size_alloc] at hr
  have hb := below2 w (.cells #[.bool na, .string sa] 23) (.cells #[.bool false, .string ⟨#[]⟩] 23)
  go_enter Tryd.func15, Tryd.ntmps15
  go_wp2_with fail
  refine (ibits_any _ z k _ Hi.out).mono ?_
  rintro e W1 ⟨rfl, b1⟩
  rw [Hb.out]
  obtain ⟨r1, r2, r3, r4⟩ := hr.keep b1
  go_wp2
  exact bodyPost_ret (v := .tuple #[.agg #[.bool false, .string ⟨#[]⟩], .int .i64 4]) (by simp [results, Tryd.results15, go_sem, r1, r2]) rfl ⟨rfl, below_more2 hb (Nat.le_refl _) b1 (by show w.heap.size ≤ w.heap.size + 1; omega) (by show w.heap.size ≤ w.heap.size + 1; omega)⟩
end Go.Proofs.YtfcdekkoeeaolaaDoor
