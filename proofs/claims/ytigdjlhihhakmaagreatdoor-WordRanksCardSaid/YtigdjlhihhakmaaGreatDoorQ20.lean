/- What integer.decimalGroups returns: the digits to the base 10^9, the least one first. What integer.power returns: the power of a number. Condition: the exponent is at most 1000000, the power has at most 10000000 digits. What integer.Power returns: the power, or the error's number and zero. -/
import Derived.Test.YtigdjlhihhakmaaGreatDoorQ19
import Derived.Test.YtigdjlhihhakmaaGreatDoorQ09
import Derived.Maps.AppendAt
import Derived.OwnWalk

namespace Go.Proofs.YtigdjlhihhakmaaGreatDoor
open Go.RowKit

/-- The digits of N to the base 10^9, the least one first. -/
def gs (N : Nat) : List Nat := if h : N = 0 then [] else N % 1000000000 :: gs (N / 1000000000)
termination_by N
decreasing_by exact Nat.div_lt_self (by omega) (by omega)
theorem gs_zero : gs 0 = [] := by rw [gs]; rfl
theorem gs_pos {N : Nat} (h : N ≠ 0) : gs N = N % 1000000000 :: gs (N / 1000000000) := by rw [gs, dif_neg h]
theorem gs_len {N k : Nat} (h : N < 1000000000 ^ k) : (gs N).length ≤ k := by
  induction k generalizing N with
  | zero => have : N = 0 := by simp at h; exact h
            subst this; rw [gs_zero]; exact Nat.le_refl _
  | succ k ih =>
    by_cases h0 : N = 0
    · subst h0; rw [gs_zero]; exact Nat.zero_le _
    · rw [gs_pos h0, List.length_cons]
      have := ih (Nat.div_lt_of_lt_mul (by rw [Nat.pow_succ, Nat.mul_comm] at h; exact h))
      omega
theorem gs_room {N k : Nat} (h : N < 4294967296 ^ k) : (gs N).length ≤ 2 * k := by
  apply gs_len
  refine Nat.lt_of_lt_of_le h ?_
  rw [Nat.pow_mul]
  exact Nat.pow_le_pow_left (by omega) _
def gvs (l : List Nat) : List Value := l.map fun (d : Nat) => .int .u32 (d : Int)
theorem gvs_len (l : List Nat) : (gvs l).length = l.length := by unfold gvs; exact List.length_map _
theorem gvs_snoc (l : List Nat) (d : Nat) : gvs (l ++ [d]) = gvs l ++ [.int .u32 (d : Int)] := by unfold gvs; rw [List.map_append]; rfl

/-- A number keeps where another block grows. -/
theorem isNat_grown {w w' : World} {a : Addr} {n c N : Nat} {row : Option Nat} (h : IsNat w (some a) n c N) (hg : w.grownBy w' row) (hr : some a.block ≠ row) : IsNat w' (some a) n c N := by
  obtain ⟨h1, h2, f, ⟨b, off, hA, hcell⟩, h4⟩ := h
  refine ⟨h1, h2, f, ⟨b, off, hA, fun i hi => hg.cell (hcell i hi) ?_⟩, h4⟩
  have := hA (by omega)
  injection this with this
  subst this
  exact hr
theorem grown_of_below {w w' : World} (h : Below w.heap.size w w') (row : Option Nat) : w.grownBy w' row := ⟨h.os, h.tape, h.output, h.size, fun k hk _ => h.block k hk⟩
theorem nat_none {w : World} {A : Option Addr} {n c N : Nat} (h : IsNat w A n c N) : (n = 0 ↔ N = 0) := by
  obtain ⟨_, _, f, _, _, tf, hv⟩ := h
  constructor
  · rintro rfl; exact hv.symm
  · intro h0
    rcases Nat.eq_zero_or_pos n with h1 | h1
    · exact h1
    · have := val_ge h1 (tf h1)
      have hp : 0 < 4294967296 ^ (n - 1) := Nat.pow_pos (by omega)
      omega

def GrOut (w : World) (N : Nat) (e : Ending) (w' : World) : Prop := ∃ v, e = .returned v ∧ w'.ownsRow w.heap.size 70 1 v (gs N).length (gvs (gs N)) ∧ Below w.heap.size w w'

end Go.Proofs.YtigdjlhihhakmaaGreatDoor

namespace Go.Proofs.YtigdjlhihhakmaaGreatDoor
open Go.RowKit

/-- The exponent n, without its last i bits. -/
theorem pow_step (N n i : Nat) : N ^ (n / 2 ^ i) = N ^ (n / 2 ^ (i + 1)) * N ^ (n / 2 ^ (i + 1)) * (if n / 2 ^ i % 2 = 1 then N else 1) := by
  have h : n / 2 ^ (i + 1) = n / 2 ^ i / 2 := by rw [Nat.pow_succ, ← Nat.div_div_eq_div_mul]
  rw [h]
  generalize n / 2 ^ i = m
  rw [← Nat.pow_add]
  split
  · rw [← Nat.pow_succ]; congr 1; omega
  · rw [Nat.mul_one]; congr 1; omega

theorem pow_bound {N k e m : Nat} (hN : N < 4294967296 ^ k) (he : e ≤ m) : N ^ e < 4294967296 ^ (k * m + 1) := by
  have h1 : N ^ e ≤ (4294967296 ^ k) ^ e := Nat.pow_le_pow_left (by omega) e
  rw [← Nat.pow_mul] at h1
  have h2 : (4294967296 : Nat) ^ (k * e) ≤ 4294967296 ^ (k * m) := Nat.pow_le_pow_right (by omega) (Nat.mul_le_mul_left _ he)
  have h3 : (4294967296 : Nat) ^ (k * m) < 4294967296 ^ (k * m + 1) := Nat.pow_lt_pow_right (by omega) (by omega)
  omega
theorem one_nat (w : World) (t : TypeId) : IsNat (w.alloc (.cells #[.int .u32 1] t)) (some ⟨w.heap.size, 0, none⟩) 1 1 1 := by
  refine ⟨Nat.le_refl _, by omega, fun _ => 1, ⟨w.heap.size, 0, fun _ => rfl, fun i hi => ?_⟩, fun i _ => (by omega : (1 : Nat) < 4294967296), fun _ => (by show (1 : Nat) ≠ 0; omega), by simp [val]⟩
  obtain rfl : i = 0 := by omega
  simp [go_sem]
theorem and_one (x : Nat) (h : x < 9223372036854775808) : bits .and .i64 (x : Int) 1 = ((x % 2 : Nat) : Int) := by
  show IntKind.i64.wrap ((BitVec.ofInt 64 (x : Int) &&& BitVec.ofInt 64 1).toNat : Int) = _
  rw [BitVec.toNat_and, BitVec.ofInt_natCast, BitVec.toNat_ofNat, Nat.mod_eq_of_lt (by omega), show (BitVec.ofInt 64 1).toNat = 1 from rfl, Nat.and_one_is_mod, IntKind.wrap_i64]
  omega

end Go.Proofs.YtigdjlhihhakmaaGreatDoor

namespace Go.Proofs.YtigdjlhihhakmaaGreatDoor
open Go.RowKit

theorem neg_pow_m (x : Int) (m : Nat) : (-x) ^ m = if m % 2 = 1 then -(x ^ m) else x ^ m := by
  induction m with
  | zero => simp
  | succ m ih =>
    rw [Int.pow_succ, Int.pow_succ, ih]
    rcases Nat.mod_two_eq_zero_or_one m with h | h
    · rw [if_neg (by omega), if_pos (by omega), Int.mul_neg]
    · rw [if_pos h, if_neg (by omega), Int.neg_mul_neg]
theorem zv_pow (na : Bool) (s : ByteArray) (m : Nat) : zv na s ^ m = if (na && (((m % 2 : Nat) : Int) == 1)) then -((vB s.data.toList ^ m : Nat) : Int) else ((vB s.data.toList ^ m : Nat) : Int) := by
  unfold zv
  cases na
  · simp [Int.natCast_pow]
  · rw [if_pos rfl, neg_pow_m, Int.natCast_pow]
    rcases Nat.mod_two_eq_zero_or_one m with h | h
    · rw [h, if_neg (by omega)]; rfl
    · rw [h, if_pos rfl]; rfl
theorem pow_room {N m : Nat} (hm : m ≤ 4096) (hl : m * nbits N ≤ 65536) : ∃ kk, N < 4294967296 ^ kk ∧ kk * m + 1 ≤ 10000000 := by
  refine ⟨nbits N / 32 + 1, ?_, ?_⟩
  · refine Nat.lt_of_lt_of_le (nbits_lt N) ?_
    rw [show (4294967296 : Nat) = 2 ^ 32 from rfl, ← Nat.pow_mul]
    exact Nat.pow_le_pow_right (by omega) (by omega)
  · have h1 : nbits N / 32 * m ≤ nbits N * m := Nat.mul_le_mul_right _ (Nat.div_le_self _ _)
    rw [Nat.mul_comm (nbits N) m] at h1
    rw [Nat.add_mul]
    omega

theorem nbits_le {N k : Nat} (h : N < 4294967296 ^ k) : nbits N ≤ 32 * k := by
  rcases Nat.eq_zero_or_pos N with h0 | h0
  · subst h0; exact Nat.zero_le _
  · have h1 := nbits_ge (N := N) (by omega)
    rw [show (4294967296 : Nat) = 2 ^ 32 from rfl, ← Nat.pow_mul] at h
    have := (Nat.pow_lt_pow_iff_right (a := 2) (by omega)).1 (Nat.lt_of_le_of_lt h1 h)
    omega

/-- What a call returns that fails. -/
def FailOut (w : World) (x : Int) (e : Ending) (w' : World) : Prop := e = .returned (.tuple #[.agg #[.bool false, .string ⟨#[]⟩], .int .i64 x]) ∧ Below w.heap.size w w'
/-- What a call returns that does not fail. -/
def GoodOut (w : World) (z : Int) (e : Ending) (w' : World) : Prop := e = .returned (.tuple #[.agg #[.bool (sg z), .string (mg z)], .int .i64 0]) ∧ Below w.heap.size w w'



end Go.Proofs.YtigdjlhihhakmaaGreatDoor
