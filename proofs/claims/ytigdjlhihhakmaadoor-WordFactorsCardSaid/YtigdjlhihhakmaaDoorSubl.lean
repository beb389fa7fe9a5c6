/- Plain facts: the borrow of a subtraction of 32 bits, as bits.Sub32 reckons it; differences by digits. No condition. -/
import Derived.Test.YtigdjlhihhakmaaDoorDig
import Derived.Laws.BitsAllLaws
namespace Go.Proofs.YtigdjlhihhakmaaDoor
open Go.RowKit

theorem top_bit (n : Nat) (h : n < 4294967296) : n / 2147483648 = (n.testBit 31).toNat := by
  rw [Nat.testBit_eq_decide_div_mod_eq]
  have : n / 2 ^ 31 = n / 2147483648 := rfl
  rw [this]
  have h2 : n / 2147483648 < 2 := by omega
  by_cases e : n / 2147483648 % 2 = 1
  · simp [e]; omega
  · simp [e]; omega
theorem tb31 (n : Nat) (h : n < 4294967296) : n.testBit 31 = decide (2147483648 ≤ n) := by
  rw [Nat.testBit_eq_decide_div_mod_eq]
  have : n / 2 ^ 31 = n / 2147483648 := rfl
  rw [this, decide_eq_decide]
  omega

theorem borrow_nat (x y d b : Nat) (hx : x < 4294967296) (hy : y < 4294967296) (hb : b ≤ 1) (hd : d < 4294967296) (he : x + 4294967296 * (if x < y + b then 1 else 0) = y + b + d) :
    (((4294967295 ^^^ x) &&& y) ||| ((4294967295 ^^^ (x ^^^ y)) &&& d)) / 2147483648 = if x < y + b then 1 else 0 := by
  have h1 : 4294967295 ^^^ x < 2 ^ 32 := Nat.xor_lt_two_pow (by omega) (by omega)
  have h2 : x ^^^ y < 2 ^ 32 := Nat.xor_lt_two_pow (by omega) (by omega)
  have h3 : 4294967295 ^^^ (x ^^^ y) < 2 ^ 32 := Nat.xor_lt_two_pow (by omega) h2
  have h4 : (4294967295 ^^^ x) &&& y < 2 ^ 32 := Nat.and_lt_two_pow _ (by omega)
  have h5 : (4294967295 ^^^ (x ^^^ y)) &&& d < 2 ^ 32 := Nat.and_lt_two_pow _ (by omega)
  have h6 : ((4294967295 ^^^ x) &&& y) ||| ((4294967295 ^^^ (x ^^^ y)) &&& d) < 2 ^ 32 := Nat.or_lt_two_pow h4 h5
  rw [top_bit _ (by omega)]
  simp only [Nat.testBit_or, Nat.testBit_and, Nat.testBit_xor]
  rw [tb31 x hx, tb31 y hy, tb31 d hd, tb31 4294967295 (by omega)]
  by_cases a1 : 2147483648 ≤ x <;> by_cases a2 : 2147483648 ≤ y <;> by_cases a3 : 2147483648 ≤ d <;> by_cases a4 : x < y + b <;> simp [a1, a2, a3, a4] at he ⊢ <;> omega

theorem borrow (x y b : Nat) (hx : x < 4294967296) (hy : y < 4294967296) (hb : b ≤ 1) :
    bits .or .u32 (bits .and .u32 (bits .xor .u32 IntKind.u32.max (x : Int)) (y : Int)) (bits .and .u32 (bits .xor .u32 IntKind.u32.max (bits .xor .u32 (x : Int) (y : Int))) (((x : Int) - y - b) % 4294967296)) / 2147483648 =
      ((if x < y + b then 1 else 0 : Nat) : Int) := by
  obtain ⟨d, hd, e, he⟩ : ∃ d : Nat, d < 4294967296 ∧ ((x : Int) - y - b) % 4294967296 = (d : Int) ∧ x + 4294967296 * (if x < y + b then 1 else 0) = y + b + d := by
    refine ⟨(((x : Int) - y - b) % 4294967296).toNat, by omega, by omega, ?_⟩
    split <;> omega
  rw [e, show IntKind.u32.max = ((4294967295 : Nat) : Int) from rfl]
  have h1 : 4294967295 ^^^ x < 2 ^ 32 := Nat.xor_lt_two_pow (by omega) (by omega)
  have h2 : x ^^^ y < 2 ^ 32 := Nat.xor_lt_two_pow (by omega) (by omega)
  have h3 : 4294967295 ^^^ (x ^^^ y) < 2 ^ 32 := Nat.xor_lt_two_pow (by omega) h2
  have h4 : (4294967295 ^^^ x) &&& y < 2 ^ 32 := Nat.and_lt_two_pow _ (by omega)
  have h5 : (4294967295 ^^^ (x ^^^ y)) &&& d < 2 ^ 32 := Nat.and_lt_two_pow _ (by omega)
  rw [u32_xor_nat _ _ (by omega) hx, u32_xor_nat _ _ hx hy, u32_xor_nat _ _ (by omega) (by omega), u32_and_nat _ _ (by omega) hy, u32_and_nat _ _ (by omega) hd, u32_or_nat _ _ (by omega) (by omega)]
  have h := borrow_nat x y d b hx hy hb hd he
  rw [← h, Int.natCast_ediv]
  rfl

theorem sub_step {s f g : Nat → Nat} {k m y d : Nat} (hv : val s k + val (ext g m) k = val f k + y * 4294967296 ^ k)
    (z : Nat) (he : f k + 4294967296 * z = ext g m k + y + d) :
    val (upd s k d) (k + 1) + val (ext g m) (k + 1) = val f (k + 1) + z * 4294967296 ^ (k + 1) := by
  rw [val_upd, val, val, Nat.pow_succ]
  generalize ext g m = G at *
  generalize 4294967296 ^ k = P at *
  have e : (f k + 4294967296 * z) * P = (G k + y + d) * P := by rw [he]
  rw [Nat.add_mul, Nat.add_mul, Nat.add_mul] at e
  have e2 : z * (P * 4294967296) = 4294967296 * z * P := by rw [Nat.mul_comm P, ← Nat.mul_assoc, Nat.mul_comm z]
  rw [e2]
  omega
end Go.Proofs.YtigdjlhihhakmaaDoor
