/- Plain facts on quotients that are rounded down: there is one alone. No condition. -/
import Derived.Test.YtmogadgfjcakfaaDoorIdiv
namespace Go.Proofs.YtmogadgfjcakfaaDoor
open Go.RowKit

theorem dq_true {N M : Nat} (h : M ≠ 0) : dq true N M * M = N + dr true N M ∧ dr true N M < M := by
  have h1 := Nat.div_add_mod N M
  have h2 := Nat.mod_lt N (show M > 0 by omega)
  unfold dq dr
  by_cases h0 : N % M = 0
  · rw [if_neg (by simp [h0]), if_neg (by simp [h0]), Nat.mul_comm]; omega
  · rw [if_pos ⟨rfl, h0⟩, if_pos ⟨rfl, h0⟩, Nat.add_mul, Nat.one_mul, Nat.mul_comm]; omega
theorem dq_false {N M : Nat} (h : M ≠ 0) : dq false N M * M + dr false N M = N ∧ dr false N M < M := by
  have h1 := Nat.div_add_mod N M
  have h2 := Nat.mod_lt N (show M > 0 by omega)
  unfold dq dr
  rw [if_neg (by simp), if_neg (by simp), Nat.mul_comm]; omega
/-- The quotient and the rest. -/
theorem qD_spec {a b : Int} (h : b ≠ 0) : qD a b * b + rD a b = a ∧ (0 < b → 0 ≤ rD a b ∧ rD a b < b) ∧ (b < 0 → b < rD a b ∧ rD a b ≤ 0) := by
  have hb : b.natAbs ≠ 0 := by omega
  obtain ⟨t1, t2⟩ := dq_true (N := a.natAbs) hb
  obtain ⟨f1, f2⟩ := dq_false (N := a.natAbs) hb
  have t1' : ((dq true a.natAbs b.natAbs : Nat) : Int) * (b.natAbs : Int) = (a.natAbs : Int) + ((dr true a.natAbs b.natAbs : Nat) : Int) := by exact_mod_cast t1
  have f1' : ((dq false a.natAbs b.natAbs : Nat) : Int) * (b.natAbs : Int) + ((dr false a.natAbs b.natAbs : Nat) : Int) = (a.natAbs : Int) := by exact_mod_cast f1
  unfold qD rD
  by_cases ha0 : a < 0 <;> by_cases hb0 : b < 0
  · have eb : (b.natAbs : Int) = -b := by omega
    have ea : (a.natAbs : Int) = -a := by omega
    rw [show sg a = true from decide_eq_true ha0, show sg b = true from decide_eq_true hb0]
    simp only [bne_self_eq_false, Bool.false_eq_true, if_false, if_true]
    rw [eb, ea, Int.mul_neg] at f1'
    generalize dq false a.natAbs b.natAbs = qf at *
    generalize dr false a.natAbs b.natAbs = rf at *
    generalize (qf : Int) * b = p at *
    clear t1 t1' t2 f1
    omega
  · have eb : (b.natAbs : Int) = b := by omega
    have ea : (a.natAbs : Int) = -a := by omega
    rw [show sg a = true from decide_eq_true ha0, show sg b = false from decide_eq_false hb0]
    simp only [Bool.true_bne, Bool.not_false, if_true, Bool.false_eq_true, if_false]
    rw [eb, ea] at t1'
    rw [Int.neg_mul]
    generalize dq true a.natAbs b.natAbs = qf at *
    generalize dr true a.natAbs b.natAbs = rf at *
    generalize (qf : Int) * b = p at *
    clear f1 f1' f2 t1
    omega
  · have eb : (b.natAbs : Int) = -b := by omega
    have ea : (a.natAbs : Int) = a := by omega
    rw [show sg a = false from decide_eq_false ha0, show sg b = true from decide_eq_true hb0]
    simp only [Bool.false_bne, if_true]
    rw [eb, ea, Int.mul_neg] at t1'
    rw [Int.neg_mul]
    generalize dq true a.natAbs b.natAbs = qf at *
    generalize dr true a.natAbs b.natAbs = rf at *
    generalize (qf : Int) * b = p at *
    clear f1 f1' f2 t1
    omega
  · have eb : (b.natAbs : Int) = b := by omega
    have ea : (a.natAbs : Int) = a := by omega
    rw [show sg a = false from decide_eq_false ha0, show sg b = false from decide_eq_false hb0]
    simp only [bne_self_eq_false, Bool.false_eq_true, if_false]
    rw [eb, ea] at f1'
    generalize dq false a.natAbs b.natAbs = qf at *
    generalize dr false a.natAbs b.natAbs = rf at *
    generalize (qf : Int) * b = p at *
    clear t1 t1' t2 f1
    omega
theorem div_one {a b q r q' r' : Int} (h1 : q * b + r = a) (h2 : q' * b + r' = a) (hr : (0 < b → 0 ≤ r ∧ r < b) ∧ (b < 0 → b < r ∧ r ≤ 0)) (hr' : (0 < b → 0 ≤ r' ∧ r' < b) ∧ (b < 0 → b < r' ∧ r' ≤ 0)) (hb : b ≠ 0) : q = q' ∧ r = r' := by
  have h3 : (q - q') * b = r' - r := by rw [Int.sub_mul]; omega
  have h4 : q - q' = 0 := by
    rcases Int.lt_trichotomy (q - q') 0 with h | h | h
    · exfalso
      rcases Int.lt_or_lt_of_ne hb with hb0 | hb0
      · have h5 : -1 * b ≤ (q - q') * b := Int.mul_le_mul_of_nonpos_right (by omega) (by omega)
        have := hr.2 hb0; have := hr'.2 hb0; omega
      · have h5 : (q - q') * b ≤ -1 * b := Int.mul_le_mul_of_nonneg_right (by omega) (by omega)
        have := hr.1 hb0; have := hr'.1 hb0; omega
    · exact h
    · exfalso
      rcases Int.lt_or_lt_of_ne hb with hb0 | hb0
      · have h5 : (q - q') * b ≤ 1 * b := Int.mul_le_mul_of_nonpos_right (by omega) (by omega)
        have := hr.2 hb0; have := hr'.2 hb0; omega
      · have h5 : 1 * b ≤ (q - q') * b := Int.mul_le_mul_of_nonneg_right (by omega) (by omega)
        have := hr.1 hb0; have := hr'.1 hb0; omega
  rw [h4] at h3
  omega
/-- The machine's quotient, rounded down. -/
theorem qD_mach {a b : Int} (h : b ≠ 0) :
    qD a b = (if a.tmod b ≠ 0 ∧ (decide (a.tmod b < 0) != decide (b < 0)) = true then a.tdiv b - 1 else a.tdiv b) ∧
    rD a b = (if a.tmod b ≠ 0 ∧ (decide (a.tmod b < 0) != decide (b < 0)) = true then a.tmod b + b else a.tmod b) := by
  obtain ⟨s1, s2, s3⟩ := qD_spec (a := a) h
  have e := Int.mul_tdiv_add_tmod a b
  have hl : (a.tmod b).natAbs < b.natAbs := by
    have := Int.natAbs_tmod a b
    rw [this]
    exact Nat.mod_lt _ (by omega)
  rw [Int.mul_comm] at e
  split
  · rename_i hc
    obtain ⟨c1, c2⟩ := hc
    refine div_one (a := a) (b := b) s1 ?_ ⟨s2, s3⟩ ?_ h
    · rw [Int.sub_mul, Int.one_mul]; omega
    · by_cases hx : a.tmod b < 0 <;> by_cases hy : b < 0 <;> simp [hx, hy] at c2 <;> constructor <;> intro h9 <;> omega
  · rename_i hc
    refine div_one (a := a) (b := b) s1 e ⟨s2, s3⟩ ?_ h
    by_cases hz : a.tmod b = 0
    · rw [hz]; constructor <;> intro h9 <;> omega
    · by_cases hx : a.tmod b < 0 <;> by_cases hy : b < 0 <;> simp [hx, hy, hz] at hc <;> constructor <;> intro h9 <;> omega
end Go.Proofs.YtmogadgfjcakfaaDoor
