/- Plain facts on the order of numbers by their digits. No condition. -/
import Derived.Test.YtigdjlhihhakmaaDoorDig
namespace Go.Proofs.YtigdjlhihhakmaaDoor
open Go.RowKit

def cmpN (a b : Nat) : Int := if a < b then -1 else if b < a then 1 else 0

theorem val_lt_len {f g : Nat → Nat} {n m : Nat} (hf : Dig f n) (hg : Trm g m) (h : n < m) : val f n < val g m := by
  have h1 := val_lt hf
  have h2 := val_ge (f := g) (n := m) (by omega) (hg (by omega))
  have h3 : 4294967296 ^ n ≤ 4294967296 ^ (m - 1) := Nat.pow_le_pow_right (by omega) (by omega)
  omega

theorem val_lt_at {f g : Nat → Nat} {n i : Nat} (hf : Dig f n) (hi : i < n) (h : f i < g i) (he : ∀ j, i < j → j < n → f j = g j) : val f n < val g n := by
  induction n with
  | zero => omega
  | succ n ih =>
    rw [val, val]
    by_cases e : i = n
    · subst e
      have h1 := val_lt (f := f) (n := i) (fun j hj => hf j (by omega))
      have h2 : (f i + 1) * 4294967296 ^ i ≤ g i * 4294967296 ^ i := Nat.mul_le_mul_right _ (by omega)
      rw [Nat.add_mul, Nat.one_mul] at h2
      omega
    · have h1 := ih (fun j hj => hf j (by omega)) (by omega) (fun j a b => he j a (by omega))
      rw [he n (by omega) (by omega)]
      omega

theorem cmpN_len {f g : Nat → Nat} {n m : Nat} (hf : Dig f n) (hg : Dig g m) (tf : Trm f n) (tg : Trm g m) (h : n ≠ m) : cmpN (val f n) (val g m) = if n < m then -1 else 1 := by
  unfold cmpN
  by_cases hlt : n < m
  · rw [if_pos (val_lt_len hf tg hlt), if_pos hlt]
  · have := val_lt_len hg tf (show m < n by omega)
    rw [if_neg (by omega), if_pos this, if_neg hlt]
theorem cmpN_lss {f g : Nat → Nat} {n i : Nat} (hf : Dig f n) (hi : i < n) (h : f i < g i) (he : ∀ j, i < j → j < n → f j = g j) : cmpN (val f n) (val g n) = -1 := by
  unfold cmpN; rw [if_pos (val_lt_at hf hi h he)]
theorem cmpN_gtr {f g : Nat → Nat} {n i : Nat} (hg : Dig g n) (hi : i < n) (h : g i < f i) (he : ∀ j, i < j → j < n → f j = g j) : cmpN (val f n) (val g n) = 1 := by
  have := val_lt_at hg hi h (fun j a b => (he j a b).symm)
  unfold cmpN; rw [if_neg (by omega), if_pos this]
theorem cmpN_eq {f g : Nat → Nat} {n : Nat} (he : ∀ j, j < n → f j = g j) : cmpN (val f n) (val g n) = 0 := by
  rw [val_congr he]; unfold cmpN; rw [if_neg (by omega), if_neg (by omega)]
end Go.Proofs.YtigdjlhihhakmaaDoor
