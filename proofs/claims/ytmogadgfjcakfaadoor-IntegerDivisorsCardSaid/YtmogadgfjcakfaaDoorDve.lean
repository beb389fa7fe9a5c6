/- The contracts of Div and Gcd, with a name for what comes out. Condition: the integers have at most 10^7 digits to the base 2^32. -/
import Derived.Test.YtmogadgfjcakfaaDoorLaw
import Derived.Test.YtmogadgfjcakfaaDoorDivu
import Derived.Test.YtmogadgfjcakfaaDoorIdiv0
import Derived.Test.YtmogadgfjcakfaaDoorGcd
namespace Go.Proofs.YtmogadgfjcakfaaDoor
open Go.RowKit

theorem ediv_eq {v1 v2 : Value} {z1 z2 q r : Int} {k1 k2 : Nat} {w : World} (h1 : IsInt v1 z1 k1) (h2 : IsInt v2 z2 k2) (h0 : z2 ≠ 0) (eq : qD z1 z2 = q) (er : rD z1 z2 = r) :
    Calls Tryd.prog 15 #[v1, v2] w fun e w' => e = .returned (.tuple #[.agg #[.bool (sg q), .string (mg q)], .agg #[.bool (sg r), .string (mg r)], .int .i64 0]) ∧ Below w.heap.size w w' := eq ▸ er ▸ idiv_all v1 v2 z1 z2 k1 k2 w h1 h2 h0
theorem cmpZ_ge' {a b : Int} (h : b ≤ a) : 0 ≤ cmpZ a b := by unfold cmpZ; split <;> (try split) <;> omega
theorem qD_bd {a b q : Int} {k : Nat} (h : a.natAbs < 4294967296 ^ k) (e : qD a b = q) : q.natAbs < 4294967296 ^ (k + 1) := by
  have h1 : ∀ s, dq s a.natAbs b.natAbs < 4294967296 ^ (k + 1) := fun s => dq_lt s _ h
  rw [← e]
  unfold qD
  split
  · rw [Int.natAbs_neg, Int.natAbs_natCast]; exact h1 _
  · rw [Int.natAbs_natCast]; exact h1 _
theorem ezero_eq {v1 v2 : Value} {z1 z2 : Int} {k1 k2 : Nat} {w : World} (h1 : IsInt v1 z1 k1) (h2 : IsInt v2 z2 k2) (h0 : z2 = 0) :
    Calls Tryd.prog 15 #[v1, v2] w fun e w' => e = .returned (.tuple #[.agg #[.bool false, .string ⟨#[]⟩], .agg #[.bool false, .string ⟨#[]⟩], .int .i64 9]) ∧ Below w.heap.size w w' := idiv_zero v1 v2 z1 k1 k2 w h1 (h0 ▸ h2)

theorem qD_exact {n g : Int} (hg : 0 < g) (hd : g ∣ n) : qD n g = n / g ∧ rD n g = 0 := by
  obtain ⟨s1, s2, s3⟩ := qD_spec (a := n) (b := g) (by omega)
  refine div_one s1 (by rw [Int.ediv_mul_cancel hd]; omega) ⟨s2, s3⟩ ⟨fun _ => by omega, fun _ => by omega⟩ (by omega)
theorem gcd_eq {v1 v2 : Value} {z1 z2 g : Int} {k1 k2 : Nat} {w : World} (h1 : IsInt v1 z1 k1) (h2 : IsInt v2 z2 k2) (e : ((Nat.gcd z1.natAbs z2.natAbs : Nat) : Int) = g) :
    Calls Tryd.prog 11 #[v1, v2] w (IntOut w g) := e ▸ gcd_any v1 v2 z1 z2 k1 k2 w h1 h2
theorem gcd_bd {a b g : Int} {k : Nat} (ha : a.natAbs < 4294967296 ^ k) (hb : b.natAbs < 4294967296 ^ k) (e : ((Nat.gcd a.natAbs b.natAbs : Nat) : Int) = g) : g.natAbs < 4294967296 ^ k := by
  rw [← e, Int.natAbs_natCast]
  by_cases h0 : a.natAbs = 0
  · rw [h0, Nat.gcd_zero_left]; exact hb
  · exact Nat.lt_of_le_of_lt (Nat.gcd_le_left _ (Nat.pos_of_ne_zero h0)) ha
end Go.Proofs.YtmogadgfjcakfaaDoor
