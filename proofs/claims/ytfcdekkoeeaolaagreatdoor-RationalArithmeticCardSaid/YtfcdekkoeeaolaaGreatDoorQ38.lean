/- The reference implementation of layer 1, as layer 2 calls it: integers of up to L bytes. Condition: at most 10^7 bytes. Plain facts on quotients that are rounded down: there is one alone. No condition. The contracts of Div and Gcd, with a name for what comes out. Condition: the integers have at most 10^7 digits to the base 2^32. -/
import Derived.Test.YtfcdekkoeeaolaaGreatDoorQ22
import Derived.Test.YtfcdekkoeeaolaaGreatDoorQ23
import Derived.Test.YtfcdekkoeeaolaaGreatDoorQ20
import Derived.Test.YtfcdekkoeeaolaaGreatDoorQ34
import Derived.Test.YtfcdekkoeeaolaaGreatDoorQ29
import Derived.Test.YtfcdekkoeeaolaaGreatDoorQ30

namespace Go.Proofs.YtfcdekkoeeaolaaGreatDoor
open Go.RowKit
set_option linter.unusedSimpArgs false
set_option linter.unusedVariables false

/-- An integer of at most L bytes. -/
def AI (v : Value) (z : Int) (L : Nat) : Prop := ∃ g, ∃ l : List UInt8, v = .agg #[.bool g, .string ⟨l.toArray⟩] ∧ zv g ⟨l.toArray⟩ = z ∧ l.length ≤ L
theorem AI.bd {v : Value} {z : Int} {L : Nat} (h : AI v z L) : z.natAbs < 256 ^ L := by
  obtain ⟨g, l, rfl, rfl, h⟩ := h
  rw [natAbs_zv]
  exact Nat.lt_of_lt_of_le (vB_lt l) (Nat.pow_le_pow_right (by omega) h)
theorem AI.wider {v : Value} {z : Int} {L M : Nat} (h : AI v z L) (hl : L ≤ M) : AI v z M := by
  obtain ⟨g, l, h1, h2, h3⟩ := h
  exact ⟨g, l, h1, h2, by omega⟩
theorem ai_mg {z : Int} {L : Nat} (h : z.natAbs < 256 ^ L) : AI (.agg #[.bool (sg z), .string (mg z)]) z L := ⟨sg z, bytesOf z.natAbs, rfl, zv_mg z, bytesOf_len h⟩
theorem ai_zero : AI (.agg #[.bool false, .string ⟨#[]⟩]) 0 0 := ⟨false, [], rfl, rfl, Nat.le_refl _⟩
theorem ai_arg (g : Bool) (s : ByteArray) {L : Nat} (h : s.size ≤ L) : AI (.agg #[.bool g, .string s]) (zv g s) L := ⟨g, s.data.toList, rfl, rfl, h⟩
theorem ai_add {v1 v2 : Value} {z1 z2 z : Int} {L : Nat} {w : World} (h1 : AI v1 z1 L) (h2 : AI v2 z2 L) (hL : L ≤ 10000000) (e : z1 + z2 = z) : Calls Tryz.prog 10 #[v1, v2] w (IntOut w z) := by
  obtain ⟨g1, l1, rfl, a1, b1⟩ := h1
  obtain ⟨g2, l2, rfl, a2, b2⟩ := h2
  exact e ▸ radd01_any g1 g2 l1 l2 z1 z2 w (by omega) (by omega) a1 a2
theorem ai_mul {v1 v2 : Value} {z1 z2 z : Int} {L : Nat} {w : World} (h1 : AI v1 z1 L) (h2 : AI v2 z2 L) (hL : L ≤ 10000000) (e : z1 * z2 = z) : Calls Tryz.prog 14 #[v1, v2] w (IntOut w z) := by
  obtain ⟨g1, l1, rfl, a1, b1⟩ := h1
  obtain ⟨g2, l2, rfl, a2, b2⟩ := h2
  exact e ▸ rmul01_any g1 g2 l1 l2 z1 z2 w (by omega) (by omega) a1 a2
theorem ai_neg {v1 : Value} {z1 z : Int} {L : Nat} {w : World} (h1 : AI v1 z1 L) (hL : L ≤ 10000000) (e : -z1 = z) : Calls Tryz.prog 72 #[v1] w (IntOut w z) := by
  obtain ⟨g1, l1, rfl, a1, b1⟩ := h1
  exact rneg_eq (by omega) a1 e
theorem ai_cmp {v1 v2 : Value} {z1 z2 z : Int} {L : Nat} {w : World} (h1 : AI v1 z1 L) (h2 : AI v2 z2 L) (hL : L ≤ 10000000) (e : cmpZ z1 z2 = z) : Calls Tryz.prog 123 #[v1, v2] w fun e w' => e = .returned (.int .i64 z) ∧ Below w.heap.size w w' := by
  obtain ⟨g1, l1, rfl, a1, b1⟩ := h1
  obtain ⟨g2, l2, rfl, a2, b2⟩ := h2
  exact e ▸ rcompare_any g1 g2 l1 l2 z1 z2 w (by omega) (by omega) a1 a2
theorem ai_gcd {v1 v2 : Value} {z1 z2 z : Int} {L : Nat} {w : World} (h1 : AI v1 z1 L) (h2 : AI v2 z2 L) (hL : L ≤ 10000000) (e : ((Nat.gcd z1.natAbs z2.natAbs : Nat) : Int) = z) : Calls Tryz.prog 23 #[v1, v2] w (IntOut w z) := by
  obtain ⟨g1, l1, rfl, a1, b1⟩ := h1
  obtain ⟨g2, l2, rfl, a2, b2⟩ := h2
  exact e ▸ rgcd01_any g1 g2 l1 l2 z1 z2 w (by omega) (by omega) a1 a2
theorem ai_div {v1 v2 : Value} {z1 z2 q r : Int} {L : Nat} {w : World} (h1 : AI v1 z1 L) (h2 : AI v2 z2 L) (hL : L ≤ 10000000) (h0 : z2 ≠ 0) (eq : qD z1 z2 = q) (er : rD z1 z2 = r) :
    Calls Tryz.prog 17 #[v1, v2] w fun e w' => e = .returned (.tuple #[.agg #[.bool (sg q), .string (mg q)], .agg #[.bool (sg r), .string (mg r)], .int .i64 0]) ∧ Below w.heap.size w w' := by
  obtain ⟨g1, l1, rfl, a1, b1⟩ := h1
  obtain ⟨g2, l2, rfl, a2, b2⟩ := h2
  subst eq er
  exact rdiv01_any g1 g2 l1 l2 z1 z2 w (by omega) (by omega) a1 a2 h0
set_option maxRecDepth 100000 in
theorem rsign_any {v : Value} {z c : Int} {L : Nat} {w : World} (h : AI v z L) (hL : L ≤ 10000000) (e : cmpZ z 0 = c) :
    Calls Tryz.prog 90 #[v] w fun e w' => e = .returned (.int .i64 c) ∧ Below w.heap.size w w' := by
  have HA := Lib.hid h
  have HE := Lib.hid e
  obtain ⟨g, l, rfl, -, -⟩ := h
  have B0 := below1 w (.cells #[.bool g, .string ⟨l.toArray⟩] 23)
  clear e
  go_enter Tryz.func90, Tryz.ntmps90
  go_wp2_with fail
  refine (ai_cmp HA.out (ai_zero.wider (Nat.zero_le _)) hL HE.out).mono ?_
  rintro e W1 ⟨rfl, b1⟩
  go_wp2_with fail
  go_ret
  exact ⟨rfl, below_more B0 (Nat.le_refl _) b1⟩
set_option maxRecDepth 100000 in
theorem rone_any (w : World) : Calls Tryz.prog 95 #[] w (IntOut w 1) := by
  have X0 := Box2.new w 23 false ⟨#[]⟩
  have B0 := below1 w (.cells #[.bool false, .string ⟨#[]⟩] 23)
  go_enter Tryz.func95, Tryz.ntmps95
  go_wp2_with fail
  refine (rof01_any 1 _ (by omega) (by omega)).mono ?_
  rintro e W1 ⟨rfl, b1⟩
  obtain ⟨r1, r2, r3, r4⟩ := X0.keep b1
  have B1 := below_more B0 (Nat.le_refl _) b1
  go_wp2_with fail
  exact bodyPost_ret (v := .agg #[.bool (sg 1), .string (mg 1)]) (by simp [results, Tryz.results95, go_sem, r1, r2, r3, r4]) rfl ⟨rfl, (B1.setCell (Nat.le_refl _) _).setCell (Nat.le_refl _) _⟩
end Go.Proofs.YtfcdekkoeeaolaaGreatDoor

namespace Go.Proofs.YtfcdekkoeeaolaaGreatDoor
open Go.RowKit

theorem dq_true {N M : Nat} (h : M ≠ 0) : dq true N M * M = N + dr true N M ∧ dr true N M < M := by
  have h1 := Nat.div_add_mod N M
  have h2 := Nat.mod_lt N (show M > 0 by omega)
  unfold dq dr
  by_cases h0 : N % M = 0
  · rw [if_neg (by simp [h0]), if_neg (by simp [h0]), Nat.mul_comm]; omega
  · rw [if_pos ⟨rfl, h0⟩, if_pos ⟨rfl, h0⟩, Nat.add_mul, Nat.one_mul, Nat.mul_comm]; omega
theorem dq_false {N M : Nat} (h : M ≠ 0) : dq false N M * M + dr false N M = N ∧ dr false N M < M := by
  have h1 := Nat.div_add_mod N M
  have h2 := Nat.mod_lt N (show M > 0 by omega)
  unfold dq dr
  rw [if_neg (by simp), if_neg (by simp), Nat.mul_comm]; omega
/-- The quotient and the rest. -/
theorem qD_spec {a b : Int} (h : b ≠ 0) : qD a b * b + rD a b = a ∧ (0 < b → 0 ≤ rD a b ∧ rD a b < b) ∧ (b < 0 → b < rD a b ∧ rD a b ≤ 0) := by
  have hb : b.natAbs ≠ 0 := by omega
  obtain ⟨t1, t2⟩ := dq_true (N := a.natAbs) hb
  obtain ⟨f1, f2⟩ := dq_false (N := a.natAbs) hb
  have t1' : ((dq true a.natAbs b.natAbs : Nat) : Int) * (b.natAbs : Int) = (a.natAbs : Int) + ((dr true a.natAbs b.natAbs : Nat) : Int) := by exact_mod_cast t1
  have f1' : ((dq false a.natAbs b.natAbs : Nat) : Int) * (b.natAbs : Int) + ((dr false a.natAbs b.natAbs : Nat) : Int) = (a.natAbs : Int) := by exact_mod_cast f1
  unfold qD rD
  by_cases ha0 : a < 0 <;> by_cases hb0 : b < 0
  · have eb : (b.natAbs : Int) = -b := by omega
    have ea : (a.natAbs : Int) = -a := by omega
    rw [show sg a = true from decide_eq_true ha0, show sg b = true from decide_eq_true hb0]
    simp only [bne_self_eq_false, Bool.false_eq_true, if_false, if_true]
    rw [eb, ea, Int.mul_neg] at f1'
    generalize dq false a.natAbs b.natAbs = qf at *
    generalize dr false a.natAbs b.natAbs = rf at *
    generalize (qf : Int) * b = p at *
    clear t1 t1' t2 f1
    omega
  · have eb : (b.natAbs : Int) = b := by omega
    have ea : (a.natAbs : Int) = -a := by omega
    rw [show sg a = true from decide_eq_true ha0, show sg b = false from decide_eq_false hb0]
    simp only [Bool.true_bne, Bool.not_false, if_true, Bool.false_eq_true, if_false]
    rw [eb, ea] at t1'
    rw [Int.neg_mul]
    generalize dq true a.natAbs b.natAbs = qf at *
    generalize dr true a.natAbs b.natAbs = rf at *
    generalize (qf : Int) * b = p at *
    clear f1 f1' f2 t1
    omega
  · have eb : (b.natAbs : Int) = -b := by omega
    have ea : (a.natAbs : Int) = a := by omega
    rw [show sg a = false from decide_eq_false ha0, show sg b = true from decide_eq_true hb0]
    simp only [Bool.false_bne, if_true]
    rw [eb, ea, Int.mul_neg] at t1'
    rw [Int.neg_mul]
    generalize dq true a.natAbs b.natAbs = qf at *
    generalize dr true a.natAbs b.natAbs = rf at *
    generalize (qf : Int) * b = p at *
    clear f1 f1' f2 t1
    omega
  · have eb : (b.natAbs : Int) = b := by omega
    have ea : (a.natAbs : Int) = a := by omega
    rw [show sg a = false from decide_eq_false ha0, show sg b = false from decide_eq_false hb0]
    simp only [bne_self_eq_false, Bool.false_eq_true, if_false]
    rw [eb, ea] at f1'
    generalize dq false a.natAbs b.natAbs = qf at *
    generalize dr false a.natAbs b.natAbs = rf at *
    generalize (qf : Int) * b = p at *
    clear t1 t1' t2 f1
    omega
theorem div_one {a b q r q' r' : Int} (h1 : q * b + r = a) (h2 : q' * b + r' = a) (hr : (0 < b → 0 ≤ r ∧ r < b) ∧ (b < 0 → b < r ∧ r ≤ 0)) (hr' : (0 < b → 0 ≤ r' ∧ r' < b) ∧ (b < 0 → b < r' ∧ r' ≤ 0)) (hb : b ≠ 0) : q = q' ∧ r = r' := by
  have h3 : (q - q') * b = r' - r := by rw [Int.sub_mul]; omega
  have h4 : q - q' = 0 := by
    rcases Int.lt_trichotomy (q - q') 0 with h | h | h
    · exfalso
      rcases Int.lt_or_lt_of_ne hb with hb0 | hb0
      · have h5 : -1 * b ≤ (q - q') * b := Int.mul_le_mul_of_nonpos_right (by omega) (by omega)
        have := hr.2 hb0; have := hr'.2 hb0; omega
      · have h5 : (q - q') * b ≤ -1 * b := Int.mul_le_mul_of_nonneg_right (by omega) (by omega)
        have := hr.1 hb0; have := hr'.1 hb0; omega
    · exact h
    · exfalso
      rcases Int.lt_or_lt_of_ne hb with hb0 | hb0
      · have h5 : (q - q') * b ≤ 1 * b := Int.mul_le_mul_of_nonpos_right (by omega) (by omega)
        have := hr.2 hb0; have := hr'.2 hb0; omega
      · have h5 : 1 * b ≤ (q - q') * b := Int.mul_le_mul_of_nonneg_right (by omega) (by omega)
        have := hr.1 hb0; have := hr'.1 hb0; omega
  rw [h4] at h3
  omega
/-- The machine's quotient, rounded down. -/
theorem qD_mach {a b : Int} (h : b ≠ 0) :
    qD a b = (if a.tmod b ≠ 0 ∧ (decide (a.tmod b < 0) != decide (b < 0)) = true then a.tdiv b - 1 else a.tdiv b) ∧
    rD a b = (if a.tmod b ≠ 0 ∧ (decide (a.tmod b < 0) != decide (b < 0)) = true then a.tmod b + b else a.tmod b) := by
  obtain ⟨s1, s2, s3⟩ := qD_spec (a := a) h
  have e := Int.mul_tdiv_add_tmod a b
  have hl : (a.tmod b).natAbs < b.natAbs := by
    have := Int.natAbs_tmod a b
    rw [this]
    exact Nat.mod_lt _ (by omega)
  rw [Int.mul_comm] at e
  split
  · rename_i hc
    obtain ⟨c1, c2⟩ := hc
    refine div_one (a := a) (b := b) s1 ?_ ⟨s2, s3⟩ ?_ h
    · rw [Int.sub_mul, Int.one_mul]; omega
    · by_cases hx : a.tmod b < 0 <;> by_cases hy : b < 0 <;> simp [hx, hy] at c2 <;> constructor <;> intro h9 <;> omega
  · rename_i hc
    refine div_one (a := a) (b := b) s1 e ⟨s2, s3⟩ ?_ h
    by_cases hz : a.tmod b = 0
    · rw [hz]; constructor <;> intro h9 <;> omega
    · by_cases hx : a.tmod b < 0 <;> by_cases hy : b < 0 <;> simp [hx, hy, hz] at hc <;> constructor <;> intro h9 <;> omega
end Go.Proofs.YtfcdekkoeeaolaaGreatDoor

namespace Go.Proofs.YtfcdekkoeeaolaaGreatDoor
open Go.RowKit

theorem ediv_eq {v1 v2 : Value} {z1 z2 q r : Int} {k1 k2 : Nat} {w : World} (h1 : IsInt v1 z1 k1) (h2 : IsInt v2 z2 k2) (h0 : z2 ≠ 0) (eq : qD z1 z2 = q) (er : rD z1 z2 = r) :
    Calls Tryz.prog 16 #[v1, v2] w fun e w' => e = .returned (.tuple #[.agg #[.bool (sg q), .string (mg q)], .agg #[.bool (sg r), .string (mg r)], .int .i64 0]) ∧ Below w.heap.size w w' := eq ▸ er ▸ idiv_all v1 v2 z1 z2 k1 k2 w h1 h2 h0
theorem cmpZ_ge' {a b : Int} (h : b ≤ a) : 0 ≤ cmpZ a b := by unfold cmpZ; split <;> (try split) <;> omega
theorem qD_bd {a b q : Int} {k : Nat} (h : a.natAbs < 4294967296 ^ k) (e : qD a b = q) : q.natAbs < 4294967296 ^ (k + 1) := by
  have h1 : ∀ s, dq s a.natAbs b.natAbs < 4294967296 ^ (k + 1) := fun s => dq_lt s _ h
  rw [← e]
  unfold qD
  split
  · rw [Int.natAbs_neg, Int.natAbs_natCast]; exact h1 _
  · rw [Int.natAbs_natCast]; exact h1 _
theorem ezero_eq {v1 v2 : Value} {z1 z2 : Int} {k1 k2 : Nat} {w : World} (h1 : IsInt v1 z1 k1) (h2 : IsInt v2 z2 k2) (h0 : z2 = 0) :
    Calls Tryz.prog 16 #[v1, v2] w fun e w' => e = .returned (.tuple #[.agg #[.bool false, .string ⟨#[]⟩], .agg #[.bool false, .string ⟨#[]⟩], .int .i64 9]) ∧ Below w.heap.size w w' := idiv_zero v1 v2 z1 k1 k2 w h1 (h0 ▸ h2)

theorem qD_exact {n g : Int} (hg : 0 < g) (hd : g ∣ n) : qD n g = n / g ∧ rD n g = 0 := by
  obtain ⟨s1, s2, s3⟩ := qD_spec (a := n) (b := g) (by omega)
  refine div_one s1 (by rw [Int.ediv_mul_cancel hd]; omega) ⟨s2, s3⟩ ⟨fun _ => by omega, fun _ => by omega⟩ (by omega)
theorem gcd_eq {v1 v2 : Value} {z1 z2 g : Int} {k1 k2 : Nat} {w : World} (h1 : IsInt v1 z1 k1) (h2 : IsInt v2 z2 k2) (e : ((Nat.gcd z1.natAbs z2.natAbs : Nat) : Int) = g) :
    Calls Tryz.prog 22 #[v1, v2] w (IntOut w g) := e ▸ gcd_any v1 v2 z1 z2 k1 k2 w h1 h2
theorem gcd_bd {a b g : Int} {k : Nat} (ha : a.natAbs < 4294967296 ^ k) (hb : b.natAbs < 4294967296 ^ k) (e : ((Nat.gcd a.natAbs b.natAbs : Nat) : Int) = g) : g.natAbs < 4294967296 ^ k := by
  rw [← e, Int.natAbs_natCast]
  by_cases h0 : a.natAbs = 0
  · rw [h0, Nat.gcd_zero_left]; exact hb
  · exact Nat.lt_of_le_of_lt (Nat.gcd_le_left _ (Nat.pos_of_ne_zero h0)) ha
end Go.Proofs.YtfcdekkoeeaolaaGreatDoor
