/- Words for the laws on integers: their sizes, and integers in cells. No condition. Plain facts on quotients that are rounded down: there is one alone. No condition. What integer.Div returns for the divisor 0. -/
import Derived.Test.YtgcogpfmhmmgdaaGreatDoorQ14
import Derived.Test.YtgcogpfmhmmgdaaGreatDoorQ09
import Derived.Lib.Hide
import Derived.Test.YtgcogpfmhmmgdaaGreatDoorQ15
import Derived.Test.YtgcogpfmhmmgdaaGreatDoorQ16
import Derived.Test.YtgcogpfmhmmgdaaGreatDoorQ18
import Derived.Deep.DeepCutAuto
import Derived.Test.YtgcogpfmhmmgdaaGreatDoorQ12
import Derived.Test.YtgcogpfmhmmgdaaGreatDoorQ08
import Derived.Deep.RegionHeld3

namespace Go.Proofs.YtgcogpfmhmmgdaaGreatDoor
open Go.RowKit

theorem bd_add {a b : Int} {k1 k2 : Nat} (h1 : a.natAbs < 4294967296 ^ k1) (h2 : b.natAbs < 4294967296 ^ k2) : (a + b).natAbs < 4294967296 ^ (k1 + k2 + 1) :=
  Nat.lt_of_le_of_lt (Int.natAbs_add_le a b) (sum_bound h1 h2)
theorem bd_neg {a : Int} {k1 : Nat} (h1 : a.natAbs < 4294967296 ^ k1) : (-a).natAbs < 4294967296 ^ k1 := by rw [Int.natAbs_neg]; exact h1
theorem bd_sub {a b : Int} {k1 k2 : Nat} (h1 : a.natAbs < 4294967296 ^ k1) (h2 : b.natAbs < 4294967296 ^ k2) : (a - b).natAbs < 4294967296 ^ (k1 + k2 + 1) := by
  rw [sub_eq]; exact bd_add h1 (bd_neg h2)
theorem bd_mul {a b : Int} {k1 k2 : Nat} (h1 : a.natAbs < 4294967296 ^ k1) (h2 : b.natAbs < 4294967296 ^ k2) : (a * b).natAbs < 4294967296 ^ (k1 + k2) := by
  rw [Int.natAbs_mul]; exact prod_bound h1 h2
theorem bd_zero : (0 : Int).natAbs < 4294967296 ^ 1 := by decide
/-- An argument of at most 60 bytes. -/
theorem bd_arg (ng : Bool) (s : ByteArray) (h : s.size ≤ 60) : (zv ng s).natAbs < 4294967296 ^ 15 := by
  rw [natAbs_zv]
  have h1 := vB_lt s.data.toList
  have h2 : (256 : Nat) ^ s.data.toList.length ≤ 256 ^ 60 := Nat.pow_le_pow_right (by omega) (by rw [Array.length_toList]; exact h)
  have h3 : (256 : Nat) ^ 60 = 4294967296 ^ 15 := by rw [b256]
  omega
theorem arg_int (ng : Bool) (s : ByteArray) (h : s.size ≤ 60) : IsInt (.agg #[.bool ng, .string s]) (zv ng s) 15 :=
  ⟨ng, s, rfl, rfl, by omega, bd_arg ng s h, by omega⟩
theorem zero_int : IsInt (.agg #[.bool false, .string ⟨#[]⟩]) 0 1 := ⟨false, ⟨#[]⟩, rfl, by rfl, by decide, by decide, by omega⟩
theorem sg_zero : sg 0 = false := by decide
theorem mg_zero : mg 0 = ⟨#[]⟩ := by
  unfold mg
  rw [show (0 : Int).natAbs = 0 by rfl, bytesOf_zero]
theorem bcell_block {Wp W1 : World} {b : Nat} (hb : Below Wp.heap.size Wp W1) (h : b < Wp.heap.size) : W1.heap[b]? = Wp.heap[b]? := hb.block b h
theorem check_canon (z : Int) : checkN (sg z) (mg z) = 0 := by
  unfold checkN
  rw [zv_mg, if_pos ⟨rfl, rfl⟩]

/-- Two integers are stored side by side. -/
theorem pair_set {W : World} {p q : Nat} {z1 z2 : Int} {u1 u2 u3 u4 : Value} (hne : p ≠ q) (h1 : W.cell? ⟨p, 0, none⟩ = some u1) (h2 : W.cell? ⟨p, 1, none⟩ = some u2) (h3 : W.cell? ⟨q, 0, none⟩ = some u3) (h4 : W.cell? ⟨q, 1, none⟩ = some u4) :
    IntAt ((((W.setCell ⟨p, 0, none⟩ (.bool (sg z1))).setCell ⟨p, 1, none⟩ (.string (mg z1))).setCell ⟨q, 0, none⟩ (.bool (sg z2))).setCell ⟨q, 1, none⟩ (.string (mg z2))) p z1 ∧
    IntAt ((((W.setCell ⟨p, 0, none⟩ (.bool (sg z1))).setCell ⟨p, 1, none⟩ (.string (mg z1))).setCell ⟨q, 0, none⟩ (.bool (sg z2))).setCell ⟨q, 1, none⟩ (.string (mg z2))) q z2 := by
  have h := two_set (z1 := z1) (z2 := z2) hne h1 h2 h3 h4
  exact ⟨⟨h.1, h.2.1⟩, ⟨h.2.2.1, h.2.2.2⟩⟩

/-- The contracts, with a name for what comes out. -/
theorem iadd_eq {v1 v2 : Value} {z1 z2 z : Int} {k1 k2 : Nat} {w : World} (h1 : IsInt v1 z1 k1) (h2 : IsInt v2 z2 k2) (e : z1 + z2 = z) : Calls Tryz.prog 37 #[v1, v2] w (IntOut w z) := e ▸ iadd_any v1 v2 z1 z2 k1 k2 w h1 h2
theorem isub_eq {v1 v2 : Value} {z1 z2 z : Int} {k1 k2 : Nat} {w : World} (h1 : IsInt v1 z1 k1) (h2 : IsInt v2 z2 k2) (e : z1 - z2 = z) : Calls Tryz.prog 39 #[v1, v2] w (IntOut w z) := e ▸ isub_any v1 v2 z1 z2 k1 k2 w h1 h2
theorem imul_eq {v1 v2 : Value} {z1 z2 z : Int} {k1 k2 : Nat} {w : World} (h1 : IsInt v1 z1 k1) (h2 : IsInt v2 z2 k2) (e : z1 * z2 = z) : Calls Tryz.prog 42 #[v1, v2] w (IntOut w z) := e ▸ imul_any v1 v2 z1 z2 k1 k2 w h1 h2
theorem ineg_eq {v1 : Value} {z1 z : Int} {k1 : Nat} {w : World} (h1 : IsInt v1 z1 k1) (e : -z1 = z) : Calls Tryz.prog 48 #[v1] w (IntOut w z) := e ▸ ineg_any v1 z1 k1 w h1
theorem icmp_eq {v1 v2 : Value} {z1 z2 n : Int} {k1 k2 : Nat} {w : World} (h1 : IsInt v1 z1 k1) (h2 : IsInt v2 z2 k2) (e : cmpZ z1 z2 = n) : Calls Tryz.prog 84 #[v1, v2] w fun e w' => e = .returned (.int .i64 n) ∧ Below w.heap.size w w' := e ▸ icmp_any v1 v2 z1 z2 k1 k2 w h1 h2
theorem db_add {a b z : Int} {k1 k2 : Nat} (h1 : a.natAbs < 4294967296 ^ k1) (h2 : b.natAbs < 4294967296 ^ k2) (e : a + b = z) : z.natAbs < 4294967296 ^ (k1 + k2 + 1) := e ▸ bd_add h1 h2
theorem db_sub {a b z : Int} {k1 k2 : Nat} (h1 : a.natAbs < 4294967296 ^ k1) (h2 : b.natAbs < 4294967296 ^ k2) (e : a - b = z) : z.natAbs < 4294967296 ^ (k1 + k2 + 1) := e ▸ bd_sub h1 h2
theorem db_mul {a b z : Int} {k1 k2 : Nat} (h1 : a.natAbs < 4294967296 ^ k1) (h2 : b.natAbs < 4294967296 ^ k2) (e : a * b = z) : z.natAbs < 4294967296 ^ (k1 + k2) := e ▸ bd_mul h1 h2
theorem db_neg {a z : Int} {k1 : Nat} (h1 : a.natAbs < 4294967296 ^ k1) (e : -a = z) : z.natAbs < 4294967296 ^ k1 := e ▸ bd_neg h1
theorem cmpZ_self (z : Int) : cmpZ z z = 0 := by simp [cmpZ]

/-- Whether one of three integers is great. -/
def three (sa sb sc : ByteArray) : Nat → ByteArray := fun i => if i = 0 then sa else if i = 1 then sb else sc
def threeB (na nb nc : Bool) : Nat → Bool := fun i => if i = 0 then na else if i = 1 then nb else nc
end Go.Proofs.YtgcogpfmhmmgdaaGreatDoor

namespace Go.Proofs.YtgcogpfmhmmgdaaGreatDoor
open Go.RowKit

theorem dq_true {N M : Nat} (h : M ≠ 0) : dq true N M * M = N + dr true N M ∧ dr true N M < M := by
  have h1 := Nat.div_add_mod N M
  have h2 := Nat.mod_lt N (show M > 0 by omega)
  unfold dq dr
  by_cases h0 : N % M = 0
  · rw [if_neg (by simp [h0]), if_neg (by simp [h0]), Nat.mul_comm]; omega
  · rw [if_pos ⟨rfl, h0⟩, if_pos ⟨rfl, h0⟩, Nat.add_mul, Nat.one_mul, Nat.mul_comm]; omega
theorem dq_false {N M : Nat} (h : M ≠ 0) : dq false N M * M + dr false N M = N ∧ dr false N M < M := by
  have h1 := Nat.div_add_mod N M
  have h2 := Nat.mod_lt N (show M > 0 by omega)
  unfold dq dr
  rw [if_neg (by simp), if_neg (by simp), Nat.mul_comm]; omega
/-- The quotient and the rest. -/
theorem qD_spec {a b : Int} (h : b ≠ 0) : qD a b * b + rD a b = a ∧ (0 < b → 0 ≤ rD a b ∧ rD a b < b) ∧ (b < 0 → b < rD a b ∧ rD a b ≤ 0) := by
  have hb : b.natAbs ≠ 0 := by omega
  obtain ⟨t1, t2⟩ := dq_true (N := a.natAbs) hb
  obtain ⟨f1, f2⟩ := dq_false (N := a.natAbs) hb
  have t1' : ((dq true a.natAbs b.natAbs : Nat) : Int) * (b.natAbs : Int) = (a.natAbs : Int) + ((dr true a.natAbs b.natAbs : Nat) : Int) := by exact_mod_cast t1
  have f1' : ((dq false a.natAbs b.natAbs : Nat) : Int) * (b.natAbs : Int) + ((dr false a.natAbs b.natAbs : Nat) : Int) = (a.natAbs : Int) := by exact_mod_cast f1
  unfold qD rD
  by_cases ha0 : a < 0 <;> by_cases hb0 : b < 0
  · have eb : (b.natAbs : Int) = -b := by omega
    have ea : (a.natAbs : Int) = -a := by omega
    rw [show sg a = true from decide_eq_true ha0, show sg b = true from decide_eq_true hb0]
    simp only [bne_self_eq_false, Bool.false_eq_true, if_false, if_true]
    rw [eb, ea, Int.mul_neg] at f1'
    generalize dq false a.natAbs b.natAbs = qf at *
    generalize dr false a.natAbs b.natAbs = rf at *
    generalize (qf : Int) * b = p at *
    clear t1 t1' t2 f1
    omega
  · have eb : (b.natAbs : Int) = b := by omega
    have ea : (a.natAbs : Int) = -a := by omega
    rw [show sg a = true from decide_eq_true ha0, show sg b = false from decide_eq_false hb0]
    simp only [Bool.true_bne, Bool.not_false, if_true, Bool.false_eq_true, if_false]
    rw [eb, ea] at t1'
    rw [Int.neg_mul]
    generalize dq true a.natAbs b.natAbs = qf at *
    generalize dr true a.natAbs b.natAbs = rf at *
    generalize (qf : Int) * b = p at *
    clear f1 f1' f2 t1
    omega
  · have eb : (b.natAbs : Int) = -b := by omega
    have ea : (a.natAbs : Int) = a := by omega
    rw [show sg a = false from decide_eq_false ha0, show sg b = true from decide_eq_true hb0]
    simp only [Bool.false_bne, if_true]
    rw [eb, ea, Int.mul_neg] at t1'
    rw [Int.neg_mul]
    generalize dq true a.natAbs b.natAbs = qf at *
    generalize dr true a.natAbs b.natAbs = rf at *
    generalize (qf : Int) * b = p at *
    clear f1 f1' f2 t1
    omega
  · have eb : (b.natAbs : Int) = b := by omega
    have ea : (a.natAbs : Int) = a := by omega
    rw [show sg a = false from decide_eq_false ha0, show sg b = false from decide_eq_false hb0]
    simp only [bne_self_eq_false, Bool.false_eq_true, if_false]
    rw [eb, ea] at f1'
    generalize dq false a.natAbs b.natAbs = qf at *
    generalize dr false a.natAbs b.natAbs = rf at *
    generalize (qf : Int) * b = p at *
    clear t1 t1' t2 f1
    omega
theorem div_one {a b q r q' r' : Int} (h1 : q * b + r = a) (h2 : q' * b + r' = a) (hr : (0 < b → 0 ≤ r ∧ r < b) ∧ (b < 0 → b < r ∧ r ≤ 0)) (hr' : (0 < b → 0 ≤ r' ∧ r' < b) ∧ (b < 0 → b < r' ∧ r' ≤ 0)) (hb : b ≠ 0) : q = q' ∧ r = r' := by
  have h3 : (q - q') * b = r' - r := by rw [Int.sub_mul]; omega
  have h4 : q - q' = 0 := by
    rcases Int.lt_trichotomy (q - q') 0 with h | h | h
    · exfalso
      rcases Int.lt_or_lt_of_ne hb with hb0 | hb0
      · have h5 : -1 * b ≤ (q - q') * b := Int.mul_le_mul_of_nonpos_right (by omega) (by omega)
        have := hr.2 hb0; have := hr'.2 hb0; omega
      · have h5 : (q - q') * b ≤ -1 * b := Int.mul_le_mul_of_nonneg_right (by omega) (by omega)
        have := hr.1 hb0; have := hr'.1 hb0; omega
    · exact h
    · exfalso
      rcases Int.lt_or_lt_of_ne hb with hb0 | hb0
      · have h5 : (q - q') * b ≤ 1 * b := Int.mul_le_mul_of_nonpos_right (by omega) (by omega)
        have := hr.2 hb0; have := hr'.2 hb0; omega
      · have h5 : 1 * b ≤ (q - q') * b := Int.mul_le_mul_of_nonneg_right (by omega) (by omega)
        have := hr.1 hb0; have := hr'.1 hb0; omega
  rw [h4] at h3
  omega
/-- The machine's quotient, rounded down. -/
theorem qD_mach {a b : Int} (h : b ≠ 0) :
    qD a b = (if a.tmod b ≠ 0 ∧ (decide (a.tmod b < 0) != decide (b < 0)) = true then a.tdiv b - 1 else a.tdiv b) ∧
    rD a b = (if a.tmod b ≠ 0 ∧ (decide (a.tmod b < 0) != decide (b < 0)) = true then a.tmod b + b else a.tmod b) := by
  obtain ⟨s1, s2, s3⟩ := qD_spec (a := a) h
  have e := Int.mul_tdiv_add_tmod a b
  have hl : (a.tmod b).natAbs < b.natAbs := by
    have := Int.natAbs_tmod a b
    rw [this]
    exact Nat.mod_lt _ (by omega)
  rw [Int.mul_comm] at e
  split
  · rename_i hc
    obtain ⟨c1, c2⟩ := hc
    refine div_one (a := a) (b := b) s1 ?_ ⟨s2, s3⟩ ?_ h
    · rw [Int.sub_mul, Int.one_mul]; omega
    · by_cases hx : a.tmod b < 0 <;> by_cases hy : b < 0 <;> simp [hx, hy] at c2 <;> constructor <;> intro h9 <;> omega
  · rename_i hc
    refine div_one (a := a) (b := b) s1 e ⟨s2, s3⟩ ?_ h
    by_cases hz : a.tmod b = 0
    · rw [hz]; constructor <;> intro h9 <;> omega
    · by_cases hx : a.tmod b < 0 <;> by_cases hy : b < 0 <;> simp [hx, hy, hz] at hc <;> constructor <;> intro h9 <;> omega
end Go.Proofs.YtgcogpfmhmmgdaaGreatDoor

namespace Go.Proofs.YtgcogpfmhmmgdaaGreatDoor
open Go.RowKit

set_option maxRecDepth 100000 in
set_option maxHeartbeats 3200000 in
theorem idiv_zero (v1 v2 : Value) (z1 : Int) (k1 k2 : Nat) (w : World) (h1 : IsInt v1 z1 k1) (h2 : IsInt v2 0 k2) :
    Calls Tryz.prog 90 #[v1, v2] w fun e w' => e = .returned (.tuple #[.agg #[.bool false, .string ⟨#[]⟩], .agg #[.bool false, .string ⟨#[]⟩], .int .i64 9]) ∧ Below w.heap.size w w' := by
  obtain ⟨na, sa, rfl, hz1, hs1, hk1, hkk1⟩ := h1
  obtain ⟨nb, sb, rfl, hz2, hs2, hk2, hkk2⟩ := h2
  have HM : Hid (vB sb.data.toList = 0) := by show _ = _; rw [← natAbs_zv nb sb, hz2]; rfl
  clear hz1 hz2 hk1 hk2
  have S00 := boxes2 w 27 na nb sa sb
  have hb := (below3 w (.cells #[.bool na, .string sa] 27) (.cells #[.bool nb, .string sb] 27) (.cells #[.bool false, .string ⟨#[]⟩] 27)).alloc (by rw [World.size_alloc, World.size_alloc, World.size_alloc]; omega) (.cells #[.bool false, .string ⟨#[]⟩] 27)
  have r5 := (ResCell.new ((w.alloc (.cells #[.bool na, .string sa] 27)).alloc (.cells #[.bool nb, .string sb] 27)) 27).keep (below1 _ (.cells #[.bool false, .string ⟨#[]⟩] 27))
  have r6 := ResCell.new (((w.alloc (.cells #[.bool na, .string sa] 27)).alloc (.cells #[.bool nb, .string sb] 27)).alloc (.cells #[.bool false, .string ⟨#[]⟩] 27)) 27
  rw [World.size_alloc, World.size_alloc] at r5
  rw [World.size_alloc, World.size_alloc, World.size_alloc] at r6
  have e5 : w.heap.size + 1 + 1 ≠ w.heap.size + 1 + 1 + 1 := by omega
  have e6 : w.heap.size + 1 + 1 + 1 ≠ w.heap.size + 1 + 1 := by omega
  go_enter Tryz.func90, Tryz.ntmps90
  go_upto_region 1 with fail
  go_region_held3 (fun W => W.cell? ⟨w.heap.size, 0, none⟩ = some (.bool na) ∧ W.cell? ⟨w.heap.size, 1, none⟩ = some (.string sa) ∧ W.cell? ⟨w.heap.size + 1, 0, none⟩ = some (.bool nb) ∧ W.cell? ⟨w.heap.size + 1, 1, none⟩ = some (.string sb)) (first | exact keep4 (by assumption) (by assumption) | exact keep4aa S00 | go_keep)
    (first
      | (go_at_call_of 73 (Value.agg #[Value.bool na, Value.string sa]); refine (magnitude_any na sa _ (by omega)).mono ?_; rintro e W1 ⟨A1, n1, c1, rfl, i1, b1⟩)
      | (go_at_call_of 73 (Value.agg #[Value.bool nb, Value.string sb]); refine (magnitude_any nb sb _ (by omega)).mono ?_; rintro e W2 ⟨A2, n2, c2, rfl, i2, b2⟩; rw [HM.out] at i2; obtain rfl := (nat_none i2).2 rfl; obtain ⟨r1, r2, r3, r4⟩ := (r5.drew.keep b1).keep b2; obtain ⟨q1, q2, q3, q4⟩ := (r6.drew.keep b1).keep b2))
  all_goals
    go_wp2
    exact bodyPost_ret (v := .tuple #[.agg #[.bool false, .string ⟨#[]⟩], .agg #[.bool false, .string ⟨#[]⟩], .int .i64 9]) (by simp [results, Tryz.results90, go_sem, r1, r2, q1, q2]) rfl ⟨rfl, below_more2 (below_more2 (below_more hb.drew (Nat.le_refl _) b1) (Nat.le_refl _) b2 (by show w.heap.size ≤ w.heap.size + 1 + 1; omega) (by show w.heap.size ≤ w.heap.size + 1 + 1; omega)) (Nat.le_refl _) (Below.refl _ _) (by show w.heap.size ≤ w.heap.size + 1 + 1 + 1; omega) (by show w.heap.size ≤ w.heap.size + 1 + 1 + 1; omega)⟩
end Go.Proofs.YtgcogpfmhmmgdaaGreatDoor
