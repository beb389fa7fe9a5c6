/- What integer.Mul returns: the product. Condition: at most 10000000 digits each. What integer.Neg returns: the opposite. No condition but the sizes. Words for the laws on integers: their sizes, and integers in cells. No condition. -/
import Derived.Test.YtcljkdninmldiaaGreatDoorQ07
import Derived.Deep.RegionHeld3
import Derived.Deep.DeepCutAuto
import Derived.Test.YtcljkdninmldiaaGreatDoorQ25
import Derived.Test.YtcljkdninmldiaaGreatDoorQ12
import Derived.Test.YtcljkdninmldiaaGreatDoorQ09
import Derived.Lib.Hide
import Derived.Test.YtcljkdninmldiaaGreatDoorQ26
import Derived.Test.YtcljkdninmldiaaGreatDoorQ08

namespace Go.Proofs.YtcljkdninmldiaaGreatDoor
open Go.RowKit

set_option maxRecDepth 100000 in
set_option maxHeartbeats 3200000 in
theorem imul_any (v1 v2 : Value) (z1 z2 : Int) (k1 k2 : Nat) (w : World) (h1 : IsInt v1 z1 k1) (h2 : IsInt v2 z2 k2) :
    Calls Tryz.prog 54 #[v1, v2] w (IntOut w (z1 * z2)) := by
  obtain ⟨na, sa, rfl, hz1, hs1, hk1, hkk1⟩ := h1
  obtain ⟨nb, sb, rfl, hz2, hs2, hk2, hkk2⟩ := h2
  have g1 : vB sa.data.toList < 4294967296 ^ k1 := by rw [← natAbs_zv na sa, hz1]; exact hk1
  have g2 : vB sb.data.toList < 4294967296 ^ k2 := by rw [← natAbs_zv nb sb, hz2]; exact hk2
  have G1 : Hid (vB sa.data.toList < 4294967296 ^ k1) := g1
  have G2 : Hid (vB sb.data.toList < 4294967296 ^ k2) := g2
  have G3 : Hid (vB sa.data.toList * vB sb.data.toList < 4294967296 ^ (k1 + k2)) := prod_bound g1 g2
  have Hs : Hid (z1 * z2 = if (na != nb) then -((vB sa.data.toList * vB sb.data.toList : Nat) : Int) else ((vB sa.data.toList * vB sb.data.toList : Nat) : Int)) := by rw [← hz1, ← hz2]; exact zv_mul na nb sa sb
  clear hz1 hz2 hk1 hk2 g1 g2
  have hr := (ResCell.new ((w.alloc (.cells #[.bool na, .string sa] 23)).alloc (.cells #[.bool nb, .string sb] 23)) 23).drew
  rw [World.size_alloc, World.size_alloc] at hr
  have hb := below3 w (.cells #[.bool na, .string sa] 23) (.cells #[.bool nb, .string sb] 23) (.cells #[.bool false, .string ⟨#[]⟩] 23)
  have e1 : w.heap.size + 1 + 1 ≠ w.heap.size := by omega
  go_enter Tryz.func54, Tryz.ntmps54
  go_upto_region 1 with fail
  go_region_held3 (fun W => W.cell? ⟨w.heap.size, 0, none⟩ = some (.bool na) ∧ W.cell? ⟨w.heap.size, 1, none⟩ = some (.string sa) ∧ W.cell? ⟨w.heap.size + 1, 0, none⟩ = some (.bool nb) ∧ W.cell? ⟨w.heap.size + 1, 1, none⟩ = some (.string sb)) (first | exact keep4 (by assumption) (by assumption) | go_keep)
    (first
      | (go_at_call_of 48 (Value.agg #[Value.bool na, Value.string sa]); refine (magnitude_any na sa _ (by omega)).mono ?_; rintro e W1 ⟨A1, n1, c1, rfl, i1, b1⟩; have l1 := i1.len G1.out)
      | (go_at_call_of 48 (Value.agg #[Value.bool nb, Value.string sb]); refine (magnitude_any nb sb _ (by omega)).mono ?_; rintro e W2 ⟨A2, n2, c2, rfl, i2, b2⟩; have l2 := i2.len G2.out)
      | (go_at_call 84; refine (mul_any A1 A2 n1 n2 c1 c2 _ _ _ (i1.below (Nat.le_refl _) b2) i2 (by omega) (by omega)).mono ?_; rintro e W3 ⟨A3, n3, c3, rfl, i3, b3⟩; have l3 := i3.len G3.out)
      | (go_at_call 43; refine (signed_any (na != nb) A3 n3 c3 _ _ i3 (by omega)).mono ?_; rintro e W4 ⟨rfl, b4⟩; obtain ⟨r1, r2, r3, r4⟩ := (((hr.keep b1).keep b2).keep b3).keep b4; rw [ivN_eq (na != nb) _ (z1 * z2) Hs.out]))
  all_goals
    go_wp2
    exact bodyPost_ret (v := .agg #[.bool (sg (z1 * z2)), .string (mg (z1 * z2))]) (by simp [results, Tryz.results54, go_sem, r1, r2]) rfl ⟨rfl, below_more2 (below_more (below_more (below_more hb.drew (Nat.le_refl _) b1) (Nat.le_refl _) b2) (Nat.le_refl _) b3) (Nat.le_refl _) b4 (by show w.heap.size ≤ w.heap.size + 1 + 1; omega) (by show w.heap.size ≤ w.heap.size + 1 + 1; omega)⟩
end Go.Proofs.YtcljkdninmldiaaGreatDoor

namespace Go.Proofs.YtcljkdninmldiaaGreatDoor
open Go.RowKit

set_option maxRecDepth 100000 in
set_option maxHeartbeats 800000 in
theorem ineg_any (v1 : Value) (z1 : Int) (k1 : Nat) (w : World) (h1 : IsInt v1 z1 k1) :
    Calls Tryz.prog 55 #[v1] w (IntOut w (-z1)) := by
  obtain ⟨na, sa, rfl, hz1, hs1, hk1, hkk1⟩ := h1
  have Hz1 : Hid (zv (!na) sa = -z1) := by rw [← hz1]; exact zv_neg na sa
  clear hz1 hk1
  have hr := ResCell.new (w.alloc (.cells #[.bool na, .string sa] 23)) 23
  rw [World.size_alloc] at hr
  have hb := below2 w (.cells #[.bool na, .string sa] 23) (.cells #[.bool false, .string ⟨#[]⟩] 23)
  go_enter Tryz.func55, Tryz.ntmps55
  go_wp2_with fail
  refine (can_any (!na) sa _).mono ?_
  rintro e W1 ⟨rfl, b1⟩
  rw [Hz1.out]
  obtain ⟨r1, r2, r3, r4⟩ := hr.keep b1
  go_wp2
  exact bodyPost_ret (v := .agg #[.bool (sg (-z1)), .string (mg (-z1))]) (by simp [results, Tryz.results55, go_sem, r1, r2]) rfl ⟨rfl, below_more2 hb (Nat.le_refl _) b1 (by show w.heap.size ≤ w.heap.size + 1; omega) (by show w.heap.size ≤ w.heap.size + 1; omega)⟩
end Go.Proofs.YtcljkdninmldiaaGreatDoor

namespace Go.Proofs.YtcljkdninmldiaaGreatDoor
open Go.RowKit

theorem sub_eq (a b : Int) : a - b = a + -b := by omega
theorem bd_add {a b : Int} {k1 k2 : Nat} (h1 : a.natAbs < 4294967296 ^ k1) (h2 : b.natAbs < 4294967296 ^ k2) : (a + b).natAbs < 4294967296 ^ (k1 + k2 + 1) :=
  Nat.lt_of_le_of_lt (Int.natAbs_add_le a b) (sum_bound h1 h2)
theorem bd_neg {a : Int} {k1 : Nat} (h1 : a.natAbs < 4294967296 ^ k1) : (-a).natAbs < 4294967296 ^ k1 := by rw [Int.natAbs_neg]; exact h1
theorem bd_sub {a b : Int} {k1 k2 : Nat} (h1 : a.natAbs < 4294967296 ^ k1) (h2 : b.natAbs < 4294967296 ^ k2) : (a - b).natAbs < 4294967296 ^ (k1 + k2 + 1) := by
  rw [sub_eq]; exact bd_add h1 (bd_neg h2)
theorem bd_mul {a b : Int} {k1 k2 : Nat} (h1 : a.natAbs < 4294967296 ^ k1) (h2 : b.natAbs < 4294967296 ^ k2) : (a * b).natAbs < 4294967296 ^ (k1 + k2) := by
  rw [Int.natAbs_mul]; exact prod_bound h1 h2
theorem bd_zero : (0 : Int).natAbs < 4294967296 ^ 1 := by decide
/-- An argument of at most 60 bytes. -/
theorem bd_arg (ng : Bool) (s : ByteArray) (h : s.size ≤ 60) : (zv ng s).natAbs < 4294967296 ^ 15 := by
  rw [natAbs_zv]
  have h1 := vB_lt s.data.toList
  have h2 : (256 : Nat) ^ s.data.toList.length ≤ 256 ^ 60 := Nat.pow_le_pow_right (by omega) (by rw [Array.length_toList]; exact h)
  have h3 : (256 : Nat) ^ 60 = 4294967296 ^ 15 := by rw [b256]
  omega
theorem arg_int (ng : Bool) (s : ByteArray) (h : s.size ≤ 60) : IsInt (.agg #[.bool ng, .string s]) (zv ng s) 15 :=
  ⟨ng, s, rfl, rfl, by omega, bd_arg ng s h, by omega⟩
theorem zero_int : IsInt (.agg #[.bool false, .string ⟨#[]⟩]) 0 1 := ⟨false, ⟨#[]⟩, rfl, by rfl, by decide, by decide, by omega⟩
theorem sg_zero : sg 0 = false := by decide
theorem mg_zero : mg 0 = ⟨#[]⟩ := by
  unfold mg
  rw [show (0 : Int).natAbs = 0 by rfl, bytesOf_zero]
theorem bcell_block {Wp W1 : World} {b : Nat} (hb : Below Wp.heap.size Wp W1) (h : b < Wp.heap.size) : W1.heap[b]? = Wp.heap[b]? := hb.block b h
theorem check_canon (z : Int) : checkN (sg z) (mg z) = 0 := by
  unfold checkN
  rw [zv_mg, if_pos ⟨rfl, rfl⟩]

/-- Two integers are stored side by side. -/
theorem pair_set {W : World} {p q : Nat} {z1 z2 : Int} {u1 u2 u3 u4 : Value} (hne : p ≠ q) (h1 : W.cell? ⟨p, 0, none⟩ = some u1) (h2 : W.cell? ⟨p, 1, none⟩ = some u2) (h3 : W.cell? ⟨q, 0, none⟩ = some u3) (h4 : W.cell? ⟨q, 1, none⟩ = some u4) :
    IntAt ((((W.setCell ⟨p, 0, none⟩ (.bool (sg z1))).setCell ⟨p, 1, none⟩ (.string (mg z1))).setCell ⟨q, 0, none⟩ (.bool (sg z2))).setCell ⟨q, 1, none⟩ (.string (mg z2))) p z1 ∧
    IntAt ((((W.setCell ⟨p, 0, none⟩ (.bool (sg z1))).setCell ⟨p, 1, none⟩ (.string (mg z1))).setCell ⟨q, 0, none⟩ (.bool (sg z2))).setCell ⟨q, 1, none⟩ (.string (mg z2))) q z2 := by
  have h := two_set (z1 := z1) (z2 := z2) hne h1 h2 h3 h4
  exact ⟨⟨h.1, h.2.1⟩, ⟨h.2.2.1, h.2.2.2⟩⟩

/-- The contracts, with a name for what comes out. -/
theorem iadd_eq {v1 v2 : Value} {z1 z2 z : Int} {k1 k2 : Nat} {w : World} (h1 : IsInt v1 z1 k1) (h2 : IsInt v2 z2 k2) (e : z1 + z2 = z) : Calls Tryz.prog 57 #[v1, v2] w (IntOut w z) := e ▸ iadd_any v1 v2 z1 z2 k1 k2 w h1 h2
theorem imul_eq {v1 v2 : Value} {z1 z2 z : Int} {k1 k2 : Nat} {w : World} (h1 : IsInt v1 z1 k1) (h2 : IsInt v2 z2 k2) (e : z1 * z2 = z) : Calls Tryz.prog 54 #[v1, v2] w (IntOut w z) := e ▸ imul_any v1 v2 z1 z2 k1 k2 w h1 h2
theorem ineg_eq {v1 : Value} {z1 z : Int} {k1 : Nat} {w : World} (h1 : IsInt v1 z1 k1) (e : -z1 = z) : Calls Tryz.prog 55 #[v1] w (IntOut w z) := e ▸ ineg_any v1 z1 k1 w h1
theorem icmp_eq {v1 v2 : Value} {z1 z2 n : Int} {k1 k2 : Nat} {w : World} (h1 : IsInt v1 z1 k1) (h2 : IsInt v2 z2 k2) (e : cmpZ z1 z2 = n) : Calls Tryz.prog 53 #[v1, v2] w fun e w' => e = .returned (.int .i64 n) ∧ Below w.heap.size w w' := e ▸ icmp_any v1 v2 z1 z2 k1 k2 w h1 h2
theorem db_add {a b z : Int} {k1 k2 : Nat} (h1 : a.natAbs < 4294967296 ^ k1) (h2 : b.natAbs < 4294967296 ^ k2) (e : a + b = z) : z.natAbs < 4294967296 ^ (k1 + k2 + 1) := e ▸ bd_add h1 h2
theorem db_sub {a b z : Int} {k1 k2 : Nat} (h1 : a.natAbs < 4294967296 ^ k1) (h2 : b.natAbs < 4294967296 ^ k2) (e : a - b = z) : z.natAbs < 4294967296 ^ (k1 + k2 + 1) := e ▸ bd_sub h1 h2
theorem db_mul {a b z : Int} {k1 k2 : Nat} (h1 : a.natAbs < 4294967296 ^ k1) (h2 : b.natAbs < 4294967296 ^ k2) (e : a * b = z) : z.natAbs < 4294967296 ^ (k1 + k2) := e ▸ bd_mul h1 h2
theorem db_neg {a z : Int} {k1 : Nat} (h1 : a.natAbs < 4294967296 ^ k1) (e : -a = z) : z.natAbs < 4294967296 ^ k1 := e ▸ bd_neg h1
theorem cmpZ_self (z : Int) : cmpZ z z = 0 := by simp [cmpZ]

/-- Whether one of three integers is great. -/
def three (sa sb sc : ByteArray) : Nat → ByteArray := fun i => if i = 0 then sa else if i = 1 then sb else sc
def threeB (na nb nc : Bool) : Nat → Bool := fun i => if i = 0 then na else if i = 1 then nb else nc
end Go.Proofs.YtcljkdninmldiaaGreatDoor
