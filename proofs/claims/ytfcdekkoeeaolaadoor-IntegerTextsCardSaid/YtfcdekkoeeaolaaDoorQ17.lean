/- What integer.Mul returns: the product. Condition: at most 10000000 digits each. Closed values that awake compares. Integers in cells, and how they are compared as values of the program. No condition. -/
import Derived.Test.YtfcdekkoeeaolaaDoorQ07
import Derived.Deep.RegionHeld3
import Derived.Deep.DeepCutAuto
import Derived.Test.YtfcdekkoeeaolaaDoorQ14

namespace Go.Proofs.YtfcdekkoeeaolaaDoor
open Go.RowKit

set_option maxRecDepth 100000 in
set_option maxHeartbeats 3200000 in
theorem imul_any (v1 v2 : Value) (z1 z2 : Int) (k1 k2 : Nat) (w : World) (h1 : IsInt v1 z1 k1) (h2 : IsInt v2 z2 k2) :
    Calls Tryd.prog 11 #[v1, v2] w (IntOut w (z1 * z2)) := by
  obtain ⟨na, sa, rfl, hz1, hs1, hk1, hkk1⟩ := h1
  obtain ⟨nb, sb, rfl, hz2, hs2, hk2, hkk2⟩ := h2
  have g1 : vB sa.data.toList < 4294967296 ^ k1 := by rw [← natAbs_zv na sa, hz1]; exact hk1
  have g2 : vB sb.data.toList < 4294967296 ^ k2 := by rw [← natAbs_zv nb sb, hz2]; exact hk2
  have G1 : Hid (vB sa.data.toList < 4294967296 ^ k1) := g1
  have G2 : Hid (vB sb.data.toList < 4294967296 ^ k2) := g2
  have G3 : Hid (vB sa.data.toList * vB sb.data.toList < 4294967296 ^ (k1 + k2)) := prod_bound g1 g2
  have Hs : Hid (z1 * z2 = if (na != nb) then -((vB sa.data.toList * vB sb.data.toList : Nat) : Int) else ((vB sa.data.toList * vB sb.data.toList : Nat) : Int)) := by rw [← hz1, ← hz2]; exact zv_mul na nb sa sb
  clear hz1 hz2 hk1 hk2 g1 g2
  have hr := (ResCell.new ((w.alloc (.cells #[.bool na, .string sa] 23)).alloc (.cells #[.bool nb, .string sb] 23)) 23).drew
  rw [World.size_alloc, World.size_alloc] at hr
  have hb := below3 w (.cells #[.bool na, .string sa] 23) (.cells #[.bool nb, .string sb] 23) (.cells #[.bool false, .string ⟨#[]⟩] 23)
  have e1 : w.heap.size + 1 + 1 ≠ w.heap.size := by omega
  go_enter Tryd.func11, Tryd.ntmps11
  go_upto_region 1 with fail
  go_region_held3 (fun W => W.cell? ⟨w.heap.size, 0, none⟩ = some (.bool na) ∧ W.cell? ⟨w.heap.size, 1, none⟩ = some (.string sa) ∧ W.cell? ⟨w.heap.size + 1, 0, none⟩ = some (.bool nb) ∧ W.cell? ⟨w.heap.size + 1, 1, none⟩ = some (.string sb)) (first | exact keep4 (by assumption) (by assumption) | go_keep)
    (first
      | (go_at_call_of 22 (Value.agg #[Value.bool na, Value.string sa]); refine (magnitude_any na sa _ (by omega)).mono ?_; rintro e W1 ⟨A1, n1, c1, rfl, i1, b1⟩; have l1 := i1.len G1.out)
      | (go_at_call_of 22 (Value.agg #[Value.bool nb, Value.string sb]); refine (magnitude_any nb sb _ (by omega)).mono ?_; rintro e W2 ⟨A2, n2, c2, rfl, i2, b2⟩; have l2 := i2.len G2.out)
      | (go_at_call 29; refine (mul_any A1 A2 n1 n2 c1 c2 _ _ _ (i1.below (Nat.le_refl _) b2) i2 (by omega) (by omega)).mono ?_; rintro e W3 ⟨A3, n3, c3, rfl, i3, b3⟩; have l3 := i3.len G3.out)
      | (go_at_call 19; refine (signed_any (na != nb) A3 n3 c3 _ _ i3 (by omega)).mono ?_; rintro e W4 ⟨rfl, b4⟩; obtain ⟨r1, r2, r3, r4⟩ := (((hr.keep b1).keep b2).keep b3).keep b4; rw [ivN_eq (na != nb) _ (z1 * z2) Hs.out]))
  all_goals
    go_wp2
    exact bodyPost_ret (v := .agg #[.bool (sg (z1 * z2)), .string (mg (z1 * z2))]) (by simp [results, Tryd.results11, go_sem, r1, r2]) rfl ⟨rfl, below_more2 (below_more (below_more (below_more hb.drew (Nat.le_refl _) b1) (Nat.le_refl _) b2) (Nat.le_refl _) b3) (Nat.le_refl _) b4 (by show w.heap.size ≤ w.heap.size + 1 + 1; omega) (by show w.heap.size ≤ w.heap.size + 1 + 1; omega)⟩
end Go.Proofs.YtfcdekkoeeaolaaDoor

namespace Go.Proofs.YtfcdekkoeeaolaaDoor
open Go.RowKit

theorem gs_two64 : gs 18446744073709551616 = [709551616, 446744073, 18] := by
  rw [gs_pos (by omega), gs_pos (by omega), gs_pos (by omega), gs_zero]

theorem two64_text : (⟨(prZ 18446744073709551616).toArray⟩ : ByteArray) = ⟨#[49, 56, 52, 52, 54, 55, 52, 52, 48, 55, 51, 55, 48, 57, 53, 53, 49, 54, 49, 54]⟩ := by
  have h0 : prZ 18446744073709551616 = prS [709551616, 446744073, 18] := by
    unfold prZ
    rw [if_neg (by decide)]
    show sgnT (sg 18446744073709551616) ++ prS (gs 18446744073709551616) = _
    rw [gs_two64]
    rfl
  rw [h0]
  simp [prS, pad9, Lib.decDigits, Lib.repeatL]

theorem eqlInt (a b : Bool) (s t : ByteArray) (w : World) : (binOp .eql 23 (.agg #[.bool a, .string s]) (.agg #[.bool b, .string t])).run Tryd.prog w = .ok (.bool (a == b && s.toList == t.toList)) w := by
  rw [run_eql_struct, run_equalIn_agg w 9999 23 _ _ (by kernel_rfl) (by kernel_rfl), Tryd.fieldsInt]
  simp only [Op.eqFields]
  rw [if_pos (by decide)]
  rw [if_pos (by decide)]
  simp only [Sem.run_bind, part0, eq0, Result.andThen]
  cases a == b
  · rfl
  · simp only [Bool.not_true, Bool.true_and, if_neg (show ¬ (false = true) by decide), Sem.run_bind, part1, eq1, Result.andThen]
    cases s.toList == t.toList <;> rfl
end Go.Proofs.YtfcdekkoeeaolaaDoor

namespace Go.Proofs.YtfcdekkoeeaolaaDoor
open Go.RowKit

theorem isInt_of {z : Int} {k : Nat} (h : z.natAbs < 4294967296 ^ k) (hk : k ≤ 10000000) : IsInt (.agg #[.bool (sg z), .string (mg z)]) z k := isInt_mg h hk
/-- An integer's cells. -/
def IntAt (W : World) (b : Nat) (z : Int) : Prop := W.cell? ⟨b, 0, none⟩ = some (.bool (sg z)) ∧ W.cell? ⟨b, 1, none⟩ = some (.string (mg z))
theorem IntAt.keep {W W1 : World} {b : Nat} {z : Int} (h : IntAt W b z) (hb : Below W.heap.size W W1) : IntAt W1 b z := ⟨cell_keep h.1 hb, cell_keep h.2 hb⟩
theorem IntAt.new (W : World) (t : TypeId) (z : Int) : IntAt (W.alloc (.cells #[.bool (sg z), .string (mg z)] t)) W.heap.size z := by
  constructor <;> simp [go_sem]

theorem guardInt2 (x y : Operand) (a b : Bool) (s t : ByteArray) (w : World) : (eqGuard .eql 23 x y (.agg #[.bool a, .string s]) (.agg #[.bool b, .string t])).run Tryd.prog w = .ok () w := run_eqGuard_agg w .eql 23 x y _ _ (by kernel_rfl)
attribute [go_sem ↓] eqlInt guardInt2
end Go.Proofs.YtfcdekkoeeaolaaDoor
