/- What integer.Mul returns: the product. Condition: at most 10000000 digits each. What integer.Check returns. Closed values that awake compares. -/
import Derived.Test.YtfcdekkoeeaolaaGreatDoorQ07
import Derived.Deep.RegionHeld3
import Derived.Deep.DeepCutAuto
import Derived.Laws.StructEq
import Derived.Test.YtfcdekkoeeaolaaGreatDoorQ16

namespace Go.Proofs.YtfcdekkoeeaolaaGreatDoor
open Go.RowKit

set_option maxRecDepth 100000 in
set_option maxHeartbeats 3200000 in
theorem imul_any (v1 v2 : Value) (z1 z2 : Int) (k1 k2 : Nat) (w : World) (h1 : IsInt v1 z1 k1) (h2 : IsInt v2 z2 k2) :
    Calls Tryz.prog 13 #[v1, v2] w (IntOut w (z1 * z2)) := by
  obtain ⟨na, sa, rfl, hz1, hs1, hk1, hkk1⟩ := h1
  obtain ⟨nb, sb, rfl, hz2, hs2, hk2, hkk2⟩ := h2
  have g1 : vB sa.data.toList < 4294967296 ^ k1 := by rw [← natAbs_zv na sa, hz1]; exact hk1
  have g2 : vB sb.data.toList < 4294967296 ^ k2 := by rw [← natAbs_zv nb sb, hz2]; exact hk2
  have G1 : Hid (vB sa.data.toList < 4294967296 ^ k1) := g1
  have G2 : Hid (vB sb.data.toList < 4294967296 ^ k2) := g2
  have G3 : Hid (vB sa.data.toList * vB sb.data.toList < 4294967296 ^ (k1 + k2)) := prod_bound g1 g2
  have Hs : Hid (z1 * z2 = if (na != nb) then -((vB sa.data.toList * vB sb.data.toList : Nat) : Int) else ((vB sa.data.toList * vB sb.data.toList : Nat) : Int)) := by rw [← hz1, ← hz2]; exact zv_mul na nb sa sb
  clear hz1 hz2 hk1 hk2 g1 g2
  have hr := (ResCell.new ((w.alloc (.cells #[.bool na, .string sa] 23)).alloc (.cells #[.bool nb, .string sb] 23)) 23).drew
  rw [World.size_alloc, World.size_alloc] at hr
  have hb := below3 w (.cells #[.bool na, .string sa] 23) (.cells #[.bool nb, .string sb] 23) (.cells #[.bool false, .string ⟨#[]⟩] 23)
  have e1 : w.heap.size + 1 + 1 ≠ w.heap.size := by omega
  go_enter Tryz.func13, Tryz.ntmps13
  go_upto_region 1 with fail
  go_region_held3 (fun W => W.cell? ⟨w.heap.size, 0, none⟩ = some (.bool na) ∧ W.cell? ⟨w.heap.size, 1, none⟩ = some (.string sa) ∧ W.cell? ⟨w.heap.size + 1, 0, none⟩ = some (.bool nb) ∧ W.cell? ⟨w.heap.size + 1, 1, none⟩ = some (.string sb)) (first | exact keep4 (by assumption) (by assumption) | go_keep)
    (first
      | (go_at_call_of 60 (Value.agg #[Value.bool na, Value.string sa]); refine (magnitude_any na sa _ (by omega)).mono ?_; rintro e W1 ⟨A1, n1, c1, rfl, i1, b1⟩; have l1 := i1.len G1.out)
      | (go_at_call_of 60 (Value.agg #[Value.bool nb, Value.string sb]); refine (magnitude_any nb sb _ (by omega)).mono ?_; rintro e W2 ⟨A2, n2, c2, rfl, i2, b2⟩; have l2 := i2.len G2.out)
      | (go_at_call 73; refine (mul_any A1 A2 n1 n2 c1 c2 _ _ _ (i1.below (Nat.le_refl _) b2) i2 (by omega) (by omega)).mono ?_; rintro e W3 ⟨A3, n3, c3, rfl, i3, b3⟩; have l3 := i3.len G3.out)
      | (go_at_call 61; refine (signed_any (na != nb) A3 n3 c3 _ _ i3 (by omega)).mono ?_; rintro e W4 ⟨rfl, b4⟩; obtain ⟨r1, r2, r3, r4⟩ := (((hr.keep b1).keep b2).keep b3).keep b4; rw [ivN_eq (na != nb) _ (z1 * z2) Hs.out]))
  all_goals
    go_wp2
    exact bodyPost_ret (v := .agg #[.bool (sg (z1 * z2)), .string (mg (z1 * z2))]) (by simp [results, Tryz.results13, go_sem, r1, r2]) rfl ⟨rfl, below_more2 (below_more (below_more (below_more hb.drew (Nat.le_refl _) b1) (Nat.le_refl _) b2) (Nat.le_refl _) b3) (Nat.le_refl _) b4 (by show w.heap.size ≤ w.heap.size + 1 + 1; omega) (by show w.heap.size ≤ w.heap.size + 1 + 1; omega)⟩
end Go.Proofs.YtfcdekkoeeaolaaGreatDoor

namespace Go.Proofs.YtfcdekkoeeaolaaGreatDoor
open Go.RowKit

theorem Tryz.fieldsInt : (Tryz.prog.fieldsOf 23).toList = [{ name := "Neg", type := 4, offset := 0, embedded := false, tag := "", pkgPath := "", byteOffset := 0 }, { name := "Mag", type := 9, offset := 1, embedded := false, tag := "", pkgPath := "", byteOffset := 8 }] := by kernel_rfl
theorem part0 (a : Bool) (s : ByteArray) (w : World) : (part 4 #[Value.bool a, Value.string s] 0).run Tryz.prog w = .ok (.bool a) w := by kernel_rfl
theorem part1 (a : Bool) (s : ByteArray) (w : World) : (part 9 #[Value.bool a, Value.string s] 1).run Tryz.prog w = .ok (.string s) w := by kernel_rfl
theorem eq0 (a b : Bool) (w : World) : (Op.equalIn 9999 4 (.bool a) (.bool b)).run Tryz.prog w = .ok (a == b) w := run_equalIn_bool' w 9998 4 a b Tryz.underlying4
theorem eq1 (a b : ByteArray) (w : World) : (Op.equalIn 9999 9 (.string a) (.string b)).run Tryz.prog w = .ok (a.toList == b.toList) w := run_equalIn_string w 9998 9 a b Tryz.underlying9
set_option maxRecDepth 100000 in
theorem neqInt (a b : Bool) (s t : ByteArray) (w : World) : (binOp .neq 23 (.agg #[.bool a, .string s]) (.agg #[.bool b, .string t])).run Tryz.prog w = .ok (.bool (!(a == b && s.toList == t.toList))) w := by
  rw [run_neq_struct, run_equalIn_agg w 9999 23 _ _ (by kernel_rfl) (by kernel_rfl), Tryz.fieldsInt]
  simp only [Op.eqFields]
  rw [if_pos (by decide)]
  rw [if_pos (by decide)]
  simp only [Sem.run_bind, part0, eq0, Result.andThen]
  cases a == b
  · rfl
  · simp only [Bool.not_true, Bool.true_and, if_neg (show ¬ (false = true) by decide), Sem.run_bind, part1, eq1, Result.andThen]
    cases s.toList == t.toList <;> rfl
theorem guardInt (x y : Operand) (a b : Bool) (s t : ByteArray) (w : World) : (eqGuard .neq 23 x y (.agg #[.bool a, .string s]) (.agg #[.bool b, .string t])).run Tryz.prog w = .ok () w := run_eqGuard_agg w .neq 23 x y _ _ (by kernel_rfl)
attribute [go_sem ↓] neqInt guardInt
theorem keep2 {Wp W1 : World} {p1 p2 : Addr} {v1 v2 : Value} (hb : Below Wp.heap.size Wp W1) (h : Wp.cell? p1 = some v1 ∧ Wp.cell? p2 = some v2) : W1.cell? p1 = some v1 ∧ W1.cell? p2 = some v2 := ⟨cell_keep h.1 hb, cell_keep h.2 hb⟩
/-- An integer is canonical: its own bytes and sign. -/
theorem mg_of (na : Bool) (sa : ByteArray) (h : stz sa = sa.data.toList) : mg (zv na sa) = sa := by
  unfold mg
  rw [natAbs_zv, ← stz_eq, h]
theorem toList_eq (a b : ByteArray) : (a.toList == b.toList) = decide (a = b) := by
  by_cases h : a = b
  · subst h; simp
  · rw [decide_eq_false h]
    exact beq_eq_false_iff_ne.2 (fun e => h (by rw [ByteArray.toList_eq, ByteArray.toList_eq] at e; exact ByteArray.ext (Array.toList_inj.mp e)))
def checkN (na : Bool) (sa : ByteArray) : Int := if sg (zv na sa) = na ∧ mg (zv na sa) = sa then 0 else 1

theorem check_val (na : Bool) (sa : ByteArray) : checkN na sa = if (!na == sg (zv na sa) || !sa.toList == (mg (zv na sa)).toList) then 1 else 0 := by
  rw [toList_eq]
  unfold checkN
  by_cases h1 : na = sg (zv na sa)
  · by_cases h2 : sa = mg (zv na sa)
    · rw [if_pos ⟨h1.symm, h2.symm⟩, decide_eq_true h2]
      simp [← h1]
    · rw [if_neg (fun h => h2 h.2.symm), decide_eq_false h2]; simp
  · rw [if_neg (fun h => h1 h.1.symm), show (na == sg (zv na sa)) = false from beq_eq_false_iff_ne.2 h1]; rfl

end Go.Proofs.YtfcdekkoeeaolaaGreatDoor

namespace Go.Proofs.YtfcdekkoeeaolaaGreatDoor
open Go.RowKit

theorem gs_two64 : gs 18446744073709551616 = [709551616, 446744073, 18] := by
  rw [gs_pos (by omega), gs_pos (by omega), gs_pos (by omega), gs_zero]

theorem two64_text : (⟨(prZ 18446744073709551616).toArray⟩ : ByteArray) = ⟨#[49, 56, 52, 52, 54, 55, 52, 52, 48, 55, 51, 55, 48, 57, 53, 53, 49, 54, 49, 54]⟩ := by
  have h0 : prZ 18446744073709551616 = prS [709551616, 446744073, 18] := by
    unfold prZ
    rw [if_neg (by decide)]
    show sgnT (sg 18446744073709551616) ++ prS (gs 18446744073709551616) = _
    rw [gs_two64]
    rfl
  rw [h0]
  simp [prS, pad9, Lib.decDigits, Lib.repeatL]

theorem eqlInt (a b : Bool) (s t : ByteArray) (w : World) : (binOp .eql 23 (.agg #[.bool a, .string s]) (.agg #[.bool b, .string t])).run Tryz.prog w = .ok (.bool (a == b && s.toList == t.toList)) w := by
  rw [run_eql_struct, run_equalIn_agg w 9999 23 _ _ (by kernel_rfl) (by kernel_rfl), Tryz.fieldsInt]
  simp only [Op.eqFields]
  rw [if_pos (by decide)]
  rw [if_pos (by decide)]
  simp only [Sem.run_bind, part0, eq0, Result.andThen]
  cases a == b
  · rfl
  · simp only [Bool.not_true, Bool.true_and, if_neg (show ¬ (false = true) by decide), Sem.run_bind, part1, eq1, Result.andThen]
    cases s.toList == t.toList <;> rfl
end Go.Proofs.YtfcdekkoeeaolaaGreatDoor
