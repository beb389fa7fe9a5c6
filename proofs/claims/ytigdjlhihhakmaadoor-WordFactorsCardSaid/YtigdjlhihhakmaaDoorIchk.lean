/- What integer.Check returns. -/
import Derived.Test.YtigdjlhihhakmaaDoorInt
import Derived.Deep.RegionHeld3
import Derived.Deep.DeepCutAuto
import Derived.Laws.StructEq
import Derived.Lib.Hide
namespace Go.Proofs.YtigdjlhihhakmaaDoor
open Go.RowKit

theorem Tryd.fieldsInt : (Tryd.prog.fieldsOf 43).toList = [{ name := "Neg", type := 4, offset := 0, embedded := false, tag := "", pkgPath := "", byteOffset := 0 }, { name := "Mag", type := 9, offset := 1, embedded := false, tag := "", pkgPath := "", byteOffset := 8 }] := by kernel_rfl
theorem part0 (a : Bool) (s : ByteArray) (w : World) : (part 4 #[Value.bool a, Value.string s] 0).run Tryd.prog w = .ok (.bool a) w := by kernel_rfl
theorem part1 (a : Bool) (s : ByteArray) (w : World) : (part 9 #[Value.bool a, Value.string s] 1).run Tryd.prog w = .ok (.string s) w := by kernel_rfl
theorem eq0 (a b : Bool) (w : World) : (Op.equalIn 9999 4 (.bool a) (.bool b)).run Tryd.prog w = .ok (a == b) w := run_equalIn_bool' w 9998 4 a b Tryd.underlying4
theorem eq1 (a b : ByteArray) (w : World) : (Op.equalIn 9999 9 (.string a) (.string b)).run Tryd.prog w = .ok (a.toList == b.toList) w := run_equalIn_string w 9998 9 a b Tryd.underlying9
set_option maxRecDepth 100000 in
theorem neqInt (a b : Bool) (s t : ByteArray) (w : World) : (binOp .neq 43 (.agg #[.bool a, .string s]) (.agg #[.bool b, .string t])).run Tryd.prog w = .ok (.bool (!(a == b && s.toList == t.toList))) w := by
  rw [run_neq_struct, run_equalIn_agg w 9999 43 _ _ (by kernel_rfl) (by kernel_rfl), Tryd.fieldsInt]
  simp only [Op.eqFields]
  rw [if_pos (by decide)]
  rw [if_pos (by decide)]
  simp only [Sem.run_bind, part0, eq0, Result.andThen]
  cases a == b
  · rfl
  · simp only [Bool.not_true, Bool.true_and, if_neg (show ¬ (false = true) by decide), Sem.run_bind, part1, eq1, Result.andThen]
    cases s.toList == t.toList <;> rfl
theorem guardInt (x y : Operand) (a b : Bool) (s t : ByteArray) (w : World) : (eqGuard .neq 43 x y (.agg #[.bool a, .string s]) (.agg #[.bool b, .string t])).run Tryd.prog w = .ok () w := run_eqGuard_agg w .neq 43 x y _ _ (by kernel_rfl)
attribute [go_sem ↓] neqInt guardInt
theorem keep2 {Wp W1 : World} {p1 p2 : Addr} {v1 v2 : Value} (hb : Below Wp.heap.size Wp W1) (h : Wp.cell? p1 = some v1 ∧ Wp.cell? p2 = some v2) : W1.cell? p1 = some v1 ∧ W1.cell? p2 = some v2 := ⟨cell_keep h.1 hb, cell_keep h.2 hb⟩
/-- An integer is canonical: its own bytes and sign. -/
theorem mg_of (na : Bool) (sa : ByteArray) (h : stz sa = sa.data.toList) : mg (zv na sa) = sa := by
  unfold mg
  rw [natAbs_zv, ← stz_eq, h]
theorem toList_eq (a b : ByteArray) : (a.toList == b.toList) = decide (a = b) := by
  by_cases h : a = b
  · subst h; simp
  · rw [decide_eq_false h]
    exact beq_eq_false_iff_ne.2 (fun e => h (by rw [ByteArray.toList_eq, ByteArray.toList_eq] at e; exact ByteArray.ext (Array.toList_inj.mp e)))
def checkN (na : Bool) (sa : ByteArray) : Int := if sg (zv na sa) = na ∧ mg (zv na sa) = sa then 0 else 1

theorem check_val (na : Bool) (sa : ByteArray) : checkN na sa = if (!na == sg (zv na sa) || !sa.toList == (mg (zv na sa)).toList) then 1 else 0 := by
  rw [toList_eq]
  unfold checkN
  by_cases h1 : na = sg (zv na sa)
  · by_cases h2 : sa = mg (zv na sa)
    · rw [if_pos ⟨h1.symm, h2.symm⟩, decide_eq_true h2]
      simp [← h1]
    · rw [if_neg (fun h => h2 h.2.symm), decide_eq_false h2]; simp
  · rw [if_neg (fun h => h1 h.1.symm), show (na == sg (zv na sa)) = false from beq_eq_false_iff_ne.2 h1]; rfl

set_option maxRecDepth 100000 in
set_option maxHeartbeats 3200000 in
theorem check_int (na : Bool) (sa : ByteArray) (w : World) :
    Calls Tryd.prog 55 #[.agg #[.bool na, .string sa]] w fun e w' => e = .returned (.int .i64 (checkN na sa)) ∧ Below w.heap.size w w' := by
  have hb := below1 w (.cells #[.bool na, .string sa] 43)
  rw [check_val na sa]
  obtain ⟨q, hq⟩ : ∃ q, q = (!na == sg (zv na sa) || !sa.toList == (mg (zv na sa)).toList) := ⟨_, rfl⟩
  rw [← hq]
  have Hq := Lib.hid hq
  clear hq
  go_enter Tryd.func55, Tryd.ntmps55
  go_upto_region 1 with fail
  go_region_held3 (fun W => W.cell? ⟨w.heap.size, 0, none⟩ = some (.bool na) ∧ W.cell? ⟨w.heap.size, 1, none⟩ = some (.string sa)) (first | exact keep2 (by assumption) (by assumption) | (simp [go_sem]; done) | go_keep)
    (first | (go_at_call 88; refine (can_any na sa _).mono ?_; rintro e W1 ⟨rfl, b1⟩))
  all_goals
    rw [← Hq.out]
    cases q
    · go_wp2
      go_ret
      exact ⟨rfl, below_more hb.drew (Nat.le_refl _) b1⟩
    · go_wp2
      go_ret
      exact ⟨rfl, below_more hb.drew (Nat.le_refl _) b1⟩
end Go.Proofs.YtigdjlhihhakmaaDoor
