/- Runs in memory that can be read, and what the reference implementation's Same returns for equal lists. Condition: fewer than 10^6 runs. -/
import Derived.Test.YtokpfbbhkmlclaaGreatDoorUe
import Derived.Laws.StructEq
namespace Go.Proofs.YtokpfbbhkmlclaaGreatDoor
open Go.RowKit
set_option linter.unusedSimpArgs false
set_option linter.unusedVariables false

/-- Runs that can be read: in whatever row. -/
def RunsRd (W : World) (v : Value) (rs : List (Int × Int)) : Prop :=
  ∃ (A : Option Addr) (c : Nat), v = .slice A rs.length c ∧ ∀ i p, rs[i]? = some p → ∃ b off, A = some ⟨b, off, none⟩ ∧ W.cell? ⟨b, off + i * 2, none⟩ = some (.int .i64 p.1) ∧ W.cell? ⟨b, off + i * 2 + 1, none⟩ = some (.int .i64 p.2)
theorem RunsRd.keep {W W' : World} {v : Value} {rs : List (Int × Int)} (h : RunsRd W v rs) (hb : Below W.heap.size W W') : RunsRd W' v rs := by
  obtain ⟨A, c, h1, h2⟩ := h
  refine ⟨A, c, h1, fun i p hp => ?_⟩
  obtain ⟨b, off, k1, k2, k3⟩ := h2 i p hp
  exact ⟨b, off, k1, cell_keep k2 hb, cell_keep k3 hb⟩
theorem RunsAt.rd {W : World} {B : Nat} {v : Value} {rs : List (Int × Int)} (h : RunsAt W B v rs) : RunsRd W v rs := by
  obtain ⟨a, c, rfl⟩ := h.slice
  refine ⟨a, c, rfl, fun i p hp => ?_⟩
  obtain ⟨g, rfl⟩ := h.addr (by have := (List.getElem?_eq_some_iff.1 hp).1; omega)
  obtain ⟨k1, k2⟩ := h.cell hp
  exact ⟨g, 0, rfl, by rw [Nat.zero_add]; exact k1, by rw [Nat.zero_add]; exact k2⟩
theorem Tryz.fieldsRun : (Tryz.prog.fieldsOf 46).toList = [{ name := "Letter", type := 3, offset := 0, embedded := false, tag := "", pkgPath := "", byteOffset := 0 }, { name := "Length", type := 3, offset := 1, embedded := false, tag := "", pkgPath := "", byteOffset := 8 }] := by kernel_rfl
theorem partR0 (a b : Int) (w : World) : (part 3 #[Value.int .i64 a, Value.int .i64 b] 0).run Tryz.prog w = .ok (.int .i64 a) w := by kernel_rfl
theorem partR1 (a b : Int) (w : World) : (part 3 #[Value.int .i64 a, Value.int .i64 b] 1).run Tryz.prog w = .ok (.int .i64 b) w := by kernel_rfl
theorem eqR (a b : Int) (w : World) : (Op.equalIn 9999 3 (.int .i64 a) (.int .i64 b)).run Tryz.prog w = .ok (a == b) w := run_equalIn_int w 9998 3 .i64 .i64 a b Tryz.underlying3
set_option maxRecDepth 100000 in
theorem neqRun (a b c d : Int) (w : World) : (binOp .neq 46 (.agg #[.int .i64 a, .int .i64 b]) (.agg #[.int .i64 c, .int .i64 d])).run Tryz.prog w = .ok (.bool (!(a == c && b == d))) w := by
  rw [run_neq_struct, run_equalIn_agg w 9999 46 _ _ (by kernel_rfl) (by kernel_rfl), Tryz.fieldsRun]
  simp only [Op.eqFields]
  rw [if_pos (by decide)]
  rw [if_pos (by decide)]
  simp only [Sem.run_bind, partR0, eqR, Result.andThen]
  cases a == c
  · rfl
  · simp only [Bool.not_true, Bool.true_and, if_neg (show ¬ (false = true) by decide), Sem.run_bind, partR1, eqR, Result.andThen]
    cases b == d <;> rfl
theorem guardRun (x y : Operand) (a b c d : Int) (w : World) : (eqGuard .neq 46 x y (.agg #[.int .i64 a, .int .i64 b]) (.agg #[.int .i64 c, .int .i64 d])).run Tryz.prog w = .ok () w := run_eqGuard_agg w .neq 46 x y _ _ (by kernel_rfl)
attribute [go_sem ↓] neqRun guardRun
set_option maxRecDepth 100000 in
set_option maxHeartbeats 3200000 in
theorem same_any (rs : List (Int × Int)) (v1 v2 : Value) (w : World) (h1 : RunsRd w v1 rs) (h2 : RunsRd w v2 rs) (hl : rs.length ≤ 1000000) :
    Calls Tryz.prog 17 #[v1, v2] w fun e w' => e = .returned (.bool true) ∧ Below w.heap.size w w' := by
  obtain ⟨A1, c1, rfl, k1⟩ := h1
  obtain ⟨A2, c2, rfl, k2⟩ := h2
  have K1 := Lib.hid k1
  have K2 := Lib.hid k2
  clear k1 k2
  have en : ((rs.length : Int) != (rs.length : Int)) = false := by simp
  go_enter Tryz.func17, Tryz.ntmps17
  go_wp2_with fail
  go_loopg [5] rs.length (fun q s5 wx => ∃ i : Nat, i + q = rs.length ∧ s5 = .int .i64 (i : Int) ∧ Below w.heap.size w wx)
  case atStart => exact ⟨0, by omega, rfl, Below.refl _ _⟩
  case round =>
    obtain ⟨i, hin, rfl, hb⟩ := hrel
    rcases gk with _ | q
    · obtain rfl : i = rs.length := by omega
      go_wp2
      go_ret
      exact ⟨rfl, hb⟩
    · have hil : i < rs.length := by omega
      obtain ⟨p, hp⟩ : ∃ p, rs[i]? = some p := ⟨_, List.getElem?_eq_getElem hil⟩
      obtain ⟨g1, o1, rfl, x1, x2⟩ := K1.out i p hp
      obtain ⟨g2, o2, rfl, y1, y2⟩ := K2.out i p hp
      have X1 := cell_keep x1 hb.drew
      have X2 := cell_keep x2 hb.drew
      have Y1 := cell_keep y1 hb.drew
      have Y2 := cell_keep y2 hb.drew
      have j2 : (i : Int) < (rs.length : Int) := by omega
      obtain ⟨u, y⟩ := p
      dsimp only at X1 X2 Y1 Y2
      have hb2 := hb.drew
      have e0 : (!(u == u && y == y)) = false := by simp
      clear hp x1 x2 y1 y2
      go_wp2_with fail
      go_big_region
      go_wp2
      go_roundg q
      case measure => omega
      case rel => exact ⟨i + 1, by omega, by go_num, hb2⟩
end Go.Proofs.YtokpfbbhkmlclaaGreatDoor
