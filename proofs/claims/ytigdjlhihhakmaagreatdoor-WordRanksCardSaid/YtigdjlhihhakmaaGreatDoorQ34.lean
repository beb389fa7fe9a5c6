/- How integers are compared as values of the program. No condition. What the reference implementation's Small returns. Condition: at most 10^9 bytes. What the reference implementation's Check returns. Condition: at most 10^9 bytes. -/
import Derived.Test.YtigdjlhihhakmaaGreatDoorQ13
import Derived.Test.YtigdjlhihhakmaaGreatDoorQ28
import Derived.Test.YtigdjlhihhakmaaGreatDoorQ29

namespace Go.Proofs.YtigdjlhihhakmaaGreatDoor
open Go.RowKit
theorem eqlInt (a b : Bool) (s t : ByteArray) (w : World) : (binOp .eql 23 (.agg #[.bool a, .string s]) (.agg #[.bool b, .string t])).run Tryz.prog w = .ok (.bool (a == b && s.toList == t.toList)) w := by
  rw [run_eql_struct, run_equalIn_agg w 9999 23 _ _ (by kernel_rfl) (by kernel_rfl), Tryz.fieldsInt]
  simp only [Op.eqFields]
  rw [if_pos (by decide)]
  rw [if_pos (by decide)]
  simp only [Sem.run_bind, part0, eq0, Result.andThen]
  cases a == b
  · rfl
  · simp only [Bool.not_true, Bool.true_and, if_neg (show ¬ (false = true) by decide), Sem.run_bind, part1, eq1, Result.andThen]
    cases s.toList == t.toList <;> rfl
theorem guardInt2 (x y : Operand) (a b : Bool) (s t : ByteArray) (w : World) : (eqGuard .eql 23 x y (.agg #[.bool a, .string s]) (.agg #[.bool b, .string t])).run Tryz.prog w = .ok () w := run_eqGuard_agg w .eql 23 x y _ _ (by kernel_rfl)
end Go.Proofs.YtigdjlhihhakmaaGreatDoor

namespace Go.Proofs.YtigdjlhihhakmaaGreatDoor
open Go.RowKit
set_option linter.unusedSimpArgs false
set_option linter.unusedVariables false
attribute [local go_sem ↓] eqlInt guardInt2

theorem below_al9 {w w1 : World} (h : Below w.heap.size w w1) (o : Obj) : Below w.heap.size w (w1.alloc o) := h.alloc h.size _
/-- The value of a small integer, and whether it is one. -/
def smallZ (z : Int) : Int := if -9223372036854775808 ≤ z ∧ z ≤ 9223372036854775807 then z else 0
def smallB (z : Int) : Bool := decide (-9223372036854775808 ≤ z ∧ z ≤ 9223372036854775807)
set_option maxRecDepth 100000 in
set_option maxHeartbeats 3200000 in
theorem rsmall01_any (g : Bool) (l : List UInt8) (z : Int) (w : World) (hl : l.length ≤ 1000000000) (hz : zv g ⟨l.toArray⟩ = z) :
    Calls Tryz.prog 37 #[.agg #[.bool g, .string ⟨l.toArray⟩]] w fun e w' => e = .returned (.tuple #[.int .i64 (smallZ z), .bool (smallB z)]) ∧ Below w.heap.size w w' := by
  have Hz := Lib.hid hz
  clear hz
  have B0 := below1 w (.cells #[.bool g, .string ⟨l.toArray⟩] 23)
  have X0 : Box2 (w.alloc (.cells #[.bool g, .string ⟨l.toArray⟩] 23)) w.heap.size g ⟨l.toArray⟩ := by
    refine ⟨?_, ?_, ?_, ?_⟩ <;> simp [go_sem]
  obtain ⟨T, HT⟩ : ∃ T, Hid (bytesOf z.natAbs = T) := ⟨_, Lib.hid rfl⟩
  have Hm := Lib.hid (show mg z = ⟨T.toArray⟩ by unfold mg; rw [HT.out])
  have Hv := Lib.hid (show vB T = z.natAbs by rw [← HT.out]; exact vB_bytesOf _)
  have Hzv := Lib.hid (show zv (sg z) ⟨T.toArray⟩ = z by rw [← Hm.out]; exact zv_mg z)
  go_enter Tryz.func37, Tryz.ntmps37
  go_wp2_with fail
  refine (rcanonical_any g l _ hl).mono ?_
  rw [Hz.out]
  rintro e W1 ⟨rfl, b1⟩
  obtain ⟨x1, x2, x3, x4⟩ := X0.keep b1
  have B1 := below_more B0 (Nat.le_refl _) b1
  rw [Hm.out]
  clear X0 B0 b1
  by_cases h8 : T.length < 8
  · have hd : decide ((T.length : Int) < 8) = true := decide_eq_true (by omega)
    have H3 := Lib.hid (show vB T < 9223372036854775808 by
      have h1 := vB_lt T
      have h2 : 256 ^ T.length ≤ 256 ^ 7 := Nat.pow_le_pow_right (by omega) (by omega)
      have h3 : vB T < 72057594037927936 := Nat.lt_of_lt_of_le h1 h2
      omega)
    have HR := Lib.hid (show smallZ z = z ∧ smallB z = true by
      have h3 := H3.out
      rw [Hv.out] at h3
      have h4 : -9223372036854775808 ≤ z ∧ z ≤ 9223372036854775807 := by omega
      exact ⟨if_pos h4, decide_eq_true h4⟩)
    go_wp2_with fail
    refine (rvalue_any (sg z) T z _ (by omega) H3.out Hzv.out).mono ?_
    rintro e W2 ⟨rfl, b2⟩
    go_wp2
    exact bodyPost_ret (v := .tuple #[.int .i64 z, .bool true]) (by simp [results, Tryz.results37, go_sem]) rfl ⟨by rw [HR.out.1, HR.out.2], below_more ((B1.setCell (Nat.le_refl _) _).setCell (Nat.le_refl _) _) (Nat.le_refl _) b2⟩
  · have hd : decide ((T.length : Int) < 8) = false := decide_eq_false (by omega)
    have hh := head_trim (bytesOf z.natAbs)
    rw [trim_bytes, vB_bytesOf, HT.out] at hh
    have HL := Lib.hid (vB_len hh (by omega))
    clear hh
    by_cases h9 : 8 < T.length
    · have hd2 : decide ((8 : Int) < (T.length : Int)) = true := decide_eq_true (by omega)
      have HR := Lib.hid (show smallZ z = 0 ∧ smallB z = false by
        have h1 := HL.out
        have h2 : 256 ^ 8 ≤ 256 ^ (T.length - 1) := Nat.pow_le_pow_right (by omega) (by omega)
        have h3 : 18446744073709551616 ≤ vB T := Nat.le_trans h2 h1
        rw [Hv.out] at h3
        have h4 : ¬ (-9223372036854775808 ≤ z ∧ z ≤ 9223372036854775807) := by omega
        exact ⟨if_neg h4, decide_eq_false h4⟩)
      go_wp2
      exact bodyPost_ret (v := .tuple #[.int .i64 0, .bool false]) (by simp [results, Tryz.results37, go_sem]) rfl ⟨by rw [HR.out.1, HR.out.2], (B1.setCell (Nat.le_refl _) _).setCell (Nat.le_refl _) _⟩
    · have h10 : T.length = 8 := by omega
      clear h8 h9 hd
      obtain ⟨b, t, rfl⟩ : ∃ b t, T = b :: t := by
        cases T with
        | nil => simp at h10
        | cons b t => exact ⟨b, t, rfl⟩
      have ht : t.length = 7 := by simpa using h10
      have hix := run_index_bytes (b :: t) 0 b rfl 0 (by simp)
      have hb' := b.toNat_lt
      have HV := Lib.hid (show vB (b :: t) = b.toNat * 72057594037927936 + vB t ∧ vB t < 72057594037927936 by
        have h1 := vB_lt t
        rw [ht] at h1
        refine ⟨?_, h1⟩
        rw [vB_cons, ht])
      by_cases hb : b.toNat < 128
      · have hd3 : decide ((b.toNat : Int) < 128) = true := decide_eq_true (by omega)
        have H3 := Lib.hid (show vB (b :: t) < 9223372036854775808 by have := HV.out; omega)
        have HR := Lib.hid (show smallZ z = z ∧ smallB z = true by
          have h3 := H3.out
          rw [Hv.out] at h3
          have h4 : -9223372036854775808 ≤ z ∧ z ≤ 9223372036854775807 := by omega
          exact ⟨if_pos h4, decide_eq_true h4⟩)
        go_wp2_with fail
        refine (rvalue_any (sg z) (b :: t) z _ (by rw [h10]; omega) H3.out Hzv.out).mono ?_
        rintro e W2 ⟨rfl, b2⟩
        go_wp2
        exact bodyPost_ret (v := .tuple #[.int .i64 z, .bool true]) (by simp [results, Tryz.results37, go_sem]) rfl ⟨by rw [HR.out.1, HR.out.2], below_more ((B1.setCell (Nat.le_refl _) _).setCell (Nat.le_refl _) _) (Nat.le_refl _) b2⟩
      · have hd3 : decide ((b.toNat : Int) < 128) = false := decide_eq_false (by omega)
        have H3 := Lib.hid (show 9223372036854775808 ≤ z.natAbs by rw [← Hv.out]; have := HV.out; omega)
        have hleast : sg (-9223372036854775808) = true := by decide
        have hml := mg_least
        have y1 : ((W1.setCell ⟨w.heap.size, 0, none⟩ (.bool (sg z))).setCell ⟨w.heap.size, 1, none⟩ (.string ⟨(b :: t).toArray⟩)).cell? ⟨w.heap.size, 0, none⟩ = some (.bool (sg z)) := by simp [go_sem, x1, x2]
        have y2 : ((W1.setCell ⟨w.heap.size, 0, none⟩ (.bool (sg z))).setCell ⟨w.heap.size, 1, none⟩ (.string ⟨(b :: t).toArray⟩)).cell? ⟨w.heap.size, 1, none⟩ = some (.string ⟨(b :: t).toArray⟩) := by simp [go_sem, x1, x2]
        have Y := Lib.hid (And.intro y1 y2)
        have HZ := Lib.hid (show (z = -9223372036854775808 ∧ sg z = true ∧ b :: t = [128, 0, 0, 0, 0, 0, 0, 0] ∧ smallZ z = -9223372036854775808 ∧ smallB z = true) ∨ (sg z = true ∧ ((b :: t) == [128, 0, 0, 0, 0, 0, 0, 0]) = false ∧ smallZ z = 0 ∧ smallB z = false) ∨ (sg z = false ∧ smallZ z = 0 ∧ smallB z = false) by
          have h3 := H3.out
          by_cases e : z = -9223372036854775808
          · left
            subst e
            have h5 := Hm.out
            rw [hml] at h5
            injection h5 with h5
            have h6 := congrArg Array.toList h5
            exact ⟨rfl, hleast, h6.symm, rfl, rfl⟩
          · right
            have h4 : ¬ (-9223372036854775808 ≤ z ∧ z ≤ 9223372036854775807) := by omega
            by_cases hs : z < 0
            · left
              refine ⟨decide_eq_true hs, ?_, if_neg h4, decide_eq_false h4⟩
              rw [beq_eq_false_iff_ne]
              intro h5
              have h6 := Hv.out
              rw [h5, show vB [128, 0, 0, 0, 0, 0, 0, 0] = 9223372036854775808 by decide] at h6
              omega
            · right
              exact ⟨decide_eq_false hs, if_neg h4, decide_eq_false h4⟩)
        clear y1 y2 hleast hml hb
        go_wp2_with fail
        refine (rof01_any (-9223372036854775808) _ (by omega) (by omega)).mono ?_
        rintro e W2 ⟨rfl, b2⟩
        rw [show sg (-9223372036854775808) = true by decide, mg_least]
        have y1 := cell_keep Y.out.1 b2
        have y2 := cell_keep Y.out.2 b2
        have hbl : w.heap.size < W2.heap.size := World.block_lt_of_cell? W2 ⟨w.heap.size, 0, none⟩ y1
        clear x1 x2 x3 x4 hix hd3 hb'
        rcases HZ.out with ⟨-, h1, h2, h3, h4⟩ | ⟨h1, h2, h3, h4⟩ | ⟨h1, h3, h4⟩
        · have HR := Lib.hid (And.intro h3 h4)
          rw [h1] at y1
          rw [h2] at y2
          clear h1 h2 h3 h4
          go_wp2
          exact bodyPost_ret (v := .tuple #[.int .i64 (-9223372036854775808), .bool true]) (by simp [results, Tryz.results37, go_sem]) rfl ⟨by rw [HR.out.1, HR.out.2], below_al9 (below_more ((B1.setCell (Nat.le_refl _) _).setCell (Nat.le_refl _) _) (Nat.le_refl _) b2) _⟩
        · have HR := Lib.hid (And.intro h3 h4)
          rw [h1] at y1
          clear h1 h3 h4
          go_wp2
          exact bodyPost_ret (v := .tuple #[.int .i64 0, .bool false]) (by simp [results, Tryz.results37, go_sem]) rfl ⟨by rw [HR.out.1, HR.out.2], below_al9 (below_more ((B1.setCell (Nat.le_refl _) _).setCell (Nat.le_refl _) _) (Nat.le_refl _) b2) _⟩
        · have HR := Lib.hid (And.intro h3 h4)
          rw [h1] at y1
          clear h1 h3 h4
          go_wp2
          exact bodyPost_ret (v := .tuple #[.int .i64 0, .bool false]) (by simp [results, Tryz.results37, go_sem]) rfl ⟨by rw [HR.out.1, HR.out.2], below_al9 (below_more ((B1.setCell (Nat.le_refl _) _).setCell (Nat.le_refl _) _) (Nat.le_refl _) b2) _⟩
end Go.Proofs.YtigdjlhihhakmaaGreatDoor

namespace Go.Proofs.YtigdjlhihhakmaaGreatDoor
open Go.RowKit
set_option linter.unusedSimpArgs false
set_option linter.unusedVariables false

set_option maxRecDepth 100000 in
set_option maxHeartbeats 3200000 in
theorem rcheck01_any (g : Bool) (l : List UInt8) (w : World) (hl : l.length ≤ 1000000000) :
    Calls Tryz.prog 34 #[.agg #[.bool g, .string ⟨l.toArray⟩]] w fun e w' => e = .returned (.int .i64 (checkN g ⟨l.toArray⟩)) ∧ Below w.heap.size w w' := by
  have hb := below1 w (.cells #[.bool g, .string ⟨l.toArray⟩] 23)
  rw [check_val g ⟨l.toArray⟩, show (⟨l.toArray⟩ : ByteArray).toList = l by simp]
  obtain ⟨q, hq⟩ : ∃ q, q = (!g == sg (zv g ⟨l.toArray⟩) || !l == (mg (zv g ⟨l.toArray⟩)).toList) := ⟨_, rfl⟩
  rw [← hq]
  have Hq := Lib.hid hq
  clear hq
  go_enter Tryz.func34, Tryz.ntmps34
  go_upto_region 1 with fail
  go_region_held3 (fun W => W.cell? ⟨w.heap.size, 0, none⟩ = some (.bool g) ∧ W.cell? ⟨w.heap.size, 1, none⟩ = some (.string ⟨l.toArray⟩)) (first | exact keep2 (by assumption) (by assumption) | (simp [go_sem]; done) | go_keep)
    (first | (go_at_call 58; refine (rcanonical_any g l _ hl).mono ?_; rintro e W1 ⟨rfl, b1⟩))
  all_goals
    rw [← Hq.out]
    cases q
    · go_wp2
      go_ret
      exact ⟨rfl, below_more hb.drew (Nat.le_refl _) b1⟩
    · go_wp2
      go_ret
      exact ⟨rfl, below_more hb.drew (Nat.le_refl _) b1⟩
end Go.Proofs.YtigdjlhihhakmaaGreatDoor
