/- What integer.Check returns. What awake returns: true. No condition. What word.checkLength, word.isShortList and word.All return. Condition: a length of at most 24, or more than 65536. -/
import Derived.Test.YtigdjlhihhakmaaGreatDoorQ09
import Derived.Deep.RegionHeld3
import Derived.Deep.DeepCutAuto
import Derived.Laws.StructEq
import Derived.Lib.Hide
import Derived.Test.YtigdjlhihhakmaaGreatDoorQ11
import Derived.Test.YtigdjlhihhakmaaGreatDoorQ12
import Derived.Maps.AppendAt

namespace Go.Proofs.YtigdjlhihhakmaaGreatDoor
open Go.RowKit

theorem Tryz.fieldsInt : (Tryz.prog.fieldsOf 23).toList = [{ name := "Neg", type := 4, offset := 0, embedded := false, tag := "", pkgPath := "", byteOffset := 0 }, { name := "Mag", type := 9, offset := 1, embedded := false, tag := "", pkgPath := "", byteOffset := 8 }] := by kernel_rfl
theorem part0 (a : Bool) (s : ByteArray) (w : World) : (part 4 #[Value.bool a, Value.string s] 0).run Tryz.prog w = .ok (.bool a) w := by kernel_rfl
theorem part1 (a : Bool) (s : ByteArray) (w : World) : (part 9 #[Value.bool a, Value.string s] 1).run Tryz.prog w = .ok (.string s) w := by kernel_rfl
theorem eq0 (a b : Bool) (w : World) : (Op.equalIn 9999 4 (.bool a) (.bool b)).run Tryz.prog w = .ok (a == b) w := run_equalIn_bool' w 9998 4 a b Tryz.underlying4
theorem eq1 (a b : ByteArray) (w : World) : (Op.equalIn 9999 9 (.string a) (.string b)).run Tryz.prog w = .ok (a.toList == b.toList) w := run_equalIn_string w 9998 9 a b Tryz.underlying9
set_option maxRecDepth 100000 in
theorem neqInt (a b : Bool) (s t : ByteArray) (w : World) : (binOp .neq 23 (.agg #[.bool a, .string s]) (.agg #[.bool b, .string t])).run Tryz.prog w = .ok (.bool (!(a == b && s.toList == t.toList))) w := by
  rw [run_neq_struct, run_equalIn_agg w 9999 23 _ _ (by kernel_rfl) (by kernel_rfl), Tryz.fieldsInt]
  simp only [Op.eqFields]
  rw [if_pos (by decide)]
  rw [if_pos (by decide)]
  simp only [Sem.run_bind, part0, eq0, Result.andThen]
  cases a == b
  · rfl
  · simp only [Bool.not_true, Bool.true_and, if_neg (show ¬ (false = true) by decide), Sem.run_bind, part1, eq1, Result.andThen]
    cases s.toList == t.toList <;> rfl
theorem guardInt (x y : Operand) (a b : Bool) (s t : ByteArray) (w : World) : (eqGuard .neq 23 x y (.agg #[.bool a, .string s]) (.agg #[.bool b, .string t])).run Tryz.prog w = .ok () w := run_eqGuard_agg w .neq 23 x y _ _ (by kernel_rfl)
attribute [go_sem ↓] neqInt guardInt
theorem keep2 {Wp W1 : World} {p1 p2 : Addr} {v1 v2 : Value} (hb : Below Wp.heap.size Wp W1) (h : Wp.cell? p1 = some v1 ∧ Wp.cell? p2 = some v2) : W1.cell? p1 = some v1 ∧ W1.cell? p2 = some v2 := ⟨cell_keep h.1 hb, cell_keep h.2 hb⟩
/-- An integer is canonical: its own bytes and sign. -/
theorem mg_of (na : Bool) (sa : ByteArray) (h : stz sa = sa.data.toList) : mg (zv na sa) = sa := by
  unfold mg
  rw [natAbs_zv, ← stz_eq, h]
theorem toList_eq (a b : ByteArray) : (a.toList == b.toList) = decide (a = b) := by
  by_cases h : a = b
  · subst h; simp
  · rw [decide_eq_false h]
    exact beq_eq_false_iff_ne.2 (fun e => h (by rw [ByteArray.toList_eq, ByteArray.toList_eq] at e; exact ByteArray.ext (Array.toList_inj.mp e)))
def checkN (na : Bool) (sa : ByteArray) : Int := if sg (zv na sa) = na ∧ mg (zv na sa) = sa then 0 else 1

theorem check_val (na : Bool) (sa : ByteArray) : checkN na sa = if (!na == sg (zv na sa) || !sa.toList == (mg (zv na sa)).toList) then 1 else 0 := by
  rw [toList_eq]
  unfold checkN
  by_cases h1 : na = sg (zv na sa)
  · by_cases h2 : sa = mg (zv na sa)
    · rw [if_pos ⟨h1.symm, h2.symm⟩, decide_eq_true h2]
      simp [← h1]
    · rw [if_neg (fun h => h2 h.2.symm), decide_eq_false h2]; simp
  · rw [if_neg (fun h => h1 h.1.symm), show (na == sg (zv na sa)) = false from beq_eq_false_iff_ne.2 h1]; rfl

set_option maxRecDepth 100000 in
set_option maxHeartbeats 3200000 in
theorem check_int (na : Bool) (sa : ByteArray) (w : World) :
    Calls Tryz.prog 30 #[.agg #[.bool na, .string sa]] w fun e w' => e = .returned (.int .i64 (checkN na sa)) ∧ Below w.heap.size w w' := by
  have hb := below1 w (.cells #[.bool na, .string sa] 23)
  rw [check_val na sa]
  obtain ⟨q, hq⟩ : ∃ q, q = (!na == sg (zv na sa) || !sa.toList == (mg (zv na sa)).toList) := ⟨_, rfl⟩
  rw [← hq]
  have Hq := Lib.hid hq
  clear hq
  go_enter Tryz.func30, Tryz.ntmps30
  go_upto_region 1 with fail
  go_region_held3 (fun W => W.cell? ⟨w.heap.size, 0, none⟩ = some (.bool na) ∧ W.cell? ⟨w.heap.size, 1, none⟩ = some (.string sa)) (first | exact keep2 (by assumption) (by assumption) | (simp [go_sem]; done) | go_keep)
    (first | (go_at_call 65; refine (can_any na sa _).mono ?_; rintro e W1 ⟨rfl, b1⟩))
  all_goals
    rw [← Hq.out]
    cases q
    · go_wp2
      go_ret
      exact ⟨rfl, below_more hb.drew (Nat.le_refl _) b1⟩
    · go_wp2
      go_ret
      exact ⟨rfl, below_more hb.drew (Nat.le_refl _) b1⟩
end Go.Proofs.YtigdjlhihhakmaaGreatDoor

namespace Go.Proofs.YtigdjlhihhakmaaGreatDoor
open Go.RowKit
set_option linter.unusedSimpArgs false
set_option linter.unusedVariables false

theorem eqlIntW (a b : Bool) (s t : ByteArray) (w : World) : (binOp .eql 23 (.agg #[.bool a, .string s]) (.agg #[.bool b, .string t])).run Tryz.prog w = .ok (.bool (a == b && s.toList == t.toList)) w := by
  rw [run_eql_struct, run_equalIn_agg w 9999 23 _ _ (by kernel_rfl) (by kernel_rfl), Tryz.fieldsInt]
  simp only [Op.eqFields]
  rw [if_pos (by decide)]
  rw [if_pos (by decide)]
  simp only [Sem.run_bind, part0, eq0, Result.andThen]
  cases a == b
  · rfl
  · simp only [Bool.not_true, Bool.true_and, if_neg (show ¬ (false = true) by decide), Sem.run_bind, part1, eq1, Result.andThen]
    cases s.toList == t.toList <;> rfl
attribute [local go_sem ↓] eqlIntW
/-- What awake keeps while it compares: the variable of an integer. -/
def AS (w : World) (p : Nat) (z : Int) (W : World) : Prop := (Below w.heap.size w W ∧ w.heap.size ≤ W.heap.size) ∧ W.cell? ⟨p, 0, none⟩ = some (.bool (sg z)) ∧ W.cell? ⟨p, 1, none⟩ = some (.string (mg z))
theorem AS.cells {w W : World} {p : Nat} {z : Int} (h : AS w p z W) : W.cell? ⟨p, 0, none⟩ = some (.bool (sg z)) ∧ W.cell? ⟨p, 1, none⟩ = some (.string (mg z)) := h.2
theorem AS.below {w W : World} {p : Nat} {z : Int} (h : AS w p z W) : Below w.heap.size w W := h.1.1
theorem AS.keep {w W X : World} {p : Nat} {z : Int} (h : AS w p z W) (b : Below W.heap.size W X) : AS w p z X :=
  ⟨⟨below_more h.1.1 (Nat.le_refl _) b, Nat.le_trans h.1.2 b.size⟩, cell_keep h.2.1 b, cell_keep h.2.2 b⟩
theorem AS.alloc {w W : World} {p : Nat} {z : Int} (h : AS w p z W) (o : Obj) : AS w p z (W.alloc o) := h.keep (below1 _ _)
theorem AS.drew {w W : World} {p : Nat} {z : Int} (h : AS w p z W) : AS w p z W.drew := h.keep (Below.refl _ _).drew
theorem AS.drewN {w W : World} {p : Nat} {z : Int} (h : AS w p z W) (q : Nat) : AS w p z (W.drewN q) := ⟨⟨⟨h.1.1.os, h.1.1.tape, h.1.1.output, h.1.1.size, h.1.1.block⟩, h.1.2⟩, h.2⟩
theorem cell_two0 (W : World) (x y : Value) (t : TypeId) : (W.alloc (.cells #[x, y] t)).cell? ⟨W.heap.size, 0, none⟩ = some x := by simp [go_sem]
theorem cell_two1 (W : World) (x y : Value) (t : TypeId) : (W.alloc (.cells #[x, y] t)).cell? ⟨W.heap.size, 1, none⟩ = some y := by simp [go_sem]
theorem eq_two {W : World} {B g cap H c2 x y : Nat} (h : W.ownsRow B 3 1 (.slice (some ⟨g, 0, none⟩) 2 cap) 2 (ints [x, y])) (h0 : W.cell? ⟨H, 0, none⟩ = some (.int .i64 (x : Int))) (h1 : W.cell? ⟨H, 1, none⟩ = some (.int .i64 (y : Int))) :
    Calls Tryz.prog 19 #[.slice (some ⟨g, 0, none⟩) 2 cap, .slice (some ⟨H, 0, none⟩) 2 c2] W fun e W' => e = .returned (.bool true) ∧ ∃ q, W' = W.drewN q := by
  refine (Tryz.slices_Equal_int g 0 2 cap H 0 2 c2 [(x : Int), (y : Int)] [(x : Int), (y : Int)] W (by simp) (by simp) (by omega) (by omega) ?_ ?_).mono ?_
  · intro j hj
    rw [Nat.zero_add, h.cellAt j (by simpa using hj)]
    rcases j with _ | _ | j
    · rfl
    · rfl
    · simp at hj; omega
  · intro j hj
    rw [Nat.zero_add]
    rcases j with _ | _ | j
    · exact h0
    · exact h1
    · simp at hj; omega
  · rintro e W' ⟨rfl, hq⟩
    exact ⟨by simp, hq⟩

theorem eq_02 {W : World} {B g cap H c2 : Nat} (h : W.ownsRow B 3 1 (.slice (some ⟨g, 0, none⟩) 2 cap) 2 (ints [0, 2])) (h0 : W.cell? ⟨H, 0, none⟩ = some (.int .i64 0)) (h1 : W.cell? ⟨H, 1, none⟩ = some (.int .i64 2)) :
    Calls Tryz.prog 19 #[.slice (some ⟨g, 0, none⟩) 2 cap, .slice (some ⟨H, 0, none⟩) 2 c2] W fun e W' => e = .returned (.bool true) ∧ ∃ q, W' = W.drewN q := eq_two h h0 h1
theorem awk_next1 (W : World) : Calls Tryz.prog 15 #[.int .i64 2, .string ⟨#[48, 49, 49]⟩] W fun e w' => e = .returned (.tuple #[.string ⟨#[49, 48, 48]⟩, .int .i64 0]) ∧ Below W.heap.size W w' := by
  have h := next_any 2 [48, 49, 49] W (by simp)
  rw [show nextW 2 [48, 49, 49] = ([49, 48, 48], 0) by decide] at h
  exact h
theorem awk_next2 (W : World) : Calls Tryz.prog 15 #[.int .i64 2, .string ⟨#[49, 49, 49]⟩] W fun e w' => e = .returned (.tuple #[.string ⟨#[48, 48, 48, 48]⟩, .int .i64 0]) ∧ Below W.heap.size W w' := by
  have h := next_any 2 [49, 49, 49] W (by simp)
  rw [show nextW 2 [49, 49, 49] = ([48, 48, 48, 48], 0) by decide] at h
  exact h
theorem awk_rank (W : World) : Calls Tryz.prog 8 #[.int .i64 2, .string ⟨#[49, 48, 49]⟩] W (NumOut W 5 0) :=
  rank_good 2 [49, 48, 49] W (by omega) (by omega) (by simp) (by decide) (fun W => rank_short 2 [49, 48, 49] W (by omega) (by omega) (by simp) (by decide))
theorem awk_root (W : World) : Calls Tryz.prog 18 #[.string ⟨#[48, 49, 48, 49, 48, 49]⟩] W fun e w' => e = .returned (.tuple #[.string ⟨#[48, 49]⟩, .int .i64 3]) ∧ Below W.heap.size W w' := by
  have h := root_some [48, 49, 48, 49, 48, 49] W (by simp) (by simp)
  rw [show rootL [48, 49, 48, 49, 48, 49] = [48, 49] by decide, show rootN [48, 49, 48, 49, 48, 49] = 3 by decide] at h
  exact h
theorem awk_border (W : World) : Calls Tryz.prog 21 #[.string ⟨#[48, 49, 48, 49, 48]⟩] W fun e w' => e = .returned (.int .i64 3) ∧ Below W.heap.size W w' := by
  have h := border_any [48, 49, 48, 49, 48] W (by simp)
  rw [show bord [48, 49, 48, 49, 48] = 3 by decide] at h
  exact h
theorem awk_period (W : World) : Calls Tryz.prog 22 #[.string ⟨#[48, 49, 48, 49, 48]⟩] W fun e w' => e = .returned (.int .i64 2) ∧ Below W.heap.size W w' := by
  have h := period_any [48, 49, 48, 49, 48] W (by simp)
  rw [show per [48, 49, 48, 49, 48] = 2 by decide] at h
  exact h
theorem awk_find (W : World) : Calls Tryz.prog 20 #[.string ⟨#[48, 49, 48, 49, 48]⟩, .string ⟨#[48, 49, 48]⟩] W fun e w' => ∃ g cap, e = .returned (.slice (some ⟨g, 0, none⟩) 2 cap) ∧ w'.ownsRow W.heap.size 3 1 (.slice (some ⟨g, 0, none⟩) 2 cap) 2 (ints [0, 2]) ∧ Below W.heap.size W w' := by
  have h := find_any [48, 49, 48, 49, 48] [48, 49, 48] W (by simp) (by simp)
  rw [show occ [48, 49, 48, 49, 48] [48, 49, 48] = [0, 2] by decide] at h
  refine h.mono ?_
  rintro e w' ⟨v, rfl, h1, h2⟩
  obtain ⟨g, cap, rfl, -, -⟩ := h1.form (by decide)
  exact ⟨g, cap, rfl, h1, h2⟩
theorem max_three {P : Program} (w : World) (ts : Array TypeId) (t : TypeId) (k : IntKind) (x y z : Int) :
    (Builtin.max_ ts t #[.int k x, .int k y, .int k z]).run P w = .ok (.int k (max (max x y) z)) w := by
  have e : ∀ x y : Int, (if y > x then y else x) = max x y := fun x y => by
    rw [Int.max_def]
    split <;> split <;> omega
  simp [Builtin.max_, Builtin.max2, e]
attribute [go_sem] max_three
set_option maxRecDepth 100000 in
set_option maxHeartbeats 6400000 in
theorem awake_any (w : World) : Calls Tryz.prog 7 #[] w fun e w' => e = .returned (.bool true) ∧ Below w.heap.size w w' := by
  go_enter Tryz.func7, Tryz.ntmps7
  go_wp2_with (first
    | (go_at_call 15; first
        | ((with_reducible refine (awk_next1 _).mono ?_); rintro e W1 ⟨rfl, b1⟩)
        | ((with_reducible refine (awk_next2 _).mono ?_); rintro e W2 ⟨rfl, b2⟩))
    | (go_at_call 8; (with_reducible refine (awk_rank _).mono ?_); rintro e W3 ⟨rfl, b3⟩)
    | (go_at_call 18; (with_reducible refine (awk_root _).mono ?_); rintro e W4 ⟨rfl, b4⟩))
  have K0 : AS w W3.heap.size 5 W4.drew := by
    have h1 := below_more (below_more b1 (Nat.le_refl _) b2) (Nat.le_refl _) b3
    have h2 : AS w W3.heap.size 5 (W3.alloc (.cells #[.bool (sg 5), .string (mg 5)] 23)) := ⟨⟨h1.alloc h1.size _, by rw [World.size_alloc]; have := h1.size; omega⟩, cell_two0 _ _ _ _, cell_two1 _ _ _ _⟩
    exact (h2.keep b4).drew
  have KA := Lib.hid K0
  clear K0 b1 b2 b3 b4
  generalize W3.heap.size = p at *
  go_region_held3 (fun W => W.cell? ⟨p, 0, none⟩ = some (.bool (sg 5)) ∧ W.cell? ⟨p, 1, none⟩ = some (.string (mg 5)))
    (first | with_reducible exact KA.out.cells | with_reducible exact KA.out.drew.cells | with_reducible exact (KA.out.alloc _).cells | with_reducible exact (KA.out.drewN _).cells)
    (first
      | (go_at_call 14; (with_reducible refine (iof_any 5 _ (by decide) (by decide)).mono ?_); rintro e X ⟨rfl, bX⟩; (have KA := Lib.hid (KA.out.keep bX)))
      | (go_at_call 20; (with_reducible refine (awk_find _).mono ?_); rintro e X ⟨g, cap, rfl, hown, bX⟩; (first | have KA := Lib.hid (KA.out.keep bX) | have KA := Lib.hid ((KA.out.alloc _).keep bX)))
      | (go_at_call 19; first
          | ((with_reducible refine (eq_02 (hown.alloc _) (cell_two0 _ _ _ _) (cell_two1 _ _ _ _)).mono ?_); rintro e X2 ⟨rfl, q, rfl⟩; (have KA := Lib.hid ((KA.out.alloc (.cells #[.int .i64 0, .int .i64 2] 3)).drewN q)))
          | ((with_reducible refine (eq_02 hown (cell_keep (cell_two0 _ _ _ _) bX) (cell_keep (cell_two1 _ _ _ _) bX)).mono ?_); rintro e X2 ⟨rfl, q, rfl⟩; (have KA := Lib.hid (KA.out.drewN q))))
      | (go_at_call 21; (with_reducible refine (awk_border _).mono ?_); rintro e X3 ⟨rfl, bX⟩; (have KA := Lib.hid (KA.out.keep bX)))
      | (go_at_call 22; (with_reducible refine (awk_period _).mono ?_); rintro e X4 ⟨rfl, bX⟩; (have KA := Lib.hid (KA.out.keep bX))))
  all_goals
    go_wp2
    go_ret
    exact ⟨rfl, KA.out.below⟩
end Go.Proofs.YtigdjlhihhakmaaGreatDoor

namespace Go.Proofs.YtigdjlhihhakmaaGreatDoor
open Go.RowKit
set_option linter.unusedSimpArgs false
set_option linter.unusedVariables false

theorem Tryz.infoStr : (Tryz.prog.info? 9).map (fun i => (i.zero, i.size, i.bytes)) = some (some (.string ⟨#[]⟩), 1, 16) := by kernel_rfl
def strs (l : List (List UInt8)) : List Value := l.map fun s => .string ⟨s.toArray⟩
theorem strs_len (l : List (List UInt8)) : (strs l).length = l.length := List.length_map _
theorem strs_snoc (l : List (List UInt8)) (s : List UInt8) : strs (l ++ [s]) = strs l ++ [.string ⟨s.toArray⟩] := by unfold strs; rw [List.map_append]; rfl
/-- A list of strings in memory. -/
def StrsAt (W : World) (B : Nat) (v : Value) (l : List (List UInt8)) : Prop := W.ownsRow B 9 1 v l.length (strs l)
theorem StrsAt.keep {W W' : World} {B : Nat} {v : Value} {l : List (List UInt8)} (h : StrsAt W B v l) (hb : Below W.heap.size W W') : StrsAt W' B v l := World.ownsRow.kept h (grown_none hb) (by cases v.ownBlock <;> simp)
theorem StrsAt.slice {W : World} {B : Nat} {v : Value} {l : List (List UInt8)} (h : StrsAt W B v l) : ∃ a c, v = .slice a l.length c := by
  rcases h.2 with ⟨h1, h2⟩ | ⟨g, cap, cur, h1, _⟩
  · exact ⟨none, 0, by rw [h1, h2]⟩
  · exact ⟨_, _, h1⟩
/-- What is wrong with a length. -/
def chkL (q n : Int) : Int := if 1 ≤ q ∧ q ≤ 16 then (if n < 0 then 2 else if 65536 < n then 4 else 0) else 12
set_option maxRecDepth 100000 in
set_option maxHeartbeats 1600000 in
theorem checkLength_any (q n : Int) (w : World) :
    Calls Tryz.prog 29 #[.int .i64 q, .int .i64 n] w fun e w' => e = .returned (.int .i64 (chkL q n)) ∧ w' = w := by
  have HA := Lib.hid (fun W => isAlphabet_any q W)
  by_cases hq : 1 ≤ q ∧ q ≤ 16
  · have ea : (decide (1 ≤ q) && decide (q ≤ 16)) = true := by rw [decide_eq_true hq.1, decide_eq_true hq.2]; rfl
    simp only [ea] at HA
    rcases (show n < 0 ∨ (0 ≤ n ∧ 65536 < n) ∨ (0 ≤ n ∧ n ≤ 65536) by omega) with h | ⟨h, h2⟩ | ⟨h, h2⟩
    · have HC := Lib.hid (show chkL q n = 2 by unfold chkL; rw [if_pos hq, if_pos h])
      clear ea hq
      go_enter Tryz.func29, Tryz.ntmps29
      go_wp2_with (go_at_call 44; (with_reducible refine (HA.out _).mono ?_); rintro e W1 ⟨rfl, rfl⟩)
      go_ret
      exact ⟨by rw [HC.out]; rfl, rfl⟩
    · have HC := Lib.hid (show chkL q n = 4 by unfold chkL; rw [if_pos hq, if_neg (by omega), if_pos h2])
      clear ea hq
      go_enter Tryz.func29, Tryz.ntmps29
      go_wp2_with (go_at_call 44; (with_reducible refine (HA.out _).mono ?_); rintro e W1 ⟨rfl, rfl⟩)
      go_ret
      exact ⟨by rw [HC.out]; rfl, rfl⟩
    · have HC := Lib.hid (show chkL q n = 0 by unfold chkL; rw [if_pos hq, if_neg (by omega), if_neg (by omega)])
      clear ea hq
      go_enter Tryz.func29, Tryz.ntmps29
      go_wp2_with (go_at_call 44; (with_reducible refine (HA.out _).mono ?_); rintro e W1 ⟨rfl, rfl⟩)
      go_ret
      exact ⟨by rw [HC.out]; rfl, rfl⟩
  · have ea : (decide (1 ≤ q) && decide (q ≤ 16)) = false := by
      rw [Bool.and_eq_false_iff]
      by_cases h : 1 ≤ q
      · exact Or.inr (decide_eq_false (fun h2 => hq ⟨h, h2⟩))
      · exact Or.inl (decide_eq_false h)
    have HC := Lib.hid (show chkL q n = 12 by unfold chkL; rw [if_neg hq])
    simp only [ea] at HA
    clear ea hq
    go_enter Tryz.func29, Tryz.ntmps29
    go_wp2_with (go_at_call 44; (with_reducible refine (HA.out _).mono ?_); rintro e W1 ⟨rfl, rfl⟩)
    go_ret
    exact ⟨by rw [HC.out]; rfl, rfl⟩
set_option maxRecDepth 100000 in
set_option maxHeartbeats 1600000 in
theorem isShortList_any (q n : Nat) (w : World) (q1 : 1 ≤ q) (q2 : q ≤ 16) (hn : n ≤ 1000) :
    Calls Tryz.prog 38 #[.int .i64 (q : Int), .int .i64 (n : Int)] w fun e w' => e = .returned (.bool (decide (q ^ n ≤ 4096))) ∧ w' = w := by
  go_enter Tryz.func38, Tryz.ntmps38
  go_wp2_with fail
  go_loopg [5, 7] n (fun g s5 s7 wx => wx = w ∧ ∃ i m : Nat, i + g = n ∧ s7 = .int .i64 (i : Int) ∧ s5 = .int .i64 (m : Int) ∧ m ≤ 4096 ∧ Hid (q ^ i = m))
  case atStart => exact ⟨rfl, 0, 1, by omega, rfl, rfl, by omega, rfl⟩
  case round =>
    obtain ⟨rfl, i, m, hi, rfl, rfl, hm, Hm⟩ := hrel
    rcases gk with _ | g
    · obtain rfl : i = n := by omega
      have HD := Lib.hid (show decide (q ^ i ≤ 4096) = true by rw [Hm.out]; exact decide_eq_true hm)
      clear Hm
      go_wp2
      go_ret
      exact ⟨by rw [HD.out]; rfl, rfl⟩
    · obtain ⟨t, ht⟩ : ∃ t : Nat, m * q = t := ⟨_, rfl⟩
      have htb : t ≤ 65536 := by rw [← ht]; exact Nat.le_trans (Nat.mul_le_mul hm q2) (by decide)
      have hmul : (m : Int) * (q : Int) = (t : Int) := by rw [← ht, Int.natCast_mul]
      have Ht := Lib.hid (show q ^ (i + 1) = t by rw [Nat.pow_succ, Hm.out, ht])
      clear ht
      by_cases h4 : t ≤ 4096
      · go_wp2
        go_roundg g
        case measure => omega
        case rel => exact ⟨rfl, i + 1, t, by omega, by go_num, rfl, h4, Ht⟩
      · have HD := Lib.hid (show decide (q ^ n ≤ 4096) = false by
          rw [decide_eq_false_iff_not]
          have := Nat.pow_le_pow_right q1 (show i + 1 ≤ n by omega)
          rw [Ht.out] at this
          omega)
        clear Hm
        go_wp2
        go_ret
        exact ⟨by rw [HD.out]; rfl, rfl⟩

/-- All words of a length, in their order. -/
def wordsTo (q n m : Nat) : List (List UInt8) := (List.range m).map (unrk q n)
theorem wordsTo_len (q n m : Nat) : (wordsTo q n m).length = m := by unfold wordsTo; rw [List.length_map, List.length_range]
theorem wordsTo_succ (q n m : Nat) : wordsTo q n (m + 1) = wordsTo q n m ++ [unrk q n m] := by unfold wordsTo; rw [List.range_succ, List.map_append]; rfl
theorem unrk_zero (q n : Nat) (q1 : 1 ≤ q) : unrk q n 0 = List.replicate n 48 := by
  induction n with
  | zero => rfl
  | succ n ih => rw [unrk, Nat.zero_div, Nat.zero_mod, ih, List.replicate_succ']; rfl
theorem nxt_unrk {q n i : Nat} (q1 : 1 ≤ q) (q2 : q ≤ 16) (hi : i < q ^ n) : nxt q (unrk q n i) = if i + 1 < q ^ n then some (unrk q n (i + 1)) else none := by
  have hw := unrk_word q1 q2 n i
  have hk := rk_unrk q1 q2 n i hi
  have hl := unrk_len q n i
  cases h : nxt q (unrk q n i) with
  | none =>
    have := nxt_none q1 q2 h
    rw [hk, hl] at this
    rw [if_neg (by omega)]
  | some v =>
    obtain ⟨h1, h2, h3⟩ := nxt_some q1 q2 hw h
    have h4 := rk_lt h1
    rw [hl] at h2
    rw [h2, h3, hk] at h4
    have h5 := unrk_rk q2 n v h2 h1
    rw [h3, hk] at h5
    rw [if_pos h4, h5]
/-- What All returns. -/
def allR (q n : Int) : List (List UInt8) × Int :=
  if chkL q n = 0 then (if q.toNat ^ n.toNat ≤ 4096 then (wordsTo q.toNat n.toNat (q.toNat ^ n.toNat), 0) else ([], 4)) else ([], chkL q n)
def AllOut (w : World) (r : List (List UInt8) × Int) (e : Ending) (w' : World) : Prop := ∃ v, e = .returned (.tuple #[v, .int .i64 r.2]) ∧ StrsAt w' w.heap.size v r.1 ∧ Below w.heap.size w w'
theorem chkL_zero {q n : Int} (h : chkL q n = 0) : ∃ m k : Nat, q = (m : Int) ∧ n = (k : Int) ∧ 1 ≤ m ∧ m ≤ 16 ∧ k ≤ 65536 := by
  unfold chkL at h
  split at h
  · next h1 =>
    split at h
    · cases h
    · split at h
      · cases h
      · exact ⟨q.toNat, n.toNat, by omega, by omega, by omega, by omega, by omega⟩
  · cases h
theorem strs_nil (W : World) (B : Nat) : StrsAt W B (.slice none 0 0) [] := World.ownsRow_nil _ _ _ _
set_option maxRecDepth 100000 in
set_option maxHeartbeats 3200000 in
theorem all_err (q n : Int) (w : World) (h : chkL q n ≠ 0) :
    Calls Tryz.prog 12 #[.int .i64 q, .int .i64 n] w (AllOut w (allR q n)) := by
  have HX := Lib.hid (show allR q n = ([], chkL q n) by unfold allR; rw [if_neg h])
  rw [HX.out]
  have HC := Lib.hid (fun W => checkLength_any q n W)
  obtain ⟨c, hc⟩ : ∃ c, chkL q n = c := ⟨_, rfl⟩
  simp only [hc] at HC
  rw [hc] at h ⊢
  have h1 : (c == 0) = false := by rw [beq_eq_false_iff_ne]; exact h
  clear hc h HX
  go_enter Tryz.func12, Tryz.ntmps12
  go_wp2_with (go_at_call 29; (with_reducible refine (HC.out _).mono ?_); rintro e W1 ⟨rfl, rfl⟩)
  exact bodyPost_ret (v := .tuple #[.slice none 0 0, .int .i64 c]) (by simp [results, Tryz.results12, go_sem]) rfl ⟨_, rfl, strs_nil _ _, Below.refl _ _⟩
set_option maxRecDepth 100000 in
set_option maxHeartbeats 3200000 in
theorem all_many (q n : Nat) (w : World) (q1 : 1 ≤ q) (q2 : q ≤ 16) (hn : n ≤ 1000) (h0 : chkL (q : Int) (n : Int) = 0) (h : 4096 < q ^ n) :
    Calls Tryz.prog 12 #[.int .i64 (q : Int), .int .i64 (n : Int)] w (AllOut w (allR (q : Int) (n : Int))) := by
  have HX := Lib.hid (show allR (q : Int) (n : Int) = ([], 4) by unfold allR; rw [if_pos h0, Int.toNat_natCast, Int.toNat_natCast, if_neg (by omega)])
  rw [HX.out]
  have HC := Lib.hid (fun W => checkLength_any (q : Int) (n : Int) W)
  simp only [h0] at HC
  have HS := Lib.hid (fun W => isShortList_any q n W q1 q2 hn)
  simp only [decide_eq_false (Nat.not_le.2 h)] at HS
  clear h0 h HX
  go_enter Tryz.func12, Tryz.ntmps12
  go_wp2_with (first | (go_at_call 29; (with_reducible refine (HC.out _).mono ?_); rintro e W1 ⟨rfl, rfl⟩) | (go_at_call 38; (with_reducible refine (HS.out _).mono ?_); rintro e W1 ⟨rfl, rfl⟩))
  exact bodyPost_ret (v := .tuple #[.slice none 0 0, .int .i64 4]) (by simp [results, Tryz.results12, go_sem]) rfl ⟨_, rfl, strs_nil _ _, Below.refl _ _⟩
set_option maxRecDepth 100000 in
set_option maxHeartbeats 6400000 in
theorem all_few (q n : Nat) (w : World) (q1 : 1 ≤ q) (q2 : q ≤ 16) (hn : n ≤ 1000) (h0 : chkL (q : Int) (n : Int) = 0) (h : q ^ n ≤ 4096) :
    Calls Tryz.prog 12 #[.int .i64 (q : Int), .int .i64 (n : Int)] w (AllOut w (allR (q : Int) (n : Int))) := by
  have HX := Lib.hid (show allR (q : Int) (n : Int) = (wordsTo q n (q ^ n), 0) by unfold allR; rw [if_pos h0, Int.toNat_natCast, Int.toNat_natCast, if_pos h])
  rw [HX.out]
  obtain ⟨i0, hi, hz0, hz1, hz2⟩ := info_parts Tryz.infoStr
  have HC := Lib.hid (fun W => checkLength_any (q : Int) (n : Int) W)
  simp only [h0] at HC
  have HS := Lib.hid (fun W => isShortList_any q n W q1 q2 hn)
  simp only [decide_eq_true h] at HS
  have HL := Lib.hid (fun W => least_any n W (by omega))
  simp only [← unrk_zero q n q1] at HL
  have hpos : 0 < q ^ n := Nat.pow_pos q1
  have HU := Lib.hid (fun i W => successor_any q (unrk q n i) W q1 q2 (by rw [unrk_len]; omega) (unrk_word q1 q2 n i))
  have HN := Lib.hid (fun i (hi : i < q ^ n) => nxt_unrk q1 q2 hi)
  obtain ⟨M, hM⟩ : ∃ M, q ^ n = M := ⟨_, rfl⟩
  rw [hM] at h hpos HN ⊢
  clear h0 HX hM
  go_enter Tryz.func12, Tryz.ntmps12
  go_wp2_with (first | (go_at_call 29; (with_reducible refine (HC.out _).mono ?_); rintro e W1 ⟨rfl, hW⟩; (rw [hW]); (clear hW)) | (go_at_call 38; (with_reducible refine (HS.out _).mono ?_); rintro e W1 ⟨rfl, hW⟩; (rw [hW]); (clear hW)) | (go_at_call 39; (with_reducible refine (HL.out _).mono ?_); rintro e W1 ⟨rfl, b1⟩))
  go_loopg [7, 8, 9] M (fun g s7 s8 s9 wx => ∃ i : Nat, i + g = M ∧ s8 = .string ⟨((if i < M then some (unrk q n i) else none).getD []).toArray⟩ ∧ s9 = .bool (if i < M then some (unrk q n i) else none).isSome ∧ wx.ownsRow w.heap.size 9 1 s7 (wordsTo q n i).length (strs (wordsTo q n i)) ∧ Below w.heap.size w wx)
  case atStart => exact ⟨0, by omega, by rw [if_pos hpos]; rfl, by rw [if_pos hpos]; rfl, World.ownsRow_nil _ _ _ _, b1⟩
  case round =>
    obtain ⟨i, hiM, rfl, rfl, hown, hb⟩ := hrel
    rcases gk with _ | g
    · obtain rfl : i = M := by omega
      rw [if_neg (by omega)]
      have hown2 : StrsAt wr w.heap.size u7 (wordsTo q n i) := hown
      obtain ⟨a, c, rfl⟩ := hown2.slice
      clear hown
      dsimp only [Option.isSome, Option.getD]
      go_wp2
      exact bodyPost_ret (v := .tuple #[.slice a (wordsTo q n i).length c, .int .i64 0]) (by simp [results, Tryz.results12, go_sem]) rfl ⟨_, rfl, hown2, hb⟩
    · rw [if_pos (by omega)]
      dsimp only [Option.isSome, Option.getD]
      have hlt := hown.lt
      have hwl := wordsTo_len q n i
      have HWS := Lib.hid (wordsTo_succ q n i)
      obtain ⟨O, hO⟩ : ∃ O, (if i + 1 < M then some (unrk q n (i + 1)) else none) = O := ⟨_, rfl⟩
      have HNi := Lib.hid (HN.out i (by omega))
      rw [hO] at HNi
      have HO := Lib.hid hO
      clear hO
      obtain ⟨U, hU⟩ : ∃ U, unrk q n i = U := ⟨_, rfl⟩
      have HUi := Lib.hid (HU.out i)
      simp only [hU] at HUi
      rw [hU] at HWS HNi ⊢
      have hbs := hb.size
      clear hU
      go_wp2_with (first
        | (go_at_call 40; (with_reducible refine (HUi.out _).mono ?_); rintro e W3 ⟨rfl, b3⟩; (rw [HNi.out]))
        | (at_builtin; refine wpList_append_own_at _ rfl _ _ 33 rfl w.heap.size 9 i0 (.string ⟨#[]⟩) 1 16 Tryz.underlying33 hi hz0 hz1 hz2 rfl (by decide) _ _ _ rfl (hown.alloc _) ⟨wr.heap.size, 0, none⟩ 1 1 [.string ⟨U.toArray⟩] rfl rfl (cell_one_new _ _ _) (by intro u hu; simp at hu; subst hu; rfl) (by unfold maxLen; omega) (by omega) (by rw [World.size_alloc]; omega) ?_; intro v' W2 hown2 hgrow _ hv'; (have hb2 : Below w.heap.size w W2 := (hb.alloc hbs _).grown hgrow (by rw [World.size_alloc]; omega) (fun k hk => (hlt k hk).1))))
      have hown3 : W3.ownsRow w.heap.size 9 1 v' (wordsTo q n (i + 1)).length (strs (wordsTo q n (i + 1))) := by
        rw [HWS.out, strs_snoc, List.length_append, List.length_singleton]
        exact hown2.kept (grown_none b3) (by cases v'.ownBlock <;> simp)
      have hb3 := below_more hb2 (Nat.le_refl _) b3
      clear hown hown2 hgrow hlt hv' hb hb2

      go_roundg g
      case measure => omega
      case rel => exact ⟨i + 1, by omega, by rw [HO.out], by rw [HO.out], hown3, hb3⟩
end Go.Proofs.YtigdjlhihhakmaaGreatDoor
