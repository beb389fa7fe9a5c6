/- What awake returns: true. No condition. -/
import Derived.Test.YtigdjlhihhakmaaDoorWh
import Derived.Test.YtigdjlhihhakmaaDoorWf
import Derived.Test.YtigdjlhihhakmaaDoorIchk
namespace Go.Proofs.YtigdjlhihhakmaaDoor
open Go.RowKit
set_option linter.unusedSimpArgs false
set_option linter.unusedVariables false

theorem eqlIntW (a b : Bool) (s t : ByteArray) (w : World) : (binOp .eql 43 (.agg #[.bool a, .string s]) (.agg #[.bool b, .string t])).run Tryd.prog w = .ok (.bool (a == b && s.toList == t.toList)) w := by
  rw [run_eql_struct, run_equalIn_agg w 9999 43 _ _ (by kernel_rfl) (by kernel_rfl), Tryd.fieldsInt]
  simp only [Op.eqFields]
  rw [if_pos (by decide)]
  rw [if_pos (by decide)]
  simp only [Sem.run_bind, part0, eq0, Result.andThen]
  cases a == b
  · rfl
  · simp only [Bool.not_true, Bool.true_and, if_neg (show ¬ (false = true) by decide), Sem.run_bind, part1, eq1, Result.andThen]
    cases s.toList == t.toList <;> rfl
attribute [local go_sem ↓] eqlIntW
/-- What awake keeps while it compares: the variable of an integer. -/
def AS (w : World) (p : Nat) (z : Int) (W : World) : Prop := (Below w.heap.size w W ∧ w.heap.size ≤ W.heap.size) ∧ W.cell? ⟨p, 0, none⟩ = some (.bool (sg z)) ∧ W.cell? ⟨p, 1, none⟩ = some (.string (mg z))
theorem AS.cells {w W : World} {p : Nat} {z : Int} (h : AS w p z W) : W.cell? ⟨p, 0, none⟩ = some (.bool (sg z)) ∧ W.cell? ⟨p, 1, none⟩ = some (.string (mg z)) := h.2
theorem AS.below {w W : World} {p : Nat} {z : Int} (h : AS w p z W) : Below w.heap.size w W := h.1.1
theorem AS.keep {w W X : World} {p : Nat} {z : Int} (h : AS w p z W) (b : Below W.heap.size W X) : AS w p z X :=
  ⟨⟨below_more h.1.1 (Nat.le_refl _) b, Nat.le_trans h.1.2 b.size⟩, cell_keep h.2.1 b, cell_keep h.2.2 b⟩
theorem AS.alloc {w W : World} {p : Nat} {z : Int} (h : AS w p z W) (o : Obj) : AS w p z (W.alloc o) := h.keep (below1 _ _)
theorem AS.drew {w W : World} {p : Nat} {z : Int} (h : AS w p z W) : AS w p z W.drew := h.keep (Below.refl _ _).drew
theorem AS.drewN {w W : World} {p : Nat} {z : Int} (h : AS w p z W) (q : Nat) : AS w p z (W.drewN q) := ⟨⟨⟨h.1.1.os, h.1.1.tape, h.1.1.output, h.1.1.size, h.1.1.block⟩, h.1.2⟩, h.2⟩
theorem cell_two0 (W : World) (x y : Value) (t : TypeId) : (W.alloc (.cells #[x, y] t)).cell? ⟨W.heap.size, 0, none⟩ = some x := by simp [go_sem]
theorem cell_two1 (W : World) (x y : Value) (t : TypeId) : (W.alloc (.cells #[x, y] t)).cell? ⟨W.heap.size, 1, none⟩ = some y := by simp [go_sem]
theorem eq_two {W : World} {B g cap H c2 x y : Nat} (h : W.ownsRow B 3 1 (.slice (some ⟨g, 0, none⟩) 2 cap) 2 (ints [x, y])) (h0 : W.cell? ⟨H, 0, none⟩ = some (.int .i64 (x : Int))) (h1 : W.cell? ⟨H, 1, none⟩ = some (.int .i64 (y : Int))) :
    Calls Tryd.prog 22 #[.slice (some ⟨g, 0, none⟩) 2 cap, .slice (some ⟨H, 0, none⟩) 2 c2] W fun e W' => e = .returned (.bool true) ∧ ∃ q, W' = W.drewN q := by
  refine (Tryd.slices_Equal_int g 0 2 cap H 0 2 c2 [(x : Int), (y : Int)] [(x : Int), (y : Int)] W (by simp) (by simp) (by omega) (by omega) ?_ ?_).mono ?_
  · intro j hj
    rw [Nat.zero_add, h.cellAt j (by simpa using hj)]
    rcases j with _ | _ | j
    · rfl
    · rfl
    · simp at hj; omega
  · intro j hj
    rw [Nat.zero_add]
    rcases j with _ | _ | j
    · exact h0
    · exact h1
    · simp at hj; omega
  · rintro e W' ⟨rfl, hq⟩
    exact ⟨by simp, hq⟩

theorem eq_02 {W : World} {B g cap H c2 : Nat} (h : W.ownsRow B 3 1 (.slice (some ⟨g, 0, none⟩) 2 cap) 2 (ints [0, 2])) (h0 : W.cell? ⟨H, 0, none⟩ = some (.int .i64 0)) (h1 : W.cell? ⟨H, 1, none⟩ = some (.int .i64 2)) :
    Calls Tryd.prog 22 #[.slice (some ⟨g, 0, none⟩) 2 cap, .slice (some ⟨H, 0, none⟩) 2 c2] W fun e W' => e = .returned (.bool true) ∧ ∃ q, W' = W.drewN q := eq_two h h0 h1
theorem awk_next1 (W : World) : Calls Tryd.prog 15 #[.int .i64 2, .string ⟨#[48, 49, 49]⟩] W fun e w' => e = .returned (.tuple #[.string ⟨#[49, 48, 48]⟩, .int .i64 0]) ∧ Below W.heap.size W w' := by
  have h := next_any 2 [48, 49, 49] W (by simp)
  rw [show nextW 2 [48, 49, 49] = ([49, 48, 48], 0) by decide] at h
  exact h
theorem awk_next2 (W : World) : Calls Tryd.prog 15 #[.int .i64 2, .string ⟨#[49, 49, 49]⟩] W fun e w' => e = .returned (.tuple #[.string ⟨#[48, 48, 48, 48]⟩, .int .i64 0]) ∧ Below W.heap.size W w' := by
  have h := next_any 2 [49, 49, 49] W (by simp)
  rw [show nextW 2 [49, 49, 49] = ([48, 48, 48, 48], 0) by decide] at h
  exact h
theorem awk_rank (W : World) : Calls Tryd.prog 31 #[.int .i64 2, .string ⟨#[49, 48, 49]⟩] W (NumOut W 5 0) :=
  rank_good 2 [49, 48, 49] W (by omega) (by omega) (by simp) (by decide) (fun W => rank_short 2 [49, 48, 49] W (by omega) (by omega) (by simp) (by decide))
theorem awk_root (W : World) : Calls Tryd.prog 20 #[.string ⟨#[48, 49, 48, 49, 48, 49]⟩] W fun e w' => e = .returned (.tuple #[.string ⟨#[48, 49]⟩, .int .i64 3]) ∧ Below W.heap.size W w' := by
  have h := root_some [48, 49, 48, 49, 48, 49] W (by simp) (by simp)
  rw [show rootL [48, 49, 48, 49, 48, 49] = [48, 49] by decide, show rootN [48, 49, 48, 49, 48, 49] = 3 by decide] at h
  exact h
theorem awk_border (W : World) : Calls Tryd.prog 25 #[.string ⟨#[48, 49, 48, 49, 48]⟩] W fun e w' => e = .returned (.int .i64 3) ∧ Below W.heap.size W w' := by
  have h := border_any [48, 49, 48, 49, 48] W (by simp)
  rw [show bord [48, 49, 48, 49, 48] = 3 by decide] at h
  exact h
theorem awk_period (W : World) : Calls Tryd.prog 27 #[.string ⟨#[48, 49, 48, 49, 48]⟩] W fun e w' => e = .returned (.int .i64 2) ∧ Below W.heap.size W w' := by
  have h := period_any [48, 49, 48, 49, 48] W (by simp)
  rw [show per [48, 49, 48, 49, 48] = 2 by decide] at h
  exact h
theorem awk_find (W : World) : Calls Tryd.prog 23 #[.string ⟨#[48, 49, 48, 49, 48]⟩, .string ⟨#[48, 49, 48]⟩] W fun e w' => ∃ g cap, e = .returned (.slice (some ⟨g, 0, none⟩) 2 cap) ∧ w'.ownsRow W.heap.size 3 1 (.slice (some ⟨g, 0, none⟩) 2 cap) 2 (ints [0, 2]) ∧ Below W.heap.size W w' := by
  have h := find_any [48, 49, 48, 49, 48] [48, 49, 48] W (by simp) (by simp)
  rw [show occ [48, 49, 48, 49, 48] [48, 49, 48] = [0, 2] by decide] at h
  refine h.mono ?_
  rintro e w' ⟨v, rfl, h1, h2⟩
  obtain ⟨g, cap, rfl, -, -⟩ := h1.form (by decide)
  exact ⟨g, cap, rfl, h1, h2⟩
theorem max_three {P : Program} (w : World) (ts : Array TypeId) (t : TypeId) (k : IntKind) (x y z : Int) :
    (Builtin.max_ ts t #[.int k x, .int k y, .int k z]).run P w = .ok (.int k (max (max x y) z)) w := by
  have e : ∀ x y : Int, (if y > x then y else x) = max x y := fun x y => by
    rw [Int.max_def]
    split <;> split <;> omega
  simp [Builtin.max_, Builtin.max2, e]
attribute [go_sem] max_three
set_option maxRecDepth 100000 in
set_option maxHeartbeats 6400000 in
theorem awake_any (w : World) : Calls Tryd.prog 12 #[] w fun e w' => e = .returned (.bool true) ∧ Below w.heap.size w w' := by
  go_enter Tryd.func12, Tryd.ntmps12
  go_wp2_with (first
    | (go_at_call 15; first
        | ((with_reducible refine (awk_next1 _).mono ?_); rintro e W1 ⟨rfl, b1⟩)
        | ((with_reducible refine (awk_next2 _).mono ?_); rintro e W2 ⟨rfl, b2⟩))
    | (go_at_call 31; (with_reducible refine (awk_rank _).mono ?_); rintro e W3 ⟨rfl, b3⟩)
    | (go_at_call 20; (with_reducible refine (awk_root _).mono ?_); rintro e W4 ⟨rfl, b4⟩))
  have K0 : AS w W3.heap.size 5 W4.drew := by
    have h1 := below_more (below_more b1 (Nat.le_refl _) b2) (Nat.le_refl _) b3
    have h2 : AS w W3.heap.size 5 (W3.alloc (.cells #[.bool (sg 5), .string (mg 5)] 43)) := ⟨⟨h1.alloc h1.size _, by rw [World.size_alloc]; have := h1.size; omega⟩, cell_two0 _ _ _ _, cell_two1 _ _ _ _⟩
    exact (h2.keep b4).drew
  have KA := Lib.hid K0
  clear K0 b1 b2 b3 b4
  generalize W3.heap.size = p at *
  go_region_held3 (fun W => W.cell? ⟨p, 0, none⟩ = some (.bool (sg 5)) ∧ W.cell? ⟨p, 1, none⟩ = some (.string (mg 5)))
    (first | with_reducible exact KA.out.cells | with_reducible exact KA.out.drew.cells | with_reducible exact (KA.out.alloc _).cells | with_reducible exact (KA.out.drewN _).cells)
    (first
      | (go_at_call 34; (with_reducible refine (iof_any 5 _ (by decide) (by decide)).mono ?_); rintro e X ⟨rfl, bX⟩; (have KA := Lib.hid (KA.out.keep bX)))
      | (go_at_call 23; (with_reducible refine (awk_find _).mono ?_); rintro e X ⟨g, cap, rfl, hown, bX⟩; (first | have KA := Lib.hid (KA.out.keep bX) | have KA := Lib.hid ((KA.out.alloc _).keep bX)))
      | (go_at_call 22; first
          | ((with_reducible refine (eq_02 (hown.alloc _) (cell_two0 _ _ _ _) (cell_two1 _ _ _ _)).mono ?_); rintro e X2 ⟨rfl, q, rfl⟩; (have KA := Lib.hid ((KA.out.alloc (.cells #[.int .i64 0, .int .i64 2] 3)).drewN q)))
          | ((with_reducible refine (eq_02 hown (cell_keep (cell_two0 _ _ _ _) bX) (cell_keep (cell_two1 _ _ _ _) bX)).mono ?_); rintro e X2 ⟨rfl, q, rfl⟩; (have KA := Lib.hid (KA.out.drewN q))))
      | (go_at_call 25; (with_reducible refine (awk_border _).mono ?_); rintro e X3 ⟨rfl, bX⟩; (have KA := Lib.hid (KA.out.keep bX)))
      | (go_at_call 27; (with_reducible refine (awk_period _).mono ?_); rintro e X4 ⟨rfl, bX⟩; (have KA := Lib.hid (KA.out.keep bX))))
  all_goals
    go_wp2
    go_ret
    exact ⟨rfl, KA.out.below⟩
end Go.Proofs.YtigdjlhihhakmaaDoor
