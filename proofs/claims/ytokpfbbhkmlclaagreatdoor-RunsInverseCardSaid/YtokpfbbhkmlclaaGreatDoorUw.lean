/- What groovelaw08.awake returns: true. No condition. -/
import Derived.Test.YtokpfbbhkmlclaaGreatDoorUr
import Derived.Test.YtokpfbbhkmlclaaGreatDoorUs
namespace Go.Proofs.YtokpfbbhkmlclaaGreatDoor
open Go.RowKit
set_option linter.unusedSimpArgs false
set_option linter.unusedVariables false

/-- slices.Equal of a list and itself, in two rows. -/
theorem intsEq_any {W : World} {B B' : Nat} {v v' : Value} {l : List Int} (h : IntsAt W B v l) (h' : IntsAt W B' v' l) (hl : l.length ≤ 1000000) :
    Calls Tryz.prog 18 #[v, v'] W fun e w' => e = .returned (.bool true) ∧ Below W.heap.size W w' := by
  rcases Nat.eq_zero_or_pos l.length with h0 | h0
  · obtain ⟨a, c, rfl⟩ := h.slice
    obtain ⟨a', c', rfl⟩ := h'.slice
    rw [h0]
    refine (Tryz.slices_Equal_int_empty a a' c 0 c' W (by omega)).mono ?_
    rintro e w' ⟨rfl, h⟩
    exact ⟨by first | rfl | simp, by first | (subst h; exact Below.refl _ _) | (obtain ⟨q, rfl⟩ := h; exact below_drewM (Below.refl _ _) q)⟩
  · obtain ⟨g, c, rfl⟩ := h.row h0
    obtain ⟨g', c', rfl⟩ := h'.row h0
    have hc : ∀ {B : Nat} {g c : Nat}, IntsAt W B (.slice (some ⟨g, 0, none⟩) l.length c) l → ∀ j, j < l.length → W.cell? ⟨g, 0 + j, none⟩ = some (.int .i64 (l.getD j 0)) := fun hh j hj => by
      rw [Nat.zero_add, hh.cell (List.getElem?_eq_getElem hj), List.getD_eq_getElem?_getD, List.getElem?_eq_getElem hj]; rfl
    refine (Tryz.slices_Equal_int g 0 l.length c g' 0 l.length c' l l W (Nat.le_refl _) (Nat.le_refl _) (by omega) (by omega) (hc h) (hc h')).mono ?_
    rintro e w' ⟨rfl, q, rfl⟩
    exact ⟨by simp, below_drewM (Below.refl _ _) q⟩
theorem intsLit (W : World) (l : List Int) (h0 : 0 < l.length) (hl : l.length ≤ 1000) : IntsAt (W.alloc (.cells (intz l).toArray 3)) W.heap.size (.slice (some ⟨W.heap.size, 0, none⟩) l.length l.length) l :=
  ⟨by rw [intz_len, Nat.mul_one], .inr ⟨W.heap.size, l.length, (intz l).toArray, rfl, Nat.le_refl _, heap_alloc_new W _, Nat.le_refl _, by unfold maxLen; omega, by rw [List.size_toArray, intz_len, Nat.mul_one], by
    rw [Nat.mul_one]; show (intz l).take l.length = _; rw [← intz_len, List.take_length]⟩⟩
theorem runsLit (W : World) (rs : List (Int × Int)) (h0 : 0 < rs.length) (hl : rs.length ≤ 1000) : RunsAt (W.alloc (.cells (rcl rs).toArray 46)) W.heap.size (.slice (some ⟨W.heap.size, 0, none⟩) rs.length rs.length) rs :=
  ⟨by rw [rcl_len], .inr ⟨W.heap.size, rs.length, (rcl rs).toArray, rfl, Nat.le_refl _, heap_alloc_new W _, Nat.le_refl _, by unfold maxLen; omega, by rw [List.size_toArray, rcl_len], by
    show (rcl rs).take (rs.length * 2) = _; rw [← rcl_len, List.take_length]⟩⟩
/-- The chapter's example. -/
abbrev exW : List UInt8 := [48, 48, 49, 48, 49, 49, 49]
theorem awk_split (W : World) : Calls Tryz.prog 12 #[.string ⟨#[48, 48, 49, 48, 49, 49, 49]⟩] W fun e w' => ∃ a c, e = .returned (.tuple #[.slice a 4 c, .int .i64 0]) ∧ RunsAt w' W.heap.size (.slice a 4 c) [(0, 2), (1, 1), (0, 1), (1, 3)] ∧ Below W.heap.size W w' := by
  have h := split_good exW W (by decide) (by decide)
  rw [show rns exW = [(0, 2), (1, 1), (0, 1), (1, 3)] by decide] at h
  exact h
theorem awk_levels (W : World) : Calls Tryz.prog 7 #[.int .i64 0, .string ⟨#[48, 48, 49, 48, 49, 49, 49]⟩] W fun e w' => e = .returned (.tuple #[.string ⟨#[48, 48, 49, 49, 48, 49, 48]⟩, .int .i64 0]) ∧ Below W.heap.size W w' := by
  have h := levels_any 0 exW W (Or.inl (by decide))
  rw [show levR 0 exW = ([48, 48, 49, 49, 48, 49, 48], 0) by decide] at h
  exact h
theorem awk_charges (W : World) : Calls Tryz.prog 13 #[.string ⟨#[48, 48, 49, 48, 49, 49, 49]⟩] W fun e w' => ∃ g c, e = .returned (.tuple #[.slice (some ⟨g, 0, none⟩) 8 c, .int .i64 0]) ∧ IntsAt w' W.heap.size (.slice (some ⟨g, 0, none⟩) 8 c) [0, -1, -2, -1, -2, -1, 0, 1] ∧ Below W.heap.size W w' := by
  have h := charges_good exW W (by decide) (by decide)
  rw [show chgs exW = [0, -1, -2, -1, -2, -1, 0, 1] by decide] at h
  exact h
theorem awk_range (W : World) : Calls Tryz.prog 14 #[.string ⟨#[48, 48, 49, 48, 49, 49, 49]⟩] W fun e w' => e = .returned (.tuple #[.int .i64 (-2), .int .i64 1, .int .i64 0]) ∧ Below W.heap.size W w' := by
  have h := range_any exW W (Or.inl (by decide))
  rw [show rngR exW = (-2, 1, 0) by decide] at h
  exact h
theorem awk_disparity (W : World) : Calls Tryz.prog 15 #[.string ⟨#[48, 48, 49, 48, 49, 49, 49]⟩] W fun e w' => e = .returned (.tuple #[.int .i64 1, .int .i64 0]) ∧ Below W.heap.size W w' := by
  have h := disparity_any exW W (Or.inl (by decide))
  rw [show dspR exW = (1, 0) by decide] at h
  exact h
theorem awk_longest (W : World) : Calls Tryz.prog 16 #[.string ⟨#[48, 48, 49, 48, 49, 49, 49]⟩, .int .i64 1] W fun e w' => e = .returned (.tuple #[.int .i64 3, .int .i64 0]) ∧ Below W.heap.size W w' := by
  have h := longest_any exW 1 W (Or.inl (by decide))
  rw [show lonR exW 1 = (3, 0) by decide] at h
  exact h
theorem max_four {P : Program} (w : World) (ts : Array TypeId) (t : TypeId) (k : IntKind) (x y z u : Int) :
    (Builtin.max_ ts t #[.int k x, .int k y, .int k z, .int k u]).run P w = .ok (.int k (max (max (max x y) z) u)) w := by
  have e : ∀ x y : Int, (if y > x then y else x) = max x y := fun x y => by
    rw [Int.max_def]
    split <;> split <;> omega
  simp [Builtin.max_, Builtin.max2, e]
theorem max_five {P : Program} (w : World) (ts : Array TypeId) (t : TypeId) (k : IntKind) (x y z u v : Int) :
    (Builtin.max_ ts t #[.int k x, .int k y, .int k z, .int k u, .int k v]).run P w = .ok (.int k (max (max (max (max x y) z) u) v)) w := by
  have e : ∀ x y : Int, (if y > x then y else x) = max x y := fun x y => by
    rw [Int.max_def]
    split <;> split <;> omega
  simp [Builtin.max_, Builtin.max2, e]
theorem max_six {P : Program} (w : World) (ts : Array TypeId) (t : TypeId) (k : IntKind) (x y z u v q : Int) :
    (Builtin.max_ ts t #[.int k x, .int k y, .int k z, .int k u, .int k v, .int k q]).run P w = .ok (.int k (max (max (max (max (max x y) z) u) v) q)) w := by
  have e : ∀ x y : Int, (if y > x then y else x) = max x y := fun x y => by
    rw [Int.max_def]
    split <;> split <;> omega
  simp [Builtin.max_, Builtin.max2, e]
attribute [go_sem] max_four max_five max_six
set_option maxRecDepth 100000 in
set_option maxHeartbeats 6400000 in
theorem awake_any (w : World) : Calls Tryz.prog 6 #[] w fun e w' => e = .returned (.bool true) ∧ Below w.heap.size w w' := by
  go_enter Tryz.func6, Tryz.ntmps6
  go_wp2_with (first
    | (go_at_call 12; (with_reducible refine (awk_split _).mono ?_); rintro e W1 ⟨a1, c1, rfl, h1, b1⟩)
    | (go_at_call 7; (with_reducible refine (awk_levels _).mono ?_); rintro e W2 ⟨rfl, b2⟩)
    | (go_at_call 13; (with_reducible refine (awk_charges _).mono ?_); rintro e W3 ⟨g3, c3, rfl, h3, b3⟩)
    | (go_at_call 14; (with_reducible refine (awk_range _).mono ?_); rintro e W4 ⟨rfl, b4⟩)
    | (go_at_call 15; (with_reducible refine (awk_disparity _).mono ?_); rintro e W5 ⟨rfl, b5⟩)
    | (go_at_call 16; (with_reducible refine (awk_longest _).mono ?_); rintro e W6 ⟨rfl, b6⟩; (have HR := Lib.hid (((((h1.keep b2).keep b3).keep b4).keep b5).keep b6)); (have HI := Lib.hid (((h3.keep b4).keep b5).keep b6)); (have B6 := below_more (below_more (below_more (below_more (below_more b1 (Nat.le_refl _) b2) (Nat.le_refl _) b3) (Nat.le_refl _) b4) (Nat.le_refl _) b5) (Nat.le_refl _) b6); (clear h1 h3 b1 b2 b3 b4 b5 b6))
    | (go_at_call 17; (refine (same_any [(0, 2), (1, 1), (0, 1), (1, 3)] _ _ _ (HR.out.keep (below1 _ _)).rd (runsLit W6 [(0, 2), (1, 1), (0, 1), (1, 3)] (by decide) (by decide)).rd (by decide)).mono ?_); rintro e W7 ⟨rfl, b7⟩; (have B7 := below_more (B6.alloc B6.size _) (Nat.le_refl _) b7); (have HI7 := Lib.hid ((HI.out.keep (below1 _ _)).keep b7)))
    | (go_at_call 18; (refine (intsEq_any (HI7.out.keep (below1 _ _)) (intsLit W7 [0, -1, -2, -1, -2, -1, 0, 1] (by decide) (by decide)) (by decide)).mono ?_); rintro e W8 ⟨rfl, b8⟩; (have B8 := below_more (B7.alloc B7.size _) (Nat.le_refl _) b8)))
  go_ret
  exact ⟨rfl, B8⟩
end Go.Proofs.YtokpfbbhkmlclaaGreatDoor
