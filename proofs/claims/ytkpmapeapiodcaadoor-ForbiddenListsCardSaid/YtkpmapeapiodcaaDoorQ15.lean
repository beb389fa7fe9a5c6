/- What slices.Equal of words returns; that groovelaw14.awake returns true. Conditions: the words can be read, their number is that of a slice. What grooveref14.Great, strings.Contains, slices.Contains and slices.ContainsFunc with the functions of ForbiddenReduces return. Conditions: the words can be read; lengths are those of strings and slices; the library's MaxLen is there. What grooveref07.Digit and grooveref07.Check return (as in Ud, without the texts of layer 8). -/
import Derived.Test.YtkpmapeapiodcaaDoorQ14
import Derived.Test.YtkpmapeapiodcaaDoorQ06

namespace Go.Proofs.YtkpmapeapiodcaaDoor
open Go.RowKit Go.Shelf
set_option linter.unusedSimpArgs false
set_option linter.unusedVariables false

def bsW (x : Wd) : ByteArray := ⟨x.toArray⟩
theorem bsW_inj {x y : Wd} (h : bsW x = bsW y) : x = y := by
  have h1 := congrArg (fun b : ByteArray => b.data.toList) h
  simpa [bsW] using h1
theorem bsW_map {l m : List Wd} : l.map bsW = m.map bsW ↔ l = m := by
  constructor
  · intro h
    induction l generalizing m with
    | nil => cases m with
      | nil => rfl
      | cons b m => cases h
    | cons a l ih => cases m with
      | nil => cases h
      | cons b m =>
        rw [List.map_cons, List.map_cons] at h
        injection h with h1 h2
        rw [bsW_inj h1, ih h2]
  · intro h; rw [h]
theorem WdsRd.cells {W : World} {v : Value} {l : List Wd} (h : WdsRd W v l) (h0 : 0 < l.length) : ∃ b off c, v = .slice (some ⟨b, off, none⟩) l.length c ∧ ∀ j, j < (l.map bsW).length → W.cell? ⟨b, off + j, none⟩ = some (.string ((l.map bsW).getD j ByteArray.empty)) := by
  obtain ⟨b, off, c, hv, -⟩ := h.at (List.getElem?_eq_getElem h0)
  refine ⟨b, off, c, hv, fun j hj => ?_⟩
  rw [List.length_map] at hj
  obtain ⟨b2, off2, c2, hv2, k⟩ := h.at (List.getElem?_eq_getElem hj)
  rw [hv] at hv2
  injection hv2 with e1 e2 e3
  injection e1 with e1
  injection e1 with e1 e4
  subst e1
  subst e4
  rw [k, List.getD_eq_getElem?_getD, List.getElem?_map, List.getElem?_eq_getElem hj]
  rfl
set_option maxRecDepth 100000 in
set_option maxHeartbeats 3200000 in
theorem eqW_len (n m : Nat) (a1 a2 : Option Addr) (c d : Nat) (w : World) (hn : n ≤ 100000) (hm : m ≤ 100000) (h : n ≠ m) :
    Calls Tryd.prog 13 #[.slice a1 n c, .slice a2 m d] w fun e w' => e = .returned (.bool false) ∧ w' = w := by
  have hb : ((n : Int) == (m : Int)) = false := by rw [beq_eq_false_iff_ne]; omega
  go_enter Tryd.func13, Tryd.ntmps13
  go_wp2_with fail
  go_ret
  exact ⟨rfl, rfl⟩
theorem eqW_any (l m : List Wd) (v1 v2 : Value) (w : World) (h1 : WdsRd w v1 l) (h2 : WdsRd w v2 m) (hl : l.length ≤ 100000) (hm : m.length ≤ 100000) :
    Calls Tryd.prog 13 #[v1, v2] w fun e w' => e = .returned (.bool (decide (l = m))) ∧ Below w.heap.size w w' := by
  by_cases h : l.length = m.length
  · by_cases h0 : l.length = 0
    · obtain ⟨a1, c1, rfl⟩ := h1.form
      obtain ⟨a2, c2, rfl⟩ := h2.form
      have k := Tryd.slices_Equal_string_empty a1 a2 c1 m.length c2 w (by omega)
      rw [← h, h0] at k ⊢
      refine k.mono ?_
      rintro e w' ⟨rfl, rfl⟩
      have e1 := List.eq_nil_of_length_eq_zero h0
      have e2 := List.eq_nil_of_length_eq_zero (h.symm.trans h0)
      subst e1
      subst e2
      exact ⟨by simp, Below.refl _ _⟩
    · obtain ⟨b1, o1, c1, rfl, k1⟩ := h1.cells (by omega)
      obtain ⟨b2, o2, c2, rfl, k2⟩ := h2.cells (by omega)
      refine (Tryd.slices_Equal_string b1 o1 l.length c1 b2 o2 m.length c2 (l.map bsW) (m.map bsW) w (by rw [List.length_map]; exact Nat.le_refl _) (by rw [List.length_map]; exact Nat.le_refl _) (by omega) (by omega) k1 k2).mono ?_
      rintro e w' ⟨rfl, q, rfl⟩
      refine ⟨?_, below_drewM (Below.refl _ _) q⟩
      rw [List.take_of_length_le (by rw [List.length_map]; exact Nat.le_refl _), List.take_of_length_le (by rw [List.length_map]; exact Nat.le_refl _)]
      rw [show decide (l.map bsW = m.map bsW) = decide (l = m) from decide_eq_decide.2 bsW_map]
  · obtain ⟨a1, c1, rfl⟩ := h1.form
    obtain ⟨a2, c2, rfl⟩ := h2.form
    refine (eqW_len l.length m.length a1 a2 c1 c2 w hl hm h).mono ?_
    rintro e w' ⟨rfl, rfl⟩
    exact ⟨by rw [decide_eq_false (fun e => h (by rw [e]))], Below.refl _ _⟩
/-! ### The words that awake tries -/
theorem wds_lit1 (W : World) (x : Wd) (t : TypeId) : WdsRd (W.alloc (.cells #[.string ⟨x.toArray⟩] t)) (.slice (some ⟨W.heap.size, 0, none⟩) 1 1) [x] := by
  refine ⟨_, _, rfl, fun i y hy => ⟨_, _, rfl, ?_⟩⟩
  cases i with
  | zero =>
    obtain rfl : x = y := by simpa using hy
    have h := cell_one_new W (.string ⟨x.toArray⟩) t 0 _ rfl
    exact h
  | succ i => simp at hy
theorem wds_lit2 (W : World) (x y : Wd) (t : TypeId) : WdsRd (W.alloc (.cells #[.string ⟨x.toArray⟩, .string ⟨y.toArray⟩] t)) (.slice (some ⟨W.heap.size, 0, none⟩) 2 2) [x, y] := by
  refine ⟨_, _, rfl, fun i z hz => ⟨_, _, rfl, ?_⟩⟩
  rcases i with _ | _ | i
  · obtain rfl : x = z := by simpa using hz
    simp [go_sem]
  · obtain rfl : y = z := by simpa using hz
    simp [go_sem]
  · simp at hz
theorem edgesLitF (W : World) (es : List E3) (h0 : 0 < es.length) (hl : es.length ≤ 1000) : EdgesAt (W.alloc (.cells (ecl es).toArray 45)) W.heap.size (.slice (some ⟨W.heap.size, 0, none⟩) es.length es.length) es :=
  ⟨by rw [ecl_len], .inr ⟨W.heap.size, es.length, (ecl es).toArray, rfl, Nat.le_refl _, heap_alloc_new W _, Nat.le_refl _, by unfold maxLen; omega, by rw [List.size_toArray, ecl_len], by
    show (ecl es).take (es.length * 3) = _; rw [← ecl_len, List.take_length]⟩⟩
abbrev gF : List E3 := [(0, 0, 0), (0, 1, 1), (1, 0, 0)]
theorem pre_take {x u : Wd} (hp : x <+: u) (hne : x ≠ u) : ∃ n, n < u.length ∧ x = u.take n := by
  refine ⟨x.length, ?_, List.prefix_iff_eq_take.1 hp⟩
  have h := hp.length_le
  rcases Nat.lt_or_ge x.length u.length with h1 | h1
  · exact h1
  · exact absurd (hp.eq_of_length (by omega)) hne
theorem st11 : StL [[49, 49]] [[], [49]] := by
  refine ⟨by simp [ltW], fun x => ?_⟩
  unfold IsSt
  constructor
  · intro hx
    simp at hx
    rcases hx with rfl | rfl
    · exact .inl rfl
    · exact .inr ⟨[49, 49], by simp, ⟨[49], rfl⟩, by decide, by decide⟩
  · rintro (rfl | ⟨u, hu, hp, hne, -⟩)
    · simp
    · simp at hu
      subst hu
      rcases pre_take hp hne with ⟨n, hn, rfl⟩
      have : n = 0 ∨ n = 1 := by simp at hn; omega
      rcases this with rfl | rfl <;> simp
theorem st01 : StL [[48], [49]] [[]] := by
  refine ⟨List.pairwise_singleton _ _, fun x => ?_⟩
  unfold IsSt
  constructor
  · intro hx
    simp at hx
    exact .inl hx
  · rintro (rfl | ⟨u, hu, hp, hne, -⟩)
    · simp
    · simp at hu
      rcases pre_take hp hne with ⟨n, hn, rfl⟩
      rcases hu with rfl | rfl
      · obtain rfl : n = 0 := by simp at hn; omega
        simp
      · obtain rfl : n = 0 := by simp at hn; omega
        simp
theorem red101 : RedW [[49, 48, 49], [49]] [[49]] := by
  refine ⟨List.pairwise_singleton _ _, fun x => ?_⟩
  constructor
  · intro hx
    simp at hx
    subst hx
    exact ⟨by simp, by decide⟩
  · rintro ⟨hx, hm⟩
    simp at hx
    rcases hx with rfl | rfl
    · exact absurd hm (by decide)
    · simp
theorem essF {f : Nat → Bool} (h : Ess 2 gF f) : mems 2 f = [0, 1] := by
  have hT : Closed 2 gF (fun _ => true) := fun i hi h => by
    have : i = 0 ∨ i = 1 := by omega
    rcases this with rfl | rfl <;> decide
  have h0 := h.most _ hT 0 (by decide) rfl
  have h1 := h.most _ hT 1 (by decide) rfl
  unfold mems
  rw [show List.range 2 = [0, 1] from rfl, List.filter_cons, h0, List.filter_cons, h1]
  rfl
theorem essN {f : Nat → Bool} (h : Ess 1 [] f) : mems 1 f = [] := by
  have h0 : f 0 = false := by
    rw [← h.fix 0 (by decide)]
    rfl
  unfold mems
  rw [show List.range 1 = [0] from rfl, List.filter_cons, h0]
  rfl
theorem edg11 : edgW lt [[49, 49]] [[], [49]] 2 2 = gF := by decide
theorem edg01 : edgW lt [[48], [49]] [[]] 1 2 = [] := by decide
theorem awkF_gr1 (W : World) : Calls Tryd.prog 22 #[.int .i64 2, .slice (some ⟨W.heap.size, 0, none⟩) 1 1] (W.alloc (.cells #[.string ⟨#[49, 49]⟩] 9)) fun e w' => ∃ a c, e = .returned (.tuple #[grV 2 2 (.slice a 3 c), .int .i64 0]) ∧ EdgesRd w' (.slice a 3 c) gF ∧ Below W.heap.size W w' := by
  refine (graph_good 2 [[49, 49]] _ _ (wds_lit1 W [49, 49] 9) (by decide)).mono ?_
  rintro e w' ⟨S, hS, hb, h⟩
  obtain rfl := hS.uniq st11
  rcases h with ⟨h, -⟩ | ⟨-, f, v, hf, rfl, he⟩
  · exact absurd h (by decide)
  · have hf2 : Ess 2 gF f := by rw [← edg11]; exact hf
    have e1 : mems ([[], [49]] : List Wd).length f = [0, 1] := essF hf2
    have e2 : edgW lt [[49, 49]] [[], [49]] ([[], [49]] : List Wd).length 2 = gF := edg11
    rw [e1, e2, show partE [0, 1] gF = gF by decide] at he
    rw [e1]
    obtain ⟨a, c, rfl⟩ := he.slice
    exact ⟨a, c, rfl, he.rd, below_more (below1 W _) (Nat.le_refl _) hb⟩
theorem awkF_gr2 (W : World) : Calls Tryd.prog 22 #[.int .i64 2, .slice (some ⟨W.heap.size, 0, none⟩) 2 2] (W.alloc (.cells #[.string ⟨#[48]⟩, .string ⟨#[49]⟩] 9)) fun e w' => ∃ a n c, e = .returned (.tuple #[grV 2 0 (.slice a n c), .int .i64 0]) ∧ Below W.heap.size W w' := by
  refine (graph_good 2 [[48], [49]] _ _ (wds_lit2 W [48] [49] 9) (by decide)).mono ?_
  rintro e w' ⟨S, hS, hb, h⟩
  obtain rfl := hS.uniq st01
  rcases h with ⟨h, -⟩ | ⟨-, f, v, hf, rfl, he⟩
  · exact absurd h (by decide)
  · have hf2 : Ess 1 [] f := by rw [← edg01]; exact hf
    have e1 : mems ([[]] : List Wd).length f = [] := essN hf2
    rw [e1]
    obtain ⟨a, c, rfl⟩ := he.slice
    exact ⟨a, _, c, rfl, below_more (below1 W _) (Nat.le_refl _) hb⟩
theorem awkF_red (W : World) : Calls Tryd.prog 7 #[.int .i64 2, .slice (some ⟨W.heap.size, 0, none⟩) 2 2] (W.alloc (.cells #[.string ⟨#[49, 48, 49]⟩, .string ⟨#[49]⟩] 9)) fun e w' => ∃ a c, e = .returned (.tuple #[.slice a 1 c, .int .i64 0]) ∧ WdsRd w' (.slice a 1 c) [[49]] ∧ Below W.heap.size W w' := by
  refine (reduce_yes 2 [[49, 48, 49], [49]] _ _ (wds_lit2 W [49, 48, 49] [49] 9) (by decide)).mono ?_
  rintro e w' ⟨u, r, rfl, hu, hr, hb⟩
  obtain rfl := hr.uniq red101
  obtain ⟨a, c, rfl⟩ := hu.slice
  exact ⟨a, c, rfl, hu.rd, below_more (below1 W _) (Nat.le_refl _) hb⟩
theorem awkF_same (W : World) (v1 v2 : Value) (h1 : EdgesRd W v1 gF) (h2 : EdgesRd W v2 gF) : Calls Tryd.prog 23 #[grV 2 2 v1, grV 2 2 v2] W fun e w' => e = .returned (.bool true) ∧ Below W.heap.size W w' := by
  have k := rsame_any 2 2 2 2 gF gF v1 v2 W h1 h2 (by decide) (by decide)
  rw [show sameG 2 2 gF 2 2 gF = true by decide] at k
  exact k
theorem awkF_eq (W : World) (v1 : Value) (h1 : WdsRd W v1 [[49]]) : Calls Tryd.prog 13 #[v1, .slice (some ⟨W.heap.size, 0, none⟩) 1 1] (W.alloc (.cells #[.string ⟨#[49]⟩] 9)) fun e w' => e = .returned (.bool true) ∧ Below W.heap.size W w' := by
  refine (eqW_any [[49]] [[49]] v1 _ _ (h1.keep (below1 W _)) (wds_lit1 W [49] 9) (by decide) (by decide)).mono ?_
  rintro e w' ⟨rfl, hb⟩
  exact ⟨rfl, below_more (below1 W _) (Nat.le_refl _) hb⟩
set_option maxRecDepth 100000 in
set_option maxHeartbeats 6400000 in
theorem awakeF_any (w : World) : Calls Tryd.prog 6 #[] w fun e w' => e = .returned (.bool true) ∧ Below w.heap.size w w' := by
  go_enter Tryd.func6, Tryd.ntmps6
  go_upto_region 2 with (go_at_call 22; (with_reducible refine (awkF_gr1 _).mono ?_); rintro e1 W1 ⟨a1, c1, rfl, i1, b1⟩)
  have X1 := Lib.hid (BoxG.new W1 2 2 (.slice a1 3 c1) 41)
  have I1 := Lib.hid (i1.keep (below1 W1 (.cells #[.int .i64 2, .int .i64 2, .slice a1 3 c1] 41)))
  have B1 := Lib.hid (below_more b1 (Nat.le_refl _) (below1 W1 (.cells #[.int .i64 2, .int .i64 2, .slice a1 3 c1] 41)))
  clear i1 b1
  obtain ⟨p1, hp1⟩ : ∃ p1, W1.heap.size = p1 := ⟨_, rfl⟩
  rw [hp1] at X1 ⊢
  clear hp1
  generalize W1.alloc (.cells #[.int .i64 2, .int .i64 2, .slice a1 3 c1] 41) = Y1 at *
  go_upto_region 4 with (first
    | (go_at_call 7; (with_reducible refine (awkF_red _).mono ?_); rintro e2 W2 ⟨a2, c2, rfl, i2, b2⟩; (have X2 := Lib.hid (X1.out.keep b2)); (have I2 := Lib.hid (I1.out.keep b2)); (have R2 := Lib.hid i2); (have B2 := Lib.hid (below_more B1.out (Nat.le_refl _) b2)); clear i2 b2)
    | (go_at_call 22; (with_reducible refine (awkF_gr2 _).mono ?_); rintro e3 W3 ⟨a3, n3, c3, rfl, b3⟩; (have X3 := Lib.hid (X2.out.keep b3)); (have I3 := Lib.hid (I2.out.keep b3)); (have R3 := Lib.hid (R2.out.keep b3)); (have B3 := Lib.hid (below_more B2.out (Nat.le_refl _) b3)); clear b3))
  have b4 := below1 W3 (.cells #[.int .i64 2, .int .i64 0, .slice a3 n3 c3] 41)
  have X4 := Lib.hid (X3.out.keep b4)
  have Z4 := Lib.hid (BoxG.new W3 2 0 (.slice a3 n3 c3) 41)
  have I4 := Lib.hid (I3.out.keep b4)
  have R4 := Lib.hid (R3.out.keep b4)
  have B4 := Lib.hid (below_more B3.out (Nat.le_refl _) b4)
  clear b4 X1 X2 X3 I1 I2 I3 R2 R3 B1 B2 B3
  obtain ⟨p3, hp3⟩ : ∃ p3, W3.heap.size = p3 := ⟨_, rfl⟩
  rw [hp3] at Z4 ⊢
  clear hp3
  generalize W3.alloc (.cells #[.int .i64 2, .int .i64 0, .slice a3 n3 c3] 41) = Y4 at *
  go_upto_region 5 with fail
  have L5 := Lib.hid (EdgesAt.rd (show EdgesAt (Y4.alloc (.cells #[.int .i64 0, .int .i64 0, .int .i64 0, .int .i64 0, .int .i64 1, .int .i64 1, .int .i64 1, .int .i64 0, .int .i64 0] 45)) Y4.heap.size (.slice (some ⟨Y4.heap.size, 0, none⟩) 3 3) gF from edgesLitF Y4 gF (by decide) (by decide)))
  have b5 := below1 Y4 (.cells #[.int .i64 0, .int .i64 0, .int .i64 0, .int .i64 0, .int .i64 1, .int .i64 1, .int .i64 1, .int .i64 0, .int .i64 0] 45)
  have s5 := World.size_alloc Y4 (.cells #[.int .i64 0, .int .i64 0, .int .i64 0, .int .i64 0, .int .i64 1, .int .i64 1, .int .i64 1, .int .i64 0, .int .i64 0] 45)
  obtain ⟨g5, hg5⟩ : ∃ g5, Y4.heap.size = g5 := ⟨_, rfl⟩
  have X5 := Lib.hid (X4.out.keep b5)
  have Z5 := Lib.hid (Z4.out.keep b5)
  have I5 := Lib.hid (I4.out.keep b5)
  have R5 := Lib.hid (R4.out.keep b5)
  have B5 := Lib.hid (below_more B4.out (Nat.le_refl _) b5)
  rw [hg5] at L5 s5 ⊢
  clear b5 X4 Z4 I4 R4 B4 hg5
  generalize (Y4.alloc (.cells #[.int .i64 0, .int .i64 0, .int .i64 0, .int .i64 0, .int .i64 1, .int .i64 1, .int .i64 1, .int .i64 0, .int .i64 0] 45)) = Y5 at *
  have b6 := below1 Y5 (.cells #[.int .i64 2, .int .i64 2, .slice (some ⟨g5, 0, none⟩) 3 3] 41)
  have N6 := Lib.hid (BoxG.new Y5 2 2 (.slice (some ⟨g5, 0, none⟩) 3 3) 41)
  rw [s5] at N6
  have X6 := Lib.hid (X5.out.keep b6)
  have Z6 := Lib.hid (Z5.out.keep b6)
  have I6 := Lib.hid (I5.out.keep b6)
  have L6 := Lib.hid (L5.out.keep b6)
  have R6 := Lib.hid (R5.out.keep b6)
  have B6 := Lib.hid (below_more B5.out (Nat.le_refl _) b6)
  clear b6 X5 Z5 I5 R5 B5 L5 s5
  generalize (Y5.alloc (.cells #[.int .i64 2, .int .i64 2, .slice (some ⟨g5, 0, none⟩) 3 3] 41)) = Y6 at *
  obtain ⟨x1, x2, x3⟩ := id X6.out
  obtain ⟨n1, n2, n3⟩ := id N6.out
  go_wp2_with (first
    | (go_at_call 23; (with_reducible refine (awkF_same _ _ _ I6.out L6.out).mono ?_); rintro e7 W7 ⟨rfl, b7⟩; (have R7 := Lib.hid (R6.out.keep b7)); (have Z7 := Lib.hid (Z6.out.keep b7)); (have B7 := Lib.hid (below_more B6.out (Nat.le_refl _) b7)); clear b7 x1 x2 x3 n1 n2 n3)
    | (go_at_call 13; (with_reducible refine (awkF_eq _ _ R7.out).mono ?_); rintro e8 W8 ⟨rfl, b8⟩; (have Z8 := Lib.hid (Z7.out.keep b8)); (have B8 := Lib.hid (below_more B7.out (Nat.le_refl _) b8)); (obtain ⟨z1, z2, z3⟩ := id Z8.out); clear b8))
  go_ret
  exact ⟨rfl, B8.out⟩
end Go.Proofs.YtkpmapeapiodcaaDoor

namespace Go.Proofs.YtkpmapeapiodcaaDoor
open Go.RowKit Go.Shelf
set_option linter.unusedSimpArgs false
set_option linter.unusedVariables false

def MX (W : World) : Prop := ∃ m, W.cell? ⟨0, 0, none⟩ = some (.int .i64 m)
theorem MX.keep {W W' : World} (h : MX W) (hb : Below W.heap.size W W') : MX W' := by
  obtain ⟨m, hm⟩ := h
  exact ⟨m, cell_keep hm hb⟩
def badL (n : Nat) : Bool := decide ((6 < n ∧ n ≤ 32) ∨ 35 < n)
def badN (n : Nat) : Bool := decide ((6 < n ∧ n ≤ 64) ∨ 67 < n)
def rgr (l : List Wd) : Bool := (l.any fun x => badL x.length) || badN l.length
theorem rgr_small {l : List Wd} (h : rgr l = false) : l.length ≤ 67 ∧ ∀ x ∈ l, x.length ≤ 35 := by
  unfold rgr at h
  rw [Bool.or_eq_false_iff] at h
  obtain ⟨h1, h2⟩ := h
  unfold badN at h2
  have h2 := of_decide_eq_false h2
  refine ⟨by omega, fun x hx => ?_⟩
  have h3 := List.any_eq_false.1 h1 x hx
  unfold badL at h3
  rw [decide_eq_true_iff] at h3
  omega
theorem rgr_bad {l : List Wd} {x : Wd} (hx : x ∈ l) (h : badL x.length = true) : rgr l = true := by
  unfold rgr
  rw [List.any_eq_true.2 ⟨x, hx, h⟩, Bool.true_or]
theorem rgr_end {l : List Wd} (h : ∀ x ∈ l, badL x.length = false) : rgr l = badN l.length := by
  unfold rgr
  rw [List.any_eq_false.2 (fun x hx => by rw [h x hx]; exact Bool.false_ne_true), Bool.false_or]
set_option maxRecDepth 100000 in
set_option maxHeartbeats 3200000 in
theorem rgreat14_any (l : List Wd) (v : Value) (w : World) (hrd : WdsRd w v l) (hl : l.length ≤ 9223372036854775807) (hls : ∀ x ∈ l, x.length ≤ 9223372036854775807) :
    Calls Tryd.prog 5 #[v] w fun e w' => e = .returned (.bool (rgr l)) ∧ w' = w := by
  have HRD := Lib.hid hrd
  have HLS := Lib.hid hls
  obtain ⟨R, hR⟩ : ∃ R, rgr l = R := ⟨_, rfl⟩
  have HR := Lib.hid hR
  rw [hR]
  clear hR
  obtain ⟨a, c, rfl⟩ := hrd.form
  clear hrd hls
  go_enter Tryd.func5, Tryd.ntmps5
  go_wp2_with fail
  go_loopg [3, 4] l.length (fun q s3 s4 wx => ∃ i : Nat, i + q = l.length ∧ s3 = .int .i64 (i : Int) ∧ Hid (∀ x ∈ l.take i, badL x.length = false) ∧ wx = w)
  case atStart => exact ⟨0, by omega, rfl, Lib.hid (by simp), rfl⟩
  case round =>
    obtain ⟨i, hi, rfl, HI, rfl⟩ := hrel
    rcases gk with _ | q
    · obtain rfl : i = l.length := by omega
      have j0 : ¬ ((l.length : Int) < (l.length : Int)) := by omega
      have HE := Lib.hid (rgr_end (l := l) (by have h := HI.out; rwa [List.take_length] at h))
      have hE := HR.out.symm.trans HE.out
      clear HI HE HR
      obtain ⟨n, hn⟩ : ∃ n, l.length = n := ⟨_, rfl⟩
      rw [hn] at hl hE ⊢
      clear hn
      have j0 : ¬ ((n : Int) < (n : Int)) := by omega
      have hcs : (6 < n ∧ n ≤ 64) ∨ 67 < n ∨ n ≤ 6 ∨ (64 < n ∧ n ≤ 67) := by omega
      rcases hcs with ⟨h1, h2⟩ | h1 | h1 | ⟨h1, h2⟩
      · obtain rfl : R = true := hE.trans (decide_eq_true (.inl ⟨h1, h2⟩))
        clear hE
        have d1 : 6 < (n : Int) := by omega
        have d2 : (n : Int) ≤ 64 := by omega
        go_wp2_with fail
        all_goals go_ret
        all_goals exact ⟨rfl, rfl⟩
      · obtain rfl : R = true := hE.trans (decide_eq_true (.inr h1))
        clear hE
        have d1 : 6 < (n : Int) := by omega
        have d2 : ¬ (n : Int) ≤ 64 := by omega
        have d3 : 67 < (n : Int) := by omega
        go_wp2_with fail
        all_goals go_ret
        all_goals exact ⟨rfl, rfl⟩
      · obtain rfl : R = false := hE.trans (decide_eq_false (by omega))
        clear hE
        have d1 : ¬ 6 < (n : Int) := by omega
        have d3 : ¬ 67 < (n : Int) := by omega
        go_wp2_with fail
        all_goals go_ret
        all_goals exact ⟨rfl, rfl⟩
      · obtain rfl : R = false := hE.trans (decide_eq_false (by omega))
        clear hE
        have d1 : 6 < (n : Int) := by omega
        have d2 : ¬ (n : Int) ≤ 64 := by omega
        have d3 : ¬ 67 < (n : Int) := by omega
        go_wp2_with fail
        all_goals go_ret
        all_goals exact ⟨rfl, rfl⟩
    · obtain ⟨x, hx⟩ : ∃ x, l[i]? = some x := ⟨_, List.getElem?_eq_getElem (by omega)⟩
      obtain ⟨b, off, c', hv, k1⟩ := HRD.out.at hx
      injection hv with e1 e2 e3
      subst e1
      subst e3
      have j1 : (i : Int) < (l.length : Int) := by omega
      have hxl := HLS.out x (List.mem_of_getElem? hx)
      have HB := Lib.hid (rgr_bad (List.mem_of_getElem? hx))
      have HT := Lib.hid (show l.take (i + 1) = l.take i ++ [x] by rw [List.take_add_one, hx]; rfl)
      obtain ⟨L, hL⟩ : ∃ L, x.length = L := ⟨_, rfl⟩
      have HL := Lib.hid hL
      rw [hL] at HB
      have hsz : (⟨x.toArray⟩ : ByteArray).size = L := by rw [← hL]; simp [ByteArray.size]
      rw [hL] at hxl
      clear hx e2 hL
      have hcs : (6 < L ∧ L ≤ 32) ∨ 35 < L ∨ L ≤ 6 ∨ (32 < L ∧ L ≤ 35) := by omega
      rcases hcs with ⟨h1, h2⟩ | h1 | h1 | ⟨h1, h2⟩
      · obtain rfl : R = true := HR.out.symm.trans (HB.out (decide_eq_true (.inl ⟨h1, h2⟩)))
        have d1 : 6 < (L : Int) := by omega
        have d2 : (L : Int) ≤ 32 := by omega
        go_wp2_with fail
        all_goals go_ret
        all_goals exact ⟨rfl, rfl⟩
      · have d1 : 6 < (L : Int) := by omega
        have d2 : ¬ (L : Int) ≤ 32 := by omega
        have d3 : 35 < (L : Int) := by omega
        obtain rfl : R = true := HR.out.symm.trans (HB.out (decide_eq_true (.inr h1)))
        go_wp2_with fail
        all_goals go_ret
        all_goals exact ⟨rfl, rfl⟩
      · have d1 : ¬ 6 < (L : Int) := by omega
        have d3 : ¬ 35 < (L : Int) := by omega
        go_wp2_with fail
        go_roundg q
        case measure => omega
        case rel => exact ⟨i + 1, by omega, by go_num, Lib.hid (by rw [HT.out]; intro y hy; rw [List.mem_append, List.mem_singleton] at hy; rcases hy with hy | rfl; exact HI.out y hy; rw [HL.out]; exact decide_eq_false (by omega)), rfl⟩
      · have d1 : 6 < (L : Int) := by omega
        have d2 : ¬ (L : Int) ≤ 32 := by omega
        have d3 : ¬ 35 < (L : Int) := by omega
        go_wp2_with fail
        go_roundg q
        case measure => omega
        case rel => exact ⟨i + 1, by omega, by go_num, Lib.hid (by rw [HT.out]; intro y hy; rw [List.mem_append, List.mem_singleton] at hy; rcases hy with hy | rfl; exact HI.out y hy; rw [HL.out]; exact decide_eq_false (by omega)), rfl⟩
end Go.Proofs.YtkpmapeapiodcaaDoor

namespace Go.Proofs.YtkpmapeapiodcaaDoor
open Go.RowKit
set_option linter.unusedSimpArgs false
set_option linter.unusedVariables false

def digR (c : UInt8) : Int := if dgt c < 16 then (dgt c : Int) else -1
theorem run_at_bytes (l : List UInt8) (i : Nat) (b : UInt8) (h : l[i]? = some b) (z : Int) (hz : z = (i : Int)) (w : World) :
    (Instr.index 9 (.string ⟨l.toArray⟩) (.int .i64 z)).run Tryd.prog w = .ok (.int .u8 (b.toNat : Int)) w := by
  subst hz
  have hi : i < l.length := by
    rcases Nat.lt_or_ge i l.length with h1 | h1
    · exact h1
    · rw [List.getElem?_eq_none h1] at h; cases h
  rw [run_index_string w 9 ⟨l.toArray⟩ .i64 i Tryd.underlying9, dif_pos ⟨by omega, by simpa [ByteArray.size] using hi⟩]
  have e : (⟨l.toArray⟩ : ByteArray)[(i : Int).toNat]'(by simpa [ByteArray.size] using hi) = b := by
    rw [List.getElem?_eq_getElem hi] at h
    have h2 := Option.some.inj h
    rw [← h2]; rfl
  rw [e]
set_option maxRecDepth 100000 in
set_option maxHeartbeats 1600000 in
theorem refDigit_any (c : UInt8) (w : World) :
    Calls Tryd.prog 52 #[.int .u8 (c.toNat : Int)] w fun e w' => e = .returned (.int .i64 (digR c)) ∧ w' = w := by
  have hcl := c.toNat_lt
  go_enter Tryd.func52, Tryd.ntmps52
  go_wp2_with fail
  go_loopg [3] 16 (fun q s3 wx => wx = w ∧ ∃ i : Nat, i + q = 16 ∧ s3 = .int .i64 (i : Int) ∧ Hid (i ≤ dgt c))
  case atStart => exact ⟨rfl, 0, by omega, rfl, Lib.hid (Nat.zero_le _)⟩
  case round =>
    obtain ⟨rfl, i, hi, rfl, HI⟩ := hrel
    rcases gk with _ | q
    · obtain rfl : i = 16 := by omega
      have HD := Lib.hid (show digR c = -1 by unfold digR; have := HI.out; rw [if_neg (by omega)])
      clear HI
      go_wp2
      go_ret
      exact ⟨by rw [HD.out]; rfl, rfl⟩
    · have hil : i < lets.length := by show i < 16; omega
      have hix : ∀ w, (Instr.index 9 (.string ⟨#[48, 49, 50, 51, 52, 53, 54, 55, 56, 57, 97, 98, 99, 100, 101, 102]⟩) (.int .i64 (i : Int))).run Tryd.prog w = .ok (.int .u8 ((lt i).toNat : Int)) w :=
        run_at_bytes lets i (lt i) (by rw [List.getElem?_eq_getElem hil, lt_at hil]) (i : Int) rfl
      have hd := dgt_lt i (by omega)
      obtain ⟨d, hdd⟩ : ∃ d, lt i = d := ⟨_, rfl⟩
      rw [hdd] at hix hd
      have hdl := d.toNat_lt
      have HDD := Lib.hid hdd
      clear hdd hil
      by_cases hcd : d = c
      · subst hcd
        have HD := Lib.hid (show digR d = (i : Int) by unfold digR; rw [hd, if_pos (by omega)])
        clear hd HI
        have hee : ((d.toNat : Int) == (d.toNat : Int)) = true := by simp
        go_wp2
        go_ret
        exact ⟨by rw [HD.out]; rfl, rfl⟩
      · have hne : ((d.toNat : Int) == (c.toNat : Int)) = false := by
          rw [beq_eq_false_iff_ne]
          intro e
          exact hcd (UInt8.toNat_inj.1 (by omega))
        have HI2 := Lib.hid (show i + 1 ≤ dgt c by
          have h1 := HI.out
          have h2 : dgt c ≠ i := fun e => hcd (by rw [← HDD.out, ← e, lt_dgt (by omega)])
          omega)
        clear HI hd hcd
        go_wp2
        go_roundg q
        case measure => omega
        case rel => exact ⟨rfl, i + 1, by omega, by go_num, HI2⟩
theorem wof_next {q : Nat} {l : List UInt8} {i : Nat} {c : UInt8} (h : l[i]? = some c) : Wof q (l.take (i + 1)) ↔ Wof q (l.take i) ∧ dgt c < q := by
  rw [List.take_add_one, h]
  show Wof q (l.take i ++ [c]) ↔ _
  rw [Wof.append, Wof.single]
set_option maxRecDepth 100000 in
set_option maxHeartbeats 3200000 in
theorem refCheck_any (q : Int) (l : List UInt8) (w : World) (hl : l.length ≤ 9223372036854775807) :
    Calls Tryd.prog 33 #[.int .i64 q, .string ⟨l.toArray⟩] w fun e w' => e = .returned (.int .i64 (chk q l)) ∧ w' = w := by
  rcases (show q < 1 ∨ 16 < q ∨ (1 ≤ q ∧ q ≤ 16) by omega) with hq | hq | ⟨q1, q2⟩
  · have HC := Lib.hid (show chk q l = 12 by unfold chk; rw [if_neg (by omega)])
    go_enter Tryd.func33, Tryd.ntmps33
    go_wp2_with fail
    go_ret
    exact ⟨by rw [HC.out]; rfl, rfl⟩
  · have HC := Lib.hid (show chk q l = 12 by unfold chk; rw [if_neg (by omega)])
    go_enter Tryd.func33, Tryd.ntmps33
    go_wp2_with fail
    go_ret
    exact ⟨by rw [HC.out]; rfl, rfl⟩
  · obtain ⟨m, rfl⟩ : ∃ m : Nat, q = (m : Int) := ⟨q.toNat, by omega⟩
    rcases Nat.lt_or_ge 65536 l.length with h2 | h2
    · have HC := Lib.hid (show chk m l = 4 by unfold chk; rw [if_pos ⟨q1, q2⟩, if_neg (by omega)])
      go_enter Tryd.func33, Tryd.ntmps33
      go_wp2_with fail
      go_ret
      exact ⟨by rw [HC.out]; rfl, rfl⟩
    · have HC := Lib.hid (show chk m l = if Wof m l then 0 else 13 by unfold chk; rw [if_pos ⟨q1, q2⟩, if_pos h2, Int.toNat_natCast])
      go_enter Tryd.func33, Tryd.ntmps33
      go_wp2_with fail
      go_loopg [5, 6] l.length (fun p s5 s6 wx => wx = w ∧ ∃ i : Nat, i + p = l.length ∧ s5 = .int .i64 (i : Int) ∧ Hid (Wof m (l.take i)))
      case atStart => exact ⟨rfl, 0, by omega, rfl, Lib.hid (fun c hc => by rw [List.take_zero] at hc; cases hc)⟩
      case round =>
        obtain ⟨rfl, i, hi, rfl, HI⟩ := hrel
        rcases gk with _ | p
        · obtain rfl : i = l.length := by omega
          have HC2 := Lib.hid (show chk m l = 0 by have := HI.out; rw [List.take_length] at this; rw [HC.out, if_pos this])
          clear HI HC
          go_wp2
          go_ret
          exact ⟨by rw [HC2.out]; rfl, rfl⟩
        · obtain ⟨c, hc⟩ : ∃ c, l[i]? = some c := ⟨_, List.getElem?_eq_getElem (by omega)⟩
          have hix := run_at_bytes l i c hc (i : Int) rfl
          have HN := Lib.hid (wof_next (q := m) hc)
          have HG := Lib.hid (fun W => refDigit_any c W)
          have hmem : c ∈ l := List.mem_of_getElem? hc
          have HM := Lib.hid hmem
          have hcl := c.toNat_lt
          clear hc hmem
          rcases (show dgt c < m ∨ (m ≤ dgt c ∧ dgt c < 16) ∨ 16 ≤ dgt c by omega) with h | ⟨h, h3⟩ | h
          · have hR : digR c = (dgt c : Int) := by unfold digR; rw [if_pos (by omega)]
            simp only [hR] at HG
            have HI2 := Lib.hid (HN.out.2 ⟨HI.out, h⟩)
            obtain ⟨g, hg⟩ : ∃ g, dgt c = g := ⟨_, rfl⟩
            simp only [hg] at HG
            rw [hg] at h
            clear hR hg HI HN
            go_wp2_with (go_at_call 52; (with_reducible refine (HG.out _).mono ?_); rintro e W1 ⟨rfl, hW⟩; (rw [hW]); (clear hW))
            go_roundg p
            case measure => omega
            case rel => exact ⟨rfl, i + 1, by omega, by go_num, HI2⟩
          · have hR : digR c = (dgt c : Int) := by unfold digR; rw [if_pos (by omega)]
            simp only [hR] at HG
            have HC2 := Lib.hid (show chk m l = 13 by rw [HC.out, if_neg (fun hW => absurd (hW c HM.out) (by omega))])
            obtain ⟨g, hg⟩ : ∃ g, dgt c = g := ⟨_, rfl⟩
            simp only [hg] at HG
            rw [hg] at h h3
            clear hR hg HI HN HC
            go_wp2_with (go_at_call 52; (with_reducible refine (HG.out _).mono ?_); rintro e W1 ⟨rfl, hW⟩; (rw [hW]); (clear hW))
            go_ret
            exact ⟨by rw [HC2.out]; rfl, rfl⟩
          · have hR : digR c = -1 := by unfold digR; rw [if_neg (by omega)]
            simp only [hR] at HG
            have HC2 := Lib.hid (show chk m l = 13 by rw [HC.out, if_neg (fun hW => absurd (hW c HM.out) (by omega))])
            clear hR HI HN HC h
            go_wp2_with (go_at_call 52; (with_reducible refine (HG.out _).mono ?_); rintro e W1 ⟨rfl, hW⟩; (rw [hW]); (clear hW))
            go_ret
            exact ⟨by rw [HC2.out]; rfl, rfl⟩
set_option maxRecDepth 100000 in
set_option maxHeartbeats 6400000 in
theorem rone_any (q : Int) (x : Wd) (w : World) (hx : x.length ≤ 9223372036854775807) :
    Calls Tryd.prog 29 #[.int .i64 q, .string ⟨x.toArray⟩] w fun e w' => e = .returned (.int .i64 (cwW q x)) ∧ w' = w := by
  have HC := Lib.hid (fun W => refCheck_any q x W hx)
  by_cases h0 : x = []
  · subst h0
    go_enter Tryd.func29, Tryd.ntmps29
    go_wp2_with fail
    go_ret
    exact ⟨rfl, rfl⟩
  · have hne : x.length ≠ 0 := fun h => h0 (List.eq_nil_of_length_eq_zero h)
    have d0 : (x == []) = false := by rw [beq_eq_false_iff_ne]; exact h0
    by_cases h1 : 32 < x.length
    · have d1 : decide ((32 : Int) < (x.length : Int)) = true := decide_eq_true (by omega)
      have HE := Lib.hid (show cwW q x = 4 by unfold cwW; rw [if_neg h0, if_pos h1])
      clear h1
      go_enter Tryd.func29, Tryd.ntmps29
      go_wp2_with fail
      go_ret
      exact ⟨by rw [HE.out]; try rfl, rfl⟩
    · have d1 : decide ((32 : Int) < (x.length : Int)) = false := decide_eq_false (by omega)
      have HE := Lib.hid (show cwW q x = chk q x by unfold cwW; rw [if_neg h0, if_neg h1])
      clear h1
      go_enter Tryd.func29, Tryd.ntmps29
      go_wp2_with (go_at_call 33; (with_reducible refine (HC.out _).mono ?_); rintro e W1 ⟨rfl, rfl⟩)
      go_ret
      exact ⟨by rw [HE.out]; try rfl, rfl⟩
end Go.Proofs.YtkpmapeapiodcaaDoor
