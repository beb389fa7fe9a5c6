/- DERIVED: THE SHELF's CONTRACTS AT THIS DUMP, IN PLAIN WORDS (tools/lay-plain.mjs out of 'TryGenS.lean', which tools/lay-shelf.mjs wrote): THE SAME DECLARATIONS UNDER THE SAME NAMES: 'import', 'namespace', 'open', 'def', 'theorem' AND NOTHING ELSE: no command of the shelf's: FOR A HAND-IN. Each laying: the table of numbers ('.._ren') and one theorem, a field a fact of the dump's own or the kernel's comparison; each contract: ONE APPLICATION. What graph.Same returns. Condition: the lists' lengths are those of slices. What graph.Essential returns for a valid graph. No further condition. -/
import Derived.Shelf.SlicesQ.Equal
import Derived.Shelf.SlSortCmp.NoneTotal
import Derived.Test.YtblkijdodojaeaaProg
import Derived.Test.YtblkijdodojaeaaQ07
import Derived.Laws.StructEq

namespace Go.Proofs
open Go.Shelf
def Try.equalE_ren : Go.Shelf.Ren := ⟨fun | 8 => 34 | n => n, fun | 22 => 22 | 24 => 47 | 4 => 4 | 3 => 3 | 0 => 0 | n => n, fun | n => n⟩
theorem Try.equalE : Go.Proofs.SlLaysQ.n8 Try.prog Try.equalE_ren := {
  mixed := by kernel_rfl
  f8 := ⟨Try.f34.name, by decide, Try.func34.trans (congrArg some (by kernel_rfl))⟩
  t0 := Try.underlying0
  a0 := Try.isAgg0
  z0 := Try.sizeOf0
  v0 := Try.zeroValue0
  t3 := Try.underlying3
  a3 := Try.isAgg3
  z3 := Try.sizeOf3
  v3 := Try.zeroValue3
  t4 := Try.underlying4
  a4 := Try.isAgg4
  z4 := Try.sizeOf4
  v4 := Try.zeroValue4
  t22 := Try.underlying22
  a22 := Try.isAgg22
  z22 := Try.sizeOf22
  v22 := Try.zeroValue22 }
def Try.sortE_ren : Go.Shelf.Ren := ⟨fun | 6 => 71 | 15 => 76 | 14 => 75 | 28 => 86 | 29 => 87 | 20 => 78 | 21 => 79 | 22 => 80 | 23 => 81 | 24 => 82 | 25 => 83 | 26 => 84 | 27 => 85 | 46 => 89 | 47 => 90 | 48 => 91 | 49 => 92 | 50 => 93 | 57 => 94 | n => n, fun | 22 => 22 | 24 => 47 | 25 => 71 | 3 => 3 | 39 => 92 | 0 => 0 | 53 => 106 | 55 => 109 | 4 => 4 | 46 => 122 | 45 => 121 | 50 => 91 | 5 => 5 | 9 => 9 | 66 => 130 | 70 => 134 | 76 => 136 | 77 => 137 | n => n, fun | n => n⟩
theorem Try.sortE : Go.Proofs.SlLaysF0.n6 Try.prog Try.sortE_ren := {
  mixed := by kernel_rfl
  f6 := ⟨Try.f71.name, by decide, Try.func71.trans (congrArg some (by kernel_rfl))⟩
  f14 := ⟨Try.f75.name, by decide, Try.func75.trans (congrArg some (by kernel_rfl))⟩
  f15 := Try.func76.trans (congrArg some (by kernel_rfl))
  f20 := ⟨Try.f78.name, by decide, Try.func78.trans (congrArg some (by kernel_rfl))⟩
  f21 := ⟨Try.f79.name, by decide, Try.func79.trans (congrArg some (by kernel_rfl))⟩
  f22 := ⟨Try.f80.name, by decide, Try.func80.trans (congrArg some (by kernel_rfl))⟩
  f23 := ⟨Try.f81.name, by decide, Try.func81.trans (congrArg some (by kernel_rfl))⟩
  f24 := ⟨Try.f82.name, by decide, Try.func82.trans (congrArg some (by kernel_rfl))⟩
  f25 := ⟨Try.f83.name, by decide, Try.func83.trans (congrArg some (by kernel_rfl))⟩
  f26 := ⟨Try.f84.name, by decide, Try.func84.trans (congrArg some (by kernel_rfl))⟩
  f27 := ⟨Try.f85.name, by decide, Try.func85.trans (congrArg some (by kernel_rfl))⟩
  f28 := Try.func86.trans (congrArg some (by kernel_rfl))
  f29 := Try.func87.trans (congrArg some (by kernel_rfl))
  f46 := ⟨Try.f89.name, by decide, Try.func89.trans (congrArg some (by kernel_rfl))⟩
  f47 := Try.func90.trans (congrArg some (by kernel_rfl))
  f48 := Try.func91.trans (congrArg some (by kernel_rfl))
  f49 := ⟨Try.f92.name, by decide, Try.func92.trans (congrArg some (by kernel_rfl))⟩
  f50 := ⟨Try.f93.name, by decide, Try.func93.trans (congrArg some (by kernel_rfl))⟩
  f57 := ⟨Try.f94.name, by decide, Try.func94.trans (congrArg some (by kernel_rfl))⟩
  t0 := Try.underlying0
  a0 := Try.isAgg0
  z0 := Try.sizeOf0
  v0 := Try.zeroValue0
  t3 := Try.underlying3
  a3 := Try.isAgg3
  z3 := Try.sizeOf3
  v3 := Try.zeroValue3
  t4 := Try.underlying4
  a4 := Try.isAgg4
  z4 := Try.sizeOf4
  v4 := Try.zeroValue4
  t5 := Try.underlying5
  a5 := Try.isAgg5
  z5 := Try.sizeOf5
  v5 := Try.zeroValue5
  t9 := Try.underlying9
  a9 := Try.isAgg9
  z9 := Try.sizeOf9
  v9 := Try.zeroValue9
  t22 := Try.underlying22
  a22 := Try.isAgg22
  z22 := Try.sizeOf22
  v22 := Try.zeroValue22
  t25 := Try.underlying71
  a25 := Try.isAgg71
  z25 := Try.sizeOf71
  v25 := Try.zeroValue71
  t39 := Try.underlying92
  a39 := Try.isAgg92
  z39 := Try.sizeOf92
  v39 := Try.zeroValue92
  t45 := Try.underlying121
  a45 := Try.isAgg121
  z45 := Try.sizeOf121
  v45 := Try.zeroValue121
  t46 := Try.underlying122
  a46 := Try.isAgg122
  z46 := Try.sizeOf122
  v46 := Try.zeroValue122
  t50 := Try.underlying91
  a50 := Try.isAgg91
  z50 := Try.sizeOf91
  v50 := Try.zeroValue91
  t53 := Try.underlying106
  a53 := Try.isAgg106
  z53 := Try.sizeOf106
  v53 := Try.zeroValue106
  t55 := Try.underlying109
  a55 := Try.isAgg109
  z55 := Try.sizeOf109
  v55 := Try.zeroValue109
  t66 := Try.underlying130
  a66 := Try.isAgg130
  z66 := Try.sizeOf130
  v66 := Try.zeroValue130
  t70 := Try.underlying134
  a70 := Try.isAgg134
  z70 := Try.sizeOf134
  v70 := Try.zeroValue134
  t76 := Try.underlying136
  a76 := Try.isAgg136
  z76 := Try.sizeOf136
  v76 := Try.zeroValue136
  t77 := Try.underlying137
  a77 := Try.isAgg137
  z77 := Try.sizeOf137
  v77 := Try.zeroValue137 }
end Go.Proofs

namespace Go.Proofs.Ytblkijdodojaeaa
open Go.RowKit Go.Lib
set_option linter.unusedSimpArgs false
set_option linter.unusedVariables false

/-- Whether two edges are equal. -/
def eqE (x y : E3) : Bool := x.1 == y.1 && x.2.1 == y.2.1 && x.2.2 == y.2.2
theorem eqE_iff {x y : E3} : eqE x y = true ↔ x = y := by
  unfold eqE
  rw [Bool.and_eq_true, Bool.and_eq_true, beq_iff_eq, beq_iff_eq, beq_iff_eq]
  constructor
  · rintro ⟨⟨h1, h2⟩, h3⟩; exact e3_ext h1 h2 h3
  · rintro rfl; exact ⟨⟨rfl, rfl⟩, rfl⟩
theorem neqE : NeqAt Try.prog 47 (fun x => .agg (encE x).toArray) eqE := by
  refine ⟨fun x y w => ?_, GuardAt.agg _ (by kernel_rfl)⟩
  have u3 := Try.underlying3
  have a3 := Try.isAgg3
  have z3 := Try.sizeOf3
  have hS : Try.prog.underlying 47 = some (.struct (Try.prog.fieldsOf 47)) := by kernel_rfl
  have hp : Try.prog.stoodInHeld 47 = false := by kernel_rfl
  simp only [encE]
  rw [run_neq_struct, show (10000 : Nat) = 9999 + 1 from rfl, run_equalIn_agg w 9999 47 _ _ hS hp]
  simp only [Program.fieldsOf, Try.underlying47]
  go_simp
  unfold eqE
  by_cases h1 : x.1 = y.1 <;> by_cases h2 : x.2.1 = y.2.1 <;> by_cases h3 : x.2.2 = y.2.2 <;> simp [h1, h2, h3]
theorem allEq_eq : ∀ {xs ys : List E3}, xs.length = ys.length → Lib.allEq eqE xs ys = decide (xs = ys)
  | [], [], _ => rfl
  | x :: xs, y :: ys, h => by
    have ih := allEq_eq (xs := xs) (ys := ys) (by simpa using h)
    show (eqE x y && Lib.allEq eqE xs ys) = _
    rw [ih, Bool.eq_iff_iff, Bool.and_eq_true, eqE_iff, decide_eq_true_iff, decide_eq_true_iff, List.cons.injEq]
theorem encE_getElem (e : E3) {i : Nat} {v : Value} (h : (encE e)[i]? = some v) : (i = 0 ∧ v = .int .i64 e.1) ∨ (i = 1 ∧ v = .int .i64 e.2.1) ∨ (i = 2 ∧ v = .int .i64 e.2.2) := by
  unfold encE at h
  match i, h with
  | 0, h => simp at h; exact .inl ⟨rfl, h.symm⟩
  | 1, h => simp at h; exact .inr (.inl ⟨rfl, h.symm⟩)
  | 2, h => simp at h; exact .inr (.inr ⟨rfl, h.symm⟩)
  | (n + 3), h => simp at h
theorem EdgesRd.cells {W : World} {v : Value} {es : List E3} (h : EdgesRd W v es) (h0 : 0 < es.length) : ∃ b off c, v = .slice (some ⟨b, off, none⟩) es.length c ∧ ∀ j, j < es.length → ∀ i u, (encE es[j]!)[i]? = some u → W.cell? ⟨b, off + j * 3 + i, none⟩ = some u := by
  obtain ⟨b, off, c, rfl, -⟩ := h.at (List.getElem?_eq_getElem h0)
  refine ⟨b, off, c, rfl, fun j hj i u hu => ?_⟩
  obtain ⟨b2, off2, c2, hv, k1, k2, k3⟩ := h.at (List.getElem?_eq_getElem hj)
  injection hv with e1 e2 e3
  injection e1 with e1
  injection e1 with e1 e4
  subst e1
  subst e4
  rw [getElem!_pos es j hj] at hu
  rcases encE_getElem _ hu with ⟨rfl, rfl⟩ | ⟨rfl, rfl⟩ | ⟨rfl, rfl⟩
  · exact k1
  · exact k2
  · exact k3
set_option maxRecDepth 100000 in
set_option maxHeartbeats 1600000 in
theorem equalE_any (es fs : List E3) (v1 v2 : Value) (w : World) (h1 : EdgesRd w v1 es) (h2 : EdgesRd w v2 fs) (hn : es.length ≤ 9223372036854775807) (hm : fs.length ≤ 9223372036854775807) :
    Calls Try.prog 34 #[v1, v2] w fun e w' => e = .returned (.bool (decide (es = fs))) ∧ Below w.heap.size w w' := by
  by_cases hl : es.length = fs.length
  · rcases Nat.eq_zero_or_pos es.length with h0 | h0
    · obtain rfl : es = [] := List.eq_nil_of_length_eq_zero h0
      obtain rfl : fs = [] := List.eq_nil_of_length_eq_zero (by omega)
      obtain ⟨a1, c1, rfl⟩ := h1.form
      obtain ⟨a2, c2, rfl⟩ := h2.form
      clear hl h0 h1 h2
      go_enter Try.func34, Try.ntmps34
      go_wp2_with fail
      go_loopg [13] 0 (fun k s13 wx => k = 0 ∧ s13 = .int .i64 0 ∧ wx = w)
      case atStart => exact ⟨rfl, rfl, rfl⟩
      case round =>
        obtain ⟨-, rfl, rfl⟩ := hrel
        go_wp2_with fail
        go_ret
        exact ⟨rfl, Below.refl _ _⟩
    · obtain ⟨b1, o1, c1, rfl, k1⟩ := h1.cells h0
      obtain ⟨b2, o2, c2, rfl, k2⟩ := h2.cells (by omega)
      have h := AnyQ.slices_Equal Try.equalE 3 Try.isAgg47 Try.sizeOf47 encE (fun _ => rfl) eqE neqE b1 o1 es.length c1 b2 o2 fs.length c2 es fs w (Nat.le_refl _) (Nat.le_refl _) hn hm k1 k2
      rw [List.take_length, List.take_length, allEq_eq hl] at h
      exact h.mono fun e w' ⟨he, q, hw⟩ => ⟨he, by rw [hw]; exact below_drewM (Below.refl _ _) q⟩
  · have hne : ¬ es = fs := fun h => hl (by rw [h])
    have HE := Lib.hid (show decide (es = fs) = false from decide_eq_false hne)
    obtain ⟨a1, c1, rfl⟩ := h1.form
    obtain ⟨a2, c2, rfl⟩ := h2.form
    have d1 : ((es.length : Int) != (fs.length : Int)) = true := by simp; omega
    clear hl h1 h2 hne
    go_enter Try.func34, Try.ntmps34
    go_wp2_with fail
    go_ret
    exact ⟨by rw [HE.out]; rfl, Below.refl _ _⟩
def sameG (L S : Int) (es : List E3) (L' S' : Int) (fs : List E3) : Bool := decide (L = L' ∧ S = S' ∧ es = fs)
set_option maxRecDepth 100000 in
set_option maxHeartbeats 1600000 in
theorem same_any (L S L' S' : Int) (es fs : List E3) (v1 v2 : Value) (w : World) (h1 : EdgesRd w v1 es) (h2 : EdgesRd w v2 fs) (hn : es.length ≤ 9223372036854775807) (hm : fs.length ≤ 9223372036854775807) :
    Calls Try.prog 18 #[grV L S v1, grV L' S' v2] w fun e w' => e = .returned (.bool (sameG L S es L' S' fs)) ∧ Below w.heap.size w w' := by
  have b0 := below_more (below1 w (.cells #[.int .i64 L, .int .i64 S, v1] 24)) (Nat.le_refl _) (below1 _ (.cells #[.int .i64 L', .int .i64 S', v2] 24))
  have HQ := Lib.hid (fun W h h' => equalE_any es fs v1 v2 W h h' hn hm)
  have HA := Lib.hid (h1.keep b0)
  have HB := Lib.hid (h2.keep b0)
  have B0 := Lib.hid b0
  obtain ⟨a1, c1, rfl⟩ := h1.form
  obtain ⟨a2, c2, rfl⟩ := h2.form
  clear h1 h2 b0
  by_cases hL : L = L'
  · have d1 : (L == L') = true := by simpa using hL
    by_cases hS : S = S'
    · have d2 : (S == S') = true := by simpa using hS
      have HE := Lib.hid (show sameG L S es L' S' fs = decide (es = fs) by unfold sameG; rw [decide_eq_decide]; exact ⟨fun h => h.2.2, fun h => ⟨hL, hS, h⟩⟩)
      clear hL hS
      obtain ⟨q, hq⟩ : ∃ q, decide (es = fs) = q := ⟨_, rfl⟩
      simp only [hq] at HQ
      rw [hq] at HE
      clear hq
      go_enter Try.func18, Try.ntmps18
      go_wp2_with (go_at_call 34; (with_reducible refine (HQ.out _ HA.out HB.out).mono ?_); rintro e0 W1 ⟨rfl, b1⟩)
      go_ret
      exact ⟨by rw [HE.out]; rfl, below_more B0.out (Nat.le_refl _) b1⟩
    · have d2 : (S == S') = false := by simpa using hS
      have HE := Lib.hid (show sameG L S es L' S' fs = false from decide_eq_false (fun h => hS h.2.1))
      clear hL hS
      go_enter Try.func18, Try.ntmps18
      go_wp2_with fail
      go_ret
      exact ⟨by rw [HE.out]; rfl, B0.out⟩
  · have d1 : (L == L') = false := by simpa using hL
    have HE := Lib.hid (show sameG L S es L' S' fs = false from decide_eq_false (fun h => hL h.1))
    clear hL
    go_enter Try.func18, Try.ntmps18
    go_wp2_with fail
    go_ret
    exact ⟨by rw [HE.out]; rfl, B0.out⟩
end Go.Proofs.Ytblkijdodojaeaa

namespace Go.Proofs.Ytblkijdodojaeaa
open Go.RowKit
set_option linter.unusedSimpArgs false
set_option linter.unusedVariables false

theorem mems_iff {n : Nat} {f : Nat → Bool} {x : Int} : x ∈ mems n f ↔ ∃ i : Nat, x = (i : Int) ∧ i < n ∧ f i = true := by
  unfold mems
  rw [List.mem_map]
  constructor
  · rintro ⟨i, h, rfl⟩
    obtain ⟨h1, h2⟩ := List.mem_filter.1 h
    exact ⟨i, rfl, List.mem_range.1 h1, h2⟩
  · rintro ⟨i, rfl, h1, h2⟩
    exact ⟨i, List.mem_filter.2 ⟨List.mem_range.2 h1, h2⟩, rfl⟩
theorem mems_asc (n : Nat) (f : Nat → Bool) : (mems n f).Pairwise (· < ·) := by
  unfold mems
  rw [List.pairwise_map]
  refine (List.Pairwise.filter f List.pairwise_lt_range).imp ?_
  intro a b h
  omega
theorem mems_sg (n : Nat) (f : Nat → Bool) : SG (n : Int) (mems n f) := ⟨fun x hx => by obtain ⟨i, rfl, h, -⟩ := mems_iff.1 hx; omega, mems_asc n f⟩
theorem ints_over {W : World} {A b : Nat} {v : Value} {l : List Int} (h : IntsAt W A v l) (hb : b < A) (x y z : Value) {B : Nat} (hB : B ≤ A) : IntsAt (((W.setCell ⟨b, 0, none⟩ x).setCell ⟨b, 1, none⟩ y).setCell ⟨b, 2, none⟩ z) B v l :=
  own_low (ownsRow_setCell_below (ownsRow_setCell_below (ownsRow_setCell_below h (a := ⟨b, 0, none⟩) hb _) (a := ⟨b, 1, none⟩) hb _) (a := ⟨b, 2, none⟩) hb _) hB
/-- The essential part, and its states. -/
def EOut (w : World) (L : Int) (n : Nat) (es : List E3) (e : Ending) (w' : World) : Prop := ∃ f v u, Ess n es f ∧ e = .returned (.tuple #[grV L ((mems n f).length : Int) v, u, .int .i64 0]) ∧ EdgesAt w' w.heap.size v (partE (mems n f) es) ∧ IntsAt w' w.heap.size u (mems n f) ∧ Below w.heap.size w w'
end Go.Proofs.Ytblkijdodojaeaa
