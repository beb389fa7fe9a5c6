/- What grooveref09.CheckSet, Has and index return. Condition: a list's length is one of a slice. What slices.BinarySearchFunc by where an edge begins, and graph.leaving, return. Conditions: at most 1024 edges, numbers below 64, in order. What graph.leaving returns, and what the function that it returns yields: the edges that leave a state, in order. Conditions: at most 1024 edges, numbers below 64, in order. -/
import Derived.Test.YtblkijdodojaeaaQ14
import Derived.Test.YtblkijdodojaeaaQ07
import Derived.BigQuiet
import Derived.Test.YtblkijdodojaeaaQ03
import Derived.Test.YtblkijdodojaeaaQ02
import Derived.RangeFuncNested
import Derived.RangeFuncBound
import Derived.RangeFuncCalls
import Derived.RangeFuncLeaves
import Derived.RangeFuncOne
import Derived.Shelf.Abstract
import Derived.Shelf.RegionOpen
import Derived.WalkKit
import Derived.OwnWalkIn
import Derived.TacticsInMore
import Derived.LoopNIn
import Derived.LoopIn

namespace Go.Proofs.Ytblkijdodojaeaa
open Go.RowKit
set_option linter.unusedSimpArgs false
set_option linter.unusedVariables false

theorem mem_take_succI {l : List Int} {i : Nat} {x n : Int} (hx : l[i]? = some x) (h : n ∉ l.take i) (hne : x ≠ n) : n ∉ l.take (i + 1) := by
  rw [List.take_add_one, hx, List.mem_append]
  rintro (h1 | h1)
  · exact h h1
  · simp at h1; exact hne h1.symm
end Go.Proofs.Ytblkijdodojaeaa

namespace Go.Proofs.Ytblkijdodojaeaa
open Go.RowKit
set_option linter.unusedSimpArgs false
set_option linter.unusedVariables false

set_option maxRecDepth 100000 in
theorem fromLess_any (e : E3) (s : Int) (w : World) (h1 : 0 ≤ e.1 ∧ e.1 < 64) (h2 : 0 ≤ s ∧ s < 64) : Calls Try.prog 67 #[edgV e, .int .i64 s] w fun en w' => en = .returned (.int .i64 (e.1 - s)) ∧ Below w.heap.size w w' := by
  have hw : IntKind.i64.wrap (e.1 - s) = e.1 - s := by simp [IntKind.wrap, IntKind.signed, IntKind.bits]; omega
  clear h1 h2
  go_enter Try.func67, Try.ntmps67
  go_wp2_with fail
  go_ret
  exact ⟨rfl, below1 w _⟩
set_option maxRecDepth 100000 in
set_option maxHeartbeats 1600000 in
theorem bsearch_any (es : List E3) (s : Int) (v : Value) (w : World) (hrd : EdgesRd w v es) (hn : es.length ≤ 1024) (hs : 0 ≤ s ∧ s < 64) (hb : ∀ e ∈ es, 0 ≤ e.1 ∧ e.1 < 64) (ho : ∀ i j : Nat, i < j → ∀ e f, es[i]? = some e → es[j]? = some f → e.1 ≤ f.1) :
    Calls Try.prog 66 #[v, .int .i64 s, .func (.func 67) #[] #[]] w fun en w' => ∃ (i : Nat) (b : Bool), en = .returned (.tuple #[.int .i64 (i : Int), .bool b]) ∧ i ≤ es.length ∧ (∀ j e, j < i → es[j]? = some e → e.1 < s) ∧ (∀ j e, i ≤ j → es[j]? = some e → s ≤ e.1) ∧ Below w.heap.size w w' := by
  have HRD := Lib.hid hrd
  have HB := Lib.hid hb
  have HO := Lib.hid ho
  obtain ⟨a, c, rfl⟩ := hrd.form
  clear hrd hb ho
  go_enter Try.func66, Try.ntmps66
  go_wp2_with fail
  go_loopg [9, 10] es.length (fun q s9 s10 wx => ∃ lo hi : Nat, lo + q = hi ∧ s9 = .int .i64 (lo : Int) ∧ s10 = .int .i64 (hi : Int) ∧ hi ≤ es.length ∧ Hid (∀ j e, j < lo → es[j]? = some e → e.1 < s) ∧ Hid (∀ j e, hi ≤ j → es[j]? = some e → s ≤ e.1) ∧ Below w.heap.size w wx)
  case atStart => exact ⟨0, es.length, by omega, rfl, rfl, Nat.le_refl _, Lib.hid (fun j e hj => absurd hj (Nat.not_lt_zero _)), Lib.hid (fun j e hj he => absurd (List.getElem?_eq_some_iff.1 he).1 (by omega)), Below.refl _ _⟩
  case round =>
    obtain ⟨lo, hi, hq, rfl, rfl, hle, HL, HH, hb⟩ := hrel
    rcases gk with _ | q
    · obtain rfl : lo = hi := by omega
      clear hq
      by_cases hlt : lo < es.length
      · obtain ⟨e, he⟩ : ∃ e, es[lo]? = some e := ⟨_, List.getElem?_eq_getElem hlt⟩
        have hbe := HB.out e (List.mem_of_getElem? he)
        obtain ⟨bb, off, c', hv, k1, k2, k3⟩ := (HRD.out.keep hb).at he
        injection hv with e1 e2 e3
        subst e1
        subst e3
        have HF := Lib.hid (fun W => fromLess_any e s W hbe hs)
        obtain ⟨x, y, z⟩ := e
        dsimp only at k1 k2 k3 HF
        have j1 : (lo : Int) < (es.length : Int) := by omega
        clear he hbe
        go_wp2_with (go_at_call 67; (with_reducible refine (HF.out _).mono ?_); rintro e0 W1 ⟨rfl, b1⟩)
        exact bodyPost_ret (v := .tuple #[.int .i64 (lo : Int), .bool (x - s == 0)]) (by simp [results, Try.results66, go_sem]) rfl ⟨lo, _, rfl, hle, HL.out, HH.out, below_more hb (Nat.le_refl _) b1⟩
      · have j1 : decide ((lo : Int) < (es.length : Int)) = false := decide_eq_false (by omega)
        have j2 : decide (lo < es.length) = false := decide_eq_false (by omega)
        go_wp2_with fail
        exact bodyPost_ret (v := .tuple #[.int .i64 (lo : Int), .bool false]) (by simp [results, Try.results66, go_sem]) rfl ⟨lo, _, rfl, hle, HL.out, HH.out, hb⟩
    · obtain ⟨mid, hmid⟩ : ∃ mid, (lo + hi) / 2 = mid := ⟨_, rfl⟩
      have hm1 : lo ≤ mid := by omega
      have hm2 : mid < hi := by omega
      have j0 : (lo : Int) < (hi : Int) := by omega
      have t1 : ((lo : Int) + (hi : Int)) / 2 = (mid : Int) := by omega
      obtain ⟨e, he⟩ : ∃ e, es[mid]? = some e := ⟨_, List.getElem?_eq_getElem (by omega)⟩
      have hbe := HB.out e (List.mem_of_getElem? he)
      obtain ⟨bb, off, c', hv, k1, k2, k3⟩ := (HRD.out.keep hb).at he
      injection hv with e1 e2 e3
      subst e1
      subst e3
      have HF := Lib.hid (fun W => fromLess_any e s W hbe hs)
      obtain ⟨x, y, z⟩ := e
      dsimp only at k1 k2 k3 HF
      have j1 : (mid : Int) < (es.length : Int) := by omega
      have hw1 : IntKind.i64.wrap ((lo : Int) + (hi : Int)) = (lo : Int) + (hi : Int) := by simp [IntKind.wrap, IntKind.signed, IntKind.bits]; omega
      have hw2 : IntKind.u64.wrap ((lo : Int) + (hi : Int)) = (lo : Int) + (hi : Int) := by simp [IntKind.wrap, IntKind.signed, IntKind.bits]; omega
      have hw3 : IntKind.i64.wrap (mid : Int) = (mid : Int) := by simp [IntKind.wrap, IntKind.signed, IntKind.bits]; omega
      clear hbe hmid
      have HMID := Lib.hid he
      clear he e2
      by_cases hx : x < s
      · have d1 : decide (x - s < 0) = true := decide_eq_true (by omega)
        have HL2 := Lib.hid (show ∀ j e, j < mid + 1 → es[j]? = some e → e.1 < s from fun j e hj he => by
          rcases (show j < mid ∨ j = mid by omega) with h1 | rfl
          · have := HO.out j mid h1 e _ he HMID.out
            dsimp only at this
            omega
          · rw [HMID.out] at he
            injection he with he
            subst he
            exact hx)
        clear hx
        go_wp2_with (go_at_call 67; (with_reducible refine (HF.out _).mono ?_); rintro e0 W1 ⟨rfl, b1⟩)
        go_roundg (hi - (mid + 1))
        case measure => omega
        case rel => exact ⟨mid + 1, hi, by omega, by go_num, rfl, hle, HL2, HH, below_more hb (Nat.le_refl _) b1⟩
      · have d1 : decide (x - s < 0) = false := decide_eq_false (by omega)
        have HH2 := Lib.hid (show ∀ j e, mid ≤ j → es[j]? = some e → s ≤ e.1 from fun j e hj he => by
          rcases (show mid < j ∨ j = mid by omega) with h1 | rfl
          · have := HO.out mid j h1 _ e HMID.out he
            dsimp only at this
            omega
          · rw [HMID.out] at he
            injection he with he
            subst he
            show s ≤ x
            omega)
        clear hx
        go_wp2_with (go_at_call 67; (with_reducible refine (HF.out _).mono ?_); rintro e0 W1 ⟨rfl, b1⟩)
        go_roundg (mid - lo)
        case measure => omega
        case rel => exact ⟨lo, mid, by omega, rfl, rfl, by omega, HL, HH2, below_more hb (Nat.le_refl _) b1⟩
end Go.Proofs.Ytblkijdodojaeaa

namespace Go.Proofs.Ytblkijdodojaeaa
open Go.RowKit Go.Shelf
attribute [local go_sem] Oper.semAt_some
set_option linter.unusedSimpArgs false
set_option linter.unusedVariables false

/-- The indices from i on of the edges that leave s. -/
def lvF (es : List E3) (s : Int) (i : Nat) : List Nat := (List.range' i (es.length - i)).filter (fun j => (es[j]!).1 == s)
theorem lvF_step {es : List E3} {s : Int} {i : Nat} {e : E3} (h : es[i]? = some e) : lvF es s i = if e.1 = s then i :: lvF es s (i + 1) else lvF es s (i + 1) := by
  obtain ⟨hi, he⟩ := List.getElem?_eq_some_iff.1 h
  have e1 : es[i]! = e := by rw [getElem!_pos es i hi]; exact he
  unfold lvF
  rw [show es.length - i = (es.length - (i + 1)) + 1 by omega, List.range'_succ, List.filter_cons, e1]
  by_cases h1 : e.1 = s
  · rw [if_pos h1, if_pos (by rw [h1]; exact beq_self_eq_true _)]
  · rw [if_neg h1, if_neg (by simpa using h1)]
theorem lvF_end {es : List E3} {s : Int} {i : Nat} (h : ∀ j e, i ≤ j → es[j]? = some e → e.1 ≠ s) : lvF es s i = [] := by
  unfold lvF
  rw [List.filter_eq_nil_iff]
  intro j hj
  rw [List.mem_range'_1] at hj
  have hjl : j < es.length := by omega
  rw [getElem!_pos es j hjl]
  have := h j es[j] hj.1 (List.getElem?_eq_getElem hjl)
  simpa using this
theorem lvF_skip {es : List E3} {s : Int} : ∀ {i : Nat}, (∀ j e, j < i → es[j]? = some e → e.1 ≠ s) → i ≤ es.length → lvF es s i = lvF es s 0
  | 0, _, _ => rfl
  | i + 1, h, hl => by
    have h1 := List.getElem?_eq_getElem (l := es) (i := i) (by omega)
    rw [← lvF_skip (i := i) (fun j e hj => h j e (by omega)) (by omega), lvF_step h1, if_neg (h i _ (by omega) h1)]
theorem lvF_mem {es : List E3} {s : Int} {j : Nat} : j ∈ lvF es s 0 ↔ ∃ e, es[j]? = some e ∧ e.1 = s := by
  unfold lvF
  rw [List.mem_filter, List.mem_range'_1]
  constructor
  · rintro ⟨⟨-, h2⟩, h3⟩
    have hj : j < es.length := by omega
    rw [getElem!_pos es j hj] at h3
    exact ⟨_, List.getElem?_eq_getElem hj, by simpa using h3⟩
  · rintro ⟨e, he, h1⟩
    obtain ⟨hj, h2⟩ := List.getElem?_eq_some_iff.1 he
    refine ⟨⟨Nat.zero_le _, by omega⟩, ?_⟩
    rw [getElem!_pos es j hj, h2, h1]
    exact beq_self_eq_true _
theorem leaving_any (L S s : Int) (v : Value) (w : World) :
    Calls Try.prog 54 #[grV L S v, .int .i64 s] w fun e w' =>
      e = .returned (.func (.func 65) #[] #[.pointer (some ⟨w.heap.size, 0, none⟩), .pointer (some ⟨w.heap.size + 1, 0, none⟩)]) ∧ w' = (w.alloc (.cells #[.int .i64 L, .int .i64 S, v] 24)).alloc (.cells #[.int .i64 s] 3) := by
  go_enter Try.func54, Try.ntmps54
  go_wp2
  go_ret
  exact ⟨rfl, rfl⟩
end Go.Proofs.Ytblkijdodojaeaa
