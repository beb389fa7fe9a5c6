/- What slices.BinarySearchFunc by where an edge begins, and graph.leaving, return. Conditions: at most 1024 edges, numbers below 64, in order. -/
import Derived.Test.YtiebhalefdpjiaaDoorVe
namespace Go.Proofs.YtiebhalefdpjiaaDoor
open Go.RowKit
set_option linter.unusedSimpArgs false
set_option linter.unusedVariables false

set_option maxRecDepth 100000 in
theorem fromLess_any (e : E3) (s : Int) (w : World) (h1 : 0 ≤ e.1 ∧ e.1 < 64) (h2 : 0 ≤ s ∧ s < 64) : Calls Tryd.prog 67 #[edgV e, .int .i64 s] w fun en w' => en = .returned (.int .i64 (e.1 - s)) ∧ Below w.heap.size w w' := by
  have hw : IntKind.i64.wrap (e.1 - s) = e.1 - s := by simp [IntKind.wrap, IntKind.signed, IntKind.bits]; omega
  clear h1 h2
  go_enter Tryd.func67, Tryd.ntmps67
  go_wp2_with fail
  go_ret
  exact ⟨rfl, below1 w _⟩
set_option maxRecDepth 100000 in
set_option maxHeartbeats 1600000 in
theorem bsearch_any (es : List E3) (s : Int) (v : Value) (w : World) (hrd : EdgesRd w v es) (hn : es.length ≤ 1024) (hs : 0 ≤ s ∧ s < 64) (hb : ∀ e ∈ es, 0 ≤ e.1 ∧ e.1 < 64) (ho : ∀ i j : Nat, i < j → ∀ e f, es[i]? = some e → es[j]? = some f → e.1 ≤ f.1) :
    Calls Tryd.prog 66 #[v, .int .i64 s, .func (.func 67) #[] #[]] w fun en w' => ∃ (i : Nat) (b : Bool), en = .returned (.tuple #[.int .i64 (i : Int), .bool b]) ∧ i ≤ es.length ∧ (∀ j e, j < i → es[j]? = some e → e.1 < s) ∧ (∀ j e, i ≤ j → es[j]? = some e → s ≤ e.1) ∧ Below w.heap.size w w' := by
  have HRD := Lib.hid hrd
  have HB := Lib.hid hb
  have HO := Lib.hid ho
  obtain ⟨a, c, rfl⟩ := hrd.form
  clear hrd hb ho
  go_enter Tryd.func66, Tryd.ntmps66
  go_wp2_with fail
  go_loopg [9, 10] es.length (fun q s9 s10 wx => ∃ lo hi : Nat, lo + q = hi ∧ s9 = .int .i64 (lo : Int) ∧ s10 = .int .i64 (hi : Int) ∧ hi ≤ es.length ∧ Hid (∀ j e, j < lo → es[j]? = some e → e.1 < s) ∧ Hid (∀ j e, hi ≤ j → es[j]? = some e → s ≤ e.1) ∧ Below w.heap.size w wx)
  case atStart => exact ⟨0, es.length, by omega, rfl, rfl, Nat.le_refl _, Lib.hid (fun j e hj => absurd hj (Nat.not_lt_zero _)), Lib.hid (fun j e hj he => absurd (List.getElem?_eq_some_iff.1 he).1 (by omega)), Below.refl _ _⟩
  case round =>
    obtain ⟨lo, hi, hq, rfl, rfl, hle, HL, HH, hb⟩ := hrel
    rcases gk with _ | q
    · obtain rfl : lo = hi := by omega
      clear hq
      by_cases hlt : lo < es.length
      · obtain ⟨e, he⟩ : ∃ e, es[lo]? = some e := ⟨_, List.getElem?_eq_getElem hlt⟩
        have hbe := HB.out e (List.mem_of_getElem? he)
        obtain ⟨bb, off, c', hv, k1, k2, k3⟩ := (HRD.out.keep hb).at he
        injection hv with e1 e2 e3
        subst e1
        subst e3
        have HF := Lib.hid (fun W => fromLess_any e s W hbe hs)
        obtain ⟨x, y, z⟩ := e
        dsimp only at k1 k2 k3 HF
        have j1 : (lo : Int) < (es.length : Int) := by omega
        clear he hbe
        go_wp2_with (go_at_call 67; (with_reducible refine (HF.out _).mono ?_); rintro e0 W1 ⟨rfl, b1⟩)
        exact bodyPost_ret (v := .tuple #[.int .i64 (lo : Int), .bool (x - s == 0)]) (by simp [results, Tryd.results66, go_sem]) rfl ⟨lo, _, rfl, hle, HL.out, HH.out, below_more hb (Nat.le_refl _) b1⟩
      · have j1 : decide ((lo : Int) < (es.length : Int)) = false := decide_eq_false (by omega)
        have j2 : decide (lo < es.length) = false := decide_eq_false (by omega)
        go_wp2_with fail
        exact bodyPost_ret (v := .tuple #[.int .i64 (lo : Int), .bool false]) (by simp [results, Tryd.results66, go_sem]) rfl ⟨lo, _, rfl, hle, HL.out, HH.out, hb⟩
    · obtain ⟨mid, hmid⟩ : ∃ mid, (lo + hi) / 2 = mid := ⟨_, rfl⟩
      have hm1 : lo ≤ mid := by omega
      have hm2 : mid < hi := by omega
      have j0 : (lo : Int) < (hi : Int) := by omega
      have t1 : ((lo : Int) + (hi : Int)) / 2 = (mid : Int) := by omega
      obtain ⟨e, he⟩ : ∃ e, es[mid]? = some e := ⟨_, List.getElem?_eq_getElem (by omega)⟩
      have hbe := HB.out e (List.mem_of_getElem? he)
      obtain ⟨bb, off, c', hv, k1, k2, k3⟩ := (HRD.out.keep hb).at he
      injection hv with e1 e2 e3
      subst e1
      subst e3
      have HF := Lib.hid (fun W => fromLess_any e s W hbe hs)
      obtain ⟨x, y, z⟩ := e
      dsimp only at k1 k2 k3 HF
      have j1 : (mid : Int) < (es.length : Int) := by omega
      have hw1 : IntKind.i64.wrap ((lo : Int) + (hi : Int)) = (lo : Int) + (hi : Int) := by simp [IntKind.wrap, IntKind.signed, IntKind.bits]; omega
      have hw2 : IntKind.u64.wrap ((lo : Int) + (hi : Int)) = (lo : Int) + (hi : Int) := by simp [IntKind.wrap, IntKind.signed, IntKind.bits]; omega
      have hw3 : IntKind.i64.wrap (mid : Int) = (mid : Int) := by simp [IntKind.wrap, IntKind.signed, IntKind.bits]; omega
      clear hbe hmid
      have HMID := Lib.hid he
      clear he e2
      by_cases hx : x < s
      · have d1 : decide (x - s < 0) = true := decide_eq_true (by omega)
        have HL2 := Lib.hid (show ∀ j e, j < mid + 1 → es[j]? = some e → e.1 < s from fun j e hj he => by
          rcases (show j < mid ∨ j = mid by omega) with h1 | rfl
          · have := HO.out j mid h1 e _ he HMID.out
            dsimp only at this
            omega
          · rw [HMID.out] at he
            injection he with he
            subst he
            exact hx)
        clear hx
        go_wp2_with (go_at_call 67; (with_reducible refine (HF.out _).mono ?_); rintro e0 W1 ⟨rfl, b1⟩)
        go_roundg (hi - (mid + 1))
        case measure => omega
        case rel => exact ⟨mid + 1, hi, by omega, by go_num, rfl, hle, HL2, HH, below_more hb (Nat.le_refl _) b1⟩
      · have d1 : decide (x - s < 0) = false := decide_eq_false (by omega)
        have HH2 := Lib.hid (show ∀ j e, mid ≤ j → es[j]? = some e → s ≤ e.1 from fun j e hj he => by
          rcases (show mid < j ∨ j = mid by omega) with h1 | rfl
          · have := HO.out mid j h1 _ e HMID.out he
            dsimp only at this
            omega
          · rw [HMID.out] at he
            injection he with he
            subst he
            show s ≤ x
            omega)
        clear hx
        go_wp2_with (go_at_call 67; (with_reducible refine (HF.out _).mono ?_); rintro e0 W1 ⟨rfl, b1⟩)
        go_roundg (mid - lo)
        case measure => omega
        case rel => exact ⟨lo, mid, by omega, rfl, rfl, by omega, HL, HH2, below_more hb (Nat.le_refl _) b1⟩
end Go.Proofs.YtiebhalefdpjiaaDoor
