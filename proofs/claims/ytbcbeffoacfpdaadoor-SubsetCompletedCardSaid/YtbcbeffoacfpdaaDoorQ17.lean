/- What grooveref09.Great and groovelaw09.fine return. No condition but that the edges can be read. What grooveref09.CheckSet, Has and index return. Condition: a list's length is one of a slice. What slices.BinarySearchFunc by where an edge begins, and graph.leaving, return. Conditions: at most 1024 edges, numbers below 64, in order. -/
import Derived.Test.YtbcbeffoacfpdaaDoorQ16
import Derived.Test.YtbcbeffoacfpdaaDoorQ07
import Derived.BigQuiet
import Derived.Test.YtbcbeffoacfpdaaDoorQ03

namespace Go.Proofs.YtbcbeffoacfpdaaDoor
open Go.RowKit
set_option linter.unusedSimpArgs false
set_option linter.unusedVariables false

/-- Larger than the laws examine. -/
def greatB (S : Int) (k : Nat) : Bool := decide (30 < k ∨ (10 < S ∧ S ≤ 64))
theorem great_any (L S : Int) (a : Option Addr) (k c : Nat) (w : World) :
    Calls Tryd.prog 35 #[grV L S (.slice a k c)] w fun e w' => e = .returned (.bool (greatB S k)) ∧ Below w.heap.size w w' := by
  by_cases h1 : 30 < k
  · have HE := Lib.hid (show greatB S k = true from decide_eq_true (.inl h1))
    have d1 : decide ((30 : Int) < (k : Int)) = true := decide_eq_true (by omega)
    have d1' : decide (30 < k) = true := decide_eq_true h1
    clear h1
    go_enter Tryd.func35, Tryd.ntmps35
    go_wp2_with fail
    go_ret
    exact ⟨by rw [HE.out]; rfl, below1 w _⟩
  have d1 : decide ((30 : Int) < (k : Int)) = false := decide_eq_false (by omega)
  have d1' : decide (30 < k) = false := decide_eq_false h1
  by_cases h2 : 10 < S
  · have d2 : decide (10 < S) = true := decide_eq_true h2
    by_cases h3 : S ≤ 64
    · have HE := Lib.hid (show greatB S k = true from decide_eq_true (.inr ⟨h2, h3⟩))
      have d3 : decide (S ≤ 64) = true := decide_eq_true h3
      clear h1 h2 h3
      go_enter Tryd.func35, Tryd.ntmps35
      go_wp2_with fail
      go_ret
      exact ⟨by rw [HE.out]; rfl, below1 w _⟩
    · have HE := Lib.hid (show greatB S k = false from decide_eq_false (by omega))
      have d3 : decide (S ≤ 64) = false := decide_eq_false h3
      clear h1 h2 h3
      go_enter Tryd.func35, Tryd.ntmps35
      go_wp2_with fail
      go_ret
      exact ⟨by rw [HE.out]; rfl, below1 w _⟩
  · have HE := Lib.hid (show greatB S k = false from decide_eq_false (by omega))
    have d2 : decide (10 < S) = false := decide_eq_false h2
    clear h1 h2
    go_enter Tryd.func35, Tryd.ntmps35
    go_wp2_with fail
    go_ret
    exact ⟨by rw [HE.out]; rfl, below1 w _⟩
/-- Valid, and not larger than the laws examine. -/
def fineB (L S : Int) (es : List E3) : Bool := !greatB S es.length && chkG L S es == 0
end Go.Proofs.YtbcbeffoacfpdaaDoor

namespace Go.Proofs.YtbcbeffoacfpdaaDoor
open Go.RowKit
set_option linter.unusedSimpArgs false
set_option linter.unusedVariables false

set_option maxRecDepth 100000 in
set_option maxHeartbeats 6400000 in
theorem rcheckSet_any (L S : Int) (v vs : Value) (l : List Int) (w : World) (hrd : IntsRd w vs l) (hl : l.length ≤ 9223372036854775807) :
    Calls Tryd.prog 92 #[grV L S v, vs] w fun e w' => e = .returned (.int .i64 (chkS S none l)) ∧ Below w.heap.size w w' := by
  have HRD := Lib.hid hrd
  obtain ⟨a, c, rfl⟩ := hrd.form
  have K0 := Lib.hid (BoxG.new w L S v 24)
  clear hrd
  go_enter Tryd.func92, Tryd.ntmps92
  go_wp2_with fail
  go_loopg [5] l.length (fun q s5 wx => ∃ i : Nat, i + q = l.length ∧ s5 = .int .i64 (i : Int) ∧ Hid (chkS S (prevI l i) (l.drop i) = chkS S none l) ∧ BoxG wx w.heap.size L S v ∧ Below w.heap.size w wx)
  case atStart => exact ⟨0, by omega, rfl, Lib.hid rfl, K0.out, below1 w _⟩
  case round =>
    clear K0
    obtain ⟨i, hi, rfl, HI, hG, hb⟩ := hrel
    rcases gk with _ | q
    · obtain rfl : i = l.length := by omega
      have HE := Lib.hid (show chkS S none l = 0 by rw [← HI.out, List.drop_length]; rfl)
      clear HI
      go_wp2_with fail
      go_ret
      exact ⟨by rw [HE.out]; rfl, hb⟩
    · obtain ⟨x, hx⟩ : ∃ x, l[i]? = some x := ⟨_, List.getElem?_eq_getElem (by omega)⟩
      have hrd := HRD.out.keep hb
      obtain ⟨b, off, c', hv, k1⟩ := hrd.at hx
      injection hv with e1 e2 e3
      subst e1
      subst e3
      have HDR := drop_at hx
      have j1 : (i : Int) < (l.length : Int) := by omega
      obtain ⟨g1, g2, g3⟩ := id hG
      by_cases h1 : inB S x = true
      · have hin := inB_true.1 h1
        have d1 : decide (x < 0) = false := decide_eq_false (by omega)
        have d2 : decide (S ≤ x) = false := decide_eq_false (by omega)
        go_upto_region 4 with fail
        go_quiet (fail)
        rename_i nq
        clear d1 d2
        have hb2 : Below w.heap.size w (wr.drewN nq) := below_drewM hb nq
        have hG2 : BoxG (wr.drewN nq) w.heap.size L S v := hG
        rcases Nat.eq_zero_or_pos i with h0 | h0
        · have HI2 := Lib.hid (show chkS S (prevI l (i + 1)) (l.drop (i + 1)) = chkS S none l by
            rw [← HI.out, HDR, prevI_succ hx, chkS_step (by omega) (fun q hq => by rw [h0, prevI_zero] at hq; cases hq)])
          have d6 : decide ((0 : Int) < (i : Int)) = false := decide_eq_false (by omega)
          have d7 : decide (0 < i) = false := decide_eq_false (by omega)
          clear HI HDR hx h1 h0 hin e2 hrd
          go_upto_region 6 with fail
          go_quiet (fail)
          rename_i nq2
          go_wp2_with fail
          go_roundg q
          case measure => omega
          case rel => exact ⟨i + 1, by omega, by go_num, HI2, hG, below_drewM hb _⟩
        · obtain ⟨j, hj⟩ : ∃ j, i = j + 1 := ⟨i - 1, by omega⟩
          obtain ⟨y, hy⟩ : ∃ y, l[j]? = some y := ⟨_, List.getElem?_eq_getElem (by omega)⟩
          have hpv : prevI l i = some y := by rw [hj]; exact prevI_succ hy
          obtain ⟨b2, off2, c2, hv, k2⟩ := hrd.at hy
          injection hv with e1 e2 e3
          injection e1 with e1
          injection e1 with e1 e4
          subst e1
          subst e4
          subst e3
          have hw : IntKind.i64.wrap ((i : Int) - 1) = (j : Int) := by rw [IntKind.wrap_i64]; omega
          have d6 : decide ((0 : Int) < (i : Int)) = true := decide_eq_true (by omega)
          have d7 : decide (0 < i) = true := decide_eq_true (by omega)
          have j2 : (j : Int) < (l.length : Int) := by omega
          by_cases hlt : y < x
          · have HI2 := Lib.hid (show chkS S (prevI l (i + 1)) (l.drop (i + 1)) = chkS S none l by
              rw [← HI.out, HDR, prevI_succ hx, chkS_step (by omega) (fun q hq => by rw [hpv] at hq; injection hq with hq; omega)])
            have d8 : decide (x ≤ y) = false := decide_eq_false (by omega)
            clear HI HDR hx h1 h0 hin e2 hrd hj hpv hlt hy
            go_upto_region 6 with fail
            go_quiet (fail)
            rename_i nq2
            go_wp2_with fail
            go_roundg q
            case measure => omega
            case rel => exact ⟨i + 1, by omega, by go_num, HI2, hG, below_drewM hb _⟩
          · have HE := Lib.hid (show chkS S none l = 10 by rw [← HI.out, HDR, hpv]; exact chkS_order (by omega) (by omega))
            have d8 : decide (x ≤ y) = true := decide_eq_true (by omega)
            clear HI HDR hx h1 h0 hin e2 hrd hj hpv hlt hy
            go_upto_region 6 with fail
            go_quiet (fail)
            rename_i nq2
            go_wp2_with fail
            go_ret
            exact ⟨by rw [HE.out]; rfl, below_drewM hb _⟩
      · have h2 : inB S x = false := by simpa using h1
        have hin := inB_false.1 h2
        have HE := Lib.hid (show chkS S none l = 25 by rw [← HI.out, HDR]; exact chkS_bad (by omega))
        clear HI HDR hx h1 h2 e2 hrd
        by_cases h3 : x < 0
        · have d1 : decide (x < 0) = true := decide_eq_true h3
          clear h3 hin
          go_upto_region 4 with fail
          go_quiet (fail)
          rename_i nq
          go_wp2_with fail
          go_ret
          exact ⟨by rw [HE.out]; rfl, below_drewM hb _⟩
        · have d1 : decide (x < 0) = false := decide_eq_false h3
          have d2 : decide (S ≤ x) = true := decide_eq_true (by omega)
          clear h3 hin
          go_upto_region 4 with fail
          go_quiet (fail)
          rename_i nq
          go_wp2_with fail
          go_ret
          exact ⟨by rw [HE.out]; rfl, below_drewM hb _⟩
theorem mem_take_succI {l : List Int} {i : Nat} {x n : Int} (hx : l[i]? = some x) (h : n ∉ l.take i) (hne : x ≠ n) : n ∉ l.take (i + 1) := by
  rw [List.take_add_one, hx, List.mem_append]
  rintro (h1 | h1)
  · exact h h1
  · simp at h1; exact hne h1.symm
set_option maxRecDepth 100000 in
theorem rhas_any (vs : Value) (l : List Int) (n : Int) (w : World) (hrd : IntsRd w vs l) (hl : l.length ≤ 9223372036854775807) :
    Calls Tryd.prog 105 #[vs, .int .i64 n] w fun e w' => e = .returned (.bool (decide (n ∈ l))) ∧ w' = w := by
  have HRD := Lib.hid hrd
  obtain ⟨a, c, rfl⟩ := hrd.form
  clear hrd
  go_enter Tryd.func105, Tryd.ntmps105
  go_wp2_with fail
  go_loopg [5] l.length (fun q s5 wx => ∃ i : Nat, i + q = l.length ∧ s5 = .int .i64 (i : Int) ∧ Hid (n ∉ l.take i) ∧ wx = w)
  case atStart => exact ⟨0, by omega, rfl, Lib.hid (by simp), rfl⟩
  case round =>
    obtain ⟨i, hi, rfl, HI, rfl⟩ := hrel
    rcases gk with _ | q
    · obtain rfl : i = l.length := by omega
      have HE := Lib.hid (show decide (n ∈ l) = false from decide_eq_false (by have h := HI.out; rwa [List.take_length] at h))
      clear HI
      go_wp2_with fail
      go_ret
      exact ⟨by rw [HE.out]; rfl, rfl⟩
    · obtain ⟨x, hx⟩ : ∃ x, l[i]? = some x := ⟨_, List.getElem?_eq_getElem (by omega)⟩
      obtain ⟨b, off, c', hv, k1⟩ := HRD.out.at hx
      injection hv with e1 e2 e3
      subst e1
      subst e3
      have j1 : (i : Int) < (l.length : Int) := by omega
      by_cases hxn : x = n
      · subst hxn
        have HE := Lib.hid (show decide (x ∈ l) = true from decide_eq_true (List.mem_of_getElem? hx))
        clear HI hx e2
        go_wp2_with fail
        go_ret
        exact ⟨by rw [HE.out]; rfl, rfl⟩
      · have HI2 := Lib.hid (mem_take_succI hx HI.out hxn)
        have d1 : (x == n) = false := by simpa using hxn
        clear HI hx e2 hxn
        go_wp2_with fail
        go_roundg q
        case measure => omega
        case rel => exact ⟨i + 1, by omega, by go_num, HI2, rfl⟩
end Go.Proofs.YtbcbeffoacfpdaaDoor

namespace Go.Proofs.YtbcbeffoacfpdaaDoor
open Go.RowKit
set_option linter.unusedSimpArgs false
set_option linter.unusedVariables false

set_option maxRecDepth 100000 in
theorem fromLess_any (e : E3) (s : Int) (w : World) (h1 : 0 ≤ e.1 ∧ e.1 < 64) (h2 : 0 ≤ s ∧ s < 64) : Calls Tryd.prog 86 #[edgV e, .int .i64 s] w fun en w' => en = .returned (.int .i64 (e.1 - s)) ∧ Below w.heap.size w w' := by
  have hw : IntKind.i64.wrap (e.1 - s) = e.1 - s := by simp [IntKind.wrap, IntKind.signed, IntKind.bits]; omega
  clear h1 h2
  go_enter Tryd.func86, Tryd.ntmps86
  go_wp2_with fail
  go_ret
  exact ⟨rfl, below1 w _⟩
set_option maxRecDepth 100000 in
set_option maxHeartbeats 1600000 in
theorem bsearch_any (es : List E3) (s : Int) (v : Value) (w : World) (hrd : EdgesRd w v es) (hn : es.length ≤ 1024) (hs : 0 ≤ s ∧ s < 64) (hb : ∀ e ∈ es, 0 ≤ e.1 ∧ e.1 < 64) (ho : ∀ i j : Nat, i < j → ∀ e f, es[i]? = some e → es[j]? = some f → e.1 ≤ f.1) :
    Calls Tryd.prog 85 #[v, .int .i64 s, .func (.func 86) #[] #[]] w fun en w' => ∃ (i : Nat) (b : Bool), en = .returned (.tuple #[.int .i64 (i : Int), .bool b]) ∧ i ≤ es.length ∧ (∀ j e, j < i → es[j]? = some e → e.1 < s) ∧ (∀ j e, i ≤ j → es[j]? = some e → s ≤ e.1) ∧ Below w.heap.size w w' := by
  have HRD := Lib.hid hrd
  have HB := Lib.hid hb
  have HO := Lib.hid ho
  obtain ⟨a, c, rfl⟩ := hrd.form
  clear hrd hb ho
  go_enter Tryd.func85, Tryd.ntmps85
  go_wp2_with fail
  go_loopg [9, 10] es.length (fun q s9 s10 wx => ∃ lo hi : Nat, lo + q = hi ∧ s9 = .int .i64 (lo : Int) ∧ s10 = .int .i64 (hi : Int) ∧ hi ≤ es.length ∧ Hid (∀ j e, j < lo → es[j]? = some e → e.1 < s) ∧ Hid (∀ j e, hi ≤ j → es[j]? = some e → s ≤ e.1) ∧ Below w.heap.size w wx)
  case atStart => exact ⟨0, es.length, by omega, rfl, rfl, Nat.le_refl _, Lib.hid (fun j e hj => absurd hj (Nat.not_lt_zero _)), Lib.hid (fun j e hj he => absurd (List.getElem?_eq_some_iff.1 he).1 (by omega)), Below.refl _ _⟩
  case round =>
    obtain ⟨lo, hi, hq, rfl, rfl, hle, HL, HH, hb⟩ := hrel
    rcases gk with _ | q
    · obtain rfl : lo = hi := by omega
      clear hq
      by_cases hlt : lo < es.length
      · obtain ⟨e, he⟩ : ∃ e, es[lo]? = some e := ⟨_, List.getElem?_eq_getElem hlt⟩
        have hbe := HB.out e (List.mem_of_getElem? he)
        obtain ⟨bb, off, c', hv, k1, k2, k3⟩ := (HRD.out.keep hb).at he
        injection hv with e1 e2 e3
        subst e1
        subst e3
        have HF := Lib.hid (fun W => fromLess_any e s W hbe hs)
        obtain ⟨x, y, z⟩ := e
        dsimp only at k1 k2 k3 HF
        have j1 : (lo : Int) < (es.length : Int) := by omega
        clear he hbe
        go_wp2_with (go_at_call 86; (with_reducible refine (HF.out _).mono ?_); rintro e0 W1 ⟨rfl, b1⟩)
        exact bodyPost_ret (v := .tuple #[.int .i64 (lo : Int), .bool (x - s == 0)]) (by simp [results, Tryd.results85, go_sem]) rfl ⟨lo, _, rfl, hle, HL.out, HH.out, below_more hb (Nat.le_refl _) b1⟩
      · have j1 : decide ((lo : Int) < (es.length : Int)) = false := decide_eq_false (by omega)
        have j2 : decide (lo < es.length) = false := decide_eq_false (by omega)
        go_wp2_with fail
        exact bodyPost_ret (v := .tuple #[.int .i64 (lo : Int), .bool false]) (by simp [results, Tryd.results85, go_sem]) rfl ⟨lo, _, rfl, hle, HL.out, HH.out, hb⟩
    · obtain ⟨mid, hmid⟩ : ∃ mid, (lo + hi) / 2 = mid := ⟨_, rfl⟩
      have hm1 : lo ≤ mid := by omega
      have hm2 : mid < hi := by omega
      have j0 : (lo : Int) < (hi : Int) := by omega
      have t1 : ((lo : Int) + (hi : Int)) / 2 = (mid : Int) := by omega
      obtain ⟨e, he⟩ : ∃ e, es[mid]? = some e := ⟨_, List.getElem?_eq_getElem (by omega)⟩
      have hbe := HB.out e (List.mem_of_getElem? he)
      obtain ⟨bb, off, c', hv, k1, k2, k3⟩ := (HRD.out.keep hb).at he
      injection hv with e1 e2 e3
      subst e1
      subst e3
      have HF := Lib.hid (fun W => fromLess_any e s W hbe hs)
      obtain ⟨x, y, z⟩ := e
      dsimp only at k1 k2 k3 HF
      have j1 : (mid : Int) < (es.length : Int) := by omega
      have hw1 : IntKind.i64.wrap ((lo : Int) + (hi : Int)) = (lo : Int) + (hi : Int) := by simp [IntKind.wrap, IntKind.signed, IntKind.bits]; omega
      have hw2 : IntKind.u64.wrap ((lo : Int) + (hi : Int)) = (lo : Int) + (hi : Int) := by simp [IntKind.wrap, IntKind.signed, IntKind.bits]; omega
      have hw3 : IntKind.i64.wrap (mid : Int) = (mid : Int) := by simp [IntKind.wrap, IntKind.signed, IntKind.bits]; omega
      clear hbe hmid
      have HMID := Lib.hid he
      clear he e2
      by_cases hx : x < s
      · have d1 : decide (x - s < 0) = true := decide_eq_true (by omega)
        have HL2 := Lib.hid (show ∀ j e, j < mid + 1 → es[j]? = some e → e.1 < s from fun j e hj he => by
          rcases (show j < mid ∨ j = mid by omega) with h1 | rfl
          · have := HO.out j mid h1 e _ he HMID.out
            dsimp only at this
            omega
          · rw [HMID.out] at he
            injection he with he
            subst he
            exact hx)
        clear hx
        go_wp2_with (go_at_call 86; (with_reducible refine (HF.out _).mono ?_); rintro e0 W1 ⟨rfl, b1⟩)
        go_roundg (hi - (mid + 1))
        case measure => omega
        case rel => exact ⟨mid + 1, hi, by omega, by go_num, rfl, hle, HL2, HH, below_more hb (Nat.le_refl _) b1⟩
      · have d1 : decide (x - s < 0) = false := decide_eq_false (by omega)
        have HH2 := Lib.hid (show ∀ j e, mid ≤ j → es[j]? = some e → s ≤ e.1 from fun j e hj he => by
          rcases (show mid < j ∨ j = mid by omega) with h1 | rfl
          · have := HO.out mid j h1 _ e HMID.out he
            dsimp only at this
            omega
          · rw [HMID.out] at he
            injection he with he
            subst he
            show s ≤ x
            omega)
        clear hx
        go_wp2_with (go_at_call 86; (with_reducible refine (HF.out _).mono ?_); rintro e0 W1 ⟨rfl, b1⟩)
        go_roundg (mid - lo)
        case measure => omega
        case rel => exact ⟨lo, mid, by omega, rfl, rfl, by omega, HL, HH2, below_more hb (Nat.le_refl _) b1⟩
end Go.Proofs.YtbcbeffoacfpdaaDoor
