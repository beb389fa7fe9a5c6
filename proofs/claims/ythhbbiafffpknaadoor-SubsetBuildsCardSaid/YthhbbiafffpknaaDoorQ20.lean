/- What grooveref09.Great and groovelaw09.fine return. No condition but that the edges can be read. What grooveref09.CheckSet, Has and index return. Condition: a list's length is one of a slice. What grooveref09.Deterministic and Out return. Condition: the edges can be read. -/
import Derived.Test.YthhbbiafffpknaaDoorQ19
import Derived.Test.YthhbbiafffpknaaDoorQ07
import Derived.BigQuiet
import Derived.Test.YthhbbiafffpknaaDoorQ15

namespace Go.Proofs.YthhbbiafffpknaaDoor
open Go.RowKit
set_option linter.unusedSimpArgs false
set_option linter.unusedVariables false

/-- Larger than the laws examine. -/
def greatB (S : Int) (k : Nat) : Bool := decide (30 < k ∨ (10 < S ∧ S ≤ 64))
theorem great_any (L S : Int) (a : Option Addr) (k c : Nat) (w : World) :
    Calls Tryd.prog 12 #[grV L S (.slice a k c)] w fun e w' => e = .returned (.bool (greatB S k)) ∧ Below w.heap.size w w' := by
  by_cases h1 : 30 < k
  · have HE := Lib.hid (show greatB S k = true from decide_eq_true (.inl h1))
    have d1 : decide ((30 : Int) < (k : Int)) = true := decide_eq_true (by omega)
    have d1' : decide (30 < k) = true := decide_eq_true h1
    clear h1
    go_enter Tryd.func12, Tryd.ntmps12
    go_wp2_with fail
    go_ret
    exact ⟨by rw [HE.out]; rfl, below1 w _⟩
  have d1 : decide ((30 : Int) < (k : Int)) = false := decide_eq_false (by omega)
  have d1' : decide (30 < k) = false := decide_eq_false h1
  by_cases h2 : 10 < S
  · have d2 : decide (10 < S) = true := decide_eq_true h2
    by_cases h3 : S ≤ 64
    · have HE := Lib.hid (show greatB S k = true from decide_eq_true (.inr ⟨h2, h3⟩))
      have d3 : decide (S ≤ 64) = true := decide_eq_true h3
      clear h1 h2 h3
      go_enter Tryd.func12, Tryd.ntmps12
      go_wp2_with fail
      go_ret
      exact ⟨by rw [HE.out]; rfl, below1 w _⟩
    · have HE := Lib.hid (show greatB S k = false from decide_eq_false (by omega))
      have d3 : decide (S ≤ 64) = false := decide_eq_false h3
      clear h1 h2 h3
      go_enter Tryd.func12, Tryd.ntmps12
      go_wp2_with fail
      go_ret
      exact ⟨by rw [HE.out]; rfl, below1 w _⟩
  · have HE := Lib.hid (show greatB S k = false from decide_eq_false (by omega))
    have d2 : decide (10 < S) = false := decide_eq_false h2
    clear h1 h2
    go_enter Tryd.func12, Tryd.ntmps12
    go_wp2_with fail
    go_ret
    exact ⟨by rw [HE.out]; rfl, below1 w _⟩
/-- Valid, and not larger than the laws examine. -/
def fineB (L S : Int) (es : List E3) : Bool := !greatB S es.length && chkG L S es == 0
end Go.Proofs.YthhbbiafffpknaaDoor

namespace Go.Proofs.YthhbbiafffpknaaDoor
open Go.RowKit
set_option linter.unusedSimpArgs false
set_option linter.unusedVariables false

set_option maxRecDepth 100000 in
set_option maxHeartbeats 6400000 in
theorem rcheckSet_any (L S : Int) (v vs : Value) (l : List Int) (w : World) (hrd : IntsRd w vs l) (hl : l.length ≤ 9223372036854775807) :
    Calls Tryd.prog 57 #[grV L S v, vs] w fun e w' => e = .returned (.int .i64 (chkS S none l)) ∧ Below w.heap.size w w' := by
  have HRD := Lib.hid hrd
  obtain ⟨a, c, rfl⟩ := hrd.form
  have K0 := Lib.hid (BoxG.new w L S v 24)
  clear hrd
  go_enter Tryd.func57, Tryd.ntmps57
  go_wp2_with fail
  go_loopg [5] l.length (fun q s5 wx => ∃ i : Nat, i + q = l.length ∧ s5 = .int .i64 (i : Int) ∧ Hid (chkS S (prevI l i) (l.drop i) = chkS S none l) ∧ BoxG wx w.heap.size L S v ∧ Below w.heap.size w wx)
  case atStart => exact ⟨0, by omega, rfl, Lib.hid rfl, K0.out, below1 w _⟩
  case round =>
    clear K0
    obtain ⟨i, hi, rfl, HI, hG, hb⟩ := hrel
    rcases gk with _ | q
    · obtain rfl : i = l.length := by omega
      have HE := Lib.hid (show chkS S none l = 0 by rw [← HI.out, List.drop_length]; rfl)
      clear HI
      go_wp2_with fail
      go_ret
      exact ⟨by rw [HE.out]; rfl, hb⟩
    · obtain ⟨x, hx⟩ : ∃ x, l[i]? = some x := ⟨_, List.getElem?_eq_getElem (by omega)⟩
      have hrd := HRD.out.keep hb
      obtain ⟨b, off, c', hv, k1⟩ := hrd.at hx
      injection hv with e1 e2 e3
      subst e1
      subst e3
      have HDR := drop_at hx
      have j1 : (i : Int) < (l.length : Int) := by omega
      obtain ⟨g1, g2, g3⟩ := id hG
      by_cases h1 : inB S x = true
      · have hin := inB_true.1 h1
        have d1 : decide (x < 0) = false := decide_eq_false (by omega)
        have d2 : decide (S ≤ x) = false := decide_eq_false (by omega)
        go_upto_region 4 with fail
        go_quiet (fail)
        rename_i nq
        clear d1 d2
        have hb2 : Below w.heap.size w (wr.drewN nq) := below_drewM hb nq
        have hG2 : BoxG (wr.drewN nq) w.heap.size L S v := hG
        rcases Nat.eq_zero_or_pos i with h0 | h0
        · have HI2 := Lib.hid (show chkS S (prevI l (i + 1)) (l.drop (i + 1)) = chkS S none l by
            rw [← HI.out, HDR, prevI_succ hx, chkS_step (by omega) (fun q hq => by rw [h0, prevI_zero] at hq; cases hq)])
          have d6 : decide ((0 : Int) < (i : Int)) = false := decide_eq_false (by omega)
          have d7 : decide (0 < i) = false := decide_eq_false (by omega)
          clear HI HDR hx h1 h0 hin e2 hrd
          go_upto_region 6 with fail
          go_quiet (fail)
          rename_i nq2
          go_wp2_with fail
          go_roundg q
          case measure => omega
          case rel => exact ⟨i + 1, by omega, by go_num, HI2, hG, below_drewM hb _⟩
        · obtain ⟨j, hj⟩ : ∃ j, i = j + 1 := ⟨i - 1, by omega⟩
          obtain ⟨y, hy⟩ : ∃ y, l[j]? = some y := ⟨_, List.getElem?_eq_getElem (by omega)⟩
          have hpv : prevI l i = some y := by rw [hj]; exact prevI_succ hy
          obtain ⟨b2, off2, c2, hv, k2⟩ := hrd.at hy
          injection hv with e1 e2 e3
          injection e1 with e1
          injection e1 with e1 e4
          subst e1
          subst e4
          subst e3
          have hw : IntKind.i64.wrap ((i : Int) - 1) = (j : Int) := by rw [IntKind.wrap_i64]; omega
          have d6 : decide ((0 : Int) < (i : Int)) = true := decide_eq_true (by omega)
          have d7 : decide (0 < i) = true := decide_eq_true (by omega)
          have j2 : (j : Int) < (l.length : Int) := by omega
          by_cases hlt : y < x
          · have HI2 := Lib.hid (show chkS S (prevI l (i + 1)) (l.drop (i + 1)) = chkS S none l by
              rw [← HI.out, HDR, prevI_succ hx, chkS_step (by omega) (fun q hq => by rw [hpv] at hq; injection hq with hq; omega)])
            have d8 : decide (x ≤ y) = false := decide_eq_false (by omega)
            clear HI HDR hx h1 h0 hin e2 hrd hj hpv hlt hy
            go_upto_region 6 with fail
            go_quiet (fail)
            rename_i nq2
            go_wp2_with fail
            go_roundg q
            case measure => omega
            case rel => exact ⟨i + 1, by omega, by go_num, HI2, hG, below_drewM hb _⟩
          · have HE := Lib.hid (show chkS S none l = 10 by rw [← HI.out, HDR, hpv]; exact chkS_order (by omega) (by omega))
            have d8 : decide (x ≤ y) = true := decide_eq_true (by omega)
            clear HI HDR hx h1 h0 hin e2 hrd hj hpv hlt hy
            go_upto_region 6 with fail
            go_quiet (fail)
            rename_i nq2
            go_wp2_with fail
            go_ret
            exact ⟨by rw [HE.out]; rfl, below_drewM hb _⟩
      · have h2 : inB S x = false := by simpa using h1
        have hin := inB_false.1 h2
        have HE := Lib.hid (show chkS S none l = 25 by rw [← HI.out, HDR]; exact chkS_bad (by omega))
        clear HI HDR hx h1 h2 e2 hrd
        by_cases h3 : x < 0
        · have d1 : decide (x < 0) = true := decide_eq_true h3
          clear h3 hin
          go_upto_region 4 with fail
          go_quiet (fail)
          rename_i nq
          go_wp2_with fail
          go_ret
          exact ⟨by rw [HE.out]; rfl, below_drewM hb _⟩
        · have d1 : decide (x < 0) = false := decide_eq_false h3
          have d2 : decide (S ≤ x) = true := decide_eq_true (by omega)
          clear h3 hin
          go_upto_region 4 with fail
          go_quiet (fail)
          rename_i nq
          go_wp2_with fail
          go_ret
          exact ⟨by rw [HE.out]; rfl, below_drewM hb _⟩
theorem mem_take_succI {l : List Int} {i : Nat} {x n : Int} (hx : l[i]? = some x) (h : n ∉ l.take i) (hne : x ≠ n) : n ∉ l.take (i + 1) := by
  rw [List.take_add_one, hx, List.mem_append]
  rintro (h1 | h1)
  · exact h h1
  · simp at h1; exact hne h1.symm
set_option maxRecDepth 100000 in
theorem rhas_any (vs : Value) (l : List Int) (n : Int) (w : World) (hrd : IntsRd w vs l) (hl : l.length ≤ 9223372036854775807) :
    Calls Tryd.prog 68 #[vs, .int .i64 n] w fun e w' => e = .returned (.bool (decide (n ∈ l))) ∧ w' = w := by
  have HRD := Lib.hid hrd
  obtain ⟨a, c, rfl⟩ := hrd.form
  clear hrd
  go_enter Tryd.func68, Tryd.ntmps68
  go_wp2_with fail
  go_loopg [5] l.length (fun q s5 wx => ∃ i : Nat, i + q = l.length ∧ s5 = .int .i64 (i : Int) ∧ Hid (n ∉ l.take i) ∧ wx = w)
  case atStart => exact ⟨0, by omega, rfl, Lib.hid (by simp), rfl⟩
  case round =>
    obtain ⟨i, hi, rfl, HI, rfl⟩ := hrel
    rcases gk with _ | q
    · obtain rfl : i = l.length := by omega
      have HE := Lib.hid (show decide (n ∈ l) = false from decide_eq_false (by have h := HI.out; rwa [List.take_length] at h))
      clear HI
      go_wp2_with fail
      go_ret
      exact ⟨by rw [HE.out]; rfl, rfl⟩
    · obtain ⟨x, hx⟩ : ∃ x, l[i]? = some x := ⟨_, List.getElem?_eq_getElem (by omega)⟩
      obtain ⟨b, off, c', hv, k1⟩ := HRD.out.at hx
      injection hv with e1 e2 e3
      subst e1
      subst e3
      have j1 : (i : Int) < (l.length : Int) := by omega
      by_cases hxn : x = n
      · subst hxn
        have HE := Lib.hid (show decide (x ∈ l) = true from decide_eq_true (List.mem_of_getElem? hx))
        clear HI hx e2
        go_wp2_with fail
        go_ret
        exact ⟨by rw [HE.out]; rfl, rfl⟩
      · have HI2 := Lib.hid (mem_take_succI hx HI.out hxn)
        have d1 : (x == n) = false := by simpa using hxn
        clear HI hx e2 hxn
        go_wp2_with fail
        go_roundg q
        case measure => omega
        case rel => exact ⟨i + 1, by omega, by go_num, HI2, rfl⟩
end Go.Proofs.YthhbbiafffpknaaDoor

namespace Go.Proofs.YthhbbiafffpknaaDoor
open Go.RowKit
set_option linter.unusedSimpArgs false
set_option linter.unusedVariables false

/-- What Out returns: the indices, the error. -/
def outR (La S : Int) (es : List E3) (s : Int) : List Int × Int := if chkG La S es = 0 then (if 0 ≤ s ∧ s < S then ((lvF es s 0).map (fun j : Nat => (j : Int)), 0) else ([], 25)) else ([], 1)
def IOut (w : World) (r : List Int × Int) (e : Ending) (w' : World) : Prop := ∃ u, e = .returned (.tuple #[u, .int .i64 r.2]) ∧ IntsAt w' w.heap.size u r.1 ∧ Below w.heap.size w w'
theorem lvF_take {es : List E3} {s : Int} {i : Nat} {e : E3} (h : es[i]? = some e) : lvF (es.take (i + 1)) s 0 = lvF (es.take i) s 0 ++ (if e.1 = s then [i] else []) := by
  have hi := (List.getElem?_eq_some_iff.1 h).1
  unfold lvF
  have e1 : (es.take (i + 1)).length = i + 1 := by rw [List.length_take]; omega
  have e2 : (es.take i).length = i := by rw [List.length_take]; omega
  rw [e1, e2, Nat.sub_zero, Nat.sub_zero, List.range'_concat, List.filter_append]
  have e3 : ∀ j, j < i → (es.take (i + 1))[j]! = (es.take i)[j]! := fun j hj => by
    rw [getElem!_def, getElem!_def, List.getElem?_take_of_lt (by omega), List.getElem?_take_of_lt hj]
  have e4 : (es.take (i + 1))[i]! = e := by rw [getElem!_def, List.getElem?_take_of_lt (by omega), h]
  congr 1
  · refine List.filter_congr (fun j hj => ?_)
    rw [List.mem_range'_1] at hj
    rw [e3 j (by omega)]
  · simp only [Nat.one_mul, Nat.zero_add]
    by_cases hs : e.1 = s
    · rw [if_pos hs, List.filter_cons_of_pos (by rw [e4]; simpa using hs)]; rfl
    · rw [if_neg hs, List.filter_cons_of_neg (by rw [e4]; simpa using hs)]; rfl
theorem lvF_len {es : List E3} {s : Int} : (lvF es s 0).length ≤ es.length := by
  unfold lvF
  refine Nat.le_trans (List.length_filter_le _ _) ?_
  rw [List.length_range', Nat.sub_zero]
  exact Nat.le_refl _
end Go.Proofs.YthhbbiafffpknaaDoor
