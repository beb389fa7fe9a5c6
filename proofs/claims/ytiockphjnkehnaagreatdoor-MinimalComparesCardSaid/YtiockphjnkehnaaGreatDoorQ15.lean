/- What grooveref09.Great and groovelaw09.fine return. No condition but that the edges can be read. What grooveref09.CheckSet, Has and index return. Condition: a list's length is one of a slice. What grooveref09.Deterministic and Out return. Condition: the edges can be read. -/
import Derived.Test.YtiockphjnkehnaaGreatDoorQ14
import Derived.Test.YtiockphjnkehnaaGreatDoorQ07
import Derived.BigQuiet
import Derived.Test.YtiockphjnkehnaaGreatDoorQ08
import Derived.Test.YtiockphjnkehnaaGreatDoorQ03
import Derived.Test.YtiockphjnkehnaaGreatDoorQ02
import Derived.RangeFuncNested
import Derived.RangeFuncBound
import Derived.RangeFuncCalls
import Derived.RangeFuncLeaves
import Derived.RangeFuncOne
import Derived.Shelf.Abstract
import Derived.Shelf.RegionOpen
import Derived.WalkKit
import Derived.OwnWalkIn
import Derived.TacticsInMore
import Derived.LoopNIn
import Derived.LoopIn

namespace Go.Proofs.YtiockphjnkehnaaGreatDoor
open Go.RowKit
set_option linter.unusedSimpArgs false
set_option linter.unusedVariables false

def greatB (S : Int) (k : Nat) : Bool := decide (30 < k ∨ (10 < S ∧ S ≤ 64))
theorem great_any (L S : Int) (a : Option Addr) (k c : Nat) (w : World) :
    Calls Tryz.prog 35 #[grV L S (.slice a k c)] w fun e w' => e = .returned (.bool (greatB S k)) ∧ Below w.heap.size w w' := by
  by_cases h1 : 30 < k
  · have HE := Lib.hid (show greatB S k = true from decide_eq_true (.inl h1))
    have d1 : decide ((30 : Int) < (k : Int)) = true := decide_eq_true (by omega)
    have d1' : decide (30 < k) = true := decide_eq_true h1
    clear h1
    go_enter Tryz.func35, Tryz.ntmps35
    go_wp2_with fail
    go_ret
    exact ⟨by rw [HE.out]; rfl, below1 w _⟩
  have d1 : decide ((30 : Int) < (k : Int)) = false := decide_eq_false (by omega)
  have d1' : decide (30 < k) = false := decide_eq_false h1
  by_cases h2 : 10 < S
  · have d2 : decide (10 < S) = true := decide_eq_true h2
    by_cases h3 : S ≤ 64
    · have HE := Lib.hid (show greatB S k = true from decide_eq_true (.inr ⟨h2, h3⟩))
      have d3 : decide (S ≤ 64) = true := decide_eq_true h3
      clear h1 h2 h3
      go_enter Tryz.func35, Tryz.ntmps35
      go_wp2_with fail
      go_ret
      exact ⟨by rw [HE.out]; rfl, below1 w _⟩
    · have HE := Lib.hid (show greatB S k = false from decide_eq_false (by omega))
      have d3 : decide (S ≤ 64) = false := decide_eq_false h3
      clear h1 h2 h3
      go_enter Tryz.func35, Tryz.ntmps35
      go_wp2_with fail
      go_ret
      exact ⟨by rw [HE.out]; rfl, below1 w _⟩
  · have HE := Lib.hid (show greatB S k = false from decide_eq_false (by omega))
    have d2 : decide (10 < S) = false := decide_eq_false h2
    clear h1 h2
    go_enter Tryz.func35, Tryz.ntmps35
    go_wp2_with fail
    go_ret
    exact ⟨by rw [HE.out]; rfl, below1 w _⟩
end Go.Proofs.YtiockphjnkehnaaGreatDoor

namespace Go.Proofs.YtiockphjnkehnaaGreatDoor
open Go.RowKit
set_option linter.unusedSimpArgs false
set_option linter.unusedVariables false

set_option maxRecDepth 100000 in
set_option maxHeartbeats 6400000 in
theorem rcheckSet_any (L S : Int) (v vs : Value) (l : List Int) (w : World) (hrd : IntsRd w vs l) (hl : l.length ≤ 9223372036854775807) :
    Calls Tryz.prog 116 #[grV L S v, vs] w fun e w' => e = .returned (.int .i64 (chkS S none l)) ∧ Below w.heap.size w w' := by
  have HRD := Lib.hid hrd
  obtain ⟨a, c, rfl⟩ := hrd.form
  have K0 := Lib.hid (BoxG.new w L S v 24)
  clear hrd
  go_enter Tryz.func116, Tryz.ntmps116
  go_wp2_with fail
  go_loopg [5] l.length (fun q s5 wx => ∃ i : Nat, i + q = l.length ∧ s5 = .int .i64 (i : Int) ∧ Hid (chkS S (prevI l i) (l.drop i) = chkS S none l) ∧ BoxG wx w.heap.size L S v ∧ Below w.heap.size w wx)
  case atStart => exact ⟨0, by omega, rfl, Lib.hid rfl, K0.out, below1 w _⟩
  case round =>
    clear K0
    obtain ⟨i, hi, rfl, HI, hG, hb⟩ := hrel
    rcases gk with _ | q
    · obtain rfl : i = l.length := by omega
      have HE := Lib.hid (show chkS S none l = 0 by rw [← HI.out, List.drop_length]; rfl)
      clear HI
      go_wp2_with fail
      go_ret
      exact ⟨by rw [HE.out]; rfl, hb⟩
    · obtain ⟨x, hx⟩ : ∃ x, l[i]? = some x := ⟨_, List.getElem?_eq_getElem (by omega)⟩
      have hrd := HRD.out.keep hb
      obtain ⟨b, off, c', hv, k1⟩ := hrd.at hx
      injection hv with e1 e2 e3
      subst e1
      subst e3
      have HDR := drop_at hx
      have j1 : (i : Int) < (l.length : Int) := by omega
      obtain ⟨g1, g2, g3⟩ := id hG
      by_cases h1 : inB S x = true
      · have hin := inB_true.1 h1
        have d1 : decide (x < 0) = false := decide_eq_false (by omega)
        have d2 : decide (S ≤ x) = false := decide_eq_false (by omega)
        go_upto_region 4 with fail
        go_quiet (fail)
        rename_i nq
        clear d1 d2
        have hb2 : Below w.heap.size w (wr.drewN nq) := below_drewM hb nq
        have hG2 : BoxG (wr.drewN nq) w.heap.size L S v := hG
        rcases Nat.eq_zero_or_pos i with h0 | h0
        · have HI2 := Lib.hid (show chkS S (prevI l (i + 1)) (l.drop (i + 1)) = chkS S none l by
            rw [← HI.out, HDR, prevI_succ hx, chkS_step (by omega) (fun q hq => by rw [h0, prevI_zero] at hq; cases hq)])
          have d6 : decide ((0 : Int) < (i : Int)) = false := decide_eq_false (by omega)
          have d7 : decide (0 < i) = false := decide_eq_false (by omega)
          clear HI HDR hx h1 h0 hin e2 hrd
          go_upto_region 6 with fail
          go_quiet (fail)
          rename_i nq2
          go_wp2_with fail
          go_roundg q
          case measure => omega
          case rel => exact ⟨i + 1, by omega, by go_num, HI2, hG, below_drewM hb _⟩
        · obtain ⟨j, hj⟩ : ∃ j, i = j + 1 := ⟨i - 1, by omega⟩
          obtain ⟨y, hy⟩ : ∃ y, l[j]? = some y := ⟨_, List.getElem?_eq_getElem (by omega)⟩
          have hpv : prevI l i = some y := by rw [hj]; exact prevI_succ hy
          obtain ⟨b2, off2, c2, hv, k2⟩ := hrd.at hy
          injection hv with e1 e2 e3
          injection e1 with e1
          injection e1 with e1 e4
          subst e1
          subst e4
          subst e3
          have hw : IntKind.i64.wrap ((i : Int) - 1) = (j : Int) := by rw [IntKind.wrap_i64]; omega
          have d6 : decide ((0 : Int) < (i : Int)) = true := decide_eq_true (by omega)
          have d7 : decide (0 < i) = true := decide_eq_true (by omega)
          have j2 : (j : Int) < (l.length : Int) := by omega
          by_cases hlt : y < x
          · have HI2 := Lib.hid (show chkS S (prevI l (i + 1)) (l.drop (i + 1)) = chkS S none l by
              rw [← HI.out, HDR, prevI_succ hx, chkS_step (by omega) (fun q hq => by rw [hpv] at hq; injection hq with hq; omega)])
            have d8 : decide (x ≤ y) = false := decide_eq_false (by omega)
            clear HI HDR hx h1 h0 hin e2 hrd hj hpv hlt hy
            go_upto_region 6 with fail
            go_quiet (fail)
            rename_i nq2
            go_wp2_with fail
            go_roundg q
            case measure => omega
            case rel => exact ⟨i + 1, by omega, by go_num, HI2, hG, below_drewM hb _⟩
          · have HE := Lib.hid (show chkS S none l = 10 by rw [← HI.out, HDR, hpv]; exact chkS_order (by omega) (by omega))
            have d8 : decide (x ≤ y) = true := decide_eq_true (by omega)
            clear HI HDR hx h1 h0 hin e2 hrd hj hpv hlt hy
            go_upto_region 6 with fail
            go_quiet (fail)
            rename_i nq2
            go_wp2_with fail
            go_ret
            exact ⟨by rw [HE.out]; rfl, below_drewM hb _⟩
      · have h2 : inB S x = false := by simpa using h1
        have hin := inB_false.1 h2
        have HE := Lib.hid (show chkS S none l = 25 by rw [← HI.out, HDR]; exact chkS_bad (by omega))
        clear HI HDR hx h1 h2 e2 hrd
        by_cases h3 : x < 0
        · have d1 : decide (x < 0) = true := decide_eq_true h3
          clear h3 hin
          go_upto_region 4 with fail
          go_quiet (fail)
          rename_i nq
          go_wp2_with fail
          go_ret
          exact ⟨by rw [HE.out]; rfl, below_drewM hb _⟩
        · have d1 : decide (x < 0) = false := decide_eq_false h3
          have d2 : decide (S ≤ x) = true := decide_eq_true (by omega)
          clear h3 hin
          go_upto_region 4 with fail
          go_quiet (fail)
          rename_i nq
          go_wp2_with fail
          go_ret
          exact ⟨by rw [HE.out]; rfl, below_drewM hb _⟩
theorem mem_take_succI {l : List Int} {i : Nat} {x n : Int} (hx : l[i]? = some x) (h : n ∉ l.take i) (hne : x ≠ n) : n ∉ l.take (i + 1) := by
  rw [List.take_add_one, hx, List.mem_append]
  rintro (h1 | h1)
  · exact h h1
  · simp at h1; exact hne h1.symm
set_option maxRecDepth 100000 in
theorem rhas_any (vs : Value) (l : List Int) (n : Int) (w : World) (hrd : IntsRd w vs l) (hl : l.length ≤ 9223372036854775807) :
    Calls Tryz.prog 62 #[vs, .int .i64 n] w fun e w' => e = .returned (.bool (decide (n ∈ l))) ∧ w' = w := by
  have HRD := Lib.hid hrd
  obtain ⟨a, c, rfl⟩ := hrd.form
  clear hrd
  go_enter Tryz.func62, Tryz.ntmps62
  go_wp2_with fail
  go_loopg [5] l.length (fun q s5 wx => ∃ i : Nat, i + q = l.length ∧ s5 = .int .i64 (i : Int) ∧ Hid (n ∉ l.take i) ∧ wx = w)
  case atStart => exact ⟨0, by omega, rfl, Lib.hid (by simp), rfl⟩
  case round =>
    obtain ⟨i, hi, rfl, HI, rfl⟩ := hrel
    rcases gk with _ | q
    · obtain rfl : i = l.length := by omega
      have HE := Lib.hid (show decide (n ∈ l) = false from decide_eq_false (by have h := HI.out; rwa [List.take_length] at h))
      clear HI
      go_wp2_with fail
      go_ret
      exact ⟨by rw [HE.out]; rfl, rfl⟩
    · obtain ⟨x, hx⟩ : ∃ x, l[i]? = some x := ⟨_, List.getElem?_eq_getElem (by omega)⟩
      obtain ⟨b, off, c', hv, k1⟩ := HRD.out.at hx
      injection hv with e1 e2 e3
      subst e1
      subst e3
      have j1 : (i : Int) < (l.length : Int) := by omega
      by_cases hxn : x = n
      · subst hxn
        have HE := Lib.hid (show decide (x ∈ l) = true from decide_eq_true (List.mem_of_getElem? hx))
        clear HI hx e2
        go_wp2_with fail
        go_ret
        exact ⟨by rw [HE.out]; rfl, rfl⟩
      · have HI2 := Lib.hid (mem_take_succI hx HI.out hxn)
        have d1 : (x == n) = false := by simpa using hxn
        clear HI hx e2 hxn
        go_wp2_with fail
        go_roundg q
        case measure => omega
        case rel => exact ⟨i + 1, by omega, by go_num, HI2, rfl⟩
end Go.Proofs.YtiockphjnkehnaaGreatDoor

namespace Go.Proofs.YtiockphjnkehnaaGreatDoor
open Go.RowKit
set_option linter.unusedSimpArgs false
set_option linter.unusedVariables false

set_option maxRecDepth 100000 in
set_option maxHeartbeats 6400000 in
theorem rdeterministic_any (La S : Int) (es : List E3) (v : Value) (w : World) (hrd : EdgesRd w v es) (hn : es.length ≤ 9223372036854775807) :
    Calls Tryz.prog 86 #[grV La S v] w fun e w' => e = .returned (.tuple #[.bool (detR La S es).1, .int .i64 (detR La S es).2]) ∧ Below w.heap.size w w' := by
  have HV := Lib.hid (fun W h => rcheck_any La S es v W h hn)
  have HRD := Lib.hid hrd
  have K0 := Lib.hid (BoxG.new w La S v 24)
  obtain ⟨a, c, rfl⟩ := hrd.form
  clear hrd
  by_cases h0 : chkG La S es = 0
  · have H0 := Lib.hid h0
    have hlen := (chkG_zero h0).len
    have HE := Lib.hid (show detR La S es = (detE es, 0) by unfold detR; rw [if_pos h0])
    clear h0
    go_enter Tryz.func86, Tryz.ntmps86
    go_wp2_with (go_at_call 23; (with_reducible refine (HV.out _ (HRD.out.keep (below1 _ _))).mono ?_); rintro e0 W1 ⟨rfl, b1⟩; (rw [H0.out]); (have G1 := Lib.hid (K0.out.keep b1)); (have B1 := Lib.hid (below_more (below1 w _) (Nat.le_refl _) b1)); (clear b1); (obtain ⟨g1, g2, g3⟩ := id G1.out))
    go_loopg [4] es.length (fun q s4 wx => ∃ k j : Nat, s4 = .int .i64 (k : Int) ∧ Hid (k = j + 1) ∧ es.length - k ≤ q ∧ k ≤ es.length + 1 ∧ Hid (detE (es.drop j) = detE es) ∧ BoxG wx w.heap.size La S (.slice a es.length c) ∧ Below w.heap.size w wx)
    case atStart => exact ⟨1, 0, rfl, Lib.hid rfl, by omega, by omega, Lib.hid rfl, G1.out, B1.out⟩
    case round =>
      clear g1 g2 g3 G1 B1
      obtain ⟨k, j, rfl, Hkj, hq, hk1, HD, hG, hb⟩ := hrel
      obtain ⟨g1, g2, g3⟩ := id hG
      by_cases hlt : k < es.length
      · have hkj := Hkj.out
        obtain ⟨d, hd⟩ : ∃ d, es[j]? = some d := ⟨_, List.getElem?_eq_getElem (by omega)⟩
        obtain ⟨e, he⟩ : ∃ e, es[k]? = some e := ⟨_, List.getElem?_eq_getElem hlt⟩
        obtain ⟨b, off, c', hv, k1, k2, k3⟩ := (HRD.out.keep hb).at hd
        injection hv with e1 e2 e3
        subst e1
        subst e3
        obtain ⟨b2, off2, c2, hv, k4, k5, k6⟩ := (HRD.out.keep hb).at he
        injection hv with e1 e2 e3
        injection e1 with e1
        injection e1 with e1 e4
        subst e1
        subst e4
        have hdd := detE_drop hd (by rw [← hkj]; exact he)
        rw [← hkj] at hdd
        have hw : IntKind.i64.wrap ((k : Int) - 1) = (j : Int) := by rw [hkj, IntKind.wrap_i64]; omega
        have j1 : (k : Int) < (es.length : Int) := by omega
        have j2 : (j : Int) < (es.length : Int) := by omega
        obtain ⟨x, y, z⟩ := d
        obtain ⟨x', y', z'⟩ := e
        dsimp only at k1 k2 k3 k4 k5 k6 hdd
        obtain ⟨q, rfl⟩ : ∃ q, gk = q + 1 := ⟨gk - 1, by omega⟩
        have hm2 : es.length - (k + 1) ≤ q := by omega
        clear hd he hkj hq hlt e2 e3
        by_cases h1 : x' = x
        · have d1 : (x' == x) = true := by simpa using h1
          have d1' : decide (x' = x) = true := decide_eq_true h1
          by_cases h2 : y' = y
          · have HE2 := Lib.hid (show detE es = false by rw [← HD.out, hdd, h1, h2]; simp)
            have d2 : (y' == y) = true := by simpa using h2
            subst h1
            subst h2
            clear hdd HD
            go_upto_region 6 with fail
            go_quiet (fail)
            rename_i nq
            go_wp2_with fail
            exact bodyPost_ret (v := .tuple #[.bool false, .int .i64 0]) (by simp [results, Tryz.results86, go_sem]) rfl ⟨by rw [HE.out, HE2.out], below_drewM hb _⟩
          · have HD2 := Lib.hid (show detE (es.drop k) = detE es by rw [← HD.out, hdd]; have : ¬ y = y' := fun h => h2 h.symm; simp [this])
            have d2 : (y' == y) = false := by simpa using h2
            subst h1
            clear hdd HD h2
            go_upto_region 6 with fail
            go_quiet (fail)
            rename_i nq
            go_wp2_with fail
            go_roundg q
            case measure => omega
            case rel => exact ⟨k + 1, k, by go_num, Lib.hid rfl, hm2, by omega, HD2, hG, below_drewM hb _⟩
        · have HD2 := Lib.hid (show detE (es.drop k) = detE es by rw [← HD.out, hdd]; have : ¬ x = x' := fun h => h1 h.symm; simp [this])
          have d1 : (x' == x) = false := by simpa using h1
          clear hdd HD h1
          go_upto_region 6 with fail
          go_quiet (fail)
          rename_i nq
          go_wp2_with fail
          go_roundg q
          case measure => omega
          case rel => exact ⟨k + 1, k, by go_num, Lib.hid rfl, hm2, by omega, HD2, hG, below_drewM hb _⟩
      · have HE2 := Lib.hid (show detE es = true by rw [← HD.out]; exact detE_end (by have := Hkj.out; omega))
        have d1 : decide ((k : Int) < (es.length : Int)) = false := decide_eq_false (by omega)
        have d2 : decide (k < es.length) = false := decide_eq_false hlt
        clear HD hlt
        go_wp2_with fail
        exact bodyPost_ret (v := .tuple #[.bool true, .int .i64 0]) (by simp [results, Tryz.results86, go_sem]) rfl ⟨by rw [HE.out, HE2.out], hb⟩
  · have HE := Lib.hid (show detR La S es = (false, 1) by unfold detR; rw [if_neg h0])
    obtain ⟨z, hz⟩ : ∃ z, chkG La S es = z := ⟨_, rfl⟩
    simp only [hz] at HV
    rw [hz] at h0
    have d1 : (z != 0) = true := by simpa using h0
    clear h0 hz
    go_enter Tryz.func86, Tryz.ntmps86
    go_wp2_with (go_at_call 23; (with_reducible refine (HV.out _ (HRD.out.keep (below1 _ _))).mono ?_); rintro e0 W1 ⟨rfl, b1⟩; (have B1 := Lib.hid (below_more (below1 w _) (Nat.le_refl _) b1)); (clear b1))
    exact bodyPost_ret (v := .tuple #[.bool false, .int .i64 1]) (by simp [results, Tryz.results86, go_sem]) rfl ⟨by rw [HE.out], B1.out⟩
def IOut (w : World) (r : List Int × Int) (e : Ending) (w' : World) : Prop := ∃ u, e = .returned (.tuple #[u, .int .i64 r.2]) ∧ IntsAt w' w.heap.size u r.1 ∧ Below w.heap.size w w'
end Go.Proofs.YtiockphjnkehnaaGreatDoor
