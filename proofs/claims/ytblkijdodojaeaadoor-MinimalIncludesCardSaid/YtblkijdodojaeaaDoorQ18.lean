/- What slices.BinarySearchFunc by where an edge begins, and graph.leaving, return. Conditions: at most 1024 edges, numbers below 64, in order. What graph.leaving returns, and what the function that it returns yields: the edges that leave a state, in order. Conditions: at most 1024 edges, numbers below 64, in order. What grooveref09.Deterministic and Out return. Condition: the edges can be read. -/
import Derived.Test.YtblkijdodojaeaaDoorQ03
import Derived.Test.YtblkijdodojaeaaDoorQ02
import Derived.RangeFuncNested
import Derived.RangeFuncBound
import Derived.RangeFuncCalls
import Derived.RangeFuncLeaves
import Derived.RangeFuncOne
import Derived.Shelf.Abstract
import Derived.Shelf.RegionOpen
import Derived.WalkKit
import Derived.OwnWalkIn
import Derived.TacticsInMore
import Derived.LoopNIn
import Derived.LoopIn
import Derived.Test.YtblkijdodojaeaaDoorQ17
import Derived.Test.YtblkijdodojaeaaDoorQ09

namespace Go.Proofs.YtblkijdodojaeaaDoor
open Go.RowKit
set_option linter.unusedSimpArgs false
set_option linter.unusedVariables false

set_option maxRecDepth 100000 in
theorem fromLess_any (e : E3) (s : Int) (w : World) (h1 : 0 ≤ e.1 ∧ e.1 < 64) (h2 : 0 ≤ s ∧ s < 64) : Calls Tryd.prog 104 #[edgV e, .int .i64 s] w fun en w' => en = .returned (.int .i64 (e.1 - s)) ∧ Below w.heap.size w w' := by
  have hw : IntKind.i64.wrap (e.1 - s) = e.1 - s := by simp [IntKind.wrap, IntKind.signed, IntKind.bits]; omega
  clear h1 h2
  go_enter Tryd.func104, Tryd.ntmps104
  go_wp2_with fail
  go_ret
  exact ⟨rfl, below1 w _⟩
set_option maxRecDepth 100000 in
set_option maxHeartbeats 1600000 in
theorem bsearch_any (es : List E3) (s : Int) (v : Value) (w : World) (hrd : EdgesRd w v es) (hn : es.length ≤ 1024) (hs : 0 ≤ s ∧ s < 64) (hb : ∀ e ∈ es, 0 ≤ e.1 ∧ e.1 < 64) (ho : ∀ i j : Nat, i < j → ∀ e f, es[i]? = some e → es[j]? = some f → e.1 ≤ f.1) :
    Calls Tryd.prog 103 #[v, .int .i64 s, .func (.func 104) #[] #[]] w fun en w' => ∃ (i : Nat) (b : Bool), en = .returned (.tuple #[.int .i64 (i : Int), .bool b]) ∧ i ≤ es.length ∧ (∀ j e, j < i → es[j]? = some e → e.1 < s) ∧ (∀ j e, i ≤ j → es[j]? = some e → s ≤ e.1) ∧ Below w.heap.size w w' := by
  have HRD := Lib.hid hrd
  have HB := Lib.hid hb
  have HO := Lib.hid ho
  obtain ⟨a, c, rfl⟩ := hrd.form
  clear hrd hb ho
  go_enter Tryd.func103, Tryd.ntmps103
  go_wp2_with fail
  go_loopg [9, 10] es.length (fun q s9 s10 wx => ∃ lo hi : Nat, lo + q = hi ∧ s9 = .int .i64 (lo : Int) ∧ s10 = .int .i64 (hi : Int) ∧ hi ≤ es.length ∧ Hid (∀ j e, j < lo → es[j]? = some e → e.1 < s) ∧ Hid (∀ j e, hi ≤ j → es[j]? = some e → s ≤ e.1) ∧ Below w.heap.size w wx)
  case atStart => exact ⟨0, es.length, by omega, rfl, rfl, Nat.le_refl _, Lib.hid (fun j e hj => absurd hj (Nat.not_lt_zero _)), Lib.hid (fun j e hj he => absurd (List.getElem?_eq_some_iff.1 he).1 (by omega)), Below.refl _ _⟩
  case round =>
    obtain ⟨lo, hi, hq, rfl, rfl, hle, HL, HH, hb⟩ := hrel
    rcases gk with _ | q
    · obtain rfl : lo = hi := by omega
      clear hq
      by_cases hlt : lo < es.length
      · obtain ⟨e, he⟩ : ∃ e, es[lo]? = some e := ⟨_, List.getElem?_eq_getElem hlt⟩
        have hbe := HB.out e (List.mem_of_getElem? he)
        obtain ⟨bb, off, c', hv, k1, k2, k3⟩ := (HRD.out.keep hb).at he
        injection hv with e1 e2 e3
        subst e1
        subst e3
        have HF := Lib.hid (fun W => fromLess_any e s W hbe hs)
        obtain ⟨x, y, z⟩ := e
        dsimp only at k1 k2 k3 HF
        have j1 : (lo : Int) < (es.length : Int) := by omega
        clear he hbe
        go_wp2_with (go_at_call 104; (with_reducible refine (HF.out _).mono ?_); rintro e0 W1 ⟨rfl, b1⟩)
        exact bodyPost_ret (v := .tuple #[.int .i64 (lo : Int), .bool (x - s == 0)]) (by simp [results, Tryd.results103, go_sem]) rfl ⟨lo, _, rfl, hle, HL.out, HH.out, below_more hb (Nat.le_refl _) b1⟩
      · have j1 : decide ((lo : Int) < (es.length : Int)) = false := decide_eq_false (by omega)
        have j2 : decide (lo < es.length) = false := decide_eq_false (by omega)
        go_wp2_with fail
        exact bodyPost_ret (v := .tuple #[.int .i64 (lo : Int), .bool false]) (by simp [results, Tryd.results103, go_sem]) rfl ⟨lo, _, rfl, hle, HL.out, HH.out, hb⟩
    · obtain ⟨mid, hmid⟩ : ∃ mid, (lo + hi) / 2 = mid := ⟨_, rfl⟩
      have hm1 : lo ≤ mid := by omega
      have hm2 : mid < hi := by omega
      have j0 : (lo : Int) < (hi : Int) := by omega
      have t1 : ((lo : Int) + (hi : Int)) / 2 = (mid : Int) := by omega
      obtain ⟨e, he⟩ : ∃ e, es[mid]? = some e := ⟨_, List.getElem?_eq_getElem (by omega)⟩
      have hbe := HB.out e (List.mem_of_getElem? he)
      obtain ⟨bb, off, c', hv, k1, k2, k3⟩ := (HRD.out.keep hb).at he
      injection hv with e1 e2 e3
      subst e1
      subst e3
      have HF := Lib.hid (fun W => fromLess_any e s W hbe hs)
      obtain ⟨x, y, z⟩ := e
      dsimp only at k1 k2 k3 HF
      have j1 : (mid : Int) < (es.length : Int) := by omega
      have hw1 : IntKind.i64.wrap ((lo : Int) + (hi : Int)) = (lo : Int) + (hi : Int) := by simp [IntKind.wrap, IntKind.signed, IntKind.bits]; omega
      have hw2 : IntKind.u64.wrap ((lo : Int) + (hi : Int)) = (lo : Int) + (hi : Int) := by simp [IntKind.wrap, IntKind.signed, IntKind.bits]; omega
      have hw3 : IntKind.i64.wrap (mid : Int) = (mid : Int) := by simp [IntKind.wrap, IntKind.signed, IntKind.bits]; omega
      clear hbe hmid
      have HMID := Lib.hid he
      clear he e2
      by_cases hx : x < s
      · have d1 : decide (x - s < 0) = true := decide_eq_true (by omega)
        have HL2 := Lib.hid (show ∀ j e, j < mid + 1 → es[j]? = some e → e.1 < s from fun j e hj he => by
          rcases (show j < mid ∨ j = mid by omega) with h1 | rfl
          · have := HO.out j mid h1 e _ he HMID.out
            dsimp only at this
            omega
          · rw [HMID.out] at he
            injection he with he
            subst he
            exact hx)
        clear hx
        go_wp2_with (go_at_call 104; (with_reducible refine (HF.out _).mono ?_); rintro e0 W1 ⟨rfl, b1⟩)
        go_roundg (hi - (mid + 1))
        case measure => omega
        case rel => exact ⟨mid + 1, hi, by omega, by go_num, rfl, hle, HL2, HH, below_more hb (Nat.le_refl _) b1⟩
      · have d1 : decide (x - s < 0) = false := decide_eq_false (by omega)
        have HH2 := Lib.hid (show ∀ j e, mid ≤ j → es[j]? = some e → s ≤ e.1 from fun j e hj he => by
          rcases (show mid < j ∨ j = mid by omega) with h1 | rfl
          · have := HO.out mid j h1 _ e HMID.out he
            dsimp only at this
            omega
          · rw [HMID.out] at he
            injection he with he
            subst he
            show s ≤ x
            omega)
        clear hx
        go_wp2_with (go_at_call 104; (with_reducible refine (HF.out _).mono ?_); rintro e0 W1 ⟨rfl, b1⟩)
        go_roundg (mid - lo)
        case measure => omega
        case rel => exact ⟨lo, mid, by omega, rfl, rfl, by omega, HL, HH2, below_more hb (Nat.le_refl _) b1⟩
end Go.Proofs.YtblkijdodojaeaaDoor

namespace Go.Proofs.YtblkijdodojaeaaDoor
open Go.RowKit Go.Shelf
attribute [local go_sem] Oper.semAt_some
set_option linter.unusedSimpArgs false
set_option linter.unusedVariables false

/-- The indices from i on of the edges that leave s. -/
def lvF (es : List E3) (s : Int) (i : Nat) : List Nat := (List.range' i (es.length - i)).filter (fun j => (es[j]!).1 == s)
theorem lvF_step {es : List E3} {s : Int} {i : Nat} {e : E3} (h : es[i]? = some e) : lvF es s i = if e.1 = s then i :: lvF es s (i + 1) else lvF es s (i + 1) := by
  obtain ⟨hi, he⟩ := List.getElem?_eq_some_iff.1 h
  have e1 : es[i]! = e := by rw [getElem!_pos es i hi]; exact he
  unfold lvF
  rw [show es.length - i = (es.length - (i + 1)) + 1 by omega, List.range'_succ, List.filter_cons, e1]
  by_cases h1 : e.1 = s
  · rw [if_pos h1, if_pos (by rw [h1]; exact beq_self_eq_true _)]
  · rw [if_neg h1, if_neg (by simpa using h1)]
theorem lvF_end {es : List E3} {s : Int} {i : Nat} (h : ∀ j e, i ≤ j → es[j]? = some e → e.1 ≠ s) : lvF es s i = [] := by
  unfold lvF
  rw [List.filter_eq_nil_iff]
  intro j hj
  rw [List.mem_range'_1] at hj
  have hjl : j < es.length := by omega
  rw [getElem!_pos es j hjl]
  have := h j es[j] hj.1 (List.getElem?_eq_getElem hjl)
  simpa using this
theorem lvF_skip {es : List E3} {s : Int} : ∀ {i : Nat}, (∀ j e, j < i → es[j]? = some e → e.1 ≠ s) → i ≤ es.length → lvF es s i = lvF es s 0
  | 0, _, _ => rfl
  | i + 1, h, hl => by
    have h1 := List.getElem?_eq_getElem (l := es) (i := i) (by omega)
    rw [← lvF_skip (i := i) (fun j e hj => h j e (by omega)) (by omega), lvF_step h1, if_neg (h i _ (by omega) h1)]
theorem lvF_mem {es : List E3} {s : Int} {j : Nat} : j ∈ lvF es s 0 ↔ ∃ e, es[j]? = some e ∧ e.1 = s := by
  unfold lvF
  rw [List.mem_filter, List.mem_range'_1]
  constructor
  · rintro ⟨⟨-, h2⟩, h3⟩
    have hj : j < es.length := by omega
    rw [getElem!_pos es j hj] at h3
    exact ⟨_, List.getElem?_eq_getElem hj, by simpa using h3⟩
  · rintro ⟨e, he, h1⟩
    obtain ⟨hj, h2⟩ := List.getElem?_eq_some_iff.1 he
    refine ⟨⟨Nat.zero_le _, by omega⟩, ?_⟩
    rw [getElem!_pos es j hj, h2, h1]
    exact beq_self_eq_true _
theorem leaving_any (L S s : Int) (v : Value) (w : World) :
    Calls Tryd.prog 68 #[grV L S v, .int .i64 s] w fun e w' =>
      e = .returned (.func (.func 102) #[] #[.pointer (some ⟨w.heap.size, 0, none⟩), .pointer (some ⟨w.heap.size + 1, 0, none⟩)]) ∧ w' = (w.alloc (.cells #[.int .i64 L, .int .i64 S, v] 24)).alloc (.cells #[.int .i64 s] 3) := by
  go_enter Tryd.func68, Tryd.ntmps68
  go_wp2
  go_ret
  exact ⟨rfl, rfl⟩
end Go.Proofs.YtblkijdodojaeaaDoor

namespace Go.Proofs.YtblkijdodojaeaaDoor
open Go.RowKit
set_option linter.unusedSimpArgs false
set_option linter.unusedVariables false

set_option maxRecDepth 100000 in
set_option maxHeartbeats 6400000 in
theorem rdeterministic_any (La S : Int) (es : List E3) (v : Value) (w : World) (hrd : EdgesRd w v es) (hn : es.length ≤ 9223372036854775807) :
    Calls Tryd.prog 62 #[grV La S v] w fun e w' => e = .returned (.tuple #[.bool (detR La S es).1, .int .i64 (detR La S es).2]) ∧ Below w.heap.size w w' := by
  have HV := Lib.hid (fun W h => rcheck_any La S es v W h hn)
  have HRD := Lib.hid hrd
  have K0 := Lib.hid (BoxG.new w La S v 24)
  obtain ⟨a, c, rfl⟩ := hrd.form
  clear hrd
  by_cases h0 : chkG La S es = 0
  · have H0 := Lib.hid h0
    have hlen := (chkG_zero h0).len
    have HE := Lib.hid (show detR La S es = (detE es, 0) by unfold detR; rw [if_pos h0])
    clear h0
    go_enter Tryd.func62, Tryd.ntmps62
    go_wp2_with (go_at_call 49; (with_reducible refine (HV.out _ (HRD.out.keep (below1 _ _))).mono ?_); rintro e0 W1 ⟨rfl, b1⟩; (rw [H0.out]); (have G1 := Lib.hid (K0.out.keep b1)); (have B1 := Lib.hid (below_more (below1 w _) (Nat.le_refl _) b1)); (clear b1); (obtain ⟨g1, g2, g3⟩ := id G1.out))
    go_loopg [4] es.length (fun q s4 wx => ∃ k j : Nat, s4 = .int .i64 (k : Int) ∧ Hid (k = j + 1) ∧ es.length - k ≤ q ∧ k ≤ es.length + 1 ∧ Hid (detE (es.drop j) = detE es) ∧ BoxG wx w.heap.size La S (.slice a es.length c) ∧ Below w.heap.size w wx)
    case atStart => exact ⟨1, 0, rfl, Lib.hid rfl, by omega, by omega, Lib.hid rfl, G1.out, B1.out⟩
    case round =>
      clear g1 g2 g3 G1 B1
      obtain ⟨k, j, rfl, Hkj, hq, hk1, HD, hG, hb⟩ := hrel
      obtain ⟨g1, g2, g3⟩ := id hG
      by_cases hlt : k < es.length
      · have hkj := Hkj.out
        obtain ⟨d, hd⟩ : ∃ d, es[j]? = some d := ⟨_, List.getElem?_eq_getElem (by omega)⟩
        obtain ⟨e, he⟩ : ∃ e, es[k]? = some e := ⟨_, List.getElem?_eq_getElem hlt⟩
        obtain ⟨b, off, c', hv, k1, k2, k3⟩ := (HRD.out.keep hb).at hd
        injection hv with e1 e2 e3
        subst e1
        subst e3
        obtain ⟨b2, off2, c2, hv, k4, k5, k6⟩ := (HRD.out.keep hb).at he
        injection hv with e1 e2 e3
        injection e1 with e1
        injection e1 with e1 e4
        subst e1
        subst e4
        have hdd := detE_drop hd (by rw [← hkj]; exact he)
        rw [← hkj] at hdd
        have hw : IntKind.i64.wrap ((k : Int) - 1) = (j : Int) := by rw [hkj, IntKind.wrap_i64]; omega
        have j1 : (k : Int) < (es.length : Int) := by omega
        have j2 : (j : Int) < (es.length : Int) := by omega
        obtain ⟨x, y, z⟩ := d
        obtain ⟨x', y', z'⟩ := e
        dsimp only at k1 k2 k3 k4 k5 k6 hdd
        obtain ⟨q, rfl⟩ : ∃ q, gk = q + 1 := ⟨gk - 1, by omega⟩
        have hm2 : es.length - (k + 1) ≤ q := by omega
        clear hd he hkj hq hlt e2 e3
        by_cases h1 : x' = x
        · have d1 : (x' == x) = true := by simpa using h1
          have d1' : decide (x' = x) = true := decide_eq_true h1
          by_cases h2 : y' = y
          · have HE2 := Lib.hid (show detE es = false by rw [← HD.out, hdd, h1, h2]; simp)
            have d2 : (y' == y) = true := by simpa using h2
            subst h1
            subst h2
            clear hdd HD
            go_upto_region 6 with fail
            go_quiet (fail)
            rename_i nq
            go_wp2_with fail
            exact bodyPost_ret (v := .tuple #[.bool false, .int .i64 0]) (by simp [results, Tryd.results62, go_sem]) rfl ⟨by rw [HE.out, HE2.out], below_drewM hb _⟩
          · have HD2 := Lib.hid (show detE (es.drop k) = detE es by rw [← HD.out, hdd]; have : ¬ y = y' := fun h => h2 h.symm; simp [this])
            have d2 : (y' == y) = false := by simpa using h2
            subst h1
            clear hdd HD h2
            go_upto_region 6 with fail
            go_quiet (fail)
            rename_i nq
            go_wp2_with fail
            go_roundg q
            case measure => omega
            case rel => exact ⟨k + 1, k, by go_num, Lib.hid rfl, hm2, by omega, HD2, hG, below_drewM hb _⟩
        · have HD2 := Lib.hid (show detE (es.drop k) = detE es by rw [← HD.out, hdd]; have : ¬ x = x' := fun h => h1 h.symm; simp [this])
          have d1 : (x' == x) = false := by simpa using h1
          clear hdd HD h1
          go_upto_region 6 with fail
          go_quiet (fail)
          rename_i nq
          go_wp2_with fail
          go_roundg q
          case measure => omega
          case rel => exact ⟨k + 1, k, by go_num, Lib.hid rfl, hm2, by omega, HD2, hG, below_drewM hb _⟩
      · have HE2 := Lib.hid (show detE es = true by rw [← HD.out]; exact detE_end (by have := Hkj.out; omega))
        have d1 : decide ((k : Int) < (es.length : Int)) = false := decide_eq_false (by omega)
        have d2 : decide (k < es.length) = false := decide_eq_false hlt
        clear HD hlt
        go_wp2_with fail
        exact bodyPost_ret (v := .tuple #[.bool true, .int .i64 0]) (by simp [results, Tryd.results62, go_sem]) rfl ⟨by rw [HE.out, HE2.out], hb⟩
  · have HE := Lib.hid (show detR La S es = (false, 1) by unfold detR; rw [if_neg h0])
    obtain ⟨z, hz⟩ : ∃ z, chkG La S es = z := ⟨_, rfl⟩
    simp only [hz] at HV
    rw [hz] at h0
    have d1 : (z != 0) = true := by simpa using h0
    clear h0 hz
    go_enter Tryd.func62, Tryd.ntmps62
    go_wp2_with (go_at_call 49; (with_reducible refine (HV.out _ (HRD.out.keep (below1 _ _))).mono ?_); rintro e0 W1 ⟨rfl, b1⟩; (have B1 := Lib.hid (below_more (below1 w _) (Nat.le_refl _) b1)); (clear b1))
    exact bodyPost_ret (v := .tuple #[.bool false, .int .i64 1]) (by simp [results, Tryd.results62, go_sem]) rfl ⟨by rw [HE.out], B1.out⟩
/-- What Out returns: the indices, the error. -/
def outR (La S : Int) (es : List E3) (s : Int) : List Int × Int := if chkG La S es = 0 then (if 0 ≤ s ∧ s < S then ((lvF es s 0).map (fun j : Nat => (j : Int)), 0) else ([], 25)) else ([], 1)
def IOut (w : World) (r : List Int × Int) (e : Ending) (w' : World) : Prop := ∃ u, e = .returned (.tuple #[u, .int .i64 r.2]) ∧ IntsAt w' w.heap.size u r.1 ∧ Below w.heap.size w w'
theorem lvF_take {es : List E3} {s : Int} {i : Nat} {e : E3} (h : es[i]? = some e) : lvF (es.take (i + 1)) s 0 = lvF (es.take i) s 0 ++ (if e.1 = s then [i] else []) := by
  have hi := (List.getElem?_eq_some_iff.1 h).1
  unfold lvF
  have e1 : (es.take (i + 1)).length = i + 1 := by rw [List.length_take]; omega
  have e2 : (es.take i).length = i := by rw [List.length_take]; omega
  rw [e1, e2, Nat.sub_zero, Nat.sub_zero, List.range'_concat, List.filter_append]
  have e3 : ∀ j, j < i → (es.take (i + 1))[j]! = (es.take i)[j]! := fun j hj => by
    rw [getElem!_def, getElem!_def, List.getElem?_take_of_lt (by omega), List.getElem?_take_of_lt hj]
  have e4 : (es.take (i + 1))[i]! = e := by rw [getElem!_def, List.getElem?_take_of_lt (by omega), h]
  congr 1
  · refine List.filter_congr (fun j hj => ?_)
    rw [List.mem_range'_1] at hj
    rw [e3 j (by omega)]
  · simp only [Nat.one_mul, Nat.zero_add]
    by_cases hs : e.1 = s
    · rw [if_pos hs, List.filter_cons_of_pos (by rw [e4]; simpa using hs)]; rfl
    · rw [if_neg hs, List.filter_cons_of_neg (by rw [e4]; simpa using hs)]; rfl
theorem lvF_len {es : List E3} {s : Int} : (lvF es s 0).length ≤ es.length := by
  unfold lvF
  refine Nat.le_trans (List.length_filter_le _ _) ?_
  rw [List.length_range', Nat.sub_zero]
  exact Nat.le_refl _
end Go.Proofs.YtblkijdodojaeaaDoor
