/- What grooveref09.Deterministic and Out return. Condition: the edges can be read. -/
import Derived.Test.YtiebhalefdpjiaaDoorVxa
import Derived.Test.YtiebhalefdpjiaaDoorVo
import Derived.Test.YtiebhalefdpjiaaDoorVbc
namespace Go.Proofs.YtiebhalefdpjiaaDoor
open Go.RowKit
set_option linter.unusedSimpArgs false
set_option linter.unusedVariables false

set_option maxRecDepth 100000 in
set_option maxHeartbeats 6400000 in
theorem rdeterministic_any (La S : Int) (es : List E3) (v : Value) (w : World) (hrd : EdgesRd w v es) (hn : es.length ≤ 9223372036854775807) :
    Calls Tryd.prog 22 #[grV La S v] w fun e w' => e = .returned (.tuple #[.bool (detR La S es).1, .int .i64 (detR La S es).2]) ∧ Below w.heap.size w w' := by
  have HV := Lib.hid (fun W h => rcheck_any La S es v W h hn)
  have HRD := Lib.hid hrd
  have K0 := Lib.hid (BoxG.new w La S v 24)
  obtain ⟨a, c, rfl⟩ := hrd.form
  clear hrd
  by_cases h0 : chkG La S es = 0
  · have H0 := Lib.hid h0
    have hlen := (chkG_zero h0).len
    have HE := Lib.hid (show detR La S es = (detE es, 0) by unfold detR; rw [if_pos h0])
    clear h0
    go_enter Tryd.func22, Tryd.ntmps22
    go_wp2_with (go_at_call 14; (with_reducible refine (HV.out _ (HRD.out.keep (below1 _ _))).mono ?_); rintro e0 W1 ⟨rfl, b1⟩; (rw [H0.out]); (have G1 := Lib.hid (K0.out.keep b1)); (have B1 := Lib.hid (below_more (below1 w _) (Nat.le_refl _) b1)); (clear b1); (obtain ⟨g1, g2, g3⟩ := id G1.out))
    go_loopg [4] es.length (fun q s4 wx => ∃ k j : Nat, s4 = .int .i64 (k : Int) ∧ Hid (k = j + 1) ∧ es.length - k ≤ q ∧ k ≤ es.length + 1 ∧ Hid (detE (es.drop j) = detE es) ∧ BoxG wx w.heap.size La S (.slice a es.length c) ∧ Below w.heap.size w wx)
    case atStart => exact ⟨1, 0, rfl, Lib.hid rfl, by omega, by omega, Lib.hid rfl, G1.out, B1.out⟩
    case round =>
      clear g1 g2 g3 G1 B1
      obtain ⟨k, j, rfl, Hkj, hq, hk1, HD, hG, hb⟩ := hrel
      obtain ⟨g1, g2, g3⟩ := id hG
      by_cases hlt : k < es.length
      · have hkj := Hkj.out
        obtain ⟨d, hd⟩ : ∃ d, es[j]? = some d := ⟨_, List.getElem?_eq_getElem (by omega)⟩
        obtain ⟨e, he⟩ : ∃ e, es[k]? = some e := ⟨_, List.getElem?_eq_getElem hlt⟩
        obtain ⟨b, off, c', hv, k1, k2, k3⟩ := (HRD.out.keep hb).at hd
        injection hv with e1 e2 e3
        subst e1
        subst e3
        obtain ⟨b2, off2, c2, hv, k4, k5, k6⟩ := (HRD.out.keep hb).at he
        injection hv with e1 e2 e3
        injection e1 with e1
        injection e1 with e1 e4
        subst e1
        subst e4
        have hdd := detE_drop hd (by rw [← hkj]; exact he)
        rw [← hkj] at hdd
        have hw : IntKind.i64.wrap ((k : Int) - 1) = (j : Int) := by rw [hkj, IntKind.wrap_i64]; omega
        have j1 : (k : Int) < (es.length : Int) := by omega
        have j2 : (j : Int) < (es.length : Int) := by omega
        obtain ⟨x, y, z⟩ := d
        obtain ⟨x', y', z'⟩ := e
        dsimp only at k1 k2 k3 k4 k5 k6 hdd
        obtain ⟨q, rfl⟩ : ∃ q, gk = q + 1 := ⟨gk - 1, by omega⟩
        have hm2 : es.length - (k + 1) ≤ q := by omega
        clear hd he hkj hq hlt e2 e3
        by_cases h1 : x' = x
        · have d1 : (x' == x) = true := by simpa using h1
          have d1' : decide (x' = x) = true := decide_eq_true h1
          by_cases h2 : y' = y
          · have HE2 := Lib.hid (show detE es = false by rw [← HD.out, hdd, h1, h2]; simp)
            have d2 : (y' == y) = true := by simpa using h2
            subst h1
            subst h2
            clear hdd HD
            go_upto_region 6 with fail
            go_quiet (fail)
            rename_i nq
            go_wp2_with fail
            exact bodyPost_ret (v := .tuple #[.bool false, .int .i64 0]) (by simp [results, Tryd.results22, go_sem]) rfl ⟨by rw [HE.out, HE2.out], below_drewM hb _⟩
          · have HD2 := Lib.hid (show detE (es.drop k) = detE es by rw [← HD.out, hdd]; have : ¬ y = y' := fun h => h2 h.symm; simp [this])
            have d2 : (y' == y) = false := by simpa using h2
            subst h1
            clear hdd HD h2
            go_upto_region 6 with fail
            go_quiet (fail)
            rename_i nq
            go_wp2_with fail
            go_roundg q
            case measure => omega
            case rel => exact ⟨k + 1, k, by go_num, Lib.hid rfl, hm2, by omega, HD2, hG, below_drewM hb _⟩
        · have HD2 := Lib.hid (show detE (es.drop k) = detE es by rw [← HD.out, hdd]; have : ¬ x = x' := fun h => h1 h.symm; simp [this])
          have d1 : (x' == x) = false := by simpa using h1
          clear hdd HD h1
          go_upto_region 6 with fail
          go_quiet (fail)
          rename_i nq
          go_wp2_with fail
          go_roundg q
          case measure => omega
          case rel => exact ⟨k + 1, k, by go_num, Lib.hid rfl, hm2, by omega, HD2, hG, below_drewM hb _⟩
      · have HE2 := Lib.hid (show detE es = true by rw [← HD.out]; exact detE_end (by have := Hkj.out; omega))
        have d1 : decide ((k : Int) < (es.length : Int)) = false := decide_eq_false (by omega)
        have d2 : decide (k < es.length) = false := decide_eq_false hlt
        clear HD hlt
        go_wp2_with fail
        exact bodyPost_ret (v := .tuple #[.bool true, .int .i64 0]) (by simp [results, Tryd.results22, go_sem]) rfl ⟨by rw [HE.out, HE2.out], hb⟩
  · have HE := Lib.hid (show detR La S es = (false, 1) by unfold detR; rw [if_neg h0])
    obtain ⟨z, hz⟩ : ∃ z, chkG La S es = z := ⟨_, rfl⟩
    simp only [hz] at HV
    rw [hz] at h0
    have d1 : (z != 0) = true := by simpa using h0
    clear h0 hz
    go_enter Tryd.func22, Tryd.ntmps22
    go_wp2_with (go_at_call 14; (with_reducible refine (HV.out _ (HRD.out.keep (below1 _ _))).mono ?_); rintro e0 W1 ⟨rfl, b1⟩; (have B1 := Lib.hid (below_more (below1 w _) (Nat.le_refl _) b1)); (clear b1))
    exact bodyPost_ret (v := .tuple #[.bool false, .int .i64 1]) (by simp [results, Tryd.results22, go_sem]) rfl ⟨by rw [HE.out], B1.out⟩
/-- What Out returns: the indices, the error. -/
def outR (La S : Int) (es : List E3) (s : Int) : List Int × Int := if chkG La S es = 0 then (if 0 ≤ s ∧ s < S then ((lvF es s 0).map (fun j : Nat => (j : Int)), 0) else ([], 25)) else ([], 1)
def IOut (w : World) (r : List Int × Int) (e : Ending) (w' : World) : Prop := ∃ u, e = .returned (.tuple #[u, .int .i64 r.2]) ∧ IntsAt w' w.heap.size u r.1 ∧ Below w.heap.size w w'
theorem lvF_take {es : List E3} {s : Int} {i : Nat} {e : E3} (h : es[i]? = some e) : lvF (es.take (i + 1)) s 0 = lvF (es.take i) s 0 ++ (if e.1 = s then [i] else []) := by
  have hi := (List.getElem?_eq_some_iff.1 h).1
  unfold lvF
  have e1 : (es.take (i + 1)).length = i + 1 := by rw [List.length_take]; omega
  have e2 : (es.take i).length = i := by rw [List.length_take]; omega
  rw [e1, e2, Nat.sub_zero, Nat.sub_zero, List.range'_concat, List.filter_append]
  have e3 : ∀ j, j < i → (es.take (i + 1))[j]! = (es.take i)[j]! := fun j hj => by
    rw [getElem!_def, getElem!_def, List.getElem?_take_of_lt (by omega), List.getElem?_take_of_lt hj]
  have e4 : (es.take (i + 1))[i]! = e := by rw [getElem!_def, List.getElem?_take_of_lt (by omega), h]
  congr 1
  · refine List.filter_congr (fun j hj => ?_)
    rw [List.mem_range'_1] at hj
    rw [e3 j (by omega)]
  · simp only [Nat.one_mul, Nat.zero_add]
    by_cases hs : e.1 = s
    · rw [if_pos hs, List.filter_cons_of_pos (by rw [e4]; simpa using hs)]; rfl
    · rw [if_neg hs, List.filter_cons_of_neg (by rw [e4]; simpa using hs)]; rfl
theorem lvF_len {es : List E3} {s : Int} : (lvF es s 0).length ≤ es.length := by
  unfold lvF
  refine Nat.le_trans (List.length_filter_le _ _) ?_
  rw [List.length_range', Nat.sub_zero]
  exact Nat.le_refl _
end Go.Proofs.YtiebhalefdpjiaaDoor
