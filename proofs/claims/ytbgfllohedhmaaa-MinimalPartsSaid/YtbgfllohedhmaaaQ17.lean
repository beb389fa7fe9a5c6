/- What grooveref09.Deterministic and Out return. Condition: the edges can be read. What grooveref13.target returns for a valid, deterministic graph, and check for any graph. Condition: the edges can be read. Pairs that a search has found, in memory; what minimal.wordTo returns. Conditions: the queue can be read; each pair but the first one was found behind one before. -/
import Derived.Test.YtbgfllohedhmaaaQ16
import Derived.Test.YtbgfllohedhmaaaQ09
import Derived.Test.YtbgfllohedhmaaaQ13
import Derived.Test.YtbgfllohedhmaaaQ14
import Derived.Test.YtbgfllohedhmaaaQ15
import Derived.Laws.StructEq
import Derived.ChangeKeysEq
import Derived.Shelf.SlicesE.Equal
import Derived.Lib.LazyBuf

namespace Go.Proofs.Ytbgfllohedhmaaa
open Go.RowKit
set_option linter.unusedSimpArgs false
set_option linter.unusedVariables false

set_option maxRecDepth 100000 in
set_option maxHeartbeats 6400000 in
theorem rdeterministic_any (La S : Int) (es : List E3) (v : Value) (w : World) (hrd : EdgesRd w v es) (hn : es.length ≤ 9223372036854775807) :
    Calls Try.prog 33 #[grV La S v] w fun e w' => e = .returned (.tuple #[.bool (detR La S es).1, .int .i64 (detR La S es).2]) ∧ Below w.heap.size w w' := by
  have HV := Lib.hid (fun W h => rcheck_any La S es v W h hn)
  have HRD := Lib.hid hrd
  have K0 := Lib.hid (BoxG.new w La S v 24)
  obtain ⟨a, c, rfl⟩ := hrd.form
  clear hrd
  by_cases h0 : chkG La S es = 0
  · have H0 := Lib.hid h0
    have hlen := (chkG_zero h0).len
    have HE := Lib.hid (show detR La S es = (detE es, 0) by unfold detR; rw [if_pos h0])
    clear h0
    go_enter Try.func33, Try.ntmps33
    go_wp2_with (go_at_call 32; (with_reducible refine (HV.out _ (HRD.out.keep (below1 _ _))).mono ?_); rintro e0 W1 ⟨rfl, b1⟩; (rw [H0.out]); (have G1 := Lib.hid (K0.out.keep b1)); (have B1 := Lib.hid (below_more (below1 w _) (Nat.le_refl _) b1)); (clear b1); (obtain ⟨g1, g2, g3⟩ := id G1.out))
    go_loopg [4] es.length (fun q s4 wx => ∃ k j : Nat, s4 = .int .i64 (k : Int) ∧ Hid (k = j + 1) ∧ es.length - k ≤ q ∧ k ≤ es.length + 1 ∧ Hid (detE (es.drop j) = detE es) ∧ BoxG wx w.heap.size La S (.slice a es.length c) ∧ Below w.heap.size w wx)
    case atStart => exact ⟨1, 0, rfl, Lib.hid rfl, by omega, by omega, Lib.hid rfl, G1.out, B1.out⟩
    case round =>
      clear g1 g2 g3 G1 B1
      obtain ⟨k, j, rfl, Hkj, hq, hk1, HD, hG, hb⟩ := hrel
      obtain ⟨g1, g2, g3⟩ := id hG
      by_cases hlt : k < es.length
      · have hkj := Hkj.out
        obtain ⟨d, hd⟩ : ∃ d, es[j]? = some d := ⟨_, List.getElem?_eq_getElem (by omega)⟩
        obtain ⟨e, he⟩ : ∃ e, es[k]? = some e := ⟨_, List.getElem?_eq_getElem hlt⟩
        obtain ⟨b, off, c', hv, k1, k2, k3⟩ := (HRD.out.keep hb).at hd
        injection hv with e1 e2 e3
        subst e1
        subst e3
        obtain ⟨b2, off2, c2, hv, k4, k5, k6⟩ := (HRD.out.keep hb).at he
        injection hv with e1 e2 e3
        injection e1 with e1
        injection e1 with e1 e4
        subst e1
        subst e4
        have hdd := detE_drop hd (by rw [← hkj]; exact he)
        rw [← hkj] at hdd
        have hw : IntKind.i64.wrap ((k : Int) - 1) = (j : Int) := by rw [hkj, IntKind.wrap_i64]; omega
        have j1 : (k : Int) < (es.length : Int) := by omega
        have j2 : (j : Int) < (es.length : Int) := by omega
        obtain ⟨x, y, z⟩ := d
        obtain ⟨x', y', z'⟩ := e
        dsimp only at k1 k2 k3 k4 k5 k6 hdd
        obtain ⟨q, rfl⟩ : ∃ q, gk = q + 1 := ⟨gk - 1, by omega⟩
        have hm2 : es.length - (k + 1) ≤ q := by omega
        clear hd he hkj hq hlt e2 e3
        by_cases h1 : x' = x
        · have d1 : (x' == x) = true := by simpa using h1
          have d1' : decide (x' = x) = true := decide_eq_true h1
          by_cases h2 : y' = y
          · have HE2 := Lib.hid (show detE es = false by rw [← HD.out, hdd, h1, h2]; simp)
            have d2 : (y' == y) = true := by simpa using h2
            subst h1
            subst h2
            clear hdd HD
            go_upto_region 6 with fail
            go_quiet (fail)
            rename_i nq
            go_wp2_with fail
            exact bodyPost_ret (v := .tuple #[.bool false, .int .i64 0]) (by simp [results, Try.results33, go_sem]) rfl ⟨by rw [HE.out, HE2.out], below_drewM hb _⟩
          · have HD2 := Lib.hid (show detE (es.drop k) = detE es by rw [← HD.out, hdd]; have : ¬ y = y' := fun h => h2 h.symm; simp [this])
            have d2 : (y' == y) = false := by simpa using h2
            subst h1
            clear hdd HD h2
            go_upto_region 6 with fail
            go_quiet (fail)
            rename_i nq
            go_wp2_with fail
            go_roundg q
            case measure => omega
            case rel => exact ⟨k + 1, k, by go_num, Lib.hid rfl, hm2, by omega, HD2, hG, below_drewM hb _⟩
        · have HD2 := Lib.hid (show detE (es.drop k) = detE es by rw [← HD.out, hdd]; have : ¬ x = x' := fun h => h1 h.symm; simp [this])
          have d1 : (x' == x) = false := by simpa using h1
          clear hdd HD h1
          go_upto_region 6 with fail
          go_quiet (fail)
          rename_i nq
          go_wp2_with fail
          go_roundg q
          case measure => omega
          case rel => exact ⟨k + 1, k, by go_num, Lib.hid rfl, hm2, by omega, HD2, hG, below_drewM hb _⟩
      · have HE2 := Lib.hid (show detE es = true by rw [← HD.out]; exact detE_end (by have := Hkj.out; omega))
        have d1 : decide ((k : Int) < (es.length : Int)) = false := decide_eq_false (by omega)
        have d2 : decide (k < es.length) = false := decide_eq_false hlt
        clear HD hlt
        go_wp2_with fail
        exact bodyPost_ret (v := .tuple #[.bool true, .int .i64 0]) (by simp [results, Try.results33, go_sem]) rfl ⟨by rw [HE.out, HE2.out], hb⟩
  · have HE := Lib.hid (show detR La S es = (false, 1) by unfold detR; rw [if_neg h0])
    obtain ⟨z, hz⟩ : ∃ z, chkG La S es = z := ⟨_, rfl⟩
    simp only [hz] at HV
    rw [hz] at h0
    have d1 : (z != 0) = true := by simpa using h0
    clear h0 hz
    go_enter Try.func33, Try.ntmps33
    go_wp2_with (go_at_call 32; (with_reducible refine (HV.out _ (HRD.out.keep (below1 _ _))).mono ?_); rintro e0 W1 ⟨rfl, b1⟩; (have B1 := Lib.hid (below_more (below1 w _) (Nat.le_refl _) b1)); (clear b1))
    exact bodyPost_ret (v := .tuple #[.bool false, .int .i64 1]) (by simp [results, Try.results33, go_sem]) rfl ⟨by rw [HE.out], B1.out⟩
/-- What Out returns: the indices, the error. -/
def outR (La S : Int) (es : List E3) (s : Int) : List Int × Int := if chkG La S es = 0 then (if 0 ≤ s ∧ s < S then ((lvF es s 0).map (fun j : Nat => (j : Int)), 0) else ([], 25)) else ([], 1)
def IOut (w : World) (r : List Int × Int) (e : Ending) (w' : World) : Prop := ∃ u, e = .returned (.tuple #[u, .int .i64 r.2]) ∧ IntsAt w' w.heap.size u r.1 ∧ Below w.heap.size w w'
theorem lvF_take {es : List E3} {s : Int} {i : Nat} {e : E3} (h : es[i]? = some e) : lvF (es.take (i + 1)) s 0 = lvF (es.take i) s 0 ++ (if e.1 = s then [i] else []) := by
  have hi := (List.getElem?_eq_some_iff.1 h).1
  unfold lvF
  have e1 : (es.take (i + 1)).length = i + 1 := by rw [List.length_take]; omega
  have e2 : (es.take i).length = i := by rw [List.length_take]; omega
  rw [e1, e2, Nat.sub_zero, Nat.sub_zero, List.range'_concat, List.filter_append]
  have e3 : ∀ j, j < i → (es.take (i + 1))[j]! = (es.take i)[j]! := fun j hj => by
    rw [getElem!_def, getElem!_def, List.getElem?_take_of_lt (by omega), List.getElem?_take_of_lt hj]
  have e4 : (es.take (i + 1))[i]! = e := by rw [getElem!_def, List.getElem?_take_of_lt (by omega), h]
  congr 1
  · refine List.filter_congr (fun j hj => ?_)
    rw [List.mem_range'_1] at hj
    rw [e3 j (by omega)]
  · simp only [Nat.one_mul, Nat.zero_add]
    by_cases hs : e.1 = s
    · rw [if_pos hs, List.filter_cons_of_pos (by rw [e4]; simpa using hs)]; rfl
    · rw [if_neg hs, List.filter_cons_of_neg (by rw [e4]; simpa using hs)]; rfl
theorem lvF_len {es : List E3} {s : Int} : (lvF es s 0).length ≤ es.length := by
  unfold lvF
  refine Nat.le_trans (List.length_filter_le _ _) ?_
  rw [List.length_range', Nat.sub_zero]
  exact Nat.le_refl _
end Go.Proofs.Ytbgfllohedhmaaa

namespace Go.Proofs.Ytbgfllohedhmaaa
open Go.RowKit
set_option linter.unusedSimpArgs false
set_option linter.unusedVariables false

theorem detE_pwJ : ∀ {es : List E3}, es.Pairwise (fun a b => ltE a b = true) → (detE es = true ↔ es.Pairwise (fun a b => ¬ (a.1 = b.1 ∧ a.2.1 = b.2.1)))
  | [], _ => by simp [detE]
  | [a], _ => by simp [detE]
  | a :: b :: r, h => by
    obtain ⟨h1, h2⟩ := List.pairwise_cons.1 h
    obtain ⟨h3, h4⟩ := List.pairwise_cons.1 h2
    have ih := detE_pwJ h2
    rw [detE, Bool.and_eq_true, ih, List.pairwise_cons (a := a) (l := b :: r)]
    refine and_congr_left (fun hp => ?_)
    simp only [Bool.not_eq_true', Bool.and_eq_false_imp, beq_iff_eq, beq_eq_false_iff_ne]
    constructor
    · intro hab x hx hxx
      rcases List.mem_cons.1 hx with rfl | hx
      · exact hab hxx.1 hxx.2
      · have k1 := (ltE_iff _ _).1 (h1 b List.mem_cons_self)
        have k2 := (ltE_iff _ _).1 (h3 x hx)
        have e1 : a.1 = b.1 := by omega
        exact hab e1 (by omega)
    · intro hab h1 h2
      exact hab b List.mem_cons_self ⟨h1, h2⟩
theorem det_uqJ {es : List E3} {La S : Int} (hvg : VG La S es) (hd : detE es = true) {e f : E3} (he : e ∈ es) (hf : f ∈ es) (h1 : e.1 = f.1) (h2 : e.2.1 = f.2.1) : e = f := by
  have hp := (detE_pwJ hvg.asc).1 hd
  rw [List.pairwise_iff_getElem] at hp
  obtain ⟨i, hi, rfl⟩ := List.mem_iff_getElem.1 he
  obtain ⟨j, hj, rfl⟩ := List.mem_iff_getElem.1 hf
  rcases Nat.lt_trichotomy i j with h | h | h
  · exact absurd ⟨h1, h2⟩ (hp i j hi hj h)
  · subst h; rfl
  · exact absurd ⟨h1.symm, h2.symm⟩ (hp j i hj hi h)
theorem mT_hitJ {n j l : Nat} {es : List E3} {La : Int} (hvg : VG La (n : Int) es) (hd : detE es = true) {e : E3} (he : e ∈ es) (h1 : e.1 = (j : Int)) (h2 : e.2.1 = (l : Int)) : mT n es j l = e.2.2.toNat := by
  have key : ∀ fs : List E3, (∀ f ∈ fs, f ∈ es) → mT n fs j l = n ∧ (∀ f ∈ fs, ¬ (f.1 = (j : Int) ∧ f.2.1 = (l : Int))) ∨ mT n fs j l = e.2.2.toNat := fun fs => by
    refine snocI (P := fun fs => (∀ f ∈ fs, f ∈ es) → mT n fs j l = n ∧ (∀ f ∈ fs, ¬ (f.1 = (j : Int) ∧ f.2.1 = (l : Int))) ∨ mT n fs j l = e.2.2.toNat) (fun _ => .inl ⟨rfl, fun f hf => by cases hf⟩) (fun fs f ih h => ?_) fs
    rw [mT_snoc]
    by_cases hf : f.1 = (j : Int) ∧ f.2.1 = (l : Int)
    · rw [if_pos hf]
      right
      rw [det_uqJ hvg hd (h f (by simp)) he (hf.1.trans h1.symm) (hf.2.trans h2.symm)]
    · rw [if_neg hf]
      rcases ih (fun f hf => h f (List.mem_append_left _ hf)) with ⟨k1, k2⟩ | k1
      · refine .inl ⟨k1, fun g hg => ?_⟩
        rw [List.mem_append, List.mem_singleton] at hg
        rcases hg with hg | rfl
        · exact k2 g hg
        · exact hf
      · exact .inr k1
  rcases key es (fun f h => h) with ⟨-, k⟩ | k
  · exact absurd ⟨h1, h2⟩ (k e he)
  · exact k
theorem mT_missJ {n j l : Nat} {es : List E3} (h : ∀ e ∈ es, ¬ (e.1 = (j : Int) ∧ e.2.1 = (l : Int))) : mT n es j l = n :=
  mT_ind (P := fun x => x = n) rfl (fun e he h1 h2 => absurd ⟨h1, h2⟩ (h e he))
/-- A state as the reference has it: -1 for none. -/
def tgV (n x : Nat) : Int := if x = n then -1 else (x : Int)
theorem tgV_none (n : Nat) : tgV n n = -1 := if_pos rfl
theorem tgV_some {n x : Nat} (h : x ≠ n) : tgV n x = (x : Int) := if_neg h
theorem tgV_inj {n x y : Nat} (hx : x ≤ n) (hy : y ≤ n) (h : tgV n x = tgV n y) : x = y := by
  unfold tgV at h
  by_cases h1 : x = n <;> by_cases h2 : y = n
  · omega
  · rw [if_pos h1, if_neg h2] at h; omega
  · rw [if_neg h1, if_pos h2] at h; omega
  · rw [if_neg h1, if_neg h2] at h; omega
theorem tgV_neg {n x : Nat} : tgV n x < 0 ↔ x = n := by
  unfold tgV
  by_cases h : x = n
  · rw [if_pos h]; exact ⟨fun _ => h, fun _ => by omega⟩
  · rw [if_neg h]; exact ⟨fun h2 => by omega, fun h2 => absurd h2 h⟩
set_option maxRecDepth 100000 in
set_option maxHeartbeats 3200000 in
theorem rtarget_any (La n j l : Nat) (es : List E3) (v : Value) (w : World) (hrd : EdgesRd w v es) (hvg : VG (La : Int) (n : Int) es) (hd : detE es = true) :
    Calls Try.prog 41 #[grV (La : Int) (n : Int) v, .int .i64 (j : Int), .int .i64 (l : Int)] w fun e w' => e = .returned (.int .i64 (tgV n (mT n es j l))) ∧ Below w.heap.size w w' := by
  have hlen := hvg.len
  have HRD := Lib.hid hrd
  have HVG := Lib.hid hvg
  have HD := Lib.hid hd
  have B0 := Lib.hid (below1 w (.cells #[.int .i64 (La : Int), .int .i64 (n : Int), v] 24))
  have G0 := Lib.hid (BoxG.new w (La : Int) (n : Int) v 24)
  obtain ⟨x1, x2, x3⟩ := id G0.out
  obtain ⟨a, c, rfl⟩ := hrd.form
  clear hrd hvg hd
  obtain ⟨W1, hW⟩ : ∃ W1, w.alloc (.cells #[.int .i64 (La : Int), .int .i64 (n : Int), .slice a es.length c] 24) = W1 := ⟨_, rfl⟩
  have HW := Lib.hid hW
  rw [hW] at B0 x1 x2 x3
  have HR1 := Lib.hid (HRD.out.keep B0.out)
  clear hW G0
  go_enter Try.func41, Try.ntmps41
  go_wp2_with fail
  rw [HW.out]
  clear HW
  go_loopg [7] es.length (fun q s7 wx => ∃ i : Nat, i + q = es.length ∧ s7 = .int .i64 (i : Int) ∧ Hid (∀ e ∈ es.take i, ¬ (e.1 = (j : Int) ∧ e.2.1 = (l : Int))) ∧ wx = W1)
  case atStart => exact ⟨0, by omega, rfl, Lib.hid (fun e he => by simp at he), rfl⟩
  case round =>
    obtain ⟨i, hi, rfl, HI, rfl⟩ := hrel
    rcases gk with _ | q
    · obtain rfl : i = es.length := by omega
      have HE := Lib.hid (show tgV n (mT n es j l) = -1 by
        have h := HI.out
        rw [List.take_length] at h
        rw [mT_missJ h, tgV_none])
      have j1 : ¬ ((es.length : Int) < (es.length : Int)) := by omega
      clear HI
      go_wp2_with fail
      go_ret
      exact ⟨by rw [HE.out]; rfl, B0.out⟩
    · obtain ⟨e, he⟩ : ∃ e, es[i]? = some e := ⟨_, List.getElem?_eq_getElem (by omega)⟩
      obtain ⟨b, off, c', hv, k1, k2, k3⟩ := HR1.out.at he
      injection hv with e1 e2 e3
      subst e1
      subst e3
      have j1 : (i : Int) < (es.length : Int) := by omega
      have HN := Lib.hid (show ¬ (e.1 = (j : Int) ∧ e.2.1 = (l : Int)) → ∀ f ∈ es.take (i + 1), ¬ (f.1 = (j : Int) ∧ f.2.1 = (l : Int)) from fun h f hf => by
        rw [List.take_add_one, he, List.mem_append] at hf
        rcases hf with hf | hf
        · exact HI.out f hf
        · simp at hf; subst hf; exact h)
      have HY := Lib.hid (show e.1 = (j : Int) → e.2.1 = (l : Int) → tgV n (mT n es j l) = e.2.2 from fun h1 h2 => by
        have hm := List.mem_of_getElem? he
        have hok := okE_iff.1 (HVG.out.ok e hm)
        rw [mT_hitJ HVG.out HD.out hm h1 h2, tgV_some (by omega)]
        omega)
      obtain ⟨x, y, z⟩ := e
      dsimp only at k1 k2 k3 HN HY
      clear HI he e2
      by_cases hx : x = (j : Int)
      · subst hx
        by_cases hy : y = (l : Int)
        · subst hy
          have HE := Lib.hid (HY.out rfl rfl)
          clear HY HN
          go_wp2_with fail
          go_ret
          exact ⟨by rw [HE.out]; rfl, B0.out⟩
        · have HI2 := Lib.hid (HN.out (fun h => hy h.2))
          have d2 : (y == (l : Int)) = false := by simpa using hy
          clear HY HN hy
          go_wp2_with fail
          go_roundg q
          case measure => omega
          case rel => exact ⟨i + 1, by omega, by go_num, HI2, rfl⟩
      · have HI2 := Lib.hid (HN.out (fun h => hx h.1))
        have d1 : (x == (j : Int)) = false := by simpa using hx
        clear HY HN hx
        go_wp2_with fail
        go_roundg q
        case measure => omega
        case rel => exact ⟨i + 1, by omega, by go_num, HI2, rfl⟩
set_option maxRecDepth 100000 in
set_option maxHeartbeats 3200000 in
theorem rcheck13_any (La S : Int) (es : List E3) (v : Value) (w : World) (hrd : EdgesRd w v es) (hn : es.length ≤ 9223372036854775807) :
    Calls Try.prog 19 #[grV La S v] w fun e w' => e = .returned (.int .i64 (cdR La S es)) ∧ Below w.heap.size w w' := by
  have HC := Lib.hid (fun W h => rcheck_any La S es v W h hn)
  have HD := Lib.hid (fun W h => rdeterministic_any La S es v W h hn)
  have HRD := Lib.hid hrd
  have B0 := Lib.hid (below1 w (.cells #[.int .i64 La, .int .i64 S, v] 24))
  have G0 := Lib.hid (BoxG.new w La S v 24)
  obtain ⟨x1, x2, x3⟩ := id G0.out
  obtain ⟨z, hz⟩ : ∃ z, cdR La S es = z := ⟨_, rfl⟩
  have HZ := Lib.hid hz
  rw [hz]
  obtain ⟨y, hy⟩ : ∃ y, chkG La S es = y := ⟨_, rfl⟩
  rw [hy] at HC
  obtain ⟨a, c, rfl⟩ := hrd.form
  clear hrd hz
  by_cases h1 : y = 0
  · subst h1
    by_cases h2 : detE es = true
    · have e1 : detR La S es = (true, 0) := by unfold detR; rw [if_pos hy, h2]
      have HE := Lib.hid (show z = 0 by rw [← HZ.out]; unfold cdR; rw [if_pos hy, if_pos h2])
      rw [e1] at HD
      clear HZ h2 e1 hy
      go_enter Try.func19, Try.ntmps19
      go_wp2_with (first
        | (go_at_call 32; (with_reducible refine (HC.out _ (HRD.out.keep B0.out)).mono ?_); rintro e W1 ⟨rfl, b1⟩; (have B1 := Lib.hid (below_more B0.out (Nat.le_refl _) b1)); (have G1 := Lib.hid (G0.out.keep b1)); clear b1 x1 x2 x3; (obtain ⟨x1, x2, x3⟩ := id G1.out))
        | (go_at_call 33; (with_reducible refine (HD.out _ (HRD.out.keep B1.out)).mono ?_); rintro e W2 ⟨rfl, b2⟩; (have B2 := Lib.hid (B1.out.trans (b2.mono B1.out.size))); clear b2 x1 x2 x3))
      go_ret
      exact ⟨by rw [HE.out]; rfl, B2.out⟩
    · have e1 : detR La S es = (false, 0) := by unfold detR; rw [if_pos hy, Bool.eq_false_iff.2 h2]
      have HE := Lib.hid (show z = 8 by rw [← HZ.out]; unfold cdR; rw [if_pos hy, if_neg h2])
      rw [e1] at HD
      clear HZ h2 e1 hy
      go_enter Try.func19, Try.ntmps19
      go_wp2_with (first
        | (go_at_call 32; (with_reducible refine (HC.out _ (HRD.out.keep B0.out)).mono ?_); rintro e W1 ⟨rfl, b1⟩; (have B1 := Lib.hid (below_more B0.out (Nat.le_refl _) b1)); (have G1 := Lib.hid (G0.out.keep b1)); clear b1 x1 x2 x3; (obtain ⟨x1, x2, x3⟩ := id G1.out))
        | (go_at_call 33; (with_reducible refine (HD.out _ (HRD.out.keep B1.out)).mono ?_); rintro e W2 ⟨rfl, b2⟩; (have B2 := Lib.hid (B1.out.trans (b2.mono B1.out.size))); clear b2 x1 x2 x3))
      go_ret
      exact ⟨by rw [HE.out]; rfl, B2.out⟩
  · have d1 : (y != 0) = true := by simpa using h1
    have HE := Lib.hid (show z = 1 by rw [← HZ.out]; unfold cdR; rw [hy, if_neg h1])
    clear HZ h1 hy
    go_enter Try.func19, Try.ntmps19
    go_wp2_with (go_at_call 32; (with_reducible refine (HC.out _ (HRD.out.keep B0.out)).mono ?_); rintro e W1 ⟨rfl, b1⟩; (have B1 := Lib.hid (below_more B0.out (Nat.le_refl _) b1)); clear b1 x1 x2 x3)
    go_ret
    exact ⟨by rw [HE.out]; rfl, B1.out⟩
end Go.Proofs.Ytbgfllohedhmaaa

namespace Go.Proofs.Ytbgfllohedhmaaa
open Go.RowKit Go.Maps Go.Lib
set_option linter.unusedSimpArgs false
set_option linter.unusedVariables false

def encR (r : Rec) : List Value := [.int .i64 (r.1 : Int), .int .i64 (r.2.1 : Int), .int .i64 (r.2.2.1 : Int), .int .i64 (r.2.2.2 : Int)]
abbrev recV (a b c d : Nat) : Value := .agg #[.int .i64 (a : Int), .int .i64 (b : Int), .int .i64 (c : Int), .int .i64 (d : Int)]
def rcl (R : List Rec) : List Value := R.flatMap encR
theorem rcl_snoc (R : List Rec) (r : Rec) : rcl (R ++ [r]) = rcl R ++ [.int .i64 (r.1 : Int), .int .i64 (r.2.1 : Int), .int .i64 (r.2.2.1 : Int), .int .i64 (r.2.2.2 : Int)] := by unfold rcl; rw [List.flatMap_append]; rfl
theorem rcl_len (R : List Rec) : (rcl R).length = R.length * 4 := by
  induction R with
  | nil => rfl
  | cons p rs ih => show (_ :: _ :: _ :: _ :: rcl rs).length = _; rw [List.length_cons, List.length_cons, List.length_cons, List.length_cons, ih, List.length_cons]; omega
theorem rcl_at {R : List Rec} : ∀ {i : Nat} {r : Rec}, R[i]? = some r → (rcl R)[i * 4]? = some (.int .i64 (r.1 : Int)) ∧ (rcl R)[i * 4 + 1]? = some (.int .i64 (r.2.1 : Int)) ∧ (rcl R)[i * 4 + 2]? = some (.int .i64 (r.2.2.1 : Int)) ∧ (rcl R)[i * 4 + 3]? = some (.int .i64 (r.2.2.2 : Int)) := by
  induction R with
  | nil => intro i p h; cases h
  | cons q rs ih =>
    intro i p h
    cases i with
    | zero => simp at h; subst h; exact ⟨rfl, rfl, rfl, rfl⟩
    | succ i =>
      have := ih (i := i) (by simpa using h)
      rw [show (i + 1) * 4 = i * 4 + 1 + 1 + 1 + 1 by omega]
      exact this
def RecsAt (W : World) (B : Nat) (v : Value) (R : List Rec) : Prop := W.ownsRow B 68 4 v R.length (rcl R)
/-- Found pairs that can be read. -/
def RecsRd (W : World) (v : Value) (R : List Rec) : Prop := ∃ a c, v = .slice a R.length c ∧ ∀ (i : Nat) (r : Rec), R[i]? = some r → ∃ b off, a = some ⟨b, off, none⟩ ∧
  W.cell? ⟨b, off + i * 4, none⟩ = some (.int .i64 (r.1 : Int)) ∧ W.cell? ⟨b, off + i * 4 + 1, none⟩ = some (.int .i64 (r.2.1 : Int)) ∧ W.cell? ⟨b, off + i * 4 + 2, none⟩ = some (.int .i64 (r.2.2.1 : Int)) ∧ W.cell? ⟨b, off + i * 4 + 3, none⟩ = some (.int .i64 (r.2.2.2 : Int))
section
variable {W W' : World} {B : Nat} {v : Value} {R : List Rec}
theorem RecsAt.keep (h : RecsAt W B v R) (hb : Below W.heap.size W W') : RecsAt W' B v R := World.ownsRow.kept h (grown_none hb) (by cases v.ownBlock <;> simp)
theorem RecsAt.slice (h : RecsAt W B v R) : ∃ a c, v = .slice a R.length c := own_slice h
theorem RecsAt.row (h : RecsAt W B v R) (h0 : 0 < R.length) : ∃ g c, v = .slice (some ⟨g, 0, none⟩) R.length c := by
  obtain ⟨g, c, hv, _⟩ := World.ownsRow.form h h0
  exact ⟨g, c, hv⟩
theorem RecsAt.cell {g c i : Nat} {r : Rec} (h : RecsAt W B (.slice (some ⟨g, 0, none⟩) R.length c) R) (hx : R[i]? = some r) :
    W.cell? ⟨g, i * 4, none⟩ = some (.int .i64 (r.1 : Int)) ∧ W.cell? ⟨g, i * 4 + 1, none⟩ = some (.int .i64 (r.2.1 : Int)) ∧ W.cell? ⟨g, i * 4 + 2, none⟩ = some (.int .i64 (r.2.2.1 : Int)) ∧ W.cell? ⟨g, i * 4 + 3, none⟩ = some (.int .i64 (r.2.2.2 : Int)) := by
  have hi : i < R.length := (List.getElem?_eq_some_iff.1 hx).1
  obtain ⟨k1, k2, k3, k4⟩ := rcl_at hx
  exact ⟨(World.ownsRow.cellAt h (i * 4) (by omega)).trans k1, (World.ownsRow.cellAt h (i * 4 + 1) (by omega)).trans k2, (World.ownsRow.cellAt h (i * 4 + 2) (by omega)).trans k3, (World.ownsRow.cellAt h (i * 4 + 3) (by omega)).trans k4⟩
theorem RecsAt.rd (h : RecsAt W B v R) : RecsRd W v R := by
  obtain ⟨a, c, rfl⟩ := h.slice
  refine ⟨a, c, rfl, fun i r hx => ?_⟩
  have hi : i < R.length := (List.getElem?_eq_some_iff.1 hx).1
  obtain ⟨g, c2, hv⟩ := h.row (by omega)
  injection hv with e1 e2 e3
  subst e1
  exact ⟨g, 0, rfl, by rw [Nat.zero_add]; exact RecsAt.cell h hx⟩
theorem RecsRd.keep (h : RecsRd W v R) (hb : Below W.heap.size W W') : RecsRd W' v R := by
  obtain ⟨a, c, rfl, h1⟩ := h
  refine ⟨a, c, rfl, fun i r hx => ?_⟩
  obtain ⟨b, off, rfl, k1, k2, k3, k4⟩ := h1 i r hx
  exact ⟨b, off, rfl, cell_keep k1 hb, cell_keep k2 hb, cell_keep k3 hb, cell_keep k4 hb⟩
theorem RecsRd.form (h : RecsRd W v R) : ∃ a c, v = .slice a R.length c := by
  obtain ⟨a, c, h1, -⟩ := h
  exact ⟨a, c, h1⟩
theorem RecsRd.at (h : RecsRd W v R) {i : Nat} {r : Rec} (hx : R[i]? = some r) : ∃ b off c, v = .slice (some ⟨b, off, none⟩) R.length c ∧
    W.cell? ⟨b, off + i * 4, none⟩ = some (.int .i64 (r.1 : Int)) ∧ W.cell? ⟨b, off + i * 4 + 1, none⟩ = some (.int .i64 (r.2.1 : Int)) ∧ W.cell? ⟨b, off + i * 4 + 2, none⟩ = some (.int .i64 (r.2.2.1 : Int)) ∧ W.cell? ⟨b, off + i * 4 + 3, none⟩ = some (.int .i64 (r.2.2.2 : Int)) := by
  obtain ⟨a, c, rfl, h1⟩ := h
  obtain ⟨b, off, rfl, k⟩ := h1 i r hx
  exact ⟨b, off, c, rfl, k⟩
end
theorem Try.infoFound : (Try.prog.info? 68).map (fun i => (i.zero, i.size, i.bytes)) = some (some (.agg #[.int .i64 0, .int .i64 0, .int .i64 0, .int .i64 0]), 4, 32) := by kernel_rfl
theorem cell_four_new (w : World) (x y z u : Value) (t : TypeId) : ∀ j v, [x, y, z, u][j]? = some v → (w.alloc (.cells #[x, y, z, u] t)).cell? ((⟨w.heap.size, 0, none⟩ : Addr).add j) = some v := by
  intro j v hj
  match j, hj with
  | 0, hj => simp at hj; subst hj; simp [Addr.add]
  | 1, hj => simp at hj; subst hj; simp [Addr.add]
  | 2, hj => simp at hj; subst hj; simp [Addr.add]
  | 3, hj => simp at hj; subst hj; simp [Addr.add]
theorem pairEq (d : Nat) (a b c e : Nat) (w : World) : (Op.equalIn (d + 2) 54 (.agg #[.int .i64 (a : Int), .int .i64 (b : Int)]) (.agg #[.int .i64 (c : Int), .int .i64 (e : Int)])).run Try.prog w = .ok (decide (a = c ∧ b = e)) w := by
  have u3 := Try.underlying3
  obtain ⟨i0, hi, -⟩ := info_parts Try.infoI64
  rw [run_equalIn_array w (d + 1) #[.int .i64 (a : Int), .int .i64 (b : Int)] #[.int .i64 (c : Int), .int .i64 (e : Int)] Try.underlying54 hi]
  rw [Try.arrP.one]
  simp only [show List.range 2 = [0, 1] from rfl, Op.eqItems]
  go_simp
  by_cases h1 : a = c <;> by_cases h2 : b = e <;> simp [h1, h2] <;> first | omega | (intro _; omega)
theorem pairNeq (a b c e : Nat) (w : World) : (binOp .neq 54 (.agg #[.int .i64 (a : Int), .int .i64 (b : Int)]) (.agg #[.int .i64 (c : Int), .int .i64 (e : Int)])).run Try.prog w = .ok (.bool (!decide (a = c ∧ b = e))) w := by
  rw [run_neq_struct, show (10000 : Nat) = 9998 + 2 from rfl, pairEq]
  rfl
theorem pairGuard (op : BinOp) (x y : Operand) (a b : Array Value) (w : World) : (eqGuard op 54 x y (.agg a) (.agg b)).run Try.prog w = .ok () w := run_eqGuard_agg w op 54 x y a b (by kernel_rfl)
theorem foundGuard (op : BinOp) (x y : Operand) (a b : Array Value) (w : World) : (eqGuard op 68 x y (.agg a) (.agg b)).run Try.prog w = .ok () w := run_eqGuard_agg w op 68 x y a b (by kernel_rfl)
theorem foundNeq (r q : Rec) (w : World) : (binOp .neq 68 (recV r.1 r.2.1 r.2.2.1 r.2.2.2) (recV q.1 q.2.1 q.2.2.1 q.2.2.2)).run Try.prog w = .ok (.bool (!decide (r = q))) w := by
  have u3 := Try.underlying3
  have a3 := Try.isAgg3
  have z3 := Try.sizeOf3
  have zp := Try.sizeOf54
  have ap := Try.isAgg54
  have hS : Try.prog.underlying 68 = some (.struct (Try.prog.fieldsOf 68)) := by kernel_rfl
  have hp : Try.prog.stoodInHeld 68 = false := by kernel_rfl
  have hP := fun (d : Nat) (a b c e : Nat) (w : World) => pairEq d a b c e w
  rw [run_neq_struct, show (10000 : Nat) = 9999 + 1 from rfl, run_equalIn_agg w 9999 68 _ _ hS hp]
  simp only [Program.fieldsOf, Try.underlying68]
  rw [show (9999 : Nat) = 9997 + 2 from rfl]
  go_simp
  obtain ⟨a, b, c, d⟩ := r
  obtain ⟨e, f, g, h⟩ := q
  simp only [show ∀ x y : Nat, ((x : Int) = (y : Int)) = (x = y) from fun x y => propext (by omega)]
  by_cases h1 : a = e <;> by_cases h2 : b = f <;> by_cases h3 : c = g <;> by_cases h4 : d = h <;> simp [h1, h2, h3, h4]
theorem ints_revH {w W : World} {g c q : Nat} {l : List Int} {m : Nat} (hm : l.length = m) (h : IntsAt W w.heap.size (.slice (some ⟨g, 0, none⟩) m c) l) :
    IntsRd ((W.drewN q).setCells g 0 (((l.take m).reverse).map (Value.int .i64))) (.slice (some ⟨g, 0, none⟩) m c) l.reverse := by
  subst hm
  rw [List.take_length]
  refine ⟨_, c, by rw [List.length_reverse], fun i x hx => ⟨g, 0, rfl, ?_⟩⟩
  have hi : i < (l.reverse.map (Value.int .i64)).length := by rw [List.length_map]; exact (List.getElem?_eq_some_iff.1 hx).1
  have hs : ∀ j, j < (l.reverse.map (Value.int .i64)).length → ((W.drewN q).cell? ⟨g, 0 + j, none⟩).isSome = true := fun j hj => by
    have hj2 : j < l.length := by rw [List.length_map, List.length_reverse] at hj; exact hj
    have h2 : (W.drewN q).cell? ⟨g, 0 + j, none⟩ = some (.int .i64 l[j]) := by rw [Nat.zero_add]; exact IntsAt.cell h (List.getElem?_eq_getElem hj2)
    rw [h2]; rfl
  rw [World.cell?_setCells_in g _ 0 _ hs i hi]
  rw [List.getElem_map]
  obtain ⟨h3, h4⟩ := List.getElem?_eq_some_iff.1 hx
  rw [h4]
theorem rev_anyH (w W : World) (v : Value) (l : List Int) (h : IntsAt W w.heap.size v l) (hl : l.length ≤ 100000) (hw : w.heap.size ≤ W.heap.size) :
    Calls Try.prog 53 #[v] W fun e w' => e = .returned (.tuple #[]) ∧ IntsRd w' v l.reverse ∧ Below w.heap.size W w' := by
  by_cases h0 : l = []
  · subst h0
    obtain ⟨a, c, rfl⟩ := h.slice
    refine (Try.slices_Reverse_int_empty a c W).mono ?_
    rintro e w' ⟨he, rfl⟩
    exact ⟨he, ⟨a, c, rfl, fun i x hx => by simp at hx⟩, Below.refl _ _⟩
  · obtain ⟨g, c, rfl⟩ := h.row (List.length_pos_iff.2 h0)
    have hc : ∀ j, j < l.length → W.cell? ⟨g, 0 + j, none⟩ = some (.int .i64 (l.getD j 0)) := fun j hj => by
      rw [Nat.zero_add, List.getD_eq_getElem?_getD, List.getElem?_eq_getElem hj]
      exact IntsAt.cell h (List.getElem?_eq_getElem hj)
    have hf : ∀ j, j < l.length → W.frozen? ⟨g, 0 + j, none⟩ = false := fun j hj => by
      rcases h.2 with ⟨h1, h2⟩ | ⟨g2, cap, cur, h1, h2, h3, _⟩
      · exact absurd (List.length_eq_zero_iff.1 h2) h0
      · injection h1 with h1
        injection h1 with h1
        injection h1 with h1
        subst h1
        simp [World.frozen?, h3]
    refine (Try.slices_Reverse_int_cells g 0 l.length c l W (Nat.le_refl _) (by omega) hc hf).mono ?_
    rintro e w' ⟨he, q, rfl⟩
    have hg : w.heap.size ≤ g := (World.ownsRow.lt h g rfl).1
    exact ⟨he, ints_revH rfl h, Lib.below_setCells g hg _ _ (below_drewM (Below.refl _ W) q)⟩
theorem blk_loH {W W4 : World} {A t s k p : Nat} {v : Value} {xs : List Value} {o : Obj} (hp : p < W.heap.size) (hr : W.ownsRow A t s v k xs) (hA : p < A) (hg : (W.alloc o).grownBy W4 v.ownBlock) : W4.heap[p]? = W.heap[p]? :=
  (hg.block p (by rw [World.size_alloc]; omega) (fun e => by have := (hr.lt p e.symm).1; omega)).trans (Below.heap_alloc _ _ _ hp)
theorem boxed_loH {W W4 : World} {A t s k p : Nat} {u v : Value} {ty : TypeId} {xs : List Value} {o : Obj} (h : Boxed W p ty u) (hr : W.ownsRow A t s v k xs) (hA : p < A) (hg : (W.alloc o).grownBy W4 v.ownBlock) : Boxed W4 p ty u := (blk_loH h.lt hr hA hg).trans h
theorem boxg_loH {W W4 : World} {A t s k p : Nat} {x y : Int} {z v : Value} {xs : List Value} {o : Obj} (h : BoxG W p x y z) (hp : p < W.heap.size) (hr : W.ownsRow A t s v k xs) (hA : p < A) (hg : (W.alloc o).grownBy W4 v.ownBlock) : BoxG W4 p x y z :=
  have hb := blk_loH hp hr hA hg
  ⟨(World.cell?_of_block (a := ⟨p, 0, none⟩) hb).trans h.1, (World.cell?_of_block (a := ⟨p, 1, none⟩) hb).trans h.2.1, (World.cell?_of_block (a := ⟨p, 2, none⟩) hb).trans h.2.2⟩
/-- A found pair in a variable. -/
def Bx4 (W : World) (p : Nat) (r : Rec) : Prop := W.heap[p]? = some (.cells #[.int .i64 (r.1 : Int), .int .i64 (r.2.1 : Int), .int .i64 (r.2.2.1 : Int), .int .i64 (r.2.2.2 : Int)] 68 (0, 0))
theorem Bx4.new (W : World) (r : Rec) : Bx4 (W.alloc (.cells #[.int .i64 (r.1 : Int), .int .i64 (r.2.1 : Int), .int .i64 (r.2.2.1 : Int), .int .i64 (r.2.2.2 : Int)] 68)) W.heap.size r := heap_alloc_new W _
theorem Bx4.lt {W : World} {p : Nat} {r : Rec} (h : Bx4 W p r) : p < W.heap.size := (Array.getElem?_eq_some_iff.1 h).1
theorem Bx4.cells {W : World} {p : Nat} {r : Rec} (h : Bx4 W p r) : (W.cell? ⟨p, 0, none⟩ = some (.int .i64 (r.1 : Int)) ∧ W.cell? ⟨p, 1, none⟩ = some (.int .i64 (r.2.1 : Int)) ∧ W.cell? ⟨p, 2, none⟩ = some (.int .i64 (r.2.2.1 : Int)) ∧ W.cell? ⟨p, 3, none⟩ = some (.int .i64 (r.2.2.2 : Int))) ∧
    (W.frozen? ⟨p, 0, none⟩ = false ∧ W.frozen? ⟨p, 1, none⟩ = false ∧ W.frozen? ⟨p, 2, none⟩ = false ∧ W.frozen? ⟨p, 3, none⟩ = false) := by
  unfold Bx4 at h
  refine ⟨⟨by simp [World.cell?, h], by simp [World.cell?, h], by simp [World.cell?, h], by simp [World.cell?, h]⟩, by simp [World.frozen?, h], by simp [World.frozen?, h], by simp [World.frozen?, h], by simp [World.frozen?, h]⟩
theorem Bx4.set {W : World} {p : Nat} {r : Rec} (h : Bx4 W p r) (q : Rec) : Bx4 ((((W.setCell ⟨p, 0, none⟩ (.int .i64 (q.1 : Int))).setCell ⟨p, 1, none⟩ (.int .i64 (q.2.1 : Int))).setCell ⟨p, 2, none⟩ (.int .i64 (q.2.2.1 : Int))).setCell ⟨p, 3, none⟩ (.int .i64 (q.2.2.2 : Int))) p q := by
  obtain ⟨hlt, hk⟩ := Array.getElem?_eq_some_iff.1 h
  unfold Bx4 World.setCell
  simp [Array.getElem?_modify, Array.getElem?_eq_getElem hlt, hk]
theorem recQ_zero {R : List Rec} {Q : List (List Int × (Nat × Nat))} (h : RecQ R Q) {k : Nat} {r r0 : Rec} (hr : R[k]? = some r) (h0 : R[0]? = some r0) (e : r = r0) : k = 0 := by
  have hl := h.len
  have hk : k < Q.length := by have := (List.getElem?_eq_some_iff.1 hr).1; omega
  have h1 := List.getElem?_eq_getElem hk
  have h2 := List.getElem?_eq_getElem (show 0 < Q.length by omega)
  have e1 := h.at_ k r _ hr h1
  have e2 := h.at_ 0 r0 _ h0 h2
  have h3 : (Q.map (·.2))[k]? = (Q.map (·.2))[0]? := by
    rw [List.getElem?_map, List.getElem?_map, h1, h2, Option.map_some, Option.map_some, e1, e2, e]
  exact (List.getElem?_inj (by rw [List.length_map]; exact hk) h.nd).1 h3
set_option maxRecDepth 100000 in
set_option maxHeartbeats 6400000 in
theorem wordTo_any (R : List Rec) (Q : List (List Int × (Nat × Nat))) (v : Value) (k0 : Nat) (r0 : Rec) (q0 : List Int × (Nat × Nat)) (w : World) (hrd : RecsRd w v R) (hrq : RecQ R Q) (hr0 : R[k0]? = some r0) (hq0 : Q[k0]? = some q0) (hn : R.length ≤ 100000) :
    Calls Try.prog 40 #[v, recV r0.1 r0.2.1 r0.2.2.1 r0.2.2.2] w fun e w' => ∃ a c, e = .returned (.slice a q0.1.length c) ∧ IntsRd w' (.slice a q0.1.length c) q0.1 ∧ Below w.heap.size w w' := by
  obtain ⟨i0, hi, hz0, hz1, hz2⟩ := info_parts Try.infoI64
  have hneq := foundNeq
  have hgd := foundGuard
  have HRD := Lib.hid hrd
  have HRQ := Lib.hid hrq
  obtain ⟨s0, t0, hQ0, hR0'⟩ := hrq.root
  obtain ⟨⟨s, t, y0, l0⟩, hR0⟩ : ∃ r, R[0]? = some r := ⟨_, hR0'⟩
  have hk0 : k0 < R.length := (List.getElem?_eq_some_iff.1 hr0).1
  have HR0 := Lib.hid hR0
  have HQ0 := Lib.hid hQ0
  have HRR := Lib.hid hr0
  have HQQ := Lib.hid hq0
  obtain ⟨a, c, hv⟩ := hrd.form
  subst hv
  have X0 := Lib.hid (Bx4.new w r0)
  have B0 := Lib.hid (below1 w (.cells #[.int .i64 (r0.1 : Int), .int .i64 (r0.2.1 : Int), .int .i64 (r0.2.2.1 : Int), .int .i64 (r0.2.2.2 : Int)] 68))
  have Z0 := Lib.hid (World.size_alloc w (.cells #[.int .i64 (r0.1 : Int), .int .i64 (r0.2.1 : Int), .int .i64 (r0.2.2.1 : Int), .int .i64 (r0.2.2.2 : Int)] 68))
  clear hrd hrq hR0 hQ0 hr0 hq0 hR0'
  go_enter Try.func40, Try.ntmps40
  go_wp2_with fail
  generalize (w.alloc (.cells #[.int .i64 (r0.1 : Int), .int .i64 (r0.2.1 : Int), .int .i64 (r0.2.2.1 : Int), .int .i64 (r0.2.2.2 : Int)] 68)) = X at *
  have I0 := Lib.hid (ints_nil X (w.heap.size + 1))
  go_loopg [5] R.length (fun q s5 wx => ∃ (k x y bh lb : Nat) (p : List Int × (Nat × Nat)) (ls : List Int), k ≤ q ∧ Hid (R[k]? = some (x, y, bh, lb)) ∧ Hid (Q[k]? = some p) ∧ Hid (p.1 ++ ls.reverse = q0.1) ∧ Hid (IntsAt wx (w.heap.size + 1) s5 ls) ∧ Hid (Bx4 wx w.heap.size (x, y, bh, lb)) ∧ Hid (Below w.heap.size w wx) ∧ w.heap.size + 1 ≤ wx.heap.size ∧ ls.length + q ≤ R.length)
  case atStart => exact ⟨k0, r0.1, r0.2.1, r0.2.2.1, r0.2.2.2, q0, [], by omega, HRR, HQQ, Lib.hid (by rw [List.reverse_nil, List.append_nil]), I0, X0, B0, by rw [Z0.out]; exact Nat.le_refl _, by simp⟩
  case round =>
    clear X0 B0 I0 HRR HQQ Z0
    obtain ⟨k, x, y, bh, lb, p, ls, hkq, HK, HP, HL, HI, HX, HB, hsz, hll⟩ := hrel
    have hd : Below wr.heap.size wr wr.drew := (Below.refl _ _).drew
    obtain ⟨⟨x1, x2, x3, x4⟩, f1, f2, f3, f4⟩ := HX.out.cells
    obtain ⟨b0, o0, cc0, hv0, k1, k2, k3, k4⟩ := (HRD.out.keep HB.out).at HR0.out
    injection hv0 with e1 e2 e3
    subst e1
    have heq := fun W => foundNeq (x, y, bh, lb) (s, t, y0, l0) W
    dsimp only at heq k1 k2 k3 k4 x1 x2 x3 x4
    rw [Nat.zero_mul, Nat.add_zero] at k1 k2 k3 k4
    have hR1 : 0 < R.length := by omega
    have hR2 : (0 : Int) < (R.length : Int) := by omega
    clear e2 e3 hneq
    by_cases h0 : k = 0
    · subst h0
      have d1 : decide ((x, y, bh, lb) = (s, t, y0, l0)) = true := decide_eq_true (by
        have := HK.out.symm.trans HR0.out
        injection this)
      rw [d1] at heq
      have HE := Lib.hid (show ls.reverse = q0.1 by
        have h1 := HP.out.symm.trans HQ0.out
        injection h1 with h1
        have h2 := HL.out
        rw [h1] at h2
        exact h2)
      have HI2 := Lib.hid (IntsAt.keep HI.out hd)
      have HB2 := Lib.hid (HB.out.trans (hd.mono HB.out.size))
      have hsz2 : w.heap.size + 1 ≤ wr.drew.heap.size := hsz
      obtain ⟨a5, c5, rfl⟩ := HI.out.slice
      obtain ⟨m5, hm5⟩ : ∃ m, ls.length = m := ⟨_, rfl⟩
      have HM5 := Lib.hid hm5
      rw [hm5] at HI2 ⊢
      clear d1 HI HB HX hsz hd hm5
      go_wp2_with fail
      go_region
      generalize wr.drew = Y at *
      have HRV := Lib.hid (rev_anyH w Y (.slice a5 m5 c5) ls (own_low HI2.out (by omega)) (by omega) (by omega))
      go_wp2_with (go_at_call 53; (with_reducible refine HRV.out.mono ?_); rintro e W2 ⟨rfl, hi2, b2⟩)
      go_ret
      have hlq : q0.1.length = m5 := by rw [← HE.out, List.length_reverse, HM5.out]
      rw [hlq]
      refine ⟨_, _, rfl, ?_, HB2.out.trans b2⟩
      rw [← HE.out]
      exact hi2
    · have d1 : decide ((x, y, bh, lb) = (s, t, y0, l0)) = false := decide_eq_false (fun e => h0 (recQ_zero HRQ.out HK.out HR0.out e))
      rw [d1] at heq
      obtain ⟨hbk, p2, hp2, hpe⟩ := HRQ.out.par k _ p (by omega) HK.out HP.out
      dsimp only at hbk hp2 hpe
      obtain ⟨⟨x', y', bh', lb'⟩, hr2⟩ : ∃ r, R[bh]? = some r := ⟨_, List.getElem?_eq_getElem (by have := (List.getElem?_eq_some_iff.1 hp2).1; have := HRQ.out.len; omega)⟩
      have HK2 := Lib.hid hr2
      have HP2 := Lib.hid hp2
      have HL2 := Lib.hid (show p2.1 ++ (ls ++ [(lb : Int)]).reverse = q0.1 by
        rw [← HL.out, hpe, List.reverse_append, List.append_assoc]; rfl)
      have HI2 := Lib.hid (IntsAt.keep HI.out hd)
      have HX2 := Lib.hid (show Bx4 wr.drew w.heap.size (x, y, bh, lb) from HX.out)
      have HB2 := Lib.hid (HB.out.trans (hd.mono HB.out.size))
      have hsz2 : w.heap.size + 1 ≤ wr.drew.heap.size := hsz
      obtain ⟨a5, c5, rfl⟩ := HI.out.slice
      obtain ⟨m5, hm5⟩ : ∃ m, ls.length = m := ⟨_, rfl⟩
      have HM5 := Lib.hid hm5
      have hown := HI2.out
      unfold IntsAt at hown
      rw [hm5] at hown hll ⊢
      have hbR : bh < R.length := (List.getElem?_eq_some_iff.1 hr2).1
      have j1 : (bh : Int) < (R.length : Int) := by omega
      obtain ⟨q', rfl⟩ : ∃ q', gk = q' + 1 := ⟨gk - 1, by omega⟩
      clear d1 HI HB HX hsz hd hm5 hp2 hpe
      go_wp2_with fail
      go_region
      clear x1 x2 x3 x4 f1 f2 f3 f4 k1 k2 k3 k4 heq
      generalize wr.drew = Y at *
      obtain ⟨⟨x1, x2, x3, x4⟩, f1, f2, f3, f4⟩ := HX2.out.cells
      dsimp only at x1 x2 x3 x4
      go_upto_region 3 with (at_builtin; refine wpList_append_own_at _ rfl _ _ 27 rfl (w.heap.size + 1) 3 i0 (.int .i64 0) 1 8 Try.underlying27 hi hz0 hz1 hz2 rfl (by decide) _ _ _ rfl (hown.alloc _) ⟨Y.heap.size, 0, none⟩ 1 1 [.int .i64 (lb : Int)] rfl rfl (cell_one_new _ _ _) (by intro u hu; simp at hu; subst hu; rfl) (by unfold maxLen; omega) (by omega) (by rw [World.size_alloc]; omega) ?_; intro v' w4 hown4 hgrow4 hnil4 hloc4)
      have hX4 : Bx4 w4 w.heap.size (x, y, bh, lb) := (blk_loH (by omega) hown (by omega) hgrow4).trans HX2.out
      have HB4 := Lib.hid ((HB2.out.alloc (by omega) _).grown hgrow4 (by rw [World.size_alloc]; omega) (fun k e => by have := (hown.lt k e).1; omega))
      obtain ⟨b3, o3, cc3, hv3, k1, k2, k3, k4⟩ := (HRD.out.keep HB4.out).at hr2
      injection hv3 with e1 e2 e3
      injection e1 with e1
      injection e1 with e1 e4
      subst e1
      subst e4
      clear x1 x2 x3 x4 f1 f2 f3 f4 e2 e3 hr2
      obtain ⟨⟨x1, x2, x3, x4⟩, f1, f2, f3, f4⟩ := hX4.cells
      dsimp only at x1 x2 x3 x4 k1 k2 k3 k4
      have HX5 := Lib.hid (hX4.set (x', y', bh', lb'))
      have hz4 : w.heap.size + 1 ≤ w4.heap.size := by have := hgrow4.size; rw [World.size_alloc] at this; omega
      have HI4 := Lib.hid (show IntsAt w4 (w.heap.size + 1) v' (ls ++ [(lb : Int)]) by
        unfold IntsAt
        rw [intz_snoc, List.length_append, HM5.out]
        exact hown4)
      clear hX4 hown4 hown hgrow4 hnil4 hloc4
      go_wp2_with fail
      go_roundg q'
      case measure => omega
      case rel =>
        have e1 : w.heap.size < w.heap.size + 1 := by omega
        exact ⟨bh, x', y', bh', lb', p2, ls ++ [(lb : Int)], by omega, HK2, HP2, HL2, Lib.hid (ownsRow_setCell_below (ownsRow_setCell_below (ownsRow_setCell_below (ownsRow_setCell_below HI4.out e1 _) e1 _) e1 _) e1 _), HX5, Lib.hid ((((HB4.out.setCell (p := ⟨w.heap.size, 0, none⟩) (Nat.le_refl _) _).setCell (p := ⟨w.heap.size, 1, none⟩) (Nat.le_refl _) _).setCell (p := ⟨w.heap.size, 2, none⟩) (Nat.le_refl _) _).setCell (p := ⟨w.heap.size, 3, none⟩) (Nat.le_refl _) _), by rw [World.size_setCell, World.size_setCell, World.size_setCell, World.size_setCell]; exact hz4, by rw [List.length_append, HM5.out]; simp; omega⟩
end Go.Proofs.Ytbgfllohedhmaaa
