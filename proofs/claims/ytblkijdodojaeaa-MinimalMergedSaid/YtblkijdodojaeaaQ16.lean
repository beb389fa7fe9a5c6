/- What grooveref09.Deterministic and Out return. Condition: the edges can be read. What graph.leaving's function yields: the edges that leave a state, in order. Conditions: at most 1024 edges, numbers below 64, in order. The marks that ranges over functions within a plain loop leave among a frame's deferred calls: how a function returns behind them. No condition. -/
import Derived.Test.YtblkijdodojaeaaQ15
import Derived.Test.YtblkijdodojaeaaQ09
import Derived.Sort.QuietIn

namespace Go.Proofs.Ytblkijdodojaeaa
open Go.RowKit
set_option linter.unusedSimpArgs false
set_option linter.unusedVariables false

set_option maxRecDepth 100000 in
set_option maxHeartbeats 6400000 in
theorem rdeterministic_any (La S : Int) (es : List E3) (v : Value) (w : World) (hrd : EdgesRd w v es) (hn : es.length ≤ 9223372036854775807) :
    Calls Try.prog 41 #[grV La S v] w fun e w' => e = .returned (.tuple #[.bool (detR La S es).1, .int .i64 (detR La S es).2]) ∧ Below w.heap.size w w' := by
  have HV := Lib.hid (fun W h => rcheck_any La S es v W h hn)
  have HRD := Lib.hid hrd
  have K0 := Lib.hid (BoxG.new w La S v 24)
  obtain ⟨a, c, rfl⟩ := hrd.form
  clear hrd
  by_cases h0 : chkG La S es = 0
  · have H0 := Lib.hid h0
    have hlen := (chkG_zero h0).len
    have HE := Lib.hid (show detR La S es = (detE es, 0) by unfold detR; rw [if_pos h0])
    clear h0
    go_enter Try.func41, Try.ntmps41
    go_wp2_with (go_at_call 40; (with_reducible refine (HV.out _ (HRD.out.keep (below1 _ _))).mono ?_); rintro e0 W1 ⟨rfl, b1⟩; (rw [H0.out]); (have G1 := Lib.hid (K0.out.keep b1)); (have B1 := Lib.hid (below_more (below1 w _) (Nat.le_refl _) b1)); (clear b1); (obtain ⟨g1, g2, g3⟩ := id G1.out))
    go_loopg [4] es.length (fun q s4 wx => ∃ k j : Nat, s4 = .int .i64 (k : Int) ∧ Hid (k = j + 1) ∧ es.length - k ≤ q ∧ k ≤ es.length + 1 ∧ Hid (detE (es.drop j) = detE es) ∧ BoxG wx w.heap.size La S (.slice a es.length c) ∧ Below w.heap.size w wx)
    case atStart => exact ⟨1, 0, rfl, Lib.hid rfl, by omega, by omega, Lib.hid rfl, G1.out, B1.out⟩
    case round =>
      clear g1 g2 g3 G1 B1
      obtain ⟨k, j, rfl, Hkj, hq, hk1, HD, hG, hb⟩ := hrel
      obtain ⟨g1, g2, g3⟩ := id hG
      by_cases hlt : k < es.length
      · have hkj := Hkj.out
        obtain ⟨d, hd⟩ : ∃ d, es[j]? = some d := ⟨_, List.getElem?_eq_getElem (by omega)⟩
        obtain ⟨e, he⟩ : ∃ e, es[k]? = some e := ⟨_, List.getElem?_eq_getElem hlt⟩
        obtain ⟨b, off, c', hv, k1, k2, k3⟩ := (HRD.out.keep hb).at hd
        injection hv with e1 e2 e3
        subst e1
        subst e3
        obtain ⟨b2, off2, c2, hv, k4, k5, k6⟩ := (HRD.out.keep hb).at he
        injection hv with e1 e2 e3
        injection e1 with e1
        injection e1 with e1 e4
        subst e1
        subst e4
        have hdd := detE_drop hd (by rw [← hkj]; exact he)
        rw [← hkj] at hdd
        have hw : IntKind.i64.wrap ((k : Int) - 1) = (j : Int) := by rw [hkj, IntKind.wrap_i64]; omega
        have j1 : (k : Int) < (es.length : Int) := by omega
        have j2 : (j : Int) < (es.length : Int) := by omega
        obtain ⟨x, y, z⟩ := d
        obtain ⟨x', y', z'⟩ := e
        dsimp only at k1 k2 k3 k4 k5 k6 hdd
        obtain ⟨q, rfl⟩ : ∃ q, gk = q + 1 := ⟨gk - 1, by omega⟩
        have hm2 : es.length - (k + 1) ≤ q := by omega
        clear hd he hkj hq hlt e2 e3
        by_cases h1 : x' = x
        · have d1 : (x' == x) = true := by simpa using h1
          have d1' : decide (x' = x) = true := decide_eq_true h1
          by_cases h2 : y' = y
          · have HE2 := Lib.hid (show detE es = false by rw [← HD.out, hdd, h1, h2]; simp)
            have d2 : (y' == y) = true := by simpa using h2
            subst h1
            subst h2
            clear hdd HD
            go_upto_region 6 with fail
            go_quiet (fail)
            rename_i nq
            go_wp2_with fail
            exact bodyPost_ret (v := .tuple #[.bool false, .int .i64 0]) (by simp [results, Try.results41, go_sem]) rfl ⟨by rw [HE.out, HE2.out], below_drewM hb _⟩
          · have HD2 := Lib.hid (show detE (es.drop k) = detE es by rw [← HD.out, hdd]; have : ¬ y = y' := fun h => h2 h.symm; simp [this])
            have d2 : (y' == y) = false := by simpa using h2
            subst h1
            clear hdd HD h2
            go_upto_region 6 with fail
            go_quiet (fail)
            rename_i nq
            go_wp2_with fail
            go_roundg q
            case measure => omega
            case rel => exact ⟨k + 1, k, by go_num, Lib.hid rfl, hm2, by omega, HD2, hG, below_drewM hb _⟩
        · have HD2 := Lib.hid (show detE (es.drop k) = detE es by rw [← HD.out, hdd]; have : ¬ x = x' := fun h => h1 h.symm; simp [this])
          have d1 : (x' == x) = false := by simpa using h1
          clear hdd HD h1
          go_upto_region 6 with fail
          go_quiet (fail)
          rename_i nq
          go_wp2_with fail
          go_roundg q
          case measure => omega
          case rel => exact ⟨k + 1, k, by go_num, Lib.hid rfl, hm2, by omega, HD2, hG, below_drewM hb _⟩
      · have HE2 := Lib.hid (show detE es = true by rw [← HD.out]; exact detE_end (by have := Hkj.out; omega))
        have d1 : decide ((k : Int) < (es.length : Int)) = false := decide_eq_false (by omega)
        have d2 : decide (k < es.length) = false := decide_eq_false hlt
        clear HD hlt
        go_wp2_with fail
        exact bodyPost_ret (v := .tuple #[.bool true, .int .i64 0]) (by simp [results, Try.results41, go_sem]) rfl ⟨by rw [HE.out, HE2.out], hb⟩
  · have HE := Lib.hid (show detR La S es = (false, 1) by unfold detR; rw [if_neg h0])
    obtain ⟨z, hz⟩ : ∃ z, chkG La S es = z := ⟨_, rfl⟩
    simp only [hz] at HV
    rw [hz] at h0
    have d1 : (z != 0) = true := by simpa using h0
    clear h0 hz
    go_enter Try.func41, Try.ntmps41
    go_wp2_with (go_at_call 40; (with_reducible refine (HV.out _ (HRD.out.keep (below1 _ _))).mono ?_); rintro e0 W1 ⟨rfl, b1⟩; (have B1 := Lib.hid (below_more (below1 w _) (Nat.le_refl _) b1)); (clear b1))
    exact bodyPost_ret (v := .tuple #[.bool false, .int .i64 1]) (by simp [results, Try.results41, go_sem]) rfl ⟨by rw [HE.out], B1.out⟩
/-- What Out returns: the indices, the error. -/
def outR (La S : Int) (es : List E3) (s : Int) : List Int × Int := if chkG La S es = 0 then (if 0 ≤ s ∧ s < S then ((lvF es s 0).map (fun j : Nat => (j : Int)), 0) else ([], 25)) else ([], 1)
def IOut (w : World) (r : List Int × Int) (e : Ending) (w' : World) : Prop := ∃ u, e = .returned (.tuple #[u, .int .i64 r.2]) ∧ IntsAt w' w.heap.size u r.1 ∧ Below w.heap.size w w'
theorem lvF_take {es : List E3} {s : Int} {i : Nat} {e : E3} (h : es[i]? = some e) : lvF (es.take (i + 1)) s 0 = lvF (es.take i) s 0 ++ (if e.1 = s then [i] else []) := by
  have hi := (List.getElem?_eq_some_iff.1 h).1
  unfold lvF
  have e1 : (es.take (i + 1)).length = i + 1 := by rw [List.length_take]; omega
  have e2 : (es.take i).length = i := by rw [List.length_take]; omega
  rw [e1, e2, Nat.sub_zero, Nat.sub_zero, List.range'_concat, List.filter_append]
  have e3 : ∀ j, j < i → (es.take (i + 1))[j]! = (es.take i)[j]! := fun j hj => by
    rw [getElem!_def, getElem!_def, List.getElem?_take_of_lt (by omega), List.getElem?_take_of_lt hj]
  have e4 : (es.take (i + 1))[i]! = e := by rw [getElem!_def, List.getElem?_take_of_lt (by omega), h]
  congr 1
  · refine List.filter_congr (fun j hj => ?_)
    rw [List.mem_range'_1] at hj
    rw [e3 j (by omega)]
  · simp only [Nat.one_mul, Nat.zero_add]
    by_cases hs : e.1 = s
    · rw [if_pos hs, List.filter_cons_of_pos (by rw [e4]; simpa using hs)]; rfl
    · rw [if_neg hs, List.filter_cons_of_neg (by rw [e4]; simpa using hs)]; rfl
theorem lvF_len {es : List E3} {s : Int} : (lvF es s 0).length ≤ es.length := by
  unfold lvF
  refine Nat.le_trans (List.length_filter_le _ _) ?_
  rw [List.length_range', Nat.sub_zero]
  exact Nat.le_refl _
end Go.Proofs.Ytblkijdodojaeaa

namespace Go.Proofs.Ytblkijdodojaeaa
open Go.RowKit Go.Shelf
attribute [local go_sem] Oper.semAt_some
set_option linter.unusedSimpArgs false
set_option linter.unusedVariables false

theorem below_grown' {W W1 : World} (h : Below W.heap.size W W1) : W.grownBy W1 none := ⟨h.os, h.tape, h.output, h.size, fun k hk _ => h.block k hk⟩
/-- What a round keeps: what lay below n₀, and the two variables of leaving. -/
def KtG (n₀ B : Nat) (W W1 : World) : Prop := Below n₀ W W1 ∧ W1.heap[B]? = W.heap[B]? ∧ W1.heap[B + 1]? = W.heap[B + 1]?
theorem KtG.refl (n₀ B : Nat) (W : World) : KtG n₀ B W W := ⟨Below.refl _ _, rfl, rfl⟩
theorem KtG.trans {n₀ B : Nat} {X Y Z : World} (h : KtG n₀ B X Y) (k : KtG n₀ B Y Z) : KtG n₀ B X Z := ⟨h.1.trans k.1, k.2.1.trans h.2.1, k.2.2.trans h.2.2⟩
theorem KtG.of_below {n₀ B : Nat} {W W1 : World} (h : Below W.heap.size W W1) (h0 : n₀ ≤ W.heap.size) (h1 : B + 1 < W.heap.size) : KtG n₀ B W W1 := ⟨h.mono h0, h.block _ (by omega), h.block _ h1⟩
/-- An edge that leaves s, by its index. -/
abbrev Lv (es : List E3) (s : Int) : Type := { x : Nat // ∃ e, es[x]? = some e ∧ e.1 = s }
def natV : Value → Nat
  | .int _ z => z.toNat
  | _ => 0
set_option maxRecDepth 100000 in
set_option maxHeartbeats 3200000 in
theorem leaving1_in (n l B : Nat) (w0 : World) (La S s : Int) (v : Value) (es : List E3) (J Jx : List (Lv es s) → World → Prop) (hn : 1 ≤ n) (W : World) (hJ : AbidesFrom W.heap.size J)
    (hY : ∀ (pre : List (Lv es s)) (x : Lv es s) (W1 : World), J pre W1 → pre.length < es.length → YieldAt Fence.wide (n - 1) Try.prog l #[.int .i64 (x.1 : Int), edgV es[x.1]!] W1 fun e W' =>
      (e = .returned (.bool true) ∧ J (pre ++ [x]) W' ∧ KtG w0.heap.size B W1 W') ∨ (e = .returned (.bool false) ∧ Jx (pre ++ [x]) W'))
    (hrd : EdgesRd w0 v es) (hW0 : Below w0.heap.size w0 W) (hBn : B + 1 < W.heap.size) (hg : BoxG W B La S v) (hsB : W.cell? ⟨B + 1, 0, none⟩ = some (.int .i64 s)) (hlen : es.length ≤ 1024) (hs : 0 ≤ s ∧ s < 64)
    (hb : ∀ e ∈ es, 0 ≤ e.1 ∧ e.1 < 64) (ho : ∀ i j : Nat, i < j → ∀ e f, es[i]? = some e → es[j]? = some f → e.1 ≤ f.1) (h0 : J [] W) :
    CallsIn Fence.wide n Try.prog 65 #[.func (.yield l) #[] #[], .pointer (some ⟨B, 0, none⟩), .pointer (some ⟨B + 1, 0, none⟩)] W fun e W' => (∃ u, e = .returned u) ∧
      ((∃ ys : List (Lv es s), ys.map (·.1) = lvF es s 0 ∧ J ys W') ∨ (∃ pre, True ∧ Jx pre W')) := by
  have hmx : Try.prog.follows .mixedOrders = true := by kernel_rfl
  have HY := Lib.hid hY
  have HJ := Lib.hid hJ
  have HRD := Lib.hid hrd
  have HO := Lib.hid ho
  have HBS := Lib.hid (fun W h => bsearch_any es s v W h hlen hs hb ho)
  have HG := Lib.hid hg
  have HSB := Lib.hid hsB
  have HW0 := Lib.hid hW0
  obtain ⟨a, c, rfl⟩ := hrd.form
  obtain ⟨g1, g2, g3⟩ := id hg
  clear hY hJ hrd ho hb hg hW0
  refine callsIn_of_wp Try.func65 rfl trivial ?_ rfl
  simp only [Try.ntmps65, List.size_toArray, List.length_cons, List.length_nil, Nat.reduceAdd, Nat.reduceSub, Array.replicate_succ, Array.replicate_zero, List.push_toArray, List.append_toArray, List.nil_append, List.cons_append]
  gi_wp2_with (refine ⟨trivial, ?_⟩; gi_at_call 66; (with_reducible refine (callsIn_wide.2 (HBS.out _ (HRD.out.keep HW0.out))).mono ?_); rintro e W1 ⟨i0, bo, rfl, hil, hl1, hl2, b1⟩; (have HL1 := Lib.hid hl1); (have HL2 := Lib.hid hl2); (have hJ1 := HJ.out [] _ _ none h0 (below_grown' b1) (fun r e => by cases e)); (have B1 := Lib.hid (KtG.of_below (n₀ := w0.heap.size) (B := B) b1 HW0.out.size hBn)); (have SZ1 := b1.size); (clear hl1 hl2 b1))
  clear g1 g2 g3 hsB
  gi_loopw [6] (fun s6 wr => ∃ (i : Nat) (pre : List (Lv es s)), s6 = .int .i64 (i : Int) ∧ i0 ≤ i ∧ i ≤ es.length ∧ Hid (pre.map (·.1) ++ lvF es s i = lvF es s 0) ∧ J pre wr ∧ KtG w0.heap.size B W wr ∧ W.heap.size ≤ wr.heap.size) (fun s6 _ => es.length - natV s6)
  case atStart => exact ⟨i0, [], rfl, Nat.le_refl _, hil, Lib.hid (lvF_skip (fun j e hj he => by have := HL1.out j e hj he; omega) hil), hJ1, B1.out, SZ1⟩
  case round =>
    clear hJ1 B1 SZ1 h0
    obtain ⟨i, pre, rfl, hi0, hile, HE, hJs, hB, hsz⟩ := hrel
    have x0 : BoxG wr B La S (.slice a es.length c) := ⟨(World.cell?_of_block (a := ⟨B, 0, none⟩) hB.2.1).trans HG.out.1, (World.cell?_of_block (a := ⟨B, 1, none⟩) hB.2.1).trans HG.out.2.1, (World.cell?_of_block (a := ⟨B, 2, none⟩) hB.2.1).trans HG.out.2.2⟩
    have x1 : wr.cell? ⟨B + 1, 0, none⟩ = some (.int .i64 s) := (World.cell?_of_block (a := ⟨B + 1, 0, none⟩) hB.2.2).trans HSB.out
    have hw0 := HW0.out.trans hB.1
    obtain ⟨g1, g2, g3⟩ := id x0
    rcases Nat.lt_or_ge i es.length with hlt | hge
    · obtain ⟨e, he⟩ : ∃ e, es[i]? = some e := ⟨_, List.getElem?_eq_getElem hlt⟩
      obtain ⟨bb, off, c', hv, k1, k2, k3⟩ := (HRD.out.keep hw0).at he
      injection hv with e1 e2 e3
      subst e1
      subst e3
      have j1 : decide ((i : Int) < (es.length : Int)) = true := decide_eq_true (by omega)
      have j2 : decide (i < es.length) = true := decide_eq_true hlt
      have j3 : (i : Int) < (es.length : Int) := by omega
      have hin := HL2.out i e hi0 he
      have HEE := Lib.hid he
      by_cases hx : e.1 = s
      · have hbq : (e.1 == s) = true := by rw [hx]; exact beq_self_eq_true _
        have hxx : ∃ e, es[i]? = some e ∧ e.1 = s := ⟨e, he, hx⟩
        have hst := lvF_step (s := s) he
        rw [if_pos hx] at hst
        have HE2 := Lib.hid (show (pre ++ [(⟨i, hxx⟩ : Lv es s)]).map (·.1) ++ lvF es s (i + 1) = lvF es s 0 by rw [List.map_append, List.append_assoc, ← HE.out, hst]; rfl)
        have hplen : pre.length < es.length := by
          have h1 := congrArg List.length HE2.out
          have h2 : (lvF es s 0).length ≤ es.length := by unfold lvF; exact Nat.le_trans (List.length_filter_le _ _) (by rw [List.length_range']; omega)
          simp only [List.length_append, List.length_map, List.length_singleton] at h1
          omega
        have hee : es[i]! = e := by rw [getElem!_pos es i hlt]; exact (List.getElem?_eq_some_iff.1 he).2
        have HYD := Lib.hid (fun q => HY.out pre ⟨i, hxx⟩ (wr.drewN q) (HJ.out pre _ _ none hJs (below_grown' (below_drewM (Below.refl _ wr) q)) (fun r e => by cases e)) hplen)
        dsimp only at HYD
        rw [hee] at HYD
        have hlt2 := hlt
        clear hst hee hplen hin he hx hlt HE hJs e2
        obtain ⟨x, y, z⟩ := e
        dsimp only at k1 k2 k3 hbq
        gi_wp2
        gi_quiet (fail)
        rename_i nq
        obtain ⟨fn, tmps, assign, body, hy, hR⟩ := HYD.out nq
        gi_wp2
        refine hR.mono ?_
        rintro e W3 (⟨rfl, hJ3, hk3⟩ | ⟨rfl, hJx3⟩)
        · gi_wp2
          go_roundw
          case rel => exact ⟨i + 1, pre ++ [⟨i, hxx⟩], by go_num, by omega, hlt2, HE2, hJ3, hB.trans ((show KtG w0.heap.size B wr (wr.drewN nq) from ⟨below_drewM (Below.refl _ _) _, rfl, rfl⟩).trans hk3), Nat.le_trans hsz hk3.1.size⟩
          case measure => simp [natV]; omega
        · gi_wp2
          refine bodyPost_ret (results_none rfl _ _ _) rfl ?_
          exact ⟨⟨_, rfl⟩, .inr ⟨_, trivial, hJx3⟩⟩
      · have hbq : (e.1 == s) = false := by simpa using hx
        have HEN := Lib.hid (show lvF es s i = [] from lvF_end (fun j f hj hf => by
          rcases (show i < j ∨ i = j by omega) with h1 | rfl
          · have := HO.out i j h1 e f he hf
            omega
          · rw [he] at hf
            injection hf with hf
            subst hf
            exact hx))
        obtain ⟨x, y, z⟩ := e
        dsimp only at k1 k2 k3 hbq
        clear hx hin he e2
        gi_wp2
        gi_quiet (fail)
        gi_wp2
        go_end0
        exact ⟨⟨_, rfl⟩, .inl ⟨pre, by have := HE.out; rwa [HEN.out, List.append_nil] at this, HJ.out pre _ _ none hJs (below_grown' (below_drewM (Below.refl _ _) _)) (fun r e => by cases e)⟩⟩
    · have j1 : decide ((i : Int) < (es.length : Int)) = false := decide_eq_false (by omega)
      have j2 : decide (i < es.length) = false := decide_eq_false (by omega)
      have HEN := Lib.hid (show lvF es s i = [] from lvF_end (fun j f hj hf => absurd (List.getElem?_eq_some_iff.1 hf).1 (by omega)))
      gi_wp2
      gi_quiet (fail)
      gi_wp2
      go_end0
      exact ⟨⟨_, rfl⟩, .inl ⟨pre, by have := HE.out; rwa [HEN.out, List.append_nil] at this, HJ.out pre _ _ none hJs (below_grown' (below_drewM (Below.refl _ _) _)) (fun r e => by cases e)⟩⟩
/-- The contract of the iterator. -/
theorem leaving_stops (n B : Nat) (w0 w : World) (La S s : Int) (v : Value) (es : List E3) (hn : 1 ≤ n) (hrd : EdgesRd w0 v es) (hW0 : Below w0.heap.size w0 w) (hBn : B + 1 < w.heap.size) (hg : BoxG w B La S v) (hsB : w.cell? ⟨B + 1, 0, none⟩ = some (.int .i64 s)) (hlen : es.length ≤ 1024) (hs : 0 ≤ s ∧ s < 64)
    (hb : ∀ e ∈ es, 0 ≤ e.1 ∧ e.1 < 64) (ho : ∀ i j : Nat, i < j → ∀ e f, es[i]? = some e → es[j]? = some f → e.1 ≤ f.1) :
    SeqStopsK Fence.wide n Try.prog 65 #[.pointer (some ⟨B, 0, none⟩), .pointer (some ⟨B + 1, 0, none⟩)] (fun x : Lv es s => #[Value.int .i64 (x.1 : Int), edgV es[x.1]!]) (KtG w0.heap.size B) (fun ys => ys.map (·.1) = lvF es s 0) (fun _ => True) es.length w :=
  fun l J Jx W hW hJ hJx hY h0 => by
    have hs2 := hW.size
    exact leaving1_in n l B w0 La S s v es J Jx hn W hJ hY hrd (hW0.trans (hW.mono hW0.size)) (by omega) (hg.keep hW) (cell_keep hsB hW) hlen hs hb ho h0
end Go.Proofs.Ytblkijdodojaeaa

namespace Go.Proofs.Ytblkijdodojaeaa
open Go.RowKit
set_option linter.unusedVariables false

/-- Marks, each of a block of its own from B on, whose calls have not been taken. -/
def Marks (B : Nat) : List Deferred → World → Prop
  | [], _ => True
  | d :: ds, W => ∃ r, d.target = .collected r ∧ B ≤ r ∧ W.heap[r]? = some (.deferred (some [])) ∧ (∀ d' ∈ ds, d'.target ≠ .collected r) ∧ Marks B ds W
theorem Marks.of {B : Nat} {W W' : World} : ∀ {ds : List Deferred}, Marks B ds W → (∀ d ∈ ds, ∀ r, d.target = .collected r → W.heap[r]? = some (.deferred (some [])) → W'.heap[r]? = some (.deferred (some []))) → Marks B ds W'
  | [], _, _ => trivial
  | d :: ds, h, hk => by
    obtain ⟨r, h1, h2, h3, h4, h5⟩ := h
    exact ⟨r, h1, h2, hk d List.mem_cons_self r h1 h3, h4, Marks.of h5 (fun x hx => hk x (List.mem_cons_of_mem _ hx))⟩
theorem Marks.below {B : Nat} {ds : List Deferred} {W W' : World} (h : Marks B ds W) (hb : Below W.heap.size W W') : Marks B ds W' :=
  h.of (fun _ _ r _ hr => (hb.block r (Array.getElem?_eq_some_iff.1 hr).1).trans hr)
theorem Marks.lt {B : Nat} {W : World} : ∀ {ds : List Deferred}, Marks B ds W → ∀ d ∈ ds, ∀ r, d.target = .collected r → r < W.heap.size
  | [], _, _, hd, _, _ => by cases hd
  | d :: ds, h, x, hx, r, hr => by
    obtain ⟨r', h1, h2, h3, h4, h5⟩ := h
    rcases List.mem_cons.1 hx with rfl | hx
    · rw [h1] at hr
      injection hr with hr
      subst hr
      exact (Array.getElem?_eq_some_iff.1 h3).1
    · exact Marks.lt h5 x hx r hr
/-- A mark more, of a block that was not there. -/
theorem Marks.more {B D : Nat} {W W' : World} {ds : List Deferred} {a : Array Value} (h : Marks B ds W') (hl : ∀ d ∈ ds, ∀ r, d.target = .collected r → r < D) (hB : B ≤ D) (hD : W'.heap[D]? = some (.deferred (some []))) : Marks B ({ target := .collected D, args := a } :: ds) W' :=
  ⟨D, rfl, hB, hD, fun d hd e => by have := hl d hd D e; omega, h⟩
/-- A function returns behind its marks. -/
theorem marks_leave {F : Fence} {n : Nat} {P : Program} {fn : Func} {tmps : Array Value} {R : Ending → World → Prop} {B : Nat} (Q : World → Prop)
    (hput : ∀ W r, Q W → B ≤ r → W.heap[r]? = some (.deferred (some [])) → Q (W.putObj r (.deferred none)))
    (hend : ∀ W, Q W → ∃ v, (results fn tmps).run P W = .ok v W ∧ R (.returned v) W) :
    ∀ (ds : List Deferred) (W : World), Marks B ds W → Q W → LeavesInM F n P fn tmps R ds .returning W
  | [], W, _, hq => hend W hq
  | d :: ds, W, h, hq => by
    obtain ⟨r, h1, h2, h3, h4, h5⟩ := h
    refine ⟨by simp, .inl ⟨r, _, h1, run_takeDeferred h3, marks_leave Q hput hend ds _ (h5.of ?_) (hput W r hq h2 h3)⟩⟩
    intro d' hd' r' hr' h'
    have hne : r' ≠ r := fun e => h4 d' hd' (by rw [hr', e])
    rw [World.putObj_heap_other hne]
    exact h'
end Go.Proofs.Ytblkijdodojaeaa
