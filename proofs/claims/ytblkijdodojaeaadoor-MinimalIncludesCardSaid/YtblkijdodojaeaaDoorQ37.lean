/- Plain facts on steps in a deterministic graph. No condition. What minimal.Separate returns for a valid, deterministic graph and two of its states. Condition: the edges can be read. What grooveref09.Same returns. Condition: at most a million edges each. -/
import Derived.Test.YtblkijdodojaeaaDoorQ30
import Derived.Test.YtblkijdodojaeaaDoorQ20
import Derived.Test.YtblkijdodojaeaaDoorQ35
import Derived.Test.YtblkijdodojaeaaDoorQ08
import Derived.BigQuiet

namespace Go.Proofs.YtblkijdodojaeaaDoor
set_option linter.unusedVariables false

theorem detE_pwH : ∀ {es : List E3}, es.Pairwise (fun a b => ltE a b = true) → (detE es = true ↔ es.Pairwise (fun a b => ¬ (a.1 = b.1 ∧ a.2.1 = b.2.1)))
  | [], _ => by simp [detE]
  | [a], _ => by simp [detE]
  | a :: b :: r, h => by
    obtain ⟨h1, h2⟩ := List.pairwise_cons.1 h
    obtain ⟨h3, h4⟩ := List.pairwise_cons.1 h2
    have ih := detE_pwH h2
    rw [detE, Bool.and_eq_true, ih, List.pairwise_cons (a := a) (l := b :: r)]
    refine and_congr_left (fun hp => ?_)
    simp only [Bool.not_eq_true', Bool.and_eq_false_imp, beq_iff_eq, beq_eq_false_iff_ne]
    constructor
    · intro hab x hx hxx
      rcases List.mem_cons.1 hx with rfl | hx
      · exact hab hxx.1 hxx.2
      · have k1 := (ltE_iff _ _).1 (h1 b List.mem_cons_self)
        have k2 := (ltE_iff _ _).1 (h3 x hx)
        have e1 : a.1 = b.1 := by omega
        exact hab e1 (by omega)
    · intro hab h1 h2
      exact hab b List.mem_cons_self ⟨h1, h2⟩
theorem det_uqH {es : List E3} {La S : Int} (hvg : VG La S es) (hd : detE es = true) {e f : E3} (he : e ∈ es) (hf : f ∈ es) (h1 : e.1 = f.1) (h2 : e.2.1 = f.2.1) : e = f := by
  have hp := (detE_pwH hvg.asc).1 hd
  rw [List.pairwise_iff_getElem] at hp
  obtain ⟨i, hi, rfl⟩ := List.mem_iff_getElem.1 he
  obtain ⟨j, hj, rfl⟩ := List.mem_iff_getElem.1 hf
  rcases Nat.lt_trichotomy i j with h | h | h
  · exact absurd ⟨h1, h2⟩ (hp i j hi hj h)
  · subst h; rfl
  · exact absurd ⟨h1.symm, h2.symm⟩ (hp j i hj hi h)
/-- Where there is an edge with a label, the machine follows one. -/
theorem mT_hit {n j l : Nat} : ∀ {es : List E3}, (∃ e ∈ es, e.1 = (j : Int) ∧ e.2.1 = (l : Int)) → ∃ e ∈ es, e.1 = (j : Int) ∧ e.2.1 = (l : Int) ∧ e.2.2.toNat = mT n es j l := by
  intro es
  refine snocI (P := fun es => (∃ e ∈ es, e.1 = (j : Int) ∧ e.2.1 = (l : Int)) → ∃ e ∈ es, e.1 = (j : Int) ∧ e.2.1 = (l : Int) ∧ e.2.2.toNat = mT n es j l) (fun h => ?_) (fun es f ih h => ?_) es
  · obtain ⟨e, he, -⟩ := h
    cases he
  · rw [mT_snoc]
    by_cases hf : f.1 = (j : Int) ∧ f.2.1 = (l : Int)
    · rw [if_pos hf]
      exact ⟨f, by simp, hf.1, hf.2, rfl⟩
    · rw [if_neg hf]
      obtain ⟨e, he, h1, h2⟩ := h
      rw [List.mem_append, List.mem_singleton] at he
      rcases he with he | rfl
      · obtain ⟨e2, he2, h3⟩ := ih ⟨e, he, h1, h2⟩
        exact ⟨e2, List.mem_append_left _ he2, h3⟩
      · exact absurd ⟨h1, h2⟩ hf
theorem mT_miss {n j l : Nat} {es : List E3} (h : ¬ ∃ e ∈ es, e.1 = (j : Int) ∧ e.2.1 = (l : Int)) : mT n es j l = n :=
  mT_ind (P := fun x => x = n) rfl (fun e he h1 h2 => absurd ⟨e, he, h1, h2⟩ h)
/-- The set of a state, or none. -/
def setL (n x : Nat) : List Int := if x = n then [] else [(x : Int)]
theorem mems_one {f : Nat → Bool} {t : Nat} : ∀ {n : Nat}, t < n → f t = true → (∀ i, i ≠ t → f i = false) → mems n f = [(t : Int)]
  | 0, h, _, _ => absurd h (Nat.not_lt_zero _)
  | n + 1, h, h1, h2 => by
    rw [mems_succ]
    by_cases e : t = n
    · subst e
      have h0 : ∀ k, k ≤ t → mems k f = [] := fun k => by
        induction k with
        | zero => intro _; rfl
        | succ k ih => intro hk; rw [mems_succ, ih (by omega), h2 k (by omega)]; rfl
      rw [h0 t (Nat.le_refl _), if_pos h1]; rfl
    · rw [mems_one (by omega) h1 h2, h2 n (fun e2 => e e2.symm)]; rfl
theorem mems_none {f : Nat → Bool} : ∀ {n : Nat}, (∀ i, f i = false) → mems n f = []
  | 0, _ => rfl
  | n + 1, h => by rw [mems_succ, mems_none h, h n]; rfl
theorem setL_sg {n x : Nat} (h : x ≤ n) : SG (n : Int) (setL n x) := by
  unfold setL
  split
  · exact ⟨(fun s hs => by cases hs), List.Pairwise.nil⟩
  · exact ⟨(fun s hs => by rw [List.mem_singleton] at hs; omega), List.pairwise_singleton _ _⟩
theorem setL_len (n x : Nat) : (setL n x).length ≤ 1 := by unfold setL; split <;> simp
theorem setL_pos {n x : Nat} : 0 < (setL n x).length ↔ x ≠ n := by
  unfold setL
  split
  · rename_i h; simp [h]
  · rename_i h; simp [h]
theorem stepR_setL {La n : Nat} {es : List E3} (hvg : VG (La : Int) (n : Int) es) (hd : detE es = true) {x l : Nat} (hx : x ≤ n) (hl : l < La) : stepR (La : Int) (n : Int) es (setL n x) (l : Int) = (setL n (mT n es x l), 0) := by
  rw [stepR_good hvg.chk (setL_sg hx).chk ⟨by omega, by omega⟩, Int.toNat_natCast]
  congr 1
  by_cases h0 : x = n
  · subst h0
    rw [mT_none hvg.ok l]
    unfold setL
    rw [if_pos rfl]
    refine mems_none (fun t => ?_)
    unfold stepF
    rw [List.any_eq_false]
    intro e he
    simp
  · by_cases h1 : ∃ e ∈ es, e.1 = (x : Int) ∧ e.2.1 = (l : Int)
    · obtain ⟨e, he, e1, e2, e3⟩ := mT_hit (n := n) h1
      have hok := okE_iff.1 (hvg.ok e he)
      generalize mT n es x l = y at e3
      have hy : y < n := by omega
      have h5 : setL n y = [(y : Int)] := by unfold setL; rw [if_neg (by omega)]
      have h6 : setL n x = [(x : Int)] := by unfold setL; rw [if_neg h0]
      rw [h5, h6]
      refine mems_one hy ?_ (fun i hi => ?_)
      · unfold stepF
        rw [List.any_eq_true]
        exact ⟨e, he, by simp [e1, e2]; omega⟩
      · unfold stepF
        rw [List.any_eq_false]
        intro f hf h7
        simp only [Bool.and_eq_true, decide_eq_true_eq, beq_iff_eq, List.mem_singleton] at h7
        have h8 := det_uqH hvg hd he hf (e1.trans h7.1.1.symm) (e2.trans h7.1.2.symm)
        subst h8
        omega
    · rw [mT_miss h1]
      have h5 : setL n n = [] := by unfold setL; rw [if_pos rfl]
      have h6 : setL n x = [(x : Int)] := by unfold setL; rw [if_neg h0]
      rw [h5, h6]
      refine mems_none (fun t => ?_)
      unfold stepF
      rw [List.any_eq_false]
      intro f hf h7
      simp only [Bool.and_eq_true, decide_eq_true_eq, beq_iff_eq, List.mem_singleton] at h7
      exact h1 ⟨f, hf, h7.1.1, h7.1.2⟩
theorem mrun_le {m : Nat → Nat → Nat} {n : Nat} (hm : ∀ x l, x ≤ n → m x l ≤ n) : ∀ (w : List Nat) {s : Nat}, s ≤ n → mrun m s w ≤ n
  | [], _, h => h
  | l :: w, s, h => by rw [mrun_cons]; exact mrun_le hm w (hm s l h)
end Go.Proofs.YtblkijdodojaeaaDoor

namespace Go.Proofs.YtblkijdodojaeaaDoor
open Go.RowKit Go.Maps Go.Lib
set_option linter.unusedSimpArgs false
set_option linter.unusedVariables false

abbrev xorB : Bool → Bool → Bool := fun x y => x != y
set_option maxRecDepth 100000 in
set_option maxHeartbeats 3200000 in
theorem sep_yes (La n s t : Nat) (es : List E3) (v : Value) (w : World) (hrd : EdgesRd w v es) (hvg : VG (La : Int) (n : Int) es) (hd : detE es = true) (hs : s < n) (ht : t < n) :
    Calls Tryd.prog 38 #[grV (La : Int) (n : Int) v, .int .i64 (s : Int), .int .i64 (t : Int)] w fun e w' => ∃ g c u is, e = .returned (.tuple #[.slice g u.length c, .bool is, .int .i64 0]) ∧ IntsRd w' (.slice g u.length c) u ∧ FW (fun x y : Bool => x != y) (mT n es) (mT n es) n n La s t u is ∧ Below w.heap.size w w' := by
  have hn64 : n ≤ 64 := by have := hvg.s2; omega
  have hL256 : La ≤ 256 := by have := hvg.l2; omega
  have hl := hvg.len
  have HCD : Hid (∀ W, EdgesRd W v es → Calls Tryd.prog 74 #[grV (La : Int) (n : Int) v] W fun e W' => e = .returned (.int .i64 0) ∧ Below W.heap.size W W') := Lib.hid (fun W h => by
    refine (checkDet_any La n es v W h (by omega)).mono ?_
    rw [cdR_ok hvg hd]
    exact fun e W' h => h)
  have HMO := Lib.hid (fun W h => machineOf_any (La : Int) La n es v W h hvg.ok hn64 hL256 (by omega))
  have HFW := Lib.hid (fun M W h => firstWord_xo (mT n es) (mT n es) n n La s t (some ⟨M, 0, none⟩) (some ⟨M, 0, none⟩) (n + 1) (n + 1) W h h (fun x l _ => mT_le hvg.ok x l) (fun x l _ => mT_le hvg.ok x l) (fun l => mT_none hvg.ok l) (fun l => mT_none hvg.ok l) hn64 hn64 hL256 (by omega) (by omega))
  have HRD := Lib.hid hrd
  have B0 := Lib.hid (below1 w (.cells #[.int .i64 (La : Int), .int .i64 (n : Int), v] 24))
  have G0 := Lib.hid (BoxG.new w (La : Int) (n : Int) v 24)
  obtain ⟨x1, x2, x3⟩ := id G0.out
  have d1 : decide ((s : Int) < 0) = false := decide_eq_false (by omega)
  have d2 : decide ((n : Int) ≤ (s : Int)) = false := decide_eq_false (by omega)
  have d3 : decide ((t : Int) < 0) = false := decide_eq_false (by omega)
  have d4 : decide ((n : Int) ≤ (t : Int)) = false := decide_eq_false (by omega)
  have d5 : (s : Int) < (n : Int) := by omega
  have d6 : (t : Int) < (n : Int) := by omega
  obtain ⟨a, c, rfl⟩ := hrd.form
  clear hrd hvg hd
  go_enter Tryd.func38, Tryd.ntmps38
  go_wp2_with (first
    | (go_at_call 74; (with_reducible refine (HCD.out _ (HRD.out.keep B0.out)).mono ?_); rintro e W1 ⟨rfl, b1⟩; (have B1 := Lib.hid (below_more B0.out (Nat.le_refl _) b1)); (have G1 := Lib.hid (G0.out.keep b1)); clear b1 x1 x2 x3; (obtain ⟨x1, x2, x3⟩ := id G1.out))
    | (go_at_call 75; (with_reducible refine (HMO.out _ (HRD.out.keep B1.out)).mono ?_); rintro e W2 ⟨M, rfl, r2, b2⟩; (have B2 := Lib.hid (B1.out.trans (b2.mono B1.out.size))); (have R2 := Lib.hid r2); clear b2 r2 x1 x2 x3)
    | (go_at_call 76; (with_reducible refine (HFW.out _ _ R2.out).mono ?_); rintro e W3 ⟨g3, c3, u3, is3, rfl, i3, fw3, b3⟩; (have B3 := Lib.hid (B2.out.trans (b3.mono B2.out.size))); (have I3 := Lib.hid i3); (have FW3 := Lib.hid fw3); clear b3 i3 fw3))
  exact bodyPost_ret (v := .tuple #[.slice g3 u3.length c3, .bool is3, .int .i64 0]) (by simp [results, Tryd.results38, go_sem]) rfl ⟨g3, c3, u3, is3, rfl, I3.out, FW3.out, B3.out⟩
end Go.Proofs.YtblkijdodojaeaaDoor

namespace Go.Proofs.YtblkijdodojaeaaDoor
open Go.RowKit Go.Shelf
set_option linter.unusedSimpArgs false
set_option linter.unusedVariables false

theorem sameG_of {L S : Int} {es fs : List E3} : sameG L S es L S fs = decide (es = fs) := by
  unfold sameG
  rw [decide_eq_decide]
  exact ⟨fun h => h.2.2, fun h => ⟨rfl, rfl, h⟩⟩
set_option maxRecDepth 100000 in
set_option maxHeartbeats 3200000 in
theorem rsame_any (L S L' S' : Int) (es fs : List E3) (v1 v2 : Value) (w : World) (h1 : EdgesRd w v1 es) (h2 : EdgesRd w v2 fs) (hn : es.length ≤ 1000000) (hm : fs.length ≤ 1000000) :
    Calls Tryd.prog 21 #[grV L S v1, grV L' S' v2] w fun e w' => e = .returned (.bool (sameG L S es L' S' fs)) ∧ Below w.heap.size w w' := by
  have b0 := below_more (below1 w (.cells #[.int .i64 L, .int .i64 S, v1] 24)) (Nat.le_refl _) (below1 _ (.cells #[.int .i64 L', .int .i64 S', v2] 24))
  have HA := Lib.hid (h1.keep b0)
  have HB := Lib.hid (h2.keep b0)
  have B0 := Lib.hid b0
  have K1 := Lib.hid ((BoxG.new w L S v1 24).keep (below1 _ (.cells #[.int .i64 L', .int .i64 S', v2] 24)))
  have K2 := Lib.hid (BoxG.new (w.alloc (.cells #[.int .i64 L, .int .i64 S, v1] 24)) L' S' v2 24)
  obtain ⟨a1, c1, rfl⟩ := h1.form
  obtain ⟨a2, c2, rfl⟩ := h2.form
  clear h1 h2 b0
  by_cases hL : L = L'
  · subst hL
    by_cases hS : S = S'
    · subst hS
      by_cases hl : es.length = fs.length
      · have HE := Lib.hid (sameG_of (L := L) (S := S) (es := es) (fs := fs))
        obtain ⟨n, hn'⟩ : ∃ n, fs.length = n := ⟨_, rfl⟩
        have HN := Lib.hid hn'
        have HM := Lib.hid (hl.trans hn')
        rw [hn'] at hl hm HB K1 K2 B0 HA ⊢
        rw [hl] at hn HA HB K1 K2 B0 ⊢
        clear hl hn'
        obtain ⟨W0, hW0⟩ : ∃ W0, (w.alloc (.cells #[.int .i64 L, .int .i64 S, .slice a1 n c1] 24)).alloc (.cells #[.int .i64 L, .int .i64 S, .slice a2 n c2] 24) = W0 := ⟨_, rfl⟩
        rw [hW0] at HA HB K1 K2 B0
        rw [World.size_alloc] at K2
        obtain ⟨g1, g2, g3⟩ := id K1.out
        obtain ⟨g4, g5, g6⟩ := id K2.out
        have HW := Lib.hid hW0
        clear hW0
        go_enter Tryd.func21, Tryd.ntmps21
        go_wp2_with fail
        rw [HW.out]
        clear HW
        go_loopg [5] n (fun q s5 wx => ∃ (i nq : Nat), i + q = n ∧ s5 = .int .i64 (i : Int) ∧ wx = W0.drewN nq ∧ Hid (∀ j, j < i → es[j]? = fs[j]?))
        case atStart => exact ⟨0, 0, by omega, rfl, rfl, Lib.hid (fun j hj => by omega)⟩
        case round =>
          obtain ⟨i, nq, hiq, rfl, rfl, HQ⟩ := hrel
          rcases gk with _ | q
          · obtain rfl : i = n := by omega
            have HR := Lib.hid (show decide (es = fs) = true from decide_eq_true (List.ext_getElem? (fun j => by
              rcases Nat.lt_or_ge j i with h | h
              · exact HQ.out j h
              · rw [List.getElem?_eq_none (by have := HM.out; omega), List.getElem?_eq_none (by have := HN.out; omega)])))
            clear HQ
            go_wp2_with fail
            go_ret
            exact ⟨by rw [HE.out, HR.out]; rfl, below_drewM B0.out _⟩
          · obtain ⟨x, hx⟩ : ∃ x, es[i]? = some x := ⟨_, List.getElem?_eq_getElem (by have := HM.out; omega)⟩
            obtain ⟨y, hy⟩ : ∃ y, fs[i]? = some y := ⟨_, List.getElem?_eq_getElem (by have := HN.out; omega)⟩
            have HX := Lib.hid hx
            have HY := Lib.hid hy
            obtain ⟨b, off, c', hv, k1, k2, k3⟩ := HA.out.at hx
            injection hv with e1 e2 e3
            subst e1
            subst e3
            obtain ⟨b', off', c'', hv, k4, k5, k6⟩ := HB.out.at hy
            injection hv with e4 e5 e6
            subst e4
            subst e6
            obtain ⟨x1, x2, x3⟩ := x
            obtain ⟨y1, y2, y3⟩ := y
            dsimp only at k1 k2 k3 k4 k5 k6
            have hgd := fun (op : BinOp) (a b : Operand) (w : World) => neqE.2 op a b (x1, x2, x3) (y1, y2, y3) w
            have heq := fun (w : World) => neqE.1 (x1, x2, x3) (y1, y2, y3) w
            simp only [encE] at hgd heq
            have j1 : (i : Int) < (n : Int) := by omega
            have j1' : i < n := by omega
            clear hx hy e2 e5
            cases hq : eqE (x1, x2, x3) (y1, y2, y3) with
            | true =>
              rw [hq] at heq
              have HQ2 := Lib.hid (show ∀ j, j < i + 1 → es[j]? = fs[j]? from fun j hj => by
                rcases Nat.lt_or_ge j i with h | h
                · exact HQ.out j h
                · obtain rfl : j = i := by omega
                  rw [HX.out, HY.out, eqE_iff.1 hq])
              clear hq HQ HX HY
              go_upto_region 6 with fail
              go_quiet (fail)
              go_wp2_with fail
              go_roundg q
              case measure => omega
              case rel => exact ⟨i + 1, _, by omega, by go_num, rfl, HQ2⟩
            | false =>
              rw [hq] at heq
              have HR := Lib.hid (show decide (es = fs) = false from decide_eq_false (fun h => by
                have h1 := HX.out
                rw [h, HY.out] at h1
                injection h1 with h1
                rw [eqE_iff.2 h1.symm] at hq
                cases hq))
              clear hq HQ HX HY
              go_upto_region 6 with fail
              go_quiet (fail)
              go_wp2_with fail
              go_ret
              exact ⟨by rw [HE.out, HR.out]; rfl, below_drewM (below_drewM B0.out _) _⟩
      · have HE := Lib.hid (show sameG L S es L S fs = false from decide_eq_false (fun h => hl (by rw [h.2.2])))
        have d3 : ((es.length : Int) != (fs.length : Int)) = true := by simp; omega
        have d4 : (es.length != fs.length) = true := by simp; omega
        clear hl
        go_enter Tryd.func21, Tryd.ntmps21
        go_wp2_with fail
        go_ret
        exact ⟨by rw [HE.out]; rfl, B0.out⟩
    · have d2 : (S != S') = true := by simpa using hS
      have HE := Lib.hid (show sameG L S es L S' fs = false from decide_eq_false (fun h => hS h.2.1))
      clear hS
      go_enter Tryd.func21, Tryd.ntmps21
      go_wp2_with fail
      go_ret
      exact ⟨by rw [HE.out]; rfl, B0.out⟩
  · have d1 : (L != L') = true := by simpa using hL
    have HE := Lib.hid (show sameG L S es L' S' fs = false from decide_eq_false (fun h => hL h.1))
    clear hL
    go_enter Tryd.func21, Tryd.ntmps21
    go_wp2_with fail
    go_ret
    exact ⟨by rw [HE.out]; rfl, B0.out⟩
end Go.Proofs.YtblkijdodojaeaaDoor
