/- ComponentSinks: from each state a sink is reached (plain), and the walk. Condition: the edges can be read. -/
import Derived.Test.YtfkplnmhlpabaaaKq
import Derived.Test.YtfkplnmhlpabaaaKu
namespace Go.Proofs.Ytfkplnmhlpabaaa
open Go.RowKit Go.Shelf
set_option linter.unusedSimpArgs false
set_option linter.unusedVariables false

section
variable {L : Int} {n : Nat} {es : List E3}
/-- From each state a state is reached from which no other one is reached for good. -/
theorem last_of (h : ∀ e ∈ es, okE L (n : Int) e = true) : ∀ (k t : Nat), t < n → cntF n (rb es n t) ≤ k → ∃ t', t' < n ∧ Rc es (t : Int) (t' : Int) ∧ ∀ x : Nat, x < n → Rc es (t' : Int) (x : Int) → Rc es (x : Int) (t' : Int) := by
  intro k
  induction k with
  | zero =>
    intro t ht hk
    have h1 : t ∈ (List.range n).filter (rb es n t) := List.mem_filter.2 ⟨List.mem_range.2 ht, (rb_iff h ht ht).2 (Rc.refl _ _)⟩
    have := List.length_pos_of_mem h1
    unfold cntF at hk; omega
  | succ k ih =>
    intro t ht hk
    by_cases hx : ∀ x : Nat, x < n → Rc es (t : Int) (x : Int) → Rc es (x : Int) (t : Int)
    · exact ⟨t, ht, Rc.refl _ _, hx⟩
    · obtain ⟨x, hx⟩ := Classical.not_forall.1 hx
      obtain ⟨hxn, hx⟩ := Classical.not_imp.1 hx
      obtain ⟨h1, h2⟩ := Classical.not_imp.1 hx
      have hlt : cntF n (rb es n x) < cntF n (rb es n t) := by
        unfold cntF
        refine filter_less _ (fun y hy hg => ?_) ⟨t, List.mem_range.2 ht, ?_⟩
        · have hyn := List.mem_range.1 hy
          exact (rb_iff h ht hyn).2 (h1.trans ((rb_iff h hxn hyn).1 hg))
        · rw [(rb_iff h ht ht).2 (Rc.refl _ _)]
          intro hc
          exact h2 ((rb_iff h hxn ht).1 hc)
      obtain ⟨t', a1, a2, a3⟩ := ih x hxn (by omega)
      exact ⟨t', a1, h1.trans a2, a3⟩
theorem sink_of (h : ∀ e ∈ es, okE L (n : Int) e = true) {s : Nat} (hs : s < n) : ∃ c, c ∈ snks es n ∧ subB c (mems n (rb es n s)) = true := by
  obtain ⟨t, ht, h1, h2⟩ := last_of h _ s hs (Nat.le_refl _)
  obtain ⟨r, hr, hrt⟩ := rep_of h ht
  have hrn := (reps_lt hr).1
  obtain ⟨a, b⟩ := (compB_iff h hrn ht).1 hrt
  refine ⟨compF es n r, List.mem_filter.2 ⟨List.mem_map.2 ⟨r, hr, rfl⟩, ?_⟩, ?_⟩
  · cases hh : hasEd es (compF es n r) false with
    | false => rfl
    | true =>
      obtain ⟨e, he, h3⟩ := List.any_eq_true.1 hh
      rw [Bool.and_eq_true, decide_eq_true_iff] at h3
      obtain ⟨a1, a2, a3, a4⟩ := okE_st (h e he)
      obtain ⟨y, hy, hyn, y1, y2⟩ := (compF_mem h hrn).1 h3.1
      have hez : Rc es (y : Int) (e.2.2.toNat : Int) := by rw [← a4, ← hy]; exact Rc.edge he
      have q1 : Rc es (t : Int) (e.2.2.toNat : Int) := (b.trans y1).trans hez
      have q2 := h2 _ a2 q1
      have : e.2.2 ∈ compF es n r := (compF_mem h hrn).2 ⟨e.2.2.toNat, a4, a2, y1.trans hez, q2.trans b⟩
      rw [decide_eq_true this] at h3
      exact absurd h3.2 (by decide)
  · unfold subB
    cases hh : (compF es n r).any fun x => !decide (x ∈ mems n (rb es n s)) with
    | false => rfl
    | true =>
      obtain ⟨x, hx, h3⟩ := List.any_eq_true.1 hh
      obtain ⟨y, rfl, hyn, y1, y2⟩ := (compF_mem h hrn).1 hx
      have : (y : Int) ∈ mems n (rb es n s) := mems_iff.2 ⟨y, rfl, hyn, (rb_iff h hs hyn).2 ((h1.trans b).trans y1)⟩
      rw [decide_eq_true this] at h3
      cases h3
theorem snks_none (h : ∀ e ∈ es, okE L (n : Int) e = true) : (snks es n).length = 0 ↔ n = 0 := by
  constructor
  · intro h0
    refine Classical.byContradiction fun hn => ?_
    obtain ⟨c, hc, -⟩ := sink_of h (show 0 < n by omega)
    have := List.length_pos_of_mem hc
    omega
  · intro h0
    have h1 := comps_len es n
    have h2 : (snks es n).length ≤ (comps es n).length := List.length_filter_le _ _
    omega
theorem snks_in {c : List Int} (h : c ∈ snks es n) {e : E3} (he : e ∈ es) (h1 : e.1 ∈ c) : e.2.2 ∈ c := by
  have h2 := (List.mem_filter.1 h).2
  refine Classical.byContradiction fun hn => ?_
  have : hasEd es c false = true := List.any_eq_true.2 ⟨e, he, by rw [decide_eq_true h1, decide_eq_false hn]; rfl⟩
  rw [this] at h2; cases h2
theorem snks_row {c : List Int} (h : c ∈ snks es n) : c.length ≤ n := by
  obtain ⟨r, -, rfl⟩ := comps_mem (List.mem_filter.1 h).1
  exact compF_len _ _ _
end
set_option maxRecDepth 100000 in
set_option maxHeartbeats 6400000 in
theorem compSinks_any (L S : Int) (es : List E3) (v : Value) (w : World) (hrd : EdgesRd w v es) (hn : es.length ≤ 9223372036854775807) :
    Calls Try.prog 7 #[grV L S v] w fun e w' => e = .returned (.bool true) ∧ Below w.heap.size w w' := by
  have b1 := below1 w (.cells #[.int .i64 L, .int .i64 S, v] 24)
  have G1 := Lib.hid (BoxG.new w L S v 24)
  have HB := Lib.hid b1
  have HRD := Lib.hid hrd
  have HF := Lib.hid (fun W h => fineC_any L S es v W h hn)
  have HAW := Lib.hid (fun W => awake_any W)
  obtain ⟨x1, x2, x3⟩ := id G1.out
  cases hf : fineC L S es with
  | false =>
    rw [hf] at HF
    obtain ⟨a, c, rfl⟩ := hrd.form
    clear hrd b1 hf
    go_enter Try.func7, Try.ntmps7
    go_wp2_with (first
      | (go_at_call 30; (with_reducible refine (HF.out _ (HRD.out.keep HB.out)).mono ?_); rintro e W2 ⟨rfl, b2⟩; (have B2 := Lib.hid (below_more HB.out (Nat.le_refl _) b2)); clear b2 x1 x2 x3)
      | (go_at_call 13; (with_reducible refine (HAW.out _).mono ?_); rintro e W3 ⟨rfl, b3⟩; (have B3 := Lib.hid (below_more B2.out (Nat.le_refl _) b3)); clear b3))
    go_ret
    exact ⟨rfl, B3.out⟩
  | true =>
    rw [hf] at HF
    have h0 := fineC_true hf
    have hvg := chkG_zero h0
    have hs1 := hvg.s1
    have hs2 := hvg.s2
    have hlen := hvg.len
    obtain ⟨n, rfl⟩ : ∃ n : Nat, S = (n : Int) := ⟨S.toNat, by omega⟩
    have hn64 : n ≤ 64 := by omega
    have HSK := Lib.hid (fun W h => sinks_any L (n : Int) es v W h (by omega))
    have HRE := Lib.hid (show ∀ (s : Nat) (W : World), s < n → EdgesRd W v es → Calls Try.prog 23 #[grV L (n : Int) v, .int .i64 (s : Int)] W (IOutC W (mems n (rb es n s)) 0) from fun s W hs h => by
      have q := reach_any L (n : Int) (s : Int) es v W h (by omega)
      have q1 : reachR L (n : Int) es (s : Int) = mems n (rb es n s) := by unfold reachR; rw [if_pos h0, if_pos (by omega)]; rfl
      have q2 : reachE L (n : Int) es (s : Int) = 0 := by unfold reachE; rw [if_pos h0, if_pos (by omega)]
      rwa [q1, q2] at q)
    have e0 : errC L (n : Int) es = 0 := by unfold errC; rw [if_pos h0]
    have e1 : partsR L (n : Int) es (fun c => !hasEd es c false) = snks es n := by unfold partsR; rw [if_pos h0]; rfl
    rw [e0, e1] at HSK
    have HSI := Lib.hid (fun s (hs : s < n) => show (snks es n).any (fun c => subB c (mems n (rb es n s))) = true from by
      obtain ⟨c, h1, h2⟩ := sink_of hvg.ok hs
      exact List.any_eq_true.2 ⟨c, h1, h2⟩)
    have HIN := Lib.hid (fun c (h : c ∈ snks es n) e he h1 => snks_in (n := n) (es := es) (c := c) h (e := e) he h1)
    have HRL := Lib.hid (fun c (h : c ∈ snks es n) => show c.length ≤ 100000 from by have := snks_row h; omega)
    have HOK := Lib.hid hvg.ok
    have hz := snks_none hvg.ok
    have hkl : (snks es n).length ≤ 64 := Nat.le_trans (List.length_filter_le _ _) (Nat.le_trans (comps_len es n) hn64)
    obtain ⟨K, hK⟩ : ∃ K, snks es n = K := ⟨_, rfl⟩
    rw [hK] at HSK HSI HIN HRL hz hkl
    have HRC := Lib.hid (fun s (hs : s < n) W u vr (hu : IntsRd W u (mems n (rb es n s))) (hr : RowsRd W vr K) => (HSI.out s hs) ▸ rowC_any (w := W.alloc (.cells #[u] 34)) (p := W.heap.size) (u := u) vr K (hr.keep (below1 W _)) (by omega) HRL.out (by simp [go_sem]) (hu.keep (below1 W _)) (by have := mems_len n (rb es n s); omega))
    have d9 : ((K.length : Int) == 0) = ((n : Int) == 0) := by
      rw [Bool.eq_iff_iff, beq_iff_eq, beq_iff_eq]; omega
    obtain ⟨z, hzz⟩ : ∃ z, ((n : Int) == 0) = z := ⟨_, rfl⟩
    rw [hzz] at d9
    have hz2 : (z != z) = false := by simp
    obtain ⟨a, c, rfl⟩ := hrd.form
    clear hrd b1 h0 hvg hz e0 e1 hK HSI hf
    go_enter Try.func7, Try.ntmps7
    go_wp2_with (first
      | (go_at_call 30; (with_reducible refine (HF.out _ (HRD.out.keep HB.out)).mono ?_); rintro e W2 ⟨rfl, b2⟩; (have B2 := Lib.hid (below_more HB.out (Nat.le_refl _) b2)); (have G2 := Lib.hid (G1.out.keep b2)); clear b2 x1 x2 x3; (obtain ⟨x1, x2, x3⟩ := id G2.out))
      | (go_at_call 18; (with_reducible refine (HSK.out _ (HRD.out.keep B2.out)).mono ?_); rintro e W3 ⟨v3, rfl, r3, b3, -⟩; (have B3 := Lib.hid (below_more B2.out (Nat.le_refl _) b3)); (have G3 := Lib.hid (G2.out.keep b3)); (have R3 := Lib.hid r3); (obtain ⟨a3, c3, rfl⟩ := r3.form); clear b3 r3 x1 x2 x3; (obtain ⟨x1, x2, x3⟩ := id G3.out)))
    clear x1 x2 x3 d9 hz2 hzz HB B2 G1 G2 HF HSK
    go_loopg [35] K.length (fun q s35 wx => ∃ i : Nat, i + q = K.length ∧ s35 = .int .i64 (i : Int) ∧ Hid (Below w.heap.size w wx) ∧ Hid (BoxG wx w.heap.size L (n : Int) (.slice a es.length c)) ∧ Hid (RowsRd wx (.slice a3 K.length c3) K))
    case atStart => exact ⟨0, by omega, rfl, B3, G3, R3⟩
    case round =>
      clear B3 G3 R3
      obtain ⟨i, hin, rfl, HW, HG, HR⟩ := hrel
      obtain ⟨x1, x2, x3⟩ := id HG.out
      rcases gk with _ | q
      · obtain rfl : i = K.length := by omega
        go_wp2_with fail
        clear x1 x2 x3
        go_loopg [61] n (fun q s61 wx => ∃ s : Nat, s + q = n ∧ s61 = .int .i64 (s : Int) ∧ Hid (Below w.heap.size w wx) ∧ Hid (BoxG wx w.heap.size L (n : Int) (.slice a es.length c)) ∧ Hid (RowsRd wx (.slice a3 K.length c3) K))
        case atStart => exact ⟨0, by omega, rfl, HW, HG, HR⟩
        case round =>
          clear HW HG HR
          obtain ⟨s, hsn, rfl, HW, HG, HR⟩ := hrel
          rcases gk with _ | q
          · obtain rfl : s = n := by omega
            go_wp2_with (go_at_call 13; (with_reducible refine (HAW.out _).mono ?_); rintro e W5 ⟨rfl, b5⟩; (have B5 := Lib.hid (below_more HW.out (Nat.le_refl _) b5)); clear b5)
            go_ret
            exact ⟨rfl, B5.out⟩
          · have hs : s < n := by omega
            have HRS := Lib.hid (fun W h => HRE.out s W hs h)
            have HCS := Lib.hid (fun W u vr hu hr => HRC.out s hs W u vr hu hr)
            obtain ⟨x1, x2, x3⟩ := id HG.out
            have j1 : (s : Int) < (n : Int) := by omega
            go_wp2_with (first
              | (go_at_call 23; (with_reducible refine (HRS.out _ (HRD.out.keep HW.out)).mono ?_); rintro e W5 ⟨u5, rfl, i5, b5⟩; (obtain ⟨a5, c5, hu5⟩ := own_slice i5); (obtain ⟨m5, hm5⟩ : ∃ m5, (mems n (rb es n s)).length = m5 := ⟨_, rfl⟩); (rw [hm5] at hu5); (subst hu5); clear hm5; (have B5 := Lib.hid (below_more (below_more HW.out (Nat.le_refl _) b5) (Nat.le_refl _) (below1 W5 (.cells #[.slice a5 m5 c5] 34)))); (have G5 := Lib.hid ((HG.out.keep b5).keep (below1 W5 (.cells #[.slice a5 m5 c5] 34)))); (have R5 := Lib.hid ((HR.out.keep b5).keep (below1 W5 (.cells #[.slice a5 m5 c5] 34)))); (have C5 := Lib.hid (HCS.out W5 (.slice a5 m5 c5) _ i5.rd (HR.out.keep b5))); clear b5 i5 x1 x2 x3)
              | (go_at_call 39; (with_reducible refine C5.out.mono ?_); rintro e W6 ⟨rfl, hW6⟩; (rw [hW6]); clear hW6))
            go_roundg q
            case measure => omega
            case rel => exact ⟨s + 1, by omega, by go_num, B5, G5, R5⟩
      · obtain ⟨row, hrow⟩ : ∃ e, K[i]? = some e := ⟨_, List.getElem?_eq_getElem (by omega)⟩
        obtain ⟨b, off, c', u, hv, k1, r1⟩ := HR.out.at hrow
        injection hv with e1 e2 e3
        subst e1
        obtain ⟨au, cu, rfl⟩ := r1.form
        have HI := Lib.hid (fun e he h1 => HIN.out row (List.mem_of_getElem? hrow) e he h1)
        have hrl := HRL.out row (List.mem_of_getElem? hrow)
        have HI0 := Lib.hid r1
        obtain ⟨m, hm⟩ : ∃ m, row.length = m := ⟨_, rfl⟩
        have HM := Lib.hid hm
        rw [hm] at k1 hrl HI0
        have j1 : (i : Int) < (K.length : Int) := by omega
        clear hrow hm r1 e2 e3
        go_wp2_with fail
        clear x1 x2 x3 k1
        go_loopg [42] es.length (fun q2 s42 wy => ∃ k : Nat, k + q2 = es.length ∧ s42 = .int .i64 (k : Int) ∧ Hid (Below w.heap.size w wy) ∧ Hid (BoxG wy w.heap.size L (n : Int) (.slice a es.length c)) ∧ Hid (RowsRd wy (.slice (some ⟨b, off, none⟩) K.length c3) K) ∧ Hid (IntsRd wy (.slice au m cu) row))
        case atStart => exact ⟨0, by omega, rfl, HW, HG, HR, HI0⟩
        case round =>
          clear HW HG HR HI0
          obtain ⟨k, hk, rfl, HW2, HG2, HR2, HI2⟩ := hrel
          rcases gk with _ | q2
          · obtain rfl : k = es.length := by omega
            go_wp2_with fail
            go_roundg q
            case measure => omega
            case rel => exact ⟨i + 1, by omega, by go_num, HW2, HG2, HR2⟩
          · obtain ⟨e, he⟩ : ∃ e, es[k]? = some e := ⟨_, List.getElem?_eq_getElem (by omega)⟩
            have hem := List.mem_of_getElem? he
            obtain ⟨bb, off2, c2, hv, k1, k2, k3⟩ := (HRD.out.keep HW2.out).at he
            injection hv with q1 q2' q3
            subst q1
            have hi := HI.out e hem
            obtain ⟨x, y, z'⟩ := e
            dsimp only at hi k1 k2 k3
            have o1 := below1 wr (.cells #[.int .i64 x, .int .i64 y, .int .i64 z'] 46)
            have W5 := Lib.hid (below_more HW2.out (Nat.le_refl _) o1)
            have G5 := Lib.hid (HG2.out.keep o1)
            have R5 := Lib.hid (HR2.out.keep o1)
            have I5 := Lib.hid (HI2.out.keep o1)
            have HH := Lib.hid (fun x => has_any row x (.slice au m cu) _ I5.out (by rw [HM.out]; omega))
            obtain ⟨y1, y2, y3, -⟩ := Box3.new wr x y z' 46
            have j2 : (k : Int) < (es.length : Int) := by omega
            have H1 := Lib.hid (HH.out x)
            have H2 := Lib.hid (HH.out z')
            cases hd : decide (x ∈ row) with
            | false =>
              rw [hd] at H1
              clear hd hi he hem q2' q3 o1 HW2 HG2 HR2 HI2 HH
              go_wp2_with (go_at_call_of 32 x; (with_reducible refine H1.out.mono ?_); rintro e W7 ⟨rfl, hW7⟩; (rw [hW7]); clear hW7)
              go_roundg q2
              case measure => omega
              case rel => exact ⟨k + 1, by omega, by go_num, W5, G5, R5, I5⟩
            | true =>
              have hd2 : decide (z' ∈ row) = true := decide_eq_true (hi (of_decide_eq_true hd))
              rw [hd] at H1
              rw [hd2] at H2
              clear hd hd2 hi he hem q2' q3 o1 HW2 HG2 HR2 HI2 HH
              go_wp2_with (first
                | (go_at_call_of 32 x; (with_reducible refine H1.out.mono ?_); rintro e W7 ⟨rfl, hW7⟩; (rw [hW7]); clear hW7)
                | (go_at_call_of 32 z'; (with_reducible refine H2.out.mono ?_); rintro e W7 ⟨rfl, hW7⟩; (rw [hW7]); clear hW7))
              go_roundg q2
              case measure => omega
              case rel => exact ⟨k + 1, by omega, by go_num, W5, G5, R5, I5⟩
end Go.Proofs.Ytfkplnmhlpabaaa
