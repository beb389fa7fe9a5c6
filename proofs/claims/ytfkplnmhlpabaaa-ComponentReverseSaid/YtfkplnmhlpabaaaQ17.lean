/- ComponentKeeps: its function value, plain facts on the part of a graph on a component, and the walk. Condition: the edges can be read. Plain: edges sorted and each once (mkE), reversed edges (revE), and what slices.Compact makes of a list (ddE). No condition. Plain facts for ComponentReverse: the reversed graph has the same components, and the same period. No condition. -/
import Derived.Test.YtfkplnmhlpabaaaQ16
import Derived.Test.YtfkplnmhlpabaaaQ01
import Derived.Test.YtfkplnmhlpabaaaQ13

namespace Go.Proofs.Ytfkplnmhlpabaaa
open Go.RowKit Go.Shelf
set_option linter.unusedSimpArgs false
set_option linter.unusedVariables false

def bothB (a b : Int) (c : List Int) : Bool := decide (a ∈ c) && decide (b ∈ c)
section
variable {p : Nat} {x0 z0 : Int} {w : World}
set_option maxRecDepth 100000 in
theorem both_any (vc : Value) (cs : List Int) (hc : IntsRd w vc cs) (hcn : cs.length ≤ 100000) (h : w.cell? ⟨p, 0, none⟩ = some (.int .i64 x0)) (hl : w.cell? ⟨p, 2, none⟩ = some (.int .i64 z0)) :
    Calls Try.prog 41 #[vc, .pointer (some ⟨p, 0, none⟩)] w fun e w' => e = .returned (.bool (bothB x0 z0 cs)) ∧ w' = w := by
  have HC1 := Lib.hid (has_any cs x0 vc w hc (by omega))
  have HC2 := Lib.hid (has_any cs z0 vc w hc (by omega))
  obtain ⟨a, c, rfl⟩ := hc.form
  unfold bothB
  obtain ⟨d1, hd1⟩ : ∃ d1, decide (x0 ∈ cs) = d1 := ⟨_, rfl⟩
  obtain ⟨d2, hd2⟩ : ∃ d2, decide (z0 ∈ cs) = d2 := ⟨_, rfl⟩
  rw [hd1] at HC1 ⊢
  rw [hd2] at HC2 ⊢
  clear hd1 hd2 hc
  cases d1
  all_goals
    go_enter Try.func41, Try.ntmps41
    go_wp2_with (first
      | (go_at_call_of 32 x0; (with_reducible refine HC1.out.mono ?_); rintro e W1 ⟨rfl, rfl⟩)
      | (go_at_call_of 32 z0; (with_reducible refine HC2.out.mono ?_); rintro e W1 ⟨rfl, rfl⟩))
    go_ret
    exact ⟨rfl, rfl⟩
set_option maxRecDepth 100000 in
set_option maxHeartbeats 3200000 in
theorem rowI2_any (vc : Value) (cs : List (List Int)) (hc : RowsRd w vc cs) (hcn : cs.length ≤ 100000) (hrr : ∀ r ∈ cs, r.length ≤ 100000) (h : w.cell? ⟨p, 0, none⟩ = some (.int .i64 x0)) (hl : w.cell? ⟨p, 2, none⟩ = some (.int .i64 z0)) :
    Calls Try.prog 66 #[vc, .func (.func 41) #[] #[.pointer (some ⟨p, 0, none⟩)]] w fun e w' => (∃ k : Int, e = .returned (.int .i64 k) ∧ (0 ≤ k ↔ cs.any (fun c => bothB x0 z0 c) = true)) ∧ w' = w := by
  have HF := Lib.hid (fun vx x hx hxn => both_any (w := w) vx x hx hxn h hl)
  have HC := Lib.hid hc
  have HRR := Lib.hid hrr
  obtain ⟨a, c, rfl⟩ := hc.form
  clear h hl hc hrr
  go_enter Try.func66, Try.ntmps66
  go_wp2_with fail
  go_loopg [8] cs.length (fun q s8 wx => ∃ i : Nat, i + q = cs.length ∧ s8 = .int .i64 (i : Int) ∧ Hid ((cs.take i).any (fun x => bothB x0 z0 x) = false) ∧ wx = w)
  case atStart => exact ⟨0, by omega, rfl, Lib.hid rfl, rfl⟩
  case round =>
    obtain ⟨i, hin, rfl, HT, rfl⟩ := hrel
    rcases gk with _ | q
    · obtain rfl : i = cs.length := by omega
      have T := HT.out
      rw [List.take_length] at T
      have HT2 := Lib.hid T
      clear T HT
      go_wp2_with fail
      go_ret
      exact ⟨⟨_, rfl, by rw [HT2.out]; simp⟩, rfl⟩
    · obtain ⟨x, hx⟩ : ∃ e, cs[i]? = some e := ⟨_, List.getElem?_eq_getElem (by omega)⟩
      obtain ⟨b, off, c', ux, hv, k1, r1⟩ := HC.out.at hx
      injection hv with e1 e2 e3
      subst e1
      have HX := Lib.hid (HF.out ux x r1 (HRR.out x (List.mem_of_getElem? hx)))
      have HXX := Lib.hid hx
      obtain ⟨a2, c2, rfl⟩ := r1.form
      have j1 : (i : Int) < (cs.length : Int) := by omega
      clear hx e2 e3 r1
      cases hd : bothB x0 z0 x with
      | false =>
        rw [hd] at HX
        have HT3 := Lib.hid (any_take_succ HXX.out HT.out hd)
        clear hd
        go_wp2_with (go_at_call 41; (with_reducible refine HX.out.mono ?_); rintro e W1 ⟨rfl, rfl⟩)
        go_roundg q
        case measure => omega
        case rel => exact ⟨i + 1, by omega, by go_num, HT3, rfl⟩
      | true =>
        rw [hd] at HX
        have HT3 := Lib.hid (show cs.any (fun c => bothB x0 z0 c) = true from List.any_eq_true.2 ⟨x, List.mem_of_getElem? HXX.out, hd⟩)
        clear hd
        go_wp2_with (go_at_call 41; (with_reducible refine HX.out.mono ?_); rintro e W1 ⟨rfl, rfl⟩)
        go_ret
        exact ⟨⟨_, rfl, ⟨fun _ => HT3.out, fun _ => by omega⟩⟩, rfl⟩
set_option maxRecDepth 100000 in
theorem rowC2_any (vc : Value) (cs : List (List Int)) (hc : RowsRd w vc cs) (hcn : cs.length ≤ 100000) (hrr : ∀ r ∈ cs, r.length ≤ 100000) (h : w.cell? ⟨p, 0, none⟩ = some (.int .i64 x0)) (hl : w.cell? ⟨p, 2, none⟩ = some (.int .i64 z0)) :
    Calls Try.prog 39 #[vc, .func (.func 41) #[] #[.pointer (some ⟨p, 0, none⟩)]] w fun e w' => e = .returned (.bool (cs.any (fun c => bothB x0 z0 c))) ∧ w' = w := by
  have HI := Lib.hid (rowI2_any vc cs hc hcn hrr h hl)
  obtain ⟨a, c, rfl⟩ := hc.form
  clear h hl hc
  go_enter Try.func39, Try.ntmps39
  go_wp2_with (go_at_call 66; (with_reducible refine HI.out.mono ?_); rintro e W1 ⟨⟨k, rfl, hk⟩, rfl⟩; (have HK := Lib.hid hk); clear hk)
  go_ret
  refine ⟨?_, rfl⟩
  by_cases h0 : 0 ≤ k
  · rw [HK.out.1 h0, decide_eq_true h0]; rfl
  · rw [decide_eq_false h0]
    cases hs : cs.any (fun c => bothB x0 z0 c) with
    | false => rfl
    | true => exact absurd (HK.out.2 hs) h0
end
section
variable {L : Int} {n : Nat} {es : List E3}
theorem comp_sg (h : ∀ e ∈ es, okE L (n : Int) e = true) {r : Nat} (hr : r < n) : SG (n : Int) (compF es n r) := by
  refine ⟨fun s hs => ?_, compF_asc _ _ _⟩
  obtain ⟨t, rfl, ht, -⟩ := (compF_mem h hr).1 hs
  omega
theorem part_path (h : ∀ e ∈ es, okE L (n : Int) e = true) {r : Nat} (hr : r < n) {x : Int} (hx : x ∈ compF es n r) {k : Nat} {z : Int} (hp : Pth es x k z) (hb : Rc es z x) :
    z ∈ compF es n r ∧ Pth (partE (compF es n r) es) ((compF es n r).idxOf x : Int) k ((compF es n r).idxOf z : Int) := by
  induction hp with
  | nil => exact ⟨hx, .nil⟩
  | step h1 he ih =>
    rename_i k e
    obtain ⟨a, b⟩ := ih ((Rc.edge he).trans hb)
    obtain ⟨a1, a2, a3, a4⟩ := okE_st (h e he)
    obtain ⟨t, rfl, ht, t1, t2⟩ := (compF_mem h hr).1 hx
    have hz : e.2.2 ∈ compF es n r := (compF_mem h hr).2 ⟨e.2.2.toNat, a4, a2, by rw [← a4]; exact t1.trans ((show Rc es (t : Int) e.1 from ⟨_, h1⟩).trans (Rc.edge he)), by rw [← a4]; exact hb.trans t2⟩
    exact ⟨hz, .step (e := (((compF es n r).idxOf e.1 : Int), e.2.1, ((compF es n r).idxOf e.2.2 : Int))) b (partE_mem.2 ⟨e, he, ⟨a, hz⟩, rfl⟩)⟩
theorem part_irr (hv : VG L (n : Int) es) {c : List Int} (hc : c ∈ cycs es n) : chkS (n : Int) none c = 0 ∧ chkG L (c.length : Int) (partE c es) = 0 ∧ irrR L (c.length : Int) (partE c es) = true ∧ c.length ≤ n := by
  have h := hv.ok
  obtain ⟨r, hr, rfl⟩ := comps_mem (List.mem_filter.1 hc).1
  have hrn := (reps_lt hr).1
  have hsg := comp_sg h hrn
  have hvp := part_vg hv hsg
  have hed := (List.mem_filter.1 hc).2
  refine ⟨hsg.chk, hvp.chk, ?_, compF_len _ _ _⟩
  unfold irrR
  rw [if_pos hvp.chk, Int.toNat_natCast]
  refine (irr_iff hvp.ok).2 ⟨?_, fun s t hs ht => ?_⟩
  · obtain ⟨e, he, h3⟩ := List.any_eq_true.1 hed
    rw [Bool.and_eq_true, decide_eq_true_iff, beq_iff_eq, decide_eq_true_iff] at h3
    intro h0
    have : (((compF es n r).idxOf e.1 : Int), e.2.1, ((compF es n r).idxOf e.2.2 : Int)) ∈ partE (compF es n r) es := partE_mem.2 ⟨e, he, h3, rfl⟩
    rw [h0] at this; cases this
  · have q1 := List.getElem?_eq_getElem hs
    have q2 := List.getElem?_eq_getElem ht
    have m1 := List.mem_of_getElem? q1
    have m2 := List.mem_of_getElem? q2
    have i1 := idx_of hsg.asc q1
    have i2 := idx_of hsg.asc q2
    obtain ⟨x, hx, hxn, x1, x2⟩ := (compF_mem h hrn).1 m1
    obtain ⟨y, hy, hyn, y1, y2⟩ := (compF_mem h hrn).1 m2
    rw [← i1, ← i2, hx, hy] 
    rw [hx] at m1
    obtain ⟨k, hk⟩ := x2.trans y1
    exact ⟨k, (part_path h hrn m1 hk (y2.trans x1)).2⟩
theorem keep_edge (h : ∀ e ∈ es, okE L (n : Int) e = true) {e : E3} (he : e ∈ es) : (cycs es n).any (fun c => bothB e.1 e.2.2 c) = decide (e.1 ∈ mems n (rb es n e.2.2.toNat)) := by
  obtain ⟨a1, a2, a3, a4⟩ := okE_st (h e he)
  rw [Bool.eq_iff_iff, decide_eq_true_iff, List.any_eq_true]
  constructor
  · rintro ⟨c, hc, h1⟩
    unfold bothB at h1
    rw [Bool.and_eq_true, decide_eq_true_iff, decide_eq_true_iff] at h1
    obtain ⟨r, hr, rfl⟩ := comps_mem (List.mem_filter.1 hc).1
    have hrn := (reps_lt hr).1
    obtain ⟨x, hx, hxn, x1, x2⟩ := (compF_mem h hrn).1 h1.1
    obtain ⟨y, hy, hyn, y1, y2⟩ := (compF_mem h hrn).1 h1.2
    exact mems_iff.2 ⟨x, hx, hxn, (rb_iff h a2 hxn).2 (by rw [← a4, hy]; exact y2.trans x1)⟩
  · intro hm
    obtain ⟨x, hx, hxn, h1⟩ := mems_iff.1 hm
    have h2 := (rb_iff h a2 hxn).1 h1
    obtain ⟨r, hr, hrx⟩ := rep_of h hxn
    have hrn := (reps_lt hr).1
    obtain ⟨b1, b2⟩ := (compB_iff h hrn hxn).1 hrx
    have hed : Rc es (x : Int) (e.2.2.toNat : Int) := by rw [← a4, ← hx]; exact Rc.edge he
    have m1 : e.1 ∈ compF es n r := (compF_mem h hrn).2 ⟨x, hx, hxn, b1, b2⟩
    have m2 : e.2.2 ∈ compF es n r := (compF_mem h hrn).2 ⟨e.2.2.toNat, a4, a2, b1.trans hed, h2.trans b2⟩
    refine ⟨compF es n r, List.mem_filter.2 ⟨List.mem_map.2 ⟨r, hr, rfl⟩, List.any_eq_true.2 ⟨e, he, ?_⟩⟩, ?_⟩
    · rw [decide_eq_true m1, decide_eq_true m2]; rfl
    · unfold bothB; rw [decide_eq_true m1, decide_eq_true m2]; rfl
end
set_option maxRecDepth 100000 in
set_option maxHeartbeats 6400000 in
theorem compKeeps_any (L S : Int) (es : List E3) (v : Value) (w : World) (hrd : EdgesRd w v es) (hn : es.length ≤ 9223372036854775807) :
    Calls Try.prog 8 #[grV L S v] w fun e w' => e = .returned (.bool true) ∧ Below w.heap.size w w' := by
  have b1 := below1 w (.cells #[.int .i64 L, .int .i64 S, v] 24)
  have G1 := Lib.hid (BoxG.new w L S v 24)
  have HB := Lib.hid b1
  have HRD := Lib.hid hrd
  have HF := Lib.hid (fun W h => fineC_any L S es v W h hn)
  have HAW := Lib.hid (fun W => awake_any W)
  obtain ⟨x1, x2, x3⟩ := id G1.out
  cases hf : fineC L S es with
  | false =>
    rw [hf] at HF
    obtain ⟨a, c, rfl⟩ := hrd.form
    clear hrd b1 hf
    go_enter Try.func8, Try.ntmps8
    go_wp2_with (first
      | (go_at_call 30; (with_reducible refine (HF.out _ (HRD.out.keep HB.out)).mono ?_); rintro e W2 ⟨rfl, b2⟩; (have B2 := Lib.hid (below_more HB.out (Nat.le_refl _) b2)); clear b2 x1 x2 x3)
      | (go_at_call 13; (with_reducible refine (HAW.out _).mono ?_); rintro e W3 ⟨rfl, b3⟩; (have B3 := Lib.hid (below_more B2.out (Nat.le_refl _) b3)); clear b3))
    go_ret
    exact ⟨rfl, B3.out⟩
  | true =>
    rw [hf] at HF
    have h0 := fineC_true hf
    have hvg := chkG_zero h0
    have hs1 := hvg.s1
    have hs2 := hvg.s2
    have hlen := hvg.len
    obtain ⟨n, rfl⟩ : ∃ n : Nat, S = (n : Int) := ⟨S.toNat, by omega⟩
    have hn64 : n ≤ 64 := by omega
    have HCY := Lib.hid (fun W h => cyclic_any L (n : Int) es v W h (by omega))
    have HRE := Lib.hid (show ∀ (s : Nat) (W : World), s < n → EdgesRd W v es → Calls Try.prog 23 #[grV L (n : Int) v, .int .i64 (s : Int)] W (IOutC W (mems n (rb es n s)) 0) from fun s W hs h => by
      have q := reach_any L (n : Int) (s : Int) es v W h (by omega)
      have q1 : reachR L (n : Int) es (s : Int) = mems n (rb es n s) := by unfold reachR; rw [if_pos h0, if_pos (by omega)]; rfl
      have q2 : reachE L (n : Int) es (s : Int) = 0 := by unfold reachE; rw [if_pos h0, if_pos (by omega)]
      rwa [q1, q2] at q)
    have e0 : errC L (n : Int) es = 0 := by unfold errC; rw [if_pos h0]
    have e1 : partsR L (n : Int) es (fun c => hasEd es c true) = cycs es n := by unfold partsR; rw [if_pos h0]; rfl
    rw [e0, e1] at HCY
    have HKE := Lib.hid (show ∀ (c : List Int), c ∈ cycs es n → ∀ (W : World) (u : Value), EdgesRd W v es → IntsRd W u c → Calls Try.prog 40 #[grV L (n : Int) v, u] W fun e w' => ∃ v', e = .returned (.tuple #[grV L (c.length : Int) v', .int .i64 0]) ∧ EdgesRd w' v' (partE c es) ∧ Below W.heap.size W w' from fun c hc W u hW hu => by
      obtain ⟨p1, p2, p3, p4⟩ := part_irr hvg hc
      have q := keep_any L (n : Int) es v u c W hW (by omega) hu (by omega)
      have q1 : keepR L (n : Int) es c = (L, (c.length : Int), partE c es, 0) := by unfold keepR; rw [if_pos h0, if_pos p1]
      rw [q1] at q
      exact q.mono fun e w' ⟨v', a1, a2, a3⟩ => ⟨v', a1, a2.rd, a3⟩)
    have HIR := Lib.hid (show ∀ (c : List Int), c ∈ cycs es n → ∀ (W : World) (v' : Value), EdgesRd W v' (partE c es) → Calls Try.prog 20 #[grV L (c.length : Int) v'] W fun e w' => e = .returned (.tuple #[.bool true, .int .i64 0]) ∧ Below W.heap.size W w' from fun c hc W v' hW => by
      obtain ⟨p1, p2, p3, p4⟩ := part_irr hvg hc
      have hl := (chkG_zero p2).len
      have q := irreducible_any L (c.length : Int) (partE c es) v' W hW (by omega)
      have q1 : errC L (c.length : Int) (partE c es) = 0 := by unfold errC; rw [if_pos p2]
      rwa [p3, q1] at q)
    have HED := Lib.hid (fun e (he : e ∈ es) => keep_edge (n := n) hvg.ok he)
    have HRL := Lib.hid (fun c (h : c ∈ cycs es n) => show c.length ≤ 100000 from by have := (part_irr hvg h).2.2.2; omega)
    have HOK := Lib.hid (fun e (he : e ∈ es) => okE_st (hvg.ok e he))
    have hkl : (cycs es n).length ≤ 64 := Nat.le_trans (List.length_filter_le _ _) (Nat.le_trans (comps_len es n) hn64)
    obtain ⟨K, hK⟩ : ∃ K, cycs es n = K := ⟨_, rfl⟩
    rw [hK] at HCY HKE HIR HED HRL hkl
    have hneq : ∀ z : Bool, (z != z) = false := fun z => by cases z <;> rfl
    obtain ⟨a, c, rfl⟩ := hrd.form
    clear hrd b1 h0 hvg e0 e1 hK hf
    go_enter Try.func8, Try.ntmps8
    go_wp2_with (first
      | (go_at_call 30; (with_reducible refine (HF.out _ (HRD.out.keep HB.out)).mono ?_); rintro e W2 ⟨rfl, b2⟩; (have B2 := Lib.hid (below_more HB.out (Nat.le_refl _) b2)); (have G2 := Lib.hid (G1.out.keep b2)); clear b2 x1 x2 x3; (obtain ⟨x1, x2, x3⟩ := id G2.out))
      | (go_at_call 16; (with_reducible refine (HCY.out _ (HRD.out.keep B2.out)).mono ?_); rintro e W3 ⟨v3, rfl, r3, b3, -⟩; (have B3 := Lib.hid (below_more B2.out (Nat.le_refl _) b3)); (have G3 := Lib.hid (G2.out.keep b3)); (have R3 := Lib.hid r3); (obtain ⟨a3, c3, rfl⟩ := r3.form); clear b3 r3 x1 x2 x3; (obtain ⟨x1, x2, x3⟩ := id G3.out)))
    clear x1 x2 x3 HB B2 G1 G2 HF HCY
    go_loopg [29] K.length (fun q s29 wx => ∃ i : Nat, i + q = K.length ∧ s29 = .int .i64 (i : Int) ∧ Hid (Below w.heap.size w wx) ∧ Hid (BoxG wx w.heap.size L (n : Int) (.slice a es.length c)) ∧ Hid (RowsRd wx (.slice a3 K.length c3) K))
    case atStart => exact ⟨0, by omega, rfl, B3, G3, R3⟩
    case round =>
      clear B3 G3 R3
      obtain ⟨i, hin, rfl, HW, HG, HR⟩ := hrel
      obtain ⟨x1, x2, x3⟩ := id HG.out
      rcases gk with _ | q
      · obtain rfl : i = K.length := by omega
        go_wp2_with fail
        clear x1 x2 x3
        go_loopg [58] es.length (fun q2 s58 wy => ∃ k : Nat, k + q2 = es.length ∧ s58 = .int .i64 (k : Int) ∧ Hid (Below w.heap.size w wy) ∧ Hid (BoxG wy w.heap.size L (n : Int) (.slice a es.length c)) ∧ Hid (RowsRd wy (.slice a3 K.length c3) K))
        case atStart => exact ⟨0, by omega, rfl, HW, HG, HR⟩
        case round =>
          clear HW HG HR
          obtain ⟨k, hk, rfl, HW, HG, HR⟩ := hrel
          rcases gk with _ | q
          · obtain rfl : k = es.length := by omega
            go_wp2_with (go_at_call 13; (with_reducible refine (HAW.out _).mono ?_); rintro e W5 ⟨rfl, b5⟩; (have B5 := Lib.hid (below_more HW.out (Nat.le_refl _) b5)); clear b5)
            go_ret
            exact ⟨rfl, B5.out⟩
          · obtain ⟨e, he⟩ : ∃ e, es[k]? = some e := ⟨_, List.getElem?_eq_getElem (by omega)⟩
            have hem := List.mem_of_getElem? he
            obtain ⟨bb, off2, c2, hv, k1, k2, k3⟩ := (HRD.out.keep HW.out).at he
            injection hv with q1 q2' q3
            subst q1
            have hed := HED.out e hem
            obtain ⟨a1, a2, a3', a4⟩ := HOK.out e hem
            obtain ⟨x, y, z⟩ := e
            dsimp only at hed k1 k2 k3 a1 a2 a3' a4
            obtain ⟨s, hs⟩ : ∃ s, z.toNat = s := ⟨_, rfl⟩
            rw [hs] at hed a2 a4
            subst a4
            have o1 := below1 wr (.cells #[.int .i64 x, .int .i64 y, .int .i64 (s : Int)] 46)
            have B5 := Lib.hid (below_more HW.out (Nat.le_refl _) o1)
            have G5 := Lib.hid (HG.out.keep o1)
            have R5 := Lib.hid (HR.out.keep o1)
            obtain ⟨y1, y2, y3, -⟩ := Box3.new wr x y (s : Int) 46
            have Y1 := Lib.hid y1
            have Y3 := Lib.hid y3
            obtain ⟨x1, x2, x3⟩ := id G5.out
            have HRS := Lib.hid (fun W h => HRE.out s W a2 h)
            have HML := Lib.hid (show (mems n (rb es n s)).length ≤ 100000 by have := mems_len n (rb es n s); omega)
            obtain ⟨M, hM⟩ : ∃ M, mems n (rb es n s) = M := ⟨_, rfl⟩
            rw [hM] at HRS HML hed
            obtain ⟨d, hd⟩ : ∃ d, decide (x ∈ M) = d := ⟨_, rfl⟩
            rw [hd] at hed
            have HD := Lib.hid hd
            have HE := Lib.hid hed
            have dd := hneq d
            have j1 : (k : Int) < (es.length : Int) := by omega
            clear hd hed hM he hem q2' q3 o1 HW HG HR hs a3' a1
            go_wp2_with (first
              | (go_at_call 23; (with_reducible refine (HRS.out _ (HRD.out.keep B5.out)).mono ?_); rintro e W6 ⟨u6, rfl, i6, b6⟩; (have B6 := Lib.hid (below_more B5.out (Nat.le_refl _) b6)); (have G6 := Lib.hid (G5.out.keep b6)); (have R6 := Lib.hid (R5.out.keep b6)); (have C6 := Lib.hid (HE.out ▸ rowC2_any _ K R6.out (by omega) HRL.out (cell_keep Y1.out b6) (cell_keep Y3.out b6))); (have I6 := Lib.hid (HD.out ▸ has_any M x u6 W6 i6.rd (by have := HML.out; omega))); (obtain ⟨a6, c6, hu6⟩ := own_slice i6); (obtain ⟨m6, hm6⟩ : ∃ m, M.length = m := ⟨_, rfl⟩); (rw [hm6] at hu6); (subst hu6); clear x1 x2 x3 y1 y2 y3; (obtain ⟨x1, x2, x3⟩ := id G6.out); (have y1 := cell_keep Y1.out b6); clear i6 b6 hm6)
              | (go_at_call 39; (with_reducible refine C6.out.mono ?_); rintro e W7 ⟨rfl, hW7⟩; (rw [hW7]); clear hW7)
              | (go_at_call 32; (with_reducible refine I6.out.mono ?_); rintro e W8 ⟨rfl, hW8⟩; (rw [hW8]); clear hW8))
            go_roundg q
            case measure => omega
            case rel => exact ⟨k + 1, by omega, by go_num, B6, G6, R6⟩
      · obtain ⟨row, hrow⟩ : ∃ e, K[i]? = some e := ⟨_, List.getElem?_eq_getElem (by omega)⟩
        obtain ⟨b, off, c', u, hv, k1, r1⟩ := HR.out.at hrow
        injection hv with e1 e2 e3
        subst e1
        obtain ⟨au, cu, rfl⟩ := r1.form
        have hmem := List.mem_of_getElem? hrow
        have HI0 := Lib.hid r1
        have HK1 := Lib.hid (fun W u h1 h2 => HKE.out row hmem W u h1 h2)
        have HI1 := Lib.hid (fun W v' h1 => HIR.out row hmem W v' h1)
        obtain ⟨P, hP⟩ : ∃ P, partE row es = P := ⟨_, rfl⟩
        obtain ⟨m, hm⟩ : ∃ m, row.length = m := ⟨_, rfl⟩
        rw [hm, hP] at HK1 HI1
        rw [hm] at k1 HI0
        have j1 : (i : Int) < (K.length : Int) := by omega
        clear hrow hm r1 e2 e3 hP hmem
        go_wp2_with (first
          | (go_at_call 40; (with_reducible refine (HK1.out _ _ (HRD.out.keep HW.out) HI0.out).mono ?_); rintro e W5 ⟨v5, rfl, r5, b5⟩; (obtain ⟨a5, c5, rfl⟩ := r5.form); (have o5 := below1 W5 (.cells #[.int .i64 L, .int .i64 (m : Int), .slice a5 P.length c5] 24)); (have B5 := Lib.hid (below_more (below_more HW.out (Nat.le_refl _) b5) (Nat.le_refl _) o5)); (have G5 := Lib.hid ((HG.out.keep b5).keep o5)); (have R5 := Lib.hid ((HR.out.keep b5).keep o5)); (have C5 := Lib.hid (HI1.out _ _ (r5.keep o5))); clear b5 r5 x1 x2 x3 k1; (obtain ⟨y1, y2, y3⟩ := BoxG.new W5 L (m : Int) (.slice a5 P.length c5) 24))
          | (go_at_call 20; (with_reducible refine C5.out.mono ?_); rintro e W6 ⟨rfl, b6⟩; (have B6 := Lib.hid (below_more B5.out (Nat.le_refl _) b6)); (have G6 := Lib.hid (G5.out.keep b6)); (have R6 := Lib.hid (R5.out.keep b6)); clear b6 y1 y2 y3))
        go_roundg q
        case measure => omega
        case rel => exact ⟨i + 1, by omega, by go_num, B6, G6, R6⟩
end Go.Proofs.Ytfkplnmhlpabaaa

namespace Go.Proofs.Ytfkplnmhlpabaaa
open Go

/-- The edges in order, each as often as it occurs. -/
def srtE (es : List E3) : List E3 := es.mergeSort (fun x y => !ltE y x)
/-- .. each once. -/
def ddE : List E3 → List E3
  | [] => []
  | [a] => [a]
  | a :: b :: r => if a = b then ddE (b :: r) else a :: ddE (b :: r)
def mkE (es : List E3) : List E3 := ddE (srtE es)
theorem ltE_trans' {a b c : E3} (h1 : ltE a b = true) (h2 : ltE b c = true) : ltE a c = true := by
  unfold ltE at *
  simp only [decide_eq_true_eq] at *
  omega
theorem ltE_total' {a b : E3} (h1 : ltE a b = false) (h2 : ltE b a = false) : a = b := by
  unfold ltE at *
  simp only [decide_eq_false_iff_not] at *
  obtain ⟨x, y, z⟩ := a
  obtain ⟨x', y', z'⟩ := b
  dsimp only at *
  have e1 : x = x' := by omega
  have e2 : y = y' := by omega
  have e3 : z = z' := by omega
  rw [e1, e2, e3]
theorem ltE_irr' (a : E3) : ltE a a = false := by
  unfold ltE
  simp only [decide_eq_false_iff_not]
  omega
theorem ltE_asym' {a b : E3} (h : ltE a b = true) : ltE b a = false := by
  cases h2 : ltE b a with
  | false => rfl
  | true => exact absurd (ltE_trans' h h2) (by rw [ltE_irr']; decide)
theorem srtE_perm (es : List E3) : (srtE es).Perm es := List.mergeSort_perm _ _
theorem srtE_pw (es : List E3) : (srtE es).Pairwise (fun a b => ltE b a = false) := by
  have := List.pairwise_mergeSort (le := fun x y => !ltE y x) (fun a b c h1 h2 => ?_) (fun a b => ?_) es
  · refine this.imp ?_
    intro a b h
    simpa using h
  · simp only [Bool.not_eq_true'] at *
    cases h : ltE c a with
    | false => rfl
    | true =>
      cases h3 : ltE c b with
      | true => rw [h3] at h2; cases h2
      | false =>
        cases h4 : ltE b c with
        | true => have := ltE_trans' h4 h; rw [this] at h1; cases h1
        | false => have := ltE_total' h3 h4; subst this; rw [h] at h1; cases h1
  · cases h : ltE b a with
    | false => rfl
    | true => rw [ltE_asym' h]; rfl
theorem srtE_len (es : List E3) : (srtE es).length = es.length := (srtE_perm es).length_eq
theorem ddE_mem : ∀ (l : List E3) (x : E3), x ∈ ddE l ↔ x ∈ l
  | [], x => Iff.rfl
  | [a], x => Iff.rfl
  | a :: b :: r, x => by
    unfold ddE
    by_cases h : a = b
    · rw [if_pos h, ddE_mem (b :: r) x, h]
      simp
    · rw [if_neg h, List.mem_cons, ddE_mem (b :: r) x, List.mem_cons (b := a)]
theorem ddE_len : ∀ (l : List E3), (ddE l).length ≤ l.length
  | [] => Nat.le_refl _
  | [a] => Nat.le_refl _
  | a :: b :: r => by
    unfold ddE
    have := ddE_len (b :: r)
    split
    · exact Nat.le_trans this (by simp)
    · simp only [List.length_cons] at *
      omega
theorem ddE_pw : ∀ {l : List E3}, l.Pairwise (fun a b => ltE b a = false) → (ddE l).Pairwise (fun a b => ltE a b = true)
  | [], _ => List.Pairwise.nil
  | [a], _ => List.pairwise_singleton _ _
  | a :: b :: r, h => by
    obtain ⟨h1, h2⟩ := List.pairwise_cons.1 h
    have ih := ddE_pw h2
    unfold ddE
    by_cases hab : a = b
    · rw [if_pos hab]; exact ih
    · rw [if_neg hab]
      refine List.Pairwise.cons (fun x hx => ?_) ih
      rw [ddE_mem] at hx
      have hb := h1 b List.mem_cons_self
      have hlt : ltE a b = true := by
        cases h3 : ltE a b with
        | true => rfl
        | false => exact absurd (ltE_total' h3 hb) hab
      rcases List.mem_cons.1 hx with rfl | hx
      · exact hlt
      · have hbx := (List.pairwise_cons.1 h2).1 x hx
        cases h3 : ltE b x with
        | true => exact ltE_trans' hlt h3
        | false => rw [← ltE_total' h3 hbx]; exact hlt
theorem mkE_mem {es : List E3} {x : E3} : x ∈ mkE es ↔ x ∈ es := by unfold mkE; rw [ddE_mem]; exact (srtE_perm es).mem_iff
theorem mkE_pw (es : List E3) : (mkE es).Pairwise (fun a b => ltE a b = true) := ddE_pw (srtE_pw es)
theorem mkE_len (es : List E3) : (mkE es).length ≤ es.length := by unfold mkE; have := ddE_len (srtE es); rw [srtE_len] at this; exact this
/-- Ascending lists with the same members are equal. -/
theorem asc_eq : ∀ {l m : List E3}, l.Pairwise (fun a b => ltE a b = true) → m.Pairwise (fun a b => ltE a b = true) → (∀ x, x ∈ l ↔ x ∈ m) → l = m
  | [], [], _, _, _ => rfl
  | [], b :: m, _, _, h => absurd ((h b).2 List.mem_cons_self) (by simp)
  | a :: l, [], _, _, h => absurd ((h a).1 List.mem_cons_self) (by simp)
  | a :: l, b :: m, h1, h2, h => by
    obtain ⟨p1, q1⟩ := List.pairwise_cons.1 h1
    obtain ⟨p2, q2⟩ := List.pairwise_cons.1 h2
    have hab : a = b := by
      rcases List.mem_cons.1 ((h a).1 List.mem_cons_self) with e | ha
      · exact e
      · rcases List.mem_cons.1 ((h b).2 List.mem_cons_self) with e | hb
        · exact e.symm
        · have := ltE_asym' (p1 b hb)
          rw [p2 a ha] at this
          cases this
    subst hab
    rw [asc_eq q1 q2]
    intro x
    constructor
    · intro hx
      rcases List.mem_cons.1 ((h x).1 (List.mem_cons_of_mem _ hx)) with e | hx2
      · subst e; have := p1 x hx; rw [ltE_irr'] at this; cases this
      · exact hx2
    · intro hx
      rcases List.mem_cons.1 ((h x).2 (List.mem_cons_of_mem _ hx)) with e | hx2
      · subst e; have := p2 x hx; rw [ltE_irr'] at this; cases this
      · exact hx2
theorem mkE_same {es fs : List E3} (h : ∀ x, x ∈ es ↔ x ∈ fs) : mkE es = mkE fs := asc_eq (mkE_pw es) (mkE_pw fs) (fun x => by rw [mkE_mem, mkE_mem]; exact h x)
theorem mkE_self {es : List E3} (h : es.Pairwise (fun a b => ltE a b = true)) : mkE es = es := asc_eq (mkE_pw es) h (fun _ => mkE_mem)
/-! ### Reversing -/
def trnE (e : E3) : E3 := (e.2.2, e.2.1, e.1)
theorem trnE_trnE (e : E3) : trnE (trnE e) = e := rfl
def revE (es : List E3) : List E3 := mkE (es.map trnE)
theorem revE_mem {es : List E3} {x : E3} : x ∈ revE es ↔ trnE x ∈ es := by
  unfold revE
  rw [mkE_mem, List.mem_map]
  constructor
  · rintro ⟨a, ha, rfl⟩; exact ha
  · intro h; exact ⟨trnE x, h, rfl⟩
theorem revE_len (es : List E3) : (revE es).length ≤ es.length := by unfold revE; have := mkE_len (es.map trnE); rwa [List.length_map] at this
theorem revE_vg {L S : Int} {es : List E3} (h : VG L S es) : VG L S (revE es) := by
  refine ⟨h.l1, h.l2, h.s1, h.s2, Nat.le_trans (revE_len es) h.len, fun e he => ?_, mkE_pw _⟩
  have := okE_iff.1 (h.ok _ (revE_mem.1 he))
  unfold trnE at this
  rw [okE_iff]
  dsimp only at this
  omega
theorem revE_revE {L S : Int} {es : List E3} (h : VG L S es) : revE (revE es) = es := asc_eq (mkE_pw _) h.asc (fun x => by rw [revE_mem, revE_mem, trnE_trnE])
/-- Compact, element by element: what stands in front is kept. -/
theorem ddE_take : ∀ (l : List E3) (k : Nat), (∀ i, i < k → i + 1 < l.length → l[i]? ≠ l[i + 1]?) → k < l.length → ddE l = l.take k ++ ddE (l.drop k)
  | l, 0, _, _ => by simp
  | [], k + 1, _, h => by simp at h
  | [a], k + 1, _, h => by simp at h
  | a :: b :: r, k + 1, h, hk => by
    have h0 := h 0 (by omega) (by simp)
    have hab : a ≠ b := by simpa using h0
    rw [ddE, if_neg hab, ddE_take (b :: r) k (fun i hi hl => h (i + 1) (by omega) (by simp at hl ⊢; omega)) (by simpa using hk)]
    simp
theorem ddE_whole (l : List E3) (h : ∀ i, i + 1 < l.length → l[i]? ≠ l[i + 1]?) : ddE l = l := by
  match l with
  | [] => rfl
  | [a] => rfl
  | a :: b :: r =>
    have h0 : a ≠ b := by simpa using h 0 (by simp)
    rw [ddE, if_neg h0, ddE_whole (b :: r) (fun i hi => h (i + 1) (by simp at hi ⊢; omega))]
end Go.Proofs.Ytfkplnmhlpabaaa

namespace Go.Proofs.Ytfkplnmhlpabaaa
set_option linter.unusedVariables false

section
variable {L : Int} {n : Nat} {es : List E3}
theorem rev_path {s t : Int} {k : Nat} (h : Pth es s k t) : Pth (revE es) t k s := by
  induction h with
  | nil => exact .nil
  | step h1 he ih =>
    rename_i k e
    have hm : trnE e ∈ revE es := revE_mem.2 (by rw [trnE_trnE]; exact he)
    exact Pth.front (e := trnE e) hm ih
theorem rev_path' {s t : Int} {k : Nat} (h : Pth (revE es) s k t) : Pth es t k s := by
  induction h with
  | nil => exact .nil
  | step h1 he ih =>
    rename_i k e
    exact Pth.front (e := trnE e) (revE_mem.1 he) ih
theorem rev_rc {s t : Int} : Rc (revE es) s t ↔ Rc es t s := ⟨fun ⟨k, h⟩ => ⟨k, rev_path' h⟩, fun ⟨k, h⟩ => ⟨k, rev_path h⟩⟩
theorem rev_comp (hv : VG L (n : Int) es) {s t : Nat} (hs : s < n) (ht : t < n) : compB (revE es) n s t = compB es n s t := by
  rw [Bool.eq_iff_iff, compB_iff (revE_vg hv).ok hs ht, compB_iff hv.ok hs ht, rev_rc, rev_rc]
  exact And.comm
theorem rev_compF (hv : VG L (n : Int) es) {s : Nat} (hs : s < n) : compF (revE es) n s = compF es n s := by
  unfold compF mems
  congr 1
  exact List.filter_congr fun x hx => rev_comp hv hs (List.mem_range.1 hx)
theorem rev_reps (hv : VG L (n : Int) es) : repsK (revE es) n n = repsK es n n := by
  unfold repsK
  refine List.filter_congr fun s hs => ?_
  have hsn := List.mem_range.1 hs
  have : (List.range s).any (fun r => compB (revE es) n r s) = (List.range s).any (fun r => compB es n r s) := by
    rw [Bool.eq_iff_iff, List.any_eq_true, List.any_eq_true]
    constructor
    · rintro ⟨r, hr, h⟩
      have := List.mem_range.1 hr
      exact ⟨r, hr, by rw [← rev_comp hv (by omega) hsn]; exact h⟩
    · rintro ⟨r, hr, h⟩
      have := List.mem_range.1 hr
      exact ⟨r, hr, by rw [rev_comp hv (by omega) hsn]; exact h⟩
  unfold repB
  rw [this]
theorem rev_comps (hv : VG L (n : Int) es) : comps (revE es) n = comps es n := by
  unfold comps
  rw [rev_reps hv]
  exact List.map_congr_left fun s hs => rev_compF hv (reps_lt hs).1
theorem rev_nil (es : List E3) : revE es ≠ [] ↔ es ≠ [] := by
  have key : ∀ fs : List E3, fs ≠ [] ↔ ∃ e, e ∈ fs := fun fs => by
    cases fs with
    | nil => simp
    | cons a l => exact ⟨fun _ => ⟨a, List.mem_cons_self⟩, fun _ h => by cases h⟩
  rw [key, key]
  constructor
  · rintro ⟨e, he⟩; exact ⟨trnE e, revE_mem.1 he⟩
  · rintro ⟨e, he⟩; exact ⟨trnE e, revE_mem.2 (by rw [trnE_trnE]; exact he)⟩
theorem rev_irrB (hv : VG L (n : Int) es) : irrB (revE es) n = irrB es n := by
  rw [Bool.eq_iff_iff, irr_iff (revE_vg hv).ok, irr_iff hv.ok, rev_nil]
  constructor
  · rintro ⟨a, b⟩; exact ⟨a, fun s t hs ht => rev_rc.1 (b t s ht hs)⟩
  · rintro ⟨a, b⟩; exact ⟨a, fun s t hs ht => rev_rc.2 (b t s ht hs)⟩
theorem rev_irrR (hv : VG L (n : Int) es) : irrR L (n : Int) (revE es) = irrR L (n : Int) es := by
  unfold irrR
  rw [if_pos hv.chk, if_pos (revE_vg hv).chk, Int.toNat_natCast, rev_irrB hv]
theorem rev_per (hv : VG L (n : Int) es) (hi : irrB es n = true) : perN (revE es) n = perN es n := by
  obtain ⟨-, hc⟩ := (irr_iff hv.ok).1 hi
  obtain ⟨-, hc'⟩ := (irr_iff (revE_vg hv).ok).1 ((rev_irrB hv).trans hi)
  have h1 := fun q => per_iff hv.ok hc (lenF_pot hv.ok hc) q
  have h2 := fun q => per_iff (revE_vg hv).ok hc' (lenF_pot (revE_vg hv).ok hc') q
  unfold perN
  refine Nat.dvd_antisymm ?_ ?_
  · refine (h1 _).2 fun k hk => ?_
    exact (h2 _).1 (Nat.dvd_refl _) k (rev_path hk)
  · refine (h2 _).2 fun k hk => ?_
    exact (h1 _).1 (Nat.dvd_refl _) k (rev_path' hk)
theorem rev_perR (hv : VG L (n : Int) es) : perR L (n : Int) (revE es) = perR L (n : Int) es := by
  unfold perR
  rw [rev_irrR hv]
  by_cases h : irrR L (n : Int) es = true
  · rw [if_pos h, if_pos h, Int.toNat_natCast]
    obtain ⟨-, h2⟩ := irrR_true h
    rw [Int.toNat_natCast] at h2
    rw [rev_per hv h2]
  · rw [if_neg h, if_neg h]
theorem rev_perE (hv : VG L (n : Int) es) : perE L (n : Int) (revE es) = perE L (n : Int) es := by
  unfold perE
  rw [rev_irrR hv, if_pos hv.chk, if_pos (revE_vg hv).chk]
/-- Whether an edge leads into a set. -/
def entB (es : List E3) (c : List Int) : Bool := es.any fun e => decide (e.2.2 ∈ c) && !decide (e.1 ∈ c)
theorem rev_has (es : List E3) (c : List Int) : hasEd (revE es) c false = entB es c := by
  unfold hasEd entB
  rw [Bool.eq_iff_iff, List.any_eq_true, List.any_eq_true]
  constructor
  · rintro ⟨e, he, h⟩
    refine ⟨trnE e, revE_mem.1 he, ?_⟩
    unfold trnE
    cases h1 : decide (e.1 ∈ c) <;> cases h2 : decide (e.2.2 ∈ c) <;> rw [h1, h2] at h <;> first | exact absurd h (by decide) | rfl
  · rintro ⟨e, he, h⟩
    refine ⟨trnE e, revE_mem.2 (by rw [trnE_trnE]; exact he), ?_⟩
    unfold trnE
    cases h1 : decide (e.1 ∈ c) <;> cases h2 : decide (e.2.2 ∈ c) <;> rw [h1, h2] at h <;> first | exact absurd h (by decide) | rfl
/-- A component is a sink of the reversed graph where no edge enters it. -/
theorem rev_sink (hv : VG L (n : Int) es) {x : List Int} (hx : x ∈ comps es n) : (snks (revE es) n).any (fun y => decide (x = y)) = !entB es x := by
  rw [Bool.eq_iff_iff, List.any_eq_true]
  unfold snks
  rw [rev_comps hv]
  constructor
  · rintro ⟨y, hy, h⟩
    obtain rfl := of_decide_eq_true h
    have := (List.mem_filter.1 hy).2
    rwa [rev_has] at this
  · intro h
    exact ⟨x, List.mem_filter.2 ⟨hx, by rw [rev_has]; exact h⟩, decide_eq_true rfl⟩
end
end Go.Proofs.Ytfkplnmhlpabaaa
