/- ComponentReverse: its function values, and the walk. Condition: the edges can be read. ComponentReverse returns true for every input: the law's row. No condition. -/
import Derived.Test.YtfkplnmhlpabaaaQ17
import Derived.Test.YtfkplnmhlpabaaaQ22
import Derived.Test.YtfkplnmhlpabaaaQ23

namespace Go.Proofs.Ytfkplnmhlpabaaa
open Go.RowKit Go.Shelf
set_option linter.unusedSimpArgs false
set_option linter.unusedVariables false

section
variable {p : Nat} {u : Value} {l : List Int} {w : World}
set_option maxRecDepth 100000 in
set_option maxHeartbeats 3200000 in
theorem ent1_any (e : E3) (h : w.cell? ⟨p, 0, none⟩ = some u) (hrd : IntsRd w u l) (hl : l.length ≤ 100000) :
    Calls Try.prog 45 #[edgV e, .pointer (some ⟨p, 0, none⟩)] w fun en w' => en = .returned (.bool (decide (e.2.2 ∈ l) && !decide (e.1 ∈ l))) ∧ Below w.heap.size w w' := by
  have b1 := below1 w (.cells #[.int .i64 e.1, .int .i64 e.2.1, .int .i64 e.2.2] 46)
  obtain ⟨x1, x2, x3, -⟩ := Box3.new w e.1 e.2.1 e.2.2 46
  have h4' := cell_keep h b1
  have HR := hrd.keep b1
  obtain ⟨a, cc, rfl⟩ := hrd.form
  have HC1 := Lib.hid (has_any l e.1 _ _ HR (by omega))
  have HC2 := Lib.hid (has_any l e.2.2 _ _ HR (by omega))
  have HB := Lib.hid b1
  clear h hrd b1 HR
  obtain ⟨e1, e2, e3⟩ := e
  dsimp only at x1 x2 x3 HC1 HC2 HB h4' ⊢
  obtain ⟨d1, hd1⟩ : ∃ d1, decide (e1 ∈ l) = d1 := ⟨_, rfl⟩
  obtain ⟨d2, hd2⟩ : ∃ d2, decide (e3 ∈ l) = d2 := ⟨_, rfl⟩
  rw [hd1] at HC1 ⊢
  rw [hd2] at HC2 ⊢
  clear hd1 hd2
  cases d2
  all_goals
    go_enter Try.func45, Try.ntmps45
    go_wp2_with (first
      | (go_at_call_of 32 e1; (with_reducible refine HC1.out.mono ?_); rintro e W1 ⟨rfl, hW⟩; (rw [hW]); clear hW)
      | (go_at_call_of 32 e3; (with_reducible refine HC2.out.mono ?_); rintro e W1 ⟨rfl, hW⟩; (rw [hW]); clear hW))
    go_ret
    exact ⟨rfl, HB.out⟩
theorem Try.ent1E (args : Array Value) (w : World) : (callFunc 45 args).run Try.prog w = .ok (.enter 45 args) w := by
  simp [callFunc, go_sem, Try.func45, Try.f45]
set_option maxRecDepth 100000 in
theorem eqc_any (vc : Value) (cs : List Int) (hc : IntsRd w vc cs) (hcn : cs.length ≤ 100000) (h : w.cell? ⟨p, 0, none⟩ = some u) (hl : IntsRd w u l) (hn : l.length ≤ 100000) :
    Calls Try.prog 46 #[vc, .pointer (some ⟨p, 0, none⟩)] w fun e w' => e = .returned (.bool (decide (l = cs))) ∧ Below w.heap.size w w' := by
  have HE := Lib.hid (intsEq_any hl hc (by omega) (by omega))
  obtain ⟨a, c, rfl⟩ := hc.form
  obtain ⟨a2, c2, rfl⟩ := hl.form
  clear hl hc
  go_enter Try.func46, Try.ntmps46
  go_wp2_with (go_at_call 29; (with_reducible refine HE.out.mono ?_); rintro e W1 ⟨rfl, b1⟩; (have HB := Lib.hid b1); clear b1)
  go_ret
  exact ⟨rfl, HB.out⟩
set_option maxRecDepth 100000 in
set_option maxHeartbeats 3200000 in
theorem rowI3_any (vc : Value) (cs : List (List Int)) (hc : RowsRd w vc cs) (hcn : cs.length ≤ 100000) (hrr : ∀ r ∈ cs, r.length ≤ 100000) (h : w.cell? ⟨p, 0, none⟩ = some u) (hl : IntsRd w u l) (hn : l.length ≤ 100000) :
    Calls Try.prog 66 #[vc, .func (.func 46) #[] #[.pointer (some ⟨p, 0, none⟩)]] w fun e w' => (∃ k : Int, e = .returned (.int .i64 k) ∧ (0 ≤ k ↔ cs.any (fun c => decide (l = c)) = true)) ∧ Below w.heap.size w w' := by
  have HF := Lib.hid (fun W (hb : Below w.heap.size w W) vx x (hx : IntsRd W vx x) hxn => eqc_any (w := W) vx x hx hxn (cell_keep h hb) (hl.keep hb) hn)
  have HC := Lib.hid hc
  have HRR := Lib.hid hrr
  obtain ⟨a, c, rfl⟩ := hc.form
  clear h hl hc hrr
  go_enter Try.func66, Try.ntmps66
  go_wp2_with fail
  go_loopg [8] cs.length (fun q s8 wx => ∃ i : Nat, i + q = cs.length ∧ s8 = .int .i64 (i : Int) ∧ Hid ((cs.take i).any (fun x => decide (l = x)) = false) ∧ Hid (Below w.heap.size w wx))
  case atStart => exact ⟨0, by omega, rfl, Lib.hid rfl, Lib.hid (Below.refl _ _)⟩
  case round =>
    obtain ⟨i, hin, rfl, HT, HW⟩ := hrel
    rcases gk with _ | q
    · obtain rfl : i = cs.length := by omega
      have T := HT.out
      rw [List.take_length] at T
      have HT2 := Lib.hid T
      clear T HT
      go_wp2_with fail
      go_ret
      exact ⟨⟨_, rfl, by rw [HT2.out]; simp⟩, HW.out⟩
    · obtain ⟨x, hx⟩ : ∃ e, cs[i]? = some e := ⟨_, List.getElem?_eq_getElem (by omega)⟩
      obtain ⟨b, off, c', ux, hv, k1, r1⟩ := (HC.out.keep HW.out).at hx
      injection hv with e1 e2 e3
      subst e1
      have HX := Lib.hid (HF.out wr HW.out ux x r1 (HRR.out x (List.mem_of_getElem? hx)))
      have HXX := Lib.hid hx
      obtain ⟨a2, c2, rfl⟩ := r1.form
      have j1 : (i : Int) < (cs.length : Int) := by omega
      clear hx e2 e3 r1
      cases hd : decide (l = x) with
      | false =>
        rw [hd] at HX
        have HT3 := Lib.hid (any_take_succ HXX.out HT.out hd)
        clear hd
        go_wp2_with (go_at_call 46; (with_reducible refine HX.out.mono ?_); rintro e W1 ⟨rfl, b1⟩; (have HW1 := Lib.hid (below_more HW.out (Nat.le_refl _) b1)); clear b1)
        go_roundg q
        case measure => omega
        case rel => exact ⟨i + 1, by omega, by go_num, HT3, HW1⟩
      | true =>
        rw [hd] at HX
        have HT3 := Lib.hid (show cs.any (fun c => decide (l = c)) = true from List.any_eq_true.2 ⟨x, List.mem_of_getElem? HXX.out, hd⟩)
        clear hd
        go_wp2_with (go_at_call 46; (with_reducible refine HX.out.mono ?_); rintro e W1 ⟨rfl, b1⟩; (have HW1 := Lib.hid (below_more HW.out (Nat.le_refl _) b1)); clear b1)
        go_ret
        exact ⟨⟨_, rfl, ⟨fun _ => HT3.out, fun _ => by omega⟩⟩, HW1.out⟩
set_option maxRecDepth 100000 in
theorem rowC3_any (vc : Value) (cs : List (List Int)) (hc : RowsRd w vc cs) (hcn : cs.length ≤ 100000) (hrr : ∀ r ∈ cs, r.length ≤ 100000) (h : w.cell? ⟨p, 0, none⟩ = some u) (hl : IntsRd w u l) (hn : l.length ≤ 100000) :
    Calls Try.prog 39 #[vc, .func (.func 46) #[] #[.pointer (some ⟨p, 0, none⟩)]] w fun e w' => e = .returned (.bool (cs.any (fun c => decide (l = c)))) ∧ Below w.heap.size w w' := by
  have HI := Lib.hid (rowI3_any vc cs hc hcn hrr h hl hn)
  obtain ⟨a, c, rfl⟩ := hc.form
  clear h hl hc
  go_enter Try.func39, Try.ntmps39
  go_wp2_with (go_at_call 66; (with_reducible refine HI.out.mono ?_); rintro e W1 ⟨⟨k, rfl, hk⟩, b1⟩; (have HK := Lib.hid hk); (have HB1 := Lib.hid b1); clear hk b1)
  go_ret
  refine ⟨?_, HB1.out⟩
  by_cases h0 : 0 ≤ k
  · rw [HK.out.1 h0, decide_eq_true h0]; rfl
  · rw [decide_eq_false h0]
    cases hs : cs.any (fun c => decide (l = c)) with
    | false => rfl
    | true => exact absurd (HK.out.2 hs) h0
end
set_option maxRecDepth 100000 in
set_option maxHeartbeats 6400000 in
theorem compReverse_any (L S : Int) (es : List E3) (v : Value) (w : World) (hrd : EdgesRd w v es) (hn : es.length ≤ 9223372036854775807) :
    Calls Try.prog 11 #[grV L S v] w fun e w' => e = .returned (.bool true) ∧ Below w.heap.size w w' := by
  have b1 := below1 w (.cells #[.int .i64 L, .int .i64 S, v] 24)
  have G1 := Lib.hid (BoxG.new w L S v 24)
  have HB := Lib.hid b1
  have HRD := Lib.hid hrd
  have HF := Lib.hid (fun W h => fineC_any L S es v W h hn)
  have HAW := Lib.hid (fun W => awake_any W)
  obtain ⟨x1, x2, x3⟩ := id G1.out
  cases hf : fineC L S es with
  | false =>
    rw [hf] at HF
    obtain ⟨a, c, rfl⟩ := hrd.form
    clear hrd b1 hf
    go_enter Try.func11, Try.ntmps11
    go_wp2_with (first
      | (go_at_call 30; (with_reducible refine (HF.out _ (HRD.out.keep HB.out)).mono ?_); rintro e W2 ⟨rfl, b2⟩; (have B2 := Lib.hid (below_more HB.out (Nat.le_refl _) b2)); clear b2 x1 x2 x3)
      | (go_at_call 13; (with_reducible refine (HAW.out _).mono ?_); rintro e W3 ⟨rfl, b3⟩; (have B3 := Lib.hid (below_more B2.out (Nat.le_refl _) b3)); clear b3))
    go_ret
    exact ⟨rfl, B3.out⟩
  | true =>
    rw [hf] at HF
    have h0 := fineC_true hf
    have hvg := chkG_zero h0
    have hvr := revE_vg hvg
    have h0r := hvr.chk
    have hs1 := hvg.s1
    have hs2 := hvg.s2
    have hlen := hvg.len
    have hlenr := hvr.len
    obtain ⟨n, rfl⟩ : ∃ n : Nat, S = (n : Int) := ⟨S.toNat, by omega⟩
    have hn64 : n ≤ 64 := by omega
    have HRV := Lib.hid (fun W h => reverse_good L n es v W h hvg)
    have HOF := Lib.hid (fun W h => of_any L (n : Int) es v W h (by omega))
    have HPE := Lib.hid (fun W h => period_any L (n : Int) es v W h (by omega))
    have HOR := Lib.hid (fun vh W h => of_any L (n : Int) (revE es) vh W h (by omega))
    have HSR := Lib.hid (fun vh W h => sinks_any L (n : Int) (revE es) vh W h (by omega))
    have HPR := Lib.hid (fun vh W h => period_any L (n : Int) (revE es) vh W h (by omega))
    have e0 : errC L (n : Int) es = 0 := by unfold errC; rw [if_pos h0]
    have e0r : errC L (n : Int) (revE es) = 0 := by unfold errC; rw [if_pos h0r]
    have e1 : partsR L (n : Int) es (fun _ => true) = comps es n := by unfold partsR; rw [if_pos h0, Int.toNat_natCast]; exact List.filter_eq_self.2 (fun _ _ => rfl)
    have e1r : partsR L (n : Int) (revE es) (fun _ => true) = comps es n := by unfold partsR; rw [if_pos h0r, Int.toNat_natCast, ← rev_comps hvg]; exact List.filter_eq_self.2 (fun _ _ => rfl)
    have e2r : partsR L (n : Int) (revE es) (fun c => !hasEd (revE es) c false) = snks (revE es) n := by unfold partsR; rw [if_pos h0r]; rfl
    rw [e0, e1] at HOF
    rw [e0r, e1r] at HOR
    rw [e0r, e2r] at HSR
    rw [rev_perR hvg, rev_perE hvg] at HPR
    obtain ⟨P, hP⟩ : ∃ P, perR L (n : Int) es = P := ⟨_, rfl⟩
    obtain ⟨Q, hQ⟩ : ∃ Q, perE L (n : Int) es = Q := ⟨_, rfl⟩
    rw [hP, hQ] at HPE HPR
    have dP : (P != P) = false := by simp
    have dQ : (Q != Q) = false := by simp
    have HSI := Lib.hid (fun x (hx : x ∈ comps es n) => rev_sink hvg hx)
    have hrow : ∀ x ∈ comps es n, x.length ≤ 64 := fun x hx => by
      obtain ⟨r, -, rfl⟩ := comps_mem hx
      exact Nat.le_trans (compF_len _ _ _) hn64
    have HRL := Lib.hid (fun x (hx : x ∈ comps es n) => show x.length ≤ 100000 from by have := hrow x hx; omega)
    have HSL := Lib.hid (fun x (hx : x ∈ snks (revE es) n) => show x.length ≤ 100000 from by have := snks_row hx; omega)
    have hkl : (comps es n).length ≤ 64 := Nat.le_trans (comps_len es n) hn64
    have hsl : (snks (revE es) n).length ≤ 64 := Nat.le_trans (List.length_filter_le _ _) (Nat.le_trans (comps_len _ n) hn64)
    obtain ⟨K, hK⟩ : ∃ K, comps es n = K := ⟨_, rfl⟩
    obtain ⟨M, hM⟩ : ∃ M, snks (revE es) n = M := ⟨_, rfl⟩
    rw [hK] at HOF HOR HSI HRL hkl
    rw [hM] at HSR HSI HSL hsl
    have HSM := Lib.hid (fun va vb W (ha : RowsRd W va K) (hb : RowsRd W vb K) => same10_yes va vb K W ha hb (by omega) HRL.out)
    obtain ⟨a, c, rfl⟩ := hrd.form
    clear hrd b1 h0 h0r hvg hvr e0 e0r e1 e1r e2r hK hM hf hP hQ hrow
    go_enter Try.func11, Try.ntmps11
    go_wp2_with (first
      | (go_at_call 30; (with_reducible refine (HF.out _ (HRD.out.keep HB.out)).mono ?_); rintro e W2 ⟨rfl, b2⟩; (have B2 := Lib.hid (below_more HB.out (Nat.le_refl _) b2)); (have G2 := Lib.hid (G1.out.keep b2)); clear b2 x1 x2 x3; (obtain ⟨x1, x2, x3⟩ := id G2.out))
      | (go_at_call 43; (with_reducible refine (HRV.out _ (HRD.out.keep B2.out)).mono ?_); rintro e W3 ⟨vh, rfl, r3, b3⟩; (have r3 := r3.rd); (obtain ⟨ah, ch, rfl⟩ := r3.form); (obtain ⟨lr, hlr⟩ : ∃ lr, (revE es).length = lr := ⟨_, rfl⟩); (rw [hlr] at r3); (have o3 := below1 W3 (.cells #[.int .i64 L, .int .i64 (n : Int), .slice ah lr ch] 24)); (have B3 := Lib.hid (below_more (below_more B2.out (Nat.le_refl _) b3) (Nat.le_refl _) o3)); (have G3 := Lib.hid ((G2.out.keep b3).keep o3)); (have E3 := Lib.hid (r3.keep o3)); (have Y3 := Lib.hid (BoxG.new W3 L (n : Int) (.slice ah lr ch) 24)); (rw [hlr]); clear b3 r3 o3 hlr x1 x2 x3; (obtain ⟨x1, x2, x3⟩ := id G3.out); (obtain ⟨y1, y2, y3⟩ := id Y3.out))
      | (go_at_call_of 14 a; (with_reducible refine (HOF.out _ (HRD.out.keep B3.out)).mono ?_); rintro e W4 ⟨v4, rfl, r4, b4, -⟩; (have B4 := Lib.hid (below_more B3.out (Nat.le_refl _) b4)); (have G4 := Lib.hid (G3.out.keep b4)); (have Y4 := Lib.hid (Y3.out.keep b4)); (have E4 := Lib.hid (E3.out.keep b4)); (have R4 := Lib.hid r4); (obtain ⟨a4, c4, rfl⟩ := r4.form); clear b4 r4 x1 x2 x3 y1 y2 y3; (obtain ⟨x1, x2, x3⟩ := id G4.out); (obtain ⟨y1, y2, y3⟩ := id Y4.out))
      | (go_at_call_of 14 ah; (with_reducible refine (HOR.out _ _ E4.out).mono ?_); rintro e W5 ⟨v5, rfl, r5, b5, -⟩; (have B5 := Lib.hid (below_more B4.out (Nat.le_refl _) b5)); (have G5 := Lib.hid (G4.out.keep b5)); (have Y5 := Lib.hid (Y4.out.keep b5)); (have E5 := Lib.hid (E4.out.keep b5)); (have R5 := Lib.hid (R4.out.keep b5)); (have T5 := Lib.hid r5); (obtain ⟨a5, c5, rfl⟩ := r5.form); clear b5 r5 x1 x2 x3 y1 y2 y3; (obtain ⟨x1, x2, x3⟩ := id G5.out); (obtain ⟨y1, y2, y3⟩ := id Y5.out))
      | (go_at_call 18; (with_reducible refine (HSR.out _ _ E5.out).mono ?_); rintro e W6 ⟨v6, rfl, r6, b6, -⟩; (have B6 := Lib.hid (below_more B5.out (Nat.le_refl _) b6)); (have G6 := Lib.hid (G5.out.keep b6)); (have Y6 := Lib.hid (Y5.out.keep b6)); (have E6 := Lib.hid (E5.out.keep b6)); (have R6 := Lib.hid (R5.out.keep b6)); (have T6 := Lib.hid (T5.out.keep b6)); (have S6 := Lib.hid r6); (obtain ⟨a6, c6, rfl⟩ := r6.form); clear b6 r6 x1 x2 x3 y1 y2 y3; (obtain ⟨x1, x2, x3⟩ := id G6.out); (obtain ⟨y1, y2, y3⟩ := id Y6.out))
      | (go_at_call_of 25 a; (with_reducible refine (HPE.out _ (HRD.out.keep B6.out)).mono ?_); rintro e W7 ⟨rfl, b7⟩; (have B7 := Lib.hid (below_more B6.out (Nat.le_refl _) b7)); (have G7 := Lib.hid (G6.out.keep b7)); (have Y7 := Lib.hid (Y6.out.keep b7)); (have E7 := Lib.hid (E6.out.keep b7)); (have R7 := Lib.hid (R6.out.keep b7)); (have T7 := Lib.hid (T6.out.keep b7)); (have S7 := Lib.hid (S6.out.keep b7)); clear b7 x1 x2 x3 y1 y2 y3; (obtain ⟨y1, y2, y3⟩ := id Y7.out))
      | (go_at_call_of 25 ah; (with_reducible refine (HPR.out _ _ E7.out).mono ?_); rintro e W8 ⟨rfl, b8⟩; (have B8 := Lib.hid (below_more B7.out (Nat.le_refl _) b8)); (have G8 := Lib.hid (G7.out.keep b8)); (have R8 := Lib.hid (R7.out.keep b8)); (have T8 := Lib.hid (T7.out.keep b8)); (have S8 := Lib.hid (S7.out.keep b8)); clear b8 y1 y2 y3)
      | (go_at_call 22; (with_reducible refine (HSM.out _ _ _ R8.out T8.out).mono ?_); rintro e W9 ⟨rfl, b9⟩; (have B9 := Lib.hid (below_more B8.out (Nat.le_refl _) b9)); (have G9 := Lib.hid (G8.out.keep b9)); (have R9 := Lib.hid (R8.out.keep b9)); (have S9 := Lib.hid (S8.out.keep b9)); clear b9))
    clear dP dQ HB B2 G1 G2 HF HOF HOR HSR HPE HPR HRV HSM
    have dd : ∀ d : Bool, (d == !d) = false := fun d => by cases d <;> rfl
    go_loopg [84] K.length (fun q s84 wx => ∃ i : Nat, i + q = K.length ∧ s84 = .int .i64 (i : Int) ∧ Hid (Below w.heap.size w wx) ∧ Hid (BoxG wx w.heap.size L (n : Int) (.slice a es.length c)) ∧ Hid (RowsRd wx (.slice a4 K.length c4) K) ∧ Hid (RowsRd wx (.slice a6 M.length c6) M))
    case atStart => exact ⟨0, by omega, rfl, B9, G9, R9, S9⟩
    case round =>
      clear B9 G9 R9 S9
      obtain ⟨i, hin, rfl, HW, HG, HR, HS⟩ := hrel
      rcases gk with _ | q
      · obtain rfl : i = K.length := by omega
        go_wp2_with (go_at_call 13; (with_reducible refine (HAW.out _).mono ?_); rintro e W5 ⟨rfl, b5⟩; (have B5 := Lib.hid (below_more HW.out (Nat.le_refl _) b5)); clear b5)
        go_ret
        exact ⟨rfl, B5.out⟩
      · obtain ⟨row, hrow⟩ : ∃ e, K[i]? = some e := ⟨_, List.getElem?_eq_getElem (by omega)⟩
        have hmem := List.mem_of_getElem? hrow
        have hsi := HSI.out row hmem
        have hrl := HRL.out row hmem
        obtain ⟨b, off, c', u, hv, k1, r1⟩ := HR.out.at hrow
        injection hv with e1 e2 e3
        subst e1
        obtain ⟨au, cu, rfl⟩ := r1.form
        obtain ⟨m, hm⟩ : ∃ m, row.length = m := ⟨_, rfl⟩
        rw [hm] at k1 hrl
        have hu : ∃ u, Value.slice au m cu = u := ⟨_, rfl⟩
        have o1 := below1 wr (.cells #[.slice au m cu] 34)
        have cB : (wr.alloc (.cells #[.slice au m cu] 34)).cell? ⟨wr.heap.size, 0, none⟩ = some (.slice au m cu) := by simp [go_sem]
        have r5 : IntsRd (wr.alloc (.cells #[.slice au m cu] 34)) (.slice au m cu) row := by rw [← hm]; exact r1.keep (by rw [← hm] at o1; exact o1)
        have B5 := Lib.hid (below_more HW.out (Nat.le_refl _) o1)
        have G5 := Lib.hid (HG.out.keep o1)
        have R5 := Lib.hid (HR.out.keep o1)
        have S5 := Lib.hid (HS.out.keep o1)
        have HA := Lib.hid (show Calls Try.prog 44 #[.slice a es.length c, .func (.func 45) #[] #[.pointer (some ⟨wr.heap.size, 0, none⟩)]] (wr.alloc (.cells #[.slice au m cu] 34)) fun e w' => e = .returned (.bool (entB es row)) ∧ Below (wr.alloc (.cells #[.slice au m cu] 34)).heap.size (wr.alloc (.cells #[.slice au m cu] 34)) w' from
          anyE_any 45 Try.ent1E #[.pointer (some ⟨wr.heap.size, 0, none⟩)] (fun e => decide (e.2.2 ∈ row) && !decide (e.1 ∈ row)) es _ _ (HRD.out.keep B5.out) (by omega) (fun W hb e => ent1_any e (cell_keep cB hb) (r5.keep hb) (by omega)))
        have HC := Lib.hid (fun W (hb : Below (wr.alloc (.cells #[.slice au m cu] 34)).heap.size (wr.alloc (.cells #[.slice au m cu] 34)) W) => hsi ▸ rowC3_any _ M (S5.out.keep hb) (by omega) HSL.out (cell_keep cB hb) (r5.keep hb) (by omega))
        obtain ⟨d, hd⟩ : ∃ d, entB es row = d := ⟨_, rfl⟩
        rw [hd] at HA HC
        have hdd := dd d
        obtain ⟨x1, x2, x3⟩ := id G5.out
        have j1 : (i : Int) < (K.length : Int) := by omega
        clear hrow hmem hsi hm e2 e3 hu o1 cB r5 r1 hd HW HG HR HS
        go_wp2_with (first
          | (go_at_call 44; (with_reducible refine HA.out.mono ?_); rintro e W6 ⟨rfl, b6⟩; (have B6 := Lib.hid (below_more B5.out (Nat.le_refl _) b6)); (have G6 := Lib.hid (G5.out.keep b6)); (have R6 := Lib.hid (R5.out.keep b6)); (have S6 := Lib.hid (S5.out.keep b6)); (have C6 := Lib.hid (HC.out _ b6)); clear b6 x1 x2 x3)
          | (go_at_call 39; (with_reducible refine C6.out.mono ?_); rintro e W7 ⟨rfl, b7⟩; (have B7 := Lib.hid (below_more B6.out (Nat.le_refl _) b7)); (have G7 := Lib.hid (G6.out.keep b7)); (have R7 := Lib.hid (R6.out.keep b7)); (have S7 := Lib.hid (S6.out.keep b7)); clear b7))
        go_roundg q
        case measure => omega
        case rel => exact ⟨i + 1, by omega, by go_num, B7, G7, R7, S7⟩
end Go.Proofs.Ytfkplnmhlpabaaa

namespace Go.Proofs.Ytfkplnmhlpabaaa.componentReverse
open Go.ChangeShapes Go.WideShapes Go.ChangeAt Go.RowKit
open Go.ChangeMaps (open_string shut_string)
set_option maxRecDepth 100000
set_option linter.unusedVariables false

theorem contract (H : Type) (enc : TypeId × Value → H) (W : World) (args : Array Value) (ds gs : List (DataW H)) (before : List MemPlace)
    (hval : ∀ (j : Nat) t v, Try.f11.params[j]? = some t → args[j]? = some v → Value.okWide Try.prog W .any 0 t v)
    (hW : DataW.Whole enc Try.prog Try.f11.params.toList Rows.componentReverseSpec.vars false W args.toList ds gs before) :
    Calls Try.prog 11 args W fun e W' => ∃ v, e = .returned v ∧ Rows.componentReverseSpec.post enc Try.prog Try.f11 false true false false W args v W' := by
  have hW' := hW
  obtain ⟨p, q, hA0, hV, rfl, hfz, hnd⟩ := hW
  have hA : DataW.TrodAll enc Try.prog W 0 (fun _ => true) true Try.f11.params.toList args.toList ds p := hA0
  rw [Try.params11] at hA hval
  obtain ⟨v0, vs0, d0, ds0, p0, q0, hargs, rfl, rfl, h0, r0⟩ := trodAll_cons hA
  obtain ⟨rfl, rfl, rfl⟩ := trodAll_nil r0
  obtain rfl : args = #[v0] := by cases args; simp_all
  obtain ⟨rfl, rfl⟩ := trodVars_none hV
  obtain ⟨L0, S0, u0, es0, rfl, k0, l0⟩ := graph_open (hval 0 24 v0 rfl rfl) h0
  have t0 : ∀ x ∈ p0, x.block < W.heap.size := fun x hx => by simpa using hW'.lt x (by simp [hx])
  clear hA0
  refine (compReverse_any L0 S0 es0 u0 W k0 l0).mono fun e W' ⟨he, hb⟩ => ?_
  subst he
  refine ⟨_, rfl, _, _, _, [], (p0 ++ []), [], hW', ?_, ?_, ?_, hb.frame _, fun h => by cases h⟩
  · exact trodAll_cons_mk (p := []) (shut_bool Try.underlying4 true) trodAll_mk0
  · exact (trodAll_cons_mk (graph_keep h0 hb t0) trodAll_mk0)
  · rfl

set_option maxRecDepth 100000 in
theorem lifted (os : Os) (started : os.Started) (H : Type) (enc : TypeId × Value → H) :
    ReturnsInHanded {} Try.checked os 11 .any (Rows.componentReverseSpec.pre6 enc Try.prog Try.f11 Rows.componentReverseRow.domain false) (Rows.componentReverseSpec.post enc Try.prog Try.f11 false true false false) := by
  refine returnsInHanded_of_change (C := Try.checked) ownNone started (by kernel_rfl) Try.func11
    (ChangeSpec.witness6 (enc := enc) (C := Try.checked) false ⟨#[], #[.agg #[.int .i64 0, .int .i64 0, .slice none 0 0]], []⟩ 8 (by kernel_rfl) (by kernel_rfl) (by kernel_rfl) (by kernel_rfl)) ?_
  intro W base args ds gs before hval hW hcnd _
  exact contract H enc W args ds gs before hval hW

/-- ComponentReverse. -/
theorem said : Rows.ComponentReverseSaid :=
  OpenClaim.holds_of_wide 11 Try.f11 rfl rfl rfl rfl rfl rfl rfl ⟨rfl, rfl, rfl, rfl, rfl⟩ rfl rfl rfl rfl rfl (by kernel_rfl) Try.func11 (by kernel_rfl)
    (of_decide_eq_true (by kernel_rfl)) (by unfold Func.isWrapper; first | (rw [if_pos (by decide +kernel)]; kernel_rfl) | (rw [if_neg (by decide +kernel)]; exact ⟨rfl, rfl⟩))
    (fun os started H enc _ => lifted os started H enc)
end Go.Proofs.Ytfkplnmhlpabaaa.componentReverse
