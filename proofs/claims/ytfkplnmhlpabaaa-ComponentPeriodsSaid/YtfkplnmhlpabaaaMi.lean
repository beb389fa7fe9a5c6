/- What grooveref10.Classes returns, for any graph; ComponentPeriods: the walk. -/
import Derived.Test.YtfkplnmhlpabaaaMh
namespace Go.Proofs.Ytfkplnmhlpabaaa
open Go.RowKit Go.Shelf
set_option linter.unusedSimpArgs false
set_option linter.unusedVariables false

structure CS (w : World) (L S : Int) (v : Value) (lb n : Nat) (f : Nat → Int) (X : World) : Prop where
  g : BoxG X w.heap.size L S v
  bl : Below w.heap.size w X
  r : IRow X lb n f
theorem CS.set {w X : World} {L S : Int} {v : Value} {lb n : Nat} {f : Nat → Int} (h : CS w L S v lb n f X) (hlb : w.heap.size < lb) (t : Nat) (x : Int) : CS w L S v lb n (fun j => if j = t then x else f j) (X.setCell ⟨lb, t, none⟩ (.int .i64 x)) :=
  ⟨boxG_other h.g (by show lb ≠ _; omega) _, h.bl.setCell (by show _ ≤ lb; omega) _, h.r.set t x⟩
set_option maxRecDepth 100000 in
set_option maxHeartbeats 6400000 in
theorem refClasses_any (L S : Int) (es : List E3) (v : Value) (w : World) (hrd : EdgesRd w v es) (hn : es.length ≤ 9223372036854775807) :
    Calls Try.prog 28 #[grV L S v] w (IRdC w (clsR L S es) (perE L S es)) := by
  have HPE := Lib.hid (fun W h => refPeriod_any L S es v W h hn)
  have b1 := below1 w (.cells #[.int .i64 L, .int .i64 S, v] 24)
  have G1 := Lib.hid (BoxG.new w L S v 24)
  have HB := Lib.hid b1
  have HRD := Lib.hid hrd
  obtain ⟨x1, x2, x3⟩ := id G1.out
  cases hir : irrR L S es with
  | false =>
    have e1 : clsR L S es = [] := by unfold clsR; rw [if_neg (by rw [hir]; decide)]
    have hz : (perE L S es != 0) = true := by
      unfold perE
      rw [if_neg (by rw [hir]; decide)]
      split <;> rfl
    rw [e1]
    obtain ⟨z, hzz⟩ : ∃ z, perE L S es = z := ⟨_, rfl⟩
    rw [hzz] at HPE hz ⊢
    obtain ⟨a, c, rfl⟩ := hrd.form
    clear hrd b1 hir e1 hzz
    go_enter Try.func28, Try.ntmps28
    go_wp2_with (go_at_call 26; (with_reducible refine (HPE.out _ (HRD.out.keep HB.out)).mono ?_); rintro e W2 ⟨rfl, b2⟩; (have B2 := Lib.hid (below_more (below_more HB.out (Nat.le_refl _) b2) (Nat.le_refl _) (below1 W2 (.cells #[] 3)))); clear b2 x1 x2 x3)
    exact bodyPost_ret (v := .tuple #[.slice (some ⟨W2.heap.size, 0, none⟩) 0 0, .int .i64 z]) (by simp [results, Try.results28, go_sem]) rfl ⟨_, rfl, ⟨_, 0, rfl, fun i r hr => by simp at hr⟩, B2.out⟩
  | true =>
    obtain ⟨h0, hirr⟩ := irrR_true hir
    have hvg := chkG_zero h0
    have hs1 := hvg.s1
    have hs2 := hvg.s2
    have hlen := hvg.len
    obtain ⟨n, rfl⟩ : ∃ n : Nat, S = (n : Int) := ⟨S.toNat, by omega⟩
    rw [Int.toNat_natCast] at hirr
    obtain ⟨hne, hcon⟩ := (irr_iff hvg.ok).1 hirr
    have hn0 : 0 < n := by
      cases es with
      | nil => exact absurd rfl hne
      | cons e es => have := okE_iff.1 (hvg.ok e List.mem_cons_self); omega
    have hP1 : 1 ≤ perN es n := per_pos (d := lenF es n 0) hvg.ok hcon hne
    have hP2 : perN es n ≤ 1000 := by
      unfold perN
      refine perF_le fun e he => ?_
      have q1 := lenF_ge hvg.ok 0 e.1.toNat
      have q2 := lenF_ge hvg.ok 0 e.2.2.toNat
      have q3 := lenF_le es n 0 e.1.toNat
      have q4 := lenF_le es n 0 e.2.2.toNat
      omega
    have e1 : perR L (n : Int) es = ((perN es n : Nat) : Int) := by unfold perR; rw [if_pos hir]; rfl
    have e2 : perE L (n : Int) es = 0 := by unfold perE; rw [if_pos hir]
    have e3 : clsR L (n : Int) es = (List.range n).map (clsF es n) := by unfold clsR; rw [if_pos hir]; rfl
    rw [e2, e3]
    rw [e1, e2] at HPE
    have HLV := Lib.hid (fun W h => levels_any L n es v W h (by omega) hn0 hvg.ok hlen hcon)
    have HPM := Lib.hid (fun d (hd : Pot es n d) t (ht : t < n) => show d t % ((perN es n : Nat) : Int) = clsF es n t from per_mod hcon hd (lenF_pot hvg.ok hcon) ht (perN es n) (fun k hk => per_closed hk))
    obtain ⟨P, hP⟩ : ∃ P, perN es n = P := ⟨_, rfl⟩
    rw [hP] at HPE HPM hP1 hP2
    obtain ⟨a, c, rfl⟩ := hrd.form
    clear hrd b1 hir h0 hvg e1 e2 e3 hirr hne hcon hP
    go_enter Try.func28, Try.ntmps28
    go_wp2_with (first
      | (go_at_call 26; (with_reducible refine (HPE.out _ (HRD.out.keep HB.out)).mono ?_); rintro e W2 ⟨rfl, b2⟩; (have B2 := Lib.hid (below_more HB.out (Nat.le_refl _) b2)); (have G2 := Lib.hid (G1.out.keep b2)); (have hw2 : w.heap.size < W2.heap.size := World.block_lt_of_cell? _ ⟨w.heap.size, 0, none⟩ G2.out.1); clear b2 x1 x2 x3; (obtain ⟨x1, x2, x3⟩ := id G2.out))
      | (go_at_call 59; (with_reducible refine (HLV.out _ (HRD.out.keep B2.out)).mono ?_); rintro e W3 ⟨lb, d, rfl, r3, hpot, hbd, hlb, b3⟩; (have T3 := Lib.hid (show CS w L (n : Int) (.slice a es.length c) lb n d W3 from ⟨G2.out.keep b3, below_more B2.out (Nat.le_refl _) b3, r3⟩)); (have HPO := Lib.hid (HPM.out d hpot)); (have HBD := Lib.hid hbd); clear b3 r3 hpot hbd x1 x2 x3))
    have hlb2 : w.heap.size < lb := by omega
    clear HB B2 G1 G2 HPE HLV
    go_loopg [7] n (fun q s7 wx => ∃ s : Nat, s + q = n ∧ s7 = .int .i64 (s : Int) ∧ Hid (CS w L (n : Int) (.slice a es.length c) lb n (fun t => if t < s then d t % (P : Int) else d t) wx))
    case atStart => exact ⟨0, by omega, rfl, Lib.hid ⟨T3.out.g, T3.out.bl, T3.out.r.congr (fun i _ => by rw [if_neg (by omega)])⟩⟩
    case round =>
      clear T3
      obtain ⟨s, hsn, rfl, HT⟩ := hrel
      obtain ⟨x1, x2, x3⟩ := id HT.out.g
      rcases gk with _ | q
      · obtain rfl : n = s := by omega
        have HI := Lib.hid (irow_rd (HT.out.r.congr (g := clsF es n) (fun t ht => by rw [if_pos ht]; exact HPO.out t ht)) n)
        have HBW := Lib.hid HT.out.bl
        go_wp2_with fail
        exact bodyPost_ret (v := .tuple #[.slice (some ⟨lb, 0, none⟩) n n, .int .i64 0]) (by simp [results, Try.results28, go_sem]) rfl ⟨_, rfl, HI.out, HBW.out⟩
      · have hs : s < n := by omega
        have j1 : (s : Int) < (n : Int) := by omega
        have c1 := HT.out.r.cell hs
        have f1 := HT.out.r.frozen s
        have bd := HBD.out s hs
        have H2 := Lib.hid (show CS w L (n : Int) (.slice a es.length c) lb n (fun t => if t < s + 1 then d t % (P : Int) else d t) (wr.setCell ⟨lb, s, none⟩ (.int .i64 (d s % (P : Int)))) from by
          have h := HT.out.set hlb2 s (d s % (P : Int))
          exact ⟨h.g, h.bl, h.r.congr (fun t _ => by
            (try dsimp only)
            by_cases e : t = s
            · subst e; rw [if_pos rfl, if_pos (by omega)]
            · rw [if_neg e]
              by_cases h2 : t < s
              · rw [if_pos h2, if_pos (by omega)]
              · rw [if_neg h2, if_neg (by omega)])⟩)
        (try dsimp only at c1)
        rw [if_neg (Nat.lt_irrefl s)] at c1
        obtain ⟨p1, hp1⟩ : ∃ p1, d s = p1 := ⟨_, rfl⟩
        rw [hp1] at c1 bd H2
        obtain ⟨r, hr⟩ : ∃ r, p1 % (P : Int) = r := ⟨_, rfl⟩
        have hrt : Int.tmod p1 (P : Int) = r := by rw [Int.tmod_eq_emod_of_nonneg bd.1]; exact hr
        have hr0 : 0 ≤ r := by rw [← hr]; exact Int.emod_nonneg _ (by omega)
        have hr1 : r < P := by rw [← hr]; exact Int.emod_lt_of_pos _ (by omega)
        rw [hr] at H2
        have hw : IntKind.i64.wrap r = r := by rw [IntKind.wrap_i64]; omega
        have hPn : ¬ (P : Int) = 0 := by omega
        clear hr hp1
        go_wp2_with fail
        go_roundg q
        case measure => omega
        case rel => exact ⟨s + 1, by omega, by go_num, H2⟩
theorem reachR_len (L S s : Int) (es : List E3) : (reachR L S es s).length ≤ 64 := by
  unfold reachR
  split
  · split
    · have := (chkG_zero ‹_›).s2
      have := (chkG_zero ‹_›).s1
      exact Nat.le_trans (mems_len _ _) (by omega)
    · exact Nat.zero_le _
  · exact Nat.zero_le _
theorem clsR_len (L S : Int) (es : List E3) : (clsR L S es).length ≤ 64 := by
  unfold clsR
  split
  · have h := (irrR_true ‹_›).1
    have := (chkG_zero h).s2
    have := (chkG_zero h).s1
    rw [List.length_map, List.length_range]; omega
  · exact Nat.zero_le _
set_option maxRecDepth 100000 in
set_option maxHeartbeats 6400000 in
theorem compPeriods_any (L S s : Int) (es : List E3) (v : Value) (w : World) (hrd : EdgesRd w v es) (hn : es.length ≤ 9223372036854775807) :
    Calls Try.prog 4 #[grV L S v, .int .i64 s] w fun e w' => e = .returned (.bool true) ∧ Below w.heap.size w w' := by
  have b1 := below1 w (.cells #[.int .i64 L, .int .i64 S, v] 24)
  have G0 := Lib.hid (BoxG.new w L S v 24)
  have HB0 := Lib.hid b1
  have HRD := Lib.hid hrd
  have HAW := Lib.hid (fun W => awake_any W)
  have HRE := Lib.hid (fun W h => reach_any L S s es v W h hn)
  have HRR := Lib.hid (fun W h => refReach_any L S s es v W h hn)
  have HPE := Lib.hid (fun W h => period_any L S es v W h hn)
  have HPR := Lib.hid (fun W h => refPeriod_any L S es v W h hn)
  have HCL := Lib.hid (fun W h => classes_any L S es v W h hn)
  have HCR := Lib.hid (fun W h => refClasses_any L S es v W h hn)
  have hrl := reachR_len L S s es
  have hcl := clsR_len L S es
  obtain ⟨R, hR⟩ : ∃ R, reachR L S es s = R := ⟨_, rfl⟩
  obtain ⟨C, hC⟩ : ∃ C, clsR L S es = C := ⟨_, rfl⟩
  obtain ⟨z1, hz1⟩ : ∃ z, reachE L S es s = z := ⟨_, rfl⟩
  obtain ⟨z2, hz2⟩ : ∃ z, perE L S es = z := ⟨_, rfl⟩
  obtain ⟨p, hp⟩ : ∃ p, perR L S es = p := ⟨_, rfl⟩
  rw [hR, hz1] at HRE HRR
  rw [hp, hz2] at HPE HPR
  rw [hC, hz2] at HCL HCR
  rw [hR] at hrl
  rw [hC] at hcl
  have HSR := Lib.hid (fun va vb W (ha : IntsRd W va R) (hb : IntsRd W vb R) => show Calls Try.prog 29 #[va, vb] W fun e w' => e = .returned (.bool true) ∧ Below W.heap.size W w' from by
    have h := intsEq_any ha hb (by omega) (by omega)
    rwa [decide_eq_true rfl] at h)
  have HSC := Lib.hid (fun va vb W (ha : IntsRd W va C) (hb : IntsRd W vb C) => show Calls Try.prog 29 #[va, vb] W fun e w' => e = .returned (.bool true) ∧ Below W.heap.size W w' from by
    have h := intsEq_any ha hb (by omega) (by omega)
    rwa [decide_eq_true rfl] at h)
  have d1 : (z1 == z1) = true := by simp
  have d2 : (z2 == z2) = true := by simp
  have d3 : (p == p) = true := by simp
  obtain ⟨a, c, rfl⟩ := hrd.form
  obtain ⟨x1, x2, x3⟩ := id G0.out
  clear hrd b1 hR hC hz1 hz2 hp
  cases hgr : greatC S es.length with
  | true =>
    go_enter Try.func4, Try.ntmps4
    go_wp2_with (first
      | (go_at_call 12; (with_reducible refine (greatC_any L S a es.length c _).mono ?_); rintro e W1 ⟨rfl, b0⟩; (rw [hgr]); (have B1 := Lib.hid (below_more HB0.out (Nat.le_refl _) b0)); (have G1 := Lib.hid (G0.out.keep b0)); clear b0 x1 x2 x3; (obtain ⟨x1, x2, x3⟩ := id G1.out))
      | (go_at_call 13; (with_reducible refine (HAW.out _).mono ?_); rintro e W13 ⟨rfl, b13⟩; (have B13 := Lib.hid (below_more B1.out (Nat.le_refl _) b13)); clear b13))
    go_ret
    exact ⟨rfl, B13.out⟩
  | false =>
    go_enter Try.func4, Try.ntmps4
    go_wp2_with (first
      | (go_at_call 12; (with_reducible refine (greatC_any L S a es.length c _).mono ?_); rintro e W1 ⟨rfl, b0⟩; (rw [hgr]); (have B1 := Lib.hid (below_more HB0.out (Nat.le_refl _) b0)); (have G1 := Lib.hid (G0.out.keep b0)); clear b0 x1 x2 x3; (obtain ⟨x1, x2, x3⟩ := id G1.out))
      | (go_at_call 23; (with_reducible refine (HRE.out _ (HRD.out.keep B1.out)).mono ?_); rintro e W2 ⟨v2, rfl, r2, b2⟩; (have B2 := Lib.hid (below_more B1.out (Nat.le_refl _) b2)); (have G2 := Lib.hid (G1.out.keep b2)); (have r2 := r2.rd); (have R2_2 := Lib.hid r2); (obtain ⟨a2, c2, rfl⟩ := r2.form); clear r2; clear b2 x1 x2 x3; (obtain ⟨x1, x2, x3⟩ := id G2.out))
      | (go_at_call 24; (with_reducible refine (HRR.out _ (HRD.out.keep B2.out)).mono ?_); rintro e W3 ⟨v3, rfl, r3, b3⟩; (have B3 := Lib.hid (below_more B2.out (Nat.le_refl _) b3)); (have G3 := Lib.hid (G2.out.keep b3)); (have R2_3 := Lib.hid (R2_2.out.keep b3)); (have R3_3 := Lib.hid r3); (obtain ⟨a3, c3, rfl⟩ := r3.form); clear r3; clear b3 x1 x2 x3; (obtain ⟨x1, x2, x3⟩ := id G3.out))
      | (go_at_call 25; (with_reducible refine (HPE.out _ (HRD.out.keep B3.out)).mono ?_); rintro e W4 ⟨rfl, b4⟩; (have B4 := Lib.hid (below_more B3.out (Nat.le_refl _) b4)); (have G4 := Lib.hid (G3.out.keep b4)); (have R2_4 := Lib.hid (R2_3.out.keep b4)); (have R3_4 := Lib.hid (R3_3.out.keep b4)); clear b4 x1 x2 x3; (obtain ⟨x1, x2, x3⟩ := id G4.out))
      | (go_at_call 26; (with_reducible refine (HPR.out _ (HRD.out.keep B4.out)).mono ?_); rintro e W5 ⟨rfl, b5⟩; (have B5 := Lib.hid (below_more B4.out (Nat.le_refl _) b5)); (have G5 := Lib.hid (G4.out.keep b5)); (have R2_5 := Lib.hid (R2_4.out.keep b5)); (have R3_5 := Lib.hid (R3_4.out.keep b5)); clear b5 x1 x2 x3; (obtain ⟨x1, x2, x3⟩ := id G5.out))
      | (go_at_call 27; (with_reducible refine (HCL.out _ (HRD.out.keep B5.out)).mono ?_); rintro e W6 ⟨v6, rfl, r6, b6⟩; (have B6 := Lib.hid (below_more B5.out (Nat.le_refl _) b6)); (have G6 := Lib.hid (G5.out.keep b6)); (have R2_6 := Lib.hid (R2_5.out.keep b6)); (have R3_6 := Lib.hid (R3_5.out.keep b6)); (have R6_6 := Lib.hid r6); (obtain ⟨a6, c6, rfl⟩ := r6.form); clear r6; clear b6 x1 x2 x3; (obtain ⟨x1, x2, x3⟩ := id G6.out))
      | (go_at_call 28; (with_reducible refine (HCR.out _ (HRD.out.keep B6.out)).mono ?_); rintro e W7 ⟨v7, rfl, r7, b7⟩; (have B7 := Lib.hid (below_more B6.out (Nat.le_refl _) b7)); (have G7 := Lib.hid (G6.out.keep b7)); (have R2_7 := Lib.hid (R2_6.out.keep b7)); (have R3_7 := Lib.hid (R3_6.out.keep b7)); (have R6_7 := Lib.hid (R6_6.out.keep b7)); (have R7_7 := Lib.hid r7); (obtain ⟨a7, c7, rfl⟩ := r7.form); clear r7; clear b7 x1 x2 x3; (obtain ⟨x1, x2, x3⟩ := id G7.out))
      | (go_at_call_of 29 a2; (with_reducible refine (HSR.out _ _ _ R2_7.out R3_7.out).mono ?_); rintro e W8 ⟨rfl, b8⟩; (have B8 := Lib.hid (below_more B7.out (Nat.le_refl _) b8)); (have R2_8 := Lib.hid (R2_7.out.keep b8)); (have R3_8 := Lib.hid (R3_7.out.keep b8)); (have R6_8 := Lib.hid (R6_7.out.keep b8)); (have R7_8 := Lib.hid (R7_7.out.keep b8)); clear b8)
      | (go_at_call_of 29 a6; (with_reducible refine (HSC.out _ _ _ R6_8.out R7_8.out).mono ?_); rintro e W9 ⟨rfl, b9⟩; (have B9 := Lib.hid (below_more B8.out (Nat.le_refl _) b9)); (have R2_9 := Lib.hid (R2_8.out.keep b9)); (have R3_9 := Lib.hid (R3_8.out.keep b9)); (have R6_9 := Lib.hid (R6_8.out.keep b9)); (have R7_9 := Lib.hid (R7_8.out.keep b9)); clear b9)
      | (go_at_call 13; (with_reducible refine (HAW.out _).mono ?_); rintro e W13 ⟨rfl, b13⟩; (have B13 := Lib.hid (below_more B9.out (Nat.le_refl _) b13)); clear b13))
    go_ret
    exact ⟨rfl, B13.out⟩
end Go.Proofs.Ytfkplnmhlpabaaa
