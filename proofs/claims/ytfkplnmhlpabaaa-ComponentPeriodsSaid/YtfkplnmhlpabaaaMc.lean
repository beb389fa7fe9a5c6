/- What grooveref10.Of returns: the walk. -/
import Derived.Test.YtfkplnmhlpabaaaMb
namespace Go.Proofs.Ytfkplnmhlpabaaa
open Go.RowKit Go.Shelf
set_option linter.unusedSimpArgs false
set_option linter.unusedVariables false

theorem Try.infoRowB : (Try.prog.info? 53).map (fun i => (i.zero, i.size, i.bytes)) = some (some (.slice none 0 0), 1, 24) := by kernel_rfl
def ROut (w : World) (rows : List (List Int)) (k : Int) (e : Ending) (w' : World) : Prop := ∃ v, e = .returned (.tuple #[v, .int .i64 k]) ∧ RowsRd w' v rows ∧ Below w.heap.size w w'
theorem emptyLit (W : World) (t : TypeId) : (W.alloc (.cells #[] t)).ownsRow W.heap.size t 1 (.slice (some ⟨W.heap.size, 0, none⟩) 0 0) 0 [] :=
  ⟨rfl, .inr ⟨W.heap.size, 0, #[], rfl, Nat.le_refl _, World.alloc_heap_new W _, Nat.le_refl 0, by decide, rfl, rfl⟩⟩
set_option maxRecDepth 100000 in
set_option maxHeartbeats 12800000 in
theorem refOf_good (La : Int) (n : Nat) (es : List E3) (v : Value) (w : World) (hrd : EdgesRd w v es) (hvg : VG La (n : Int) es) :
    Calls Try.prog 15 #[grV La (n : Int) v] w (ROut w (comps es n) 0) := by
  have hlen := hvg.len
  have hn64 : n ≤ 64 := by have := hvg.s2; omega
  obtain ⟨iB, hi, hz0, hz1, hz2⟩ := info_parts Try.infoRowB
  obtain ⟨iR, ri, rz0, rz1, rz2⟩ := info_parts Try.infoRow
  obtain ⟨iI, ii, iz0, iz1, iz2⟩ := info_parts Try.infoI64
  have HCK := Lib.hid (show ∀ W, EdgesRd W v es → Calls Try.prog 49 #[grV La (n : Int) v] W fun e w' => e = .returned (.int .i64 0) ∧ Below W.heap.size W w' from fun W h => by
    have q := rcheck_any La (n : Int) es v W h (by omega)
    rwa [hvg.chk] at q)
  have HRE := Lib.hid (fun (s : Nat) W (h : EdgesRd W v es) (hs : s < n) => reached_any La n es v s W h hn64 hvg.ok hlen hs)
  have HOK := Lib.hid hvg.ok
  have b1 := below1 w (.cells #[.int .i64 La, .int .i64 (n : Int), v] 24)
  have G1 := Lib.hid (BoxG.new w La (n : Int) v 24)
  have HB := Lib.hid b1
  have HRD := Lib.hid hrd
  obtain ⟨a, c, rfl⟩ := hrd.form
  obtain ⟨x1, x2, x3⟩ := id G1.out
  clear hrd hvg b1
  go_enter Try.func15, Try.ntmps15
  go_wp2_with (go_at_call 49; (with_reducible refine (HCK.out _ (HRD.out.keep HB.out)).mono ?_); rintro e W2 ⟨rfl, b2⟩; (have B2 := Lib.hid (below_more HB.out (Nat.le_refl _) b2)); (have G2 := Lib.hid (G1.out.keep b2)); clear b2 x1 x2 x3)
  have hw2 : w.heap.size < W2.heap.size := World.block_lt_of_cell? _ ⟨w.heap.size, 0, none⟩ G2.out.1
  have H0 : RB w La n (.slice a es.length c) es (.slice (some ⟨W2.heap.size, 0, none⟩) 0 0) [] (W2.alloc (.cells #[] 53)) :=
    ⟨G2.out.keep (below1 _ _), below_more B2.out (Nat.le_refl _) (below1 _ _), own_low (emptyLit W2 53) (by omega), fun j u' hj => by simp at hj⟩
  have HH0 := Lib.hid H0
  clear HB B2 G1 G2 HCK H0
  generalize W2.alloc (.cells #[] 53) = W3 at *
  go_loopg [4, 5] n (fun q s4 s5 wx => ∃ (s : Nat) (us : List Value) (u : Value), s + q = n ∧ s4 = u ∧ s5 = .int .i64 (s : Int) ∧ us.length = s ∧ Hid (RB w La n (.slice a es.length c) es u us wx))
  case atStart => exact ⟨0, [], _, by omega, rfl, rfl, rfl, HH0⟩
  case round =>
    clear HH0
    obtain ⟨s, us, u, hsn, hu4, rfl, hus, HM⟩ := hrel
    obtain ⟨au, cu, hu⟩ := own_slice HM.out.o
    rw [hus] at hu
    subst hu
    subst hu4
    obtain ⟨x1, x2, x3⟩ := id HM.out.g
    rcases gk with _ | q
    · obtain rfl : n = s := by omega
      go_wp2_with fail
      clear x1 x2 x3
      have hszw := HM.out.b.size
      have HGX := Lib.hid (fun X (h : Below wr.heap.size wr X) => HM.out.g.keep h)
      have HBX := Lib.hid (fun X (h : Below wr.heap.size wr X) => below_more HM.out.b (Nat.le_refl _) h)
      have HU := Lib.hid (show ∀ s, s < n → ∃ g4 bb, (Value.slice au n cu = .slice (some ⟨g4, 0, none⟩) n cu) ∧ wr.cell? ⟨g4, s, none⟩ = some (.slice (some ⟨bb, 0, none⟩) n n) ∧ BRow wr bb n (rb es n s) from fun s hs => by
        have ho := HM.out.o
        rw [hus] at ho
        obtain ⟨g4, c4, hv, -, -⟩ := World.ownsRow.form ho (by omega)
        injection hv with q1 q2 q3
        obtain ⟨u', hu'⟩ : ∃ u', us[s]? = some u' := ⟨_, List.getElem?_eq_getElem (by omega)⟩
        obtain ⟨bb, rfl, hb⟩ := HM.out.e s u' hu'
        subst q1
        refine ⟨g4, bb, rfl, ?_, hb⟩
        rw [World.ownsRow.cellAt ho s (by omega), hu'])
      have HM0 := Lib.hid (show MO wr ((repsK es n 0).map (compF es n)) (.slice (some ⟨wr.heap.size, 0, none⟩) 0 0) [] (wr.alloc (.cells #[] 34)) from ⟨below1 wr _, emptyLit wr _, rfl, fun j u' r hj hr => by simp at hj⟩)
      clear HM hus
      generalize wr.alloc (.cells #[] 34) = W6 at *
      go_loopg [6, 7] n (fun q s6 s7 wx => ∃ (s : Nat) (os : List Value) (uo : Value), s + q = n ∧ s6 = uo ∧ s7 = .int .i64 (s : Int) ∧ Hid (MO wr ((repsK es n s).map (compF es n)) uo os wx))
      case atStart => exact ⟨0, [], _, by omega, rfl, rfl, HM0⟩
      case round =>
        clear HM0
        obtain ⟨s, os, uo, hsn, hu6, rfl, HO⟩ := hrel
        obtain ⟨ao, co, huo⟩ := own_slice HO.out.o
        subst huo
        subst hu6
        obtain ⟨x1, x2, x3⟩ := id (HGX.out _ HO.out.b)
        rcases gk with _ | q
        · obtain rfl : n = s := by omega
          have HFIN := Lib.hid (HO.out.rd)
          have HBF := Lib.hid (HBX.out _ HO.out.b)
          have hl := HO.out.l
          rw [hl] at HFIN ⊢
          go_wp2_with fail
          exact bodyPost_ret (v := .tuple #[.slice ao ((repsK es n n).map (compF es n)).length co, .int .i64 0]) (by simp [results, Try.results15, go_sem]) rfl ⟨_, rfl, HFIN.out, HBF.out⟩
        · have hs : s < n := by omega
          have j1 : (s : Int) < (n : Int) := by omega
          obtain ⟨g4, bs, hv4, ks, rs⟩ := HU.out s hs
          injection hv4 with q1 q2 q3
          subst q1
          have KS := Lib.hid (fun X (h : Below wr.heap.size wr X) => cell_keep (cell_keep ks HO.out.b) h)
          have RSS := Lib.hid (fun X (h : Below wr.heap.size wr X) => (rs.keep HO.out.b).keep h)
          have HOK2 := Lib.hid (fun X (h : Below wr.heap.size wr X) => HO.out.keep h)
          have HB6 := Lib.hid (fun X (h : Below wr.heap.size wr X) => below_more HO.out.b (Nat.le_refl _) h)
          have hszo := HO.out.b.size
          have I0 := Lib.hid (show IntsAt (wr.alloc (.cells #[] 3)) wr.heap.size (.slice (some ⟨wr.heap.size, 0, none⟩) 0 0) (mems 0 (compB es n s)) from emptyLit wr 3)
          have B0 := Lib.hid (below1 wr (.cells #[] 3))
          clear q2 q3 ks rs HO
          go_wp2_with fail
          clear x1 x2 x3
          have F0 := Lib.hid (show frst es n s 0 = true from rfl)
          generalize wr.alloc (.cells #[] 3) = W7 at *
          go_loopg [8, 9, 10] n (fun q3 s8 s9 s10 wx => ∃ (t : Nat) (uc : Value) (F : Bool), t + q3 = n ∧ s8 = uc ∧ s9 = .bool F ∧ s10 = .int .i64 (t : Int) ∧ Hid (frst es n s t = F) ∧ Hid (Below wr.heap.size wr wx) ∧ Hid (IntsAt wx wr.heap.size uc (mems t (compB es n s))))
          case atStart => exact ⟨0, _, true, by omega, rfl, rfl, rfl, F0, B0, I0⟩
          case round =>
            clear B0 I0 F0
            obtain ⟨t, uc, F, htn, hu8, rfl, rfl, HF, HW, HI⟩ := hrel
            obtain ⟨x1, x2, x3⟩ := id (HGX.out _ (HB6.out _ HW.out))
            obtain ⟨ac, cc, huc⟩ := own_slice HI.out
            have hml := mems_len t (compB es n s)
            rcases gk with _ | q3
            · obtain rfl : n = t := by omega
              have HO := Lib.hid (HOK2.out _ HW.out)
              have HF2 := Lib.hid ((HF.out.symm.trans (frst_all hs)).symm)
              have hrs := repsK_step es n s
              have IC := Lib.hid (show IntsAt wr _ uc (compF es n s) from own_low HI.out hszo)
              have hol := HO.out.o
              obtain ⟨ml, hml2⟩ : ∃ ml, (mems n (compB es n s)).length = ml := ⟨_, rfl⟩
              rw [hml2] at huc
              subst huc
              subst hu8
              rw [HF2.out] at hrs
              have hol2 := HO.out.l
              have hrl := reps_len es n s
              rw [List.length_map] at hol2
              have hszr := HW.out.size
              obtain ⟨no, hno⟩ : ∃ no, os.length = no := ⟨_, rfl⟩
              have HNO := Lib.hid hno
              rw [hno] at hol hol2 ⊢
              cases F with
              | false =>
                have HO2 := Lib.hid (show MO _ ((repsK es n (s + 1)).map (compF es n)) (.slice ao no co) os wr by rw [hrs, if_neg (by decide), ← hno]; exact HO.out)
                clear hno hrs
                go_wp2_with fail
                go_roundg q
                case measure => omega
                case rel => exact ⟨s + 1, _, _, by omega, rfl, by go_num, HO2⟩
              | true =>
                have HRS := Lib.hid (show (repsK es n (s + 1)).map (compF es n) = (repsK es n s).map (compF es n) ++ [compF es n s] by rw [hrs, if_pos rfl, List.map_append]; rfl)
                rw [hno] at HO
                clear hno hrs
                go_wp2_with (at_builtin; refine wpList_append_own_at _ rfl _ _ 27 rfl _ 34 iR (.slice none 0 0) 1 24 Try.underlying27 ri rz0 rz1 rz2 rfl (by decide) _ _ _ rfl (hol.alloc _) ⟨wr.heap.size, 0, none⟩ 1 1 [.slice ac ml cc] rfl rfl (cell_one_new _ _ _) (by intro u hu; simp at hu; subst hu; rfl) (by unfold maxLen; omega) (by omega) (by rw [World.size_alloc]; omega) ?_; intro v' w4 hown4 hgrow4 _ _; (have H4 := Lib.hid (HO.out.app IC.out hgrow4 (by rw [HNO.out]; exact hown4))); clear hown4 hgrow4)
                go_roundg q
                case measure => omega
                case rel => exact ⟨s + 1, _, _, by omega, rfl, by go_num, by rw [HRS.out]; exact H4⟩
            · have ht : t < n := by omega
              have j2 : (t : Int) < (n : Int) := by omega
              obtain ⟨g4', bt, hv4, kt, rt⟩ := HU.out t ht
              injection hv4 with q1 q2' q3'
              injection q1 with q1
              injection q1 with q4 q5
              subst q4
              have ks := KS.out _ HW.out
              have cst := World.rowIs.cell (RSS.out _ HW.out) ht
              have kt := cell_keep kt (HB6.out _ HW.out)
              have cts := World.rowIs.cell (rt.keep (HB6.out _ HW.out)) hs
              obtain ⟨d1, hd1⟩ : ∃ d, rb es n s t = d := ⟨_, rfl⟩
              obtain ⟨d2, hd2⟩ : ∃ d, rb es n t s = d := ⟨_, rfl⟩
              have hcb : compB es n s t = (d1 && d2) := by show (rb es n s t && rb es n t s) = _; rw [hd1, hd2]
              rw [hd1] at cst
              rw [hd2] at cts
              have hfs := frst_step es n s t
              rw [HF.out, hcb] at hfs
              have hms := mems_succ t (compB es n s)
              rw [hcb] at hms
              have hsz := HW.out.size
              have hown := HI.out
              unfold IntsAt at hown
              have hlt := hown.lt
              obtain ⟨ml, hml2⟩ : ∃ ml, (mems t (compB es n s)).length = ml := ⟨_, rfl⟩
              have HML := Lib.hid hml2
              rw [hml2] at huc hown hml
              subst huc
              subst hu8
              clear q2' q3' q5 rt hd1 hd2 hcb hml2 HF
              rcases Bool.eq_false_or_eq_true (d1 && d2) with hd | hd
              · obtain ⟨rfl, rfl⟩ : d1 = true ∧ d2 = true := by simpa using hd
                have hm2 : mems (t + 1) (compB es n s) = mems t (compB es n s) ++ [(t : Int)] := by rw [hms]; simp
                have HM2 := Lib.hid hm2
                have hfs2 : frst es n s (t + 1) = (F && decide (s ≤ t)) := by rw [hfs]; rfl
                clear hms hm2 hfs hd
                have hcase : (F = false ∧ frst es n s (t + 1) = false) ∨ (F = true ∧ s ≤ t ∧ frst es n s (t + 1) = true) ∨ (F = true ∧ ¬ s ≤ t ∧ frst es n s (t + 1) = false) := by
                  cases F with
                  | false => exact .inl ⟨rfl, hfs2⟩
                  | true =>
                    by_cases h : s ≤ t
                    · exact .inr (.inl ⟨rfl, h, by rw [hfs2, decide_eq_true h]; rfl⟩)
                    · exact .inr (.inr ⟨rfl, h, by rw [hfs2, decide_eq_false h]; rfl⟩)
                rcases hcase with ⟨rfl, hF⟩ | ⟨rfl, hle, hF⟩ | ⟨rfl, hle, hF⟩
                · have HF2 := Lib.hid hF
                  clear hF hfs2
                  go_wp2_with (at_builtin; refine wpList_append_own_at _ rfl _ _ 34 rfl _ 3 iI (.int .i64 0) 1 8 Try.underlying34 ii iz0 iz1 iz2 rfl (by decide) _ _ _ rfl (hown.alloc _) ⟨wr.heap.size, 0, none⟩ 1 1 [.int .i64 (t : Int)] rfl rfl (cell_one_new _ _ _) (by intro u hu; simp at hu; subst hu; rfl) (by unfold maxLen; omega) (by omega) (by rw [World.size_alloc]; omega) ?_; intro v' w4 hown4 hgrow4 _ _; (have B4 := Lib.hid (Below.grown (HW.out.alloc HW.out.size (.cells #[.int .i64 (t : Int)] 3)) hgrow4 (by rw [World.size_alloc]; omega) (fun k e => by have := (hlt k e).1; omega))); (have L4 := Lib.hid (show IntsAt w4 _ v' (mems (t + 1) (compB es n s)) by unfold IntsAt; rw [HM2.out, intz_snoc, List.length_append, HML.out]; exact hown4)); clear hown4 hgrow4)
                  go_roundg q3
                  case measure => omega
                  case rel => exact ⟨t + 1, _, _, by omega, rfl, rfl, by go_num, HF2, B4, L4⟩
                · have HF2 := Lib.hid hF
                  have j5 : decide ((s : Int) ≤ (t : Int)) = true := decide_eq_true (by omega)
                  have j6 : (s : Int) ≤ (t : Int) := by omega
                  clear hF hfs2
                  go_wp2_with (at_builtin; refine wpList_append_own_at _ rfl _ _ 34 rfl _ 3 iI (.int .i64 0) 1 8 Try.underlying34 ii iz0 iz1 iz2 rfl (by decide) _ _ _ rfl (hown.alloc _) ⟨wr.heap.size, 0, none⟩ 1 1 [.int .i64 (t : Int)] rfl rfl (cell_one_new _ _ _) (by intro u hu; simp at hu; subst hu; rfl) (by unfold maxLen; omega) (by omega) (by rw [World.size_alloc]; omega) ?_; intro v' w4 hown4 hgrow4 _ _; (have B4 := Lib.hid (Below.grown (HW.out.alloc HW.out.size (.cells #[.int .i64 (t : Int)] 3)) hgrow4 (by rw [World.size_alloc]; omega) (fun k e => by have := (hlt k e).1; omega))); (have L4 := Lib.hid (show IntsAt w4 _ v' (mems (t + 1) (compB es n s)) by unfold IntsAt; rw [HM2.out, intz_snoc, List.length_append, HML.out]; exact hown4)); clear hown4 hgrow4)
                  go_roundg q3
                  case measure => omega
                  case rel => exact ⟨t + 1, _, _, by omega, rfl, rfl, by go_num, HF2, B4, L4⟩
                · have HF2 := Lib.hid hF
                  have j5 : decide ((s : Int) ≤ (t : Int)) = false := decide_eq_false (by omega)
                  have j6 : ¬ (s : Int) ≤ (t : Int) := by omega
                  clear hF hfs2
                  go_wp2_with (at_builtin; refine wpList_append_own_at _ rfl _ _ 34 rfl _ 3 iI (.int .i64 0) 1 8 Try.underlying34 ii iz0 iz1 iz2 rfl (by decide) _ _ _ rfl (hown.alloc _) ⟨wr.heap.size, 0, none⟩ 1 1 [.int .i64 (t : Int)] rfl rfl (cell_one_new _ _ _) (by intro u hu; simp at hu; subst hu; rfl) (by unfold maxLen; omega) (by omega) (by rw [World.size_alloc]; omega) ?_; intro v' w4 hown4 hgrow4 _ _; (have B4 := Lib.hid (Below.grown (HW.out.alloc HW.out.size (.cells #[.int .i64 (t : Int)] 3)) hgrow4 (by rw [World.size_alloc]; omega) (fun k e => by have := (hlt k e).1; omega))); (have L4 := Lib.hid (show IntsAt w4 _ v' (mems (t + 1) (compB es n s)) by unfold IntsAt; rw [HM2.out, intz_snoc, List.length_append, HML.out]; exact hown4)); clear hown4 hgrow4)
                  go_roundg q3
                  case measure => omega
                  case rel => exact ⟨t + 1, _, _, by omega, rfl, rfl, by go_num, HF2, B4, L4⟩
              · have HI2 := Lib.hid (show IntsAt wr _ (.slice ac ml cc) (mems (t + 1) (compB es n s)) by rw [hms, hd]; simpa using HI.out)
                have HF2 := Lib.hid (show frst es n s (t + 1) = F by rw [hfs, hd]; simp)
                clear hms hfs hown hlt
                cases d1 with
                | false =>
                  go_wp2_with fail
                  go_roundg q3
                  case measure => omega
                  case rel => exact ⟨t + 1, _, _, by omega, rfl, rfl, by go_num, HF2, HW, HI2⟩
                | true =>
                  obtain rfl : d2 = false := by simpa using hd
                  go_wp2_with fail
                  go_roundg q3
                  case measure => omega
                  case rel => exact ⟨t + 1, _, _, by omega, rfl, rfl, by go_num, HF2, HW, HI2⟩
    · have hs : s < n := by omega
      have j1 : (s : Int) < (n : Int) := by omega
      have HRS := Lib.hid (HRE.out s wr (HRD.out.keep HM.out.b) hs)
      have HUS := Lib.hid hus
      clear hus
      go_wp2_with (first
        | (go_at_call 50; (with_reducible refine HRS.out.mono ?_); rintro e W5 ⟨bb, rfl, r5, -, b5⟩; (have M5 := Lib.hid (HM.out.keep b5)); (have I5 := Lib.hid (show BRow W5 bb n (rb es n us.length) by rw [HUS.out]; exact r5)); (have hown := M5.out.o); (rw [HUS.out] at hown); (have hsz : w.heap.size < W5.heap.size := World.block_lt_of_cell? _ ⟨w.heap.size, 0, none⟩ M5.out.g.1); clear r5 b5 x1 x2 x3)
        | (at_builtin; refine wpList_append_own_at _ rfl _ _ 60 rfl (w.heap.size + 1) 53 iB (.slice none 0 0) 1 24 Try.underlying60 hi hz0 hz1 hz2 rfl (by decide) _ _ _ rfl (hown.alloc _) ⟨W5.heap.size, 0, none⟩ 1 1 [.slice (some ⟨bb, 0, none⟩) n n] rfl rfl (cell_one_new _ _ _) (by intro u hu; simp at hu; subst hu; rfl) (by unfold maxLen; omega) (by omega) (by rw [World.size_alloc]; omega) ?_; intro v' w4 hown4 hgrow4 _ _; (have H4 := Lib.hid (M5.out.app I5.out hgrow4 (by rw [HUS.out]; exact hown4))); clear hown4 hgrow4))
      go_roundg q
      case measure => omega
      case rel => exact ⟨s + 1, _, _, by omega, rfl, by go_num, by rw [List.length_append, HUS.out]; rfl, H4⟩
end Go.Proofs.Ytfkplnmhlpabaaa
