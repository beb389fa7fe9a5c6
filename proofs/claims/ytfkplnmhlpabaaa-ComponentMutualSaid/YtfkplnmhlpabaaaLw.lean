/- ComponentMutual: the walk. Condition: the edges can be read. -/
import Derived.Test.YtfkplnmhlpabaaaKq
import Derived.Test.YtfkplnmhlpabaaaKz
import Derived.Test.YtfkplnmhlpabaaaLm
namespace Go.Proofs.Ytfkplnmhlpabaaa
open Go.RowKit Go.Shelf
set_option linter.unusedSimpArgs false
set_option linter.unusedVariables false

/-- Between two statements: X3 is the world after Of, the row of numbers is its next block. -/
structure MU (X3 : World) (n : Nat) (f : Nat → Int) (X : World) : Prop where
  b : Below X3.heap.size X3 X
  r : IRow X X3.heap.size n f
structure MR (X3 : World) (n : Nat) (f : Nat → Int) (ls : Nat → List Int) (u : Value) (us : List Value) (X : World) : Prop where
  m : MU X3 n f X
  o : X.ownsRow (X3.heap.size + 1) 34 1 u us.length us
  e : ∀ (j : Nat) (u' : Value), us[j]? = some u' → IntsAt X (X3.heap.size + 1) u' (ls j)
section
variable {X3 X Y : World} {n : Nat} {f g : Nat → Int} {ls : Nat → List Int} {u u' v : Value} {us : List Value}
theorem MU.keep (h : MU X3 n f X) (hb : Below X.heap.size X Y) : MU X3 n f Y := ⟨below_more h.b (Nat.le_refl _) hb, h.r.keep hb⟩
theorem MU.set (h : MU X3 n f X) (t : Nat) (x : Int) : MU X3 n (fun j => if j = t then x else f j) (X.setCell ⟨X3.heap.size, t, none⟩ (.int .i64 x)) := ⟨h.b.setCell (Nat.le_refl _) _, h.r.set t x⟩
theorem MU.congr (h : MU X3 n f X) (e : ∀ i, i < n → f i = g i) : MU X3 n g X := ⟨h.b, h.r.congr e⟩
theorem MU.start (X3 : World) (n : Nat) : MU X3 n (fun _ => 0) (X3.alloc (.cells (madeCells #[.int .i64 0] n) 3)) := ⟨below1 X3 _, IRow.made X3 n⟩
theorem MR.keep (h : MR X3 n f ls u us X) (hb : Below X.heap.size X Y) : MR X3 n f ls u us Y := ⟨h.m.keep hb, World.ownsRow.kept h.o (grown_none hb) (by cases u.ownBlock <;> simp), fun j u' hj => (h.e j u' hj).keep hb⟩
theorem MR.app (h : MR X3 n f ls u us X) {o : Obj} (hu : IntsAt X (X3.heap.size + 1) u' (ls us.length)) (hg : (X.alloc o).grownBy Y u.ownBlock) (ho : Y.ownsRow (X3.heap.size + 1) 34 1 v (us.length + 1) (us ++ [u'])) : MR X3 n f ls v (us ++ [u']) Y := by
  have hlt := h.o.lt
  have hsz := h.m.b.size
  have hA := h.m.r.lt
  have hk : ∀ {z : Value} {l : List Int}, IntsAt X (X3.heap.size + 1) z l → IntsAt Y (X3.heap.size + 1) z l := fun hz => World.ownsRow.kept (hz.keep (below1 X o)) hg (row_types hz h.o (by decide))
  refine ⟨⟨Below.grown (h.m.b.alloc h.m.b.size o) hg (by rw [World.size_alloc]; omega) (fun q e => by have := (hlt q e).1; omega), World.rowIs.of_block h.m.r ((hg.block _ (by rw [World.size_alloc]; omega) (fun e => by have := (hlt _ e.symm).1; omega)).trans (Below.heap_alloc _ _ _ hA))⟩, by rw [List.length_append]; exact ho, fun j z hj => ?_⟩
  by_cases hjl : j < us.length
  · rw [List.getElem?_append_left hjl] at hj
    exact hk (h.e j z hj)
  · rw [List.getElem?_append_right (by omega)] at hj
    have e0 : j - us.length = 0 := by have := (List.getElem?_eq_some_iff.1 hj).1; simp at this; omega
    rw [e0] at hj
    simp at hj
    subst hj
    obtain rfl : j = us.length := by omega
    exact hk hu
end
set_option maxRecDepth 100000 in
set_option maxHeartbeats 12800000 in
theorem compMutual_any (L S : Int) (es : List E3) (v : Value) (w : World) (hrd : EdgesRd w v es) (hn : es.length ≤ 9223372036854775807) :
    Calls Try.prog 5 #[grV L S v] w fun e w' => e = .returned (.bool true) ∧ Below w.heap.size w w' := by
  have b1 := below1 w (.cells #[.int .i64 L, .int .i64 S, v] 24)
  have G1 := Lib.hid (BoxG.new w L S v 24)
  have HB := Lib.hid b1
  have HRD := Lib.hid hrd
  have HF := Lib.hid (fun W h => fineC_any L S es v W h hn)
  have HAW := Lib.hid (fun W => awake_any W)
  obtain ⟨x1, x2, x3⟩ := id G1.out
  cases hf : fineC L S es with
  | false =>
    rw [hf] at HF
    obtain ⟨a, c, rfl⟩ := hrd.form
    clear hrd b1 hf
    go_enter Try.func5, Try.ntmps5
    go_wp2_with (first
      | (go_at_call 30; (with_reducible refine (HF.out _ (HRD.out.keep HB.out)).mono ?_); rintro e W2 ⟨rfl, b2⟩; (have B2 := Lib.hid (below_more HB.out (Nat.le_refl _) b2)); clear b2 x1 x2 x3)
      | (go_at_call 13; (with_reducible refine (HAW.out _).mono ?_); rintro e W3 ⟨rfl, b3⟩; (have B3 := Lib.hid (below_more B2.out (Nat.le_refl _) b3)); clear b3))
    go_ret
    exact ⟨rfl, B3.out⟩
  | true =>
    rw [hf] at HF
    have h0 := fineC_true hf
    have hvg := chkG_zero h0
    have hs1 := hvg.s1
    have hs2 := hvg.s2
    have hlen := hvg.len
    obtain ⟨n, rfl⟩ : ∃ n : Nat, S = (n : Int) := ⟨S.toNat, by omega⟩
    have hn64 : n ≤ 64 := by omega
    have HOF := Lib.hid (fun W h => of_any L (n : Int) es v W h (by omega))
    have HRE := Lib.hid (show ∀ (s : Nat) (W : World), s < n → EdgesRd W v es → Calls Try.prog 23 #[grV L (n : Int) v, .int .i64 (s : Int)] W (IOutC W (mems n (rb es n s)) 0) from fun s W hs h => by
      have q := reach_any L (n : Int) (s : Int) es v W h (by omega)
      have q1 : reachR L (n : Int) es (s : Int) = mems n (rb es n s) := by unfold reachR; rw [if_pos h0, if_pos (by omega)]; rfl
      have q2 : reachE L (n : Int) es (s : Int) = 0 := by unfold reachE; rw [if_pos h0, if_pos (by omega)]
      rwa [q1, q2] at q)
    have e0 : errC L (n : Int) es = 0 := by unfold errC; rw [if_pos h0]
    have e1 : partsR L (n : Int) es (fun _ => true) = comps es n := by unfold partsR; rw [if_pos h0, Int.toNat_natCast]; exact List.filter_eq_self.2 (fun _ _ => rfl)
    rw [e0, e1] at HOF
    have HMI := make_ints n (by omega)
    obtain ⟨i0, hi, hz0, hz1, hz2⟩ := info_parts Try.infoRow
    have HD := Lib.hid (comps_dj hvg.ok)
    have HPG := Lib.hid (fun t (ht : t < n) => pos_ge hvg.ok ht)
    have HPS := Lib.hid (fun s t (hs : s < n) (ht : t < n) => pos_same hvg.ok hs ht)
    have HRW := Lib.hid (fun (i : Nat) c (hc : (comps es n)[i]? = some c) => show ∃ r : Nat, (repsK es n n)[i]? = some r ∧ c[0]? = some (r : Int) ∧ c.Pairwise (· < ·) ∧ c.length ≤ 64 ∧ ∀ x ∈ c, ∃ y : Nat, x = (y : Int) ∧ y < n from by
      obtain ⟨r, q1, q2, rfl⟩ := comps_at hc
      refine ⟨r, q1, compF_head hvg.ok q2, compF_asc _ _ _, Nat.le_trans (compF_len _ _ _) hn64, fun x hx => ?_⟩
      obtain ⟨y, rfl, hy, -⟩ := (compF_mem hvg.ok (reps_lt q2).1).1 hx
      exact ⟨y, rfl, hy⟩)
    have hkl : (comps es n).length ≤ 64 := Nat.le_trans (comps_len es n) hn64
    obtain ⟨K, hK⟩ : ∃ K, comps es n = K := ⟨_, rfl⟩
    rw [hK] at HOF HD HPG HPS HRW hkl
    obtain ⟨a, c, rfl⟩ := hrd.form
    clear hrd b1 h0 hvg e0 e1 hK hf
    go_enter Try.func5, Try.ntmps5
    go_wp2_with (first
      | (go_at_call 30; (with_reducible refine (HF.out _ (HRD.out.keep HB.out)).mono ?_); rintro e W2 ⟨rfl, b2⟩; (have B2 := Lib.hid (below_more HB.out (Nat.le_refl _) b2)); (have G2 := Lib.hid (G1.out.keep b2)); clear b2 x1 x2 x3; (obtain ⟨x1, x2, x3⟩ := id G2.out))
      | (go_at_call 14; (with_reducible refine (HOF.out _ (HRD.out.keep B2.out)).mono ?_); rintro e W3 ⟨v3, rfl, r3, b3, -⟩; (have B3 := Lib.hid (below_more B2.out (Nat.le_refl _) b3)); (have G3 := Lib.hid (G2.out.keep b3)); (have R3 := Lib.hid r3); (have M3 := Lib.hid (MU.start W3 n)); (obtain ⟨a3, c3, rfl⟩ := r3.form); clear b3 r3 x1 x2 x3; (obtain ⟨x1, x2, x3⟩ := id G3.out)))
    clear x1 x2 x3 HB B2 G1 G2 HF HOF
    generalize W3.alloc (.cells (madeCells #[.int .i64 0] n) 3) = W4 at *
    have HWB := Lib.hid (fun X (h : Below W3.heap.size W3 X) => below_more B3.out (Nat.le_refl _) h)
    have HWG := Lib.hid (fun X (h : Below W3.heap.size W3 X) => G3.out.keep h)
    have HWR := Lib.hid (fun X (h : Below W3.heap.size W3 X) => R3.out.keep h)
    have HWE := Lib.hid (fun X (h : Below W3.heap.size W3 X) => HRD.out.keep (below_more B3.out (Nat.le_refl _) h))
    go_loopg [33] n (fun q s33 wx => ∃ i : Nat, i + q = n ∧ s33 = .int .i64 (i : Int) ∧ Hid (MU W3 n (fun t => if t < i then -1 else 0) wx))
    case atStart => exact ⟨0, by omega, rfl, Lib.hid (M3.out.congr (fun i _ => by rw [if_neg (by omega)]))⟩
    case round =>
      clear M3
      obtain ⟨i, hin, rfl, HM⟩ := hrel
      rcases gk with _ | q
      · obtain rfl : n = i := by omega
        have HM0 := Lib.hid (HM.out.congr (g := posK K 0) (fun t ht => by show (if t < n then (-1 : Int) else 0) = -1; rw [if_pos ht]))
        clear HM
        go_wp2_with fail
        go_loopg [42] K.length (fun q s42 wx => ∃ k : Nat, k + q = K.length ∧ s42 = .int .i64 (k : Int) ∧ Hid (MU W3 n (posK K k) wx))
        case atStart => exact ⟨0, by omega, rfl, HM0⟩
        case round =>
          clear HM0
          obtain ⟨k, hk, rfl, HM⟩ := hrel
          rcases gk with _ | q
          · obtain rfl : k = K.length := by omega
            obtain ⟨F, hF⟩ : ∃ F, posK K K.length = F := ⟨_, rfl⟩
            have HFG := Lib.hid (fun t (ht : t < n) => hF ▸ HPG.out t ht)
            have HFS := Lib.hid (fun s t (hs : s < n) (ht : t < n) => hF ▸ HPS.out s t hs ht)
            rw [hF] at HM
            obtain ⟨ls, hls⟩ : ∃ ls : Nat → List Int, (fun j => mems n (rb es n j)) = ls := ⟨_, rfl⟩
            have HLS := Lib.hid hls
            have H0 : MR W3 n F ls (.slice none 0 0) [] wr := ⟨HM.out, ⟨rfl, .inl ⟨rfl, rfl⟩⟩, fun j u' hj => by simp at hj⟩
            have HH0 := Lib.hid H0
            clear hF hls H0 HM
            go_wp2_with fail
            go_loopg [11, 101] n (fun q s11 s101 wx => ∃ (s : Nat) (us : List Value) (u : Value), s + q = n ∧ s101 = .int .i64 (s : Int) ∧ s11 = u ∧ us.length = s ∧ Hid (MR W3 n F ls u us wx))
            case atStart => exact ⟨0, [], _, by omega, rfl, rfl, rfl, HH0⟩
            case round =>
              clear HH0
              obtain ⟨s, us, u, hsn, rfl, hu11, hus, HM⟩ := hrel
              obtain ⟨au, cu, hu⟩ := own_slice HM.out.o
              rw [hus] at hu
              subst hu
              subst hu11
              rcases gk with _ | q
              · obtain rfl : n = s := by omega
                go_wp2_with fail
                go_loopg [126] n (fun q s126 wx => ∃ s : Nat, s + q = n ∧ s126 = .int .i64 (s : Int) ∧ Hid (MR W3 n F ls (.slice au n cu) us wx))
                case atStart => exact ⟨0, by omega, rfl, HM⟩
                case round =>
                  clear HM
                  obtain ⟨s, hsn, rfl, HM⟩ := hrel
                  rcases gk with _ | q
                  · obtain rfl : n = s := by omega
                    have HWW := Lib.hid (HWB.out _ HM.out.m.b)
                    go_wp2_with (go_at_call 13; (with_reducible refine (HAW.out _).mono ?_); rintro e W5 ⟨rfl, b5⟩; (have B5 := Lib.hid (below_more HWW.out (Nat.le_refl _) b5)); clear b5)
                    go_ret
                    exact ⟨rfl, B5.out⟩
                  · have hs : s < n := by omega
                    have j1 : (s : Int) < (n : Int) := by omega
                    go_wp2_with fail
                    go_loopg [131] n (fun q2 s131 wx => ∃ t : Nat, t + q2 = n ∧ s131 = .int .i64 (t : Int) ∧ Hid (MR W3 n F ls (.slice au n cu) us wx))
                    case atStart => exact ⟨0, by omega, rfl, HM⟩
                    case round =>
                      clear HM
                      obtain ⟨t, htn, rfl, HM⟩ := hrel
                      rcases gk with _ | q2
                      · obtain rfl : n = t := by omega
                        go_wp2_with fail
                        go_roundg q
                        case measure => omega
                        case rel => exact ⟨s + 1, by omega, by go_num, HM⟩
                      · have ht : t < n := by omega
                        have j2 : (t : Int) < (n : Int) := by omega
                        have c1 := HM.out.m.r.cell hs
                        have c2 := HM.out.m.r.cell ht
                        have he := HFS.out s t hs ht
                        obtain ⟨z1, hz1'⟩ : ∃ z, F s = z := ⟨_, rfl⟩
                        obtain ⟨z2, hz2'⟩ : ∃ z, F t = z := ⟨_, rfl⟩
                        rw [hz1'] at c1 he
                        rw [hz2'] at c2 he
                        have hown := HM.out.o
                        rw [hus] at hown
                        obtain ⟨g', cap', hv, -, -⟩ := World.ownsRow.form hown (by omega)
                        injection hv with q1 q2' q3
                        subst q1
                        obtain ⟨u1, hu1⟩ : ∃ u1, us[s]? = some u1 := ⟨_, List.getElem?_eq_getElem (by omega)⟩
                        obtain ⟨u2, hu2⟩ : ∃ u2, us[t]? = some u2 := ⟨_, List.getElem?_eq_getElem (by omega)⟩
                        have k1 := World.ownsRow.cellAt hown s (by omega)
                        have k2 := World.ownsRow.cellAt hown t (by omega)
                        rw [hu1] at k1
                        rw [hu2] at k2
                        have i1 := HM.out.e s u1 hu1
                        have i2 := HM.out.e t u2 hu2
                        rw [← HLS.out] at i1 i2
                        dsimp only at i1 i2
                        have l1 := mems_len n (rb es n s)
                        have l2 := mems_len n (rb es n t)
                        have H1 := Lib.hid (fun q => mems_dec (f := rb es n s) ht ▸ has_any _ (t : Int) u1 (wr.drewN q) (i1.rd.keep (below_drewM (Below.refl _ _) q)) (by omega))
                        have H2 := Lib.hid (fun q => mems_dec (f := rb es n t) hs ▸ has_any _ (s : Int) u2 (wr.drewN q) (i2.rd.keep (below_drewM (Below.refl _ _) q)) (by omega))
                        obtain ⟨a1, cc1, rfl⟩ := own_slice i1
                        obtain ⟨a2, cc2, rfl⟩ := own_slice i2
                        have HMD := Lib.hid (fun q => HM.out.keep (below_drewM (Below.refl _ _) q))
                        obtain ⟨d1, hd1⟩ : ∃ d, rb es n s t = d := ⟨_, rfl⟩
                        obtain ⟨d2, hd2⟩ : ∃ d, rb es n t s = d := ⟨_, rfl⟩
                        rw [hd1] at H1 he
                        rw [hd2] at H2 he
                        obtain ⟨m1, hm1⟩ : ∃ m, (mems n (rb es n s)).length = m := ⟨_, rfl⟩
                        obtain ⟨m2, hm2⟩ : ∃ m, (mems n (rb es n t)).length = m := ⟨_, rfl⟩
                        rw [hm1] at H1 k1
                        rw [hm2] at H2 k2
                        clear i1 i2 l1 l2 hu1 hu2 hz1' hz2' hd1 hd2 hm1 hm2 q2' q3 hown
                        cases d1 <;> cases d2
                        all_goals
                          go_upto_region 40 with fail
                          go_quiet (first
                            | (go_at_call_of 32 t; refine Calls.quiet_of_same (H1.out _))
                            | (go_at_call_of 32 s; refine Calls.quiet_of_same (H2.out _)))
                          go_wp2_with fail
                          go_roundg q2
                          case measure => omega
                          case rel => exact ⟨t + 1, by omega, by go_num, Lib.hid (HMD.out _)⟩
              · have hs : s < n := by omega
                have c1 := HM.out.m.r.cell hs
                have HGE := HFG.out s hs
                obtain ⟨z, hz⟩ : ∃ z, F s = z := ⟨_, rfl⟩
                rw [hz] at c1 HGE
                have HC1 := Lib.hid (fun Y (h : Below wr.heap.size wr Y) => cell_keep c1 h)
                have dz : decide (z < 0) = false := decide_eq_false (by omega)
                have HRS := Lib.hid (fun W h => HRE.out s W hs h)
                obtain ⟨x1, x2, x3⟩ := id (HWG.out wr HM.out.m.b)
                have HEW := Lib.hid (HWE.out wr HM.out.m.b)
                have j1 : (s : Int) < (n : Int) := by omega
                have HUS := Lib.hid hus
                clear hz hus c1
                go_wp2_with (first
                  | (go_at_call 23; (with_reducible refine (HRS.out _ HEW.out).mono ?_); rintro e W5 ⟨u5, rfl, i5, b5⟩; (have M5 := Lib.hid (HM.out.keep b5)); (have c1 := HC1.out _ b5); (obtain ⟨a5, c5, hu5⟩ := own_slice i5); (have I5 := Lib.hid (show IntsAt W5 (W3.heap.size + 1) u5 (ls us.length) by rw [HUS.out, ← HLS.out]; exact own_low i5 (by have := HM.out.m.r.lt; omega))); (obtain ⟨m5, hm5⟩ : ∃ m5, (mems n (rb es n s)).length = m5 := ⟨_, rfl⟩); (rw [hm5] at hu5); (subst hu5); (have hown := M5.out.o); (rw [HUS.out] at hown); (have hsz := M5.out.m.r.lt); clear hm5 i5 b5 x1 x2 x3)
                  | (at_builtin; refine wpList_append_own_at _ rfl _ _ 27 rfl (W3.heap.size + 1) 34 i0 (.slice none 0 0) 1 24 Try.underlying27 hi hz0 hz1 hz2 rfl (by decide) _ _ _ rfl (hown.alloc _) ⟨W5.heap.size, 0, none⟩ 1 1 [.slice a5 m5 c5] rfl rfl (cell_one_new _ _ _) (by intro u hu; simp at hu; subst hu; rfl) (by unfold maxLen; omega) (by omega) (by rw [World.size_alloc]; omega) ?_; intro v' w4 hown4 hgrow4 _ _; (have H4 := Lib.hid (M5.out.app I5.out hgrow4 (by rw [HUS.out]; exact hown4))); clear hown4 hgrow4))
                go_roundg q
                case measure => omega
                case rel => exact ⟨s + 1, _, _, by omega, by go_num, rfl, by rw [List.length_append, HUS.out]; rfl, H4⟩
          · obtain ⟨row, hrow⟩ : ∃ e, K[k]? = some e := ⟨_, List.getElem?_eq_getElem (by omega)⟩
            have HR0 := Lib.hid R3.out
            obtain ⟨b, off, c', u, hv, k1, r1⟩ := HR0.out.at hrow
            injection hv with e1 e2 e3
            subst e1
            obtain ⟨r, hr, hh, hasc, hl64, hnat⟩ := HRW.out k row hrow
            obtain ⟨bu, ou, cu, rfl, k2⟩ := r1.at hh
            rw [Nat.add_zero] at k2
            have HI := Lib.hid r1
            have r1 := r1.keep HM.out.b
            have k1 := cell_keep k1 HM.out.b
            have k2 := cell_keep k2 HM.out.b
            have hl0 : 0 < row.length := (List.getElem?_eq_some_iff.1 hh).1
            have HS := Lib.hid (fun q => sorted_any row (.slice (some ⟨bu, ou, none⟩) row.length cu) (wr.drewN q) (r1.keep (below_drewM (Below.refl _ _) q)) (by omega) hl0 hasc)
            have HG : K.getD k [] = row := by rw [List.getD_eq_getElem?_getD, hrow]; rfl
            have HGG := Lib.hid HG
            have HAS := Lib.hid hasc
            have HNT := Lib.hid hnat
            have j1 : (k : Int) < (K.length : Int) := by omega
            obtain ⟨m, hm⟩ : ∃ m, row.length = m := ⟨_, rfl⟩
            have HMM := Lib.hid hm
            have HRO := Lib.hid hrow
            rw [hm] at k1 HI hl64 hl0 HS
            have d0 : ((m : Int) == 0) = false := by rw [beq_eq_false_iff_ne]; omega
            have d0' : (m == 0) = false := by rw [beq_eq_false_iff_ne]; omega
            have j3 : (0 : Int) < (m : Int) := by omega
            have key : ∀ nq, MU W3 n (posK K k) (wr.drewN nq) := fun nq => HM.out.keep (below_drewM (Below.refl _ _) nq)
            have HKY := Lib.hid key
            clear r1 hasc hnat hm HG e2 e3 key
            rcases Nat.eq_zero_or_pos k with hk0 | hk0
            · have j9 : decide ((0 : Int) < (k : Int)) = false := decide_eq_false (by omega)
              have j10 : decide (0 < k) = false := decide_eq_false (by omega)
              clear hk0
              go_upto_region 15 with fail
              go_quiet ((go_at_call 31; refine Calls.quiet_of (HS.out _)))
              go_wp2_with fail
              rename_i nq
              have HM1 := Lib.hid ((HKY.out nq).congr (g := midK K k 0) (fun t _ => (midK_zero k t).symm))
              generalize World.drewN wr nq = W5 at *
              clear HM HKY
              go_loopg [74] m (fun q2 s74 wx => ∃ j : Nat, j + q2 = m ∧ s74 = .int .i64 (j : Int) ∧ Hid (MU W3 n (midK K k j) wx))
              case atStart => exact ⟨0, by omega, rfl, HM1⟩
              case round =>
                clear HM1
                obtain ⟨j, hj, rfl, HM⟩ := hrel
                rcases gk with _ | q2
                · obtain rfl : m = j := by omega
                  have HM2 := Lib.hid (HM.out.congr (g := posK K (k + 1)) (fun t _ => midK_all (by rw [HGG.out, HMM.out]; exact Nat.le_refl _) t))
                  go_wp2_with fail
                  go_roundg q
                  case measure => omega
                  case rel => exact ⟨k + 1, by omega, by go_num, HM2⟩
                · obtain ⟨x, hx⟩ : ∃ x, row[j]? = some x := ⟨_, List.getElem?_eq_getElem (by rw [HMM.out]; omega)⟩
                  obtain ⟨y, rfl, hy⟩ := HNT.out x (List.mem_of_getElem? hx)
                  obtain ⟨bu', ou', cu', hv', kx⟩ := (HI.out.keep HM.out.b).at hx
                  injection hv' with q1 q2' q3
                  injection q1 with q1
                  injection q1 with q4 q5
                  subst q4 q5
                  have hx' : (K.getD k [])[j]? = some (y : Int) := by rw [HGG.out]; exact hx
                  have c1 := HM.out.r.cell hy
                  have f1 := HM.out.r.frozen y
                  rw [midK_new HD.out hx' (by rw [HGG.out]; exact HAS.out)] at c1
                  have H2 := Lib.hid ((HM.out.set y (k : Int)).congr (g := midK K k (j + 1)) (fun t _ => (midK_step hx' t).symm))
                  have j11 : (j : Int) < (m : Int) := by omega
                  have j12 : (y : Int) < (n : Int) := by omega
                  have j13 : decide ((n : Int) ≤ (y : Int)) = false := decide_eq_false (by omega)
                  have j14 : decide (n ≤ y) = false := decide_eq_false (by omega)
                  obtain ⟨x1, x2, x3⟩ := id (HWG.out wr HM.out.b)
                  clear hx hx' q2' q3 hy
                  go_wp2_with fail
                  go_roundg q2
                  case measure => omega
                  case rel => exact ⟨j + 1, by omega, by go_num, H2⟩
            · obtain ⟨k', hkk⟩ : ∃ k', k' + 1 = k := ⟨k - 1, by omega⟩
              obtain ⟨row', hrow'⟩ : ∃ e, K[k']? = some e := ⟨_, List.getElem?_eq_getElem (by omega)⟩
              obtain ⟨b3, off3, c3', u3, hv3, k3, r3⟩ := HR0.out.at hrow'
              injection hv3 with e4 e5 e6
              injection e4 with e4
              injection e4 with e7 e8
              subst e7 e8
              obtain ⟨r', hr', hh', -⟩ := HRW.out k' row' hrow'
              obtain ⟨bw, ow, cw, rfl, k4⟩ := r3.at hh'
              rw [Nat.add_zero] at k4
              have k3 := cell_keep k3 HM.out.b
              have k4 := cell_keep k4 HM.out.b
              have hlt := heads_lt hr' (by rw [hkk]; exact hr)
              have hl0' : 0 < row'.length := (List.getElem?_eq_some_iff.1 hh').1
              obtain ⟨m', hm'⟩ : ∃ m', row'.length = m' := ⟨_, rfl⟩
              rw [hm'] at k3 hl0'
              have w1 : IntKind.i64.wrap ((k : Int) - 1) = (k' : Int) := by rw [IntKind.wrap_i64]; omega
              have j4 : (k' : Int) < (K.length : Int) := by omega
              have j5 : (0 : Int) < (m' : Int) := by omega
              have j6 : decide ((r : Int) ≤ (r' : Int)) = false := decide_eq_false (by omega)
              have j7 : decide (r ≤ r') = false := decide_eq_false (by omega)
              have j8 : (0 : Int) < (k : Int) := by omega
              clear hrow' hr' hh' hr hrow r3 e5 e6 hm' hh hkk
              go_upto_region 15 with fail
              go_quiet ((go_at_call 31; refine Calls.quiet_of (HS.out _)))
              go_wp2_with fail
              rename_i nq hqq
              have HM1 := Lib.hid ((HKY.out nq).congr (g := midK K k 0) (fun t _ => (midK_zero k t).symm))
              generalize World.drewN wr nq = W5 at *
              clear HM HKY
              go_loopg [74] m (fun q2 s74 wx => ∃ j : Nat, j + q2 = m ∧ s74 = .int .i64 (j : Int) ∧ Hid (MU W3 n (midK K k j) wx))
              case atStart => exact ⟨0, by omega, rfl, HM1⟩
              case round =>
                clear HM1
                obtain ⟨j, hj, rfl, HM⟩ := hrel
                rcases gk with _ | q2
                · obtain rfl : m = j := by omega
                  have HM2 := Lib.hid (HM.out.congr (g := posK K (k + 1)) (fun t _ => midK_all (by rw [HGG.out, HMM.out]; exact Nat.le_refl _) t))
                  go_wp2_with fail
                  go_roundg q
                  case measure => omega
                  case rel => exact ⟨k + 1, by omega, by go_num, HM2⟩
                · obtain ⟨x, hx⟩ : ∃ x, row[j]? = some x := ⟨_, List.getElem?_eq_getElem (by rw [HMM.out]; omega)⟩
                  obtain ⟨y, rfl, hy⟩ := HNT.out x (List.mem_of_getElem? hx)
                  obtain ⟨bu', ou', cu', hv', kx⟩ := (HI.out.keep HM.out.b).at hx
                  injection hv' with q1 q2' q3
                  injection q1 with q1
                  injection q1 with q4 q5
                  subst q4 q5
                  have hx' : (K.getD k [])[j]? = some (y : Int) := by rw [HGG.out]; exact hx
                  have c1 := HM.out.r.cell hy
                  have f1 := HM.out.r.frozen y
                  rw [midK_new HD.out hx' (by rw [HGG.out]; exact HAS.out)] at c1
                  have H2 := Lib.hid ((HM.out.set y (k : Int)).congr (g := midK K k (j + 1)) (fun t _ => (midK_step hx' t).symm))
                  have j11 : (j : Int) < (m : Int) := by omega
                  have j12 : (y : Int) < (n : Int) := by omega
                  have j13 : decide ((n : Int) ≤ (y : Int)) = false := decide_eq_false (by omega)
                  have j14 : decide (n ≤ y) = false := decide_eq_false (by omega)
                  obtain ⟨x1, x2, x3⟩ := id (HWG.out wr HM.out.b)
                  clear hx hx' q2' q3 hy
                  go_wp2_with fail
                  go_roundg q2
                  case measure => omega
                  case rel => exact ⟨j + 1, by omega, by go_num, H2⟩
      · have c1 := HM.out.r.cell (show i < n by omega)
        have f1 := HM.out.r.frozen i
        have j1 : (i : Int) < (n : Int) := by omega
        have H2 := Lib.hid ((HM.out.set i (-1)).congr (g := fun t => if t < i + 1 then -1 else 0) (fun t _ => by
          by_cases h : t = i
          · rw [if_pos h, if_pos (by omega)]
          · rw [if_neg h]
            by_cases h2 : t < i
            · rw [if_pos h2, if_pos (by omega)]
            · rw [if_neg h2, if_neg (by omega)]))
        go_wp2_with fail
        go_roundg q
        case measure => omega
        case rel => exact ⟨i + 1, by omega, by go_num, H2⟩
end Go.Proofs.Ytfkplnmhlpabaaa
