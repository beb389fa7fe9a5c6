/- What minimal.Merge returns for a valid, deterministic graph. Condition: the edges can be read. -/
import Derived.Test.YtbgfllohedhmaaaQ14
import Derived.Test.YtbgfllohedhmaaaQ13
import Derived.Test.YtbgfllohedhmaaaQ22

namespace Go.Proofs.Ytbgfllohedhmaaa
open Go.RowKit Go.Shelf
set_option linter.unusedSimpArgs false
set_option linter.unusedVariables false

theorem run_maxH {P : Program} (k : IntKind) (a b n : Nat) (h : max a b = n) (w : World) (ts : Array TypeId) (t : TypeId) :
    (Builtin.max_ ts t #[.int k (a : Int), .int k (b : Int)]).run P w = .ok (.int k (n : Int)) w := by
  by_cases h1 : a < b
  · have e : n = b := by omega
    have h2 : (a : Int) < (b : Int) := by omega
    simp [Builtin.max_, Builtin.max2, h2, e]
    try omega
  · have e : n = a := by omega
    have h2 : ¬ (a : Int) < (b : Int) := by omega
    simp [Builtin.max_, Builtin.max2, h2, e]
    try omega
theorem ints_overH {W : World} {g n c b : Nat} {l : List Int} (h : IntsRd W (.slice (some ⟨g, 0, none⟩) n c) l) (hb : b ≠ g) (x y z : Value) : IntsRd (((W.setCell ⟨b, 0, none⟩ x).setCell ⟨b, 1, none⟩ y).setCell ⟨b, 2, none⟩ z) (.slice (some ⟨g, 0, none⟩) n c) l := by
  obtain ⟨a, c2, hv, h1⟩ := h
  injection hv with e1 e2 e3
  subst e1
  refine ⟨_, _, by rw [e2, e3], fun i x2 hx => ?_⟩
  obtain ⟨b2, off, e, k⟩ := h1 i x2 hx
  injection e with e
  injection e with e4 e5
  subst e4
  refine ⟨_, off, by rw [e5], ?_⟩
  rw [World.cell?_setCell_far _ _ _ _ (by exact hb), World.cell?_setCell_far _ _ _ _ (by exact hb), World.cell?_setCell_far _ _ _ _ (by exact hb)]
  exact k
/-- An edge between classes. -/
def mg1 (c : List Nat) (e : E3) : E3 := (((c.getD e.1.toNat 0 : Nat) : Int), e.2.1, ((c.getD e.2.2.toNat 0 : Nat) : Int))
set_option maxRecDepth 100000 in
set_option maxHeartbeats 6400000 in
theorem merge_yes (La n : Nat) (es : List E3) (v : Value) (w : World) (cs : List Nat) (hcs : classN (mT n es) La n = cs) (hrd : EdgesRd w v es) (hvg : VG (La : Int) (n : Int) es) (hd : detE es = true) :
    Calls Try.prog 8 #[grV (La : Int) (n : Int) v] w fun e w' => ∃ v' g c, e = .returned (.tuple #[grV (La : Int) ((numC cs : Nat) : Int) v', .slice (some ⟨g, 0, none⟩) n c, .int .i64 0]) ∧ EdgesAt w' w.heap.size v' (mkE (mgE es cs)) ∧ IntsRd w' (.slice (some ⟨g, 0, none⟩) n c) (labsI cs) ∧ Below w.heap.size w w' := by
  have hn64 : n ≤ 64 := by have := hvg.s2; omega
  have hL256 : La ≤ 256 := by have := hvg.l2; omega
  have hL1 : 1 ≤ La := by have := hvg.l1; omega
  have hlen := hvg.len
  have hcl : cs.length = n := by rw [← hcs]; exact classN_len _ _ _ hL1
  have hcn : numC cs ≤ n := by rw [← hcs]; exact classN_num _ _ _ hL1
  have HPA : Hid (∀ W, EdgesRd W v es → Calls Try.prog 6 #[grV (La : Int) (n : Int) v] W fun e w' => ∃ g c, e = .returned (.tuple #[.slice (some ⟨g, 0, none⟩) n c, .int .i64 0]) ∧ W.heap.size ≤ g ∧ IntsRd w' (.slice (some ⟨g, 0, none⟩) n c) (labsI cs) ∧ Below W.heap.size W w') := Lib.hid (fun W h => by
    have h2 := part_yes La n es v W h hvg hd
    rw [hcs] at h2
    exact h2)
  have hmvg := merged_vg hvg hcl (by omega)
  have HMR := Lib.hid (show makeR (La : Int) ((numC cs : Nat) : Int) (mgE es cs) = ((La : Int), ((numC cs : Nat) : Int), mkE (mgE es cs), 0) by
    unfold makeR
    rw [if_pos hmvg.chk])
  have HMK := Lib.hid (fun v' W h => make_any (La : Int) ((numC cs : Nat) : Int) (mgE es cs) v' W h (by rw [mgE_len]; omega))
  have HME := Lib.hid (fun W => make_edges es.length (by omega) W)
  have HOK := Lib.hid hvg.ok
  have HRD := Lib.hid hrd
  have HCL := Lib.hid hcl
  have HCS : Hid (∀ i, i < n → cs.getD i 0 < 64) := Lib.hid (fun i hi => by
    have := numC_lt cs _ (getD_mem (c := cs) (i := i) (by omega)); omega)
  have K0 := Lib.hid (KB.start w (La : Int) (n : Int) v 24)
  obtain ⟨⟨x1, x2, x3⟩, ⟨⟨r1, r2, r3⟩, r4, r5, r6⟩, -⟩ := id K0.out
  obtain ⟨a, c, rfl⟩ := hrd.form
  clear hrd hvg hd hcs hmvg hcl
  go_enter Try.func8, Try.ntmps8
  go_upto_region 6 with (go_at_call 6; (with_reducible refine (HPA.out _ (HRD.out.keep K0.out.bel)).mono ?_); rintro e0 W1 ⟨g5, c5, rfl, hg5, i5, b1⟩; (have K1 := Lib.hid (K0.out.keep b1)); (have HG5 : w.heap.size + 2 ≤ g5 := Nat.le_trans K0.out.2.2.2 hg5); (have I1 := Lib.hid i5); (clear b1 i5 x1 x2 x3 r1 r2 r3 r4 r5 r6); (obtain ⟨⟨x1, x2, x3⟩, ⟨⟨r1, r2, r3⟩, r4, r5, r6⟩, -⟩ := id K1.out))
  clear x1 x2 x3 r1 r2 r3 r4 r5 r6 K0
  go_loopg [7, 25] n (fun q s7 s25 wx => ∃ i : Nat, i + q = n ∧ s25 = .int .i64 (i : Int) ∧ s7 = .int .i64 ((numC (cs.take i) : Nat) : Int) ∧ wx = W1)
  case atStart => exact ⟨0, by omega, rfl, rfl, rfl⟩
  case round =>
    obtain ⟨i, hin, rfl, rfl, rfl⟩ := hrel
    rcases gk with _ | q
    · obtain rfl : i = n := by omega
      have j0 : ¬ ((i : Int) < (i : Int)) := by omega
      have HNC := Lib.hid (show numC (cs.take i) = numC cs by rw [List.take_of_length_le (by rw [HCL.out]; exact Nat.le_refl _)])
      rw [HNC.out]
      obtain ⟨NC, hNC⟩ : ∃ NC, numC cs = NC := ⟨_, rfl⟩
      have HNN := Lib.hid hNC
      rw [hNC] at HMK HMR hcn ⊢
      clear hNC HNC
      obtain ⟨⟨x1, x2, x3⟩, ⟨⟨r1, r2, r3⟩, r4, r5, r6⟩, -⟩ := id K1.out
      obtain ⟨V1, rfl⟩ : ∃ V1, V1 = wr := ⟨_, rfl⟩
      have I1C := Lib.hid I1.out
      have hm := HME.out V1
      have bm := below1 V1 (.cells (madeCells #[.int .i64 0, .int .i64 0, .int .i64 0] (es.length * 3)) 42)
      have R0 := Lib.hid (show RVs w (La : Int) i (.slice a es.length c) V1.heap.size es.length (fun _ => (0, 0, 0)) _ from ⟨(K1.out.keep bm).1, (K1.out.keep bm).2.1, ERow.made V1 es.length, K1.out.2.2.2, (K1.out.keep bm).2.2.1⟩)
      have I2 := Lib.hid (I1.out.keep bm)
      obtain ⟨⟨y1, y2, y3⟩, -⟩ := K1.out.keep bm
      go_upto_region 12 with fail
      obtain ⟨T, hT⟩ : ∃ T, V1.heap.size = T := ⟨_, rfl⟩
      obtain ⟨W2, hW2⟩ : ∃ W2, V1.alloc (.cells (madeCells #[.int .i64 0, .int .i64 0, .int .i64 0] (es.length * 3)) 42) = W2 := ⟨_, rfl⟩
      have hTT := hT
      rw [hT, hW2] at R0 ⊢
      rw [hW2] at I2
      have BT := Lib.hid (show Below T V1 W2 by rw [← hT, ← hW2]; exact bm)
      clear hT hW2 bm hm K1 x1 x2 x3 y1 y2 y3 r1 r2 r3 r4 r5 r6 I1
      have HT := Lib.hid (show V1.heap.size = T from hTT)
      clear hTT
      have IV := Lib.hid I1C.out
      clear I1C
      go_loopg [41] es.length (fun q s41 wx => ∃ (k : Nat) (f : Nat → E3), k + q = es.length ∧ s41 = .int .i64 (k : Int) ∧ RVs w (La : Int) i (.slice a es.length c) T es.length f wx ∧ Hid (∀ j, j < k → f j = mg1 cs es[j]!) ∧ Hid (Below T V1 wx))
      case atStart => exact ⟨0, _, by omega, rfl, R0.out, Lib.hid (fun j hj => absurd hj (by omega)), BT⟩
      case round =>
        clear R0 BT I2
        obtain ⟨k, f, hkq, rfl, hR, HF, HBT⟩ := hrel
        have RR := Lib.hid hR
        obtain ⟨g1, g2, g3⟩ := id hR.g
        have HIC := Lib.hid (IV.out.keep (show Below V1.heap.size V1 wr by rw [HT.out]; exact HBT.out))
        rcases gk with _ | q2
        · obtain rfl : k = es.length := by omega
          obtain ⟨⟨r1, r2, r3⟩, r4, r5, r6⟩ := id hR.r
          have j5 : ¬ ((es.length : Int) < (es.length : Int)) := by omega
          have hml := mgE_len es cs
          have ET := Lib.hid (show EdgesAt wr (w.heap.size + 2) (.slice (some ⟨T, 0, none⟩) (mgE es cs).length es.length) (mgE es cs) from
            ERow.at (f := f) (by rw [hml]; exact RR.out.t) RR.out.lo (by unfold maxLen; omega) (fun j hj => by
              rw [hml] at hj
              unfold mgE
              rw [List.getElem?_map, List.getElem?_eq_getElem hj, HF.out j (by omega), getElem!_pos es j hj]; rfl))
          have HMS := Lib.hid (HMK.out _ wr ET.out.rd)
          rw [hml] at HMS
          clear hml hR hkq
          go_upto_region 19 with (go_at_call 21; (with_reducible refine HMS.out.mono ?_); rintro e0 W5 ⟨v5, rfl, i5, b5⟩; (rw [HMR.out] at i5 ⊢); (dsimp only at i5 ⊢); (obtain ⟨a7, c7, rfl⟩ := i5.slice); (have I5 := Lib.hid i5); (have B5 := Lib.hid b5); (obtain ⟨⟨r1, r2, r3⟩, r4, r5, r6⟩ := id (RR.out.r.keep b5)); (clear i5 b5 g1 g2 g3))
          have B6 := Lib.hid (below_more B5.out (Nat.le_refl _) (below1 W5 (.cells #[.int .i64 (La : Int), .int .i64 (NC : Int), .slice a7 (mkE (mgE es cs)).length c7] 24)))
          have I6 := Lib.hid (I5.out.keep (below1 W5 (.cells #[.int .i64 (La : Int), .int .i64 (NC : Int), .slice a7 (mkE (mgE es cs)).length c7] 24)))
          have X6 := BoxG.new W5 (La : Int) (NC : Int) (.slice a7 (mkE (mgE es cs)).length c7) 24
          obtain ⟨P5, hP5⟩ : ∃ P5, W5.heap.size = P5 := ⟨_, rfl⟩
          rw [hP5] at X6 ⊢
          clear r1 r2 r3 r4 r5 r6 I5 hP5
          generalize (W5.alloc (.cells #[.int .i64 (La : Int), .int .i64 (NC : Int), .slice a7 (mkE (mgE es cs)).length c7] 24)) = W6 at *
          obtain ⟨⟨r1, r2, r3⟩, r4, r5, r6⟩ := RR.out.r.keep B6.out
          obtain ⟨x1, x2, x3⟩ := X6
          have hTl := RR.out.t.lt
          have hlo := RR.out.lo
          have HI6 := Lib.hid (HIC.out.keep B6.out)
          have BW := Lib.hid (RR.out.b.trans (B6.out.mono RR.out.b.size))
          go_wp2_with fail
          exact bodyPost_ret (v := .tuple #[grV (La : Int) (NC : Int) (.slice a7 (mkE (mgE es cs)).length c7), .slice (some ⟨g5, 0, none⟩) i c5, .int .i64 0]) (by simp [results, Try.results8, go_sem, r1, r2, r3]) rfl
            ⟨_, _, _, by rw [HNN.out], edges_over I6.out (by omega) _ _ _ (by omega), ints_overH (b := w.heap.size + 1) HI6.out (by omega) _ _ _, below_over BW.out (Nat.le_succ _) _ _ _⟩
        · obtain ⟨e, he⟩ : ∃ e, es[k]? = some e := ⟨_, List.getElem?_eq_getElem (by omega)⟩
          have hok := okE_iff.1 (HOK.out e (List.mem_of_getElem? he))
          obtain ⟨bb, off, c', hv, k1, k2, k3⟩ := (HRD.out.keep RR.out.b).at he
          injection hv with e1 e2 e3
          subst e1
          subst e3
          have hee : es[k]! = e := by obtain ⟨hi, h2⟩ := List.getElem?_eq_some_iff.1 he; rw [getElem!_pos es k hi, h2]
          obtain ⟨x, y, z⟩ := e
          dsimp only at k1 k2 k3 hok
          obtain ⟨x, rfl⟩ : ∃ m : Nat, x = (m : Int) := ⟨x.toNat, by omega⟩
          obtain ⟨z, rfl⟩ : ∃ m : Nat, z = (m : Int) := ⟨z.toNat, by omega⟩
          have hxn : x < i := by omega
          have hzn : z < i := by omega
          obtain ⟨cx, hcx⟩ : ∃ cx, cs.getD x 0 = cx := ⟨_, rfl⟩
          obtain ⟨cz, hcz⟩ : ∃ cz, cs.getD z 0 = cz := ⟨_, rfl⟩
          have hkl : k < es.length := by omega
          have j3 : (k : Int) < (es.length : Int) := by omega
          have jx : (x : Int) < (i : Int) := by omega
          have jz : (z : Int) < (i : Int) := by omega
          have HF2 := Lib.hid (show ∀ j, j < k + 1 → (fun j => if j = k then (((cx : Int), y, (cz : Int)) : E3) else f j) j = mg1 cs es[j]! from fun j hj => by
            dsimp only
            by_cases hjk : j = k
            · subst hjk; rw [if_pos rfl, hee]
              unfold mg1
              dsimp only
              rw [Int.toNat_natCast, Int.toNat_natCast, hcx, hcz]
            · rw [if_neg hjk]; exact HF.out j (by omega))
          obtain ⟨⟨o1, o2, o3⟩, ho⟩ : ∃ o, f k = o := ⟨_, rfl⟩
          have HTw : T ≤ wr.heap.size := by have := RR.out.t.lt; omega
          have bb1 := below1 wr (.cells #[.int .i64 (x : Int), .int .i64 y, .int .i64 (z : Int)] 42)
          have RB := Lib.hid (RR.out.keep bb1)
          have BB := Lib.hid (HBT.out.trans (bb1.mono HTw))
          have IB := HIC.out.keep bb1
          have X1 := BoxG.new wr (x : Int) y (.int .i64 (z : Int)) 42
          obtain ⟨c7, c8, c9⟩ := RB.out.t.cells hkl ho
          have f1 := RB.out.t.frozen (k * 3)
          have f2 := RB.out.t.frozen (k * 3 + 1)
          have f3 := RB.out.t.frozen (k * 3 + 2)
          obtain ⟨b7, q7, n7, hv7, p7⟩ := IB.at (natR (c := cs) (i := x) (by rw [HCL.out]; exact hxn))
          rw [labsI_lenH, HCL.out] at hv7
          injection hv7 with h1 h2 h3
          injection h1 with h1
          injection h1 with h1 h1b
          subst h1
          subst h1b
          rw [Nat.zero_add] at p7
          obtain ⟨b8, q8, n8, hv8, p8⟩ := IB.at (natR (c := cs) (i := z) (by rw [HCL.out]; exact hzn))
          injection hv8 with h4 h5 h6
          injection h4 with h4
          injection h4 with h4 h7
          subst h4
          subst h7
          rw [Nat.zero_add] at p8
          rw [hcx] at p7
          rw [hcz] at p8
          clear he hee ho e2 hR h2 h3 h5 h6 IB hcx hcz bb1
          go_upto_region 14 with fail
          obtain ⟨P0, hP0⟩ : ∃ P0, wr.heap.size = P0 := ⟨_, rfl⟩
          rw [hP0] at X1 ⊢
          clear k1 k2 k3 g1 g2 g3 hP0 HTw HIC HBT
          generalize (wr.alloc (.cells #[.int .i64 (x : Int), .int .i64 y, .int .i64 (z : Int)] 42)) = V at *
          obtain ⟨z1, z2, z3⟩ := X1
          go_region
          go_wp2_with fail
          go_roundg q2
          case measure => omega
          case rel => exact ⟨k + 1, _, by omega, by go_num, (RB.out.set hkl (cx : Int) y (cz : Int)).keep (Below.refl _ _).drew, HF2, Lib.hid ((set9_below BB.out (Nat.le_refl _) _ _ _ _ _ _).trans (show Below T _ _ from (Below.refl _ _).drew))⟩
    · obtain ⟨b1, o1, k1, hv1, p1⟩ := I1.out.at (natR (c := cs) (i := i) (by rw [HCL.out]; omega))
      rw [labsI_lenH, HCL.out] at hv1
      injection hv1 with e1 e2 e3
      injection e1 with e1
      injection e1 with e1 e4
      subst e1
      subst e4
      rw [Nat.zero_add] at p1
      obtain ⟨x, hx⟩ : ∃ x, cs.getD i 0 = x := ⟨_, rfl⟩
      have hx64 : x < 64 := by rw [← hx]; exact HCS.out i (by omega)
      obtain ⟨m, hm⟩ : ∃ m, numC (cs.take i) = m := ⟨_, rfl⟩
      obtain ⟨m2, hm2⟩ : ∃ m2, max m (x + 1) = m2 := ⟨_, rfl⟩
      have HM2 := Lib.hid (show numC (cs.take (i + 1)) = m2 by
        rw [take_snoc (getD_opt (c := cs) (s := i) (by rw [HCL.out]; omega)), numC_snoc, hm, hx, hm2])
      rw [hx] at p1
      rw [hm]
      have hmx : ∀ (W : World) (ts : Array TypeId) (t : TypeId), (Builtin.max_ ts t #[.int .i64 (m : Int), .int .i64 ((x : Int) + 1)]).run Try.prog W = .ok (.int .i64 (m2 : Int)) W := fun W ts t => by
        have h := run_maxH (P := Try.prog) .i64 m (x + 1) m2 hm2 W ts t
        rw [show ((x + 1 : Nat) : Int) = (x : Int) + 1 by omega] at h
        exact h
      have j1 : (i : Int) < (n : Int) := by omega
      have hwx : IntKind.i64.wrap ((x : Int) + 1) = (x : Int) + 1 := by rw [IntWalk.i64_in _ (by omega)]
      clear e2 e3 hx hm hm2
      go_wp2_with fail
      go_roundg q
      case measure => omega
      case rel => exact ⟨i + 1, by omega, by go_num, by rw [HM2.out], rfl⟩
end Go.Proofs.Ytbgfllohedhmaaa
