/- What minimal.Merge returns for a valid, deterministic graph. Condition: the edges can be read. For grooveref09.Sorted: an edge put into ascending edges; append in a drawn region, the source nil, empty or not. No condition. -/
import Derived.Test.YtiockphjnkehnaaGreatDoorQ22
import Derived.Test.YtiockphjnkehnaaGreatDoorQ20
import Derived.Test.YtiockphjnkehnaaGreatDoorQ26
import Derived.Test.YtiockphjnkehnaaGreatDoorQ19
import Derived.Test.YtiockphjnkehnaaGreatDoorQ15
import Derived.Test.YtiockphjnkehnaaGreatDoorQ05
import Derived.Maps.AppendAt
import Derived.Deep.AppendLies

namespace Go.Proofs.YtiockphjnkehnaaGreatDoor
open Go.RowKit Go.Shelf
set_option linter.unusedSimpArgs false
set_option linter.unusedVariables false

theorem run_maxH {P : Program} (k : IntKind) (a b n : Nat) (h : max a b = n) (w : World) (ts : Array TypeId) (t : TypeId) :
    (Builtin.max_ ts t #[.int k (a : Int), .int k (b : Int)]).run P w = .ok (.int k (n : Int)) w := by
  by_cases h1 : a < b
  · have e : n = b := by omega
    have h2 : (a : Int) < (b : Int) := by omega
    simp [Builtin.max_, Builtin.max2, h2, e]
    try omega
  · have e : n = a := by omega
    have h2 : ¬ (a : Int) < (b : Int) := by omega
    simp [Builtin.max_, Builtin.max2, h2, e]
    try omega
theorem ints_overH {W : World} {g n c b : Nat} {l : List Int} (h : IntsRd W (.slice (some ⟨g, 0, none⟩) n c) l) (hb : b ≠ g) (x y z : Value) : IntsRd (((W.setCell ⟨b, 0, none⟩ x).setCell ⟨b, 1, none⟩ y).setCell ⟨b, 2, none⟩ z) (.slice (some ⟨g, 0, none⟩) n c) l := by
  obtain ⟨a, c2, hv, h1⟩ := h
  injection hv with e1 e2 e3
  subst e1
  refine ⟨_, _, by rw [e2, e3], fun i x2 hx => ?_⟩
  obtain ⟨b2, off, e, k⟩ := h1 i x2 hx
  injection e with e
  injection e with e4 e5
  subst e4
  refine ⟨_, off, by rw [e5], ?_⟩
  rw [World.cell?_setCell_far _ _ _ _ (by exact hb), World.cell?_setCell_far _ _ _ _ (by exact hb), World.cell?_setCell_far _ _ _ _ (by exact hb)]
  exact k
def mg1 (c : List Nat) (e : E3) : E3 := (((c.getD e.1.toNat 0 : Nat) : Int), e.2.1, ((c.getD e.2.2.toNat 0 : Nat) : Int))
set_option maxRecDepth 100000 in
set_option maxHeartbeats 6400000 in
theorem merge_yes (La n : Nat) (es : List E3) (v : Value) (w : World) (cs : List Nat) (hcs : classN (mT n es) La n = cs) (hrd : EdgesRd w v es) (hvg : VG (La : Int) (n : Int) es) (hd : detE es = true) :
    Calls Tryz.prog 16 #[grV (La : Int) (n : Int) v] w fun e w' => ∃ v' g c, e = .returned (.tuple #[grV (La : Int) ((numC cs : Nat) : Int) v', .slice (some ⟨g, 0, none⟩) n c, .int .i64 0]) ∧ EdgesAt w' w.heap.size v' (mkE (mgE es cs)) ∧ IntsRd w' (.slice (some ⟨g, 0, none⟩) n c) (labsI cs) ∧ Below w.heap.size w w' := by
  have hn64 : n ≤ 64 := by have := hvg.s2; omega
  have hL256 : La ≤ 256 := by have := hvg.l2; omega
  have hL1 : 1 ≤ La := by have := hvg.l1; omega
  have hlen := hvg.len
  have hcl : cs.length = n := by rw [← hcs]; exact classN_len _ _ _ hL1
  have hcn : numC cs ≤ n := by rw [← hcs]; exact classN_num _ _ _ hL1
  have HPA : Hid (∀ W, EdgesRd W v es → Calls Tryz.prog 36 #[grV (La : Int) (n : Int) v] W fun e w' => ∃ g c, e = .returned (.tuple #[.slice (some ⟨g, 0, none⟩) n c, .int .i64 0]) ∧ W.heap.size ≤ g ∧ IntsRd w' (.slice (some ⟨g, 0, none⟩) n c) (labsI cs) ∧ Below W.heap.size W w') := Lib.hid (fun W h => by
    have h2 := part_yes La n es v W h hvg hd
    rw [hcs] at h2
    exact h2)
  have hmvg := merged_vg hvg hcl (by omega)
  have HMR := Lib.hid (show makeR (La : Int) ((numC cs : Nat) : Int) (mgE es cs) = ((La : Int), ((numC cs : Nat) : Int), mkE (mgE es cs), 0) by
    unfold makeR
    rw [if_pos hmvg.chk])
  have HMK := Lib.hid (fun v' W h => make_any (La : Int) ((numC cs : Nat) : Int) (mgE es cs) v' W h (by rw [mgE_len]; omega))
  have HME := Lib.hid (fun W => make_edges es.length (by omega) W)
  have HOK := Lib.hid hvg.ok
  have HRD := Lib.hid hrd
  have HCL := Lib.hid hcl
  have HCS : Hid (∀ i, i < n → cs.getD i 0 < 64) := Lib.hid (fun i hi => by
    have := numC_lt cs _ (getD_mem (c := cs) (i := i) (by omega)); omega)
  have K0 := Lib.hid (KB.start w (La : Int) (n : Int) v 24)
  obtain ⟨⟨x1, x2, x3⟩, ⟨⟨r1, r2, r3⟩, r4, r5, r6⟩, -⟩ := id K0.out
  obtain ⟨a, c, rfl⟩ := hrd.form
  clear hrd hvg hd hcs hmvg hcl
  go_enter Tryz.func16, Tryz.ntmps16
  go_upto_region 6 with (go_at_call 36; (with_reducible refine (HPA.out _ (HRD.out.keep K0.out.bel)).mono ?_); rintro e0 W1 ⟨g5, c5, rfl, hg5, i5, b1⟩; (have K1 := Lib.hid (K0.out.keep b1)); (have HG5 : w.heap.size + 2 ≤ g5 := Nat.le_trans K0.out.2.2.2 hg5); (have I1 := Lib.hid i5); (clear b1 i5 x1 x2 x3 r1 r2 r3 r4 r5 r6); (obtain ⟨⟨x1, x2, x3⟩, ⟨⟨r1, r2, r3⟩, r4, r5, r6⟩, -⟩ := id K1.out))
  clear x1 x2 x3 r1 r2 r3 r4 r5 r6 K0
  go_loopg [7, 25] n (fun q s7 s25 wx => ∃ i : Nat, i + q = n ∧ s25 = .int .i64 (i : Int) ∧ s7 = .int .i64 ((numC (cs.take i) : Nat) : Int) ∧ wx = W1)
  case atStart => exact ⟨0, by omega, rfl, rfl, rfl⟩
  case round =>
    obtain ⟨i, hin, rfl, rfl, rfl⟩ := hrel
    rcases gk with _ | q
    · obtain rfl : i = n := by omega
      have j0 : ¬ ((i : Int) < (i : Int)) := by omega
      have HNC := Lib.hid (show numC (cs.take i) = numC cs by rw [List.take_of_length_le (by rw [HCL.out]; exact Nat.le_refl _)])
      rw [HNC.out]
      obtain ⟨NC, hNC⟩ : ∃ NC, numC cs = NC := ⟨_, rfl⟩
      have HNN := Lib.hid hNC
      rw [hNC] at HMK HMR hcn ⊢
      clear hNC HNC
      obtain ⟨⟨x1, x2, x3⟩, ⟨⟨r1, r2, r3⟩, r4, r5, r6⟩, -⟩ := id K1.out
      obtain ⟨V1, rfl⟩ : ∃ V1, V1 = wr := ⟨_, rfl⟩
      have I1C := Lib.hid I1.out
      have hm := HME.out V1
      have bm := below1 V1 (.cells (madeCells #[.int .i64 0, .int .i64 0, .int .i64 0] (es.length * 3)) 39)
      have R0 := Lib.hid (show RVs w (La : Int) i (.slice a es.length c) V1.heap.size es.length (fun _ => (0, 0, 0)) _ from ⟨(K1.out.keep bm).1, (K1.out.keep bm).2.1, ERow.made V1 es.length, K1.out.2.2.2, (K1.out.keep bm).2.2.1⟩)
      have I2 := Lib.hid (I1.out.keep bm)
      obtain ⟨⟨y1, y2, y3⟩, -⟩ := K1.out.keep bm
      go_upto_region 12 with fail
      obtain ⟨T, hT⟩ : ∃ T, V1.heap.size = T := ⟨_, rfl⟩
      obtain ⟨W2, hW2⟩ : ∃ W2, V1.alloc (.cells (madeCells #[.int .i64 0, .int .i64 0, .int .i64 0] (es.length * 3)) 39) = W2 := ⟨_, rfl⟩
      have hTT := hT
      rw [hT, hW2] at R0 ⊢
      rw [hW2] at I2
      have BT := Lib.hid (show Below T V1 W2 by rw [← hT, ← hW2]; exact bm)
      clear hT hW2 bm hm K1 x1 x2 x3 y1 y2 y3 r1 r2 r3 r4 r5 r6 I1
      have HT := Lib.hid (show V1.heap.size = T from hTT)
      clear hTT
      have IV := Lib.hid I1C.out
      clear I1C
      go_loopg [41] es.length (fun q s41 wx => ∃ (k : Nat) (f : Nat → E3), k + q = es.length ∧ s41 = .int .i64 (k : Int) ∧ RVs w (La : Int) i (.slice a es.length c) T es.length f wx ∧ Hid (∀ j, j < k → f j = mg1 cs es[j]!) ∧ Hid (Below T V1 wx))
      case atStart => exact ⟨0, _, by omega, rfl, R0.out, Lib.hid (fun j hj => absurd hj (by omega)), BT⟩
      case round =>
        clear R0 BT I2
        obtain ⟨k, f, hkq, rfl, hR, HF, HBT⟩ := hrel
        have RR := Lib.hid hR
        obtain ⟨g1, g2, g3⟩ := id hR.g
        have HIC := Lib.hid (IV.out.keep (show Below V1.heap.size V1 wr by rw [HT.out]; exact HBT.out))
        rcases gk with _ | q2
        · obtain rfl : k = es.length := by omega
          obtain ⟨⟨r1, r2, r3⟩, r4, r5, r6⟩ := id hR.r
          have j5 : ¬ ((es.length : Int) < (es.length : Int)) := by omega
          have hml := mgE_len es cs
          have ET := Lib.hid (show EdgesAt wr (w.heap.size + 2) (.slice (some ⟨T, 0, none⟩) (mgE es cs).length es.length) (mgE es cs) from
            ERow.at (f := f) (by rw [hml]; exact RR.out.t) RR.out.lo (by unfold maxLen; omega) (fun j hj => by
              rw [hml] at hj
              unfold mgE
              rw [List.getElem?_map, List.getElem?_eq_getElem hj, HF.out j (by omega), getElem!_pos es j hj]; rfl))
          have HMS := Lib.hid (HMK.out _ wr ET.out.rd)
          rw [hml] at HMS
          clear hml hR hkq
          go_upto_region 19 with (go_at_call 37; (with_reducible refine HMS.out.mono ?_); rintro e0 W5 ⟨v5, rfl, i5, b5⟩; (rw [HMR.out] at i5 ⊢); (dsimp only at i5 ⊢); (obtain ⟨a7, c7, rfl⟩ := i5.slice); (have I5 := Lib.hid i5); (have B5 := Lib.hid b5); (obtain ⟨⟨r1, r2, r3⟩, r4, r5, r6⟩ := id (RR.out.r.keep b5)); (clear i5 b5 g1 g2 g3))
          have B6 := Lib.hid (below_more B5.out (Nat.le_refl _) (below1 W5 (.cells #[.int .i64 (La : Int), .int .i64 (NC : Int), .slice a7 (mkE (mgE es cs)).length c7] 24)))
          have I6 := Lib.hid (I5.out.keep (below1 W5 (.cells #[.int .i64 (La : Int), .int .i64 (NC : Int), .slice a7 (mkE (mgE es cs)).length c7] 24)))
          have X6 := BoxG.new W5 (La : Int) (NC : Int) (.slice a7 (mkE (mgE es cs)).length c7) 24
          obtain ⟨P5, hP5⟩ : ∃ P5, W5.heap.size = P5 := ⟨_, rfl⟩
          rw [hP5] at X6 ⊢
          clear r1 r2 r3 r4 r5 r6 I5 hP5
          generalize (W5.alloc (.cells #[.int .i64 (La : Int), .int .i64 (NC : Int), .slice a7 (mkE (mgE es cs)).length c7] 24)) = W6 at *
          obtain ⟨⟨r1, r2, r3⟩, r4, r5, r6⟩ := RR.out.r.keep B6.out
          obtain ⟨x1, x2, x3⟩ := X6
          have hTl := RR.out.t.lt
          have hlo := RR.out.lo
          have HI6 := Lib.hid (HIC.out.keep B6.out)
          have BW := Lib.hid (RR.out.b.trans (B6.out.mono RR.out.b.size))
          go_wp2_with fail
          exact bodyPost_ret (v := .tuple #[grV (La : Int) (NC : Int) (.slice a7 (mkE (mgE es cs)).length c7), .slice (some ⟨g5, 0, none⟩) i c5, .int .i64 0]) (by simp [results, Tryz.results16, go_sem, r1, r2, r3]) rfl
            ⟨_, _, _, by rw [HNN.out], edges_over I6.out (by omega) _ _ _ (by omega), ints_overH (b := w.heap.size + 1) HI6.out (by omega) _ _ _, below_over BW.out (Nat.le_succ _) _ _ _⟩
        · obtain ⟨e, he⟩ : ∃ e, es[k]? = some e := ⟨_, List.getElem?_eq_getElem (by omega)⟩
          have hok := okE_iff.1 (HOK.out e (List.mem_of_getElem? he))
          obtain ⟨bb, off, c', hv, k1, k2, k3⟩ := (HRD.out.keep RR.out.b).at he
          injection hv with e1 e2 e3
          subst e1
          subst e3
          have hee : es[k]! = e := by obtain ⟨hi, h2⟩ := List.getElem?_eq_some_iff.1 he; rw [getElem!_pos es k hi, h2]
          obtain ⟨x, y, z⟩ := e
          dsimp only at k1 k2 k3 hok
          obtain ⟨x, rfl⟩ : ∃ m : Nat, x = (m : Int) := ⟨x.toNat, by omega⟩
          obtain ⟨z, rfl⟩ : ∃ m : Nat, z = (m : Int) := ⟨z.toNat, by omega⟩
          have hxn : x < i := by omega
          have hzn : z < i := by omega
          obtain ⟨cx, hcx⟩ : ∃ cx, cs.getD x 0 = cx := ⟨_, rfl⟩
          obtain ⟨cz, hcz⟩ : ∃ cz, cs.getD z 0 = cz := ⟨_, rfl⟩
          have hkl : k < es.length := by omega
          have j3 : (k : Int) < (es.length : Int) := by omega
          have jx : (x : Int) < (i : Int) := by omega
          have jz : (z : Int) < (i : Int) := by omega
          have HF2 := Lib.hid (show ∀ j, j < k + 1 → (fun j => if j = k then (((cx : Int), y, (cz : Int)) : E3) else f j) j = mg1 cs es[j]! from fun j hj => by
            dsimp only
            by_cases hjk : j = k
            · subst hjk; rw [if_pos rfl, hee]
              unfold mg1
              dsimp only
              rw [Int.toNat_natCast, Int.toNat_natCast, hcx, hcz]
            · rw [if_neg hjk]; exact HF.out j (by omega))
          obtain ⟨⟨o1, o2, o3⟩, ho⟩ : ∃ o, f k = o := ⟨_, rfl⟩
          have HTw : T ≤ wr.heap.size := by have := RR.out.t.lt; omega
          have bb1 := below1 wr (.cells #[.int .i64 (x : Int), .int .i64 y, .int .i64 (z : Int)] 39)
          have RB := Lib.hid (RR.out.keep bb1)
          have BB := Lib.hid (HBT.out.trans (bb1.mono HTw))
          have IB := HIC.out.keep bb1
          have X1 := BoxG.new wr (x : Int) y (.int .i64 (z : Int)) 39
          obtain ⟨c7, c8, c9⟩ := RB.out.t.cells hkl ho
          have f1 := RB.out.t.frozen (k * 3)
          have f2 := RB.out.t.frozen (k * 3 + 1)
          have f3 := RB.out.t.frozen (k * 3 + 2)
          obtain ⟨b7, q7, n7, hv7, p7⟩ := IB.at (natR (c := cs) (i := x) (by rw [HCL.out]; exact hxn))
          rw [labsI_lenH, HCL.out] at hv7
          injection hv7 with h1 h2 h3
          injection h1 with h1
          injection h1 with h1 h1b
          subst h1
          subst h1b
          rw [Nat.zero_add] at p7
          obtain ⟨b8, q8, n8, hv8, p8⟩ := IB.at (natR (c := cs) (i := z) (by rw [HCL.out]; exact hzn))
          injection hv8 with h4 h5 h6
          injection h4 with h4
          injection h4 with h4 h7
          subst h4
          subst h7
          rw [Nat.zero_add] at p8
          rw [hcx] at p7
          rw [hcz] at p8
          clear he hee ho e2 hR h2 h3 h5 h6 IB hcx hcz bb1
          go_upto_region 14 with fail
          obtain ⟨P0, hP0⟩ : ∃ P0, wr.heap.size = P0 := ⟨_, rfl⟩
          rw [hP0] at X1 ⊢
          clear k1 k2 k3 g1 g2 g3 hP0 HTw HIC HBT
          generalize (wr.alloc (.cells #[.int .i64 (x : Int), .int .i64 y, .int .i64 (z : Int)] 39)) = V at *
          obtain ⟨z1, z2, z3⟩ := X1
          go_region
          go_wp2_with fail
          go_roundg q2
          case measure => omega
          case rel => exact ⟨k + 1, _, by omega, by go_num, (RB.out.set hkl (cx : Int) y (cz : Int)).keep (Below.refl _ _).drew, HF2, Lib.hid ((set9_below BB.out (Nat.le_refl _) _ _ _ _ _ _).trans (show Below T _ _ from (Below.refl _ _).drew))⟩
    · obtain ⟨b1, o1, k1, hv1, p1⟩ := I1.out.at (natR (c := cs) (i := i) (by rw [HCL.out]; omega))
      rw [labsI_lenH, HCL.out] at hv1
      injection hv1 with e1 e2 e3
      injection e1 with e1
      injection e1 with e1 e4
      subst e1
      subst e4
      rw [Nat.zero_add] at p1
      obtain ⟨x, hx⟩ : ∃ x, cs.getD i 0 = x := ⟨_, rfl⟩
      have hx64 : x < 64 := by rw [← hx]; exact HCS.out i (by omega)
      obtain ⟨m, hm⟩ : ∃ m, numC (cs.take i) = m := ⟨_, rfl⟩
      obtain ⟨m2, hm2⟩ : ∃ m2, max m (x + 1) = m2 := ⟨_, rfl⟩
      have HM2 := Lib.hid (show numC (cs.take (i + 1)) = m2 by
        rw [take_snoc (getD_opt (c := cs) (s := i) (by rw [HCL.out]; omega)), numC_snoc, hm, hx, hm2])
      rw [hx] at p1
      rw [hm]
      have hmx : ∀ (W : World) (ts : Array TypeId) (t : TypeId), (Builtin.max_ ts t #[.int .i64 (m : Int), .int .i64 ((x : Int) + 1)]).run Tryz.prog W = .ok (.int .i64 (m2 : Int)) W := fun W ts t => by
        have h := run_maxH (P := Tryz.prog) .i64 m (x + 1) m2 hm2 W ts t
        rw [show ((x + 1 : Nat) : Int) = (x : Int) + 1 by omega] at h
        exact h
      have j1 : (i : Int) < (n : Int) := by omega
      have hwx : IntKind.i64.wrap ((x : Int) + 1) = (x : Int) + 1 := by rw [IntWalk.i64_in _ (by omega)]
      clear e2 e3 hx hm hm2
      go_wp2_with fail
      go_roundg q
      case measure => omega
      case rel => exact ⟨i + 1, by omega, by go_num, by rw [HM2.out], rfl⟩
end Go.Proofs.YtiockphjnkehnaaGreatDoor

namespace Go.Proofs.YtiockphjnkehnaaGreatDoor
open Go.RowKit Go.Shelf
set_option linter.unusedSimpArgs false
set_option linter.unusedVariables false

theorem ins_pw {O : List E3} {e : E3} {k : Nat} (hp : O.Pairwise (fun a b => ltE a b = true)) (h1 : ∀ x, x ∈ O.take k → ltE x e = true) (h2 : ∀ x, O[k]? = some x → ltE e x = true) :
    (O.take k ++ [e] ++ O.drop k).Pairwise (fun a b => ltE a b = true) := by
  have hd : ∀ y, y ∈ O.drop k → ltE e y = true := by
    intro y hy
    obtain ⟨i, hi⟩ := List.getElem?_of_mem hy
    rw [List.getElem?_drop] at hi
    rcases Nat.eq_zero_or_pos i with h0 | h0
    · subst h0; exact h2 y hi
    · have hl := (List.getElem?_eq_some_iff.1 hi).1
      obtain ⟨x, hx⟩ : ∃ x, O[k]? = some x := ⟨_, List.getElem?_eq_getElem (by omega)⟩
      have hxy : ltE x y = true := by
        have := List.pairwise_iff_getElem.1 hp k (k + i) (by omega) hl (by omega)
        rw [(List.getElem?_eq_some_iff.1 hi).2, (List.getElem?_eq_some_iff.1 hx).2] at this
        exact this
      exact ltE_trans' (h2 x hx) hxy
  have hs : (O.take k ++ O.drop k).Pairwise (fun a b => ltE a b = true) := by rw [List.take_append_drop]; exact hp
  obtain ⟨p1, p2, p3⟩ := List.pairwise_append.1 hs
  rw [List.append_assoc]
  refine List.pairwise_append.2 ⟨p1, ?_, fun a ha b hb => ?_⟩
  · exact List.pairwise_cons.2 ⟨fun y hy => hd y hy, p2⟩
  · rcases List.mem_cons.1 hb with rfl | hb
    · exact h1 a ha
    · exact p3 a ha b hb
theorem ins_mem {O : List E3} {e x : E3} {k : Nat} : x ∈ O.take k ++ [e] ++ O.drop k ↔ x ∈ O ∨ x = e := by
  have h : x ∈ O ↔ x ∈ O.take k ∨ x ∈ O.drop k := by rw [← List.mem_append, List.take_append_drop]
  simp only [List.mem_append, List.mem_singleton]
  rw [h]
  constructor
  · rintro ((h | h) | h)
    · exact .inl (.inl h)
    · exact .inr h
    · exact .inl (.inr h)
  · rintro ((h | h) | h)
    · exact .inl (.inl h)
    · exact .inr h
    · exact .inl (.inr h)
theorem mkE_put {es O : List E3} {e : E3} {i k : Nat} (hO : mkE (es.take i) = O) (he : es[i]? = some e) (h1 : ∀ x, x ∈ O.take k → ltE x e = true) (h2 : ∀ x, O[k]? = some x → ltE e x = true) :
    mkE (es.take (i + 1)) = O.take k ++ [e] ++ O.drop k := by
  subst hO
  refine asc_eq (mkE_pw _) (ins_pw (mkE_pw _) h1 h2) (fun x => ?_)
  rw [ins_mem, mkE_mem, mkE_mem, List.take_add_one, he, List.mem_append]
  simp
theorem mkE_skip {es O : List E3} {e : E3} {i k : Nat} (hO : mkE (es.take i) = O) (he : es[i]? = some e) (hx : O[k]? = some e) : mkE (es.take (i + 1)) = O := by
  subst hO
  refine asc_eq (mkE_pw _) (mkE_pw _) (fun x => ?_)
  have hm : e ∈ es.take i := mkE_mem.1 (List.mem_of_getElem? hx)
  rw [mkE_mem, mkE_mem, List.take_add_one, he, List.mem_append]
  constructor
  · rintro (h | h)
    · exact h
    · simp at h; subst h; exact hm
  · exact fun h => .inl h
theorem mem_take_succ {O : List E3} {y e : E3} {k : Nat} (hy : O[k]? = some y) (hlt : ltE y e = true) (h : ∀ x, x ∈ O.take k → ltE x e = true) : ∀ x, x ∈ O.take (k + 1) → ltE x e = true := by
  intro x hx
  rw [List.take_add_one, hy, List.mem_append] at hx
  rcases hx with hx | hx
  · exact h x hx
  · simp at hx; subst hx; exact hlt
/-! ### Parts of a row -/
theorem rd_take {W : World} {a : Option Addr} {n c k c' : Nat} {es : List E3} (h : EdgesRd W (.slice a n c) es) (hk : k ≤ es.length) : EdgesRd W (.slice a k c') (es.take k) := by
  obtain ⟨a1, c1, h1, h2⟩ := h
  injection h1 with e1 e2 e3
  subst e1
  refine ⟨a, c', by rw [List.length_take, Nat.min_eq_left hk], fun i e he => ?_⟩
  have hi := (List.getElem?_eq_some_iff.1 he).1
  rw [List.length_take] at hi
  rw [List.getElem?_take_of_lt (by omega)] at he
  exact h2 i e he
theorem rd_drop {W : World} {b o n c k m c' : Nat} {es : List E3} (h : EdgesRd W (.slice (some ⟨b, o, none⟩) n c) es) (hm : k + m = es.length) : EdgesRd W (.slice (some ⟨b, o + k * 3, none⟩) m c') (es.drop k) := by
  obtain ⟨a1, c1, h1, h2⟩ := h
  injection h1 with e1 e2 e3
  subst e1
  refine ⟨_, c', by rw [List.length_drop]; congr; omega, fun i e he => ?_⟩
  rw [List.getElem?_drop] at he
  obtain ⟨b2, o2, e4, z1, z2, z3⟩ := h2 (k + i) e he
  injection e4 with e4
  injection e4 with e4 e5
  subst e4
  subst e5
  rw [show o + (k + i) * 3 = o + k * 3 + i * 3 by omega] at z1 z2 z3
  exact ⟨_, _, rfl, z1, z2, z3⟩
theorem rd_none (W : World) (a : Option Addr) (c : Nat) : EdgesRd W (.slice a 0 c) [] := ⟨a, c, rfl, fun i e he => by simp at he⟩
/-! ### append in a drawn region -/
theorem src_cellsU {W : World} {b off : Nat} {es : List E3} (h : ∀ (i : Nat) (e : E3), es[i]? = some e →
    W.cell? ⟨b, off + i * 3, none⟩ = some (.int .i64 e.1) ∧ W.cell? ⟨b, off + i * 3 + 1, none⟩ = some (.int .i64 e.2.1) ∧ W.cell? ⟨b, off + i * 3 + 2, none⟩ = some (.int .i64 e.2.2)) :
    ∀ (j : Nat) (u : Value), (ecl es)[j]? = some u → W.cell? ((⟨b, off, none⟩ : Addr).add j) = some u := by
  intro j u hj
  have hjl := (List.getElem?_eq_some_iff.1 hj).1
  rw [ecl_len] at hjl
  obtain ⟨i, hi⟩ : ∃ i, j / 3 = i := ⟨_, rfl⟩
  obtain ⟨d, hd⟩ : ∃ d, j % 3 = d := ⟨_, rfl⟩
  have hil : i < es.length := by omega
  have he := List.getElem?_eq_getElem hil
  obtain ⟨x1, x2, x3⟩ := ecl_at he
  obtain ⟨y1, y2, y3⟩ := h i _ he
  have ha : ((⟨b, off, none⟩ : Addr).add j) = ⟨b, off + j, none⟩ := by simp [Addr.add]
  rw [ha]
  rcases (show d = 0 ∨ d = 1 ∨ d = 2 by omega) with rfl | rfl | rfl
  · obtain rfl : j = i * 3 := by omega
    rw [x1] at hj; injection hj with hj; subst hj; exact y1
  · obtain rfl : j = i * 3 + 1 := by omega
    rw [x2] at hj; injection hj with hj; subst hj; rw [← Nat.add_assoc]; exact y2
  · obtain rfl : j = i * 3 + 2 := by omega
    rw [x3] at hj; injection hj with hj; subst hj; rw [← Nat.add_assoc]; exact y3
theorem ecl_oneU {es : List E3} : ∀ v ∈ ecl es, v.oneCell' = true := by
  intro v hv
  unfold ecl at hv
  obtain ⟨e, -, h⟩ := List.mem_flatMap.1 hv
  simp [encE] at h
  rcases h with rfl | rfl | rfl <;> rfl
theorem ecl_appendU (es fs : List E3) : ecl (es ++ fs) = ecl es ++ ecl fs := by unfold ecl; rw [List.flatMap_append]
theorem run_append_nilE {w : World} {B : Nat} {v : Value} {es : List E3} (ty : TypeId) (hown : EdgesAt w B v es) (c : Nat) : (Builtin.append_ #[22, 22] ty #[v, .slice none 0 c]).run Tryz.prog w = .ok v w := by
  obtain ⟨i0, hi, hz0, hz1, hz2⟩ := info_parts Tryz.infoEdge
  unfold EdgesAt at hown
  rcases hown.2 with ⟨rfl, -⟩ | ⟨g, cap, cur, rfl, _, _, hnc, _⟩
  · simp [Builtin.append_, run_underlying Tryz.underlying22, sizeOf, typeInfo, hi, Builtin.lenOf, Builtin.firstCells]
  · simp [Builtin.append_, run_underlying Tryz.underlying22, sizeOf, typeInfo, hi, Builtin.lenOf, Builtin.firstCells, hnc, storeCells]
theorem run_appendE {w : World} {B : Nat} {v : Value} {es fs : List E3} (ty : TypeId) (hown : EdgesAt w B v es) (A : Option Addr) (m c : Nat) (hsrc : EdgesRd w (.slice A m c) fs) (h63 : es.length + fs.length ≤ 100000) (hbase : B ≤ w.heap.size) :
    ∃ v' w', (Builtin.append_ #[22, 22] ty #[v, .slice A m c]).run Tryz.prog w = .ok v' w' ∧ EdgesAt w' B v' (es ++ fs) ∧ w.grownBy w' v.ownBlock ∧ (v'.ownBlock = v.ownBlock ∨ v'.ownBlock = some w.heap.size) := by
  obtain ⟨i0, hi, hz0, hz1, hz2⟩ := info_parts Tryz.infoEdge
  obtain ⟨a1, c1, h1, h2⟩ := hsrc
  injection h1 with e1 e2 e3
  subst e1
  subst e2
  subst e3
  rcases A with _ | ad
  · have h0 : fs = [] := by
      rcases fs with _ | ⟨f, r⟩
      · rfl
      · obtain ⟨b, o, h3, _⟩ := h2 0 f rfl
        cases h3
    subst h0
    exact ⟨v, w, run_append_nilE ty hown c, by rw [List.append_nil]; exact hown, World.grownBy.refl w _, .inl rfl⟩
  · have hcells : ∀ j u, (ecl fs)[j]? = some u → w.cell? (ad.add j) = some u := by
      intro j u hu
      have hjl := (List.getElem?_eq_some_iff.1 hu).1
      rw [ecl_len] at hjl
      obtain ⟨b, o, e4, -⟩ := h2 0 _ (List.getElem?_eq_getElem (show 0 < fs.length by omega))
      have e4 : ad = _ := Option.some.inj e4
      subst e4
      refine src_cellsU (es := fs) (fun i e he => ?_) j u hu
      obtain ⟨b2, o2, e5, z⟩ := h2 i e he
      have e5 := Option.some.inj e5
      injection e5 with e5 e6
      subst e5
      subst e6
      exact z
    have hown' := hown
    unfold EdgesAt at hown'
    obtain ⟨v', w', hrun, h3, h4, _, h5⟩ := run_append_own_at (P := Tryz.prog) w B 22 ty 39 i0 (.agg #[.int .i64 0, .int .i64 0, .int .i64 0]) 3 24 Tryz.underlying22 hi hz0 hz1 hz2 rfl (by decide) v es.length (ecl es) hown' ad fs.length c (ecl fs) (ecl_len fs) hcells ecl_oneU (by unfold maxLen; omega) (by omega) hbase
    refine ⟨v', w', hrun, ?_, h4, h5⟩
    unfold EdgesAt
    rw [List.length_append, ecl_appendU]
    exact h3
theorem step_appE {w : World} {ops : Array Oper} {o : Oper} {a : Act} {K : Act → World → Prop} {Q : Exit → Act → World → Prop} {E : Prop} (hgd : o.guard = none) (s x : Operand)
    (ho : o.op = .call { callee := .builtin .append, args := #[s, x], argTypes := #[22, 22] })
    {B : Nat} {v : Value} {es fs : List E3} (hs : a.eval s = v) (hown : EdgesAt w B v es) (A : Option Addr) (m c : Nat) (hx : a.eval x = .slice A m c) (hsrc : EdgesRd w (.slice A m c) fs) (h63 : es.length + fs.length ≤ 100000) (hbase : B ≤ w.heap.size)
    (h : ∀ v' w', EdgesAt w' B v' (es ++ fs) → w.grownBy w' v.ownBlock → (v'.ownBlock = v.ownBlock ∨ v'.ownBlock = some w.heap.size) → K (a.put o.dst v') w') :
    if Region.wanted o (yielded ops a.tmps) = true then Oper.wp Tryz.prog o a w K Q else E := by
  have hw : Region.wanted o (yielded ops a.tmps) = true := by simp [Region.wanted, hgd]
  rw [if_pos hw]
  obtain ⟨v', w', hrun, h2, h3, h4⟩ := run_appendE (w := w) o.type hown A m c hsrc h63 hbase
  unfold Oper.wp execOp
  simp only [ho, resolve, invoke, builtin, Sem.run_bind, Sem.run_pure, Result.andThen_ok, List.map_toArray, List.map_cons, List.map_nil, hs, hx, hrun]
  exact h v' w' h2 h3 h4
/-! ### What a drawn region with appends keeps -/
theorem ff {L : Array Bool} {i j : Nat} (h : i ≠ j) (hf : (L.setIfInBounds i true).getD j false = false) : L.getD j false = false := by
  simp only [Array.getD_eq_getD_getElem?, Array.getElem?_setIfInBounds_ne h] at hf ⊢
  exact hf
theorem fx {L : Array Bool} {i : Nat} (h : i < L.size) : (L.setIfInBounds i true).getD i false = true := by
  simp [Array.getD_eq_getD_getElem?, h]
def OneE (W : World) (H : Nat) (u : Value) (e : E3) : Prop := ∃ p, u = .slice (some ⟨p, 0, none⟩) 1 1 ∧ Box3 W p e ∧ H ≤ p
theorem OneE.keep {W W' : World} {H : Nat} {u : Value} {e : E3} (h : OneE W H u e) (hb : Below W.heap.size W W') : OneE W' H u e := by
  obtain ⟨p, h1, h2, h3⟩ := h
  exact ⟨p, h1, h2.keep hb, h3⟩
theorem OneE.rd {W : World} {H : Nat} {u : Value} {e : E3} (h : OneE W H u e) : EdgesRd W u [e] := by
  obtain ⟨p, rfl, h2, -⟩ := h
  refine ⟨_, 1, rfl, fun i x hx => ?_⟩
  rcases i with _ | i
  · injection hx with hx
    subst hx
    exact ⟨p, 0, rfl, by simpa using h2.1, by simpa using h2.2.1, by simpa using h2.2.2.1⟩
  · simp at hx
theorem OneE.new {W : World} {H : Nat} {a b c : Int} {t : TypeId} (hb : H ≤ W.heap.size) : OneE (W.alloc (.cells #[.int .i64 a, .int .i64 b, .int .i64 c] t)) H (.slice (some ⟨W.heap.size, 0, none⟩) 1 1) (a, b, c) := ⟨_, rfl, Box3.new _ _ _ _ _, hb⟩
theorem OneE.lt {W : World} {H : Nat} {u : Value} {e : E3} (h : OneE W H u e) {p : Nat} (hp : u.ownBlock = some p) : p < W.heap.size := by
  obtain ⟨q, rfl, h2, -⟩ := h
  injection hp with hp
  subst hp
  exact h2.lt
theorem Box3.grown {W W' : World} {p : Nat} {e : E3} {row : Option Nat} (h : Box3 W p e) (hg : W.grownBy W' row) (hne : some p ≠ row) : Box3 W' p e := by
  have hb := hg.block p h.lt hne
  obtain ⟨h1, h2, h3, h4, h5, h6⟩ := h
  exact ⟨(World.cell?_of_block hb).trans h1, (World.cell?_of_block hb).trans h2, (World.cell?_of_block hb).trans h3, (World.frozen?_of_block hb).trans h4, (World.frozen?_of_block hb).trans h5, (World.frozen?_of_block hb).trans h6⟩
theorem edges_none {W : World} {H : Nat} {t : TypeId} (hb : H ≤ W.heap.size) (ht : t = 39) : EdgesAt (W.alloc (.cells #[] t)) H (.slice (some ⟨W.heap.size, 0, none⟩) 0 0) [] := by
  subst ht
  exact World.ownsRow_made W #[] 0 hb (by unfold maxLen; omega) rfl
def Ap (u v : Value) : Prop := u.ownBlock ≠ v.ownBlock
theorem OneE.grown {W W' : World} {H : Nat} {u v : Value} {e : E3} (h : OneE W H u e) (hg : W.grownBy W' v.ownBlock) (ha : Ap u v) : OneE W' H u e := by
  obtain ⟨p, rfl, h2, h3⟩ := h
  exact ⟨p, rfl, h2.grown hg ha, h3⟩
theorem ap_new {W : World} {H : Nat} {v : Value} {es : List E3} {n c : Nat} (h : EdgesAt W H v es) : Ap (.slice (some ⟨W.heap.size, 0, none⟩) n c) v := fun he => by
  have := (h.lt W.heap.size he.symm).2
  omega
theorem OneE.ap {W : World} {H : Nat} {u v v' : Value} {e : E3} (h : OneE W H u e) (ha : Ap u v) (h4 : v'.ownBlock = v.ownBlock ∨ v'.ownBlock = some W.heap.size) : Ap u v' := by
  rcases h4 with h4 | h4
  · unfold Ap; rw [h4]; exact ha
  · intro he
    have := h.lt (p := W.heap.size) (he.trans h4)
    omega
theorem OneE.apart {W : World} {H : Nat} {u : Value} {e : E3} (h : OneE W H u e) (n c : Nat) : Ap u (.slice (some ⟨W.heap.size, 0, none⟩) n c) := fun he => by
  have := h.lt (p := W.heap.size) he
  omega
end Go.Proofs.YtiockphjnkehnaaGreatDoor
