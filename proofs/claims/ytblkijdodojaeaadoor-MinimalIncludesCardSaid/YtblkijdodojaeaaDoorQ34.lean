/- What graph.Reverse returns for a valid graph: the graph with its edges turned around. No condition. What minimal.Merge returns for a valid, deterministic graph. Condition: the edges can be read. What minimal.compare returns, for a function value of which firstWord's answer is known. Conditions: the edges can be read; the library's table reads as its text lays it. -/
import Derived.Test.YtblkijdodojaeaaDoorQ33
import Derived.Test.YtblkijdodojaeaaDoorQ30
import Derived.Test.YtblkijdodojaeaaDoorQ29
import Derived.Test.YtblkijdodojaeaaDoorQ15
import Derived.Test.YtblkijdodojaeaaDoorQ20

namespace Go.Proofs.YtblkijdodojaeaaDoor
open Go.RowKit Go.Shelf
set_option linter.unusedSimpArgs false
set_option linter.unusedVariables false

theorem make_edges (n : Nat) (hn : n ≤ 100000) (W : World) : (Instr.makeSlice 22 (.int .i64 (n : Int)) (.int .i64 (n : Int))).run Tryd.prog W = .ok (.slice (some ⟨W.heap.size, 0, none⟩) n n) (W.alloc (.cells (madeCells #[.int .i64 0, .int .i64 0, .int .i64 0] (n * 3)) 63)) := by
  obtain ⟨i0, hi, hz0, hz1, hz2⟩ := info_parts Tryd.infoEdge
  have h := run_make (P := Tryd.prog) W 22 63 i0 _ Tryd.underlying22 hi hz0 .i64 .i64 (n : Int) (n : Int) (by omega) (Int.le_refl _) (by rw [hz2]; omega) (by omega)
  rw [hz1, show (Value.agg #[.int .i64 0, .int .i64 0, .int .i64 0]).cells = #[.int .i64 0, .int .i64 0, .int .i64 0] from by rfl] at h
  simp only [Int.toNat_natCast] at h
  exact h
theorem ERow.made (W : World) (n : Nat) : ERow (W.alloc (.cells (madeCells #[.int .i64 0, .int .i64 0, .int .i64 0] (n * 3)) 63)) W.heap.size n n (fun _ => (0, 0, 0)) := by
  have hz : ∀ i, i < n * 3 → (madeCells #[Value.int .i64 0, .int .i64 0, .int .i64 0] (n * 3))[i]? = some (.int .i64 0) := fun i hi => by
    have hs := size_madeCells #[Value.int .i64 0, .int .i64 0, .int .i64 0] (n * 3)
    rw [Array.getElem?_eq_getElem (by omega)]
    simp only [madeCells, Array.getElem_map, Array.getElem_range]
    have hm : i % 3 = 0 ∨ i % 3 = 1 ∨ i % 3 = 2 := by omega
    show some (#[Value.int .i64 0, .int .i64 0, .int .i64 0][i % 3]!) = _
    rcases hm with h | h | h <;> rw [h] <;> rfl
  refine ⟨fun _ => .int .i64 0, ⟨_, heap_alloc_new W _, size_madeCells _ _, hz⟩, Nat.le_refl _, fun i hi => ⟨rfl, rfl, rfl⟩⟩
theorem ERow.keep {W W' : World} {g cap n : Nat} {f : Nat → E3} (h : ERow W g cap n f) (hb : Below W.heap.size W W') : ERow W' g cap n f := by
  obtain ⟨F, h1, h2⟩ := h
  exact ⟨F, World.rowIs.of_block h1 (hb.block g h1.lt), h2⟩
theorem ERow.lt {W : World} {g cap n : Nat} {f : Nat → E3} (h : ERow W g cap n f) : g < W.heap.size := by
  obtain ⟨F, h1, -⟩ := h
  exact h1.lt
/-- What Reverse's loop keeps. -/
structure RVs (w : World) (L : Int) (n : Nat) (v : Value) (T m : Nat) (f : Nat → E3) (W : World) : Prop where
  g : BoxG W w.heap.size L (n : Int) v
  r : BoxF W (w.heap.size + 1) 0 0 (.slice none 0 0)
  t : ERow W T m m f
  lo : w.heap.size + 2 ≤ T
  b : Below w.heap.size w W
theorem RVs.keep {w W W' : World} {L : Int} {n : Nat} {v : Value} {T m : Nat} {f : Nat → E3} (h : RVs w L n v T m f W) (hb : Below W.heap.size W W') : RVs w L n v T m f W' :=
  ⟨h.g.keep hb, h.r.keep hb, h.t.keep hb, h.lo, h.b.trans (hb.mono h.b.size)⟩
theorem RVs.set {w W : World} {L : Int} {n : Nat} {v : Value} {T m : Nat} {f : Nat → E3} (h : RVs w L n v T m f W) {i : Nat} (hi : i < m) (x y z : Int) :
    RVs w L n v T m (fun j => if j = i then (x, y, z) else f j) (((W.setCell ⟨T, i * 3, none⟩ (.int .i64 x)).setCell ⟨T, i * 3 + 1, none⟩ (.int .i64 y)).setCell ⟨T, i * 3 + 2, none⟩ (.int .i64 z)) := by
  have hlo := h.lo
  have h1 : T ≠ w.heap.size := by omega
  have h2 : T ≠ w.heap.size + 1 := by omega
  exact ⟨boxG_other (boxG_other (boxG_other h.g (a := ⟨T, i * 3, none⟩) h1 _) (a := ⟨T, i * 3 + 1, none⟩) h1 _) (a := ⟨T, i * 3 + 2, none⟩) h1 _,
    ((h.r.other (a := ⟨T, i * 3, none⟩) h2 _).other (a := ⟨T, i * 3 + 1, none⟩) h2 _).other (a := ⟨T, i * 3 + 2, none⟩) h2 _, h.t.set hi x y z, h.lo, set9_below h.b (by omega) _ _ _ _ _ _⟩
end Go.Proofs.YtblkijdodojaeaaDoor

namespace Go.Proofs.YtblkijdodojaeaaDoor
open Go.RowKit Go.Shelf
set_option linter.unusedSimpArgs false
set_option linter.unusedVariables false

theorem run_maxH {P : Program} (k : IntKind) (a b n : Nat) (h : max a b = n) (w : World) (ts : Array TypeId) (t : TypeId) :
    (Builtin.max_ ts t #[.int k (a : Int), .int k (b : Int)]).run P w = .ok (.int k (n : Int)) w := by
  by_cases h1 : a < b
  · have e : n = b := by omega
    have h2 : (a : Int) < (b : Int) := by omega
    simp [Builtin.max_, Builtin.max2, h2, e]
    try omega
  · have e : n = a := by omega
    have h2 : ¬ (a : Int) < (b : Int) := by omega
    simp [Builtin.max_, Builtin.max2, h2, e]
    try omega
theorem ints_overH {W : World} {g n c b : Nat} {l : List Int} (h : IntsRd W (.slice (some ⟨g, 0, none⟩) n c) l) (hb : b ≠ g) (x y z : Value) : IntsRd (((W.setCell ⟨b, 0, none⟩ x).setCell ⟨b, 1, none⟩ y).setCell ⟨b, 2, none⟩ z) (.slice (some ⟨g, 0, none⟩) n c) l := by
  obtain ⟨a, c2, hv, h1⟩ := h
  injection hv with e1 e2 e3
  subst e1
  refine ⟨_, _, by rw [e2, e3], fun i x2 hx => ?_⟩
  obtain ⟨b2, off, e, k⟩ := h1 i x2 hx
  injection e with e
  injection e with e4 e5
  subst e4
  refine ⟨_, off, by rw [e5], ?_⟩
  rw [World.cell?_setCell_far _ _ _ _ (by exact hb), World.cell?_setCell_far _ _ _ _ (by exact hb), World.cell?_setCell_far _ _ _ _ (by exact hb)]
  exact k
/-- An edge between classes. -/
def mg1 (c : List Nat) (e : E3) : E3 := (((c.getD e.1.toNat 0 : Nat) : Int), e.2.1, ((c.getD e.2.2.toNat 0 : Nat) : Int))
set_option maxRecDepth 100000 in
set_option maxHeartbeats 6400000 in
theorem merge_yes (La n : Nat) (es : List E3) (v : Value) (w : World) (cs : List Nat) (hcs : classN (mT n es) La n = cs) (hrd : EdgesRd w v es) (hvg : VG (La : Int) (n : Int) es) (hd : detE es = true) :
    Calls Tryd.prog 37 #[grV (La : Int) (n : Int) v] w fun e w' => ∃ v' g c, e = .returned (.tuple #[grV (La : Int) ((numC cs : Nat) : Int) v', .slice (some ⟨g, 0, none⟩) n c, .int .i64 0]) ∧ EdgesAt w' w.heap.size v' (mkE (mgE es cs)) ∧ IntsRd w' (.slice (some ⟨g, 0, none⟩) n c) (labsI cs) ∧ Below w.heap.size w w' := by
  have hn64 : n ≤ 64 := by have := hvg.s2; omega
  have hL256 : La ≤ 256 := by have := hvg.l2; omega
  have hL1 : 1 ≤ La := by have := hvg.l1; omega
  have hlen := hvg.len
  have hcl : cs.length = n := by rw [← hcs]; exact classN_len _ _ _ hL1
  have hcn : numC cs ≤ n := by rw [← hcs]; exact classN_num _ _ _ hL1
  have HPA : Hid (∀ W, EdgesRd W v es → Calls Tryd.prog 72 #[grV (La : Int) (n : Int) v] W fun e w' => ∃ g c, e = .returned (.tuple #[.slice (some ⟨g, 0, none⟩) n c, .int .i64 0]) ∧ W.heap.size ≤ g ∧ IntsRd w' (.slice (some ⟨g, 0, none⟩) n c) (labsI cs) ∧ Below W.heap.size W w') := Lib.hid (fun W h => by
    have h2 := part_yes La n es v W h hvg hd
    rw [hcs] at h2
    exact h2)
  have hmvg := merged_vg hvg hcl (by omega)
  have HMR := Lib.hid (show makeR (La : Int) ((numC cs : Nat) : Int) (mgE es cs) = ((La : Int), ((numC cs : Nat) : Int), mkE (mgE es cs), 0) by
    unfold makeR
    rw [if_pos hmvg.chk])
  have HMK := Lib.hid (fun v' W h => make_any (La : Int) ((numC cs : Nat) : Int) (mgE es cs) v' W h (by rw [mgE_len]; omega))
  have HME := Lib.hid (fun W => make_edges es.length (by omega) W)
  have HOK := Lib.hid hvg.ok
  have HRD := Lib.hid hrd
  have HCL := Lib.hid hcl
  have HCS : Hid (∀ i, i < n → cs.getD i 0 < 64) := Lib.hid (fun i hi => by
    have := numC_lt cs _ (getD_mem (c := cs) (i := i) (by omega)); omega)
  have K0 := Lib.hid (KB.start w (La : Int) (n : Int) v 24)
  obtain ⟨⟨x1, x2, x3⟩, ⟨⟨r1, r2, r3⟩, r4, r5, r6⟩, -⟩ := id K0.out
  obtain ⟨a, c, rfl⟩ := hrd.form
  clear hrd hvg hd hcs hmvg hcl
  go_enter Tryd.func37, Tryd.ntmps37
  go_upto_region 6 with (go_at_call 72; (with_reducible refine (HPA.out _ (HRD.out.keep K0.out.bel)).mono ?_); rintro e0 W1 ⟨g5, c5, rfl, hg5, i5, b1⟩; (have K1 := Lib.hid (K0.out.keep b1)); (have HG5 : w.heap.size + 2 ≤ g5 := Nat.le_trans K0.out.2.2.2 hg5); (have I1 := Lib.hid i5); (clear b1 i5 x1 x2 x3 r1 r2 r3 r4 r5 r6); (obtain ⟨⟨x1, x2, x3⟩, ⟨⟨r1, r2, r3⟩, r4, r5, r6⟩, -⟩ := id K1.out))
  clear x1 x2 x3 r1 r2 r3 r4 r5 r6 K0
  go_loopg [7, 25] n (fun q s7 s25 wx => ∃ i : Nat, i + q = n ∧ s25 = .int .i64 (i : Int) ∧ s7 = .int .i64 ((numC (cs.take i) : Nat) : Int) ∧ wx = W1)
  case atStart => exact ⟨0, by omega, rfl, rfl, rfl⟩
  case round =>
    obtain ⟨i, hin, rfl, rfl, rfl⟩ := hrel
    rcases gk with _ | q
    · obtain rfl : i = n := by omega
      have j0 : ¬ ((i : Int) < (i : Int)) := by omega
      have HNC := Lib.hid (show numC (cs.take i) = numC cs by rw [List.take_of_length_le (by rw [HCL.out]; exact Nat.le_refl _)])
      rw [HNC.out]
      obtain ⟨NC, hNC⟩ : ∃ NC, numC cs = NC := ⟨_, rfl⟩
      have HNN := Lib.hid hNC
      rw [hNC] at HMK HMR hcn ⊢
      clear hNC HNC
      obtain ⟨⟨x1, x2, x3⟩, ⟨⟨r1, r2, r3⟩, r4, r5, r6⟩, -⟩ := id K1.out
      obtain ⟨V1, rfl⟩ : ∃ V1, V1 = wr := ⟨_, rfl⟩
      have I1C := Lib.hid I1.out
      have hm := HME.out V1
      have bm := below1 V1 (.cells (madeCells #[.int .i64 0, .int .i64 0, .int .i64 0] (es.length * 3)) 63)
      have R0 := Lib.hid (show RVs w (La : Int) i (.slice a es.length c) V1.heap.size es.length (fun _ => (0, 0, 0)) _ from ⟨(K1.out.keep bm).1, (K1.out.keep bm).2.1, ERow.made V1 es.length, K1.out.2.2.2, (K1.out.keep bm).2.2.1⟩)
      have I2 := Lib.hid (I1.out.keep bm)
      obtain ⟨⟨y1, y2, y3⟩, -⟩ := K1.out.keep bm
      go_upto_region 12 with fail
      obtain ⟨T, hT⟩ : ∃ T, V1.heap.size = T := ⟨_, rfl⟩
      obtain ⟨W2, hW2⟩ : ∃ W2, V1.alloc (.cells (madeCells #[.int .i64 0, .int .i64 0, .int .i64 0] (es.length * 3)) 63) = W2 := ⟨_, rfl⟩
      have hTT := hT
      rw [hT, hW2] at R0 ⊢
      rw [hW2] at I2
      have BT := Lib.hid (show Below T V1 W2 by rw [← hT, ← hW2]; exact bm)
      clear hT hW2 bm hm K1 x1 x2 x3 y1 y2 y3 r1 r2 r3 r4 r5 r6 I1
      have HT := Lib.hid (show V1.heap.size = T from hTT)
      clear hTT
      have IV := Lib.hid I1C.out
      clear I1C
      go_loopg [41] es.length (fun q s41 wx => ∃ (k : Nat) (f : Nat → E3), k + q = es.length ∧ s41 = .int .i64 (k : Int) ∧ RVs w (La : Int) i (.slice a es.length c) T es.length f wx ∧ Hid (∀ j, j < k → f j = mg1 cs es[j]!) ∧ Hid (Below T V1 wx))
      case atStart => exact ⟨0, _, by omega, rfl, R0.out, Lib.hid (fun j hj => absurd hj (by omega)), BT⟩
      case round =>
        clear R0 BT I2
        obtain ⟨k, f, hkq, rfl, hR, HF, HBT⟩ := hrel
        have RR := Lib.hid hR
        obtain ⟨g1, g2, g3⟩ := id hR.g
        have HIC := Lib.hid (IV.out.keep (show Below V1.heap.size V1 wr by rw [HT.out]; exact HBT.out))
        rcases gk with _ | q2
        · obtain rfl : k = es.length := by omega
          obtain ⟨⟨r1, r2, r3⟩, r4, r5, r6⟩ := id hR.r
          have j5 : ¬ ((es.length : Int) < (es.length : Int)) := by omega
          have hml := mgE_len es cs
          have ET := Lib.hid (show EdgesAt wr (w.heap.size + 2) (.slice (some ⟨T, 0, none⟩) (mgE es cs).length es.length) (mgE es cs) from
            ERow.at (f := f) (by rw [hml]; exact RR.out.t) RR.out.lo (by unfold maxLen; omega) (fun j hj => by
              rw [hml] at hj
              unfold mgE
              rw [List.getElem?_map, List.getElem?_eq_getElem hj, HF.out j (by omega), getElem!_pos es j hj]; rfl))
          have HMS := Lib.hid (HMK.out _ wr ET.out.rd)
          rw [hml] at HMS
          clear hml hR hkq
          go_upto_region 19 with (go_at_call 73; (with_reducible refine HMS.out.mono ?_); rintro e0 W5 ⟨v5, rfl, i5, b5⟩; (rw [HMR.out] at i5 ⊢); (dsimp only at i5 ⊢); (obtain ⟨a7, c7, rfl⟩ := i5.slice); (have I5 := Lib.hid i5); (have B5 := Lib.hid b5); (obtain ⟨⟨r1, r2, r3⟩, r4, r5, r6⟩ := id (RR.out.r.keep b5)); (clear i5 b5 g1 g2 g3))
          have B6 := Lib.hid (below_more B5.out (Nat.le_refl _) (below1 W5 (.cells #[.int .i64 (La : Int), .int .i64 (NC : Int), .slice a7 (mkE (mgE es cs)).length c7] 24)))
          have I6 := Lib.hid (I5.out.keep (below1 W5 (.cells #[.int .i64 (La : Int), .int .i64 (NC : Int), .slice a7 (mkE (mgE es cs)).length c7] 24)))
          have X6 := BoxG.new W5 (La : Int) (NC : Int) (.slice a7 (mkE (mgE es cs)).length c7) 24
          obtain ⟨P5, hP5⟩ : ∃ P5, W5.heap.size = P5 := ⟨_, rfl⟩
          rw [hP5] at X6 ⊢
          clear r1 r2 r3 r4 r5 r6 I5 hP5
          generalize (W5.alloc (.cells #[.int .i64 (La : Int), .int .i64 (NC : Int), .slice a7 (mkE (mgE es cs)).length c7] 24)) = W6 at *
          obtain ⟨⟨r1, r2, r3⟩, r4, r5, r6⟩ := RR.out.r.keep B6.out
          obtain ⟨x1, x2, x3⟩ := X6
          have hTl := RR.out.t.lt
          have hlo := RR.out.lo
          have HI6 := Lib.hid (HIC.out.keep B6.out)
          have BW := Lib.hid (RR.out.b.trans (B6.out.mono RR.out.b.size))
          go_wp2_with fail
          exact bodyPost_ret (v := .tuple #[grV (La : Int) (NC : Int) (.slice a7 (mkE (mgE es cs)).length c7), .slice (some ⟨g5, 0, none⟩) i c5, .int .i64 0]) (by simp [results, Tryd.results37, go_sem, r1, r2, r3]) rfl
            ⟨_, _, _, by rw [HNN.out], edges_over I6.out (by omega) _ _ _ (by omega), ints_overH (b := w.heap.size + 1) HI6.out (by omega) _ _ _, below_over BW.out (Nat.le_succ _) _ _ _⟩
        · obtain ⟨e, he⟩ : ∃ e, es[k]? = some e := ⟨_, List.getElem?_eq_getElem (by omega)⟩
          have hok := okE_iff.1 (HOK.out e (List.mem_of_getElem? he))
          obtain ⟨bb, off, c', hv, k1, k2, k3⟩ := (HRD.out.keep RR.out.b).at he
          injection hv with e1 e2 e3
          subst e1
          subst e3
          have hee : es[k]! = e := by obtain ⟨hi, h2⟩ := List.getElem?_eq_some_iff.1 he; rw [getElem!_pos es k hi, h2]
          obtain ⟨x, y, z⟩ := e
          dsimp only at k1 k2 k3 hok
          obtain ⟨x, rfl⟩ : ∃ m : Nat, x = (m : Int) := ⟨x.toNat, by omega⟩
          obtain ⟨z, rfl⟩ : ∃ m : Nat, z = (m : Int) := ⟨z.toNat, by omega⟩
          have hxn : x < i := by omega
          have hzn : z < i := by omega
          obtain ⟨cx, hcx⟩ : ∃ cx, cs.getD x 0 = cx := ⟨_, rfl⟩
          obtain ⟨cz, hcz⟩ : ∃ cz, cs.getD z 0 = cz := ⟨_, rfl⟩
          have hkl : k < es.length := by omega
          have j3 : (k : Int) < (es.length : Int) := by omega
          have jx : (x : Int) < (i : Int) := by omega
          have jz : (z : Int) < (i : Int) := by omega
          have HF2 := Lib.hid (show ∀ j, j < k + 1 → (fun j => if j = k then (((cx : Int), y, (cz : Int)) : E3) else f j) j = mg1 cs es[j]! from fun j hj => by
            dsimp only
            by_cases hjk : j = k
            · subst hjk; rw [if_pos rfl, hee]
              unfold mg1
              dsimp only
              rw [Int.toNat_natCast, Int.toNat_natCast, hcx, hcz]
            · rw [if_neg hjk]; exact HF.out j (by omega))
          obtain ⟨⟨o1, o2, o3⟩, ho⟩ : ∃ o, f k = o := ⟨_, rfl⟩
          have HTw : T ≤ wr.heap.size := by have := RR.out.t.lt; omega
          have bb1 := below1 wr (.cells #[.int .i64 (x : Int), .int .i64 y, .int .i64 (z : Int)] 63)
          have RB := Lib.hid (RR.out.keep bb1)
          have BB := Lib.hid (HBT.out.trans (bb1.mono HTw))
          have IB := HIC.out.keep bb1
          have X1 := BoxG.new wr (x : Int) y (.int .i64 (z : Int)) 63
          obtain ⟨c7, c8, c9⟩ := RB.out.t.cells hkl ho
          have f1 := RB.out.t.frozen (k * 3)
          have f2 := RB.out.t.frozen (k * 3 + 1)
          have f3 := RB.out.t.frozen (k * 3 + 2)
          obtain ⟨b7, q7, n7, hv7, p7⟩ := IB.at (natR (c := cs) (i := x) (by rw [HCL.out]; exact hxn))
          rw [labsI_lenH, HCL.out] at hv7
          injection hv7 with h1 h2 h3
          injection h1 with h1
          injection h1 with h1 h1b
          subst h1
          subst h1b
          rw [Nat.zero_add] at p7
          obtain ⟨b8, q8, n8, hv8, p8⟩ := IB.at (natR (c := cs) (i := z) (by rw [HCL.out]; exact hzn))
          injection hv8 with h4 h5 h6
          injection h4 with h4
          injection h4 with h4 h7
          subst h4
          subst h7
          rw [Nat.zero_add] at p8
          rw [hcx] at p7
          rw [hcz] at p8
          clear he hee ho e2 hR h2 h3 h5 h6 IB hcx hcz bb1
          go_upto_region 14 with fail
          obtain ⟨P0, hP0⟩ : ∃ P0, wr.heap.size = P0 := ⟨_, rfl⟩
          rw [hP0] at X1 ⊢
          clear k1 k2 k3 g1 g2 g3 hP0 HTw HIC HBT
          generalize (wr.alloc (.cells #[.int .i64 (x : Int), .int .i64 y, .int .i64 (z : Int)] 63)) = V at *
          obtain ⟨z1, z2, z3⟩ := X1
          go_region
          go_wp2_with fail
          go_roundg q2
          case measure => omega
          case rel => exact ⟨k + 1, _, by omega, by go_num, (RB.out.set hkl (cx : Int) y (cz : Int)).keep (Below.refl _ _).drew, HF2, Lib.hid ((set9_below BB.out (Nat.le_refl _) _ _ _ _ _ _).trans (show Below T _ _ from (Below.refl _ _).drew))⟩
    · obtain ⟨b1, o1, k1, hv1, p1⟩ := I1.out.at (natR (c := cs) (i := i) (by rw [HCL.out]; omega))
      rw [labsI_lenH, HCL.out] at hv1
      injection hv1 with e1 e2 e3
      injection e1 with e1
      injection e1 with e1 e4
      subst e1
      subst e4
      rw [Nat.zero_add] at p1
      obtain ⟨x, hx⟩ : ∃ x, cs.getD i 0 = x := ⟨_, rfl⟩
      have hx64 : x < 64 := by rw [← hx]; exact HCS.out i (by omega)
      obtain ⟨m, hm⟩ : ∃ m, numC (cs.take i) = m := ⟨_, rfl⟩
      obtain ⟨m2, hm2⟩ : ∃ m2, max m (x + 1) = m2 := ⟨_, rfl⟩
      have HM2 := Lib.hid (show numC (cs.take (i + 1)) = m2 by
        rw [take_snoc (getD_opt (c := cs) (s := i) (by rw [HCL.out]; omega)), numC_snoc, hm, hx, hm2])
      rw [hx] at p1
      rw [hm]
      have hmx : ∀ (W : World) (ts : Array TypeId) (t : TypeId), (Builtin.max_ ts t #[.int .i64 (m : Int), .int .i64 ((x : Int) + 1)]).run Tryd.prog W = .ok (.int .i64 (m2 : Int)) W := fun W ts t => by
        have h := run_maxH (P := Tryd.prog) .i64 m (x + 1) m2 hm2 W ts t
        rw [show ((x + 1 : Nat) : Int) = (x : Int) + 1 by omega] at h
        exact h
      have j1 : (i : Int) < (n : Int) := by omega
      have hwx : IntKind.i64.wrap ((x : Int) + 1) = (x : Int) + 1 := by rw [IntWalk.i64_in _ (by omega)]
      clear e2 e3 hx hm hm2
      go_wp2_with fail
      go_roundg q
      case measure => omega
      case rel => exact ⟨i + 1, by omega, by go_num, by rw [HM2.out], rfl⟩
end Go.Proofs.YtblkijdodojaeaaDoor

namespace Go.Proofs.YtblkijdodojaeaaDoor
open Go.RowKit
set_option linter.unusedSimpArgs false
set_option linter.unusedVariables false

theorem build_fit {La S : Int} {es : List E3} (hz : chkG La S es = 0) (h : (buildR La S es).1 = 0) : (buildR La S es).2.1.length ≤ 64 ∧ (buildR La S es).2.2.length ≤ 1024 ∧ (∀ e ∈ (buildR La S es).2.2, okE La (((buildR La S es).2.1.length : Nat) : Int) e = true) := by
  have hvg := chkG_zero hz
  by_cases hS : S = 0
  · have e : buildR La S es = (0, ([], [])) := by unfold buildR; rw [if_pos hz, if_pos hS]
    rw [e]
    exact ⟨by simp, by simp, fun e he => by cases he⟩
  · obtain ⟨L, rfl⟩ : ∃ L : Nat, La = (L : Int) := ⟨La.toNat, by have := hvg.l1; omega⟩
    obtain ⟨n, rfl⟩ : ∃ n : Nat, S = (n : Int) := ⟨S.toNat, by have := hvg.s1; omega⟩
    have e : buildR (L : Int) (n : Int) es = (bErr (builtN es L (fullN n)), bSets (builtN es L (fullN n))) := by
      unfold buildR
      rw [if_pos hz, if_neg hS, Int.toNat_natCast, Int.toNat_natCast]
    rw [e] at h ⊢
    cases hb : builtN es L (fullN n) with
    | none => rw [hb] at h; cases h
    | some b =>
      have hres := built_res (fullN_ne (by omega)) (fullN_lt (by have := hvg.s2; omega)) hb
      have hv := hres.vg (by have := hvg.l1; omega) (by have := hvg.l2; omega)
      exact ⟨hres.n, hres.m, hv.ok⟩
theorem buildR_err {La S : Int} {es : List E3} (hz : chkG La S es = 0) : (buildR La S es).1 = 0 ∨ (buildR La S es).1 = 4 := by
  unfold buildR
  rw [if_pos hz]
  split
  · exact .inl rfl
  · cases builtN es La.toNat (fullN S.toNat)
    · exact .inr rfl
    · exact .inl rfl
/-- What compare reports. -/
def cmpZ (La S : Int) (es : List E3) (Lb T : Int) (fs : List E3) : Int := if chkG La S es = 0 ∧ chkG Lb T fs = 0 then (if (buildR La S es).1 = 0 then (buildR Lb T fs).1 else (buildR La S es).1) else 1
theorem cmpZ_comm (La S : Int) (es : List E3) (Lb T : Int) (fs : List E3) : cmpZ La S es Lb T fs = cmpZ Lb T fs La S es := by
  unfold cmpZ
  by_cases h1 : chkG La S es = 0
  · by_cases h2 : chkG Lb T fs = 0
    · rw [if_pos (And.intro h1 h2), if_pos (And.intro h2 h1)]
      have h3 := buildR_err h1
      have h4 := buildR_err h2
      by_cases h5 : (buildR La S es).1 = 0 <;> by_cases h6 : (buildR Lb T fs).1 = 0 <;> simp only [h5, h6, if_true, if_false, ite_true, ite_false] <;> omega
    · rw [if_neg (fun h => h2 h.2), if_neg (fun h => h2 h.1)]
  · rw [if_neg (fun h => h1 h.1), if_neg (fun h => h1 h.2)]
/-- What compare returns. -/
def CmpOut (D : Bool → Bool → Bool) (La S : Int) (es : List E3) (Lb T : Int) (fs : List E3) (w : World) (e : Ending) (w' : World) : Prop :=
  ∃ u is g c, e = .returned (.tuple #[.slice g u.length c, .bool is, .int .i64 (cmpZ La S es Lb T fs)]) ∧ IntsRd w' (.slice g u.length c) u ∧ (cmpZ La S es Lb T fs ≠ 0 → u = [] ∧ is = false) ∧
    (cmpZ La S es Lb T fs = 0 → FW D (mT (buildR La S es).2.1.length (buildR La S es).2.2) (mT (buildR Lb T fs).2.1.length (buildR Lb T fs).2.2) (buildR La S es).2.1.length (buildR Lb T fs).2.1.length (max La Lb).toNat 0 0 u (!is)) ∧ Below w.heap.size w w'
theorem intsRd_nilM (W : World) : IntsRd W (.slice none 0 0) [] := ⟨none, 0, rfl, fun i x h => by simp at h⟩
/-- What is asked of the function value. -/
def FWX (D : Bool → Bool → Bool) (fv : Value) : Prop := ∀ (a b : Nat → Nat → Nat) (na nb Lab M M' : Nat) (W : World), RowsRd W (.slice (some ⟨M, 0, none⟩) (na + 1) (na + 1)) (mRows a na Lab) → RowsRd W (.slice (some ⟨M', 0, none⟩) (nb + 1) (nb + 1)) (mRows b nb Lab) →
  (∀ x l, x ≤ na → a x l ≤ na) → (∀ x l, x ≤ nb → b x l ≤ nb) → (∀ l, a na l = na) → (∀ l, b nb l = nb) → na ≤ 64 → nb ≤ 64 → Lab ≤ 256 →
  Calls Tryd.prog 76 #[.slice (some ⟨M, 0, none⟩) (na + 1) (na + 1), .slice (some ⟨M', 0, none⟩) (nb + 1) (nb + 1), .agg #[.int .i64 0, .int .i64 0], fv] W (FWOut D a b na nb Lab 0 0 W)
/-- What the last region reads. -/
def GB2 (pg pm : Nat) (La n k Lb : Int) (v vm : Value) (W : World) : Prop := W.cell? ⟨pg, 0, none⟩ = some (.int .i64 La) ∧ W.cell? ⟨pg, 1, none⟩ = some (.int .i64 n) ∧ W.cell? ⟨pg, 2, none⟩ = some v ∧
  W.cell? ⟨pm, 0, none⟩ = some (.int .i64 Lb) ∧ W.cell? ⟨pm, 1, none⟩ = some (.int .i64 k) ∧ W.cell? ⟨pm, 2, none⟩ = some vm
theorem GB2.keep {pg pm : Nat} {La n k Lb : Int} {v vm : Value} {W W' : World} (h : GB2 pg pm La n k Lb v vm W) (hb : Below W.heap.size W W') : GB2 pg pm La n k Lb v vm W' :=
  ⟨cell_keep h.1 hb, cell_keep h.2.1 hb, cell_keep h.2.2.1 hb, cell_keep h.2.2.2.1 hb, cell_keep h.2.2.2.2.1 hb, cell_keep h.2.2.2.2.2 hb⟩
theorem okE_mono {La Lb n : Int} {e : E3} (h : okE La n e = true) (hl : La ≤ Lb) : okE Lb n e = true := by
  rw [okE_iff] at h ⊢
  omega
set_option maxRecDepth 100000 in
set_option maxHeartbeats 12800000 in
theorem compare_any (D : Bool → Bool → Bool) (fv : Value) (La S Lb T : Int) (es fs : List E3) (v u : Value) (w : World) (HFW : FWX D fv) (hrd : EdgesRd w v es) (hru : EdgesRd w u fs) (hn : es.length ≤ 9223372036854775807) (hm : fs.length ≤ 9223372036854775807) (hT : TabD w) :
    Calls Tryd.prog 39 #[grV La S v, grV Lb T u, fv] w (CmpOut D La S es Lb T fs w) := by
  have hmx : Tryd.prog.follows .mixedOrders = true := by kernel_rfl
  have HC1 := Lib.hid (fun W h => gcheck_any La S es v W h hn)
  have HC2 := Lib.hid (fun W h => gcheck_any Lb T fs u W h hm)
  have b0 := below_more (below1 w (.cells #[.int .i64 La, .int .i64 S, v] 24)) (Nat.le_refl _) (below1 _ (.cells #[.int .i64 Lb, .int .i64 T, u] 24))
  have B0 := Lib.hid b0
  have G0 := Lib.hid ((BoxG.new w La S v 24).keep (below1 _ (.cells #[.int .i64 Lb, .int .i64 T, u] 24)))
  have H0 := BoxG.new (w.alloc (.cells #[.int .i64 La, .int .i64 S, v] 24)) Lb T u 24
  rw [World.size_alloc] at H0
  have H0 := Lib.hid H0
  have RA := Lib.hid hrd
  have RB := Lib.hid hru
  have HT := Lib.hid hT
  have HBA := Lib.hid (fun W h h2 => Build_any La S es v W h hn h2)
  have HBB := Lib.hid (fun W h h2 => Build_any Lb T fs u W h hm h2)
  obtain ⟨x1, x2, x3⟩ := id G0.out
  obtain ⟨y1, y2, y3⟩ := id H0.out
  by_cases h1 : chkG La S es = 0
  · rw [h1] at HC1
    by_cases h2 : chkG Lb T fs = 0
    · rw [h2] at HC2
      have hcz : cmpZ La S es Lb T fs = if (buildR La S es).1 = 0 then (buildR Lb T fs).1 else (buildR La S es).1 := by unfold cmpZ; rw [if_pos (And.intro h1 h2)]
      by_cases h3 : (buildR La S es).1 = 0
      · rw [if_pos h3] at hcz
        have f1 := build_fit h1 h3
        obtain ⟨ba, hba⟩ : ∃ ba, (buildR La S es).2 = ba := ⟨_, rfl⟩
        obtain ⟨ea, hea⟩ : ∃ ea, ba.2 = ea := ⟨_, rfl⟩
        obtain ⟨na, hna⟩ : ∃ na, ba.1.length = na := ⟨_, rfl⟩
        rw [hba, hea, hna] at f1
        have HB1 : Hid (∀ W, EdgesRd W v es → TabD W → Calls Tryd.prog 17 #[grV La S v] W fun e W' => ∃ ah ch lv, e = .returned (.tuple #[grV La (na : Int) (.slice ah ea.length ch), lv, .int .i64 0]) ∧ EdgesRd W' (.slice ah ea.length ch) ea ∧ Below W.heap.size W W') := Lib.hid (fun W g1 g2 => by
          refine (HBA.out W g1 g2).mono ?_
          rw [h3, hba]
          rintro e W' ⟨hv, lv, he, g3, g4, g5⟩
          rw [hea] at g3
          obtain ⟨ah, ch, rfl⟩ := g3.slice
          rw [hna] at he
          exact ⟨ah, ch, lv, he, g3.rd, g5⟩)
        by_cases h4 : (buildR Lb T fs).1 = 0
        · rw [h4] at hcz
          have f2 := build_fit h2 h4
          obtain ⟨bb, hbb⟩ : ∃ bb, (buildR Lb T fs).2 = bb := ⟨_, rfl⟩
          obtain ⟨eb, heb⟩ : ∃ eb, bb.2 = eb := ⟨_, rfl⟩
          obtain ⟨nb, hnb⟩ : ∃ nb, bb.1.length = nb := ⟨_, rfl⟩
          rw [hbb, heb, hnb] at f2
          have HB2 : Hid (∀ W, EdgesRd W u fs → TabD W → Calls Tryd.prog 17 #[grV Lb T u] W fun e W' => ∃ ah ch lv, e = .returned (.tuple #[grV Lb (nb : Int) (.slice ah eb.length ch), lv, .int .i64 0]) ∧ EdgesRd W' (.slice ah eb.length ch) eb ∧ Below W.heap.size W W') := Lib.hid (fun W g1 g2 => by
            refine (HBB.out W g1 g2).mono ?_
            rw [h4, hbb]
            rintro e W' ⟨hv, lv, he, g3, g4, g5⟩
            rw [heb] at g3
            obtain ⟨ah, ch, rfl⟩ := g3.slice
            rw [hnb] at he
            exact ⟨ah, ch, lv, he, g3.rd, g5⟩)
          have hva := chkG_zero h1
          have hvb := chkG_zero h2
          obtain ⟨la, rfl⟩ : ∃ la : Nat, La = (la : Int) := ⟨La.toNat, by have := hva.l1; omega⟩
          obtain ⟨lb, rfl⟩ : ∃ lb : Nat, Lb = (lb : Int) := ⟨Lb.toNat, by have := hvb.l1; omega⟩
          obtain ⟨lm, hlm⟩ : ∃ lm : Nat, max la lb = lm := ⟨_, rfl⟩
          have hlm1 : la ≤ lm ∧ lb ≤ lm ∧ lm ≤ 256 := by have := hva.l2; have := hvb.l2; omega
          have hfin : (max (la : Int) (lb : Int)).toNat = lm := by omega
          have hmm := fun (W : World) (ts : Array TypeId) (t : TypeId) => run_maxH (P := Tryd.prog) .i64 la lb lm hlm W ts t
          have HMA := Lib.hid (fun W av ac (h : EdgesRd W (.slice av ea.length ac) ea) => machineOf_any (la : Int) lm na ea (.slice av ea.length ac) W h (fun e he => okE_mono (f1.2.2 e he) (by omega)) f1.1 hlm1.2.2 (by omega))
          have HMB := Lib.hid (fun W av ac (h : EdgesRd W (.slice av eb.length ac) eb) => machineOf_any (lb : Int) lm nb eb (.slice av eb.length ac) W h (fun e he => okE_mono (f2.2.2 e he) (by omega)) f2.1 hlm1.2.2 (by omega))
          have HFI := Lib.hid (fun M M' W h h' => HFW (mT na ea) (mT nb eb) na nb lm M M' W h h' (fun x l _ => mT_le f1.2.2 x l) (fun x l _ => mT_le f2.2.2 x l) (fun l => mT_none f1.2.2 l) (fun l => mT_none f2.2.2 l) f1.1 f2.1 hlm1.2.2)
          have HE := Lib.hid hcz
          have HQ : Hid (∀ q is, FW D (mT na ea) (mT nb eb) na nb lm 0 0 q is → FW D (mT (buildR (la : Int) S es).2.1.length (buildR (la : Int) S es).2.2) (mT (buildR (lb : Int) T fs).2.1.length (buildR (lb : Int) T fs).2.2) (buildR (la : Int) S es).2.1.length (buildR (lb : Int) T fs).2.1.length (max (la : Int) (lb : Int)).toNat 0 0 q (!(!is))) := Lib.hid (fun q is h => by
            rw [hba, hbb, hea, heb, hna, hnb, hfin, Bool.not_not]
            exact h)
          clear hcz h3 h4 h1 h2 hrd hru hT b0 HBA HBB hba hea hna hbb heb hnb f1 f2 hva hvb hlm hlm1 hfin
          go_enter Tryd.func39, Tryd.ntmps39
          go_upto_region 3 with (first
            | (go_at_call 31; (with_reducible refine (HC1.out _ (RA.out.keep B0.out)).mono ?_); rintro e W1 ⟨rfl, b1⟩; (have B1 := Lib.hid (below_more B0.out (Nat.le_refl _) b1)); (have G1 := Lib.hid (G0.out.keep b1)); (have H1 := Lib.hid (H0.out.keep b1)); clear b1 x1 x2 x3 y1 y2 y3; (obtain ⟨y1, y2, y3⟩ := id H1.out))
            | (go_at_call 31; (with_reducible refine (HC2.out _ (RB.out.keep B1.out)).mono ?_); rintro e W2 ⟨rfl, b2⟩; (have B2 := Lib.hid (B1.out.trans (b2.mono B1.out.size))); (have G2 := Lib.hid (G1.out.keep b2)); (have H2 := Lib.hid (H1.out.keep b2)); clear b2 y1 y2 y3; (obtain ⟨x1, x2, x3⟩ := id G2.out)))
          go_upto_region 4 with (go_at_call 17; (with_reducible refine (HB1.out _ (RA.out.keep B2.out) (HT.out.keep B2.out)).mono ?_); rintro e W3 ⟨ah, ch, lv, rfl, e3, b3⟩)
          have k3 := below_more b3 (Nat.le_refl _) (below1 W3 (.cells #[.int .i64 (la : Int), .int .i64 (na : Int), .slice ah ea.length ch] 24))
          have E3' := Lib.hid (e3.keep (below1 W3 (.cells #[.int .i64 (la : Int), .int .i64 (na : Int), .slice ah ea.length ch] 24)))
          have GA3 := Lib.hid (BoxG.new W3 (la : Int) (na : Int) (.slice ah ea.length ch) 24)
          have B3 := Lib.hid (B2.out.trans (k3.mono B2.out.size))
          have H3 := Lib.hid (H2.out.keep k3)
          have G3 := Lib.hid (G2.out.keep k3)
          obtain ⟨P7, hP7⟩ : ∃ P7, W3.heap.size = P7 := ⟨_, rfl⟩
          rw [hP7] at GA3 ⊢
          clear b3 e3 k3 x1 x2 x3 G2 H2 hP7
          generalize (W3.alloc (.cells #[.int .i64 (la : Int), .int .i64 (na : Int), .slice ah ea.length ch] 24)) = X at *
          obtain ⟨y1, y2, y3⟩ := id H3.out
          go_upto_region 7 with (go_at_call 17; (with_reducible refine (HB2.out _ (RB.out.keep B3.out) (HT.out.keep B3.out)).mono ?_); rintro e W4 ⟨ai, ci, lv2, rfl, e4, b4⟩)
          have k4 := below_more b4 (Nat.le_refl _) (below1 W4 (.cells #[.int .i64 (lb : Int), .int .i64 (nb : Int), .slice ai eb.length ci] 24))
          have E4' := Lib.hid (e4.keep (below1 W4 (.cells #[.int .i64 (lb : Int), .int .i64 (nb : Int), .slice ai eb.length ci] 24)))
          have GB4 := Lib.hid (BoxG.new W4 (lb : Int) (nb : Int) (.slice ai eb.length ci) 24)
          have B4 := Lib.hid (B3.out.trans (k4.mono B3.out.size))
          have H4 := Lib.hid (H3.out.keep k4)
          have G4 := Lib.hid (G3.out.keep k4)
          have GA4 := Lib.hid (GA3.out.keep k4)
          have EA4 := Lib.hid (E3'.out.keep k4)
          obtain ⟨P8, hP8⟩ : ∃ P8, W4.heap.size = P8 := ⟨_, rfl⟩
          rw [hP8] at GB4 ⊢
          clear b4 e4 k4 y1 y2 y3 G3 H3 E3' GA3 hP8
          generalize (W4.alloc (.cells #[.int .i64 (lb : Int), .int .i64 (nb : Int), .slice ai eb.length ci] 24)) = Y at *
          obtain ⟨x1, x2, x3⟩ := id G4.out
          obtain ⟨y1, y2, y3⟩ := id H4.out
          go_upto_region 10 with fail
          have HGB := Lib.hid (show GB2 P7 P8 (la : Int) (na : Int) (nb : Int) (lb : Int) (.slice ah ea.length ch) (.slice ai eb.length ci) Y from ⟨GA4.out.1, GA4.out.2.1, GA4.out.2.2, GB4.out.1, GB4.out.2.1, GB4.out.2.2⟩)
          clear x1 x2 x3 y1 y2 y3 G4 H4 GA4 GB4 HC1 HC2 HB1 HB2 RA RB HT hmm
          have G4K : Hid (∀ W, Below Y.heap.size Y W → GB2 P7 P8 (la : Int) (na : Int) (nb : Int) (lb : Int) (.slice ah ea.length ch) (.slice ai eb.length ci) W) := Lib.hid (fun W hb => HGB.out.keep hb)
          have BD := Lib.hid (Below.refl Y.heap.size Y).drew
          have C1 := Lib.hid (HMA.out Y.drew _ _ (EA4.out.keep BD.out))
          have C2 : Hid (∀ W, Below Y.heap.size Y W → _) := Lib.hid (fun W hb => HMB.out W _ _ (E4'.out.keep hb))
          go_region_held3 (fun W => W.cell? ⟨P7, 0, none⟩ = some (.int .i64 (la : Int)) ∧ W.cell? ⟨P7, 1, none⟩ = some (.int .i64 (na : Int)) ∧ W.cell? ⟨P7, 2, none⟩ = some (.slice ah ea.length ch) ∧ W.cell? ⟨P8, 0, none⟩ = some (.int .i64 (lb : Int)) ∧ W.cell? ⟨P8, 1, none⟩ = some (.int .i64 (nb : Int)) ∧ W.cell? ⟨P8, 2, none⟩ = some (.slice ai eb.length ci))
            (first | exact G4K.out _ BD.out | exact G4K.out _ K3.out | exact G4K.out _ K2.out | exact G4K.out _ K1.out)
            (first
              | (go_at_call 75; (with_reducible refine C1.out.mono ?_); rintro e0 Y1 ⟨M1, rfl, r1, q1⟩; (have K1 := Lib.hid (below_more BD.out (Nat.le_refl _) q1)); (have R1 := Lib.hid r1); clear q1 r1 C1)
              | (go_at_call 75; (with_reducible refine (C2.out Y1 K1.out).mono ?_); rintro e0 Y2 ⟨M2, rfl, r2, q2⟩; (have K2 := Lib.hid (below_more K1.out (Nat.le_refl _) q2)); (have R2 := Lib.hid r2); (have R1b := Lib.hid (R1.out.keep q2)); clear q2 r2 C2)
              | (go_at_call 76; (with_reducible refine (HFI.out _ _ _ R1b.out R2.out).mono ?_); rintro e0 Y3 ⟨g9, c9, u9, is9, rfl, i9, fw9, q3⟩; (have K3 := Lib.hid (below_more K2.out (Nat.le_refl _) q3)); (have I9 := Lib.hid i9); (have FW9 := Lib.hid fw9); clear q3 i9 fw9))
          all_goals
            go_wp2_with fail
            exact bodyPost_ret (v := .tuple #[.slice g9 u9.length c9, .bool (!is9), .int .i64 0]) (by simp [results, Tryd.results39, go_sem]) rfl ⟨u9, !is9, g9, c9, by rw [HE.out], I9.out, fun h => absurd HE.out h, fun _ => HQ.out _ _ FW9.out, (B4.out.trans (K3.out.mono B4.out.size))⟩
        · obtain ⟨z, hz⟩ : ∃ z, (buildR Lb T fs).1 = z := ⟨_, rfl⟩
          rw [hz] at hcz h4
          have HB2 : Hid (∀ W, EdgesRd W u fs → TabD W → Calls Tryd.prog 17 #[grV Lb T u] W fun e W' => ∃ gv lv, e = .returned (.tuple #[gv, lv, .int .i64 z]) ∧ (∃ l1 l2 ah k ch, gv = grV l1 l2 (.slice ah k ch)) ∧ Below W.heap.size W W') := Lib.hid (fun W g1 g2 => by
            refine (HBB.out W g1 g2).mono ?_
            rw [hz]
            rintro e W' ⟨hv, lv, he, g3, g4, g5⟩
            obtain ⟨ah, ch, rfl⟩ := g3.slice
            exact ⟨_, lv, he, ⟨_, _, _, _, _, rfl⟩, g5⟩)
          have d1 : (z != 0) = true := by simpa using h4
          have HE := Lib.hid hcz
          have HZ := Lib.hid h4
          clear hcz h3 h4 hz h1 h2 hrd hru hT b0 HBA HBB hba hea hna f1
          go_enter Tryd.func39, Tryd.ntmps39
          go_upto_region 3 with (first
            | (go_at_call 31; (with_reducible refine (HC1.out _ (RA.out.keep B0.out)).mono ?_); rintro e W1 ⟨rfl, b1⟩; (have B1 := Lib.hid (below_more B0.out (Nat.le_refl _) b1)); (have G1 := Lib.hid (G0.out.keep b1)); (have H1 := Lib.hid (H0.out.keep b1)); clear b1 x1 x2 x3 y1 y2 y3; (obtain ⟨y1, y2, y3⟩ := id H1.out))
            | (go_at_call 31; (with_reducible refine (HC2.out _ (RB.out.keep B1.out)).mono ?_); rintro e W2 ⟨rfl, b2⟩; (have B2 := Lib.hid (B1.out.trans (b2.mono B1.out.size))); (have G2 := Lib.hid (G1.out.keep b2)); (have H2 := Lib.hid (H1.out.keep b2)); clear b2 y1 y2 y3; (obtain ⟨x1, x2, x3⟩ := id G2.out)))
          go_upto_region 4 with (go_at_call 17; (with_reducible refine (HB1.out _ (RA.out.keep B2.out) (HT.out.keep B2.out)).mono ?_); rintro e W3 ⟨ah, ch, lv, rfl, e3, b3⟩)
          have k3 := below_more b3 (Nat.le_refl _) (below1 W3 (.cells #[.int .i64 La, .int .i64 (na : Int), .slice ah ea.length ch] 24))
          have B3 := Lib.hid (B2.out.trans (k3.mono B2.out.size))
          have H3 := Lib.hid (H2.out.keep k3)
          clear b3 e3 k3 x1 x2 x3 G2 H2
          generalize (W3.alloc (.cells #[.int .i64 La, .int .i64 (na : Int), .slice ah ea.length ch] 24)) = X at *
          obtain ⟨y1, y2, y3⟩ := id H3.out
          go_wp2_with (go_at_call 17; (with_reducible refine (HB2.out _ (RB.out.keep B3.out) (HT.out.keep B3.out)).mono ?_); rintro e W4 ⟨gv, lv2, rfl, ⟨l1, l2, a9, m9, c9, rfl⟩, b4⟩; (have B4 := Lib.hid (B3.out.trans ((below_more b4 (Nat.le_refl _) (below1 W4 (.cells #[.int .i64 l1, .int .i64 l2, .slice a9 m9 c9] 24))).mono B3.out.size))); clear b4 y1 y2 y3)
          exact bodyPost_ret (v := .tuple #[.slice none 0 0, .bool false, .int .i64 z]) (by simp [results, Tryd.results39, go_sem]) rfl ⟨[], false, none, 0, by rw [HE.out]; rfl, intsRd_nilM _, fun _ => ⟨rfl, rfl⟩, fun h => absurd (HE.out.symm.trans h) HZ.out, B4.out⟩
      · obtain ⟨z, hz⟩ : ∃ z, (buildR La S es).1 = z := ⟨_, rfl⟩
        rw [if_neg h3, hz] at hcz
        rw [hz] at h3
        have HB1 : Hid (∀ W, EdgesRd W v es → TabD W → Calls Tryd.prog 17 #[grV La S v] W fun e W' => ∃ gv lv, e = .returned (.tuple #[gv, lv, .int .i64 z]) ∧ (∃ l1 l2 ah k ch, gv = grV l1 l2 (.slice ah k ch)) ∧ Below W.heap.size W W') := Lib.hid (fun W g1 g2 => by
          refine (HBA.out W g1 g2).mono ?_
          rw [hz]
          rintro e W' ⟨hv, lv, he, g3, g4, g5⟩
          obtain ⟨ah, ch, rfl⟩ := g3.slice
          exact ⟨_, lv, he, ⟨_, _, _, _, _, rfl⟩, g5⟩)
        have d1 : (z != 0) = true := by simpa using h3
        have HE := Lib.hid hcz
        have HZ := Lib.hid h3
        clear hcz h3 hz h1 h2 hrd hru hT b0 HBA HBB
        go_enter Tryd.func39, Tryd.ntmps39
        go_upto_region 3 with (first
          | (go_at_call 31; (with_reducible refine (HC1.out _ (RA.out.keep B0.out)).mono ?_); rintro e W1 ⟨rfl, b1⟩; (have B1 := Lib.hid (below_more B0.out (Nat.le_refl _) b1)); (have G1 := Lib.hid (G0.out.keep b1)); (have H1 := Lib.hid (H0.out.keep b1)); clear b1 x1 x2 x3 y1 y2 y3; (obtain ⟨y1, y2, y3⟩ := id H1.out))
          | (go_at_call 31; (with_reducible refine (HC2.out _ (RB.out.keep B1.out)).mono ?_); rintro e W2 ⟨rfl, b2⟩; (have B2 := Lib.hid (B1.out.trans (b2.mono B1.out.size))); (have G2 := Lib.hid (G1.out.keep b2)); (have H2 := Lib.hid (H1.out.keep b2)); clear b2 y1 y2 y3; (obtain ⟨x1, x2, x3⟩ := id G2.out)))
        go_wp2_with (go_at_call 17; (with_reducible refine (HB1.out _ (RA.out.keep B2.out) (HT.out.keep B2.out)).mono ?_); rintro e W4 ⟨gv, lv2, rfl, ⟨l1, l2, a9, m9, c9, rfl⟩, b4⟩; (have B4 := Lib.hid (B2.out.trans ((below_more b4 (Nat.le_refl _) (below1 W4 (.cells #[.int .i64 l1, .int .i64 l2, .slice a9 m9 c9] 24))).mono B2.out.size))); clear b4 x1 x2 x3)
        exact bodyPost_ret (v := .tuple #[.slice none 0 0, .bool false, .int .i64 z]) (by simp [results, Tryd.results39, go_sem]) rfl ⟨[], false, none, 0, by rw [HE.out]; rfl, intsRd_nilM _, fun _ => ⟨rfl, rfl⟩, fun h => absurd (HE.out.symm.trans h) HZ.out, B4.out⟩
    · obtain ⟨z, hz⟩ : ∃ z, chkG Lb T fs = z := ⟨_, rfl⟩
      have HE := Lib.hid (show cmpZ La S es Lb T fs = 1 by unfold cmpZ; rw [if_neg (fun h => h2 h.2)])
      rw [hz] at h2
      simp only [hz] at HC2
      have d1 : (z != 0) = true := by simpa using h2
      have HZ := Lib.hid (show (1 : Int) ≠ 0 by decide)
      clear h1 h2 hz hrd hru hT b0 HBA HBB
      go_enter Tryd.func39, Tryd.ntmps39
      go_wp2_with (first
        | (go_at_call 31; (with_reducible refine (HC1.out _ (RA.out.keep B0.out)).mono ?_); rintro e W1 ⟨rfl, b1⟩; (have B1 := Lib.hid (below_more B0.out (Nat.le_refl _) b1)); (have G1 := Lib.hid (G0.out.keep b1)); (have H1 := Lib.hid (H0.out.keep b1)); clear b1 x1 x2 x3 y1 y2 y3; (obtain ⟨y1, y2, y3⟩ := id H1.out))
        | (go_at_call 31; (with_reducible refine (HC2.out _ (RB.out.keep B1.out)).mono ?_); rintro e W2 ⟨rfl, b2⟩; (have B2 := Lib.hid (B1.out.trans (b2.mono B1.out.size))); (have G2 := Lib.hid (G1.out.keep b2)); (have H2 := Lib.hid (H1.out.keep b2)); clear b2 y1 y2 y3; (obtain ⟨x1, x2, x3⟩ := id G2.out)))
      exact bodyPost_ret (v := .tuple #[.slice none 0 0, .bool false, .int .i64 1]) (by simp [results, Tryd.results39, go_sem]) rfl ⟨[], false, none, 0, by rw [HE.out]; rfl, intsRd_nilM _, fun _ => ⟨rfl, rfl⟩, fun h => absurd (HE.out.symm.trans h) HZ.out, B2.out⟩
  · obtain ⟨z, hz⟩ : ∃ z, chkG La S es = z := ⟨_, rfl⟩
    have HE := Lib.hid (show cmpZ La S es Lb T fs = 1 by unfold cmpZ; rw [if_neg (fun h => h1 h.1)])
    rw [hz] at h1
    simp only [hz] at HC1
    have d1 : (z != 0) = true := by simpa using h1
    have HZ := Lib.hid (show (1 : Int) ≠ 0 by decide)
    clear h1 hz hrd hru hT b0 HBA HBB
    go_enter Tryd.func39, Tryd.ntmps39
    go_wp2_with (go_at_call 31; (with_reducible refine (HC1.out _ (RA.out.keep B0.out)).mono ?_); rintro e W1 ⟨rfl, b1⟩; (have B1 := Lib.hid (below_more B0.out (Nat.le_refl _) b1)); (have G1 := Lib.hid (G0.out.keep b1)); (have H1 := Lib.hid (H0.out.keep b1)); clear b1 x1 x2 x3 y1 y2 y3; (obtain ⟨y1, y2, y3⟩ := id H1.out))
    exact bodyPost_ret (v := .tuple #[.slice none 0 0, .bool false, .int .i64 1]) (by simp [results, Tryd.results39, go_sem]) rfl ⟨[], false, none, 0, by rw [HE.out]; rfl, intsRd_nilM _, fun _ => ⟨rfl, rfl⟩, fun h => absurd (HE.out.symm.trans h) HZ.out, B1.out⟩
end Go.Proofs.YtblkijdodojaeaaDoor
