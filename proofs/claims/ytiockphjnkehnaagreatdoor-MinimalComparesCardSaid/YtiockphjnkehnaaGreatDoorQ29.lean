/- What grooveref13.Partition and Merge return, and minimal.Merge where a graph is none. Conditions: the edges can be read; at most 1000 edges. Pairs that a search has found, in memory; what minimal.wordTo returns. Conditions: the queue can be read; each pair but the first one was found behind one before. What minimal.firstWord returns: the first list of labels that leads to a pair as wanted, if there is one. Conditions: the machines can be read; at most 64 states and 256 labels; what is wanted is told by a function. -/
import Derived.Test.YtiockphjnkehnaaGreatDoorQ23
import Derived.Test.YtiockphjnkehnaaGreatDoorQ27
import Derived.Test.YtiockphjnkehnaaGreatDoorQ28
import Derived.Deep.AppendLies
import Derived.Test.YtiockphjnkehnaaGreatDoorQ21
import Derived.Laws.StructEq
import Derived.ChangeKeysEq
import Derived.Shelf.SlicesE.Equal
import Derived.Lib.LazyBuf
import Derived.BigQuiet

namespace Go.Proofs.YtiockphjnkehnaaGreatDoor
open Go.RowKit Go.Maps Go.Lib
set_option linter.unusedSimpArgs false
set_option linter.unusedVariables false

def SJe (P0 g x z cx cz : Nat) (y : Int) (W : World) : Prop := W.cell? ⟨P0, 0, none⟩ = some (.int .i64 (x : Int)) ∧ W.cell? ⟨P0, 1, none⟩ = some (.int .i64 y) ∧ W.cell? ⟨P0, 2, none⟩ = some (.int .i64 (z : Int)) ∧ W.cell? ⟨g, x, none⟩ = some (.int .i64 (cx : Int)) ∧ W.cell? ⟨g, z, none⟩ = some (.int .i64 (cz : Int))
theorem SJe.keep {P0 g x z cx cz : Nat} {y : Int} {W W' : World} (h : SJe P0 g x z cx cz y W) (hb : Below W.heap.size W W') : SJe P0 g x z cx cz y W' := ⟨cell_keep h.1 hb, cell_keep h.2.1 hb, cell_keep h.2.2.1 hb, cell_keep h.2.2.2.1 hb, cell_keep h.2.2.2.2 hb⟩
theorem SJe.grown {P0 g x z cx cz : Nat} {y : Int} {W W' : World} {v : Value} (h : SJe P0 g x z cx cz y W) (r : W.grownBy W' v.ownBlock) (hn : ∀ k, v.ownBlock = some k → k ≠ P0 ∧ k ≠ g) : SJe P0 g x z cx cz y W' := by
  have hp : P0 < W.heap.size := World.block_lt_of_cell? W ⟨P0, 0, none⟩ h.1
  have hg : g < W.heap.size := World.block_lt_of_cell? W ⟨g, x, none⟩ h.2.2.2.1
  have e1 := r.block P0 hp (fun e => (hn P0 e.symm).1 rfl)
  have e2 := r.block g hg (fun e => (hn g e.symm).2 rfl)
  exact ⟨(World.cell?_of_block (w := W) e1).trans h.1, (World.cell?_of_block (w := W) e1).trans h.2.1, (World.cell?_of_block (w := W) e1).trans h.2.2.1, (World.cell?_of_block (w := W) e2).trans h.2.2.2.1, (World.cell?_of_block (w := W) e2).trans h.2.2.2.2⟩
theorem mgE_snocJ (es : List E3) (e : E3) (c : List Nat) : mgE (es ++ [e]) c = mgE es c ++ [(((c.getD e.1.toNat 0 : Nat) : Int), e.2.1, ((c.getD e.2.2.toNat 0 : Nat) : Int))] := by unfold mgE; rw [List.map_append]; rfl
set_option maxRecDepth 100000 in
set_option maxHeartbeats 6400000 in
theorem rmerge_yes (La n : Nat) (es : List E3) (v : Value) (w : World) (cs : List Nat) (hcs : classN (mT n es) La n = cs) (hrd : EdgesRd w v es) (hvg : VG (La : Int) (n : Int) es) (hd : detE es = true) (hln : es.length ≤ 1000) :
    Calls Tryz.prog 26 #[grV (La : Int) (n : Int) v] w fun e w' => ∃ v' g, e = .returned (.tuple #[grV (La : Int) ((numC cs : Nat) : Int) v', .slice (some ⟨g, 0, none⟩) n n, .int .i64 0]) ∧ EdgesAt w' w.heap.size v' (mkE (mgE es cs)) ∧ IntsRd w' (.slice (some ⟨g, 0, none⟩) n n) (labsI cs) ∧ Below w.heap.size w w' := by
  obtain ⟨i0, hi, hz0, hz1, hz2⟩ := info_parts Tryz.infoEdge
  have hn64 : n ≤ 64 := by have := hvg.s2; omega
  have hL1 : 1 ≤ La := by have := hvg.l1; omega
  have hcl : cs.length = n := by rw [← hcs]; exact classN_len _ _ _ hL1
  have hcn : numC cs ≤ n := by rw [← hcs]; exact classN_num _ _ _ hL1
  have HCH : Hid (∀ W, EdgesRd W v es → Calls Tryz.prog 57 #[grV (La : Int) (n : Int) v] W fun e W' => e = .returned (.int .i64 0) ∧ Below W.heap.size W W') := Lib.hid (fun W h => by
    refine (rcheck13_any La n es v W h (by omega)).mono ?_
    rw [cdR_ok hvg hd]
    exact fun e W' h => h)
  have HCO : Hid (∀ W, EdgesRd W v es → Calls Tryz.prog 58 #[grV (La : Int) (n : Int) v] W fun e w' => ∃ g, e = .returned (.slice (some ⟨g, 0, none⟩) n n) ∧ W.heap.size ≤ g ∧ IntsRd w' (.slice (some ⟨g, 0, none⟩) n n) (labsI cs) ∧ Below W.heap.size W w') := Lib.hid (fun W h => by
    have h2 := classes13_any La n es v W h hvg hd
    rw [hcs] at h2
    exact h2)
  have hmvg := merged_vg hvg hcl (by omega)
  have HMR := Lib.hid (show makeR (La : Int) ((numC cs : Nat) : Int) (mgE es cs) = ((La : Int), ((numC cs : Nat) : Int), mkE (mgE es cs), 0) by
    unfold makeR
    rw [if_pos hmvg.chk])
  have HMK := Lib.hid (fun v' W h => rmake_any (La : Int) ((numC cs : Nat) : Int) (mgE es cs) v' W h (by rw [mgE_len]; omega))
  have HOK := Lib.hid hvg.ok
  have hmx : Tryz.prog.follows .mixedOrders = true := by kernel_rfl
  have HRD := Lib.hid hrd
  have HCL := Lib.hid hcl
  have HCS : Hid (∀ i, i < n → cs.getD i 0 < 64) := Lib.hid (fun i hi => by
    have := numC_lt cs _ (getD_mem (c := cs) (i := i) (by omega)); omega)
  have K0 := Lib.hid (KB.start w (La : Int) (n : Int) v 24)
  obtain ⟨⟨x1, x2, x3⟩, ⟨⟨r1, r2, r3⟩, r4, r5, r6⟩, -⟩ := id K0.out
  obtain ⟨a, c, rfl⟩ := hrd.form
  clear hrd hvg hd hcs hmvg hcl
  go_enter Tryz.func26, Tryz.ntmps26
  go_upto_region 5 with (first
    | (go_at_call 57; (with_reducible refine (HCH.out _ (HRD.out.keep K0.out.bel)).mono ?_); rintro e0 W0 ⟨rfl, b1⟩; (have K1 := Lib.hid (K0.out.keep b1)); (clear b1 x1 x2 x3 r1 r2 r3 r4 r5 r6); (obtain ⟨⟨x1, x2, x3⟩, ⟨⟨r1, r2, r3⟩, r4, r5, r6⟩, -⟩ := id K1.out))
    | (go_at_call 58; (with_reducible refine (HCO.out _ (HRD.out.keep K1.out.bel)).mono ?_); rintro e0 W1 ⟨g5, rfl, hg5, i5, b1⟩; (have K2 := Lib.hid (K1.out.keep b1)); (have HG5 : w.heap.size + 2 ≤ g5 := Nat.le_trans K1.out.2.2.2 hg5); (have I1 := Lib.hid i5); (clear b1 i5 x1 x2 x3 r1 r2 r3 r4 r5 r6); (obtain ⟨⟨x1, x2, x3⟩, ⟨⟨r1, r2, r3⟩, r4, r5, r6⟩, -⟩ := id K2.out)))
  clear x1 x2 x3 r1 r2 r3 r4 r5 r6 K0 K1
  go_wp2_with fail
  go_loopg [7, 8] n (fun q s7 s8 wx => ∃ i : Nat, i + q = n ∧ s8 = .int .i64 (i : Int) ∧ s7 = .int .i64 ((numC (cs.take i) : Nat) : Int) ∧ wx = W1)
  case atStart => exact ⟨0, by omega, rfl, rfl, rfl⟩
  case round =>
    obtain ⟨i, hin, rfl, rfl, rfl⟩ := hrel
    obtain ⟨⟨x1, x2, x3⟩, ⟨⟨r1, r2, r3⟩, r4, r5, r6⟩, -⟩ := id K2.out
    rcases gk with _ | q
    · obtain rfl : i = n := by omega
      have j0 : ¬ ((i : Int) < (i : Int)) := by omega
      have HNC := Lib.hid (show numC (cs.take i) = numC cs by rw [List.take_of_length_le (by rw [HCL.out]; exact Nat.le_refl _)])
      rw [HNC.out]
      obtain ⟨NC, hNC⟩ : ∃ NC, numC cs = NC := ⟨_, rfl⟩
      have HNN := Lib.hid hNC
      rw [hNC] at HMK HMR hcn ⊢
      clear hNC HNC
      obtain ⟨V1, rfl⟩ : ∃ V1, V1 = wr := ⟨_, rfl⟩
      go_wp2_with fail
      clear x1 x2 x3 r1 r2 r3 r4 r5 r6
      go_loopg [9, 10, 11] es.length (fun q s9 s10 s11 wx => ∃ k : Nat, k + q = es.length ∧ s10 = .int .i64 (k : Int) ∧ EdgesAt wx V1.heap.size s9 (mgE (es.take k) cs) ∧ Hid (Below V1.heap.size V1 wx))
      case atStart => exact ⟨0, by omega, rfl, edges_nil _ _, Lib.hid (Below.refl _ _)⟩
      case round =>
        obtain ⟨k, hkq, rfl, hown, HB⟩ := hrel
        have KW := Lib.hid (K2.out.keep HB.out)
        have IW := Lib.hid (I1.out.keep HB.out)
        obtain ⟨⟨x1, x2, x3⟩, ⟨⟨r1, r2, r3⟩, r4, r5, r6⟩, -⟩ := id KW.out
        obtain ⟨au, cu, rfl⟩ := hown.slice
        rcases gk with _ | q2
        · obtain rfl : k = es.length := by omega
          have j5 : ¬ ((es.length : Int) < (es.length : Int)) := by omega
          rw [List.take_length] at hown ⊢
          have HMS := Lib.hid (HMK.out _ wr hown.rd)
          clear hown hkq
          go_upto_region 17 with (go_at_call 59; (with_reducible refine HMS.out.mono ?_); rintro e0 W5 ⟨v5, rfl, i5, b5⟩; (rw [HMR.out] at i5 ⊢); (dsimp only at i5 ⊢); (obtain ⟨a7, c7, rfl⟩ := i5.slice); (have I5 := Lib.hid i5); (have B5 := Lib.hid b5); (clear r1 r2 r3 r4 r5 r6); (obtain ⟨⟨r1, r2, r3⟩, r4, r5, r6⟩ := id (KW.out.keep b5).2.1); (clear i5 b5 x1 x2 x3))
          have B6 := Lib.hid (below_more B5.out (Nat.le_refl _) (below1 W5 (.cells #[.int .i64 (La : Int), .int .i64 (NC : Int), .slice a7 (mkE (mgE es cs)).length c7] 24)))
          have I6 := Lib.hid (I5.out.keep (below1 W5 (.cells #[.int .i64 (La : Int), .int .i64 (NC : Int), .slice a7 (mkE (mgE es cs)).length c7] 24)))
          have X6 := BoxG.new W5 (La : Int) (NC : Int) (.slice a7 (mkE (mgE es cs)).length c7) 24
          obtain ⟨P5, hP5⟩ : ∃ P5, W5.heap.size = P5 := ⟨_, rfl⟩
          rw [hP5] at X6 ⊢
          clear r1 r2 r3 r4 r5 r6 I5 hP5
          generalize (W5.alloc (.cells #[.int .i64 (La : Int), .int .i64 (NC : Int), .slice a7 (mkE (mgE es cs)).length c7] 24)) = W6 at *
          have KX := Lib.hid (KW.out.keep B6.out)
          obtain ⟨⟨r1, r2, r3⟩, r4, r5, r6⟩ := id KX.out.2.1
          obtain ⟨x1, x2, x3⟩ := X6
          have hlo := KW.out.2.2.2
          have HI6 := Lib.hid (IW.out.keep B6.out)
          go_wp2_with fail
          exact bodyPost_ret (v := .tuple #[grV (La : Int) (NC : Int) (.slice a7 (mkE (mgE es cs)).length c7), .slice (some ⟨g5, 0, none⟩) i i, .int .i64 0]) (by simp [results, Tryz.results26, go_sem, r1, r2, r3]) rfl
            ⟨_, _, by rw [HNN.out], edges_over I6.out (by omega) _ _ _ (by omega), ints_overH (b := w.heap.size + 1) HI6.out (by omega) _ _ _, below_over KX.out.bel (Nat.le_succ _) _ _ _⟩
        · obtain ⟨e, he⟩ : ∃ e, es[k]? = some e := ⟨_, List.getElem?_eq_getElem (by omega)⟩
          have hok := okE_iff.1 (HOK.out e (List.mem_of_getElem? he))
          obtain ⟨bb, off, c', hv, k1, k2, k3⟩ := (HRD.out.keep KW.out.bel).at he
          injection hv with e1 e2 e3
          subst e1
          subst e3
          have HS := Lib.hid (show mgE (es.take (k + 1)) cs = mgE (es.take k) cs ++ [(((cs.getD e.1.toNat 0 : Nat) : Int), e.2.1, ((cs.getD e.2.2.toNat 0 : Nat) : Int))] by rw [take_snoc he, mgE_snocJ])
          obtain ⟨x, y, z⟩ := e
          dsimp only at k1 k2 k3 hok HS
          obtain ⟨x, rfl⟩ : ∃ m : Nat, x = (m : Int) := ⟨x.toNat, by omega⟩
          obtain ⟨z, rfl⟩ : ∃ m : Nat, z = (m : Int) := ⟨z.toNat, by omega⟩
          rw [Int.toNat_natCast, Int.toNat_natCast] at HS
          have hxn : x < i := by omega
          have hzn : z < i := by omega
          have p7 := ints_cellJ IW.out (i := x) (by rw [HCL.out]; exact hxn)
          have p8 := ints_cellJ IW.out (i := z) (by rw [HCL.out]; exact hzn)
          obtain ⟨cx, hcx⟩ : ∃ cx, cs.getD x 0 = cx := ⟨_, rfl⟩
          obtain ⟨cz, hcz⟩ : ∃ cz, cs.getD z 0 = cz := ⟨_, rfl⟩
          rw [hcx] at p7 HS
          rw [hcz] at p8 HS
          have j3 : (k : Int) < (es.length : Int) := by omega
          have jx : (x : Int) < (i : Int) := by omega
          have jz : (z : Int) < (i : Int) := by omega
          have bb1 := below1 wr (.cells #[.int .i64 (x : Int), .int .i64 y, .int .i64 (z : Int)] 39)
          have q7 := cell_keep p7 bb1
          have q8 := cell_keep p8 bb1
          have X1 := BoxG.new wr (x : Int) y (.int .i64 (z : Int)) 39
          have hown0 := hown.keep bb1
          have hlt := hown0.lt
          have BB := Lib.hid (HB.out.trans (bb1.mono HB.out.size))
          have hml : (mgE (es.take k) cs).length ≤ 1000 := by
            have := mgE_len (es.take k) cs
            rw [List.length_take] at this
            omega
          have hOB := Lib.hid (show ∀ q, (Value.slice au (mgE (es.take k) cs).length cu).ownBlock = some q → q < wr.heap.size from fun q e => (hown.lt q e).2)
          have HGV := Lib.hid (show g5 < V1.heap.size from World.block_lt_of_cell? V1 ⟨g5, x, none⟩ (ints_cellJ I1.out (i := x) (by rw [HCL.out]; exact hxn)))
          unfold EdgesAt at hown0
          obtain ⟨m, hm⟩ : ∃ m, (mgE (es.take k) cs).length = m := ⟨_, rfl⟩
          rw [hm] at hown0 hml hlt hOB ⊢
          have HM := Lib.hid hm
          clear he e2 hown hcx hcz p7 p8 hm
          go_upto_region 15 with fail
          obtain ⟨P0, hP0⟩ : ∃ P0, wr.heap.size = P0 := ⟨_, rfl⟩
          rw [hP0] at X1 hOB ⊢
          clear k1 k2 k3 x1 x2 x3 r1 r2 r3 r4 r5 r6 hP0 bb1
          generalize (wr.alloc (.cells #[.int .i64 (x : Int), .int .i64 y, .int .i64 (z : Int)] 39)) = V at *
          obtain ⟨z1, z2, z3⟩ := X1
          have hownD : V.drew.ownsRow V1.heap.size 39 3 (.slice au m cu) m (ecl (mgE (es.take k) cs)) := hown0
          have hR0 : SJe P0 g5 x z cx cz y V.drew := ⟨z1, z2, z3, q7, q8⟩
          have hn9 : ∀ k, (Value.slice au m cu).ownBlock = some k → k ≠ P0 ∧ k ≠ g5 := fun k hk => by
            have h1 := hlt k hk
            have h2 := hOB.out k hk
            have h3 := HGV.out
            omega
          refine regionT (T := T2 16 16 (SJe P0 g5 x z cx cz y) (SJe P0 g5 x z cx cz y)) hmx ?_
          have hR := hR0
          refine take1 (i := 0) (v := ?_) rfl (by kernel_rfl) (by kernel_rfl) (by kernel_rfl) (by kernel_rfl) (by kernel_rfl) (by decide) (by decide) (fun _ _ _ h => h) (Or.inl ⟨by rfl, ?_⟩) hR hR ?_
          rotate_left
          · intro w hSw
            (try unfold SJe at hSw)
            go_simp
            all_goals with_reducible rfl
          (try simp only [Act.put, List.setIfInBounds_toArray, List.set_cons_zero, List.set_cons_succ])
          refine take1 (i := 1) (v := ?_) rfl (by kernel_rfl) (by kernel_rfl) (by kernel_rfl) (by kernel_rfl) (by kernel_rfl) (by decide) (by decide) (fun _ _ _ h => h) (Or.inl ⟨by rfl, ?_⟩) hR hR ?_
          rotate_left
          · intro w hSw
            (try unfold SJe at hSw)
            go_simp
            all_goals with_reducible rfl
          (try simp only [Act.put, List.setIfInBounds_toArray, List.set_cons_zero, List.set_cons_succ])
          refine take1 (i := 2) (v := ?_) rfl (by kernel_rfl) (by kernel_rfl) (by kernel_rfl) (by kernel_rfl) (by kernel_rfl) (by decide) (by decide) (fun _ _ _ h => h) (Or.inl ⟨by rfl, ?_⟩) hR hR ?_
          rotate_left
          · intro w hSw
            (try unfold SJe at hSw)
            go_simp
            all_goals with_reducible rfl
          (try simp only [Act.put, List.setIfInBounds_toArray, List.set_cons_zero, List.set_cons_succ])
          refine take1 (i := 3) (v := ?_) rfl (by kernel_rfl) (by kernel_rfl) (by kernel_rfl) (by kernel_rfl) (by kernel_rfl) (by decide) (by decide) (fun _ _ _ h => h) (Or.inl ⟨by rfl, ?_⟩) hR hR ?_
          rotate_left
          · intro w hSw
            (try unfold SJe at hSw)
            go_simp
            all_goals with_reducible rfl
          (try simp only [Act.put, List.setIfInBounds_toArray, List.set_cons_zero, List.set_cons_succ])
          refine take1 (i := 4) (v := ?_) rfl (by kernel_rfl) (by kernel_rfl) (by kernel_rfl) (by kernel_rfl) (by kernel_rfl) (by decide) (by decide) (fun _ _ _ h => h) (Or.inl ⟨by rfl, ?_⟩) hR hR ?_
          rotate_left
          · intro w hSw
            (try unfold SJe at hSw)
            go_simp
            all_goals with_reducible rfl
          (try simp only [Act.put, List.setIfInBounds_toArray, List.set_cons_zero, List.set_cons_succ])
          refine take1 (i := 5) (v := ?_) rfl (by kernel_rfl) (by kernel_rfl) (by kernel_rfl) (by kernel_rfl) (by kernel_rfl) (by decide) (by decide) (fun _ _ _ h => h) (Or.inl ⟨by rfl, ?_⟩) hR hR ?_
          rotate_left
          · intro w hSw
            (try unfold SJe at hSw)
            go_simp
            all_goals with_reducible rfl
          (try simp only [Act.put, List.setIfInBounds_toArray, List.set_cons_zero, List.set_cons_succ])
          refine take1 (i := 6) (v := ?_) rfl (by kernel_rfl) (by kernel_rfl) (by kernel_rfl) (by kernel_rfl) (by kernel_rfl) (by decide) (by decide) (fun _ _ _ h => h) (Or.inl ⟨by rfl, ?_⟩) hR hR ?_
          rotate_left
          · intro w hSw
            (try unfold SJe at hSw)
            go_simp
            all_goals with_reducible rfl
          (try simp only [Act.put, List.setIfInBounds_toArray, List.set_cons_zero, List.set_cons_succ])
          refine take1 (i := 7) (v := ?_) rfl (by kernel_rfl) (by kernel_rfl) (by kernel_rfl) (by kernel_rfl) (by kernel_rfl) (by decide) (by decide) (fun _ _ _ h => h) (Or.inl ⟨by rfl, ?_⟩) hR hR ?_
          rotate_left
          · intro w hSw
            (try unfold SJe at hSw)
            go_simp
            all_goals with_reducible rfl
          (try simp only [Act.put, List.setIfInBounds_toArray, List.set_cons_zero, List.set_cons_succ])
          refine take1 (i := 8) (v := ?_) rfl (by kernel_rfl) (by kernel_rfl) (by kernel_rfl) (by kernel_rfl) (by kernel_rfl) (by decide) (by decide) (fun _ _ _ h => h) (Or.inl ⟨by rfl, ?_⟩) hR hR ?_
          rotate_left
          · intro w hSw
            (try unfold SJe at hSw)
            go_simp
            all_goals with_reducible rfl
          (try simp only [Act.put, List.setIfInBounds_toArray, List.set_cons_zero, List.set_cons_succ])
          refine take1 (i := 9) (v := ?_) rfl (by kernel_rfl) (by kernel_rfl) (by kernel_rfl) (by kernel_rfl) (by kernel_rfl) (by decide) (by decide) (fun _ _ _ h => h) (Or.inl ⟨by rfl, ?_⟩) hR hR ?_
          rotate_left
          · intro w hSw
            (try unfold SJe at hSw)
            go_simp
            all_goals with_reducible rfl
          (try simp only [Act.put, List.setIfInBounds_toArray, List.set_cons_zero, List.set_cons_succ])
          refine take1 (i := 10) (v := ?_) rfl (by kernel_rfl) (by kernel_rfl) (by kernel_rfl) (by kernel_rfl) (by kernel_rfl) (by decide) (by decide) (fun _ _ _ h => h) (Or.inl ⟨by rfl, ?_⟩) hR hR ?_
          rotate_left
          · intro w hSw
            (try unfold SJe at hSw)
            go_simp
            all_goals with_reducible rfl
          (try simp only [Act.put, List.setIfInBounds_toArray, List.set_cons_zero, List.set_cons_succ])
          refine take1 (i := 11) (v := ?_) rfl (by kernel_rfl) (by kernel_rfl) (by kernel_rfl) (by kernel_rfl) (by kernel_rfl) (by decide) (by decide) (fun _ _ _ h => h) (Or.inl ⟨by rfl, ?_⟩) hR hR ?_
          rotate_left
          · intro w hSw
            (try unfold SJe at hSw)
            go_simp
            all_goals with_reducible rfl
          (try simp only [Act.put, List.setIfInBounds_toArray, List.set_cons_zero, List.set_cons_succ])
          refine take1 (i := 12) (v := ?_) rfl (by kernel_rfl) (by kernel_rfl) (by kernel_rfl) (by kernel_rfl) (by kernel_rfl) (by decide) (by decide) (fun _ _ _ h => h) (Or.inl ⟨by rfl, ?_⟩) hR hR ?_
          rotate_left
          · intro w hSw
            (try unfold SJe at hSw)
            go_simp
            all_goals with_reducible rfl
          (try simp only [Act.put, List.setIfInBounds_toArray, List.set_cons_zero, List.set_cons_succ])
          refine take1 (i := 13) (v := ?_) rfl (by kernel_rfl) (by kernel_rfl) (by kernel_rfl) (by kernel_rfl) (by kernel_rfl) (by decide) (by decide) (fun _ _ _ h => h) (Or.inl ⟨by rfl, ?_⟩) hR hR ?_
          rotate_left
          · intro w hSw
            (try unfold SJe at hSw)
            go_simp
            all_goals with_reducible rfl
          (try simp only [Act.put, List.setIfInBounds_toArray, List.set_cons_zero, List.set_cons_succ])
          refine stepT (i := 14) (by kernel_rfl) rfl (fun K hK => ?_)
          go_simp
          have hR6 := hR.keep (below1 V.drew (.cells #[.int .i64 (cx : Int), .int .i64 y, .int .i64 (cz : Int)] 39))
          refine hK.out _ _ ⟨fun _ => hR6, fun _ => hR6⟩ ?_
          clear hK K hR
          have hR := hR6
          (try simp only [Act.put, List.setIfInBounds_toArray, List.set_cons_zero, List.set_cons_succ])
          refine stepT (i := 15) (by kernel_rfl) rfl (fun K hK => ?_)
          refine step_append_lies _ (by rfl) (.tmp 47) (.tmp 61) 22 (by rfl) V1.heap.size 39 i0 (.agg #[.int .i64 0, .int .i64 0, .int .i64 0]) 3 24 Tryz.underlying22 hi hz0 hz1 hz2 rfl (by decide) (.slice au m cu) m (ecl (mgE (es.take k) cs)) (by rfl) (hownD.alloc _) ⟨V.drew.heap.size, 0, none⟩ 1 1 [.int .i64 (cx : Int), .int .i64 y, .int .i64 (cz : Int)] (by rfl) (by rfl) (cell_three_new _ _ _ _ _) (by intro u hu; simp at hu; rcases hu with rfl | rfl | rfl <;> rfl) (by decide) (by unfold maxLen; omega) (by omega) (Nat.le_trans BB.out.size (below1 V (.cells #[.int .i64 (cx : Int), .int .i64 y, .int .i64 (cz : Int)] 39)).size) _ rfl ?_
          intro g9 c9 W4 t1 t2 t3 t4
          have hR7 : SJe P0 g5 x z cx cz y W4 := hR.grown t2 hn9
          refine hK.out _ _ ⟨fun _ => hR7, fun _ => hR7⟩ ?_
          clear hK K hR
          have hR := hR7
          (try simp only [Act.put, List.setIfInBounds_toArray, List.set_cons_zero, List.set_cons_succ])
          refine stepT (i := 16) (by kernel_rfl) rfl (fun K hK => ?_)
          go_simp
          refine hK.out _ _ ⟨fun h => absurd h (by decide), fun h => absurd h (by decide)⟩ ?_
          clear hK K
          (try simp only [Act.put, List.setIfInBounds_toArray, List.set_cons_zero, List.set_cons_succ])
          refine doneT (by kernel_rfl) ?_ _
          have E5 := Lib.hid (show EdgesAt W4 V1.heap.size (.slice (some ⟨g9, 0, none⟩) (m + 1) c9) (mgE (es.take (k + 1)) cs) by unfold EdgesAt; rw [HS.out, List.length_append, HM.out, ecl_snoc]; exact t1)
          have B5 := Lib.hid (show Below V1.heap.size V1 W4 from ((BB.out.drew).alloc BB.out.size (.cells #[.int .i64 (cx : Int), .int .i64 y, .int .i64 (cz : Int)] 39)).grown t2 (Nat.le_trans BB.out.size (below1 V (.cells #[.int .i64 (cx : Int), .int .i64 y, .int .i64 (cz : Int)] 39)).size) (fun k hk => (hlt k hk).1))
          clear t1 t2 t3 t4 hown0 hownD hn9 hlt z1 z2 z3 q7 q8
          go_wp2_with fail
          go_roundg q2
          case measure => omega
          case rel => exact ⟨k + 1, by omega, by go_num, E5.out, B5⟩
    · obtain ⟨x, hx⟩ : ∃ x, cs.getD i 0 = x := ⟨_, rfl⟩
      have p1 := ints_cellJ I1.out (i := i) (by rw [HCL.out]; omega)
      have hx64 : x < 64 := by rw [← hx]; exact HCS.out i (by omega)
      obtain ⟨m, hm⟩ : ∃ m, numC (cs.take i) = m := ⟨_, rfl⟩
      obtain ⟨m2, hm2⟩ : ∃ m2, max m (x + 1) = m2 := ⟨_, rfl⟩
      have HM2 := Lib.hid (show numC (cs.take (i + 1)) = m2 by
        rw [take_snoc (getD_opt (c := cs) (s := i) (by rw [HCL.out]; omega)), numC_snoc, hm, hx, hm2])
      rw [hx] at p1
      rw [hm]
      have hmx : ∀ (W : World) (ts : Array TypeId) (t : TypeId), (Builtin.max_ ts t #[.int .i64 (m : Int), .int .i64 ((x : Int) + 1)]).run Tryz.prog W = .ok (.int .i64 (m2 : Int)) W := fun W ts t => by
        have h := run_maxH (P := Tryz.prog) .i64 m (x + 1) m2 hm2 W ts t
        rw [show ((x + 1 : Nat) : Int) = (x : Int) + 1 by omega] at h
        exact h
      have j1 : (i : Int) < (n : Int) := by omega
      have hwx : IntKind.i64.wrap ((x : Int) + 1) = (x : Int) + 1 := by rw [IntWalk.i64_in _ (by omega)]
      clear hx hm hm2
      go_wp2_with fail
      go_roundg q
      case measure => omega
      case rel => exact ⟨i + 1, by omega, by go_num, by rw [HM2.out], rfl⟩
end Go.Proofs.YtiockphjnkehnaaGreatDoor

namespace Go.Proofs.YtiockphjnkehnaaGreatDoor
open Go.RowKit Go.Maps Go.Lib
set_option linter.unusedSimpArgs false
set_option linter.unusedVariables false

def encR (r : Rec) : List Value := [.int .i64 (r.1 : Int), .int .i64 (r.2.1 : Int), .int .i64 (r.2.2.1 : Int), .int .i64 (r.2.2.2 : Int)]
abbrev recV (a b c d : Nat) : Value := .agg #[.int .i64 (a : Int), .int .i64 (b : Int), .int .i64 (c : Int), .int .i64 (d : Int)]
def rcl (R : List Rec) : List Value := R.flatMap encR
theorem rcl_snoc (R : List Rec) (r : Rec) : rcl (R ++ [r]) = rcl R ++ [.int .i64 (r.1 : Int), .int .i64 (r.2.1 : Int), .int .i64 (r.2.2.1 : Int), .int .i64 (r.2.2.2 : Int)] := by unfold rcl; rw [List.flatMap_append]; rfl
theorem rcl_at {R : List Rec} : ∀ {i : Nat} {r : Rec}, R[i]? = some r → (rcl R)[i * 4]? = some (.int .i64 (r.1 : Int)) ∧ (rcl R)[i * 4 + 1]? = some (.int .i64 (r.2.1 : Int)) ∧ (rcl R)[i * 4 + 2]? = some (.int .i64 (r.2.2.1 : Int)) ∧ (rcl R)[i * 4 + 3]? = some (.int .i64 (r.2.2.2 : Int)) := by
  induction R with
  | nil => intro i p h; cases h
  | cons q rs ih =>
    intro i p h
    cases i with
    | zero => simp at h; subst h; exact ⟨rfl, rfl, rfl, rfl⟩
    | succ i =>
      have := ih (i := i) (by simpa using h)
      rw [show (i + 1) * 4 = i * 4 + 1 + 1 + 1 + 1 by omega]
      exact this
def RecsAt (W : World) (B : Nat) (v : Value) (R : List Rec) : Prop := W.ownsRow B 88 4 v R.length (rcl R)
def RecsRd (W : World) (v : Value) (R : List Rec) : Prop := ∃ a c, v = .slice a R.length c ∧ ∀ (i : Nat) (r : Rec), R[i]? = some r → ∃ b off, a = some ⟨b, off, none⟩ ∧
  W.cell? ⟨b, off + i * 4, none⟩ = some (.int .i64 (r.1 : Int)) ∧ W.cell? ⟨b, off + i * 4 + 1, none⟩ = some (.int .i64 (r.2.1 : Int)) ∧ W.cell? ⟨b, off + i * 4 + 2, none⟩ = some (.int .i64 (r.2.2.1 : Int)) ∧ W.cell? ⟨b, off + i * 4 + 3, none⟩ = some (.int .i64 (r.2.2.2 : Int))
section
variable {W W' : World} {B : Nat} {v : Value} {R : List Rec}
theorem RecsAt.keep (h : RecsAt W B v R) (hb : Below W.heap.size W W') : RecsAt W' B v R := World.ownsRow.kept h (grown_none hb) (by cases v.ownBlock <;> simp)
theorem RecsAt.slice (h : RecsAt W B v R) : ∃ a c, v = .slice a R.length c := own_slice h
theorem RecsAt.row (h : RecsAt W B v R) (h0 : 0 < R.length) : ∃ g c, v = .slice (some ⟨g, 0, none⟩) R.length c := by
  obtain ⟨g, c, hv, _⟩ := World.ownsRow.form h h0
  exact ⟨g, c, hv⟩
theorem RecsAt.cell {g c i : Nat} {r : Rec} (h : RecsAt W B (.slice (some ⟨g, 0, none⟩) R.length c) R) (hx : R[i]? = some r) :
    W.cell? ⟨g, i * 4, none⟩ = some (.int .i64 (r.1 : Int)) ∧ W.cell? ⟨g, i * 4 + 1, none⟩ = some (.int .i64 (r.2.1 : Int)) ∧ W.cell? ⟨g, i * 4 + 2, none⟩ = some (.int .i64 (r.2.2.1 : Int)) ∧ W.cell? ⟨g, i * 4 + 3, none⟩ = some (.int .i64 (r.2.2.2 : Int)) := by
  have hi : i < R.length := (List.getElem?_eq_some_iff.1 hx).1
  obtain ⟨k1, k2, k3, k4⟩ := rcl_at hx
  exact ⟨(World.ownsRow.cellAt h (i * 4) (by omega)).trans k1, (World.ownsRow.cellAt h (i * 4 + 1) (by omega)).trans k2, (World.ownsRow.cellAt h (i * 4 + 2) (by omega)).trans k3, (World.ownsRow.cellAt h (i * 4 + 3) (by omega)).trans k4⟩
theorem RecsAt.rd (h : RecsAt W B v R) : RecsRd W v R := by
  obtain ⟨a, c, rfl⟩ := h.slice
  refine ⟨a, c, rfl, fun i r hx => ?_⟩
  have hi : i < R.length := (List.getElem?_eq_some_iff.1 hx).1
  obtain ⟨g, c2, hv⟩ := h.row (by omega)
  injection hv with e1 e2 e3
  subst e1
  exact ⟨g, 0, rfl, by rw [Nat.zero_add]; exact RecsAt.cell h hx⟩
theorem RecsRd.keep (h : RecsRd W v R) (hb : Below W.heap.size W W') : RecsRd W' v R := by
  obtain ⟨a, c, rfl, h1⟩ := h
  refine ⟨a, c, rfl, fun i r hx => ?_⟩
  obtain ⟨b, off, rfl, k1, k2, k3, k4⟩ := h1 i r hx
  exact ⟨b, off, rfl, cell_keep k1 hb, cell_keep k2 hb, cell_keep k3 hb, cell_keep k4 hb⟩
theorem RecsRd.form (h : RecsRd W v R) : ∃ a c, v = .slice a R.length c := by
  obtain ⟨a, c, h1, -⟩ := h
  exact ⟨a, c, h1⟩
theorem RecsRd.at (h : RecsRd W v R) {i : Nat} {r : Rec} (hx : R[i]? = some r) : ∃ b off c, v = .slice (some ⟨b, off, none⟩) R.length c ∧
    W.cell? ⟨b, off + i * 4, none⟩ = some (.int .i64 (r.1 : Int)) ∧ W.cell? ⟨b, off + i * 4 + 1, none⟩ = some (.int .i64 (r.2.1 : Int)) ∧ W.cell? ⟨b, off + i * 4 + 2, none⟩ = some (.int .i64 (r.2.2.1 : Int)) ∧ W.cell? ⟨b, off + i * 4 + 3, none⟩ = some (.int .i64 (r.2.2.2 : Int)) := by
  obtain ⟨a, c, rfl, h1⟩ := h
  obtain ⟨b, off, rfl, k⟩ := h1 i r hx
  exact ⟨b, off, c, rfl, k⟩
end
theorem Tryz.infoFound : (Tryz.prog.info? 88).map (fun i => (i.zero, i.size, i.bytes)) = some (some (.agg #[.int .i64 0, .int .i64 0, .int .i64 0, .int .i64 0]), 4, 32) := by kernel_rfl
theorem cell_four_new (w : World) (x y z u : Value) (t : TypeId) : ∀ j v, [x, y, z, u][j]? = some v → (w.alloc (.cells #[x, y, z, u] t)).cell? ((⟨w.heap.size, 0, none⟩ : Addr).add j) = some v := by
  intro j v hj
  match j, hj with
  | 0, hj => simp at hj; subst hj; simp [Addr.add]
  | 1, hj => simp at hj; subst hj; simp [Addr.add]
  | 2, hj => simp at hj; subst hj; simp [Addr.add]
  | 3, hj => simp at hj; subst hj; simp [Addr.add]
theorem pairEq (d : Nat) (a b c e : Nat) (w : World) : (Op.equalIn (d + 2) 67 (.agg #[.int .i64 (a : Int), .int .i64 (b : Int)]) (.agg #[.int .i64 (c : Int), .int .i64 (e : Int)])).run Tryz.prog w = .ok (decide (a = c ∧ b = e)) w := by
  have u3 := Tryz.underlying3
  obtain ⟨i0, hi, -⟩ := info_parts Tryz.infoI64
  rw [run_equalIn_array w (d + 1) #[.int .i64 (a : Int), .int .i64 (b : Int)] #[.int .i64 (c : Int), .int .i64 (e : Int)] Tryz.underlying67 hi]
  rw [Tryz.arrP.one]
  simp only [show List.range 2 = [0, 1] from rfl, Op.eqItems]
  go_simp
  by_cases h1 : a = c <;> by_cases h2 : b = e <;> simp [h1, h2] <;> first | omega | (intro _; omega)
theorem pairNeq (a b c e : Nat) (w : World) : (binOp .neq 67 (.agg #[.int .i64 (a : Int), .int .i64 (b : Int)]) (.agg #[.int .i64 (c : Int), .int .i64 (e : Int)])).run Tryz.prog w = .ok (.bool (!decide (a = c ∧ b = e))) w := by
  rw [run_neq_struct, show (10000 : Nat) = 9998 + 2 from rfl, pairEq]
  rfl
theorem pairGuard (op : BinOp) (x y : Operand) (a b : Array Value) (w : World) : (eqGuard op 67 x y (.agg a) (.agg b)).run Tryz.prog w = .ok () w := run_eqGuard_agg w op 67 x y a b (by kernel_rfl)
theorem foundGuard (op : BinOp) (x y : Operand) (a b : Array Value) (w : World) : (eqGuard op 88 x y (.agg a) (.agg b)).run Tryz.prog w = .ok () w := run_eqGuard_agg w op 88 x y a b (by kernel_rfl)
theorem foundNeq (r q : Rec) (w : World) : (binOp .neq 88 (recV r.1 r.2.1 r.2.2.1 r.2.2.2) (recV q.1 q.2.1 q.2.2.1 q.2.2.2)).run Tryz.prog w = .ok (.bool (!decide (r = q))) w := by
  have u3 := Tryz.underlying3
  have a3 := Tryz.isAgg3
  have z3 := Tryz.sizeOf3
  have zp := Tryz.sizeOf67
  have ap := Tryz.isAgg67
  have hS : Tryz.prog.underlying 88 = some (.struct (Tryz.prog.fieldsOf 88)) := by kernel_rfl
  have hp : Tryz.prog.stoodInHeld 88 = false := by kernel_rfl
  have hP := fun (d : Nat) (a b c e : Nat) (w : World) => pairEq d a b c e w
  rw [run_neq_struct, show (10000 : Nat) = 9999 + 1 from rfl, run_equalIn_agg w 9999 88 _ _ hS hp]
  simp only [Program.fieldsOf, Tryz.underlying88]
  rw [show (9999 : Nat) = 9997 + 2 from rfl]
  go_simp
  obtain ⟨a, b, c, d⟩ := r
  obtain ⟨e, f, g, h⟩ := q
  simp only [show ∀ x y : Nat, ((x : Int) = (y : Int)) = (x = y) from fun x y => propext (by omega)]
  by_cases h1 : a = e <;> by_cases h2 : b = f <;> by_cases h3 : c = g <;> by_cases h4 : d = h <;> simp [h1, h2, h3, h4]
theorem ints_revH {w W : World} {g c q : Nat} {l : List Int} {m : Nat} (hm : l.length = m) (h : IntsAt W w.heap.size (.slice (some ⟨g, 0, none⟩) m c) l) :
    IntsRd ((W.drewN q).setCells g 0 (((l.take m).reverse).map (Value.int .i64))) (.slice (some ⟨g, 0, none⟩) m c) l.reverse := by
  subst hm
  rw [List.take_length]
  refine ⟨_, c, by rw [List.length_reverse], fun i x hx => ⟨g, 0, rfl, ?_⟩⟩
  have hi : i < (l.reverse.map (Value.int .i64)).length := by rw [List.length_map]; exact (List.getElem?_eq_some_iff.1 hx).1
  have hs : ∀ j, j < (l.reverse.map (Value.int .i64)).length → ((W.drewN q).cell? ⟨g, 0 + j, none⟩).isSome = true := fun j hj => by
    have hj2 : j < l.length := by rw [List.length_map, List.length_reverse] at hj; exact hj
    have h2 : (W.drewN q).cell? ⟨g, 0 + j, none⟩ = some (.int .i64 l[j]) := by rw [Nat.zero_add]; exact IntsAt.cell h (List.getElem?_eq_getElem hj2)
    rw [h2]; rfl
  rw [World.cell?_setCells_in g _ 0 _ hs i hi]
  rw [List.getElem_map]
  obtain ⟨h3, h4⟩ := List.getElem?_eq_some_iff.1 hx
  rw [h4]
theorem rev_anyH (w W : World) (v : Value) (l : List Int) (h : IntsAt W w.heap.size v l) (hl : l.length ≤ 100000) (hw : w.heap.size ≤ W.heap.size) :
    Calls Tryz.prog 98 #[v] W fun e w' => e = .returned (.tuple #[]) ∧ IntsRd w' v l.reverse ∧ Below w.heap.size W w' := by
  by_cases h0 : l = []
  · subst h0
    obtain ⟨a, c, rfl⟩ := h.slice
    refine (Tryz.slices_Reverse_int_empty a c W).mono ?_
    rintro e w' ⟨he, rfl⟩
    exact ⟨he, ⟨a, c, rfl, fun i x hx => by simp at hx⟩, Below.refl _ _⟩
  · obtain ⟨g, c, rfl⟩ := h.row (List.length_pos_iff.2 h0)
    have hc : ∀ j, j < l.length → W.cell? ⟨g, 0 + j, none⟩ = some (.int .i64 (l.getD j 0)) := fun j hj => by
      rw [Nat.zero_add, List.getD_eq_getElem?_getD, List.getElem?_eq_getElem hj]
      exact IntsAt.cell h (List.getElem?_eq_getElem hj)
    have hf : ∀ j, j < l.length → W.frozen? ⟨g, 0 + j, none⟩ = false := fun j hj => by
      rcases h.2 with ⟨h1, h2⟩ | ⟨g2, cap, cur, h1, h2, h3, _⟩
      · exact absurd (List.length_eq_zero_iff.1 h2) h0
      · injection h1 with h1
        injection h1 with h1
        injection h1 with h1
        subst h1
        simp [World.frozen?, h3]
    refine (Tryz.slices_Reverse_int_cells g 0 l.length c l W (Nat.le_refl _) (by omega) hc hf).mono ?_
    rintro e w' ⟨he, q, rfl⟩
    have hg : w.heap.size ≤ g := (World.ownsRow.lt h g rfl).1
    exact ⟨he, ints_revH rfl h, Lib.below_setCells g hg _ _ (below_drewM (Below.refl _ W) q)⟩
theorem blk_loH {W W4 : World} {A t s k p : Nat} {v : Value} {xs : List Value} {o : Obj} (hp : p < W.heap.size) (hr : W.ownsRow A t s v k xs) (hA : p < A) (hg : (W.alloc o).grownBy W4 v.ownBlock) : W4.heap[p]? = W.heap[p]? :=
  (hg.block p (by rw [World.size_alloc]; omega) (fun e => by have := (hr.lt p e.symm).1; omega)).trans (Below.heap_alloc _ _ _ hp)
def Bx4 (W : World) (p : Nat) (r : Rec) : Prop := W.heap[p]? = some (.cells #[.int .i64 (r.1 : Int), .int .i64 (r.2.1 : Int), .int .i64 (r.2.2.1 : Int), .int .i64 (r.2.2.2 : Int)] 88 (0, 0))
theorem Bx4.new (W : World) (r : Rec) : Bx4 (W.alloc (.cells #[.int .i64 (r.1 : Int), .int .i64 (r.2.1 : Int), .int .i64 (r.2.2.1 : Int), .int .i64 (r.2.2.2 : Int)] 88)) W.heap.size r := heap_alloc_new W _
theorem Bx4.lt {W : World} {p : Nat} {r : Rec} (h : Bx4 W p r) : p < W.heap.size := (Array.getElem?_eq_some_iff.1 h).1
theorem Bx4.cells {W : World} {p : Nat} {r : Rec} (h : Bx4 W p r) : (W.cell? ⟨p, 0, none⟩ = some (.int .i64 (r.1 : Int)) ∧ W.cell? ⟨p, 1, none⟩ = some (.int .i64 (r.2.1 : Int)) ∧ W.cell? ⟨p, 2, none⟩ = some (.int .i64 (r.2.2.1 : Int)) ∧ W.cell? ⟨p, 3, none⟩ = some (.int .i64 (r.2.2.2 : Int))) ∧
    (W.frozen? ⟨p, 0, none⟩ = false ∧ W.frozen? ⟨p, 1, none⟩ = false ∧ W.frozen? ⟨p, 2, none⟩ = false ∧ W.frozen? ⟨p, 3, none⟩ = false) := by
  unfold Bx4 at h
  refine ⟨⟨by simp [World.cell?, h], by simp [World.cell?, h], by simp [World.cell?, h], by simp [World.cell?, h]⟩, by simp [World.frozen?, h], by simp [World.frozen?, h], by simp [World.frozen?, h], by simp [World.frozen?, h]⟩
theorem Bx4.set {W : World} {p : Nat} {r : Rec} (h : Bx4 W p r) (q : Rec) : Bx4 ((((W.setCell ⟨p, 0, none⟩ (.int .i64 (q.1 : Int))).setCell ⟨p, 1, none⟩ (.int .i64 (q.2.1 : Int))).setCell ⟨p, 2, none⟩ (.int .i64 (q.2.2.1 : Int))).setCell ⟨p, 3, none⟩ (.int .i64 (q.2.2.2 : Int))) p q := by
  obtain ⟨hlt, hk⟩ := Array.getElem?_eq_some_iff.1 h
  unfold Bx4 World.setCell
  simp [Array.getElem?_modify, Array.getElem?_eq_getElem hlt, hk]
theorem recQ_zero {R : List Rec} {Q : List (List Int × (Nat × Nat))} (h : RecQ R Q) {k : Nat} {r r0 : Rec} (hr : R[k]? = some r) (h0 : R[0]? = some r0) (e : r = r0) : k = 0 := by
  have hl := h.len
  have hk : k < Q.length := by have := (List.getElem?_eq_some_iff.1 hr).1; omega
  have h1 := List.getElem?_eq_getElem hk
  have h2 := List.getElem?_eq_getElem (show 0 < Q.length by omega)
  have e1 := h.at_ k r _ hr h1
  have e2 := h.at_ 0 r0 _ h0 h2
  have h3 : (Q.map (·.2))[k]? = (Q.map (·.2))[0]? := by
    rw [List.getElem?_map, List.getElem?_map, h1, h2, Option.map_some, Option.map_some, e1, e2, e]
  exact (List.getElem?_inj (by rw [List.length_map]; exact hk) h.nd).1 h3
set_option maxRecDepth 100000 in
set_option maxHeartbeats 6400000 in
theorem wordTo_any (R : List Rec) (Q : List (List Int × (Nat × Nat))) (v : Value) (k0 : Nat) (r0 : Rec) (q0 : List Int × (Nat × Nat)) (w : World) (hrd : RecsRd w v R) (hrq : RecQ R Q) (hr0 : R[k0]? = some r0) (hq0 : Q[k0]? = some q0) (hn : R.length ≤ 100000) :
    Calls Tryz.prog 71 #[v, recV r0.1 r0.2.1 r0.2.2.1 r0.2.2.2] w fun e w' => ∃ a c, e = .returned (.slice a q0.1.length c) ∧ IntsRd w' (.slice a q0.1.length c) q0.1 ∧ Below w.heap.size w w' := by
  obtain ⟨i0, hi, hz0, hz1, hz2⟩ := info_parts Tryz.infoI64
  have hneq := foundNeq
  have hgd := foundGuard
  have HRD := Lib.hid hrd
  have HRQ := Lib.hid hrq
  obtain ⟨s0, t0, hQ0, hR0'⟩ := hrq.root
  obtain ⟨⟨s, t, y0, l0⟩, hR0⟩ : ∃ r, R[0]? = some r := ⟨_, hR0'⟩
  have hk0 : k0 < R.length := (List.getElem?_eq_some_iff.1 hr0).1
  have HR0 := Lib.hid hR0
  have HQ0 := Lib.hid hQ0
  have HRR := Lib.hid hr0
  have HQQ := Lib.hid hq0
  obtain ⟨a, c, hv⟩ := hrd.form
  subst hv
  have X0 := Lib.hid (Bx4.new w r0)
  have B0 := Lib.hid (below1 w (.cells #[.int .i64 (r0.1 : Int), .int .i64 (r0.2.1 : Int), .int .i64 (r0.2.2.1 : Int), .int .i64 (r0.2.2.2 : Int)] 88))
  have Z0 := Lib.hid (World.size_alloc w (.cells #[.int .i64 (r0.1 : Int), .int .i64 (r0.2.1 : Int), .int .i64 (r0.2.2.1 : Int), .int .i64 (r0.2.2.2 : Int)] 88))
  clear hrd hrq hR0 hQ0 hr0 hq0 hR0'
  go_enter Tryz.func71, Tryz.ntmps71
  go_wp2_with fail
  generalize (w.alloc (.cells #[.int .i64 (r0.1 : Int), .int .i64 (r0.2.1 : Int), .int .i64 (r0.2.2.1 : Int), .int .i64 (r0.2.2.2 : Int)] 88)) = X at *
  have I0 := Lib.hid (ints_nil X (w.heap.size + 1))
  go_loopg [5] R.length (fun q s5 wx => ∃ (k x y bh lb : Nat) (p : List Int × (Nat × Nat)) (ls : List Int), k ≤ q ∧ Hid (R[k]? = some (x, y, bh, lb)) ∧ Hid (Q[k]? = some p) ∧ Hid (p.1 ++ ls.reverse = q0.1) ∧ Hid (IntsAt wx (w.heap.size + 1) s5 ls) ∧ Hid (Bx4 wx w.heap.size (x, y, bh, lb)) ∧ Hid (Below w.heap.size w wx) ∧ w.heap.size + 1 ≤ wx.heap.size ∧ ls.length + q ≤ R.length)
  case atStart => exact ⟨k0, r0.1, r0.2.1, r0.2.2.1, r0.2.2.2, q0, [], by omega, HRR, HQQ, Lib.hid (by rw [List.reverse_nil, List.append_nil]), I0, X0, B0, by rw [Z0.out]; exact Nat.le_refl _, by simp⟩
  case round =>
    clear X0 B0 I0 HRR HQQ Z0
    obtain ⟨k, x, y, bh, lb, p, ls, hkq, HK, HP, HL, HI, HX, HB, hsz, hll⟩ := hrel
    have hd : Below wr.heap.size wr wr.drew := (Below.refl _ _).drew
    obtain ⟨⟨x1, x2, x3, x4⟩, f1, f2, f3, f4⟩ := HX.out.cells
    obtain ⟨b0, o0, cc0, hv0, k1, k2, k3, k4⟩ := (HRD.out.keep HB.out).at HR0.out
    injection hv0 with e1 e2 e3
    subst e1
    have heq := fun W => foundNeq (x, y, bh, lb) (s, t, y0, l0) W
    dsimp only at heq k1 k2 k3 k4 x1 x2 x3 x4
    rw [Nat.zero_mul, Nat.add_zero] at k1 k2 k3 k4
    have hR1 : 0 < R.length := by omega
    have hR2 : (0 : Int) < (R.length : Int) := by omega
    clear e2 e3 hneq
    by_cases h0 : k = 0
    · subst h0
      have d1 : decide ((x, y, bh, lb) = (s, t, y0, l0)) = true := decide_eq_true (by
        have := HK.out.symm.trans HR0.out
        injection this)
      rw [d1] at heq
      have HE := Lib.hid (show ls.reverse = q0.1 by
        have h1 := HP.out.symm.trans HQ0.out
        injection h1 with h1
        have h2 := HL.out
        rw [h1] at h2
        exact h2)
      have HI2 := Lib.hid (IntsAt.keep HI.out hd)
      have HB2 := Lib.hid (HB.out.trans (hd.mono HB.out.size))
      have hsz2 : w.heap.size + 1 ≤ wr.drew.heap.size := hsz
      obtain ⟨a5, c5, rfl⟩ := HI.out.slice
      obtain ⟨m5, hm5⟩ : ∃ m, ls.length = m := ⟨_, rfl⟩
      have HM5 := Lib.hid hm5
      rw [hm5] at HI2 ⊢
      clear d1 HI HB HX hsz hd hm5
      go_wp2_with fail
      go_region
      generalize wr.drew = Y at *
      have HRV := Lib.hid (rev_anyH w Y (.slice a5 m5 c5) ls (own_low HI2.out (by omega)) (by omega) (by omega))
      go_wp2_with (go_at_call 98; (with_reducible refine HRV.out.mono ?_); rintro e W2 ⟨rfl, hi2, b2⟩)
      go_ret
      have hlq : q0.1.length = m5 := by rw [← HE.out, List.length_reverse, HM5.out]
      rw [hlq]
      refine ⟨_, _, rfl, ?_, HB2.out.trans b2⟩
      rw [← HE.out]
      exact hi2
    · have d1 : decide ((x, y, bh, lb) = (s, t, y0, l0)) = false := decide_eq_false (fun e => h0 (recQ_zero HRQ.out HK.out HR0.out e))
      rw [d1] at heq
      obtain ⟨hbk, p2, hp2, hpe⟩ := HRQ.out.par k _ p (by omega) HK.out HP.out
      dsimp only at hbk hp2 hpe
      obtain ⟨⟨x', y', bh', lb'⟩, hr2⟩ : ∃ r, R[bh]? = some r := ⟨_, List.getElem?_eq_getElem (by have := (List.getElem?_eq_some_iff.1 hp2).1; have := HRQ.out.len; omega)⟩
      have HK2 := Lib.hid hr2
      have HP2 := Lib.hid hp2
      have HL2 := Lib.hid (show p2.1 ++ (ls ++ [(lb : Int)]).reverse = q0.1 by
        rw [← HL.out, hpe, List.reverse_append, List.append_assoc]; rfl)
      have HI2 := Lib.hid (IntsAt.keep HI.out hd)
      have HX2 := Lib.hid (show Bx4 wr.drew w.heap.size (x, y, bh, lb) from HX.out)
      have HB2 := Lib.hid (HB.out.trans (hd.mono HB.out.size))
      have hsz2 : w.heap.size + 1 ≤ wr.drew.heap.size := hsz
      obtain ⟨a5, c5, rfl⟩ := HI.out.slice
      obtain ⟨m5, hm5⟩ : ∃ m, ls.length = m := ⟨_, rfl⟩
      have HM5 := Lib.hid hm5
      have hown := HI2.out
      unfold IntsAt at hown
      rw [hm5] at hown hll ⊢
      have hbR : bh < R.length := (List.getElem?_eq_some_iff.1 hr2).1
      have j1 : (bh : Int) < (R.length : Int) := by omega
      obtain ⟨q', rfl⟩ : ∃ q', gk = q' + 1 := ⟨gk - 1, by omega⟩
      clear d1 HI HB HX hsz hd hm5 hp2 hpe
      go_wp2_with fail
      go_region
      clear x1 x2 x3 x4 f1 f2 f3 f4 k1 k2 k3 k4 heq
      generalize wr.drew = Y at *
      obtain ⟨⟨x1, x2, x3, x4⟩, f1, f2, f3, f4⟩ := HX2.out.cells
      dsimp only at x1 x2 x3 x4
      go_upto_region 3 with (at_builtin; refine wpList_append_own_at _ rfl _ _ 30 rfl (w.heap.size + 1) 3 i0 (.int .i64 0) 1 8 Tryz.underlying30 hi hz0 hz1 hz2 rfl (by decide) _ _ _ rfl (hown.alloc _) ⟨Y.heap.size, 0, none⟩ 1 1 [.int .i64 (lb : Int)] rfl rfl (cell_one_new _ _ _) (by intro u hu; simp at hu; subst hu; rfl) (by unfold maxLen; omega) (by omega) (by rw [World.size_alloc]; omega) ?_; intro v' w4 hown4 hgrow4 hnil4 hloc4)
      have hX4 : Bx4 w4 w.heap.size (x, y, bh, lb) := (blk_loH (by omega) hown (by omega) hgrow4).trans HX2.out
      have HB4 := Lib.hid ((HB2.out.alloc (by omega) _).grown hgrow4 (by rw [World.size_alloc]; omega) (fun k e => by have := (hown.lt k e).1; omega))
      obtain ⟨b3, o3, cc3, hv3, k1, k2, k3, k4⟩ := (HRD.out.keep HB4.out).at hr2
      injection hv3 with e1 e2 e3
      injection e1 with e1
      injection e1 with e1 e4
      subst e1
      subst e4
      clear x1 x2 x3 x4 f1 f2 f3 f4 e2 e3 hr2
      obtain ⟨⟨x1, x2, x3, x4⟩, f1, f2, f3, f4⟩ := hX4.cells
      dsimp only at x1 x2 x3 x4 k1 k2 k3 k4
      have HX5 := Lib.hid (hX4.set (x', y', bh', lb'))
      have hz4 : w.heap.size + 1 ≤ w4.heap.size := by have := hgrow4.size; rw [World.size_alloc] at this; omega
      have HI4 := Lib.hid (show IntsAt w4 (w.heap.size + 1) v' (ls ++ [(lb : Int)]) by
        unfold IntsAt
        rw [intz_snoc, List.length_append, HM5.out]
        exact hown4)
      clear hX4 hown4 hown hgrow4 hnil4 hloc4
      go_wp2_with fail
      go_roundg q'
      case measure => omega
      case rel =>
        have e1 : w.heap.size < w.heap.size + 1 := by omega
        exact ⟨bh, x', y', bh', lb', p2, ls ++ [(lb : Int)], by omega, HK2, HP2, HL2, Lib.hid (ownsRow_setCell_below (ownsRow_setCell_below (ownsRow_setCell_below (ownsRow_setCell_below HI4.out e1 _) e1 _) e1 _) e1 _), HX5, Lib.hid ((((HB4.out.setCell (p := ⟨w.heap.size, 0, none⟩) (Nat.le_refl _) _).setCell (p := ⟨w.heap.size, 1, none⟩) (Nat.le_refl _) _).setCell (p := ⟨w.heap.size, 2, none⟩) (Nat.le_refl _) _).setCell (p := ⟨w.heap.size, 3, none⟩) (Nat.le_refl _) _), by rw [World.size_setCell, World.size_setCell, World.size_setCell, World.size_setCell]; exact hz4, by rw [List.length_append, HM5.out]; simp; omega⟩
end Go.Proofs.YtiockphjnkehnaaGreatDoor

namespace Go.Proofs.YtiockphjnkehnaaGreatDoor
open Go.RowKit Go.Maps Go.Lib
set_option linter.unusedSimpArgs false
set_option linter.unusedVariables false

theorem wpList_insert_ownH {H : Type} {P : Program} (w : World) {ops : Array Oper} {rest : List Oper} {o : Oper} {a : Act} {Q : Exit → Act → World → Prop}
    (hg : o.guard = none) (m x v : Operand) (t : TypeId) (hop : o.op = Op.insert t m x v)
    (k e : TypeId) (K : Keyed P k) (ht : P.underlying t = some (.map k e)) (R : Value → Option (DataW H × List MemPlace)) (b n : Nat) (D : DataW H)
    (hm : a.eval m = .map (some b)) (hown : w.ownsMap P k R b n D) (hn : n < maxLen) (key val : Value) (kl : Lit) (hx : a.eval x = key) (hv : a.eval v = val) (hkey : keyOf P k key = some kl)
    (d : DataW H) (ps : List MemPlace) (hval : R val = some (d, ps))
    (hK : ∀ w', w'.ownsMap P k R b (n + 1) (D.put kl d) → w.grownBy w' (some b) → wpList P ops Q rest (a.put o.dst undef) w') :
    wpList P ops Q (o :: rest) a w := by
  refine wpList_plain hg fun K' hK' => ?_
  obtain ⟨w', hrun, r1, r2⟩ := hown.update K ht hn hkey hval
  unfold Oper.wp
  simp [execOp, hop, hm, hx, hv, hrun, Result.andThen]
  exact hK' _ _ (hK w' r1 r2)
def setP (K : List (Nat × Nat)) : MapH := K.foldl (fun m p => m.put (kyP p) (.lit (.bool true))) (.map [])
theorem setP_snoc (K : List (Nat × Nat)) (x : Nat × Nat) : setP (K ++ [x]) = (setP K).put (kyP x) (.lit (.bool true)) := by
  unfold setP; rw [List.foldl_append]; rfl
theorem setP_tidy : ∀ (K : List (Nat × Nat)), Tidy (setP K) :=
  snocP tidy_empty (fun l x ih => by rw [setP_snoc]; exact ih.put (kyP_key _) _)
set_option maxRecDepth 100000 in
theorem setP_at {p : Nat × Nat} (hp : SmP p) : ∀ (K : List (Nat × Nat)), (∀ x ∈ K, SmP x) → (setP K).atKey (kyP p) (.lit (.bool false)) = .lit (.bool (decide (p ∈ K))) :=
  snocP (fun _ => by rw [atKey_of_not_has (by simp [setP, Maps.has])]; simp) (fun l x ih hs => by
    rw [setP_snoc]
    by_cases e : p = x
    · subst e
      rw [atKey_put_same (setP_tidy l).isMap (kyP_key _)]; simp
    · rw [atKey_put_other (kyP_ne hp (hs x (by simp)) e), ih (fun y hy => hs y (List.mem_append_left _ hy))]
      have e2 : decide (p ∈ l) = decide (p ∈ l ++ [x]) := decide_eq_decide.2 (by
        rw [List.mem_append, List.mem_singleton]
        exact ⟨.inl, fun h => h.resolve_right e⟩)
      exact congrArg (fun b => DataW.lit (Lit.bool b)) e2)
theorem Tryz.zeroBH (w : World) : (zeroValue 4).run Tryz.prog w = .ok (.bool false) w := by kernel_rfl
theorem plainB_inv {P : Program} {e : TypeId} (he : P.underlying e = some .bool) {v : Value} {z : MapH × List MemPlace} (h : plainElem P e v = some z) : ∃ x, v = .bool x ∧ z = (.lit (.bool x), []) := by
  unfold plainElem at h
  rw [he] at h
  cases v <;> simp at h
  exact ⟨_, rfl, h.symm⟩
set_option maxRecDepth 100000 in
theorem lookB {W : World} {b n : Nat} {K : List (Nat × Nat)} {p : Nat × Nat} (h : W.ownsMap Tryz.prog 67 (plainElem Tryz.prog 4) b n (setP K)) (hp : SmP p) (hK : ∀ x ∈ K, SmP x) :
    (Instr.lookup 90 (.map (some b)) (prV p.1 p.2) false).run Tryz.prog W = .ok (.bool (decide (p ∈ K))) W := by
  obtain ⟨v, ps, hrun, hv⟩ := h.lookup Tryz.keyLawP Tryz.underlying90 (Tryz.zeroBH W) (plainElem_bool Tryz.underlying4 false) (kyP_of hp)
  rw [setP_at hp K hK] at hv
  obtain ⟨x, hx, hz⟩ := plainB_inv Tryz.underlying4 hv
  have hz2 := congrArg Prod.fst hz
  dsimp only at hz2
  injection hz2 with hz2
  injection hz2 with hz2
  rw [hz2, ← hx]
  exact hrun
def Bx2 (W : World) (p x y : Nat) : Prop := W.heap[p]? = some (.cells #[.int .i64 (x : Int), .int .i64 (y : Int)] 67 (0, 0))
theorem Bx2.new (W : World) (x y : Nat) : Bx2 (W.alloc (.cells #[.int .i64 (x : Int), .int .i64 (y : Int)] 67)) W.heap.size x y := heap_alloc_new W _
theorem Bx2.lt {W : World} {p x y : Nat} (h : Bx2 W p x y) : p < W.heap.size := (Array.getElem?_eq_some_iff.1 h).1
theorem Bx2.cells {W : World} {p x y : Nat} (h : Bx2 W p x y) : W.cell? ⟨p, 0, none⟩ = some (.int .i64 (x : Int)) ∧ W.cell? ⟨p, 1, none⟩ = some (.int .i64 (y : Int)) := by
  unfold Bx2 at h
  exact ⟨by simp [World.cell?, h], by simp [World.cell?, h]⟩
theorem Bx2.keep {W W' : World} {p x y : Nat} (h : Bx2 W p x y) (hb : Below W.heap.size W W') : Bx2 W' p x y := (hb.block p h.lt).trans h
theorem Bx2.grown {W W' : World} {p x y : Nat} {row : Option Nat} (h : Bx2 W p x y) (hg : W.grownBy W' row) (hr : row ≠ some p) : Bx2 W' p x y := (hg.block p h.lt (fun e => hr e.symm)).trans h
theorem Bx2.ne_map {W : World} {p x y b n : Nat} {D : MapH} {Q : Value → Option (MapH × List MemPlace)} {k : TypeId} (h : Bx2 W p x y) (hm : W.ownsMap Tryz.prog k Q b n D) : some b ≠ some p := fun e => by
  injection e with e
  subst e
  exact map_not_cellsH hm h
theorem row_cellsH {W : World} {A t s k g : Nat} {v : Value} {xs : List Value} (hr : W.ownsRow A t s v k xs) (hg : v.ownBlock = some g) : ∃ c fr, W.heap[g]? = some (.cells c t fr) := by
  rcases hr.2 with ⟨rfl, _⟩ | ⟨g2, cap, cur, rfl, _, hgb, _⟩
  · simp [Value.ownBlock] at hg
  · obtain rfl : g2 = g := by simpa [Value.ownBlock] using hg
    exact ⟨_, _, hgb⟩
theorem Bx2.ne_row {W : World} {p x y B n : Nat} {v : Value} {xs : List Value} (h : Bx2 W p x y) (hr : W.ownsRow B 88 4 v n xs) : v.ownBlock ≠ some p := fun e => by
  obtain ⟨c, fr, h2⟩ := row_cellsH hr e
  unfold Bx2 at h
  rw [h] at h2
  injection h2 with h2
  injection h2 with _ h2 _
  exact absurd h2 (by decide)
structure FS (lo Bm pN na nb : Nat) (R : List Rec) (K : List (Nat × Nat)) (v : Value) (Wm W : World) : Prop where
  bl : Below lo Wm W
  rs : RecsAt W lo v R
  mp : W.ownsMap Tryz.prog 67 (plainElem Tryz.prog 4) Bm K.length (setP K)
  nw : Bx2 W pN na nb
  hB : lo ≤ Bm
theorem FS.keep {lo Bm pN na nb : Nat} {R : List Rec} {K : List (Nat × Nat)} {v : Value} {Wm W W' : World} (h : FS lo Bm pN na nb R K v Wm W) (hlo : lo ≤ W.heap.size) (hb : Below W.heap.size W W') : FS lo Bm pN na nb R K v Wm W' :=
  ⟨h.bl.trans (hb.mono hlo), h.rs.keep hb, h.mp.kept (grown_none hb) (by simp), h.nw.keep hb, h.hB⟩
theorem FS.put {lo Bm pN na nb : Nat} {R : List Rec} {K : List (Nat × Nat)} {v v4 : Value} {Wm W w1 w4 : World} {o : Obj} {r : Rec} {x : Nat × Nat} (h : FS lo Bm pN na nb R K v Wm W) (hlo : lo ≤ W.heap.size)
    (hm1 : w1.ownsMap Tryz.prog 67 (plainElem Tryz.prog 4) Bm (K.length + 1) ((setP K).put (kyP x) (.lit (.bool true)))) (hg1 : W.grownBy w1 (some Bm))
    (hr1 : w1.ownsRow lo 88 4 v R.length (rcl R))
    (hr4 : w4.ownsRow lo 88 4 v4 (R.length + 1) (rcl R ++ [.int .i64 (r.1 : Int), .int .i64 (r.2.1 : Int), .int .i64 (r.2.2.1 : Int), .int .i64 (r.2.2.2 : Int)])) (hg4 : (w1.alloc o).grownBy w4 v.ownBlock) :
    FS lo Bm pN na nb (R ++ [r]) (K ++ [x]) v4 Wm w4 := by
  have b1 : Below lo Wm w1 := h.bl.grown hg1 hlo (fun k e => by injection e with e; have := h.hB; omega)
  have hs1 : lo ≤ w1.heap.size := by have := hg1.size; omega
  have n1 := h.nw.grown hg1 (h.nw.ne_map h.mp)
  have n2 : Bx2 (w1.alloc o) pN na nb := n1.keep (below1 w1 o)
  have hr2 := hr1.alloc o
  refine ⟨(b1.alloc hs1 o).grown hg4 (by rw [World.size_alloc]; omega) (fun k e => (hr1.lt k e).1), ?_, ?_, n2.grown hg4 (n2.ne_row hr2), h.hB⟩
  · unfold RecsAt
    rw [rcl_snoc, List.length_append]
    exact hr4
  · rw [setP_snoc, List.length_append]
    refine (hm1.alloc o).kept hg4 (fun e => ?_)
    obtain ⟨c, fr, h2⟩ := row_cellsH hr2 e.symm
    exact map_not_cellsH (hm1.alloc o) h2
theorem recs_one (W : World) (s t : Nat) : RecsAt (W.alloc (.cells #[.int .i64 (s : Int), .int .i64 (t : Int), .int .i64 0, .int .i64 0] 88)) W.heap.size (.slice (some ⟨W.heap.size, 0, none⟩) 1 1) [(s, t, 0, 0)] :=
  ⟨rfl, .inr ⟨W.heap.size, 1, #[.int .i64 (s : Int), .int .i64 (t : Int), .int .i64 0, .int .i64 0], rfl, Nat.le_refl _, heap_alloc_new W _, Nat.le_refl _, by unfold maxLen; omega, rfl, rfl⟩⟩
def FWOut (D : Bool → Bool → Bool) (a b : Nat → Nat → Nat) (na nb La s t : Nat) (w : World) (e : Ending) (w' : World) : Prop :=
  ∃ g c u is, e = .returned (.tuple #[.slice g u.length c, .bool is]) ∧ IntsRd w' (.slice g u.length c) u ∧ FW D a b na nb La s t u is ∧ Below w.heap.size w w'
theorem exactlyOne_any (x y : Bool) (w : World) : Calls Tryz.prog 33 #[.bool x, .bool y] w fun e w' => e = .returned (.bool (x != y)) ∧ w' = w := by
  go_enter Tryz.func33, Tryz.ntmps33
  go_wp2_with fail
  go_ret
  exact ⟨rfl, rfl⟩
theorem onlyFirst_any (x y : Bool) (w : World) : Calls Tryz.prog 31 #[.bool x, .bool y] w fun e w' => e = .returned (.bool (x && !y)) ∧ w' = w := by
  cases x
  · go_enter Tryz.func31, Tryz.ntmps31
    go_wp2_with fail
    go_ret
    exact ⟨rfl, rfl⟩
  · go_enter Tryz.func31, Tryz.ntmps31
    go_wp2_with fail
    go_ret
    exact ⟨by cases y <;> rfl, rfl⟩
end Go.Proofs.YtiockphjnkehnaaGreatDoor
