/- What grooveref13.Partition and Merge return, and minimal.Merge where a graph is none. Conditions: the edges can be read; at most 1000 edges. groovelaw13.awake returns true. No condition. What rows without listed variables share. No condition. -/
import Derived.Test.YtbgfllohedhmaaaQ27
import Derived.Test.YtbgfllohedhmaaaQ23
import Derived.Test.YtbgfllohedhmaaaQ28
import Derived.Deep.AppendLies
import Derived.Test.YtbgfllohedhmaaaQ26
import Derived.Test.YtbgfllohedhmaaaQ09
import Derived.Test.YtbgfllohedhmaaaRows
import Derived.WalkKit
import Derived.ProofKit
import Derived.OpenShut
import Derived.Deep.DeepHandedRow
import Derived.Below
import Derived.Lib.SmallJoins

namespace Go.Proofs.Ytbgfllohedhmaaa
open Go.RowKit Go.Maps Go.Lib
set_option linter.unusedSimpArgs false
set_option linter.unusedVariables false

set_option maxRecDepth 100000 in
set_option maxHeartbeats 3200000 in
theorem rpart_yes (La n : Nat) (es : List E3) (v : Value) (w : World) (hrd : EdgesRd w v es) (hvg : VG (La : Int) (n : Int) es) (hd : detE es = true) :
    Calls Try.prog 7 #[grV (La : Int) (n : Int) v] w fun e w' => ∃ g, e = .returned (.tuple #[.slice (some ⟨g, 0, none⟩) n n, .int .i64 0]) ∧ w.heap.size ≤ g ∧ IntsRd w' (.slice (some ⟨g, 0, none⟩) n n) (labsI (classN (mT n es) La n)) ∧ Below w.heap.size w w' := by
  have hl := hvg.len
  have HCH : Hid (∀ W, EdgesRd W v es → Calls Try.prog 19 #[grV (La : Int) (n : Int) v] W fun e W' => e = .returned (.int .i64 0) ∧ Below W.heap.size W W') := Lib.hid (fun W h => by
    refine (rcheck13_any La n es v W h (by omega)).mono ?_
    rw [cdR_ok hvg hd]
    exact fun e W' h => h)
  have HCO := Lib.hid (fun W h => classes13_any La n es v W h hvg hd)
  have HRD := Lib.hid hrd
  have B0 := Lib.hid (below1 w (.cells #[.int .i64 (La : Int), .int .i64 (n : Int), v] 24))
  have G0 := Lib.hid (BoxG.new w (La : Int) (n : Int) v 24)
  obtain ⟨x1, x2, x3⟩ := id G0.out
  obtain ⟨a, c, rfl⟩ := hrd.form
  clear hrd hvg hd
  go_enter Try.func7, Try.ntmps7
  go_wp2_with (first
    | (go_at_call 19; (with_reducible refine (HCH.out _ (HRD.out.keep B0.out)).mono ?_); rintro e W1 ⟨rfl, b1⟩; (have B1 := Lib.hid (below_more B0.out (Nat.le_refl _) b1)); (have G1 := Lib.hid (G0.out.keep b1)); clear b1 x1 x2 x3; (obtain ⟨x1, x2, x3⟩ := id G1.out))
    | (go_at_call 20; (with_reducible refine (HCO.out _ (HRD.out.keep B1.out)).mono ?_); rintro e W3 ⟨g3, rfl, hg3, i3, b3⟩; (have B3 := Lib.hid (B1.out.trans (b3.mono B1.out.size))); (have I3 := Lib.hid i3); clear b3 i3))
  exact bodyPost_ret (v := .tuple #[.slice (some ⟨g3, 0, none⟩) n n, .int .i64 0]) (by simp [results, Try.results7, go_sem]) rfl ⟨g3, rfl, by have := B1.out.size; omega, I3.out, B3.out⟩
set_option maxRecDepth 100000 in
set_option maxHeartbeats 3200000 in
theorem rpart_no (La S z : Int) (es : List E3) (v : Value) (w : World) (hrd : EdgesRd w v es) (hn : es.length ≤ 9223372036854775807) (hz : cdR La S es = z) (h0 : z ≠ 0) :
    Calls Try.prog 7 #[grV La S v] w fun e w' => e = .returned (.tuple #[.slice none 0 0, .int .i64 z]) ∧ Below w.heap.size w w' := by
  have HCD := Lib.hid (rcheck13_any La S es v _ (hrd.keep (below1 w (.cells #[.int .i64 La, .int .i64 S, v] 24))) hn)
  rw [hz] at HCD
  have B0 := Lib.hid (below1 w (.cells #[.int .i64 La, .int .i64 S, v] 24))
  obtain ⟨x1, x2, x3⟩ := BoxG.new w La S v 24
  have d1 : (z != 0) = true := by simpa using h0
  obtain ⟨a, c, rfl⟩ := hrd.form
  clear hrd hz h0
  go_enter Try.func7, Try.ntmps7
  go_wp2_with (go_at_call 19; (with_reducible refine HCD.out.mono ?_); rintro e W1 ⟨rfl, b1⟩; (have B1 := Lib.hid (below_more B0.out (Nat.le_refl _) b1)); clear b1 x1 x2 x3)
  exact bodyPost_ret (v := .tuple #[.slice none 0 0, .int .i64 z]) (by simp [results, Try.results7, go_sem]) rfl ⟨rfl, B1.out⟩
set_option maxRecDepth 100000 in
set_option maxHeartbeats 3200000 in
theorem rmerge_no (La S z : Int) (es : List E3) (v : Value) (w : World) (hrd : EdgesRd w v es) (hn : es.length ≤ 9223372036854775807) (hz : cdR La S es = z) (h0 : z ≠ 0) :
    Calls Try.prog 9 #[grV La S v] w fun e w' => e = .returned (.tuple #[grV 0 0 (.slice none 0 0), .slice none 0 0, .int .i64 z]) ∧ Below w.heap.size w w' := by
  have K0 := Lib.hid (KB.start w La S v 24)
  have HCD := Lib.hid (rcheck13_any La S es v _ (hrd.keep K0.out.bel) hn)
  rw [hz] at HCD
  obtain ⟨⟨x1, x2, x3⟩, ⟨⟨r1, r2, r3⟩, r4, r5, r6⟩, -⟩ := id K0.out
  have d1 : (z != 0) = true := by simpa using h0
  obtain ⟨a, c, rfl⟩ := hrd.form
  clear hrd hz h0
  go_enter Try.func9, Try.ntmps9
  go_wp2_with (go_at_call 19; (with_reducible refine HCD.out.mono ?_); rintro e W1 ⟨rfl, b1⟩; (have K1 := Lib.hid (K0.out.keep b1)); (clear b1 x1 x2 x3 r1 r2 r3 r4 r5 r6); (obtain ⟨⟨x1, x2, x3⟩, ⟨⟨r1, r2, r3⟩, r4, r5, r6⟩, -⟩ := id K1.out))
  exact bodyPost_ret (v := .tuple #[grV 0 0 (.slice none 0 0), .slice none 0 0, .int .i64 z]) (by simp [results, Try.results9, go_sem, r1, r2, r3]) rfl ⟨rfl, below_over K1.out.bel (Nat.le_succ _) _ _ _⟩
set_option maxRecDepth 100000 in
set_option maxHeartbeats 3200000 in
theorem merge_no (La S z : Int) (es : List E3) (v : Value) (w : World) (hrd : EdgesRd w v es) (hn : es.length ≤ 9223372036854775807) (hz : cdR La S es = z) (h0 : z ≠ 0) :
    Calls Try.prog 8 #[grV La S v] w fun e w' => e = .returned (.tuple #[grV 0 0 (.slice none 0 0), .slice none 0 0, .int .i64 z]) ∧ Below w.heap.size w w' := by
  have K0 := Lib.hid (KB.start w La S v 24)
  have HCD := Lib.hid (part_no La S z es v _ (hrd.keep K0.out.bel) hn hz h0)
  obtain ⟨⟨x1, x2, x3⟩, ⟨⟨r1, r2, r3⟩, r4, r5, r6⟩, -⟩ := id K0.out
  have d1 : (z != 0) = true := by simpa using h0
  obtain ⟨a, c, rfl⟩ := hrd.form
  clear hrd hz h0
  go_enter Try.func8, Try.ntmps8
  go_wp2_with (go_at_call 6; (with_reducible refine HCD.out.mono ?_); rintro e W1 ⟨rfl, b1⟩; (have K1 := Lib.hid (K0.out.keep b1)); (clear b1 x1 x2 x3 r1 r2 r3 r4 r5 r6); (obtain ⟨⟨x1, x2, x3⟩, ⟨⟨r1, r2, r3⟩, r4, r5, r6⟩, -⟩ := id K1.out))
  exact bodyPost_ret (v := .tuple #[grV 0 0 (.slice none 0 0), .slice none 0 0, .int .i64 z]) (by simp [results, Try.results8, go_sem, r1, r2, r3]) rfl ⟨rfl, below_over K1.out.bel (Nat.le_succ _) _ _ _⟩
/-- What a round of Merge reads. -/
def SJe (P0 g x z cx cz : Nat) (y : Int) (W : World) : Prop := W.cell? ⟨P0, 0, none⟩ = some (.int .i64 (x : Int)) ∧ W.cell? ⟨P0, 1, none⟩ = some (.int .i64 y) ∧ W.cell? ⟨P0, 2, none⟩ = some (.int .i64 (z : Int)) ∧ W.cell? ⟨g, x, none⟩ = some (.int .i64 (cx : Int)) ∧ W.cell? ⟨g, z, none⟩ = some (.int .i64 (cz : Int))
theorem SJe.keep {P0 g x z cx cz : Nat} {y : Int} {W W' : World} (h : SJe P0 g x z cx cz y W) (hb : Below W.heap.size W W') : SJe P0 g x z cx cz y W' := ⟨cell_keep h.1 hb, cell_keep h.2.1 hb, cell_keep h.2.2.1 hb, cell_keep h.2.2.2.1 hb, cell_keep h.2.2.2.2 hb⟩
theorem SJe.grown {P0 g x z cx cz : Nat} {y : Int} {W W' : World} {v : Value} (h : SJe P0 g x z cx cz y W) (r : W.grownBy W' v.ownBlock) (hn : ∀ k, v.ownBlock = some k → k ≠ P0 ∧ k ≠ g) : SJe P0 g x z cx cz y W' := by
  have hp : P0 < W.heap.size := World.block_lt_of_cell? W ⟨P0, 0, none⟩ h.1
  have hg : g < W.heap.size := World.block_lt_of_cell? W ⟨g, x, none⟩ h.2.2.2.1
  have e1 := r.block P0 hp (fun e => (hn P0 e.symm).1 rfl)
  have e2 := r.block g hg (fun e => (hn g e.symm).2 rfl)
  exact ⟨(World.cell?_of_block (w := W) e1).trans h.1, (World.cell?_of_block (w := W) e1).trans h.2.1, (World.cell?_of_block (w := W) e1).trans h.2.2.1, (World.cell?_of_block (w := W) e2).trans h.2.2.2.1, (World.cell?_of_block (w := W) e2).trans h.2.2.2.2⟩
theorem mgE_snocJ (es : List E3) (e : E3) (c : List Nat) : mgE (es ++ [e]) c = mgE es c ++ [(((c.getD e.1.toNat 0 : Nat) : Int), e.2.1, ((c.getD e.2.2.toNat 0 : Nat) : Int))] := by unfold mgE; rw [List.map_append]; rfl
set_option maxRecDepth 100000 in
set_option maxHeartbeats 6400000 in
theorem rmerge_yes (La n : Nat) (es : List E3) (v : Value) (w : World) (cs : List Nat) (hcs : classN (mT n es) La n = cs) (hrd : EdgesRd w v es) (hvg : VG (La : Int) (n : Int) es) (hd : detE es = true) (hln : es.length ≤ 1000) :
    Calls Try.prog 9 #[grV (La : Int) (n : Int) v] w fun e w' => ∃ v' g, e = .returned (.tuple #[grV (La : Int) ((numC cs : Nat) : Int) v', .slice (some ⟨g, 0, none⟩) n n, .int .i64 0]) ∧ EdgesAt w' w.heap.size v' (mkE (mgE es cs)) ∧ IntsRd w' (.slice (some ⟨g, 0, none⟩) n n) (labsI cs) ∧ Below w.heap.size w w' := by
  obtain ⟨i0, hi, hz0, hz1, hz2⟩ := info_parts Try.infoEdge
  have hn64 : n ≤ 64 := by have := hvg.s2; omega
  have hL1 : 1 ≤ La := by have := hvg.l1; omega
  have hcl : cs.length = n := by rw [← hcs]; exact classN_len _ _ _ hL1
  have hcn : numC cs ≤ n := by rw [← hcs]; exact classN_num _ _ _ hL1
  have HCH : Hid (∀ W, EdgesRd W v es → Calls Try.prog 19 #[grV (La : Int) (n : Int) v] W fun e W' => e = .returned (.int .i64 0) ∧ Below W.heap.size W W') := Lib.hid (fun W h => by
    refine (rcheck13_any La n es v W h (by omega)).mono ?_
    rw [cdR_ok hvg hd]
    exact fun e W' h => h)
  have HCO : Hid (∀ W, EdgesRd W v es → Calls Try.prog 20 #[grV (La : Int) (n : Int) v] W fun e w' => ∃ g, e = .returned (.slice (some ⟨g, 0, none⟩) n n) ∧ W.heap.size ≤ g ∧ IntsRd w' (.slice (some ⟨g, 0, none⟩) n n) (labsI cs) ∧ Below W.heap.size W w') := Lib.hid (fun W h => by
    have h2 := classes13_any La n es v W h hvg hd
    rw [hcs] at h2
    exact h2)
  have hmvg := merged_vg hvg hcl (by omega)
  have HMR := Lib.hid (show makeR (La : Int) ((numC cs : Nat) : Int) (mgE es cs) = ((La : Int), ((numC cs : Nat) : Int), mkE (mgE es cs), 0) by
    unfold makeR
    rw [if_pos hmvg.chk])
  have HMK := Lib.hid (fun v' W h => rmake_any (La : Int) ((numC cs : Nat) : Int) (mgE es cs) v' W h (by rw [mgE_len]; omega))
  have HOK := Lib.hid hvg.ok
  have hmx : Try.prog.follows .mixedOrders = true := by kernel_rfl
  have HRD := Lib.hid hrd
  have HCL := Lib.hid hcl
  have HCS : Hid (∀ i, i < n → cs.getD i 0 < 64) := Lib.hid (fun i hi => by
    have := numC_lt cs _ (getD_mem (c := cs) (i := i) (by omega)); omega)
  have K0 := Lib.hid (KB.start w (La : Int) (n : Int) v 24)
  obtain ⟨⟨x1, x2, x3⟩, ⟨⟨r1, r2, r3⟩, r4, r5, r6⟩, -⟩ := id K0.out
  obtain ⟨a, c, rfl⟩ := hrd.form
  clear hrd hvg hd hcs hmvg hcl
  go_enter Try.func9, Try.ntmps9
  go_upto_region 5 with (first
    | (go_at_call 19; (with_reducible refine (HCH.out _ (HRD.out.keep K0.out.bel)).mono ?_); rintro e0 W0 ⟨rfl, b1⟩; (have K1 := Lib.hid (K0.out.keep b1)); (clear b1 x1 x2 x3 r1 r2 r3 r4 r5 r6); (obtain ⟨⟨x1, x2, x3⟩, ⟨⟨r1, r2, r3⟩, r4, r5, r6⟩, -⟩ := id K1.out))
    | (go_at_call 20; (with_reducible refine (HCO.out _ (HRD.out.keep K1.out.bel)).mono ?_); rintro e0 W1 ⟨g5, rfl, hg5, i5, b1⟩; (have K2 := Lib.hid (K1.out.keep b1)); (have HG5 : w.heap.size + 2 ≤ g5 := Nat.le_trans K1.out.2.2.2 hg5); (have I1 := Lib.hid i5); (clear b1 i5 x1 x2 x3 r1 r2 r3 r4 r5 r6); (obtain ⟨⟨x1, x2, x3⟩, ⟨⟨r1, r2, r3⟩, r4, r5, r6⟩, -⟩ := id K2.out)))
  clear x1 x2 x3 r1 r2 r3 r4 r5 r6 K0 K1
  go_wp2_with fail
  go_loopg [7, 8] n (fun q s7 s8 wx => ∃ i : Nat, i + q = n ∧ s8 = .int .i64 (i : Int) ∧ s7 = .int .i64 ((numC (cs.take i) : Nat) : Int) ∧ wx = W1)
  case atStart => exact ⟨0, by omega, rfl, rfl, rfl⟩
  case round =>
    obtain ⟨i, hin, rfl, rfl, rfl⟩ := hrel
    obtain ⟨⟨x1, x2, x3⟩, ⟨⟨r1, r2, r3⟩, r4, r5, r6⟩, -⟩ := id K2.out
    rcases gk with _ | q
    · obtain rfl : i = n := by omega
      have j0 : ¬ ((i : Int) < (i : Int)) := by omega
      have HNC := Lib.hid (show numC (cs.take i) = numC cs by rw [List.take_of_length_le (by rw [HCL.out]; exact Nat.le_refl _)])
      rw [HNC.out]
      obtain ⟨NC, hNC⟩ : ∃ NC, numC cs = NC := ⟨_, rfl⟩
      have HNN := Lib.hid hNC
      rw [hNC] at HMK HMR hcn ⊢
      clear hNC HNC
      obtain ⟨V1, rfl⟩ : ∃ V1, V1 = wr := ⟨_, rfl⟩
      go_wp2_with fail
      clear x1 x2 x3 r1 r2 r3 r4 r5 r6
      go_loopg [9, 10, 11] es.length (fun q s9 s10 s11 wx => ∃ k : Nat, k + q = es.length ∧ s10 = .int .i64 (k : Int) ∧ EdgesAt wx V1.heap.size s9 (mgE (es.take k) cs) ∧ Hid (Below V1.heap.size V1 wx))
      case atStart => exact ⟨0, by omega, rfl, edges_nil _ _, Lib.hid (Below.refl _ _)⟩
      case round =>
        obtain ⟨k, hkq, rfl, hown, HB⟩ := hrel
        have KW := Lib.hid (K2.out.keep HB.out)
        have IW := Lib.hid (I1.out.keep HB.out)
        obtain ⟨⟨x1, x2, x3⟩, ⟨⟨r1, r2, r3⟩, r4, r5, r6⟩, -⟩ := id KW.out
        obtain ⟨au, cu, rfl⟩ := hown.slice
        rcases gk with _ | q2
        · obtain rfl : k = es.length := by omega
          have j5 : ¬ ((es.length : Int) < (es.length : Int)) := by omega
          rw [List.take_length] at hown ⊢
          have HMS := Lib.hid (HMK.out _ wr hown.rd)
          clear hown hkq
          go_upto_region 17 with (go_at_call 22; (with_reducible refine HMS.out.mono ?_); rintro e0 W5 ⟨v5, rfl, i5, b5⟩; (rw [HMR.out] at i5 ⊢); (dsimp only at i5 ⊢); (obtain ⟨a7, c7, rfl⟩ := i5.slice); (have I5 := Lib.hid i5); (have B5 := Lib.hid b5); (clear r1 r2 r3 r4 r5 r6); (obtain ⟨⟨r1, r2, r3⟩, r4, r5, r6⟩ := id (KW.out.keep b5).2.1); (clear i5 b5 x1 x2 x3))
          have B6 := Lib.hid (below_more B5.out (Nat.le_refl _) (below1 W5 (.cells #[.int .i64 (La : Int), .int .i64 (NC : Int), .slice a7 (mkE (mgE es cs)).length c7] 24)))
          have I6 := Lib.hid (I5.out.keep (below1 W5 (.cells #[.int .i64 (La : Int), .int .i64 (NC : Int), .slice a7 (mkE (mgE es cs)).length c7] 24)))
          have X6 := BoxG.new W5 (La : Int) (NC : Int) (.slice a7 (mkE (mgE es cs)).length c7) 24
          obtain ⟨P5, hP5⟩ : ∃ P5, W5.heap.size = P5 := ⟨_, rfl⟩
          rw [hP5] at X6 ⊢
          clear r1 r2 r3 r4 r5 r6 I5 hP5
          generalize (W5.alloc (.cells #[.int .i64 (La : Int), .int .i64 (NC : Int), .slice a7 (mkE (mgE es cs)).length c7] 24)) = W6 at *
          have KX := Lib.hid (KW.out.keep B6.out)
          obtain ⟨⟨r1, r2, r3⟩, r4, r5, r6⟩ := id KX.out.2.1
          obtain ⟨x1, x2, x3⟩ := X6
          have hlo := KW.out.2.2.2
          have HI6 := Lib.hid (IW.out.keep B6.out)
          go_wp2_with fail
          exact bodyPost_ret (v := .tuple #[grV (La : Int) (NC : Int) (.slice a7 (mkE (mgE es cs)).length c7), .slice (some ⟨g5, 0, none⟩) i i, .int .i64 0]) (by simp [results, Try.results9, go_sem, r1, r2, r3]) rfl
            ⟨_, _, by rw [HNN.out], edges_over I6.out (by omega) _ _ _ (by omega), ints_overH (b := w.heap.size + 1) HI6.out (by omega) _ _ _, below_over KX.out.bel (Nat.le_succ _) _ _ _⟩
        · obtain ⟨e, he⟩ : ∃ e, es[k]? = some e := ⟨_, List.getElem?_eq_getElem (by omega)⟩
          have hok := okE_iff.1 (HOK.out e (List.mem_of_getElem? he))
          obtain ⟨bb, off, c', hv, k1, k2, k3⟩ := (HRD.out.keep KW.out.bel).at he
          injection hv with e1 e2 e3
          subst e1
          subst e3
          have HS := Lib.hid (show mgE (es.take (k + 1)) cs = mgE (es.take k) cs ++ [(((cs.getD e.1.toNat 0 : Nat) : Int), e.2.1, ((cs.getD e.2.2.toNat 0 : Nat) : Int))] by rw [take_snoc he, mgE_snocJ])
          obtain ⟨x, y, z⟩ := e
          dsimp only at k1 k2 k3 hok HS
          obtain ⟨x, rfl⟩ : ∃ m : Nat, x = (m : Int) := ⟨x.toNat, by omega⟩
          obtain ⟨z, rfl⟩ : ∃ m : Nat, z = (m : Int) := ⟨z.toNat, by omega⟩
          rw [Int.toNat_natCast, Int.toNat_natCast] at HS
          have hxn : x < i := by omega
          have hzn : z < i := by omega
          have p7 := ints_cellJ IW.out (i := x) (by rw [HCL.out]; exact hxn)
          have p8 := ints_cellJ IW.out (i := z) (by rw [HCL.out]; exact hzn)
          obtain ⟨cx, hcx⟩ : ∃ cx, cs.getD x 0 = cx := ⟨_, rfl⟩
          obtain ⟨cz, hcz⟩ : ∃ cz, cs.getD z 0 = cz := ⟨_, rfl⟩
          rw [hcx] at p7 HS
          rw [hcz] at p8 HS
          have j3 : (k : Int) < (es.length : Int) := by omega
          have jx : (x : Int) < (i : Int) := by omega
          have jz : (z : Int) < (i : Int) := by omega
          have bb1 := below1 wr (.cells #[.int .i64 (x : Int), .int .i64 y, .int .i64 (z : Int)] 42)
          have q7 := cell_keep p7 bb1
          have q8 := cell_keep p8 bb1
          have X1 := BoxG.new wr (x : Int) y (.int .i64 (z : Int)) 42
          have hown0 := hown.keep bb1
          have hlt := hown0.lt
          have BB := Lib.hid (HB.out.trans (bb1.mono HB.out.size))
          have hml : (mgE (es.take k) cs).length ≤ 1000 := by
            have := mgE_len (es.take k) cs
            rw [List.length_take] at this
            omega
          have hOB := Lib.hid (show ∀ q, (Value.slice au (mgE (es.take k) cs).length cu).ownBlock = some q → q < wr.heap.size from fun q e => (hown.lt q e).2)
          have HGV := Lib.hid (show g5 < V1.heap.size from World.block_lt_of_cell? V1 ⟨g5, x, none⟩ (ints_cellJ I1.out (i := x) (by rw [HCL.out]; exact hxn)))
          unfold EdgesAt at hown0
          obtain ⟨m, hm⟩ : ∃ m, (mgE (es.take k) cs).length = m := ⟨_, rfl⟩
          rw [hm] at hown0 hml hlt hOB ⊢
          have HM := Lib.hid hm
          clear he e2 hown hcx hcz p7 p8 hm
          go_upto_region 15 with fail
          obtain ⟨P0, hP0⟩ : ∃ P0, wr.heap.size = P0 := ⟨_, rfl⟩
          rw [hP0] at X1 hOB ⊢
          clear k1 k2 k3 x1 x2 x3 r1 r2 r3 r4 r5 r6 hP0 bb1
          generalize (wr.alloc (.cells #[.int .i64 (x : Int), .int .i64 y, .int .i64 (z : Int)] 42)) = V at *
          obtain ⟨z1, z2, z3⟩ := X1
          have hownD : V.drew.ownsRow V1.heap.size 42 3 (.slice au m cu) m (ecl (mgE (es.take k) cs)) := hown0
          have hR0 : SJe P0 g5 x z cx cz y V.drew := ⟨z1, z2, z3, q7, q8⟩
          have hn9 : ∀ k, (Value.slice au m cu).ownBlock = some k → k ≠ P0 ∧ k ≠ g5 := fun k hk => by
            have h1 := hlt k hk
            have h2 := hOB.out k hk
            have h3 := HGV.out
            omega
          refine regionT (T := T2 16 16 (SJe P0 g5 x z cx cz y) (SJe P0 g5 x z cx cz y)) hmx ?_
          have hR := hR0
          refine take1 (i := 0) (v := ?_) rfl (by kernel_rfl) (by kernel_rfl) (by kernel_rfl) (by kernel_rfl) (by kernel_rfl) (by decide) (by decide) (fun _ _ _ h => h) (Or.inl ⟨by rfl, ?_⟩) hR hR ?_
          rotate_left
          · intro w hSw
            (try unfold SJe at hSw)
            go_simp
            all_goals with_reducible rfl
          (try simp only [Act.put, List.setIfInBounds_toArray, List.set_cons_zero, List.set_cons_succ])
          refine take1 (i := 1) (v := ?_) rfl (by kernel_rfl) (by kernel_rfl) (by kernel_rfl) (by kernel_rfl) (by kernel_rfl) (by decide) (by decide) (fun _ _ _ h => h) (Or.inl ⟨by rfl, ?_⟩) hR hR ?_
          rotate_left
          · intro w hSw
            (try unfold SJe at hSw)
            go_simp
            all_goals with_reducible rfl
          (try simp only [Act.put, List.setIfInBounds_toArray, List.set_cons_zero, List.set_cons_succ])
          refine take1 (i := 2) (v := ?_) rfl (by kernel_rfl) (by kernel_rfl) (by kernel_rfl) (by kernel_rfl) (by kernel_rfl) (by decide) (by decide) (fun _ _ _ h => h) (Or.inl ⟨by rfl, ?_⟩) hR hR ?_
          rotate_left
          · intro w hSw
            (try unfold SJe at hSw)
            go_simp
            all_goals with_reducible rfl
          (try simp only [Act.put, List.setIfInBounds_toArray, List.set_cons_zero, List.set_cons_succ])
          refine take1 (i := 3) (v := ?_) rfl (by kernel_rfl) (by kernel_rfl) (by kernel_rfl) (by kernel_rfl) (by kernel_rfl) (by decide) (by decide) (fun _ _ _ h => h) (Or.inl ⟨by rfl, ?_⟩) hR hR ?_
          rotate_left
          · intro w hSw
            (try unfold SJe at hSw)
            go_simp
            all_goals with_reducible rfl
          (try simp only [Act.put, List.setIfInBounds_toArray, List.set_cons_zero, List.set_cons_succ])
          refine take1 (i := 4) (v := ?_) rfl (by kernel_rfl) (by kernel_rfl) (by kernel_rfl) (by kernel_rfl) (by kernel_rfl) (by decide) (by decide) (fun _ _ _ h => h) (Or.inl ⟨by rfl, ?_⟩) hR hR ?_
          rotate_left
          · intro w hSw
            (try unfold SJe at hSw)
            go_simp
            all_goals with_reducible rfl
          (try simp only [Act.put, List.setIfInBounds_toArray, List.set_cons_zero, List.set_cons_succ])
          refine take1 (i := 5) (v := ?_) rfl (by kernel_rfl) (by kernel_rfl) (by kernel_rfl) (by kernel_rfl) (by kernel_rfl) (by decide) (by decide) (fun _ _ _ h => h) (Or.inl ⟨by rfl, ?_⟩) hR hR ?_
          rotate_left
          · intro w hSw
            (try unfold SJe at hSw)
            go_simp
            all_goals with_reducible rfl
          (try simp only [Act.put, List.setIfInBounds_toArray, List.set_cons_zero, List.set_cons_succ])
          refine take1 (i := 6) (v := ?_) rfl (by kernel_rfl) (by kernel_rfl) (by kernel_rfl) (by kernel_rfl) (by kernel_rfl) (by decide) (by decide) (fun _ _ _ h => h) (Or.inl ⟨by rfl, ?_⟩) hR hR ?_
          rotate_left
          · intro w hSw
            (try unfold SJe at hSw)
            go_simp
            all_goals with_reducible rfl
          (try simp only [Act.put, List.setIfInBounds_toArray, List.set_cons_zero, List.set_cons_succ])
          refine take1 (i := 7) (v := ?_) rfl (by kernel_rfl) (by kernel_rfl) (by kernel_rfl) (by kernel_rfl) (by kernel_rfl) (by decide) (by decide) (fun _ _ _ h => h) (Or.inl ⟨by rfl, ?_⟩) hR hR ?_
          rotate_left
          · intro w hSw
            (try unfold SJe at hSw)
            go_simp
            all_goals with_reducible rfl
          (try simp only [Act.put, List.setIfInBounds_toArray, List.set_cons_zero, List.set_cons_succ])
          refine take1 (i := 8) (v := ?_) rfl (by kernel_rfl) (by kernel_rfl) (by kernel_rfl) (by kernel_rfl) (by kernel_rfl) (by decide) (by decide) (fun _ _ _ h => h) (Or.inl ⟨by rfl, ?_⟩) hR hR ?_
          rotate_left
          · intro w hSw
            (try unfold SJe at hSw)
            go_simp
            all_goals with_reducible rfl
          (try simp only [Act.put, List.setIfInBounds_toArray, List.set_cons_zero, List.set_cons_succ])
          refine take1 (i := 9) (v := ?_) rfl (by kernel_rfl) (by kernel_rfl) (by kernel_rfl) (by kernel_rfl) (by kernel_rfl) (by decide) (by decide) (fun _ _ _ h => h) (Or.inl ⟨by rfl, ?_⟩) hR hR ?_
          rotate_left
          · intro w hSw
            (try unfold SJe at hSw)
            go_simp
            all_goals with_reducible rfl
          (try simp only [Act.put, List.setIfInBounds_toArray, List.set_cons_zero, List.set_cons_succ])
          refine take1 (i := 10) (v := ?_) rfl (by kernel_rfl) (by kernel_rfl) (by kernel_rfl) (by kernel_rfl) (by kernel_rfl) (by decide) (by decide) (fun _ _ _ h => h) (Or.inl ⟨by rfl, ?_⟩) hR hR ?_
          rotate_left
          · intro w hSw
            (try unfold SJe at hSw)
            go_simp
            all_goals with_reducible rfl
          (try simp only [Act.put, List.setIfInBounds_toArray, List.set_cons_zero, List.set_cons_succ])
          refine take1 (i := 11) (v := ?_) rfl (by kernel_rfl) (by kernel_rfl) (by kernel_rfl) (by kernel_rfl) (by kernel_rfl) (by decide) (by decide) (fun _ _ _ h => h) (Or.inl ⟨by rfl, ?_⟩) hR hR ?_
          rotate_left
          · intro w hSw
            (try unfold SJe at hSw)
            go_simp
            all_goals with_reducible rfl
          (try simp only [Act.put, List.setIfInBounds_toArray, List.set_cons_zero, List.set_cons_succ])
          refine take1 (i := 12) (v := ?_) rfl (by kernel_rfl) (by kernel_rfl) (by kernel_rfl) (by kernel_rfl) (by kernel_rfl) (by decide) (by decide) (fun _ _ _ h => h) (Or.inl ⟨by rfl, ?_⟩) hR hR ?_
          rotate_left
          · intro w hSw
            (try unfold SJe at hSw)
            go_simp
            all_goals with_reducible rfl
          (try simp only [Act.put, List.setIfInBounds_toArray, List.set_cons_zero, List.set_cons_succ])
          refine take1 (i := 13) (v := ?_) rfl (by kernel_rfl) (by kernel_rfl) (by kernel_rfl) (by kernel_rfl) (by kernel_rfl) (by decide) (by decide) (fun _ _ _ h => h) (Or.inl ⟨by rfl, ?_⟩) hR hR ?_
          rotate_left
          · intro w hSw
            (try unfold SJe at hSw)
            go_simp
            all_goals with_reducible rfl
          (try simp only [Act.put, List.setIfInBounds_toArray, List.set_cons_zero, List.set_cons_succ])
          refine stepT (i := 14) (by kernel_rfl) rfl (fun K hK => ?_)
          go_simp
          have hR6 := hR.keep (below1 V.drew (.cells #[.int .i64 (cx : Int), .int .i64 y, .int .i64 (cz : Int)] 42))
          refine hK.out _ _ ⟨fun _ => hR6, fun _ => hR6⟩ ?_
          clear hK K hR
          have hR := hR6
          (try simp only [Act.put, List.setIfInBounds_toArray, List.set_cons_zero, List.set_cons_succ])
          refine stepT (i := 15) (by kernel_rfl) rfl (fun K hK => ?_)
          refine step_append_lies _ (by rfl) (.tmp 47) (.tmp 61) 22 (by rfl) V1.heap.size 42 i0 (.agg #[.int .i64 0, .int .i64 0, .int .i64 0]) 3 24 Try.underlying22 hi hz0 hz1 hz2 rfl (by decide) (.slice au m cu) m (ecl (mgE (es.take k) cs)) (by rfl) (hownD.alloc _) ⟨V.drew.heap.size, 0, none⟩ 1 1 [.int .i64 (cx : Int), .int .i64 y, .int .i64 (cz : Int)] (by rfl) (by rfl) (cell_three_new _ _ _ _ _) (by intro u hu; simp at hu; rcases hu with rfl | rfl | rfl <;> rfl) (by decide) (by unfold maxLen; omega) (by omega) (Nat.le_trans BB.out.size (below1 V (.cells #[.int .i64 (cx : Int), .int .i64 y, .int .i64 (cz : Int)] 42)).size) _ rfl ?_
          intro g9 c9 W4 t1 t2 t3 t4
          have hR7 : SJe P0 g5 x z cx cz y W4 := hR.grown t2 hn9
          refine hK.out _ _ ⟨fun _ => hR7, fun _ => hR7⟩ ?_
          clear hK K hR
          have hR := hR7
          (try simp only [Act.put, List.setIfInBounds_toArray, List.set_cons_zero, List.set_cons_succ])
          refine stepT (i := 16) (by kernel_rfl) rfl (fun K hK => ?_)
          go_simp
          refine hK.out _ _ ⟨fun h => absurd h (by decide), fun h => absurd h (by decide)⟩ ?_
          clear hK K
          (try simp only [Act.put, List.setIfInBounds_toArray, List.set_cons_zero, List.set_cons_succ])
          refine doneT (by kernel_rfl) ?_ _
          have E5 := Lib.hid (show EdgesAt W4 V1.heap.size (.slice (some ⟨g9, 0, none⟩) (m + 1) c9) (mgE (es.take (k + 1)) cs) by unfold EdgesAt; rw [HS.out, List.length_append, HM.out, ecl_snoc]; exact t1)
          have B5 := Lib.hid (show Below V1.heap.size V1 W4 from ((BB.out.drew).alloc BB.out.size (.cells #[.int .i64 (cx : Int), .int .i64 y, .int .i64 (cz : Int)] 42)).grown t2 (Nat.le_trans BB.out.size (below1 V (.cells #[.int .i64 (cx : Int), .int .i64 y, .int .i64 (cz : Int)] 42)).size) (fun k hk => (hlt k hk).1))
          clear t1 t2 t3 t4 hown0 hownD hn9 hlt z1 z2 z3 q7 q8
          go_wp2_with fail
          go_roundg q2
          case measure => omega
          case rel => exact ⟨k + 1, by omega, by go_num, E5.out, B5⟩
    · obtain ⟨x, hx⟩ : ∃ x, cs.getD i 0 = x := ⟨_, rfl⟩
      have p1 := ints_cellJ I1.out (i := i) (by rw [HCL.out]; omega)
      have hx64 : x < 64 := by rw [← hx]; exact HCS.out i (by omega)
      obtain ⟨m, hm⟩ : ∃ m, numC (cs.take i) = m := ⟨_, rfl⟩
      obtain ⟨m2, hm2⟩ : ∃ m2, max m (x + 1) = m2 := ⟨_, rfl⟩
      have HM2 := Lib.hid (show numC (cs.take (i + 1)) = m2 by
        rw [take_snoc (getD_opt (c := cs) (s := i) (by rw [HCL.out]; omega)), numC_snoc, hm, hx, hm2])
      rw [hx] at p1
      rw [hm]
      have hmx : ∀ (W : World) (ts : Array TypeId) (t : TypeId), (Builtin.max_ ts t #[.int .i64 (m : Int), .int .i64 ((x : Int) + 1)]).run Try.prog W = .ok (.int .i64 (m2 : Int)) W := fun W ts t => by
        have h := run_maxH (P := Try.prog) .i64 m (x + 1) m2 hm2 W ts t
        rw [show ((x + 1 : Nat) : Int) = (x : Int) + 1 by omega] at h
        exact h
      have j1 : (i : Int) < (n : Int) := by omega
      have hwx : IntKind.i64.wrap ((x : Int) + 1) = (x : Int) + 1 := by rw [IntWalk.i64_in _ (by omega)]
      clear hx hm hm2
      go_wp2_with fail
      go_roundg q
      case measure => omega
      case rel => exact ⟨i + 1, by omega, by go_num, by rw [HM2.out], rfl⟩
end Go.Proofs.Ytbgfllohedhmaaa

namespace Go.Proofs.Ytbgfllohedhmaaa
open Go.RowKit
set_option linter.unusedSimpArgs false
set_option linter.unusedVariables false

def exG : List E3 := [(0, 0, 0), (0, 1, 1), (1, 0, 2), (2, 0, 2), (2, 1, 1)]
def exM : List E3 := [(0, 0, 0), (0, 1, 1), (1, 0, 0)]
theorem exG_vg : VG ((2 : Nat) : Int) ((3 : Nat) : Int) exG := chkG_zero (by decide)
theorem exG_det : detE exG = true := by decide
theorem exG_cls : classN (mT 3 exG) 2 3 = [0, 1, 0] := by decide +kernel
theorem exG_mg : mkE (mgE exG [0, 1, 0]) = exM := by
  refine asc_eq (mkE_pw _) (by decide) (fun x => ?_)
  rw [mkE_mem]
  have h : mgE exG [0, 1, 0] = [(0, 0, 0), (0, 1, 1), (1, 0, 0), (0, 0, 0), (0, 1, 1)] := by decide
  rw [h]
  unfold exM
  simp only [List.mem_cons, List.not_mem_nil, or_false]
  constructor
  · rintro (h | h | h | h | h) <;> simp [h]
  · rintro (h | h | h) <;> simp [h]
theorem exG_fw {u : List Int} {is : Bool} (h : FW (fun x y : Bool => x != y) (mT 3 exG) (mT 3 exG) 3 3 2 0 1 u is) : u = [1] ∧ is = true := by
  have h1 : Dif (fun x y : Bool => x != y) (mT 3 exG) (mT 3 exG) 3 3 0 1 [1] = true := by decide
  have hl : ∀ l ∈ [1], l < 2 := by decide
  rcases h with ⟨hi, w, rfl, hw, hd, hle⟩ | ⟨-, -, hn⟩
  · refine ⟨?_, hi⟩
    have h2 := hle [1] hl h1
    have hlen : w.length ≤ 1 := by
      unfold sle at h2
      unfold labsI at h2
      rw [List.length_map, List.length_map, show ([1] : List Nat).length = 1 from rfl] at h2
      omega
    match w, hw, hd, hlen with
    | [], _, hd, _ => exact absurd hd (by decide)
    | [l], hw, hd, _ =>
      have hl2 := hw l (by simp)
      obtain rfl | rfl : l = 0 ∨ l = 1 := by omega
      · exact absurd hd (by decide)
      · rfl
    | _ :: _ :: _, _, _, hlen => simp at hlen
  · rw [hn [1] hl] at h1
    cases h1
theorem lit010 (W : World) : IntsRd (W.alloc (.cells #[.int .i64 0, .int .i64 1, .int .i64 0] 3)) (.slice (some ⟨W.heap.size, 0, none⟩) 3 3) [0, 1, 0] := (intsLit W [0, 1, 0] (by decide) (by decide)).rd
theorem lit1H (W : World) (z : Int) : IntsRd (W.alloc (.cells #[.int .i64 z] 3)) (.slice (some ⟨W.heap.size, 0, none⟩) 1 1) [z] := (intsLit W [z] (by simp) (by simp)).rd
set_option maxRecDepth 100000 in
set_option maxHeartbeats 6400000 in
theorem awake13_any (w : World) : Calls Try.prog 5 #[] w fun e w' => e = .returned (.bool true) ∧ Below w.heap.size w w' := by
  have HME : Hid (∀ W v, EdgesRd W v exG → Calls Try.prog 8 #[grV 2 3 v] W fun e W' => ∃ a7 c7 g c, e = .returned (.tuple #[grV 2 2 (.slice a7 3 c7), .slice (some ⟨g, 0, none⟩) 3 c, .int .i64 0]) ∧ EdgesRd W' (.slice a7 3 c7) exM ∧ IntsRd W' (.slice (some ⟨g, 0, none⟩) 3 c) [0, 1, 0] ∧ Below W.heap.size W W') := Lib.hid (fun W v h => by
    refine (merge_yes 2 3 exG v W _ exG_cls h exG_vg exG_det).mono ?_
    rintro e W' ⟨v', g, c, he, h1, h2, h3⟩
    rw [exG_mg] at h1
    obtain ⟨a7, c7, rfl⟩ := h1.slice
    exact ⟨a7, c7, g, c, he, h1.rd, h2, h3⟩)
  have HSE : Hid (∀ W v, EdgesRd W v exG → Calls Try.prog 10 #[grV 2 3 v, .int .i64 0, .int .i64 1] W fun e W' => ∃ g c, e = .returned (.tuple #[.slice g 1 c, .bool true, .int .i64 0]) ∧ IntsRd W' (.slice g 1 c) [1] ∧ Below W.heap.size W W') := Lib.hid (fun W v h => by
    refine (sep_yes 2 3 0 1 exG v W h exG_vg exG_det (by decide) (by decide)).mono ?_
    rintro e W' ⟨g, c, u, is, he, h1, h2, h3⟩
    obtain ⟨rfl, rfl⟩ := exG_fw h2
    exact ⟨g, c, he, h1, h3⟩)
  have HSA : Hid (∀ W v1 v2, EdgesRd W v1 exM → EdgesRd W v2 exM → Calls Try.prog 13 #[grV 2 2 v1, grV 2 2 v2] W fun e W' => e = .returned (.bool true) ∧ Below W.heap.size W W') := Lib.hid (fun W v1 v2 h1 h2 => by
    have h := rsame_any 2 2 2 2 exM exM v1 v2 W h1 h2 (by decide) (by decide)
    have h3 : sameG 2 2 exM 2 2 exM = true := by unfold sameG; simp
    rw [h3] at h
    exact h)
  have HE1 : Hid (∀ W u u', IntsRd W u [0, 1, 0] → IntsRd W u' [0, 1, 0] → Calls Try.prog 12 #[u, u'] W fun e W' => e = .returned (.bool true) ∧ Below W.heap.size W W') := Lib.hid (fun W u u' h1 h2 => by
    have h := intsEq_any h1 h2 (by simp) (by simp)
    rw [decide_eq_true rfl] at h
    exact h)
  have HE2 : Hid (∀ W u u', IntsRd W u [1] → IntsRd W u' [1] → Calls Try.prog 12 #[u, u'] W fun e W' => e = .returned (.bool true) ∧ Below W.heap.size W W') := Lib.hid (fun W u u' h1 h2 => by
    have h := intsEq_any h1 h2 (by simp) (by simp)
    rw [decide_eq_true rfl] at h
    exact h)
  have z1 : (w.alloc (.cells #[.int .i64 0, .int .i64 0, .int .i64 0, .int .i64 0, .int .i64 1, .int .i64 1, .int .i64 1, .int .i64 0, .int .i64 2, .int .i64 2, .int .i64 0, .int .i64 2, .int .i64 2, .int .i64 1, .int .i64 1] 42)).heap.size = w.heap.size + 1 := World.size_alloc ..
  have z2 : ((w.alloc (.cells #[.int .i64 0, .int .i64 0, .int .i64 0, .int .i64 0, .int .i64 1, .int .i64 1, .int .i64 1, .int .i64 0, .int .i64 2, .int .i64 2, .int .i64 0, .int .i64 2, .int .i64 2, .int .i64 1, .int .i64 1] 42)).alloc (.cells #[.int .i64 2, .int .i64 3, .slice (some ⟨w.heap.size, 0, none⟩) 5 5] 24)).heap.size = w.heap.size + 1 + 1 := by rw [World.size_alloc, z1]
  have z3 : (((w.alloc (.cells #[.int .i64 0, .int .i64 0, .int .i64 0, .int .i64 0, .int .i64 1, .int .i64 1, .int .i64 1, .int .i64 0, .int .i64 2, .int .i64 2, .int .i64 0, .int .i64 2, .int .i64 2, .int .i64 1, .int .i64 1] 42)).alloc (.cells #[.int .i64 2, .int .i64 3, .slice (some ⟨w.heap.size, 0, none⟩) 5 5] 24)).alloc (.cells #[.int .i64 0, .int .i64 0, .int .i64 0, .int .i64 0, .int .i64 1, .int .i64 1, .int .i64 1, .int .i64 0, .int .i64 0] 42)).heap.size = w.heap.size + 1 + 1 + 1 := by rw [World.size_alloc, z2]
  have e1 : EdgesRd (w.alloc (.cells #[.int .i64 0, .int .i64 0, .int .i64 0, .int .i64 0, .int .i64 1, .int .i64 1, .int .i64 1, .int .i64 0, .int .i64 2, .int .i64 2, .int .i64 0, .int .i64 2, .int .i64 2, .int .i64 1, .int .i64 1] 42)) (.slice (some ⟨w.heap.size, 0, none⟩) 5 5) exG := (edgesLit w exG (by decide) (by decide)).rd
  have g1 := BoxG.new (w.alloc (.cells #[.int .i64 0, .int .i64 0, .int .i64 0, .int .i64 0, .int .i64 1, .int .i64 1, .int .i64 1, .int .i64 0, .int .i64 2, .int .i64 2, .int .i64 0, .int .i64 2, .int .i64 2, .int .i64 1, .int .i64 1] 42)) 2 3 (.slice (some ⟨w.heap.size, 0, none⟩) 5 5) 24
  have e2 : EdgesRd (((w.alloc (.cells #[.int .i64 0, .int .i64 0, .int .i64 0, .int .i64 0, .int .i64 1, .int .i64 1, .int .i64 1, .int .i64 0, .int .i64 2, .int .i64 2, .int .i64 0, .int .i64 2, .int .i64 2, .int .i64 1, .int .i64 1] 42)).alloc (.cells #[.int .i64 2, .int .i64 3, .slice (some ⟨w.heap.size, 0, none⟩) 5 5] 24)).alloc (.cells #[.int .i64 0, .int .i64 0, .int .i64 0, .int .i64 0, .int .i64 1, .int .i64 1, .int .i64 1, .int .i64 0, .int .i64 0] 42)) (.slice (some ⟨((w.alloc (.cells #[.int .i64 0, .int .i64 0, .int .i64 0, .int .i64 0, .int .i64 1, .int .i64 1, .int .i64 1, .int .i64 0, .int .i64 2, .int .i64 2, .int .i64 0, .int .i64 2, .int .i64 2, .int .i64 1, .int .i64 1] 42)).alloc (.cells #[.int .i64 2, .int .i64 3, .slice (some ⟨w.heap.size, 0, none⟩) 5 5] 24)).heap.size, 0, none⟩) 3 3) exM := (edgesLit ((w.alloc (.cells #[.int .i64 0, .int .i64 0, .int .i64 0, .int .i64 0, .int .i64 1, .int .i64 1, .int .i64 1, .int .i64 0, .int .i64 2, .int .i64 2, .int .i64 0, .int .i64 2, .int .i64 2, .int .i64 1, .int .i64 1] 42)).alloc (.cells #[.int .i64 2, .int .i64 3, .slice (some ⟨w.heap.size, 0, none⟩) 5 5] 24)) exM (by decide) (by decide)).rd
  have g2 := BoxG.new (((w.alloc (.cells #[.int .i64 0, .int .i64 0, .int .i64 0, .int .i64 0, .int .i64 1, .int .i64 1, .int .i64 1, .int .i64 0, .int .i64 2, .int .i64 2, .int .i64 0, .int .i64 2, .int .i64 2, .int .i64 1, .int .i64 1] 42)).alloc (.cells #[.int .i64 2, .int .i64 3, .slice (some ⟨w.heap.size, 0, none⟩) 5 5] 24)).alloc (.cells #[.int .i64 0, .int .i64 0, .int .i64 0, .int .i64 0, .int .i64 1, .int .i64 1, .int .i64 1, .int .i64 0, .int .i64 0] 42)) 2 2 (.slice (some ⟨w.heap.size + 1 + 1, 0, none⟩) 3 3) 24
  rw [z1] at g1
  rw [z2] at e2
  rw [z3] at g2
  have b1 := below1 w (.cells #[.int .i64 0, .int .i64 0, .int .i64 0, .int .i64 0, .int .i64 1, .int .i64 1, .int .i64 1, .int .i64 0, .int .i64 2, .int .i64 2, .int .i64 0, .int .i64 2, .int .i64 2, .int .i64 1, .int .i64 1] 42)
  have b2 := below1 (w.alloc (.cells #[.int .i64 0, .int .i64 0, .int .i64 0, .int .i64 0, .int .i64 1, .int .i64 1, .int .i64 1, .int .i64 0, .int .i64 2, .int .i64 2, .int .i64 0, .int .i64 2, .int .i64 2, .int .i64 1, .int .i64 1] 42)) (.cells #[.int .i64 2, .int .i64 3, .slice (some ⟨w.heap.size, 0, none⟩) 5 5] 24)
  have b3 := below1 ((w.alloc (.cells #[.int .i64 0, .int .i64 0, .int .i64 0, .int .i64 0, .int .i64 1, .int .i64 1, .int .i64 1, .int .i64 0, .int .i64 2, .int .i64 2, .int .i64 0, .int .i64 2, .int .i64 2, .int .i64 1, .int .i64 1] 42)).alloc (.cells #[.int .i64 2, .int .i64 3, .slice (some ⟨w.heap.size, 0, none⟩) 5 5] 24)) (.cells #[.int .i64 0, .int .i64 0, .int .i64 0, .int .i64 0, .int .i64 1, .int .i64 1, .int .i64 1, .int .i64 0, .int .i64 0] 42)
  have b4 := below1 (((w.alloc (.cells #[.int .i64 0, .int .i64 0, .int .i64 0, .int .i64 0, .int .i64 1, .int .i64 1, .int .i64 1, .int .i64 0, .int .i64 2, .int .i64 2, .int .i64 0, .int .i64 2, .int .i64 2, .int .i64 1, .int .i64 1] 42)).alloc (.cells #[.int .i64 2, .int .i64 3, .slice (some ⟨w.heap.size, 0, none⟩) 5 5] 24)).alloc (.cells #[.int .i64 0, .int .i64 0, .int .i64 0, .int .i64 0, .int .i64 1, .int .i64 1, .int .i64 1, .int .i64 0, .int .i64 0] 42)) (.cells #[.int .i64 2, .int .i64 2, .slice (some ⟨w.heap.size + 1 + 1, 0, none⟩) 3 3] 24)
  have E1 := Lib.hid (((e1.keep b2).keep b3).keep b4)
  have G1 := Lib.hid ((g1.keep b3).keep b4)
  have E2 := Lib.hid (e2.keep b4)
  have G2 := Lib.hid g2
  have B0 := Lib.hid (below_more (below_more (below_more b1 (Nat.le_refl _) b2) (Nat.le_refl _) b3) (Nat.le_refl _) b4)
  clear z1 z2 z3 e1 g1 e2 g2 b1 b2 b3 b4
  go_enter Try.func5, Try.ntmps5
  go_upto_region 3 with fail
  generalize ((((w.alloc (.cells #[.int .i64 0, .int .i64 0, .int .i64 0, .int .i64 0, .int .i64 1, .int .i64 1, .int .i64 1, .int .i64 0, .int .i64 2, .int .i64 2, .int .i64 0, .int .i64 2, .int .i64 2, .int .i64 1, .int .i64 1] 42)).alloc (.cells #[.int .i64 2, .int .i64 3, .slice (some ⟨w.heap.size, 0, none⟩) 5 5] 24)).alloc (.cells #[.int .i64 0, .int .i64 0, .int .i64 0, .int .i64 0, .int .i64 1, .int .i64 1, .int .i64 1, .int .i64 0, .int .i64 0] 42)).alloc (.cells #[.int .i64 2, .int .i64 2, .slice (some ⟨w.heap.size + 1 + 1, 0, none⟩) 3 3] 24)) = X at *
  obtain ⟨x1, x2, x3⟩ := id G1.out
  go_upto_region 4 with (go_at_call 8; (with_reducible refine (HME.out _ _ E1.out).mono ?_); rintro e W1 ⟨a7, c7, g, c, rfl, m1, i1, b1⟩)
  have k1 := below_more b1 (Nat.le_refl _) (below1 W1 (.cells #[.int .i64 2, .int .i64 2, .slice a7 3 c7] 24))
  have M1 := Lib.hid (m1.keep (below1 W1 (.cells #[.int .i64 2, .int .i64 2, .slice a7 3 c7] 24)))
  have I1 := Lib.hid (i1.keep (below1 W1 (.cells #[.int .i64 2, .int .i64 2, .slice a7 3 c7] 24)))
  have G3 := Lib.hid (BoxG.new W1 2 2 (.slice a7 3 c7) 24)
  have B1 := Lib.hid (B0.out.trans (k1.mono B0.out.size))
  have E1a := Lib.hid (E1.out.keep k1)
  have E2a := Lib.hid (E2.out.keep k1)
  have G1a := Lib.hid (G1.out.keep k1)
  have G2a := Lib.hid (G2.out.keep k1)
  obtain ⟨P3, hP3⟩ : ∃ P3, W1.heap.size = P3 := ⟨_, rfl⟩
  rw [hP3] at G3 ⊢
  clear m1 i1 b1 k1 x1 x2 x3 E1 E2 G1 G2 B0 hP3
  generalize (W1.alloc (.cells #[.int .i64 2, .int .i64 2, .slice a7 3 c7] 24)) = Y at *
  obtain ⟨x1, x2, x3⟩ := id G1a.out
  go_upto_region 5 with (go_at_call 10; (with_reducible refine (HSE.out _ _ E1a.out).mono ?_); rintro e W2 ⟨g9, c9, rfl, i2, b2⟩)
  have I2 := Lib.hid i2
  have B2 := Lib.hid (B1.out.trans (b2.mono B1.out.size))
  have M2 := Lib.hid (M1.out.keep b2)
  have J2 := Lib.hid (I1.out.keep b2)
  have E2b := Lib.hid (E2a.out.keep b2)
  obtain ⟨y1, y2, y3⟩ := G2a.out.keep b2
  obtain ⟨u1, u2, u3⟩ := G3.out.keep b2
  clear i2 b2 x1 x2 x3 E1a E2a G1a G2a G3 M1 I1 B1
  go_wp2_with (first
    | (go_at_call 13; (with_reducible refine (HSA.out _ _ _ M2.out E2b.out).mono ?_); rintro e W3 ⟨rfl, b3⟩; (have B3 := Lib.hid (B2.out.trans (b3.mono B2.out.size))); (have I3 := Lib.hid (I2.out.keep b3)); (have J3 := Lib.hid (J2.out.keep b3)); clear b3 y1 y2 y3 u1 u2 u3)
    | (go_at_call 12; (with_reducible refine (HE1.out _ _ _ (J3.out.keep (below1 W3 _)) (lit010 W3)).mono ?_); rintro e W4 ⟨rfl, b4⟩; (have k4 := below_more (below1 W3 (.cells #[.int .i64 0, .int .i64 1, .int .i64 0] 3)) (Nat.le_refl _) b4); (have B4 := Lib.hid (B3.out.trans (k4.mono B3.out.size))); (have I4 := Lib.hid (I3.out.keep k4)); clear b4 k4)
    | (go_at_call 12; (with_reducible refine (HE2.out _ _ _ (I4.out.keep (below1 W4 _)) (lit1H W4 1)).mono ?_); rintro e W5 ⟨rfl, b5⟩; (have k5 := below_more (below1 W4 (.cells #[.int .i64 1] 3)) (Nat.le_refl _) b5); (have B5 := Lib.hid (B4.out.trans (k5.mono B4.out.size))); clear b5 k5))
  go_ret
  exact ⟨rfl, B5.out⟩
end Go.Proofs.Ytbgfllohedhmaaa

namespace Go.Proofs.Ytbgfllohedhmaaa
open Go.ChangeShapes Go.WideShapes Go.ChangeAt Go.RowKit

theorem ownNone : ownKnob Try.prog.godebug = none := by kernel_rfl
end Go.Proofs.Ytbgfllohedhmaaa
