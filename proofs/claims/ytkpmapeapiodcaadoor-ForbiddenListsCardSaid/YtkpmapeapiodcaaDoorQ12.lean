/- What graph.part returns. Conditions: at most 64 states, edges between states. What graph.checkSet, Keep and Essential return. Conditions: the graph is valid; a list's length is one of a slice. What graph.Same returns. Condition: the lists' lengths are those of slices. -/
import Derived.Test.YtkpmapeapiodcaaDoorQ11
import Derived.Laws.StructEq
import Derived.Shelf.SlicesE.Equal

namespace Go.Proofs.YtkpmapeapiodcaaDoor
open Go.RowKit
set_option linter.unusedSimpArgs false
set_option linter.unusedVariables false

structure P1 (w : World) (n : Nat) (L : Int) (v : Value) (p q : Nat) (f : Nat → Bool) (g : Nat → Int) (W : World) : Prop where
  rp : BRow W p n f
  rq : IRow W q n g
  ne : p ≠ q
  lp : w.heap.size + 1 < p
  lq : w.heap.size + 1 < q
  box : BoxG W w.heap.size L (n : Int) v
  res : BoxF W (w.heap.size + 1) 0 0 (.slice none 0 0)
  b : Below w.heap.size w W
section
variable {w W W' : World} {n p q : Nat} {L : Int} {v : Value} {f f' : Nat → Bool} {g g' : Nat → Int}
theorem P1.keep (h : P1 w n L v p q f g W) (hb : Below W.heap.size W W') : P1 w n L v p q f g W' :=
  ⟨h.rp.keep hb, h.rq.keep hb, h.ne, h.lp, h.lq, h.box.keep hb, h.res.keep hb, h.b.trans (hb.mono h.b.size)⟩
theorem P1.setP (h : P1 w n L v p q f g W) (i : Nat) (x : Bool) : P1 w n L v p q (fun j => if j = i then x else f j) g (W.setCell ⟨p, i, none⟩ (.bool x)) :=
  ⟨h.rp.set i x, h.rq.other (by exact Ne.symm h.ne) _, h.ne, h.lp, h.lq, boxG_other h.box (by have := h.lp; show p ≠ _; omega) _, h.res.other (by have := h.lp; show p ≠ _; omega) _, h.b.setCell (by have := h.lp; show _ ≤ p; omega) _⟩
theorem P1.setQ (h : P1 w n L v p q f g W) (i : Nat) (x : Int) : P1 w n L v p q f (fun j => if j = i then x else g j) (W.setCell ⟨q, i, none⟩ (.int .i64 x)) :=
  ⟨h.rp.other (by exact h.ne) _, h.rq.set i x, h.ne, h.lp, h.lq, boxG_other h.box (by have := h.lq; show q ≠ _; omega) _, h.res.other (by have := h.lq; show q ≠ _; omega) _, h.b.setCell (by have := h.lq; show _ ≤ q; omega) _⟩
theorem P1.congr (h : P1 w n L v p q f g W) (e1 : ∀ i, i < n → f i = f' i) (e2 : ∀ i, i < n → g i = g' i) : P1 w n L v p q f' g' W := { h with rp := h.rp.congr e1, rq := h.rq.congr e2 }
end
structure P2 (w : World) (n : Nat) (L : Int) (k : Nat) (v : Value) (p q pb : Nat) (f : Nat → Bool) (g : Nat → Int) (s : Value) (es : List E3) (W : World) : Prop where
  one : P1 w n L v p q f g W
  out : BoxF W pb L (k : Int) s
  hpb : p < pb ∧ q < pb
  own : EdgesAt W (pb + 1) s es
theorem P2.keep {w W W' : World} {n p q pb k : Nat} {L : Int} {v s : Value} {f : Nat → Bool} {g : Nat → Int} {es : List E3} (h : P2 w n L k v p q pb f g s es W) (hb : Below W.heap.size W W') : P2 w n L k v p q pb f g s es W' :=
  ⟨h.one.keep hb, h.out.keep hb, h.hpb, h.own.keep hb⟩
theorem BoxF.of_block {W W' : World} {p : Nat} {L S : Int} {v : Value} (h : BoxF W p L S v) (e : W'.heap[p]? = W.heap[p]?) : BoxF W' p L S v :=
  ⟨⟨(World.cell?_of_block (w := W) e).trans h.1.1, (World.cell?_of_block (w := W) e).trans h.1.2.1, (World.cell?_of_block (w := W) e).trans h.1.2.2⟩,
    (World.frozen?_of_block (w := W) e).trans h.2.1, (World.frozen?_of_block (w := W) e).trans h.2.2.1, (World.frozen?_of_block (w := W) e).trans h.2.2.2⟩
theorem BoxF.set2 {W : World} {p : Nat} {L S : Int} {v : Value} (h : BoxF W p L S v) (u : Value) : BoxF (W.setCell ⟨p, 2, none⟩ u) p L S u := by
  obtain ⟨⟨h1, h2, h3⟩, h4, h5, h6⟩ := h
  refine ⟨⟨?_, ?_, ?_⟩, ?_, ?_, ?_⟩ <;> simp [go_sem, h1, h2, h3, h4, h5, h6]
theorem P2.app {w W W4 : World} {n p q pb k : Nat} {L : Int} {v s s' : Value} {f : Nat → Bool} {g : Nat → Int} {es es' : List E3} (T : P2 w n L k v p q pb f g s es W) (o : Obj) (r2 : (W.alloc o).grownBy W4 s.ownBlock) (r1 : EdgesAt W4 (pb + 1) s' es') :
    P2 w n L k v p q pb f g s' es' (W4.setCell ⟨pb, 2, none⟩ s') ∧ W4.cell? ⟨pb, 2, none⟩ = some s ∧ W4.frozen? ⟨pb, 2, none⟩ = false := by
  have hlt := T.own.lt
  have hpb := T.out.lt
  have hk : ∀ k, k ≤ pb → W4.heap[k]? = W.heap[k]? := fun k h => (r2.block k (by rw [World.size_alloc]; omega) (fun e => by have := (hlt k e.symm).1; omega)).trans (Below.heap_alloc _ _ _ (by omega))
  obtain ⟨hp, hq⟩ := T.hpb
  have lp := T.one.lp
  have b4 : Below w.heap.size w W4 := (T.one.b.alloc T.one.b.size o).grown r2 (by rw [World.size_alloc]; have := T.one.b.size; omega) (fun k e => by have := (hlt k e).1; omega)
  have o4 := T.out.of_block (hk pb (Nat.le_refl _))
  have ow : BoxG W4 w.heap.size L (n : Int) v := ⟨(World.cell?_of_block (w := W) (hk w.heap.size (by omega))).trans T.one.box.1, (World.cell?_of_block (w := W) (hk w.heap.size (by omega))).trans T.one.box.2.1, (World.cell?_of_block (w := W) (hk w.heap.size (by omega))).trans T.one.box.2.2⟩
  have rs := T.one.res.of_block (hk (w.heap.size + 1) (by omega))
  refine ⟨⟨⟨BRow.other (World.rowIs.of_block T.one.rp (hk p (by omega))) (by exact Nat.ne_of_lt hp) _, IRow.other (World.rowIs.of_block T.one.rq (hk q (by omega))) (by exact Nat.ne_of_lt hq) _, T.one.ne, lp, T.one.lq,
    boxG_other ow (by show pb ≠ _; omega) _, rs.other (by show pb ≠ _; omega) _, b4.setCell (by show _ ≤ pb; omega) _⟩, o4.set2 _, T.hpb, ownsRow_setCell_below r1 (by exact Nat.lt_succ_self _) _⟩, o4.1.2.2, o4.2.2.2⟩
theorem P2.app' {w W W4 : World} {n p q pb k : Nat} {L : Int} {v : Value} {f : Nat → Bool} {g : Nat → Int} {es : List E3} {a9 : Option Addr} {m c9 g9 d9 : Nat} {x y z : Int} {o : Obj} (T : P2 w n L k v p q pb f g (.slice a9 m c9) es W.drew) (hm : es.length = m) (r2 : ((W.alloc o).drew).grownBy W4 (Value.slice a9 m c9).ownBlock)
    (r1 : W4.ownsRow (pb + 1) 45 3 (.slice (some ⟨g9, 0, none⟩) (m + 1) d9) (m + 1) (ecl es ++ [.int .i64 x, .int .i64 y, .int .i64 z])) :
    P2 w n L k v p q pb f g (.slice (some ⟨g9, 0, none⟩) (m + 1) d9) (es ++ [(x, y, z)]) (W4.setCell ⟨pb, 2, none⟩ (.slice (some ⟨g9, 0, none⟩) (m + 1) d9)) ∧ W4.cell? ⟨pb, 2, none⟩ = some (.slice a9 m c9) ∧ W4.frozen? ⟨pb, 2, none⟩ = false :=
  T.app o (show (W.drew.alloc o).grownBy W4 _ from r2) (by unfold EdgesAt; rw [ecl_snoc, List.length_append, hm]; exact r1)
def S5 (P0 q x z : Nat) (y : Int) (nx nz : Nat) (W : World) : Prop := W.cell? ⟨P0, 0, none⟩ = some (.int .i64 (x : Int)) ∧ W.cell? ⟨P0, 1, none⟩ = some (.int .i64 y) ∧ W.cell? ⟨P0, 2, none⟩ = some (.int .i64 (z : Int)) ∧ W.cell? ⟨q, x, none⟩ = some (.int .i64 (nx : Int)) ∧ W.cell? ⟨q, z, none⟩ = some (.int .i64 (nz : Int))
theorem S5.keep {P0 q x z : Nat} {y : Int} {nx nz : Nat} {W W' : World} (h : S5 P0 q x z y nx nz W) (hb : Below W.heap.size W W') : S5 P0 q x z y nx nz W' := ⟨cell_keep h.1 hb, cell_keep h.2.1 hb, cell_keep h.2.2.1 hb, cell_keep h.2.2.2.1 hb, cell_keep h.2.2.2.2 hb⟩
theorem S5.blocks {P0 q x z : Nat} {y : Int} {nx nz : Nat} {W W' : World} (h : S5 P0 q x z y nx nz W) (h1 : W'.heap[P0]? = W.heap[P0]?) (h2 : W'.heap[q]? = W.heap[q]?) : S5 P0 q x z y nx nz W' :=
  ⟨(World.cell?_of_block (w := W) h1).trans h.1, (World.cell?_of_block (w := W) h1).trans h.2.1, (World.cell?_of_block (w := W) h1).trans h.2.2.1, (World.cell?_of_block (w := W) h2).trans h.2.2.2.1, (World.cell?_of_block (w := W) h2).trans h.2.2.2.2⟩
theorem S5.grown {P0 q x z : Nat} {y : Int} {nx nz : Nat} {W W' : World} {o : Obj} {row : Option Nat} (h : S5 P0 q x z y nx nz W) (r : ((W.alloc o).drew).grownBy W' row) (h1 : row ≠ some P0) (h2 : row ≠ some q) : S5 P0 q x z y nx nz W' := by
  have hp : P0 < W.heap.size := World.block_lt_of_cell? W ⟨P0, 0, none⟩ h.1
  have hq : q < W.heap.size := World.block_lt_of_cell? W ⟨q, x, none⟩ h.2.2.2.1
  have hs : ((W.alloc o).drew).heap.size = W.heap.size + 1 := World.size_alloc W o
  exact h.blocks ((r.block P0 (by omega) (Ne.symm h1)).trans (Below.heap_alloc _ _ _ hp)) ((r.block q (by omega) (Ne.symm h2)).trans (Below.heap_alloc _ _ _ hq))
theorem S5.far {P0 q x z : Nat} {y : Int} {nx nz : Nat} {W : World} {a : Addr} (h : S5 P0 q x z y nx nz W) (h1 : a.block ≠ P0) (h2 : a.block ≠ q) (v : Value) : S5 P0 q x z y nx nz (W.setCell a v) := by
  unfold S5
  rw [World.cell?_setCell_far _ _ _ _ (by exact h1), World.cell?_setCell_far _ _ _ _ (by exact h1), World.cell?_setCell_far _ _ _ _ (by exact h1), World.cell?_setCell_far _ _ _ _ (by exact h2), World.cell?_setCell_far _ _ _ _ (by exact h2)]
  exact h
def S6 (P0 q x z : Nat) (y : Int) (nx nz pb : Nat) (s : Value) (W : World) : Prop := S5 P0 q x z y nx nz W ∧ W.cell? ⟨pb, 2, none⟩ = some s
def NewGraph (w : World) (L S : Int) (es : List E3) (e : Ending) (w' : World) : Prop := ∃ v, e = .returned (grV L S v) ∧ EdgesAt w' w.heap.size v es ∧ Below w.heap.size w w'
set_option maxRecDepth 100000 in
set_option maxHeartbeats 6400000 in
theorem part_any (L : Int) (n : Nat) (es : List E3) (v vs : Value) (st : List Int) (w : World) (hrd : EdgesRd w v es) (hst : IntsRd w vs st) (hn : n ≤ 64) (hok : ∀ e ∈ es, okE L (n : Int) e = true) (hlen : es.length ≤ 1024) (hsg : SG (n : Int) st) :
    Calls Tryd.prog 64 #[grV L (n : Int) v, vs] w (NewGraph w L (st.length : Int) (partE st es)) := by
  obtain ⟨i0, hi, hz0, hz1, hz2⟩ := info_parts Tryd.infoEdge
  have hmx : Tryd.prog.follows .mixedOrders = true := by kernel_rfl
  have HMB := make_bools n (by omega)
  have HMI := make_ints n (by omega)
  have HRD := Lib.hid hrd
  have HST := Lib.hid hst
  have HOK := Lib.hid hok
  have HSG := Lib.hid hsg
  have hsl := hsg.len
  obtain ⟨a, c, rfl⟩ := hrd.form
  obtain ⟨a2, c2, rfl⟩ := hst.form
  have T0 : P1 w n L (.slice a es.length c) (w.heap.size + 1 + 1) (w.heap.size + 1 + 1 + 1) (fun _ => false) (fun _ => 0) ((((w.alloc (.cells #[.int .i64 L, .int .i64 (n : Int), .slice a es.length c] 41)).alloc (.cells #[.int .i64 0, .int .i64 0, .slice none 0 0] 41)).alloc (.cells (madeCells #[.bool false] n) 4)).alloc (.cells (madeCells #[.int .i64 0] n) 3)) := by
    obtain ⟨W1, hW1⟩ : ∃ W1, w.alloc (.cells #[.int .i64 L, .int .i64 (n : Int), .slice a es.length c] 41) = W1 := ⟨_, rfl⟩
    have s1 : W1.heap.size = w.heap.size + 1 := by rw [← hW1, World.size_alloc]
    have g1 : BoxG W1 w.heap.size L (n : Int) (.slice a es.length c) := by rw [← hW1]; exact BoxG.new _ _ _ _ _
    have b1 : Below w.heap.size w W1 := by rw [← hW1]; exact below1 _ _
    rw [hW1]
    clear hW1
    have g2 := BoxF.new W1 0 0 (.slice none 0 0) 41
    have g1 := g1.keep (below1 W1 (.cells #[.int .i64 0, .int .i64 0, .slice none 0 0] 41))
    have b2 := below_more b1 (Nat.le_refl _) (below1 W1 (.cells #[.int .i64 0, .int .i64 0, .slice none 0 0] 41))
    have s2 := World.size_alloc W1 (.cells #[.int .i64 0, .int .i64 0, .slice none 0 0] 41)
    generalize W1.alloc (.cells #[.int .i64 0, .int .i64 0, .slice none 0 0] 41) = W2 at *
    have r1 := BRow.made W2 n
    have g1 := g1.keep (below1 W2 (.cells (madeCells #[.bool false] n) 4))
    have g2 := g2.keep (below1 W2 (.cells (madeCells #[.bool false] n) 4))
    have b3 := below_more b2 (Nat.le_refl _) (below1 W2 (.cells (madeCells #[.bool false] n) 4))
    have s3 := World.size_alloc W2 (.cells (madeCells #[.bool false] n) 4)
    generalize W2.alloc (.cells (madeCells #[.bool false] n) 4) = W3 at *
    have r2 := IRow.made W3 n
    rw [show w.heap.size + 1 + 1 + 1 = W3.heap.size by omega, show w.heap.size + 1 + 1 = W2.heap.size by omega]
    rw [s1] at g2
    exact ⟨r1.keep (below1 _ _), r2, by omega, by omega, by omega, g1.keep (below1 _ _), g2.keep (below1 _ _), below_more b3 (Nat.le_refl _) (below1 _ _)⟩
  have T0' := Lib.hid T0
  obtain ⟨x1, x2, x3⟩ := id T0.box
  clear T0 hrd hst hok hsg
  go_enter Tryd.func64, Tryd.ntmps64
  go_wp2_with fail
  clear x1 x2 x3
  generalize ((((w.alloc (.cells #[.int .i64 L, .int .i64 (n : Int), .slice a es.length c] 41)).alloc (.cells #[.int .i64 0, .int .i64 0, .slice none 0 0] 41)).alloc (.cells (madeCells #[.bool false] n) 4)).alloc (.cells (madeCells #[.int .i64 0] n) 3)) = W0 at *
  obtain ⟨q, hq⟩ : ∃ q, w.heap.size + 1 + 1 + 1 = q := ⟨_, rfl⟩
  obtain ⟨p, hp⟩ : ∃ p, w.heap.size + 1 + 1 = p := ⟨_, rfl⟩
  rw [hq, hp] at T0'
  rw [hq, hp]
  clear hq hp
  go_loopg [20] st.length (fun k s20 wx => ∃ i : Nat, i + k = st.length ∧ s20 = .int .i64 (i : Int) ∧ P1 w n L (.slice a es.length c) p q (hasF (st.take i)) (numF (st.take i)) wx)
  case atStart => exact ⟨0, by omega, rfl, T0'.out.congr (fun _ _ => by rw [List.take_zero]; unfold hasF; simp) (fun _ _ => by rw [List.take_zero]; unfold numF; simp)⟩
  case round =>
    clear T0'
    obtain ⟨i, hin, rfl, T⟩ := hrel
    rcases gk with _ | k
    · obtain rfl : i = st.length := by omega
      rw [List.take_length] at T
      obtain ⟨g1, g2, g3⟩ := id T.box
      have hlt := Lib.hid (And.intro T.rp.lt T.rq.lt)
      obtain ⟨W1, hW1⟩ : ∃ W1, wr.alloc (.cells #[.int .i64 L, .int .i64 (st.length : Int), .slice none 0 0] 41) = W1 := ⟨_, rfl⟩
      obtain ⟨pb, hpb⟩ : ∃ pb, wr.heap.size = pb := ⟨_, rfl⟩
      have T2 : P2 w n L st.length (.slice a es.length c) p q pb (hasF st) (numF st) (.slice none 0 0) [] W1 := by
        have o := BoxF.new wr L (st.length : Int) (.slice none 0 0) 41
        have t := T.keep (below1 wr (.cells #[.int .i64 L, .int .i64 (st.length : Int), .slice none 0 0] 41))
        rw [hW1] at o t
        rw [hpb] at o hlt
        exact ⟨t, o, hlt.out, edges_nil _ _⟩
      have HW1 := Lib.hid hW1
      have HPB := Lib.hid hpb
      have HT2 := Lib.hid T2
      have gA : ∀ o, (wr.alloc o).cell? ⟨w.heap.size, 2, none⟩ = some (.slice a es.length c) := fun o => cell_keep g3 (below1 wr o)
      clear T T2 hlt hW1 hpb
      go_wp2_with fail
      rw [HW1.out, HPB.out]
      clear HW1 HPB g1 g2 g3 gA
      go_loopg [41] es.length (fun k s41 wx => ∃ (i : Nat) (s : Value), i + k = es.length ∧ s41 = .int .i64 (i : Int) ∧ P2 w n L st.length (.slice a es.length c) p q pb (hasF st) (numF st) s (partE st (es.take i)) wx)
      case atStart => exact ⟨0, _, by omega, rfl, HT2.out⟩
      case round =>
        clear HT2
        obtain ⟨i, s, hin, rfl, T⟩ := hrel
        rcases gk with _ | k
        · obtain rfl : i = es.length := by omega
          rw [List.take_length] at T
          obtain ⟨a9, c9, rfl⟩ := T.own.slice
          obtain ⟨g1, g2, g3⟩ := id T.out.1
          obtain ⟨⟨r1, r2, r3⟩, r4, r5, r6⟩ := id T.one.res
          have hl : w.heap.size + 1 < pb + 1 := by have := T.one.lp; have := T.hpb; omega
          have hE := Lib.hid (fun a b c => own_low (A := w.heap.size) (ownsRow_setCell_below (a := ⟨w.heap.size + 1, 2, none⟩) (ownsRow_setCell_below (a := ⟨w.heap.size + 1, 1, none⟩) (ownsRow_setCell_below (a := ⟨w.heap.size + 1, 0, none⟩) T.own hl a) hl b) hl c) (by omega))
          have hB := Lib.hid (fun a b c => ((T.one.b.setCell (p := ⟨w.heap.size + 1, 0, none⟩) (Nat.le_succ _) a).setCell (p := ⟨w.heap.size + 1, 1, none⟩) (Nat.le_succ _) b).setCell (p := ⟨w.heap.size + 1, 2, none⟩) (Nat.le_succ _) c)
          clear T hl
          go_wp2_with fail
          exact bodyPost_ret (v := .agg #[.int .i64 L, .int .i64 (st.length : Int), .slice a9 (partE st es).length c9]) (by simp [results, Tryd.results64, go_sem, r1, r2, r3]) rfl ⟨_, rfl, hE.out _ _ _, hB.out _ _ _⟩
        · obtain ⟨e, he⟩ : ∃ e, es[i]? = some e := ⟨_, List.getElem?_eq_getElem (by omega)⟩
          have hek := HOK.out e (List.mem_of_getElem? he)
          obtain ⟨b, off, c', hv, k1, k2, k3⟩ := (HRD.out.keep T.one.b).at he
          injection hv with e1 e2 e3
          subst e1
          subst e3
          have HT := take_snoc he
          have hps := partE_snoc st (es.take i) e
          rw [← HT] at hps
          obtain ⟨x, y, z⟩ := e
          rw [okE_iff] at hek
          dsimp only at hek k1 k2 k3 hps
          obtain ⟨hx0, hx1, -, -, hzz0, hzz1⟩ := hek
          obtain ⟨x, rfl⟩ : ∃ m : Nat, x = (m : Int) := ⟨x.toNat, by omega⟩
          obtain ⟨z, rfl⟩ : ∃ m : Nat, z = (m : Int) := ⟨z.toNat, by omega⟩
          have cx := T.one.rp.cell (i := x) (by omega)
          have cz := T.one.rp.cell (i := z) (by omega)
          have dx := T.one.rq.cell (i := x) (by omega)
          have dz := T.one.rq.cell (i := z) (by omega)
          have o1 := below1 wr (.cells #[.int .i64 (x : Int), .int .i64 y, .int .i64 (z : Int)] 45)
          have T1 := T.keep o1
          have X1 := Box3.new wr (x : Int) y (z : Int) 45
          have cx1 := cell_keep cx o1
          have cz1 := cell_keep cz o1
          have j1 : (i : Int) < (es.length : Int) := by omega
          have j2 : (x : Int) < (n : Int) := by omega
          have j3 : (z : Int) < (n : Int) := by omega
          cases hfx : hasF st x with
          | false =>
            have hx : ¬ (x : Int) ∈ st := of_decide_eq_false hfx
            rw [if_neg (fun h => hx h.1), List.append_nil] at hps
            have T2 := Lib.hid T1
            rw [← hps] at T2
            rw [hfx] at cx cx1
            clear hfx T T1 HT hps e2 he hx0 hx1 hzz0 hzz1 hx o1 dx dz
            go_wp2_with fail
            go_roundg k
            case measure => omega
            case rel => exact ⟨i + 1, _, by omega, by go_num, T2.out⟩
          | true =>
            have hx : (x : Int) ∈ st := of_decide_eq_true hfx
            rw [hfx] at cx cx1
            cases hfz : hasF st z with
            | false =>
              have hz : ¬ (z : Int) ∈ st := of_decide_eq_false hfz
              rw [if_neg (fun h => hz h.2), List.append_nil] at hps
              have T2 := Lib.hid T1
              rw [← hps] at T2
              rw [hfz] at cz cz1
              clear hfx hfz T T1 HT hps e2 he hx0 hx1 hzz0 hzz1 hx hz o1 dx dz
              go_wp2_with fail
              go_roundg k
              case measure => omega
              case rel => exact ⟨i + 1, _, by omega, by go_num, T2.out⟩
            | true =>
              have hz : (z : Int) ∈ st := of_decide_eq_true hfz
              rw [if_pos ⟨hx, hz⟩] at hps
              rw [hfz] at cz cz1
              have hnx : numF st x = (st.idxOf (x : Int) : Int) := by unfold numF; rw [if_pos hx]
              have hnz : numF st z = (st.idxOf (z : Int) : Int) := by unfold numF; rw [if_pos hz]
              rw [hnx] at dx
              rw [hnz] at dz
              generalize st.idxOf (x : Int) = nx at *
              generalize st.idxOf (z : Int) = nz at *
              have dx1 := cell_keep dx o1
              have dz1 := cell_keep dz o1
              have hml := partE_len st (es.take i)
              rw [List.length_take] at hml
              go_upto_region 13 with fail
              obtain ⟨W1, hW1⟩ : ∃ W1, wr.alloc (.cells #[.int .i64 (x : Int), .int .i64 y, .int .i64 (z : Int)] 45) = W1 := ⟨_, rfl⟩
              obtain ⟨P0, hP0⟩ : ∃ P0, wr.heap.size = P0 := ⟨_, rfl⟩
              rw [hP0] at X1
              rw [hW1] at T1 X1 dx1 dz1 ⊢
              rw [hP0]
              obtain ⟨x1, x2, x3, -, -, -⟩ := id X1
              have TD := Lib.hid (T1.keep (Below.refl _ _).drew)
              obtain ⟨a9, c9, rfl⟩ := T1.own.slice
              obtain ⟨g1, g2, g3⟩ := id T1.out.1
              have hmm : (partE st (List.take i es)).length ≤ 1024 := by omega
              have HPS := Lib.hid hps
              have hown := TD.out.own
              unfold EdgesAt at hown
              have hsz : pb + 1 ≤ W1.heap.size := TD.out.out.lt
              have hPB := Lib.hid (show pb < P0 by rw [← hP0]; exact T.out.lt)
              have hOB := Lib.hid (show ∀ k, (Value.slice a9 (partE st (List.take i es)).length c9).ownBlock = some k → k < P0 from fun k e => by
                have h := (T.own.lt k e).2
                rw [← hP0]; exact h)
              obtain ⟨m, hm⟩ : ∃ m, (partE st (List.take i es)).length = m := ⟨_, rfl⟩
              have HM := Lib.hid hm
              rw [hm] at hown g3 hmm TD hOB
              clear hW1 hP0 k1 k2 k3 cx cz cx1 cz1 X1 T1 T HT hps hfx hfz hx hz e2 he hm o1 dx dz hml
              have hS : S5 P0 q x z y nx nz W1 := ⟨x1, x2, x3, dx1, dz1⟩
              have hl9 := hown.lt
              have hP9 : (Value.slice a9 m c9).ownBlock ≠ some P0 := fun e => by have := (hOB.out P0 e); omega
              have hq9 : (Value.slice a9 m c9).ownBlock ≠ some q := fun e => by have := (hl9 q e).1; have := TD.out.hpb; omega
              have hR : S6 P0 q x z y nx nz pb (.slice a9 m c9) W1.drew := ⟨hS, g3⟩
              have hRA : ∀ o, S6 P0 q x z y nx nz pb (.slice a9 m c9) (W1.alloc o).drew := fun o => ⟨hS.keep (below1 W1 o).drew, cell_keep g3 (below1 W1 o).drew⟩
              clear hl9
              -- region 13
              refine regionT (T := T2 18 18 (S6 P0 q x z y nx nz pb (.slice a9 m c9)) (S6 P0 q x z y nx nz pb (.slice a9 m c9))) hmx ?_
              refine take1 (i := 0) (v := ?_) rfl (by kernel_rfl) (by kernel_rfl) (by kernel_rfl) (by kernel_rfl) (by kernel_rfl) (by decide) (by decide) (fun _ _ _ h => h) (Or.inl ⟨by rfl, ?_⟩) hR hR ?_
              rotate_left
              · intro w hSw
                (try unfold S6 S5 at hSw)
                go_simp
                all_goals with_reducible rfl
              (try simp only [Act.put, List.setIfInBounds_toArray, List.set_cons_zero, List.set_cons_succ])
              refine take1 (i := 1) (v := ?_) rfl (by kernel_rfl) (by kernel_rfl) (by kernel_rfl) (by kernel_rfl) (by kernel_rfl) (by decide) (by decide) (fun _ _ _ h => h) (Or.inl ⟨by rfl, ?_⟩) hR hR ?_
              rotate_left
              · intro w hSw
                (try unfold S6 S5 at hSw)
                go_simp
                all_goals with_reducible rfl
              (try simp only [Act.put, List.setIfInBounds_toArray, List.set_cons_zero, List.set_cons_succ])
              refine take1 (i := 2) (v := ?_) rfl (by kernel_rfl) (by kernel_rfl) (by kernel_rfl) (by kernel_rfl) (by kernel_rfl) (by decide) (by decide) (fun _ _ _ h => h) (Or.inl ⟨by rfl, ?_⟩) hR hR ?_
              rotate_left
              · intro w hSw
                (try unfold S6 S5 at hSw)
                go_simp
                all_goals with_reducible rfl
              (try simp only [Act.put, List.setIfInBounds_toArray, List.set_cons_zero, List.set_cons_succ])
              refine take1 (i := 3) (v := ?_) rfl (by kernel_rfl) (by kernel_rfl) (by kernel_rfl) (by kernel_rfl) (by kernel_rfl) (by decide) (by decide) (fun _ _ _ h => h) (Or.inl ⟨by rfl, ?_⟩) hR hR ?_
              rotate_left
              · intro w hSw
                (try unfold S6 S5 at hSw)
                go_simp
                all_goals with_reducible rfl
              (try simp only [Act.put, List.setIfInBounds_toArray, List.set_cons_zero, List.set_cons_succ])
              refine take1 (i := 4) (v := ?_) rfl (by kernel_rfl) (by kernel_rfl) (by kernel_rfl) (by kernel_rfl) (by kernel_rfl) (by decide) (by decide) (fun _ _ _ h => h) (Or.inl ⟨by rfl, ?_⟩) hR hR ?_
              rotate_left
              · intro w hSw
                (try unfold S6 S5 at hSw)
                go_simp
                all_goals with_reducible rfl
              (try simp only [Act.put, List.setIfInBounds_toArray, List.set_cons_zero, List.set_cons_succ])
              refine take1 (i := 5) (v := ?_) rfl (by kernel_rfl) (by kernel_rfl) (by kernel_rfl) (by kernel_rfl) (by kernel_rfl) (by decide) (by decide) (fun _ _ _ h => h) (Or.inl ⟨by rfl, ?_⟩) hR hR ?_
              rotate_left
              · intro w hSw
                (try unfold S6 S5 at hSw)
                go_simp
                all_goals with_reducible rfl
              (try simp only [Act.put, List.setIfInBounds_toArray, List.set_cons_zero, List.set_cons_succ])
              refine take1 (i := 6) (v := ?_) rfl (by kernel_rfl) (by kernel_rfl) (by kernel_rfl) (by kernel_rfl) (by kernel_rfl) (by decide) (by decide) (fun _ _ _ h => h) (Or.inl ⟨by rfl, ?_⟩) hR hR ?_
              rotate_left
              · intro w hSw
                (try unfold S6 S5 at hSw)
                go_simp
                all_goals with_reducible rfl
              (try simp only [Act.put, List.setIfInBounds_toArray, List.set_cons_zero, List.set_cons_succ])
              refine take1 (i := 7) (v := ?_) rfl (by kernel_rfl) (by kernel_rfl) (by kernel_rfl) (by kernel_rfl) (by kernel_rfl) (by decide) (by decide) (fun _ _ _ h => h) (Or.inl ⟨by rfl, ?_⟩) hR hR ?_
              rotate_left
              · intro w hSw
                (try unfold S6 S5 at hSw)
                go_simp
                all_goals with_reducible rfl
              (try simp only [Act.put, List.setIfInBounds_toArray, List.set_cons_zero, List.set_cons_succ])
              refine take1 (i := 8) (v := ?_) rfl (by kernel_rfl) (by kernel_rfl) (by kernel_rfl) (by kernel_rfl) (by kernel_rfl) (by decide) (by decide) (fun _ _ _ h => h) (Or.inl ⟨by rfl, ?_⟩) hR hR ?_
              rotate_left
              · intro w hSw
                (try unfold S6 S5 at hSw)
                go_simp
                all_goals with_reducible rfl
              (try simp only [Act.put, List.setIfInBounds_toArray, List.set_cons_zero, List.set_cons_succ])
              refine take1 (i := 9) (v := ?_) rfl (by kernel_rfl) (by kernel_rfl) (by kernel_rfl) (by kernel_rfl) (by kernel_rfl) (by decide) (by decide) (fun _ _ _ h => h) (Or.inl ⟨by rfl, ?_⟩) hR hR ?_
              rotate_left
              · intro w hSw
                (try unfold S6 S5 at hSw)
                go_simp
                all_goals with_reducible rfl
              (try simp only [Act.put, List.setIfInBounds_toArray, List.set_cons_zero, List.set_cons_succ])
              refine take1 (i := 10) (v := ?_) rfl (by kernel_rfl) (by kernel_rfl) (by kernel_rfl) (by kernel_rfl) (by kernel_rfl) (by decide) (by decide) (fun _ _ _ h => h) (Or.inl ⟨by rfl, ?_⟩) hR hR ?_
              rotate_left
              · intro w hSw
                (try unfold S6 S5 at hSw)
                go_simp
                all_goals with_reducible rfl
              (try simp only [Act.put, List.setIfInBounds_toArray, List.set_cons_zero, List.set_cons_succ])
              refine take1 (i := 11) (v := ?_) rfl (by kernel_rfl) (by kernel_rfl) (by kernel_rfl) (by kernel_rfl) (by kernel_rfl) (by decide) (by decide) (fun _ _ _ h => h) (Or.inl ⟨by rfl, ?_⟩) hR hR ?_
              rotate_left
              · intro w hSw
                (try unfold S6 S5 at hSw)
                go_simp
                all_goals with_reducible rfl
              (try simp only [Act.put, List.setIfInBounds_toArray, List.set_cons_zero, List.set_cons_succ])
              refine take1 (i := 12) (v := ?_) rfl (by kernel_rfl) (by kernel_rfl) (by kernel_rfl) (by kernel_rfl) (by kernel_rfl) (by decide) (by decide) (fun _ _ _ h => h) (Or.inl ⟨by rfl, ?_⟩) hR hR ?_
              rotate_left
              · intro w hSw
                (try unfold S6 S5 at hSw)
                go_simp
                all_goals with_reducible rfl
              (try simp only [Act.put, List.setIfInBounds_toArray, List.set_cons_zero, List.set_cons_succ])
              refine take1 (i := 13) (v := ?_) rfl (by kernel_rfl) (by kernel_rfl) (by kernel_rfl) (by kernel_rfl) (by kernel_rfl) (by decide) (by decide) (fun _ _ _ h => h) (Or.inl ⟨by rfl, ?_⟩) hR hR ?_
              rotate_left
              · intro w hSw
                (try unfold S6 S5 at hSw)
                go_simp
                all_goals with_reducible rfl
              (try simp only [Act.put, List.setIfInBounds_toArray, List.set_cons_zero, List.set_cons_succ])
              refine take1 (i := 14) (v := ?_) rfl (by kernel_rfl) (by kernel_rfl) (by kernel_rfl) (by kernel_rfl) (by kernel_rfl) (by decide) (by decide) (fun _ _ _ h => h) (Or.inl ⟨by rfl, ?_⟩) hR hR ?_
              rotate_left
              · intro w hSw
                (try unfold S6 S5 at hSw)
                go_simp
                all_goals with_reducible rfl
              (try simp only [Act.put, List.setIfInBounds_toArray, List.set_cons_zero, List.set_cons_succ])
              refine stepT (i := 15) (by kernel_rfl) rfl (fun K hK => ?_)
              go_simp
              refine hK.out _ _ ⟨fun _ => hRA _, fun _ => hRA _⟩ ?_
              clear hK K
              (try simp only [Act.put, List.setIfInBounds_toArray, List.set_cons_zero, List.set_cons_succ])
              refine stepT (i := 16) (by kernel_rfl) rfl (fun K hK => ?_)
              refine step_append_lies _ (by rfl) (.tmp 58) (.tmp 72) 39 (by rfl) (pb + 1) 45 i0 (.agg #[.int .i64 0, .int .i64 0, .int .i64 0]) 3 24 Tryd.underlying39 hi hz0 hz1 hz2 rfl (by decide) (.slice a9 m c9) m (ecl (partE st (List.take i es))) (by rfl) (hown.alloc _) ⟨W1.drew.heap.size, 0, none⟩ 1 1 [.int .i64 (nx : Int), .int .i64 y, .int .i64 (nz : Int)] (by rfl) (by rfl) (cell_three_new _ _ _ _ _) (by intro u hu; simp at hu; rcases hu with rfl | rfl | rfl <;> rfl) (by decide) (by unfold maxLen; omega) (by omega) (by show pb + 1 ≤ (W1.alloc _).heap.size; rw [World.size_alloc]; omega) _ rfl ?_
              intro g9 d9 W4 r1 r2 r3 r4
              have hS4 := hS.grown r2 hP9 hq9
              have hA := P2.app' TD.out HM.out r2 r1
              obtain ⟨hA1, hA2, hA3⟩ := hA
              have hA4 := Lib.hid hA1
              have hR4 : S6 P0 q x z y nx nz pb (.slice a9 m c9) W4 := ⟨hS4, hA2⟩
              clear hA1 r1 r2 r3 r4
              refine hK.out _ _ ⟨fun _ => hR4, fun _ => hR4⟩ ?_
              clear hK K
              (try simp only [Act.put, List.setIfInBounds_toArray, List.set_cons_zero, List.set_cons_succ])
              refine take1 (i := 17) (v := ?_) rfl (by kernel_rfl) (by kernel_rfl) (by kernel_rfl) (by kernel_rfl) (by kernel_rfl) (by decide) (by decide) (fun _ _ _ h => h) (Or.inl ⟨by rfl, ?_⟩) hR4 hR4 ?_
              rotate_left
              · intro w hSw
                (try unfold S6 S5 at hSw)
                go_simp
                all_goals with_reducible rfl
              (try simp only [Act.put, List.setIfInBounds_toArray, List.set_cons_zero, List.set_cons_succ])
              refine stepT (i := 18) (by kernel_rfl) rfl (fun K hK => ?_)
              go_simp
              refine hK.out _ _ ⟨fun h => absurd h (by decide), fun h => absurd h (by decide)⟩ ?_
              clear hK K
              (try simp only [Act.put, List.setIfInBounds_toArray, List.set_cons_zero, List.set_cons_succ])
              refine doneT (by kernel_rfl) ?_ _
              -- behind region 13
              go_wp2_with fail
              go_roundg k
              case measure => omega
              case rel => exact ⟨i + 1, _, by omega, by go_num, by rw [HPS.out]; exact hA4.out⟩
    · obtain ⟨x, hx⟩ : ∃ x, st[i]? = some x := ⟨_, List.getElem?_eq_getElem (by omega)⟩
      obtain ⟨hx0, hx1⟩ := HSG.out.bd x (List.mem_of_getElem? hx)
      have hnm := asc_not_mem HSG.out.asc hx
      have HT := take_snoc hx
      obtain ⟨x, rfl⟩ : ∃ m : Nat, x = (m : Int) := ⟨x.toNat, by omega⟩
      obtain ⟨b2, o2, c3, hv, k1⟩ := (HST.out.keep T.b).at hx
      injection hv with e1 e2 e3
      subst e1
      subst e3
      have hl : (st.take i).length = i := by rw [List.length_take]; omega
      have T2 := Lib.hid (((T.setP x true).setQ x (i : Int)).congr (f' := hasF (st.take (i + 1))) (g' := numF (st.take (i + 1)))
        (fun j _ => by rw [HT, hasF_snoc]) (fun j _ => by rw [HT, numF_snoc hnm, hl]))
      have cp := T.rp.cell (i := x) (by omega)
      have fp := T.rp.frozen x
      have cq : ∀ v, (wr.setCell ⟨p, x, none⟩ v).cell? ⟨q, x, none⟩ = some (.int .i64 (numF (st.take i) x)) := fun v => by
        rw [World.cell?_setCell_far _ _ _ _ (by exact T.ne)]; exact T.rq.cell (by omega)
      have fq := T.rq.frozen x
      have j1 : (i : Int) < (st.length : Int) := by omega
      have j2 : (x : Int) < (n : Int) := by omega
      generalize hasF (st.take i) x = u1 at cp
      generalize numF (st.take i) x = u2 at cq
      clear T hx hx0 hx1 hnm HT e2 hl
      go_wp2_with fail
      go_roundg k
      case measure => omega
      case rel => exact ⟨i + 1, by omega, by go_num, T2.out⟩
end Go.Proofs.YtkpmapeapiodcaaDoor

namespace Go.Proofs.YtkpmapeapiodcaaDoor
open Go.RowKit
set_option linter.unusedSimpArgs false
set_option linter.unusedVariables false

def KB (w : World) (L S : Int) (v : Value) (W : World) : Prop := BoxG W w.heap.size L S v ∧ BoxF W (w.heap.size + 1) 0 0 (.slice none 0 0) ∧ Below w.heap.size w W ∧ w.heap.size + 2 ≤ W.heap.size
section
variable {w W W' : World} {L S : Int} {v : Value}
theorem KB.keep (h : KB w L S v W) (hb : Below W.heap.size W W') : KB w L S v W' := ⟨h.1.keep hb, h.2.1.keep hb, h.2.2.1.trans (hb.mono h.2.2.1.size), Nat.le_trans h.2.2.2 hb.size⟩
theorem KB.bel (h : KB w L S v W) : Below w.heap.size w W := h.2.2.1
theorem KB.start (w : World) (L S : Int) (v : Value) (t : TypeId) : KB w L S v ((w.alloc (.cells #[.int .i64 L, .int .i64 S, v] t)).alloc (.cells #[.int .i64 0, .int .i64 0, .slice none 0 0] t)) := by
  have g1 := BoxG.new w L S v t
  have b1 := below1 w (.cells #[.int .i64 L, .int .i64 S, v] t)
  have s1 := World.size_alloc w (.cells #[.int .i64 L, .int .i64 S, v] t)
  generalize w.alloc (.cells #[.int .i64 L, .int .i64 S, v] t) = W1 at *
  have g2 := BoxF.new W1 0 0 (.slice none 0 0) t
  rw [s1] at g2
  exact ⟨g1.keep (below1 _ _), g2, below_more b1 (Nat.le_refl _) (below1 _ _), by rw [World.size_alloc]; omega⟩
end
theorem edges_over {W : World} {A b : Nat} {v : Value} {es : List E3} (h : EdgesAt W A v es) (hb : b < A) (x y z : Value) {B : Nat} (hB : B ≤ A) : EdgesAt (((W.setCell ⟨b, 0, none⟩ x).setCell ⟨b, 1, none⟩ y).setCell ⟨b, 2, none⟩ z) B v es :=
  own_low (ownsRow_setCell_below (ownsRow_setCell_below (ownsRow_setCell_below h (a := ⟨b, 0, none⟩) hb _) (a := ⟨b, 1, none⟩) hb _) (a := ⟨b, 2, none⟩) hb _) hB
theorem below_over {w W : World} {B b : Nat} (h : Below B w W) (hb : B ≤ b) (x y z : Value) : Below B w (((W.setCell ⟨b, 0, none⟩ x).setCell ⟨b, 1, none⟩ y).setCell ⟨b, 2, none⟩ z) :=
  ((h.setCell (p := ⟨b, 0, none⟩) hb _).setCell (p := ⟨b, 1, none⟩) hb _).setCell (p := ⟨b, 2, none⟩) hb _
end Go.Proofs.YtkpmapeapiodcaaDoor

namespace Go.Proofs.YtkpmapeapiodcaaDoor
open Go.RowKit Go.Lib
set_option linter.unusedSimpArgs false
set_option linter.unusedVariables false

def eqE (x y : E3) : Bool := x.1 == y.1 && x.2.1 == y.2.1 && x.2.2 == y.2.2
theorem eqE_iff {x y : E3} : eqE x y = true ↔ x = y := by
  unfold eqE
  rw [Bool.and_eq_true, Bool.and_eq_true, beq_iff_eq, beq_iff_eq, beq_iff_eq]
  constructor
  · rintro ⟨⟨h1, h2⟩, h3⟩; exact e3_ext h1 h2 h3
  · rintro rfl; exact ⟨⟨rfl, rfl⟩, rfl⟩
theorem neqE : NeqAt Tryd.prog 45 (fun x => .agg (encE x).toArray) eqE := by
  refine ⟨fun x y w => ?_, GuardAt.agg _ (by kernel_rfl)⟩
  have u3 := Tryd.underlying3
  have a3 := Tryd.isAgg3
  have z3 := Tryd.sizeOf3
  have hS : Tryd.prog.underlying 45 = some (.struct (Tryd.prog.fieldsOf 45)) := by kernel_rfl
  have hp : Tryd.prog.stoodInHeld 45 = false := by kernel_rfl
  simp only [encE]
  rw [run_neq_struct, show (10000 : Nat) = 9999 + 1 from rfl, run_equalIn_agg w 9999 45 _ _ hS hp]
  simp only [Program.fieldsOf, Tryd.underlying45]
  go_simp
  unfold eqE
  by_cases h1 : x.1 = y.1 <;> by_cases h2 : x.2.1 = y.2.1 <;> by_cases h3 : x.2.2 = y.2.2 <;> simp [h1, h2, h3]
theorem encE_getElem (e : E3) {i : Nat} {v : Value} (h : (encE e)[i]? = some v) : (i = 0 ∧ v = .int .i64 e.1) ∨ (i = 1 ∧ v = .int .i64 e.2.1) ∨ (i = 2 ∧ v = .int .i64 e.2.2) := by
  unfold encE at h
  match i, h with
  | 0, h => simp at h; exact .inl ⟨rfl, h.symm⟩
  | 1, h => simp at h; exact .inr (.inl ⟨rfl, h.symm⟩)
  | 2, h => simp at h; exact .inr (.inr ⟨rfl, h.symm⟩)
  | (n + 3), h => simp at h
theorem EdgesRd.cells {W : World} {v : Value} {es : List E3} (h : EdgesRd W v es) (h0 : 0 < es.length) : ∃ b off c, v = .slice (some ⟨b, off, none⟩) es.length c ∧ ∀ j, j < es.length → ∀ i u, (encE es[j]!)[i]? = some u → W.cell? ⟨b, off + j * 3 + i, none⟩ = some u := by
  obtain ⟨b, off, c, rfl, -⟩ := h.at (List.getElem?_eq_getElem h0)
  refine ⟨b, off, c, rfl, fun j hj i u hu => ?_⟩
  obtain ⟨b2, off2, c2, hv, k1, k2, k3⟩ := h.at (List.getElem?_eq_getElem hj)
  injection hv with e1 e2 e3
  injection e1 with e1
  injection e1 with e1 e4
  subst e1
  subst e4
  rw [getElem!_pos es j hj] at hu
  rcases encE_getElem _ hu with ⟨rfl, rfl⟩ | ⟨rfl, rfl⟩ | ⟨rfl, rfl⟩
  · exact k1
  · exact k2
  · exact k3
def sameG (L S : Int) (es : List E3) (L' S' : Int) (fs : List E3) : Bool := decide (L = L' ∧ S = S' ∧ es = fs)
end Go.Proofs.YtkpmapeapiodcaaDoor
