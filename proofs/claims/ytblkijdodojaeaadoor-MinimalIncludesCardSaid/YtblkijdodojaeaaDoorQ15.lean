/- What subset.build returns: the graph of sets, or the error that there are too many. Conditions: a valid graph, a set of its states that is not empty. What subset.Build and From return. Conditions: the edges can be read; the library's table reads as its text lays it. Plain facts on how sets were found: the first edge to a set comes from one that was found before; the labels that lead to a set. No condition. -/
import Derived.Test.YtblkijdodojaeaaDoorQ14

namespace Go.Proofs.YtblkijdodojaeaaDoor
open Go.RowKit Go.Maps
set_option linter.unusedSimpArgs false
set_option linter.unusedVariables false

/-- All members are states. -/
def BN (n : Nat) (l : List Nat) : Prop := ∀ S ∈ l, ∀ i, S.testBit i = true → i < n
theorem stN_small {es : List E3} {L : Int} {n S l : Nat} (hok : ∀ e ∈ es, okE L (n : Int) e = true) : ∀ i, (stN es S l).testBit i = true → i < n := fun i h => by
  rw [stN_bit, Bool.and_eq_true, List.any_eq_true] at h
  obtain ⟨_, e, he, h2⟩ := h
  have h3 := okE_iff.1 (hok e he)
  simp only [Bool.and_eq_true, beq_iff_eq, decide_eq_true_iff] at h2
  omega
theorem visN_small {es : List E3} {L : Int} {n i l : Nat} {b : Bs} (hok : ∀ e ∈ es, okE L (n : Int) e = true) (h : BN n b.1) : BN n (visN es i b l).1 := by
  by_cases h0 : stN es (b.1.getD i 0) l = 0
  · rw [visN_none h0]; exact h
  · by_cases h1 : stN es (b.1.getD i 0) l ∈ b.1
    · rw [visN_old h0 h1]; exact h
    · rw [visN_new h0 h1]
      intro S hS
      rw [List.mem_append, List.mem_singleton] at hS
      rcases hS with hS | rfl
      · exact h S hS
      · exact stN_small hok
theorem rowN_small {es : List E3} {L : Int} {n i : Nat} {b : Bs} (hok : ∀ e ∈ es, okE L (n : Int) e = true) (h : BN n b.1) : ∀ c, BN n (rowN es i b c).1
  | 0 => h
  | c + 1 => by rw [rowN_succ]; exact visN_small hok (rowN_small hok h c)
theorem visN_add {es : List E3} {i l T : Nat} {b : Bs} (hT : stN es (b.1.getD i 0) l = T) (h : T ≠ 0) : visN es i b l = (addN b.1 T, b.2 ++ [((i : Int), (l : Int), ((b.1.idxOf T : Nat) : Int))]) := by
  subst hT
  unfold visN addN
  rw [if_neg h]
/-- What is told where there is no error. -/
def onOk (err La : Int) : Int := if err = 0 then La else 0
/-- A graph of sets, and the sets; or an error. -/
def SetsOut (w : World) (La err : Int) (b : Bs) (e : Ending) (w' : World) : Prop :=
  ∃ hv lv, e = .returned (.tuple #[grV (onOk err La) ((b.1.length : Nat) : Int) hv, lv, .int .i64 err]) ∧ EdgesAt w' w.heap.size hv b.2 ∧ RowsAt w' w.heap.size lv b.1 ∧ Below w.heap.size w w'
def bErr : Option Bs → Int
  | none => 4
  | some _ => 0
def bSets : Option Bs → Bs
  | none => ([], [])
  | some b => b
abbrev BuildOut (w : World) (L : Nat) (r : Option Bs) : Ending → World → Prop := SetsOut w (L : Int) (bErr r) (bSets r)
@[go_sem] theorem run_store_func {P : Program} {w : World} (a : Addr) (m : Mode) (f : Fn) (ts cs : Array Value) : (store a (.func f ts cs) m).run P w = stored P w a (.func f ts cs) m := run_store P w a _ m rfl
theorem sets_one (W : World) (S : Nat) : (W.alloc (.cells #[u64v S] 75)).ownsRow W.heap.size 75 1 (.slice (some ⟨W.heap.size, 0, none⟩) 1 1) [S].length (setz [S]) :=
  ⟨rfl, .inr ⟨W.heap.size, 1, #[u64v S], rfl, Nat.le_refl _, heap_alloc_new W _, Nat.le_refl _, by unfold maxLen; omega, rfl, rfl⟩⟩
abbrev W6 (w1 : World) (S Bm : Nat) (La : Int) (p8 p9 B9 : Nat) : World :=
  (((((w1.alloc (.cells #[.map (some Bm)] 116)).alloc (.cells #[u64v S] 75)).alloc (.cells #[.slice (some ⟨B9, 0, none⟩) 1 1] 117)).alloc
    (.cells #[.func (.func 79) #[] #[.pointer (some ⟨p8, 0, none⟩), .pointer (some ⟨p9, 0, none⟩)]] 119)).alloc (.cells #[.int .i64 La, .int .i64 0, .slice none 0 0] 24)).alloc (.cells #[.int .i64 0] 3)
theorem vb_start {Wm w1 : World} {S q : Nat} {La : Int} (hq : w1.heap.size = q) (hm : w1.ownsMap Tryd.prog 75 (plainElem Tryd.prog 3) Wm.heap.size 1 (mapD [S])) (hg : (Wm.alloc (.map #[] 0)).grownBy w1 (some Wm.heap.size)) :
    VB Wm.heap.size q (q + 1 + 1) (q + 1 + 1 + 1) (q + 1 + 1 + 1 + 1) (q + 1 + 1 + 1 + 1 + 1) Wm.heap.size La 0 ([S], []) Wm (W6 w1 S Wm.heap.size La q (q + 1 + 1) (q + 1)) ∧ PB Wm.heap.size q (q + 1 + 1) (q + 1 + 1 + 1) (q + 1 + 1 + 1 + 1) (q + 1 + 1 + 1 + 1 + 1) Wm.heap.size := by
  have hs : Wm.heap.size + 1 ≤ q := by have := hg.size; rw [World.size_alloc] at this; omega
  have hb1 : Below Wm.heap.size Wm w1 := ((Below.refl _ Wm).alloc (Nat.le_refl _) _).grown hg (by rw [World.size_alloc]; omega) (fun k e => by injection e with e; omega)
  refine ⟨?_, ⟨by omega, by omega, by omega, by omega, by omega, Nat.le_refl _⟩⟩
  unfold W6
  obtain ⟨A1, hA1⟩ : ∃ A1, w1.alloc (.cells #[.map (some Wm.heap.size)] 116) = A1 := ⟨_, rfl⟩
  have z1 : A1.heap.size = q + 1 := by rw [← hA1, World.size_alloc, hq]
  have b1 : Boxed A1 q 116 (.map (some Wm.heap.size)) := by rw [← hA1, ← hq]; exact Boxed.new _ _ _
  have m1 := hm.alloc (.cells #[.map (some Wm.heap.size)] 116)
  have k1 := hb1.alloc (by omega) (.cells #[.map (some Wm.heap.size)] 116)
  rw [hA1] at m1 k1 ⊢
  have s2 := sets_one A1 S
  obtain ⟨A2, hA2⟩ : ∃ A2, A1.alloc (.cells #[u64v S] 75) = A2 := ⟨_, rfl⟩
  have z2 : A2.heap.size = q + 1 + 1 := by rw [← hA2, World.size_alloc, z1]
  have b2 := b1.alloc (.cells #[u64v S] 75)
  have m2 := m1.alloc (.cells #[u64v S] 75)
  have k2 := k1.alloc (by omega) (.cells #[u64v S] 75)
  rw [z1] at s2
  rw [hA2] at m2 k2 b2 s2 ⊢
  obtain ⟨A3, hA3⟩ : ∃ A3, A2.alloc (.cells #[.slice (some ⟨q + 1, 0, none⟩) 1 1] 117) = A3 := ⟨_, rfl⟩
  have z3 : A3.heap.size = q + 1 + 1 + 1 := by rw [← hA3, World.size_alloc, z2]
  have b3 := b2.alloc (.cells #[.slice (some ⟨q + 1, 0, none⟩) 1 1] 117)
  have m3 := m2.alloc (.cells #[.slice (some ⟨q + 1, 0, none⟩) 1 1] 117)
  have k3 := k2.alloc (by omega) (.cells #[.slice (some ⟨q + 1, 0, none⟩) 1 1] 117)
  have s3 := s2.alloc (.cells #[.slice (some ⟨q + 1, 0, none⟩) 1 1] 117)
  have c3 : Boxed A3 (q + 1 + 1) 117 (.slice (some ⟨q + 1, 0, none⟩) 1 1) := by rw [← hA3, ← z2]; exact Boxed.new _ _ _
  rw [hA3] at m3 k3 b3 s3 ⊢
  obtain ⟨o4, ho4⟩ : ∃ o4, Obj.cells #[Value.func (.func 79) #[] #[.pointer (some ⟨q, 0, none⟩), .pointer (some ⟨q + 1 + 1, 0, none⟩)]] 119 = o4 := ⟨_, rfl⟩
  obtain ⟨A4, hA4⟩ : ∃ A4, A3.alloc o4 = A4 := ⟨_, rfl⟩
  have z4 : A4.heap.size = q + 1 + 1 + 1 + 1 := by rw [← hA4, World.size_alloc, z3]
  have b4 := b3.alloc o4
  have m4 := m3.alloc o4
  have k4 := k3.alloc (by omega) o4
  have s4 := s3.alloc o4
  have c4 := c3.alloc o4
  have d4 : Boxed A4 (q + 1 + 1 + 1) 119 (.func (.func 79) #[] #[.pointer (some ⟨q, 0, none⟩), .pointer (some ⟨q + 1 + 1, 0, none⟩)]) := by rw [← hA4, ← ho4, ← z3]; exact Boxed.new _ _ _
  rw [ho4]
  rw [hA4] at m4 k4 b4 s4 c4 ⊢
  obtain ⟨A5, hA5⟩ : ∃ A5, A4.alloc (.cells #[.int .i64 La, .int .i64 0, .slice none 0 0] 24) = A5 := ⟨_, rfl⟩
  have z5 : A5.heap.size = q + 1 + 1 + 1 + 1 + 1 := by rw [← hA5, World.size_alloc, z4]
  have b5 := b4.alloc (.cells #[.int .i64 La, .int .i64 0, .slice none 0 0] 24)
  have m5 := m4.alloc (.cells #[.int .i64 La, .int .i64 0, .slice none 0 0] 24)
  have k5 := k4.alloc (by omega) (.cells #[.int .i64 La, .int .i64 0, .slice none 0 0] 24)
  have s5 := s4.alloc (.cells #[.int .i64 La, .int .i64 0, .slice none 0 0] 24)
  have c5 := c4.alloc (.cells #[.int .i64 La, .int .i64 0, .slice none 0 0] 24)
  have d5 := d4.alloc (.cells #[.int .i64 La, .int .i64 0, .slice none 0 0] 24)
  have g5 : GBox A5 (q + 1 + 1 + 1 + 1) (.int .i64 La) (.int .i64 0) (.slice none 0 0) := by rw [← hA5, ← z4]; exact GBox.new _ _ _ _
  rw [hA5] at m5 k5 b5 s5 c5 d5 ⊢
  have f6 : Boxed (A5.alloc (.cells #[.int .i64 0] 3)) (q + 1 + 1 + 1 + 1 + 1) 3 (.int .i64 ((0 : Nat) : Int)) := by rw [← z5]; exact Boxed.new _ _ _
  exact ⟨k5.alloc (by omega) _, ⟨b5.alloc _, m5.alloc _, _, c5.alloc _, own_low (s5.alloc _) (by omega)⟩, d5.alloc _, f6, _, g5.keep (below1 A5 _), edges_nil _ _⟩
/-- Another round's variable. -/
theorem VB.round {lo p8 p9 p10 p11 p12 p13 Bm i : Nat} {La : Int} {b : Bs} {Wm W W' : World} (h : VB lo p8 p9 p10 p11 p12 Bm La i b Wm W) (hlo : lo ≤ W.heap.size) (hb : Below W.heap.size W W') {j : Nat} (h13 : Boxed W' p13 3 (.int .i64 (j : Int))) : VB lo p8 p9 p10 p11 p13 Bm La j b Wm W' := by
  have h2 := h.keep hlo hb
  exact ⟨h2.bl, h2.ns, h2.x10, h13, h2.gr⟩
theorem VB.step {lo p8 p9 p10 p11 p12 Bm i : Nat} {La : Int} {b : Bs} {Wm W : World} (h : VB lo p8 p9 p10 p11 p12 Bm La i b Wm W) (hp : PB lo p8 p9 p10 p11 p12 Bm) (j : Nat) : VB lo p8 p9 p10 p11 p12 Bm La j b Wm (W.setCell ⟨p12, 0, none⟩ (.int .i64 (j : Int))) := by
  have hg := grownBy_setCell' W p12 (.int .i64 (j : Int))
  have ne : ∀ {p : Nat} {t : TypeId} {u : Value}, Boxed W p t u → t ≠ 3 → some p ≠ some p12 := fun {p t u} hb ht e => by
    injection e with e
    subst e
    have h5 := (show W.heap[p]? = _ from hb).symm.trans h.x12
    simp at h5
    exact ht h5.2
  obtain ⟨v, h1, h2⟩ := h.gr
  refine ⟨h.bl.setCell hp.l12 _, h.ns.grown hg (fun k e => by injection e with e; subst e; exact ⟨_, _, _, h.x12, by decide, by decide, by decide⟩), h.x10.kept hg (ne h.x10 (by decide)), h.x12.set _, v, (hg.block p11 h1.lt (fun e => by
    injection e with e
    subst e
    have h5 := (show W.heap[p11]? = _ from h1).symm.trans h.x12
    simp at h5)).trans h1, World.ownsRow.kept h2 hg ?_⟩
  cases hv : v.ownBlock with
  | none => exact .inl rfl
  | some g =>
    refine .inr (fun e => ?_)
    obtain ⟨c, fr, h3⟩ := row_cells h2 hv
    injection e with e
    subst e
    have h5 := h3.symm.trans h.x12
    simp at h5
def SBx (p9 p11 : Nat) (x y z u : Value) (W : World) : Prop := W.cell? ⟨p11, 0, none⟩ = some x ∧ W.cell? ⟨p11, 1, none⟩ = some y ∧ W.cell? ⟨p11, 2, none⟩ = some z ∧ W.cell? ⟨p9, 0, none⟩ = some u
theorem sb_far {p9 p11 b : Nat} {x y z u : Value} {W : World} (h : SBx p9 p11 x y z u W) (h9 : b ≠ p9) (h11 : b ≠ p11) (x1 x2 x3 : Value) : SBx p9 p11 x y z u (((W.setCell ⟨b, 0, none⟩ x1).setCell ⟨b, 1, none⟩ x2).setCell ⟨b, 2, none⟩ x3) := by
  have f : ∀ (q o : Nat), b ≠ q → (((W.setCell ⟨b, 0, none⟩ x1).setCell ⟨b, 1, none⟩ x2).setCell ⟨b, 2, none⟩ x3).cell? ⟨q, o, none⟩ = W.cell? ⟨q, o, none⟩ := fun q o hq => by
    rw [World.cell?_setCell_far _ _ _ _ (by exact hq), World.cell?_setCell_far _ _ _ _ (by exact hq), World.cell?_setCell_far _ _ _ _ (by exact hq)]
  exact ⟨(f p11 0 h11).trans h.1, (f p11 1 h11).trans h.2.1, (f p11 2 h11).trans h.2.2.1, (f p9 0 h9).trans h.2.2.2⟩
set_option maxRecDepth 100000 in
set_option maxHeartbeats 12800000 in
theorem build_any (L n : Nat) (es : List E3) (v : Value) (S : Nat) (w : World) (hrd : EdgesRd w v es) (hvg : VG (L : Int) (n : Int) es) (h0 : S ≠ 0) (hS : S < 18446744073709551616) (hbit : ∀ i, S.testBit i = true → i < n) (hT : TabD w) :
    Calls Tryd.prog 47 #[grV (L : Int) (n : Int) v, u64v S] w (BuildOut w L (builtN es L S)) := by
  have hmm := @run_makeMap Tryd.prog
  have hmx : Tryd.prog.follows .mixedOrders = true := by kernel_rfl
  have hn : n ≤ 64 := by have := hvg.s2; omega
  have hL : L ≤ 256 := by have := hvg.l2; omega
  have hkey : keyOf Tryd.prog 75 (.int .u64 (S : Int)) = some (keyN S) := keyOf_int_mk Tryd.underlying75 (keyN_wf hS)
  have HOK := Lib.hid hvg.ok
  have HT := Lib.hid hT
  have HI0 := Lib.hid (InvN.start es L S h0 hS)
  have HBN := Lib.hid (show BN n [S] from fun T hT => by rw [List.mem_singleton] at hT; subst hT; exact hbit)
  obtain ⟨W0, hW0⟩ : ∃ W0, ((w.alloc (.cells #[.int .i64 (L : Int), .int .i64 (n : Int), v] 24)).alloc (.cells #[.int .i64 0, .int .i64 0, .slice none 0 0] 24)) = W0 := ⟨_, rfl⟩
  have b0 : Below w.heap.size w W0 := by rw [← hW0]; exact below_more (below1 w _) (Nat.le_refl _) (below1 _ _)
  have hmv := moves_any L n es v W0 (hrd.keep (by exact b0)) hL hn hvg.ok hvg.len
  have HMV := Lib.hid hmv
  have G0 := Lib.hid (BoxG.new w (L : Int) (n : Int) v 24)
  have hz0 : W0.heap.size = w.heap.size + 2 := by rw [← hW0, World.size_alloc, World.size_alloc]
  have G1 := Lib.hid (show GBox W0 (w.heap.size + 1) (.int .i64 0) (.int .i64 0) (.slice none 0 0) by
    rw [← hW0]
    have h := GBox.new (w.alloc (.cells #[.int .i64 (L : Int), .int .i64 (n : Int), v] 24)) (.int .i64 0) (.int .i64 0) (.slice none 0 0)
    rw [World.size_alloc] at h
    exact h)
  have G2 := Lib.hid (show BoxG W0 w.heap.size (L : Int) (n : Int) v by rw [← hW0]; exact G0.out.keep (below1 _ _))
  obtain ⟨R, hR⟩ : ∃ R, builtN es L S = R := ⟨_, rfl⟩
  have HR0 := Lib.hid hR
  rw [hR]
  obtain ⟨a, c, rfl⟩ := hrd.form
  obtain ⟨x1, x2, x3⟩ := G2.out
  have B0 := Lib.hid b0
  clear hrd hvg h0 hbit hT hmv hR b0 G0
  go_enter Tryd.func47, Tryd.ntmps47
  go_upto_region 2 with (go_at_call 78; (with_reducible refine HMV.out.mono ?_); rintro e Wm ⟨mv, rfl, hmv, bm⟩)
  clear x1 x2 x3 hW0
  have BM := Lib.hid (below_more B0.out (Nat.le_refl _) bm)
  have G3 := Lib.hid (G2.out.keep bm)
  have G4 := Lib.hid (G1.out.keep bm)
  have HM := Lib.hid hmv
  have HTM := Lib.hid (HT.out.keep BM.out)
  obtain ⟨b7, rfl, -⟩ := hmv
  have hzm : w.heap.size + 2 ≤ Wm.heap.size := by have := bm.size; omega
  clear HMV B0 G1 G2 bm HT hz0
  have hown0 : (Wm.alloc (.map #[] 0)).ownsMap Tryd.prog 75 (plainElem Tryd.prog 3) Wm.heap.size 0 (mapD []) := World.ownsMap_made Wm _ _ _
  go_upto_region 3 with (refine wpList_insert_own _ rfl _ _ _ 116 rfl 75 3 Tryd.keyLaw Tryd.underlying116 _ Wm.heap.size 0 _ rfl hown0 (by unfold maxLen; omega) _ _ _ rfl rfl hkey _ [] (plainElem_int Tryd.underlying3 (by decide)) ?_; intro w1 hown1 hgrow1)
  obtain ⟨hvb, hpb⟩ := vb_start (La := (L : Int)) rfl (show w1.ownsMap Tryd.prog 75 (plainElem Tryd.prog 3) Wm.heap.size 1 (mapD [S]) from hown1) hgrow1
  have HP := Lib.hid hpb
  have HVB := Lib.hid hvb
  have hw1 : ∀ {k : Nat}, k < Wm.heap.size → w1.heap[k]? = Wm.heap[k]? := fun {k} hk => (hgrow1.block k (by rw [World.size_alloc]; omega) (fun e => by injection e with e; omega)).trans (Below.heap_alloc _ _ _ hk)
  have y0 : w1.cell? ⟨w.heap.size, 0, none⟩ = some (.int .i64 (L : Int)) := (World.cell?_of_block (w := Wm) (a := ⟨w.heap.size, 0, none⟩) (hw1 (show w.heap.size < Wm.heap.size by omega))).trans G3.out.1
  have y1 := cell_keep y0 (below_more (below_more (below_more (below1 w1 (.cells #[.map (some Wm.heap.size)] 116)) (Nat.le_refl _) (below1 _ (.cells #[u64v S] 75))) (Nat.le_refl _) (below1 _ (.cells #[.slice (some ⟨w1.heap.size + 1, 0, none⟩) 1 1] 117))) (Nat.le_refl _)
    (below1 _ (.cells #[.func (.func 79) #[] #[.pointer (some ⟨w1.heap.size, 0, none⟩), .pointer (some ⟨w1.heap.size + 1 + 1, 0, none⟩)]] 119)))
  clear hvb hpb hown1 hgrow1 hown0 hw1 y0
  go_wp2_with fail
  have hsq : Wm.heap.size ≤ w1.heap.size := HP.out.l8
  have hsx : Wm.heap.size ≤ (W6 w1 S Wm.heap.size (L : Int) w1.heap.size (w1.heap.size + 1 + 1) (w1.heap.size + 1)).heap.size := HVB.out.bl.size
  clear y1
  change Code.wp _ _ _ _ (W6 w1 S Wm.heap.size (L : Int) w1.heap.size (w1.heap.size + 1 + 1) (w1.heap.size + 1))
  generalize W6 w1 S Wm.heap.size (L : Int) w1.heap.size (w1.heap.size + 1 + 1) (w1.heap.size + 1) = X0 at *
  obtain ⟨p8, h8⟩ : ∃ p8, w1.heap.size = p8 := ⟨_, rfl⟩
  rw [h8] at HP HVB ⊢
  obtain ⟨p9, h9⟩ : ∃ p9, p8 + 1 + 1 = p9 := ⟨_, rfl⟩
  rw [h9] at HP HVB ⊢
  obtain ⟨p10, h10⟩ : ∃ p10, p9 + 1 = p10 := ⟨_, rfl⟩
  rw [h10] at HP HVB ⊢
  obtain ⟨p11, h11⟩ : ∃ p11, p10 + 1 = p11 := ⟨_, rfl⟩
  rw [h11] at HP HVB ⊢
  obtain ⟨p12, h12⟩ : ∃ p12, p11 + 1 = p12 := ⟨_, rfl⟩
  rw [h12] at HP HVB ⊢
  have HR1 := Lib.hid (show runN es L (65 + 1) 0 ([S], []) = R from HR0.out)
  clear h8 h9 h10 h11 h12 hsq hkey HR0
  go_loopg [12] 65 (fun k s12 wx => ∃ (i : Nat) (b : Bs) (p12 : Nat), i + k = 65 ∧ s12 = .pointer (some ⟨p12, 0, none⟩) ∧ Hid (runN es L (k + 1) i b = R) ∧ Hid (VB Wm.heap.size p8 p9 p10 p11 p12 Wm.heap.size (L : Int) i b Wm wx) ∧ Hid (PB Wm.heap.size p8 p9 p10 p11 p12 Wm.heap.size) ∧ Hid (InvN es L i 0 b) ∧ Hid (BN n b.1) ∧ i ≤ b.1.length ∧ ¬ tooN b ∧ Wm.heap.size ≤ wx.heap.size)
  case atStart => exact ⟨0, ([S], []), p12, by omega, rfl, HR1, HVB, HP, HI0, HBN, Nat.zero_le _, by unfold tooN; simp, hsx⟩
  case round =>
    clear HR1 HVB HP HI0 HBN hsx
    obtain ⟨i, b, p12, hik, rfl, HR, HV, HP, HI, HB, hib, hto, hsz⟩ := hrel
    obtain ⟨vs, h9, hrow⟩ := HV.out.ns.st
    obtain ⟨a9, c9, rfl⟩ := own_slice hrow
    have x9 := h9.cell
    have x12 := HV.out.x12.cell
    have hbl : b.1.length ≤ 64 ∧ b.2.length ≤ 1024 := by unfold tooN at hto; omega
    by_cases hi : i < b.1.length
    · obtain ⟨q, rfl⟩ : ∃ q, gk = q + 1 := ⟨gk - 1, by omega⟩
      have j1 : (i : Int) < (b.1.length : Int) := by omega
      obtain ⟨T, hT⟩ : ∃ T, b.1[i]? = some T := ⟨_, List.getElem?_eq_getElem hi⟩
      have hTD : b.1.getD i 0 = T := by rw [List.getD_eq_getElem?_getD, hT]; rfl
      obtain ⟨b0, o0, hb0, k0⟩ : ∃ b0 o0, a9 = some ⟨b0, o0, none⟩ ∧ wr.cell? ⟨b0, o0 + i, none⟩ = some (u64v T) := by
        obtain ⟨a2, c2, he, h2⟩ := sets_rd hrow
        injection he with e1 _ _
        subst e1
        exact h2 i T hT
      subst hb0
      have hTm := List.mem_of_getElem? hT
      have HG : ∀ k, (rowN es i b k).1.getD i 0 = T := fun k => by rw [rowN_get hi k]; exact hTD
      have HJM : ∀ k X, (VB Wm.heap.size p8 p9 p10 p11 p12 Wm.heap.size (L : Int) i (rowN es i b k) Wm X ∧ Wm.heap.size ≤ X.heap.size) → MvRd X (.slice (some ⟨b7, 0, none⟩) L L) es L n := fun k X hX => HM.out.keep hX.1.bl
      have HF := Lib.hid (follow_any es L n (.slice (some ⟨b7, 0, none⟩) L L) (.pointer (some ⟨p11, 0, none⟩)) (.pointer (some ⟨p12, 0, none⟩)) (.pointer (some ⟨p10, 0, none⟩)) T wr
        (fun k X => VB Wm.heap.size p8 p9 p10 p11 p12 Wm.heap.size (L : Int) i (rowN es i b k) Wm X ∧ Wm.heap.size ≤ X.heap.size) (HI.out.lt T hTm).2 (HB.out T hTm) hn hL ⟨HV.out, hsz⟩ HJM (fun k X hX => HTM.out.keep hX.1.bl) (fun k X Y hX hb => ⟨hX.1.keep hX.2 hb, by have := hb.size; have := hX.2; omega⟩)
        (fun k X hk hX hne => by
          have hl := rowN_len es i b k
          have hI := HI.out.row hi k
          refine (edge_any Wm.heap.size p8 p9 p10 p11 p12 Wm.heap.size (L : Int) i k (stN es T k) (rowN es i b k) Wm X hX.1 HP.out hX.2 (stN_lt _ _ _) hI.nd (by omega) (by omega)).mono ?_
          rintro e X' ⟨hu, hv⟩
          refine ⟨hu, ?_, hv.bl.size⟩
          rw [rowN_succ, visN_add (T := stN es T k) (by rw [HG k]) hne]
          exact hv)
        (fun k X hk hX h0 => ⟨by rw [rowN_succ, visN_none (by rw [HG k]; exact h0)]; exact hX.1, hX.2⟩))
      have HRL := Lib.hid (rowN_len es i b L)
      have HIR := Lib.hid ((HI.out.row hi L).next)
      have HBR := Lib.hid (rowN_small (i := i) (b := b) HOK.out HB.out L)
      have HMR := Lib.hid (fun h2 => runN_more (es := es) (La := L) (k := q + 1) hi h2)
      have HMN := Lib.hid (fun h2 => runN_many (es := es) (La := L) (k := q + 1) hi h2)
      generalize rowN es i b L = b' at *
      clear hT hTD hTm HG HJM hrow h9 HI HB HV
      go_upto_region 10 with (go_at_call 80; (with_reducible refine HF.out.mono ?_); rintro e W2 ⟨⟨u2, rfl⟩, hv2, hs2⟩)
      clear HF x9 x12 k0
      obtain ⟨v9, h9, hrow⟩ := hv2.ns.st
      obtain ⟨a9, c9, rfl⟩ := own_slice hrow
      obtain ⟨v11, hg, he⟩ := hv2.gr
      obtain ⟨a11, c11, rfl⟩ := own_slice he
      have x9 := h9.cell
      have x12 := hv2.x12.cell
      obtain ⟨g1, g2, g3, -, -, -⟩ := hg.cells
      have hrl := HRL.out
      have G5 := Lib.hid ((G4.out).keep hv2.bl)
      have HV2 := Lib.hid hv2
      obtain ⟨m1, hm1⟩ : ∃ m1, b'.1.length = m1 := ⟨_, rfl⟩
      obtain ⟨m2, hm2⟩ : ∃ m2, b'.2.length = m2 := ⟨_, rfl⟩
      have BX := Lib.hid (BM.out.trans (hv2.bl.mono (by omega)))
      rw [hm1, hm2] at hrl
      rw [hm1] at x9
      rw [hm2] at g3
      clear hrow he h9 hg hv2
      by_cases ht1 : 64 < m1
      · have d1 : decide ((64 : Int) < (m1 : Int)) = true := decide_eq_true (by omega)
        have HRN := Lib.hid (show R = none by rw [← HR.out]; exact HMN.out (.inl (by omega)))
        obtain ⟨r1, r2, r3, r4, r5, r6⟩ := G5.out.cells
        clear hm1 hm2 HMR HMN
        go_wp2
        refine bodyPost_ret (v := .tuple #[grV 0 0 (.slice none 0 0), .slice none 0 0, .int .i64 4]) (by simp [results, Tryd.results47, go_sem, r1, r2, r3]) rfl ?_
        rw [HRN.out]
        refine ⟨_, _, rfl, edges_nil _ _, RowsAt.nil _ _, ?_⟩
        · exact ((BX.out.setCell (p := ⟨w.heap.size + 1, 0, none⟩) (Nat.le_succ _) _).setCell (p := ⟨w.heap.size + 1, 1, none⟩) (Nat.le_succ _) _).setCell (p := ⟨w.heap.size + 1, 2, none⟩) (Nat.le_succ _) _
      · have d1 : decide ((64 : Int) < (m1 : Int)) = false := decide_eq_false (by omega)
        by_cases ht2 : 1024 < m2
        · have d2 : decide ((1024 : Int) < (m2 : Int)) = true := decide_eq_true (by omega)
          have HRN := Lib.hid (show R = none by rw [← HR.out]; exact HMN.out (.inr (by omega)))
          obtain ⟨r1, r2, r3, r4, r5, r6⟩ := G5.out.cells
          clear hm1 hm2 HMR HMN
          go_wp2
          refine bodyPost_ret (v := .tuple #[grV 0 0 (.slice none 0 0), .slice none 0 0, .int .i64 4]) (by simp [results, Tryd.results47, go_sem, r1, r2, r3]) rfl ?_
          rw [HRN.out]
          refine ⟨_, _, rfl, edges_nil _ _, RowsAt.nil _ _, ?_⟩
          · exact ((BX.out.setCell (p := ⟨w.heap.size + 1, 0, none⟩) (Nat.le_succ _) _).setCell (p := ⟨w.heap.size + 1, 1, none⟩) (Nat.le_succ _) _).setCell (p := ⟨w.heap.size + 1, 2, none⟩) (Nat.le_succ _) _
        · have d2 : decide ((1024 : Int) < (m2 : Int)) = false := decide_eq_false (by omega)
          have hnt : ¬ tooN b' := by unfold tooN; omega
          have HRM := Lib.hid (show runN es L (q + 1) (i + 1) b' = R by rw [← HR.out]; exact (HMR.out hnt).symm)
          have HLEN := Lib.hid hm1
          have hb13 := below1 W2 (.cells #[.int .i64 ((i : Int) + 1)] 3)
          have x13 : Boxed (W2.alloc (.cells #[.int .i64 ((i : Int) + 1)] 3)) W2.heap.size 3 (.int .i64 ((i + 1 : Nat) : Int)) := by rw [show ((i + 1 : Nat) : Int) = (i : Int) + 1 by omega]; exact Boxed.new _ _ _
          have HV3 := Lib.hid (HV2.out.round (by omega) hb13 x13)
          have HP3 := Lib.hid (show PB Wm.heap.size p8 p9 p10 p11 W2.heap.size Wm.heap.size from ⟨HP.out.l8, HP.out.l9, HP.out.l10, HP.out.l11, by omega, HP.out.lB⟩)
          clear hm1 hm2 HMR HMN HV2 hb13 x13
          go_wp2
          go_roundg q
          case measure => omega
          case rel => exact ⟨i + 1, b', W2.heap.size, by omega, rfl, HRM, HV3, HP3, HIR, HBR, by have := HRL.out; have := HLEN.out; omega, hnt, by rw [World.size_alloc]; omega⟩
    · obtain rfl : i = b.1.length := by omega
      have j1 : ¬ ((b.1.length : Int) < (b.1.length : Int)) := by omega
      have HRE := Lib.hid (show some b = R by rw [← HR.out]; exact (runN_end hi).symm)
      obtain ⟨v11, hg, he⟩ := HV.out.gr
      obtain ⟨a11, c11, rfl⟩ := own_slice he
      have HRD5 := Lib.hid (show SetsRd wr (.slice a9 b.1.length c9) b.1 from sets_rd hrow)
      have HR9 := Lib.hid hrow
      have H9 := Lib.hid h9
      have HGG := Lib.hid hg
      have HE := Lib.hid he
      obtain ⟨g1, g2, g3, f1, f2, f3⟩ := hg.cells
      obtain ⟨m1, hm1⟩ : ∃ m1, b.1.length = m1 := ⟨_, rfl⟩
      obtain ⟨m2, hm2⟩ : ∃ m2, b.2.length = m2 := ⟨_, rfl⟩
      have HM1 := Lib.hid hm1
      have HM2 := Lib.hid hm2
      rw [hm1] at j1 x9 x12 HR9 HRD5 H9
      rw [hm2] at g3 HGG HE
      have G5 := Lib.hid ((G4.out).keep HV.out.bl)
      have hgb := grownBy_setCellJ wr p11 1 (.int .i64 (m1 : Int))
      have G6 := Lib.hid (show GBox (wr.setCell ⟨p11, 1, none⟩ (.int .i64 (m1 : Int))) (w.heap.size + 1) (.int .i64 0) (.int .i64 0) (.slice none 0 0) from
        (hgb.block _ G5.out.lt (fun e => by injection e with e; have := HP.out.l11; omega)).trans G5.out)
      have HB6 := Lib.hid (HV.out.bl.setCell (p := ⟨p11, 1, none⟩) HP.out.l11 (.int .i64 (m1 : Int)))
      have hx9 : some p9 ≠ some p11 := fun e => by
        injection e with e
        subst e
        have h5 := (show wr.heap[p9]? = _ from h9).symm.trans hg
        simp at h5
      have H96 := Lib.hid (H9.out.kept hgb hx9)
      have HG6 := Lib.hid (show GBox (wr.setCell ⟨p11, 1, none⟩ (.int .i64 (m1 : Int))) p11 (.int .i64 (L : Int)) (.int .i64 (m1 : Int)) (.slice a11 m2 c11) by
        have hgg := HGG.out
        obtain ⟨hlt, hk⟩ := Array.getElem?_eq_some_iff.1 hgg
        unfold GBox World.setCell
        simp [Array.getElem?_modify, Array.getElem?_eq_getElem hlt, hk])
      have HR6 := Lib.hid (HR9.out.kept hgb (.inr (hg.not_row (by decide) HR9.out)))
      have HE6 := Lib.hid (World.ownsRow.kept HE.out hgb (.inr (HGG.out.not_row (by decide) HE.out)))
      have hs6 : (wr.setCell ⟨p11, 1, none⟩ (.int .i64 (m1 : Int))).heap.size = wr.heap.size := World.size_setCell _ _ _
      clear hg he h9 hrow hm1 hm2 HV HRD5 HR9 H9 HGG HE G5 hgb hx9 HR
      go_upto_region 15 with fail
      clear g1 g2 g3 f1 f2 f3 x9 x12
      generalize (wr.setCell ⟨p11, 1, none⟩ (.int .i64 (m1 : Int))) = W3 at *
      have hR3 : SBx p9 p11 (.int .i64 (L : Int)) (.int .i64 (m1 : Int)) (.slice a11 m2 c11) (.slice a9 m1 c9) W3.drew := ⟨HG6.out.cells.1, HG6.out.cells.2.1, HG6.out.cells.2.2.1, H96.out.cell⟩
      have HMB := Lib.hid (membs_any b.1 (.slice a9 m1 c9) W3.drew (by have h := sets_rd (show W3.drew.ownsRow Wm.heap.size 75 1 (.slice a9 m1 c9) b.1.length (setz b.1) by rw [HM1.out]; exact HR6.out); exact h) (by omega) (fun S hS => (HI.out.lt S hS).2) (HTM.out.keep HB6.out.drew))
      rw [HM1.out] at HMB
      refine regionT (T := T2 4 4 (SBx p9 p11 (.int .i64 (L : Int)) (.int .i64 (m1 : Int)) (.slice a11 m2 c11) (.slice a9 m1 c9)) (SBx p9 p11 (.int .i64 (L : Int)) (.int .i64 (m1 : Int)) (.slice a11 m2 c11) (.slice a9 m1 c9))) hmx ?_
      have hR := hR3
      refine take1 (i := 0) (v := ?_) rfl (by kernel_rfl) (by kernel_rfl) (by kernel_rfl) (by kernel_rfl) (by kernel_rfl) (by decide) (by decide) (fun _ _ _ h => h) (Or.inl ⟨by rfl, ?_⟩) hR hR ?_
      rotate_left
      · intro w hSw
        (try unfold SBx at hSw)
        go_simp
        all_goals with_reducible rfl
      (try simp only [Act.put, List.setIfInBounds_toArray, List.set_cons_zero, List.set_cons_succ])
      refine take1 (i := 1) (v := ?_) rfl (by kernel_rfl) (by kernel_rfl) (by kernel_rfl) (by kernel_rfl) (by kernel_rfl) (by decide) (by decide) (fun _ _ _ h => h) (Or.inl ⟨by rfl, ?_⟩) hR hR ?_
      rotate_left
      · intro w hSw
        (try unfold SBx at hSw)
        go_simp
        all_goals with_reducible rfl
      (try simp only [Act.put, List.setIfInBounds_toArray, List.set_cons_zero, List.set_cons_succ])
      refine stepT (i := 2) (by kernel_rfl) rfl (fun K hK => ?_)
      go_simp
      go_at_call 82
      (with_reducible refine HMB.out.mono ?_)
      rintro e0 W5 ⟨vs, rfl, hMB⟩
      have hR5 : SBx p9 p11 (.int .i64 (L : Int)) (.int .i64 (m1 : Int)) (.slice a11 m2 c11) (.slice a9 m1 c9) W5 := ⟨cell_keep hR3.1 hMB.bl, cell_keep hR3.2.1 hMB.bl, cell_keep hR3.2.2.1 hMB.bl, cell_keep hR3.2.2.2 hMB.bl⟩
      have G7 : GBox W5 (w.heap.size + 1) (.int .i64 0) (.int .i64 0) (.slice none 0 0) := GBox.keep (W := W3.drew) G6.out hMB.bl
      obtain ⟨r1, r2, r3, r4, r5, r6⟩ := G7.cells
      go_wp2_with fail
      refine hK.out _ _ ⟨fun _ => hR5, fun _ => hR5⟩ ?_
      clear hK K hR
      have hR := hR5
      (try simp only [Act.put, List.setIfInBounds_toArray, List.set_cons_zero, List.set_cons_succ])
      refine stepT (i := 3) (by kernel_rfl) rfl (fun K hK => ?_)
      go_simp
      have hR6 := sb_far hR5 (by have := HP.out.l9; show w.heap.size + 1 ≠ p9; omega) (by have := HP.out.l11; show w.heap.size + 1 ≠ p11; omega) (.int .i64 (L : Int)) (.int .i64 (m1 : Int)) (.slice a11 m2 c11)
      refine hK.out _ _ ⟨fun _ => hR6, fun _ => hR6⟩ ?_
      clear hK K hR
      have hR := hR6
      (try simp only [Act.put, List.setIfInBounds_toArray, List.set_cons_zero, List.set_cons_succ])
      refine stepT (i := 4) (by kernel_rfl) rfl (fun K hK => ?_)
      go_simp
      refine hK.out _ _ ⟨fun h => absurd h (by decide), fun h => absurd h (by decide)⟩ ?_
      clear hK K
      (try simp only [Act.put, List.setIfInBounds_toArray, List.set_cons_zero, List.set_cons_succ])
      refine stepT (i := 5) (by kernel_rfl) rfl (fun K hK => ?_)
      go_simp
      refine hK.out _ _ ⟨fun h => absurd h (by decide), fun h => absurd h (by decide)⟩ ?_
      clear hK K
      (try simp only [Act.put, List.setIfInBounds_toArray, List.set_cons_zero, List.set_cons_succ])
      refine doneT (by kernel_rfl) ?_ _
      have HB7 := Lib.hid (show Below w.heap.size w W5 from (BM.out.trans (HB6.out.mono (by omega))).drew.trans (hMB.bl.mono (by show w.heap.size ≤ W3.heap.size; have := HB6.out.size; omega)))
      go_wp2_with fail
      refine bodyPost_ret (v := .tuple #[grV (L : Int) (m1 : Int) (.slice a11 m2 c11), .slice (some ⟨W3.drew.heap.size, 0, none⟩) m1 m1, .int .i64 0]) (by simp [results, Tryd.results47, go_sem, r1, r2, r3]) rfl ?_
      rw [← HRE.out]
      have hlt : w.heap.size + 1 < W3.drew.heap.size := G6.out.lt
      have he7 : EdgesAt W5 Wm.heap.size (.slice a11 m2 c11) b.2 := by
        have h0 : EdgesAt W3.drew Wm.heap.size (.slice a11 m2 c11) b.2 := HE6.out
        exact h0.keep hMB.bl
      refine ⟨_, _, by show _ = Ending.returned (.tuple #[grV (L : Int) ((b.1.length : Nat) : Int) _, _, .int .i64 0]); rw [HM1.out], edges_over he7 (b := w.heap.size + 1) (by omega) _ _ _ (by omega), ?_, ?_⟩
      · exact RowsAt.over (A := W3.drew.heap.size) (.inr ⟨_, vs, by rw [HM1.out], Nat.le_refl _, by rw [HM1.out]; exact hMB.row, fun j hj => hMB.own j (by rw [← HM1.out]; exact hj)⟩) hlt _ _ _ (by omega)
      · exact below_over HB7.out (Nat.le_succ _) _ _ _
end Go.Proofs.YtblkijdodojaeaaDoor

namespace Go.Proofs.YtblkijdodojaeaaDoor
open Go.RowKit Go.Maps
set_option linter.unusedSimpArgs false
set_option linter.unusedVariables false

theorem asc_ext : ∀ {l m : List Int}, l.Pairwise (· < ·) → m.Pairwise (· < ·) → (∀ x, x ∈ l ↔ x ∈ m) → l = m
  | [], [], _, _, _ => rfl
  | [], b :: m, _, _, h => by have := (h b).2 (by simp); cases this
  | a :: l, [], _, _, h => by have := (h a).1 (by simp); cases this
  | a :: l, b :: m, h1, h2, h => by
    rw [List.pairwise_cons] at h1 h2
    have e : a = b := by
      have ha := (h a).1 (by simp)
      have hb := (h b).2 (by simp)
      rw [List.mem_cons] at ha hb
      rcases ha with ha | ha
      · exact ha
      · rcases hb with hb | hb
        · exact hb.symm
        · have := h1.1 b hb; have := h2.1 a ha; omega
    subst e
    rw [asc_ext h1.2 h2.2 (fun x => ⟨fun hx => by
      have := (h x).1 (by simp [hx])
      rw [List.mem_cons] at this
      rcases this with rfl | this
      · have := h1.1 x hx; omega
      · exact this, fun hx => by
      have := (h x).2 (by simp [hx])
      rw [List.mem_cons] at this
      rcases this with rfl | this
      · have := h2.1 x hx; omega
      · exact this⟩)]
theorem ofN_bit {l : List Int} (h : ∀ s ∈ l, 0 ≤ s ∧ s < 64) (i : Nat) : (ofN l).testBit i = decide ((i : Int) ∈ l) := by
  have : ∀ (k : Nat), (ofN (l.take k)).testBit i = decide ((i : Int) ∈ l.take k) := by
    intro k
    induction k with
    | zero => rw [List.take_zero]; simp [ofN]
    | succ k ih =>
      cases hx : l[k]? with
      | none =>
        have hl := List.getElem?_eq_none_iff.1 hx
        have e : l.take (k + 1) = l.take k := by rw [List.take_of_length_le (by omega), List.take_of_length_le hl]
        rw [e]; exact ih
      | some x =>
        have hxx := h x (List.mem_of_getElem? hx)
        rw [take_snoc hx, ofN_snoc, Nat.testBit_or, ih, Nat.testBit_two_pow]
        rw [Bool.eq_iff_iff]
        simp only [Bool.or_eq_true, decide_eq_true_iff, List.mem_append, List.mem_singleton]
        constructor
        · rintro (h1 | h1)
          · exact .inl h1
          · exact .inr (by omega)
        · rintro (h1 | h1)
          · exact .inl h1
          · exact .inr (by omega)
  have h2 := this l.length
  rwa [List.take_length] at h2
theorem ofN_lt64 {l : List Int} (h : ∀ s ∈ l, 0 ≤ s ∧ s < 64) : ofN l < 18446744073709551616 := by
  have := ofN_lt l l.length h
  rwa [List.take_length] at this
theorem memN_asc (S : Nat) : (memN S).Pairwise (· < ·) := mems_asc _ _
theorem memN_ofN {n : Nat} {l : List Int} (h : SG (n : Int) l) (hn : n ≤ 64) : memN (ofN l) = l := by
  have hb : ∀ s ∈ l, 0 ≤ s ∧ s < 64 := fun s hs => by have := h.bd s hs; omega
  refine asc_ext (memN_asc _) h.asc (fun x => ?_)
  constructor
  · intro hx
    obtain ⟨i, rfl, hi, h2⟩ := mems_mem.1 hx
    rw [ofN_bit hb, decide_eq_true_iff] at h2
    exact h2
  · intro hx
    obtain ⟨h1, h2⟩ := h.bd x hx
    obtain ⟨i, rfl⟩ : ∃ i : Nat, x = (i : Int) := ⟨x.toNat, by omega⟩
    rw [memN_mem (ofN_lt64 hb), ofN_bit hb]
    exact decide_eq_true hx
theorem ofN_ne {l : List Int} (h : ∀ s ∈ l, 0 ≤ s ∧ s < 64) (hl : l ≠ []) : ofN l ≠ 0 := by
  obtain ⟨a, r, rfl⟩ := List.exists_cons_of_ne_nil hl
  intro e
  have h0 := h a (by simp)
  have h1 := ofN_bit h a.toNat
  rw [e, Nat.zero_testBit] at h1
  have h2 : ((a.toNat : Nat) : Int) ∈ a :: r := by rw [show ((a.toNat : Nat) : Int) = a by omega]; simp
  rw [decide_eq_true h2] at h1
  cases h1
theorem ofN_small {n : Nat} {l : List Int} (h : SG (n : Int) l) (hn : n ≤ 64) : ∀ i, (ofN l).testBit i = true → i < n := fun i hi => by
  rw [ofN_bit (fun s hs => by have := h.bd s hs; omega), decide_eq_true_iff] at hi
  have := h.bd _ hi
  omega
theorem fullN_ne {n : Nat} (h : n ≠ 0) : fullN n ≠ 0 := fun e => by
  have h1 := fullN_bit n 0
  rw [e, Nat.zero_testBit, decide_eq_true (by omega)] at h1
  cases h1
theorem fullN_small (n : Nat) : ∀ i, (fullN n).testBit i = true → i < n := fun i hi => by rw [fullN_bit, decide_eq_true_iff] at hi; exact hi
/-- What Build and From return. -/
def buildR (La S : Int) (es : List E3) : Int × Bs :=
  if chkG La S es = 0 then (if S = 0 then (0, ([], [])) else (bErr (builtN es La.toNat (fullN S.toNat)), bSets (builtN es La.toNat (fullN S.toNat)))) else (1, ([], []))
def fromR (La S : Int) (es : List E3) (set : List Int) : Int × Bs :=
  if chkG La S es = 0 then (if chkS S none set = 0 then (if set = [] then (5, ([], [])) else (bErr (builtN es La.toNat (ofN set)), bSets (builtN es La.toNat (ofN set)))) else (chkS S none set, ([], []))) else (1, ([], []))
def SG3 (p : Nat) (x y : Int) (z : Value) (W : World) : Prop := W.cell? ⟨p, 0, none⟩ = some (.int .i64 x) ∧ W.cell? ⟨p, 1, none⟩ = some (.int .i64 y) ∧ W.cell? ⟨p, 2, none⟩ = some z
theorem SG3.keep5 {p : Nat} {x y : Int} {z : Value} {W W' : World} (h : SG3 p x y z W) (hb : Below W.heap.size W W') : SG3 p x y z W' := ⟨cell_keep h.1 hb, cell_keep h.2.1 hb, cell_keep h.2.2 hb⟩
theorem SG3.far {p b : Nat} {x y : Int} {z : Value} {W : World} (h : SG3 p x y z W) (hb : b ≠ p) (x1 x2 x3 : Value) : SG3 p x y z (((W.setCell ⟨b, 0, none⟩ x1).setCell ⟨b, 1, none⟩ x2).setCell ⟨b, 2, none⟩ x3) := by
  have f : ∀ (o : Nat), (((W.setCell ⟨b, 0, none⟩ x1).setCell ⟨b, 1, none⟩ x2).setCell ⟨b, 2, none⟩ x3).cell? ⟨p, o, none⟩ = W.cell? ⟨p, o, none⟩ := fun o => by
    rw [World.cell?_setCell_far _ _ _ _ (by exact hb), World.cell?_setCell_far _ _ _ _ (by exact hb), World.cell?_setCell_far _ _ _ _ (by exact hb)]
  exact ⟨(f 0).trans h.1, (f 1).trans h.2.1, (f 2).trans h.2.2⟩
/-- The graph's variable and the result's. -/
theorem two_boxes (w : World) (La S : Int) (v : Value) : let W := (w.alloc (.cells #[.int .i64 La, .int .i64 S, v] 24)).alloc (.cells #[.int .i64 0, .int .i64 0, .slice none 0 0] 24)
    BoxG W w.heap.size La S v ∧ GBox W (w.heap.size + 1) (.int .i64 0) (.int .i64 0) (.slice none 0 0) ∧ Below w.heap.size w W ∧ W.heap.size = w.heap.size + 2 := by
  intro W
  refine ⟨(BoxG.new w La S v 24).keep (below1 _ _), ?_, below_more (below1 w _) (Nat.le_refl _) (below1 _ _), by show (World.alloc _ _).heap.size = _; rw [World.size_alloc, World.size_alloc]⟩
  have h := GBox.new (w.alloc (.cells #[.int .i64 La, .int .i64 S, v] 24)) (.int .i64 0) (.int .i64 0) (.slice none 0 0)
  rw [World.size_alloc] at h
  exact h
set_option maxRecDepth 100000 in
set_option maxHeartbeats 6400000 in
theorem Build_any (La S : Int) (es : List E3) (v : Value) (w : World) (hrd : EdgesRd w v es) (hn : es.length ≤ 9223372036854775807) (hT : TabD w) :
    Calls Tryd.prog 17 #[grV La S v] w (SetsOut w La (buildR La S es).1 (buildR La S es).2) := by
  have hmx : Tryd.prog.follows .mixedOrders = true := by kernel_rfl
  obtain ⟨hbx, hgx, hbb, hsz⟩ := two_boxes w La S v
  have HCH := Lib.hid (gcheck_any La S es v _ (hrd.keep hbb) hn)
  have HBX := Lib.hid hbx
  have HGX := Lib.hid hgx
  have HBB := Lib.hid hbb
  obtain ⟨x1, x2, x3⟩ := id hbx
  by_cases h0 : chkG La S es = 0
  · have hvg := chkG_zero h0
    obtain ⟨n, rfl⟩ : ∃ n : Nat, S = (n : Int) := ⟨S.toNat, by have := hvg.s1; omega⟩
    obtain ⟨La, rfl⟩ : ∃ n : Nat, La = (n : Int) := ⟨La.toNat, by have := hvg.l1; omega⟩
    rw [h0] at HCH
    by_cases hz : n = 0
    · have HE := Lib.hid (show buildR (La : Int) (n : Int) es = (0, ([], [])) by unfold buildR; rw [if_pos h0, if_pos (by omega)])
      have d0 : ((n : Int) == 0) = true := by rw [beq_iff_eq]; omega
      obtain ⟨a, c, rfl⟩ := hrd.form
      clear hrd hbx hgx hbb h0 hvg hT hz
      go_enter Tryd.func17, Tryd.ntmps17
      go_wp2_with (go_at_call 31; (with_reducible refine HCH.out.mono ?_); rintro e W2 ⟨rfl, b2⟩; (obtain ⟨x1, x2, x3⟩ := HBX.out.keep b2); (obtain ⟨r1, r2, r3, r4, r5, r6⟩ := (HGX.out.keep b2).cells); (have HB2 := Lib.hid (HBB.out.trans (b2.mono HBB.out.size))))
      refine bodyPost_ret (v := .tuple #[grV (La : Int) 0 (.slice none 0 0), .slice none 0 0, .int .i64 0]) (by simp [results, Tryd.results17, go_sem, r1, r2, r3]) rfl ?_
      rw [HE.out]
      exact ⟨_, _, rfl, edges_nil _ _, RowsAt.nil _ _, below_over HB2.out (Nat.le_succ _) _ _ _⟩
    · have hn64 : n ≤ 64 := by have := hvg.s2; omega
      have HE := Lib.hid (show buildR (La : Int) (n : Int) es = (bErr (builtN es La (fullN n)), bSets (builtN es La (fullN n))) by
        unfold buildR; rw [if_pos h0, if_neg (by omega), Int.toNat_natCast, Int.toNat_natCast])
      have d0 : ((n : Int) == 0) = false := by rw [beq_eq_false_iff_ne]; omega
      obtain ⟨a, c, rfl⟩ := hrd.form
      have HRD := Lib.hid hrd
      have HTT := Lib.hid hT
      have HV := Lib.hid (fun W => every_any (La : Int) n (.slice a es.length c) W hn64)
      have HBD := Lib.hid (fun W (h : EdgesRd W (.slice a es.length c) es) (hT : TabD W) => build_any La n es (.slice a es.length c) (fullN n) W h hvg (fullN_ne hz) (fullN_lt hn64) (fullN_small n) hT)
      generalize builtN es La (fullN n) = R at *
      clear hrd hbx hgx hbb h0 hvg hT hz
      go_enter Tryd.func17, Tryd.ntmps17
      go_upto_region 5 with (go_at_call 31; (with_reducible refine HCH.out.mono ?_); rintro e W2 ⟨rfl, b2⟩; (obtain ⟨x1, x2, x3⟩ := HBX.out.keep b2))
      have HG := Lib.hid (show GBox W2.drew (w.heap.size + 1) (.int .i64 0) (.int .i64 0) (.slice none 0 0) from (show GBox W2 (w.heap.size + 1) (.int .i64 0) (.int .i64 0) (.slice none 0 0) from HGX.out.keep b2))
      have HBB := Lib.hid (show Below w.heap.size w W2.drew from (HBB.out.trans (b2.mono HBB.out.size)).drew)
      have hR0 : SG3 w.heap.size (La : Int) (n : Int) (.slice a es.length c) W2.drew := ⟨x1, x2, x3⟩
      have hsw : w.heap.size + 1 < W2.drew.heap.size := HG.out.lt
      clear x1 x2 x3 b2
      refine regionT (T := T2 8 8 (SG3 w.heap.size (La : Int) (n : Int) (.slice a es.length c)) (SG3 w.heap.size (La : Int) (n : Int) (.slice a es.length c))) hmx ?_
      have hR := hR0
      refine take1 (i := 0) (v := ?_) rfl (by kernel_rfl) (by kernel_rfl) (by kernel_rfl) (by kernel_rfl) (by kernel_rfl) (by decide) (by decide) (fun _ _ _ h => h) (Or.inl ⟨by rfl, ?_⟩) hR hR ?_
      rotate_left
      · intro w hSw
        (try unfold SG3 at hSw)
        go_simp
        all_goals with_reducible rfl
      (try simp only [Act.put, List.setIfInBounds_toArray, List.set_cons_zero, List.set_cons_succ])
      refine take1 (i := 1) (v := ?_) rfl (by kernel_rfl) (by kernel_rfl) (by kernel_rfl) (by kernel_rfl) (by kernel_rfl) (by decide) (by decide) (fun _ _ _ h => h) (Or.inl ⟨by rfl, ?_⟩) hR hR ?_
      rotate_left
      · intro w hSw
        (try unfold SG3 at hSw)
        go_simp
        all_goals with_reducible rfl
      (try simp only [Act.put, List.setIfInBounds_toArray, List.set_cons_zero, List.set_cons_succ])
      refine stepT (i := 2) (by kernel_rfl) rfl (fun K hK => ?_)
      go_simp
      go_at_call 48
      (with_reducible refine (HV.out W2.drew).mono ?_)
      rintro e0 W5 ⟨rfl, b5⟩
      have hR5 := hR0.keep5 b5
      have HB6 := Lib.hid (show Below w.heap.size w W5 from HBB.out.trans (b5.mono (by have := HBB.out.size; omega)))
      go_wp2_with fail
      refine hK.out _ _ ⟨fun _ => hR5, fun _ => hR5⟩ ?_
      clear hK K hR
      have hR := hR5
      (try simp only [Act.put, List.setIfInBounds_toArray, List.set_cons_zero, List.set_cons_succ])
      refine stepT (i := 3) (by kernel_rfl) rfl (fun K hK => ?_)
      go_simp
      go_at_call 47
      (with_reducible refine (HBD.out W5 (HRD.out.keep HB6.out) (HTT.out.keep HB6.out)).mono ?_)
      rintro e0 W6 ⟨hv, lv, rfl, he6, hr6, b6⟩
      have hR6 := hR5.keep5 b6
      have HB7 := Lib.hid (show Below w.heap.size w W6 from HB6.out.trans (b6.mono (by have := HB6.out.size; omega)))
      have G7 := GBox.keep (W := W2.drew) (W' := W5) HG.out b5
      have G8 := G7.keep b6
      obtain ⟨r1, r2, r3, r4, r5, r6⟩ := G8.cells
      obtain ⟨ah, ch, rfl⟩ := he6.slice
      obtain ⟨al, rfl⟩ := hr6.form
      go_wp2_with fail
      refine hK.out _ _ ⟨fun _ => hR6, fun _ => hR6⟩ ?_
      clear hK K hR
      have hR := hR6
      (try simp only [Act.put, List.setIfInBounds_toArray, List.set_cons_zero, List.set_cons_succ])
      refine take1 (i := 4) (v := ?_) rfl (by kernel_rfl) (by kernel_rfl) (by kernel_rfl) (by kernel_rfl) (by kernel_rfl) (by decide) (by decide) (fun _ _ _ h => h) (Or.inl ⟨by rfl, ?_⟩) hR hR ?_
      rotate_left
      · intro w hSw
        (try unfold SG3 at hSw)
        go_simp
        all_goals with_reducible rfl
      (try simp only [Act.put, List.setIfInBounds_toArray, List.set_cons_zero, List.set_cons_succ])
      refine take1 (i := 5) (v := ?_) rfl (by kernel_rfl) (by kernel_rfl) (by kernel_rfl) (by kernel_rfl) (by kernel_rfl) (by decide) (by decide) (fun _ _ _ h => h) (Or.inl ⟨by rfl, ?_⟩) hR hR ?_
      rotate_left
      · intro w hSw
        (try unfold SG3 at hSw)
        go_simp
        all_goals with_reducible rfl
      (try simp only [Act.put, List.setIfInBounds_toArray, List.set_cons_zero, List.set_cons_succ])
      refine take1 (i := 6) (v := ?_) rfl (by kernel_rfl) (by kernel_rfl) (by kernel_rfl) (by kernel_rfl) (by kernel_rfl) (by decide) (by decide) (fun _ _ _ h => h) (Or.inl ⟨by rfl, ?_⟩) hR hR ?_
      rotate_left
      · intro w hSw
        (try unfold SG3 at hSw)
        go_simp
        all_goals with_reducible rfl
      (try simp only [Act.put, List.setIfInBounds_toArray, List.set_cons_zero, List.set_cons_succ])
      refine stepT (i := 7) (by kernel_rfl) rfl (fun K hK => ?_)
      go_simp
      have hR7 := hR6.far (show w.heap.size + 1 ≠ w.heap.size by omega) (.int .i64 (onOk (bErr R) (La : Int))) (.int .i64 (((bSets R).1.length : Nat) : Int)) (.slice ah (bSets R).2.length ch)
      refine hK.out _ _ ⟨fun _ => hR7, fun _ => hR7⟩ ?_
      clear hK K hR
      have hR := hR7
      (try simp only [Act.put, List.setIfInBounds_toArray, List.set_cons_zero, List.set_cons_succ])
      refine stepT (i := 8) (by kernel_rfl) rfl (fun K hK => ?_)
      go_simp
      refine hK.out _ _ ⟨fun h => absurd h (by decide), fun h => absurd h (by decide)⟩ ?_
      clear hK K
      (try simp only [Act.put, List.setIfInBounds_toArray, List.set_cons_zero, List.set_cons_succ])
      refine stepT (i := 9) (by kernel_rfl) rfl (fun K hK => ?_)
      go_simp
      refine hK.out _ _ ⟨fun h => absurd h (by decide), fun h => absurd h (by decide)⟩ ?_
      clear hK K
      (try simp only [Act.put, List.setIfInBounds_toArray, List.set_cons_zero, List.set_cons_succ])
      refine doneT (by kernel_rfl) ?_ _
      go_wp2_with fail
      rw [HE.out]
      refine bodyPost_ret (v := .tuple #[grV (onOk (bErr R) (La : Int)) (((bSets R).1.length : Nat) : Int) (.slice ah (bSets R).2.length ch), .slice al (bSets R).1.length (bSets R).1.length, .int .i64 (bErr R)]) (by simp [results, Tryd.results17, go_sem, r1, r2, r3]) rfl ?_
      have hs5 := b5.size
      exact ⟨_, _, rfl, edges_over he6 (b := w.heap.size + 1) (by omega) _ _ _ (by omega), hr6.over (b := w.heap.size + 1) (by omega) _ _ _ (by omega), below_over HB7.out (Nat.le_succ _) _ _ _⟩
  · have HE := Lib.hid (show buildR La S es = (1, ([], [])) by unfold buildR; rw [if_neg h0])
    obtain ⟨z, hz⟩ : ∃ z, chkG La S es = z := ⟨_, rfl⟩
    rw [hz] at HCH h0
    have d1 : (z != 0) = true := by simpa using h0
    obtain ⟨a, c, rfl⟩ := hrd.form
    clear hrd hbx hgx hbb h0 hT hz
    go_enter Tryd.func17, Tryd.ntmps17
    go_wp2_with (go_at_call 31; (with_reducible refine HCH.out.mono ?_); rintro e W2 ⟨rfl, b2⟩; (obtain ⟨r1, r2, r3, r4, r5, r6⟩ := (HGX.out.keep b2).cells); (have HB2 := Lib.hid (HBB.out.trans (b2.mono HBB.out.size))))
    refine bodyPost_ret (v := .tuple #[grV 0 0 (.slice none 0 0), .slice none 0 0, .int .i64 1]) (by simp [results, Tryd.results17, go_sem, r1, r2, r3]) rfl ?_
    rw [HE.out]
    exact ⟨_, _, rfl, edges_nil _ _, RowsAt.nil _ _, below_over HB2.out (Nat.le_succ _) _ _ _⟩
theorem fromR_err {La S : Int} {es : List E3} {set : List Int} (h : (keepR La S es set).2.2.2 ≠ 0) : fromR La S es set = ((keepR La S es set).2.2.2, ([], [])) := by
  unfold keepR at h ⊢
  unfold fromR
  by_cases h0 : chkG La S es = 0
  · rw [if_pos h0] at h ⊢
    rw [if_pos h0]
    by_cases h1 : chkS S none set = 0
    · rw [if_pos h1] at h; exact absurd rfl h
    · rw [if_neg h1, if_neg h1]
  · rw [if_neg h0, if_neg h0]
theorem keepR_ok {La S : Int} {es : List E3} {set : List Int} (h : (keepR La S es set).2.2.2 = 0) : chkG La S es = 0 ∧ chkS S none set = 0 := by
  unfold keepR at h
  by_cases h0 : chkG La S es = 0
  · rw [if_pos h0] at h
    by_cases h1 : chkS S none set = 0
    · exact ⟨h0, h1⟩
    · rw [if_neg h1] at h; exact absurd h h1
  · rw [if_neg h0] at h; cases h
theorem sg_len {n : Nat} {l : List Int} (h : SG (n : Int) l) : l.length ≤ n := by
  have e : l = mems n (fun i => decide ((i : Int) ∈ l)) := asc_ext h.asc (mems_asc _ _) (fun x => by
    rw [mems_mem]
    constructor
    · intro hx
      have := h.bd x hx
      exact ⟨x.toNat, by omega, by omega, by rw [decide_eq_true_iff]; rwa [show ((x.toNat : Nat) : Int) = x by omega]⟩
    · rintro ⟨i, rfl, hi, h2⟩
      exact of_decide_eq_true h2)
  rw [e]
  exact mems_len _ _
set_option maxRecDepth 100000 in
set_option maxHeartbeats 6400000 in
theorem From_any (La S : Int) (es : List E3) (v vs : Value) (set : List Int) (w : World) (hrd : EdgesRd w v es) (hn : es.length ≤ 9223372036854775807) (hst : IntsRd w vs set) (hl : set.length ≤ 9223372036854775807) (hT : TabD w) :
    Calls Tryd.prog 19 #[grV La S v, vs] w (SetsOut w La (fromR La S es set).1 (fromR La S es set).2) := by
  have hmx : Tryd.prog.follows .mixedOrders = true := by kernel_rfl
  obtain ⟨hbx, hgx, hbb, hsz⟩ := two_boxes w La S v
  have HKP := Lib.hid (keep_any La S es v vs set _ (hrd.keep hbb) hn (hst.keep hbb) hl)
  have HBX := Lib.hid hbx
  have HGX := Lib.hid hgx
  have HBB := Lib.hid hbb
  obtain ⟨x1, x2, x3⟩ := id hbx
  by_cases h0 : (keepR La S es set).2.2.2 = 0
  · obtain ⟨hc0, hc1⟩ := keepR_ok h0
    have hvg := chkG_zero hc0
    have hsg := chkS_ok hc1
    obtain ⟨n, rfl⟩ : ∃ n : Nat, S = (n : Int) := ⟨S.toNat, by have := hvg.s1; omega⟩
    obtain ⟨La, rfl⟩ : ∃ n : Nat, La = (n : Int) := ⟨La.toNat, by have := hvg.l1; omega⟩
    have hn64 : n ≤ 64 := by have := hvg.s2; omega
    obtain ⟨k1, hk1⟩ : ∃ k, (keepR (La : Int) (n : Int) es set).1 = k := ⟨_, rfl⟩
    obtain ⟨k2, hk2⟩ : ∃ k, (keepR (La : Int) (n : Int) es set).2.1 = k := ⟨_, rfl⟩
    obtain ⟨k3, hk3⟩ : ∃ k, (keepR (La : Int) (n : Int) es set).2.2.1 = k := ⟨_, rfl⟩
    unfold GOut at HKP
    rw [h0, hk1, hk2, hk3] at HKP
    have hsl := sg_len hsg
    by_cases hz : set = []
    · have HE := Lib.hid (show fromR (La : Int) (n : Int) es set = (5, ([], [])) by unfold fromR; rw [if_pos hc0, if_pos hc1, if_pos hz])
      have d0 : ((set.length : Int) == 0) = true := by rw [hz]; rfl
      obtain ⟨a, c, rfl⟩ := hrd.form
      obtain ⟨a2, c2, rfl⟩ := hst.form
      clear hrd hst hbx hgx hbb h0 hvg hT hz hc0 hc1 hsg hk1 hk2 hk3
      obtain ⟨m, hm⟩ : ∃ m, set.length = m := ⟨_, rfl⟩
      rw [hm] at d0 HKP hsl hl ⊢
      clear hm
      go_enter Tryd.func19, Tryd.ntmps19
      go_wp2_with (go_at_call 51; (with_reducible refine HKP.out.mono ?_); rintro e W2 ⟨v2, rfl, he2, b2⟩; (obtain ⟨a5, c5, rfl⟩ := he2.slice); (have G2 := HGX.out.keep b2); (have G3 := G2.keep (below1 W2 (.cells #[.int .i64 k1, .int .i64 k2, .slice a5 k3.length c5] 24))); (obtain ⟨r1, r2, r3, r4, r5, r6⟩ := G3.cells); (have HB2 := Lib.hid (below_more (HBB.out.trans (b2.mono HBB.out.size)) (by have := HBB.out.size; have := b2.size; omega) (below1 W2 (.cells #[.int .i64 k1, .int .i64 k2, .slice a5 k3.length c5] 24)))))
      refine bodyPost_ret (v := .tuple #[grV 0 0 (.slice none 0 0), .slice none 0 0, .int .i64 5]) (by simp [results, Tryd.results19, go_sem, r1, r2, r3]) rfl ?_
      rw [HE.out]
      exact ⟨_, _, rfl, edges_nil _ _, RowsAt.nil _ _, below_over HB2.out (Nat.le_succ _) _ _ _⟩
    · have HE := Lib.hid (show fromR (La : Int) (n : Int) es set = (bErr (builtN es La (ofN set)), bSets (builtN es La (ofN set))) by
        unfold fromR; rw [if_pos hc0, if_pos hc1, if_neg hz, Int.toNat_natCast])
      have hlp : 0 < set.length := List.length_pos_iff.2 hz
      have d0 : ((set.length : Int) == 0) = false := by rw [beq_eq_false_iff_ne]; omega
      have hbd : ∀ s ∈ set, 0 ≤ s ∧ s < 64 := fun s hs => by have := hsg.bd s hs; omega
      obtain ⟨a, c, rfl⟩ := hrd.form
      obtain ⟨a2, c2, rfl⟩ := hst.form
      have HRD := Lib.hid hrd
      have HTT := Lib.hid hT
      have HST := Lib.hid hst
      have HV := Lib.hid (fun W (h : IntsRd W (.slice a2 set.length c2) set) => setOf_any set (.slice a2 set.length c2) W h hbd (by omega))
      have HBD := Lib.hid (fun W (h : EdgesRd W (.slice a es.length c) es) (hT : TabD W) => build_any La n es (.slice a es.length c) (ofN set) W h hvg (ofN_ne hbd hz) (ofN_lt64 hbd) (ofN_small hsg hn64) hT)
      generalize builtN es La (ofN set) = R at *
      generalize ofN set = X at *
      clear hrd hst hbx hgx hbb h0 hvg hT hz hc0 hc1 hsg hk1 hk2 hk3 hbd
      obtain ⟨m, hm⟩ : ∃ m, set.length = m := ⟨_, rfl⟩
      rw [hm] at d0 HKP HST HV hsl hl hlp ⊢
      clear hm
      go_enter Tryd.func19, Tryd.ntmps19
      go_upto_region 6 with (go_at_call 51; (with_reducible refine HKP.out.mono ?_); rintro e W2 ⟨v2, rfl, he2, b2⟩; (obtain ⟨a5, c5, rfl⟩ := he2.slice); (have G2 := HGX.out.keep b2); (have G3 := Lib.hid (G2.keep (below1 W2 (.cells #[.int .i64 k1, .int .i64 k2, .slice a5 k3.length c5] 24)))); (obtain ⟨x1, x2, x3⟩ := (HBX.out.keep b2).keep (below1 W2 (.cells #[.int .i64 k1, .int .i64 k2, .slice a5 k3.length c5] 24))); (have HB2 := Lib.hid (below_more (HBB.out.trans (b2.mono HBB.out.size)) (by have := HBB.out.size; have := b2.size; omega) (below1 W2 (.cells #[.int .i64 k1, .int .i64 k2, .slice a5 k3.length c5] 24)))))
      clear G2 he2 b2 HBX HGX HBB HKP
      generalize W2.alloc (.cells #[.int .i64 k1, .int .i64 k2, .slice a5 k3.length c5] 24) = W3 at *
      have HG := Lib.hid (show GBox W3.drew (w.heap.size + 1) (.int .i64 0) (.int .i64 0) (.slice none 0 0) from G3.out)
      have HBB := Lib.hid (show Below w.heap.size w W3.drew from HB2.out.drew)
      have hR0 : SG3 w.heap.size (La : Int) (n : Int) (.slice a es.length c) W3.drew := ⟨x1, x2, x3⟩
      have hsw : w.heap.size + 1 < W3.drew.heap.size := HG.out.lt
      clear x1 x2 x3
      refine regionT (T := T2 8 8 (SG3 w.heap.size (La : Int) (n : Int) (.slice a es.length c)) (SG3 w.heap.size (La : Int) (n : Int) (.slice a es.length c))) hmx ?_
      have hR := hR0
      refine take1 (i := 0) (v := ?_) rfl (by kernel_rfl) (by kernel_rfl) (by kernel_rfl) (by kernel_rfl) (by kernel_rfl) (by decide) (by decide) (fun _ _ _ h => h) (Or.inl ⟨by rfl, ?_⟩) hR hR ?_
      rotate_left
      · intro w hSw
        (try unfold SG3 at hSw)
        go_simp
        all_goals with_reducible rfl
      (try simp only [Act.put, List.setIfInBounds_toArray, List.set_cons_zero, List.set_cons_succ])
      refine take1 (i := 1) (v := ?_) rfl (by kernel_rfl) (by kernel_rfl) (by kernel_rfl) (by kernel_rfl) (by kernel_rfl) (by decide) (by decide) (fun _ _ _ h => h) (Or.inl ⟨by rfl, ?_⟩) hR hR ?_
      rotate_left
      · intro w hSw
        (try unfold SG3 at hSw)
        go_simp
        all_goals with_reducible rfl
      (try simp only [Act.put, List.setIfInBounds_toArray, List.set_cons_zero, List.set_cons_succ])
      refine stepT (i := 2) (by kernel_rfl) rfl (fun K hK => ?_)
      go_simp
      go_at_call 52
      (with_reducible refine (HV.out W3.drew (HST.out.keep HBB.out)).mono ?_)
      rintro e0 W5 ⟨rfl, b5⟩
      have hR5 := hR0.keep5 b5
      have HB6 := Lib.hid (show Below w.heap.size w W5 from HBB.out.trans (b5.mono (by have := HBB.out.size; omega)))
      go_wp2_with fail
      refine hK.out _ _ ⟨fun _ => hR5, fun _ => hR5⟩ ?_
      clear hK K hR
      have hR := hR5
      (try simp only [Act.put, List.setIfInBounds_toArray, List.set_cons_zero, List.set_cons_succ])
      refine stepT (i := 3) (by kernel_rfl) rfl (fun K hK => ?_)
      go_simp
      go_at_call 47
      (with_reducible refine (HBD.out W5 (HRD.out.keep HB6.out) (HTT.out.keep HB6.out)).mono ?_)
      rintro e0 W6 ⟨hv, lv, rfl, he6, hr6, b6⟩
      have hR6 := hR5.keep5 b6
      have HB7 := Lib.hid (show Below w.heap.size w W6 from HB6.out.trans (b6.mono (by have := HB6.out.size; omega)))
      have G7 := GBox.keep (W := W3.drew) (W' := W5) HG.out b5
      have G8 := G7.keep b6
      obtain ⟨r1, r2, r3, r4, r5, r6⟩ := G8.cells
      obtain ⟨ah, ch, rfl⟩ := he6.slice
      obtain ⟨al, rfl⟩ := hr6.form
      go_wp2_with fail
      refine hK.out _ _ ⟨fun _ => hR6, fun _ => hR6⟩ ?_
      clear hK K hR
      have hR := hR6
      (try simp only [Act.put, List.setIfInBounds_toArray, List.set_cons_zero, List.set_cons_succ])
      refine take1 (i := 4) (v := ?_) rfl (by kernel_rfl) (by kernel_rfl) (by kernel_rfl) (by kernel_rfl) (by kernel_rfl) (by decide) (by decide) (fun _ _ _ h => h) (Or.inl ⟨by rfl, ?_⟩) hR hR ?_
      rotate_left
      · intro w hSw
        (try unfold SG3 at hSw)
        go_simp
        all_goals with_reducible rfl
      (try simp only [Act.put, List.setIfInBounds_toArray, List.set_cons_zero, List.set_cons_succ])
      refine take1 (i := 5) (v := ?_) rfl (by kernel_rfl) (by kernel_rfl) (by kernel_rfl) (by kernel_rfl) (by kernel_rfl) (by decide) (by decide) (fun _ _ _ h => h) (Or.inl ⟨by rfl, ?_⟩) hR hR ?_
      rotate_left
      · intro w hSw
        (try unfold SG3 at hSw)
        go_simp
        all_goals with_reducible rfl
      (try simp only [Act.put, List.setIfInBounds_toArray, List.set_cons_zero, List.set_cons_succ])
      refine take1 (i := 6) (v := ?_) rfl (by kernel_rfl) (by kernel_rfl) (by kernel_rfl) (by kernel_rfl) (by kernel_rfl) (by decide) (by decide) (fun _ _ _ h => h) (Or.inl ⟨by rfl, ?_⟩) hR hR ?_
      rotate_left
      · intro w hSw
        (try unfold SG3 at hSw)
        go_simp
        all_goals with_reducible rfl
      (try simp only [Act.put, List.setIfInBounds_toArray, List.set_cons_zero, List.set_cons_succ])
      refine stepT (i := 7) (by kernel_rfl) rfl (fun K hK => ?_)
      go_simp
      have hR7 := hR6.far (show w.heap.size + 1 ≠ w.heap.size by omega) (.int .i64 (onOk (bErr R) (La : Int))) (.int .i64 (((bSets R).1.length : Nat) : Int)) (.slice ah (bSets R).2.length ch)
      refine hK.out _ _ ⟨fun _ => hR7, fun _ => hR7⟩ ?_
      clear hK K hR
      have hR := hR7
      (try simp only [Act.put, List.setIfInBounds_toArray, List.set_cons_zero, List.set_cons_succ])
      refine stepT (i := 8) (by kernel_rfl) rfl (fun K hK => ?_)
      go_simp
      refine hK.out _ _ ⟨fun h => absurd h (by decide), fun h => absurd h (by decide)⟩ ?_
      clear hK K
      (try simp only [Act.put, List.setIfInBounds_toArray, List.set_cons_zero, List.set_cons_succ])
      refine stepT (i := 9) (by kernel_rfl) rfl (fun K hK => ?_)
      go_simp
      refine hK.out _ _ ⟨fun h => absurd h (by decide), fun h => absurd h (by decide)⟩ ?_
      clear hK K
      (try simp only [Act.put, List.setIfInBounds_toArray, List.set_cons_zero, List.set_cons_succ])
      refine doneT (by kernel_rfl) ?_ _
      go_wp2_with fail
      rw [HE.out]
      refine bodyPost_ret (v := .tuple #[grV (onOk (bErr R) (La : Int)) (((bSets R).1.length : Nat) : Int) (.slice ah (bSets R).2.length ch), .slice al (bSets R).1.length (bSets R).1.length, .int .i64 (bErr R)]) (by simp [results, Tryd.results19, go_sem, r1, r2, r3]) rfl ?_
      have hs5 := b5.size
      exact ⟨_, _, rfl, edges_over he6 (b := w.heap.size + 1) (by omega) _ _ _ (by omega), hr6.over (b := w.heap.size + 1) (by omega) _ _ _ (by omega), below_over HB7.out (Nat.le_succ _) _ _ _⟩
  · have HE := Lib.hid (fromR_err h0)
    obtain ⟨z, hz⟩ : ∃ z, (keepR La S es set).2.2.2 = z := ⟨_, rfl⟩
    obtain ⟨k1, hk1⟩ : ∃ k, (keepR La S es set).1 = k := ⟨_, rfl⟩
    obtain ⟨k2, hk2⟩ : ∃ k, (keepR La S es set).2.1 = k := ⟨_, rfl⟩
    obtain ⟨k3, hk3⟩ : ∃ k, (keepR La S es set).2.2.1 = k := ⟨_, rfl⟩
    unfold GOut at HKP
    rw [hz, hk1, hk2, hk3] at HKP
    rw [hz] at h0 HE
    have d1 : (z != 0) = true := by simpa using h0
    obtain ⟨a, c, rfl⟩ := hrd.form
    obtain ⟨a2, c2, rfl⟩ := hst.form
    clear hrd hst hbx hgx hbb h0 hT hz hk1 hk2 hk3
    obtain ⟨m, hm⟩ : ∃ m, set.length = m := ⟨_, rfl⟩
    rw [hm] at HKP hl ⊢
    clear hm
    go_enter Tryd.func19, Tryd.ntmps19
    go_wp2_with (go_at_call 51; (with_reducible refine HKP.out.mono ?_); rintro e W2 ⟨v2, rfl, he2, b2⟩; (obtain ⟨a5, c5, rfl⟩ := he2.slice); (have G2 := HGX.out.keep b2); (have G3 := G2.keep (below1 W2 (.cells #[.int .i64 k1, .int .i64 k2, .slice a5 k3.length c5] 24))); (obtain ⟨r1, r2, r3, r4, r5, r6⟩ := G3.cells); (have HB2 := Lib.hid (below_more (HBB.out.trans (b2.mono HBB.out.size)) (by have := HBB.out.size; have := b2.size; omega) (below1 W2 (.cells #[.int .i64 k1, .int .i64 k2, .slice a5 k3.length c5] 24)))))
    refine bodyPost_ret (v := .tuple #[grV 0 0 (.slice none 0 0), .slice none 0 0, .int .i64 z]) (by simp [results, Tryd.results19, go_sem, r1, r2, r3]) rfl ?_
    rw [HE.out]
    have HZ := Lib.hid (show onOk z La = 0 by unfold onOk; rw [if_neg (by simpa using d1)])
    exact ⟨_, _, by rw [HZ.out]; rfl, edges_nil _ _, RowsAt.nil _ _, below_over HB2.out (Nat.le_succ _) _ _ _⟩
end Go.Proofs.YtblkijdodojaeaaDoor

namespace Go.Proofs.YtblkijdodojaeaaDoor
set_option linter.unusedVariables false

theorem rowN_ind {es : List E3} {i : Nat} {P : Bs → Prop} (h : ∀ l b, i < b.1.length → P b → P (visN es i b l)) {b : Bs} (hi : i < b.1.length) (hP : P b) : ∀ c, P (rowN es i b c)
  | 0 => hP
  | c + 1 => by
    have hl := rowN_len es i b c
    rw [rowN_succ]
    exact h c _ (by omega) (rowN_ind h hi hP c)
theorem runN_ind {es : List E3} {La : Nat} {P : Bs → Prop} (h : ∀ i l b, i < b.1.length → P b → P (visN es i b l)) : ∀ (k i : Nat) (b b' : Bs), P b → runN es La k i b = some b' → P b'
  | 0, _, _, _, _, h2 => by cases h2
  | k + 1, i, b, b', hP, h2 => by
    by_cases h1 : i < b.1.length
    · by_cases h3 : tooN (rowN es i b La)
      · rw [runN_many h1 h3] at h2; cases h2
      · rw [runN_more h1 h3] at h2
        exact runN_ind h k (i + 1) _ b' (rowN_ind (h i) h1 hP La) h2
    · rw [runN_end h1] at h2
      injection h2 with h2
      subst h2
      exact hP
theorem built_ind {es : List E3} {La S : Nat} {P : Bs → Prop} {b : Bs} (h : ∀ i l b, i < b.1.length → P b → P (visN es i b l)) (h0 : P ([S], [])) (hb : builtN es La S = some b) : P b := by
  unfold builtN at hb
  generalize (66 : Nat) = k at hb
  exact runN_ind h k 0 _ b h0 hb
/-- The first edge to a state. -/
def fstE (es : List E3) (t : Int) : Option E3 := es.find? fun e => e.2.2 == t
theorem fstE_snoc (es : List E3) (e : E3) (t : Int) : fstE (es ++ [e]) t = (fstE es t).or (if e.2.2 = t then some e else none) := by
  unfold fstE
  rw [List.find?_append]
  congr 1
  rw [List.find?_cons]
  by_cases h : e.2.2 = t
  · rw [show (e.2.2 == t) = true by rw [beq_iff_eq]; exact h, if_pos h]
  · rw [show (e.2.2 == t) = false by rw [beq_eq_false_iff_ne]; exact h, if_neg h]; rfl
structure FFN (b : Bs) : Prop where
  tgt : ∀ e ∈ b.2, 0 ≤ e.2.2 ∧ e.2.2 < (b.1.length : Int)
  ff : ∀ t : Nat, 0 < t → t < b.1.length → ∃ e, fstE b.2 (t : Int) = some e ∧ 0 ≤ e.1 ∧ e.1 < (t : Int)
theorem FFN.vis {es : List E3} (i l : Nat) (b : Bs) (hi : i < b.1.length) (h : FFN b) : FFN (visN es i b l) := by
  by_cases h0 : stN es (b.1.getD i 0) l = 0
  · rw [visN_none h0]; exact h
  · by_cases h1 : stN es (b.1.getD i 0) l ∈ b.1
    · rw [visN_old h0 h1]
      have hx : b.1.idxOf (stN es (b.1.getD i 0) l) < b.1.length := List.idxOf_lt_length_iff.2 h1
      refine ⟨fun e he => ?_, fun t h2 h3 => ?_⟩
      · rw [List.mem_append, List.mem_singleton] at he
        rcases he with he | rfl
        · exact h.tgt e he
        · show (0 : Int) ≤ ((b.1.idxOf (stN es (b.1.getD i 0) l) : Nat) : Int) ∧ ((b.1.idxOf (stN es (b.1.getD i 0) l) : Nat) : Int) < ((b.1.length : Nat) : Int)
          omega
      · obtain ⟨e, h4, h5⟩ := h.ff t h2 h3
        refine ⟨e, ?_, h5⟩
        show fstE (b.2 ++ _) _ = _
        rw [fstE_snoc, h4]; rfl
    · rw [visN_new h0 h1]
      refine ⟨fun e he => ?_, fun t h2 h3 => ?_⟩
      · rw [List.mem_append, List.mem_singleton] at he
        show 0 ≤ e.2.2 ∧ e.2.2 < (((b.1 ++ _).length : Nat) : Int)
        rw [List.length_append, List.length_singleton]
        rcases he with he | rfl
        · have := h.tgt e he; omega
        · show 0 ≤ ((_ : Nat) : Int) ∧ ((_ : Nat) : Int) < _; omega
      · have h3 : t < b.1.length + 1 := by
          have h4 : t < (b.1 ++ [stN es (b.1.getD i 0) l]).length := h3
          rwa [List.length_append, List.length_singleton] at h4
        show ∃ e, fstE (b.2 ++ _) _ = some e ∧ _
        by_cases ht : t = b.1.length
        · subst ht
          have hn : fstE b.2 ((b.1.length : Nat) : Int) = none := by
            unfold fstE
            rw [List.find?_eq_none]
            intro e he
            have := h.tgt e he
            simp; omega
          rw [fstE_snoc, hn, if_pos rfl]
          exact ⟨_, rfl, by show (0 : Int) ≤ (i : Int); omega, by show (i : Int) < _; omega⟩
        · obtain ⟨e, h4, h5⟩ := h.ff t h2 (by omega)
          exact ⟨e, by rw [fstE_snoc, h4]; rfl, h5⟩
theorem built_ff {es : List E3} {La S : Nat} {b : Bs} (hb : builtN es La S = some b) : FFN b :=
  built_ind (fun i l b hi h => FFN.vis i l b hi h) ⟨fun e he => (by cases he), fun t h1 h2 => (by have h3 : t < 1 := h2; omega)⟩ hb
/-- The labels that lead to a set, the last one first. -/
def labP (es : List E3) : Nat → Nat → List Int
  | 0, _ => []
  | k + 1, s => if s = 0 then [] else match fstE es (s : Int) with
    | none => []
    | some e => e.2.1 :: labP es k e.1.toNat
def labF (es : List E3) (s : Nat) : List Int := (labP es s s).reverse
theorem labP_zero (es : List E3) : ∀ k, labP es k 0 = []
  | 0 => rfl
  | k + 1 => by unfold labP; rw [if_pos rfl]
theorem labP_step {es : List E3} {k s : Nat} {e : E3} (hs : s ≠ 0) (h : fstE es (s : Int) = some e) : labP es (k + 1) s = e.2.1 :: labP es k e.1.toNat := by rw [labP, if_neg hs, h]
theorem labP_more {b : Bs} (h : FFN b) : ∀ (k s : Nat), s ≤ k → s < b.1.length → labP b.2 k s = labP b.2 s s
  | 0, s, hk, _ => by
    obtain rfl : s = 0 := by omega
    rfl
  | k + 1, s, hk, hl => by
    by_cases hs : s = 0
    · subst hs; rw [labP_zero, labP_zero]
    · obtain ⟨e, h1, h2, h3⟩ := h.ff s (by omega) hl
      obtain ⟨m, rfl⟩ : ∃ m, s = m + 1 := ⟨s - 1, by omega⟩
      rw [labP_step hs h1, labP_step hs h1, labP_more h k e.1.toNat (by omega) (by omega), labP_more h m e.1.toNat (by omega) (by omega)]
theorem fstE_at {es : List E3} {t : Int} {i : Nat} {e : E3} (hi : es[i]? = some e) (he : e.2.2 = t) (hn : fstE (es.take i) t = none) : fstE es t = some e := by
  have h1 := List.take_append_drop i es
  have h2 : es.drop i = e :: es.drop (i + 1) := drop_at hi
  rw [← h1, h2]
  unfold fstE at hn ⊢
  rw [List.find?_append, hn, List.find?_cons, show (e.2.2 == t) = true by rw [beq_iff_eq]; exact he]
  rfl
theorem labP_len (es : List E3) : ∀ (k s : Nat), (labP es k s).length ≤ k
  | 0, _ => Nat.le_refl _
  | k + 1, s => by
    unfold labP
    split
    · exact Nat.zero_le _
    · split
      · exact Nat.zero_le _
      · rw [List.length_cons]; have := labP_len es k; exact Nat.succ_le_succ (this _)
/-- What Focus returns. -/
def focN (b : Bs) : List Int × Int × Bool := match b.1.findIdx? fun S => (memN S).length == 1 with
  | none => ([], 0, false)
  | some i => (labF b.2 i, (memN (b.1.getD i 0)).headD 0, true)
def focR (La S : Int) (es : List E3) : List Int × Int × Bool × Int :=
  if (buildR La S es).1 = 0 then ((focN (buildR La S es).2).1, (focN (buildR La S es).2).2.1, (focN (buildR La S es).2).2.2, 0) else ([], 0, false, (buildR La S es).1)
end Go.Proofs.YtblkijdodojaeaaDoor
