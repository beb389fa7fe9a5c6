/- What the function does that subset.build hands to Follow: an edge more, and its set, if it is new. Conditions: at most 1000 sets and 100000 edges. What states.Moves.Follow does with the function of subset.build; what subset.members returns. Conditions: as Step; at most 1000 sets. What subset.build returns: the graph of sets, or the error that there are too many. Conditions: a valid graph, a set of its states that is not empty. -/
import Derived.Test.YtiockphjnkehnaaGreatDoorQ12

namespace Go.Proofs.YtiockphjnkehnaaGreatDoor
open Go.RowKit Go.Maps
set_option linter.unusedSimpArgs false
set_option linter.unusedVariables false

structure VB (lo p8 p9 p10 p11 p12 Bm : Nat) (La : Int) (i : Nat) (b : Bs) (Wm W : World) : Prop where
  bl : Below lo Wm W
  ns : NS lo p8 p9 Bm b.1 W
  x10 : Boxed W p10 99 (.func (.func 76) #[] #[.pointer (some ⟨p8, 0, none⟩), .pointer (some ⟨p9, 0, none⟩)])
  x12 : Boxed W p12 3 (.int .i64 (i : Int))
  gr : ∃ v, GBox W p11 (.int .i64 La) (.int .i64 0) v ∧ EdgesAt W lo v b.2
structure PB (lo p8 p9 p10 p11 p12 Bm : Nat) : Prop where
  l8 : lo ≤ p8
  l9 : lo ≤ p9
  l10 : lo ≤ p10
  l11 : lo ≤ p11
  l12 : lo ≤ p12
  lB : lo ≤ Bm
theorem VB.drew {lo p8 p9 p10 p11 p12 Bm i : Nat} {La : Int} {b : Bs} {Wm W : World} (h : VB lo p8 p9 p10 p11 p12 Bm La i b Wm W) : VB lo p8 p9 p10 p11 p12 Bm La i b Wm W.drew :=
  ⟨h.bl.drew, ⟨h.ns.x8, h.ns.mp, h.ns.st⟩, h.x10, h.x12, h.gr⟩
theorem VB.keep {lo p8 p9 p10 p11 p12 Bm i : Nat} {La : Int} {b : Bs} {Wm W W' : World} (h : VB lo p8 p9 p10 p11 p12 Bm La i b Wm W) (hlo : lo ≤ W.heap.size) (hb : Below W.heap.size W W') : VB lo p8 p9 p10 p11 p12 Bm La i b Wm W' := by
  obtain ⟨v, h1, h2⟩ := h.gr
  have hg := grown_none hb
  exact ⟨h.bl.trans (hb.mono hlo), h.ns.keep hb, h.x10.kept hg (by simp), h.x12.kept hg (by simp), v, h1.keep hb, h2.keep hb⟩
def SV (p10 p11 p12 : Nat) (v f : Value) (i : Nat) (W : World) : Prop := W.cell? ⟨p11, 2, none⟩ = some v ∧ W.cell? ⟨p12, 0, none⟩ = some (.int .i64 (i : Int)) ∧ W.cell? ⟨p10, 0, none⟩ = some f
theorem SV.keep {p10 p11 p12 i : Nat} {v f : Value} {W W' : World} (h : SV p10 p11 p12 v f i W) (hb : Below W.heap.size W W') : SV p10 p11 p12 v f i W' := ⟨cell_keep h.1 hb, cell_keep h.2.1 hb, cell_keep h.2.2 hb⟩
theorem boxed_app {W5 W4 : World} {p : Nat} {t e : TypeId} {u v : Value} {A s k : Nat} {xs : List Value} {o : Obj} (h : Boxed W5 p t u) (hr : W5.ownsRow A e s v k xs) (hte : t ≠ e) (hg : (W5.alloc o).grownBy W4 v.ownBlock) : Boxed W4 p t u :=
  (h.alloc o).kept hg ((h.alloc o).not_row hte (hr.alloc o))
theorem GBox.grow {W W' : World} {p : Nat} {x y z : Value} (h : GBox W p x y z) {t : TypeId} {A s k : Nat} {v : Value} {xs : List Value} (hr : W.ownsRow A t s v k xs) (ht : t ≠ 24) (hg : W.grownBy W' v.ownBlock) : GBox W' p x y z :=
  (hg.block p h.lt (fun e => h.not_row ht hr e.symm)).trans h
theorem vb_end {lo p8 p9 p10 p11 p12 Bm i l z m : Nat} {La : Int} {sets : List Nat} {es : List E3} {Wm W5 W4 : World} {v v4 : Value} {o : Obj} (hp : PB lo p8 p9 p10 p11 p12 Bm) (hlo : lo ≤ (W5.alloc o).heap.size) (hb : Below lo Wm W5) (hn : NS lo p8 p9 Bm sets W5)
    (h10 : Boxed W5 p10 99 (.func (.func 76) #[] #[.pointer (some ⟨p8, 0, none⟩), .pointer (some ⟨p9, 0, none⟩)])) (h12 : Boxed W5 p12 3 (.int .i64 (i : Int)))
    (hg : GBox W5 p11 (.int .i64 La) (.int .i64 0) v) (hl5 : lo ≤ W5.heap.size) (hown : W5.ownsRow lo 39 3 v m (ecl es)) (hm : es.length = m)
    (r1 : W4.ownsRow lo 39 3 v4 (m + 1) (ecl es ++ [.int .i64 (i : Int), .int .i64 (l : Int), .int .i64 (z : Int)])) (r2 : (W5.alloc o).grownBy W4 v.ownBlock) :
    VB lo p8 p9 p10 p11 p12 Bm La i (sets, es ++ [((i : Int), (l : Int), (z : Int))]) Wm (W4.setCell ⟨p11, 2, none⟩ v4) := by
  have ho := hown.alloc o
  have hn1 : NS lo p8 p9 Bm sets (W5.alloc o) := hn.keep (below1 W5 o)
  have e10 := (h10.alloc o).kept r2 ((h10.alloc o).not_row (by decide) ho)
  have e12 := (h12.alloc o).kept r2 ((h12.alloc o).not_row (by decide) ho)
  have hg4 := (hg.keep (below1 W5 o)).grow ho (by decide) r2
  have hn4 : NS lo p8 p9 Bm sets W4 := hn1.grown r2 (fun k e => by
    obtain ⟨c, fr, h⟩ := row_cells ho e
    exact ⟨c, _, fr, h, by decide, by decide, by decide⟩)
  have hb4 : Below lo Wm W4 := (hb.alloc hl5 o).grown r2 hlo (fun k e => (ho.lt k e).1)
  have ge : ∀ {p : Nat} {t : TypeId} {u : Value}, Boxed W4 p t u → t ≠ 24 → some p ≠ some p11 := fun {p t u} h ht e => by
    injection e with e
    subst e
    have h5 := (show W4.heap[p]? = _ from h).symm.trans hg4
    simp at h5
  refine ⟨hb4.setCell hp.l11 _, hn4.grown (grownBy_setCellJ W4 p11 2 v4) (fun k e => by injection e with e; subst e; exact ⟨_, _, _, hg4, by decide, by decide, by decide⟩), e10.kept (grownBy_setCellJ W4 p11 2 v4) (ge e10 (by decide)), e12.kept (grownBy_setCellJ W4 p11 2 v4) (ge e12 (by decide)), v4, ?_, ?_⟩
  · obtain ⟨hlt, hk⟩ := Array.getElem?_eq_some_iff.1 hg4
    unfold GBox World.setCell
    simp [Array.getElem?_modify, Array.getElem?_eq_getElem hlt, hk]
  · unfold EdgesAt
    rw [List.length_append, ecl_snoc, hm]
    exact r1.kept (grownBy_setCellJ W4 p11 2 v4) (.inr (hg4.not_row (by decide) r1))
set_option maxRecDepth 100000 in
set_option maxHeartbeats 6400000 in
theorem edge_any (lo p8 p9 p10 p11 p12 Bm : Nat) (La : Int) (i l T : Nat) (b : Bs) (Wm W : World) (h : VB lo p8 p9 p10 p11 p12 Bm La i b Wm W) (hp : PB lo p8 p9 p10 p11 p12 Bm) (hlo : lo ≤ W.heap.size) (hT : T < 18446744073709551616) (hd : b.1.Nodup) (hl : b.1.length ≤ 1000) (hm : b.2.length ≤ 100000) :
    Calls Tryz.prog 78 #[.int .i64 (l : Int), u64v T, .pointer (some ⟨p11, 0, none⟩), .pointer (some ⟨p12, 0, none⟩), .pointer (some ⟨p10, 0, none⟩)] W fun e W' => (∃ u, e = .returned u) ∧
      VB lo p8 p9 p10 p11 p12 Bm La i (addN b.1 T, b.2 ++ [((i : Int), (l : Int), ((b.1.idxOf T : Nat) : Int))]) Wm W' := by
  obtain ⟨i0, hi, hz0, hz1, hz2⟩ := info_parts Tryz.infoEdge
  have hmx : Tryz.prog.follows .mixedOrders = true := by kernel_rfl
  have hD := h.drew
  obtain ⟨v, hg, he⟩ := h.gr
  obtain ⟨a9, c9, rfl⟩ := own_slice he
  obtain ⟨g1, g2, g3, f1, f2, f3⟩ := hg.cells
  have x10 := h.x10.cell
  have x12 := h.x12.cell
  have HN := Lib.hid (number_any lo p8 p9 Bm b.1 T Wm W.drew hD.ns hD.bl hlo hp.l9 hp.lB hT hd hl)
  have HV := Lib.hid h
  have HP := Lib.hid hp
  have HG := Lib.hid hg
  have HE := Lib.hid he
  obtain ⟨z, hz⟩ : ∃ z, b.1.idxOf T = z := ⟨_, rfl⟩
  rw [hz] at HN ⊢
  obtain ⟨m, hmm⟩ : ∃ m, b.2.length = m := ⟨_, rfl⟩
  have HM := Lib.hid hmm
  rw [hmm] at hm HG g3 HE
  clear h hd he hD hz hp hmm hg
  go_enter Tryz.func78, Tryz.ntmps78
  have hR0 : SV p10 p11 p12 (.slice a9 m c9) (.func (.func 76) #[] #[.pointer (some ⟨p8, 0, none⟩), .pointer (some ⟨p9, 0, none⟩)]) i W.drew := ⟨g3, x12, x10⟩
  clear g1 g2 g3 f1 f2 f3 x10 x12
  refine regionT (T := T2 11 11 (SV p10 p11 p12 (.slice a9 m c9) (.func (.func 76) #[] #[.pointer (some ⟨p8, 0, none⟩), .pointer (some ⟨p9, 0, none⟩)]) i) (SV p10 p11 p12 (.slice a9 m c9) (.func (.func 76) #[] #[.pointer (some ⟨p8, 0, none⟩), .pointer (some ⟨p9, 0, none⟩)]) i)) hmx ?_
  have hR := hR0
  refine take1 (i := 0) (v := ?_) rfl (by kernel_rfl) (by kernel_rfl) (by kernel_rfl) (by kernel_rfl) (by kernel_rfl) (by decide) (by decide) (fun _ _ _ h => h) (Or.inl ⟨by rfl, ?_⟩) hR hR ?_
  rotate_left
  · intro w hSw
    (try unfold SV at hSw)
    go_simp
    all_goals with_reducible rfl
  (try simp only [Act.put, List.setIfInBounds_toArray, List.set_cons_zero, List.set_cons_succ])
  refine take1 (i := 1) (v := ?_) rfl (by kernel_rfl) (by kernel_rfl) (by kernel_rfl) (by kernel_rfl) (by kernel_rfl) (by decide) (by decide) (fun _ _ _ h => h) (Or.inl ⟨by rfl, ?_⟩) hR hR ?_
  rotate_left
  · intro w hSw
    (try unfold SV at hSw)
    go_simp
    all_goals with_reducible rfl
  (try simp only [Act.put, List.setIfInBounds_toArray, List.set_cons_zero, List.set_cons_succ])
  refine take1 (i := 2) (v := ?_) rfl (by kernel_rfl) (by kernel_rfl) (by kernel_rfl) (by kernel_rfl) (by kernel_rfl) (by decide) (by decide) (fun _ _ _ h => h) (Or.inl ⟨by rfl, ?_⟩) hR hR ?_
  rotate_left
  · intro w hSw
    (try unfold SV at hSw)
    go_simp
    all_goals with_reducible rfl
  (try simp only [Act.put, List.setIfInBounds_toArray, List.set_cons_zero, List.set_cons_succ])
  refine take1 (i := 3) (v := ?_) rfl (by kernel_rfl) (by kernel_rfl) (by kernel_rfl) (by kernel_rfl) (by kernel_rfl) (by decide) (by decide) (fun _ _ _ h => h) (Or.inl ⟨by rfl, ?_⟩) hR hR ?_
  rotate_left
  · intro w hSw
    (try unfold SV at hSw)
    go_simp
    all_goals with_reducible rfl
  (try simp only [Act.put, List.setIfInBounds_toArray, List.set_cons_zero, List.set_cons_succ])
  refine take1 (i := 4) (v := ?_) rfl (by kernel_rfl) (by kernel_rfl) (by kernel_rfl) (by kernel_rfl) (by kernel_rfl) (by decide) (by decide) (fun _ _ _ h => h) (Or.inl ⟨by rfl, ?_⟩) hR hR ?_
  rotate_left
  · intro w hSw
    (try unfold SV at hSw)
    go_simp
    all_goals with_reducible rfl
  (try simp only [Act.put, List.setIfInBounds_toArray, List.set_cons_zero, List.set_cons_succ])
  refine take1 (i := 5) (v := ?_) rfl (by kernel_rfl) (by kernel_rfl) (by kernel_rfl) (by kernel_rfl) (by kernel_rfl) (by decide) (by decide) (fun _ _ _ h => h) (Or.inl ⟨by rfl, ?_⟩) hR hR ?_
  rotate_left
  · intro w hSw
    (try unfold SV at hSw)
    go_simp
    all_goals with_reducible rfl
  (try simp only [Act.put, List.setIfInBounds_toArray, List.set_cons_zero, List.set_cons_succ])
  refine stepT (i := 6) (by kernel_rfl) rfl (fun K hK => ?_)
  go_simp
  go_at_call 76
  (with_reducible refine HN.out.mono ?_)
  rintro e0 W5 ⟨rfl, n5, b5, k5⟩
  have hg5 := k5.gbox (W := W.drew) (show GBox W.drew p11 _ _ _ from HG.out)
  have he5 : EdgesAt W5 lo (.slice a9 m c9) b.2 := k5.row (W := W.drew) (show W.drew.ownsRow _ _ _ _ _ _ from HE.out) (by decide) (by decide)
  have h10 := k5.boxed (W := W.drew) HV.out.drew.x10 (by decide) (by decide)
  have h12 := k5.boxed (W := W.drew) HV.out.drew.x12 (by decide) (by decide)
  have hR5 : SV p10 p11 p12 (.slice a9 m c9) (.func (.func 76) #[] #[.pointer (some ⟨p8, 0, none⟩), .pointer (some ⟨p9, 0, none⟩)]) i W5 := ⟨hg5.cells.2.2.1, h12.cell, h10.cell⟩
  have hl5 := k5.1
  have hown : W5.ownsRow lo 39 3 (.slice a9 m c9) m (ecl b.2) := by have h0 := he5; unfold EdgesAt at h0; rw [HM.out] at h0; exact h0
  go_wp2_with fail
  refine hK.out _ _ ⟨fun _ => hR5, fun _ => hR5⟩ ?_
  clear hK K hR
  have hR := hR5
  (try simp only [Act.put, List.setIfInBounds_toArray, List.set_cons_zero, List.set_cons_succ])
  refine take1 (i := 7) (v := ?_) rfl (by kernel_rfl) (by kernel_rfl) (by kernel_rfl) (by kernel_rfl) (by kernel_rfl) (by decide) (by decide) (fun _ _ _ h => h) (Or.inl ⟨by rfl, ?_⟩) hR hR ?_
  rotate_left
  · intro w hSw
    (try unfold SV at hSw)
    go_simp
    all_goals with_reducible rfl
  (try simp only [Act.put, List.setIfInBounds_toArray, List.set_cons_zero, List.set_cons_succ])
  refine stepT (i := 8) (by kernel_rfl) rfl (fun K hK => ?_)
  go_simp
  have hR6 := hR5.keep (below1 W5 (.cells #[.int .i64 (i : Int), .int .i64 (l : Int), .int .i64 (z : Int)] 39))
  refine hK.out _ _ ⟨fun _ => hR6, fun _ => hR6⟩ ?_
  clear hK K hR
  have hR := hR6
  (try simp only [Act.put, List.setIfInBounds_toArray, List.set_cons_zero, List.set_cons_succ])
  refine stepT (i := 9) (by kernel_rfl) rfl (fun K hK => ?_)
  refine step_append_lies _ (by rfl) (.tmp 8) (.tmp 15) 22 (by rfl) lo 39 i0 (.agg #[.int .i64 0, .int .i64 0, .int .i64 0]) 3 24 Tryz.underlying22 hi hz0 hz1 hz2 rfl (by decide) (.slice a9 m c9) m (ecl b.2) (by rfl) (hown.alloc _) ⟨W5.heap.size, 0, none⟩ 1 1 [.int .i64 (i : Int), .int .i64 (l : Int), .int .i64 (z : Int)] (by rfl) (by rfl) (cell_three_new _ _ _ _ _) (by intro u hu; simp at hu; rcases hu with rfl | rfl | rfl <;> rfl) (by decide) (by unfold maxLen; omega) (by omega) (by rw [World.size_alloc]; have h7 : W.drew.heap.size = W.heap.size := rfl; omega) _ rfl ?_
  intro g9 d9 W4 r1 r2 r3 r4
  have hG4 := (hg5.keep (below1 W5 (.cells #[.int .i64 (i : Int), .int .i64 (l : Int), .int .i64 (z : Int)] 39))).grow (hown.alloc _) (by decide) r2
  have hR4 : SV p10 p11 p12 (.slice a9 m c9) (.func (.func 76) #[] #[.pointer (some ⟨p8, 0, none⟩), .pointer (some ⟨p9, 0, none⟩)]) i W4 := ⟨hG4.cells.2.2.1, (boxed_app h12 hown (by decide) r2).cell, (boxed_app h10 hown (by decide) r2).cell⟩
  have f4 := hG4.cells.2.2.2.2.2
  have c4 := hG4.cells.2.2.1
  have HF := Lib.hid (vb_end HP.out (by rw [World.size_alloc]; have h7 : W.drew.heap.size = W.heap.size := rfl; omega : lo ≤ (W5.alloc (.cells #[.int .i64 (i : Int), .int .i64 (l : Int), .int .i64 (z : Int)] 39)).heap.size) b5 n5 h10 h12 hg5 (by have h7 : W.drew.heap.size = W.heap.size := rfl; omega) hown (by have h0 := HM.out; exact h0) r1 r2)
  refine hK.out _ _ ⟨fun _ => hR4, fun _ => hR4⟩ ?_
  clear hK K hR
  have hR := hR4
  (try simp only [Act.put, List.setIfInBounds_toArray, List.set_cons_zero, List.set_cons_succ])
  refine take1 (i := 10) (v := ?_) rfl (by kernel_rfl) (by kernel_rfl) (by kernel_rfl) (by kernel_rfl) (by kernel_rfl) (by decide) (by decide) (fun _ _ _ h => h) (Or.inl ⟨by rfl, ?_⟩) hR hR ?_
  rotate_left
  · intro w hSw
    (try unfold SV at hSw)
    go_simp
    all_goals with_reducible rfl
  (try simp only [Act.put, List.setIfInBounds_toArray, List.set_cons_zero, List.set_cons_succ])
  refine stepT (i := 11) (by kernel_rfl) rfl (fun K hK => ?_)
  go_simp
  refine hK.out _ _ ⟨fun h => absurd h (by decide), fun h => absurd h (by decide)⟩ ?_
  clear hK K
  (try simp only [Act.put, List.setIfInBounds_toArray, List.set_cons_zero, List.set_cons_succ])
  refine doneT (by kernel_rfl) ?_ _
  go_wp2_with fail
  go_end0
  refine ⟨⟨_, rfl⟩, ?_⟩
  exact HF.out
end Go.Proofs.YtiockphjnkehnaaGreatDoor

namespace Go.Proofs.YtiockphjnkehnaaGreatDoor
open Go.RowKit Go.Maps
set_option linter.unusedSimpArgs false
set_option linter.unusedVariables false

theorem Tryz.build2E (args : Array Value) (w : World) : (callFunc 78 args).run Tryz.prog w = .ok (.enter 78 args) w := by
  simp [callFunc, go_sem, Tryz.func78, Tryz.f78]
set_option maxRecDepth 100000 in
set_option maxHeartbeats 3200000 in
theorem follow_any (es : List E3) (L n : Nat) (v c1 c2 c3 : Value) (S : Nat) (w : World) (J : Nat → World → Prop) (hS : S < 18446744073709551616) (hbit : ∀ i, S.testBit i = true → i < n) (hn : n ≤ 64) (hL : L ≤ 256)
    (hJ : J 0 w) (hM : ∀ k X, J k X → MvRd X v es L n) (hT : ∀ k X, J k X → TabD X) (hK : ∀ k X Y, J k X → Below X.heap.size X Y → J k Y)
    (hdo : ∀ k X, k < L → J k X → stN es S k ≠ 0 → Calls Tryz.prog 78 #[.int .i64 (k : Int), u64v (stN es S k), c1, c2, c3] X fun e X' => (∃ u, e = .returned u) ∧ J (k + 1) X')
    (hno : ∀ k X, k < L → J k X → stN es S k = 0 → J (k + 1) X) :
    Calls Tryz.prog 77 #[v, u64v S, .func (.func 78) #[] #[c1, c2, c3]] w fun e w' => (∃ u, e = .returned u) ∧ J L w' := by
  have hE := Tryz.build2E
  obtain ⟨b0, rfl, -⟩ := hM 0 w hJ
  have HST := Lib.hid (fun k X (hk : k < L) (h : J k X) => mstep_any es L n (.slice (some ⟨b0, 0, none⟩) L L) S k X (hM k X h) hS hbit hn hk (hT k X h))
  have HK := Lib.hid hK
  have HD := Lib.hid hdo
  have HNO := Lib.hid hno
  have HJ := Lib.hid hJ
  have HLT := Lib.hid (fun k => stN_lt es S k)
  clear hJ hM hT hK hdo hno hbit hS
  go_enter Tryz.func77, Tryz.ntmps77
  go_wp2_with fail
  go_loopg [10] L (fun q s10 wx => ∃ i : Nat, i + q = L ∧ s10 = .int .i64 (i : Int) ∧ Hid (J i wx))
  case atStart => exact ⟨0, by omega, rfl, HJ⟩
  case round =>
    clear HJ
    obtain ⟨i, hin, rfl, hJ⟩ := hrel
    rcases gk with _ | q
    · obtain rfl : i = L := by omega
      go_wp2_with fail
      go_end0
      exact ⟨⟨_, rfl⟩, hJ.out⟩
    · have j1 : (i : Int) < (L : Int) := by omega
      have hil : i < L := by omega
      have HC := Lib.hid (HST.out i wr hil hJ.out)
      by_cases h0 : stN es S i = 0
      · rw [h0] at HC
        have HN := Lib.hid (fun X hX => HNO.out i X hil hX h0)
        clear h0
        go_wp2_with (go_at_call 99; (with_reducible refine HC.out.mono ?_); rintro e W1 ⟨rfl, b1⟩; (have HJ2 := Lib.hid (HN.out W1 (HK.out i wr W1 hJ.out b1))))
        go_roundg q
        case measure => omega
        case rel => exact ⟨i + 1, by omega, by go_num, HJ2⟩
      · have HDD := Lib.hid (fun X hX => HD.out i X hil hX h0)
        obtain ⟨T, hT⟩ : ∃ T, stN es S i = T := ⟨_, rfl⟩
        rw [hT] at HC HDD h0
        have j0 : ((T : Int) != 0) = true := by rw [bne_iff_ne]; omega
        clear hT h0
        go_wp2_with (first
          | (go_at_call 99; (with_reducible refine HC.out.mono ?_); rintro e W1 ⟨rfl, b1⟩; (have HJ1 := Lib.hid (HK.out i wr W1 hJ.out b1)))
          | ((with_reducible refine (HDD.out _ HJ1.out).mono ?_); rintro e W2 ⟨⟨u2, rfl⟩, hj2⟩; (have HJ2 := Lib.hid hj2)))
        go_roundg q
        case measure => omega
        case rel => exact ⟨i + 1, by omega, by go_num, HJ2⟩
def SetsRd (W : World) (v : Value) (l : List Nat) : Prop := ∃ a c, v = .slice a l.length c ∧ ∀ (i : Nat) (S : Nat), l[i]? = some S → ∃ b off, a = some ⟨b, off, none⟩ ∧ W.cell? ⟨b, off + i, none⟩ = some (u64v S)
theorem SetsRd.keep {W W' : World} {v : Value} {l : List Nat} (h : SetsRd W v l) (hb : Below W.heap.size W W') : SetsRd W' v l := by
  obtain ⟨a, c, rfl, h1⟩ := h
  refine ⟨a, c, rfl, fun i x hx => ?_⟩
  obtain ⟨b, off, rfl, k⟩ := h1 i x hx
  exact ⟨b, off, rfl, cell_keep k hb⟩
theorem sets_rd {W : World} {lo : Nat} {v : Value} {l : List Nat} (h : W.ownsRow lo 70 1 v l.length (setz l)) : SetsRd W v l := by
  obtain ⟨a, c, rfl⟩ := own_slice h
  refine ⟨a, c, rfl, fun i x hx => ?_⟩
  have hi : i < l.length := (List.getElem?_eq_some_iff.1 hx).1
  obtain ⟨g, c2, hv, -, -⟩ := World.ownsRow.form h (by omega)
  injection hv with e1 e2 e3
  subst e1
  refine ⟨g, 0, rfl, ?_⟩
  rw [Nat.zero_add, World.ownsRow.cellAt h i (by omega)]
  unfold setz
  rw [List.getElem?_map, hx]; rfl
structure MB (w : World) (b n i : Nat) (sets : List Nat) (vs : Nat → Value) (W : World) : Prop where
  bl : Below w.heap.size w W
  row : W.rowIs b 30 n vs
  own : ∀ j, j < i → IntsAt W (b + 1) (vs j) (memN (sets.getD j 0))
theorem rows_hi {W : World} {b n : Nat} {sets : List Nat} {vs : Nat → Value} (hn : sets.length = n) (hrow : W.rowIs b 30 n vs) (hown : ∀ j, j < n → IntsAt W (b + 1) (vs j) (memN (sets.getD j 0))) : RowsRd W (.slice (some ⟨b, 0, none⟩) n n) (sets.map memN) := by
  subst hn
  refine ⟨_, _, by rw [List.length_map], fun i r hr => ?_⟩
  rw [List.getElem?_map] at hr
  obtain ⟨S, hS, rfl⟩ := Option.map_eq_some_iff.1 hr
  have hi : i < sets.length := (List.getElem?_eq_some_iff.1 hS).1
  refine ⟨b, 0, vs i, rfl, by rw [Nat.zero_add]; exact World.rowIs.cell hrow hi, ?_⟩
  have h2 := (hown i hi).rd
  rw [List.getD_eq_getElem?_getD, hS] at h2
  exact h2
theorem rows_over {W : World} {b n : Nat} {sets : List Nat} {vs : Nat → Value} (hrow : W.rowIs b 30 n vs) (hown : ∀ j, j < n → IntsAt W (b + 1) (vs j) (memN (sets.getD j 0))) (a : Addr) (ha : a.block < b) (u : Value) :
    (W.setCell a u).rowIs b 30 n vs ∧ ∀ j, j < n → IntsAt (W.setCell a u) (b + 1) (vs j) (memN (sets.getD j 0)) :=
  ⟨World.rowIs.setOther hrow (by omega) u, fun j hj => ownsRow_setCell_below (hown j hj) (by omega) u⟩
def RowsAt (W : World) (A : Nat) (v : Value) (sets : List Nat) : Prop := (v = .slice none 0 0 ∧ sets = []) ∨ ∃ b vs, v = .slice (some ⟨b, 0, none⟩) sets.length sets.length ∧ A ≤ b ∧ W.rowIs b 30 sets.length vs ∧ ∀ j, j < sets.length → IntsAt W (b + 1) (vs j) (memN (sets.getD j 0))
section
variable {W W' : World} {A B : Nat} {v : Value} {sets : List Nat}
theorem RowsAt.keep (h : RowsAt W A v sets) (hb : Below W.heap.size W W') : RowsAt W' A v sets := by
  rcases h with h | ⟨b, vs, h1, h2, h3, h4⟩
  · exact .inl h
  · exact .inr ⟨b, vs, h1, h2, World.rowIs.of_block h3 (hb.block b (World.rowIs.lt h3)), fun j hj => (h4 j hj).keep hb⟩
theorem RowsAt.low (h : RowsAt W A v sets) (hB : B ≤ A) : RowsAt W B v sets := by
  rcases h with h | ⟨b, vs, h1, h2, h3, h4⟩
  · exact .inl h
  · exact .inr ⟨b, vs, h1, by omega, h3, h4⟩
theorem RowsAt.set (h : RowsAt W A v sets) (a : Addr) (ha : a.block < A) (u : Value) : RowsAt (W.setCell a u) A v sets := by
  rcases h with h | ⟨b, vs, h1, h2, h3, h4⟩
  · exact .inl h
  · obtain ⟨o1, o2⟩ := rows_over h3 h4 a (by omega) u
    exact .inr ⟨b, vs, h1, h2, o1, o2⟩
theorem RowsAt.over (h : RowsAt W A v sets) {b : Nat} (hb : b < A) (x y z : Value) (hB : B ≤ A) : RowsAt (((W.setCell ⟨b, 0, none⟩ x).setCell ⟨b, 1, none⟩ y).setCell ⟨b, 2, none⟩ z) B v sets :=
  (((h.set ⟨b, 0, none⟩ hb x).set ⟨b, 1, none⟩ hb y).set ⟨b, 2, none⟩ hb z).low hB
theorem RowsAt.rd (h : RowsAt W A v sets) : RowsRd W v (sets.map memN) := by
  rcases h with ⟨rfl, rfl⟩ | ⟨b, vs, rfl, h2, h3, h4⟩
  · exact ⟨none, 0, rfl, fun i r hr => by simp at hr⟩
  · exact rows_hi rfl h3 h4
theorem RowsAt.form (h : RowsAt W A v sets) : ∃ a, v = .slice a sets.length sets.length := by
  rcases h with ⟨rfl, rfl⟩ | ⟨b, vs, rfl, _⟩
  · exact ⟨_, rfl⟩
  · exact ⟨_, rfl⟩
theorem RowsAt.nil (W : World) (A : Nat) : RowsAt W A (.slice none 0 0) [] := .inl ⟨rfl, rfl⟩
end
set_option maxRecDepth 100000 in
set_option maxHeartbeats 3200000 in
theorem membs_any (sets : List Nat) (v : Value) (w : World) (h : SetsRd w v sets) (hl : sets.length ≤ 1000) (hs : ∀ S ∈ sets, S < 18446744073709551616) (hT : TabD w) :
    Calls Tryz.prog 79 #[v] w fun e w' => ∃ vs, e = .returned (.slice (some ⟨w.heap.size, 0, none⟩) sets.length sets.length) ∧ MB w w.heap.size sets.length sets.length sets vs w' := by
  have HMR := make_rows sets.length (by omega)
  have HR := Lib.hid h
  obtain ⟨a, c, rfl, -⟩ := h
  have HS := Lib.hid hs
  have HT := Lib.hid hT
  have M0 := Lib.hid (show MB w w.heap.size sets.length 0 sets (fun _ => .slice none 0 0) (w.alloc (.cells (madeCells #[.slice none 0 0] sets.length) 30)) from ⟨below1 w _, World.rowIs_made w _ _ _, fun j hj => absurd hj (Nat.not_lt_zero _)⟩)
  clear hs hT
  go_enter Tryz.func79, Tryz.ntmps79
  go_wp2_with fail
  go_loopg [11] sets.length (fun q s11 wx => ∃ (i : Nat) (vs : Nat → Value), i + q = sets.length ∧ s11 = .int .i64 (i : Int) ∧ Hid (MB w w.heap.size sets.length i sets vs wx))
  case atStart => exact ⟨0, _, by omega, rfl, M0⟩
  case round =>
    clear M0
    obtain ⟨i, vs, hin, rfl, M⟩ := hrel
    rcases gk with _ | q
    · obtain rfl : i = sets.length := by omega
      go_wp2_with fail
      go_ret
      exact ⟨vs, rfl, M.out⟩
    · obtain ⟨S, hx⟩ : ∃ S, sets[i]? = some S := ⟨_, List.getElem?_eq_getElem (by omega)⟩
      obtain ⟨b, off, hv, k1⟩ : ∃ b off, a = some ⟨b, off, none⟩ ∧ wr.cell? ⟨b, off + i, none⟩ = some (u64v S) := by
        obtain ⟨a2, c2, he, h2⟩ := HR.out.keep M.out.bl
        injection he with e1 _ _
        subst e1
        exact h2 i S hx
      subst hv
      have hS64 := HS.out S (List.mem_of_getElem? hx)
      have HC := Lib.hid (memb_any S wr hS64 (HT.out.keep M.out.bl))
      have j1 : (i : Int) < (sets.length : Int) := by omega
      have hil : i < sets.length := by omega
      have HX := Lib.hid hx
      clear hx hS64
      go_wp2_with (go_at_call 100; (with_reducible refine HC.out.mono ?_); rintro e W1 ⟨u, rfl, hu, b1⟩; (have HU := Lib.hid hu); (have hrow := World.rowIs.of_block M.out.row (b1.block w.heap.size (World.rowIs.lt M.out.row))); (have c1 := World.rowIs.cell hrow hil); (have f1 := World.rowIs.frozen hrow i); (have HW := Lib.hid (World.rowIs.lt M.out.row)); (obtain ⟨au, cu, rfl⟩ := hu.slice))
      go_roundg q
      case measure => omega
      case rel =>
        refine ⟨i + 1, _, by omega, by go_num, Lib.hid ⟨(M.out.bl.trans (b1.mono M.out.bl.size)).setCell (Nat.le_refl _) _, World.rowIs.set hrow i _, fun j hj => ?_⟩⟩
        by_cases e : j = i
        · subst e
          rw [if_pos rfl, List.getD_eq_getElem?_getD, HX.out]
          exact ownsRow_setCell_below (own_low HU.out (by exact HW.out)) (by exact Nat.lt_succ_self _) _
        · rw [if_neg e]
          exact ownsRow_setCell_below ((M.out.own j (by omega)).keep b1) (by exact Nat.lt_succ_self _) _
end Go.Proofs.YtiockphjnkehnaaGreatDoor

namespace Go.Proofs.YtiockphjnkehnaaGreatDoor
open Go.RowKit Go.Maps
set_option linter.unusedSimpArgs false
set_option linter.unusedVariables false

def BN (n : Nat) (l : List Nat) : Prop := ∀ S ∈ l, ∀ i, S.testBit i = true → i < n
theorem stN_small {es : List E3} {L : Int} {n S l : Nat} (hok : ∀ e ∈ es, okE L (n : Int) e = true) : ∀ i, (stN es S l).testBit i = true → i < n := fun i h => by
  rw [stN_bit, Bool.and_eq_true, List.any_eq_true] at h
  obtain ⟨_, e, he, h2⟩ := h
  have h3 := okE_iff.1 (hok e he)
  simp only [Bool.and_eq_true, beq_iff_eq, decide_eq_true_iff] at h2
  omega
theorem visN_small {es : List E3} {L : Int} {n i l : Nat} {b : Bs} (hok : ∀ e ∈ es, okE L (n : Int) e = true) (h : BN n b.1) : BN n (visN es i b l).1 := by
  by_cases h0 : stN es (b.1.getD i 0) l = 0
  · rw [visN_none h0]; exact h
  · by_cases h1 : stN es (b.1.getD i 0) l ∈ b.1
    · rw [visN_old h0 h1]; exact h
    · rw [visN_new h0 h1]
      intro S hS
      rw [List.mem_append, List.mem_singleton] at hS
      rcases hS with hS | rfl
      · exact h S hS
      · exact stN_small hok
theorem rowN_small {es : List E3} {L : Int} {n i : Nat} {b : Bs} (hok : ∀ e ∈ es, okE L (n : Int) e = true) (h : BN n b.1) : ∀ c, BN n (rowN es i b c).1
  | 0 => h
  | c + 1 => by rw [rowN_succ]; exact visN_small hok (rowN_small hok h c)
theorem visN_add {es : List E3} {i l T : Nat} {b : Bs} (hT : stN es (b.1.getD i 0) l = T) (h : T ≠ 0) : visN es i b l = (addN b.1 T, b.2 ++ [((i : Int), (l : Int), ((b.1.idxOf T : Nat) : Int))]) := by
  subst hT
  unfold visN addN
  rw [if_neg h]
def onOk (err La : Int) : Int := if err = 0 then La else 0
def SetsOut (w : World) (La err : Int) (b : Bs) (e : Ending) (w' : World) : Prop :=
  ∃ hv lv, e = .returned (.tuple #[grV (onOk err La) ((b.1.length : Nat) : Int) hv, lv, .int .i64 err]) ∧ EdgesAt w' w.heap.size hv b.2 ∧ RowsAt w' w.heap.size lv b.1 ∧ Below w.heap.size w w'
def bErr : Option Bs → Int
  | none => 4
  | some _ => 0
def bSets : Option Bs → Bs
  | none => ([], [])
  | some b => b
abbrev BuildOut (w : World) (L : Nat) (r : Option Bs) : Ending → World → Prop := SetsOut w (L : Int) (bErr r) (bSets r)
@[go_sem] theorem run_store_func {P : Program} {w : World} (a : Addr) (m : Mode) (f : Fn) (ts cs : Array Value) : (store a (.func f ts cs) m).run P w = stored P w a (.func f ts cs) m := run_store P w a _ m rfl
theorem sets_one (W : World) (S : Nat) : (W.alloc (.cells #[u64v S] 70)).ownsRow W.heap.size 70 1 (.slice (some ⟨W.heap.size, 0, none⟩) 1 1) [S].length (setz [S]) :=
  ⟨rfl, .inr ⟨W.heap.size, 1, #[u64v S], rfl, Nat.le_refl _, heap_alloc_new W _, Nat.le_refl _, by unfold maxLen; omega, rfl, rfl⟩⟩
abbrev W6 (w1 : World) (S Bm : Nat) (La : Int) (p8 p9 B9 : Nat) : World :=
  (((((w1.alloc (.cells #[.map (some Bm)] 96)).alloc (.cells #[u64v S] 70)).alloc (.cells #[.slice (some ⟨B9, 0, none⟩) 1 1] 97)).alloc
    (.cells #[.func (.func 76) #[] #[.pointer (some ⟨p8, 0, none⟩), .pointer (some ⟨p9, 0, none⟩)]] 99)).alloc (.cells #[.int .i64 La, .int .i64 0, .slice none 0 0] 24)).alloc (.cells #[.int .i64 0] 3)
theorem vb_start {Wm w1 : World} {S q : Nat} {La : Int} (hq : w1.heap.size = q) (hm : w1.ownsMap Tryz.prog 70 (plainElem Tryz.prog 3) Wm.heap.size 1 (mapD [S])) (hg : (Wm.alloc (.map #[] 0)).grownBy w1 (some Wm.heap.size)) :
    VB Wm.heap.size q (q + 1 + 1) (q + 1 + 1 + 1) (q + 1 + 1 + 1 + 1) (q + 1 + 1 + 1 + 1 + 1) Wm.heap.size La 0 ([S], []) Wm (W6 w1 S Wm.heap.size La q (q + 1 + 1) (q + 1)) ∧ PB Wm.heap.size q (q + 1 + 1) (q + 1 + 1 + 1) (q + 1 + 1 + 1 + 1) (q + 1 + 1 + 1 + 1 + 1) Wm.heap.size := by
  have hs : Wm.heap.size + 1 ≤ q := by have := hg.size; rw [World.size_alloc] at this; omega
  have hb1 : Below Wm.heap.size Wm w1 := ((Below.refl _ Wm).alloc (Nat.le_refl _) _).grown hg (by rw [World.size_alloc]; omega) (fun k e => by injection e with e; omega)
  refine ⟨?_, ⟨by omega, by omega, by omega, by omega, by omega, Nat.le_refl _⟩⟩
  unfold W6
  obtain ⟨A1, hA1⟩ : ∃ A1, w1.alloc (.cells #[.map (some Wm.heap.size)] 96) = A1 := ⟨_, rfl⟩
  have z1 : A1.heap.size = q + 1 := by rw [← hA1, World.size_alloc, hq]
  have b1 : Boxed A1 q 96 (.map (some Wm.heap.size)) := by rw [← hA1, ← hq]; exact Boxed.new _ _ _
  have m1 := hm.alloc (.cells #[.map (some Wm.heap.size)] 96)
  have k1 := hb1.alloc (by omega) (.cells #[.map (some Wm.heap.size)] 96)
  rw [hA1] at m1 k1 ⊢
  have s2 := sets_one A1 S
  obtain ⟨A2, hA2⟩ : ∃ A2, A1.alloc (.cells #[u64v S] 70) = A2 := ⟨_, rfl⟩
  have z2 : A2.heap.size = q + 1 + 1 := by rw [← hA2, World.size_alloc, z1]
  have b2 := b1.alloc (.cells #[u64v S] 70)
  have m2 := m1.alloc (.cells #[u64v S] 70)
  have k2 := k1.alloc (by omega) (.cells #[u64v S] 70)
  rw [z1] at s2
  rw [hA2] at m2 k2 b2 s2 ⊢
  obtain ⟨A3, hA3⟩ : ∃ A3, A2.alloc (.cells #[.slice (some ⟨q + 1, 0, none⟩) 1 1] 97) = A3 := ⟨_, rfl⟩
  have z3 : A3.heap.size = q + 1 + 1 + 1 := by rw [← hA3, World.size_alloc, z2]
  have b3 := b2.alloc (.cells #[.slice (some ⟨q + 1, 0, none⟩) 1 1] 97)
  have m3 := m2.alloc (.cells #[.slice (some ⟨q + 1, 0, none⟩) 1 1] 97)
  have k3 := k2.alloc (by omega) (.cells #[.slice (some ⟨q + 1, 0, none⟩) 1 1] 97)
  have s3 := s2.alloc (.cells #[.slice (some ⟨q + 1, 0, none⟩) 1 1] 97)
  have c3 : Boxed A3 (q + 1 + 1) 97 (.slice (some ⟨q + 1, 0, none⟩) 1 1) := by rw [← hA3, ← z2]; exact Boxed.new _ _ _
  rw [hA3] at m3 k3 b3 s3 ⊢
  obtain ⟨o4, ho4⟩ : ∃ o4, Obj.cells #[Value.func (.func 76) #[] #[.pointer (some ⟨q, 0, none⟩), .pointer (some ⟨q + 1 + 1, 0, none⟩)]] 99 = o4 := ⟨_, rfl⟩
  obtain ⟨A4, hA4⟩ : ∃ A4, A3.alloc o4 = A4 := ⟨_, rfl⟩
  have z4 : A4.heap.size = q + 1 + 1 + 1 + 1 := by rw [← hA4, World.size_alloc, z3]
  have b4 := b3.alloc o4
  have m4 := m3.alloc o4
  have k4 := k3.alloc (by omega) o4
  have s4 := s3.alloc o4
  have c4 := c3.alloc o4
  have d4 : Boxed A4 (q + 1 + 1 + 1) 99 (.func (.func 76) #[] #[.pointer (some ⟨q, 0, none⟩), .pointer (some ⟨q + 1 + 1, 0, none⟩)]) := by rw [← hA4, ← ho4, ← z3]; exact Boxed.new _ _ _
  rw [ho4]
  rw [hA4] at m4 k4 b4 s4 c4 ⊢
  obtain ⟨A5, hA5⟩ : ∃ A5, A4.alloc (.cells #[.int .i64 La, .int .i64 0, .slice none 0 0] 24) = A5 := ⟨_, rfl⟩
  have z5 : A5.heap.size = q + 1 + 1 + 1 + 1 + 1 := by rw [← hA5, World.size_alloc, z4]
  have b5 := b4.alloc (.cells #[.int .i64 La, .int .i64 0, .slice none 0 0] 24)
  have m5 := m4.alloc (.cells #[.int .i64 La, .int .i64 0, .slice none 0 0] 24)
  have k5 := k4.alloc (by omega) (.cells #[.int .i64 La, .int .i64 0, .slice none 0 0] 24)
  have s5 := s4.alloc (.cells #[.int .i64 La, .int .i64 0, .slice none 0 0] 24)
  have c5 := c4.alloc (.cells #[.int .i64 La, .int .i64 0, .slice none 0 0] 24)
  have d5 := d4.alloc (.cells #[.int .i64 La, .int .i64 0, .slice none 0 0] 24)
  have g5 : GBox A5 (q + 1 + 1 + 1 + 1) (.int .i64 La) (.int .i64 0) (.slice none 0 0) := by rw [← hA5, ← z4]; exact GBox.new _ _ _ _
  rw [hA5] at m5 k5 b5 s5 c5 d5 ⊢
  have f6 : Boxed (A5.alloc (.cells #[.int .i64 0] 3)) (q + 1 + 1 + 1 + 1 + 1) 3 (.int .i64 ((0 : Nat) : Int)) := by rw [← z5]; exact Boxed.new _ _ _
  exact ⟨k5.alloc (by omega) _, ⟨b5.alloc _, m5.alloc _, _, c5.alloc _, own_low (s5.alloc _) (by omega)⟩, d5.alloc _, f6, _, g5.keep (below1 A5 _), edges_nil _ _⟩
theorem VB.round {lo p8 p9 p10 p11 p12 p13 Bm i : Nat} {La : Int} {b : Bs} {Wm W W' : World} (h : VB lo p8 p9 p10 p11 p12 Bm La i b Wm W) (hlo : lo ≤ W.heap.size) (hb : Below W.heap.size W W') {j : Nat} (h13 : Boxed W' p13 3 (.int .i64 (j : Int))) : VB lo p8 p9 p10 p11 p13 Bm La j b Wm W' := by
  have h2 := h.keep hlo hb
  exact ⟨h2.bl, h2.ns, h2.x10, h13, h2.gr⟩
theorem VB.step {lo p8 p9 p10 p11 p12 Bm i : Nat} {La : Int} {b : Bs} {Wm W : World} (h : VB lo p8 p9 p10 p11 p12 Bm La i b Wm W) (hp : PB lo p8 p9 p10 p11 p12 Bm) (j : Nat) : VB lo p8 p9 p10 p11 p12 Bm La j b Wm (W.setCell ⟨p12, 0, none⟩ (.int .i64 (j : Int))) := by
  have hg := grownBy_setCell' W p12 (.int .i64 (j : Int))
  have ne : ∀ {p : Nat} {t : TypeId} {u : Value}, Boxed W p t u → t ≠ 3 → some p ≠ some p12 := fun {p t u} hb ht e => by
    injection e with e
    subst e
    have h5 := (show W.heap[p]? = _ from hb).symm.trans h.x12
    simp at h5
    exact ht h5.2
  obtain ⟨v, h1, h2⟩ := h.gr
  refine ⟨h.bl.setCell hp.l12 _, h.ns.grown hg (fun k e => by injection e with e; subst e; exact ⟨_, _, _, h.x12, by decide, by decide, by decide⟩), h.x10.kept hg (ne h.x10 (by decide)), h.x12.set _, v, (hg.block p11 h1.lt (fun e => by
    injection e with e
    subst e
    have h5 := (show W.heap[p11]? = _ from h1).symm.trans h.x12
    simp at h5)).trans h1, World.ownsRow.kept h2 hg ?_⟩
  cases hv : v.ownBlock with
  | none => exact .inl rfl
  | some g =>
    refine .inr (fun e => ?_)
    obtain ⟨c, fr, h3⟩ := row_cells h2 hv
    injection e with e
    subst e
    have h5 := h3.symm.trans h.x12
    simp at h5
def SBx (p9 p11 : Nat) (x y z u : Value) (W : World) : Prop := W.cell? ⟨p11, 0, none⟩ = some x ∧ W.cell? ⟨p11, 1, none⟩ = some y ∧ W.cell? ⟨p11, 2, none⟩ = some z ∧ W.cell? ⟨p9, 0, none⟩ = some u
theorem sb_far {p9 p11 b : Nat} {x y z u : Value} {W : World} (h : SBx p9 p11 x y z u W) (h9 : b ≠ p9) (h11 : b ≠ p11) (x1 x2 x3 : Value) : SBx p9 p11 x y z u (((W.setCell ⟨b, 0, none⟩ x1).setCell ⟨b, 1, none⟩ x2).setCell ⟨b, 2, none⟩ x3) := by
  have f : ∀ (q o : Nat), b ≠ q → (((W.setCell ⟨b, 0, none⟩ x1).setCell ⟨b, 1, none⟩ x2).setCell ⟨b, 2, none⟩ x3).cell? ⟨q, o, none⟩ = W.cell? ⟨q, o, none⟩ := fun q o hq => by
    rw [World.cell?_setCell_far _ _ _ _ (by exact hq), World.cell?_setCell_far _ _ _ _ (by exact hq), World.cell?_setCell_far _ _ _ _ (by exact hq)]
  exact ⟨(f p11 0 h11).trans h.1, (f p11 1 h11).trans h.2.1, (f p11 2 h11).trans h.2.2.1, (f p9 0 h9).trans h.2.2.2⟩
set_option maxRecDepth 100000 in
set_option maxHeartbeats 12800000 in
theorem build_any (L n : Nat) (es : List E3) (v : Value) (S : Nat) (w : World) (hrd : EdgesRd w v es) (hvg : VG (L : Int) (n : Int) es) (h0 : S ≠ 0) (hS : S < 18446744073709551616) (hbit : ∀ i, S.testBit i = true → i < n) (hT : TabD w) :
    Calls Tryz.prog 43 #[grV (L : Int) (n : Int) v, u64v S] w (BuildOut w L (builtN es L S)) := by
  have hmm := @run_makeMap Tryz.prog
  have hmx : Tryz.prog.follows .mixedOrders = true := by kernel_rfl
  have hn : n ≤ 64 := by have := hvg.s2; omega
  have hL : L ≤ 256 := by have := hvg.l2; omega
  have hkey : keyOf Tryz.prog 70 (.int .u64 (S : Int)) = some (keyN S) := keyOf_int_mk Tryz.underlying70 (keyN_wf hS)
  have HOK := Lib.hid hvg.ok
  have HT := Lib.hid hT
  have HI0 := Lib.hid (InvN.start es L S h0 hS)
  have HBN := Lib.hid (show BN n [S] from fun T hT => by rw [List.mem_singleton] at hT; subst hT; exact hbit)
  obtain ⟨W0, hW0⟩ : ∃ W0, ((w.alloc (.cells #[.int .i64 (L : Int), .int .i64 (n : Int), v] 24)).alloc (.cells #[.int .i64 0, .int .i64 0, .slice none 0 0] 24)) = W0 := ⟨_, rfl⟩
  have b0 : Below w.heap.size w W0 := by rw [← hW0]; exact below_more (below1 w _) (Nat.le_refl _) (below1 _ _)
  have hmv := moves_any L n es v W0 (hrd.keep (by exact b0)) hL hn hvg.ok hvg.len
  have HMV := Lib.hid hmv
  have G0 := Lib.hid (BoxG.new w (L : Int) (n : Int) v 24)
  have hz0 : W0.heap.size = w.heap.size + 2 := by rw [← hW0, World.size_alloc, World.size_alloc]
  have G1 := Lib.hid (show GBox W0 (w.heap.size + 1) (.int .i64 0) (.int .i64 0) (.slice none 0 0) by
    rw [← hW0]
    have h := GBox.new (w.alloc (.cells #[.int .i64 (L : Int), .int .i64 (n : Int), v] 24)) (.int .i64 0) (.int .i64 0) (.slice none 0 0)
    rw [World.size_alloc] at h
    exact h)
  have G2 := Lib.hid (show BoxG W0 w.heap.size (L : Int) (n : Int) v by rw [← hW0]; exact G0.out.keep (below1 _ _))
  obtain ⟨R, hR⟩ : ∃ R, builtN es L S = R := ⟨_, rfl⟩
  have HR0 := Lib.hid hR
  rw [hR]
  obtain ⟨a, c, rfl⟩ := hrd.form
  obtain ⟨x1, x2, x3⟩ := G2.out
  have B0 := Lib.hid b0
  clear hrd hvg h0 hbit hT hmv hR b0 G0
  go_enter Tryz.func43, Tryz.ntmps43
  go_upto_region 2 with (go_at_call 75; (with_reducible refine HMV.out.mono ?_); rintro e Wm ⟨mv, rfl, hmv, bm⟩)
  clear x1 x2 x3 hW0
  have BM := Lib.hid (below_more B0.out (Nat.le_refl _) bm)
  have G3 := Lib.hid (G2.out.keep bm)
  have G4 := Lib.hid (G1.out.keep bm)
  have HM := Lib.hid hmv
  have HTM := Lib.hid (HT.out.keep BM.out)
  obtain ⟨b7, rfl, -⟩ := hmv
  have hzm : w.heap.size + 2 ≤ Wm.heap.size := by have := bm.size; omega
  clear HMV B0 G1 G2 bm HT hz0
  have hown0 : (Wm.alloc (.map #[] 0)).ownsMap Tryz.prog 70 (plainElem Tryz.prog 3) Wm.heap.size 0 (mapD []) := World.ownsMap_made Wm _ _ _
  go_upto_region 3 with (refine wpList_insert_own _ rfl _ _ _ 96 rfl 70 3 Tryz.keyLaw Tryz.underlying96 _ Wm.heap.size 0 _ rfl hown0 (by unfold maxLen; omega) _ _ _ rfl rfl hkey _ [] (plainElem_int Tryz.underlying3 (by decide)) ?_; intro w1 hown1 hgrow1)
  obtain ⟨hvb, hpb⟩ := vb_start (La := (L : Int)) rfl (show w1.ownsMap Tryz.prog 70 (plainElem Tryz.prog 3) Wm.heap.size 1 (mapD [S]) from hown1) hgrow1
  have HP := Lib.hid hpb
  have HVB := Lib.hid hvb
  have hw1 : ∀ {k : Nat}, k < Wm.heap.size → w1.heap[k]? = Wm.heap[k]? := fun {k} hk => (hgrow1.block k (by rw [World.size_alloc]; omega) (fun e => by injection e with e; omega)).trans (Below.heap_alloc _ _ _ hk)
  have y0 : w1.cell? ⟨w.heap.size, 0, none⟩ = some (.int .i64 (L : Int)) := (World.cell?_of_block (w := Wm) (a := ⟨w.heap.size, 0, none⟩) (hw1 (show w.heap.size < Wm.heap.size by omega))).trans G3.out.1
  have y1 := cell_keep y0 (below_more (below_more (below_more (below1 w1 (.cells #[.map (some Wm.heap.size)] 96)) (Nat.le_refl _) (below1 _ (.cells #[u64v S] 70))) (Nat.le_refl _) (below1 _ (.cells #[.slice (some ⟨w1.heap.size + 1, 0, none⟩) 1 1] 97))) (Nat.le_refl _)
    (below1 _ (.cells #[.func (.func 76) #[] #[.pointer (some ⟨w1.heap.size, 0, none⟩), .pointer (some ⟨w1.heap.size + 1 + 1, 0, none⟩)]] 99)))
  clear hvb hpb hown1 hgrow1 hown0 hw1 y0
  go_wp2_with fail
  have hsq : Wm.heap.size ≤ w1.heap.size := HP.out.l8
  have hsx : Wm.heap.size ≤ (W6 w1 S Wm.heap.size (L : Int) w1.heap.size (w1.heap.size + 1 + 1) (w1.heap.size + 1)).heap.size := HVB.out.bl.size
  clear y1
  change Code.wp _ _ _ _ (W6 w1 S Wm.heap.size (L : Int) w1.heap.size (w1.heap.size + 1 + 1) (w1.heap.size + 1))
  generalize W6 w1 S Wm.heap.size (L : Int) w1.heap.size (w1.heap.size + 1 + 1) (w1.heap.size + 1) = X0 at *
  obtain ⟨p8, h8⟩ : ∃ p8, w1.heap.size = p8 := ⟨_, rfl⟩
  rw [h8] at HP HVB ⊢
  obtain ⟨p9, h9⟩ : ∃ p9, p8 + 1 + 1 = p9 := ⟨_, rfl⟩
  rw [h9] at HP HVB ⊢
  obtain ⟨p10, h10⟩ : ∃ p10, p9 + 1 = p10 := ⟨_, rfl⟩
  rw [h10] at HP HVB ⊢
  obtain ⟨p11, h11⟩ : ∃ p11, p10 + 1 = p11 := ⟨_, rfl⟩
  rw [h11] at HP HVB ⊢
  obtain ⟨p12, h12⟩ : ∃ p12, p11 + 1 = p12 := ⟨_, rfl⟩
  rw [h12] at HP HVB ⊢
  have HR1 := Lib.hid (show runN es L (65 + 1) 0 ([S], []) = R from HR0.out)
  clear h8 h9 h10 h11 h12 hsq hkey HR0
  go_loopg [12] 65 (fun k s12 wx => ∃ (i : Nat) (b : Bs) (p12 : Nat), i + k = 65 ∧ s12 = .pointer (some ⟨p12, 0, none⟩) ∧ Hid (runN es L (k + 1) i b = R) ∧ Hid (VB Wm.heap.size p8 p9 p10 p11 p12 Wm.heap.size (L : Int) i b Wm wx) ∧ Hid (PB Wm.heap.size p8 p9 p10 p11 p12 Wm.heap.size) ∧ Hid (InvN es L i 0 b) ∧ Hid (BN n b.1) ∧ i ≤ b.1.length ∧ ¬ tooN b ∧ Wm.heap.size ≤ wx.heap.size)
  case atStart => exact ⟨0, ([S], []), p12, by omega, rfl, HR1, HVB, HP, HI0, HBN, Nat.zero_le _, by unfold tooN; simp, hsx⟩
  case round =>
    clear HR1 HVB HP HI0 HBN hsx
    obtain ⟨i, b, p12, hik, rfl, HR, HV, HP, HI, HB, hib, hto, hsz⟩ := hrel
    obtain ⟨vs, h9, hrow⟩ := HV.out.ns.st
    obtain ⟨a9, c9, rfl⟩ := own_slice hrow
    have x9 := h9.cell
    have x12 := HV.out.x12.cell
    have hbl : b.1.length ≤ 64 ∧ b.2.length ≤ 1024 := by unfold tooN at hto; omega
    by_cases hi : i < b.1.length
    · obtain ⟨q, rfl⟩ : ∃ q, gk = q + 1 := ⟨gk - 1, by omega⟩
      have j1 : (i : Int) < (b.1.length : Int) := by omega
      obtain ⟨T, hT⟩ : ∃ T, b.1[i]? = some T := ⟨_, List.getElem?_eq_getElem hi⟩
      have hTD : b.1.getD i 0 = T := by rw [List.getD_eq_getElem?_getD, hT]; rfl
      obtain ⟨b0, o0, hb0, k0⟩ : ∃ b0 o0, a9 = some ⟨b0, o0, none⟩ ∧ wr.cell? ⟨b0, o0 + i, none⟩ = some (u64v T) := by
        obtain ⟨a2, c2, he, h2⟩ := sets_rd hrow
        injection he with e1 _ _
        subst e1
        exact h2 i T hT
      subst hb0
      have hTm := List.mem_of_getElem? hT
      have HG : ∀ k, (rowN es i b k).1.getD i 0 = T := fun k => by rw [rowN_get hi k]; exact hTD
      have HJM : ∀ k X, (VB Wm.heap.size p8 p9 p10 p11 p12 Wm.heap.size (L : Int) i (rowN es i b k) Wm X ∧ Wm.heap.size ≤ X.heap.size) → MvRd X (.slice (some ⟨b7, 0, none⟩) L L) es L n := fun k X hX => HM.out.keep hX.1.bl
      have HF := Lib.hid (follow_any es L n (.slice (some ⟨b7, 0, none⟩) L L) (.pointer (some ⟨p11, 0, none⟩)) (.pointer (some ⟨p12, 0, none⟩)) (.pointer (some ⟨p10, 0, none⟩)) T wr
        (fun k X => VB Wm.heap.size p8 p9 p10 p11 p12 Wm.heap.size (L : Int) i (rowN es i b k) Wm X ∧ Wm.heap.size ≤ X.heap.size) (HI.out.lt T hTm).2 (HB.out T hTm) hn hL ⟨HV.out, hsz⟩ HJM (fun k X hX => HTM.out.keep hX.1.bl) (fun k X Y hX hb => ⟨hX.1.keep hX.2 hb, by have := hb.size; have := hX.2; omega⟩)
        (fun k X hk hX hne => by
          have hl := rowN_len es i b k
          have hI := HI.out.row hi k
          refine (edge_any Wm.heap.size p8 p9 p10 p11 p12 Wm.heap.size (L : Int) i k (stN es T k) (rowN es i b k) Wm X hX.1 HP.out hX.2 (stN_lt _ _ _) hI.nd (by omega) (by omega)).mono ?_
          rintro e X' ⟨hu, hv⟩
          refine ⟨hu, ?_, hv.bl.size⟩
          rw [rowN_succ, visN_add (T := stN es T k) (by rw [HG k]) hne]
          exact hv)
        (fun k X hk hX h0 => ⟨by rw [rowN_succ, visN_none (by rw [HG k]; exact h0)]; exact hX.1, hX.2⟩))
      have HRL := Lib.hid (rowN_len es i b L)
      have HIR := Lib.hid ((HI.out.row hi L).next)
      have HBR := Lib.hid (rowN_small (i := i) (b := b) HOK.out HB.out L)
      have HMR := Lib.hid (fun h2 => runN_more (es := es) (La := L) (k := q + 1) hi h2)
      have HMN := Lib.hid (fun h2 => runN_many (es := es) (La := L) (k := q + 1) hi h2)
      generalize rowN es i b L = b' at *
      clear hT hTD hTm HG HJM hrow h9 HI HB HV
      go_upto_region 10 with (go_at_call 77; (with_reducible refine HF.out.mono ?_); rintro e W2 ⟨⟨u2, rfl⟩, hv2, hs2⟩)
      clear HF x9 x12 k0
      obtain ⟨v9, h9, hrow⟩ := hv2.ns.st
      obtain ⟨a9, c9, rfl⟩ := own_slice hrow
      obtain ⟨v11, hg, he⟩ := hv2.gr
      obtain ⟨a11, c11, rfl⟩ := own_slice he
      have x9 := h9.cell
      have x12 := hv2.x12.cell
      obtain ⟨g1, g2, g3, -, -, -⟩ := hg.cells
      have hrl := HRL.out
      have G5 := Lib.hid ((G4.out).keep hv2.bl)
      have HV2 := Lib.hid hv2
      obtain ⟨m1, hm1⟩ : ∃ m1, b'.1.length = m1 := ⟨_, rfl⟩
      obtain ⟨m2, hm2⟩ : ∃ m2, b'.2.length = m2 := ⟨_, rfl⟩
      have BX := Lib.hid (BM.out.trans (hv2.bl.mono (by omega)))
      rw [hm1, hm2] at hrl
      rw [hm1] at x9
      rw [hm2] at g3
      clear hrow he h9 hg hv2
      by_cases ht1 : 64 < m1
      · have d1 : decide ((64 : Int) < (m1 : Int)) = true := decide_eq_true (by omega)
        have HRN := Lib.hid (show R = none by rw [← HR.out]; exact HMN.out (.inl (by omega)))
        obtain ⟨r1, r2, r3, r4, r5, r6⟩ := G5.out.cells
        clear hm1 hm2 HMR HMN
        go_wp2
        refine bodyPost_ret (v := .tuple #[grV 0 0 (.slice none 0 0), .slice none 0 0, .int .i64 4]) (by simp [results, Tryz.results43, go_sem, r1, r2, r3]) rfl ?_
        rw [HRN.out]
        refine ⟨_, _, rfl, edges_nil _ _, RowsAt.nil _ _, ?_⟩
        · exact ((BX.out.setCell (p := ⟨w.heap.size + 1, 0, none⟩) (Nat.le_succ _) _).setCell (p := ⟨w.heap.size + 1, 1, none⟩) (Nat.le_succ _) _).setCell (p := ⟨w.heap.size + 1, 2, none⟩) (Nat.le_succ _) _
      · have d1 : decide ((64 : Int) < (m1 : Int)) = false := decide_eq_false (by omega)
        by_cases ht2 : 1024 < m2
        · have d2 : decide ((1024 : Int) < (m2 : Int)) = true := decide_eq_true (by omega)
          have HRN := Lib.hid (show R = none by rw [← HR.out]; exact HMN.out (.inr (by omega)))
          obtain ⟨r1, r2, r3, r4, r5, r6⟩ := G5.out.cells
          clear hm1 hm2 HMR HMN
          go_wp2
          refine bodyPost_ret (v := .tuple #[grV 0 0 (.slice none 0 0), .slice none 0 0, .int .i64 4]) (by simp [results, Tryz.results43, go_sem, r1, r2, r3]) rfl ?_
          rw [HRN.out]
          refine ⟨_, _, rfl, edges_nil _ _, RowsAt.nil _ _, ?_⟩
          · exact ((BX.out.setCell (p := ⟨w.heap.size + 1, 0, none⟩) (Nat.le_succ _) _).setCell (p := ⟨w.heap.size + 1, 1, none⟩) (Nat.le_succ _) _).setCell (p := ⟨w.heap.size + 1, 2, none⟩) (Nat.le_succ _) _
        · have d2 : decide ((1024 : Int) < (m2 : Int)) = false := decide_eq_false (by omega)
          have hnt : ¬ tooN b' := by unfold tooN; omega
          have HRM := Lib.hid (show runN es L (q + 1) (i + 1) b' = R by rw [← HR.out]; exact (HMR.out hnt).symm)
          have HLEN := Lib.hid hm1
          have hb13 := below1 W2 (.cells #[.int .i64 ((i : Int) + 1)] 3)
          have x13 : Boxed (W2.alloc (.cells #[.int .i64 ((i : Int) + 1)] 3)) W2.heap.size 3 (.int .i64 ((i + 1 : Nat) : Int)) := by rw [show ((i + 1 : Nat) : Int) = (i : Int) + 1 by omega]; exact Boxed.new _ _ _
          have HV3 := Lib.hid (HV2.out.round (by omega) hb13 x13)
          have HP3 := Lib.hid (show PB Wm.heap.size p8 p9 p10 p11 W2.heap.size Wm.heap.size from ⟨HP.out.l8, HP.out.l9, HP.out.l10, HP.out.l11, by omega, HP.out.lB⟩)
          clear hm1 hm2 HMR HMN HV2 hb13 x13
          go_wp2
          go_roundg q
          case measure => omega
          case rel => exact ⟨i + 1, b', W2.heap.size, by omega, rfl, HRM, HV3, HP3, HIR, HBR, by have := HRL.out; have := HLEN.out; omega, hnt, by rw [World.size_alloc]; omega⟩
    · obtain rfl : i = b.1.length := by omega
      have j1 : ¬ ((b.1.length : Int) < (b.1.length : Int)) := by omega
      have HRE := Lib.hid (show some b = R by rw [← HR.out]; exact (runN_end hi).symm)
      obtain ⟨v11, hg, he⟩ := HV.out.gr
      obtain ⟨a11, c11, rfl⟩ := own_slice he
      have HRD5 := Lib.hid (show SetsRd wr (.slice a9 b.1.length c9) b.1 from sets_rd hrow)
      have HR9 := Lib.hid hrow
      have H9 := Lib.hid h9
      have HGG := Lib.hid hg
      have HE := Lib.hid he
      obtain ⟨g1, g2, g3, f1, f2, f3⟩ := hg.cells
      obtain ⟨m1, hm1⟩ : ∃ m1, b.1.length = m1 := ⟨_, rfl⟩
      obtain ⟨m2, hm2⟩ : ∃ m2, b.2.length = m2 := ⟨_, rfl⟩
      have HM1 := Lib.hid hm1
      have HM2 := Lib.hid hm2
      rw [hm1] at j1 x9 x12 HR9 HRD5 H9
      rw [hm2] at g3 HGG HE
      have G5 := Lib.hid ((G4.out).keep HV.out.bl)
      have hgb := grownBy_setCellJ wr p11 1 (.int .i64 (m1 : Int))
      have G6 := Lib.hid (show GBox (wr.setCell ⟨p11, 1, none⟩ (.int .i64 (m1 : Int))) (w.heap.size + 1) (.int .i64 0) (.int .i64 0) (.slice none 0 0) from
        (hgb.block _ G5.out.lt (fun e => by injection e with e; have := HP.out.l11; omega)).trans G5.out)
      have HB6 := Lib.hid (HV.out.bl.setCell (p := ⟨p11, 1, none⟩) HP.out.l11 (.int .i64 (m1 : Int)))
      have hx9 : some p9 ≠ some p11 := fun e => by
        injection e with e
        subst e
        have h5 := (show wr.heap[p9]? = _ from h9).symm.trans hg
        simp at h5
      have H96 := Lib.hid (H9.out.kept hgb hx9)
      have HG6 := Lib.hid (show GBox (wr.setCell ⟨p11, 1, none⟩ (.int .i64 (m1 : Int))) p11 (.int .i64 (L : Int)) (.int .i64 (m1 : Int)) (.slice a11 m2 c11) by
        have hgg := HGG.out
        obtain ⟨hlt, hk⟩ := Array.getElem?_eq_some_iff.1 hgg
        unfold GBox World.setCell
        simp [Array.getElem?_modify, Array.getElem?_eq_getElem hlt, hk])
      have HR6 := Lib.hid (HR9.out.kept hgb (.inr (hg.not_row (by decide) HR9.out)))
      have HE6 := Lib.hid (World.ownsRow.kept HE.out hgb (.inr (HGG.out.not_row (by decide) HE.out)))
      have hs6 : (wr.setCell ⟨p11, 1, none⟩ (.int .i64 (m1 : Int))).heap.size = wr.heap.size := World.size_setCell _ _ _
      clear hg he h9 hrow hm1 hm2 HV HRD5 HR9 H9 HGG HE G5 hgb hx9 HR
      go_upto_region 15 with fail
      clear g1 g2 g3 f1 f2 f3 x9 x12
      generalize (wr.setCell ⟨p11, 1, none⟩ (.int .i64 (m1 : Int))) = W3 at *
      have hR3 : SBx p9 p11 (.int .i64 (L : Int)) (.int .i64 (m1 : Int)) (.slice a11 m2 c11) (.slice a9 m1 c9) W3.drew := ⟨HG6.out.cells.1, HG6.out.cells.2.1, HG6.out.cells.2.2.1, H96.out.cell⟩
      have HMB := Lib.hid (membs_any b.1 (.slice a9 m1 c9) W3.drew (by have h := sets_rd (show W3.drew.ownsRow Wm.heap.size 70 1 (.slice a9 m1 c9) b.1.length (setz b.1) by rw [HM1.out]; exact HR6.out); exact h) (by omega) (fun S hS => (HI.out.lt S hS).2) (HTM.out.keep HB6.out.drew))
      rw [HM1.out] at HMB
      refine regionT (T := T2 4 4 (SBx p9 p11 (.int .i64 (L : Int)) (.int .i64 (m1 : Int)) (.slice a11 m2 c11) (.slice a9 m1 c9)) (SBx p9 p11 (.int .i64 (L : Int)) (.int .i64 (m1 : Int)) (.slice a11 m2 c11) (.slice a9 m1 c9))) hmx ?_
      have hR := hR3
      refine take1 (i := 0) (v := ?_) rfl (by kernel_rfl) (by kernel_rfl) (by kernel_rfl) (by kernel_rfl) (by kernel_rfl) (by decide) (by decide) (fun _ _ _ h => h) (Or.inl ⟨by rfl, ?_⟩) hR hR ?_
      rotate_left
      · intro w hSw
        (try unfold SBx at hSw)
        go_simp
        all_goals with_reducible rfl
      (try simp only [Act.put, List.setIfInBounds_toArray, List.set_cons_zero, List.set_cons_succ])
      refine take1 (i := 1) (v := ?_) rfl (by kernel_rfl) (by kernel_rfl) (by kernel_rfl) (by kernel_rfl) (by kernel_rfl) (by decide) (by decide) (fun _ _ _ h => h) (Or.inl ⟨by rfl, ?_⟩) hR hR ?_
      rotate_left
      · intro w hSw
        (try unfold SBx at hSw)
        go_simp
        all_goals with_reducible rfl
      (try simp only [Act.put, List.setIfInBounds_toArray, List.set_cons_zero, List.set_cons_succ])
      refine stepT (i := 2) (by kernel_rfl) rfl (fun K hK => ?_)
      go_simp
      go_at_call 79
      (with_reducible refine HMB.out.mono ?_)
      rintro e0 W5 ⟨vs, rfl, hMB⟩
      have hR5 : SBx p9 p11 (.int .i64 (L : Int)) (.int .i64 (m1 : Int)) (.slice a11 m2 c11) (.slice a9 m1 c9) W5 := ⟨cell_keep hR3.1 hMB.bl, cell_keep hR3.2.1 hMB.bl, cell_keep hR3.2.2.1 hMB.bl, cell_keep hR3.2.2.2 hMB.bl⟩
      have G7 : GBox W5 (w.heap.size + 1) (.int .i64 0) (.int .i64 0) (.slice none 0 0) := GBox.keep (W := W3.drew) G6.out hMB.bl
      obtain ⟨r1, r2, r3, r4, r5, r6⟩ := G7.cells
      go_wp2_with fail
      refine hK.out _ _ ⟨fun _ => hR5, fun _ => hR5⟩ ?_
      clear hK K hR
      have hR := hR5
      (try simp only [Act.put, List.setIfInBounds_toArray, List.set_cons_zero, List.set_cons_succ])
      refine stepT (i := 3) (by kernel_rfl) rfl (fun K hK => ?_)
      go_simp
      have hR6 := sb_far hR5 (by have := HP.out.l9; show w.heap.size + 1 ≠ p9; omega) (by have := HP.out.l11; show w.heap.size + 1 ≠ p11; omega) (.int .i64 (L : Int)) (.int .i64 (m1 : Int)) (.slice a11 m2 c11)
      refine hK.out _ _ ⟨fun _ => hR6, fun _ => hR6⟩ ?_
      clear hK K hR
      have hR := hR6
      (try simp only [Act.put, List.setIfInBounds_toArray, List.set_cons_zero, List.set_cons_succ])
      refine stepT (i := 4) (by kernel_rfl) rfl (fun K hK => ?_)
      go_simp
      refine hK.out _ _ ⟨fun h => absurd h (by decide), fun h => absurd h (by decide)⟩ ?_
      clear hK K
      (try simp only [Act.put, List.setIfInBounds_toArray, List.set_cons_zero, List.set_cons_succ])
      refine stepT (i := 5) (by kernel_rfl) rfl (fun K hK => ?_)
      go_simp
      refine hK.out _ _ ⟨fun h => absurd h (by decide), fun h => absurd h (by decide)⟩ ?_
      clear hK K
      (try simp only [Act.put, List.setIfInBounds_toArray, List.set_cons_zero, List.set_cons_succ])
      refine doneT (by kernel_rfl) ?_ _
      have HB7 := Lib.hid (show Below w.heap.size w W5 from (BM.out.trans (HB6.out.mono (by omega))).drew.trans (hMB.bl.mono (by show w.heap.size ≤ W3.heap.size; have := HB6.out.size; omega)))
      go_wp2_with fail
      refine bodyPost_ret (v := .tuple #[grV (L : Int) (m1 : Int) (.slice a11 m2 c11), .slice (some ⟨W3.drew.heap.size, 0, none⟩) m1 m1, .int .i64 0]) (by simp [results, Tryz.results43, go_sem, r1, r2, r3]) rfl ?_
      rw [← HRE.out]
      have hlt : w.heap.size + 1 < W3.drew.heap.size := G6.out.lt
      have he7 : EdgesAt W5 Wm.heap.size (.slice a11 m2 c11) b.2 := by
        have h0 : EdgesAt W3.drew Wm.heap.size (.slice a11 m2 c11) b.2 := HE6.out
        exact h0.keep hMB.bl
      refine ⟨_, _, by show _ = Ending.returned (.tuple #[grV (L : Int) ((b.1.length : Nat) : Int) _, _, .int .i64 0]); rw [HM1.out], edges_over he7 (b := w.heap.size + 1) (by omega) _ _ _ (by omega), ?_, ?_⟩
      · exact RowsAt.over (A := W3.drew.heap.size) (.inr ⟨_, vs, by rw [HM1.out], Nat.le_refl _, by rw [HM1.out]; exact hMB.row, fun j hj => hMB.own j (by rw [← HM1.out]; exact hj)⟩) hlt _ _ _ (by omega)
      · exact below_over HB7.out (Nat.le_succ _) _ _ _
end Go.Proofs.YtiockphjnkehnaaGreatDoor
