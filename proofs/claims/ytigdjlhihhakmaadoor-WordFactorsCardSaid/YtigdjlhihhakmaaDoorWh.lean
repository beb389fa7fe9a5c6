/- What word.Find returns: the offsets at which a string occurs, in ascending order. Condition: both have at most 10^5 bytes. -/
import Derived.Test.YtigdjlhihhakmaaDoorWg
namespace Go.Proofs.YtigdjlhihhakmaaDoor
open Go.RowKit Go.Shelf
attribute [local go_sem] Oper.semAt_some
set_option linter.unusedSimpArgs false
set_option linter.unusedVariables false

theorem occurrences_any (wl ul : List UInt8) (w : World) :
    Calls Tryd.prog 51 #[.string ⟨wl.toArray⟩, .string ⟨ul.toArray⟩] w fun e w' =>
      e = .returned (.func (.func 84) #[] #[.pointer (some ⟨w.heap.size + 1, 0, none⟩), .pointer (some ⟨w.heap.size, 0, none⟩)]) ∧ w' = (w.alloc (.cells #[.string ⟨wl.toArray⟩] 9)).alloc (.cells #[.string ⟨ul.toArray⟩] 9) := by
  go_enter Tryd.func51, Tryd.ntmps51
  go_wp2
  go_ret
  exact ⟨rfl, rfl⟩
/-- A list of numbers in memory. -/
def NumsOut (w : World) (l : List Nat) (e : Ending) (w' : World) : Prop := ∃ v, e = .returned v ∧ w'.ownsRow w.heap.size 3 1 v l.length (ints l) ∧ Below w.heap.size w w'
theorem ownsRow_down {w : World} {base base' : Nat} {e : TypeId} {size : Nat} {v : Value} {n : Nat} {xs : List Value} (h : w.ownsRow base e size v n xs) (hb : base' ≤ base) : w.ownsRow base' e size v n xs :=
  ⟨h.1, h.2.imp id fun ⟨g, cap, cur, h1, h2, h3⟩ => ⟨g, cap, cur, h1, Nat.le_trans hb h2, h3⟩⟩
theorem LJ.put {l D s N B : Nat} {REC R2 : Loop} {pre : List Nat} {W0 W : World} (h : LJ l D s N B REC pre W0 W) (hBl : B ≤ l) (hlD : D ≠ l) : LJ l D s N B R2 pre W0 (W.putObj l (.loop R2)) := by
  obtain ⟨h1, h2, ⟨v, h3, h4, h5⟩, h6, h7⟩ := h
  refine ⟨World.putObj_heap_same (Array.getElem?_eq_some_iff.1 h1).1, (World.putObj_heap_other hlD).trans h2, ⟨v, ?_, ?_, ?_⟩, h6.trans ⟨rfl, rfl, rfl, by simp, fun k hk => World.putObj_heap_other (by omega)⟩, by simpa using h7⟩
  · have hne : s ≠ l := fun e => by
      obtain ⟨ob, h1', h2'⟩ := cells_of_cell h3
      rw [show (⟨s, 0, none⟩ : Addr).block = s from rfl, e, h1] at h1'
      injection h1' with h1'
      rw [← h1'] at h2'
      cases h2'
    exact (World.cell?_of_block (World.putObj_heap_other hne)).trans h3
  · have hne : s ≠ l := fun e => by
      obtain ⟨ob, h1', h2'⟩ := cells_of_cell h3
      rw [show (⟨s, 0, none⟩ : Addr).block = s from rfl, e, h1] at h1'
      injection h1' with h1'
      rw [← h1'] at h2'
      cases h2'
    exact (World.frozen?_of_block (World.putObj_heap_other hne)).trans h4
  · obtain ⟨k1, k2⟩ := h5
    refine ⟨k1, ?_⟩
    rcases k2 with k2 | ⟨g, cap, cur, k3, k4, k5, k6⟩
    · exact Or.inl k2
    · refine Or.inr ⟨g, cap, cur, k3, k4, ?_, k6⟩
      have hne : g ≠ l := fun e => by rw [e, h1] at k5; cases k5
      exact (World.putObj_heap_other hne).trans k5

theorem cell_putA {W : World} {l : Nat} {r : Loop} (h : W.heap[l]? = some (.loop r)) (o : Obj) (p : Addr) {v : Value} (hp : W.cell? p = some v) : (W.putObj l o).cell? p = some v := by
  have hne : p.block ≠ l := fun e => by
    obtain ⟨ob, h1, h2⟩ := cells_of_cell hp
    rw [e, h] at h1
    injection h1 with h1
    rw [← h1] at h2
    cases h2
  exact (World.cell?_of_block (World.putObj_heap_other hne)).trans hp
theorem row_putA {W : World} {l : Nat} {r : Obj} {B : Nat} {e : TypeId} {size : Nat} {v : Value} {n : Nat} {xs : List Value} (h : W.heap[l]? = some r) (o : Obj) (hr : ∀ c t fz, r ≠ .cells c t fz := by (intro _ _ _ e; cases e)) (hx : W.ownsRow B e size v n xs) : (W.putObj l o).ownsRow B e size v n xs := by
  obtain ⟨k1, k2⟩ := hx
  refine ⟨k1, ?_⟩
  rcases k2 with k2 | ⟨g, cap, cur, k3, k4, k5, k6⟩
  · exact Or.inl k2
  · refine Or.inr ⟨g, cap, cur, k3, k4, ?_, k6⟩
    have hne : g ≠ l := fun e => by rw [e, h] at k5; exact hr _ _ _ (Option.some.inj k5)
    exact (World.putObj_heap_other hne).trans k5
theorem row_cells {w : World} {B : Nat} {e : TypeId} {size : Nat} {v : Value} {n : Nat} {xs : List Value} (h : w.ownsRow B e size v n xs) : ∀ g, v.ownBlock = some g → B ≤ g ∧ ∃ c fz, w.heap[g]? = some (.cells c e fz) := fun g hg => by
  rcases h.2 with ⟨rfl, _⟩ | ⟨g', cap, cur, rfl, k1, k2, _⟩
  · simp [Value.ownBlock] at hg
  · simp [Value.ownBlock] at hg
    subst hg
    exact ⟨k1, _, _, k2⟩
theorem LJ.app {l D s N B i : Nat} {R : Loop} {pre : List Nat} {W0 W W4 : World} {v v' : Value} {o : Obj} (hJ : LJ l D s N B R pre W0 W) (hsN : s < N) (hsB : B ≤ s) (hls : l ≠ s) (hDs : D ≠ s) (hv : W.cell? ⟨s, 0, none⟩ = some v)
    (hown4 : W4.ownsRow N 3 1 v' (pre.length + 1) (ints pre ++ [.int .i64 (i : Int)])) (hg : (W.alloc o).grownBy W4 v.ownBlock) :
    LJ l D s N B R (pre ++ [i]) W0 (W4.setCell ⟨s, 0, none⟩ v') ∧ Fr N s W (W4.setCell ⟨s, 0, none⟩ v') ∧ W4.cell? ⟨s, 0, none⟩ = some v ∧ W4.frozen? ⟨s, 0, none⟩ = false := by
  obtain ⟨h1, h2, ⟨v2, h3, h4, h5⟩, h6, h7⟩ := hJ
  rw [hv] at h3
  injection h3 with h3
  subst h3
  have hr := row_cells h5
  have hk : ∀ k, k < W.heap.size → (∀ g, v.ownBlock = some g → k ≠ g) → W4.heap[k]? = W.heap[k]? := fun k hk hne =>
    (hg.block k (by rw [World.size_alloc]; omega) (fun e => hne k e.symm rfl)).trans (Below.heap_alloc _ _ _ hk)
  have hk2 : ∀ k ob, W.heap[k]? = some ob → (∀ c t fz, ob ≠ .cells c t fz) → k ≠ s → (W4.setCell ⟨s, 0, none⟩ v').heap[k]? = some ob := fun k ob ho hc hks => by
    rw [Below.heap_setCell _ _ _ _ (by exact hks), hk k (Array.getElem?_eq_some_iff.1 ho).1 (fun g e1 e2 => by
      obtain ⟨_, c, fz, e3⟩ := hr g e1
      rw [← e2, ho] at e3
      exact hc _ _ _ (Option.some.inj e3)), ho]
  have hsW := World.block_lt_of_cell? _ _ hv
  have hs4 : W4.heap[s]? = W.heap[s]? := hk s hsW (fun g e1 e2 => by have := (hr g e1).1; omega)
  have hc4 : W4.cell? ⟨s, 0, none⟩ = some v := (World.cell?_of_block hs4).trans hv
  have hf4 : W4.frozen? ⟨s, 0, none⟩ = false := (World.frozen?_of_block hs4).trans h4
  refine ⟨⟨hk2 l _ h1 (fun _ _ _ e => by cases e) hls, hk2 D _ h2 (fun _ _ _ e => by cases e) hDs, ⟨v', World.cell?_setCell_same' _ _ _ (by rw [hc4]; rfl), by rw [World.frozen?_setCell]; exact hf4, ?_⟩, ?_, ?_⟩, ?_, hc4, hf4⟩
  · rw [List.length_append, List.length_singleton, ints_snoc]
    exact ownsRow_setCell_below hown4 (by exact hsN) v'
  · refine Below.setCell ?_ (by exact hsB) v'
    have hBW : B ≤ W.heap.size := by omega
    exact (h6.alloc hBW o).grown hg (by rw [World.size_alloc]; omega) (fun k e => by have := (hr k e).1; omega)
  · have := hg.size
    rw [World.size_alloc] at this
    show N ≤ (W4.setCell _ _).heap.size
    simp [World.setCell]
    omega
  · intro k h8 h9
    rw [Below.heap_setCell _ _ _ _ (by exact h9), hk k (by omega) (fun g e1 e2 => by have := (hr g e1).1; omega)]

set_option maxRecDepth 100000 in
set_option maxHeartbeats 3200000 in
theorem appendSeq_any (wl ul : List UInt8) (bu bw : Nat) (w : World) (hlw : wl.length ≤ 100000) (hlu : ul.length ≤ 100000) (hu : w.cell? ⟨bu, 0, none⟩ = some (.string ⟨ul.toArray⟩)) (hw : w.cell? ⟨bw, 0, none⟩ = some (.string ⟨wl.toArray⟩)) :
    Calls Tryd.prog 83 #[.slice none 0 0, .func (.func 84) #[] #[.pointer (some ⟨bu, 0, none⟩), .pointer (some ⟨bw, 0, none⟩)]] w (NumsOut w (occ wl ul)) := by
  obtain ⟨i0, hi, hz0, hz1, hz2⟩ := info_parts Tryd.infoI64
  refine (callsIn_wide (n := 8)).1 ?_
  refine callsIn_of_wp_marks Tryd.func83 rfl trivial ?_ rfl
  simp only [Tryd.ntmps83, List.size_toArray, List.length_cons, List.length_nil, Nat.reduceAdd, Nat.reduceSub, Array.replicate_succ, Array.replicate_zero, List.push_toArray, List.append_toArray, List.nil_append, List.cons_append]
  have S1 : (w.alloc (.cells #[.slice none 0 0] 37)).cell? ⟨w.heap.size, 0, none⟩ = some (.slice none 0 0) := by simp [go_sem]
  have S2 : (w.alloc (.cells #[.slice none 0 0] 37)).frozen? ⟨w.heap.size, 0, none⟩ = false := by simp [go_sem]
  have U1 := cell_keep hu (below1 w (.cells #[.slice none 0 0] 37))
  have U2 := cell_keep hw (below1 w (.cells #[.slice none 0 0] 37))
  have hb1 := below1 w (.cells #[.slice none 0 0] 37)
  have HZ := Lib.hid (World.size_alloc w (.cells #[.slice none 0 0] 37))
  gi_wp2
  generalize w.alloc (.cells #[.slice none 0 0] 37) = W1 at *
  refine rangeFunc_on rfl (by omega) (gf := 84) (lb := #[.pointer (some ⟨bu, 0, none⟩), .pointer (some ⟨bw, 0, none⟩)]) rfl trivial (enters_of Tryd.func84 (by kernel_rfl) rfl)
    (R := fun _ W' => ∃ REC N, w.heap.size ≤ N ∧ LJ (W1.heap.size + 1) W1.heap.size w.heap.size N w.heap.size REC (occ wl ul) w W') ?_ ?_
  · intro fn hfn REC hREC
    have HREC := Lib.hid hREC
    clear hREC
    have hbl := below2 W1 (.deferred (some [])) (.loop REC)
    refine (occ1_in (W1.heap.size + 1) W1.heap.size w.heap.size w.heap.size bu bw REC wl ul w _ hlw hlu (Nat.le_refl _) ?_ (cell_keep U1 hbl) (cell_keep U2 hbl) ?_ ?_ (cell_keep S1 hbl) (frozen_keep S1 S2 hbl) (below_more hb1 (Nat.le_refl _) hbl)).mono ?_
    · rintro N pre i W hJ hsN hpl hil
      have hJ' := hJ
      obtain ⟨hl, hD, ⟨v, hv, hvf, hown⟩, hBe, hN⟩ := hJ'
      refine round_on HREC.out trivial hl rfl fun RB => ?_
      have hJP := hJ.put (R2 := RB) (by have := HZ.out; omega) (by omega)
      have HlN := Lib.hid (Array.getElem?_eq_some_iff.1 hl).1
      obtain ⟨g1, g2, ⟨v2, g3, g4, g5⟩, g6, g7⟩ := id hJP
      have Hl := Lib.hid hl
      have HJP := Lib.hid hJP
      clear hl hD hv hvf hown hBe hJ hJP g1 g2 g6
      gi_wp2
      refine ⟨Hl.out, ?_⟩
      generalize hWp : W.putObj (W1.heap.size + 1) (.loop RB) = Wp at *
      gi_wp2_with (gi_at_builtin; refine wpListIn_append_own _ rfl _ _ 37 rfl N 3 i0 (.int .i64 0) 1 8 Tryd.underlying37 hi hz0 hz1 hz2 rfl (by decide) _ _ _ rfl (g5.alloc _) ⟨Wp.heap.size, 0, none⟩ 1 1 [.int .i64 (i : Int)] rfl rfl (cell_one_new _ _ _) (by simp [Value.oneCell']) (by unfold maxLen; omega) (by omega) (by rw [World.size_alloc]; omega) ?_; intro v' w4 hown4 hgrow4 _; (obtain ⟨g', cap', rfl, -, -⟩ := hown4.form (Nat.succ_pos _)); (obtain ⟨hJ5, hF5, c4, f4⟩ := HJP.out.app hsN (Nat.le_refl _) (by have := HZ.out; omega) (by have := HZ.out; omega) g3 hown4 hgrow4))
      obtain ⟨j1, j2, j3, j4, j5⟩ := id hJ5
      have hFr2 : Fr N w.heap.size W ((w4.setCell ⟨w.heap.size, 0, none⟩ (.slice (some ⟨g', 0, none⟩) (pre.length + 1) cap')).putObj (W1.heap.size + 1) (.loop REC)) := fun k h1 h2 => by
        by_cases hkl : k = W1.heap.size + 1
        · subst hkl
          rw [Hl.out]
          exact World.putObj_heap_same (Array.getElem?_eq_some_iff.1 j1).1
        · rw [World.putObj_heap_other hkl, hF5 k h1 h2, ← hWp, World.putObj_heap_other hkl]
      refine ⟨j1, ?_, hFr2⟩
      exact hJ5.put (by have := HZ.out; omega) (by omega)
    · have := World.alloc_heap_new (W1.alloc (.deferred (some []))) (.loop REC)
      rwa [World.size_alloc] at this
    · exact (Below.heap_alloc _ _ _ (by rw [World.size_alloc]; omega)).trans (World.alloc_heap_new W1 _)
    · rintro e w' ⟨h1, N, h2, h3⟩
      exact ⟨h1, h3.1, REC, N, by rw [World.size_alloc, World.size_alloc] at h2; have := HZ.out; omega, h3⟩
  · rintro fn W' o r ⟨REC, N, hN, hJ⟩ hl
    have hJ2 := hJ
    obtain ⟨j1, j2, j3, j4, j5⟩ := hJ2
    have hneD : W1.heap.size ≠ W1.heap.size + 1 := by omega
    have hD' : (W'.putObj (W1.heap.size + 1) o).heap[W1.heap.size]? = some (.deferred (some [])) := (World.putObj_heap_other hneD).trans j2
    have hrest : ∀ R2 : Obj, (∃ v, (W'.putObj (W1.heap.size + 1) R2).cell? ⟨w.heap.size, 0, none⟩ = some v ∧ (W'.putObj (W1.heap.size + 1) R2).ownsRow N 3 1 v (occ wl ul).length (ints (occ wl ul))) ∧ Below w.heap.size w (W'.putObj (W1.heap.size + 1) R2) := fun R2 => by
      obtain ⟨v, h3, h4, h5⟩ := j3
      refine ⟨⟨v, cell_putA j1 R2 _ h3, row_putA j1 R2 (hx := h5)⟩, j4.trans ⟨rfl, rfl, rfl, by simp, fun k hk => World.putObj_heap_other (by have := HZ.out; omega)⟩⟩
    obtain ⟨⟨v, hv, hown⟩, hBe⟩ := hrest o
    clear j1 j2 j3 j4 j5 hJ hl hrest
    generalize W'.putObj (W1.heap.size + 1) o = W5 at *
    gi_wp2
    refine ⟨by simp, .inl ⟨_, _, rfl, run_takeDeferred hD', ?_⟩⟩
    exact ⟨v, by simp [results, Tryd.results83, go_sem], v, rfl, row_putA hD' (.deferred none) (hx := ownsRow_down hown hN), hBe.trans ⟨rfl, rfl, rfl, by simp, fun k hk => World.putObj_heap_other (by have := HZ.out; omega)⟩⟩

theorem collect_any (wl ul : List UInt8) (bu bw : Nat) (w : World) (hlw : wl.length ≤ 100000) (hlu : ul.length ≤ 100000) (hu : w.cell? ⟨bu, 0, none⟩ = some (.string ⟨ul.toArray⟩)) (hw : w.cell? ⟨bw, 0, none⟩ = some (.string ⟨wl.toArray⟩)) :
    Calls Tryd.prog 50 #[.func (.func 84) #[] #[.pointer (some ⟨bu, 0, none⟩), .pointer (some ⟨bw, 0, none⟩)]] w (NumsOut w (occ wl ul)) := by
  go_enter Tryd.func50, Tryd.ntmps50
  go_wp2_with (go_at_call 83; (with_reducible refine (appendSeq_any wl ul bu bw _ hlw hlu hu hw).mono ?_); rintro e W1 ⟨v, rfl, h1, h2⟩)
  go_ret
  exact ⟨v, rfl, h1, h2⟩
set_option maxRecDepth 100000 in
set_option maxHeartbeats 1600000 in
theorem find_any (wl ul : List UInt8) (w : World) (hlw : wl.length ≤ 100000) (hlu : ul.length ≤ 100000) :
    Calls Tryd.prog 23 #[.string ⟨wl.toArray⟩, .string ⟨ul.toArray⟩] w (NumsOut w (occ wl ul)) := by
  have hb := below2 w (.cells #[.string ⟨wl.toArray⟩] 9) (.cells #[.string ⟨ul.toArray⟩] 9)
  have h1 : ((w.alloc (.cells #[.string ⟨wl.toArray⟩] 9)).alloc (.cells #[.string ⟨ul.toArray⟩] 9)).cell? ⟨w.heap.size + 1, 0, none⟩ = some (.string ⟨ul.toArray⟩) := by simp [go_sem]
  have h2 : ((w.alloc (.cells #[.string ⟨wl.toArray⟩] 9)).alloc (.cells #[.string ⟨ul.toArray⟩] 9)).cell? ⟨w.heap.size, 0, none⟩ = some (.string ⟨wl.toArray⟩) := by simp [go_sem]
  have HC := Lib.hid (collect_any wl ul _ _ _ hlw hlu h1 h2)
  clear h1 h2
  go_enter Tryd.func23, Tryd.ntmps23
  go_wp2_with (first
    | (go_at_call 51; (with_reducible refine (occurrences_any wl ul _).mono ?_); rintro e W1 ⟨rfl, rfl⟩)
    | (go_at_call 50; (with_reducible refine HC.out.mono ?_); rintro e W2 ⟨v, rfl, h3, h4⟩))
  go_ret
  exact ⟨v, rfl, ownsRow_down h3 (by rw [World.size_alloc, World.size_alloc]; omega), below_more hb (Nat.le_refl _) h4⟩
end Go.Proofs.YtigdjlhihhakmaaDoor
