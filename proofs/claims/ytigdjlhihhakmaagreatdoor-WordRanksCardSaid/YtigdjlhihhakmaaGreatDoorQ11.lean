/- What word.Find returns: the offsets at which a string occurs, in ascending order. Condition: both have at most 10^5 bytes. What word.Check, word.digit, word.successor, word.least and word.Next return. Condition: a string's length. What word.digit, word.least, word.successor and word.Next return. Condition: a string's length. -/
import Derived.Test.YtigdjlhihhakmaaGreatDoorQ10
import Derived.Test.YtigdjlhihhakmaaGreatDoorQ03
import Derived.Shelf.Strings.SlTrimAscii
import Derived.Shelf.Strings.Repeat
import Derived.Deep.RegionHeld3

namespace Go.Proofs.YtigdjlhihhakmaaGreatDoor
open Go.RowKit Go.Shelf
attribute [local go_sem] Oper.semAt_some
set_option linter.unusedSimpArgs false
set_option linter.unusedVariables false

theorem occurrences_any (wl ul : List UInt8) (w : World) :
    Calls Tryz.prog 53 #[.string ⟨wl.toArray⟩, .string ⟨ul.toArray⟩] w fun e w' =>
      e = .returned (.func (.func 92) #[] #[.pointer (some ⟨w.heap.size + 1, 0, none⟩), .pointer (some ⟨w.heap.size, 0, none⟩)]) ∧ w' = (w.alloc (.cells #[.string ⟨wl.toArray⟩] 9)).alloc (.cells #[.string ⟨ul.toArray⟩] 9) := by
  go_enter Tryz.func53, Tryz.ntmps53
  go_wp2
  go_ret
  exact ⟨rfl, rfl⟩
/-- A list of numbers in memory. -/
def NumsOut (w : World) (l : List Nat) (e : Ending) (w' : World) : Prop := ∃ v, e = .returned v ∧ w'.ownsRow w.heap.size 3 1 v l.length (ints l) ∧ Below w.heap.size w w'
theorem ownsRow_down {w : World} {base base' : Nat} {e : TypeId} {size : Nat} {v : Value} {n : Nat} {xs : List Value} (h : w.ownsRow base e size v n xs) (hb : base' ≤ base) : w.ownsRow base' e size v n xs :=
  ⟨h.1, h.2.imp id fun ⟨g, cap, cur, h1, h2, h3⟩ => ⟨g, cap, cur, h1, Nat.le_trans hb h2, h3⟩⟩
theorem LJ.put {l D s N B : Nat} {REC R2 : Loop} {pre : List Nat} {W0 W : World} (h : LJ l D s N B REC pre W0 W) (hBl : B ≤ l) (hlD : D ≠ l) : LJ l D s N B R2 pre W0 (W.putObj l (.loop R2)) := by
  obtain ⟨h1, h2, ⟨v, h3, h4, h5⟩, h6, h7⟩ := h
  refine ⟨World.putObj_heap_same (Array.getElem?_eq_some_iff.1 h1).1, (World.putObj_heap_other hlD).trans h2, ⟨v, ?_, ?_, ?_⟩, h6.trans ⟨rfl, rfl, rfl, by simp, fun k hk => World.putObj_heap_other (by omega)⟩, by simpa using h7⟩
  · have hne : s ≠ l := fun e => by
      obtain ⟨ob, h1', h2'⟩ := cells_of_cell h3
      rw [show (⟨s, 0, none⟩ : Addr).block = s from rfl, e, h1] at h1'
      injection h1' with h1'
      rw [← h1'] at h2'
      cases h2'
    exact (World.cell?_of_block (World.putObj_heap_other hne)).trans h3
  · have hne : s ≠ l := fun e => by
      obtain ⟨ob, h1', h2'⟩ := cells_of_cell h3
      rw [show (⟨s, 0, none⟩ : Addr).block = s from rfl, e, h1] at h1'
      injection h1' with h1'
      rw [← h1'] at h2'
      cases h2'
    exact (World.frozen?_of_block (World.putObj_heap_other hne)).trans h4
  · obtain ⟨k1, k2⟩ := h5
    refine ⟨k1, ?_⟩
    rcases k2 with k2 | ⟨g, cap, cur, k3, k4, k5, k6⟩
    · exact Or.inl k2
    · refine Or.inr ⟨g, cap, cur, k3, k4, ?_, k6⟩
      have hne : g ≠ l := fun e => by rw [e, h1] at k5; cases k5
      exact (World.putObj_heap_other hne).trans k5

theorem cell_putA {W : World} {l : Nat} {r : Loop} (h : W.heap[l]? = some (.loop r)) (o : Obj) (p : Addr) {v : Value} (hp : W.cell? p = some v) : (W.putObj l o).cell? p = some v := by
  have hne : p.block ≠ l := fun e => by
    obtain ⟨ob, h1, h2⟩ := cells_of_cell hp
    rw [e, h] at h1
    injection h1 with h1
    rw [← h1] at h2
    cases h2
  exact (World.cell?_of_block (World.putObj_heap_other hne)).trans hp
theorem row_putA {W : World} {l : Nat} {r : Obj} {B : Nat} {e : TypeId} {size : Nat} {v : Value} {n : Nat} {xs : List Value} (h : W.heap[l]? = some r) (o : Obj) (hr : ∀ c t fz, r ≠ .cells c t fz := by (intro _ _ _ e; cases e)) (hx : W.ownsRow B e size v n xs) : (W.putObj l o).ownsRow B e size v n xs := by
  obtain ⟨k1, k2⟩ := hx
  refine ⟨k1, ?_⟩
  rcases k2 with k2 | ⟨g, cap, cur, k3, k4, k5, k6⟩
  · exact Or.inl k2
  · refine Or.inr ⟨g, cap, cur, k3, k4, ?_, k6⟩
    have hne : g ≠ l := fun e => by rw [e, h] at k5; exact hr _ _ _ (Option.some.inj k5)
    exact (World.putObj_heap_other hne).trans k5
theorem row_cells {w : World} {B : Nat} {e : TypeId} {size : Nat} {v : Value} {n : Nat} {xs : List Value} (h : w.ownsRow B e size v n xs) : ∀ g, v.ownBlock = some g → B ≤ g ∧ ∃ c fz, w.heap[g]? = some (.cells c e fz) := fun g hg => by
  rcases h.2 with ⟨rfl, _⟩ | ⟨g', cap, cur, rfl, k1, k2, _⟩
  · simp [Value.ownBlock] at hg
  · simp [Value.ownBlock] at hg
    subst hg
    exact ⟨k1, _, _, k2⟩
theorem LJ.app {l D s N B i : Nat} {R : Loop} {pre : List Nat} {W0 W W4 : World} {v v' : Value} {o : Obj} (hJ : LJ l D s N B R pre W0 W) (hsN : s < N) (hsB : B ≤ s) (hls : l ≠ s) (hDs : D ≠ s) (hv : W.cell? ⟨s, 0, none⟩ = some v)
    (hown4 : W4.ownsRow N 3 1 v' (pre.length + 1) (ints pre ++ [.int .i64 (i : Int)])) (hg : (W.alloc o).grownBy W4 v.ownBlock) :
    LJ l D s N B R (pre ++ [i]) W0 (W4.setCell ⟨s, 0, none⟩ v') ∧ Fr N s W (W4.setCell ⟨s, 0, none⟩ v') ∧ W4.cell? ⟨s, 0, none⟩ = some v ∧ W4.frozen? ⟨s, 0, none⟩ = false := by
  obtain ⟨h1, h2, ⟨v2, h3, h4, h5⟩, h6, h7⟩ := hJ
  rw [hv] at h3
  injection h3 with h3
  subst h3
  have hr := row_cells h5
  have hk : ∀ k, k < W.heap.size → (∀ g, v.ownBlock = some g → k ≠ g) → W4.heap[k]? = W.heap[k]? := fun k hk hne =>
    (hg.block k (by rw [World.size_alloc]; omega) (fun e => hne k e.symm rfl)).trans (Below.heap_alloc _ _ _ hk)
  have hk2 : ∀ k ob, W.heap[k]? = some ob → (∀ c t fz, ob ≠ .cells c t fz) → k ≠ s → (W4.setCell ⟨s, 0, none⟩ v').heap[k]? = some ob := fun k ob ho hc hks => by
    rw [Below.heap_setCell _ _ _ _ (by exact hks), hk k (Array.getElem?_eq_some_iff.1 ho).1 (fun g e1 e2 => by
      obtain ⟨_, c, fz, e3⟩ := hr g e1
      rw [← e2, ho] at e3
      exact hc _ _ _ (Option.some.inj e3)), ho]
  have hsW := World.block_lt_of_cell? _ _ hv
  have hs4 : W4.heap[s]? = W.heap[s]? := hk s hsW (fun g e1 e2 => by have := (hr g e1).1; omega)
  have hc4 : W4.cell? ⟨s, 0, none⟩ = some v := (World.cell?_of_block hs4).trans hv
  have hf4 : W4.frozen? ⟨s, 0, none⟩ = false := (World.frozen?_of_block hs4).trans h4
  refine ⟨⟨hk2 l _ h1 (fun _ _ _ e => by cases e) hls, hk2 D _ h2 (fun _ _ _ e => by cases e) hDs, ⟨v', World.cell?_setCell_same' _ _ _ (by rw [hc4]; rfl), by rw [World.frozen?_setCell]; exact hf4, ?_⟩, ?_, ?_⟩, ?_, hc4, hf4⟩
  · rw [List.length_append, List.length_singleton, ints_snoc]
    exact ownsRow_setCell_below hown4 (by exact hsN) v'
  · refine Below.setCell ?_ (by exact hsB) v'
    have hBW : B ≤ W.heap.size := by omega
    exact (h6.alloc hBW o).grown hg (by rw [World.size_alloc]; omega) (fun k e => by have := (hr k e).1; omega)
  · have := hg.size
    rw [World.size_alloc] at this
    show N ≤ (W4.setCell _ _).heap.size
    simp [World.setCell]
    omega
  · intro k h8 h9
    rw [Below.heap_setCell _ _ _ _ (by exact h9), hk k (by omega) (fun g e1 e2 => by have := (hr g e1).1; omega)]

set_option maxRecDepth 100000 in
set_option maxHeartbeats 3200000 in
theorem appendSeq_any (wl ul : List UInt8) (bu bw : Nat) (w : World) (hlw : wl.length ≤ 100000) (hlu : ul.length ≤ 100000) (hu : w.cell? ⟨bu, 0, none⟩ = some (.string ⟨ul.toArray⟩)) (hw : w.cell? ⟨bw, 0, none⟩ = some (.string ⟨wl.toArray⟩)) :
    Calls Tryz.prog 91 #[.slice none 0 0, .func (.func 92) #[] #[.pointer (some ⟨bu, 0, none⟩), .pointer (some ⟨bw, 0, none⟩)]] w (NumsOut w (occ wl ul)) := by
  obtain ⟨i0, hi, hz0, hz1, hz2⟩ := info_parts Tryz.infoI64
  refine (callsIn_wide (n := 8)).1 ?_
  refine callsIn_of_wp_marks Tryz.func91 rfl trivial ?_ rfl
  simp only [Tryz.ntmps91, List.size_toArray, List.length_cons, List.length_nil, Nat.reduceAdd, Nat.reduceSub, Array.replicate_succ, Array.replicate_zero, List.push_toArray, List.append_toArray, List.nil_append, List.cons_append]
  have S1 : (w.alloc (.cells #[.slice none 0 0] 45)).cell? ⟨w.heap.size, 0, none⟩ = some (.slice none 0 0) := by simp [go_sem]
  have S2 : (w.alloc (.cells #[.slice none 0 0] 45)).frozen? ⟨w.heap.size, 0, none⟩ = false := by simp [go_sem]
  have U1 := cell_keep hu (below1 w (.cells #[.slice none 0 0] 45))
  have U2 := cell_keep hw (below1 w (.cells #[.slice none 0 0] 45))
  have hb1 := below1 w (.cells #[.slice none 0 0] 45)
  have HZ := Lib.hid (World.size_alloc w (.cells #[.slice none 0 0] 45))
  gi_wp2
  generalize w.alloc (.cells #[.slice none 0 0] 45) = W1 at *
  refine rangeFunc_on rfl (by omega) (gf := 92) (lb := #[.pointer (some ⟨bu, 0, none⟩), .pointer (some ⟨bw, 0, none⟩)]) rfl trivial (enters_of Tryz.func92 (by kernel_rfl) rfl)
    (R := fun _ W' => ∃ REC N, w.heap.size ≤ N ∧ LJ (W1.heap.size + 1) W1.heap.size w.heap.size N w.heap.size REC (occ wl ul) w W') ?_ ?_
  · intro fn hfn REC hREC
    have HREC := Lib.hid hREC
    clear hREC
    have hbl := below2 W1 (.deferred (some [])) (.loop REC)
    refine (occ1_in (W1.heap.size + 1) W1.heap.size w.heap.size w.heap.size bu bw REC wl ul w _ hlw hlu (Nat.le_refl _) ?_ (cell_keep U1 hbl) (cell_keep U2 hbl) ?_ ?_ (cell_keep S1 hbl) (frozen_keep S1 S2 hbl) (below_more hb1 (Nat.le_refl _) hbl)).mono ?_
    · rintro N pre i W hJ hsN hpl hil
      have hJ' := hJ
      obtain ⟨hl, hD, ⟨v, hv, hvf, hown⟩, hBe, hN⟩ := hJ'
      refine round_on HREC.out trivial hl rfl fun RB => ?_
      have hJP := hJ.put (R2 := RB) (by have := HZ.out; omega) (by omega)
      have HlN := Lib.hid (Array.getElem?_eq_some_iff.1 hl).1
      obtain ⟨g1, g2, ⟨v2, g3, g4, g5⟩, g6, g7⟩ := id hJP
      have Hl := Lib.hid hl
      have HJP := Lib.hid hJP
      clear hl hD hv hvf hown hBe hJ hJP g1 g2 g6
      gi_wp2
      refine ⟨Hl.out, ?_⟩
      generalize hWp : W.putObj (W1.heap.size + 1) (.loop RB) = Wp at *
      gi_wp2_with (gi_at_builtin; refine wpListIn_append_own _ rfl _ _ 45 rfl N 3 i0 (.int .i64 0) 1 8 Tryz.underlying45 hi hz0 hz1 hz2 rfl (by decide) _ _ _ rfl (g5.alloc _) ⟨Wp.heap.size, 0, none⟩ 1 1 [.int .i64 (i : Int)] rfl rfl (cell_one_new _ _ _) (by simp [Value.oneCell']) (by unfold maxLen; omega) (by omega) (by rw [World.size_alloc]; omega) ?_; intro v' w4 hown4 hgrow4 _; (obtain ⟨g', cap', rfl, -, -⟩ := hown4.form (Nat.succ_pos _)); (obtain ⟨hJ5, hF5, c4, f4⟩ := HJP.out.app hsN (Nat.le_refl _) (by have := HZ.out; omega) (by have := HZ.out; omega) g3 hown4 hgrow4))
      obtain ⟨j1, j2, j3, j4, j5⟩ := id hJ5
      have hFr2 : Fr N w.heap.size W ((w4.setCell ⟨w.heap.size, 0, none⟩ (.slice (some ⟨g', 0, none⟩) (pre.length + 1) cap')).putObj (W1.heap.size + 1) (.loop REC)) := fun k h1 h2 => by
        by_cases hkl : k = W1.heap.size + 1
        · subst hkl
          rw [Hl.out]
          exact World.putObj_heap_same (Array.getElem?_eq_some_iff.1 j1).1
        · rw [World.putObj_heap_other hkl, hF5 k h1 h2, ← hWp, World.putObj_heap_other hkl]
      refine ⟨j1, ?_, hFr2⟩
      exact hJ5.put (by have := HZ.out; omega) (by omega)
    · have := World.alloc_heap_new (W1.alloc (.deferred (some []))) (.loop REC)
      rwa [World.size_alloc] at this
    · exact (Below.heap_alloc _ _ _ (by rw [World.size_alloc]; omega)).trans (World.alloc_heap_new W1 _)
    · rintro e w' ⟨h1, N, h2, h3⟩
      exact ⟨h1, h3.1, REC, N, by rw [World.size_alloc, World.size_alloc] at h2; have := HZ.out; omega, h3⟩
  · rintro fn W' o r ⟨REC, N, hN, hJ⟩ hl
    have hJ2 := hJ
    obtain ⟨j1, j2, j3, j4, j5⟩ := hJ2
    have hneD : W1.heap.size ≠ W1.heap.size + 1 := by omega
    have hD' : (W'.putObj (W1.heap.size + 1) o).heap[W1.heap.size]? = some (.deferred (some [])) := (World.putObj_heap_other hneD).trans j2
    have hrest : ∀ R2 : Obj, (∃ v, (W'.putObj (W1.heap.size + 1) R2).cell? ⟨w.heap.size, 0, none⟩ = some v ∧ (W'.putObj (W1.heap.size + 1) R2).ownsRow N 3 1 v (occ wl ul).length (ints (occ wl ul))) ∧ Below w.heap.size w (W'.putObj (W1.heap.size + 1) R2) := fun R2 => by
      obtain ⟨v, h3, h4, h5⟩ := j3
      refine ⟨⟨v, cell_putA j1 R2 _ h3, row_putA j1 R2 (hx := h5)⟩, j4.trans ⟨rfl, rfl, rfl, by simp, fun k hk => World.putObj_heap_other (by have := HZ.out; omega)⟩⟩
    obtain ⟨⟨v, hv, hown⟩, hBe⟩ := hrest o
    clear j1 j2 j3 j4 j5 hJ hl hrest
    generalize W'.putObj (W1.heap.size + 1) o = W5 at *
    gi_wp2
    refine ⟨by simp, .inl ⟨_, _, rfl, run_takeDeferred hD', ?_⟩⟩
    exact ⟨v, by simp [results, Tryz.results91, go_sem], v, rfl, row_putA hD' (.deferred none) (hx := ownsRow_down hown hN), hBe.trans ⟨rfl, rfl, rfl, by simp, fun k hk => World.putObj_heap_other (by have := HZ.out; omega)⟩⟩

theorem collect_any (wl ul : List UInt8) (bu bw : Nat) (w : World) (hlw : wl.length ≤ 100000) (hlu : ul.length ≤ 100000) (hu : w.cell? ⟨bu, 0, none⟩ = some (.string ⟨ul.toArray⟩)) (hw : w.cell? ⟨bw, 0, none⟩ = some (.string ⟨wl.toArray⟩)) :
    Calls Tryz.prog 52 #[.func (.func 92) #[] #[.pointer (some ⟨bu, 0, none⟩), .pointer (some ⟨bw, 0, none⟩)]] w (NumsOut w (occ wl ul)) := by
  go_enter Tryz.func52, Tryz.ntmps52
  go_wp2_with (go_at_call 91; (with_reducible refine (appendSeq_any wl ul bu bw _ hlw hlu hu hw).mono ?_); rintro e W1 ⟨v, rfl, h1, h2⟩)
  go_ret
  exact ⟨v, rfl, h1, h2⟩
set_option maxRecDepth 100000 in
set_option maxHeartbeats 1600000 in
theorem find_any (wl ul : List UInt8) (w : World) (hlw : wl.length ≤ 100000) (hlu : ul.length ≤ 100000) :
    Calls Tryz.prog 20 #[.string ⟨wl.toArray⟩, .string ⟨ul.toArray⟩] w (NumsOut w (occ wl ul)) := by
  have hb := below2 w (.cells #[.string ⟨wl.toArray⟩] 9) (.cells #[.string ⟨ul.toArray⟩] 9)
  have h1 : ((w.alloc (.cells #[.string ⟨wl.toArray⟩] 9)).alloc (.cells #[.string ⟨ul.toArray⟩] 9)).cell? ⟨w.heap.size + 1, 0, none⟩ = some (.string ⟨ul.toArray⟩) := by simp [go_sem]
  have h2 : ((w.alloc (.cells #[.string ⟨wl.toArray⟩] 9)).alloc (.cells #[.string ⟨ul.toArray⟩] 9)).cell? ⟨w.heap.size, 0, none⟩ = some (.string ⟨wl.toArray⟩) := by simp [go_sem]
  have HC := Lib.hid (collect_any wl ul _ _ _ hlw hlu h1 h2)
  clear h1 h2
  go_enter Tryz.func20, Tryz.ntmps20
  go_wp2_with (first
    | (go_at_call 53; (with_reducible refine (occurrences_any wl ul _).mono ?_); rintro e W1 ⟨rfl, rfl⟩)
    | (go_at_call 52; (with_reducible refine HC.out.mono ?_); rintro e W2 ⟨v, rfl, h3, h4⟩))
  go_ret
  exact ⟨v, rfl, ownsRow_down h3 (by rw [World.size_alloc, World.size_alloc]; omega), below_more hb (Nat.le_refl _) h4⟩
end Go.Proofs.YtigdjlhihhakmaaGreatDoor

namespace Go.Proofs.YtigdjlhihhakmaaGreatDoor
open Go.RowKit

/-- The letters, as the program lays them. -/
abbrev lb : ByteArray := ⟨#[48, 49, 50, 51, 52, 53, 54, 55, 56, 57, 97, 98, 99, 100, 101, 102]⟩
theorem lb_eq : lb = ⟨lets.toArray⟩ := rfl
theorem ascii_lets : ∀ b ∈ lets, b.toNat < 128 := by decide
theorem ascii_of {m : List UInt8} (h : ∀ b ∈ m, b ∈ lets) : ∀ (j : Nat) b, (⟨m.toArray⟩ : ByteArray).data.toList[j]? = some b → b.toNat < 128 := fun _ b hb => ascii_lets b (h b (List.mem_of_getElem? hb))
theorem trims_any (l m : List UInt8) (w : World) (hl : l.length ≤ 9223372036854775807) (hm : ∀ b ∈ m, b ∈ lets) (hc : m.length ≤ 16) :
    Calls Tryz.prog 45 #[.string ⟨l.toArray⟩, .string ⟨m.toArray⟩] w fun e w' => e = .returned (.string ⟨(Lib.trimS l m).toArray⟩) ∧ Below w.heap.size w w' :=
  Any.strings_Trim_ascii Tryz.lays160 (fun _ => by kernel_rfl) (by kernel_rfl) ⟨l.toArray⟩ ⟨m.toArray⟩ w hl (by show m.length < _; omega) (ascii_of hm)
theorem trimRs_any (l m : List UInt8) (w : World) (hl : l.length ≤ 9223372036854775807) (hm : ∀ b ∈ m, b ∈ lets) (hc : m.length ≤ 16) :
    Calls Tryz.prog 76 #[.string ⟨l.toArray⟩, .string ⟨m.toArray⟩] w fun e w' => e = .returned (.string ⟨(Lib.trimRightS l m).toArray⟩) ∧ Below w.heap.size w w' :=
  Any.strings_TrimRight_ascii Tryz.lays162 (fun _ => by kernel_rfl) (by kernel_rfl) ⟨l.toArray⟩ ⟨m.toArray⟩ w hl (by show m.length < _; omega) (ascii_of hm)
theorem dropWhile_nil {p : UInt8 → Bool} : ∀ {l : List UInt8}, l.dropWhile p = [] ↔ ∀ c ∈ l, p c = true
  | [] => by simp
  | c :: l => by
    rw [List.dropWhile_cons]
    cases h : p c with
    | true => simp only [if_true, List.mem_cons, forall_eq_or_imp, h, true_and]; exact dropWhile_nil
    | false => simp [h]
/-- A text without the letters in front and behind is empty exactly if it has these letters only. -/
theorem trimS_nil {l m : List UInt8} : Lib.trimS l m = [] ↔ ∀ c ∈ l, c ∈ m := by
  unfold Lib.trimS Lib.trimLeftS Lib.trimRightS
  rw [dropWhile_nil]
  constructor
  · intro h c hc
    have h1 : l = (l.reverse.dropWhile (m.contains ·)).reverse ++ (l.reverse.takeWhile (m.contains ·)).reverse := by
      rw [← List.reverse_append, List.takeWhile_append_dropWhile, List.reverse_reverse]
    rw [h1, List.mem_append] at hc
    rcases hc with hc | hc
    · simpa using h c hc
    · rw [List.mem_reverse] at hc
      have := List.all_eq_true.1 (List.all_takeWhile (l := l.reverse) (p := (m.contains ·))) c hc
      simpa using this
  · intro h c hc
    rw [List.mem_reverse] at hc
    have := (List.dropWhile_sublist (m.contains ·)).subset hc
    rw [List.mem_reverse] at this
    simpa using h c this
theorem isAlphabet_any (q : Int) (w : World) : Calls Tryz.prog 44 #[.int .i64 q] w fun e w' => e = .returned (.bool (decide (1 ≤ q) && decide (q ≤ 16))) ∧ w' = w := by
  rcases (show q < 1 ∨ (1 ≤ q ∧ q ≤ 16) ∨ 16 < q by omega) with h | ⟨h1, h2⟩ | h
  · have e : (decide (1 ≤ q) && decide (q ≤ 16)) = false := by rw [decide_eq_false (by omega)]; rfl
    rw [e]; clear e
    go_enter Tryz.func44, Tryz.ntmps44
    go_wp2
    go_ret
    exact ⟨rfl, rfl⟩
  · have e : (decide (1 ≤ q) && decide (q ≤ 16)) = true := by rw [decide_eq_true h1, decide_eq_true h2]; rfl
    rw [e]; clear e
    go_enter Tryz.func44, Tryz.ntmps44
    go_wp2
    go_ret
    exact ⟨rfl, rfl⟩
  · have e : (decide (1 ≤ q) && decide (q ≤ 16)) = false := by rw [decide_eq_false (by omega : ¬ q ≤ 16), Bool.and_false]
    have E2 := Lib.hid (decide_eq_false (by omega : ¬ q ≤ 16))
    rw [e]; clear e
    go_enter Tryz.func44, Tryz.ntmps44
    go_wp2
    go_ret
    exact ⟨congrArg (fun b => Ending.returned (.bool b)) E2.out, rfl⟩
/-- What is wrong with a word. -/
def chk (q : Int) (l : List UInt8) : Int := if 1 ≤ q ∧ q ≤ 16 then (if l.length ≤ 65536 then (if Wof q.toNat l then 0 else 13) else 4) else 12
set_option maxRecDepth 100000 in
set_option maxHeartbeats 1600000 in
theorem check_any (q : Int) (l : List UInt8) (w : World) (hl : l.length ≤ 9223372036854775807) :
    Calls Tryz.prog 16 #[.int .i64 q, .string ⟨l.toArray⟩] w fun e w' => e = .returned (.int .i64 (chk q l)) ∧ Below w.heap.size w w' := by
  by_cases hq : 1 ≤ q ∧ q ≤ 16
  · obtain ⟨q1, q2⟩ := hq
    have ea : (decide (1 ≤ q) && decide (q ≤ 16)) = true := by rw [decide_eq_true q1, decide_eq_true q2]; rfl
    have EA := Lib.hid ea
    clear ea
    rcases Nat.lt_or_ge 65536 l.length with h2 | h2
    · have HC := Lib.hid (show chk q l = 4 by unfold chk; rw [if_pos ⟨q1, q2⟩, if_neg (by omega)])
      go_enter Tryz.func16, Tryz.ntmps16
      go_wp2_with (go_at_call 44; refine (isAlphabet_any q _).mono ?_; rintro e W1 ⟨rfl, rfl⟩; (rw [EA.out]))
      go_ret
      exact ⟨by rw [HC.out]; rfl, Below.refl _ _⟩
    · obtain ⟨m, hm⟩ : ∃ m : Nat, q = (m : Int) := ⟨q.toNat, by omega⟩
      subst hm
      have HC := Lib.hid (show chk m l = if Wof m l then 0 else 13 by unfold chk; rw [if_pos ⟨q1, q2⟩, if_pos h2, Int.toNat_natCast])
      have hcut : ∀ w, (Instr.slice 9 (.string ⟨#[48, 49, 50, 51, 52, 53, 54, 55, 56, 57, 97, 98, 99, 100, 101, 102]⟩) none (some (.int .i64 (m : Int))) none).run Tryz.prog w = .ok (.string ⟨(lets.take m).toArray⟩) w := run_take_at lets (lets.take m) m (m : Int) rfl (by show m ≤ 16; omega) rfl
      have hml : (lets.take m).length ≤ 16 := by rw [List.length_take]; exact Nat.min_le_right _ _
      by_cases hW : Wof m l
      · have HT := Lib.hid (show Lib.trimS l (lets.take m) = [] from trimS_nil.2 fun c hc => (mem_lets (by omega) c).2 (hW c hc))
        have HC2 := Lib.hid (show chk m l = 0 by rw [HC.out, if_pos hW])
        clear hW
        go_enter Tryz.func16, Tryz.ntmps16
        go_wp2_with (first | (go_at_call 44; refine (isAlphabet_any m _).mono ?_; rintro e W1 ⟨rfl, rfl⟩; (rw [EA.out])) | (go_at_call 45; refine (trims_any l _ _ hl (fun b hb => List.mem_of_mem_take hb) hml).mono ?_; rintro e W1 ⟨rfl, hb⟩; (rw [HT.out])))
        go_ret
        exact ⟨by rw [HC2.out]; rfl, hb⟩
      · have hT : Lib.trimS l (lets.take m) ≠ [] := fun h => hW fun c hc => (mem_lets (by omega) c).1 (trimS_nil.1 h c hc)
        obtain ⟨t, ht⟩ : ∃ t, Lib.trimS l (lets.take m) = t := ⟨_, rfl⟩
        rw [ht] at hT
        have HT := Lib.hid ht
        have hT2 : (t == []) = false := by rw [beq_eq_false_iff_ne]; exact hT
        have HC2 := Lib.hid (show chk m l = 13 by rw [HC.out, if_neg hW])
        clear hW ht hT
        go_enter Tryz.func16, Tryz.ntmps16
        go_wp2_with (first | (go_at_call 44; refine (isAlphabet_any m _).mono ?_; rintro e W1 ⟨rfl, rfl⟩; (rw [EA.out])) | (go_at_call 45; refine (trims_any l _ _ hl (fun b hb => List.mem_of_mem_take hb) hml).mono ?_; rintro e W1 ⟨rfl, hb⟩; (rw [HT.out])))
        go_ret
        exact ⟨by rw [HC2.out]; rfl, hb⟩
  · have ea : (decide (1 ≤ q) && decide (q ≤ 16)) = false := by
      rw [Bool.and_eq_false_iff]
      by_cases h : 1 ≤ q
      · exact Or.inr (decide_eq_false (fun h2 => hq ⟨h, h2⟩))
      · exact Or.inl (decide_eq_false h)
    have HC := Lib.hid (show chk q l = 12 by unfold chk; rw [if_neg hq])
    clear hq
    have EA := Lib.hid ea
    clear ea
    go_enter Tryz.func16, Tryz.ntmps16
    go_wp2_with (go_at_call 44; refine (isAlphabet_any q _).mono ?_; rintro e W1 ⟨rfl, rfl⟩; (rw [EA.out]))
    go_ret
    exact ⟨by rw [HC.out]; rfl, Below.refl _ _⟩
end Go.Proofs.YtigdjlhihhakmaaGreatDoor

namespace Go.Proofs.YtigdjlhihhakmaaGreatDoor
open Go.RowKit

theorem index_of : ∀ (l : List UInt8) (c : UInt8), c ∈ l → Lib.indexByte l c = (l.idxOf c : Int)
  | [], _, h => by cases h
  | b :: l, c, h => by
    unfold Lib.indexByte
    rw [List.idxOf_cons]
    cases e : b == c with
    | true => simp
    | false =>
      have h2 : c ∈ l := by
        rcases List.mem_cons.1 h with h3 | h3
        · subst h3; simp at e
        · exact h3
      rw [index_of l c h2]
      have : ((l.idxOf c : Int) == -1) = false := by rw [beq_eq_false_iff_ne]; omega
      simp [this]
theorem repeat_zeros (n : Nat) : Lib.repeatL [48] n = List.replicate n 48 := by
  induction n with
  | zero => rfl
  | succ n ih => show [48] ++ Lib.repeatL [48] n = _; rw [ih]; rfl
theorem digit_any (c : UInt8) (w : World) (hc : dgt c < 16) : Calls Tryz.prog 77 #[.int .u8 (c.toNat : Int)] w fun e w' => e = .returned (.int .i64 (dgt c : Int)) ∧ w' = w := by
  have hm : c ∈ lets := by have := (mem_lets (q := 16) (Nat.le_refl _) c).2 hc; exact List.mem_of_mem_take this
  have HI := Lib.hid (show Lib.indexByte lb.data.toList ((c.toNat : Int).toNat).toUInt8 = (dgt c : Int) by
    rw [Int.toNat_natCast, show c.toNat.toUInt8 = c from by simp]
    exact index_of lets c hm)
  go_enter Tryz.func77, Tryz.ntmps77
  go_wp2_with (go_at_call 104; refine (Tryz.strings_IndexByte _ _ _).mono ?_; rintro e W1 ⟨rfl, rfl⟩; (rw [HI.out]))
  go_ret
  exact ⟨rfl, rfl⟩
theorem least_any (n : Nat) (w : World) (hn : n ≤ 1000000) : Calls Tryz.prog 39 #[.int .i64 (n : Int)] w fun e w' => e = .returned (.string ⟨(List.replicate n 48).toArray⟩) ∧ Below w.heap.size w w' := by
  have HR := Lib.hid (repeat_zeros n)
  have hcut : ∀ w, (Instr.slice 9 (.string ⟨#[48, 49, 50, 51, 52, 53, 54, 55, 56, 57, 97, 98, 99, 100, 101, 102]⟩) none (some (.int .i64 1)) none).run Tryz.prog w = .ok (.string ⟨#[48]⟩) w := run_take_at lets [48] 1 1 rfl (by decide) rfl
  go_enter Tryz.func39, Tryz.ntmps39
  go_wp2_with (go_at_call 17; refine (Tryz.strings_Repeat ⟨#[48]⟩ n _ (by omega) (by show 1 * n ≤ _; omega)).mono ?_; rintro e W1 ⟨rfl, hb⟩; (rw [show (⟨#[48]⟩ : ByteArray).data.toList = [48] from rfl, HR.out]))
  go_ret
  exact ⟨rfl, hb⟩
theorem nxt_nil {q : Nat} {l : List UInt8} (h : keptOf q l = []) : nxt q l = none := by
  unfold nxt
  split
  · rfl
  · next h2 => rw [h] at h2; cases h2
theorem nxt_snoc {q : Nat} {l u : List UInt8} {d : UInt8} (h : keptOf q l = u ++ [d]) : nxt q l = some (u ++ [lt (dgt d + 1)] ++ List.replicate (l.length - (u.length + 1)) 48) := by
  unfold nxt
  split
  · next h2 => rw [h] at h2; simp at h2
  · next c k h2 =>
    rw [h] at h2
    have e1 : (c :: k).dropLast = u := by rw [← h2, List.dropLast_concat]
    have e2 : (c :: k).getLast (by simp) = d := by simp only [← h2, List.getLast_concat]
    have e3 : k.length = u.length := by have := congrArg List.length h2; simp at this; omega
    rw [e1, e2, e3]
/-- What successor returns. -/
def SucOut (w : World) (r : Option (List UInt8)) (e : Ending) (w' : World) : Prop :=
  e = .returned (.tuple #[.string ⟨(r.getD []).toArray⟩, .bool r.isSome]) ∧ Below w.heap.size w w'
set_option linter.unusedSimpArgs false
set_option maxRecDepth 100000 in
set_option maxHeartbeats 1600000 in
theorem successor_any (q : Nat) (l : List UInt8) (w : World) (q1 : 1 ≤ q) (q2 : q ≤ 16) (hl : l.length ≤ 65536) (hW : Wof q l) :
    Calls Tryz.prog 40 #[.int .i64 (q : Int), .string ⟨l.toArray⟩] w (SucOut w (nxt q l)) := by
  have HK := Lib.hid (show Lib.trimRightS l [lt (q - 1)] = keptOf q l by rw [Lib.trimRightS_one]; rfl)
  have hqm : (q : Int) - 1 = ((q - 1 : Nat) : Int) := by omega
  have hcut : ∀ w, (Instr.slice 9 (.string ⟨#[48, 49, 50, 51, 52, 53, 54, 55, 56, 57, 97, 98, 99, 100, 101, 102]⟩) (some (.int .i64 ((q : Int) - 1))) (some (.int .i64 (q : Int))) none).run Tryz.prog w = .ok (.string ⟨[lt (q - 1)].toArray⟩) w :=
    run_cut_at lets [lt (q - 1)] (q - 1) q _ _ hqm rfl (by omega) (by show q ≤ 16; omega) (by
      have h1 : q - 1 < lets.length := by show q - 1 < 16; omega
      rw [show q - (q - 1) = 1 by omega, List.drop_eq_getElem_cons h1, List.take_succ_cons, List.take_zero, lt_at h1])
  have hmem : ∀ b ∈ [lt (q - 1)], b ∈ lets := fun b hb => by
    rw [List.mem_singleton] at hb
    have h1 : q - 1 < lets.length := by show q - 1 < 16; omega
    rw [hb, lt_at h1]
    exact List.getElem_mem h1
  have HM := Lib.hid hmem
  clear hmem
  obtain ⟨z, hz⟩ : ∃ z, lt (q - 1) = z := ⟨_, rfl⟩
  rw [hz] at HK hcut HM
  have HZ := Lib.hid hz
  clear hz hqm
  have hTR := fun W => trimRs_any l [z] W (by omega) HM.out (by simp)
  rw [HK.out] at hTR
  have HTR := Lib.hid hTR
  clear hTR
  have hkl := kept_len q l
  have hsp := Lib.hid (kept_split q l)
  cases hk : keptOf q l with
  | nil =>
    have HN := Lib.hid (nxt_nil hk)
    rw [hk] at HTR hkl
    clear hk
    go_enter Tryz.func40, Tryz.ntmps40
    go_wp2_with (go_at_call 76; with_reducible refine (HTR.out _).mono ?_; rintro e W1 ⟨rfl, hb⟩)
    exact bodyPost_ret (v := .tuple #[.string ⟨#[]⟩, .bool false]) (by simp [results, Tryz.results40, go_sem]) rfl ⟨by rw [HN.out]; rfl, hb⟩
  | cons c k =>
    obtain ⟨u, hu⟩ : ∃ u, (c :: k).dropLast = u := ⟨_, rfl⟩
    obtain ⟨d, hd⟩ : ∃ d, (c :: k).getLast (by simp) = d := ⟨_, rfl⟩
    have hcd : keptOf q l = u ++ [d] := by rw [hk, ← hu, ← hd]; exact (List.dropLast_concat_getLast _).symm
    have hul : u.length = k.length := by rw [← hu, List.length_dropLast]; rfl
    have HN := Lib.hid (nxt_snoc hcd)
    have hne := kept_last hcd
    have hdq : dgt d < q := by
      have h1 := hsp.out
      rw [hcd] at h1
      rw [h1, Wof.append, Wof.append, Wof.single] at hW
      exact hW.1.2
    have hd1 : dgt d + 1 < q := by
      have : dgt d ≠ q - 1 := fun e => hne (by rw [← e, lt_dgt (by omega)])
      omega
    rw [hcd, List.length_append, List.length_singleton] at hkl
    rw [hcd] at HTR
    obtain ⟨g, Hg⟩ : ∃ g : Nat, Hid (dgt d = g) := ⟨_, Lib.hid rfl⟩
    rw [Hg.out] at HN hd1 hdq
    have hix := run_at_bytes (u ++ [d]) u.length d (by rw [List.getElem?_append_right (Nat.le_refl _), Nat.sub_self]; rfl) (u.length : Int) rfl
    have hcut2 := run_take_at (u ++ [d]) u u.length (u.length : Int) rfl (by rw [List.length_append]; omega) (by rw [List.take_left])
    have hcut3 : ∀ w, (Instr.slice 9 (.string ⟨#[48, 49, 50, 51, 52, 53, 54, 55, 56, 57, 97, 98, 99, 100, 101, 102]⟩) (some (.int .i64 ((g : Int) + 1))) (some (.int .i64 ((g : Int) + 1 + 1))) none).run Tryz.prog w = .ok (.string ⟨[lt (g + 1)].toArray⟩) w :=
      run_cut_at lets [lt (g + 1)] (g + 1) (g + 2) _ _ (by omega) (by omega) (by omega) (by show g + 2 ≤ 16; omega) (by
        have h1 : g + 1 < lets.length := by show g + 1 < 16; omega
        rw [show g + 2 - (g + 1) = 1 by omega, List.drop_eq_getElem_cons h1, List.take_succ_cons, List.take_zero, lt_at h1])
    obtain ⟨m, Hm⟩ : ∃ m : Nat, Hid (l.length - (u.length + 1) = m) := ⟨_, Lib.hid rfl⟩
    have hml : (l.length : Int) - ((u.length : Int) + 1) = (m : Int) := by have := Hm.out; omega
    have hme : (u ++ [d] == []) = false := by rw [beq_eq_false_iff_ne]; simp
    have hKl : (u ++ [d]).length = u.length + 1 := by simp
    have hmm : m ≤ 1000000 := by omega
    rw [Hm.out] at HN
    obtain ⟨y, hy⟩ : ∃ y, lt (g + 1) = y := ⟨_, rfl⟩
    rw [hy] at HN hcut3
    clear hy
    clear hW hne hk hu hd hcd hul
    generalize hKK : u ++ [d] = K at *
    clear hKK
    go_enter Tryz.func40, Tryz.ntmps40
    go_wp2_with (first | (go_at_call 76; with_reducible refine (HTR.out _).mono ?_; rintro e W1 ⟨rfl, hb⟩) | (go_at_call 77; refine (digit_any d _ (by rw [Hg.out]; omega)).mono ?_; rintro e W2 ⟨rfl, rfl⟩; (rw [Hg.out])))
    have hw1 : IntKind.i64.wrap ((g : Int) + 1 + 1) = (g : Int) + 1 + 1 := by rw [IntKind.wrap_i64]; omega
    have hw2 : IntKind.i64.wrap ((l.length : Int) - ((u.length : Int) + 1)) = (m : Int) := by rw [IntKind.wrap_i64]; omega
    have hw3 : IntKind.i64.wrap ((l.length : Int) - (K.length : Int)) = (m : Int) := by rw [IntKind.wrap_i64]; omega
    have hw4 : IntKind.i64.wrap (m : Int) = (m : Int) := by rw [IntKind.wrap_i64]; omega
    obtain ⟨V, hV⟩ : ∃ V, u ++ [y] = V := ⟨_, rfl⟩
    obtain ⟨Z, hZ⟩ : ∃ Z, List.replicate m (48 : UInt8) = Z := ⟨_, rfl⟩
    obtain ⟨T, hT⟩ : ∃ T, V ++ Z = T := ⟨_, rfl⟩
    have HZZ := Lib.hid hZ
    have hs1 : ∀ w, (Op.stringOp .add ⟨u.toArray⟩ ⟨#[y]⟩).run Tryz.prog w = .ok (.string ⟨V.toArray⟩) w := fun w => by
      rw [← hV]; exact run_string_add_lists w u [y] (by omega) (by simp)
    have hVl : V.length = u.length + 1 := by rw [← hV]; simp
    have hZl : Z.length = m := by rw [← hZ]; simp
    have hs2 : ∀ w, (Op.stringOp .add ⟨V.toArray⟩ ⟨Z.toArray⟩).run Tryz.prog w = .ok (.string ⟨T.toArray⟩) w := fun w => by
      rw [← hT]; exact run_string_add_lists w V Z (by omega) (by omega)
    rw [hV, hZ, hT] at HN
    clear hV hZ hT hVl hZl
    go_region_held3 (fun _ => True) (trivial) (first | (go_at_call 39; (with_reducible refine (least_any m _ hmm).mono ?_); rintro e W3 ⟨rfl, hb3⟩; (rw [HZZ.out])))
    go_wp2
    exact bodyPost_ret (v := .tuple #[.string ⟨T.toArray⟩, .bool true]) (by simp [results, Tryz.results40, go_sem]) rfl ⟨by rw [HN.out]; rfl, below_more hb.drew (Nat.le_refl _) hb3⟩
end Go.Proofs.YtigdjlhihhakmaaGreatDoor
