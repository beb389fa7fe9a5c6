/- What word.Find returns: the offsets at which a string occurs, in ascending order. Condition: both have at most 10^5 bytes. What integer.Check returns. What awake returns: true. No condition. -/
import Derived.Test.YtigdjlhihhakmaaDoorQ21
import Derived.Test.YtigdjlhihhakmaaDoorQ09
import Derived.Deep.RegionHeld3
import Derived.Deep.DeepCutAuto
import Derived.Laws.StructEq
import Derived.Lib.Hide
import Derived.Test.YtigdjlhihhakmaaDoorQ12

namespace Go.Proofs.YtigdjlhihhakmaaDoor
open Go.RowKit Go.Shelf
attribute [local go_sem] Oper.semAt_some
set_option linter.unusedSimpArgs false
set_option linter.unusedVariables false

theorem occurrences_any (wl ul : List UInt8) (w : World) :
    Calls Tryd.prog 51 #[.string ⟨wl.toArray⟩, .string ⟨ul.toArray⟩] w fun e w' =>
      e = .returned (.func (.func 84) #[] #[.pointer (some ⟨w.heap.size + 1, 0, none⟩), .pointer (some ⟨w.heap.size, 0, none⟩)]) ∧ w' = (w.alloc (.cells #[.string ⟨wl.toArray⟩] 9)).alloc (.cells #[.string ⟨ul.toArray⟩] 9) := by
  go_enter Tryd.func51, Tryd.ntmps51
  go_wp2
  go_ret
  exact ⟨rfl, rfl⟩
/-- A list of numbers in memory. -/
def NumsOut (w : World) (l : List Nat) (e : Ending) (w' : World) : Prop := ∃ v, e = .returned v ∧ w'.ownsRow w.heap.size 3 1 v l.length (ints l) ∧ Below w.heap.size w w'
theorem ownsRow_down {w : World} {base base' : Nat} {e : TypeId} {size : Nat} {v : Value} {n : Nat} {xs : List Value} (h : w.ownsRow base e size v n xs) (hb : base' ≤ base) : w.ownsRow base' e size v n xs :=
  ⟨h.1, h.2.imp id fun ⟨g, cap, cur, h1, h2, h3⟩ => ⟨g, cap, cur, h1, Nat.le_trans hb h2, h3⟩⟩
theorem LJ.put {l D s N B : Nat} {REC R2 : Loop} {pre : List Nat} {W0 W : World} (h : LJ l D s N B REC pre W0 W) (hBl : B ≤ l) (hlD : D ≠ l) : LJ l D s N B R2 pre W0 (W.putObj l (.loop R2)) := by
  obtain ⟨h1, h2, ⟨v, h3, h4, h5⟩, h6, h7⟩ := h
  refine ⟨World.putObj_heap_same (Array.getElem?_eq_some_iff.1 h1).1, (World.putObj_heap_other hlD).trans h2, ⟨v, ?_, ?_, ?_⟩, h6.trans ⟨rfl, rfl, rfl, by simp, fun k hk => World.putObj_heap_other (by omega)⟩, by simpa using h7⟩
  · have hne : s ≠ l := fun e => by
      obtain ⟨ob, h1', h2'⟩ := cells_of_cell h3
      rw [show (⟨s, 0, none⟩ : Addr).block = s from rfl, e, h1] at h1'
      injection h1' with h1'
      rw [← h1'] at h2'
      cases h2'
    exact (World.cell?_of_block (World.putObj_heap_other hne)).trans h3
  · have hne : s ≠ l := fun e => by
      obtain ⟨ob, h1', h2'⟩ := cells_of_cell h3
      rw [show (⟨s, 0, none⟩ : Addr).block = s from rfl, e, h1] at h1'
      injection h1' with h1'
      rw [← h1'] at h2'
      cases h2'
    exact (World.frozen?_of_block (World.putObj_heap_other hne)).trans h4
  · obtain ⟨k1, k2⟩ := h5
    refine ⟨k1, ?_⟩
    rcases k2 with k2 | ⟨g, cap, cur, k3, k4, k5, k6⟩
    · exact Or.inl k2
    · refine Or.inr ⟨g, cap, cur, k3, k4, ?_, k6⟩
      have hne : g ≠ l := fun e => by rw [e, h1] at k5; cases k5
      exact (World.putObj_heap_other hne).trans k5

theorem cell_putA {W : World} {l : Nat} {r : Loop} (h : W.heap[l]? = some (.loop r)) (o : Obj) (p : Addr) {v : Value} (hp : W.cell? p = some v) : (W.putObj l o).cell? p = some v := by
  have hne : p.block ≠ l := fun e => by
    obtain ⟨ob, h1, h2⟩ := cells_of_cell hp
    rw [e, h] at h1
    injection h1 with h1
    rw [← h1] at h2
    cases h2
  exact (World.cell?_of_block (World.putObj_heap_other hne)).trans hp
theorem row_putA {W : World} {l : Nat} {r : Obj} {B : Nat} {e : TypeId} {size : Nat} {v : Value} {n : Nat} {xs : List Value} (h : W.heap[l]? = some r) (o : Obj) (hr : ∀ c t fz, r ≠ .cells c t fz := by (intro _ _ _ e; cases e)) (hx : W.ownsRow B e size v n xs) : (W.putObj l o).ownsRow B e size v n xs := by
  obtain ⟨k1, k2⟩ := hx
  refine ⟨k1, ?_⟩
  rcases k2 with k2 | ⟨g, cap, cur, k3, k4, k5, k6⟩
  · exact Or.inl k2
  · refine Or.inr ⟨g, cap, cur, k3, k4, ?_, k6⟩
    have hne : g ≠ l := fun e => by rw [e, h] at k5; exact hr _ _ _ (Option.some.inj k5)
    exact (World.putObj_heap_other hne).trans k5
theorem row_cells {w : World} {B : Nat} {e : TypeId} {size : Nat} {v : Value} {n : Nat} {xs : List Value} (h : w.ownsRow B e size v n xs) : ∀ g, v.ownBlock = some g → B ≤ g ∧ ∃ c fz, w.heap[g]? = some (.cells c e fz) := fun g hg => by
  rcases h.2 with ⟨rfl, _⟩ | ⟨g', cap, cur, rfl, k1, k2, _⟩
  · simp [Value.ownBlock] at hg
  · simp [Value.ownBlock] at hg
    subst hg
    exact ⟨k1, _, _, k2⟩
theorem LJ.app {l D s N B i : Nat} {R : Loop} {pre : List Nat} {W0 W W4 : World} {v v' : Value} {o : Obj} (hJ : LJ l D s N B R pre W0 W) (hsN : s < N) (hsB : B ≤ s) (hls : l ≠ s) (hDs : D ≠ s) (hv : W.cell? ⟨s, 0, none⟩ = some v)
    (hown4 : W4.ownsRow N 3 1 v' (pre.length + 1) (ints pre ++ [.int .i64 (i : Int)])) (hg : (W.alloc o).grownBy W4 v.ownBlock) :
    LJ l D s N B R (pre ++ [i]) W0 (W4.setCell ⟨s, 0, none⟩ v') ∧ Fr N s W (W4.setCell ⟨s, 0, none⟩ v') ∧ W4.cell? ⟨s, 0, none⟩ = some v ∧ W4.frozen? ⟨s, 0, none⟩ = false := by
  obtain ⟨h1, h2, ⟨v2, h3, h4, h5⟩, h6, h7⟩ := hJ
  rw [hv] at h3
  injection h3 with h3
  subst h3
  have hr := row_cells h5
  have hk : ∀ k, k < W.heap.size → (∀ g, v.ownBlock = some g → k ≠ g) → W4.heap[k]? = W.heap[k]? := fun k hk hne =>
    (hg.block k (by rw [World.size_alloc]; omega) (fun e => hne k e.symm rfl)).trans (Below.heap_alloc _ _ _ hk)
  have hk2 : ∀ k ob, W.heap[k]? = some ob → (∀ c t fz, ob ≠ .cells c t fz) → k ≠ s → (W4.setCell ⟨s, 0, none⟩ v').heap[k]? = some ob := fun k ob ho hc hks => by
    rw [Below.heap_setCell _ _ _ _ (by exact hks), hk k (Array.getElem?_eq_some_iff.1 ho).1 (fun g e1 e2 => by
      obtain ⟨_, c, fz, e3⟩ := hr g e1
      rw [← e2, ho] at e3
      exact hc _ _ _ (Option.some.inj e3)), ho]
  have hsW := World.block_lt_of_cell? _ _ hv
  have hs4 : W4.heap[s]? = W.heap[s]? := hk s hsW (fun g e1 e2 => by have := (hr g e1).1; omega)
  have hc4 : W4.cell? ⟨s, 0, none⟩ = some v := (World.cell?_of_block hs4).trans hv
  have hf4 : W4.frozen? ⟨s, 0, none⟩ = false := (World.frozen?_of_block hs4).trans h4
  refine ⟨⟨hk2 l _ h1 (fun _ _ _ e => by cases e) hls, hk2 D _ h2 (fun _ _ _ e => by cases e) hDs, ⟨v', World.cell?_setCell_same' _ _ _ (by rw [hc4]; rfl), by rw [World.frozen?_setCell]; exact hf4, ?_⟩, ?_, ?_⟩, ?_, hc4, hf4⟩
  · rw [List.length_append, List.length_singleton, ints_snoc]
    exact ownsRow_setCell_below hown4 (by exact hsN) v'
  · refine Below.setCell ?_ (by exact hsB) v'
    have hBW : B ≤ W.heap.size := by omega
    exact (h6.alloc hBW o).grown hg (by rw [World.size_alloc]; omega) (fun k e => by have := (hr k e).1; omega)
  · have := hg.size
    rw [World.size_alloc] at this
    show N ≤ (W4.setCell _ _).heap.size
    simp [World.setCell]
    omega
  · intro k h8 h9
    rw [Below.heap_setCell _ _ _ _ (by exact h9), hk k (by omega) (fun g e1 e2 => by have := (hr g e1).1; omega)]

set_option maxRecDepth 100000 in
set_option maxHeartbeats 3200000 in
theorem appendSeq_any (wl ul : List UInt8) (bu bw : Nat) (w : World) (hlw : wl.length ≤ 100000) (hlu : ul.length ≤ 100000) (hu : w.cell? ⟨bu, 0, none⟩ = some (.string ⟨ul.toArray⟩)) (hw : w.cell? ⟨bw, 0, none⟩ = some (.string ⟨wl.toArray⟩)) :
    Calls Tryd.prog 83 #[.slice none 0 0, .func (.func 84) #[] #[.pointer (some ⟨bu, 0, none⟩), .pointer (some ⟨bw, 0, none⟩)]] w (NumsOut w (occ wl ul)) := by
  obtain ⟨i0, hi, hz0, hz1, hz2⟩ := info_parts Tryd.infoI64
  refine (callsIn_wide (n := 8)).1 ?_
  refine callsIn_of_wp_marks Tryd.func83 rfl trivial ?_ rfl
  simp only [Tryd.ntmps83, List.size_toArray, List.length_cons, List.length_nil, Nat.reduceAdd, Nat.reduceSub, Array.replicate_succ, Array.replicate_zero, List.push_toArray, List.append_toArray, List.nil_append, List.cons_append]
  have S1 : (w.alloc (.cells #[.slice none 0 0] 37)).cell? ⟨w.heap.size, 0, none⟩ = some (.slice none 0 0) := by simp [go_sem]
  have S2 : (w.alloc (.cells #[.slice none 0 0] 37)).frozen? ⟨w.heap.size, 0, none⟩ = false := by simp [go_sem]
  have U1 := cell_keep hu (below1 w (.cells #[.slice none 0 0] 37))
  have U2 := cell_keep hw (below1 w (.cells #[.slice none 0 0] 37))
  have hb1 := below1 w (.cells #[.slice none 0 0] 37)
  have HZ := Lib.hid (World.size_alloc w (.cells #[.slice none 0 0] 37))
  gi_wp2
  generalize w.alloc (.cells #[.slice none 0 0] 37) = W1 at *
  refine rangeFunc_on rfl (by omega) (gf := 84) (lb := #[.pointer (some ⟨bu, 0, none⟩), .pointer (some ⟨bw, 0, none⟩)]) rfl trivial (enters_of Tryd.func84 (by kernel_rfl) rfl)
    (R := fun _ W' => ∃ REC N, w.heap.size ≤ N ∧ LJ (W1.heap.size + 1) W1.heap.size w.heap.size N w.heap.size REC (occ wl ul) w W') ?_ ?_
  · intro fn hfn REC hREC
    have HREC := Lib.hid hREC
    clear hREC
    have hbl := below2 W1 (.deferred (some [])) (.loop REC)
    refine (occ1_in (W1.heap.size + 1) W1.heap.size w.heap.size w.heap.size bu bw REC wl ul w _ hlw hlu (Nat.le_refl _) ?_ (cell_keep U1 hbl) (cell_keep U2 hbl) ?_ ?_ (cell_keep S1 hbl) (frozen_keep S1 S2 hbl) (below_more hb1 (Nat.le_refl _) hbl)).mono ?_
    · rintro N pre i W hJ hsN hpl hil
      have hJ' := hJ
      obtain ⟨hl, hD, ⟨v, hv, hvf, hown⟩, hBe, hN⟩ := hJ'
      refine round_on HREC.out trivial hl rfl fun RB => ?_
      have hJP := hJ.put (R2 := RB) (by have := HZ.out; omega) (by omega)
      have HlN := Lib.hid (Array.getElem?_eq_some_iff.1 hl).1
      obtain ⟨g1, g2, ⟨v2, g3, g4, g5⟩, g6, g7⟩ := id hJP
      have Hl := Lib.hid hl
      have HJP := Lib.hid hJP
      clear hl hD hv hvf hown hBe hJ hJP g1 g2 g6
      gi_wp2
      refine ⟨Hl.out, ?_⟩
      generalize hWp : W.putObj (W1.heap.size + 1) (.loop RB) = Wp at *
      gi_wp2_with (gi_at_builtin; refine wpListIn_append_own _ rfl _ _ 37 rfl N 3 i0 (.int .i64 0) 1 8 Tryd.underlying37 hi hz0 hz1 hz2 rfl (by decide) _ _ _ rfl (g5.alloc _) ⟨Wp.heap.size, 0, none⟩ 1 1 [.int .i64 (i : Int)] rfl rfl (cell_one_new _ _ _) (by simp [Value.oneCell']) (by unfold maxLen; omega) (by omega) (by rw [World.size_alloc]; omega) ?_; intro v' w4 hown4 hgrow4 _; (obtain ⟨g', cap', rfl, -, -⟩ := hown4.form (Nat.succ_pos _)); (obtain ⟨hJ5, hF5, c4, f4⟩ := HJP.out.app hsN (Nat.le_refl _) (by have := HZ.out; omega) (by have := HZ.out; omega) g3 hown4 hgrow4))
      obtain ⟨j1, j2, j3, j4, j5⟩ := id hJ5
      have hFr2 : Fr N w.heap.size W ((w4.setCell ⟨w.heap.size, 0, none⟩ (.slice (some ⟨g', 0, none⟩) (pre.length + 1) cap')).putObj (W1.heap.size + 1) (.loop REC)) := fun k h1 h2 => by
        by_cases hkl : k = W1.heap.size + 1
        · subst hkl
          rw [Hl.out]
          exact World.putObj_heap_same (Array.getElem?_eq_some_iff.1 j1).1
        · rw [World.putObj_heap_other hkl, hF5 k h1 h2, ← hWp, World.putObj_heap_other hkl]
      refine ⟨j1, ?_, hFr2⟩
      exact hJ5.put (by have := HZ.out; omega) (by omega)
    · have := World.alloc_heap_new (W1.alloc (.deferred (some []))) (.loop REC)
      rwa [World.size_alloc] at this
    · exact (Below.heap_alloc _ _ _ (by rw [World.size_alloc]; omega)).trans (World.alloc_heap_new W1 _)
    · rintro e w' ⟨h1, N, h2, h3⟩
      exact ⟨h1, h3.1, REC, N, by rw [World.size_alloc, World.size_alloc] at h2; have := HZ.out; omega, h3⟩
  · rintro fn W' o r ⟨REC, N, hN, hJ⟩ hl
    have hJ2 := hJ
    obtain ⟨j1, j2, j3, j4, j5⟩ := hJ2
    have hneD : W1.heap.size ≠ W1.heap.size + 1 := by omega
    have hD' : (W'.putObj (W1.heap.size + 1) o).heap[W1.heap.size]? = some (.deferred (some [])) := (World.putObj_heap_other hneD).trans j2
    have hrest : ∀ R2 : Obj, (∃ v, (W'.putObj (W1.heap.size + 1) R2).cell? ⟨w.heap.size, 0, none⟩ = some v ∧ (W'.putObj (W1.heap.size + 1) R2).ownsRow N 3 1 v (occ wl ul).length (ints (occ wl ul))) ∧ Below w.heap.size w (W'.putObj (W1.heap.size + 1) R2) := fun R2 => by
      obtain ⟨v, h3, h4, h5⟩ := j3
      refine ⟨⟨v, cell_putA j1 R2 _ h3, row_putA j1 R2 (hx := h5)⟩, j4.trans ⟨rfl, rfl, rfl, by simp, fun k hk => World.putObj_heap_other (by have := HZ.out; omega)⟩⟩
    obtain ⟨⟨v, hv, hown⟩, hBe⟩ := hrest o
    clear j1 j2 j3 j4 j5 hJ hl hrest
    generalize W'.putObj (W1.heap.size + 1) o = W5 at *
    gi_wp2
    refine ⟨by simp, .inl ⟨_, _, rfl, run_takeDeferred hD', ?_⟩⟩
    exact ⟨v, by simp [results, Tryd.results83, go_sem], v, rfl, row_putA hD' (.deferred none) (hx := ownsRow_down hown hN), hBe.trans ⟨rfl, rfl, rfl, by simp, fun k hk => World.putObj_heap_other (by have := HZ.out; omega)⟩⟩

theorem collect_any (wl ul : List UInt8) (bu bw : Nat) (w : World) (hlw : wl.length ≤ 100000) (hlu : ul.length ≤ 100000) (hu : w.cell? ⟨bu, 0, none⟩ = some (.string ⟨ul.toArray⟩)) (hw : w.cell? ⟨bw, 0, none⟩ = some (.string ⟨wl.toArray⟩)) :
    Calls Tryd.prog 50 #[.func (.func 84) #[] #[.pointer (some ⟨bu, 0, none⟩), .pointer (some ⟨bw, 0, none⟩)]] w (NumsOut w (occ wl ul)) := by
  go_enter Tryd.func50, Tryd.ntmps50
  go_wp2_with (go_at_call 83; (with_reducible refine (appendSeq_any wl ul bu bw _ hlw hlu hu hw).mono ?_); rintro e W1 ⟨v, rfl, h1, h2⟩)
  go_ret
  exact ⟨v, rfl, h1, h2⟩
set_option maxRecDepth 100000 in
set_option maxHeartbeats 1600000 in
theorem find_any (wl ul : List UInt8) (w : World) (hlw : wl.length ≤ 100000) (hlu : ul.length ≤ 100000) :
    Calls Tryd.prog 23 #[.string ⟨wl.toArray⟩, .string ⟨ul.toArray⟩] w (NumsOut w (occ wl ul)) := by
  have hb := below2 w (.cells #[.string ⟨wl.toArray⟩] 9) (.cells #[.string ⟨ul.toArray⟩] 9)
  have h1 : ((w.alloc (.cells #[.string ⟨wl.toArray⟩] 9)).alloc (.cells #[.string ⟨ul.toArray⟩] 9)).cell? ⟨w.heap.size + 1, 0, none⟩ = some (.string ⟨ul.toArray⟩) := by simp [go_sem]
  have h2 : ((w.alloc (.cells #[.string ⟨wl.toArray⟩] 9)).alloc (.cells #[.string ⟨ul.toArray⟩] 9)).cell? ⟨w.heap.size, 0, none⟩ = some (.string ⟨wl.toArray⟩) := by simp [go_sem]
  have HC := Lib.hid (collect_any wl ul _ _ _ hlw hlu h1 h2)
  clear h1 h2
  go_enter Tryd.func23, Tryd.ntmps23
  go_wp2_with (first
    | (go_at_call 51; (with_reducible refine (occurrences_any wl ul _).mono ?_); rintro e W1 ⟨rfl, rfl⟩)
    | (go_at_call 50; (with_reducible refine HC.out.mono ?_); rintro e W2 ⟨v, rfl, h3, h4⟩))
  go_ret
  exact ⟨v, rfl, ownsRow_down h3 (by rw [World.size_alloc, World.size_alloc]; omega), below_more hb (Nat.le_refl _) h4⟩
end Go.Proofs.YtigdjlhihhakmaaDoor

namespace Go.Proofs.YtigdjlhihhakmaaDoor
open Go.RowKit

theorem Tryd.fieldsInt : (Tryd.prog.fieldsOf 43).toList = [{ name := "Neg", type := 4, offset := 0, embedded := false, tag := "", pkgPath := "", byteOffset := 0 }, { name := "Mag", type := 9, offset := 1, embedded := false, tag := "", pkgPath := "", byteOffset := 8 }] := by kernel_rfl
theorem part0 (a : Bool) (s : ByteArray) (w : World) : (part 4 #[Value.bool a, Value.string s] 0).run Tryd.prog w = .ok (.bool a) w := by kernel_rfl
theorem part1 (a : Bool) (s : ByteArray) (w : World) : (part 9 #[Value.bool a, Value.string s] 1).run Tryd.prog w = .ok (.string s) w := by kernel_rfl
theorem eq0 (a b : Bool) (w : World) : (Op.equalIn 9999 4 (.bool a) (.bool b)).run Tryd.prog w = .ok (a == b) w := run_equalIn_bool' w 9998 4 a b Tryd.underlying4
theorem eq1 (a b : ByteArray) (w : World) : (Op.equalIn 9999 9 (.string a) (.string b)).run Tryd.prog w = .ok (a.toList == b.toList) w := run_equalIn_string w 9998 9 a b Tryd.underlying9
set_option maxRecDepth 100000 in
theorem neqInt (a b : Bool) (s t : ByteArray) (w : World) : (binOp .neq 43 (.agg #[.bool a, .string s]) (.agg #[.bool b, .string t])).run Tryd.prog w = .ok (.bool (!(a == b && s.toList == t.toList))) w := by
  rw [run_neq_struct, run_equalIn_agg w 9999 43 _ _ (by kernel_rfl) (by kernel_rfl), Tryd.fieldsInt]
  simp only [Op.eqFields]
  rw [if_pos (by decide)]
  rw [if_pos (by decide)]
  simp only [Sem.run_bind, part0, eq0, Result.andThen]
  cases a == b
  · rfl
  · simp only [Bool.not_true, Bool.true_and, if_neg (show ¬ (false = true) by decide), Sem.run_bind, part1, eq1, Result.andThen]
    cases s.toList == t.toList <;> rfl
theorem guardInt (x y : Operand) (a b : Bool) (s t : ByteArray) (w : World) : (eqGuard .neq 43 x y (.agg #[.bool a, .string s]) (.agg #[.bool b, .string t])).run Tryd.prog w = .ok () w := run_eqGuard_agg w .neq 43 x y _ _ (by kernel_rfl)
attribute [go_sem ↓] neqInt guardInt
theorem keep2 {Wp W1 : World} {p1 p2 : Addr} {v1 v2 : Value} (hb : Below Wp.heap.size Wp W1) (h : Wp.cell? p1 = some v1 ∧ Wp.cell? p2 = some v2) : W1.cell? p1 = some v1 ∧ W1.cell? p2 = some v2 := ⟨cell_keep h.1 hb, cell_keep h.2 hb⟩
/-- An integer is canonical: its own bytes and sign. -/
theorem mg_of (na : Bool) (sa : ByteArray) (h : stz sa = sa.data.toList) : mg (zv na sa) = sa := by
  unfold mg
  rw [natAbs_zv, ← stz_eq, h]
theorem toList_eq (a b : ByteArray) : (a.toList == b.toList) = decide (a = b) := by
  by_cases h : a = b
  · subst h; simp
  · rw [decide_eq_false h]
    exact beq_eq_false_iff_ne.2 (fun e => h (by rw [ByteArray.toList_eq, ByteArray.toList_eq] at e; exact ByteArray.ext (Array.toList_inj.mp e)))
def checkN (na : Bool) (sa : ByteArray) : Int := if sg (zv na sa) = na ∧ mg (zv na sa) = sa then 0 else 1

theorem check_val (na : Bool) (sa : ByteArray) : checkN na sa = if (!na == sg (zv na sa) || !sa.toList == (mg (zv na sa)).toList) then 1 else 0 := by
  rw [toList_eq]
  unfold checkN
  by_cases h1 : na = sg (zv na sa)
  · by_cases h2 : sa = mg (zv na sa)
    · rw [if_pos ⟨h1.symm, h2.symm⟩, decide_eq_true h2]
      simp [← h1]
    · rw [if_neg (fun h => h2 h.2.symm), decide_eq_false h2]; simp
  · rw [if_neg (fun h => h1 h.1.symm), show (na == sg (zv na sa)) = false from beq_eq_false_iff_ne.2 h1]; rfl

set_option maxRecDepth 100000 in
set_option maxHeartbeats 3200000 in
theorem check_int (na : Bool) (sa : ByteArray) (w : World) :
    Calls Tryd.prog 55 #[.agg #[.bool na, .string sa]] w fun e w' => e = .returned (.int .i64 (checkN na sa)) ∧ Below w.heap.size w w' := by
  have hb := below1 w (.cells #[.bool na, .string sa] 43)
  rw [check_val na sa]
  obtain ⟨q, hq⟩ : ∃ q, q = (!na == sg (zv na sa) || !sa.toList == (mg (zv na sa)).toList) := ⟨_, rfl⟩
  rw [← hq]
  have Hq := Lib.hid hq
  clear hq
  go_enter Tryd.func55, Tryd.ntmps55
  go_upto_region 1 with fail
  go_region_held3 (fun W => W.cell? ⟨w.heap.size, 0, none⟩ = some (.bool na) ∧ W.cell? ⟨w.heap.size, 1, none⟩ = some (.string sa)) (first | exact keep2 (by assumption) (by assumption) | (simp [go_sem]; done) | go_keep)
    (first | (go_at_call 88; refine (can_any na sa _).mono ?_; rintro e W1 ⟨rfl, b1⟩))
  all_goals
    rw [← Hq.out]
    cases q
    · go_wp2
      go_ret
      exact ⟨rfl, below_more hb.drew (Nat.le_refl _) b1⟩
    · go_wp2
      go_ret
      exact ⟨rfl, below_more hb.drew (Nat.le_refl _) b1⟩
end Go.Proofs.YtigdjlhihhakmaaDoor

namespace Go.Proofs.YtigdjlhihhakmaaDoor
open Go.RowKit
set_option linter.unusedSimpArgs false
set_option linter.unusedVariables false

theorem eqlIntW (a b : Bool) (s t : ByteArray) (w : World) : (binOp .eql 43 (.agg #[.bool a, .string s]) (.agg #[.bool b, .string t])).run Tryd.prog w = .ok (.bool (a == b && s.toList == t.toList)) w := by
  rw [run_eql_struct, run_equalIn_agg w 9999 43 _ _ (by kernel_rfl) (by kernel_rfl), Tryd.fieldsInt]
  simp only [Op.eqFields]
  rw [if_pos (by decide)]
  rw [if_pos (by decide)]
  simp only [Sem.run_bind, part0, eq0, Result.andThen]
  cases a == b
  · rfl
  · simp only [Bool.not_true, Bool.true_and, if_neg (show ¬ (false = true) by decide), Sem.run_bind, part1, eq1, Result.andThen]
    cases s.toList == t.toList <;> rfl
attribute [local go_sem ↓] eqlIntW
/-- What awake keeps while it compares: the variable of an integer. -/
def AS (w : World) (p : Nat) (z : Int) (W : World) : Prop := (Below w.heap.size w W ∧ w.heap.size ≤ W.heap.size) ∧ W.cell? ⟨p, 0, none⟩ = some (.bool (sg z)) ∧ W.cell? ⟨p, 1, none⟩ = some (.string (mg z))
theorem AS.cells {w W : World} {p : Nat} {z : Int} (h : AS w p z W) : W.cell? ⟨p, 0, none⟩ = some (.bool (sg z)) ∧ W.cell? ⟨p, 1, none⟩ = some (.string (mg z)) := h.2
theorem AS.below {w W : World} {p : Nat} {z : Int} (h : AS w p z W) : Below w.heap.size w W := h.1.1
theorem AS.keep {w W X : World} {p : Nat} {z : Int} (h : AS w p z W) (b : Below W.heap.size W X) : AS w p z X :=
  ⟨⟨below_more h.1.1 (Nat.le_refl _) b, Nat.le_trans h.1.2 b.size⟩, cell_keep h.2.1 b, cell_keep h.2.2 b⟩
theorem AS.alloc {w W : World} {p : Nat} {z : Int} (h : AS w p z W) (o : Obj) : AS w p z (W.alloc o) := h.keep (below1 _ _)
theorem AS.drew {w W : World} {p : Nat} {z : Int} (h : AS w p z W) : AS w p z W.drew := h.keep (Below.refl _ _).drew
theorem AS.drewN {w W : World} {p : Nat} {z : Int} (h : AS w p z W) (q : Nat) : AS w p z (W.drewN q) := ⟨⟨⟨h.1.1.os, h.1.1.tape, h.1.1.output, h.1.1.size, h.1.1.block⟩, h.1.2⟩, h.2⟩
theorem cell_two0 (W : World) (x y : Value) (t : TypeId) : (W.alloc (.cells #[x, y] t)).cell? ⟨W.heap.size, 0, none⟩ = some x := by simp [go_sem]
theorem cell_two1 (W : World) (x y : Value) (t : TypeId) : (W.alloc (.cells #[x, y] t)).cell? ⟨W.heap.size, 1, none⟩ = some y := by simp [go_sem]
theorem eq_two {W : World} {B g cap H c2 x y : Nat} (h : W.ownsRow B 3 1 (.slice (some ⟨g, 0, none⟩) 2 cap) 2 (ints [x, y])) (h0 : W.cell? ⟨H, 0, none⟩ = some (.int .i64 (x : Int))) (h1 : W.cell? ⟨H, 1, none⟩ = some (.int .i64 (y : Int))) :
    Calls Tryd.prog 22 #[.slice (some ⟨g, 0, none⟩) 2 cap, .slice (some ⟨H, 0, none⟩) 2 c2] W fun e W' => e = .returned (.bool true) ∧ ∃ q, W' = W.drewN q := by
  refine (Tryd.slices_Equal_int g 0 2 cap H 0 2 c2 [(x : Int), (y : Int)] [(x : Int), (y : Int)] W (by simp) (by simp) (by omega) (by omega) ?_ ?_).mono ?_
  · intro j hj
    rw [Nat.zero_add, h.cellAt j (by simpa using hj)]
    rcases j with _ | _ | j
    · rfl
    · rfl
    · simp at hj; omega
  · intro j hj
    rw [Nat.zero_add]
    rcases j with _ | _ | j
    · exact h0
    · exact h1
    · simp at hj; omega
  · rintro e W' ⟨rfl, hq⟩
    exact ⟨by simp, hq⟩

theorem eq_02 {W : World} {B g cap H c2 : Nat} (h : W.ownsRow B 3 1 (.slice (some ⟨g, 0, none⟩) 2 cap) 2 (ints [0, 2])) (h0 : W.cell? ⟨H, 0, none⟩ = some (.int .i64 0)) (h1 : W.cell? ⟨H, 1, none⟩ = some (.int .i64 2)) :
    Calls Tryd.prog 22 #[.slice (some ⟨g, 0, none⟩) 2 cap, .slice (some ⟨H, 0, none⟩) 2 c2] W fun e W' => e = .returned (.bool true) ∧ ∃ q, W' = W.drewN q := eq_two h h0 h1
theorem awk_next1 (W : World) : Calls Tryd.prog 15 #[.int .i64 2, .string ⟨#[48, 49, 49]⟩] W fun e w' => e = .returned (.tuple #[.string ⟨#[49, 48, 48]⟩, .int .i64 0]) ∧ Below W.heap.size W w' := by
  have h := next_any 2 [48, 49, 49] W (by simp)
  rw [show nextW 2 [48, 49, 49] = ([49, 48, 48], 0) by decide] at h
  exact h
theorem awk_next2 (W : World) : Calls Tryd.prog 15 #[.int .i64 2, .string ⟨#[49, 49, 49]⟩] W fun e w' => e = .returned (.tuple #[.string ⟨#[48, 48, 48, 48]⟩, .int .i64 0]) ∧ Below W.heap.size W w' := by
  have h := next_any 2 [49, 49, 49] W (by simp)
  rw [show nextW 2 [49, 49, 49] = ([48, 48, 48, 48], 0) by decide] at h
  exact h
theorem awk_rank (W : World) : Calls Tryd.prog 31 #[.int .i64 2, .string ⟨#[49, 48, 49]⟩] W (NumOut W 5 0) :=
  rank_good 2 [49, 48, 49] W (by omega) (by omega) (by simp) (by decide) (fun W => rank_short 2 [49, 48, 49] W (by omega) (by omega) (by simp) (by decide))
theorem awk_root (W : World) : Calls Tryd.prog 20 #[.string ⟨#[48, 49, 48, 49, 48, 49]⟩] W fun e w' => e = .returned (.tuple #[.string ⟨#[48, 49]⟩, .int .i64 3]) ∧ Below W.heap.size W w' := by
  have h := root_some [48, 49, 48, 49, 48, 49] W (by simp) (by simp)
  rw [show rootL [48, 49, 48, 49, 48, 49] = [48, 49] by decide, show rootN [48, 49, 48, 49, 48, 49] = 3 by decide] at h
  exact h
theorem awk_border (W : World) : Calls Tryd.prog 25 #[.string ⟨#[48, 49, 48, 49, 48]⟩] W fun e w' => e = .returned (.int .i64 3) ∧ Below W.heap.size W w' := by
  have h := border_any [48, 49, 48, 49, 48] W (by simp)
  rw [show bord [48, 49, 48, 49, 48] = 3 by decide] at h
  exact h
theorem awk_period (W : World) : Calls Tryd.prog 27 #[.string ⟨#[48, 49, 48, 49, 48]⟩] W fun e w' => e = .returned (.int .i64 2) ∧ Below W.heap.size W w' := by
  have h := period_any [48, 49, 48, 49, 48] W (by simp)
  rw [show per [48, 49, 48, 49, 48] = 2 by decide] at h
  exact h
theorem awk_find (W : World) : Calls Tryd.prog 23 #[.string ⟨#[48, 49, 48, 49, 48]⟩, .string ⟨#[48, 49, 48]⟩] W fun e w' => ∃ g cap, e = .returned (.slice (some ⟨g, 0, none⟩) 2 cap) ∧ w'.ownsRow W.heap.size 3 1 (.slice (some ⟨g, 0, none⟩) 2 cap) 2 (ints [0, 2]) ∧ Below W.heap.size W w' := by
  have h := find_any [48, 49, 48, 49, 48] [48, 49, 48] W (by simp) (by simp)
  rw [show occ [48, 49, 48, 49, 48] [48, 49, 48] = [0, 2] by decide] at h
  refine h.mono ?_
  rintro e w' ⟨v, rfl, h1, h2⟩
  obtain ⟨g, cap, rfl, -, -⟩ := h1.form (by decide)
  exact ⟨g, cap, rfl, h1, h2⟩
theorem max_three {P : Program} (w : World) (ts : Array TypeId) (t : TypeId) (k : IntKind) (x y z : Int) :
    (Builtin.max_ ts t #[.int k x, .int k y, .int k z]).run P w = .ok (.int k (max (max x y) z)) w := by
  have e : ∀ x y : Int, (if y > x then y else x) = max x y := fun x y => by
    rw [Int.max_def]
    split <;> split <;> omega
  simp [Builtin.max_, Builtin.max2, e]
attribute [go_sem] max_three
set_option maxRecDepth 100000 in
set_option maxHeartbeats 6400000 in
theorem awake_any (w : World) : Calls Tryd.prog 12 #[] w fun e w' => e = .returned (.bool true) ∧ Below w.heap.size w w' := by
  go_enter Tryd.func12, Tryd.ntmps12
  go_wp2_with (first
    | (go_at_call 15; first
        | ((with_reducible refine (awk_next1 _).mono ?_); rintro e W1 ⟨rfl, b1⟩)
        | ((with_reducible refine (awk_next2 _).mono ?_); rintro e W2 ⟨rfl, b2⟩))
    | (go_at_call 31; (with_reducible refine (awk_rank _).mono ?_); rintro e W3 ⟨rfl, b3⟩)
    | (go_at_call 20; (with_reducible refine (awk_root _).mono ?_); rintro e W4 ⟨rfl, b4⟩))
  have K0 : AS w W3.heap.size 5 W4.drew := by
    have h1 := below_more (below_more b1 (Nat.le_refl _) b2) (Nat.le_refl _) b3
    have h2 : AS w W3.heap.size 5 (W3.alloc (.cells #[.bool (sg 5), .string (mg 5)] 43)) := ⟨⟨h1.alloc h1.size _, by rw [World.size_alloc]; have := h1.size; omega⟩, cell_two0 _ _ _ _, cell_two1 _ _ _ _⟩
    exact (h2.keep b4).drew
  have KA := Lib.hid K0
  clear K0 b1 b2 b3 b4
  generalize W3.heap.size = p at *
  go_region_held3 (fun W => W.cell? ⟨p, 0, none⟩ = some (.bool (sg 5)) ∧ W.cell? ⟨p, 1, none⟩ = some (.string (mg 5)))
    (first | with_reducible exact KA.out.cells | with_reducible exact KA.out.drew.cells | with_reducible exact (KA.out.alloc _).cells | with_reducible exact (KA.out.drewN _).cells)
    (first
      | (go_at_call 34; (with_reducible refine (iof_any 5 _ (by decide) (by decide)).mono ?_); rintro e X ⟨rfl, bX⟩; (have KA := Lib.hid (KA.out.keep bX)))
      | (go_at_call 23; (with_reducible refine (awk_find _).mono ?_); rintro e X ⟨g, cap, rfl, hown, bX⟩; (first | have KA := Lib.hid (KA.out.keep bX) | have KA := Lib.hid ((KA.out.alloc _).keep bX)))
      | (go_at_call 22; first
          | ((with_reducible refine (eq_02 (hown.alloc _) (cell_two0 _ _ _ _) (cell_two1 _ _ _ _)).mono ?_); rintro e X2 ⟨rfl, q, rfl⟩; (have KA := Lib.hid ((KA.out.alloc (.cells #[.int .i64 0, .int .i64 2] 3)).drewN q)))
          | ((with_reducible refine (eq_02 hown (cell_keep (cell_two0 _ _ _ _) bX) (cell_keep (cell_two1 _ _ _ _) bX)).mono ?_); rintro e X2 ⟨rfl, q, rfl⟩; (have KA := Lib.hid (KA.out.drewN q))))
      | (go_at_call 25; (with_reducible refine (awk_border _).mono ?_); rintro e X3 ⟨rfl, bX⟩; (have KA := Lib.hid (KA.out.keep bX)))
      | (go_at_call 27; (with_reducible refine (awk_period _).mono ?_); rintro e X4 ⟨rfl, bX⟩; (have KA := Lib.hid (KA.out.keep bX))))
  all_goals
    go_wp2
    go_ret
    exact ⟨rfl, KA.out.below⟩
end Go.Proofs.YtigdjlhihhakmaaDoor
