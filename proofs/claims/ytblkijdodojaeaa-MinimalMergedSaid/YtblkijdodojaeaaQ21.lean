/- What graph.compareEdges returns, and that the world has drawn at least as far: what slices.SortFunc asks of a comparison. No condition. What slices.AppendSeq, Collect and SortedFunc return for the edges of a list: the edges sorted. Condition: at most 100000 edges. What slices.Collect, SortFunc and SortedFunc return for the edges of a list: the edges sorted. Condition: at most 100000 edges. -/
import Derived.Test.YtblkijdodojaeaaQ03
import Derived.Test.YtblkijdodojaeaaQ20
import Derived.Test.YtblkijdodojaeaaQ17
import Derived.Test.YtblkijdodojaeaaQ08
import Derived.RangeFuncBox

namespace Go.Proofs.Ytblkijdodojaeaa
open Go.RowKit Go.Shelf
set_option linter.unusedSimpArgs false
set_option linter.unusedVariables false

/-- Two variables, and what lay before them. -/
def CAD (w : World) (a b : E3) (W : World) : Prop := Bd w W ∧ Box3 W w.heap.size a ∧ Box3 W (w.heap.size + 1) b
section
variable {w W W' : World} {a b : E3}
theorem CAD.keep (h : CAD w a b W) (hb : Bd W W') : CAD w a b W' := ⟨h.1.trans hb, h.2.1.keep hb.1, h.2.2.keep hb.1⟩
theorem CAD.alloc (h : CAD w a b W) (o : Obj) : CAD w a b (W.alloc o) := h.keep (Bd.one W o)
theorem CAD.far {q : Nat} (h : CAD w a b W) (hq : w.heap.size + 2 ≤ q) (f : E3) : CAD w a b (stE W q f) :=
  ⟨⟨h.1.1.trans (stE_below (by omega)), h.1.2⟩, h.2.1.far (by omega), h.2.2.far (by omega)⟩
theorem CAD.size (h : CAD w a b W) : w.heap.size + 2 ≤ W.heap.size := h.2.2.lt
theorem CAD.cells (h : CAD w a b W) : W.cell? ⟨w.heap.size, 0, none⟩ = some (.int .i64 a.1) ∧ W.cell? ⟨w.heap.size, 1, none⟩ = some (.int .i64 a.2.1) ∧ W.cell? ⟨w.heap.size, 2, none⟩ = some (.int .i64 a.2.2) ∧
    W.cell? ⟨w.heap.size + 1, 0, none⟩ = some (.int .i64 b.1) ∧ W.cell? ⟨w.heap.size + 1, 1, none⟩ = some (.int .i64 b.2.1) ∧ W.cell? ⟨w.heap.size + 1, 2, none⟩ = some (.int .i64 b.2.2) :=
  ⟨h.2.1.1, h.2.1.2.1, h.2.1.2.2.1, h.2.2.1, h.2.2.2.1, h.2.2.2.2.1⟩
theorem CAD.drew (h : CAD w a b W) : CAD w a b W.drew := ⟨h.1.drew, h.2.1, h.2.2⟩
theorem CAD.start (w : World) (a b : E3) (t t' : TypeId) : CAD w a b ((w.alloc (.cells #[.int .i64 a.1, .int .i64 a.2.1, .int .i64 a.2.2] t)).alloc (.cells #[.int .i64 b.1, .int .i64 b.2.1, .int .i64 b.2.2] t')) := by
  refine ⟨(Bd.one w _).trans (Bd.one _ _), (Box3.new w _ _ _ _).keep (below1 _ _), ?_⟩
  have := Box3.new (w.alloc (.cells #[.int .i64 a.1, .int .i64 a.2.1, .int .i64 a.2.2] t)) b.1 b.2.1 b.2.2 t'
  rw [World.size_alloc] at this
  exact this
end
theorem numbersD_any (e : E3) (w : World) : Calls Try.prog 62 #[edgV e] w fun en w' => en = .returned (arrE e) ∧ Bd w w' := by
  obtain ⟨x, y, z⟩ := e
  go_enter Try.func62, Try.ntmps62
  go_wp2
  exact bodyPost_ret (v := arrE (x, y, z)) (by simp [results, Try.results62, go_sem]) rfl ⟨rfl, (Bd.one w _).alloc _⟩
set_option maxRecDepth 100000 in
set_option maxHeartbeats 6400000 in
theorem compareAsD_any (a b : E3) (w : World) : Calls Try.prog 61 #[edgV a, edgV b, .func (.func 62) #[] #[]] w fun e w' => e = .returned (.int .i64 (cmpE a b)) ∧ Bd w w' := by
  have hmx : Try.prog.follows .mixedOrders = true := by kernel_rfl
  have K0 := Lib.hid (CAD.start w a b 47 47)
  have HN := Lib.hid (fun e W => numbersD_any e W)
  go_enter Try.func61, Try.ntmps61
  go_upto_region 1 with fail
  have KB := K0.out.drew
  clear K0
  refine region_inv' (J := (fun L act wx => ∃ u9 u10 u11 u12 u13 u14 u7 u8, act = { tmps := #[.agg #[.int .i64 a.1, .int .i64 a.2.1, .int .i64 a.2.2], .agg #[.int .i64 b.1, .int .i64 b.2.1, .int .i64 b.2.2], .func (.func 62) #[] #[], .pointer (some ⟨w.heap.size, 0, none⟩), .pointer (some ⟨w.heap.size + 1, 0, none⟩), undef, .int .i64 0, u7, u8, u9, u10, u11, u12, u13, u14, undef, undef, undef], defers := [] } ∧ CAD w a b wx ∧
      (L.getD 0 false = true → u9 = .func (.func 62) #[] #[]) ∧ (L.getD 1 false = true → u10 = .agg #[.int .i64 a.1, .int .i64 a.2.1, .int .i64 a.2.2]) ∧ (L.getD 2 false = true → u11 = .agg #[.int .i64 a.1, .int .i64 a.2.1, .int .i64 a.2.2]) ∧ (L.getD 3 false = true → u12 = .func (.func 62) #[] #[]) ∧ (L.getD 4 false = true → u13 = .agg #[.int .i64 b.1, .int .i64 b.2.1, .int .i64 b.2.2]) ∧ (L.getD 5 false = true → u14 = .agg #[.int .i64 b.1, .int .i64 b.2.1, .int .i64 b.2.2]) ∧ (L.getD 6 false = true → SlW (w.heap.size + 2) (a) (L.getD 8 false = true) u7 wx) ∧ (L.getD 7 false = true → SlW (w.heap.size + 2) (b) (L.getD 9 false = true) u8 wx) ∧ (L.getD 6 false = true → L.getD 7 false = true → u7 ≠ u8) ∧ (L.getD 8 false = true → L.getD 6 false = true) ∧ (L.getD 9 false = true → L.getD 7 false = true))) hmx (by kernel_rfl) ?_ ?_ ?_
  · exact ⟨undef, undef, undef, undef, undef, undef, undef, undef, rfl, KB, fun h => absurd h (by decide), fun h => absurd h (by decide), fun h => absurd h (by decide), fun h => absurd h (by decide), fun h => absurd h (by decide), fun h => absurd h (by decide), fun h => absurd h (by decide), fun h => absurd h (by decide), fun h _ => absurd h (by decide), fun h => absurd h (by decide), fun h => absurd h (by decide)⟩
  · intro i hi L a wx hl hw ⟨u9, u10, u11, u12, u13, u14, u7, u8, ha, lo, c0, c1, c2, c3, c4, c5, s6, s7, d6_7, k8, k9⟩
    subst ha
    obtain ⟨x1, x2, x3, y1', y2', y3'⟩ := lo.cells
    clear KB
    have hi' : i = 0 ∨ i = 1 ∨ i = 2 ∨ i = 3 ∨ i = 4 ∨ i = 5 ∨ i = 6 ∨ i = 7 ∨ i = 8 ∨ i = 9 := by
      have : i < 10 := hi
      omega
    rcases hi' with rfl | rfl | rfl | rfl | rfl | rfl | rfl | rfl | rfl | rfl
    · refine stepJ (i := 0) rfl (fun K hK => ?_)
      go_simp
      refine hK.out _ _ ⟨_, u10, u11, u12, u13, u14, u7, u8, rfl, lo, fun _ => rfl, fun h => c1 (fl (by decide) h), fun h => c2 (fl (by decide) h), fun h => c3 (fl (by decide) h), fun h => c4 (fl (by decide) h), fun h => c5 (fl (by decide) h), fun h => ((s6 (fl (by decide) h)).imp (fl (by decide))), fun h => ((s7 (fl (by decide) h)).imp (fl (by decide))), fun h h' => d6_7 (fl (by decide) h) (fl (by decide) h'), fun h => getD_set_true (k8 (fl (by decide) h)), fun h => getD_set_true (k9 (fl (by decide) h))⟩
    · refine stepJ (i := 1) rfl (fun K hK => ?_)
      go_simp
      refine hK.out _ _ ⟨u9, _, u11, u12, u13, u14, u7, u8, rfl, lo, fun h => c0 (fl (by decide) h), fun _ => rfl, fun h => c2 (fl (by decide) h), fun h => c3 (fl (by decide) h), fun h => c4 (fl (by decide) h), fun h => c5 (fl (by decide) h), fun h => ((s6 (fl (by decide) h)).imp (fl (by decide))), fun h => ((s7 (fl (by decide) h)).imp (fl (by decide))), fun h h' => d6_7 (fl (by decide) h) (fl (by decide) h'), fun h => getD_set_true (k8 (fl (by decide) h)), fun h => getD_set_true (k9 (fl (by decide) h))⟩
    · refine stepJ (i := 2) rfl (fun K hK => ?_)
      obtain rfl := c0 (hw 0 (by kernel_rfl))
      obtain rfl := c1 (hw 1 (by kernel_rfl))
      go_simp
      go_at_call 62
      refine (numbersD_any a _).mono ?_
      rintro e W2 ⟨rfl, b2⟩
      go_wp2_with fail
      refine hK.out _ _ ⟨_, _, _, u12, u13, u14, u7, u8, rfl, lo.keep b2, fun _ => rfl, fun _ => rfl, fun _ => rfl, fun h => c3 (fl (by decide) h), fun h => c4 (fl (by decide) h), fun h => c5 (fl (by decide) h), fun h => ((s6 (fl (by decide) h)).imp (fl (by decide))).keep b2.1, fun h => ((s7 (fl (by decide) h)).imp (fl (by decide))).keep b2.1, fun h h' => d6_7 (fl (by decide) h) (fl (by decide) h'), fun h => getD_set_true (k8 (fl (by decide) h)), fun h => getD_set_true (k9 (fl (by decide) h))⟩
    · refine stepJ (i := 3) rfl (fun K hK => ?_)
      go_simp
      refine hK.out _ _ ⟨u9, u10, u11, _, u13, u14, u7, u8, rfl, lo, fun h => c0 (fl (by decide) h), fun h => c1 (fl (by decide) h), fun h => c2 (fl (by decide) h), fun _ => rfl, fun h => c4 (fl (by decide) h), fun h => c5 (fl (by decide) h), fun h => ((s6 (fl (by decide) h)).imp (fl (by decide))), fun h => ((s7 (fl (by decide) h)).imp (fl (by decide))), fun h h' => d6_7 (fl (by decide) h) (fl (by decide) h'), fun h => getD_set_true (k8 (fl (by decide) h)), fun h => getD_set_true (k9 (fl (by decide) h))⟩
    · refine stepJ (i := 4) rfl (fun K hK => ?_)
      go_simp
      refine hK.out _ _ ⟨u9, u10, u11, u12, _, u14, u7, u8, rfl, lo, fun h => c0 (fl (by decide) h), fun h => c1 (fl (by decide) h), fun h => c2 (fl (by decide) h), fun h => c3 (fl (by decide) h), fun _ => rfl, fun h => c5 (fl (by decide) h), fun h => ((s6 (fl (by decide) h)).imp (fl (by decide))), fun h => ((s7 (fl (by decide) h)).imp (fl (by decide))), fun h h' => d6_7 (fl (by decide) h) (fl (by decide) h'), fun h => getD_set_true (k8 (fl (by decide) h)), fun h => getD_set_true (k9 (fl (by decide) h))⟩
    · refine stepJ (i := 5) rfl (fun K hK => ?_)
      obtain rfl := c3 (hw 3 (by kernel_rfl))
      obtain rfl := c4 (hw 4 (by kernel_rfl))
      go_simp
      go_at_call 62
      refine (numbersD_any b _).mono ?_
      rintro e W2 ⟨rfl, b2⟩
      go_wp2_with fail
      refine hK.out _ _ ⟨u9, u10, u11, _, _, _, u7, u8, rfl, lo.keep b2, fun h => c0 (fl (by decide) h), fun h => c1 (fl (by decide) h), fun h => c2 (fl (by decide) h), fun _ => rfl, fun _ => rfl, fun _ => rfl, fun h => ((s6 (fl (by decide) h)).imp (fl (by decide))).keep b2.1, fun h => ((s7 (fl (by decide) h)).imp (fl (by decide))).keep b2.1, fun h h' => d6_7 (fl (by decide) h) (fl (by decide) h'), fun h => getD_set_true (k8 (fl (by decide) h)), fun h => getD_set_true (k9 (fl (by decide) h))⟩
    · refine stepJ (i := 6) rfl (fun K hK => ?_)
      go_simp
      refine hK.out _ _ ⟨u9, u10, u11, u12, u13, u14, _, u8, rfl, lo.alloc _, fun h => c0 (fl (by decide) h), fun h => c1 (fl (by decide) h), fun h => c2 (fl (by decide) h), fun h => c3 (fl (by decide) h), fun h => c4 (fl (by decide) h), fun h => c5 (fl (by decide) h), fun _ => SlW.new (fun h => absurd ((k8 (fl (by decide) h)).symm.trans hl) (by decide)) lo.size, fun h => ((s7 (fl (by decide) h)).imp (fl (by decide))).keep (below1 wx _), fun _ h' => Ne.symm (s7 (fl (by decide) h')).ne_new, fun h => getD_set_true (k8 (fl (by decide) h)), fun h => getD_set_true (k9 (fl (by decide) h))⟩
    · refine stepJ (i := 7) rfl (fun K hK => ?_)
      go_simp
      refine hK.out _ _ ⟨u9, u10, u11, u12, u13, u14, u7, _, rfl, lo.alloc _, fun h => c0 (fl (by decide) h), fun h => c1 (fl (by decide) h), fun h => c2 (fl (by decide) h), fun h => c3 (fl (by decide) h), fun h => c4 (fl (by decide) h), fun h => c5 (fl (by decide) h), fun h => ((s6 (fl (by decide) h)).imp (fl (by decide))).keep (below1 wx _), fun _ => SlW.new (fun h => absurd ((k9 (fl (by decide) h)).symm.trans hl) (by decide)) lo.size, fun h _ => (s6 (fl (by decide) h)).ne_new, fun h => getD_set_true (k8 (fl (by decide) h)), fun h => getD_set_true (k9 (fl (by decide) h))⟩
    · refine stepJ (i := 8) rfl (fun K hK => ?_)
      obtain rfl := c2 (hw 2 (by kernel_rfl))
      obtain ⟨pp, rfl, hpp, ⟨z9, y1, y2, y3, y4, y5, y6⟩, _⟩ := id (s6 (hw 6 (by kernel_rfl)))
      go_simp
      refine hK.out _ _ ⟨u9, u10, _, u12, u13, u14, _, u8, rfl, lo.far hpp _, fun h => c0 (fl (by decide) h), fun h => c1 (fl (by decide) h), fun _ => rfl, fun h => c3 (fl (by decide) h), fun h => c4 (fl (by decide) h), fun h => c5 (fl (by decide) h), fun _ => (s6 (hw 6 (by kernel_rfl))).put, fun h => ((s7 (fl (by decide) h)).imp (fl (by decide))).far (Ne.symm (d6_7 (hw 6 (by kernel_rfl)) (fl (by decide) h))), fun h h' => d6_7 (fl (by decide) h) (fl (by decide) h'), fun _ => getD_set_true (hw 6 (by kernel_rfl)), fun h => getD_set_true (k9 (fl (by decide) h))⟩
    · refine stepJ (i := 9) rfl (fun K hK => ?_)
      obtain rfl := c5 (hw 5 (by kernel_rfl))
      obtain ⟨pp, rfl, hpp, ⟨z9, y1, y2, y3, y4, y5, y6⟩, _⟩ := id (s7 (hw 7 (by kernel_rfl)))
      go_simp
      refine hK.out _ _ ⟨u9, u10, u11, u12, u13, _, u7, _, rfl, lo.far hpp _, fun h => c0 (fl (by decide) h), fun h => c1 (fl (by decide) h), fun h => c2 (fl (by decide) h), fun h => c3 (fl (by decide) h), fun h => c4 (fl (by decide) h), fun _ => rfl, fun h => ((s6 (fl (by decide) h)).imp (fl (by decide))).far (d6_7 (fl (by decide) h) (hw 7 (by kernel_rfl))), fun _ => (s7 (hw 7 (by kernel_rfl))).put, fun h h' => d6_7 (fl (by decide) h) (fl (by decide) h'), fun h => getD_set_true (k8 (fl (by decide) h)), fun _ => getD_set_true (hw 7 (by kernel_rfl))⟩
  · rintro L a wx hall ⟨u9, u10, u11, u12, u13, u14, u7, u8, rfl, lo, c0, c1, c2, c3, c4, c5, s6, s7, d6_7, k8, k9⟩
    obtain rfl := c0 (hall 0 (by decide))
    obtain rfl := c1 (hall 1 (by decide))
    obtain rfl := c2 (hall 2 (by decide))
    obtain rfl := c3 (hall 3 (by decide))
    obtain rfl := c4 (hall 4 (by decide))
    obtain rfl := c5 (hall 5 (by decide))
    obtain ⟨p6, rfl, hp6, -, H6⟩ := s6 (hall 6 (by decide))
    have V6 := H6 (hall 8 (by decide))
    obtain ⟨p7, rfl, hp7, -, H7⟩ := s7 (hall 7 (by decide))
    have V7 := H7 (hall 9 (by decide))
    have n6_7 : p6 ≠ p7 := fun e => d6_7 (hall 6 (by decide)) (hall 7 (by decide)) (by rw [e])
    clear hall c0 c1 c2 c3 c4 c5 s6 H6 s7 H7 d6_7 k8 k9
    have HA : ∀ j, j < 3 → wx.cell? ⟨p6, j, none⟩ = some (.int .i64 (numE a j)) := fun j hj => by
      rcases (show j = 0 ∨ j = 1 ∨ j = 2 by omega) with rfl | rfl | rfl
      · exact V6.1
      · exact V6.2.1
      · exact V6.2.2.1
    have HB : ∀ j, j < 3 → wx.cell? ⟨p7, j, none⟩ = some (.int .i64 (numE b j)) := fun j hj => by
      rcases (show j = 0 ∨ j = 1 ∨ j = 2 by omega) with rfl | rfl | rfl
      · exact V7.1
      · exact V7.2.1
      · exact V7.2.2.1
    have HC := Lib.hid (fun n => compare3_any a b p6 p7 (wx.drewN n) HA HB)
    have hb := lo.1
    clear HA HB V6 V7 lo KB hp6 hp7 n6_7 HN
    obtain ⟨z, hz⟩ : ∃ z, cmpE a b = z := ⟨_, rfl⟩
    simp only [hz] at HC
    have HZ := Lib.hid hz
    clear hz
    go_wp2_with fail
    go_quiet ((go_at_call 73; exact Calls.quiet_of_same (HC.out _)))
    go_wp2_with fail
    go_ret
    exact ⟨by rw [HZ.out]; rfl, hb.drewN _⟩
set_option maxRecDepth 100000 in
theorem compareEdgesD_any (a b : E3) (w : World) : Calls Try.prog 45 #[edgV a, edgV b] w fun e w' => e = .returned (.int .i64 (cmpE a b)) ∧ Bd w w' := by
  have HC := Lib.hid (fun W => compareAsD_any a b W)
  go_enter Try.func45, Try.ntmps45
  go_wp2_with (go_at_call 61; (with_reducible refine (HC.out _).mono ?_); rintro e W1 ⟨rfl, b1⟩)
  go_ret
  exact ⟨rfl, ((Bd.one _ _).trans (Bd.one _ _)).trans b1⟩
theorem ltOf_cmpE (x y : E3) : ltOf cmpE x y = ltE x y := by
  unfold ltOf cmpE
  by_cases h : ltE x y = true
  · simp [h]
  · have h1 : ltE x y = false := by simpa using h
    rw [h1]
    by_cases h2 : ltE y x = true <;> simp [h2]
theorem swoE : Sort.SWO (ltOf cmpE) where
  irrefl x := by rw [ltOf_cmpE]; exact ltE_irr' x
  trans x y z h1 h2 := by rw [ltOf_cmpE] at *; exact ltE_trans' h1 h2
  ntrans x y z h1 h2 := by
    rw [ltOf_cmpE] at *
    cases h : ltE x z with
    | false => rfl
    | true =>
      cases h3 : ltE z y with
      | true => rw [ltE_trans' h h3] at h1; cases h1
      | false => rw [ltE_total' h3 h2] at h; rw [h] at h1; cases h1
/-- What slices.SortFunc asks of the comparison. -/
theorem cmpLaysE (blk off size : Nat) (w : World) : CmpLays Try.prog 45 #[] encE 3 cmpE blk off size w :=
  fun m os dk _ x y => (compareEdgesD_any x y _).mono fun _ _ ⟨he, hw⟩ => ⟨he, hw.grow⟩
end Go.Proofs.Ytblkijdodojaeaa

namespace Go.Proofs.Ytblkijdodojaeaa
open Go.RowKit Go.Shelf
attribute [local go_sem] Oper.semAt_some
set_option linter.unusedSimpArgs false
set_option linter.unusedVariables false

theorem KtV.turn {n₀ B : Nat} {w : World} (hn : n₀ ≤ w.heap.size) (hB : B < w.heap.size) (W : World) (l : Nat) (o o' : Obj) (hl : w.heap.size ≤ l) (h : W.heap[l]? = some o) (h1 : o.isCells = false) (h2 : o.isWalk = false) : KtV n₀ B W (W.putObj l o') :=
  ⟨⟨rfl, rfl, rfl, by simp, fun k hk => World.putObj_heap_other (by omega)⟩, World.putObj_heap_other (by omega)⟩
/-- Edges of one's own, as the result. -/
def NewEdges (w : World) (es : List E3) (e : Ending) (w' : World) : Prop := ∃ v, e = .returned v ∧ EdgesAt w' w.heap.size v es ∧ Below w.heap.size w w'
set_option maxRecDepth 100000 in
set_option maxHeartbeats 3200000 in
theorem appendSeq_any (B : Nat) (v : Value) (es : List E3) (w : World) (hrd : EdgesRd w v es) (hlen : es.length ≤ 100000) (hB : w.cell? ⟨B, 0, none⟩ = some v) :
    Calls Try.prog 74 #[.slice none 0 0, .func (.func 72) #[] #[.pointer (some ⟨B, 0, none⟩)]] w (NewEdges w es) := by
  obtain ⟨i0, hi, hz0, hz1, hz2⟩ := info_parts Try.infoEdge
  have hBl := World.block_lt_of_cell? _ _ hB
  dsimp only at hBl
  have HRD := Lib.hid hrd
  have B1 := below1 w (.cells #[.slice none 0 0] 22)
  have X1 := Boxed.new w 22 (.slice none 0 0)
  have C1 := cell_keep hB B1
  have hZ := World.size_alloc w (.cells #[.slice none 0 0] 22)
  clear hrd
  refine (callsIn_wide (n := 8)).1 ?_
  refine callsIn_of_wp_marks Try.func74 rfl trivial ?_ rfl
  simp only [Try.ntmps74, List.size_toArray, List.length_cons, List.length_nil, Nat.reduceAdd, Nat.reduceSub, Array.replicate_succ, Array.replicate_zero, List.push_toArray, List.append_toArray, List.nil_append, List.cons_append]
  have HB1 := Lib.hid B1
  have HX1 := Lib.hid X1
  have HC1 := Lib.hid C1
  have HZ := Lib.hid hZ
  clear B1 X1 C1 hZ
  gi_wp2
  obtain ⟨W1, hW1⟩ : ∃ W1, w.alloc (.cells #[.slice none 0 0] 22) = W1 := ⟨_, rfl⟩
  rw [hW1] at HB1 HX1 HC1 HZ ⊢
  clear hW1
  have hz := HZ.out
  refine wpIn_rangeFunc_ownH rfl (by omega) (gf := 72) (lb := #[.pointer (some ⟨B, 0, none⟩)]) rfl trivial (enters_of Try.func72 (by kernel_rfl) rfl)
    (values_stops _ B w W1 v es (by omega) HRD.out HB1.out (by omega) HC1.out (by omega)) (fun h h' => h.trans h') (KtV.turn (by omega) (by omega)) (Below.refl _ _) (fun _ => rfl)
    (fun pre X => (∃ u, Boxed X w.heap.size 22 u ∧ X.ownsRow w.heap.size 47 3 u pre.length (ecl pre) ∧ True) ∧ Below w.heap.size w X ∧ w.heap.size + 1 ≤ X.heap.size)
    (fun _ _ _ => False)
    (fun pre X Y row hs hg hr => ⟨holdsRow_own w.heap.size w.heap.size 22 47 3 (fun pre : List E3 => pre.length) ecl (fun _ _ => True) pre X Y row hs.1 hg (fun r e => (hr r e).2), hs.2.1.grown hg hs.2.1.size (fun r e => by have := (hr r e).1; omega), Nat.le_trans hs.2.2 hg.size⟩)
    (fun _ _ _ _ _ hs _ _ => hs)
    ⟨⟨_, HX1.out, World.ownsRow_nil _ _ _ _, trivial⟩, HB1.out, by omega⟩
    (fun x a' X => ∃ Bx, Box3 X Bx x ∧ a' = { tmps := #[.slice none 0 0, .func (.func 72) #[] #[.pointer (some ⟨B, 0, none⟩)], .pointer (some ⟨w.heap.size, 0, none⟩), undef, .slice none 0 0, .pointer (some ⟨Bx, 0, none⟩), .func (.func 72) #[] #[.pointer (some ⟨B, 0, none⟩)], edgV x, undef, undef, undef, undef, undef], defers := [] })
    (fun x a' _ X Y row hs hg hr => by
      obtain ⟨Bx, h2, h3⟩ := hs
      exact ⟨Bx, h2.own hg (fun r e => (hr r e).2), h3⟩)
    ?assign ?body ?done ?stop
  case assign =>
    rintro l pre x X K ⟨⟨u, i1, i2, -⟩, i3, i4⟩ hK'
    have HKK := Lib.hid hK'
    have I1 := Lib.hid i1
    have I2 := Lib.hid i2
    obtain ⟨e1, e2, e3⟩ := x
    clear hK' i1 i2
    gi_wp2
    have b1 := below1 X (.cells #[.int .i64 e1, .int .i64 e2, .int .i64 e3] 47)
    exact HKK.out _ _ ((KeepsOthers.alloc _ _).from _) (KtV.of_below b1 (by omega) (by omega)) ⟨⟨u, I1.out.alloc _, World.ownsRow.kept I2.out (grown_none b1) (by cases u.ownBlock <;> simp), trivial⟩, below_more i3 (Nat.le_refl _) b1, by have := b1.size; omega⟩ ⟨X.heap.size, Box3.new X e1 e2 e3 _, rfl⟩
  case body =>
    rintro l pre x a' X hl ⟨r, hr⟩ ⟨⟨u, i1, i2, -⟩, i3, i4⟩ ⟨Bx, bX, rfl⟩ hlt
    obtain ⟨x1, x2, x3, -⟩ := id bX
    have x4 := i1.cell
    have x5 := i1.frozen
    have I1 := Lib.hid i1
    have I2 := Lib.hid i2
    have I3 := Lib.hid i3
    obtain ⟨e1, e2, e3⟩ := x
    dsimp only at x1 x2 x3
    have hown0 := i2
    clear i1 i2 i3 bX hr
    gi_wp2_with (gi_at_builtin; refine wpListIn_append_own _ rfl _ _ 22 rfl w.heap.size 47 i0 (.agg #[.int .i64 0, .int .i64 0, .int .i64 0]) 3 24 Try.underlying22 hi hz0 hz1 hz2 rfl (by decide) _ _ _ rfl (hown0.alloc _) ⟨X.heap.size, 0, none⟩ 1 1 [.int .i64 e1, .int .i64 e2, .int .i64 e3] rfl rfl (cell_three_new _ _ _ _ _) (by simp [Value.oneCell']) (by unfold maxLen; omega) (by omega) (by rw [World.size_alloc]; omega) ?_; intro v' w4 hown4 hgrow4 _; (obtain ⟨g', cap', rfl, -, -⟩ := hown4.form (Nat.succ_pos _)); (obtain ⟨hb1, hb2, hb3, hb4, hb5⟩ := I1.out.appended (by decide) I2.out (by omega) (Nat.le_refl _) hown4 hgrow4); (have y1 := hb1.cell); (have y2 := hb1.frozen))
    refine ⟨hb4.from _, ⟨hb5, hb5.block _ (by omega)⟩, ⟨_, hb2, ?_, trivial⟩, I3.out.trans hb5, ?_⟩
    · rw [List.length_append, List.length_singleton, ecl_snoc]
      exact hb3
    · have := hb4.size
      omega
  case done =>
    rintro D xs X hD rfl ⟨⟨u, i1, i2, -⟩, i3, i4⟩ hDX
    have x4 := i1.cell
    have I2 := Lib.hid i2
    have I3 := Lib.hid i3
    have IX := Lib.hid hDX
    obtain ⟨a9, c9, rfl⟩ := own_slice i2
    clear i1 i2 i3 hDX
    gi_wp2
    refine ⟨by simp, .inl ⟨_, _, rfl, run_takeDeferred IX.out, ?_⟩⟩
    exact ⟨_, by simp [results, Try.results74, go_sem], _, rfl, ownsRow_putObj I2.out _ IX.out rfl, below_put9 I3.out D (by omega) _⟩
  case stop =>
    rintro D cc pre X _ _ h _
    exact h.elim
end Go.Proofs.Ytblkijdodojaeaa

namespace Go.Proofs.Ytblkijdodojaeaa
open Go.RowKit Go.Shelf
set_option linter.unusedSimpArgs false
set_option linter.unusedVariables false

theorem collect_any (B : Nat) (v : Value) (es : List E3) (w : World) (hrd : EdgesRd w v es) (hlen : es.length ≤ 100000) (hB : w.cell? ⟨B, 0, none⟩ = some v) :
    Calls Try.prog 70 #[.func (.func 72) #[] #[.pointer (some ⟨B, 0, none⟩)]] w (NewEdges w es) := by
  have HA := Lib.hid (appendSeq_any B v es w hrd hlen hB)
  clear hrd hB
  go_enter Try.func70, Try.ntmps70
  go_wp2_with (go_at_call 74; (with_reducible refine HA.out.mono ?_); rintro e W1 ⟨v1, rfl, i1, b1⟩; (obtain ⟨a1, c1, rfl⟩ := i1.slice); (have I1 := Lib.hid i1); (have B1 := Lib.hid b1); (clear i1 b1))
  go_ret
  exact ⟨_, rfl, I1.out, B1.out⟩
theorem ltOf_total {x y : E3} (h1 : ltOf cmpE x y = false) (h2 : ltOf cmpE y x = false) : x = y := by rw [ltOf_cmpE] at h1 h2; exact ltE_total' h1 h2
theorem srtE_eq (es : List E3) : (es.mergeSort fun x y => !(ltOf cmpE) y x) = srtE es := by
  unfold srtE
  congr 1
  funext x y
  rw [ltOf_cmpE]
theorem compareE_enters (args : Array Value) (w : World) : (callFunc 45 args).run Try.prog w = .ok (.enter 45 args) w := by
  simp [callFunc, go_sem, Try.func45, Try.f45]
theorem sortFunc_any (B : Nat) (v : Value) (es : List E3) (w : World) (h : EdgesAt w B v es) (hB : B ≤ w.heap.size) (hlen : es.length ≤ 100000) :
    Calls Try.prog 71 #[v, .func (.func 45) #[] #[]] w fun e w' => e = .returned (.tuple #[]) ∧ EdgesAt w' B v (srtE es) ∧ Below B w w' := by
  rcases h.2 with ⟨rfl, h0⟩ | ⟨g, cap, cur, rfl, k1, k2, k3, k4, k5, k6⟩
  · obtain rfl : es = [] := List.eq_nil_of_length_eq_zero h0
    refine (AnyF.slices_SortFunc_none Try.sortE none 0 (.func (.func 45) #[] #[]) w).mono ?_
    rintro e w' ⟨rfl, rfl⟩
    have e1 : srtE [] = [] := by unfold srtE; simp
    rw [e1]
    exact ⟨rfl, h, Below.refl _ _⟩
  · have hlt := (Array.getElem?_eq_some_iff.1 k2).1
    have hcon := AnyQ.slices_SortFunc_total Try.sortE 3 Try.isAgg47 Try.sizeOf47 encE (fun _ => rfl) (fun x v hv => by simp [encE] at hv; rcases hv with rfl | rfl | rfl <;> rfl) cmpE swoE 45 #[] g 0 cap es.toArray w
      compareE_enters (cmpLaysE g 0 _ w) (holdsE k2 k6) hlt (by simp; omega) (fun x y h1 h2 => ltOf_total h1 h2)
    simp only [List.size_toArray, srtE_eq] at hcon
    refine hcon.mono ?_
    rintro e w' ⟨rfl, n, os, rfl⟩
    refine ⟨rfl, ?_, ?_⟩
    · have := edges_sorted (w := w) (base := B) (g := g) (cap := cap) (n := n) (os := os) (es := es) (ts := srtE es) (srtE_len es) k1 k2 k3 k4 k5
      rw [srtE_len] at this
      exact this
    · exact (Below.refl B w).grown (grownBy_sortedE (n := n) (os := os) _) hB (fun k e => by cases e; exact k1)
theorem sortedFunc_any (B : Nat) (v : Value) (es : List E3) (w : World) (hrd : EdgesRd w v es) (hlen : es.length ≤ 100000) (hB : w.cell? ⟨B, 0, none⟩ = some v) :
    Calls Try.prog 59 #[.func (.func 72) #[] #[.pointer (some ⟨B, 0, none⟩)], .func (.func 45) #[] #[]] w (NewEdges w (srtE es)) := by
  have HC := Lib.hid (collect_any B v es w hrd hlen hB)
  clear hrd hB
  go_enter Try.func59, Try.ntmps59
  go_wp2_with (first
    | (go_at_call 70; (with_reducible refine HC.out.mono ?_); rintro e W1 ⟨v1, rfl, i1, b1⟩; (obtain ⟨a1, c1, rfl⟩ := i1.slice); (have HS := Lib.hid (sortFunc_any w.heap.size _ es W1 i1 b1.size hlen)); (have B1 := Lib.hid b1); (clear i1 b1))
    | (go_at_call 71; (with_reducible refine HS.out.mono ?_); rintro e W2 ⟨rfl, i2, b2⟩; (have I2 := Lib.hid i2); (have B2 := Lib.hid (B1.out.trans b2)); (clear i2 b2)))
  go_ret
  exact ⟨_, rfl, I2.out, B2.out⟩
end Go.Proofs.Ytblkijdodojaeaa
