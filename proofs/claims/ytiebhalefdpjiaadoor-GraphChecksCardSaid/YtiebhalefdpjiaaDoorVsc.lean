/- What graph.compareEdges returns, and that the world has drawn at least as far: what slices.SortFunc asks of a comparison. No condition. -/
import Derived.Test.YtiebhalefdpjiaaDoorVd
import Derived.Test.YtiebhalefdpjiaaDoorVsb
namespace Go.Proofs.YtiebhalefdpjiaaDoor
open Go.RowKit Go.Shelf
set_option linter.unusedSimpArgs false
set_option linter.unusedVariables false

/-- Two variables, and what lay before them. -/
def CAD (w : World) (a b : E3) (W : World) : Prop := Bd w W ∧ Box3 W w.heap.size a ∧ Box3 W (w.heap.size + 1) b
section
variable {w W W' : World} {a b : E3}
theorem CAD.keep (h : CAD w a b W) (hb : Bd W W') : CAD w a b W' := ⟨h.1.trans hb, h.2.1.keep hb.1, h.2.2.keep hb.1⟩
theorem CAD.alloc (h : CAD w a b W) (o : Obj) : CAD w a b (W.alloc o) := h.keep (Bd.one W o)
theorem CAD.far {q : Nat} (h : CAD w a b W) (hq : w.heap.size + 2 ≤ q) (f : E3) : CAD w a b (stE W q f) :=
  ⟨⟨h.1.1.trans (stE_below (by omega)), h.1.2⟩, h.2.1.far (by omega), h.2.2.far (by omega)⟩
theorem CAD.size (h : CAD w a b W) : w.heap.size + 2 ≤ W.heap.size := h.2.2.lt
theorem CAD.cells (h : CAD w a b W) : W.cell? ⟨w.heap.size, 0, none⟩ = some (.int .i64 a.1) ∧ W.cell? ⟨w.heap.size, 1, none⟩ = some (.int .i64 a.2.1) ∧ W.cell? ⟨w.heap.size, 2, none⟩ = some (.int .i64 a.2.2) ∧
    W.cell? ⟨w.heap.size + 1, 0, none⟩ = some (.int .i64 b.1) ∧ W.cell? ⟨w.heap.size + 1, 1, none⟩ = some (.int .i64 b.2.1) ∧ W.cell? ⟨w.heap.size + 1, 2, none⟩ = some (.int .i64 b.2.2) :=
  ⟨h.2.1.1, h.2.1.2.1, h.2.1.2.2.1, h.2.2.1, h.2.2.2.1, h.2.2.2.2.1⟩
theorem CAD.drew (h : CAD w a b W) : CAD w a b W.drew := ⟨h.1.drew, h.2.1, h.2.2⟩
theorem CAD.start (w : World) (a b : E3) (t t' : TypeId) : CAD w a b ((w.alloc (.cells #[.int .i64 a.1, .int .i64 a.2.1, .int .i64 a.2.2] t)).alloc (.cells #[.int .i64 b.1, .int .i64 b.2.1, .int .i64 b.2.2] t')) := by
  refine ⟨(Bd.one w _).trans (Bd.one _ _), (Box3.new w _ _ _ _).keep (below1 _ _), ?_⟩
  have := Box3.new (w.alloc (.cells #[.int .i64 a.1, .int .i64 a.2.1, .int .i64 a.2.2] t)) b.1 b.2.1 b.2.2 t'
  rw [World.size_alloc] at this
  exact this
end
theorem numbersD_any (e : E3) (w : World) : Calls Tryd.prog 64 #[edgV e] w fun en w' => en = .returned (arrE e) ∧ Bd w w' := by
  obtain ⟨x, y, z⟩ := e
  go_enter Tryd.func64, Tryd.ntmps64
  go_wp2
  exact bodyPost_ret (v := arrE (x, y, z)) (by simp [results, Tryd.results64, go_sem]) rfl ⟨rfl, (Bd.one w _).alloc _⟩
set_option maxRecDepth 100000 in
set_option maxHeartbeats 6400000 in
theorem compareAsD_any (a b : E3) (w : World) : Calls Tryd.prog 63 #[edgV a, edgV b, .func (.func 64) #[] #[]] w fun e w' => e = .returned (.int .i64 (cmpE a b)) ∧ Bd w w' := by
  have hmx : Tryd.prog.follows .mixedOrders = true := by kernel_rfl
  have K0 := Lib.hid (CAD.start w a b 43 43)
  have HN := Lib.hid (fun e W => numbersD_any e W)
  go_enter Tryd.func63, Tryd.ntmps63
  go_upto_region 1 with fail
  have KB := K0.out.drew
  clear K0
  refine region_inv' (J := (fun L act wx => ∃ u9 u10 u11 u12 u13 u14 u7 u8, act = { tmps := #[.agg #[.int .i64 a.1, .int .i64 a.2.1, .int .i64 a.2.2], .agg #[.int .i64 b.1, .int .i64 b.2.1, .int .i64 b.2.2], .func (.func 64) #[] #[], .pointer (some ⟨w.heap.size, 0, none⟩), .pointer (some ⟨w.heap.size + 1, 0, none⟩), undef, .int .i64 0, u7, u8, u9, u10, u11, u12, u13, u14, undef, undef, undef], defers := [] } ∧ CAD w a b wx ∧
      (L.getD 0 false = true → u9 = .func (.func 64) #[] #[]) ∧ (L.getD 1 false = true → u10 = .agg #[.int .i64 a.1, .int .i64 a.2.1, .int .i64 a.2.2]) ∧ (L.getD 2 false = true → u11 = .agg #[.int .i64 a.1, .int .i64 a.2.1, .int .i64 a.2.2]) ∧ (L.getD 3 false = true → u12 = .func (.func 64) #[] #[]) ∧ (L.getD 4 false = true → u13 = .agg #[.int .i64 b.1, .int .i64 b.2.1, .int .i64 b.2.2]) ∧ (L.getD 5 false = true → u14 = .agg #[.int .i64 b.1, .int .i64 b.2.1, .int .i64 b.2.2]) ∧ (L.getD 6 false = true → SlW (w.heap.size + 2) (a) (L.getD 8 false = true) u7 wx) ∧ (L.getD 7 false = true → SlW (w.heap.size + 2) (b) (L.getD 9 false = true) u8 wx) ∧ (L.getD 6 false = true → L.getD 7 false = true → u7 ≠ u8) ∧ (L.getD 8 false = true → L.getD 6 false = true) ∧ (L.getD 9 false = true → L.getD 7 false = true))) hmx (by kernel_rfl) ?_ ?_ ?_
  · exact ⟨undef, undef, undef, undef, undef, undef, undef, undef, rfl, KB, fun h => absurd h (by decide), fun h => absurd h (by decide), fun h => absurd h (by decide), fun h => absurd h (by decide), fun h => absurd h (by decide), fun h => absurd h (by decide), fun h => absurd h (by decide), fun h => absurd h (by decide), fun h _ => absurd h (by decide), fun h => absurd h (by decide), fun h => absurd h (by decide)⟩
  · intro i hi L a wx hl hw ⟨u9, u10, u11, u12, u13, u14, u7, u8, ha, lo, c0, c1, c2, c3, c4, c5, s6, s7, d6_7, k8, k9⟩
    subst ha
    obtain ⟨x1, x2, x3, y1', y2', y3'⟩ := lo.cells
    clear KB
    have hi' : i = 0 ∨ i = 1 ∨ i = 2 ∨ i = 3 ∨ i = 4 ∨ i = 5 ∨ i = 6 ∨ i = 7 ∨ i = 8 ∨ i = 9 := by
      have : i < 10 := hi
      omega
    rcases hi' with rfl | rfl | rfl | rfl | rfl | rfl | rfl | rfl | rfl | rfl
    · refine stepJ (i := 0) rfl (fun K hK => ?_)
      go_simp
      refine hK.out _ _ ⟨_, u10, u11, u12, u13, u14, u7, u8, rfl, lo, fun _ => rfl, fun h => c1 (fl (by decide) h), fun h => c2 (fl (by decide) h), fun h => c3 (fl (by decide) h), fun h => c4 (fl (by decide) h), fun h => c5 (fl (by decide) h), fun h => ((s6 (fl (by decide) h)).imp (fl (by decide))), fun h => ((s7 (fl (by decide) h)).imp (fl (by decide))), fun h h' => d6_7 (fl (by decide) h) (fl (by decide) h'), fun h => getD_set_true (k8 (fl (by decide) h)), fun h => getD_set_true (k9 (fl (by decide) h))⟩
    · refine stepJ (i := 1) rfl (fun K hK => ?_)
      go_simp
      refine hK.out _ _ ⟨u9, _, u11, u12, u13, u14, u7, u8, rfl, lo, fun h => c0 (fl (by decide) h), fun _ => rfl, fun h => c2 (fl (by decide) h), fun h => c3 (fl (by decide) h), fun h => c4 (fl (by decide) h), fun h => c5 (fl (by decide) h), fun h => ((s6 (fl (by decide) h)).imp (fl (by decide))), fun h => ((s7 (fl (by decide) h)).imp (fl (by decide))), fun h h' => d6_7 (fl (by decide) h) (fl (by decide) h'), fun h => getD_set_true (k8 (fl (by decide) h)), fun h => getD_set_true (k9 (fl (by decide) h))⟩
    · refine stepJ (i := 2) rfl (fun K hK => ?_)
      obtain rfl := c0 (hw 0 (by kernel_rfl))
      obtain rfl := c1 (hw 1 (by kernel_rfl))
      go_simp
      go_at_call 64
      refine (numbersD_any a _).mono ?_
      rintro e W2 ⟨rfl, b2⟩
      go_wp2_with fail
      refine hK.out _ _ ⟨_, _, _, u12, u13, u14, u7, u8, rfl, lo.keep b2, fun _ => rfl, fun _ => rfl, fun _ => rfl, fun h => c3 (fl (by decide) h), fun h => c4 (fl (by decide) h), fun h => c5 (fl (by decide) h), fun h => ((s6 (fl (by decide) h)).imp (fl (by decide))).keep b2.1, fun h => ((s7 (fl (by decide) h)).imp (fl (by decide))).keep b2.1, fun h h' => d6_7 (fl (by decide) h) (fl (by decide) h'), fun h => getD_set_true (k8 (fl (by decide) h)), fun h => getD_set_true (k9 (fl (by decide) h))⟩
    · refine stepJ (i := 3) rfl (fun K hK => ?_)
      go_simp
      refine hK.out _ _ ⟨u9, u10, u11, _, u13, u14, u7, u8, rfl, lo, fun h => c0 (fl (by decide) h), fun h => c1 (fl (by decide) h), fun h => c2 (fl (by decide) h), fun _ => rfl, fun h => c4 (fl (by decide) h), fun h => c5 (fl (by decide) h), fun h => ((s6 (fl (by decide) h)).imp (fl (by decide))), fun h => ((s7 (fl (by decide) h)).imp (fl (by decide))), fun h h' => d6_7 (fl (by decide) h) (fl (by decide) h'), fun h => getD_set_true (k8 (fl (by decide) h)), fun h => getD_set_true (k9 (fl (by decide) h))⟩
    · refine stepJ (i := 4) rfl (fun K hK => ?_)
      go_simp
      refine hK.out _ _ ⟨u9, u10, u11, u12, _, u14, u7, u8, rfl, lo, fun h => c0 (fl (by decide) h), fun h => c1 (fl (by decide) h), fun h => c2 (fl (by decide) h), fun h => c3 (fl (by decide) h), fun _ => rfl, fun h => c5 (fl (by decide) h), fun h => ((s6 (fl (by decide) h)).imp (fl (by decide))), fun h => ((s7 (fl (by decide) h)).imp (fl (by decide))), fun h h' => d6_7 (fl (by decide) h) (fl (by decide) h'), fun h => getD_set_true (k8 (fl (by decide) h)), fun h => getD_set_true (k9 (fl (by decide) h))⟩
    · refine stepJ (i := 5) rfl (fun K hK => ?_)
      obtain rfl := c3 (hw 3 (by kernel_rfl))
      obtain rfl := c4 (hw 4 (by kernel_rfl))
      go_simp
      go_at_call 64
      refine (numbersD_any b _).mono ?_
      rintro e W2 ⟨rfl, b2⟩
      go_wp2_with fail
      refine hK.out _ _ ⟨u9, u10, u11, _, _, _, u7, u8, rfl, lo.keep b2, fun h => c0 (fl (by decide) h), fun h => c1 (fl (by decide) h), fun h => c2 (fl (by decide) h), fun _ => rfl, fun _ => rfl, fun _ => rfl, fun h => ((s6 (fl (by decide) h)).imp (fl (by decide))).keep b2.1, fun h => ((s7 (fl (by decide) h)).imp (fl (by decide))).keep b2.1, fun h h' => d6_7 (fl (by decide) h) (fl (by decide) h'), fun h => getD_set_true (k8 (fl (by decide) h)), fun h => getD_set_true (k9 (fl (by decide) h))⟩
    · refine stepJ (i := 6) rfl (fun K hK => ?_)
      go_simp
      refine hK.out _ _ ⟨u9, u10, u11, u12, u13, u14, _, u8, rfl, lo.alloc _, fun h => c0 (fl (by decide) h), fun h => c1 (fl (by decide) h), fun h => c2 (fl (by decide) h), fun h => c3 (fl (by decide) h), fun h => c4 (fl (by decide) h), fun h => c5 (fl (by decide) h), fun _ => SlW.new (fun h => absurd ((k8 (fl (by decide) h)).symm.trans hl) (by decide)) lo.size, fun h => ((s7 (fl (by decide) h)).imp (fl (by decide))).keep (below1 wx _), fun _ h' => Ne.symm (s7 (fl (by decide) h')).ne_new, fun h => getD_set_true (k8 (fl (by decide) h)), fun h => getD_set_true (k9 (fl (by decide) h))⟩
    · refine stepJ (i := 7) rfl (fun K hK => ?_)
      go_simp
      refine hK.out _ _ ⟨u9, u10, u11, u12, u13, u14, u7, _, rfl, lo.alloc _, fun h => c0 (fl (by decide) h), fun h => c1 (fl (by decide) h), fun h => c2 (fl (by decide) h), fun h => c3 (fl (by decide) h), fun h => c4 (fl (by decide) h), fun h => c5 (fl (by decide) h), fun h => ((s6 (fl (by decide) h)).imp (fl (by decide))).keep (below1 wx _), fun _ => SlW.new (fun h => absurd ((k9 (fl (by decide) h)).symm.trans hl) (by decide)) lo.size, fun h _ => (s6 (fl (by decide) h)).ne_new, fun h => getD_set_true (k8 (fl (by decide) h)), fun h => getD_set_true (k9 (fl (by decide) h))⟩
    · refine stepJ (i := 8) rfl (fun K hK => ?_)
      obtain rfl := c2 (hw 2 (by kernel_rfl))
      obtain ⟨pp, rfl, hpp, ⟨z9, y1, y2, y3, y4, y5, y6⟩, _⟩ := id (s6 (hw 6 (by kernel_rfl)))
      go_simp
      refine hK.out _ _ ⟨u9, u10, _, u12, u13, u14, _, u8, rfl, lo.far hpp _, fun h => c0 (fl (by decide) h), fun h => c1 (fl (by decide) h), fun _ => rfl, fun h => c3 (fl (by decide) h), fun h => c4 (fl (by decide) h), fun h => c5 (fl (by decide) h), fun _ => (s6 (hw 6 (by kernel_rfl))).put, fun h => ((s7 (fl (by decide) h)).imp (fl (by decide))).far (Ne.symm (d6_7 (hw 6 (by kernel_rfl)) (fl (by decide) h))), fun h h' => d6_7 (fl (by decide) h) (fl (by decide) h'), fun _ => getD_set_true (hw 6 (by kernel_rfl)), fun h => getD_set_true (k9 (fl (by decide) h))⟩
    · refine stepJ (i := 9) rfl (fun K hK => ?_)
      obtain rfl := c5 (hw 5 (by kernel_rfl))
      obtain ⟨pp, rfl, hpp, ⟨z9, y1, y2, y3, y4, y5, y6⟩, _⟩ := id (s7 (hw 7 (by kernel_rfl)))
      go_simp
      refine hK.out _ _ ⟨u9, u10, u11, u12, u13, _, u7, _, rfl, lo.far hpp _, fun h => c0 (fl (by decide) h), fun h => c1 (fl (by decide) h), fun h => c2 (fl (by decide) h), fun h => c3 (fl (by decide) h), fun h => c4 (fl (by decide) h), fun _ => rfl, fun h => ((s6 (fl (by decide) h)).imp (fl (by decide))).far (d6_7 (fl (by decide) h) (hw 7 (by kernel_rfl))), fun _ => (s7 (hw 7 (by kernel_rfl))).put, fun h h' => d6_7 (fl (by decide) h) (fl (by decide) h'), fun h => getD_set_true (k8 (fl (by decide) h)), fun _ => getD_set_true (hw 7 (by kernel_rfl))⟩
  · rintro L a wx hall ⟨u9, u10, u11, u12, u13, u14, u7, u8, rfl, lo, c0, c1, c2, c3, c4, c5, s6, s7, d6_7, k8, k9⟩
    obtain rfl := c0 (hall 0 (by decide))
    obtain rfl := c1 (hall 1 (by decide))
    obtain rfl := c2 (hall 2 (by decide))
    obtain rfl := c3 (hall 3 (by decide))
    obtain rfl := c4 (hall 4 (by decide))
    obtain rfl := c5 (hall 5 (by decide))
    obtain ⟨p6, rfl, hp6, -, H6⟩ := s6 (hall 6 (by decide))
    have V6 := H6 (hall 8 (by decide))
    obtain ⟨p7, rfl, hp7, -, H7⟩ := s7 (hall 7 (by decide))
    have V7 := H7 (hall 9 (by decide))
    have n6_7 : p6 ≠ p7 := fun e => d6_7 (hall 6 (by decide)) (hall 7 (by decide)) (by rw [e])
    clear hall c0 c1 c2 c3 c4 c5 s6 H6 s7 H7 d6_7 k8 k9
    have HA : ∀ j, j < 3 → wx.cell? ⟨p6, j, none⟩ = some (.int .i64 (numE a j)) := fun j hj => by
      rcases (show j = 0 ∨ j = 1 ∨ j = 2 by omega) with rfl | rfl | rfl
      · exact V6.1
      · exact V6.2.1
      · exact V6.2.2.1
    have HB : ∀ j, j < 3 → wx.cell? ⟨p7, j, none⟩ = some (.int .i64 (numE b j)) := fun j hj => by
      rcases (show j = 0 ∨ j = 1 ∨ j = 2 by omega) with rfl | rfl | rfl
      · exact V7.1
      · exact V7.2.1
      · exact V7.2.2.1
    have HC := Lib.hid (fun n => compare3_any a b p6 p7 (wx.drewN n) HA HB)
    have hb := lo.1
    clear HA HB V6 V7 lo KB hp6 hp7 n6_7 HN
    obtain ⟨z, hz⟩ : ∃ z, cmpE a b = z := ⟨_, rfl⟩
    simp only [hz] at HC
    have HZ := Lib.hid hz
    clear hz
    go_wp2_with fail
    go_quiet ((go_at_call 83; exact Calls.quiet_of_same (HC.out _)))
    go_wp2_with fail
    go_ret
    exact ⟨by rw [HZ.out]; rfl, hb.drewN _⟩
set_option maxRecDepth 100000 in
theorem compareEdgesD_any (a b : E3) (w : World) : Calls Tryd.prog 38 #[edgV a, edgV b] w fun e w' => e = .returned (.int .i64 (cmpE a b)) ∧ Bd w w' := by
  have HC := Lib.hid (fun W => compareAsD_any a b W)
  go_enter Tryd.func38, Tryd.ntmps38
  go_wp2_with (go_at_call 63; (with_reducible refine (HC.out _).mono ?_); rintro e W1 ⟨rfl, b1⟩)
  go_ret
  exact ⟨rfl, ((Bd.one _ _).trans (Bd.one _ _)).trans b1⟩
theorem ltOf_cmpE (x y : E3) : ltOf cmpE x y = ltE x y := by
  unfold ltOf cmpE
  by_cases h : ltE x y = true
  · simp [h]
  · have h1 : ltE x y = false := by simpa using h
    rw [h1]
    by_cases h2 : ltE y x = true <;> simp [h2]
theorem swoE : Sort.SWO (ltOf cmpE) where
  irrefl x := by rw [ltOf_cmpE]; exact ltE_irr' x
  trans x y z h1 h2 := by rw [ltOf_cmpE] at *; exact ltE_trans' h1 h2
  ntrans x y z h1 h2 := by
    rw [ltOf_cmpE] at *
    cases h : ltE x z with
    | false => rfl
    | true =>
      cases h3 : ltE z y with
      | true => rw [ltE_trans' h h3] at h1; cases h1
      | false => rw [ltE_total' h3 h2] at h; rw [h] at h1; cases h1
/-- What slices.SortFunc asks of the comparison. -/
theorem cmpLaysE (blk off size : Nat) (w : World) : CmpLays Tryd.prog 38 #[] encE 3 cmpE blk off size w :=
  fun m os dk _ x y => (compareEdgesD_any x y _).mono fun _ _ ⟨he, hw⟩ => ⟨he, hw.grow⟩
end Go.Proofs.YtiebhalefdpjiaaDoor
