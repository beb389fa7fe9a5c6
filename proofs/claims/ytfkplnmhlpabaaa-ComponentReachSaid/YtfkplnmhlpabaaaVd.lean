/- What graph.compareAs and graph.compareEdges return. No condition. -/
import Derived.Test.YtfkplnmhlpabaaaVc
import Derived.Test.YtfkplnmhlpabaaaJnvw
namespace Go.Proofs.Ytfkplnmhlpabaaa
open Go.RowKit
set_option linter.unusedSimpArgs false
set_option linter.unusedVariables false

/-- Three integers in a variable that can be written. -/
def Box3 (W : World) (p : Nat) (e : E3) : Prop := W.cell? ⟨p, 0, none⟩ = some (.int .i64 e.1) ∧ W.cell? ⟨p, 1, none⟩ = some (.int .i64 e.2.1) ∧ W.cell? ⟨p, 2, none⟩ = some (.int .i64 e.2.2) ∧ W.frozen? ⟨p, 0, none⟩ = false ∧ W.frozen? ⟨p, 1, none⟩ = false ∧ W.frozen? ⟨p, 2, none⟩ = false
/-- .. with an edge's numbers stored in it. -/
def stE (W : World) (q : Nat) (e : E3) : World := ((W.setCell ⟨q, 0, none⟩ (.int .i64 e.1)).setCell ⟨q, 1, none⟩ (.int .i64 e.2.1)).setCell ⟨q, 2, none⟩ (.int .i64 e.2.2)
section
variable {W W' : World} {p q : Nat} {e f : E3}
theorem Box3.keep (h : Box3 W p e) (hb : Below W.heap.size W W') : Box3 W' p e :=
  ⟨cell_keep h.1 hb, cell_keep h.2.1 hb, cell_keep h.2.2.1 hb, frozen_keep h.1 h.2.2.2.1 hb, frozen_keep h.2.1 h.2.2.2.2.1 hb, frozen_keep h.2.2.1 h.2.2.2.2.2 hb⟩
theorem Box3.lt (h : Box3 W p e) : p < W.heap.size := World.block_lt_of_cell? W ⟨p, 0, none⟩ h.1
theorem Box3.new (W : World) (x y z : Int) (t : TypeId) : Box3 (W.alloc (.cells #[.int .i64 x, .int .i64 y, .int .i64 z] t)) W.heap.size (x, y, z) := by
  unfold Box3
  refine ⟨?_, ?_, ?_, ?_, ?_, ?_⟩ <;> simp [go_sem]
theorem stE_below {B : Nat} (h : B ≤ q) : Below B W (stE W q e) := (((Below.refl B W).setCell (p := ⟨q, 0, none⟩) h _).setCell (p := ⟨q, 1, none⟩) h _).setCell (p := ⟨q, 2, none⟩) h _
theorem Box3.far (h : Box3 W p e) (hne : q ≠ p) : Box3 (stE W q f) p e := by
  unfold stE Box3
  simp only [World.frozen?_setCell]
  rw [World.cell?_setCell_far _ _ _ _ (by exact hne), World.cell?_setCell_far _ _ _ _ (by exact hne), World.cell?_setCell_far _ _ _ _ (by exact hne), World.cell?_setCell_far _ _ _ _ (by exact hne), World.cell?_setCell_far _ _ _ _ (by exact hne), World.cell?_setCell_far _ _ _ _ (by exact hne), World.cell?_setCell_far _ _ _ _ (by exact hne), World.cell?_setCell_far _ _ _ _ (by exact hne), World.cell?_setCell_far _ _ _ _ (by exact hne)]
  exact h
theorem Box3.set (h : Box3 W p e) : Box3 (stE W p f) p f := by
  obtain ⟨h1, h2, h3, h4, h5, h6⟩ := h
  unfold stE Box3
  refine ⟨?_, ?_, ?_, ?_, ?_, ?_⟩ <;> simp [go_sem, h1, h2, h3, h4, h5, h6]
end
/-- A variable of a region whose edge has come up, or not yet. -/
def SlW (B : Nat) (x : E3) (F : Prop) (u : Value) (W : World) : Prop := ∃ p, u = .pointer (some ⟨p, 0, none⟩) ∧ B ≤ p ∧ (∃ e, Box3 W p e) ∧ (F → Box3 W p x)
section
variable {B p q : Nat} {x y : E3} {F F' : Prop} {u : Value} {W W' : World}
theorem SlW.keep (h : SlW B x F u W) (hb : Below W.heap.size W W') : SlW B x F u W' := by
  obtain ⟨p, h1, h2, ⟨e, h3⟩, h4⟩ := h
  exact ⟨p, h1, h2, ⟨e, h3.keep hb⟩, fun f => (h4 f).keep hb⟩
theorem SlW.imp (h : SlW B x F u W) (hf : F' → F) : SlW B x F' u W := by
  obtain ⟨p, h1, h2, h3, h4⟩ := h
  exact ⟨p, h1, h2, h3, fun f => h4 (hf f)⟩
theorem SlW.new {a b c : Int} {t : TypeId} (hF : ¬F) (hb : B ≤ W.heap.size) : SlW B x F (.pointer (some ⟨W.heap.size, 0, none⟩)) (W.alloc (.cells #[.int .i64 a, .int .i64 b, .int .i64 c] t)) :=
  ⟨_, rfl, hb, ⟨_, Box3.new _ _ _ _ _⟩, fun f => absurd f hF⟩
theorem SlW.ne_new (h : SlW B x F u W) : u ≠ .pointer (some ⟨W.heap.size, 0, none⟩) := by
  obtain ⟨p, rfl, _, ⟨e, h3⟩, _⟩ := h
  have := h3.lt
  intro e
  injection e with e
  injection e with e
  injection e with e
  omega
theorem SlW.far (h : SlW B x F u W) (hne : u ≠ .pointer (some ⟨q, 0, none⟩)) : SlW B x F u (stE W q y) := by
  obtain ⟨p, rfl, h2, ⟨e, h3⟩, h4⟩ := h
  have hpq : q ≠ p := fun e => hne (by rw [e])
  exact ⟨p, rfl, h2, ⟨e, h3.far hpq⟩, fun f => (h4 f).far hpq⟩
theorem SlW.put (h : SlW B x F (.pointer (some ⟨p, 0, none⟩)) W) : SlW B x F' (.pointer (some ⟨p, 0, none⟩)) (stE W p x) := by
  obtain ⟨p', e, h2, ⟨g, h3⟩, _⟩ := h
  injection e with e
  injection e with e
  injection e with e
  subst e
  exact ⟨p, rfl, h2, ⟨_, h3.set⟩, fun _ => h3.set⟩
end
/-- Two variables, and what lay before them. -/
def CA (w : World) (a b : E3) (W : World) : Prop := Below w.heap.size w W ∧ Box3 W w.heap.size a ∧ Box3 W (w.heap.size + 1) b
section
variable {w W W' : World} {a b : E3}
theorem CA.keep (h : CA w a b W) (hb : Below W.heap.size W W') : CA w a b W' := ⟨h.1.trans (hb.mono h.1.size), h.2.1.keep hb, h.2.2.keep hb⟩
theorem CA.alloc (h : CA w a b W) (o : Obj) : CA w a b (W.alloc o) := h.keep (below1 W o)
theorem CA.far {q : Nat} (h : CA w a b W) (hq : w.heap.size + 2 ≤ q) (f : E3) : CA w a b (stE W q f) :=
  ⟨h.1.trans (stE_below (by omega)), h.2.1.far (by omega), h.2.2.far (by omega)⟩
theorem CA.size (h : CA w a b W) : w.heap.size + 2 ≤ W.heap.size := h.2.2.lt
theorem CA.cells (h : CA w a b W) : W.cell? ⟨w.heap.size, 0, none⟩ = some (.int .i64 a.1) ∧ W.cell? ⟨w.heap.size, 1, none⟩ = some (.int .i64 a.2.1) ∧ W.cell? ⟨w.heap.size, 2, none⟩ = some (.int .i64 a.2.2) ∧
    W.cell? ⟨w.heap.size + 1, 0, none⟩ = some (.int .i64 b.1) ∧ W.cell? ⟨w.heap.size + 1, 1, none⟩ = some (.int .i64 b.2.1) ∧ W.cell? ⟨w.heap.size + 1, 2, none⟩ = some (.int .i64 b.2.2) :=
  ⟨h.2.1.1, h.2.1.2.1, h.2.1.2.2.1, h.2.2.1, h.2.2.2.1, h.2.2.2.2.1⟩
theorem CA.drew (h : CA w a b W) : CA w a b W.drew := ⟨h.1.drew, h.2.1, h.2.2⟩
theorem CA.start (w : World) (a b : E3) (t t' : TypeId) : CA w a b ((w.alloc (.cells #[.int .i64 a.1, .int .i64 a.2.1, .int .i64 a.2.2] t)).alloc (.cells #[.int .i64 b.1, .int .i64 b.2.1, .int .i64 b.2.2] t')) := by
  refine ⟨below_more (below1 w _) (Nat.le_refl _) (below1 _ _), (Box3.new w _ _ _ _).keep (below1 _ _), ?_⟩
  have := Box3.new (w.alloc (.cells #[.int .i64 a.1, .int .i64 a.2.1, .int .i64 a.2.2] t)) b.1 b.2.1 b.2.2 t'
  rw [World.size_alloc] at this
  exact this
end
set_option maxRecDepth 100000 in
set_option maxHeartbeats 6400000 in
theorem compareAs_any (a b : E3) (w : World) : Calls Try.prog 95 #[edgV a, edgV b, .func (.func 96) #[] #[]] w fun e w' => e = .returned (.int .i64 (cmpE a b)) ∧ Below w.heap.size w w' := by
  have hmx : Try.prog.follows .mixedOrders = true := by kernel_rfl
  have K0 := Lib.hid (CA.start w a b 46 46)
  have HN := Lib.hid (fun e W => numbers_any e W)
  go_enter Try.func95, Try.ntmps95
  go_upto_region 1 with fail
  have KB := K0.out.drew
  clear K0
  refine region_inv' (J := (fun L act wx => ∃ u9 u10 u11 u12 u13 u14 u7 u8, act = { tmps := #[.agg #[.int .i64 a.1, .int .i64 a.2.1, .int .i64 a.2.2], .agg #[.int .i64 b.1, .int .i64 b.2.1, .int .i64 b.2.2], .func (.func 96) #[] #[], .pointer (some ⟨w.heap.size, 0, none⟩), .pointer (some ⟨w.heap.size + 1, 0, none⟩), undef, .int .i64 0, u7, u8, u9, u10, u11, u12, u13, u14, undef, undef, undef], defers := [] } ∧ CA w a b wx ∧
      (L.getD 0 false = true → u9 = .func (.func 96) #[] #[]) ∧ (L.getD 1 false = true → u10 = .agg #[.int .i64 a.1, .int .i64 a.2.1, .int .i64 a.2.2]) ∧ (L.getD 2 false = true → u11 = .agg #[.int .i64 a.1, .int .i64 a.2.1, .int .i64 a.2.2]) ∧ (L.getD 3 false = true → u12 = .func (.func 96) #[] #[]) ∧ (L.getD 4 false = true → u13 = .agg #[.int .i64 b.1, .int .i64 b.2.1, .int .i64 b.2.2]) ∧ (L.getD 5 false = true → u14 = .agg #[.int .i64 b.1, .int .i64 b.2.1, .int .i64 b.2.2]) ∧ (L.getD 6 false = true → SlW (w.heap.size + 2) (a) (L.getD 8 false = true) u7 wx) ∧ (L.getD 7 false = true → SlW (w.heap.size + 2) (b) (L.getD 9 false = true) u8 wx) ∧ (L.getD 6 false = true → L.getD 7 false = true → u7 ≠ u8) ∧ (L.getD 8 false = true → L.getD 6 false = true) ∧ (L.getD 9 false = true → L.getD 7 false = true))) hmx (by kernel_rfl) ?_ ?_ ?_
  · exact ⟨undef, undef, undef, undef, undef, undef, undef, undef, rfl, KB, fun h => absurd h (by decide), fun h => absurd h (by decide), fun h => absurd h (by decide), fun h => absurd h (by decide), fun h => absurd h (by decide), fun h => absurd h (by decide), fun h => absurd h (by decide), fun h => absurd h (by decide), fun h _ => absurd h (by decide), fun h => absurd h (by decide), fun h => absurd h (by decide)⟩
  · intro i hi L a wx hl hw ⟨u9, u10, u11, u12, u13, u14, u7, u8, ha, lo, c0, c1, c2, c3, c4, c5, s6, s7, d6_7, k8, k9⟩
    subst ha
    obtain ⟨x1, x2, x3, y1', y2', y3'⟩ := lo.cells
    clear KB
    have hi' : i = 0 ∨ i = 1 ∨ i = 2 ∨ i = 3 ∨ i = 4 ∨ i = 5 ∨ i = 6 ∨ i = 7 ∨ i = 8 ∨ i = 9 := by
      have : i < 10 := hi
      omega
    rcases hi' with rfl | rfl | rfl | rfl | rfl | rfl | rfl | rfl | rfl | rfl
    · refine stepJ (i := 0) rfl (fun K hK => ?_)
      go_simp
      refine hK.out _ _ ⟨_, u10, u11, u12, u13, u14, u7, u8, rfl, lo, fun _ => rfl, fun h => c1 (fl (by decide) h), fun h => c2 (fl (by decide) h), fun h => c3 (fl (by decide) h), fun h => c4 (fl (by decide) h), fun h => c5 (fl (by decide) h), fun h => ((s6 (fl (by decide) h)).imp (fl (by decide))), fun h => ((s7 (fl (by decide) h)).imp (fl (by decide))), fun h h' => d6_7 (fl (by decide) h) (fl (by decide) h'), fun h => getD_set_true (k8 (fl (by decide) h)), fun h => getD_set_true (k9 (fl (by decide) h))⟩
    · refine stepJ (i := 1) rfl (fun K hK => ?_)
      go_simp
      refine hK.out _ _ ⟨u9, _, u11, u12, u13, u14, u7, u8, rfl, lo, fun h => c0 (fl (by decide) h), fun _ => rfl, fun h => c2 (fl (by decide) h), fun h => c3 (fl (by decide) h), fun h => c4 (fl (by decide) h), fun h => c5 (fl (by decide) h), fun h => ((s6 (fl (by decide) h)).imp (fl (by decide))), fun h => ((s7 (fl (by decide) h)).imp (fl (by decide))), fun h h' => d6_7 (fl (by decide) h) (fl (by decide) h'), fun h => getD_set_true (k8 (fl (by decide) h)), fun h => getD_set_true (k9 (fl (by decide) h))⟩
    · refine stepJ (i := 2) rfl (fun K hK => ?_)
      obtain rfl := c0 (hw 0 (by kernel_rfl))
      obtain rfl := c1 (hw 1 (by kernel_rfl))
      go_simp
      go_at_call 96
      refine (numbers_any a _).mono ?_
      rintro e W2 ⟨rfl, b2⟩
      go_wp2_with fail
      refine hK.out _ _ ⟨_, _, _, u12, u13, u14, u7, u8, rfl, lo.keep b2, fun _ => rfl, fun _ => rfl, fun _ => rfl, fun h => c3 (fl (by decide) h), fun h => c4 (fl (by decide) h), fun h => c5 (fl (by decide) h), fun h => ((s6 (fl (by decide) h)).imp (fl (by decide))).keep b2, fun h => ((s7 (fl (by decide) h)).imp (fl (by decide))).keep b2, fun h h' => d6_7 (fl (by decide) h) (fl (by decide) h'), fun h => getD_set_true (k8 (fl (by decide) h)), fun h => getD_set_true (k9 (fl (by decide) h))⟩
    · refine stepJ (i := 3) rfl (fun K hK => ?_)
      go_simp
      refine hK.out _ _ ⟨u9, u10, u11, _, u13, u14, u7, u8, rfl, lo, fun h => c0 (fl (by decide) h), fun h => c1 (fl (by decide) h), fun h => c2 (fl (by decide) h), fun _ => rfl, fun h => c4 (fl (by decide) h), fun h => c5 (fl (by decide) h), fun h => ((s6 (fl (by decide) h)).imp (fl (by decide))), fun h => ((s7 (fl (by decide) h)).imp (fl (by decide))), fun h h' => d6_7 (fl (by decide) h) (fl (by decide) h'), fun h => getD_set_true (k8 (fl (by decide) h)), fun h => getD_set_true (k9 (fl (by decide) h))⟩
    · refine stepJ (i := 4) rfl (fun K hK => ?_)
      go_simp
      refine hK.out _ _ ⟨u9, u10, u11, u12, _, u14, u7, u8, rfl, lo, fun h => c0 (fl (by decide) h), fun h => c1 (fl (by decide) h), fun h => c2 (fl (by decide) h), fun h => c3 (fl (by decide) h), fun _ => rfl, fun h => c5 (fl (by decide) h), fun h => ((s6 (fl (by decide) h)).imp (fl (by decide))), fun h => ((s7 (fl (by decide) h)).imp (fl (by decide))), fun h h' => d6_7 (fl (by decide) h) (fl (by decide) h'), fun h => getD_set_true (k8 (fl (by decide) h)), fun h => getD_set_true (k9 (fl (by decide) h))⟩
    · refine stepJ (i := 5) rfl (fun K hK => ?_)
      obtain rfl := c3 (hw 3 (by kernel_rfl))
      obtain rfl := c4 (hw 4 (by kernel_rfl))
      go_simp
      go_at_call 96
      refine (numbers_any b _).mono ?_
      rintro e W2 ⟨rfl, b2⟩
      go_wp2_with fail
      refine hK.out _ _ ⟨u9, u10, u11, _, _, _, u7, u8, rfl, lo.keep b2, fun h => c0 (fl (by decide) h), fun h => c1 (fl (by decide) h), fun h => c2 (fl (by decide) h), fun _ => rfl, fun _ => rfl, fun _ => rfl, fun h => ((s6 (fl (by decide) h)).imp (fl (by decide))).keep b2, fun h => ((s7 (fl (by decide) h)).imp (fl (by decide))).keep b2, fun h h' => d6_7 (fl (by decide) h) (fl (by decide) h'), fun h => getD_set_true (k8 (fl (by decide) h)), fun h => getD_set_true (k9 (fl (by decide) h))⟩
    · refine stepJ (i := 6) rfl (fun K hK => ?_)
      go_simp
      refine hK.out _ _ ⟨u9, u10, u11, u12, u13, u14, _, u8, rfl, lo.alloc _, fun h => c0 (fl (by decide) h), fun h => c1 (fl (by decide) h), fun h => c2 (fl (by decide) h), fun h => c3 (fl (by decide) h), fun h => c4 (fl (by decide) h), fun h => c5 (fl (by decide) h), fun _ => SlW.new (fun h => absurd ((k8 (fl (by decide) h)).symm.trans hl) (by decide)) lo.size, fun h => ((s7 (fl (by decide) h)).imp (fl (by decide))).keep (below1 wx _), fun _ h' => Ne.symm (s7 (fl (by decide) h')).ne_new, fun h => getD_set_true (k8 (fl (by decide) h)), fun h => getD_set_true (k9 (fl (by decide) h))⟩
    · refine stepJ (i := 7) rfl (fun K hK => ?_)
      go_simp
      refine hK.out _ _ ⟨u9, u10, u11, u12, u13, u14, u7, _, rfl, lo.alloc _, fun h => c0 (fl (by decide) h), fun h => c1 (fl (by decide) h), fun h => c2 (fl (by decide) h), fun h => c3 (fl (by decide) h), fun h => c4 (fl (by decide) h), fun h => c5 (fl (by decide) h), fun h => ((s6 (fl (by decide) h)).imp (fl (by decide))).keep (below1 wx _), fun _ => SlW.new (fun h => absurd ((k9 (fl (by decide) h)).symm.trans hl) (by decide)) lo.size, fun h _ => (s6 (fl (by decide) h)).ne_new, fun h => getD_set_true (k8 (fl (by decide) h)), fun h => getD_set_true (k9 (fl (by decide) h))⟩
    · refine stepJ (i := 8) rfl (fun K hK => ?_)
      obtain rfl := c2 (hw 2 (by kernel_rfl))
      obtain ⟨pp, rfl, hpp, ⟨z9, y1, y2, y3, y4, y5, y6⟩, _⟩ := id (s6 (hw 6 (by kernel_rfl)))
      go_simp
      refine hK.out _ _ ⟨u9, u10, _, u12, u13, u14, _, u8, rfl, lo.far hpp _, fun h => c0 (fl (by decide) h), fun h => c1 (fl (by decide) h), fun _ => rfl, fun h => c3 (fl (by decide) h), fun h => c4 (fl (by decide) h), fun h => c5 (fl (by decide) h), fun _ => (s6 (hw 6 (by kernel_rfl))).put, fun h => ((s7 (fl (by decide) h)).imp (fl (by decide))).far (Ne.symm (d6_7 (hw 6 (by kernel_rfl)) (fl (by decide) h))), fun h h' => d6_7 (fl (by decide) h) (fl (by decide) h'), fun _ => getD_set_true (hw 6 (by kernel_rfl)), fun h => getD_set_true (k9 (fl (by decide) h))⟩
    · refine stepJ (i := 9) rfl (fun K hK => ?_)
      obtain rfl := c5 (hw 5 (by kernel_rfl))
      obtain ⟨pp, rfl, hpp, ⟨z9, y1, y2, y3, y4, y5, y6⟩, _⟩ := id (s7 (hw 7 (by kernel_rfl)))
      go_simp
      refine hK.out _ _ ⟨u9, u10, u11, u12, u13, _, u7, _, rfl, lo.far hpp _, fun h => c0 (fl (by decide) h), fun h => c1 (fl (by decide) h), fun h => c2 (fl (by decide) h), fun h => c3 (fl (by decide) h), fun h => c4 (fl (by decide) h), fun _ => rfl, fun h => ((s6 (fl (by decide) h)).imp (fl (by decide))).far (d6_7 (fl (by decide) h) (hw 7 (by kernel_rfl))), fun _ => (s7 (hw 7 (by kernel_rfl))).put, fun h h' => d6_7 (fl (by decide) h) (fl (by decide) h'), fun h => getD_set_true (k8 (fl (by decide) h)), fun _ => getD_set_true (hw 7 (by kernel_rfl))⟩
  · rintro L a wx hall ⟨u9, u10, u11, u12, u13, u14, u7, u8, rfl, lo, c0, c1, c2, c3, c4, c5, s6, s7, d6_7, k8, k9⟩
    obtain rfl := c0 (hall 0 (by decide))
    obtain rfl := c1 (hall 1 (by decide))
    obtain rfl := c2 (hall 2 (by decide))
    obtain rfl := c3 (hall 3 (by decide))
    obtain rfl := c4 (hall 4 (by decide))
    obtain rfl := c5 (hall 5 (by decide))
    obtain ⟨p6, rfl, hp6, -, H6⟩ := s6 (hall 6 (by decide))
    have V6 := H6 (hall 8 (by decide))
    obtain ⟨p7, rfl, hp7, -, H7⟩ := s7 (hall 7 (by decide))
    have V7 := H7 (hall 9 (by decide))
    have n6_7 : p6 ≠ p7 := fun e => d6_7 (hall 6 (by decide)) (hall 7 (by decide)) (by rw [e])
    clear hall c0 c1 c2 c3 c4 c5 s6 H6 s7 H7 d6_7 k8 k9
    have HA : ∀ j, j < 3 → wx.cell? ⟨p6, j, none⟩ = some (.int .i64 (numE a j)) := fun j hj => by
      rcases (show j = 0 ∨ j = 1 ∨ j = 2 by omega) with rfl | rfl | rfl
      · exact V6.1
      · exact V6.2.1
      · exact V6.2.2.1
    have HB : ∀ j, j < 3 → wx.cell? ⟨p7, j, none⟩ = some (.int .i64 (numE b j)) := fun j hj => by
      rcases (show j = 0 ∨ j = 1 ∨ j = 2 by omega) with rfl | rfl | rfl
      · exact V7.1
      · exact V7.2.1
      · exact V7.2.2.1
    have HC := Lib.hid (fun n => compare3_any a b p6 p7 (wx.drewN n) HA HB)
    have hb := lo.1
    clear HA HB V6 V7 lo KB hp6 hp7 n6_7 HN
    obtain ⟨z, hz⟩ : ∃ z, cmpE a b = z := ⟨_, rfl⟩
    simp only [hz] at HC
    have HZ := Lib.hid hz
    clear hz
    go_wp2_with fail
    go_quiet ((go_at_call 106; exact Calls.quiet_of_same (HC.out _)))
    go_wp2_with fail
    go_ret
    exact ⟨by rw [HZ.out]; rfl, below_drewM hb _⟩
set_option maxRecDepth 100000 in
theorem compareEdges_any (a b : E3) (w : World) : Calls Try.prog 77 #[edgV a, edgV b] w fun e w' => e = .returned (.int .i64 (cmpE a b)) ∧ Below w.heap.size w w' := by
  have HC := Lib.hid (fun W => compareAs_any a b W)
  go_enter Try.func77, Try.ntmps77
  go_wp2_with (go_at_call 95; (with_reducible refine (HC.out _).mono ?_); rintro e W1 ⟨rfl, b1⟩)
  go_ret
  exact ⟨rfl, below_more (below_more (below1 _ _) (Nat.le_refl _) (below1 _ _)) (Nat.le_refl _) b1⟩
end Go.Proofs.Ytfkplnmhlpabaaa
