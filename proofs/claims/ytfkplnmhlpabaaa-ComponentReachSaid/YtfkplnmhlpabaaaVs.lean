/- What grooveref09.Compare returns. No condition. -/
import Derived.Test.YtfkplnmhlpabaaaVr
namespace Go.Proofs.Ytfkplnmhlpabaaa
open Go.RowKit
set_option linter.unusedSimpArgs false
set_option linter.unusedVariables false

/-- A row of three integers. -/
def BsW (B : Nat) (x : E3) (u : Value) (W : World) : Prop := ∃ p, u = .slice (some ⟨p, 0, none⟩) 3 3 ∧ B ≤ p ∧ Box3 W p x
theorem BsW.keep {B : Nat} {x : E3} {u : Value} {W W' : World} (h : BsW B x u W) (hb : Below W.heap.size W W') : BsW B x u W' := by
  obtain ⟨p, h1, h2, h3⟩ := h
  exact ⟨p, h1, h2, h3.keep hb⟩
theorem BsW.new {B : Nat} {W : World} {a b c : Int} {t : TypeId} (hb : B ≤ W.heap.size) : BsW B (a, b, c) (.slice (some ⟨W.heap.size, 0, none⟩) 3 3) (W.alloc (.cells #[.int .i64 a, .int .i64 b, .int .i64 c] t)) :=
  ⟨_, rfl, hb, Box3.new _ _ _ _ _⟩
set_option maxRecDepth 100000 in
set_option maxHeartbeats 6400000 in
theorem rcompare_any (a b : E3) (w : World) : Calls Try.prog 73 #[edgV a, edgV b] w fun e w' => e = .returned (.int .i64 (cmpE a b)) ∧ Below w.heap.size w w' := by
  have hmx : Try.prog.follows .mixedOrders = true := by kernel_rfl
  have K0 := Lib.hid (CA.start w a b 46 46)
  go_enter Try.func73, Try.ntmps73
  go_upto_region 1 with fail
  have KB := K0.out.drew
  clear K0
  refine region_inv' (J := (fun L act wx => ∃ u8 u9 u10 u11 u12 u13 u14 u15 u16 u17 u18 u19 u20 u21 u5 u6, act = { tmps := #[.agg #[.int .i64 a.1, .int .i64 a.2.1, .int .i64 a.2.2], .agg #[.int .i64 b.1, .int .i64 b.2.1, .int .i64 b.2.2], .pointer (some ⟨w.heap.size, 0, none⟩), .pointer (some ⟨w.heap.size + 1, 0, none⟩), .int .i64 0, u5, u6, undef, u8, u9, u10, u11, u12, u13, u14, u15, u16, u17, u18, u19, u20, u21, undef, undef, undef, undef, undef, undef, undef, undef, undef, undef, undef, undef, undef, undef, undef, undef, undef, undef, undef, undef, undef, undef], defers := [] } ∧ CA w a b wx ∧
      (L.getD 0 false = true → u8 = .pointer (some ⟨w.heap.size, 0, none⟩)) ∧ (L.getD 1 false = true → u9 = .int .i64 a.1) ∧ (L.getD 2 false = true → u10 = .pointer (some ⟨w.heap.size, 1, none⟩)) ∧ (L.getD 3 false = true → u11 = .int .i64 a.2.1) ∧ (L.getD 4 false = true → u12 = .pointer (some ⟨w.heap.size, 2, none⟩)) ∧ (L.getD 5 false = true → u13 = .int .i64 a.2.2) ∧ (L.getD 7 false = true → u15 = .pointer (some ⟨w.heap.size + 1, 0, none⟩)) ∧ (L.getD 8 false = true → u16 = .int .i64 b.1) ∧ (L.getD 9 false = true → u17 = .pointer (some ⟨w.heap.size + 1, 1, none⟩)) ∧ (L.getD 10 false = true → u18 = .int .i64 b.2.1) ∧ (L.getD 11 false = true → u19 = .pointer (some ⟨w.heap.size + 1, 2, none⟩)) ∧ (L.getD 12 false = true → u20 = .int .i64 b.2.2) ∧ (L.getD 6 false = true → BsW (w.heap.size + 2) (a) u14 wx) ∧ (L.getD 13 false = true → BsW (w.heap.size + 2) (b) u21 wx) ∧ (L.getD 14 false = true → BsW (w.heap.size + 2) (a) u5 wx) ∧ (L.getD 15 false = true → BsW (w.heap.size + 2) (b) u6 wx))) hmx (by kernel_rfl) ?_ ?_ ?_
  · exact ⟨undef, undef, undef, undef, undef, undef, undef, undef, undef, undef, undef, undef, undef, undef, undef, undef, rfl, KB, fun h => absurd h (by decide), fun h => absurd h (by decide), fun h => absurd h (by decide), fun h => absurd h (by decide), fun h => absurd h (by decide), fun h => absurd h (by decide), fun h => absurd h (by decide), fun h => absurd h (by decide), fun h => absurd h (by decide), fun h => absurd h (by decide), fun h => absurd h (by decide), fun h => absurd h (by decide), fun h => absurd h (by decide), fun h => absurd h (by decide), fun h => absurd h (by decide), fun h => absurd h (by decide)⟩
  · intro i hi L a wx hl hw ⟨u8, u9, u10, u11, u12, u13, u14, u15, u16, u17, u18, u19, u20, u21, u5, u6, ha, lo, c0, c1, c2, c3, c4, c5, c7, c8, c9, c10, c11, c12, b6, b13, b14, b15⟩
    subst ha
    obtain ⟨x1, x2, x3, y1', y2', y3'⟩ := lo.cells
    clear KB
    have hi' : i = 0 ∨ i = 1 ∨ i = 2 ∨ i = 3 ∨ i = 4 ∨ i = 5 ∨ i = 6 ∨ i = 7 ∨ i = 8 ∨ i = 9 ∨ i = 10 ∨ i = 11 ∨ i = 12 ∨ i = 13 ∨ i = 14 ∨ i = 15 := by
      have : i < 16 := hi
      omega
    rcases hi' with rfl | rfl | rfl | rfl | rfl | rfl | rfl | rfl | rfl | rfl | rfl | rfl | rfl | rfl | rfl | rfl
    · refine stepJ (i := 0) rfl (fun K hK => ?_)
      go_simp
      refine hK.out _ _ ⟨_, u9, u10, u11, u12, u13, u14, u15, u16, u17, u18, u19, u20, u21, u5, u6, rfl, lo, fun _ => rfl, fun h => c1 (fl (by decide) h), fun h => c2 (fl (by decide) h), fun h => c3 (fl (by decide) h), fun h => c4 (fl (by decide) h), fun h => c5 (fl (by decide) h), fun h => c7 (fl (by decide) h), fun h => c8 (fl (by decide) h), fun h => c9 (fl (by decide) h), fun h => c10 (fl (by decide) h), fun h => c11 (fl (by decide) h), fun h => c12 (fl (by decide) h), fun h => (b6 (fl (by decide) h)), fun h => (b13 (fl (by decide) h)), fun h => (b14 (fl (by decide) h)), fun h => (b15 (fl (by decide) h))⟩
    · refine stepJ (i := 1) rfl (fun K hK => ?_)
      obtain rfl := c0 (hw 0 (by kernel_rfl))
      go_simp
      refine hK.out _ _ ⟨_, _, u10, u11, u12, u13, u14, u15, u16, u17, u18, u19, u20, u21, u5, u6, rfl, lo, fun _ => rfl, fun _ => rfl, fun h => c2 (fl (by decide) h), fun h => c3 (fl (by decide) h), fun h => c4 (fl (by decide) h), fun h => c5 (fl (by decide) h), fun h => c7 (fl (by decide) h), fun h => c8 (fl (by decide) h), fun h => c9 (fl (by decide) h), fun h => c10 (fl (by decide) h), fun h => c11 (fl (by decide) h), fun h => c12 (fl (by decide) h), fun h => (b6 (fl (by decide) h)), fun h => (b13 (fl (by decide) h)), fun h => (b14 (fl (by decide) h)), fun h => (b15 (fl (by decide) h))⟩
    · refine stepJ (i := 2) rfl (fun K hK => ?_)
      go_simp
      refine hK.out _ _ ⟨u8, u9, _, u11, u12, u13, u14, u15, u16, u17, u18, u19, u20, u21, u5, u6, rfl, lo, fun h => c0 (fl (by decide) h), fun h => c1 (fl (by decide) h), fun _ => rfl, fun h => c3 (fl (by decide) h), fun h => c4 (fl (by decide) h), fun h => c5 (fl (by decide) h), fun h => c7 (fl (by decide) h), fun h => c8 (fl (by decide) h), fun h => c9 (fl (by decide) h), fun h => c10 (fl (by decide) h), fun h => c11 (fl (by decide) h), fun h => c12 (fl (by decide) h), fun h => (b6 (fl (by decide) h)), fun h => (b13 (fl (by decide) h)), fun h => (b14 (fl (by decide) h)), fun h => (b15 (fl (by decide) h))⟩
    · refine stepJ (i := 3) rfl (fun K hK => ?_)
      obtain rfl := c2 (hw 2 (by kernel_rfl))
      go_simp
      refine hK.out _ _ ⟨u8, u9, _, _, u12, u13, u14, u15, u16, u17, u18, u19, u20, u21, u5, u6, rfl, lo, fun h => c0 (fl (by decide) h), fun h => c1 (fl (by decide) h), fun _ => rfl, fun _ => rfl, fun h => c4 (fl (by decide) h), fun h => c5 (fl (by decide) h), fun h => c7 (fl (by decide) h), fun h => c8 (fl (by decide) h), fun h => c9 (fl (by decide) h), fun h => c10 (fl (by decide) h), fun h => c11 (fl (by decide) h), fun h => c12 (fl (by decide) h), fun h => (b6 (fl (by decide) h)), fun h => (b13 (fl (by decide) h)), fun h => (b14 (fl (by decide) h)), fun h => (b15 (fl (by decide) h))⟩
    · refine stepJ (i := 4) rfl (fun K hK => ?_)
      go_simp
      refine hK.out _ _ ⟨u8, u9, u10, u11, _, u13, u14, u15, u16, u17, u18, u19, u20, u21, u5, u6, rfl, lo, fun h => c0 (fl (by decide) h), fun h => c1 (fl (by decide) h), fun h => c2 (fl (by decide) h), fun h => c3 (fl (by decide) h), fun _ => rfl, fun h => c5 (fl (by decide) h), fun h => c7 (fl (by decide) h), fun h => c8 (fl (by decide) h), fun h => c9 (fl (by decide) h), fun h => c10 (fl (by decide) h), fun h => c11 (fl (by decide) h), fun h => c12 (fl (by decide) h), fun h => (b6 (fl (by decide) h)), fun h => (b13 (fl (by decide) h)), fun h => (b14 (fl (by decide) h)), fun h => (b15 (fl (by decide) h))⟩
    · refine stepJ (i := 5) rfl (fun K hK => ?_)
      obtain rfl := c4 (hw 4 (by kernel_rfl))
      go_simp
      refine hK.out _ _ ⟨u8, u9, u10, u11, _, _, u14, u15, u16, u17, u18, u19, u20, u21, u5, u6, rfl, lo, fun h => c0 (fl (by decide) h), fun h => c1 (fl (by decide) h), fun h => c2 (fl (by decide) h), fun h => c3 (fl (by decide) h), fun _ => rfl, fun _ => rfl, fun h => c7 (fl (by decide) h), fun h => c8 (fl (by decide) h), fun h => c9 (fl (by decide) h), fun h => c10 (fl (by decide) h), fun h => c11 (fl (by decide) h), fun h => c12 (fl (by decide) h), fun h => (b6 (fl (by decide) h)), fun h => (b13 (fl (by decide) h)), fun h => (b14 (fl (by decide) h)), fun h => (b15 (fl (by decide) h))⟩
    · refine stepJ (i := 6) rfl (fun K hK => ?_)
      obtain rfl := c1 (hw 1 (by kernel_rfl))
      obtain rfl := c3 (hw 3 (by kernel_rfl))
      obtain rfl := c5 (hw 5 (by kernel_rfl))
      go_simp
      refine hK.out _ _ ⟨u8, _, u10, _, u12, _, _, u15, u16, u17, u18, u19, u20, u21, u5, u6, rfl, lo.alloc _, fun h => c0 (fl (by decide) h), fun _ => rfl, fun h => c2 (fl (by decide) h), fun _ => rfl, fun h => c4 (fl (by decide) h), fun _ => rfl, fun h => c7 (fl (by decide) h), fun h => c8 (fl (by decide) h), fun h => c9 (fl (by decide) h), fun h => c10 (fl (by decide) h), fun h => c11 (fl (by decide) h), fun h => c12 (fl (by decide) h), fun _ => BsW.new lo.size, fun h => (b13 (fl (by decide) h)).keep (below1 wx _), fun h => (b14 (fl (by decide) h)).keep (below1 wx _), fun h => (b15 (fl (by decide) h)).keep (below1 wx _)⟩
    · refine stepJ (i := 7) rfl (fun K hK => ?_)
      go_simp
      refine hK.out _ _ ⟨u8, u9, u10, u11, u12, u13, u14, _, u16, u17, u18, u19, u20, u21, u5, u6, rfl, lo, fun h => c0 (fl (by decide) h), fun h => c1 (fl (by decide) h), fun h => c2 (fl (by decide) h), fun h => c3 (fl (by decide) h), fun h => c4 (fl (by decide) h), fun h => c5 (fl (by decide) h), fun _ => rfl, fun h => c8 (fl (by decide) h), fun h => c9 (fl (by decide) h), fun h => c10 (fl (by decide) h), fun h => c11 (fl (by decide) h), fun h => c12 (fl (by decide) h), fun h => (b6 (fl (by decide) h)), fun h => (b13 (fl (by decide) h)), fun h => (b14 (fl (by decide) h)), fun h => (b15 (fl (by decide) h))⟩
    · refine stepJ (i := 8) rfl (fun K hK => ?_)
      obtain rfl := c7 (hw 7 (by kernel_rfl))
      go_simp
      refine hK.out _ _ ⟨u8, u9, u10, u11, u12, u13, u14, _, _, u17, u18, u19, u20, u21, u5, u6, rfl, lo, fun h => c0 (fl (by decide) h), fun h => c1 (fl (by decide) h), fun h => c2 (fl (by decide) h), fun h => c3 (fl (by decide) h), fun h => c4 (fl (by decide) h), fun h => c5 (fl (by decide) h), fun _ => rfl, fun _ => rfl, fun h => c9 (fl (by decide) h), fun h => c10 (fl (by decide) h), fun h => c11 (fl (by decide) h), fun h => c12 (fl (by decide) h), fun h => (b6 (fl (by decide) h)), fun h => (b13 (fl (by decide) h)), fun h => (b14 (fl (by decide) h)), fun h => (b15 (fl (by decide) h))⟩
    · refine stepJ (i := 9) rfl (fun K hK => ?_)
      go_simp
      refine hK.out _ _ ⟨u8, u9, u10, u11, u12, u13, u14, u15, u16, _, u18, u19, u20, u21, u5, u6, rfl, lo, fun h => c0 (fl (by decide) h), fun h => c1 (fl (by decide) h), fun h => c2 (fl (by decide) h), fun h => c3 (fl (by decide) h), fun h => c4 (fl (by decide) h), fun h => c5 (fl (by decide) h), fun h => c7 (fl (by decide) h), fun h => c8 (fl (by decide) h), fun _ => rfl, fun h => c10 (fl (by decide) h), fun h => c11 (fl (by decide) h), fun h => c12 (fl (by decide) h), fun h => (b6 (fl (by decide) h)), fun h => (b13 (fl (by decide) h)), fun h => (b14 (fl (by decide) h)), fun h => (b15 (fl (by decide) h))⟩
    · refine stepJ (i := 10) rfl (fun K hK => ?_)
      obtain rfl := c9 (hw 9 (by kernel_rfl))
      go_simp
      refine hK.out _ _ ⟨u8, u9, u10, u11, u12, u13, u14, u15, u16, _, _, u19, u20, u21, u5, u6, rfl, lo, fun h => c0 (fl (by decide) h), fun h => c1 (fl (by decide) h), fun h => c2 (fl (by decide) h), fun h => c3 (fl (by decide) h), fun h => c4 (fl (by decide) h), fun h => c5 (fl (by decide) h), fun h => c7 (fl (by decide) h), fun h => c8 (fl (by decide) h), fun _ => rfl, fun _ => rfl, fun h => c11 (fl (by decide) h), fun h => c12 (fl (by decide) h), fun h => (b6 (fl (by decide) h)), fun h => (b13 (fl (by decide) h)), fun h => (b14 (fl (by decide) h)), fun h => (b15 (fl (by decide) h))⟩
    · refine stepJ (i := 11) rfl (fun K hK => ?_)
      go_simp
      refine hK.out _ _ ⟨u8, u9, u10, u11, u12, u13, u14, u15, u16, u17, u18, _, u20, u21, u5, u6, rfl, lo, fun h => c0 (fl (by decide) h), fun h => c1 (fl (by decide) h), fun h => c2 (fl (by decide) h), fun h => c3 (fl (by decide) h), fun h => c4 (fl (by decide) h), fun h => c5 (fl (by decide) h), fun h => c7 (fl (by decide) h), fun h => c8 (fl (by decide) h), fun h => c9 (fl (by decide) h), fun h => c10 (fl (by decide) h), fun _ => rfl, fun h => c12 (fl (by decide) h), fun h => (b6 (fl (by decide) h)), fun h => (b13 (fl (by decide) h)), fun h => (b14 (fl (by decide) h)), fun h => (b15 (fl (by decide) h))⟩
    · refine stepJ (i := 12) rfl (fun K hK => ?_)
      obtain rfl := c11 (hw 11 (by kernel_rfl))
      go_simp
      refine hK.out _ _ ⟨u8, u9, u10, u11, u12, u13, u14, u15, u16, u17, u18, _, _, u21, u5, u6, rfl, lo, fun h => c0 (fl (by decide) h), fun h => c1 (fl (by decide) h), fun h => c2 (fl (by decide) h), fun h => c3 (fl (by decide) h), fun h => c4 (fl (by decide) h), fun h => c5 (fl (by decide) h), fun h => c7 (fl (by decide) h), fun h => c8 (fl (by decide) h), fun h => c9 (fl (by decide) h), fun h => c10 (fl (by decide) h), fun _ => rfl, fun _ => rfl, fun h => (b6 (fl (by decide) h)), fun h => (b13 (fl (by decide) h)), fun h => (b14 (fl (by decide) h)), fun h => (b15 (fl (by decide) h))⟩
    · refine stepJ (i := 13) rfl (fun K hK => ?_)
      obtain rfl := c8 (hw 8 (by kernel_rfl))
      obtain rfl := c10 (hw 10 (by kernel_rfl))
      obtain rfl := c12 (hw 12 (by kernel_rfl))
      go_simp
      refine hK.out _ _ ⟨u8, u9, u10, u11, u12, u13, u14, u15, _, u17, _, u19, _, _, u5, u6, rfl, lo.alloc _, fun h => c0 (fl (by decide) h), fun h => c1 (fl (by decide) h), fun h => c2 (fl (by decide) h), fun h => c3 (fl (by decide) h), fun h => c4 (fl (by decide) h), fun h => c5 (fl (by decide) h), fun h => c7 (fl (by decide) h), fun _ => rfl, fun h => c9 (fl (by decide) h), fun _ => rfl, fun h => c11 (fl (by decide) h), fun _ => rfl, fun h => (b6 (fl (by decide) h)).keep (below1 wx _), fun _ => BsW.new lo.size, fun h => (b14 (fl (by decide) h)).keep (below1 wx _), fun h => (b15 (fl (by decide) h)).keep (below1 wx _)⟩
    · refine stepJ (i := 14) rfl (fun K hK => ?_)
      obtain ⟨pp, rfl, hpp⟩ := id (b6 (hw 6 (by kernel_rfl)))
      go_simp
      refine hK.out _ _ ⟨u8, u9, u10, u11, u12, u13, _, u15, u16, u17, u18, u19, u20, u21, _, u6, rfl, lo, fun h => c0 (fl (by decide) h), fun h => c1 (fl (by decide) h), fun h => c2 (fl (by decide) h), fun h => c3 (fl (by decide) h), fun h => c4 (fl (by decide) h), fun h => c5 (fl (by decide) h), fun h => c7 (fl (by decide) h), fun h => c8 (fl (by decide) h), fun h => c9 (fl (by decide) h), fun h => c10 (fl (by decide) h), fun h => c11 (fl (by decide) h), fun h => c12 (fl (by decide) h), fun h => (b6 (fl (by decide) h)), fun h => (b13 (fl (by decide) h)), fun _ => ⟨pp, rfl, hpp⟩, fun h => (b15 (fl (by decide) h))⟩
    · refine stepJ (i := 15) rfl (fun K hK => ?_)
      obtain ⟨pp, rfl, hpp⟩ := id (b13 (hw 13 (by kernel_rfl)))
      go_simp
      refine hK.out _ _ ⟨u8, u9, u10, u11, u12, u13, u14, u15, u16, u17, u18, u19, u20, _, u5, _, rfl, lo, fun h => c0 (fl (by decide) h), fun h => c1 (fl (by decide) h), fun h => c2 (fl (by decide) h), fun h => c3 (fl (by decide) h), fun h => c4 (fl (by decide) h), fun h => c5 (fl (by decide) h), fun h => c7 (fl (by decide) h), fun h => c8 (fl (by decide) h), fun h => c9 (fl (by decide) h), fun h => c10 (fl (by decide) h), fun h => c11 (fl (by decide) h), fun h => c12 (fl (by decide) h), fun h => (b6 (fl (by decide) h)), fun h => (b13 (fl (by decide) h)), fun h => (b14 (fl (by decide) h)), fun _ => ⟨pp, rfl, hpp⟩⟩
  · rintro L a wx hall ⟨u8, u9, u10, u11, u12, u13, u14, u15, u16, u17, u18, u19, u20, u21, u5, u6, rfl, lo, c0, c1, c2, c3, c4, c5, c7, c8, c9, c10, c11, c12, b6, b13, b14, b15⟩
    obtain rfl := c0 (hall 0 (by decide))
    obtain rfl := c1 (hall 1 (by decide))
    obtain rfl := c2 (hall 2 (by decide))
    obtain rfl := c3 (hall 3 (by decide))
    obtain rfl := c4 (hall 4 (by decide))
    obtain rfl := c5 (hall 5 (by decide))
    obtain rfl := c7 (hall 7 (by decide))
    obtain rfl := c8 (hall 8 (by decide))
    obtain rfl := c9 (hall 9 (by decide))
    obtain rfl := c10 (hall 10 (by decide))
    obtain rfl := c11 (hall 11 (by decide))
    obtain rfl := c12 (hall 12 (by decide))
    have B6 := b6 (hall 6 (by decide))
    have B13 := b13 (hall 13 (by decide))
    have B14 := b14 (hall 14 (by decide))
    have B15 := b15 (hall 15 (by decide))
    clear hall c0 c1 c2 c3 c4 c5 c7 c8 c9 c10 c11 c12 b6 b13 b14 b15
    obtain ⟨p5, rfl, -, q1, q2, q3, -, -, -⟩ := B14
    obtain ⟨p6, rfl, -, r1, r2, r3, -, -, -⟩ := B15
    clear B6 B13
    have hb := lo.1
    clear lo KB
    have HA := Lib.hid (show ∀ j, j < 3 → wx.cell? ⟨p5, j, none⟩ = some (.int .i64 (numE a j)) from fun j hj => by
      rcases (show j = 0 ∨ j = 1 ∨ j = 2 by omega) with rfl | rfl | rfl
      · exact q1
      · exact q2
      · exact q3)
    have HB := Lib.hid (show ∀ j, j < 3 → wx.cell? ⟨p6, j, none⟩ = some (.int .i64 (numE b j)) from fun j hj => by
      rcases (show j = 0 ∨ j = 1 ∨ j = 2 by omega) with rfl | rfl | rfl
      · exact r1
      · exact r2
      · exact r3)
    have HZ := Lib.hid hb
    clear hb q1 q2 q3 r1 r2 r3
    go_wp2_with fail
    go_loopg [7] 3 (fun k s7 wl => (∃ n, wl = wx.drewN n) ∧ ∃ i : Nat, i + k = 3 ∧ s7 = .int .i64 (i : Int) ∧ Hid (∀ j, j < i → numE a j = numE b j))
    case atStart => exact ⟨⟨0, rfl⟩, 0, by omega, rfl, Lib.hid (fun j hj => absurd hj (by omega))⟩
    case round =>
      obtain ⟨⟨n, rfl⟩, i, hi, rfl, HI⟩ := hrel
      rcases gk with _ | k
      · obtain rfl : i = 3 := by omega
        have HE := Lib.hid (cmpE_same HI.out)
        clear HI
        go_wp2_with fail
        go_ret
        exact ⟨by rw [HE.out]; rfl, below_drewM HZ.out _⟩
      · have il : decide ((i : Int) < 3) = true := decide_eq_true (by omega)
        have i3 : i < 3 := by omega
        have i3' : (i : Int) < 3 := by omega
        by_cases h : numE a i = numE b i
        · have HI2 := Lib.hid (show ∀ j, j < i + 1 → numE a j = numE b j from fun j hj => by
            rcases (show j < i ∨ j = i by omega) with h1 | rfl
            · exact HI.out j h1
            · exact h)
          have d1 : decide (numE a i < numE b i) = false := decide_eq_false (by omega)
          have d2 : decide (numE b i < numE a i) = false := decide_eq_false (by omega)
          clear HI h
          have ca := HA.out i (by omega)
          have cb := HB.out i (by omega)
          generalize numE a i = x at *
          generalize numE b i = y at *
          go_wp2_with fail
          go_quiet (fail)
          go_wp2_with fail
          go_quiet (fail)
          go_wp2_with fail
          go_roundg k
          case measure => omega
          case rel => exact ⟨⟨_, rfl⟩, i + 1, by omega, by go_num, HI2⟩
        · have HE := Lib.hid (cmpE_at (by omega) HI.out h)
          clear HI
          have ca := HA.out i (by omega)
          have cb := HB.out i (by omega)
          generalize numE a i = x at *
          generalize numE b i = y at *
          by_cases h2 : x < y
          · have d1 : decide (x < y) = true := decide_eq_true h2
            have HV := Lib.hid (show cmpE a b = -1 by rw [HE.out]; unfold cmpI; rw [if_pos h2])
            clear HE h h2
            go_wp2_with fail
            go_quiet (fail)
            go_wp2_with fail
            go_ret
            exact ⟨by rw [HV.out]; rfl, below_drewM (below_drewM HZ.out _) _⟩
          · have d1 : decide (x < y) = false := decide_eq_false h2
            have d2 : decide (y < x) = true := decide_eq_true (by omega)
            have HV := Lib.hid (show cmpE a b = 1 by rw [HE.out]; unfold cmpI; rw [if_neg h2, if_pos (by omega)])
            clear HE h h2
            go_wp2_with fail
            go_quiet (fail)
            go_wp2_with fail
            go_quiet (fail)
            go_wp2_with fail
            go_ret
            exact ⟨by rw [HV.out]; rfl, below_drewM (below_drewM (below_drewM HZ.out _) _) _⟩
end Go.Proofs.Ytfkplnmhlpabaaa
