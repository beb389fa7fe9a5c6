/- What graph.Deterministic returns. Condition: a list's length is one of a slice. What grooveref09.Compare returns. No condition. What grooveref09.Check, grooveref09.Great and groovelaw09.fine return. No condition but that the edges can be read. -/
import Derived.Test.YthhbbiafffpknaaDoorQ08
import Derived.Test.YthhbbiafffpknaaDoorQ02

namespace Go.Proofs.YthhbbiafffpknaaDoor
open Go.RowKit
set_option linter.unusedSimpArgs false
set_option linter.unusedVariables false

/-- No two neighbours leave one state with one label. -/
def detE : List E3 → Bool
  | [] => true
  | [_] => true
  | a :: b :: r => !(a.1 == b.1 && a.2.1 == b.2.1) && detE (b :: r)
theorem detE_drop {es : List E3} {j : Nat} {d e : E3} (h1 : es[j]? = some d) (h2 : es[j + 1]? = some e) : detE (es.drop j) = (!(d.1 == e.1 && d.2.1 == e.2.1) && detE (es.drop (j + 1))) := by
  rw [drop_at h1, drop_at h2]; rfl
theorem detE_end {es : List E3} {j : Nat} (h : es.length ≤ j + 1) : detE (es.drop j) = true := by
  have hl : (es.drop j).length ≤ 1 := by rw [List.length_drop]; omega
  match es.drop j, hl with
  | [], _ => rfl
  | [_], _ => rfl
/-- What a round of Deterministic reads, and what lay before. -/
def LD (w : World) (L S : Int) (v : Value) (b off j k : Nat) (d e : E3) (W : World) : Prop := Below w.heap.size w W ∧ BoxG W w.heap.size L S v ∧
  W.cell? ⟨b, off + j * 3, none⟩ = some (.int .i64 d.1) ∧ W.cell? ⟨b, off + j * 3 + 1, none⟩ = some (.int .i64 d.2.1) ∧ W.cell? ⟨b, off + j * 3 + 2, none⟩ = some (.int .i64 d.2.2) ∧
  W.cell? ⟨b, off + k * 3, none⟩ = some (.int .i64 e.1) ∧ W.cell? ⟨b, off + k * 3 + 1, none⟩ = some (.int .i64 e.2.1) ∧ W.cell? ⟨b, off + k * 3 + 2, none⟩ = some (.int .i64 e.2.2) ∧ w.heap.size + 1 ≤ W.heap.size
section
variable {w W W' : World} {L S : Int} {v : Value} {b off j k : Nat} {d e : E3}
theorem LD.keep (h : LD w L S v b off j k d e W) (hb : Below W.heap.size W W') : LD w L S v b off j k d e W' := by
  obtain ⟨h0, h1, h2, h3, h4, h5, h6, h7, h8⟩ := h
  exact ⟨h0.trans (hb.mono h0.size), h1.keep hb, cell_keep h2 hb, cell_keep h3 hb, cell_keep h4 hb, cell_keep h5 hb, cell_keep h6 hb, cell_keep h7 hb, Nat.le_trans h8 hb.size⟩
theorem LD.alloc (h : LD w L S v b off j k d e W) (o : Obj) : LD w L S v b off j k d e (W.alloc o) := h.keep (below1 W o)
theorem LD.drew (h : LD w L S v b off j k d e W) : LD w L S v b off j k d e W.drew := h.keep (Below.refl _ _).drew
theorem LD.size (h : LD w L S v b off j k d e W) : w.heap.size + 1 ≤ W.heap.size := h.2.2.2.2.2.2.2.2
theorem LD.far {q : Nat} (h : LD w L S v b off j k d e W) (hq : w.heap.size + 1 ≤ q) (hb : b < w.heap.size) (f : E3) : LD w L S v b off j k d e (stE W q f) := by
  obtain ⟨h0, h1, h2, h3, h4, h5, h6, h7, h8⟩ := h
  have hqb : q ≠ b := by omega
  have hqw : q ≠ w.heap.size := by omega
  have fc : ∀ {i : Nat} {u : Value}, W.cell? ⟨b, i, none⟩ = some u → (stE W q f).cell? ⟨b, i, none⟩ = some u := fun hu => by
    unfold stE
    rw [World.cell?_setCell_far _ _ _ _ (by exact hqb), World.cell?_setCell_far _ _ _ _ (by exact hqb), World.cell?_setCell_far _ _ _ _ (by exact hqb)]
    exact hu
  exact ⟨h0.trans (stE_below (by omega)), boxG_other (boxG_other (boxG_other h1 (by exact hqw) _) (by exact hqw) _) (by exact hqw) _, fc h2, fc h3, fc h4, fc h5, fc h6, fc h7, by unfold stE; simpa using h8⟩
end
/-- What Deterministic returns. -/
def detR (L S : Int) (es : List E3) : Bool × Int := if chkG L S es = 0 then (detE es, 0) else (false, 1)
end Go.Proofs.YthhbbiafffpknaaDoor

namespace Go.Proofs.YthhbbiafffpknaaDoor
open Go.RowKit
set_option linter.unusedSimpArgs false
set_option linter.unusedVariables false

/-- A row of three integers. -/
def BsW (B : Nat) (x : E3) (u : Value) (W : World) : Prop := ∃ p, u = .slice (some ⟨p, 0, none⟩) 3 3 ∧ B ≤ p ∧ Box3 W p x
theorem BsW.keep {B : Nat} {x : E3} {u : Value} {W W' : World} (h : BsW B x u W) (hb : Below W.heap.size W W') : BsW B x u W' := by
  obtain ⟨p, h1, h2, h3⟩ := h
  exact ⟨p, h1, h2, h3.keep hb⟩
theorem BsW.new {B : Nat} {W : World} {a b c : Int} {t : TypeId} (hb : B ≤ W.heap.size) : BsW B (a, b, c) (.slice (some ⟨W.heap.size, 0, none⟩) 3 3) (W.alloc (.cells #[.int .i64 a, .int .i64 b, .int .i64 c] t)) :=
  ⟨_, rfl, hb, Box3.new _ _ _ _ _⟩
set_option maxRecDepth 100000 in
set_option maxHeartbeats 6400000 in
theorem rcompare_any (a b : E3) (w : World) : Calls Tryd.prog 40 #[edgV a, edgV b] w fun e w' => e = .returned (.int .i64 (cmpE a b)) ∧ Below w.heap.size w w' := by
  have hmx : Tryd.prog.follows .mixedOrders = true := by kernel_rfl
  have K0 := Lib.hid (CA.start w a b 57 57)
  go_enter Tryd.func40, Tryd.ntmps40
  go_upto_region 1 with fail
  have KB := K0.out.drew
  clear K0
  refine region_inv' (J := (fun L act wx => ∃ u8 u9 u10 u11 u12 u13 u14 u15 u16 u17 u18 u19 u20 u21 u5 u6, act = { tmps := #[.agg #[.int .i64 a.1, .int .i64 a.2.1, .int .i64 a.2.2], .agg #[.int .i64 b.1, .int .i64 b.2.1, .int .i64 b.2.2], .pointer (some ⟨w.heap.size, 0, none⟩), .pointer (some ⟨w.heap.size + 1, 0, none⟩), .int .i64 0, u5, u6, undef, u8, u9, u10, u11, u12, u13, u14, u15, u16, u17, u18, u19, u20, u21, undef, undef, undef, undef, undef, undef, undef, undef, undef, undef, undef, undef, undef, undef, undef, undef, undef, undef, undef, undef, undef, undef], defers := [] } ∧ CA w a b wx ∧
      (L.getD 0 false = true → u8 = .pointer (some ⟨w.heap.size, 0, none⟩)) ∧ (L.getD 1 false = true → u9 = .int .i64 a.1) ∧ (L.getD 2 false = true → u10 = .pointer (some ⟨w.heap.size, 1, none⟩)) ∧ (L.getD 3 false = true → u11 = .int .i64 a.2.1) ∧ (L.getD 4 false = true → u12 = .pointer (some ⟨w.heap.size, 2, none⟩)) ∧ (L.getD 5 false = true → u13 = .int .i64 a.2.2) ∧ (L.getD 7 false = true → u15 = .pointer (some ⟨w.heap.size + 1, 0, none⟩)) ∧ (L.getD 8 false = true → u16 = .int .i64 b.1) ∧ (L.getD 9 false = true → u17 = .pointer (some ⟨w.heap.size + 1, 1, none⟩)) ∧ (L.getD 10 false = true → u18 = .int .i64 b.2.1) ∧ (L.getD 11 false = true → u19 = .pointer (some ⟨w.heap.size + 1, 2, none⟩)) ∧ (L.getD 12 false = true → u20 = .int .i64 b.2.2) ∧ (L.getD 6 false = true → BsW (w.heap.size + 2) (a) u14 wx) ∧ (L.getD 13 false = true → BsW (w.heap.size + 2) (b) u21 wx) ∧ (L.getD 14 false = true → BsW (w.heap.size + 2) (a) u5 wx) ∧ (L.getD 15 false = true → BsW (w.heap.size + 2) (b) u6 wx))) hmx (by kernel_rfl) ?_ ?_ ?_
  · exact ⟨undef, undef, undef, undef, undef, undef, undef, undef, undef, undef, undef, undef, undef, undef, undef, undef, rfl, KB, fun h => absurd h (by decide), fun h => absurd h (by decide), fun h => absurd h (by decide), fun h => absurd h (by decide), fun h => absurd h (by decide), fun h => absurd h (by decide), fun h => absurd h (by decide), fun h => absurd h (by decide), fun h => absurd h (by decide), fun h => absurd h (by decide), fun h => absurd h (by decide), fun h => absurd h (by decide), fun h => absurd h (by decide), fun h => absurd h (by decide), fun h => absurd h (by decide), fun h => absurd h (by decide)⟩
  · intro i hi L a wx hl hw ⟨u8, u9, u10, u11, u12, u13, u14, u15, u16, u17, u18, u19, u20, u21, u5, u6, ha, lo, c0, c1, c2, c3, c4, c5, c7, c8, c9, c10, c11, c12, b6, b13, b14, b15⟩
    subst ha
    obtain ⟨x1, x2, x3, y1', y2', y3'⟩ := lo.cells
    clear KB
    have hi' : i = 0 ∨ i = 1 ∨ i = 2 ∨ i = 3 ∨ i = 4 ∨ i = 5 ∨ i = 6 ∨ i = 7 ∨ i = 8 ∨ i = 9 ∨ i = 10 ∨ i = 11 ∨ i = 12 ∨ i = 13 ∨ i = 14 ∨ i = 15 := by
      have : i < 16 := hi
      omega
    rcases hi' with rfl | rfl | rfl | rfl | rfl | rfl | rfl | rfl | rfl | rfl | rfl | rfl | rfl | rfl | rfl | rfl
    · refine stepJ (i := 0) rfl (fun K hK => ?_)
      go_simp
      refine hK.out _ _ ⟨_, u9, u10, u11, u12, u13, u14, u15, u16, u17, u18, u19, u20, u21, u5, u6, rfl, lo, fun _ => rfl, fun h => c1 (fl (by decide) h), fun h => c2 (fl (by decide) h), fun h => c3 (fl (by decide) h), fun h => c4 (fl (by decide) h), fun h => c5 (fl (by decide) h), fun h => c7 (fl (by decide) h), fun h => c8 (fl (by decide) h), fun h => c9 (fl (by decide) h), fun h => c10 (fl (by decide) h), fun h => c11 (fl (by decide) h), fun h => c12 (fl (by decide) h), fun h => (b6 (fl (by decide) h)), fun h => (b13 (fl (by decide) h)), fun h => (b14 (fl (by decide) h)), fun h => (b15 (fl (by decide) h))⟩
    · refine stepJ (i := 1) rfl (fun K hK => ?_)
      obtain rfl := c0 (hw 0 (by kernel_rfl))
      go_simp
      refine hK.out _ _ ⟨_, _, u10, u11, u12, u13, u14, u15, u16, u17, u18, u19, u20, u21, u5, u6, rfl, lo, fun _ => rfl, fun _ => rfl, fun h => c2 (fl (by decide) h), fun h => c3 (fl (by decide) h), fun h => c4 (fl (by decide) h), fun h => c5 (fl (by decide) h), fun h => c7 (fl (by decide) h), fun h => c8 (fl (by decide) h), fun h => c9 (fl (by decide) h), fun h => c10 (fl (by decide) h), fun h => c11 (fl (by decide) h), fun h => c12 (fl (by decide) h), fun h => (b6 (fl (by decide) h)), fun h => (b13 (fl (by decide) h)), fun h => (b14 (fl (by decide) h)), fun h => (b15 (fl (by decide) h))⟩
    · refine stepJ (i := 2) rfl (fun K hK => ?_)
      go_simp
      refine hK.out _ _ ⟨u8, u9, _, u11, u12, u13, u14, u15, u16, u17, u18, u19, u20, u21, u5, u6, rfl, lo, fun h => c0 (fl (by decide) h), fun h => c1 (fl (by decide) h), fun _ => rfl, fun h => c3 (fl (by decide) h), fun h => c4 (fl (by decide) h), fun h => c5 (fl (by decide) h), fun h => c7 (fl (by decide) h), fun h => c8 (fl (by decide) h), fun h => c9 (fl (by decide) h), fun h => c10 (fl (by decide) h), fun h => c11 (fl (by decide) h), fun h => c12 (fl (by decide) h), fun h => (b6 (fl (by decide) h)), fun h => (b13 (fl (by decide) h)), fun h => (b14 (fl (by decide) h)), fun h => (b15 (fl (by decide) h))⟩
    · refine stepJ (i := 3) rfl (fun K hK => ?_)
      obtain rfl := c2 (hw 2 (by kernel_rfl))
      go_simp
      refine hK.out _ _ ⟨u8, u9, _, _, u12, u13, u14, u15, u16, u17, u18, u19, u20, u21, u5, u6, rfl, lo, fun h => c0 (fl (by decide) h), fun h => c1 (fl (by decide) h), fun _ => rfl, fun _ => rfl, fun h => c4 (fl (by decide) h), fun h => c5 (fl (by decide) h), fun h => c7 (fl (by decide) h), fun h => c8 (fl (by decide) h), fun h => c9 (fl (by decide) h), fun h => c10 (fl (by decide) h), fun h => c11 (fl (by decide) h), fun h => c12 (fl (by decide) h), fun h => (b6 (fl (by decide) h)), fun h => (b13 (fl (by decide) h)), fun h => (b14 (fl (by decide) h)), fun h => (b15 (fl (by decide) h))⟩
    · refine stepJ (i := 4) rfl (fun K hK => ?_)
      go_simp
      refine hK.out _ _ ⟨u8, u9, u10, u11, _, u13, u14, u15, u16, u17, u18, u19, u20, u21, u5, u6, rfl, lo, fun h => c0 (fl (by decide) h), fun h => c1 (fl (by decide) h), fun h => c2 (fl (by decide) h), fun h => c3 (fl (by decide) h), fun _ => rfl, fun h => c5 (fl (by decide) h), fun h => c7 (fl (by decide) h), fun h => c8 (fl (by decide) h), fun h => c9 (fl (by decide) h), fun h => c10 (fl (by decide) h), fun h => c11 (fl (by decide) h), fun h => c12 (fl (by decide) h), fun h => (b6 (fl (by decide) h)), fun h => (b13 (fl (by decide) h)), fun h => (b14 (fl (by decide) h)), fun h => (b15 (fl (by decide) h))⟩
    · refine stepJ (i := 5) rfl (fun K hK => ?_)
      obtain rfl := c4 (hw 4 (by kernel_rfl))
      go_simp
      refine hK.out _ _ ⟨u8, u9, u10, u11, _, _, u14, u15, u16, u17, u18, u19, u20, u21, u5, u6, rfl, lo, fun h => c0 (fl (by decide) h), fun h => c1 (fl (by decide) h), fun h => c2 (fl (by decide) h), fun h => c3 (fl (by decide) h), fun _ => rfl, fun _ => rfl, fun h => c7 (fl (by decide) h), fun h => c8 (fl (by decide) h), fun h => c9 (fl (by decide) h), fun h => c10 (fl (by decide) h), fun h => c11 (fl (by decide) h), fun h => c12 (fl (by decide) h), fun h => (b6 (fl (by decide) h)), fun h => (b13 (fl (by decide) h)), fun h => (b14 (fl (by decide) h)), fun h => (b15 (fl (by decide) h))⟩
    · refine stepJ (i := 6) rfl (fun K hK => ?_)
      obtain rfl := c1 (hw 1 (by kernel_rfl))
      obtain rfl := c3 (hw 3 (by kernel_rfl))
      obtain rfl := c5 (hw 5 (by kernel_rfl))
      go_simp
      refine hK.out _ _ ⟨u8, _, u10, _, u12, _, _, u15, u16, u17, u18, u19, u20, u21, u5, u6, rfl, lo.alloc _, fun h => c0 (fl (by decide) h), fun _ => rfl, fun h => c2 (fl (by decide) h), fun _ => rfl, fun h => c4 (fl (by decide) h), fun _ => rfl, fun h => c7 (fl (by decide) h), fun h => c8 (fl (by decide) h), fun h => c9 (fl (by decide) h), fun h => c10 (fl (by decide) h), fun h => c11 (fl (by decide) h), fun h => c12 (fl (by decide) h), fun _ => BsW.new lo.size, fun h => (b13 (fl (by decide) h)).keep (below1 wx _), fun h => (b14 (fl (by decide) h)).keep (below1 wx _), fun h => (b15 (fl (by decide) h)).keep (below1 wx _)⟩
    · refine stepJ (i := 7) rfl (fun K hK => ?_)
      go_simp
      refine hK.out _ _ ⟨u8, u9, u10, u11, u12, u13, u14, _, u16, u17, u18, u19, u20, u21, u5, u6, rfl, lo, fun h => c0 (fl (by decide) h), fun h => c1 (fl (by decide) h), fun h => c2 (fl (by decide) h), fun h => c3 (fl (by decide) h), fun h => c4 (fl (by decide) h), fun h => c5 (fl (by decide) h), fun _ => rfl, fun h => c8 (fl (by decide) h), fun h => c9 (fl (by decide) h), fun h => c10 (fl (by decide) h), fun h => c11 (fl (by decide) h), fun h => c12 (fl (by decide) h), fun h => (b6 (fl (by decide) h)), fun h => (b13 (fl (by decide) h)), fun h => (b14 (fl (by decide) h)), fun h => (b15 (fl (by decide) h))⟩
    · refine stepJ (i := 8) rfl (fun K hK => ?_)
      obtain rfl := c7 (hw 7 (by kernel_rfl))
      go_simp
      refine hK.out _ _ ⟨u8, u9, u10, u11, u12, u13, u14, _, _, u17, u18, u19, u20, u21, u5, u6, rfl, lo, fun h => c0 (fl (by decide) h), fun h => c1 (fl (by decide) h), fun h => c2 (fl (by decide) h), fun h => c3 (fl (by decide) h), fun h => c4 (fl (by decide) h), fun h => c5 (fl (by decide) h), fun _ => rfl, fun _ => rfl, fun h => c9 (fl (by decide) h), fun h => c10 (fl (by decide) h), fun h => c11 (fl (by decide) h), fun h => c12 (fl (by decide) h), fun h => (b6 (fl (by decide) h)), fun h => (b13 (fl (by decide) h)), fun h => (b14 (fl (by decide) h)), fun h => (b15 (fl (by decide) h))⟩
    · refine stepJ (i := 9) rfl (fun K hK => ?_)
      go_simp
      refine hK.out _ _ ⟨u8, u9, u10, u11, u12, u13, u14, u15, u16, _, u18, u19, u20, u21, u5, u6, rfl, lo, fun h => c0 (fl (by decide) h), fun h => c1 (fl (by decide) h), fun h => c2 (fl (by decide) h), fun h => c3 (fl (by decide) h), fun h => c4 (fl (by decide) h), fun h => c5 (fl (by decide) h), fun h => c7 (fl (by decide) h), fun h => c8 (fl (by decide) h), fun _ => rfl, fun h => c10 (fl (by decide) h), fun h => c11 (fl (by decide) h), fun h => c12 (fl (by decide) h), fun h => (b6 (fl (by decide) h)), fun h => (b13 (fl (by decide) h)), fun h => (b14 (fl (by decide) h)), fun h => (b15 (fl (by decide) h))⟩
    · refine stepJ (i := 10) rfl (fun K hK => ?_)
      obtain rfl := c9 (hw 9 (by kernel_rfl))
      go_simp
      refine hK.out _ _ ⟨u8, u9, u10, u11, u12, u13, u14, u15, u16, _, _, u19, u20, u21, u5, u6, rfl, lo, fun h => c0 (fl (by decide) h), fun h => c1 (fl (by decide) h), fun h => c2 (fl (by decide) h), fun h => c3 (fl (by decide) h), fun h => c4 (fl (by decide) h), fun h => c5 (fl (by decide) h), fun h => c7 (fl (by decide) h), fun h => c8 (fl (by decide) h), fun _ => rfl, fun _ => rfl, fun h => c11 (fl (by decide) h), fun h => c12 (fl (by decide) h), fun h => (b6 (fl (by decide) h)), fun h => (b13 (fl (by decide) h)), fun h => (b14 (fl (by decide) h)), fun h => (b15 (fl (by decide) h))⟩
    · refine stepJ (i := 11) rfl (fun K hK => ?_)
      go_simp
      refine hK.out _ _ ⟨u8, u9, u10, u11, u12, u13, u14, u15, u16, u17, u18, _, u20, u21, u5, u6, rfl, lo, fun h => c0 (fl (by decide) h), fun h => c1 (fl (by decide) h), fun h => c2 (fl (by decide) h), fun h => c3 (fl (by decide) h), fun h => c4 (fl (by decide) h), fun h => c5 (fl (by decide) h), fun h => c7 (fl (by decide) h), fun h => c8 (fl (by decide) h), fun h => c9 (fl (by decide) h), fun h => c10 (fl (by decide) h), fun _ => rfl, fun h => c12 (fl (by decide) h), fun h => (b6 (fl (by decide) h)), fun h => (b13 (fl (by decide) h)), fun h => (b14 (fl (by decide) h)), fun h => (b15 (fl (by decide) h))⟩
    · refine stepJ (i := 12) rfl (fun K hK => ?_)
      obtain rfl := c11 (hw 11 (by kernel_rfl))
      go_simp
      refine hK.out _ _ ⟨u8, u9, u10, u11, u12, u13, u14, u15, u16, u17, u18, _, _, u21, u5, u6, rfl, lo, fun h => c0 (fl (by decide) h), fun h => c1 (fl (by decide) h), fun h => c2 (fl (by decide) h), fun h => c3 (fl (by decide) h), fun h => c4 (fl (by decide) h), fun h => c5 (fl (by decide) h), fun h => c7 (fl (by decide) h), fun h => c8 (fl (by decide) h), fun h => c9 (fl (by decide) h), fun h => c10 (fl (by decide) h), fun _ => rfl, fun _ => rfl, fun h => (b6 (fl (by decide) h)), fun h => (b13 (fl (by decide) h)), fun h => (b14 (fl (by decide) h)), fun h => (b15 (fl (by decide) h))⟩
    · refine stepJ (i := 13) rfl (fun K hK => ?_)
      obtain rfl := c8 (hw 8 (by kernel_rfl))
      obtain rfl := c10 (hw 10 (by kernel_rfl))
      obtain rfl := c12 (hw 12 (by kernel_rfl))
      go_simp
      refine hK.out _ _ ⟨u8, u9, u10, u11, u12, u13, u14, u15, _, u17, _, u19, _, _, u5, u6, rfl, lo.alloc _, fun h => c0 (fl (by decide) h), fun h => c1 (fl (by decide) h), fun h => c2 (fl (by decide) h), fun h => c3 (fl (by decide) h), fun h => c4 (fl (by decide) h), fun h => c5 (fl (by decide) h), fun h => c7 (fl (by decide) h), fun _ => rfl, fun h => c9 (fl (by decide) h), fun _ => rfl, fun h => c11 (fl (by decide) h), fun _ => rfl, fun h => (b6 (fl (by decide) h)).keep (below1 wx _), fun _ => BsW.new lo.size, fun h => (b14 (fl (by decide) h)).keep (below1 wx _), fun h => (b15 (fl (by decide) h)).keep (below1 wx _)⟩
    · refine stepJ (i := 14) rfl (fun K hK => ?_)
      obtain ⟨pp, rfl, hpp⟩ := id (b6 (hw 6 (by kernel_rfl)))
      go_simp
      refine hK.out _ _ ⟨u8, u9, u10, u11, u12, u13, _, u15, u16, u17, u18, u19, u20, u21, _, u6, rfl, lo, fun h => c0 (fl (by decide) h), fun h => c1 (fl (by decide) h), fun h => c2 (fl (by decide) h), fun h => c3 (fl (by decide) h), fun h => c4 (fl (by decide) h), fun h => c5 (fl (by decide) h), fun h => c7 (fl (by decide) h), fun h => c8 (fl (by decide) h), fun h => c9 (fl (by decide) h), fun h => c10 (fl (by decide) h), fun h => c11 (fl (by decide) h), fun h => c12 (fl (by decide) h), fun h => (b6 (fl (by decide) h)), fun h => (b13 (fl (by decide) h)), fun _ => ⟨pp, rfl, hpp⟩, fun h => (b15 (fl (by decide) h))⟩
    · refine stepJ (i := 15) rfl (fun K hK => ?_)
      obtain ⟨pp, rfl, hpp⟩ := id (b13 (hw 13 (by kernel_rfl)))
      go_simp
      refine hK.out _ _ ⟨u8, u9, u10, u11, u12, u13, u14, u15, u16, u17, u18, u19, u20, _, u5, _, rfl, lo, fun h => c0 (fl (by decide) h), fun h => c1 (fl (by decide) h), fun h => c2 (fl (by decide) h), fun h => c3 (fl (by decide) h), fun h => c4 (fl (by decide) h), fun h => c5 (fl (by decide) h), fun h => c7 (fl (by decide) h), fun h => c8 (fl (by decide) h), fun h => c9 (fl (by decide) h), fun h => c10 (fl (by decide) h), fun h => c11 (fl (by decide) h), fun h => c12 (fl (by decide) h), fun h => (b6 (fl (by decide) h)), fun h => (b13 (fl (by decide) h)), fun h => (b14 (fl (by decide) h)), fun _ => ⟨pp, rfl, hpp⟩⟩
  · rintro L a wx hall ⟨u8, u9, u10, u11, u12, u13, u14, u15, u16, u17, u18, u19, u20, u21, u5, u6, rfl, lo, c0, c1, c2, c3, c4, c5, c7, c8, c9, c10, c11, c12, b6, b13, b14, b15⟩
    obtain rfl := c0 (hall 0 (by decide))
    obtain rfl := c1 (hall 1 (by decide))
    obtain rfl := c2 (hall 2 (by decide))
    obtain rfl := c3 (hall 3 (by decide))
    obtain rfl := c4 (hall 4 (by decide))
    obtain rfl := c5 (hall 5 (by decide))
    obtain rfl := c7 (hall 7 (by decide))
    obtain rfl := c8 (hall 8 (by decide))
    obtain rfl := c9 (hall 9 (by decide))
    obtain rfl := c10 (hall 10 (by decide))
    obtain rfl := c11 (hall 11 (by decide))
    obtain rfl := c12 (hall 12 (by decide))
    have B6 := b6 (hall 6 (by decide))
    have B13 := b13 (hall 13 (by decide))
    have B14 := b14 (hall 14 (by decide))
    have B15 := b15 (hall 15 (by decide))
    clear hall c0 c1 c2 c3 c4 c5 c7 c8 c9 c10 c11 c12 b6 b13 b14 b15
    obtain ⟨p5, rfl, -, q1, q2, q3, -, -, -⟩ := B14
    obtain ⟨p6, rfl, -, r1, r2, r3, -, -, -⟩ := B15
    clear B6 B13
    have hb := lo.1
    clear lo KB
    have HA := Lib.hid (show ∀ j, j < 3 → wx.cell? ⟨p5, j, none⟩ = some (.int .i64 (numE a j)) from fun j hj => by
      rcases (show j = 0 ∨ j = 1 ∨ j = 2 by omega) with rfl | rfl | rfl
      · exact q1
      · exact q2
      · exact q3)
    have HB := Lib.hid (show ∀ j, j < 3 → wx.cell? ⟨p6, j, none⟩ = some (.int .i64 (numE b j)) from fun j hj => by
      rcases (show j = 0 ∨ j = 1 ∨ j = 2 by omega) with rfl | rfl | rfl
      · exact r1
      · exact r2
      · exact r3)
    have HZ := Lib.hid hb
    clear hb q1 q2 q3 r1 r2 r3
    go_wp2_with fail
    go_loopg [7] 3 (fun k s7 wl => (∃ n, wl = wx.drewN n) ∧ ∃ i : Nat, i + k = 3 ∧ s7 = .int .i64 (i : Int) ∧ Hid (∀ j, j < i → numE a j = numE b j))
    case atStart => exact ⟨⟨0, rfl⟩, 0, by omega, rfl, Lib.hid (fun j hj => absurd hj (by omega))⟩
    case round =>
      obtain ⟨⟨n, rfl⟩, i, hi, rfl, HI⟩ := hrel
      rcases gk with _ | k
      · obtain rfl : i = 3 := by omega
        have HE := Lib.hid (cmpE_same HI.out)
        clear HI
        go_wp2_with fail
        go_ret
        exact ⟨by rw [HE.out]; rfl, below_drewM HZ.out _⟩
      · have il : decide ((i : Int) < 3) = true := decide_eq_true (by omega)
        have i3 : i < 3 := by omega
        have i3' : (i : Int) < 3 := by omega
        by_cases h : numE a i = numE b i
        · have HI2 := Lib.hid (show ∀ j, j < i + 1 → numE a j = numE b j from fun j hj => by
            rcases (show j < i ∨ j = i by omega) with h1 | rfl
            · exact HI.out j h1
            · exact h)
          have d1 : decide (numE a i < numE b i) = false := decide_eq_false (by omega)
          have d2 : decide (numE b i < numE a i) = false := decide_eq_false (by omega)
          clear HI h
          have ca := HA.out i (by omega)
          have cb := HB.out i (by omega)
          generalize numE a i = x at *
          generalize numE b i = y at *
          go_wp2_with fail
          go_quiet (fail)
          go_wp2_with fail
          go_quiet (fail)
          go_wp2_with fail
          go_roundg k
          case measure => omega
          case rel => exact ⟨⟨_, rfl⟩, i + 1, by omega, by go_num, HI2⟩
        · have HE := Lib.hid (cmpE_at (by omega) HI.out h)
          clear HI
          have ca := HA.out i (by omega)
          have cb := HB.out i (by omega)
          generalize numE a i = x at *
          generalize numE b i = y at *
          by_cases h2 : x < y
          · have d1 : decide (x < y) = true := decide_eq_true h2
            have HV := Lib.hid (show cmpE a b = -1 by rw [HE.out]; unfold cmpI; rw [if_pos h2])
            clear HE h h2
            go_wp2_with fail
            go_quiet (fail)
            go_wp2_with fail
            go_ret
            exact ⟨by rw [HV.out]; rfl, below_drewM (below_drewM HZ.out _) _⟩
          · have d1 : decide (x < y) = false := decide_eq_false h2
            have d2 : decide (y < x) = true := decide_eq_true (by omega)
            have HV := Lib.hid (show cmpE a b = 1 by rw [HE.out]; unfold cmpI; rw [if_neg h2, if_pos (by omega)])
            clear HE h h2
            go_wp2_with fail
            go_quiet (fail)
            go_wp2_with fail
            go_quiet (fail)
            go_wp2_with fail
            go_ret
            exact ⟨by rw [HV.out]; rfl, below_drewM (below_drewM (below_drewM HZ.out _) _) _⟩
end Go.Proofs.YthhbbiafffpknaaDoor

namespace Go.Proofs.YthhbbiafffpknaaDoor
open Go.RowKit
set_option linter.unusedSimpArgs false
set_option linter.unusedVariables false

set_option maxRecDepth 100000 in
set_option maxHeartbeats 6400000 in
/-- Behind the tests of the sizes. -/
theorem rcheck_loop (L S : Int) (es : List E3) (v : Value) (w : World) (hrd : EdgesRd w v es) (l1 : 1 ≤ L) (l2 : L ≤ 256) (s1 : 0 ≤ S) (s2 : S ≤ 64) (hn : es.length ≤ 1024) :
    Calls Tryd.prog 21 #[grV L S v] w fun e w' => e = .returned (.int .i64 (chkF L S none es)) ∧ Below w.heap.size w w' := by
  have HRD := Lib.hid hrd
  obtain ⟨a, c, rfl⟩ := hrd.form
  have K0 := Lib.hid (BoxG.new w L S (.slice a es.length c) 24)
  clear hrd
  have d1 : decide (L < 1) = false := decide_eq_false (by omega)
  have d2 : decide (256 < L) = false := decide_eq_false (by omega)
  have d3 : decide (S < 0) = false := decide_eq_false (by omega)
  have d4 : decide (64 < S) = false := decide_eq_false (by omega)
  have d5 : decide ((1024 : Int) < (es.length : Int)) = false := decide_eq_false (by omega)
  go_enter Tryd.func21, Tryd.ntmps21
  go_wp2_with fail
  go_loopg [3] es.length (fun q s3 wx => ∃ i : Nat, i + q = es.length ∧ s3 = .int .i64 (i : Int) ∧ Hid (chkF L S (prevE es i) (es.drop i) = chkF L S none es) ∧ BoxG wx w.heap.size L S (.slice a es.length c) ∧ Below w.heap.size w wx)
  case atStart => exact ⟨0, by omega, rfl, Lib.hid rfl, K0.out, below1 w _⟩
  case round =>
    clear K0 d1 d2 d3 d4 d5
    obtain ⟨i, hi, rfl, HI, hG, hb⟩ := hrel
    rcases gk with _ | q
    · obtain rfl : i = es.length := by omega
      have HE := Lib.hid (show chkF L S none es = 0 by rw [← HI.out, List.drop_length]; rfl)
      obtain ⟨g1, g2, g3⟩ := id hG
      clear HI
      go_wp2_with fail
      go_ret
      exact ⟨by rw [HE.out]; rfl, hb⟩
    · obtain ⟨e, he⟩ : ∃ e, es[i]? = some e := ⟨_, List.getElem?_eq_getElem (by omega)⟩
      have HEE := Lib.hid he
      have hrd := HRD.out.keep hb
      obtain ⟨b, off, c', hv, k1, k2, k3⟩ := hrd.at he
      injection hv with e1 e2 e3
      subst e1
      subst e3
      have HDR := drop_at he
      obtain ⟨x, y, z⟩ := e
      dsimp only at k1 k2 k3
      have j1 : (i : Int) < (es.length : Int) := by omega
      have G0 := Lib.hid (show CK w L S (.slice (some ⟨b, off, none⟩) es.length c) wr.heap.size (x, y, z) (wr.alloc (.cells #[.int .i64 x, .int .i64 y, .int .i64 z] 57)) from ⟨hG.keep (below1 wr _), Box3.new _ _ _ _ _, hb.alloc hb.size _⟩)
      obtain ⟨g1, g2, g3⟩ := id hG
      go_upto_region 11 with fail
      clear k1 k2 k3 hG hb g1 g2 g3 hrd e2
      obtain ⟨W0, hW0⟩ : ∃ W0, wr.alloc (.cells #[.int .i64 x, .int .i64 y, .int .i64 z] 57) = W0 := ⟨_, rfl⟩
      rw [hW0] at G0 ⊢
      obtain ⟨P0, hP0⟩ : ∃ P0, wr.heap.size = P0 := ⟨_, rfl⟩
      rw [hP0] at G0 ⊢
      clear hW0 hP0
      obtain ⟨⟨g1, g2, g3⟩, ⟨x1, x2, x3, -, -, -⟩, hb⟩ := id G0.out
      dsimp only at x1 x2 x3
      cases hk : okE L S (x, y, z) with
      | false =>
        have HE := Lib.hid (show chkF L S none es = 2 by rw [← HI.out, HDR]; exact chkF_bad hk)
        rw [okE_not] at hk
        dsimp only at hk
        clear HI HDR he HEE
        by_cases h1 : x < 0
        · have d1 : decide (x < 0) = true := decide_eq_true h1
          clear hk h1
          go_wp2_with fail
          go_ret
          exact ⟨by rw [HE.out]; rfl, hb⟩
        have d1 : decide (x < 0) = false := decide_eq_false h1
        by_cases h2 : S ≤ x
        · have d2 : decide (S ≤ x) = true := decide_eq_true h2
          clear hk h1 h2
          go_wp2_with fail
          go_ret
          exact ⟨by rw [HE.out]; rfl, hb⟩
        have d2 : decide (S ≤ x) = false := decide_eq_false h2
        by_cases h3 : z < 0
        · have d3 : decide (z < 0) = true := decide_eq_true h3
          clear hk h1 h2 h3
          go_wp2_with fail
          go_ret
          exact ⟨by rw [HE.out]; rfl, hb⟩
        have d3 : decide (z < 0) = false := decide_eq_false h3
        by_cases h4 : S ≤ z
        · have d4 : decide (S ≤ z) = true := decide_eq_true h4
          clear hk h1 h2 h3 h4
          go_wp2_with fail
          go_ret
          exact ⟨by rw [HE.out]; rfl, hb⟩
        have d4 : decide (S ≤ z) = false := decide_eq_false h4
        by_cases h5 : y < 0
        · have d5 : decide (y < 0) = true := decide_eq_true h5
          clear hk h1 h2 h3 h4 h5
          go_wp2_with fail
          go_ret
          exact ⟨by rw [HE.out]; rfl, hb⟩
        have d5 : decide (y < 0) = false := decide_eq_false h5
        have d6 : decide (L ≤ y) = true := decide_eq_true (by omega)
        clear hk h1 h2 h3 h4 h5
        go_wp2_with fail
        go_ret
        exact ⟨by rw [HE.out]; rfl, hb⟩
      | true =>
        have hk2 := okE_iff.1 hk
        dsimp only at hk2
        have d1 : decide (x < 0) = false := decide_eq_false (by omega)
        have d2 : decide (S ≤ x) = false := decide_eq_false (by omega)
        have d3 : decide (z < 0) = false := decide_eq_false (by omega)
        have d4 : decide (S ≤ z) = false := decide_eq_false (by omega)
        have d5 : decide (y < 0) = false := decide_eq_false (by omega)
        have d8 : decide (L ≤ y) = false := decide_eq_false (by omega)
        clear hk2
        go_upto_region 13 with fail
        clear d1 d2 d3 d4 d5 d8 G0
        have hmx : Tryd.prog.follows .mixedOrders = true := by kernel_rfl
        by_cases h0 : i = 0
        · have HI2 := Lib.hid (show chkF L S (prevE es (i + 1)) (es.drop (i + 1)) = chkF L S none es by
            rw [← HI.out, HDR, prevE_succ he, chkF_step hk (fun q hq => by rw [h0, prevE_zero] at hq; cases hq)])
          have d6 : decide ((0 : Int) < (i : Int)) = false := decide_eq_false (by omega)
          have d7 : decide (0 < i) = false := decide_eq_false (by omega)
          clear HI HDR he hk h0
          go_quiet (fail)
          go_wp2_with fail
          go_roundg q
          case measure => omega
          case rel => exact ⟨i + 1, by omega, by go_num, HI2, ⟨g1, g2, g3⟩, below_drewM hb _⟩
        · obtain ⟨j, hj⟩ : ∃ j, i = j + 1 := ⟨i - 1, by omega⟩
          obtain ⟨e', he'⟩ : ∃ e', es[j]? = some e' := ⟨_, List.getElem?_eq_getElem (by omega)⟩
          have hpv : prevE es i = some e' := by rw [hj]; exact prevE_succ he'
          obtain ⟨b2, off2, c2, hv, k1, k2, k3⟩ := (HRD.out.keep hb).at he'
          injection hv with e1 e2 e3
          injection e1 with e1
          injection e1 with e1 e4
          subst e1
          subst e4
          subst e3
          have hc := cmpE_ge e' (x, y, z)
          obtain ⟨x', y', z'⟩ := e'
          dsimp only at k1 k2 k3
          have hw : IntKind.i64.wrap ((i : Int) - 1) = (j : Int) := by rw [hj]; simp [IntKind.wrap, IntKind.signed, IntKind.bits]; omega
          have d6 : decide ((0 : Int) < (i : Int)) = true := decide_eq_true (by omega)
          have d7 : decide (0 < i) = true := decide_eq_true (by omega)
          have j2 : (j : Int) < (es.length : Int) := by omega
          have HM := Lib.hid (fun W => rcompare_any (x', y', z') (x, y, z) W)
          cases hlt : ltE (x', y', z') (x, y, z) with
          | false =>
            have HE := Lib.hid (show chkF L S none es = 10 by rw [← HI.out, HDR, hpv]; exact chkF_order hk hlt)
            rw [hlt] at hc
            obtain ⟨m, hm⟩ : ∃ m, cmpE (x', y', z') (x, y, z) = m := ⟨_, rfl⟩
            rw [hm] at hc
            simp only [hm] at HM
            have hc2 : decide (0 ≤ m) = true := hc
            clear HI HDR he hk h0 hj he' hpv hc hlt hm e2
            go_region_held3 (fun W => W.cell? ⟨w.heap.size, 2, none⟩ = some (.slice (some ⟨b, off, none⟩) es.length c) ∧ W.cell? ⟨P0, 0, none⟩ = some (.int .i64 x) ∧ W.cell? ⟨P0, 1, none⟩ = some (.int .i64 y) ∧ W.cell? ⟨P0, 2, none⟩ = some (.int .i64 z) ∧
                W.cell? ⟨b, off + j * 3, none⟩ = some (.int .i64 x') ∧ W.cell? ⟨b, off + j * 3 + 1, none⟩ = some (.int .i64 y') ∧ W.cell? ⟨b, off + j * 3 + 2, none⟩ = some (.int .i64 z'))
              (first | exact ⟨g3, x1, x2, x3, k1, k2, k3⟩ | exact ⟨cell_keep (Wp := W0.drew) (by exact g3) b2, cell_keep (Wp := W0.drew) (by exact x1) b2, cell_keep (Wp := W0.drew) (by exact x2) b2, cell_keep (Wp := W0.drew) (by exact x3) b2, cell_keep (Wp := W0.drew) (by exact k1) b2, cell_keep (Wp := W0.drew) (by exact k2) b2, cell_keep (Wp := W0.drew) (by exact k3) b2⟩)
              (first | (go_at_call 40; (with_reducible refine (HM.out _).mono ?_); rintro e0 W4 ⟨rfl, b2⟩))
            have hb2 := below_more hb.drew (Nat.le_refl _) b2
            go_wp2_with fail
            go_ret
            exact ⟨by rw [HE.out]; rfl, hb2⟩
          | true =>
            have HI2 := Lib.hid (show chkF L S (prevE es (i + 1)) (es.drop (i + 1)) = chkF L S none es by
              rw [← HI.out, HDR, prevE_succ he, chkF_step hk (fun q hq => by rw [hpv] at hq; injection hq with hq; subst hq; exact hlt)])
            rw [hlt] at hc
            obtain ⟨m, hm⟩ : ∃ m, cmpE (x', y', z') (x, y, z) = m := ⟨_, rfl⟩
            rw [hm] at hc
            simp only [hm] at HM
            have hc2 : decide (0 ≤ m) = false := hc
            clear HI HDR he hk h0 hj he' hpv hc hlt hm e2
            go_region_held3 (fun W => W.cell? ⟨w.heap.size, 2, none⟩ = some (.slice (some ⟨b, off, none⟩) es.length c) ∧ W.cell? ⟨P0, 0, none⟩ = some (.int .i64 x) ∧ W.cell? ⟨P0, 1, none⟩ = some (.int .i64 y) ∧ W.cell? ⟨P0, 2, none⟩ = some (.int .i64 z) ∧
                W.cell? ⟨b, off + j * 3, none⟩ = some (.int .i64 x') ∧ W.cell? ⟨b, off + j * 3 + 1, none⟩ = some (.int .i64 y') ∧ W.cell? ⟨b, off + j * 3 + 2, none⟩ = some (.int .i64 z'))
              (first | exact ⟨g3, x1, x2, x3, k1, k2, k3⟩ | exact ⟨cell_keep (Wp := W0.drew) (by exact g3) b2, cell_keep (Wp := W0.drew) (by exact x1) b2, cell_keep (Wp := W0.drew) (by exact x2) b2, cell_keep (Wp := W0.drew) (by exact x3) b2, cell_keep (Wp := W0.drew) (by exact k1) b2, cell_keep (Wp := W0.drew) (by exact k2) b2, cell_keep (Wp := W0.drew) (by exact k3) b2⟩)
              (first | (go_at_call 40; (with_reducible refine (HM.out _).mono ?_); rintro e0 W4 ⟨rfl, b2⟩))
            have hG2 : BoxG W4 w.heap.size L S (.slice (some ⟨b, off, none⟩) es.length c) := BoxG.keep (W := W0.drew) ⟨g1, g2, g3⟩ b2
            have hb2 := below_more hb.drew (Nat.le_refl _) b2
            go_wp2_with fail
            go_roundg q
            case measure => omega
            case rel => exact ⟨i + 1, by omega, by go_num, HI2, hG2, hb2⟩
set_option maxRecDepth 100000 in
set_option maxHeartbeats 1600000 in
theorem rcheck_any (L S : Int) (es : List E3) (v : Value) (w : World) (hrd : EdgesRd w v es) (hn : es.length ≤ 9223372036854775807) :
    Calls Tryd.prog 21 #[grV L S v] w fun e w' => e = .returned (.int .i64 (chkG L S es)) ∧ Below w.heap.size w w' := by
  obtain ⟨a, c, rfl⟩ := hrd.form
  by_cases h1 : L < 1
  · have HE := Lib.hid (show chkG L S es = 12 by unfold chkG; rw [if_pos (Or.inl h1)])
    have d1 : decide (L < 1) = true := decide_eq_true h1
    clear hrd
    go_enter Tryd.func21, Tryd.ntmps21
    go_wp2_with fail
    go_ret
    exact ⟨by rw [HE.out]; rfl, below1 w _⟩
  by_cases h2 : 256 < L
  · have HE := Lib.hid (show chkG L S es = 12 by unfold chkG; rw [if_pos (Or.inr h2)])
    have d1 : decide (L < 1) = false := decide_eq_false h1
    have d2 : decide (256 < L) = true := decide_eq_true h2
    clear hrd
    go_enter Tryd.func21, Tryd.ntmps21
    go_wp2_with fail
    go_ret
    exact ⟨by rw [HE.out]; rfl, below1 w _⟩
  have d1 : decide (L < 1) = false := decide_eq_false h1
  have d2 : decide (256 < L) = false := decide_eq_false h2
  by_cases h3 : S < 0
  · have HE := Lib.hid (show chkG L S es = 2 by unfold chkG; rw [if_neg (by omega), if_pos h3])
    have d3 : decide (S < 0) = true := decide_eq_true h3
    clear hrd
    go_enter Tryd.func21, Tryd.ntmps21
    go_wp2_with fail
    go_ret
    exact ⟨by rw [HE.out]; rfl, below1 w _⟩
  have d3 : decide (S < 0) = false := decide_eq_false h3
  by_cases h4 : 64 < S
  · have HE := Lib.hid (show chkG L S es = 4 by unfold chkG; rw [if_neg (by omega), if_neg h3, if_pos (Or.inl h4)])
    have d4 : decide (64 < S) = true := decide_eq_true h4
    clear hrd
    go_enter Tryd.func21, Tryd.ntmps21
    go_wp2_with fail
    go_ret
    exact ⟨by rw [HE.out]; rfl, below1 w _⟩
  by_cases h5 : 1024 < es.length
  · have HE := Lib.hid (show chkG L S es = 4 by unfold chkG; rw [if_neg (by omega), if_neg h3, if_pos (Or.inr h5)])
    have d4 : decide (64 < S) = false := decide_eq_false h4
    have d5 : decide ((1024 : Int) < (es.length : Int)) = true := decide_eq_true (by omega)
    clear hrd
    go_enter Tryd.func21, Tryd.ntmps21
    go_wp2_with fail
    go_ret
    exact ⟨by rw [HE.out]; rfl, below1 w _⟩
  have HE : chkG L S es = chkF L S none es := by unfold chkG; rw [if_neg (by omega), if_neg h3, if_neg (by omega)]
  rw [HE]
  exact rcheck_loop L S es _ w hrd (by omega) (by omega) (by omega) (by omega) (by omega)
end Go.Proofs.YthhbbiafffpknaaDoor
