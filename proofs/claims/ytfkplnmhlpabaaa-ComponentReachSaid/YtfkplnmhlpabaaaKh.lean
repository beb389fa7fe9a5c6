/- What component.allLengths returns. Conditions: at most 64 states, at most 1024 edges, between states. -/
import Derived.Test.YtfkplnmhlpabaaaKg
namespace Go.Proofs.Ytfkplnmhlpabaaa
open Go.RowKit
set_option linter.unusedSimpArgs false
set_option linter.unusedVariables false

theorem irow_rd {W : World} {g n : Nat} {f : Nat → Int} (h : IRow W g n f) (c : Nat) : IntsRd W (.slice (some ⟨g, 0, none⟩) n c) ((List.range n).map f) := by
  refine ⟨some ⟨g, 0, none⟩, c, by rw [List.length_map, List.length_range], fun i x hx => ?_⟩
  rw [List.getElem?_map] at hx
  by_cases hi : i < n
  · rw [List.getElem?_range hi] at hx
    simp at hx
    subst hx
    exact ⟨g, 0, rfl, by rw [Nat.zero_add]; exact h.cell hi⟩
  · rw [List.getElem?_eq_none (by rw [List.length_range]; omega)] at hx
    cases hx
/-- The first k rows of a square of lengths: each in a block above b. -/
structure Sq (es : List E3) (n b k : Nat) (vs : Nat → Value) (W : World) : Prop where
  row : W.rowIs b 34 n vs
  el : ∀ j, j < k → ∃ g, vs j = .slice (some ⟨g, 0, none⟩) n n ∧ b < g ∧ IRow W g n (lenF es n j)
section
variable {es : List E3} {n b k : Nat} {vs : Nat → Value} {W W' : World}
theorem Sq.keep (h : Sq es n b k vs W) (hb : Below W.heap.size W W') : Sq es n b k vs W' :=
  ⟨World.rowIs.of_block h.row (hb.block b (World.rowIs.lt h.row)), fun j hj => by
    obtain ⟨g, h1, h2, h3⟩ := h.el j hj
    exact ⟨g, h1, h2, h3.keep hb⟩⟩
theorem Sq.lt (h : Sq es n b k vs W) : b < W.heap.size := World.rowIs.lt h.row
/-- Where no block of it turns. -/
theorem Sq.blocks {m M : Nat} (h : Sq es n b k vs W) (hm : W.heap.size ≤ M) (hmb : m ≤ b) (hb : ∀ q, m ≤ q → q < M → W'.heap[q]? = W.heap[q]?) : Sq es n b k vs W' :=
  ⟨World.rowIs.of_block h.row (hb b hmb (by have := h.lt; omega)), fun j hj => by
    obtain ⟨g, h1, h2, h3⟩ := h.el j hj
    exact ⟨g, h1, h2, World.rowIs.of_block h3 (hb g (by omega) (by have := h3.lt; omega))⟩⟩
theorem Sq.put (h : Sq es n b k vs W) {g : Nat} (hg : b < g) (hr : IRow W g n (lenF es n k)) : Sq es n b (k + 1) (upd vs k (.slice (some ⟨g, 0, none⟩) n n)) (W.setCell ⟨b, k, none⟩ (.slice (some ⟨g, 0, none⟩) n n)) := by
  refine ⟨World.rowIs.congr (World.rowIs.set h.row k _) (fun j _ => by unfold upd; dsimp only), fun j hj => ?_⟩
  unfold upd
  by_cases hjk : j = k
  · subst hjk
    rw [if_pos rfl]
    exact ⟨g, rfl, hg, hr.other (by show g ≠ b; omega) _⟩
  · rw [if_neg hjk]
    obtain ⟨g', h1, h2, h3⟩ := h.el j (by omega)
    exact ⟨g', h1, h2, h3.other (by show g' ≠ b; omega) _⟩
/-- A number of it, by its two indices. -/
theorem Sq.at (h : Sq es n b n vs W) {s t : Nat} (hs : s < n) (ht : t < n) : ∃ g, W.cell? ⟨b, s, none⟩ = some (.slice (some ⟨g, 0, none⟩) n n) ∧ W.cell? ⟨g, t, none⟩ = some (.int .i64 (lenF es n s t)) := by
  obtain ⟨g, h1, h2, h3⟩ := h.el s hs
  exact ⟨g, by rw [World.rowIs.cell h.row hs, h1], h3.cell ht⟩
end
set_option maxRecDepth 100000 in
set_option maxHeartbeats 6400000 in
theorem all_any (L : Int) (n : Nat) (es : List E3) (v : Value) (w : World) (hrd : EdgesRd w v es) (hn : n ≤ 64) (hok : ∀ e ∈ es, okE L (n : Int) e = true) (hlen : es.length ≤ 1024) :
    Calls Try.prog 94 #[grV L (n : Int) v] w fun e w' => ∃ b vs, e = .returned (.slice (some ⟨b, 0, none⟩) n n) ∧ Sq es n b n vs w' ∧ w.heap.size ≤ b ∧ Below w.heap.size w w' := by
  have HMR := make_rows n (by omega)
  obtain ⟨a, c, rfl⟩ := hrd.form
  have b1 := below1 w (.cells #[.int .i64 L, .int .i64 (n : Int), .slice a es.length c] 24)
  have HT := Lib.hid (targets_any L n es (.slice a es.length c) (w.alloc (.cells #[.int .i64 L, .int .i64 (n : Int), .slice a es.length c] 24)) (hrd.keep b1) hn hok hlen)
  have G1 := BoxG.new w L (n : Int) (.slice a es.length c) 24
  obtain ⟨x1, x2, x3⟩ := id G1
  have HNX := Lib.hid (show ∀ s, s < n → ∀ u ∈ (fun s : Nat => tgE es (s : Int)) s, 0 ≤ u ∧ u < (n : Int) from fun s _ u hu => by
    obtain ⟨e, he, -, rfl⟩ := tgE_mem.1 hu
    have := okE_iff.1 (hok e he); omega)
  have HL := Lib.hid (show ∀ s, ((fun s : Nat => tgE es (s : Int)) s).length ≤ 100000 from fun s => by have := tgE_len es (s : Int); show (tgE es (s : Int)).length ≤ _; omega)
  have HG1 := Lib.hid G1
  have B1 := Lib.hid b1
  clear hrd hok b1 G1
  go_enter Try.func94, Try.ntmps94
  go_upto_region 2 with (go_at_call 57; (with_reducible refine HT.out.mono ?_); rintro e W2 ⟨vs0, rfl, r2, b2⟩; clear x1 x2 x3)
  obtain ⟨P1, hP1⟩ : ∃ P1, w.heap.size + 1 + 1 = P1 := ⟨_, rfl⟩
  rw [World.size_alloc, hP1] at r2
  rw [hP1]
  have G2 := HG1.out.keep b2
  have b2 := below_more B1.out (Nat.le_refl _) b2
  have NXT := Lib.hid (rows_rd r2 n)
  obtain ⟨x1, x2, x3⟩ := id G2
  obtain ⟨W3, hW3⟩ : ∃ W3, W2.alloc (.cells (madeCells #[.slice none 0 0] n) 34) = W3 := ⟨_, rfl⟩
  obtain ⟨b, hb⟩ : ∃ b, W2.heap.size = b := ⟨_, rfl⟩
  have S3 : Sq es n b 0 (fun _ => .slice none 0 0) W3 := by
    rw [← hW3, ← hb]; exact ⟨World.rowIs_made W2 _ n _, fun j hj => absurd hj (Nat.not_lt_zero _)⟩
  have b3 : Below b W2 W3 := by rw [← hW3, ← hb]; exact below1 _ _
  have hwb : w.heap.size ≤ b := by rw [← hb]; exact b2.size
  have HS3 := Lib.hid S3
  have HB3 := Lib.hid b3
  have HB2 := Lib.hid b2
  clear r2 hP1 HG1 B1 HT S3 b3 b2 G2
  have HW3 := Lib.hid hW3
  have HBB := Lib.hid hb
  clear hW3 hb
  go_wp2_with fail
  rw [HW3.out, HBB.out]
  have hb := HBB.out
  clear x1 x2 x3 HW3 HBB
  go_loopg [13] n (fun q s13 wx => ∃ (i : Nat) (vs : Nat → Value), i + q = n ∧ s13 = .int .i64 (i : Int) ∧ Hid (Sq es n b i vs wx) ∧ Hid (Below b W2 wx))
  case atStart => exact ⟨0, _, by omega, rfl, HS3, HB3⟩
  case round =>
    clear HS3 HB3
    obtain ⟨i, vs, hin, rfl, HS, HB⟩ := hrel
    rcases gk with _ | q
    · obtain rfl : i = n := by omega
      go_wp2_with fail
      go_ret
      exact ⟨b, vs, rfl, HS.out, hwb, HB2.out.trans (HB.out.mono (by omega))⟩
    · have hiN : i < n := by omega
      have HLA := Lib.hid (lengths_any n (.slice (some ⟨P1, 0, none⟩) n n) (fun s => tgE es (s : Int)) i wr (by omega) (NXT.out.keep (by rw [hb]; exact HB.out)) HNX.out HL.out hiN)
      have j1 : (i : Int) < (n : Int) := by omega
      have hblt := HS.out.lt
      have cE := World.rowIs.cell HS.out.row hiN
      have fE := World.rowIs.frozen HS.out.row i
      have HKE := Lib.hid (fun X (h : Below wr.heap.size wr X) => And.intro (cell_keep cE h) (frozen_keep cE fE h))
      clear cE fE
      go_wp2_with (go_at_call 56; (with_reducible refine HLA.out.mono ?_); rintro e W5 ⟨rfl, i5, b5⟩; (obtain ⟨c5, f5⟩ := HKE.out W5 b5); (have HS5 := Lib.hid ((HS.out.keep b5).put (by omega) i5)); (have HB5 := Lib.hid ((below_more HB.out (by omega) b5).setCell (p := ⟨b, i, none⟩) (Nat.le_refl _) (.slice (some ⟨wr.heap.size + 2, 0, none⟩) n n))); clear i5 b5)
      go_roundg q
      case measure => omega
      case rel => exact ⟨i + 1, _, by omega, by go_num, HS5, HB5⟩
end Go.Proofs.Ytfkplnmhlpabaaa
