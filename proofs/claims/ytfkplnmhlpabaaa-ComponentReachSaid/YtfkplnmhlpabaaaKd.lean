/- Rows of integers that lie in a row: slices of slices. No condition. -/
import Derived.Test.YtfkplnmhlpabaaaVx
import Derived.Test.YtfkplnmhlpabaaaKc
namespace Go.Proofs.Ytfkplnmhlpabaaa
open Go.RowKit
set_option linter.unusedSimpArgs false
set_option linter.unusedVariables false

def upd {α : Type} (f : Nat → α) (i : Nat) (x : α) : Nat → α := fun j => if j = i then x else f j
/-- n rows of integers, each in a block of its own above b, their slices in the block b. -/
structure RowsI (b n : Nat) (vs : Nat → Value) (rows : Nat → List Int) (W : World) : Prop where
  row : W.rowIs b 34 n vs
  own : ∀ i, i < n → IntsAt W (b + 1) (vs i) (rows i)
  apart : ∀ i j, i < n → j < n → i ≠ j → Dj (vs i) (vs j)
section
variable {b n : Nat} {vs vs' : Nat → Value} {rows rows' : Nat → List Int} {W W' : World}
theorem RowsI.keep (h : RowsI b n vs rows W) (hb : Below W.heap.size W W') : RowsI b n vs rows W' :=
  ⟨World.rowIs.of_block h.row (hb.block b (World.rowIs.lt h.row)), fun i hi => (h.own i hi).keep hb, h.apart⟩
theorem RowsI.lt (h : RowsI b n vs rows W) : b < W.heap.size := World.rowIs.lt h.row
theorem RowsI.cell (h : RowsI b n vs rows W) {i : Nat} (hi : i < n) : W.cell? ⟨b, i, none⟩ = some (vs i) := World.rowIs.cell h.row hi
theorem RowsI.frozen (h : RowsI b n vs rows W) (i : Nat) : W.frozen? ⟨b, i, none⟩ = false := World.rowIs.frozen h.row i
theorem RowsI.congr (h : RowsI b n vs rows W) (e1 : ∀ i, i < n → vs i = vs' i) (e2 : ∀ i, i < n → rows i = rows' i) : RowsI b n vs' rows' W :=
  ⟨World.rowIs.congr h.row e1, fun i hi => by rw [← e1 i hi, ← e2 i hi]; exact h.own i hi, fun i j hi hj hij => by rw [← e1 i hi, ← e1 j hj]; exact h.apart i j hi hj hij⟩
theorem RowsI.made (w : World) (n : Nat) : RowsI w.heap.size n (fun _ => .slice none 0 0) (fun _ => []) (w.alloc (.cells (madeCells #[.slice none 0 0] n) 34)) :=
  ⟨World.rowIs_made w _ n _, fun i hi => ints_nil _ _, fun i j _ _ _ => Dj.nil _⟩
/-- A row that has been grown, and stored. -/
theorem RowsI.app (h : RowsI b n vs rows W) {i : Nat} (hi : i < n) {o : Obj} (hg : (W.alloc o).grownBy W' (vs i).ownBlock) {s' : Value} {r' : List Int} (hr : IntsAt W' (b + 1) s' r')
    (hv : s'.ownBlock = (vs i).ownBlock ∨ s'.ownBlock = some (W.heap.size + 1)) : RowsI b n (upd vs i s') (upd rows i r') (W'.setCell ⟨b, i, none⟩ s') := by
  have hlt := h.lt
  have hbk : (vs i).ownBlock ≠ some b := fun e => by have := ((h.own i hi).lt b e).1; omega
  have hrow : W'.rowIs b 34 n vs := World.rowIs.of_block h.row ((hg.block b (by rw [World.size_alloc]; omega) (fun e => hbk e.symm)).trans (Below.heap_alloc _ _ _ hlt))
  refine ⟨World.rowIs.congr (World.rowIs.set hrow i s') (fun j _ => by unfold upd; dsimp only), fun j hj => ?_, fun j k hj hk hjk => ?_⟩
  · unfold upd
    by_cases hji : j = i
    · rw [if_pos hji, if_pos hji]
      exact ownsRow_setCell_below hr (by exact Nat.lt_succ_self _) _
    · rw [if_neg hji, if_neg hji]
      have h1 := (h.own j hj).keep (below1 W o)
      have h2 : IntsAt W' (b + 1) (vs j) (rows j) := World.ownsRow.kept h1 hg (h.apart j i hj hi hji).or
      exact ownsRow_setCell_below h2 (by exact Nat.lt_succ_self _) _
  · unfold upd
    have hs : ∀ q, q < n → q ≠ i → Dj s' (vs q) := fun q hq hqi k h1 h2 => by
      rcases hv with hv | hv
      · exact h.apart i q hi hq (Ne.symm hqi) k (hv ▸ h1) h2
      · rw [hv] at h1
        injection h1 with h1
        have := ((h.own q hq).lt k h2).2
        omega
    by_cases hji : j = i
    · by_cases hki : k = i
      · exact absurd (hji.trans hki.symm) hjk
      · rw [if_pos hji, if_neg hki]; exact hs k hk hki
    · by_cases hki : k = i
      · rw [if_neg hji, if_pos hki]; exact (hs j hj hji).symm
      · rw [if_neg hji, if_neg hki]; exact h.apart j k hj hk hjk
end
/-- Rows of integers that can be read. -/
def RowsRd (W : World) (v : Value) (rows : List (List Int)) : Prop := ∃ a c, v = .slice a rows.length c ∧ ∀ (i : Nat) (r : List Int), rows[i]? = some r → ∃ b off u, a = some ⟨b, off, none⟩ ∧ W.cell? ⟨b, off + i, none⟩ = some u ∧ IntsRd W u r
theorem RowsRd.keep {W W' : World} {v : Value} {rows : List (List Int)} (h : RowsRd W v rows) (hb : Below W.heap.size W W') : RowsRd W' v rows := by
  obtain ⟨a, c, rfl, h1⟩ := h
  refine ⟨a, c, rfl, fun i r hr => ?_⟩
  obtain ⟨b, off, u, rfl, k1, k2⟩ := h1 i r hr
  exact ⟨b, off, u, rfl, cell_keep k1 hb, k2.keep hb⟩
theorem RowsRd.form {W : World} {v : Value} {rows : List (List Int)} (h : RowsRd W v rows) : ∃ a c, v = .slice a rows.length c := by
  obtain ⟨a, c, hv, -⟩ := h; exact ⟨a, c, hv⟩
theorem RowsRd.at {W : World} {v : Value} {rows : List (List Int)} (h : RowsRd W v rows) {i : Nat} {r : List Int} (hr : rows[i]? = some r) : ∃ b off c u, v = .slice (some ⟨b, off, none⟩) rows.length c ∧ W.cell? ⟨b, off + i, none⟩ = some u ∧ IntsRd W u r := by
  obtain ⟨a, c, rfl, h1⟩ := h
  obtain ⟨b, off, u, rfl, k1, k2⟩ := h1 i r hr
  exact ⟨b, off, c, u, rfl, k1, k2⟩
theorem rows_rd {b n : Nat} {vs : Nat → Value} {rows : Nat → List Int} {W : World} (h : RowsI b n vs rows W) (c : Nat) : RowsRd W (.slice (some ⟨b, 0, none⟩) n c) ((List.range n).map rows) := by
  refine ⟨some ⟨b, 0, none⟩, c, by rw [List.length_map, List.length_range], fun i r hr => ?_⟩
  rw [List.getElem?_map] at hr
  by_cases hi : i < n
  · rw [List.getElem?_range hi] at hr
    simp at hr
    subst hr
    exact ⟨b, 0, vs i, rfl, by rw [Nat.zero_add]; exact h.cell hi, (h.own i hi).rd⟩
  · rw [List.getElem?_eq_none (by rw [List.length_range]; omega)] at hr
    cases hr
end Go.Proofs.Ytfkplnmhlpabaaa
