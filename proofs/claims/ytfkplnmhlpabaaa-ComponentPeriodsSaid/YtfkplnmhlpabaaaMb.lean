/- What grooveref10.Of returns for a valid graph. -/
import Derived.Test.YtfkplnmhlpabaaaMa
import Derived.Test.YtfkplnmhlpabaaaKn
namespace Go.Proofs.Ytfkplnmhlpabaaa
open Go.RowKit Go.Shelf
set_option linter.unusedSimpArgs false
set_option linter.unusedVariables false

/-- Whether no state of the component that was met is less than s. -/
def frst (es : List E3) (n s t : Nat) : Bool := (List.range t).all fun x => !compB es n s x || decide (s ≤ x)
theorem frst_step (es : List E3) (n s t : Nat) : frst es n s (t + 1) = (frst es n s t && (!compB es n s t || decide (s ≤ t))) := by
  unfold frst; rw [List.range_succ, List.all_append]; simp
theorem frst_all {es : List E3} {n s : Nat} (hs : s < n) : frst es n s n = repB es n s := by
  unfold frst repB
  rw [Bool.eq_iff_iff, List.all_eq_true, Bool.not_eq_true', List.any_eq_false]
  constructor
  · intro h r hr
    have hrs := List.mem_range.1 hr
    have h1 := h r (List.mem_range.2 (by omega))
    rw [decide_eq_false (by omega), Bool.or_false, compB_symm] at h1
    intro h2
    rw [h2] at h1; cases h1
  · intro h x hx
    by_cases hxs : s ≤ x
    · rw [decide_eq_true hxs, Bool.or_true]
    · have := h x (List.mem_range.2 (by omega))
      rw [compB_symm]
      cases h2 : compB es n x s with
      | false => rfl
      | true => exact absurd h2 this
/-- The rows of marks so far. -/
structure RB (w : World) (La : Int) (n : Nat) (v : Value) (es : List E3) (u : Value) (us : List Value) (X : World) : Prop where
  g : BoxG X w.heap.size La (n : Int) v
  b : Below w.heap.size w X
  o : X.ownsRow (w.heap.size + 1) 53 1 u us.length us
  e : ∀ (j : Nat) (u' : Value), us[j]? = some u' → ∃ bb, u' = .slice (some ⟨bb, 0, none⟩) n n ∧ BRow X bb n (rb es n j)
/-- The rows of a list of components. -/
structure MO (W5 : World) (rows : List (List Int)) (u : Value) (os : List Value) (X : World) : Prop where
  b : Below W5.heap.size W5 X
  o : X.ownsRow W5.heap.size 34 1 u os.length os
  l : os.length = rows.length
  e : ∀ (j : Nat) (u' : Value) (r : List Int), os[j]? = some u' → rows[j]? = some r → IntsAt X W5.heap.size u' r
section
variable {w W5 X Y : World} {La : Int} {n : Nat} {es : List E3} {u u' v : Value} {us os : List Value} {rows : List (List Int)} {r : List Int}
theorem RB.keep (h : RB w La n v es u us X) (hb : Below X.heap.size X Y) : RB w La n v es u us Y :=
  ⟨h.g.keep hb, below_more h.b (Nat.le_refl _) hb, World.ownsRow.kept h.o (grown_none hb) (by cases u.ownBlock <;> simp), fun j u' hj => by
    obtain ⟨bb, h1, h2⟩ := h.e j u' hj
    exact ⟨bb, h1, h2.keep hb⟩⟩
theorem brow_types {A g : Nat} {f : Nat → Bool} {v1 : Value} {k : Nat} {xs : List Value} (h1 : BRow X g n f) (h2 : X.ownsRow A 53 1 v1 k xs) : v1.ownBlock ≠ some g := by
  rcases h2.2 with ⟨rfl, -⟩ | ⟨g2, c2, q2, rfl, -, p2, -⟩
  · simp [Value.ownBlock]
  · intro e
    simp [Value.ownBlock] at e
    subst e
    obtain ⟨cs, hc, -⟩ := h1
    rw [p2] at hc
    injection hc with hc
    injection hc with _ hc
    exact absurd hc (by decide)
theorem RB.app (h : RB w La n v es u us X) {o : Obj} {bb : Nat} {u2 : Value} (hu : BRow X bb n (rb es n us.length)) (hg : (X.alloc o).grownBy Y u.ownBlock) (ho : Y.ownsRow (w.heap.size + 1) 53 1 u2 (us.length + 1) (us ++ [.slice (some ⟨bb, 0, none⟩) n n])) : RB w La n v es u2 (us ++ [.slice (some ⟨bb, 0, none⟩) n n]) Y := by
  have hlt := h.o.lt
  have hw : w.heap.size < X.heap.size := World.block_lt_of_cell? _ ⟨w.heap.size, 0, none⟩ h.g.1
  have hblk : ∀ q, q < X.heap.size → u.ownBlock ≠ some q → Y.heap[q]? = X.heap[q]? := fun q hq hne => (hg.block q (by rw [World.size_alloc]; omega) (fun e => hne e.symm)).trans (Below.heap_alloc _ _ _ hq)
  have hk : ∀ {g : Nat} {f : Nat → Bool}, BRow X g n f → BRow Y g n f := fun {g f} hz => World.rowIs.of_block hz (hblk g (World.rowIs.lt hz) (brow_types hz h.o))
  have hwne : u.ownBlock ≠ some w.heap.size := fun e => by have := (hlt _ e).1; omega
  have e := hblk w.heap.size hw hwne
  refine ⟨⟨(World.cell?_of_block (a := ⟨w.heap.size, 0, none⟩) e).trans h.g.1, (World.cell?_of_block (a := ⟨w.heap.size, 1, none⟩) e).trans h.g.2.1, (World.cell?_of_block (a := ⟨w.heap.size, 2, none⟩) e).trans h.g.2.2⟩,
    Below.grown (h.b.alloc h.b.size o) hg (by rw [World.size_alloc]; have := h.b.size; omega) (fun q e => by have := (hlt q e).1; omega), by rw [List.length_append]; exact ho, fun j z hj => ?_⟩
  by_cases hjl : j < us.length
  · rw [List.getElem?_append_left hjl] at hj
    obtain ⟨b2, q1, q2⟩ := h.e j z hj
    exact ⟨b2, q1, hk q2⟩
  · rw [List.getElem?_append_right (by omega)] at hj
    have e0 : j - us.length = 0 := by have := (List.getElem?_eq_some_iff.1 hj).1; simp at this; omega
    rw [e0] at hj
    simp at hj
    subst hj
    obtain rfl : j = us.length := by omega
    exact ⟨bb, rfl, hk hu⟩
theorem MO.keep (h : MO W5 rows u os X) (hb : Below X.heap.size X Y) : MO W5 rows u os Y :=
  ⟨below_more h.b (Nat.le_refl _) hb, World.ownsRow.kept h.o (grown_none hb) (by cases u.ownBlock <;> simp), h.l, fun j u' r hj hr => (h.e j u' r hj hr).keep hb⟩
theorem MO.app (h : MO W5 rows u os X) {o : Obj} {u2 : Value} (hu : IntsAt X W5.heap.size u' r) (hg : (X.alloc o).grownBy Y u.ownBlock) (ho : Y.ownsRow W5.heap.size 34 1 u2 (os.length + 1) (os ++ [u'])) : MO W5 (rows ++ [r]) u2 (os ++ [u']) Y := by
  have hlt := h.o.lt
  have hsz := h.b.size
  have hk : ∀ {z : Value} {l : List Int}, IntsAt X W5.heap.size z l → IntsAt Y W5.heap.size z l := fun hz => World.ownsRow.kept (hz.keep (below1 X o)) hg (row_types hz h.o (by decide))
  refine ⟨Below.grown (h.b.alloc h.b.size o) hg (by rw [World.size_alloc]; omega) (fun q e => by have := (hlt q e).1; omega), by rw [List.length_append]; exact ho, by rw [List.length_append, List.length_append, h.l]; rfl, fun j z c hj hc => ?_⟩
  by_cases hjl : j < os.length
  · rw [List.getElem?_append_left hjl] at hj
    rw [List.getElem?_append_left (by rw [← h.l]; exact hjl)] at hc
    exact hk (h.e j z c hj hc)
  · rw [List.getElem?_append_right (by omega)] at hj
    rw [List.getElem?_append_right (by rw [← h.l]; omega)] at hc
    have e0 : j - os.length = 0 := by have := (List.getElem?_eq_some_iff.1 hj).1; simp at this; omega
    rw [e0] at hj
    rw [← h.l, e0] at hc
    simp at hj hc
    subst hj hc
    exact hk hu
theorem MO.rd (h : MO W5 rows u os X) : RowsRd X u rows := by
  rcases Nat.eq_zero_or_pos rows.length with h0 | h0
  · obtain rfl : rows = [] := List.eq_nil_of_length_eq_zero h0
    obtain ⟨a, c, hv⟩ := own_slice h.o
    rw [h.l] at hv
    exact ⟨a, c, hv, fun i r hr => by simp at hr⟩
  · have ho := h.o
    obtain ⟨g, c, hv, -, -⟩ := World.ownsRow.form ho (by rw [h.l]; exact h0)
    subst hv
    refine ⟨some ⟨g, 0, none⟩, c, by rw [h.l], fun i r hr => ?_⟩
    have hi : i < os.length := by rw [h.l]; exact (List.getElem?_eq_some_iff.1 hr).1
    obtain ⟨u', hu'⟩ : ∃ u', os[i]? = some u' := ⟨_, List.getElem?_eq_getElem hi⟩
    refine ⟨g, 0, u', rfl, ?_, (h.e i u' r hu' hr).rd⟩
    rw [Nat.zero_add, World.ownsRow.cellAt ho i (by omega), hu']
end
end Go.Proofs.Ytfkplnmhlpabaaa
