/- Plain facts on parts: a part of a part is the part on the states that it consists of. No condition. -/
import Derived.Test.YtiebhalefdpjiaaDoorVv
namespace Go.Proofs.YtiebhalefdpjiaaDoor
set_option linter.unusedVariables false

/-- The states of a list whose indices another list has. -/
def bothI (set inner : List Int) : List Int := inner.filterMap fun i => set[i.toNat]?
theorem bothI_map {set inner : List Int} (h : ∀ i ∈ inner, 0 ≤ i ∧ i < (set.length : Int)) : bothI set inner = inner.map fun i => set[i.toNat]! := by
  unfold bothI
  induction inner with
  | nil => rfl
  | cons i l ih =>
    have hi := h i List.mem_cons_self
    have hl : i.toNat < set.length := by omega
    rw [List.filterMap_cons_some (f := fun (i : Int) => set[i.toNat]?) (b := set[i.toNat]) (List.getElem?_eq_getElem hl), List.map_cons, ih (fun x hx => h x (List.mem_cons_of_mem _ hx)), getElem!_pos set i.toNat hl]
theorem bothI_mem {set inner : List Int} (hs : set.Pairwise (· < ·)) {a : Int} (h : ∀ i ∈ inner, 0 ≤ i ∧ i < (set.length : Int)) : a ∈ bothI set inner ↔ a ∈ set ∧ (set.idxOf a : Int) ∈ inner := by
  unfold bothI
  rw [List.mem_filterMap]
  constructor
  · rintro ⟨i, hi, h1⟩
    have hm := List.mem_of_getElem? h1
    refine ⟨hm, ?_⟩
    rw [idx_of hs h1]
    have := h i hi
    rw [show ((i.toNat : Nat) : Int) = i by omega]
    exact hi
  · rintro ⟨h1, h2⟩
    exact ⟨_, h2, by rw [Int.toNat_natCast]; exact idx_get h1⟩
theorem bothI_asc {set inner : List Int} (hs : set.Pairwise (· < ·)) (hi : inner.Pairwise (· < ·)) (h : ∀ i ∈ inner, 0 ≤ i ∧ i < (set.length : Int)) : (bothI set inner).Pairwise (· < ·) := by
  unfold bothI
  rw [List.pairwise_filterMap]
  refine List.Pairwise.imp_of_mem ?_ hi
  intro i j hi' hj' hij x hx y hy
  have := h i hi'
  have := h j hj'
  exact asc_lt hs hx hy (by omega)
theorem bothI_idx {set inner : List Int} (hs : set.Pairwise (· < ·)) (hi : inner.Pairwise (· < ·)) (h : ∀ i ∈ inner, 0 ≤ i ∧ i < (set.length : Int)) {a : Int} (ha : a ∈ set) (hb : (set.idxOf a : Int) ∈ inner) : (bothI set inner).idxOf a = inner.idxOf (set.idxOf a : Int) := by
  refine idx_of (bothI_asc hs hi h) ?_
  rw [bothI_map h, List.getElem?_map, idx_get hb]
  have hl := idx_lt ha
  show some (set[((set.idxOf a : Nat) : Int).toNat]!) = some a
  rw [Int.toNat_natCast, getElem!_pos set _ hl, List.getElem_idxOf]
/-- A part of a part. -/
theorem part_part {set inner : List Int} {es : List E3} (hs : set.Pairwise (· < ·)) (hi : inner.Pairwise (· < ·)) (h : ∀ i ∈ inner, 0 ≤ i ∧ i < (set.length : Int)) : partE inner (partE set es) = partE (bothI set inner) es := by
  unfold partE
  rw [List.filterMap_filterMap]
  congr 1
  funext e
  by_cases h1 : e.1 ∈ set ∧ e.2.2 ∈ set
  · rw [if_pos h1]
    show (if (set.idxOf e.1 : Int) ∈ inner ∧ (set.idxOf e.2.2 : Int) ∈ inner then some ((inner.idxOf (set.idxOf e.1 : Int) : Int), e.2.1, (inner.idxOf (set.idxOf e.2.2 : Int) : Int)) else none) = _
    by_cases h2 : (set.idxOf e.1 : Int) ∈ inner ∧ (set.idxOf e.2.2 : Int) ∈ inner
    · rw [if_pos h2, if_pos ⟨(bothI_mem hs h).2 ⟨h1.1, h2.1⟩, (bothI_mem hs h).2 ⟨h1.2, h2.2⟩⟩, bothI_idx hs hi h h1.1 h2.1, bothI_idx hs hi h h1.2 h2.2]
    · rw [if_neg h2, if_neg (fun hh => h2 ⟨((bothI_mem hs h).1 hh.1).2, ((bothI_mem hs h).1 hh.2).2⟩)]
  · rw [if_neg h1, if_neg (fun hh => h1 ⟨((bothI_mem hs h).1 hh.1).1, ((bothI_mem hs h).1 hh.2).1⟩)]
    rfl
/-- The states of a part of a part. -/
theorem bothI_sg {n : Nat} {set inner : List Int} (hs : SG (n : Int) set) (hi : SG (set.length : Int) inner) : SG (n : Int) (bothI set inner) :=
  ⟨fun x hx => hs.bd x ((bothI_mem hs.asc hi.bd).1 hx).1, bothI_asc hs.asc hi.asc hi.bd⟩
theorem bothI_len {set inner : List Int} (h : ∀ i ∈ inner, 0 ≤ i ∧ i < (set.length : Int)) : (bothI set inner).length = inner.length := by rw [bothI_map h, List.length_map]
end Go.Proofs.YtiebhalefdpjiaaDoor
