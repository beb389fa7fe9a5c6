/- Plain facts on the period of a graph: the greatest number that divides the lengths of all its closed paths. No condition. Rows of integers that lie in a row: slices of slices. No condition. Plain facts on classes of states that are made finer, until nothing changes. No condition. -/
import Derived.Test.YtbgfllohedhmaaaQ10
import Derived.Test.YtbgfllohedhmaaaQ01

namespace Go.Proofs.Ytbgfllohedhmaaa
set_option linter.unusedVariables false

/-- The greatest common divisor of what edges differ by. -/
def perF (d : Nat → Int) (es : List E3) : Nat := es.foldl (fun p e => Int.gcd (p : Int) (d e.1.toNat + 1 - d e.2.2.toNat)) 0
def perI (d : Nat → Int) (es : List E3) (p : Nat) : Nat := es.foldl (fun p e => Int.gcd (p : Int) (d e.1.toNat + 1 - d e.2.2.toNat)) p
theorem perI_dvd (d : Nat → Int) : ∀ (es : List E3) (p : Nat), perI d es p ∣ p ∧ ∀ e ∈ es, (perI d es p : Int) ∣ d e.1.toNat + 1 - d e.2.2.toNat
  | [], p => ⟨Nat.dvd_refl _, fun e he => (by cases he)⟩
  | e :: es, p => by
    obtain ⟨h1, h2⟩ := perI_dvd d es (Int.gcd (p : Int) (d e.1.toNat + 1 - d e.2.2.toNat))
    have h3 : perI d (e :: es) p = perI d es (Int.gcd (p : Int) (d e.1.toNat + 1 - d e.2.2.toNat)) := rfl
    rw [h3]
    refine ⟨Nat.dvd_trans h1 ?_, fun x hx => ?_⟩
    · exact Int.natCast_dvd_natCast.1 (Int.gcd_dvd_left _ _)
    · rcases List.mem_cons.1 hx with rfl | hx
      · exact Int.dvd_trans (Int.natCast_dvd_natCast.2 h1) (Int.gcd_dvd_right _ _)
      · exact h2 x hx
theorem perI_great (d : Nat → Int) (q : Nat) : ∀ (es : List E3) (p : Nat), q ∣ p → (∀ e ∈ es, (q : Int) ∣ d e.1.toNat + 1 - d e.2.2.toNat) → q ∣ perI d es p
  | [], p, h, _ => h
  | e :: es, p, h, h2 => perI_great d q es _ (Int.natCast_dvd_natCast.1 (Int.dvd_coe_gcd (Int.natCast_dvd_natCast.2 h) (h2 e List.mem_cons_self))) (fun x hx => h2 x (List.mem_cons_of_mem _ hx))
theorem perF_dvd {d : Nat → Int} {es : List E3} {e : E3} (he : e ∈ es) : (perF d es : Int) ∣ d e.1.toNat + 1 - d e.2.2.toNat := (perI_dvd d es 0).2 e he
theorem perF_great {d : Nat → Int} {es : List E3} {q : Nat} (h : ∀ e ∈ es, (q : Int) ∣ d e.1.toNat + 1 - d e.2.2.toNat) : q ∣ perF d es := perI_great d q es 0 (Nat.dvd_zero q) h
theorem perF_path {d : Nat → Int} {es : List E3} {s x : Int} {k : Nat} (h : Pth es s k x) : (perF d es : Int) ∣ d s.toNat + k - d x.toNat := by
  induction h with
  | nil => exact ⟨0, by simp⟩
  | @step k e h he ih =>
    have h1 := perF_dvd (d := d) he
    obtain ⟨a, ha⟩ := ih
    obtain ⟨b, hb⟩ := h1
    refine ⟨a + b, ?_⟩
    rw [Int.mul_add, ← ha, ← hb]
    push_cast
    omega
/-- The numbers are lengths of paths from the state 0. -/
def Pot (es : List E3) (n : Nat) (d : Nat → Int) : Prop := ∀ t, t < n → ∃ k : Nat, Pth es 0 k (t : Int) ∧ d t = k
section
variable {L : Int} {n : Nat} {es : List E3} {d d' : Nat → Int}
theorem lenF_pot (h : ∀ e ∈ es, okE L (n : Int) e = true) (hc : ∀ s t, s < n → t < n → Rc es (s : Int) (t : Int)) : Pot es n (lenF es n 0) := by
  intro t ht
  obtain ⟨k, hk, he⟩ := lenF_path h ((lenF_found h (show 0 < n by omega) ht).2 (hc 0 t (by omega) ht))
  exact ⟨k, hk, he⟩
/-- The period divides the length of each closed path. -/
theorem per_closed {s : Int} {k : Nat} (h : Pth es s k s) : perF d es ∣ k := by
  have := perF_path (d := d) h
  have h2 : d s.toNat + (k : Int) - d s.toNat = (k : Int) := by omega
  rw [h2] at this
  exact Int.natCast_dvd_natCast.1 this
/-- What divides the lengths of all closed paths from 0 divides the period. -/
theorem per_most (h : ∀ e ∈ es, okE L (n : Int) e = true) (hc : ∀ s t, s < n → t < n → Rc es (s : Int) (t : Int)) (hd : Pot es n d) {q : Nat} (hq : ∀ k, Pth es 0 k 0 → q ∣ k) : q ∣ perF d es := by
  refine perF_great fun e he => ?_
  obtain ⟨a1, a2, a3, a4⟩ := okE_st (h e he)
  obtain ⟨i, hi, hi2⟩ := hd e.1.toNat a1
  obtain ⟨j, hj, hj2⟩ := hd e.2.2.toNat a2
  obtain ⟨b, hb⟩ := hc e.2.2.toNat 0 a2 (by omega)
  have h1 : Pth es 0 (i + 1 + b) 0 := (Pth.step (by rw [← a3] at hi; exact hi) he).trans (by rw [← a4] at hb; exact hb)
  have h2 : Pth es 0 (j + b) 0 := hj.trans hb
  obtain ⟨x, hx⟩ := hq _ h1
  obtain ⟨y, hy⟩ := hq _ h2
  rw [hi2, hj2]
  refine ⟨(x : Int) - y, ?_⟩
  rw [Int.mul_sub]
  have e1 : (q : Int) * (x : Int) = ((i + 1 + b : Nat) : Int) := by rw [hx]; push_cast; rfl
  have e2 : (q : Int) * (y : Int) = ((j + b : Nat) : Int) := by rw [hy]; push_cast; rfl
  rw [e1, e2]; omega
theorem per_iff (h : ∀ e ∈ es, okE L (n : Int) e = true) (hc : ∀ s t, s < n → t < n → Rc es (s : Int) (t : Int)) (hd : Pot es n d) (q : Nat) : q ∣ perF d es ↔ ∀ k, Pth es 0 k 0 → q ∣ k :=
  ⟨fun h1 k hk => Nat.dvd_trans h1 (per_closed hk), per_most h hc hd⟩
theorem per_same (h : ∀ e ∈ es, okE L (n : Int) e = true) (hc : ∀ s t, s < n → t < n → Rc es (s : Int) (t : Int)) (hd : Pot es n d) (hd' : Pot es n d') : perF d es = perF d' es :=
  Nat.dvd_antisymm ((per_iff h hc hd' _).2 fun k hk => per_closed hk) ((per_iff h hc hd _).2 fun k hk => per_closed hk)
/-- Two lengths of paths to a state differ by a multiple of the period. -/
theorem per_mod (hc : ∀ s t, s < n → t < n → Rc es (s : Int) (t : Int)) (hd : Pot es n d) (hd' : Pot es n d') {t : Nat} (ht : t < n) (p : Nat) (hp : ∀ k, Pth es 0 k 0 → p ∣ k) : d t % (p : Int) = d' t % (p : Int) := by
  obtain ⟨i, hi, hi2⟩ := hd t ht
  obtain ⟨j, hj, hj2⟩ := hd' t ht
  obtain ⟨b, hb⟩ := hc t 0 ht (by omega)
  obtain ⟨x, hx⟩ := hp _ (hi.trans hb)
  obtain ⟨y, hy⟩ := hp _ (hj.trans hb)
  rw [hi2, hj2]
  rw [Int.emod_eq_emod_iff_emod_sub_eq_zero]
  refine Int.emod_eq_zero_of_dvd ⟨(x : Int) - y, ?_⟩
  rw [Int.mul_sub]
  have e1 : (p : Int) * (x : Int) = ((i + b : Nat) : Int) := by rw [hx]; push_cast; rfl
  have e2 : (p : Int) * (y : Int) = ((j + b : Nat) : Int) := by rw [hy]; push_cast; rfl
  rw [e1, e2]; omega
theorem per_pos (h : ∀ e ∈ es, okE L (n : Int) e = true) (hc : ∀ s t, s < n → t < n → Rc es (s : Int) (t : Int)) (h0 : es ≠ []) : 1 ≤ perF d es := by
  obtain ⟨e, he⟩ : ∃ e, e ∈ es := by
    cases es with
    | nil => exact absurd rfl h0
    | cons e es => exact ⟨e, List.mem_cons_self⟩
  obtain ⟨a1, a2, a3, a4⟩ := okE_st (h e he)
  obtain ⟨b, hb⟩ := hc e.2.2.toNat e.1.toNat a2 a1
  rw [← a3, ← a4] at hb
  have := per_closed (d := d) (hb.front he)
  rcases Nat.eq_zero_or_pos (perF d es) with h1 | h1
  · rw [h1] at this; have := Nat.eq_zero_of_zero_dvd this; omega
  · exact h1
end
/-! ### Go's greatest common divisor -/
theorem gcd_tmod (a b : Int) : Int.gcd b (a.tmod b) = Int.gcd a b := by
  unfold Int.gcd
  rw [Int.natAbs_tmod, Nat.gcd_comm b.natAbs, ← Nat.gcd_rec, Nat.gcd_comm]
theorem gcd_end (a : Int) : ((Int.gcd a 0 : Nat) : Int) = max a (-a) := by
  rw [Int.gcd_zero_right]; omega
theorem gcd_le {p : Nat} {x : Int} {m : Nat} (hp : p ≤ m) (hx : x.natAbs ≤ m) : Int.gcd (p : Int) x ≤ m := by
  rcases Nat.eq_zero_or_pos p with h | h
  · subst h
    simp; exact hx
  · exact Nat.le_trans (Nat.le_of_dvd h (Int.natCast_dvd_natCast.1 (Int.gcd_dvd_left _ _))) hp
end Go.Proofs.Ytbgfllohedhmaaa

namespace Go.Proofs.Ytbgfllohedhmaaa
open Go.RowKit
set_option linter.unusedSimpArgs false
set_option linter.unusedVariables false

def upd {α : Type} (f : Nat → α) (i : Nat) (x : α) : Nat → α := fun j => if j = i then x else f j
/-- n rows of integers, each in a block of its own above b, their slices in the block b. -/
structure RowsI (b n : Nat) (vs : Nat → Value) (rows : Nat → List Int) (W : World) : Prop where
  row : W.rowIs b 27 n vs
  own : ∀ i, i < n → IntsAt W (b + 1) (vs i) (rows i)
  apart : ∀ i j, i < n → j < n → i ≠ j → Dj (vs i) (vs j)
section
variable {b n : Nat} {vs vs' : Nat → Value} {rows rows' : Nat → List Int} {W W' : World}
theorem RowsI.keep (h : RowsI b n vs rows W) (hb : Below W.heap.size W W') : RowsI b n vs rows W' :=
  ⟨World.rowIs.of_block h.row (hb.block b (World.rowIs.lt h.row)), fun i hi => (h.own i hi).keep hb, h.apart⟩
theorem RowsI.lt (h : RowsI b n vs rows W) : b < W.heap.size := World.rowIs.lt h.row
theorem RowsI.cell (h : RowsI b n vs rows W) {i : Nat} (hi : i < n) : W.cell? ⟨b, i, none⟩ = some (vs i) := World.rowIs.cell h.row hi
theorem RowsI.frozen (h : RowsI b n vs rows W) (i : Nat) : W.frozen? ⟨b, i, none⟩ = false := World.rowIs.frozen h.row i
theorem RowsI.congr (h : RowsI b n vs rows W) (e1 : ∀ i, i < n → vs i = vs' i) (e2 : ∀ i, i < n → rows i = rows' i) : RowsI b n vs' rows' W :=
  ⟨World.rowIs.congr h.row e1, fun i hi => by rw [← e1 i hi, ← e2 i hi]; exact h.own i hi, fun i j hi hj hij => by rw [← e1 i hi, ← e1 j hj]; exact h.apart i j hi hj hij⟩
theorem RowsI.made (w : World) (n : Nat) : RowsI w.heap.size n (fun _ => .slice none 0 0) (fun _ => []) (w.alloc (.cells (madeCells #[.slice none 0 0] n) 27)) :=
  ⟨World.rowIs_made w _ n _, fun i hi => ints_nil _ _, fun i j _ _ _ => Dj.nil _⟩
/-- A row that has been grown, and stored. -/
theorem RowsI.app (h : RowsI b n vs rows W) {i : Nat} (hi : i < n) {o : Obj} (hg : (W.alloc o).grownBy W' (vs i).ownBlock) {s' : Value} {r' : List Int} (hr : IntsAt W' (b + 1) s' r')
    (hv : s'.ownBlock = (vs i).ownBlock ∨ s'.ownBlock = some (W.heap.size + 1)) : RowsI b n (upd vs i s') (upd rows i r') (W'.setCell ⟨b, i, none⟩ s') := by
  have hlt := h.lt
  have hbk : (vs i).ownBlock ≠ some b := fun e => by have := ((h.own i hi).lt b e).1; omega
  have hrow : W'.rowIs b 27 n vs := World.rowIs.of_block h.row ((hg.block b (by rw [World.size_alloc]; omega) (fun e => hbk e.symm)).trans (Below.heap_alloc _ _ _ hlt))
  refine ⟨World.rowIs.congr (World.rowIs.set hrow i s') (fun j _ => by unfold upd; dsimp only), fun j hj => ?_, fun j k hj hk hjk => ?_⟩
  · unfold upd
    by_cases hji : j = i
    · rw [if_pos hji, if_pos hji]
      exact ownsRow_setCell_below hr (by exact Nat.lt_succ_self _) _
    · rw [if_neg hji, if_neg hji]
      have h1 := (h.own j hj).keep (below1 W o)
      have h2 : IntsAt W' (b + 1) (vs j) (rows j) := World.ownsRow.kept h1 hg (h.apart j i hj hi hji).or
      exact ownsRow_setCell_below h2 (by exact Nat.lt_succ_self _) _
  · unfold upd
    have hs : ∀ q, q < n → q ≠ i → Dj s' (vs q) := fun q hq hqi k h1 h2 => by
      rcases hv with hv | hv
      · exact h.apart i q hi hq (Ne.symm hqi) k (hv ▸ h1) h2
      · rw [hv] at h1
        injection h1 with h1
        have := ((h.own q hq).lt k h2).2
        omega
    by_cases hji : j = i
    · by_cases hki : k = i
      · exact absurd (hji.trans hki.symm) hjk
      · rw [if_pos hji, if_neg hki]; exact hs k hk hki
    · by_cases hki : k = i
      · rw [if_neg hji, if_pos hki]; exact (hs j hj hji).symm
      · rw [if_neg hji, if_neg hki]; exact h.apart j k hj hk hjk
end
/-- Rows of integers that can be read. -/
def RowsRd (W : World) (v : Value) (rows : List (List Int)) : Prop := ∃ a c, v = .slice a rows.length c ∧ ∀ (i : Nat) (r : List Int), rows[i]? = some r → ∃ b off u, a = some ⟨b, off, none⟩ ∧ W.cell? ⟨b, off + i, none⟩ = some u ∧ IntsRd W u r
theorem RowsRd.keep {W W' : World} {v : Value} {rows : List (List Int)} (h : RowsRd W v rows) (hb : Below W.heap.size W W') : RowsRd W' v rows := by
  obtain ⟨a, c, rfl, h1⟩ := h
  refine ⟨a, c, rfl, fun i r hr => ?_⟩
  obtain ⟨b, off, u, rfl, k1, k2⟩ := h1 i r hr
  exact ⟨b, off, u, rfl, cell_keep k1 hb, k2.keep hb⟩
theorem RowsRd.form {W : World} {v : Value} {rows : List (List Int)} (h : RowsRd W v rows) : ∃ a c, v = .slice a rows.length c := by
  obtain ⟨a, c, hv, -⟩ := h; exact ⟨a, c, hv⟩
theorem RowsRd.at {W : World} {v : Value} {rows : List (List Int)} (h : RowsRd W v rows) {i : Nat} {r : List Int} (hr : rows[i]? = some r) : ∃ b off c u, v = .slice (some ⟨b, off, none⟩) rows.length c ∧ W.cell? ⟨b, off + i, none⟩ = some u ∧ IntsRd W u r := by
  obtain ⟨a, c, rfl, h1⟩ := h
  obtain ⟨b, off, u, rfl, k1, k2⟩ := h1 i r hr
  exact ⟨b, off, c, u, rfl, k1, k2⟩
theorem rows_rd {b n : Nat} {vs : Nat → Value} {rows : Nat → List Int} {W : World} (h : RowsI b n vs rows W) (c : Nat) : RowsRd W (.slice (some ⟨b, 0, none⟩) n c) ((List.range n).map rows) := by
  refine ⟨some ⟨b, 0, none⟩, c, by rw [List.length_map, List.length_range], fun i r hr => ?_⟩
  rw [List.getElem?_map] at hr
  by_cases hi : i < n
  · rw [List.getElem?_range hi] at hr
    simp at hr
    subst hr
    exact ⟨b, 0, vs i, rfl, by rw [Nat.zero_add]; exact h.cell hi, (h.own i hi).rd⟩
  · rw [List.getElem?_eq_none (by rw [List.length_range]; omega)] at hr
    cases hr
end Go.Proofs.Ytbgfllohedhmaaa

namespace Go.Proofs.Ytbgfllohedhmaaa
set_option linter.unusedVariables false
set_option linter.unusedSectionVars false

section
variable {α β : Type} [DecidableEq α] [DecidableEq β]
/-- The different elements, in the order in which they come first. -/
def firsts (l : List α) : List α := l.foldl (fun K p => if p ∈ K then K else K ++ [p]) []
theorem firsts_snoc (l : List α) (x : α) : firsts (l ++ [x]) = if x ∈ firsts l then firsts l else firsts l ++ [x] := by
  unfold firsts; rw [List.foldl_append]; rfl
theorem firsts_mem (l : List α) : ∀ x, x ∈ firsts l ↔ x ∈ l := by
  have h : ∀ n (l : List α), l.length = n → ∀ x, x ∈ firsts l ↔ x ∈ l := fun n => by
    induction n with
    | zero =>
      intro l hl x
      rw [List.length_eq_zero_iff] at hl
      subst hl
      exact Iff.rfl
    | succ n ih =>
      intro l hl x
      have hne : l ≠ [] := fun e => by subst e; cases hl
      rw [← List.dropLast_concat_getLast hne, firsts_snoc]
      have ih2 := ih l.dropLast (by rw [List.length_dropLast]; omega)
      split
      · rename_i h
        rw [ih2 x, List.mem_append, List.mem_singleton]
        constructor
        · exact .inl
        · rintro (h3 | rfl)
          · exact h3
          · exact (ih2 _).1 h
      · rw [List.mem_append, List.mem_append, ih2 x]
  exact h _ l rfl
theorem firsts_take {l : List α} {i : Nat} {x : α} (h : l[i]? = some x) : firsts (l.take (i + 1)) = if x ∈ firsts (l.take i) then firsts (l.take i) else firsts (l.take i) ++ [x] := by
  rw [List.take_add_one, h]
  exact firsts_snoc _ _
theorem mem_take_iff {l : List α} {i : Nat} {x : α} : x ∈ l.take i ↔ ∃ j, j < i ∧ l[j]? = some x := by
  rw [List.mem_iff_getElem?]
  constructor
  · rintro ⟨j, h⟩
    rw [List.getElem?_take] at h
    split at h
    · exact ⟨j, by assumption, h⟩
    · cases h
  · rintro ⟨j, hj, h⟩
    exact ⟨j, by rw [List.getElem?_take, if_pos hj]; exact h⟩
/-- Numbers in the order in which elements come first. -/
def canon (l : List α) : List Nat := l.map (firsts l).idxOf
theorem canon_len (l : List α) : (canon l).length = l.length := List.length_map ..
theorem canon_at {l : List α} {i : Nat} {x : α} (h : l[i]? = some x) : (canon l)[i]? = some ((firsts l).idxOf x) := by
  unfold canon; rw [List.getElem?_map, h]; rfl
theorem idxInj {l : List α} {x y : α} (hx : x ∈ l) (h : l.idxOf x = l.idxOf y) : x = y := by
  have h1 : l.idxOf x < l.length := List.idxOf_lt_length_iff.2 hx
  have h2 : l[l.idxOf x] = x := List.getElem_idxOf h1
  have h3 : l.idxOf y < l.length := by omega
  have h4 : l[l.idxOf y] = y := List.getElem_idxOf h3
  rw [← h2, ← h4]
  congr 1
def ixA {α : Type} [DecidableEq α] (K : List α) (x : α) : Nat := K.idxOf x
theorem ixA_old {K : List α} {x p : α} (h : p ∈ K) : ixA (K ++ [x]) p = ixA K p := by unfold ixA; rw [List.idxOf_append, if_pos h]
theorem ixA_new {K : List α} {p : α} (h : p ∉ K) : ixA (K ++ [p]) p = K.length := by unfold ixA; rw [List.idxOf_append, if_neg h]; simp
/-- The same pairs of places have the same elements. -/
def KerLe (l : List α) (m : List β) : Prop := ∀ i j, i < l.length → j < l.length → l[i]? = l[j]? → m[i]? = m[j]?
theorem canon_ker (l : List α) : KerLe (canon l) l ∧ KerLe l (canon l) := by
  constructor
  · intro i j hi hj h
    rw [canon_len] at hi hj
    have hx := List.getElem?_eq_getElem hi
    have hy := List.getElem?_eq_getElem hj
    rw [canon_at hx, canon_at hy] at h
    injection h with h
    rw [hx, hy, idxInj ((firsts_mem l _).2 (List.getElem_mem hi)) h]
  · intro i j hi hj h
    have hx := List.getElem?_eq_getElem hi
    have hy := List.getElem?_eq_getElem hj
    rw [canon_at hx, canon_at hy]
    rw [hx, hy] at h
    injection h with h
    rw [h]
theorem firsts_pre (l : List α) (i k : Nat) : firsts (l.take i) <+: firsts (l.take (i + k)) := by
  induction k with
  | zero => exact List.prefix_refl _
  | succ k ih =>
    rw [← Nat.add_assoc]
    refine List.IsPrefix.trans ih ?_
    cases hx : l[i + k]? with
    | none => rw [List.take_add_one, hx, Option.toList_none, List.append_nil]; exact List.prefix_refl _
    | some x =>
      rw [firsts_take hx]
      split
      · exact List.prefix_refl _
      · exact List.prefix_append _ _
theorem firsts_preAll (l : List α) (i : Nat) : firsts (l.take i) <+: firsts l := by
  have := firsts_pre l i l.length
  rwa [List.take_of_length_le (show l.length ≤ i + l.length by omega)] at this
theorem idx_pre {l m : List α} {x : α} (h : l <+: m) (hx : x ∈ l) : m.idxOf x = l.idxOf x := by
  obtain ⟨t, rfl⟩ := h
  rw [List.idxOf_append, if_pos hx]
/-- The number of an element, told at the first place where it is known. -/
theorem canon_step {l : List α} {i : Nat} {x : α} (h : l[i]? = some x) : (firsts l).idxOf x = (firsts (l.take (i + 1))).idxOf x := by
  refine idx_pre (firsts_preAll l (i + 1)) ?_
  rw [firsts_mem, mem_take_iff]
  exact ⟨i, by omega, h⟩
theorem canon_old {l : List α} {i : Nat} {x : α} (h : l[i]? = some x) (h2 : x ∈ firsts (l.take i)) : (firsts l).idxOf x = (firsts (l.take i)).idxOf x := idx_pre (firsts_preAll l i) h2
theorem canon_new {l : List α} {i : Nat} {x : α} (h : l[i]? = some x) (h2 : x ∉ firsts (l.take i)) : (firsts l).idxOf x = (firsts (l.take i)).length := by
  rw [canon_step h, firsts_take h, if_neg h2, List.idxOf_append, if_neg h2]; simp
/-- Where one list is finer than another one, its different elements are at least as many; if as many, it is not finer. -/
theorem ker_count {l : List α} {m : List β} (hl : l.length = m.length) (h : KerLe l m) : ∀ i, i ≤ l.length → (firsts (m.take i)).length ≤ (firsts (l.take i)).length ∧
    ((firsts (m.take i)).length = (firsts (l.take i)).length → ∀ j k, j < i → k < i → m[j]? = m[k]? → l[j]? = l[k]?)
  | 0, _ => ⟨by simp [firsts], fun _ j k hj => absurd hj (Nat.not_lt_zero _)⟩
  | i + 1, hi => by
    obtain ⟨ih1, ih2⟩ := ker_count hl h i (by omega)
    have hx := List.getElem?_eq_getElem (show i < l.length by omega)
    have hy := List.getElem?_eq_getElem (show i < m.length by omega)
    generalize l[i]'(by omega) = x at hx
    generalize m[i]'(by omega) = y at hy
    rw [firsts_take hx, firsts_take hy]
    by_cases h1 : x ∈ firsts (l.take i)
    · have h2 : y ∈ firsts (m.take i) := by
        rw [firsts_mem, mem_take_iff] at h1 ⊢
        obtain ⟨j, hj, e⟩ := h1
        refine ⟨j, hj, ?_⟩
        rw [← hy]
        exact h j i (by omega) (by omega) (e.trans hx.symm)
      rw [if_pos h1, if_pos h2]
      refine ⟨ih1, fun e j k hj hk hjk => ?_⟩
      have ih3 := ih2 e
      rw [firsts_mem, mem_take_iff] at h1
      obtain ⟨j0, hj0, e0⟩ := h1
      have hi0 : l[i]? = l[j0]? := hx.trans e0.symm
      have hm0 : m[i]? = m[j0]? := h i j0 (by omega) (by omega) hi0
      by_cases hji : j = i <;> by_cases hki : k = i
      · rw [hji, hki]
      · subst hji
        rw [hi0]; exact ih3 j0 k hj0 (by omega) (hm0.symm.trans hjk)
      · subst hki
        rw [hi0]; exact ih3 j j0 (by omega) hj0 (hjk.trans hm0)
      · exact ih3 j k (by omega) (by omega) hjk
    · rw [if_neg h1, List.length_append, List.length_singleton]
      by_cases h2 : y ∈ firsts (m.take i)
      · rw [if_pos h2]
        exact ⟨by omega, fun e => by omega⟩
      · rw [if_neg h2, List.length_append, List.length_singleton]
        refine ⟨by omega, fun e j k hj hk hjk => ?_⟩
        have ih3 := ih2 (by omega)
        have hno : ∀ j, j < i → m[j]? ≠ m[i]? := fun j hj e => h2 (by rw [firsts_mem, mem_take_iff]; exact ⟨j, hj, e.trans hy⟩)
        by_cases hji : j = i <;> by_cases hki : k = i
        · rw [hji, hki]
        · subst hji; exact absurd hjk.symm (hno k (by omega))
        · subst hki; exact absurd hjk (hno j (by omega))
        · exact ih3 j k (by omega) (by omega) hjk
theorem firsts_le (l : List α) : (firsts l).length ≤ l.length := by
  have h : ∀ i, i ≤ l.length → (firsts (l.take i)).length ≤ i := fun i => by
    induction i with
    | zero => intro _; simp [firsts]
    | succ i ih =>
      intro hi
      rw [firsts_take (List.getElem?_eq_getElem (show i < l.length by omega))]
      have := ih (by omega)
      split
      · omega
      · rw [List.length_append, List.length_singleton]; omega
  have := h l.length (Nat.le_refl _)
  rwa [List.take_length] at this
theorem canon_le (l : List α) : ∀ x ∈ canon l, x ≤ l.length := fun x hx => by
  unfold canon at hx
  obtain ⟨p, hp, rfl⟩ := List.mem_map.1 hx
  have h1 := List.idxOf_lt_length_iff.2 ((firsts_mem l p).2 hp)
  have h2 := firsts_le l
  omega
/-- Lists that tell the same places apart have the same numbers. -/
theorem canon_same {l : List α} {m : List β} (hl : l.length = m.length) (h1 : KerLe l m) (h2 : KerLe m l) : canon l = canon m := by
  have key : ∀ i, i ≤ l.length → (firsts (l.take i)).length = (firsts (m.take i)).length := fun i hi => by
    have a := (ker_count hl h1 i hi).1
    have b := (ker_count hl.symm h2 i (by omega)).1
    omega
  refine List.ext_getElem? fun i => ?_
  by_cases hi : i < l.length
  · have hx := List.getElem?_eq_getElem hi
    have hy := List.getElem?_eq_getElem (show i < m.length by omega)
    generalize l[i]'(by omega) = x at hx
    generalize m[i]'(by omega) = y at hy
    rw [canon_at hx, canon_at hy]
    have hst : ∀ (n i : Nat) (x : α) (y : β), i < n → l[i]? = some x → m[i]? = some y → (firsts l).idxOf x = (firsts m).idxOf y := fun n => by
      induction n with
      | zero => intro i x y hi; omega
      | succ n ih =>
        intro i x y hi hx hy
        have hil := (List.getElem?_eq_some_iff.1 hx).1
        by_cases h3 : x ∈ firsts (l.take i)
        · rw [firsts_mem, mem_take_iff] at h3
          obtain ⟨j, hj, e⟩ := h3
          exact ih j x y (by omega) e ((h1 j i (by omega) hil (e.trans hx.symm)).trans hy)
        · have h4 : y ∉ firsts (m.take i) := fun h4 => h3 (by
            rw [firsts_mem, mem_take_iff] at h4 ⊢
            obtain ⟨j, hj, e⟩ := h4
            exact ⟨j, hj, (h2 j i (by omega) (by omega) (e.trans hy.symm)).trans hx⟩)
          rw [canon_new hx h3, canon_new hy h4, key i (by omega)]
    rw [hst (i + 1) i x y (by omega) hx hy]
  · rw [List.getElem?_eq_none (by rw [canon_len]; omega), List.getElem?_eq_none (by rw [canon_len]; omega)]
theorem canon_nodup {l : List α} (h : l.Nodup) : canon l = List.range l.length := by
  have hf : ∀ i, i ≤ l.length → firsts (l.take i) = l.take i := fun i => by
    induction i with
    | zero => intro _; simp [firsts]
    | succ i ih =>
      intro hi
      have hx := List.getElem?_eq_getElem (show i < l.length by omega)
      generalize l[i]'(by omega) = x at hx
      rw [firsts_take hx, ih (by omega), if_neg, List.take_add_one, hx]
      · rfl
      · rw [mem_take_iff]
        rintro ⟨j, hj, e⟩
        have := (List.getElem?_inj (by omega) h).1 (e.trans hx.symm)
        omega
  refine List.ext_getElem? fun i => ?_
  by_cases hi : i < l.length
  · have hx := List.getElem?_eq_getElem hi
    generalize l[i]'(by omega) = x at hx
    have h2 : x ∉ firsts (l.take i) := by
      rw [firsts_mem, mem_take_iff]
      rintro ⟨j, hj, e⟩
      have := (List.getElem?_inj (by omega) h).1 (e.trans hx.symm)
      omega
    rw [canon_at hx, canon_new hx h2, hf i (by omega), List.length_take, List.getElem?_range hi]
    congr 1; omega
  · rw [List.getElem?_eq_none (by rw [canon_len]; omega), List.getElem?_eq_none (by rw [List.length_range]; omega)]
end
/-- Classes that are divided by where a label leads. -/
def pairsC (m : Nat → Nat → Nat) (c : List Nat) (l : Nat) : List (Nat × Nat) := (List.range c.length).map fun s => (c.getD s 0, c.getD (m s l) 0)
def splitC (m : Nat → Nat → Nat) (c : List Nat) (l : Nat) : List Nat := canon (pairsC m c l)
def roundC (m : Nat → Nat → Nat) (La : Nat) (c : List Nat) : List Nat := (List.range La).foldl (splitC m) c
theorem pairsC_len (m : Nat → Nat → Nat) (c : List Nat) (l : Nat) : (pairsC m c l).length = c.length := by unfold pairsC; rw [List.length_map, List.length_range]
theorem pairsC_at {m : Nat → Nat → Nat} {c : List Nat} {l s : Nat} (h : s < c.length) : (pairsC m c l)[s]? = some (c.getD s 0, c.getD (m s l) 0) := by
  unfold pairsC; rw [List.getElem?_map, List.getElem?_range h]; rfl
theorem splitC_len (m : Nat → Nat → Nat) (c : List Nat) (l : Nat) : (splitC m c l).length = c.length := by unfold splitC; rw [canon_len, pairsC_len]
theorem getD_opt {c : List Nat} {s : Nat} (h : s < c.length) : c[s]? = some (c.getD s 0) := by
  rw [List.getD_eq_getElem?_getD, List.getElem?_eq_getElem h]; rfl
theorem splitC_iff {m : Nat → Nat → Nat} {c : List Nat} {l s t : Nat} (hs : s < c.length) (ht : t < c.length) :
    (splitC m c l).getD s 0 = (splitC m c l).getD t 0 ↔ c.getD s 0 = c.getD t 0 ∧ c.getD (m s l) 0 = c.getD (m t l) 0 := by
  have hl := splitC_len m c l
  have h1 := getD_opt (c := splitC m c l) (s := s) (by omega)
  have h2 := getD_opt (c := splitC m c l) (s := t) (by omega)
  have k := canon_ker (pairsC m c l)
  constructor
  · intro e
    have h3 := k.1 s t (by rw [canon_len, pairsC_len]; omega) (by rw [canon_len, pairsC_len]; omega) (by show (splitC m c l)[s]? = (splitC m c l)[t]?; rw [h1, h2, e])
    rw [pairsC_at hs, pairsC_at ht] at h3
    injection h3 with h3
    injection h3 with h3 h4
    exact ⟨h3, h4⟩
  · rintro ⟨e1, e2⟩
    have h3 : (splitC m c l)[s]? = (splitC m c l)[t]? := k.2 s t (by rw [pairsC_len]; omega) (by rw [pairsC_len]; omega) (by rw [pairsC_at hs, pairsC_at ht, e1, e2])
    rw [h1, h2] at h3
    injection h3
theorem upC_len (m : Nat → Nat → Nat) (c : List Nat) : ∀ k, ((List.range k).foldl (splitC m) c).length = c.length
  | 0 => rfl
  | k + 1 => by rw [List.range_succ, List.foldl_append]; show (splitC m _ _).length = _; rw [splitC_len, upC_len]
theorem roundC_len (m : Nat → Nat → Nat) (La : Nat) (c : List Nat) : (roundC m La c).length = c.length := upC_len m c La
theorem upC_fine (m : Nat → Nat → Nat) (c : List Nat) {s t : Nat} (hs : s < c.length) (ht : t < c.length) (j : Nat) : ∀ k, ((List.range (j + k)).foldl (splitC m) c).getD s 0 = ((List.range (j + k)).foldl (splitC m) c).getD t 0 →
    ((List.range j).foldl (splitC m) c).getD s 0 = ((List.range j).foldl (splitC m) c).getD t 0
  | 0, h => h
  | k + 1, h => by
    rw [← Nat.add_assoc, List.range_succ, List.foldl_append] at h
    exact upC_fine m c hs ht j k ((splitC_iff (by rw [upC_len]; exact hs) (by rw [upC_len]; exact ht)).1 h).1
theorem roundC_fine {m : Nat → Nat → Nat} {La : Nat} {c : List Nat} {s t : Nat} (hs : s < c.length) (ht : t < c.length) (h : (roundC m La c).getD s 0 = (roundC m La c).getD t 0) : c.getD s 0 = c.getD t 0 := by
  unfold roundC at h
  rw [← Nat.zero_add La] at h
  exact upC_fine m c hs ht 0 La h
/-- A round that changes nothing leaves classes that no label divides. -/
theorem roundC_stable {m : Nat → Nat → Nat} {La : Nat} {c : List Nat} (hm : ∀ s l, s < c.length → m s l < c.length) (h : roundC m La c = c) {s t l : Nat} (hs : s < c.length) (ht : t < c.length) (hl : l < La) (e : c.getD s 0 = c.getD t 0) : c.getD (m s l) 0 = c.getD (m t l) 0 := by
  have h1 : (roundC m La c).getD s 0 = (roundC m La c).getD t 0 := by rw [h]; exact e
  unfold roundC at h1
  have e2 : La = (l + 1) + (La - (l + 1)) := by omega
  rw [e2] at h1
  have h2 := upC_fine m c hs ht (l + 1) _ h1
  rw [List.range_succ, List.foldl_append] at h2
  have h3 := ((splitC_iff (m := m) (c := (List.range l).foldl (splitC m) c) (l := l) (by rw [upC_len]; exact hs) (by rw [upC_len]; exact ht)).1 h2).2
  rw [← Nat.zero_add l] at h3
  have := upC_fine m c (hm s l hs) (hm t l ht) 0 l (by rw [Nat.zero_add] at h3 ⊢; exact h3)
  exact this
/-- What rounds do not tell apart that no list of labels tells apart. -/
theorem upC_coarse {m : Nat → Nat → Nat} {c : List Nat} {La : Nat} {E : Nat → Nat → Prop} (hE : ∀ s t, E s t → s < c.length ∧ t < c.length) (hst : ∀ s t l, E s t → l < La → E (m s l) (m t l)) (h0 : ∀ s t, E s t → c.getD s 0 = c.getD t 0) : ∀ k, k ≤ La → ∀ s t, E s t → ((List.range k).foldl (splitC m) c).getD s 0 = ((List.range k).foldl (splitC m) c).getD t 0
  | 0, _, s, t, h => h0 s t h
  | k + 1, hk, s, t, h => by
    rw [List.range_succ, List.foldl_append]
    exact (splitC_iff (by rw [upC_len]; exact (hE s t h).1) (by rw [upC_len]; exact (hE s t h).2)).2 ⟨upC_coarse hE hst h0 k (by omega) s t h, upC_coarse hE hst h0 k (by omega) _ _ (hst s t k h (by omega))⟩
/-- Classes behind k rounds. -/
def rndC (m : Nat → Nat → Nat) (La : Nat) (c : List Nat) : Nat → List Nat
  | 0 => c
  | k + 1 => roundC m La (rndC m La c k)
theorem rndC_len (m : Nat → Nat → Nat) (La : Nat) (c : List Nat) : ∀ k, (rndC m La c k).length = c.length
  | 0 => rfl
  | k + 1 => by show (roundC m La _).length = _; rw [roundC_len, rndC_len]
theorem canon_canon {α : Type} [DecidableEq α] (l : List α) : canon (canon l) = canon l :=
  canon_same (canon_len l) (canon_ker l).1 (canon_ker l).2
theorem roundC_canon (m : Nat → Nat → Nat) (La : Nat) (c : List Nat) (h : 1 ≤ La) : canon (roundC m La c) = roundC m La c := by
  obtain ⟨k, rfl⟩ : ∃ k, La = k + 1 := ⟨La - 1, by omega⟩
  unfold roundC
  rw [List.range_succ, List.foldl_append]
  exact canon_canon _
/-- A round of classes that are numbered in order changes nothing if it makes no more classes. -/
theorem roundC_same {m : Nat → Nat → Nat} {La : Nat} {c : List Nat} (hL : 1 ≤ La) (hc : canon c = c) (h : (firsts (roundC m La c)).length ≤ (firsts c).length) : roundC m La c = c := by
  have hk : KerLe (roundC m La c) c := fun i j hi hj e => by
    rw [roundC_len] at hi hj
    rw [getD_opt hi, getD_opt hj]
    rw [getD_opt (by rw [roundC_len]; exact hi), getD_opt (by rw [roundC_len]; exact hj)] at e
    injection e with e
    rw [roundC_fine hi hj e]
  have h1 := ker_count (roundC_len m La c) hk c.length (by rw [roundC_len]; exact Nat.le_refl _)
  rw [List.take_length, List.take_of_length_le (by rw [roundC_len]; exact Nat.le_refl _)] at h1
  have hk2 : KerLe c (roundC m La c) := fun i j hi hj e => h1.2 (by omega) i j hi hj e
  have := canon_same (roundC_len m La c) hk hk2
  rw [roundC_canon m La c hL, hc] at this
  exact this
theorem rndC_stops (m : Nat → Nat → Nat) (La : Nat) (c : List Nat) (hL : 1 ≤ La) : ∃ k, k ≤ c.length + 1 ∧ rndC m La c (k + 1) = rndC m La c k := by
  refine Classical.byContradiction fun hn => ?_
  have hne : ∀ k, k ≤ c.length + 1 → rndC m La c (k + 1) ≠ rndC m La c k := fun k hk e => hn ⟨k, hk, e⟩
  have hgrow : ∀ k, k ≤ c.length + 1 → k ≤ (firsts (rndC m La c (k + 1))).length := fun k => by
    induction k with
    | zero => intro _; exact Nat.zero_le _
    | succ k ih =>
      intro hk
      refine Nat.lt_of_not_le fun h => hne (k + 1) hk ?_
      exact roundC_same hL (roundC_canon m La _ hL) (Nat.le_trans h (ih (by omega)))
  have h1 := hgrow (c.length + 1) (Nat.le_refl _)
  have h2 := firsts_le (rndC m La c (c.length + 1 + 1))
  rw [rndC_len] at h2
  omega
theorem leastN {P : Nat → Prop} (h : ∃ k, P k) : ∃ k, P k ∧ ∀ j, j < k → ¬ P j := by
  obtain ⟨k, hk⟩ := h
  have : ∀ n, ∀ k, k ≤ n → P k → ∃ k, P k ∧ ∀ j, j < k → ¬ P j := fun n => by
    induction n with
    | zero => intro k hk h; exact ⟨k, h, fun j hj => by omega⟩
    | succ n ih =>
      intro k hk h
      by_cases h2 : ∃ j, j < k ∧ P j
      · obtain ⟨j, hj, h3⟩ := h2
        exact ih j (by omega) h3
      · exact ⟨k, h, fun j hj h3 => h2 ⟨j, hj, h3⟩⟩
  exact this k k (Nat.le_refl _) hk
/-- The classes at the beginning: states, and what is none. -/
def startC (n : Nat) : List Nat := List.replicate n 0 ++ [1]
theorem startC_len (n : Nat) : (startC n).length = n + 1 := by unfold startC; simp
theorem startC_at {n s : Nat} (h : s < n + 1) : (startC n).getD s 0 = if s = n then 1 else 0 := by
  unfold startC
  rw [List.getD_eq_getElem?_getD]
  by_cases e : s = n
  · subst e
    rw [if_pos rfl, List.getElem?_append_right (by simp)]; simp
  · rw [if_neg e, List.getElem?_append_left (by simp; omega), List.getElem?_replicate, if_pos (by omega)]; rfl
/-- The number of rounds until nothing changes. -/
theorem stopC_ex (m : Nat → Nat → Nat) (La n : Nat) (hL : 1 ≤ La) : ∃ k, (k ≤ n + 2 ∧ rndC m La (startC n) (k + 1) = rndC m La (startC n) k) ∧ ∀ j, j < k → ¬ (j ≤ n + 2 ∧ rndC m La (startC n) (j + 1) = rndC m La (startC n) j) := by
  have h := rndC_stops m La (startC n) hL
  rw [startC_len] at h
  exact leastN h
def loopC (m : Nat → Nat → Nat) (La : Nat) : Nat → List Nat → List Nat
  | 0, c => c
  | k + 1, c => if roundC m La c = c then c else loopC m La k (roundC m La c)
theorem loopC_eq {m : Nat → Nat → Nat} {La n K : Nat} (hK : rndC m La (startC n) (K + 1) = rndC m La (startC n) K) (hm : ∀ j, j < K → rndC m La (startC n) (j + 1) ≠ rndC m La (startC n) j) : ∀ d k, K ≤ k + d → k ≤ K → loopC m La d (rndC m La (startC n) k) = rndC m La (startC n) K
  | 0, k, h1, h2 => by
    obtain rfl : k = K := by omega
    rfl
  | d + 1, k, h1, h2 => by
    unfold loopC
    by_cases h : k = K
    · subst h
      rw [if_pos (show roundC m La (rndC m La (startC n) k) = rndC m La (startC n) k from hK)]
    · rw [if_neg (show ¬ roundC m La (rndC m La (startC n) k) = rndC m La (startC n) k from hm k (by omega))]
      exact loopC_eq hK hm d (k + 1) (by omega) (by omega)
/-- The classes of the states of a machine. -/
def classN (m : Nat → Nat → Nat) (La n : Nat) : List Nat := (loopC m La (n + 3) (startC n)).take n
theorem classN_eq {m : Nat → Nat → Nat} {La n K : Nat} (hn : K ≤ n + 2) (hK : rndC m La (startC n) (K + 1) = rndC m La (startC n) K) (hm : ∀ j, j < K → rndC m La (startC n) (j + 1) ≠ rndC m La (startC n) j) : classN m La n = (rndC m La (startC n) K).take n := by
  unfold classN
  rw [show startC n = rndC m La (startC n) 0 from rfl, loopC_eq hK hm (n + 3) 0 (by omega) (Nat.zero_le _)]
  rfl
theorem stopC_get (m : Nat → Nat → Nat) (La n : Nat) (hL : 1 ≤ La) : ∃ K, K ≤ n + 2 ∧ rndC m La (startC n) (K + 1) = rndC m La (startC n) K ∧ (∀ j, j < K → rndC m La (startC n) (j + 1) ≠ rndC m La (startC n) j) ∧ classN m La n = (rndC m La (startC n) K).take n := by
  obtain ⟨K, ⟨h1, h2⟩, h3⟩ := stopC_ex m La n hL
  have h4 : ∀ j, j < K → rndC m La (startC n) (j + 1) ≠ rndC m La (startC n) j := fun j hj e => h3 j hj ⟨by omega, e⟩
  exact ⟨K, h1, h2, h4, classN_eq h1 h2 h4⟩
theorem splitC_le (m : Nat → Nat → Nat) (c : List Nat) (l : Nat) : ∀ x ∈ splitC m c l, x ≤ c.length := fun x hx => by
  have h := canon_le (pairsC m c l) x hx
  rwa [pairsC_len] at h
theorem upC_le {m : Nat → Nat → Nat} {c : List Nat} {B : Nat} (hB : c.length ≤ B) (hc : ∀ x ∈ c, x ≤ B) : ∀ k, ∀ x ∈ (List.range k).foldl (splitC m) c, x ≤ B
  | 0 => hc
  | k + 1 => fun x hx => by
    rw [List.range_succ, List.foldl_append] at hx
    have h : x ≤ ((List.range k).foldl (splitC m) c).length := splitC_le m _ k x hx
    rw [upC_len] at h
    exact Nat.le_trans h hB
theorem rndC_le {m : Nat → Nat → Nat} {La n : Nat} : ∀ k, ∀ x ∈ rndC m La (startC n) k, x ≤ n + 1
  | 0 => fun x hx => by
    have hx2 : x ∈ startC n := hx
    unfold startC at hx2
    rw [List.mem_append, List.mem_singleton] at hx2
    rcases hx2 with h | h
    · have := List.eq_of_mem_replicate h; omega
    · omega
  | k + 1 => upC_le (by rw [rndC_len, startC_len]; exact Nat.le_refl _) (rndC_le k) La
/-- Where labels lead in a machine. -/
def mrun (m : Nat → Nat → Nat) (s : Nat) (w : List Nat) : Nat := w.foldl m s
theorem mrun_cons (m : Nat → Nat → Nat) (s l : Nat) (w : List Nat) : mrun m s (l :: w) = mrun m (m s l) w := rfl
theorem mrun_snoc (m : Nat → Nat → Nat) (s l : Nat) (w : List Nat) : mrun m s (w ++ [l]) = m (mrun m s w) l := by unfold mrun; rw [List.foldl_append]; rfl
theorem rndC_coarse {m : Nat → Nat → Nat} {n La : Nat} {E : Nat → Nat → Prop} (hE : ∀ s t, E s t → s < n + 1 ∧ t < n + 1) (hst : ∀ s t l, E s t → l < La → E (m s l) (m t l)) (h0 : ∀ s t, E s t → (s = n ↔ t = n)) : ∀ k s t, E s t → (rndC m La (startC n) k).getD s 0 = (rndC m La (startC n) k).getD t 0
  | 0, s, t, h => by
    show (startC n).getD s 0 = (startC n).getD t 0
    rw [startC_at (hE s t h).1, startC_at (hE s t h).2]
    have := h0 s t h
    by_cases e : s = n
    · rw [if_pos e, if_pos (this.1 e)]
    · rw [if_neg e, if_neg (fun e2 => e (this.2 e2))]
  | k + 1, s, t, h => by
    refine upC_coarse (fun s t h => ?_) hst (fun s t h => rndC_coarse hE hst h0 k s t h) La (Nat.le_refl _) s t h
    rw [rndC_len, startC_len]; exact hE s t h
/-- The classes are those of the states that no labels tell apart. -/
theorem rndC_iff {m : Nat → Nat → Nat} {n La k : Nat} (hm : ∀ s l, s < n + 1 → m s l < n + 1) (hn : ∀ l, m n l = n) (hk : rndC m La (startC n) (k + 1) = rndC m La (startC n) k) {s t : Nat} (hs : s < n + 1) (ht : t < n + 1) :
    (rndC m La (startC n) k).getD s 0 = (rndC m La (startC n) k).getD t 0 ↔ ∀ w : List Nat, (∀ l ∈ w, l < La) → (mrun m s w = n ↔ mrun m t w = n) := by
  have hlen : (rndC m La (startC n) k).length = n + 1 := by rw [rndC_len, startC_len]
  constructor
  · intro e w
    induction w generalizing s t with
    | nil =>
      intro _
      show s = n ↔ t = n
      have hfine : ∀ j, (rndC m La (startC n) j).getD s 0 = (rndC m La (startC n) j).getD t 0 → (startC n).getD s 0 = (startC n).getD t 0 := fun j => by
        induction j with
        | zero => exact fun h => h
        | succ j ih => exact fun h => ih (roundC_fine (by rw [rndC_len, startC_len]; exact hs) (by rw [rndC_len, startC_len]; exact ht) h)
      have h1 := hfine k e
      rw [startC_at hs, startC_at ht] at h1
      by_cases e1 : s = n <;> by_cases e2 : t = n
      · exact ⟨fun _ => e2, fun _ => e1⟩
      · rw [if_pos e1, if_neg e2] at h1; cases h1
      · rw [if_neg e1, if_pos e2] at h1; cases h1
      · exact ⟨fun h => absurd h e1, fun h => absurd h e2⟩
    | cons l w ih =>
      intro hw
      rw [mrun_cons, mrun_cons]
      refine ih (hm s l hs) (hm t l ht) ?_ (fun x hx => hw x (by simp [hx]))
      exact roundC_stable (c := rndC m La (startC n) k) (fun s l h => by rw [hlen] at h ⊢; exact hm s l h) hk (by rw [hlen]; exact hs) (by rw [hlen]; exact ht) (hw l (by simp)) e
  · intro h
    refine rndC_coarse (E := fun s t => s < n + 1 ∧ t < n + 1 ∧ ∀ w : List Nat, (∀ l ∈ w, l < La) → (mrun m s w = n ↔ mrun m t w = n)) (fun s t h => ⟨h.1, h.2.1⟩) (fun s t l h hl => ⟨hm s l h.1, hm t l h.2.1, fun w hw => ?_⟩) (fun s t h => ?_) k s t ⟨hs, ht, h⟩
    · exact h.2.2 (l :: w) (fun x hx => by rw [List.mem_cons] at hx; rcases hx with rfl | hx; exact hl; exact hw x hx)
    · exact h.2.2 [] (fun x hx => by cases hx)
end Go.Proofs.Ytbgfllohedhmaaa
