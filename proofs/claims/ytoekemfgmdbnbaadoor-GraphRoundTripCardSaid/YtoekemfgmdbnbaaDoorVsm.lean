/- Plain: edges sorted and each once (mkE), reversed edges (revE), and what slices.Compact makes of a list (ddE). No condition. -/
import Derived.Test.YtoekemfgmdbnbaaDoorVa
namespace Go.Proofs.YtoekemfgmdbnbaaDoor
open Go

/-- The edges in order, each as often as it occurs. -/
def srtE (es : List E3) : List E3 := es.mergeSort (fun x y => !ltE y x)
/-- .. each once. -/
def ddE : List E3 → List E3
  | [] => []
  | [a] => [a]
  | a :: b :: r => if a = b then ddE (b :: r) else a :: ddE (b :: r)
def mkE (es : List E3) : List E3 := ddE (srtE es)
theorem ltE_trans' {a b c : E3} (h1 : ltE a b = true) (h2 : ltE b c = true) : ltE a c = true := by
  unfold ltE at *
  simp only [decide_eq_true_eq] at *
  omega
theorem ltE_total' {a b : E3} (h1 : ltE a b = false) (h2 : ltE b a = false) : a = b := by
  unfold ltE at *
  simp only [decide_eq_false_iff_not] at *
  obtain ⟨x, y, z⟩ := a
  obtain ⟨x', y', z'⟩ := b
  dsimp only at *
  have e1 : x = x' := by omega
  have e2 : y = y' := by omega
  have e3 : z = z' := by omega
  rw [e1, e2, e3]
theorem ltE_irr' (a : E3) : ltE a a = false := by
  unfold ltE
  simp only [decide_eq_false_iff_not]
  omega
theorem ltE_asym' {a b : E3} (h : ltE a b = true) : ltE b a = false := by
  cases h2 : ltE b a with
  | false => rfl
  | true => exact absurd (ltE_trans' h h2) (by rw [ltE_irr']; decide)
theorem srtE_perm (es : List E3) : (srtE es).Perm es := List.mergeSort_perm _ _
theorem srtE_pw (es : List E3) : (srtE es).Pairwise (fun a b => ltE b a = false) := by
  have := List.pairwise_mergeSort (le := fun x y => !ltE y x) (fun a b c h1 h2 => ?_) (fun a b => ?_) es
  · refine this.imp ?_
    intro a b h
    simpa using h
  · simp only [Bool.not_eq_true'] at *
    cases h : ltE c a with
    | false => rfl
    | true =>
      cases h3 : ltE c b with
      | true => rw [h3] at h2; cases h2
      | false =>
        cases h4 : ltE b c with
        | true => have := ltE_trans' h4 h; rw [this] at h1; cases h1
        | false => have := ltE_total' h3 h4; subst this; rw [h] at h1; cases h1
  · cases h : ltE b a with
    | false => rfl
    | true => rw [ltE_asym' h]; rfl
theorem srtE_len (es : List E3) : (srtE es).length = es.length := (srtE_perm es).length_eq
theorem ddE_mem : ∀ (l : List E3) (x : E3), x ∈ ddE l ↔ x ∈ l
  | [], x => Iff.rfl
  | [a], x => Iff.rfl
  | a :: b :: r, x => by
    unfold ddE
    by_cases h : a = b
    · rw [if_pos h, ddE_mem (b :: r) x, h]
      simp
    · rw [if_neg h, List.mem_cons, ddE_mem (b :: r) x, List.mem_cons (b := a)]
theorem ddE_len : ∀ (l : List E3), (ddE l).length ≤ l.length
  | [] => Nat.le_refl _
  | [a] => Nat.le_refl _
  | a :: b :: r => by
    unfold ddE
    have := ddE_len (b :: r)
    split
    · exact Nat.le_trans this (by simp)
    · simp only [List.length_cons] at *
      omega
theorem ddE_pw : ∀ {l : List E3}, l.Pairwise (fun a b => ltE b a = false) → (ddE l).Pairwise (fun a b => ltE a b = true)
  | [], _ => List.Pairwise.nil
  | [a], _ => List.pairwise_singleton _ _
  | a :: b :: r, h => by
    obtain ⟨h1, h2⟩ := List.pairwise_cons.1 h
    have ih := ddE_pw h2
    unfold ddE
    by_cases hab : a = b
    · rw [if_pos hab]; exact ih
    · rw [if_neg hab]
      refine List.Pairwise.cons (fun x hx => ?_) ih
      rw [ddE_mem] at hx
      have hb := h1 b List.mem_cons_self
      have hlt : ltE a b = true := by
        cases h3 : ltE a b with
        | true => rfl
        | false => exact absurd (ltE_total' h3 hb) hab
      rcases List.mem_cons.1 hx with rfl | hx
      · exact hlt
      · have hbx := (List.pairwise_cons.1 h2).1 x hx
        cases h3 : ltE b x with
        | true => exact ltE_trans' hlt h3
        | false => rw [← ltE_total' h3 hbx]; exact hlt
theorem mkE_mem {es : List E3} {x : E3} : x ∈ mkE es ↔ x ∈ es := by unfold mkE; rw [ddE_mem]; exact (srtE_perm es).mem_iff
theorem mkE_pw (es : List E3) : (mkE es).Pairwise (fun a b => ltE a b = true) := ddE_pw (srtE_pw es)
theorem mkE_len (es : List E3) : (mkE es).length ≤ es.length := by unfold mkE; have := ddE_len (srtE es); rw [srtE_len] at this; exact this
/-- Ascending lists with the same members are equal. -/
theorem asc_eq : ∀ {l m : List E3}, l.Pairwise (fun a b => ltE a b = true) → m.Pairwise (fun a b => ltE a b = true) → (∀ x, x ∈ l ↔ x ∈ m) → l = m
  | [], [], _, _, _ => rfl
  | [], b :: m, _, _, h => absurd ((h b).2 List.mem_cons_self) (by simp)
  | a :: l, [], _, _, h => absurd ((h a).1 List.mem_cons_self) (by simp)
  | a :: l, b :: m, h1, h2, h => by
    obtain ⟨p1, q1⟩ := List.pairwise_cons.1 h1
    obtain ⟨p2, q2⟩ := List.pairwise_cons.1 h2
    have hab : a = b := by
      rcases List.mem_cons.1 ((h a).1 List.mem_cons_self) with e | ha
      · exact e
      · rcases List.mem_cons.1 ((h b).2 List.mem_cons_self) with e | hb
        · exact e.symm
        · have := ltE_asym' (p1 b hb)
          rw [p2 a ha] at this
          cases this
    subst hab
    rw [asc_eq q1 q2]
    intro x
    constructor
    · intro hx
      rcases List.mem_cons.1 ((h x).1 (List.mem_cons_of_mem _ hx)) with e | hx2
      · subst e; have := p1 x hx; rw [ltE_irr'] at this; cases this
      · exact hx2
    · intro hx
      rcases List.mem_cons.1 ((h x).2 (List.mem_cons_of_mem _ hx)) with e | hx2
      · subst e; have := p2 x hx; rw [ltE_irr'] at this; cases this
      · exact hx2
theorem mkE_same {es fs : List E3} (h : ∀ x, x ∈ es ↔ x ∈ fs) : mkE es = mkE fs := asc_eq (mkE_pw es) (mkE_pw fs) (fun x => by rw [mkE_mem, mkE_mem]; exact h x)
theorem mkE_self {es : List E3} (h : es.Pairwise (fun a b => ltE a b = true)) : mkE es = es := asc_eq (mkE_pw es) h (fun _ => mkE_mem)
/-! ### Reversing -/
def trnE (e : E3) : E3 := (e.2.2, e.2.1, e.1)
theorem trnE_trnE (e : E3) : trnE (trnE e) = e := rfl
def revE (es : List E3) : List E3 := mkE (es.map trnE)
theorem revE_mem {es : List E3} {x : E3} : x ∈ revE es ↔ trnE x ∈ es := by
  unfold revE
  rw [mkE_mem, List.mem_map]
  constructor
  · rintro ⟨a, ha, rfl⟩; exact ha
  · intro h; exact ⟨trnE x, h, rfl⟩
theorem revE_len (es : List E3) : (revE es).length ≤ es.length := by unfold revE; have := mkE_len (es.map trnE); rwa [List.length_map] at this
theorem revE_vg {L S : Int} {es : List E3} (h : VG L S es) : VG L S (revE es) := by
  refine ⟨h.l1, h.l2, h.s1, h.s2, Nat.le_trans (revE_len es) h.len, fun e he => ?_, mkE_pw _⟩
  have := okE_iff.1 (h.ok _ (revE_mem.1 he))
  unfold trnE at this
  rw [okE_iff]
  dsimp only at this
  omega
theorem revE_revE {L S : Int} {es : List E3} (h : VG L S es) : revE (revE es) = es := asc_eq (mkE_pw _) h.asc (fun x => by rw [revE_mem, revE_mem, trnE_trnE])
/-- Compact, element by element: what stands in front is kept. -/
theorem ddE_take : ∀ (l : List E3) (k : Nat), (∀ i, i < k → i + 1 < l.length → l[i]? ≠ l[i + 1]?) → k < l.length → ddE l = l.take k ++ ddE (l.drop k)
  | l, 0, _, _ => by simp
  | [], k + 1, _, h => by simp at h
  | [a], k + 1, _, h => by simp at h
  | a :: b :: r, k + 1, h, hk => by
    have h0 := h 0 (by omega) (by simp)
    have hab : a ≠ b := by simpa using h0
    rw [ddE, if_neg hab, ddE_take (b :: r) k (fun i hi hl => h (i + 1) (by omega) (by simp at hl ⊢; omega)) (by simpa using hk)]
    simp
theorem ddE_whole (l : List E3) (h : ∀ i, i + 1 < l.length → l[i]? ≠ l[i + 1]?) : ddE l = l := by
  match l with
  | [] => rfl
  | [a] => rfl
  | a :: b :: r =>
    have h0 : a ≠ b := by simpa using h 0 (by simp)
    rw [ddE, if_neg h0, ddE_whole (b :: r) (fun i hi => h (i + 1) (by simp at hi ⊢; omega))]
end Go.Proofs.YtoekemfgmdbnbaaDoor
