/- Plain: edges sorted and each once (mkE), reversed edges (revE), and what slices.Compact makes of a list (ddE). No condition. Plain facts on merged graphs. No condition. Plain: the classes that the reference finds, round by round, are those of the states that no labels tell apart. No condition. -/
import Derived.Test.YtbgfllohedhmaaaQ01
import Derived.Test.YtbgfllohedhmaaaQ12

namespace Go.Proofs.Ytbgfllohedhmaaa
open Go

/-- The edges in order, each as often as it occurs. -/
def srtE (es : List E3) : List E3 := es.mergeSort (fun x y => !ltE y x)
/-- .. each once. -/
def ddE : List E3 → List E3
  | [] => []
  | [a] => [a]
  | a :: b :: r => if a = b then ddE (b :: r) else a :: ddE (b :: r)
def mkE (es : List E3) : List E3 := ddE (srtE es)
theorem ltE_trans' {a b c : E3} (h1 : ltE a b = true) (h2 : ltE b c = true) : ltE a c = true := by
  unfold ltE at *
  simp only [decide_eq_true_eq] at *
  omega
theorem ltE_total' {a b : E3} (h1 : ltE a b = false) (h2 : ltE b a = false) : a = b := by
  unfold ltE at *
  simp only [decide_eq_false_iff_not] at *
  obtain ⟨x, y, z⟩ := a
  obtain ⟨x', y', z'⟩ := b
  dsimp only at *
  have e1 : x = x' := by omega
  have e2 : y = y' := by omega
  have e3 : z = z' := by omega
  rw [e1, e2, e3]
theorem ltE_irr' (a : E3) : ltE a a = false := by
  unfold ltE
  simp only [decide_eq_false_iff_not]
  omega
theorem ltE_asym' {a b : E3} (h : ltE a b = true) : ltE b a = false := by
  cases h2 : ltE b a with
  | false => rfl
  | true => exact absurd (ltE_trans' h h2) (by rw [ltE_irr']; decide)
theorem srtE_perm (es : List E3) : (srtE es).Perm es := List.mergeSort_perm _ _
theorem srtE_pw (es : List E3) : (srtE es).Pairwise (fun a b => ltE b a = false) := by
  have := List.pairwise_mergeSort (le := fun x y => !ltE y x) (fun a b c h1 h2 => ?_) (fun a b => ?_) es
  · refine this.imp ?_
    intro a b h
    simpa using h
  · simp only [Bool.not_eq_true'] at *
    cases h : ltE c a with
    | false => rfl
    | true =>
      cases h3 : ltE c b with
      | true => rw [h3] at h2; cases h2
      | false =>
        cases h4 : ltE b c with
        | true => have := ltE_trans' h4 h; rw [this] at h1; cases h1
        | false => have := ltE_total' h3 h4; subst this; rw [h] at h1; cases h1
  · cases h : ltE b a with
    | false => rfl
    | true => rw [ltE_asym' h]; rfl
theorem srtE_len (es : List E3) : (srtE es).length = es.length := (srtE_perm es).length_eq
theorem ddE_mem : ∀ (l : List E3) (x : E3), x ∈ ddE l ↔ x ∈ l
  | [], x => Iff.rfl
  | [a], x => Iff.rfl
  | a :: b :: r, x => by
    unfold ddE
    by_cases h : a = b
    · rw [if_pos h, ddE_mem (b :: r) x, h]
      simp
    · rw [if_neg h, List.mem_cons, ddE_mem (b :: r) x, List.mem_cons (b := a)]
theorem ddE_len : ∀ (l : List E3), (ddE l).length ≤ l.length
  | [] => Nat.le_refl _
  | [a] => Nat.le_refl _
  | a :: b :: r => by
    unfold ddE
    have := ddE_len (b :: r)
    split
    · exact Nat.le_trans this (by simp)
    · simp only [List.length_cons] at *
      omega
theorem ddE_pw : ∀ {l : List E3}, l.Pairwise (fun a b => ltE b a = false) → (ddE l).Pairwise (fun a b => ltE a b = true)
  | [], _ => List.Pairwise.nil
  | [a], _ => List.pairwise_singleton _ _
  | a :: b :: r, h => by
    obtain ⟨h1, h2⟩ := List.pairwise_cons.1 h
    have ih := ddE_pw h2
    unfold ddE
    by_cases hab : a = b
    · rw [if_pos hab]; exact ih
    · rw [if_neg hab]
      refine List.Pairwise.cons (fun x hx => ?_) ih
      rw [ddE_mem] at hx
      have hb := h1 b List.mem_cons_self
      have hlt : ltE a b = true := by
        cases h3 : ltE a b with
        | true => rfl
        | false => exact absurd (ltE_total' h3 hb) hab
      rcases List.mem_cons.1 hx with rfl | hx
      · exact hlt
      · have hbx := (List.pairwise_cons.1 h2).1 x hx
        cases h3 : ltE b x with
        | true => exact ltE_trans' hlt h3
        | false => rw [← ltE_total' h3 hbx]; exact hlt
theorem mkE_mem {es : List E3} {x : E3} : x ∈ mkE es ↔ x ∈ es := by unfold mkE; rw [ddE_mem]; exact (srtE_perm es).mem_iff
theorem mkE_pw (es : List E3) : (mkE es).Pairwise (fun a b => ltE a b = true) := ddE_pw (srtE_pw es)
theorem mkE_len (es : List E3) : (mkE es).length ≤ es.length := by unfold mkE; have := ddE_len (srtE es); rw [srtE_len] at this; exact this
/-- Ascending lists with the same members are equal. -/
theorem asc_eq : ∀ {l m : List E3}, l.Pairwise (fun a b => ltE a b = true) → m.Pairwise (fun a b => ltE a b = true) → (∀ x, x ∈ l ↔ x ∈ m) → l = m
  | [], [], _, _, _ => rfl
  | [], b :: m, _, _, h => absurd ((h b).2 List.mem_cons_self) (by simp)
  | a :: l, [], _, _, h => absurd ((h a).1 List.mem_cons_self) (by simp)
  | a :: l, b :: m, h1, h2, h => by
    obtain ⟨p1, q1⟩ := List.pairwise_cons.1 h1
    obtain ⟨p2, q2⟩ := List.pairwise_cons.1 h2
    have hab : a = b := by
      rcases List.mem_cons.1 ((h a).1 List.mem_cons_self) with e | ha
      · exact e
      · rcases List.mem_cons.1 ((h b).2 List.mem_cons_self) with e | hb
        · exact e.symm
        · have := ltE_asym' (p1 b hb)
          rw [p2 a ha] at this
          cases this
    subst hab
    rw [asc_eq q1 q2]
    intro x
    constructor
    · intro hx
      rcases List.mem_cons.1 ((h x).1 (List.mem_cons_of_mem _ hx)) with e | hx2
      · subst e; have := p1 x hx; rw [ltE_irr'] at this; cases this
      · exact hx2
    · intro hx
      rcases List.mem_cons.1 ((h x).2 (List.mem_cons_of_mem _ hx)) with e | hx2
      · subst e; have := p2 x hx; rw [ltE_irr'] at this; cases this
      · exact hx2
theorem mkE_same {es fs : List E3} (h : ∀ x, x ∈ es ↔ x ∈ fs) : mkE es = mkE fs := asc_eq (mkE_pw es) (mkE_pw fs) (fun x => by rw [mkE_mem, mkE_mem]; exact h x)
theorem mkE_self {es : List E3} (h : es.Pairwise (fun a b => ltE a b = true)) : mkE es = es := asc_eq (mkE_pw es) h (fun _ => mkE_mem)
/-! ### Reversing -/
def trnE (e : E3) : E3 := (e.2.2, e.2.1, e.1)
theorem trnE_trnE (e : E3) : trnE (trnE e) = e := rfl
def revE (es : List E3) : List E3 := mkE (es.map trnE)
theorem revE_mem {es : List E3} {x : E3} : x ∈ revE es ↔ trnE x ∈ es := by
  unfold revE
  rw [mkE_mem, List.mem_map]
  constructor
  · rintro ⟨a, ha, rfl⟩; exact ha
  · intro h; exact ⟨trnE x, h, rfl⟩
theorem revE_len (es : List E3) : (revE es).length ≤ es.length := by unfold revE; have := mkE_len (es.map trnE); rwa [List.length_map] at this
theorem revE_vg {L S : Int} {es : List E3} (h : VG L S es) : VG L S (revE es) := by
  refine ⟨h.l1, h.l2, h.s1, h.s2, Nat.le_trans (revE_len es) h.len, fun e he => ?_, mkE_pw _⟩
  have := okE_iff.1 (h.ok _ (revE_mem.1 he))
  unfold trnE at this
  rw [okE_iff]
  dsimp only at this
  omega
theorem revE_revE {L S : Int} {es : List E3} (h : VG L S es) : revE (revE es) = es := asc_eq (mkE_pw _) h.asc (fun x => by rw [revE_mem, revE_mem, trnE_trnE])
/-- Compact, element by element: what stands in front is kept. -/
theorem ddE_take : ∀ (l : List E3) (k : Nat), (∀ i, i < k → i + 1 < l.length → l[i]? ≠ l[i + 1]?) → k < l.length → ddE l = l.take k ++ ddE (l.drop k)
  | l, 0, _, _ => by simp
  | [], k + 1, _, h => by simp at h
  | [a], k + 1, _, h => by simp at h
  | a :: b :: r, k + 1, h, hk => by
    have h0 := h 0 (by omega) (by simp)
    have hab : a ≠ b := by simpa using h0
    rw [ddE, if_neg hab, ddE_take (b :: r) k (fun i hi hl => h (i + 1) (by omega) (by simp at hl ⊢; omega)) (by simpa using hk)]
    simp
theorem ddE_whole (l : List E3) (h : ∀ i, i + 1 < l.length → l[i]? ≠ l[i + 1]?) : ddE l = l := by
  match l with
  | [] => rfl
  | [a] => rfl
  | a :: b :: r =>
    have h0 : a ≠ b := by simpa using h 0 (by simp)
    rw [ddE, if_neg h0, ddE_whole (b :: r) (fun i hi => h (i + 1) (by simp at hi ⊢; omega))]
end Go.Proofs.Ytbgfllohedhmaaa

namespace Go.Proofs.Ytbgfllohedhmaaa
set_option linter.unusedVariables false

def mgE (es : List E3) (c : List Nat) : List E3 := es.map fun e => (((c.getD e.1.toNat 0 : Nat) : Int), e.2.1, ((c.getD e.2.2.toNat 0 : Nat) : Int))
def numC (c : List Nat) : Nat := c.foldl (fun m x => max m (x + 1)) 0
theorem numC_snoc (c : List Nat) (x : Nat) : numC (c ++ [x]) = max (numC c) (x + 1) := by unfold numC; rw [List.foldl_append]; rfl
theorem numC_lt : ∀ c : List Nat, ∀ x ∈ c, x < numC c := by
  intro c
  refine snocI (P := fun c => ∀ x ∈ c, x < numC c) (fun x hx => by cases hx) (fun w l ih x hx => ?_) c
  rw [numC_snoc]
  rw [List.mem_append, List.mem_singleton] at hx
  rcases hx with hx | rfl
  · have := ih x hx; omega
  · omega
theorem numC_le {B : Nat} : ∀ c : List Nat, (∀ x ∈ c, x < B) → numC c ≤ B := by
  intro c
  refine snocI (P := fun c => (∀ x ∈ c, x < B) → numC c ≤ B) (fun _ => Nat.zero_le _) (fun w l ih h => ?_) c
  rw [numC_snoc]
  have h1 := ih (fun x hx => h x (List.mem_append_left _ hx))
  have h2 := h l (by simp)
  omega
theorem canon_small {α : Type} [DecidableEq α] (l : List α) {i x : Nat} (h : (canon l)[i]? = some x) : x ≤ i := by
  have hi : i < l.length := by
    have := (List.getElem?_eq_some_iff.1 h).1
    rwa [canon_len] at this
  have hx := List.getElem?_eq_getElem hi
  rw [canon_at hx] at h
  injection h with h
  rw [canon_step hx] at h
  have h1 := firsts_le (l.take (i + 1))
  rw [List.length_take] at h1
  have h2 : (firsts (l.take (i + 1))).idxOf l[i] < (firsts (l.take (i + 1))).length := List.idxOf_lt_length_iff.2 ((firsts_mem _ _).2 (mem_take_iff.2 ⟨i, by omega, hx⟩))
  omega
/-- What is known of the classes: those of states that no labels tell apart, numbered in the order of their least states. -/
theorem classN_get (m : Nat → Nat → Nat) (La n : Nat) (hL : 1 ≤ La) : ∃ C : List Nat, C.length = n + 1 ∧ classN m La n = C.take n ∧ canon C = C ∧ ((∀ s l, s < n + 1 → m s l < n + 1) → (∀ l, m n l = n) → ∀ s t, s < n + 1 → t < n + 1 →
    (C.getD s 0 = C.getD t 0 ↔ ∀ w : List Nat, (∀ l ∈ w, l < La) → (mrun m s w = n ↔ mrun m t w = n))) := by
  obtain ⟨K, -, h2, -, h4⟩ := stopC_get m La n hL
  refine ⟨rndC m La (startC n) K, by rw [rndC_len, startC_len], h4, ?_, fun hm hn s t hs ht => rndC_iff hm hn h2 hs ht⟩
  rw [← h2]
  exact roundC_canon m La _ hL
theorem classN_len (m : Nat → Nat → Nat) (La n : Nat) (hL : 1 ≤ La) : (classN m La n).length = n := by
  obtain ⟨C, h1, h2, -⟩ := classN_get m La n hL
  rw [h2, List.length_take, h1]; omega
theorem classN_small {m : Nat → Nat → Nat} {La n : Nat} (hL : 1 ≤ La) {i x : Nat} (h : (classN m La n)[i]? = some x) : x ≤ i := by
  obtain ⟨C, h1, h2, h3, -⟩ := classN_get m La n hL
  have hi : i < n := by
    have := (List.getElem?_eq_some_iff.1 h).1
    rwa [classN_len m La n hL] at this
  rw [h2, List.getElem?_take_of_lt hi, ← h3] at h
  exact canon_small C h
theorem classN_num (m : Nat → Nat → Nat) (La n : Nat) (hL : 1 ≤ La) : numC (classN m La n) ≤ n := by
  refine numC_le _ (fun x hx => ?_)
  obtain ⟨i, hi⟩ := List.mem_iff_getElem?.1 hx
  have h1 := classN_small hL hi
  have h2 := (List.getElem?_eq_some_iff.1 hi).1
  rw [classN_len m La n hL] at h2
  omega
/-- Classes are those of states that no labels tell apart. -/
theorem classN_iff {m : Nat → Nat → Nat} {La n : Nat} (hL : 1 ≤ La) (hm : ∀ s l, s < n + 1 → m s l < n + 1) (hn : ∀ l, m n l = n) {s t : Nat} (hs : s < n) (ht : t < n) :
    (classN m La n).getD s 0 = (classN m La n).getD t 0 ↔ ∀ w : List Nat, (∀ l ∈ w, l < La) → (mrun m s w = n ↔ mrun m t w = n) := by
  obtain ⟨C, h1, h2, h3, h4⟩ := classN_get m La n hL
  have hg : ∀ k, k < n → (classN m La n).getD k 0 = C.getD k 0 := fun k hk => by
    rw [h2, List.getD_eq_getElem?_getD, List.getElem?_take_of_lt hk, ← List.getD_eq_getElem?_getD]
  rw [hg s hs, hg t ht]
  exact h4 hm hn s t (by omega) (by omega)
theorem mgE_len (es : List E3) (c : List Nat) : (mgE es c).length = es.length := by unfold mgE; rw [List.length_map]
theorem getD_mem {c : List Nat} {i : Nat} (h : i < c.length) : c.getD i 0 ∈ c := by
  rw [List.getD_eq_getElem?_getD, List.getElem?_eq_getElem h]
  exact List.getElem_mem h
theorem merged_vg {La n : Nat} {es : List E3} {c : List Nat} (hvg : VG (La : Int) (n : Int) es) (hc : c.length = n) (hnc : numC c ≤ 64) : VG (La : Int) ((numC c : Nat) : Int) (mkE (mgE es c)) := by
  refine ⟨hvg.l1, hvg.l2, by omega, by omega, ?_, fun e he => ?_, mkE_pw _⟩
  · have h1 := mkE_len (mgE es c)
    rw [mgE_len] at h1
    have := hvg.len
    omega
  · rw [mkE_mem] at he
    unfold mgE at he
    obtain ⟨f, hf, rfl⟩ := List.mem_map.1 he
    have h1 := okE_iff.1 (hvg.ok f hf)
    have h2 := numC_lt c _ (getD_mem (c := c) (i := f.1.toNat) (by omega))
    have h3 := numC_lt c _ (getD_mem (c := c) (i := f.2.2.toNat) (by omega))
    refine okE_iff.2 ?_
    dsimp only
    omega
end Go.Proofs.Ytbgfllohedhmaaa

namespace Go.Proofs.Ytbgfllohedhmaaa
set_option linter.unusedSimpArgs false
set_option linter.unusedVariables false

/-- What tells two states apart in a round: their classes, and those to which labels lead. -/
def sgC (m : Nat → Nat → Nat) (n : Nat) (c : List Nat) (s l : Nat) : Option Nat := if m s l = n then none else some (c.getD (m s l) 0)
def sigC (m : Nat → Nat → Nat) (n La : Nat) (c : List Nat) (s : Nat) : Nat × List (Option Nat) := (c.getD s 0, (List.range La).map (sgC m n c s))
def sigs (m : Nat → Nat → Nat) (n La : Nat) (c : List Nat) : List (Nat × List (Option Nat)) := (List.range n).map (sigC m n La c)
def refR (m : Nat → Nat → Nat) (n La : Nat) (c : List Nat) : List Nat := canon (sigs m n La c)
/-- Classes behind k rounds of the reference. -/
def refC (m : Nat → Nat → Nat) (n La : Nat) : Nat → List Nat
  | 0 => List.replicate n 0
  | k + 1 => refR m n La (refC m n La k)
section
variable {m : Nat → Nat → Nat} {n La : Nat} {c : List Nat}
theorem sigs_len : (sigs m n La c).length = n := by unfold sigs; rw [List.length_map, List.length_range]
theorem sigs_at {s : Nat} (h : s < n) : (sigs m n La c)[s]? = some (sigC m n La c s) := by unfold sigs; rw [List.getElem?_map, List.getElem?_range h]; rfl
theorem refR_len : (refR m n La c).length = n := by unfold refR; rw [canon_len, sigs_len]
theorem refC_len : ∀ k, (refC m n La k).length = n
  | 0 => List.length_replicate
  | k + 1 => refR_len
theorem refR_at {s : Nat} (h : s < n) : (refR m n La c)[s]? = some ((refR m n La c).getD s 0) := getD_opt (by rw [refR_len]; exact h)
theorem refR_iff {s t : Nat} (hs : s < n) (ht : t < n) : (refR m n La c).getD s 0 = (refR m n La c).getD t 0 ↔ sigC m n La c s = sigC m n La c t := by
  constructor
  · intro e
    have h := (canon_ker (sigs m n La c)).1 s t (by rw [canon_len, sigs_len]; exact hs) (by rw [canon_len, sigs_len]; exact ht) (by
      show (refR m n La c)[s]? = (refR m n La c)[t]?
      rw [refR_at hs, refR_at ht, e])
    rw [sigs_at hs, sigs_at ht] at h
    injection h
  · intro e
    have h := (canon_ker (sigs m n La c)).2 s t (by rw [sigs_len]; exact hs) (by rw [sigs_len]; exact ht) (by rw [sigs_at hs, sigs_at ht, e])
    have h2 : (refR m n La c)[s]? = (refR m n La c)[t]? := h
    rw [refR_at hs, refR_at ht] at h2
    injection h2
theorem sgC_iff {s t l : Nat} : sgC m n c s l = sgC m n c t l ↔ (m s l = n ↔ m t l = n) ∧ (m s l ≠ n → c.getD (m s l) 0 = c.getD (m t l) 0) := by
  unfold sgC
  by_cases h1 : m s l = n <;> by_cases h2 : m t l = n
  · rw [if_pos h1, if_pos h2]; exact ⟨fun _ => ⟨⟨fun _ => h2, fun _ => h1⟩, fun h => absurd h1 h⟩, fun _ => rfl⟩
  · rw [if_pos h1, if_neg h2]; exact ⟨fun h => (by cases h), fun h => absurd (h.1.1 h1) h2⟩
  · rw [if_neg h1, if_pos h2]; exact ⟨fun h => (by cases h), fun h => absurd (h.1.2 h2) h1⟩
  · rw [if_neg h1, if_neg h2]
    exact ⟨fun h => ⟨⟨fun e => absurd e h1, fun e => absurd e h2⟩, fun _ => by injection h⟩, fun h => by rw [h.2 h1]⟩
theorem sig2_iff {s t : Nat} : (sigC m n La c s).2 = (sigC m n La c t).2 ↔ ∀ l, l < La → sgC m n c s l = sgC m n c t l := by
  show (List.range La).map (sgC m n c s) = (List.range La).map (sgC m n c t) ↔ _
  constructor
  · intro h l hl
    have h2 : ((List.range La).map (sgC m n c s))[l]? = ((List.range La).map (sgC m n c t))[l]? := by rw [h]
    rw [List.getElem?_map, List.getElem?_map, List.getElem?_range hl] at h2
    simpa using h2
  · intro h
    exact List.map_congr_left (fun l hl => h l (List.mem_range.1 hl))
theorem sig_iff {s t : Nat} : sigC m n La c s = sigC m n La c t ↔ c.getD s 0 = c.getD t 0 ∧ (sigC m n La c s).2 = (sigC m n La c t).2 := by
  constructor
  · intro h; exact ⟨congrArg Prod.fst h, congrArg Prod.snd h⟩
  · rintro ⟨h1, h2⟩; exact Prod.ext h1 h2
theorem refR_canon : canon (refR m n La c) = refR m n La c := canon_canon _
theorem refR_same (hcl : c.length = n) (hc : canon c = c) (h : (firsts (refR m n La c)).length ≤ (firsts c).length) : refR m n La c = c := by
  have hk : KerLe (refR m n La c) c := fun i j hi hj e => by
    rw [refR_len] at hi hj
    rw [getD_opt (by rw [hcl]; exact hi), getD_opt (by rw [hcl]; exact hj)]
    rw [refR_at hi, refR_at hj] at e
    injection e with e
    rw [(sig_iff.1 ((refR_iff hi hj).1 e)).1]
  have hl : (refR m n La c).length = c.length := by rw [refR_len, hcl]
  have h1 := ker_count hl hk c.length (by rw [hl]; exact Nat.le_refl _)
  rw [List.take_length, List.take_of_length_le (by rw [hl]; exact Nat.le_refl _)] at h1
  have hk2 : KerLe c (refR m n La c) := fun i j hi hj e => h1.2 (by omega) i j hi hj e
  have := canon_same hl hk hk2
  rw [refR_canon, hc] at this
  exact this
end
theorem refC_stops (m : Nat → Nat → Nat) (n La : Nat) : ∃ k, k ≤ n + 1 ∧ refC m n La (k + 1) = refC m n La k := by
  refine Classical.byContradiction fun hn => ?_
  have hne : ∀ k, k ≤ n + 1 → refC m n La (k + 1) ≠ refC m n La k := fun k hk e => hn ⟨k, hk, e⟩
  have hgrow : ∀ k, k ≤ n + 1 → k ≤ (firsts (refC m n La (k + 1))).length := fun k => by
    induction k with
    | zero => intro _; exact Nat.zero_le _
    | succ k ih =>
      intro hk
      refine Nat.lt_of_not_le fun h => hne (k + 1) hk ?_
      exact refR_same (refC_len (k + 1)) refR_canon (Nat.le_trans h (ih (by omega)))
  have h1 := hgrow (n + 1) (Nat.le_refl _)
  have h2 := firsts_le (refC m n La (n + 1 + 1))
  rw [refC_len] at h2
  omega
theorem refC_iff {m : Nat → Nat → Nat} {n La k : Nat} (hm : ∀ s l, m s l ≤ n) (hn : ∀ l, m n l = n) (hk : refC m n La (k + 1) = refC m n La k) {s t : Nat} (hs : s < n) (ht : t < n) :
    (refC m n La k).getD s 0 = (refC m n La k).getD t 0 ↔ ∀ w : List Nat, (∀ l ∈ w, l < La) → (mrun m s w = n ↔ mrun m t w = n) := by
  constructor
  · intro e w
    induction w generalizing s t with
    | nil =>
      intro _
      show s = n ↔ t = n
      exact ⟨fun h => absurd h (by omega), fun h => absurd h (by omega)⟩
    | cons l w ih =>
      intro hw
      rw [mrun_cons, mrun_cons]
      rw [← hk] at e
      have h1 := sgC_iff.1 (sig2_iff.1 (sig_iff.1 ((refR_iff hs ht).1 e)).2 l (hw l (by simp)))
      by_cases h2 : m s l = n
      · rw [h2, h1.1.1 h2]
      · have h3 : m t l ≠ n := fun h => h2 (h1.1.2 h)
        refine ih (by have := hm s l; omega) (by have := hm t l; omega) (h1.2 h2) (fun x hx => hw x (by simp [hx]))
  · have key : ∀ j s t, s < n → t < n → (∀ w : List Nat, (∀ l ∈ w, l < La) → (mrun m s w = n ↔ mrun m t w = n)) → (refC m n La j).getD s 0 = (refC m n La j).getD t 0 := fun j => by
      induction j with
      | zero =>
        intro s t hs ht _
        show (List.replicate n 0).getD s 0 = (List.replicate n 0).getD t 0
        rw [List.getD_eq_getElem?_getD, List.getD_eq_getElem?_getD, List.getElem?_replicate, List.getElem?_replicate, if_pos hs, if_pos ht]
      | succ j ih =>
        intro s t hs ht h
        refine (refR_iff hs ht).2 (sig_iff.2 ⟨ih s t hs ht h, sig2_iff.2 fun l hl => sgC_iff.2 ⟨h [l] (fun x hx => by rw [List.mem_singleton] at hx; rw [hx]; exact hl), fun h2 => ?_⟩⟩)
        have h3 : m s l = n ↔ m t l = n := h [l] (fun x hx => by rw [List.mem_singleton] at hx; rw [hx]; exact hl)
        refine ih _ _ (by have := hm s l; omega) (by have := hm t l; have : m t l ≠ n := fun e => h2 (h3.2 e); omega) (fun w hw => ?_)
        exact h (l :: w) (fun x hx => by rw [List.mem_cons] at hx; rcases hx with rfl | hx; exact hl; exact hw x hx)
    exact key k s t hs ht
theorem canon_takeN {α : Type} [DecidableEq α] (l : List α) (k : Nat) : canon (l.take k) = (canon l).take k := by
  refine List.ext_getElem? fun i => ?_
  by_cases hi : i < k
  · rw [List.getElem?_take_of_lt hi]
    by_cases hl : i < l.length
    · have hx := List.getElem?_eq_getElem hl
      generalize l[i] = x at hx
      have hx2 : (l.take k)[i]? = some x := by rw [List.getElem?_take_of_lt hi]; exact hx
      rw [canon_at hx, canon_at hx2]
      congr 1
      exact (idx_pre (firsts_preAll l k) ((firsts_mem _ _).2 (mem_take_iff.2 ⟨i, hi, hx⟩))).symm
    · rw [List.getElem?_eq_none (by rw [canon_len, List.length_take]; omega), List.getElem?_eq_none (by rw [canon_len]; omega)]
  · rw [List.getElem?_eq_none (by rw [canon_len, List.length_take]; omega), List.getElem?_eq_none (by rw [List.length_take, canon_len]; omega)]
theorem canon_uniq {a b : List Nat} (hl : a.length = b.length) (ha : canon a = a) (hb : canon b = b) (h : ∀ s t, s < a.length → t < a.length → (a.getD s 0 = a.getD t 0 ↔ b.getD s 0 = b.getD t 0)) : a = b := by
  have h1 : KerLe a b := fun i j hi hj e => by
    rw [getD_opt hi, getD_opt hj] at e
    injection e with e
    rw [getD_opt (by rw [← hl]; exact hi), getD_opt (by rw [← hl]; exact hj), (h i j hi hj).1 e]
  have h2 : KerLe b a := fun i j hi hj e => by
    rw [getD_opt hi, getD_opt hj] at e
    injection e with e
    rw [getD_opt (by rw [hl]; exact hi), getD_opt (by rw [hl]; exact hj), (h i j (by omega) (by omega)).2 e]
  rw [← ha, ← hb]
  exact canon_same hl h1 h2
/-- Where the reference stops, its classes are the program's. -/
theorem refC_eq {m : Nat → Nat → Nat} {n La k : Nat} (hL : 1 ≤ La) (hm : ∀ s l, m s l ≤ n) (hn : ∀ l, m n l = n) (hk : refC m n La (k + 1) = refC m n La k) : refC m n La k = classN m La n := by
  obtain ⟨C, h1, h2, h3, -⟩ := classN_get m La n hL
  refine canon_uniq (by rw [refC_len, classN_len m La n hL]) (by rw [← hk]; exact refR_canon) (by rw [h2, canon_takeN, h3]) (fun s t hs ht => ?_)
  rw [refC_len] at hs ht
  rw [refC_iff hm hn hk hs ht, classN_iff hL (fun s l _ => Nat.lt_succ_of_le (hm s l)) hn hs ht]
theorem refC_get (m : Nat → Nat → Nat) (n La : Nat) (hL : 1 ≤ La) (hm : ∀ s l, m s l ≤ n) (hn : ∀ l, m n l = n) : ∃ K, K ≤ n + 1 ∧ refC m n La (K + 1) = refC m n La K ∧ (∀ j, j < K → refC m n La (j + 1) ≠ refC m n La j) ∧ refC m n La K = classN m La n := by
  obtain ⟨K, hK, hmin⟩ := leastN (P := fun k => refC m n La (k + 1) = refC m n La k) (by obtain ⟨k, -, h⟩ := refC_stops m n La; exact ⟨k, h⟩)
  obtain ⟨k, hk1, hk2⟩ := refC_stops m n La
  exact ⟨K, by
    have : ¬ k < K := fun h => hmin k h hk2
    omega, hK, hmin, refC_eq hL hm hn hK⟩
/-- Numbers of classes are small. -/
theorem refC_small (m : Nat → Nat → Nat) (n La : Nat) : ∀ k, ∀ x ∈ refC m n La k, x ≤ n
  | 0, x, hx => by rw [(List.mem_replicate.1 hx).2]; exact Nat.zero_le _
  | k + 1, x, hx => by
    have := canon_le _ x hx
    rwa [sigs_len] at this
end Go.Proofs.Ytbgfllohedhmaaa
