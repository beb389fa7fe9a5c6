/- Plain facts on the components of a graph. No condition. -/
import Derived.Test.YtfkplnmhlpabaaaKa
namespace Go.Proofs.Ytfkplnmhlpabaaa
set_option linter.unusedVariables false

def rb (es : List E3) (n s t : Nat) : Bool := decide (lenF es n s t ≠ -1)
def compB (es : List E3) (n s t : Nat) : Bool := rb es n s t && rb es n t s
/-- The component of a state. -/
def compF (es : List E3) (n s : Nat) : List Int := mems n (compB es n s)
/-- Whether a state is the least one of its component. -/
def repB (es : List E3) (n s : Nat) : Bool := !(List.range s).any fun r => compB es n r s
def placedB (es : List E3) (n k t : Nat) : Bool := (List.range k).any fun r => compB es n r t
def repsK (es : List E3) (n k : Nat) : List Nat := (List.range k).filter (repB es n)
/-- The components, by their least states. -/
def comps (es : List E3) (n : Nat) : List (List Int) := (repsK es n n).map (compF es n)
theorem placed_rep (es : List E3) (n s : Nat) : placedB es n s s = !repB es n s := by unfold placedB repB; rw [Bool.not_not]
theorem placed_zero (es : List E3) (n t : Nat) : placedB es n 0 t = false := rfl
theorem placed_step (es : List E3) (n k t : Nat) : placedB es n (k + 1) t = (placedB es n k t || compB es n k t) := by
  unfold placedB
  rw [List.range_succ, List.any_append]; simp
theorem repsK_step (es : List E3) (n k : Nat) : repsK es n (k + 1) = if repB es n k = true then repsK es n k ++ [k] else repsK es n k := by
  unfold repsK
  rw [List.range_succ, List.filter_append]
  by_cases h : repB es n k = true
  · rw [if_pos h]; simp [h]
  · rw [if_neg h]; simp [h]
section
variable {L : Int} {n : Nat} {es : List E3}
theorem rb_iff (h : ∀ e ∈ es, okE L (n : Int) e = true) {s t : Nat} (hs : s < n) (ht : t < n) : rb es n s t = true ↔ Rc es (s : Int) (t : Int) := by
  unfold rb; rw [decide_eq_true_iff]; exact lenF_found h hs ht
theorem compB_iff (h : ∀ e ∈ es, okE L (n : Int) e = true) {s t : Nat} (hs : s < n) (ht : t < n) : compB es n s t = true ↔ Rc es (s : Int) (t : Int) ∧ Rc es (t : Int) (s : Int) := by
  unfold compB; rw [Bool.and_eq_true, rb_iff h hs ht, rb_iff h ht hs]
theorem compB_refl (h : ∀ e ∈ es, okE L (n : Int) e = true) {s : Nat} (hs : s < n) : compB es n s s = true := (compB_iff h hs hs).2 ⟨Rc.refl _ _, Rc.refl _ _⟩
theorem compB_symm (es : List E3) (n s t : Nat) : compB es n s t = compB es n t s := by unfold compB; rw [Bool.and_comm]
theorem compB_trans (h : ∀ e ∈ es, okE L (n : Int) e = true) {r s t : Nat} (hr : r < n) (hs : s < n) (ht : t < n) (h1 : compB es n r s = true) (h2 : compB es n s t = true) : compB es n r t = true := by
  rw [compB_iff h hr hs] at h1
  rw [compB_iff h hs ht] at h2
  exact (compB_iff h hr ht).2 ⟨h1.1.trans h2.1, h2.2.trans h1.2⟩
theorem compF_mem (h : ∀ e ∈ es, okE L (n : Int) e = true) {s : Nat} (hs : s < n) {x : Int} : x ∈ compF es n s ↔ ∃ t : Nat, x = (t : Int) ∧ t < n ∧ Rc es (s : Int) (t : Int) ∧ Rc es (t : Int) (s : Int) := by
  unfold compF
  rw [mems_iff]
  exact ⟨fun ⟨i, h1, h2, h3⟩ => ⟨i, h1, h2, (compB_iff h hs h2).1 h3⟩, fun ⟨i, h1, h2, h3⟩ => ⟨i, h1, h2, (compB_iff h hs h2).2 h3⟩⟩
theorem compF_eq (h : ∀ e ∈ es, okE L (n : Int) e = true) {s t : Nat} (hs : s < n) (ht : t < n) (hst : compB es n s t = true) : compF es n s = compF es n t := by
  unfold compF mems
  congr 1
  refine List.filter_congr fun x hx => ?_
  have hx' := List.mem_range.1 hx
  rw [Bool.eq_iff_iff]
  exact ⟨fun h1 => compB_trans h ht hs hx' ((compB_symm es n t s).trans hst) h1, fun h1 => compB_trans h hs ht hx' hst h1⟩
theorem placed_skip (h : ∀ e ∈ es, okE L (n : Int) e = true) {k t : Nat} (hk : k < n) (ht : t < n) (hr : repB es n k = false) : placedB es n (k + 1) t = placedB es n k t := by
  rw [placed_step]
  cases h1 : compB es n k t with
  | false => simp
  | true =>
    rw [Bool.or_true]
    unfold repB at hr
    have hr' : (List.range k).any (fun r => compB es n r k) = true := by simpa using hr
    obtain ⟨r, hr1, hr2⟩ := List.any_eq_true.1 hr'
    have hrk := List.mem_range.1 hr1
    symm
    exact List.any_eq_true.2 ⟨r, hr1, compB_trans h (by omega) hk ht hr2 h1⟩
theorem reps_lt {s k : Nat} (h : s ∈ repsK es n k) : s < k ∧ repB es n s = true := by
  unfold repsK at h
  obtain ⟨h1, h2⟩ := List.mem_filter.1 h
  exact ⟨List.mem_range.1 h1, h2⟩
theorem reps_len (es : List E3) (n k : Nat) : (repsK es n k).length ≤ k := by
  unfold repsK; exact Nat.le_trans (List.length_filter_le _ _) (by simp)
/-- Each state has a least one in its component. -/
theorem rep_of (h : ∀ e ∈ es, okE L (n : Int) e = true) {t : Nat} (ht : t < n) : ∃ s, s ∈ repsK es n n ∧ compB es n s t = true := by
  have : ∀ k s, s ≤ k → s < n → ∃ r, r ∈ repsK es n n ∧ compB es n r s = true := by
    intro k
    induction k with
    | zero =>
      intro s hs hsn
      obtain rfl : s = 0 := by omega
      exact ⟨0, List.mem_filter.2 ⟨List.mem_range.2 hsn, rfl⟩, compB_refl h hsn⟩
    | succ k ih =>
      intro s hs hsn
      cases hr : repB es n s with
      | true => exact ⟨s, List.mem_filter.2 ⟨List.mem_range.2 hsn, hr⟩, compB_refl h hsn⟩
      | false =>
        unfold repB at hr
        have hr' : (List.range s).any (fun r => compB es n r s) = true := by simpa using hr
        obtain ⟨r, hr1, hr2⟩ := List.any_eq_true.1 hr'
        have hrs := List.mem_range.1 hr1
        obtain ⟨q, hq1, hq2⟩ := ih r (by omega) (by omega)
        exact ⟨q, hq1, compB_trans h (reps_lt hq1).1 (by omega) hsn hq2 hr2⟩
  exact this t t (Nat.le_refl _) ht
/-- Two least ones of one component are equal. -/
theorem rep_one {s t : Nat} (hs : s ∈ repsK es n n) (ht : t ∈ repsK es n n) (hst : compB es n s t = true) : s = t := by
  have h1 := (reps_lt hs).2
  have h2 := (reps_lt ht).2
  unfold repB at h1 h2
  rcases Nat.lt_trichotomy s t with h | h | h
  · rw [List.any_eq_true.2 ⟨s, List.mem_range.2 h, hst⟩] at h2; cases h2
  · exact h
  · rw [List.any_eq_true.2 ⟨t, List.mem_range.2 h, (compB_symm es n t s).trans hst⟩] at h1; cases h1
theorem reps_asc (es : List E3) (n k : Nat) : (repsK es n k).Pairwise (· < ·) := List.Pairwise.filter _ (List.pairwise_lt_range)
theorem comps_len (es : List E3) (n : Nat) : (comps es n).length ≤ n := by unfold comps; rw [List.length_map]; exact reps_len _ _ _
theorem comps_mem {c : List Int} (h : c ∈ comps es n) : ∃ s, s ∈ repsK es n n ∧ c = compF es n s := by
  obtain ⟨s, h1, h2⟩ := List.mem_map.1 h; exact ⟨s, h1, h2.symm⟩
theorem compF_asc (es : List E3) (n s : Nat) : (compF es n s).Pairwise (· < ·) := mems_asc _ _
theorem compF_self (h : ∀ e ∈ es, okE L (n : Int) e = true) {s : Nat} (hs : s < n) : (s : Int) ∈ compF es n s := (compF_mem h hs).2 ⟨s, rfl, hs, Rc.refl _ _, Rc.refl _ _⟩
theorem compF_len (es : List E3) (n s : Nat) : (compF es n s).length ≤ n := mems_len _ _
/-- Whether an edge leads from a set to itself (or out of it). -/
def hasEd (es : List E3) (c : List Int) (within : Bool) : Bool := es.any fun e => decide (e.1 ∈ c) && (decide (e.2.2 ∈ c) == within)
def cycs (es : List E3) (n : Nat) : List (List Int) := (comps es n).filter fun c => hasEd es c true
def snks (es : List E3) (n : Nat) : List (List Int) := (comps es n).filter fun c => !hasEd es c false
/-- Whether there is one component only, and it has an edge. -/
def irrB (es : List E3) (n : Nat) : Bool := decide ((cycs es n).length = 1) && decide (((cycs es n).headD []).length = n)
theorem mems_full {n : Nat} {f : Nat → Bool} (h : (mems n f).length = n) : ∀ i, i < n → f i = true := by
  unfold mems at h
  rw [List.length_map] at h
  intro i hi
  have h1 : (List.range n).filter f = List.range n := List.filter_eq_self.2 (by
    have h2 : ((List.range n).filter f).length = (List.range n).length := by rw [h]; simp
    exact fun a ha => List.length_filter_eq_length_iff.1 h2 a ha)
  exact List.filter_eq_self.1 h1 i (List.mem_range.2 hi)
theorem irr_iff (h : ∀ e ∈ es, okE L (n : Int) e = true) : irrB es n = true ↔ es ≠ [] ∧ ∀ s t, s < n → t < n → Rc es (s : Int) (t : Int) := by
  unfold irrB
  rw [Bool.and_eq_true, decide_eq_true_iff, decide_eq_true_iff]
  constructor
  · rintro ⟨h1, h2⟩
    obtain ⟨c, hc⟩ := List.length_eq_one_iff.1 h1
    rw [hc] at h2
    have hcm : c ∈ cycs es n := by rw [hc]; exact List.mem_singleton_self _
    obtain ⟨hc1, hc2⟩ := List.mem_filter.1 hcm
    obtain ⟨r, hr, rfl⟩ := comps_mem hc1
    have hrn := (reps_lt hr).1
    have hf := mems_full (show (mems n (compB es n r)).length = n from h2)
    refine ⟨fun he => (by subst he; cases hc2), fun s t hs ht => ?_⟩
    have a := (compB_iff h hrn hs).1 (hf s hs)
    have b := (compB_iff h hrn ht).1 (hf t ht)
    exact a.2.trans b.1
  · rintro ⟨h1, h2⟩
    obtain ⟨e, he⟩ : ∃ e, e ∈ es := by
      cases es with
      | nil => exact absurd rfl h1
      | cons e es => exact ⟨e, List.mem_cons_self⟩
    obtain ⟨a1, a2, a3, a4⟩ := okE_st (h e he)
    have hn : 0 < n := by omega
    have hall : ∀ s t, s < n → t < n → compB es n s t = true := fun s t hs ht => (compB_iff h hs ht).2 ⟨h2 s t hs ht, h2 t s ht hs⟩
    have hreps : repsK es n n = [0] := by
      obtain ⟨r, hr, hr2⟩ := rep_of h (show 0 < n from hn)
      have hr0 : r = 0 := by
        refine Classical.byContradiction fun hne => ?_
        have h3 := (reps_lt hr).2
        unfold repB at h3
        rw [List.any_eq_true.2 ⟨0, List.mem_range.2 (by omega), hall 0 r hn (reps_lt hr).1⟩] at h3
        cases h3
      subst hr0
      have hone : ∀ x ∈ repsK es n n, x = 0 := fun x hx => (rep_one hr hx (hall 0 x hn (reps_lt hx).1)).symm
      have hp := reps_asc es n n
      match hl : repsK es n n with
      | [] => rw [hl] at hr; cases hr
      | [x] => rw [hone x (by rw [hl]; exact List.mem_singleton_self _)]
      | x :: y :: zs =>
        rw [hl] at hp
        have hx := hone x (by rw [hl]; exact List.mem_cons_self)
        have hy := hone y (by rw [hl]; exact List.mem_cons_of_mem _ List.mem_cons_self)
        have := (List.pairwise_cons.1 hp).1 y List.mem_cons_self
        omega
    have hcomp : compF es n 0 = allI n := mems_all (fun i hi => hall 0 i hn hi)
    have hc : comps es n = [allI n] := by unfold comps; rw [hreps]; simp [hcomp]
    have hed : hasEd es (allI n) true = true := List.any_eq_true.2 ⟨e, he, by
      rw [Bool.and_eq_true, decide_eq_true_iff]
      exact ⟨allI_mem.2 ⟨by omega, by omega⟩, by simp; exact allI_mem.2 ⟨by omega, by omega⟩⟩⟩
    have hcy : cycs es n = [allI n] := by unfold cycs; rw [hc]; simp [hed]
    rw [hcy]
    exact ⟨rfl, by simp [allI_len]⟩
end
end Go.Proofs.Ytfkplnmhlpabaaa
