/- What graph.essential returns: the states of the greatest set in which every state is entered and left. Conditions: at most 64 states, edges between states. -/
import Derived.Test.YtfkplnmhlpabaaaVh
namespace Go.Proofs.Ytfkplnmhlpabaaa
open Go.RowKit
set_option linter.unusedSimpArgs false
set_option linter.unusedVariables false

/-- Every state of T has an edge to it, and one from it, between states of T. -/
def Closed (n : Nat) (es : List E3) (T : Nat → Bool) : Prop := ∀ i, i < n → T i = true → passF T es i = true
structure Ess (n : Nat) (es : List E3) (f : Nat → Bool) : Prop where
  fix : ∀ i, i < n → passF f es i = f i
  most : ∀ T, Closed n es T → ∀ i, i < n → T i = true → f i = true
theorem passF_iff {f : Nat → Bool} {es : List E3} {s : Nat} : passF f es s = true ↔ (∃ e ∈ es, (f e.1.toNat = true ∧ f e.2.2.toNat = true) ∧ e.2.2 = (s : Int)) ∧ (∃ e ∈ es, (f e.1.toNat = true ∧ f e.2.2.toNat = true) ∧ e.1 = (s : Int)) := by
  unfold passF enteredF leftF bothF
  simp only [Bool.and_eq_true, List.any_eq_true, decide_eq_true_eq]
theorem okE_st {L : Int} {n : Nat} {e : E3} (h : okE L (n : Int) e = true) : e.1.toNat < n ∧ e.2.2.toNat < n ∧ e.1 = (e.1.toNat : Int) ∧ e.2.2 = (e.2.2.toNat : Int) := by
  rw [okE_iff] at h; omega
theorem passF_le {L : Int} {n : Nat} {es : List E3} (hok : ∀ e ∈ es, okE L (n : Int) e = true) {f : Nat → Bool} {s : Nat} (h : passF f es s = true) : f s = true := by
  obtain ⟨⟨e, he, ⟨-, h2⟩, h3⟩, -⟩ := passF_iff.1 h
  rw [h3] at h2; simpa using h2
theorem passF_mono {L : Int} {n : Nat} {es : List E3} (hok : ∀ e ∈ es, okE L (n : Int) e = true) {f g : Nat → Bool} (hfg : ∀ i, i < n → f i = true → g i = true) {s : Nat} (h : passF f es s = true) : passF g es s = true := by
  obtain ⟨⟨e, he, ⟨h1, h2⟩, h3⟩, ⟨d, hd, ⟨k1, k2⟩, k3⟩⟩ := passF_iff.1 h
  obtain ⟨a1, a2, -, -⟩ := okE_st (hok e he)
  obtain ⟨b1, b2, -, -⟩ := okE_st (hok d hd)
  exact passF_iff.2 ⟨⟨e, he, ⟨hfg _ a1 h1, hfg _ a2 h2⟩, h3⟩, ⟨d, hd, ⟨hfg _ b1 k1, hfg _ b2 k2⟩, k3⟩⟩
theorem passF_congr {L : Int} {n : Nat} {es : List E3} (hok : ∀ e ∈ es, okE L (n : Int) e = true) {f g : Nat → Bool} (hfg : ∀ i, i < n → f i = g i) (s : Nat) : passF f es s = passF g es s := by
  rw [Bool.eq_iff_iff]
  exact ⟨passF_mono hok (fun i hi h => (hfg i hi) ▸ h), passF_mono hok (fun i hi h => (hfg i hi) ▸ h)⟩
def cntF (n : Nat) (f : Nat → Bool) : Nat := ((List.range n).filter f).length
theorem cntF_le (n : Nat) (f : Nat → Bool) : cntF n f ≤ n := by
  unfold cntF; exact Nat.le_trans (List.length_filter_le _ _) (by simp)
theorem filter_sub {α : Type} (l : List α) {f g : α → Bool} (h : ∀ x ∈ l, f x = true → g x = true) : (l.filter f).length ≤ (l.filter g).length := by
  induction l with
  | nil => exact Nat.le_refl _
  | cons a l ih =>
    have ih2 := ih (fun x hx => h x (List.mem_cons_of_mem _ hx))
    have ha := h a List.mem_cons_self
    rw [List.filter_cons, List.filter_cons]
    cases hf : f a with
    | true =>
      rw [ha hf]
      simpa using ih2
    | false =>
      cases hg : g a with
      | true => simp; omega
      | false => simpa using ih2
theorem filter_less {α : Type} (l : List α) {f g : α → Bool} (h : ∀ x ∈ l, f x = true → g x = true) (h2 : ∃ x ∈ l, f x ≠ g x) : (l.filter f).length < (l.filter g).length := by
  induction l with
  | nil => obtain ⟨x, hx, _⟩ := h2; cases hx
  | cons a l ih =>
    have hs := filter_sub l (fun x hx => h x (List.mem_cons_of_mem _ hx))
    have ha := h a List.mem_cons_self
    obtain ⟨x, hx, hne⟩ := h2
    rw [List.filter_cons, List.filter_cons]
    cases hf : f a with
    | true =>
      rw [ha hf]
      have : ∃ x ∈ l, f x ≠ g x := by
        rcases List.mem_cons.1 hx with rfl | hx
        · exact absurd (hf.trans (ha hf).symm) hne
        · exact ⟨x, hx, hne⟩
      have := ih (fun x hx => h x (List.mem_cons_of_mem _ hx)) this
      simpa using this
    | false =>
      cases hg : g a with
      | true => simp; omega
      | false =>
        have : ∃ x ∈ l, f x ≠ g x := by
          rcases List.mem_cons.1 hx with rfl | hx
          · exact absurd (hf.trans hg.symm) hne
          · exact ⟨x, hx, hne⟩
        have := ih (fun x hx => h x (List.mem_cons_of_mem _ hx)) this
        simpa using this
theorem cntF_less {n : Nat} {f g : Nat → Bool} (h : ∀ i, i < n → f i = true → g i = true) (h2 : sameF n f g = false) : cntF n f < cntF n g := by
  refine filter_less _ (fun x hx => h x (List.mem_range.1 hx)) ?_
  have : ¬ ∀ i, i < n → f i = g i := fun h3 => by rw [sameF_true.2 h3] at h2; cases h2
  simp only [Classical.not_forall] at this
  obtain ⟨x, hx, hne⟩ := this
  exact ⟨x, List.mem_range.2 hx, hne⟩
end Go.Proofs.Ytfkplnmhlpabaaa
