/- Plain facts on merged graphs. No condition. Plain facts on steps in a deterministic graph. No condition. Plain facts: the merged graph of a deterministic graph: its steps, its words, its classes. No condition. -/
import Derived.Test.YtiockphjnkehnaaGreatDoorQ18
import Derived.Test.YtiockphjnkehnaaGreatDoorQ19
import Derived.Test.YtiockphjnkehnaaGreatDoorQ16

namespace Go.Proofs.YtiockphjnkehnaaGreatDoor
set_option linter.unusedVariables false

def mgE (es : List E3) (c : List Nat) : List E3 := es.map fun e => (((c.getD e.1.toNat 0 : Nat) : Int), e.2.1, ((c.getD e.2.2.toNat 0 : Nat) : Int))
def numC (c : List Nat) : Nat := c.foldl (fun m x => max m (x + 1)) 0
theorem numC_snoc (c : List Nat) (x : Nat) : numC (c ++ [x]) = max (numC c) (x + 1) := by unfold numC; rw [List.foldl_append]; rfl
theorem numC_lt : ∀ c : List Nat, ∀ x ∈ c, x < numC c := by
  intro c
  refine snocI (P := fun c => ∀ x ∈ c, x < numC c) (fun x hx => by cases hx) (fun w l ih x hx => ?_) c
  rw [numC_snoc]
  rw [List.mem_append, List.mem_singleton] at hx
  rcases hx with hx | rfl
  · have := ih x hx; omega
  · omega
theorem numC_le {B : Nat} : ∀ c : List Nat, (∀ x ∈ c, x < B) → numC c ≤ B := by
  intro c
  refine snocI (P := fun c => (∀ x ∈ c, x < B) → numC c ≤ B) (fun _ => Nat.zero_le _) (fun w l ih h => ?_) c
  rw [numC_snoc]
  have h1 := ih (fun x hx => h x (List.mem_append_left _ hx))
  have h2 := h l (by simp)
  omega
theorem canon_small {α : Type} [DecidableEq α] (l : List α) {i x : Nat} (h : (canon l)[i]? = some x) : x ≤ i := by
  have hi : i < l.length := by
    have := (List.getElem?_eq_some_iff.1 h).1
    rwa [canon_len] at this
  have hx := List.getElem?_eq_getElem hi
  rw [canon_at hx] at h
  injection h with h
  rw [canon_step hx] at h
  have h1 := firsts_le (l.take (i + 1))
  rw [List.length_take] at h1
  have h2 : (firsts (l.take (i + 1))).idxOf l[i] < (firsts (l.take (i + 1))).length := List.idxOf_lt_length_iff.2 ((firsts_mem _ _).2 (mem_take_iff.2 ⟨i, by omega, hx⟩))
  omega
theorem classN_get (m : Nat → Nat → Nat) (La n : Nat) (hL : 1 ≤ La) : ∃ C : List Nat, C.length = n + 1 ∧ classN m La n = C.take n ∧ canon C = C ∧ ((∀ s l, s < n + 1 → m s l < n + 1) → (∀ l, m n l = n) → ∀ s t, s < n + 1 → t < n + 1 →
    (C.getD s 0 = C.getD t 0 ↔ ∀ w : List Nat, (∀ l ∈ w, l < La) → (mrun m s w = n ↔ mrun m t w = n))) := by
  obtain ⟨K, -, h2, -, h4⟩ := stopC_get m La n hL
  refine ⟨rndC m La (startC n) K, by rw [rndC_len, startC_len], h4, ?_, fun hm hn s t hs ht => rndC_iff hm hn h2 hs ht⟩
  rw [← h2]
  exact roundC_canon m La _ hL
theorem classN_len (m : Nat → Nat → Nat) (La n : Nat) (hL : 1 ≤ La) : (classN m La n).length = n := by
  obtain ⟨C, h1, h2, -⟩ := classN_get m La n hL
  rw [h2, List.length_take, h1]; omega
theorem classN_small {m : Nat → Nat → Nat} {La n : Nat} (hL : 1 ≤ La) {i x : Nat} (h : (classN m La n)[i]? = some x) : x ≤ i := by
  obtain ⟨C, h1, h2, h3, -⟩ := classN_get m La n hL
  have hi : i < n := by
    have := (List.getElem?_eq_some_iff.1 h).1
    rwa [classN_len m La n hL] at this
  rw [h2, List.getElem?_take_of_lt hi, ← h3] at h
  exact canon_small C h
theorem classN_num (m : Nat → Nat → Nat) (La n : Nat) (hL : 1 ≤ La) : numC (classN m La n) ≤ n := by
  refine numC_le _ (fun x hx => ?_)
  obtain ⟨i, hi⟩ := List.mem_iff_getElem?.1 hx
  have h1 := classN_small hL hi
  have h2 := (List.getElem?_eq_some_iff.1 hi).1
  rw [classN_len m La n hL] at h2
  omega
theorem classN_iff {m : Nat → Nat → Nat} {La n : Nat} (hL : 1 ≤ La) (hm : ∀ s l, s < n + 1 → m s l < n + 1) (hn : ∀ l, m n l = n) {s t : Nat} (hs : s < n) (ht : t < n) :
    (classN m La n).getD s 0 = (classN m La n).getD t 0 ↔ ∀ w : List Nat, (∀ l ∈ w, l < La) → (mrun m s w = n ↔ mrun m t w = n) := by
  obtain ⟨C, h1, h2, h3, h4⟩ := classN_get m La n hL
  have hg : ∀ k, k < n → (classN m La n).getD k 0 = C.getD k 0 := fun k hk => by
    rw [h2, List.getD_eq_getElem?_getD, List.getElem?_take_of_lt hk, ← List.getD_eq_getElem?_getD]
  rw [hg s hs, hg t ht]
  exact h4 hm hn s t (by omega) (by omega)
theorem mgE_len (es : List E3) (c : List Nat) : (mgE es c).length = es.length := by unfold mgE; rw [List.length_map]
theorem getD_mem {c : List Nat} {i : Nat} (h : i < c.length) : c.getD i 0 ∈ c := by
  rw [List.getD_eq_getElem?_getD, List.getElem?_eq_getElem h]
  exact List.getElem_mem h
theorem merged_vg {La n : Nat} {es : List E3} {c : List Nat} (hvg : VG (La : Int) (n : Int) es) (hc : c.length = n) (hnc : numC c ≤ 64) : VG (La : Int) ((numC c : Nat) : Int) (mkE (mgE es c)) := by
  refine ⟨hvg.l1, hvg.l2, by omega, by omega, ?_, fun e he => ?_, mkE_pw _⟩
  · have h1 := mkE_len (mgE es c)
    rw [mgE_len] at h1
    have := hvg.len
    omega
  · rw [mkE_mem] at he
    unfold mgE at he
    obtain ⟨f, hf, rfl⟩ := List.mem_map.1 he
    have h1 := okE_iff.1 (hvg.ok f hf)
    have h2 := numC_lt c _ (getD_mem (c := c) (i := f.1.toNat) (by omega))
    have h3 := numC_lt c _ (getD_mem (c := c) (i := f.2.2.toNat) (by omega))
    refine okE_iff.2 ?_
    dsimp only
    omega
end Go.Proofs.YtiockphjnkehnaaGreatDoor

namespace Go.Proofs.YtiockphjnkehnaaGreatDoor
set_option linter.unusedVariables false

theorem detE_pwH : ∀ {es : List E3}, es.Pairwise (fun a b => ltE a b = true) → (detE es = true ↔ es.Pairwise (fun a b => ¬ (a.1 = b.1 ∧ a.2.1 = b.2.1)))
  | [], _ => by simp [detE]
  | [a], _ => by simp [detE]
  | a :: b :: r, h => by
    obtain ⟨h1, h2⟩ := List.pairwise_cons.1 h
    obtain ⟨h3, h4⟩ := List.pairwise_cons.1 h2
    have ih := detE_pwH h2
    rw [detE, Bool.and_eq_true, ih, List.pairwise_cons (a := a) (l := b :: r)]
    refine and_congr_left (fun hp => ?_)
    simp only [Bool.not_eq_true', Bool.and_eq_false_imp, beq_iff_eq, beq_eq_false_iff_ne]
    constructor
    · intro hab x hx hxx
      rcases List.mem_cons.1 hx with rfl | hx
      · exact hab hxx.1 hxx.2
      · have k1 := (ltE_iff _ _).1 (h1 b List.mem_cons_self)
        have k2 := (ltE_iff _ _).1 (h3 x hx)
        have e1 : a.1 = b.1 := by omega
        exact hab e1 (by omega)
    · intro hab h1 h2
      exact hab b List.mem_cons_self ⟨h1, h2⟩
theorem det_uqH {es : List E3} {La S : Int} (hvg : VG La S es) (hd : detE es = true) {e f : E3} (he : e ∈ es) (hf : f ∈ es) (h1 : e.1 = f.1) (h2 : e.2.1 = f.2.1) : e = f := by
  have hp := (detE_pwH hvg.asc).1 hd
  rw [List.pairwise_iff_getElem] at hp
  obtain ⟨i, hi, rfl⟩ := List.mem_iff_getElem.1 he
  obtain ⟨j, hj, rfl⟩ := List.mem_iff_getElem.1 hf
  rcases Nat.lt_trichotomy i j with h | h | h
  · exact absurd ⟨h1, h2⟩ (hp i j hi hj h)
  · subst h; rfl
  · exact absurd ⟨h1.symm, h2.symm⟩ (hp j i hj hi h)
theorem mT_hit {n j l : Nat} : ∀ {es : List E3}, (∃ e ∈ es, e.1 = (j : Int) ∧ e.2.1 = (l : Int)) → ∃ e ∈ es, e.1 = (j : Int) ∧ e.2.1 = (l : Int) ∧ e.2.2.toNat = mT n es j l := by
  intro es
  refine snocI (P := fun es => (∃ e ∈ es, e.1 = (j : Int) ∧ e.2.1 = (l : Int)) → ∃ e ∈ es, e.1 = (j : Int) ∧ e.2.1 = (l : Int) ∧ e.2.2.toNat = mT n es j l) (fun h => ?_) (fun es f ih h => ?_) es
  · obtain ⟨e, he, -⟩ := h
    cases he
  · rw [mT_snoc]
    by_cases hf : f.1 = (j : Int) ∧ f.2.1 = (l : Int)
    · rw [if_pos hf]
      exact ⟨f, by simp, hf.1, hf.2, rfl⟩
    · rw [if_neg hf]
      obtain ⟨e, he, h1, h2⟩ := h
      rw [List.mem_append, List.mem_singleton] at he
      rcases he with he | rfl
      · obtain ⟨e2, he2, h3⟩ := ih ⟨e, he, h1, h2⟩
        exact ⟨e2, List.mem_append_left _ he2, h3⟩
      · exact absurd ⟨h1, h2⟩ hf
theorem mT_miss {n j l : Nat} {es : List E3} (h : ¬ ∃ e ∈ es, e.1 = (j : Int) ∧ e.2.1 = (l : Int)) : mT n es j l = n :=
  mT_ind (P := fun x => x = n) rfl (fun e he h1 h2 => absurd ⟨e, he, h1, h2⟩ h)
theorem mrun_le {m : Nat → Nat → Nat} {n : Nat} (hm : ∀ x l, x ≤ n → m x l ≤ n) : ∀ (w : List Nat) {s : Nat}, s ≤ n → mrun m s w ≤ n
  | [], _, h => h
  | l :: w, s, h => by rw [mrun_cons]; exact mrun_le hm w (hm s l h)
end Go.Proofs.YtiockphjnkehnaaGreatDoor

namespace Go.Proofs.YtiockphjnkehnaaGreatDoor
set_option linter.unusedVariables false

theorem classN_step {m : Nat → Nat → Nat} {La n : Nat} (hL : 1 ≤ La) (hm : ∀ s l, s < n + 1 → m s l < n + 1) (hn : ∀ l, m n l = n) {s t l : Nat} (hs : s < n) (ht : t < n) (hl : l < La) (e : (classN m La n).getD s 0 = (classN m La n).getD t 0) :
    (m s l = n ↔ m t l = n) ∧ (m s l < n → m t l < n → (classN m La n).getD (m s l) 0 = (classN m La n).getD (m t l) 0) := by
  have h := (classN_iff hL hm hn hs ht).1 e
  refine ⟨h [l] (by simpa using hl), fun h1 h2 => (classN_iff hL hm hn h1 h2).2 fun w hw => ?_⟩
  exact h (l :: w) (fun x hx => by
    rcases List.mem_cons.1 hx with rfl | hx
    · exact hl
    · exact hw x hx)
theorem mT_of {La n : Nat} {es : List E3} (hvg : VG (La : Int) (n : Int) es) (hd : detE es = true) {e : E3} (he : e ∈ es) : mT n es e.1.toNat e.2.1.toNat = e.2.2.toNat := by
  have hok := okE_iff.1 (hvg.ok e he)
  obtain ⟨f, hf, h1, h2, h3⟩ := mT_hit (n := n) (j := e.1.toNat) (l := e.2.1.toNat) (es := es) ⟨e, he, by omega, by omega⟩
  have := det_uqH hvg hd hf he (by omega) (by omega)
  subst this
  exact h3.symm
section
variable {La n : Nat} {es : List E3} {c : List Nat}
theorem mg_mem {f : E3} : f ∈ mkE (mgE es c) ↔ ∃ g ∈ es, f = (((c.getD g.1.toNat 0 : Nat) : Int), g.2.1, ((c.getD g.2.2.toNat 0 : Nat) : Int)) := by
  rw [mkE_mem]
  unfold mgE
  rw [List.mem_map]
  constructor
  · rintro ⟨g, hg, rfl⟩; exact ⟨g, hg, rfl⟩
  · rintro ⟨g, hg, rfl⟩; exact ⟨g, hg, rfl⟩
theorem merged_det (hvg : VG (La : Int) (n : Int) es) (hd : detE es = true) (hc : classN (mT n es) La n = c) : detE (mkE (mgE es c)) = true := by
  have hL1 : 1 ≤ La := by have := hvg.l1; omega
  have hm : ∀ s l, s < n + 1 → mT n es s l < n + 1 := fun s l _ => Nat.lt_succ_of_le (mT_le hvg.ok s l)
  have hn : ∀ l, mT n es n l = n := fun l => mT_none hvg.ok l
  refine (detE_pwH (mkE_pw _)).2 ?_
  refine (mkE_pw (mgE es c)).imp_of_mem ?_
  rintro a b ha hb hlt ⟨h1, h2⟩
  obtain ⟨f, hf, rfl⟩ := mg_mem.1 ha
  obtain ⟨g, hg, rfl⟩ := mg_mem.1 hb
  have k1 := okE_iff.1 (hvg.ok f hf)
  have k2 := okE_iff.1 (hvg.ok g hg)
  have m1 := mT_of hvg hd hf
  have m2 := mT_of hvg hd hg
  dsimp only at h1 h2
  rw [← h2] at m2
  have h5 : c.getD f.1.toNat 0 = c.getD g.1.toNat 0 := by omega
  rw [← hc] at h5
  obtain ⟨-, h7⟩ := classN_step hL1 hm hn (s := f.1.toNat) (t := g.1.toNat) (l := f.2.1.toNat) (by omega) (by omega) (by omega) h5
  have h8 := h7 (by omega) (by omega)
  rw [m1, m2, hc] at h8
  have k3 := (ltE_iff _ _).1 hlt
  dsimp only at k3
  omega
end
end Go.Proofs.YtiockphjnkehnaaGreatDoor
