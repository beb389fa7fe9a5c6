/- Plain facts on deterministic graphs: by pairs of edges, their parts, and single steps. No condition. -/
import Derived.Test.YtiebhalefdpjiaaDoorVbf
import Derived.Test.YtiebhalefdpjiaaDoorVo
namespace Go.Proofs.YtiebhalefdpjiaaDoor
set_option linter.unusedVariables false

theorem detE_pw : ∀ {es : List E3}, es.Pairwise (fun a b => ltE a b = true) → (detE es = true ↔ es.Pairwise (fun a b => ¬ (a.1 = b.1 ∧ a.2.1 = b.2.1)))
  | [], _ => by simp [detE]
  | [a], _ => by simp [detE]
  | a :: b :: r, h => by
    obtain ⟨h1, h2⟩ := List.pairwise_cons.1 h
    obtain ⟨h3, h4⟩ := List.pairwise_cons.1 h2
    have ih := detE_pw h2
    rw [detE, Bool.and_eq_true, ih, List.pairwise_cons (a := a) (l := b :: r)]
    refine and_congr_left (fun hp => ?_)
    simp only [Bool.not_eq_true', Bool.and_eq_false_imp, beq_iff_eq, beq_eq_false_iff_ne]
    constructor
    · intro hab x hx hxx
      rcases List.mem_cons.1 hx with rfl | hx
      · exact hab hxx.1 hxx.2
      · have k1 := (ltE_iff _ _).1 (h1 b List.mem_cons_self)
        have k2 := (ltE_iff _ _).1 (h3 x hx)
        have e1 : a.1 = b.1 := by omega
        exact hab e1 (by omega)
    · intro hab h1 h2
      exact hab b List.mem_cons_self ⟨h1, h2⟩
theorem idx_inj {l : List Int} {a b : Int} (ha : a ∈ l) (hb : b ∈ l) (h : l.idxOf a = l.idxOf b) : a = b := by
  have k1 := idx_get ha
  rw [h, idx_get hb] at k1
  injection k1 with k1
  exact k1.symm
/-- Parts of deterministic graphs are deterministic. -/
theorem det_part {st : List Int} {es : List E3} (hs : st.Pairwise (· < ·)) (he : es.Pairwise (fun a b => ltE a b = true)) (h : detE es = true) : detE (partE st es) = true := by
  rw [detE_pw (part_asc hs he)]
  rw [detE_pw he] at h
  unfold partE
  rw [List.pairwise_filterMap]
  refine h.imp ?_
  intro a b hab x hx y hy
  split at hx
  · split at hy
    · rename_i ha hb
      injection hx with hx
      injection hy with hy
      subst hx
      subst hy
      rintro ⟨h1, h2⟩
      dsimp only at h1 h2
      exact hab ⟨idx_inj ha.1 hb.1 (by omega), h2⟩
    · cases hy
  · cases hx
/-- Where edges with a label lead from a state. -/
def stepS (es : List E3) (s lab : Int) (t : Nat) : Bool := es.any fun e => e.1 == s && e.2.1 == lab && e.2.2 == (t : Int)
theorem stepS_iff {es : List E3} {s lab : Int} {t : Nat} : stepS es s lab t = true ↔ ∃ e ∈ es, e.1 = s ∧ e.2.1 = lab ∧ e.2.2 = (t : Int) := by
  unfold stepS
  simp only [List.any_eq_true, Bool.and_eq_true, beq_iff_eq, and_assoc]
theorem pw_two {es : List E3} (h : es.Pairwise (fun a b => ¬ (a.1 = b.1 ∧ a.2.1 = b.2.1))) {a b : E3} (ha : a ∈ es) (hb : b ∈ es) (h1 : a.1 = b.1) (h2 : a.2.1 = b.2.1) : a = b := by
  obtain ⟨i, hi, rfl⟩ := List.getElem_of_mem ha
  obtain ⟨j, hj, rfl⟩ := List.getElem_of_mem hb
  rcases Nat.lt_or_ge i j with hij | hij
  · exact absurd ⟨h1, h2⟩ (List.pairwise_iff_getElem.1 h i j hi hj hij)
  · rcases Nat.lt_or_ge j i with hji | hji
    · exact absurd ⟨h1.symm, h2.symm⟩ (List.pairwise_iff_getElem.1 h j i hj hi hji)
    · obtain rfl : i = j := by omega
      rfl
theorem two_of {l : List Int} (hp : l.Pairwise (· < ·)) {x y : Int} (hx : x ∈ l) (hy : y ∈ l) (hne : x ≠ y) : 2 ≤ l.length := by
  match l, hx, hy with
  | [], hx, _ => cases hx
  | [a], hx, hy => simp at hx hy; omega
  | a :: b :: r, _, _ => simp
/-- A graph is deterministic exactly if no step from a single state has two results. -/
theorem det_steps {L : Int} {n : Nat} {es : List E3} (h : VG L (n : Int) es) : detE es = true ↔ ∀ (s lab : Nat), s < n → (lab : Int) < L → (mems n (stepS es (s : Int) (lab : Int))).length < 2 := by
  rw [detE_pw h.asc]
  constructor
  · intro hp s lab hs hl
    rcases Nat.lt_or_ge (mems n (stepS es (s : Int) (lab : Int))).length 2 with h1 | h1
    · exact h1
    · exfalso
      have hg := mems_asc n (stepS es (s : Int) (lab : Int))
      have h01 := asc_lt hg (List.getElem?_eq_getElem (i := 0) (by omega)) (List.getElem?_eq_getElem (i := 1) (by omega)) Nat.zero_lt_one
      obtain ⟨i, ei, -, fi⟩ := mems_iff.1 (List.getElem_mem (l := mems n (stepS es (s : Int) (lab : Int))) (n := 0) (by omega))
      obtain ⟨j, ej, -, fj⟩ := mems_iff.1 (List.getElem_mem (l := mems n (stepS es (s : Int) (lab : Int))) (n := 1) (by omega))
      obtain ⟨d, hd, d1, d2, d3⟩ := stepS_iff.1 fi
      obtain ⟨e, he, e1, e2, e3⟩ := stepS_iff.1 fj
      have := pw_two hp hd he (by omega) (by omega)
      rw [this] at d3
      omega
  · intro hu
    rw [List.pairwise_iff_getElem]
    intro i j hi hj hij ⟨h1, h2⟩
    have hlt := (ltE_iff _ _).1 (List.pairwise_iff_getElem.1 h.asc i j hi hj hij)
    have ok1 := okE_iff.1 (h.ok es[i] (List.getElem_mem hi))
    have ok2 := okE_iff.1 (h.ok es[j] (List.getElem_mem hj))
    have hlen := hu es[i].1.toNat es[i].2.1.toNat (by omega) (by omega)
    have := two_of (mems_asc n (stepS es ((es[i].1.toNat : Nat) : Int) ((es[i].2.1.toNat : Nat) : Int))) (x := es[i].2.2) (y := es[j].2.2)
      (mems_iff.2 ⟨es[i].2.2.toNat, by omega, by omega, stepS_iff.2 ⟨es[i], List.getElem_mem hi, by omega, by omega, by omega⟩⟩)
      (mems_iff.2 ⟨es[j].2.2.toNat, by omega, by omega, stepS_iff.2 ⟨es[j], List.getElem_mem hj, by omega, by omega, by omega⟩⟩) (by omega)
    omega
end Go.Proofs.YtiebhalefdpjiaaDoor
