/- Plain facts on lists of labels in order of their length, and then of their labels; searches breadth first. No condition. Plain facts on a search breadth first over pairs of states of two machines. No condition. Plain: edges sorted and each once (mkE), reversed edges (revE), and what slices.Compact makes of a list (ddE). No condition. -/
import Derived.Test.YtiockphjnkehnaaGreatDoorQ01
import Derived.Test.YtiockphjnkehnaaGreatDoorQ18

namespace Go.Proofs.YtiockphjnkehnaaGreatDoor

def cmpL : List Int → List Int → Int
  | [], [] => 0
  | [], _ :: _ => -1
  | _ :: _, [] => 1
  | x :: xs, y :: ys => if x < y then -1 else if y < x then 1 else cmpL xs ys
def slt (u v : List Int) : Prop := u.length < v.length ∨ (u.length = v.length ∧ cmpL u v < 0)
def sle (u v : List Int) : Prop := u.length < v.length ∨ (u.length = v.length ∧ cmpL u v ≤ 0)
instance (u v : List Int) : Decidable (slt u v) := by unfold slt; infer_instance
instance (u v : List Int) : Decidable (sle u v) := by unfold sle; infer_instance
theorem cmpL_refl : ∀ u, cmpL u u = 0
  | [] => rfl
  | x :: xs => by unfold cmpL; rw [if_neg (by omega), if_neg (by omega)]; exact cmpL_refl xs
theorem cmpL_turn : ∀ u v, cmpL u v = - cmpL v u
  | [], [] => rfl
  | [], _ :: _ => rfl
  | _ :: _, [] => rfl
  | x :: xs, y :: ys => by
    unfold cmpL
    by_cases h1 : x < y
    · rw [if_pos h1, if_neg (by omega), if_pos h1]
    · by_cases h2 : y < x
      · rw [if_neg h1, if_pos h2, if_pos h2]; rfl
      · rw [if_neg h1, if_neg h2, if_neg h2, if_neg h1]; exact cmpL_turn xs ys
theorem cmpL_eq : ∀ {u v}, cmpL u v = 0 → u = v
  | [], [], _ => rfl
  | [], _ :: _, h => by cases h
  | _ :: _, [], h => by cases h
  | x :: xs, y :: ys, h => by
    unfold cmpL at h
    by_cases h1 : x < y
    · rw [if_pos h1] at h; cases h
    · by_cases h2 : y < x
      · rw [if_neg h1, if_pos h2] at h; cases h
      · rw [if_neg h1, if_neg h2] at h
        rw [cmpL_eq h, show x = y by omega]
theorem cmpL_trans : ∀ {u v w}, cmpL u v ≤ 0 → cmpL v w ≤ 0 → cmpL u w ≤ 0 ∧ ((cmpL u v < 0 ∨ cmpL v w < 0) → cmpL u w < 0)
  | [], [], [], _, _ => ⟨Int.le_refl _, fun h => by rcases h with h | h <;> exact absurd h (by decide)⟩
  | [], _, _ :: _, _, _ => ⟨by show (-1 : Int) ≤ 0; decide, fun _ => by show (-1 : Int) < 0; decide⟩
  | [], _ :: _, [], _, h => absurd h (by show ¬ (1 : Int) ≤ 0; decide)
  | _ :: _, [], _, h, _ => absurd h (by show ¬ (1 : Int) ≤ 0; decide)
  | _ :: _, _ :: _, [], _, h => absurd h (by show ¬ (1 : Int) ≤ 0; decide)
  | x :: xs, y :: ys, z :: zs, h1, h2 => by
    unfold cmpL at h1 h2 ⊢
    by_cases a1 : x < y
    · by_cases b1 : y < z
      · rw [if_pos (show x < z by omega)]; exact ⟨by decide, fun _ => by decide⟩
      · by_cases b2 : z < y
        · rw [if_neg b1, if_pos b2] at h2; exact absurd h2 (by decide)
        · rw [if_pos (show x < z by omega)]; exact ⟨by decide, fun _ => by decide⟩
    · by_cases a2 : y < x
      · rw [if_neg a1, if_pos a2] at h1; exact absurd h1 (by decide)
      · rw [if_neg a1, if_neg a2] at h1
        by_cases b1 : y < z
        · rw [if_pos (show x < z by omega)]; exact ⟨by decide, fun _ => by decide⟩
        · by_cases b2 : z < y
          · rw [if_neg b1, if_pos b2] at h2; exact absurd h2 (by decide)
          · rw [if_neg b1, if_neg b2] at h2
            have h3 := cmpL_trans h1 h2
            rw [if_neg (show ¬ x < z by omega), if_neg (show ¬ z < x by omega), if_neg a1, if_neg a2, if_neg b1, if_neg b2]
            exact h3
theorem cmpL_snoc : ∀ {u v : List Int} (x y : Int), u.length = v.length → cmpL (u ++ [x]) (v ++ [y]) = if cmpL u v = 0 then (if x < y then -1 else if y < x then 1 else 0) else cmpL u v
  | [], [], x, y, _ => by rw [show cmpL [] [] = 0 from rfl, if_pos rfl]; rfl
  | [], _ :: _, _, _, h => by cases h
  | _ :: _, [], _, _, h => by cases h
  | a :: u, b :: v, x, y, h => by
    have h2 : u.length = v.length := by simpa using h
    have ih := cmpL_snoc x y h2
    rw [List.cons_append, List.cons_append]
    unfold cmpL
    by_cases h3 : a < b
    · rw [if_pos h3, if_pos h3, if_neg (by decide)]
    · by_cases h4 : b < a
      · rw [if_neg h3, if_pos h4, if_neg h3, if_pos h4, if_neg (by decide)]
      · rw [if_neg h3, if_neg h4, if_neg h3, if_neg h4]; exact ih
theorem sle_refl (u : List Int) : sle u u := .inr ⟨rfl, by rw [cmpL_refl]; decide⟩
theorem slt_sle {u v : List Int} (h : slt u v) : sle u v := by unfold slt at h; unfold sle; omega
theorem sle_trans {u v w : List Int} (h1 : sle u v) (h2 : sle v w) : sle u w := by
  unfold sle at *
  rcases h1 with h1 | ⟨h1, h3⟩ <;> rcases h2 with h2 | ⟨h2, h4⟩
  · exact .inl (by omega)
  · exact .inl (by omega)
  · exact .inl (by omega)
  · exact .inr ⟨by omega, (cmpL_trans h3 h4).1⟩
theorem slt_of_slt_sle {u v w : List Int} (h1 : slt u v) (h2 : sle v w) : slt u w := by
  unfold sle slt at *
  rcases h1 with h1 | ⟨h1, h3⟩ <;> rcases h2 with h2 | ⟨h2, h4⟩
  · exact .inl (by omega)
  · exact .inl (by omega)
  · exact .inl (by omega)
  · exact .inr ⟨by omega, (cmpL_trans (by omega) h4).2 (.inl h3)⟩
theorem sle_antisymm {u v : List Int} (h1 : sle u v) (h2 : sle v u) : u = v := by
  unfold sle at *
  have h3 := cmpL_turn u v
  rcases h1 with h1 | ⟨h1, h4⟩ <;> rcases h2 with h2 | ⟨h2, h5⟩
  · omega
  · omega
  · omega
  · exact cmpL_eq (by omega)
theorem sle_or (u v : List Int) : sle u v ∨ slt v u := by
  unfold sle slt
  have h3 := cmpL_turn u v
  omega
theorem slt_snoc {u v : List Int} (x y : Int) (h : slt u v) : slt (u ++ [x]) (v ++ [y]) := by
  unfold slt at *
  rw [List.length_append, List.length_append]
  rcases h with h | ⟨h1, h2⟩
  · exact .inl (by simp; omega)
  · refine .inr ⟨by simp; omega, ?_⟩
    rw [cmpL_snoc x y h1, if_neg (by omega)]; exact h2
theorem slt_last {u : List Int} {x y : Int} (h : x < y) : slt (u ++ [x]) (u ++ [y]) := by
  refine .inr ⟨by simp, ?_⟩
  rw [cmpL_snoc x y rfl, cmpL_refl, if_pos rfl, if_pos h]; decide
theorem slt_more (u : List Int) (x : Int) : slt u (u ++ [x]) := .inl (by simp)
theorem sle_snoc {u v : List Int} (x : Int) (h : sle u v) : sle (u ++ [x]) (v ++ [x]) := by
  rcases sle_or v u with h2 | h2
  · rw [sle_antisymm h h2]; exact sle_refl _
  · exact slt_sle (slt_snoc x x h2)
structure Bfs {α : Type} (step : α → Nat → Option α) (La : Nat) (i c : Nat) (Q : List (List Int × α)) : Prop where
  asc : Q.Pairwise fun a b => slt a.1 b.1
  top : ∀ q ∈ Q, ∀ p, Q[i]? = some p → slt q.1 (p.1 ++ [(c : Int)])
  clo : ∀ j l p b, (j < i ∧ l < La ∨ j = i ∧ l < c) → Q[j]? = some p → step p.2 l = some b → ∃ q ∈ Q, q.2 = b ∧ sle q.1 (p.1 ++ [(l : Int)])
theorem Bfs.start {α : Type} (step : α → Nat → Option α) (La : Nat) (a : α) : Bfs step La 0 0 [([], a)] := by
  refine ⟨List.pairwise_singleton _ _, fun q hq p hp => ?_, fun j l p b h _ _ => by omega⟩
  rw [List.mem_singleton] at hq
  subst hq
  exact .inl (by simp)
theorem Bfs.skip {α : Type} {step : α → Nat → Option α} {La i c : Nat} {Q : List (List Int × α)} (h : Bfs step La i c Q) {p : List Int × α} (hp : Q[i]? = some p)
    (h2 : ∀ b, step p.2 c = some b → ∃ q ∈ Q, q.2 = b) : Bfs step La i (c + 1) Q := by
  refine ⟨h.asc, fun q hq p' hp' => ?_, fun j l p' b hjl hp' hb => ?_⟩
  · exact slt_of_slt_sle (h.top q hq p' hp') (slt_sle (slt_last (by omega)))
  · by_cases h3 : j = i ∧ l = c
    · obtain ⟨rfl, rfl⟩ := h3
      rw [hp] at hp'
      injection hp' with hp'
      subst hp'
      obtain ⟨q, hq, e⟩ := h2 b hb
      exact ⟨q, hq, e, slt_sle (h.top q hq p hp)⟩
    · exact h.clo j l p' b (by omega) hp' hb
theorem Bfs.add {α : Type} {step : α → Nat → Option α} {La i c : Nat} {Q : List (List Int × α)} (h : Bfs step La i c Q) {p : List Int × α} (hp : Q[i]? = some p)
    {b : α} (h2 : step p.2 c = some b) : Bfs step La i (c + 1) (Q ++ [(p.1 ++ [(c : Int)], b)]) := by
  have hi : i < Q.length := (List.getElem?_eq_some_iff.1 hp).1
  have hold : ∀ {j : Nat}, j ≤ i → (Q ++ [(p.1 ++ [(c : Int)], b)])[j]? = Q[j]? := fun hj => List.getElem?_append_left (by omega)
  refine ⟨?_, fun q hq p' hp' => ?_, fun j l p' b' hjl hp' hb => ?_⟩
  · rw [List.pairwise_append]
    refine ⟨h.asc, List.pairwise_singleton _ _, fun x hx y hy => ?_⟩
    rw [List.mem_singleton] at hy
    subst hy
    exact h.top x hx p hp
  · rw [hold (Nat.le_refl _)] at hp'
    rw [hp] at hp'
    injection hp' with hp'
    subst hp'
    rw [List.mem_append, List.mem_singleton] at hq
    rcases hq with hq | rfl
    · exact slt_of_slt_sle (h.top q hq p hp) (slt_sle (slt_last (by omega)))
    · exact slt_last (by omega)
  · have hj : j ≤ i := by omega
    rw [hold hj] at hp'
    by_cases h3 : j = i ∧ l = c
    · obtain ⟨rfl, rfl⟩ := h3
      rw [hp] at hp'
      injection hp' with hp'
      subst hp'
      rw [h2] at hb
      injection hb with hb
      subst hb
      exact ⟨_, List.mem_append_right _ (List.mem_singleton.2 rfl), rfl, sle_refl _⟩
    · obtain ⟨q, hq, e1, e2⟩ := h.clo j l p' b' (by omega) hp' hb
      exact ⟨q, List.mem_append_left _ hq, e1, e2⟩
theorem Bfs.next {α : Type} {step : α → Nat → Option α} {La i : Nat} {Q : List (List Int × α)} (h : Bfs step La i La Q) : Bfs step La (i + 1) 0 Q := by
  refine ⟨h.asc, fun q hq p hp => ?_, fun j l p b hjl hp hb => h.clo j l p b (by omega) hp hb⟩
  have hi : i + 1 < Q.length := (List.getElem?_eq_some_iff.1 hp).1
  obtain ⟨o, ho⟩ : ∃ o, Q[i]? = some o := ⟨_, List.getElem?_eq_getElem (by omega)⟩
  have h1 := h.top q hq o ho
  have h2 : slt o.1 p.1 := by
    have h3 := List.pairwise_iff_getElem.1 h.asc i (i + 1) (by omega) hi (by omega)
    rw [List.getElem?_eq_getElem (by omega)] at ho hp
    injection ho with ho
    injection hp with hp
    rw [ho, hp] at h3
    exact h3
  exact slt_of_slt_sle h1 (slt_sle (slt_snoc _ _ h2))
def runS {α : Type} (step : α → Nat → Option α) : α → List Nat → Option α
  | a, [] => some a
  | a, l :: w => (step a l).bind fun b => runS step b w
def labsI (w : List Nat) : List Int := w.map fun (x : Nat) => (x : Int)
theorem runS_snoc {α : Type} (step : α → Nat → Option α) : ∀ (a : α) (w : List Nat) (l : Nat), runS step a (w ++ [l]) = (runS step a w).bind fun b => step b l
  | a, [], l => by
    show (step a l).bind (fun b => runS step b []) = step a l
    cases step a l <;> rfl
  | a, x :: w, l => by
    rw [List.cons_append]
    unfold runS
    cases h : step a x with
    | none => rfl
    | some b => exact runS_snoc step b w l
theorem snocI {α : Type} {P : List α → Prop} (h0 : P []) (h1 : ∀ w l, P w → P (w ++ [l])) (w : List α) : P w := by
  have h : ∀ n (w : List α), w.length = n → P w := fun n => by
    induction n with
    | zero => intro w hw; rw [List.length_eq_zero_iff] at hw; subst hw; exact h0
    | succ n ih =>
      intro w hw
      have hne : w ≠ [] := fun e => by subst e; cases hw
      rw [← List.dropLast_concat_getLast hne]
      exact h1 _ _ (ih _ (by rw [List.length_dropLast]; omega))
  exact h _ w rfl
theorem Bfs.least {α : Type} {step : α → Nat → Option α} {La i : Nat} {Q : List (List Int × α)} {a : α} (h : Bfs step La i 0 Q) (h0 : ∃ q ∈ Q, q.2 = a ∧ q.1 = []) (w : List Nat) :
    (∀ l ∈ w, l < La) → ∀ b, runS step a w = some b → (∃ j q, j < i ∧ Q[j]? = some q ∧ q.2 = b ∧ sle q.1 (labsI w)) ∨ (∃ j q, i ≤ j ∧ Q[j]? = some q ∧ sle q.1 (labsI w)) := by
  refine snocI (P := fun w => (∀ l ∈ w, l < La) → ∀ b, runS step a w = some b → (∃ j q, j < i ∧ Q[j]? = some q ∧ q.2 = b ∧ sle q.1 (labsI w)) ∨ (∃ j q, i ≤ j ∧ Q[j]? = some q ∧ sle q.1 (labsI w))) ?_ ?_ w
  · intro _ b hb
    injection hb with hb
    subst hb
    obtain ⟨q, hq, e1, e2⟩ := h0
    obtain ⟨j, hj⟩ := List.mem_iff_getElem?.1 hq
    by_cases hji : j < i
    · exact .inl ⟨j, q, hji, hj, e1, by rw [e2]; exact sle_refl _⟩
    · exact .inr ⟨j, q, by omega, hj, by rw [e2]; exact sle_refl _⟩
  · intro w l ih hw b hb
    rw [runS_snoc] at hb
    have hlab : labsI (w ++ [l]) = labsI w ++ [(l : Int)] := by unfold labsI; rw [List.map_append]; rfl
    rw [hlab]
    cases hr : runS step a w with
    | none => rw [hr] at hb; cases hb
    | some m =>
      rw [hr] at hb
      rcases ih (fun x hx => hw x (List.mem_append_left _ hx)) m hr with ⟨j, q, hj, hq, rfl, hle⟩ | ⟨j, q, hj, hq, hle⟩
      · obtain ⟨q2, hq2, e, hle2⟩ := h.clo j l q b (.inl ⟨hj, hw l (by simp)⟩) hq hb
        have hle3 := sle_trans hle2 (sle_snoc (l : Int) hle)
        obtain ⟨k, hk⟩ := List.mem_iff_getElem?.1 hq2
        by_cases hki : k < i
        · exact .inl ⟨k, q2, hki, hk, e, hle3⟩
        · exact .inr ⟨k, q2, by omega, hk, hle3⟩
      · exact .inr ⟨j, q, hj, hq, sle_trans hle (slt_sle (slt_more _ _))⟩
theorem Bfs.from {α : Type} {step : α → Nat → Option α} {La i c : Nat} {Q : List (List Int × α)} (h : Bfs step La i c Q) {j : Nat} {p q : List Int × α} (hp : Q[i]? = some p) (hj : i ≤ j) (hq : Q[j]? = some q) : sle p.1 q.1 := by
  by_cases e : i = j
  · subst e
    rw [hp] at hq
    injection hq with hq
    subst hq
    exact sle_refl _
  · have hjl := (List.getElem?_eq_some_iff.1 hq).1
    have h3 := List.pairwise_iff_getElem.1 h.asc i j (by omega) hjl (by omega)
    rw [List.getElem?_eq_getElem (by omega)] at hp hq
    injection hp with hp
    injection hq with hq
    rw [hp, hq] at h3
    exact slt_sle h3
end Go.Proofs.YtiockphjnkehnaaGreatDoor

namespace Go.Proofs.YtiockphjnkehnaaGreatDoor
set_option linter.unusedVariables false
set_option linter.unusedSectionVars false

def pstep (a b : Nat → Nat → Nat) (na nb : Nat) (p : Nat × Nat) (l : Nat) : Option (Nat × Nat) := if a p.1 l = na ∧ b p.2 l = nb then none else some (a p.1 l, b p.2 l)
theorem mrun_none {a : Nat → Nat → Nat} {n : Nat} (h : ∀ l, a n l = n) : ∀ w, mrun a n w = n
  | [] => rfl
  | l :: w => by rw [mrun_cons, h l]; exact mrun_none h w
theorem runS_pair {a b : Nat → Nat → Nat} {na nb : Nat} (ha : ∀ l, a na l = na) (hb : ∀ l, b nb l = nb) : ∀ (w : List Nat) (s t : Nat), ¬ (mrun a s w = na ∧ mrun b t w = nb) → runS (pstep a b na nb) (s, t) w = some (mrun a s w, mrun b t w)
  | [], _, _, _ => rfl
  | l :: w, s, t, h => by
    rw [mrun_cons, mrun_cons] at h ⊢
    unfold runS
    have h1 : ¬ (a s l = na ∧ b t l = nb) := fun e => by
      rw [e.1, e.2, mrun_none ha, mrun_none hb] at h
      exact h ⟨rfl, rfl⟩
    unfold pstep
    rw [if_neg h1]
    exact runS_pair ha hb w _ _ h
abbrev Rec := Nat × Nat × Nat × Nat
structure RecQ (R : List Rec) (Q : List (List Int × (Nat × Nat))) : Prop where
  len : R.length = Q.length
  at_ : ∀ (k : Nat) (r : Rec) (q : List Int × (Nat × Nat)), R[k]? = some r → Q[k]? = some q → q.2 = (r.1, r.2.1)
  par : ∀ (k : Nat) (r : Rec) (q : List Int × (Nat × Nat)), 0 < k → R[k]? = some r → Q[k]? = some q → r.2.2.1 < k ∧ ∃ p, Q[r.2.2.1]? = some p ∧ q.1 = p.1 ++ [(r.2.2.2 : Int)]
  root : ∃ s t, Q[0]? = some ([], (s, t)) ∧ R[0]? = some (s, t, 0, 0)
  nd : (Q.map (·.2)).Nodup
theorem RecQ.start (s t : Nat) : RecQ [(s, t, 0, 0)] [([], (s, t))] := by
  refine ⟨rfl, fun k r q hr hq => ?_, fun k r q hk hr hq => ?_, ⟨s, t, rfl, rfl⟩, by simp⟩
  · rcases k with _ | k
    · injection hr with hr; injection hq with hq; subst hr; subst hq; rfl
    · simp at hr
  · rcases k with _ | k
    · omega
    · simp at hr
theorem RecQ.add {R : List Rec} {Q : List (List Int × (Nat × Nat))} (h : RecQ R Q) {i : Nat} {p : List Int × (Nat × Nat)} (hp : Q[i]? = some p) (x y l : Nat) (hn : ∀ q ∈ Q, q.2 ≠ (x, y)) :
    RecQ (R ++ [(x, y, i, l)]) (Q ++ [(p.1 ++ [(l : Int)], (x, y))]) := by
  have hi := (List.getElem?_eq_some_iff.1 hp).1
  have hl := h.len
  refine ⟨by simp [hl], fun k r q hr hq => ?_, fun k r q hk hr hq => ?_, ?_, ?_⟩
  · by_cases hk : k < Q.length
    · rw [List.getElem?_append_left (by omega)] at hr hq
      exact h.at_ k r q hr hq
    · rw [List.getElem?_append_right (by omega)] at hr hq
      rw [hl] at hr
      rcases hd : k - Q.length with _ | d
      · rw [hd] at hr hq
        injection hr with hr; injection hq with hq; subst hr; subst hq; rfl
      · rw [hd] at hr; simp at hr
  · by_cases hk2 : k < Q.length
    · rw [List.getElem?_append_left (by omega)] at hr hq
      obtain ⟨h1, p2, h2, h3⟩ := h.par k r q hk hr hq
      exact ⟨h1, p2, by rw [List.getElem?_append_left (by omega)]; exact h2, h3⟩
    · rw [List.getElem?_append_right (by omega)] at hr hq
      rw [hl] at hr
      rcases hd : k - Q.length with _ | d
      · rw [hd] at hr hq
        injection hr with hr; injection hq with hq; subst hr; subst hq
        exact ⟨by show i < k; omega, p, by show (Q ++ _)[i]? = _; rw [List.getElem?_append_left (by omega)]; exact hp, rfl⟩
      · rw [hd] at hr; simp at hr
  · obtain ⟨s, t, h1, h2⟩ := h.root
    exact ⟨s, t, by rw [List.getElem?_append_left (by omega)]; exact h1, by rw [List.getElem?_append_left (by omega)]; exact h2⟩
  · rw [List.map_append, List.nodup_append]
    refine ⟨h.nd, by simp, fun x2 hx y2 hy => ?_⟩
    rw [List.mem_map] at hx
    obtain ⟨q, hq, rfl⟩ := hx
    rw [List.map_singleton, List.mem_singleton] at hy
    subst hy
    exact hn q hq
structure SQ (D : Bool → Bool → Bool) (a b : Nat → Nat → Nat) (na nb La s t i c : Nat) (R : List Rec) (Q : List (List Int × (Nat × Nat))) : Prop where
  rq : RecQ R Q
  bfs : Bfs (pstep a b na nb) La i c Q
  run : ∀ q ∈ Q, ∃ w : List Nat, q.1 = labsI w ∧ (∀ l ∈ w, l < La) ∧ q.2 = (mrun a s w, mrun b t w)
  box : ∀ q ∈ Q, q.2.1 ≤ na ∧ q.2.2 ≤ nb
  hd : Q[0]? = some ([], (s, t))
  no : ∀ (j : Nat) (q : List Int × (Nat × Nat)), j < i → Q[j]? = some q → D (decide (q.2.1 ≠ na)) (decide (q.2.2 ≠ nb)) = false
section
variable {D : Bool → Bool → Bool} {a b : Nat → Nat → Nat} {na nb La s t i c : Nat} {R : List Rec} {Q : List (List Int × (Nat × Nat))}
theorem SQ.start (D : Bool → Bool → Bool) (a b : Nat → Nat → Nat) (La : Nat) (hs : s ≤ na) (ht : t ≤ nb) : SQ D a b na nb La s t 0 0 [(s, t, 0, 0)] [([], (s, t))] := by
  refine ⟨RecQ.start s t, Bfs.start _ _ _, fun q hq => ?_, fun q hq => ?_, rfl, fun j q hj => by omega⟩
  · rw [List.mem_singleton] at hq; subst hq; exact ⟨[], rfl, (fun l hl => by cases hl), rfl⟩
  · rw [List.mem_singleton] at hq; subst hq; exact ⟨hs, ht⟩
theorem SQ.skip0 (h : SQ D a b na nb La s t i c R Q) {p : List Int × (Nat × Nat)} (hp : Q[i]? = some p) (h2 : a p.2.1 c = na ∧ b p.2.2 c = nb) : SQ D a b na nb La s t i (c + 1) R Q :=
  ⟨h.rq, h.bfs.skip hp (fun x hx => by unfold pstep at hx; rw [if_pos h2] at hx; cases hx), h.run, h.box, h.hd, h.no⟩
theorem SQ.skip1 (h : SQ D a b na nb La s t i c R Q) {p : List Int × (Nat × Nat)} (hp : Q[i]? = some p) (h2 : ∃ q ∈ Q, q.2 = (a p.2.1 c, b p.2.2 c)) : SQ D a b na nb La s t i (c + 1) R Q :=
  ⟨h.rq, h.bfs.skip hp (fun x hx => by
    unfold pstep at hx
    split at hx
    · cases hx
    · injection hx with hx; subst hx; exact h2), h.run, h.box, h.hd, h.no⟩
theorem SQ.add (h : SQ D a b na nb La s t i c R Q) (hc : c < La) (hA : ∀ x l, x ≤ na → a x l ≤ na) (hB : ∀ x l, x ≤ nb → b x l ≤ nb) {p : List Int × (Nat × Nat)} (hp : Q[i]? = some p) (h1 : ¬ (a p.2.1 c = na ∧ b p.2.2 c = nb)) (h2 : ∀ q ∈ Q, q.2 ≠ (a p.2.1 c, b p.2.2 c)) :
    SQ D a b na nb La s t i (c + 1) (R ++ [(a p.2.1 c, b p.2.2 c, i, c)]) (Q ++ [(p.1 ++ [(c : Int)], (a p.2.1 c, b p.2.2 c))]) := by
  have hi := (List.getElem?_eq_some_iff.1 hp).1
  refine ⟨h.rq.add hp _ _ _ h2, h.bfs.add hp (by unfold pstep; rw [if_neg h1]), fun q hq => ?_, fun q hq => ?_, ?_, fun j q hj hq => ?_⟩
  · rw [List.mem_append, List.mem_singleton] at hq
    rcases hq with hq | rfl
    · exact h.run q hq
    · obtain ⟨w, e1, e2, e3⟩ := h.run p (List.mem_of_getElem? hp)
      refine ⟨w ++ [c], ?_, fun l hl => ?_, ?_⟩
      · show p.1 ++ [(c : Int)] = _
        rw [e1]; unfold labsI; rw [List.map_append]; rfl
      · rw [List.mem_append, List.mem_singleton] at hl
        rcases hl with hl | rfl
        · exact e2 l hl
        · exact hc
      · rw [mrun_snoc, mrun_snoc, e3]
  · rw [List.mem_append, List.mem_singleton] at hq
    rcases hq with hq | rfl
    · exact h.box q hq
    · have := h.box p (List.mem_of_getElem? hp)
      exact ⟨hA _ _ this.1, hB _ _ this.2⟩
  · rw [List.getElem?_append_left (by omega)]; exact h.hd
  · rw [List.getElem?_append_left (by omega)] at hq
    exact h.no j q hj hq
theorem SQ.next (h : SQ D a b na nb La s t i La R Q) {p : List Int × (Nat × Nat)} (hp : Q[i]? = some p) (hd : D (decide (p.2.1 ≠ na)) (decide (p.2.2 ≠ nb)) = false) : SQ D a b na nb La s t (i + 1) 0 R Q :=
  ⟨h.rq, h.bfs.next, h.run, h.box, h.hd, fun j q hj hq => by
    by_cases e : j = i
    · subst e
      rw [hp] at hq
      injection hq with hq
      subst hq
      exact hd
    · exact h.no j q (by omega) hq⟩
def Dif (D : Bool → Bool → Bool) (a b : Nat → Nat → Nat) (na nb s t : Nat) (w : List Nat) : Bool := D (decide (mrun a s w ≠ na)) (decide (mrun b t w ≠ nb))
def FW (D : Bool → Bool → Bool) (a b : Nat → Nat → Nat) (na nb La s t : Nat) (u : List Int) (is : Bool) : Prop :=
  (is = true ∧ ∃ w : List Nat, u = labsI w ∧ (∀ l ∈ w, l < La) ∧ Dif D a b na nb s t w = true ∧ ∀ w' : List Nat, (∀ l ∈ w', l < La) → Dif D a b na nb s t w' = true → sle u (labsI w')) ∨
  (is = false ∧ u = [] ∧ ∀ w : List Nat, (∀ l ∈ w, l < La) → Dif D a b na nb s t w = false)
theorem SQ.cover (h : SQ D a b na nb La s t i 0 R Q) (hD : D false false = false) (ha : ∀ l, a na l = na) (hb : ∀ l, b nb l = nb) {w : List Nat} (hw : ∀ l ∈ w, l < La) (hd : Dif D a b na nb s t w = true) : ∃ j q, i ≤ j ∧ Q[j]? = some q ∧ sle q.1 (labsI w) := by
  have hne : ¬ (mrun a s w = na ∧ mrun b t w = nb) := fun e => by
    unfold Dif at hd
    rw [e.1, e.2] at hd
    simp [hD] at hd
  rcases h.bfs.least ⟨_, List.mem_of_getElem? h.hd, rfl, rfl⟩ w hw _ (runS_pair ha hb w s t hne) with ⟨j, q, hj, hq, e, -⟩ | h2
  · have h3 := h.no j q hj hq
    rw [e] at h3
    unfold Dif at hd
    rw [hd] at h3
    cases h3
  · exact h2
theorem SQ.found (h : SQ D a b na nb La s t i 0 R Q) (hD : D false false = false) (ha : ∀ l, a na l = na) (hb : ∀ l, b nb l = nb) {p : List Int × (Nat × Nat)} (hp : Q[i]? = some p) (hd : D (decide (p.2.1 ≠ na)) (decide (p.2.2 ≠ nb)) = true) : FW D a b na nb La s t p.1 true := by
  obtain ⟨w, e1, e2, e3⟩ := h.run p (List.mem_of_getElem? hp)
  refine .inl ⟨rfl, w, e1, e2, ?_, fun w' hw' hd' => ?_⟩
  · unfold Dif
    rw [e3] at hd
    exact hd
  · obtain ⟨j, q, hj, hq, hle⟩ := h.cover hD ha hb hw' hd'
    exact sle_trans (h.bfs.from hp hj hq) hle
theorem SQ.none (h : SQ D a b na nb La s t i 0 R Q) (hi : Q.length ≤ i) (hD : D false false = false) (ha : ∀ l, a na l = na) (hb : ∀ l, b nb l = nb) : FW D a b na nb La s t [] false := by
  refine .inr ⟨rfl, rfl, fun w hw => ?_⟩
  cases hd : Dif D a b na nb s t w with
  | false => rfl
  | true =>
    obtain ⟨j, q, hj, hq, -⟩ := h.cover hD ha hb hw hd
    have := (List.getElem?_eq_some_iff.1 hq).1
    omega
def boxL (n m : Nat) : List (Nat × Nat) := (List.range n).flatMap fun x => (List.range m).map fun y => (x, y)
theorem boxL_len (m : Nat) : ∀ n, (boxL n m).length = n * m
  | 0 => by unfold boxL; simp
  | n + 1 => by
    have ih := boxL_len m n
    unfold boxL at ih ⊢
    rw [List.range_succ, List.flatMap_append, List.length_append, ih, Nat.succ_mul]; simp
theorem boxL_mem {n m x y : Nat} (hx : x < n) (hy : y < m) : (x, y) ∈ boxL n m := by
  unfold boxL
  rw [List.mem_flatMap]
  exact ⟨x, List.mem_range.2 hx, List.mem_map.2 ⟨y, List.mem_range.2 hy, rfl⟩⟩
theorem nodup_leH {α : Type} [DecidableEq α] : ∀ {l m : List α}, l.Nodup → (∀ x ∈ l, x ∈ m) → l.length ≤ m.length
  | [], _, _, _ => Nat.zero_le _
  | x :: l, m, h, hm => by
    rw [List.nodup_cons] at h
    have hx := hm x (by simp)
    have h2 := nodup_leH (m := m.erase x) h.2 (fun y hy => (List.mem_erase_of_ne (fun (e : y = x) => h.1 (by rw [← e]; exact hy))).2 (hm y (by simp [hy])))
    have h3 := List.length_erase_of_mem hx
    have h4 : 0 < m.length := List.length_pos_of_mem hx
    rw [List.length_cons]
    omega
theorem SQ.size (h : SQ D a b na nb La s t i c R Q) : Q.length ≤ (na + 1) * (nb + 1) := by
  have h1 := nodup_leH (m := boxL (na + 1) (nb + 1)) h.rq.nd (fun x hx => by
    rw [List.mem_map] at hx
    obtain ⟨q, hq, rfl⟩ := hx
    have := h.box q hq
    exact boxL_mem (x := q.2.1) (y := q.2.2) (Nat.lt_succ_of_le this.1) (Nat.lt_succ_of_le this.2))
  rwa [List.length_map, boxL_len] at h1
end
end Go.Proofs.YtiockphjnkehnaaGreatDoor

namespace Go.Proofs.YtiockphjnkehnaaGreatDoor
open Go

def srtE (es : List E3) : List E3 := es.mergeSort (fun x y => !ltE y x)
def ddE : List E3 → List E3
  | [] => []
  | [a] => [a]
  | a :: b :: r => if a = b then ddE (b :: r) else a :: ddE (b :: r)
def mkE (es : List E3) : List E3 := ddE (srtE es)
theorem ltE_trans' {a b c : E3} (h1 : ltE a b = true) (h2 : ltE b c = true) : ltE a c = true := by
  unfold ltE at *
  simp only [decide_eq_true_eq] at *
  omega
theorem ltE_total' {a b : E3} (h1 : ltE a b = false) (h2 : ltE b a = false) : a = b := by
  unfold ltE at *
  simp only [decide_eq_false_iff_not] at *
  obtain ⟨x, y, z⟩ := a
  obtain ⟨x', y', z'⟩ := b
  dsimp only at *
  have e1 : x = x' := by omega
  have e2 : y = y' := by omega
  have e3 : z = z' := by omega
  rw [e1, e2, e3]
theorem ltE_irr' (a : E3) : ltE a a = false := by
  unfold ltE
  simp only [decide_eq_false_iff_not]
  omega
theorem ltE_asym' {a b : E3} (h : ltE a b = true) : ltE b a = false := by
  cases h2 : ltE b a with
  | false => rfl
  | true => exact absurd (ltE_trans' h h2) (by rw [ltE_irr']; decide)
theorem srtE_perm (es : List E3) : (srtE es).Perm es := List.mergeSort_perm _ _
theorem srtE_pw (es : List E3) : (srtE es).Pairwise (fun a b => ltE b a = false) := by
  have := List.pairwise_mergeSort (le := fun x y => !ltE y x) (fun a b c h1 h2 => ?_) (fun a b => ?_) es
  · refine this.imp ?_
    intro a b h
    simpa using h
  · simp only [Bool.not_eq_true'] at *
    cases h : ltE c a with
    | false => rfl
    | true =>
      cases h3 : ltE c b with
      | true => rw [h3] at h2; cases h2
      | false =>
        cases h4 : ltE b c with
        | true => have := ltE_trans' h4 h; rw [this] at h1; cases h1
        | false => have := ltE_total' h3 h4; subst this; rw [h] at h1; cases h1
  · cases h : ltE b a with
    | false => rfl
    | true => rw [ltE_asym' h]; rfl
theorem srtE_len (es : List E3) : (srtE es).length = es.length := (srtE_perm es).length_eq
theorem ddE_mem : ∀ (l : List E3) (x : E3), x ∈ ddE l ↔ x ∈ l
  | [], x => Iff.rfl
  | [a], x => Iff.rfl
  | a :: b :: r, x => by
    unfold ddE
    by_cases h : a = b
    · rw [if_pos h, ddE_mem (b :: r) x, h]
      simp
    · rw [if_neg h, List.mem_cons, ddE_mem (b :: r) x, List.mem_cons (b := a)]
theorem ddE_len : ∀ (l : List E3), (ddE l).length ≤ l.length
  | [] => Nat.le_refl _
  | [a] => Nat.le_refl _
  | a :: b :: r => by
    unfold ddE
    have := ddE_len (b :: r)
    split
    · exact Nat.le_trans this (by simp)
    · simp only [List.length_cons] at *
      omega
theorem ddE_pw : ∀ {l : List E3}, l.Pairwise (fun a b => ltE b a = false) → (ddE l).Pairwise (fun a b => ltE a b = true)
  | [], _ => List.Pairwise.nil
  | [a], _ => List.pairwise_singleton _ _
  | a :: b :: r, h => by
    obtain ⟨h1, h2⟩ := List.pairwise_cons.1 h
    have ih := ddE_pw h2
    unfold ddE
    by_cases hab : a = b
    · rw [if_pos hab]; exact ih
    · rw [if_neg hab]
      refine List.Pairwise.cons (fun x hx => ?_) ih
      rw [ddE_mem] at hx
      have hb := h1 b List.mem_cons_self
      have hlt : ltE a b = true := by
        cases h3 : ltE a b with
        | true => rfl
        | false => exact absurd (ltE_total' h3 hb) hab
      rcases List.mem_cons.1 hx with rfl | hx
      · exact hlt
      · have hbx := (List.pairwise_cons.1 h2).1 x hx
        cases h3 : ltE b x with
        | true => exact ltE_trans' hlt h3
        | false => rw [← ltE_total' h3 hbx]; exact hlt
theorem mkE_mem {es : List E3} {x : E3} : x ∈ mkE es ↔ x ∈ es := by unfold mkE; rw [ddE_mem]; exact (srtE_perm es).mem_iff
theorem mkE_pw (es : List E3) : (mkE es).Pairwise (fun a b => ltE a b = true) := ddE_pw (srtE_pw es)
theorem mkE_len (es : List E3) : (mkE es).length ≤ es.length := by unfold mkE; have := ddE_len (srtE es); rw [srtE_len] at this; exact this
theorem asc_eq : ∀ {l m : List E3}, l.Pairwise (fun a b => ltE a b = true) → m.Pairwise (fun a b => ltE a b = true) → (∀ x, x ∈ l ↔ x ∈ m) → l = m
  | [], [], _, _, _ => rfl
  | [], b :: m, _, _, h => absurd ((h b).2 List.mem_cons_self) (by simp)
  | a :: l, [], _, _, h => absurd ((h a).1 List.mem_cons_self) (by simp)
  | a :: l, b :: m, h1, h2, h => by
    obtain ⟨p1, q1⟩ := List.pairwise_cons.1 h1
    obtain ⟨p2, q2⟩ := List.pairwise_cons.1 h2
    have hab : a = b := by
      rcases List.mem_cons.1 ((h a).1 List.mem_cons_self) with e | ha
      · exact e
      · rcases List.mem_cons.1 ((h b).2 List.mem_cons_self) with e | hb
        · exact e.symm
        · have := ltE_asym' (p1 b hb)
          rw [p2 a ha] at this
          cases this
    subst hab
    rw [asc_eq q1 q2]
    intro x
    constructor
    · intro hx
      rcases List.mem_cons.1 ((h x).1 (List.mem_cons_of_mem _ hx)) with e | hx2
      · subst e; have := p1 x hx; rw [ltE_irr'] at this; cases this
      · exact hx2
    · intro hx
      rcases List.mem_cons.1 ((h x).2 (List.mem_cons_of_mem _ hx)) with e | hx2
      · subst e; have := p2 x hx; rw [ltE_irr'] at this; cases this
      · exact hx2
/-! ### Reversing -/
def trnE (e : E3) : E3 := (e.2.2, e.2.1, e.1)
def revE (es : List E3) : List E3 := mkE (es.map trnE)
theorem ddE_take : ∀ (l : List E3) (k : Nat), (∀ i, i < k → i + 1 < l.length → l[i]? ≠ l[i + 1]?) → k < l.length → ddE l = l.take k ++ ddE (l.drop k)
  | l, 0, _, _ => by simp
  | [], k + 1, _, h => by simp at h
  | [a], k + 1, _, h => by simp at h
  | a :: b :: r, k + 1, h, hk => by
    have h0 := h 0 (by omega) (by simp)
    have hab : a ≠ b := by simpa using h0
    rw [ddE, if_neg hab, ddE_take (b :: r) k (fun i hi hl => h (i + 1) (by omega) (by simp at hl ⊢; omega)) (by simpa using hk)]
    simp
theorem ddE_whole (l : List E3) (h : ∀ i, i + 1 < l.length → l[i]? ≠ l[i + 1]?) : ddE l = l := by
  match l with
  | [] => rfl
  | [a] => rfl
  | a :: b :: r =>
    have h0 : a ≠ b := by simpa using h 0 (by simp)
    rw [ddE, if_neg h0, ddE_whole (b :: r) (fun i hi => h (i + 1) (by simp at hi ⊢; omega))]
end Go.Proofs.YtiockphjnkehnaaGreatDoor
