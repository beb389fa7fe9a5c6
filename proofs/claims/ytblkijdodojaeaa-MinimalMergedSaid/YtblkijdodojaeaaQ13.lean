/- Plain facts on a search breadth first over pairs of states of two machines. No condition. Plain: edges sorted and each once (mkE), reversed edges (revE), and what slices.Compact makes of a list (ddE). No condition. Plain facts on merged graphs. No condition. -/
import Derived.Test.YtblkijdodojaeaaQ12
import Derived.Test.YtblkijdodojaeaaQ01

namespace Go.Proofs.Ytblkijdodojaeaa
set_option linter.unusedVariables false
set_option linter.unusedSectionVars false

/-- A pair of states to which a label leads, unless neither is one. -/
def pstep (a b : Nat → Nat → Nat) (na nb : Nat) (p : Nat × Nat) (l : Nat) : Option (Nat × Nat) := if a p.1 l = na ∧ b p.2 l = nb then none else some (a p.1 l, b p.2 l)
theorem mrun_none {a : Nat → Nat → Nat} {n : Nat} (h : ∀ l, a n l = n) : ∀ w, mrun a n w = n
  | [] => rfl
  | l :: w => by rw [mrun_cons, h l]; exact mrun_none h w
theorem runS_pair {a b : Nat → Nat → Nat} {na nb : Nat} (ha : ∀ l, a na l = na) (hb : ∀ l, b nb l = nb) : ∀ (w : List Nat) (s t : Nat), ¬ (mrun a s w = na ∧ mrun b t w = nb) → runS (pstep a b na nb) (s, t) w = some (mrun a s w, mrun b t w)
  | [], _, _, _ => rfl
  | l :: w, s, t, h => by
    rw [mrun_cons, mrun_cons] at h ⊢
    unfold runS
    have h1 : ¬ (a s l = na ∧ b t l = nb) := fun e => by
      rw [e.1, e.2, mrun_none ha, mrun_none hb] at h
      exact h ⟨rfl, rfl⟩
    unfold pstep
    rw [if_neg h1]
    exact runS_pair ha hb w _ _ h
/-- A pair, the number of the one behind which it was found, the label. -/
abbrev Rec := Nat × Nat × Nat × Nat
/-- The queue of a search, with the labels that lead to each pair. -/
structure RecQ (R : List Rec) (Q : List (List Int × (Nat × Nat))) : Prop where
  len : R.length = Q.length
  at_ : ∀ (k : Nat) (r : Rec) (q : List Int × (Nat × Nat)), R[k]? = some r → Q[k]? = some q → q.2 = (r.1, r.2.1)
  par : ∀ (k : Nat) (r : Rec) (q : List Int × (Nat × Nat)), 0 < k → R[k]? = some r → Q[k]? = some q → r.2.2.1 < k ∧ ∃ p, Q[r.2.2.1]? = some p ∧ q.1 = p.1 ++ [(r.2.2.2 : Int)]
  root : ∃ s t, Q[0]? = some ([], (s, t)) ∧ R[0]? = some (s, t, 0, 0)
  nd : (Q.map (·.2)).Nodup
theorem RecQ.start (s t : Nat) : RecQ [(s, t, 0, 0)] [([], (s, t))] := by
  refine ⟨rfl, fun k r q hr hq => ?_, fun k r q hk hr hq => ?_, ⟨s, t, rfl, rfl⟩, by simp⟩
  · rcases k with _ | k
    · injection hr with hr; injection hq with hq; subst hr; subst hq; rfl
    · simp at hr
  · rcases k with _ | k
    · omega
    · simp at hr
theorem RecQ.add {R : List Rec} {Q : List (List Int × (Nat × Nat))} (h : RecQ R Q) {i : Nat} {p : List Int × (Nat × Nat)} (hp : Q[i]? = some p) (x y l : Nat) (hn : ∀ q ∈ Q, q.2 ≠ (x, y)) :
    RecQ (R ++ [(x, y, i, l)]) (Q ++ [(p.1 ++ [(l : Int)], (x, y))]) := by
  have hi := (List.getElem?_eq_some_iff.1 hp).1
  have hl := h.len
  refine ⟨by simp [hl], fun k r q hr hq => ?_, fun k r q hk hr hq => ?_, ?_, ?_⟩
  · by_cases hk : k < Q.length
    · rw [List.getElem?_append_left (by omega)] at hr hq
      exact h.at_ k r q hr hq
    · rw [List.getElem?_append_right (by omega)] at hr hq
      rw [hl] at hr
      rcases hd : k - Q.length with _ | d
      · rw [hd] at hr hq
        injection hr with hr; injection hq with hq; subst hr; subst hq; rfl
      · rw [hd] at hr; simp at hr
  · by_cases hk2 : k < Q.length
    · rw [List.getElem?_append_left (by omega)] at hr hq
      obtain ⟨h1, p2, h2, h3⟩ := h.par k r q hk hr hq
      exact ⟨h1, p2, by rw [List.getElem?_append_left (by omega)]; exact h2, h3⟩
    · rw [List.getElem?_append_right (by omega)] at hr hq
      rw [hl] at hr
      rcases hd : k - Q.length with _ | d
      · rw [hd] at hr hq
        injection hr with hr; injection hq with hq; subst hr; subst hq
        exact ⟨by show i < k; omega, p, by show (Q ++ _)[i]? = _; rw [List.getElem?_append_left (by omega)]; exact hp, rfl⟩
      · rw [hd] at hr; simp at hr
  · obtain ⟨s, t, h1, h2⟩ := h.root
    exact ⟨s, t, by rw [List.getElem?_append_left (by omega)]; exact h1, by rw [List.getElem?_append_left (by omega)]; exact h2⟩
  · rw [List.map_append, List.nodup_append]
    refine ⟨h.nd, by simp, fun x2 hx y2 hy => ?_⟩
    rw [List.mem_map] at hx
    obtain ⟨q, hq, rfl⟩ := hx
    rw [List.map_singleton, List.mem_singleton] at hy
    subst hy
    exact hn q hq
/-- What a search knows: the labels below c of number i are done, and all of the numbers before, none of which is as wanted. -/
structure SQ (D : Bool → Bool → Bool) (a b : Nat → Nat → Nat) (na nb La s t i c : Nat) (R : List Rec) (Q : List (List Int × (Nat × Nat))) : Prop where
  rq : RecQ R Q
  bfs : Bfs (pstep a b na nb) La i c Q
  run : ∀ q ∈ Q, ∃ w : List Nat, q.1 = labsI w ∧ (∀ l ∈ w, l < La) ∧ q.2 = (mrun a s w, mrun b t w)
  box : ∀ q ∈ Q, q.2.1 ≤ na ∧ q.2.2 ≤ nb
  hd : Q[0]? = some ([], (s, t))
  no : ∀ (j : Nat) (q : List Int × (Nat × Nat)), j < i → Q[j]? = some q → D (decide (q.2.1 ≠ na)) (decide (q.2.2 ≠ nb)) = false
section
variable {D : Bool → Bool → Bool} {a b : Nat → Nat → Nat} {na nb La s t i c : Nat} {R : List Rec} {Q : List (List Int × (Nat × Nat))}
theorem SQ.start (D : Bool → Bool → Bool) (a b : Nat → Nat → Nat) (La : Nat) (hs : s ≤ na) (ht : t ≤ nb) : SQ D a b na nb La s t 0 0 [(s, t, 0, 0)] [([], (s, t))] := by
  refine ⟨RecQ.start s t, Bfs.start _ _ _, fun q hq => ?_, fun q hq => ?_, rfl, fun j q hj => by omega⟩
  · rw [List.mem_singleton] at hq; subst hq; exact ⟨[], rfl, (fun l hl => by cases hl), rfl⟩
  · rw [List.mem_singleton] at hq; subst hq; exact ⟨hs, ht⟩
theorem SQ.skip0 (h : SQ D a b na nb La s t i c R Q) {p : List Int × (Nat × Nat)} (hp : Q[i]? = some p) (h2 : a p.2.1 c = na ∧ b p.2.2 c = nb) : SQ D a b na nb La s t i (c + 1) R Q :=
  ⟨h.rq, h.bfs.skip hp (fun x hx => by unfold pstep at hx; rw [if_pos h2] at hx; cases hx), h.run, h.box, h.hd, h.no⟩
theorem SQ.skip1 (h : SQ D a b na nb La s t i c R Q) {p : List Int × (Nat × Nat)} (hp : Q[i]? = some p) (h2 : ∃ q ∈ Q, q.2 = (a p.2.1 c, b p.2.2 c)) : SQ D a b na nb La s t i (c + 1) R Q :=
  ⟨h.rq, h.bfs.skip hp (fun x hx => by
    unfold pstep at hx
    split at hx
    · cases hx
    · injection hx with hx; subst hx; exact h2), h.run, h.box, h.hd, h.no⟩
theorem SQ.add (h : SQ D a b na nb La s t i c R Q) (hc : c < La) (hA : ∀ x l, x ≤ na → a x l ≤ na) (hB : ∀ x l, x ≤ nb → b x l ≤ nb) {p : List Int × (Nat × Nat)} (hp : Q[i]? = some p) (h1 : ¬ (a p.2.1 c = na ∧ b p.2.2 c = nb)) (h2 : ∀ q ∈ Q, q.2 ≠ (a p.2.1 c, b p.2.2 c)) :
    SQ D a b na nb La s t i (c + 1) (R ++ [(a p.2.1 c, b p.2.2 c, i, c)]) (Q ++ [(p.1 ++ [(c : Int)], (a p.2.1 c, b p.2.2 c))]) := by
  have hi := (List.getElem?_eq_some_iff.1 hp).1
  refine ⟨h.rq.add hp _ _ _ h2, h.bfs.add hp (by unfold pstep; rw [if_neg h1]), fun q hq => ?_, fun q hq => ?_, ?_, fun j q hj hq => ?_⟩
  · rw [List.mem_append, List.mem_singleton] at hq
    rcases hq with hq | rfl
    · exact h.run q hq
    · obtain ⟨w, e1, e2, e3⟩ := h.run p (List.mem_of_getElem? hp)
      refine ⟨w ++ [c], ?_, fun l hl => ?_, ?_⟩
      · show p.1 ++ [(c : Int)] = _
        rw [e1]; unfold labsI; rw [List.map_append]; rfl
      · rw [List.mem_append, List.mem_singleton] at hl
        rcases hl with hl | rfl
        · exact e2 l hl
        · exact hc
      · rw [mrun_snoc, mrun_snoc, e3]
  · rw [List.mem_append, List.mem_singleton] at hq
    rcases hq with hq | rfl
    · exact h.box q hq
    · have := h.box p (List.mem_of_getElem? hp)
      exact ⟨hA _ _ this.1, hB _ _ this.2⟩
  · rw [List.getElem?_append_left (by omega)]; exact h.hd
  · rw [List.getElem?_append_left (by omega)] at hq
    exact h.no j q hj hq
theorem SQ.next (h : SQ D a b na nb La s t i La R Q) {p : List Int × (Nat × Nat)} (hp : Q[i]? = some p) (hd : D (decide (p.2.1 ≠ na)) (decide (p.2.2 ≠ nb)) = false) : SQ D a b na nb La s t (i + 1) 0 R Q :=
  ⟨h.rq, h.bfs.next, h.run, h.box, h.hd, fun j q hj hq => by
    by_cases e : j = i
    · subst e
      rw [hp] at hq
      injection hq with hq
      subst hq
      exact hd
    · exact h.no j q (by omega) hq⟩
/-- Labels that lead to a pair that is as wanted. -/
def Dif (D : Bool → Bool → Bool) (a b : Nat → Nat → Nat) (na nb s t : Nat) (w : List Nat) : Bool := D (decide (mrun a s w ≠ na)) (decide (mrun b t w ≠ nb))
/-- The result: the first such list of labels, if there is one. -/
def FW (D : Bool → Bool → Bool) (a b : Nat → Nat → Nat) (na nb La s t : Nat) (u : List Int) (is : Bool) : Prop :=
  (is = true ∧ ∃ w : List Nat, u = labsI w ∧ (∀ l ∈ w, l < La) ∧ Dif D a b na nb s t w = true ∧ ∀ w' : List Nat, (∀ l ∈ w', l < La) → Dif D a b na nb s t w' = true → sle u (labsI w')) ∨
  (is = false ∧ u = [] ∧ ∀ w : List Nat, (∀ l ∈ w, l < La) → Dif D a b na nb s t w = false)
theorem SQ.cover (h : SQ D a b na nb La s t i 0 R Q) (hD : D false false = false) (ha : ∀ l, a na l = na) (hb : ∀ l, b nb l = nb) {w : List Nat} (hw : ∀ l ∈ w, l < La) (hd : Dif D a b na nb s t w = true) : ∃ j q, i ≤ j ∧ Q[j]? = some q ∧ sle q.1 (labsI w) := by
  have hne : ¬ (mrun a s w = na ∧ mrun b t w = nb) := fun e => by
    unfold Dif at hd
    rw [e.1, e.2] at hd
    simp [hD] at hd
  rcases h.bfs.least ⟨_, List.mem_of_getElem? h.hd, rfl, rfl⟩ w hw _ (runS_pair ha hb w s t hne) with ⟨j, q, hj, hq, e, -⟩ | h2
  · have h3 := h.no j q hj hq
    rw [e] at h3
    unfold Dif at hd
    rw [hd] at h3
    cases h3
  · exact h2
theorem SQ.found (h : SQ D a b na nb La s t i 0 R Q) (hD : D false false = false) (ha : ∀ l, a na l = na) (hb : ∀ l, b nb l = nb) {p : List Int × (Nat × Nat)} (hp : Q[i]? = some p) (hd : D (decide (p.2.1 ≠ na)) (decide (p.2.2 ≠ nb)) = true) : FW D a b na nb La s t p.1 true := by
  obtain ⟨w, e1, e2, e3⟩ := h.run p (List.mem_of_getElem? hp)
  refine .inl ⟨rfl, w, e1, e2, ?_, fun w' hw' hd' => ?_⟩
  · unfold Dif
    rw [e3] at hd
    exact hd
  · obtain ⟨j, q, hj, hq, hle⟩ := h.cover hD ha hb hw' hd'
    exact sle_trans (h.bfs.from hp hj hq) hle
theorem SQ.none (h : SQ D a b na nb La s t i 0 R Q) (hi : Q.length ≤ i) (hD : D false false = false) (ha : ∀ l, a na l = na) (hb : ∀ l, b nb l = nb) : FW D a b na nb La s t [] false := by
  refine .inr ⟨rfl, rfl, fun w hw => ?_⟩
  cases hd : Dif D a b na nb s t w with
  | false => rfl
  | true =>
    obtain ⟨j, q, hj, hq, -⟩ := h.cover hD ha hb hw hd
    have := (List.getElem?_eq_some_iff.1 hq).1
    omega
def boxL (n m : Nat) : List (Nat × Nat) := (List.range n).flatMap fun x => (List.range m).map fun y => (x, y)
theorem boxL_len (m : Nat) : ∀ n, (boxL n m).length = n * m
  | 0 => by unfold boxL; simp
  | n + 1 => by
    have ih := boxL_len m n
    unfold boxL at ih ⊢
    rw [List.range_succ, List.flatMap_append, List.length_append, ih, Nat.succ_mul]; simp
theorem boxL_mem {n m x y : Nat} (hx : x < n) (hy : y < m) : (x, y) ∈ boxL n m := by
  unfold boxL
  rw [List.mem_flatMap]
  exact ⟨x, List.mem_range.2 hx, List.mem_map.2 ⟨y, List.mem_range.2 hy, rfl⟩⟩
theorem nodup_leH {α : Type} [DecidableEq α] : ∀ {l m : List α}, l.Nodup → (∀ x ∈ l, x ∈ m) → l.length ≤ m.length
  | [], _, _, _ => Nat.zero_le _
  | x :: l, m, h, hm => by
    rw [List.nodup_cons] at h
    have hx := hm x (by simp)
    have h2 := nodup_leH (m := m.erase x) h.2 (fun y hy => (List.mem_erase_of_ne (fun (e : y = x) => h.1 (by rw [← e]; exact hy))).2 (hm y (by simp [hy])))
    have h3 := List.length_erase_of_mem hx
    have h4 : 0 < m.length := List.length_pos_of_mem hx
    rw [List.length_cons]
    omega
theorem SQ.size (h : SQ D a b na nb La s t i c R Q) : Q.length ≤ (na + 1) * (nb + 1) := by
  have h1 := nodup_leH (m := boxL (na + 1) (nb + 1)) h.rq.nd (fun x hx => by
    rw [List.mem_map] at hx
    obtain ⟨q, hq, rfl⟩ := hx
    have := h.box q hq
    exact boxL_mem (x := q.2.1) (y := q.2.2) (Nat.lt_succ_of_le this.1) (Nat.lt_succ_of_le this.2))
  rwa [List.length_map, boxL_len] at h1
end
end Go.Proofs.Ytblkijdodojaeaa

namespace Go.Proofs.Ytblkijdodojaeaa
open Go

/-- The edges in order, each as often as it occurs. -/
def srtE (es : List E3) : List E3 := es.mergeSort (fun x y => !ltE y x)
/-- .. each once. -/
def ddE : List E3 → List E3
  | [] => []
  | [a] => [a]
  | a :: b :: r => if a = b then ddE (b :: r) else a :: ddE (b :: r)
def mkE (es : List E3) : List E3 := ddE (srtE es)
theorem ltE_trans' {a b c : E3} (h1 : ltE a b = true) (h2 : ltE b c = true) : ltE a c = true := by
  unfold ltE at *
  simp only [decide_eq_true_eq] at *
  omega
theorem ltE_total' {a b : E3} (h1 : ltE a b = false) (h2 : ltE b a = false) : a = b := by
  unfold ltE at *
  simp only [decide_eq_false_iff_not] at *
  obtain ⟨x, y, z⟩ := a
  obtain ⟨x', y', z'⟩ := b
  dsimp only at *
  have e1 : x = x' := by omega
  have e2 : y = y' := by omega
  have e3 : z = z' := by omega
  rw [e1, e2, e3]
theorem ltE_irr' (a : E3) : ltE a a = false := by
  unfold ltE
  simp only [decide_eq_false_iff_not]
  omega
theorem ltE_asym' {a b : E3} (h : ltE a b = true) : ltE b a = false := by
  cases h2 : ltE b a with
  | false => rfl
  | true => exact absurd (ltE_trans' h h2) (by rw [ltE_irr']; decide)
theorem srtE_perm (es : List E3) : (srtE es).Perm es := List.mergeSort_perm _ _
theorem srtE_pw (es : List E3) : (srtE es).Pairwise (fun a b => ltE b a = false) := by
  have := List.pairwise_mergeSort (le := fun x y => !ltE y x) (fun a b c h1 h2 => ?_) (fun a b => ?_) es
  · refine this.imp ?_
    intro a b h
    simpa using h
  · simp only [Bool.not_eq_true'] at *
    cases h : ltE c a with
    | false => rfl
    | true =>
      cases h3 : ltE c b with
      | true => rw [h3] at h2; cases h2
      | false =>
        cases h4 : ltE b c with
        | true => have := ltE_trans' h4 h; rw [this] at h1; cases h1
        | false => have := ltE_total' h3 h4; subst this; rw [h] at h1; cases h1
  · cases h : ltE b a with
    | false => rfl
    | true => rw [ltE_asym' h]; rfl
theorem srtE_len (es : List E3) : (srtE es).length = es.length := (srtE_perm es).length_eq
theorem ddE_mem : ∀ (l : List E3) (x : E3), x ∈ ddE l ↔ x ∈ l
  | [], x => Iff.rfl
  | [a], x => Iff.rfl
  | a :: b :: r, x => by
    unfold ddE
    by_cases h : a = b
    · rw [if_pos h, ddE_mem (b :: r) x, h]
      simp
    · rw [if_neg h, List.mem_cons, ddE_mem (b :: r) x, List.mem_cons (b := a)]
theorem ddE_len : ∀ (l : List E3), (ddE l).length ≤ l.length
  | [] => Nat.le_refl _
  | [a] => Nat.le_refl _
  | a :: b :: r => by
    unfold ddE
    have := ddE_len (b :: r)
    split
    · exact Nat.le_trans this (by simp)
    · simp only [List.length_cons] at *
      omega
theorem ddE_pw : ∀ {l : List E3}, l.Pairwise (fun a b => ltE b a = false) → (ddE l).Pairwise (fun a b => ltE a b = true)
  | [], _ => List.Pairwise.nil
  | [a], _ => List.pairwise_singleton _ _
  | a :: b :: r, h => by
    obtain ⟨h1, h2⟩ := List.pairwise_cons.1 h
    have ih := ddE_pw h2
    unfold ddE
    by_cases hab : a = b
    · rw [if_pos hab]; exact ih
    · rw [if_neg hab]
      refine List.Pairwise.cons (fun x hx => ?_) ih
      rw [ddE_mem] at hx
      have hb := h1 b List.mem_cons_self
      have hlt : ltE a b = true := by
        cases h3 : ltE a b with
        | true => rfl
        | false => exact absurd (ltE_total' h3 hb) hab
      rcases List.mem_cons.1 hx with rfl | hx
      · exact hlt
      · have hbx := (List.pairwise_cons.1 h2).1 x hx
        cases h3 : ltE b x with
        | true => exact ltE_trans' hlt h3
        | false => rw [← ltE_total' h3 hbx]; exact hlt
theorem mkE_mem {es : List E3} {x : E3} : x ∈ mkE es ↔ x ∈ es := by unfold mkE; rw [ddE_mem]; exact (srtE_perm es).mem_iff
theorem mkE_pw (es : List E3) : (mkE es).Pairwise (fun a b => ltE a b = true) := ddE_pw (srtE_pw es)
theorem mkE_len (es : List E3) : (mkE es).length ≤ es.length := by unfold mkE; have := ddE_len (srtE es); rw [srtE_len] at this; exact this
/-- Ascending lists with the same members are equal. -/
theorem asc_eq : ∀ {l m : List E3}, l.Pairwise (fun a b => ltE a b = true) → m.Pairwise (fun a b => ltE a b = true) → (∀ x, x ∈ l ↔ x ∈ m) → l = m
  | [], [], _, _, _ => rfl
  | [], b :: m, _, _, h => absurd ((h b).2 List.mem_cons_self) (by simp)
  | a :: l, [], _, _, h => absurd ((h a).1 List.mem_cons_self) (by simp)
  | a :: l, b :: m, h1, h2, h => by
    obtain ⟨p1, q1⟩ := List.pairwise_cons.1 h1
    obtain ⟨p2, q2⟩ := List.pairwise_cons.1 h2
    have hab : a = b := by
      rcases List.mem_cons.1 ((h a).1 List.mem_cons_self) with e | ha
      · exact e
      · rcases List.mem_cons.1 ((h b).2 List.mem_cons_self) with e | hb
        · exact e.symm
        · have := ltE_asym' (p1 b hb)
          rw [p2 a ha] at this
          cases this
    subst hab
    rw [asc_eq q1 q2]
    intro x
    constructor
    · intro hx
      rcases List.mem_cons.1 ((h x).1 (List.mem_cons_of_mem _ hx)) with e | hx2
      · subst e; have := p1 x hx; rw [ltE_irr'] at this; cases this
      · exact hx2
    · intro hx
      rcases List.mem_cons.1 ((h x).2 (List.mem_cons_of_mem _ hx)) with e | hx2
      · subst e; have := p2 x hx; rw [ltE_irr'] at this; cases this
      · exact hx2
theorem mkE_same {es fs : List E3} (h : ∀ x, x ∈ es ↔ x ∈ fs) : mkE es = mkE fs := asc_eq (mkE_pw es) (mkE_pw fs) (fun x => by rw [mkE_mem, mkE_mem]; exact h x)
theorem mkE_self {es : List E3} (h : es.Pairwise (fun a b => ltE a b = true)) : mkE es = es := asc_eq (mkE_pw es) h (fun _ => mkE_mem)
/-! ### Reversing -/
def trnE (e : E3) : E3 := (e.2.2, e.2.1, e.1)
theorem trnE_trnE (e : E3) : trnE (trnE e) = e := rfl
def revE (es : List E3) : List E3 := mkE (es.map trnE)
theorem revE_mem {es : List E3} {x : E3} : x ∈ revE es ↔ trnE x ∈ es := by
  unfold revE
  rw [mkE_mem, List.mem_map]
  constructor
  · rintro ⟨a, ha, rfl⟩; exact ha
  · intro h; exact ⟨trnE x, h, rfl⟩
theorem revE_len (es : List E3) : (revE es).length ≤ es.length := by unfold revE; have := mkE_len (es.map trnE); rwa [List.length_map] at this
theorem revE_vg {L S : Int} {es : List E3} (h : VG L S es) : VG L S (revE es) := by
  refine ⟨h.l1, h.l2, h.s1, h.s2, Nat.le_trans (revE_len es) h.len, fun e he => ?_, mkE_pw _⟩
  have := okE_iff.1 (h.ok _ (revE_mem.1 he))
  unfold trnE at this
  rw [okE_iff]
  dsimp only at this
  omega
theorem revE_revE {L S : Int} {es : List E3} (h : VG L S es) : revE (revE es) = es := asc_eq (mkE_pw _) h.asc (fun x => by rw [revE_mem, revE_mem, trnE_trnE])
/-- Compact, element by element: what stands in front is kept. -/
theorem ddE_take : ∀ (l : List E3) (k : Nat), (∀ i, i < k → i + 1 < l.length → l[i]? ≠ l[i + 1]?) → k < l.length → ddE l = l.take k ++ ddE (l.drop k)
  | l, 0, _, _ => by simp
  | [], k + 1, _, h => by simp at h
  | [a], k + 1, _, h => by simp at h
  | a :: b :: r, k + 1, h, hk => by
    have h0 := h 0 (by omega) (by simp)
    have hab : a ≠ b := by simpa using h0
    rw [ddE, if_neg hab, ddE_take (b :: r) k (fun i hi hl => h (i + 1) (by omega) (by simp at hl ⊢; omega)) (by simpa using hk)]
    simp
theorem ddE_whole (l : List E3) (h : ∀ i, i + 1 < l.length → l[i]? ≠ l[i + 1]?) : ddE l = l := by
  match l with
  | [] => rfl
  | [a] => rfl
  | a :: b :: r =>
    have h0 : a ≠ b := by simpa using h 0 (by simp)
    rw [ddE, if_neg h0, ddE_whole (b :: r) (fun i hi => h (i + 1) (by simp at hi ⊢; omega))]
end Go.Proofs.Ytblkijdodojaeaa

namespace Go.Proofs.Ytblkijdodojaeaa
set_option linter.unusedVariables false

def mgE (es : List E3) (c : List Nat) : List E3 := es.map fun e => (((c.getD e.1.toNat 0 : Nat) : Int), e.2.1, ((c.getD e.2.2.toNat 0 : Nat) : Int))
def numC (c : List Nat) : Nat := c.foldl (fun m x => max m (x + 1)) 0
theorem numC_snoc (c : List Nat) (x : Nat) : numC (c ++ [x]) = max (numC c) (x + 1) := by unfold numC; rw [List.foldl_append]; rfl
theorem numC_lt : ∀ c : List Nat, ∀ x ∈ c, x < numC c := by
  intro c
  refine snocI (P := fun c => ∀ x ∈ c, x < numC c) (fun x hx => by cases hx) (fun w l ih x hx => ?_) c
  rw [numC_snoc]
  rw [List.mem_append, List.mem_singleton] at hx
  rcases hx with hx | rfl
  · have := ih x hx; omega
  · omega
theorem numC_le {B : Nat} : ∀ c : List Nat, (∀ x ∈ c, x < B) → numC c ≤ B := by
  intro c
  refine snocI (P := fun c => (∀ x ∈ c, x < B) → numC c ≤ B) (fun _ => Nat.zero_le _) (fun w l ih h => ?_) c
  rw [numC_snoc]
  have h1 := ih (fun x hx => h x (List.mem_append_left _ hx))
  have h2 := h l (by simp)
  omega
theorem canon_small {α : Type} [DecidableEq α] (l : List α) {i x : Nat} (h : (canon l)[i]? = some x) : x ≤ i := by
  have hi : i < l.length := by
    have := (List.getElem?_eq_some_iff.1 h).1
    rwa [canon_len] at this
  have hx := List.getElem?_eq_getElem hi
  rw [canon_at hx] at h
  injection h with h
  rw [canon_step hx] at h
  have h1 := firsts_le (l.take (i + 1))
  rw [List.length_take] at h1
  have h2 : (firsts (l.take (i + 1))).idxOf l[i] < (firsts (l.take (i + 1))).length := List.idxOf_lt_length_iff.2 ((firsts_mem _ _).2 (mem_take_iff.2 ⟨i, by omega, hx⟩))
  omega
/-- What is known of the classes: those of states that no labels tell apart, numbered in the order of their least states. -/
theorem classN_get (m : Nat → Nat → Nat) (La n : Nat) (hL : 1 ≤ La) : ∃ C : List Nat, C.length = n + 1 ∧ classN m La n = C.take n ∧ canon C = C ∧ ((∀ s l, s < n + 1 → m s l < n + 1) → (∀ l, m n l = n) → ∀ s t, s < n + 1 → t < n + 1 →
    (C.getD s 0 = C.getD t 0 ↔ ∀ w : List Nat, (∀ l ∈ w, l < La) → (mrun m s w = n ↔ mrun m t w = n))) := by
  obtain ⟨K, -, h2, -, h4⟩ := stopC_get m La n hL
  refine ⟨rndC m La (startC n) K, by rw [rndC_len, startC_len], h4, ?_, fun hm hn s t hs ht => rndC_iff hm hn h2 hs ht⟩
  rw [← h2]
  exact roundC_canon m La _ hL
theorem classN_len (m : Nat → Nat → Nat) (La n : Nat) (hL : 1 ≤ La) : (classN m La n).length = n := by
  obtain ⟨C, h1, h2, -⟩ := classN_get m La n hL
  rw [h2, List.length_take, h1]; omega
theorem classN_small {m : Nat → Nat → Nat} {La n : Nat} (hL : 1 ≤ La) {i x : Nat} (h : (classN m La n)[i]? = some x) : x ≤ i := by
  obtain ⟨C, h1, h2, h3, -⟩ := classN_get m La n hL
  have hi : i < n := by
    have := (List.getElem?_eq_some_iff.1 h).1
    rwa [classN_len m La n hL] at this
  rw [h2, List.getElem?_take_of_lt hi, ← h3] at h
  exact canon_small C h
theorem classN_num (m : Nat → Nat → Nat) (La n : Nat) (hL : 1 ≤ La) : numC (classN m La n) ≤ n := by
  refine numC_le _ (fun x hx => ?_)
  obtain ⟨i, hi⟩ := List.mem_iff_getElem?.1 hx
  have h1 := classN_small hL hi
  have h2 := (List.getElem?_eq_some_iff.1 hi).1
  rw [classN_len m La n hL] at h2
  omega
/-- Classes are those of states that no labels tell apart. -/
theorem classN_iff {m : Nat → Nat → Nat} {La n : Nat} (hL : 1 ≤ La) (hm : ∀ s l, s < n + 1 → m s l < n + 1) (hn : ∀ l, m n l = n) {s t : Nat} (hs : s < n) (ht : t < n) :
    (classN m La n).getD s 0 = (classN m La n).getD t 0 ↔ ∀ w : List Nat, (∀ l ∈ w, l < La) → (mrun m s w = n ↔ mrun m t w = n) := by
  obtain ⟨C, h1, h2, h3, h4⟩ := classN_get m La n hL
  have hg : ∀ k, k < n → (classN m La n).getD k 0 = C.getD k 0 := fun k hk => by
    rw [h2, List.getD_eq_getElem?_getD, List.getElem?_take_of_lt hk, ← List.getD_eq_getElem?_getD]
  rw [hg s hs, hg t ht]
  exact h4 hm hn s t (by omega) (by omega)
theorem mgE_len (es : List E3) (c : List Nat) : (mgE es c).length = es.length := by unfold mgE; rw [List.length_map]
theorem getD_mem {c : List Nat} {i : Nat} (h : i < c.length) : c.getD i 0 ∈ c := by
  rw [List.getD_eq_getElem?_getD, List.getElem?_eq_getElem h]
  exact List.getElem_mem h
theorem merged_vg {La n : Nat} {es : List E3} {c : List Nat} (hvg : VG (La : Int) (n : Int) es) (hc : c.length = n) (hnc : numC c ≤ 64) : VG (La : Int) ((numC c : Nat) : Int) (mkE (mgE es c)) := by
  refine ⟨hvg.l1, hvg.l2, by omega, by omega, ?_, fun e he => ?_, mkE_pw _⟩
  · have h1 := mkE_len (mgE es c)
    rw [mgE_len] at h1
    have := hvg.len
    omega
  · rw [mkE_mem] at he
    unfold mgE at he
    obtain ⟨f, hf, rfl⟩ := List.mem_map.1 he
    have h1 := okE_iff.1 (hvg.ok f hf)
    have h2 := numC_lt c _ (getD_mem (c := c) (i := f.1.toNat) (by omega))
    have h3 := numC_lt c _ (getD_mem (c := c) (i := f.2.2.toNat) (by omega))
    refine okE_iff.2 ?_
    dsimp only
    omega
end Go.Proofs.Ytblkijdodojaeaa
