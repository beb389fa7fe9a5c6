/- Plain facts for covers: the graph of sets of a deterministic graph from one state on, when all states are reached, is the graph with its states numbered breadth first; the part of a sink. No condition. Plain facts for covers: what Cover returns, and the steps to it. No condition. What grooveref13.renumbered returns for a valid, deterministic graph from whose first state all states are reached. Conditions: the edges can be read, and are at most 1000. What minimal.Cover returns for any graph. Conditions: the edges can be read, their number is that of a slice; the table of the library's TrailingZeros is there. What grooveref13.Cover returns for any graph with at most 8 labels, or one that is not valid. Conditions: the edges can be read, their number is that of a slice. What grooveref13.compare, Included and Equal return for any graphs. Conditions: the edges can be read; their numbers are those of slices. MinimalCompares returns true. Conditions: the edges can be read, their numbers are those of slices; the library's table reads as its text lays it. Cards of laws that list the library's table alone: the table read, a world that holds it. No condition. MinimalCompares returns true for every input: the law's row, and its card, tied to the program's text. Conditions: those of the row: its tables read as listed (the card ties them to the program's text). -/
import Derived.Test.YtiockphjnkehnaaGreatDoorQ17
import Derived.Test.YtiockphjnkehnaaGreatDoorQ20
import Derived.Test.YtiockphjnkehnaaGreatDoorQ21
import Derived.Test.YtiockphjnkehnaaGreatDoorQ19
import Derived.Test.YtiockphjnkehnaaGreatDoorQ10
import Derived.Test.YtiockphjnkehnaaGreatDoorQ29
import Derived.Test.YtiockphjnkehnaaGreatDoorQ30
import Derived.Test.YtiockphjnkehnaaGreatDoorQ32
import Derived.Test.YtiockphjnkehnaaGreatDoorQ35
import Derived.Test.YtiockphjnkehnaaGreatDoorQ37
import Derived.Test.YtiockphjnkehnaaGreatDoorQ38
import Derived.Test.YtiockphjnkehnaaGreatDoorQ40
import Derived.Test.YtiockphjnkehnaaGreatDoorQ44
import Derived.Test.YtiockphjnkehnaaGreatDoorQ28
import Derived.Test.YtiockphjnkehnaaGreatDoorQ45

namespace Go.Proofs.YtiockphjnkehnaaGreatDoor
set_option linter.unusedVariables false

/-- Sets of one state each. -/
def pwL (Q : List Nat) : List Nat := Q.map (2 ^ ·)
theorem pwL_len (Q : List Nat) : (pwL Q).length = Q.length := by unfold pwL; rw [List.length_map]
theorem pwL_app (Q : List Nat) (t : Nat) : pwL (Q ++ [t]) = pwL Q ++ [2 ^ t] := by unfold pwL; rw [List.map_append]; rfl
theorem pwL_get {Q : List Nat} {i : Nat} (h : i < Q.length) : (pwL Q).getD i 0 = 2 ^ Q.getD i 0 := by
  unfold pwL
  rw [List.getD_eq_getElem?_getD, List.getElem?_map, List.getElem?_eq_getElem h, List.getD_eq_getElem?_getD, List.getElem?_eq_getElem h]; rfl
theorem pwL_mem {Q : List Nat} {t : Nat} : 2 ^ t ∈ pwL Q ↔ t ∈ Q := by
  unfold pwL
  rw [List.mem_map]
  constructor
  · rintro ⟨u, hu, he⟩
    rw [pow_inj2 he] at hu; exact hu
  · exact fun h => ⟨t, h, rfl⟩
theorem pwL_idx : ∀ (Q : List Nat) (t : Nat), (pwL Q).idxOf (2 ^ t) = Q.idxOf t
  | [], t => rfl
  | a :: Q, t => by
    show (2 ^ a :: pwL Q).idxOf (2 ^ t) = _
    rw [List.idxOf_cons, List.idxOf_cons, pwL_idx Q t]
    by_cases h : a = t
    · subst h; simp
    · have h2 : ¬ 2 ^ a = 2 ^ t := fun e => h (pow_inj2 e)
      have e1 : (2 ^ a == 2 ^ t) = false := by rw [beq_eq_false_iff_ne]; exact h2
      have e2 : (a == t) = false := by rw [beq_eq_false_iff_ne]; exact h
      rw [e1, e2]
section
variable {es : List E3} {La n : Nat}
theorem stN_to (hvg : VG (La : Int) (n : Int) es) (hd : detE es = true) {t : Nat} (ht : t < n) (l : Nat) : stN es (2 ^ t) l = if mT n es t l = n then 0 else 2 ^ mT n es t l := by
  have hn64 : n ≤ 64 := by have := hvg.s2; omega
  by_cases h0 : stN es (2 ^ t) l = 0
  · rw [h0]
    by_cases hm : mT n es t l = n
    · rw [if_pos hm]
    · refine absurd h0 fun h0 => ?_
      have : ∃ e ∈ es, e.1 = (t : Int) ∧ e.2.1 = (l : Int) := Classical.byContradiction fun hx => hm (mT_miss hx)
      obtain ⟨e, he, h1, h2⟩ := this
      have hok := okE_iff.1 (hvg.ok e he)
      have : (stN es (2 ^ t) l).testBit e.2.2.toNat = true := by
        rw [stN_bit, Bool.and_eq_true, decide_eq_true_iff, List.any_eq_true]
        refine ⟨by omega, e, he, ?_⟩
        simp only [Bool.and_eq_true, beq_iff_eq, decide_eq_true_iff, Nat.testBit_two_pow]
        omega
      rw [h0, Nat.zero_testBit] at this
      cases this
  · obtain ⟨u, hu, he⟩ := st_det hvg hd t l h0
    obtain ⟨e, h1, h2, h3, h4⟩ := stN_one (es := es) (t := t) (l := l) (u := u) (by rw [he, Nat.testBit_two_pow]; simp)
    have hm := mT_of hvg hd h1
    rw [h2, h3, h4, Int.toNat_natCast, Int.toNat_natCast, Int.toNat_natCast] at hm
    rw [he, hm, if_neg (by omega)]
/-- The list of states, when the label l of its state i is done. -/
def visO (m : Nat → Nat → Nat) (n : Nat) (Q : List Nat) (i l : Nat) : List Nat :=
  if m (Q.getD i 0) l = n ∨ m (Q.getD i 0) l ∈ Q then Q else Q ++ [m (Q.getD i 0) l]
theorem vis_to (hvg : VG (La : Int) (n : Int) es) (hd : detE es = true) {b : Bs} {Q : List Nat} {i : Nat} (l : Nat) (hb : b.1 = pwL Q) (hi : i < Q.length) (hlt : ∀ x ∈ Q, x < n) : (visN es i b l).1 = pwL (visO (mT n es) n Q i l) := by
  have hx : Q.getD i 0 < n := hlt _ (by rw [List.getD_eq_getElem?_getD, List.getElem?_eq_getElem hi]; exact List.getElem_mem _)
  have hs : stN es (b.1.getD i 0) l = if mT n es (Q.getD i 0) l = n then 0 else 2 ^ mT n es (Q.getD i 0) l := by
    rw [hb, pwL_get hi]; exact stN_to hvg hd hx l
  unfold visO
  by_cases h0 : mT n es (Q.getD i 0) l = n
  · rw [if_pos h0] at hs
    rw [visN_none hs, if_pos (.inl h0), hb]
  · rw [if_neg h0] at hs
    have h1 : stN es (b.1.getD i 0) l ≠ 0 := by rw [hs]; exact Nat.ne_of_gt (Nat.two_pow_pos _)
    by_cases h2 : mT n es (Q.getD i 0) l ∈ Q
    · rw [visN_old h1 (by rw [hs, hb]; exact pwL_mem.2 h2), if_pos (.inr h2), hb]
    · rw [visN_new h1 (by rw [hs, hb]; exact fun h => h2 (pwL_mem.1 h)), if_neg (fun h => h.elim h0 h2), hs, hb, pwL_app]
/-- The search for the order of the states, when the labels below c of its state i are done: b is what the search for sets has found before this state, F its result. -/
structure OQ (es : List E3) (La n : Nat) (F : Bs) (i c : Nat) (b : Bs) (Q : List Nat) : Prop where
  run : runN es La (66 - i) i b = some F
  row : (rowN es i b c).1 = pwL Q
  nd : Q.Nodup
  lt : ∀ x ∈ Q, x < n
  le : i < Q.length ∨ c = 0
  hi : c = 0 ∨ i < b.1.length
theorem OQ.len {F : Bs} {i c : Nat} {b : Bs} {Q : List Nat} (h : OQ es La n F i c b Q) : Q.length ≤ n := by
  have := nodup_le h.nd (m := List.range n) (fun x hx => List.mem_range.2 (h.lt x hx))
  rwa [List.length_range] at this
theorem OQ.start {F : Bs} (h : builtN es La 1 = some F) (hn : 0 < n) : OQ es La n F 0 0 ([1], []) [0] :=
  ⟨h, rfl, by simp, fun x hx => by rw [List.mem_singleton] at hx; omega, .inr rfl, .inl rfl⟩
theorem OQ.enter {F : Bs} {i : Nat} {b : Bs} {Q : List Nat} (h : OQ es La n F i 0 b Q) (hi : i < Q.length) : OQ es La n F i 0 b Q ∧ i < b.1.length := by
  refine ⟨h, ?_⟩
  have := h.row
  rw [rowN_zero] at this
  rw [this, pwL_len]; exact hi
theorem OQ.step (hvg : VG (La : Int) (n : Int) es) (hd : detE es = true) {F : Bs} {i c : Nat} {b : Bs} {Q : List Nat} (h : OQ es La n F i c b Q) (hi : i < Q.length) (hb : i < b.1.length) : OQ es La n F i (c + 1) b (visO (mT n es) n Q i c) := by
  have hv := vis_to hvg hd (b := rowN es i b c) c h.row hi h.lt
  have hle := mT_le hvg.ok (Q.getD i 0) c
  refine ⟨h.run, by rw [rowN_succ, hv], ?_, ?_, ?_, .inr hb⟩
  · unfold visO
    split
    · exact h.nd
    · rename_i hx
      rw [List.nodup_append]
      refine ⟨h.nd, by simp, fun a ha b hb e => ?_⟩
      rw [List.mem_singleton] at hb
      subst hb; subst e
      exact hx (.inr ha)
  · unfold visO
    split
    · exact h.lt
    · rename_i hx
      intro x hxm
      rcases List.mem_append.1 hxm with hxm | hxm
      · exact h.lt x hxm
      · rw [List.mem_singleton] at hxm
        have : ¬ mT n es (Q.getD i 0) c = n := fun e => hx (.inl e)
        omega
  · left
    unfold visO
    split
    · exact hi
    · rw [List.length_append]; omega
theorem OQ.next {F : Bs} {i : Nat} {b : Bs} {Q : List Nat} (h : OQ es La n F i La b Q) (hi : i < Q.length) (hb : i < b.1.length) (hn : n ≤ 64) : OQ es La n F (i + 1) 0 (rowN es i b La) Q := by
  have hl := h.len
  have hr := h.run
  obtain ⟨k, hk⟩ : ∃ k, 66 - i = k + 1 := ⟨65 - i, by omega⟩
  have hk2 : 66 - (i + 1) = k := by omega
  rw [hk] at hr
  have h2 : ¬ tooN (rowN es i b La) := fun h2 => by rw [runN_many hb h2] at hr; cases hr
  rw [runN_more hb h2] at hr
  exact ⟨by rw [hk2]; exact hr, h.row, h.nd, h.lt, .inr rfl, .inl rfl⟩
theorem OQ.done {F : Bs} {i : Nat} {b : Bs} {Q : List Nat} (h : OQ es La n F i 0 b Q) (hi : Q.length ≤ i) (h66 : i < 66) : F.1 = pwL Q := by
  have hr := h.run
  have hw := h.row
  rw [rowN_zero] at hw
  obtain ⟨k, hk⟩ : ∃ k, 66 - i = k + 1 := ⟨65 - i, by omega⟩
  rw [hk, runN_end (by rw [hw, pwL_len]; omega)] at hr
  injection hr with hr
  rw [← hr]; exact hw
/-- The edges, renumbered. -/
def rnE (Q : List Nat) (es : List E3) : List E3 := es.map fun e => (((Q.idxOf e.1.toNat : Nat) : Int), e.2.1, ((Q.idxOf e.2.2.toNat : Nat) : Int))
theorem rnE_len (Q : List Nat) (es : List E3) : (rnE Q es).length = es.length := by unfold rnE; rw [List.length_map]
theorem cov_all (hvg : VG (La : Int) (n : Int) es) (hd : detE es = true) {F : Bs} {Q : List Nat} (hr : ResN es La 1 F) (hQ : F.1 = pwL Q) (hlt : ∀ x ∈ Q, x < n) (hrc : ∀ t : Nat, t < n → Rc es 0 (t : Int)) : ∀ t, t < n → t ∈ Q := by
  have h0 : 0 ∈ Q := by
    have h1 := List.mem_of_getElem? hr.hd
    rw [hQ] at h1
    exact pwL_mem.1 (show 2 ^ 0 ∈ pwL Q from h1)
  intro t ht
  have := (hrc t ht).closed (P := fun x => 0 ≤ x ∧ x.toNat ∈ Q) ⟨by omega, h0⟩ (fun e he hP => by
    have hok := okE_iff.1 (hvg.ok e he)
    refine ⟨by omega, ?_⟩
    obtain ⟨j, hj, hje⟩ := List.mem_iff_getElem.1 hP.2
    have hg : Q.getD j 0 = e.1.toNat := by rw [List.getD_eq_getElem?_getD, List.getElem?_eq_getElem hj]; exact hje
    have hm := mT_of hvg hd he
    have hs := stN_to hvg hd (hlt _ hP.2) e.2.1.toNat
    rw [hm, if_neg (by omega)] at hs
    rcases hr.cl j e.2.1.toNat (by rw [hQ, pwL_len]; exact hj) (by omega) with h1 | h1
    · rw [hQ, pwL_get hj, hg, hs] at h1
      exact absurd h1 (Nat.ne_of_gt (Nat.two_pow_pos _))
    · rw [hQ, pwL_get hj, hg, hs] at h1
      exact pwL_mem.1 h1)
  have h2 := this.2
  rwa [Int.toNat_natCast] at h2
theorem allN_mk2 {F : List Nat} {j l m : Nat} (hj : j < m) (hl : l < La) (h : stN es (F.getD j 0) l ≠ 0) : (((j : Int), (l : Int), ((F.idxOf (stN es (F.getD j 0) l) : Nat) : Int)) : E3) ∈ allN es La F m := by
  unfold allN edsN
  rw [List.mem_flatMap]
  refine ⟨j, List.mem_range.2 hj, List.mem_filterMap.2 ⟨l, List.mem_range.2 hl, ?_⟩⟩
  unfold edN; rw [if_neg h]
theorem cov_eq (hvg : VG (La : Int) (n : Int) es) (hd : detE es = true) {F : Bs} {Q : List Nat} (hr : ResN es La 1 F) (hQ : F.1 = pwL Q) (hnd : Q.Nodup) (hlt : ∀ x ∈ Q, x < n) (hrc : ∀ t : Nat, t < n → Rc es 0 (t : Int)) :
    Q.length = n ∧ mkE (rnE Q es) = F.2 := by
  have hall := cov_all hvg hd hr hQ hlt hrc
  constructor
  · have h1 := nodup_le hnd (m := List.range n) (fun x hx => List.mem_range.2 (hlt x hx))
    have h2 := nodup_le (List.nodup_range (n := n)) (m := Q) (fun x hx => hall x (List.mem_range.1 hx))
    rw [List.length_range] at h1 h2
    omega
  · have hpw : F.2.Pairwise (fun a b => ltE a b = true) := by
      rw [hr.ed]; exact (allN_asc es La F.1 _).imp ltFL_ltE
    refine asc_eq (mkE_pw _) hpw fun x => ?_
    rw [mkE_mem]
    unfold rnE
    rw [List.mem_map]
    constructor
    · rintro ⟨e, he, rfl⟩
      have hok := okE_iff.1 (hvg.ok e he)
      have hq := hall e.1.toNat (by omega)
      have hj := List.idxOf_lt_length_iff.2 hq
      have hg : Q.getD (Q.idxOf e.1.toNat) 0 = e.1.toNat := by rw [List.getD_eq_getElem?_getD, List.getElem?_eq_getElem hj]; exact List.getElem_idxOf hj
      have hm := mT_of hvg hd he
      have hs := stN_to hvg hd (show e.1.toNat < n by omega) e.2.1.toNat
      rw [hm, if_neg (by omega)] at hs
      have hs2 : stN es (F.1.getD (Q.idxOf e.1.toNat) 0) e.2.1.toNat = 2 ^ e.2.2.toNat := by rw [hQ, pwL_get hj, hg, hs]
      have := allN_mk2 (es := es) (La := La) (F := F.1) (j := Q.idxOf e.1.toNat) (l := e.2.1.toNat) (m := F.1.length) (by rw [hQ, pwL_len]; exact hj) (by omega) (by rw [hs2]; exact Nat.ne_of_gt (Nat.two_pow_pos _))
      rw [hs2, show F.1.idxOf (2 ^ e.2.2.toNat) = Q.idxOf e.2.2.toNat by rw [hQ, pwL_idx], show ((e.2.1.toNat : Nat) : Int) = e.2.1 by omega] at this
      rw [hr.ed]; exact this
    · intro hx
      rw [hr.ed] at hx
      obtain ⟨j, l, hj, hl, h0, rfl⟩ := mem_allN hx
      have hj2 : j < Q.length := by rw [hQ, pwL_len] at hj; exact hj
      have hqm : Q.getD j 0 ∈ Q := by rw [List.getD_eq_getElem?_getD, List.getElem?_eq_getElem hj2]; exact List.getElem_mem _
      have hq := hlt _ hqm
      rw [hQ, pwL_get hj2] at h0
      have hs := stN_to hvg hd hq l
      by_cases hmn : mT n es (Q.getD j 0) l = n
      · rw [if_pos hmn] at hs; exact absurd hs h0
      · rw [if_neg hmn] at hs
        have : ∃ e ∈ es, e.1 = ((Q.getD j 0 : Nat) : Int) ∧ e.2.1 = (l : Int) := Classical.byContradiction fun hx => hmn (mT_miss hx)
        obtain ⟨e, he, h1, h2⟩ := this
        have hm := mT_of hvg hd he
        rw [h1, h2, Int.toNat_natCast, Int.toNat_natCast] at hm
        refine ⟨e, he, ?_⟩
        rw [hQ, pwL_get hj2, hs, pwL_idx, hm, h1, h2, Int.toNat_natCast]
        have hji : Q.idxOf (Q.getD j 0) = j := idx_nd hnd (by rw [List.getD_eq_getElem?_getD, List.getElem?_eq_getElem hj2]; rfl)
        rw [hji]
end
section
variable {L : Int} {n : Nat} {es : List E3}
/-- From each state a state is reached from which no other one is reached for good. -/
theorem last_ofC (h : ∀ e ∈ es, okE L (n : Int) e = true) : ∀ (k t : Nat), t < n → cntF n (rb es n t) ≤ k → ∃ t', t' < n ∧ Rc es (t : Int) (t' : Int) ∧ ∀ x : Nat, x < n → Rc es (t' : Int) (x : Int) → Rc es (x : Int) (t' : Int) := by
  intro k
  induction k with
  | zero =>
    intro t ht hk
    have h1 : t ∈ (List.range n).filter (rb es n t) := List.mem_filter.2 ⟨List.mem_range.2 ht, (rb_iff h ht ht).2 (Rc.refl _ _)⟩
    have := List.length_pos_of_mem h1
    unfold cntF at hk; omega
  | succ k ih =>
    intro t ht hk
    by_cases hx : ∀ x : Nat, x < n → Rc es (t : Int) (x : Int) → Rc es (x : Int) (t : Int)
    · exact ⟨t, ht, Rc.refl _ _, hx⟩
    · obtain ⟨x, hx⟩ := Classical.not_forall.1 hx
      obtain ⟨hxn, hx⟩ := Classical.not_imp.1 hx
      obtain ⟨h1, h2⟩ := Classical.not_imp.1 hx
      have hlt : cntF n (rb es n x) < cntF n (rb es n t) := by
        unfold cntF
        refine filter_less _ (fun y hy hg => ?_) ⟨t, List.mem_range.2 ht, ?_⟩
        · have hyn := List.mem_range.1 hy
          exact (rb_iff h ht hyn).2 (h1.trans ((rb_iff h hxn hyn).1 hg))
        · rw [(rb_iff h ht ht).2 (Rc.refl _ _)]
          intro hc
          exact h2 ((rb_iff h hxn ht).1 hc)
      obtain ⟨t', a1, a2, a3⟩ := ih x hxn (by omega)
      exact ⟨t', a1, h1.trans a2, a3⟩
theorem snks_some (h : ∀ e ∈ es, okE L (n : Int) e = true) (hn : 0 < n) : ∃ c r, snks es n = c :: r := by
  obtain ⟨t, ht, -, h2⟩ := last_ofC h _ 0 hn (Nat.le_refl _)
  obtain ⟨r, hr, hrt⟩ := rep_of h ht
  have hrn := (reps_lt hr).1
  obtain ⟨a, b⟩ := (compB_iff h hrn ht).1 hrt
  have hm : compF es n r ∈ snks es n := by
    refine List.mem_filter.2 ⟨List.mem_map.2 ⟨r, hr, rfl⟩, ?_⟩
    cases hh : hasEd es (compF es n r) false with
    | false => rfl
    | true =>
      obtain ⟨e, he, h3⟩ := List.any_eq_true.1 hh
      rw [Bool.and_eq_true, decide_eq_true_iff] at h3
      obtain ⟨a1, a2, a3, a4⟩ := okE_st (h e he)
      obtain ⟨y, hy, hyn, y1, y2⟩ := (compF_mem h hrn).1 h3.1
      have hez : Rc es (y : Int) (e.2.2.toNat : Int) := by rw [← a4, ← hy]; exact Rc.edge he
      have q1 : Rc es (t : Int) (e.2.2.toNat : Int) := (b.trans y1).trans hez
      have q2 := h2 _ a2 q1
      have : e.2.2 ∈ compF es n r := (compF_mem h hrn).2 ⟨e.2.2.toNat, a4, a2, y1.trans hez, q2.trans b⟩
      rw [decide_eq_true this] at h3
      exact absurd h3.2 (by decide)
  cases hs : snks es n with
  | nil => rw [hs] at hm; cases hm
  | cons c r => exact ⟨c, r, rfl⟩
theorem snks_inC {c : List Int} (h : c ∈ snks es n) {e : E3} (he : e ∈ es) (h1 : e.1 ∈ c) : e.2.2 ∈ c := by
  have h2 := (List.mem_filter.1 h).2
  refine Classical.byContradiction fun hn => ?_
  have : hasEd es c false = true := List.any_eq_true.2 ⟨e, he, by rw [decide_eq_true h1, decide_eq_false hn]; rfl⟩
  rw [this] at h2; cases h2
/-- All states of the part of a sink are reached from its first one. -/
theorem sink_reach (h : ∀ e ∈ es, okE L (n : Int) e = true) {c : List Int} (hc : c ∈ snks es n) : 0 < c.length ∧ SG (n : Int) c ∧ ∀ t : Nat, t < c.length → Rc (partE c es) 0 (t : Int) := by
  obtain ⟨r, hr, rfl⟩ := comps_mem (List.mem_filter.1 hc).1
  have hrn := (reps_lt hr).1
  have hasc := compF_asc es n r
  have hpos : 0 < (compF es n r).length := List.length_pos_of_mem (compF_self h hrn)
  refine ⟨hpos, mems_sg n _, fun t ht => ?_⟩
  obtain ⟨x, hx⟩ : ∃ x, (compF es n r)[0]? = some x := ⟨_, List.getElem?_eq_getElem hpos⟩
  obtain ⟨y, hy⟩ : ∃ y, (compF es n r)[t]? = some y := ⟨_, List.getElem?_eq_getElem ht⟩
  have hxm := List.mem_of_getElem? hx
  have hym := List.mem_of_getElem? hy
  obtain ⟨x', rfl, -, -, x2⟩ := (compF_mem h hrn).1 hxm
  obtain ⟨y', rfl, -, y1, -⟩ := (compF_mem h hrn).1 hym
  have := (x2.trans y1).closed (P := fun z => z ∈ compF es n r ∧ Rc (partE (compF es n r) es) 0 (((compF es n r).idxOf z : Nat) : Int)) ⟨hxm, by rw [idx_of hasc hx]; exact Rc.refl _ _⟩ (fun e he hP => by
    have h2 := snks_inC hc he hP.1
    refine ⟨h2, hP.2.trans ?_⟩
    have hm : (((compF es n r).idxOf e.1 : Int), e.2.1, ((compF es n r).idxOf e.2.2 : Int)) ∈ partE (compF es n r) es := partE_mem.2 ⟨e, he, ⟨hP.1, h2⟩, rfl⟩
    exact Rc.edge hm)
  rw [idx_of hasc hy] at this
  exact this.2
end
end Go.Proofs.YtiockphjnkehnaaGreatDoor

namespace Go.Proofs.YtiockphjnkehnaaGreatDoor
set_option linter.unusedVariables false

def cvC (La : Nat) (b : Bs) : List Nat := classN (mT b.1.length b.2) La b.1.length
def cvM (La : Nat) (b : Bs) : List E3 := mkE (mgE b.2 (cvC La b))
def cvS (La : Nat) (b : Bs) : List Int := (snks (cvM La b) (numC (cvC La b))).headD []
/-- The cover made of a graph of sets. -/
def cvF (La : Nat) (b : Bs) : Bs := bSets (builtN (partE (cvS La b) (cvM La b)) La 1)
/-- What Cover returns: an error's number, or as many sets as there are states, and edges. -/
def covR (La S : Int) (es : List E3) : Int × Bs :=
  if chkG La S es = 0 then (if irrB es S.toNat = true then (if (buildR La S es).1 = 0 then (0, cvF La.toNat (buildR La S es).2) else (4, ([], []))) else (8, ([], []))) else (1, ([], []))
theorem edsN_le (es : List E3) (sets : List Nat) (i c : Nat) : (edsN es sets i c).length ≤ c := by
  unfold edsN
  have := List.length_filterMap_le (edN es sets i) (List.range c)
  rwa [List.length_range] at this
theorem allN_le (es : List E3) (La : Nat) (sets : List Nat) : ∀ i, (allN es La sets i).length ≤ i * La
  | 0 => by unfold allN; simp
  | i + 1 => by
    rw [allN_succ, List.length_append, Nat.succ_mul]
    have h1 := allN_le es La sets i
    have h2 := edsN_le es sets i La
    omega
/-- The steps to a cover. -/
structure CV (La n : Nat) (es : List E3) (b : Bs) (cs : List Nat) (m : List E3) (c : List Int) (r : List (List Int)) (p : List E3) (F : Bs) : Prop where
  hb : buildR (La : Int) (n : Int) es = (0, b)
  hcs : classN (mT b.1.length b.2) La b.1.length = cs
  hm : mkE (mgE b.2 cs) = m
  hs : snks m (numC cs) = c :: r
  hp : partE c m = p
  bv : VG (La : Int) ((b.1.length : Nat) : Int) b.2
  bd : detE b.2 = true
  bl : b.2.length ≤ b.1.length * La
  mv : VG (La : Int) ((numC cs : Nat) : Int) m
  md : detE m = true
  sg : SG ((numC cs : Nat) : Int) c
  pv : VG (La : Int) (c.length : Int) p
  pd : detE p = true
  pos : 0 < c.length
  rc : ∀ t : Nat, t < c.length → Rc p 0 (t : Int)
  hF : builtN p La 1 = some F
  fr : fromR (La : Int) (c.length : Int) p [0] = (0, F)
  res : ResN p La 1 F
  cov : covR (La : Int) (n : Int) es = (0, F)
theorem cv_get {La n : Nat} {es : List E3} (hvg : VG (La : Int) (n : Int) es) (hi : irrB es n = true) (h : (buildR (La : Int) (n : Int) es).1 = 0) : ∃ b cs m c r p F, CV La n es b cs m c r p F := by
  have hL1 : 1 ≤ La := by have := hvg.l1; omega
  have hL2 : La ≤ 256 := by have := hvg.l2; omega
  have hn0 : n ≠ 0 := fun e => by
    obtain ⟨h1, -⟩ := (irr_iff hvg.ok).1 hi
    cases es with
    | nil => exact h1 rfl
    | cons e r => have := okE_iff.1 (hvg.ok e List.mem_cons_self); omega
  have hn64 : n ≤ 64 := by have := hvg.s2; omega
  have hcov : covR (La : Int) (n : Int) es = (0, cvF La (buildR (La : Int) (n : Int) es).2) := by
    unfold covR
    rw [if_pos hvg.chk, if_pos (by rw [Int.toNat_natCast]; exact hi), if_pos h, Int.toNat_natCast]
  have hbe : buildR (La : Int) (n : Int) es = (bErr (builtN es La (fullN n)), bSets (builtN es La (fullN n))) := by
    unfold buildR
    rw [if_pos hvg.chk, if_neg (by omega), Int.toNat_natCast, Int.toNat_natCast]
  cases hbn : builtN es La (fullN n) with
  | none => rw [hbe, hbn] at h; cases h
  | some b =>
    have hb : buildR (La : Int) (n : Int) es = (0, b) := by rw [hbe, hbn]; rfl
    rw [hb] at hcov
    have hres := built_res (fullN_ne hn0) (fullN_lt hn64) hbn
    have hbv := hres.vg hL1 hL2
    have hbd := hres.det
    have hb1 : 0 < b.1.length := by
      rcases Nat.eq_zero_or_pos b.1.length with h0 | h0
      · have := hres.hd
        rw [List.eq_nil_of_length_eq_zero h0] at this
        cases this
      · exact h0
    have hcl : (cvC La b).length = b.1.length := classN_len _ _ _ hL1
    have hcn : numC (cvC La b) ≤ b.1.length := classN_num _ _ _ hL1
    have hc0 : 0 < numC (cvC La b) := by
      have := numC_lt (cvC La b) _ (getD_mem (c := cvC La b) (i := 0) (by omega))
      omega
    have hmv : VG (La : Int) ((numC (cvC La b) : Nat) : Int) (cvM La b) := merged_vg hbv hcl (by have := hres.n; omega)
    have hmd : detE (cvM La b) = true := merged_det hbv hbd rfl
    obtain ⟨c, r, hs⟩ := snks_some hmv.ok hc0
    have hcm : c ∈ snks (cvM La b) (numC (cvC La b)) := by rw [hs]; exact List.mem_cons_self
    obtain ⟨hpos, hsg, hrc⟩ := sink_reach hmv.ok hcm
    have hpv := part_vg hmv hsg
    have hpd := det_part hsg.asc hmv.asc hmd
    obtain ⟨F, hF, -⟩ := det_built hpv hpd (s := 0) hpos
    have hcS : cvS La b = c := by unfold cvS; rw [hs]; rfl
    have hcF : cvF La b = F := by unfold cvF; rw [hcS]; rw [show builtN (partE c (cvM La b)) La 1 = some F from hF]; rfl
    refine ⟨b, cvC La b, cvM La b, c, r, partE c (cvM La b), F, hb, rfl, rfl, hs, rfl, hbv, hbd, ?_, hmv, hmd, hsg, hpv, hpd, hpos, hrc, hF, ?_, built_res (by decide) (by decide) hF, ?_⟩
    · rw [hres.ed]; exact allN_le _ _ _ _
    · unfold fromR
      rw [if_pos hpv.chk, if_pos (show chkS (c.length : Int) none [0] = 0 from (sg_one (s := 0) hpos).chk), if_neg (by simp), Int.toNat_natCast, show ofN [(0 : Int)] = 1 from ofN_one 0, show builtN (partE c (cvM La b)) La 1 = some F from hF]; rfl
    · rw [hcov, hcF]
/-- What Cover returns otherwise. -/
theorem covR_bad {La S : Int} {es : List E3} (h : chkG La S es ≠ 0) : covR La S es = (1, ([], [])) := by unfold covR; rw [if_neg h]
theorem covR_not {La S : Int} {es : List E3} (h : chkG La S es = 0) (hi : irrB es S.toNat = false) : covR La S es = (8, ([], [])) := by unfold covR; rw [if_pos h, if_neg (by rw [hi]; decide)]
theorem covR_many {La S : Int} {es : List E3} (h : chkG La S es = 0) (hi : irrB es S.toNat = true) (hb : (buildR La S es).1 ≠ 0) : covR La S es = (4, ([], [])) := by unfold covR; rw [if_pos h, if_pos hi, if_neg hb]
end Go.Proofs.YtiockphjnkehnaaGreatDoor

namespace Go.Proofs.YtiockphjnkehnaaGreatDoor
open Go.RowKit
set_option linter.unusedSimpArgs false
set_option linter.unusedVariables false

/-- The new numbers of the states. -/
def csQ (Q : List Nat) (n : Nat) : List Nat := (List.range n).map (Q.idxOf ·)
theorem csQ_len (Q : List Nat) (n : Nat) : (csQ Q n).length = n := by unfold csQ; rw [List.length_map, List.length_range]
theorem csQ_get {Q : List Nat} {n i : Nat} (h : i < n) : (csQ Q n).getD i 0 = Q.idxOf i := by
  unfold csQ
  rw [List.getD_eq_getElem?_getD, List.getElem?_map, List.getElem?_range h]; rfl
theorem csQ_mg {La : Int} {n : Nat} {es : List E3} (h : ∀ e ∈ es, okE La (n : Int) e = true) (Q : List Nat) : mgE es (csQ Q n) = rnE Q es := by
  unfold mgE rnE
  refine List.map_congr_left fun e he => ?_
  obtain ⟨a1, a2, a3, a4⟩ := okE_st (h e he)
  rw [csQ_get a1, csQ_get a2]
theorem ren_fin {La n : Nat} {es : List E3} {F : Bs} {Q : List Nat} (hvg : VG (La : Int) (n : Int) es) (hd : detE es = true) (hres : ResN es La 1 F) (hQ : F.1 = pwL Q) (hnd : Q.Nodup) (hlt : ∀ x ∈ Q, x < n) (hrc : ∀ t : Nat, t < n → Rc es 0 (t : Int)) :
    Q.length = n ∧ F.1.length = n ∧ makeR (La : Int) (n : Int) (mgE es (csQ Q n)) = ((La : Int), (n : Int), F.2, 0) ∧ ∀ j, j < n → j ∈ Q := by
  obtain ⟨h1, h2⟩ := cov_eq hvg hd hres hQ hnd hlt hrc
  have h3 : F.1.length = n := by rw [hQ, pwL_len]; exact h1
  refine ⟨h1, h3, ?_, cov_all hvg hd hres hQ hlt hrc⟩
  have hv := hres.vg (La := La) (by have := hvg.l1; omega) (by have := hvg.l2; omega)
  rw [h3] at hv
  rw [csQ_mg hvg.ok]
  unfold makeR
  rw [h2, if_pos hv.chk]
theorem order_one (W : World) : IntsAt (W.alloc (.cells #[.int .i64 0] 3)) W.heap.size (.slice (some ⟨W.heap.size, 0, none⟩) 1 1) (labsI [0]) :=
  ⟨rfl, .inr ⟨W.heap.size, 1, #[.int .i64 0], rfl, Nat.le_refl _, heap_alloc_new W _, Nat.le_refl _, by unfold maxLen; omega, rfl, rfl⟩⟩
theorem labsI_mem {Q : List Nat} {t : Nat} : (t : Int) ∈ labsI Q ↔ t ∈ Q := by
  unfold labsI
  rw [List.mem_map]
  constructor
  · rintro ⟨u, hu, he⟩
    have : u = t := by omega
    rw [← this]; exact hu
  · exact fun h => ⟨t, h, rfl⟩
theorem labsI_app (Q : List Nat) (t : Nat) : labsI (Q ++ [t]) = labsI Q ++ [(t : Int)] := by unfold labsI; rw [List.map_append]; rfl
theorem labsI_at {Q : List Nat} {i t : Nat} (h : Q[i]? = some t) : (labsI Q)[i]? = some (t : Int) := by unfold labsI; rw [List.getElem?_map, h]; rfl
/-- The numbers that are laid when k states are numbered. -/
def nbF (Q : List Nat) (k j : Nat) : Int := if j ∈ Q.take k then ((Q.idxOf j : Nat) : Int) else 0
theorem nbF_step {Q : List Nat} (hnd : Q.Nodup) {k t : Nat} (h : Q[k]? = some t) (j : Nat) : (if j = t then (k : Int) else nbF Q k j) = nbF Q (k + 1) j := by
  have hk : Q.idxOf t = k := idx_nd hnd h
  unfold nbF
  by_cases hj : j = t
  · subst hj
    rw [if_pos rfl, if_pos (by rw [take_snoc h]; simp), hk]
  · rw [if_neg hj]
    have : j ∈ Q.take (k + 1) ↔ j ∈ Q.take k := by
      rw [take_snoc h, List.mem_append, List.mem_singleton]
      exact ⟨fun h2 => h2.resolve_right hj, .inl⟩
    by_cases hm : j ∈ Q.take k
    · rw [if_pos hm, if_pos (this.2 hm)]
    · rw [if_neg hm, if_neg (fun h2 => hm (this.1 h2))]
set_option maxRecDepth 100000 in
set_option maxHeartbeats 12800000 in
theorem ren_any (La n : Nat) (es : List E3) (v : Value) (w : World) (F : Bs) (hrd : EdgesRd w v es) (hvg : VG (La : Int) (n : Int) es) (hd : detE es = true) (hpos : 0 < n) (hF : builtN es La 1 = some F) (hres : ResN es La 1 F) (hrc : ∀ t : Nat, t < n → Rc es 0 (t : Int)) (hln : es.length ≤ 1000) :
    Calls Tryz.prog 28 #[grV (La : Int) (n : Int) v] w fun e w' => ∃ u, e = .returned (grV (La : Int) ((F.1.length : Nat) : Int) u) ∧ EdgesAt w' w.heap.size u F.2 ∧ Below w.heap.size w w' := by
  obtain ⟨i0, hi, hz0, hz1, hz2⟩ := info_parts Tryz.infoEdge
  have hn64 : n ≤ 64 := by have := hvg.s2; omega
  have hLa : La ≤ 256 := by have := hvg.l2; omega
  have hmk := make_intsH n (by omega)
  have HTG := Lib.hid (fun (W : World) (j l : Nat) (h : EdgesRd W v es) => rtarget_any La n j l es v W h hvg hd)
  have HFIN := Lib.hid (fun (Q : List Nat) hQ hnd hlt => ren_fin (Q := Q) hvg hd hres hQ hnd hlt hrc)
  have HMK := Lib.hid (fun (Q : List Nat) v' W h => rmake_any (La : Int) (n : Int) (mgE es (csQ Q n)) v' W h (by rw [mgE_len]; omega))
  have HOK := Lib.hid hvg.ok
  have hmx : Tryz.prog.follows .mixedOrders = true := by kernel_rfl
  have HRD := Lib.hid hrd
  have S0 := Lib.hid (OQ.start hF hpos)
  have HST := Lib.hid (fun (i c : Nat) (b : Bs) (Q : List Nat) (h : OQ es La n F i c b Q) (hi : i < Q.length) (hb : i < b.1.length) => OQ.step hvg hd h hi hb)
  have HTL := Lib.hid (fun j l => mT_le hvg.ok (n := n) j l)
  obtain ⟨m0, hm0⟩ : ∃ m0, mT n es = m0 := ⟨_, rfl⟩
  rw [hm0] at HTG HST HTL
  have K0 := Lib.hid (KB.start w (La : Int) (n : Int) v 24)
  obtain ⟨⟨x1, x2, x3⟩, ⟨⟨r1, r2, r3⟩, r4, r5, r6⟩, -⟩ := id K0.out
  obtain ⟨a, c, rfl⟩ := hrd.form
  clear hrd hvg hd hF hres hrc hm0
  go_enter Tryz.func28, Tryz.ntmps28
  go_wp2_with fail
  clear x1 x2 x3 r1 r2 r3 r4 r5 r6
  have hsz0 : ((w.alloc (.cells #[.int .i64 (La : Int), .int .i64 (n : Int), .slice a es.length c] 24)).alloc (.cells #[.int .i64 0, .int .i64 0, .slice none 0 0] 24)).heap.size = w.heap.size + 2 := by rw [World.size_alloc, World.size_alloc]
  generalize ((w.alloc (.cells #[.int .i64 (La : Int), .int .i64 (n : Int), .slice a es.length c] 24)).alloc (.cells #[.int .i64 0, .int .i64 0, .slice none 0 0] 24)) = W0 at *
  have Q0 := Lib.hid (order_one W0)
  have B0 := Lib.hid (below1 W0 (.cells #[.int .i64 0] 3))
  go_loopg [3, 4, 5, 6] 65 (fun q s3 s4 s5 s6 wx => ∃ (i : Nat) (b0 : Bs) (Q : List Nat), i + q = 65 ∧ s4 = .int .i64 (i : Int) ∧ i ≤ Q.length ∧ Hid (OQ es La n F i 0 b0 Q) ∧ Hid (IntsAt wx W0.heap.size s3 (labsI Q)) ∧ Hid (Below W0.heap.size W0 wx))
  case atStart => exact ⟨0, _, _, by omega, rfl, Nat.zero_le _, S0, by rw [show w.heap.size + 1 + 1 = W0.heap.size by omega]; exact Q0, B0⟩
  case round =>
    clear S0 Q0 B0
    obtain ⟨i, b0, Q, hiq, rfl, hile, HOQ, HQ, HB⟩ := hrel
    have hql := HOQ.out.len
    have KW := Lib.hid (K0.out.keep HB.out)
    obtain ⟨⟨x1, x2, x3⟩, ⟨⟨r1, r2, r3⟩, r4, r5, r6⟩, -⟩ := id KW.out
    obtain ⟨aq, cq, rfl⟩ := HQ.out.slice
    obtain ⟨q, rfl⟩ : ∃ q, q = gk := ⟨_, rfl⟩
    obtain ⟨m, hm⟩ : ∃ m, (labsI Q).length = m := ⟨_, rfl⟩
    have hm2 : Q.length = m := by rw [← hm, labsI_lenH]
    rw [hm] at HQ ⊢
    have HM := Lib.hid hm
    have HM2 := Lib.hid hm2
    by_cases hin : i < m
    · obtain ⟨q, rfl⟩ : ∃ q', q = q' + 1 := ⟨q - 1, by omega⟩
      have j1 : (i : Int) < (m : Int) := by omega
      obtain ⟨Wo, rfl⟩ : ∃ Wo, Wo = wr := ⟨_, rfl⟩
      have hib := (HOQ.out.enter (by omega)).2
      clear hm hm2 x1 x2 x3 r1 r2 r3 r4 r5 r6
      go_wp2_with fail
      go_loopg [3, 5, 6] La (fun q2 s3 s5 s6 wx => ∃ (c : Nat) (Q2 : List Nat), c + q2 = La ∧ s5 = .int .i64 (c : Int) ∧ i < Q2.length ∧ Hid (OQ es La n F i c b0 Q2) ∧ Hid (IntsAt wx W0.heap.size s3 (labsI Q2)) ∧ Hid (Below W0.heap.size W0 wx))
      case atStart => exact ⟨0, Q, by omega, rfl, by rw [HM2.out]; exact hin, HOQ, HQ, HB⟩
      case round =>
        clear HOQ HQ HB KW HM HM2
        obtain ⟨c2, Q2, hcq, rfl, hiQ, HOQ, HQ, HB⟩ := hrel
        have hql := HOQ.out.len
        have KW := Lib.hid (K0.out.keep HB.out)
        obtain ⟨⟨x1, x2, x3⟩, ⟨⟨r1, r2, r3⟩, r4, r5, r6⟩, -⟩ := id KW.out
        rcases gk with _ | q2
        · obtain rfl : c2 = La := by omega
          have j0 : ¬ ((c2 : Int) < (c2 : Int)) := by omega
          have HN := Lib.hid (HOQ.out.next hiQ hib hn64)
          go_wp2_with fail
          go_roundg q
          case measure => omega
          case rel => exact ⟨i + 1, _, Q2, by omega, by go_num, by omega, HN, HQ, HB⟩
        · have j2 : (c2 : Int) < (La : Int) := by omega
          obtain ⟨t, ht⟩ : ∃ t, Q2[i]? = some t := ⟨_, List.getElem?_eq_getElem hiQ⟩
          have htD : Q2.getD i 0 = t := by rw [List.getD_eq_getElem?_getD, ht]; rfl
          obtain ⟨g, cg, hv⟩ := HQ.out.row (by rw [labsI_lenH]; omega)
          subst hv
          have p1 := HQ.out.cell (i := i) (x := (t : Int)) (labsI_at ht)
          obtain ⟨m2, hm2⟩ : ∃ m2, (labsI Q2).length = m2 := ⟨_, rfl⟩
          have hmQ : Q2.length = m2 := by rw [← hm2, labsI_lenH]
          rw [hm2] at HQ ⊢
          have HM := Lib.hid hm2
          have j3 : (i : Int) < (m2 : Int) := by omega
          obtain ⟨T, hT⟩ : ∃ T, m0 t c2 = T := ⟨_, rfl⟩
          have hTn : T ≤ n := by rw [← hT]; exact HTL.out t c2
          have HS := Lib.hid (HST.out i c2 b0 Q2 HOQ.out hiQ hib)
          have HV := Lib.hid (show visO m0 n Q2 i c2 = if T = n ∨ T ∈ Q2 then Q2 else Q2 ++ [T] by unfold visO; rw [htD, hT])
          have TG := Lib.hid (HTG.out wr.drew t c2 ((HRD.out.keep KW.out.bel).keep (Below.refl _ _).drew))
          rw [hT] at TG
          have BD := Lib.hid (Below.refl wr.heap.size wr).drew
          have KX : Hid (∀ W, Below wr.heap.size wr W → W.cell? ⟨g, i, none⟩ = some (.int .i64 (t : Int)) ∧ W.cell? ⟨w.heap.size, 0, none⟩ = some (.int .i64 (La : Int)) ∧ W.cell? ⟨w.heap.size, 1, none⟩ = some (.int .i64 (n : Int)) ∧ W.cell? ⟨w.heap.size, 2, none⟩ = some (.slice a es.length c)) :=
            Lib.hid (fun W hb => ⟨cell_keep p1 hb, cell_keep x1 hb, cell_keep x2 hb, cell_keep x3 hb⟩)
          obtain ⟨X, hX⟩ : ∃ X, tgV n T = X := ⟨_, rfl⟩
          rw [hX] at TG
          clear hT ht htD p1
          go_upto_region 8 with fail
          clear x1 x2 x3 r1 r2 r3 r4 r5 r6
          go_cut [6] (fun s6 wx => s6 = .int .i64 X ∧ Hid (Below wr.heap.size wr wx))
          case first =>
            go_region_held3 (fun W => W.cell? ⟨g, i, none⟩ = some (.int .i64 (t : Int)) ∧ W.cell? ⟨w.heap.size, 0, none⟩ = some (.int .i64 (La : Int)) ∧ W.cell? ⟨w.heap.size, 1, none⟩ = some (.int .i64 (n : Int)) ∧ W.cell? ⟨w.heap.size, 2, none⟩ = some (.slice a es.length c))
              (first | exact KX.out _ BD.out | exact KX.out _ K1.out)
              (first | (go_at_call 61; (with_reducible refine TG.out.mono ?_); rintro e0 Y1 ⟨rfl, q1⟩; (have K1 := Lib.hid (below_more BD.out (Nat.le_refl _) q1)); clear q1))
            all_goals
              go_wp2_with fail
              go_meet
              exact ⟨rfl, K1⟩
          case rest =>
            obtain ⟨rfl, KB1⟩ := hcut
            obtain ⟨Z, rfl⟩ : ∃ Z, Z = wc := ⟨_, rfl⟩
            have HQZ := Lib.hid (HQ.out.keep KB1.out)
            have HBZ := Lib.hid (HB.out.trans (KB1.out.mono HB.out.size))
            clear KX TG BD
            by_cases h1 : T = n
            · have e1 : visO m0 n Q2 i c2 = Q2 := by rw [HV.out, if_pos (.inl h1)]
              rw [e1] at HS
              have d1 : decide (0 ≤ X) = false := decide_eq_false (by rw [← hX, h1, tgV_none]; decide)
              clear e1 hX h1 hm2
              go_wp2_with fail
              go_roundg q2
              case measure => omega
              case rel => exact ⟨c2 + 1, Q2, by omega, by go_num, hiQ, HS, HQZ, HBZ⟩
            · rw [tgV_some h1] at hX
              subst hX
              have d1 : decide ((0 : Int) ≤ (T : Int)) = true := decide_eq_true (by omega)
              have HHA := Lib.hid (rhas_any _ (labsI Q2) (T : Int) Z HQZ.out.rd (by rw [hm2]; omega))
              by_cases h2 : T ∈ Q2
              · have e1 : visO m0 n Q2 i c2 = Q2 := by rw [HV.out, if_pos (.inr h2)]
                rw [e1] at HS
                rw [decide_eq_true (labsI_mem.2 h2)] at HHA
                clear e1 hm2
                go_wp2_with (go_at_call 62; (with_reducible refine HHA.out.mono ?_); rintro e0 Y1 ⟨rfl, rfl⟩)
                go_roundg q2
                case measure => omega
                case rel => exact ⟨c2 + 1, Q2, by omega, by go_num, hiQ, HS, HQZ, HBZ⟩
              · have e1 : visO m0 n Q2 i c2 = Q2 ++ [T] := by rw [HV.out, if_neg (fun h => h.elim h1 h2)]
                rw [e1] at HS
                rw [decide_eq_false (fun h => h2 (labsI_mem.1 h))] at HHA
                have hl9 : (labsI Q2).length + [(T : Int)].length ≤ 100000 := by rw [hm2, List.length_singleton]; omega
                have I0 := Lib.hid (HQZ.out.keep (below1 Z (.cells #[.int .i64 (T : Int)] 3)))
                clear e1 hm2
                go_wp2_with (first
                  | (go_at_call 62; (with_reducible refine HHA.out.mono ?_); rintro e0 Y1 ⟨rfl, rfl⟩)
                  | (at_builtin; refine wpList_appIJ rfl _ _ rfl rfl I0.out (some ⟨Y1.heap.size, 0, none⟩) 1 1 rfl (ints_oneJ Y1 (T : Int)) hl9 (by have h8 := HBZ.out.size; rw [World.size_alloc]; omega) ?_; intro v1 w1 i1 g1 o1; rw [← labsI_app] at i1;
                      (have B1 := Lib.hid (show Below W0.heap.size W0 w1 from (HBZ.out.alloc HBZ.out.size _).grown g1 (by have h8 := HBZ.out.size; rw [World.size_alloc]; omega) (fun y hy => (HQZ.out.lt y hy).1)));
                      (have I1 := Lib.hid i1); clear i1 g1 o1))
                go_roundg q2
                case measure => omega
                case rel => exact ⟨c2 + 1, Q2 ++ [T], by omega, by go_num, by rw [List.length_append]; omega, HS, I1, B1⟩
    · obtain ⟨f1, f2, f3, f4⟩ := HFIN.out Q (HOQ.out.done (by omega) (by omega)) HOQ.out.nd HOQ.out.lt
      have hnd := Lib.hid HOQ.out.nd
      have HLT := Lib.hid HOQ.out.lt
      obtain rfl : m = n := by omega
      have j1 : ¬ ((i : Int) < (m : Int)) := by omega
      obtain ⟨Wp, rfl⟩ : ∃ Wp, Wp = wr := ⟨_, rfl⟩
      obtain ⟨g0, cg, hv⟩ := HQ.out.row (by rw [hm]; exact hpos)
      rw [hm] at hv
      injection hv with e1 e2 e3
      subst e1
      clear e2 e3
      have HALL := Lib.hid f4
      have HF1 := Lib.hid f2
      have HMR := Lib.hid f3
      have T0 := Lib.hid (IRow.made Wp m)
      have BM := Lib.hid (below1 Wp (.cells (madeCells #[.int .i64 0] m) 3))
      clear HOQ HST HTG HTL f1 f2 f3 f4 hm hm2 hql
      go_wp2_with fail
      clear x1 x2 x3 r1 r2 r3 r4 r5 r6
      obtain ⟨R, hR⟩ : ∃ R, Wp.heap.size = R := ⟨_, rfl⟩
      rw [hR] at T0 BM ⊢
      have HRR := Lib.hid hR
      clear hR
      generalize (Wp.alloc (.cells (madeCells #[.int .i64 0] m) 3)) = X at *
      go_loopg [8] m (fun q s8 wx => ∃ k : Nat, k + q = m ∧ s8 = .int .i64 (k : Int) ∧ Hid (IRow wx R m (nbF Q k)) ∧ Hid (Below R Wp wx))
      case atStart => exact ⟨0, by omega, rfl, Lib.hid (T0.out.congr (fun j _ => by unfold nbF; rw [List.take_zero, if_neg (by simp)])), BM⟩
      case round =>
        clear T0 BM
        obtain ⟨kk, hkq, rfl, HR, HBR⟩ := hrel
        have HBP := Lib.hid (show Below Wp.heap.size Wp wr by rw [HRR.out]; exact HBR.out)
        have HQ1 := Lib.hid (HQ.out.keep HBP.out)
        have KW1 := Lib.hid (KW.out.keep HBP.out)
        obtain ⟨⟨x1, x2, x3⟩, ⟨⟨r1, r2, r3⟩, r4, r5, r6⟩, -⟩ := id KW1.out
        rcases gk with _ | q2
        · obtain rfl : kk = m := by omega
          have j0 : ¬ ((kk : Int) < (kk : Int)) := by omega
          have HCL := Lib.hid (csQ_len Q kk)
          have I1 := Lib.hid (irow_rdJ (l := csQ Q kk) HR.out (csQ_len Q kk) (fun j hj => by
            rw [csQ_get hj]
            unfold nbF
            rw [if_pos (by rw [List.take_of_length_le (by rw [HM2.out]; exact Nat.le_refl _)]; exact HALL.out j hj)]))
          obtain ⟨cs, hcs⟩ : ∃ cs, csQ Q kk = cs := ⟨_, rfl⟩
          have HMK2 := Lib.hid (HMK.out Q)
          have HCX := Lib.hid (show Q.length = kk from HM2.out)
          rw [hcs] at HCL I1 HMR HMK2
          have HCS : Hid (∀ i, i < kk → cs.getD i 0 ≤ kk) := Lib.hid (fun i hi => by
            rw [← hcs, csQ_get hi]
            have := List.idxOf_le_length (a := i) (l := Q)
            rw [HM2.out] at this
            exact this)
          obtain ⟨V1, rfl⟩ : ∃ V1, V1 = wr := ⟨_, rfl⟩
          clear HR HQ1 HBP HBR hcs HALL HMK
          go_wp2_with fail
          clear x1 x2 x3 r1 r2 r3 r4 r5 r6
          go_loopg [9, 10, 11] es.length (fun q s9 s10 s11 wx => ∃ k : Nat, k + q = es.length ∧ s10 = .int .i64 (k : Int) ∧ EdgesAt wx V1.heap.size s9 (mgE (es.take k) cs) ∧ Hid (Below V1.heap.size V1 wx))
          case atStart => exact ⟨0, by omega, rfl, edges_nil _ _, Lib.hid (Below.refl _ _)⟩
          case round =>
            obtain ⟨k, hkq, rfl, hown, HB⟩ := hrel
            have KW := Lib.hid (KW1.out.keep HB.out)
            have IW := Lib.hid (I1.out.keep HB.out)
            obtain ⟨⟨x1, x2, x3⟩, ⟨⟨r1, r2, r3⟩, r4, r5, r6⟩, -⟩ := id KW.out
            obtain ⟨au, cu, rfl⟩ := hown.slice
            rcases gk with _ | q2
            · obtain rfl : k = es.length := by omega
              have j5 : ¬ ((es.length : Int) < (es.length : Int)) := by omega
              rw [List.take_length] at hown ⊢
              have HMS := Lib.hid (HMK2.out _ wr hown.rd)
              clear hown hkq
              go_upto_region 23 with (go_at_call 59; (with_reducible refine HMS.out.mono ?_); rintro e0 W5 ⟨v5, rfl, i5, b5⟩; (rw [HMR.out] at i5 ⊢); (dsimp only at i5 ⊢); (obtain ⟨a7, c7, rfl⟩ := i5.slice); (have I5 := Lib.hid i5); (have B5 := Lib.hid b5); (clear r1 r2 r3 r4 r5 r6); (obtain ⟨⟨r1, r2, r3⟩, r4, r5, r6⟩ := id (KW.out.keep b5).2.1); (clear i5 b5 x1 x2 x3))
              have B6 := Lib.hid (below_more B5.out (Nat.le_refl _) (below1 W5 (.cells #[.int .i64 (La : Int), .int .i64 (kk : Int), .slice a7 F.2.length c7] 24)))
              have I6 := Lib.hid (I5.out.keep (below1 W5 (.cells #[.int .i64 (La : Int), .int .i64 (kk : Int), .slice a7 F.2.length c7] 24)))
              have X6 := BoxG.new W5 (La : Int) (kk : Int) (.slice a7 F.2.length c7) 24
              obtain ⟨P5, hP5⟩ : ∃ P5, W5.heap.size = P5 := ⟨_, rfl⟩
              rw [hP5] at X6 ⊢
              clear r1 r2 r3 r4 r5 r6 I5 hP5
              generalize (W5.alloc (.cells #[.int .i64 (La : Int), .int .i64 (kk : Int), .slice a7 F.2.length c7] 24)) = W6 at *
              have KX := Lib.hid (KW.out.keep B6.out)
              obtain ⟨⟨r1, r2, r3⟩, r4, r5, r6⟩ := id KX.out.2.1
              obtain ⟨x1, x2, x3⟩ := X6
              have hlo := KW.out.2.2.2
              go_wp2_with fail
              exact bodyPost_ret (v := grV (La : Int) (kk : Int) (.slice a7 F.2.length c7)) (by simp [results, Tryz.results28, go_sem, r1, r2, r3]) rfl
                ⟨_, by rw [HF1.out], edges_over I6.out (by omega) _ _ _ (by omega), below_over KX.out.bel (Nat.le_succ _) _ _ _⟩
            · obtain ⟨e, he⟩ : ∃ e, es[k]? = some e := ⟨_, List.getElem?_eq_getElem (by omega)⟩
              have hok := okE_iff.1 (HOK.out e (List.mem_of_getElem? he))
              obtain ⟨bb, off, c', hv, k1, k2, k3⟩ := (HRD.out.keep KW.out.bel).at he
              injection hv with e1 e2 e3
              subst e1
              subst e3
              have HS := Lib.hid (show mgE (es.take (k + 1)) cs = mgE (es.take k) cs ++ [(((cs.getD e.1.toNat 0 : Nat) : Int), e.2.1, ((cs.getD e.2.2.toNat 0 : Nat) : Int))] by rw [take_snoc he, mgE_snocJ])
              obtain ⟨x, y, z⟩ := e
              dsimp only at k1 k2 k3 hok HS
              obtain ⟨x, rfl⟩ : ∃ m : Nat, x = (m : Int) := ⟨x.toNat, by omega⟩
              obtain ⟨z, rfl⟩ : ∃ m : Nat, z = (m : Int) := ⟨z.toNat, by omega⟩
              rw [Int.toNat_natCast, Int.toNat_natCast] at HS
              have hxn : x < kk := by omega
              have hzn : z < kk := by omega
              have p7 := ints_cellJ IW.out (i := x) (by rw [HCL.out]; exact hxn)
              have p8 := ints_cellJ IW.out (i := z) (by rw [HCL.out]; exact hzn)
              obtain ⟨cx, hcx⟩ : ∃ cx, cs.getD x 0 = cx := ⟨_, rfl⟩
              obtain ⟨cz, hcz⟩ : ∃ cz, cs.getD z 0 = cz := ⟨_, rfl⟩
              rw [hcx] at p7 HS
              rw [hcz] at p8 HS
              have j3 : (k : Int) < (es.length : Int) := by omega
              have jx : (x : Int) < (kk : Int) := by omega
              have jz : (z : Int) < (kk : Int) := by omega
              have bb1 := below1 wr (.cells #[.int .i64 (x : Int), .int .i64 y, .int .i64 (z : Int)] 39)
              have q7 := cell_keep p7 bb1
              have q8 := cell_keep p8 bb1
              have X1 := BoxG.new wr (x : Int) y (.int .i64 (z : Int)) 39
              have hown0 := hown.keep bb1
              have hlt := hown0.lt
              have BB := Lib.hid (HB.out.trans (bb1.mono HB.out.size))
              have hml : (mgE (es.take k) cs).length ≤ 1000 := by
                have := mgE_len (es.take k) cs
                rw [List.length_take] at this
                omega
              have hOB := Lib.hid (show ∀ q, (Value.slice au (mgE (es.take k) cs).length cu).ownBlock = some q → q < wr.heap.size from fun q e => (hown.lt q e).2)
              have HGV := Lib.hid (show R < V1.heap.size from World.block_lt_of_cell? V1 ⟨R, x, none⟩ (ints_cellJ I1.out (i := x) (by rw [HCL.out]; exact hxn)))
              unfold EdgesAt at hown0
              obtain ⟨m, hm⟩ : ∃ m, (mgE (es.take k) cs).length = m := ⟨_, rfl⟩
              rw [hm] at hown0 hml hlt hOB ⊢
              have HM := Lib.hid hm
              clear he e2 hown hcx hcz p7 p8 hm
              go_upto_region 21 with fail
              obtain ⟨P0, hP0⟩ : ∃ P0, wr.heap.size = P0 := ⟨_, rfl⟩
              rw [hP0] at X1 hOB ⊢
              clear k1 k2 k3 x1 x2 x3 r1 r2 r3 r4 r5 r6 hP0 bb1
              generalize (wr.alloc (.cells #[.int .i64 (x : Int), .int .i64 y, .int .i64 (z : Int)] 39)) = V at *
              obtain ⟨z1, z2, z3⟩ := X1
              have hownD : V.drew.ownsRow V1.heap.size 39 3 (.slice au m cu) m (ecl (mgE (es.take k) cs)) := hown0
              have hR0 : SJe P0 R x z cx cz y V.drew := ⟨z1, z2, z3, q7, q8⟩
              have hn9 : ∀ k, (Value.slice au m cu).ownBlock = some k → k ≠ P0 ∧ k ≠ R := fun k hk => by
                have h1 := hlt k hk
                have h2 := hOB.out k hk
                have h3 := HGV.out
                omega
              refine regionT (T := T2 16 16 (SJe P0 R x z cx cz y) (SJe P0 R x z cx cz y)) hmx ?_
              have hR := hR0
              refine take1 (i := 0) (v := ?_) rfl (by kernel_rfl) (by kernel_rfl) (by kernel_rfl) (by kernel_rfl) (by kernel_rfl) (by decide) (by decide) (fun _ _ _ h => h) (Or.inl ⟨by rfl, ?_⟩) hR hR ?_
              rotate_left
              · intro w hSw
                (try unfold SJe at hSw)
                go_simp
                all_goals with_reducible rfl
              (try simp only [Act.put, List.setIfInBounds_toArray, List.set_cons_zero, List.set_cons_succ])
              refine take1 (i := 1) (v := ?_) rfl (by kernel_rfl) (by kernel_rfl) (by kernel_rfl) (by kernel_rfl) (by kernel_rfl) (by decide) (by decide) (fun _ _ _ h => h) (Or.inl ⟨by rfl, ?_⟩) hR hR ?_
              rotate_left
              · intro w hSw
                (try unfold SJe at hSw)
                go_simp
                all_goals with_reducible rfl
              (try simp only [Act.put, List.setIfInBounds_toArray, List.set_cons_zero, List.set_cons_succ])
              refine take1 (i := 2) (v := ?_) rfl (by kernel_rfl) (by kernel_rfl) (by kernel_rfl) (by kernel_rfl) (by kernel_rfl) (by decide) (by decide) (fun _ _ _ h => h) (Or.inl ⟨by rfl, ?_⟩) hR hR ?_
              rotate_left
              · intro w hSw
                (try unfold SJe at hSw)
                go_simp
                all_goals with_reducible rfl
              (try simp only [Act.put, List.setIfInBounds_toArray, List.set_cons_zero, List.set_cons_succ])
              refine take1 (i := 3) (v := ?_) rfl (by kernel_rfl) (by kernel_rfl) (by kernel_rfl) (by kernel_rfl) (by kernel_rfl) (by decide) (by decide) (fun _ _ _ h => h) (Or.inl ⟨by rfl, ?_⟩) hR hR ?_
              rotate_left
              · intro w hSw
                (try unfold SJe at hSw)
                go_simp
                all_goals with_reducible rfl
              (try simp only [Act.put, List.setIfInBounds_toArray, List.set_cons_zero, List.set_cons_succ])
              refine take1 (i := 4) (v := ?_) rfl (by kernel_rfl) (by kernel_rfl) (by kernel_rfl) (by kernel_rfl) (by kernel_rfl) (by decide) (by decide) (fun _ _ _ h => h) (Or.inl ⟨by rfl, ?_⟩) hR hR ?_
              rotate_left
              · intro w hSw
                (try unfold SJe at hSw)
                go_simp
                all_goals with_reducible rfl
              (try simp only [Act.put, List.setIfInBounds_toArray, List.set_cons_zero, List.set_cons_succ])
              refine take1 (i := 5) (v := ?_) rfl (by kernel_rfl) (by kernel_rfl) (by kernel_rfl) (by kernel_rfl) (by kernel_rfl) (by decide) (by decide) (fun _ _ _ h => h) (Or.inl ⟨by rfl, ?_⟩) hR hR ?_
              rotate_left
              · intro w hSw
                (try unfold SJe at hSw)
                go_simp
                all_goals with_reducible rfl
              (try simp only [Act.put, List.setIfInBounds_toArray, List.set_cons_zero, List.set_cons_succ])
              refine take1 (i := 6) (v := ?_) rfl (by kernel_rfl) (by kernel_rfl) (by kernel_rfl) (by kernel_rfl) (by kernel_rfl) (by decide) (by decide) (fun _ _ _ h => h) (Or.inl ⟨by rfl, ?_⟩) hR hR ?_
              rotate_left
              · intro w hSw
                (try unfold SJe at hSw)
                go_simp
                all_goals with_reducible rfl
              (try simp only [Act.put, List.setIfInBounds_toArray, List.set_cons_zero, List.set_cons_succ])
              refine take1 (i := 7) (v := ?_) rfl (by kernel_rfl) (by kernel_rfl) (by kernel_rfl) (by kernel_rfl) (by kernel_rfl) (by decide) (by decide) (fun _ _ _ h => h) (Or.inl ⟨by rfl, ?_⟩) hR hR ?_
              rotate_left
              · intro w hSw
                (try unfold SJe at hSw)
                go_simp
                all_goals with_reducible rfl
              (try simp only [Act.put, List.setIfInBounds_toArray, List.set_cons_zero, List.set_cons_succ])
              refine take1 (i := 8) (v := ?_) rfl (by kernel_rfl) (by kernel_rfl) (by kernel_rfl) (by kernel_rfl) (by kernel_rfl) (by decide) (by decide) (fun _ _ _ h => h) (Or.inl ⟨by rfl, ?_⟩) hR hR ?_
              rotate_left
              · intro w hSw
                (try unfold SJe at hSw)
                go_simp
                all_goals with_reducible rfl
              (try simp only [Act.put, List.setIfInBounds_toArray, List.set_cons_zero, List.set_cons_succ])
              refine take1 (i := 9) (v := ?_) rfl (by kernel_rfl) (by kernel_rfl) (by kernel_rfl) (by kernel_rfl) (by kernel_rfl) (by decide) (by decide) (fun _ _ _ h => h) (Or.inl ⟨by rfl, ?_⟩) hR hR ?_
              rotate_left
              · intro w hSw
                (try unfold SJe at hSw)
                go_simp
                all_goals with_reducible rfl
              (try simp only [Act.put, List.setIfInBounds_toArray, List.set_cons_zero, List.set_cons_succ])
              refine take1 (i := 10) (v := ?_) rfl (by kernel_rfl) (by kernel_rfl) (by kernel_rfl) (by kernel_rfl) (by kernel_rfl) (by decide) (by decide) (fun _ _ _ h => h) (Or.inl ⟨by rfl, ?_⟩) hR hR ?_
              rotate_left
              · intro w hSw
                (try unfold SJe at hSw)
                go_simp
                all_goals with_reducible rfl
              (try simp only [Act.put, List.setIfInBounds_toArray, List.set_cons_zero, List.set_cons_succ])
              refine take1 (i := 11) (v := ?_) rfl (by kernel_rfl) (by kernel_rfl) (by kernel_rfl) (by kernel_rfl) (by kernel_rfl) (by decide) (by decide) (fun _ _ _ h => h) (Or.inl ⟨by rfl, ?_⟩) hR hR ?_
              rotate_left
              · intro w hSw
                (try unfold SJe at hSw)
                go_simp
                all_goals with_reducible rfl
              (try simp only [Act.put, List.setIfInBounds_toArray, List.set_cons_zero, List.set_cons_succ])
              refine take1 (i := 12) (v := ?_) rfl (by kernel_rfl) (by kernel_rfl) (by kernel_rfl) (by kernel_rfl) (by kernel_rfl) (by decide) (by decide) (fun _ _ _ h => h) (Or.inl ⟨by rfl, ?_⟩) hR hR ?_
              rotate_left
              · intro w hSw
                (try unfold SJe at hSw)
                go_simp
                all_goals with_reducible rfl
              (try simp only [Act.put, List.setIfInBounds_toArray, List.set_cons_zero, List.set_cons_succ])
              refine take1 (i := 13) (v := ?_) rfl (by kernel_rfl) (by kernel_rfl) (by kernel_rfl) (by kernel_rfl) (by kernel_rfl) (by decide) (by decide) (fun _ _ _ h => h) (Or.inl ⟨by rfl, ?_⟩) hR hR ?_
              rotate_left
              · intro w hSw
                (try unfold SJe at hSw)
                go_simp
                all_goals with_reducible rfl
              (try simp only [Act.put, List.setIfInBounds_toArray, List.set_cons_zero, List.set_cons_succ])
              refine stepT (i := 14) (by kernel_rfl) rfl (fun K hK => ?_)
              go_simp
              have hR6 := hR.keep (below1 V.drew (.cells #[.int .i64 (cx : Int), .int .i64 y, .int .i64 (cz : Int)] 39))
              refine hK.out _ _ ⟨fun _ => hR6, fun _ => hR6⟩ ?_
              clear hK K hR
              have hR := hR6
              (try simp only [Act.put, List.setIfInBounds_toArray, List.set_cons_zero, List.set_cons_succ])
              refine stepT (i := 15) (by kernel_rfl) rfl (fun K hK => ?_)
              refine step_append_lies _ (by rfl) (.tmp 74) (.tmp 88) 22 (by rfl) V1.heap.size 39 i0 (.agg #[.int .i64 0, .int .i64 0, .int .i64 0]) 3 24 Tryz.underlying22 hi hz0 hz1 hz2 rfl (by decide) (.slice au m cu) m (ecl (mgE (es.take k) cs)) (by rfl) (hownD.alloc _) ⟨V.drew.heap.size, 0, none⟩ 1 1 [.int .i64 (cx : Int), .int .i64 y, .int .i64 (cz : Int)] (by rfl) (by rfl) (cell_three_new _ _ _ _ _) (by intro u hu; simp at hu; rcases hu with rfl | rfl | rfl <;> rfl) (by decide) (by unfold maxLen; omega) (by omega) (Nat.le_trans BB.out.size (below1 V (.cells #[.int .i64 (cx : Int), .int .i64 y, .int .i64 (cz : Int)] 39)).size) _ rfl ?_
              intro g9 c9 W4 t1 t2 t3 t4
              have hR7 : SJe P0 R x z cx cz y W4 := hR.grown t2 hn9
              refine hK.out _ _ ⟨fun _ => hR7, fun _ => hR7⟩ ?_
              clear hK K hR
              have hR := hR7
              (try simp only [Act.put, List.setIfInBounds_toArray, List.set_cons_zero, List.set_cons_succ])
              refine stepT (i := 16) (by kernel_rfl) rfl (fun K hK => ?_)
              go_simp
              refine hK.out _ _ ⟨fun h => absurd h (by decide), fun h => absurd h (by decide)⟩ ?_
              clear hK K
              (try simp only [Act.put, List.setIfInBounds_toArray, List.set_cons_zero, List.set_cons_succ])
              refine doneT (by kernel_rfl) ?_ _
              have E5 := Lib.hid (show EdgesAt W4 V1.heap.size (.slice (some ⟨g9, 0, none⟩) (m + 1) c9) (mgE (es.take (k + 1)) cs) by unfold EdgesAt; rw [HS.out, List.length_append, HM.out, ecl_snoc]; exact t1)
              have B5 := Lib.hid (show Below V1.heap.size V1 W4 from ((BB.out.drew).alloc BB.out.size (.cells #[.int .i64 (cx : Int), .int .i64 y, .int .i64 (cz : Int)] 39)).grown t2 (Nat.le_trans BB.out.size (below1 V (.cells #[.int .i64 (cx : Int), .int .i64 y, .int .i64 (cz : Int)] 39)).size) (fun k hk => (hlt k hk).1))
              clear t1 t2 t3 t4 hown0 hownD hn9 hlt z1 z2 z3 q7 q8
              go_wp2_with fail
              go_roundg q2
              case measure => omega
              case rel => exact ⟨k + 1, by omega, by go_num, E5.out, B5⟩
        · obtain ⟨t, ht⟩ : ∃ t, Q[kk]? = some t := ⟨_, List.getElem?_eq_getElem (by rw [HM2.out]; omega)⟩
          have htm : t < m := HLT.out t (List.mem_of_getElem? ht)
          have p1 := (show IntsAt wr W0.heap.size (.slice (some ⟨g0, 0, none⟩) (labsI Q).length cq) (labsI Q) by have h := HQ1.out; rw [← HM.out] at h; exact h).cell (i := kk) (x := (t : Int)) (labsI_at ht)
          have c0 := HR.out.cell htm
          have f0 := HR.out.frozen t
          have R1 := Lib.hid ((HR.out.set t (kk : Int)).congr (fun j _ => nbF_step hnd.out ht j))
          have B1 := Lib.hid (HBR.out.setCell (p := ⟨R, t, none⟩) (Nat.le_refl _) (.int .i64 (kk : Int)))
          have j2 : (kk : Int) < (m : Int) := by omega
          have j3 : (t : Int) < (m : Int) := by omega
          clear ht
          go_wp2_with fail
          go_roundg q2
          case measure => omega
          case rel => exact ⟨kk + 1, by omega, by go_num, R1, B1⟩
end Go.Proofs.YtiockphjnkehnaaGreatDoor

namespace Go.Proofs.YtiockphjnkehnaaGreatDoor
open Go.RowKit
set_option linter.unusedSimpArgs false
set_option linter.unusedVariables false

/-- A graph and an error's number. -/
def CovOut (La : Int) (r : Int × Bs) (w : World) (e : Ending) (w' : World) : Prop :=
  ∃ b d, e = .returned (.tuple #[grV (onOk r.1 La) ((r.2.1.length : Nat) : Int) (.slice b r.2.2.length d), .int .i64 r.1]) ∧ EdgesRd w' (.slice b r.2.2.length d) r.2.2 ∧ Below w.heap.size w w'
theorem CovOut.err {La z : Int} {w w' : World} (hz : z ≠ 0) (hb : Below w.heap.size w w') : CovOut La (z, ([], [])) w (.returned (.tuple #[grV 0 0 (.slice none 0 0), .int .i64 z])) w' :=
  ⟨none, 0, by unfold onOk; rw [if_neg hz]; rfl, ⟨none, 0, rfl, fun i e he => by simp at he⟩, hb⟩
theorem snks_parts {La n : Nat} {es : List E3} (hvg : VG (La : Int) (n : Int) es) : partsR (La : Int) (n : Int) es (fun c => !hasEd es c false) = snks es n := by
  unfold partsR snks
  rw [if_pos hvg.chk, Int.toNat_natCast]
theorem errC_ok {La S : Int} {es : List E3} (h : chkG La S es = 0) : errC La S es = 0 := by unfold errC; rw [if_pos h]
set_option maxRecDepth 100000 in
set_option maxHeartbeats 6400000 in
theorem cover_no (La S : Int) (es : List E3) (v : Value) (w : World) (hrd : EdgesRd w v es) (hn : es.length ≤ 9223372036854775807) (h : irrR La S es = false) :
    Calls Tryz.prog 6 #[grV La S v] w (CovOut La (covR La S es) w) := by
  have K0 := Lib.hid (KB.start w La S v 24)
  have HIR := Lib.hid (irreducible_any La S es v _ (hrd.keep K0.out.bel) hn)
  rw [h] at HIR
  obtain ⟨⟨x1, x2, x3⟩, ⟨⟨r1, r2, r3⟩, r4, r5, r6⟩, -⟩ := id K0.out
  obtain ⟨a, c, rfl⟩ := hrd.form
  by_cases h0 : chkG La S es = 0
  · rw [errC_ok h0] at HIR
    have HE := Lib.hid (covR_not h0 (by unfold irrR at h; rwa [if_pos h0] at h))
    rw [HE.out]
    clear hrd h h0 HE
    go_enter Tryz.func6, Tryz.ntmps6
    go_wp2_with (go_at_call 18; (with_reducible refine HIR.out.mono ?_); rintro e W1 ⟨rfl, b1⟩; (have K1 := Lib.hid (K0.out.keep b1)); (clear b1 x1 x2 x3 r1 r2 r3 r4 r5 r6); (obtain ⟨⟨x1, x2, x3⟩, ⟨⟨r1, r2, r3⟩, r4, r5, r6⟩, -⟩ := id K1.out))
    exact bodyPost_ret (v := .tuple #[grV 0 0 (.slice none 0 0), .int .i64 8]) (by simp [results, Tryz.results6, go_sem, r1, r2, r3]) rfl (CovOut.err (by decide) (below_over K1.out.bel (Nat.le_succ _) _ _ _))
  · rw [show errC La S es = 1 by unfold errC; rw [if_neg h0]] at HIR
    have HE := Lib.hid (covR_bad h0)
    rw [HE.out]
    clear hrd h h0 HE
    go_enter Tryz.func6, Tryz.ntmps6
    go_wp2_with (go_at_call 18; (with_reducible refine HIR.out.mono ?_); rintro e W1 ⟨rfl, b1⟩; (have K1 := Lib.hid (K0.out.keep b1)); (clear b1 x1 x2 x3 r1 r2 r3 r4 r5 r6); (obtain ⟨⟨x1, x2, x3⟩, ⟨⟨r1, r2, r3⟩, r4, r5, r6⟩, -⟩ := id K1.out))
    exact bodyPost_ret (v := .tuple #[grV 0 0 (.slice none 0 0), .int .i64 1]) (by simp [results, Tryz.results6, go_sem, r1, r2, r3]) rfl (CovOut.err (by decide) (below_over K1.out.bel (Nat.le_succ _) _ _ _))
set_option maxRecDepth 100000 in
set_option maxHeartbeats 6400000 in
theorem cover_many (La S : Int) (es : List E3) (v : Value) (w : World) (hrd : EdgesRd w v es) (hn : es.length ≤ 9223372036854775807) (hT : TabD w) (h0 : chkG La S es = 0) (hi : irrB es S.toNat = true) (hb : (buildR La S es).1 ≠ 0) :
    Calls Tryz.prog 6 #[grV La S v] w (CovOut La (covR La S es) w) := by
  have K0 := Lib.hid (KB.start w La S v 24)
  have HIR := Lib.hid (irreducible_any La S es v _ (hrd.keep K0.out.bel) hn)
  rw [show irrR La S es = true by unfold irrR; rw [if_pos h0]; exact hi, errC_ok h0] at HIR
  have HT := Lib.hid hT
  have HRD := Lib.hid hrd
  have h4 : (buildR La S es).1 = 4 := (buildR_err h0).resolve_left hb
  have HB1 : Hid (∀ W, EdgesRd W v es → TabD W → Calls Tryz.prog 19 #[grV La S v] W fun e W' => ∃ gv lv, e = .returned (.tuple #[gv, lv, .int .i64 4]) ∧ (∃ l1 l2 ah k ch, gv = grV l1 l2 (.slice ah k ch)) ∧ Below W.heap.size W W') := Lib.hid (fun W g1 g2 => by
    refine (Build_any La S es v W g1 hn g2).mono ?_
    rw [h4]
    rintro e W' ⟨hv, lv, he, g3, g4, g5⟩
    obtain ⟨ah, ch, rfl⟩ := g3.slice
    exact ⟨_, lv, he, ⟨_, _, _, _, _, rfl⟩, g5⟩)
  obtain ⟨⟨x1, x2, x3⟩, ⟨⟨r1, r2, r3⟩, r4, r5, r6⟩, -⟩ := id K0.out
  obtain ⟨a, c, rfl⟩ := hrd.form
  have HE := Lib.hid (covR_many h0 hi hb)
  rw [HE.out]
  clear hrd h0 hi hb h4 HE hT
  go_enter Tryz.func6, Tryz.ntmps6
  go_upto_region 6 with (go_at_call 18; (with_reducible refine HIR.out.mono ?_); rintro e W1 ⟨rfl, b1⟩; (have K1 := Lib.hid (K0.out.keep b1)); (clear b1 x1 x2 x3 r1 r2 r3 r4 r5 r6); (obtain ⟨⟨x1, x2, x3⟩, ⟨⟨r1, r2, r3⟩, r4, r5, r6⟩, -⟩ := id K1.out))
  go_upto_region 7 with (go_at_call 19; (with_reducible refine (HB1.out _ (HRD.out.keep K1.out.bel) (HT.out.keep K1.out.bel)).mono ?_); rintro e W3 ⟨gv, lv, rfl, ⟨l1, l2, ah, k, ch, rfl⟩, b3⟩)
  have k3 := below_more b3 (Nat.le_refl _) (below1 W3 (.cells #[.int .i64 l1, .int .i64 l2, .slice ah k ch] 24))
  have K3 := Lib.hid (K1.out.keep k3)
  clear b3 k3 x1 x2 x3 r1 r2 r3 r4 r5 r6
  obtain ⟨⟨x1, x2, x3⟩, ⟨⟨r1, r2, r3⟩, r4, r5, r6⟩, -⟩ := id K3.out
  go_wp2_with fail
  exact bodyPost_ret (v := .tuple #[grV 0 0 (.slice none 0 0), .int .i64 4]) (by simp [results, Tryz.results6, go_sem, r1, r2, r3]) rfl (CovOut.err (by decide) (below_over K3.out.bel (Nat.le_succ _) _ _ _))
set_option maxRecDepth 100000 in
set_option maxHeartbeats 12800000 in
theorem cover_yes (La n : Nat) (es : List E3) (v : Value) (w : World) (hrd : EdgesRd w v es) (hvg : VG (La : Int) (n : Int) es) (hT : TabD w) (hi : irrB es n = true) (b : Bs) (cs : List Nat) (m : List E3) (c : List Int) (r : List (List Int)) (p : List E3) (F : Bs) (hcv : CV La n es b cs m c r p F) :
    Calls Tryz.prog 6 #[grV (La : Int) (n : Int) v] w (CovOut (La : Int) (covR (La : Int) (n : Int) es) w) := by
  have hmx : Tryz.prog.follows .mixedOrders = true := by kernel_rfl
  have hlen := hvg.len
  have HT := Lib.hid hT
  have HRD := Lib.hid hrd
  have HIR : Hid (∀ W, EdgesRd W v es → Calls Tryz.prog 18 #[grV (La : Int) (n : Int) v] W fun e W' => e = .returned (.tuple #[.bool true, .int .i64 0]) ∧ Below W.heap.size W W') := Lib.hid (fun W h => by
    have k := irreducible_any (La : Int) (n : Int) es v W h (by omega)
    rw [show irrR (La : Int) (n : Int) es = true by unfold irrR; rw [if_pos hvg.chk, Int.toNat_natCast]; exact hi, errC_ok hvg.chk] at k
    exact k)
  obtain ⟨ea, hea⟩ : ∃ ea, b.2 = ea := ⟨_, rfl⟩
  obtain ⟨na, hna⟩ : ∃ na, b.1.length = na := ⟨_, rfl⟩
  obtain ⟨nc, hnc⟩ : ∃ nc, numC cs = nc := ⟨_, rfl⟩
  obtain ⟨k, hk⟩ : ∃ k, c.length = k := ⟨_, rfl⟩
  have HB1 : Hid (∀ W, EdgesRd W v es → TabD W → Calls Tryz.prog 19 #[grV (La : Int) (n : Int) v] W fun e W' => ∃ ah ch lv, e = .returned (.tuple #[grV (La : Int) (na : Int) (.slice ah ea.length ch), lv, .int .i64 0]) ∧ EdgesRd W' (.slice ah ea.length ch) ea ∧ Below W.heap.size W W') := Lib.hid (fun W g1 g2 => by
    refine (Build_any (La : Int) (n : Int) es v W g1 (by omega) g2).mono ?_
    rw [hcv.hb]
    rintro e W' ⟨hv, lv, he, g3, g4, g5⟩
    dsimp only at he g3
    rw [hea] at g3
    obtain ⟨ah, ch, rfl⟩ := g3.slice
    rw [hna] at he
    exact ⟨ah, ch, lv, he, g3.rd, g5⟩)
  have HMG : Hid (∀ W u, EdgesRd W u ea → Calls Tryz.prog 16 #[grV (La : Int) (na : Int) u] W fun e W' => ∃ ah ch lv, e = .returned (.tuple #[grV (La : Int) (nc : Int) (.slice ah m.length ch), lv, .int .i64 0]) ∧ EdgesRd W' (.slice ah m.length ch) m ∧ Below W.heap.size W W') := Lib.hid (fun W u g1 => by
    have q1 := hcv.hcs
    have q2 := hcv.hm
    have q3 := hcv.bv
    have q4 := hcv.bd
    rw [hea] at q1 q2 q3 q4
    rw [hna] at q1 q3
    refine (merge_yes La na ea u W cs q1 g1 q3 q4).mono ?_
    rintro e W' ⟨v', g, c', he, g2, g3, g4⟩
    rw [q2] at g2
    obtain ⟨ah, ch, rfl⟩ := g2.slice
    rw [hnc] at he
    exact ⟨ah, ch, _, he, g2.rd, g4⟩)
  have HSK : Hid (∀ W u, EdgesRd W u m → Calls Tryz.prog 20 #[grV (La : Int) (nc : Int) u] W fun e W' => ∃ lb, ∃ lo, ∃ lc, ∃ uc, e = .returned (.tuple #[.slice (some ⟨lb, lo, none⟩) (c :: r).length lc, .int .i64 0]) ∧ W'.cell? ⟨lb, lo, none⟩ = some uc ∧ IntsRd W' uc c ∧ Below W.heap.size W W') := Lib.hid (fun W u g1 => by
    have q1 := hcv.mv
    have q2 := hcv.hs
    rw [hnc] at q1 q2
    have k1 := sinks_any (La : Int) (nc : Int) m u W g1 (by have := q1.len; omega)
    rw [snks_parts q1, q2, errC_ok q1.chk] at k1
    refine k1.mono ?_
    rintro e W' ⟨lv, he, g2, g3, -⟩
    obtain ⟨lb, lo, lc, uc, hv, h1, h2⟩ := g2.at (i := 0) (r := c) rfl
    subst hv
    exact ⟨lb, lo, lc, uc, he, h1, h2, g3⟩)
  have HKP : Hid (∀ W u uc, EdgesRd W u m → IntsRd W uc c → Calls Tryz.prog 21 #[grV (La : Int) (nc : Int) u, uc] W fun e W' => ∃ ah ch, e = .returned (.tuple #[grV (La : Int) (k : Int) (.slice ah p.length ch), .int .i64 0]) ∧ EdgesAt W' W.heap.size (.slice ah p.length ch) p ∧ Below W.heap.size W W') := Lib.hid (fun W u uc g1 g2 => by
    have q1 := hcv.mv
    have q2 := hcv.sg
    rw [hnc] at q1 q2
    have k1 := keep_any (La : Int) (nc : Int) m u uc c W g1 (by have := q1.len; omega) g2 (by have := sg_len q2; have := q1.s2; omega)
    rw [show keepR (La : Int) (nc : Int) m c = ((La : Int), (k : Int), p, 0) by unfold keepR; rw [if_pos q1.chk, if_pos q2.chk, hk, hcv.hp]] at k1
    refine k1.mono ?_
    rintro e W' ⟨v', he, g3, g4⟩
    dsimp only at he g3
    obtain ⟨ah, ch, rfl⟩ := g3.slice
    exact ⟨ah, ch, he, g3, g4⟩)
  obtain ⟨f, hf⟩ : ∃ f, F.1.length = f := ⟨_, rfl⟩
  have HFR : Hid (∀ W u uc, EdgesRd W u p → IntsRd W uc [0] → TabD W → Calls Tryz.prog 22 #[grV (La : Int) (k : Int) u, uc] W fun e W' => ∃ ah ch lv, e = .returned (.tuple #[grV (La : Int) (f : Int) (.slice ah F.2.length ch), lv, .int .i64 0]) ∧ EdgesAt W' W.heap.size (.slice ah F.2.length ch) F.2 ∧ Below W.heap.size W W') := Lib.hid (fun W u uc g1 g2 g3 => by
    have q1 := hcv.pv
    have q2 := hcv.fr
    rw [hk] at q1 q2
    refine (From_any (La : Int) (k : Int) p u uc [0] W g1 (by have := q1.len; omega) g2 (by simp) g3).mono ?_
    rw [q2]
    rintro e W' ⟨hv, lv, he, g4, g5, g6⟩
    dsimp only at he g4
    obtain ⟨ah, ch, rfl⟩ := g4.slice
    rw [hf] at he
    exact ⟨ah, ch, lv, he, g4, g6⟩)
  have HE : Hid (∀ e w', (∃ ah ch, e = .returned (.tuple #[grV (La : Int) (f : Int) (.slice ah F.2.length ch), .int .i64 0]) ∧ EdgesRd w' (.slice ah F.2.length ch) F.2 ∧ Below w.heap.size w w') → CovOut (La : Int) (covR (La : Int) (n : Int) es) w e w') := Lib.hid (fun e w' h => by
    obtain ⟨ah, ch, he, h1, h2⟩ := h
    rw [hcv.cov]
    exact ⟨ah, ch, by rw [hf]; exact he, h1, h2⟩)
  have K0 := Lib.hid (KB.start w (La : Int) (n : Int) v 24)
  obtain ⟨⟨x1, x2, x3⟩, ⟨⟨r1, r2, r3⟩, r4, r5, r6⟩, -⟩ := id K0.out
  obtain ⟨a, cc, rfl⟩ := hrd.form
  obtain ⟨rn, hrn⟩ : ∃ rn, (c :: r).length = rn := ⟨_, rfl⟩
  have hrn1 : 0 < rn := by rw [← hrn]; simp
  rw [hrn] at HSK
  clear hrd hvg hi hT hcv hea hna hnc hk hf hrn
  go_enter Tryz.func6, Tryz.ntmps6
  go_upto_region 6 with (go_at_call 18; (with_reducible refine (HIR.out _ (HRD.out.keep K0.out.bel)).mono ?_); rintro e W1 ⟨rfl, b1⟩; (have K1 := Lib.hid (K0.out.keep b1)); (clear b1 x1 x2 x3 r1 r2 r3 r4 r5 r6); (obtain ⟨⟨x1, x2, x3⟩, ⟨⟨r1, r2, r3⟩, r4, r5, r6⟩, -⟩ := id K1.out))
  go_upto_region 7 with (go_at_call 19; (with_reducible refine (HB1.out _ (HRD.out.keep K1.out.bel) (HT.out.keep K1.out.bel)).mono ?_); rintro e W3 ⟨ah, ch, lv, rfl, e3, b3⟩)
  have k3 := below_more b3 (Nat.le_refl _) (below1 W3 (.cells #[.int .i64 (La : Int), .int .i64 (na : Int), .slice ah ea.length ch] 24))
  have E3 := Lib.hid (e3.keep (below1 W3 (.cells #[.int .i64 (La : Int), .int .i64 (na : Int), .slice ah ea.length ch] 24)))
  have G3 := Lib.hid (BoxG.new W3 (La : Int) (na : Int) (.slice ah ea.length ch) 24)
  have K3 := Lib.hid (K1.out.keep k3)
  obtain ⟨P3, hP3⟩ : ∃ P3, W3.heap.size = P3 := ⟨_, rfl⟩
  rw [hP3] at G3 ⊢
  clear b3 e3 k3 x1 x2 x3 r1 r2 r3 r4 r5 r6 hP3 K0 K1
  generalize (W3.alloc (.cells #[.int .i64 (La : Int), .int .i64 (na : Int), .slice ah ea.length ch] 24)) = X3 at *
  obtain ⟨x1, x2, x3⟩ := id G3.out
  go_upto_region 10 with (go_at_call 16; (with_reducible refine (HMG.out _ _ E3.out).mono ?_); rintro e W4 ⟨ai, ci, lv2, rfl, e4, b4⟩)
  have k4 := below_more b4 (Nat.le_refl _) (below1 W4 (.cells #[.int .i64 (La : Int), .int .i64 (nc : Int), .slice ai m.length ci] 24))
  have E4 := Lib.hid (e4.keep (below1 W4 (.cells #[.int .i64 (La : Int), .int .i64 (nc : Int), .slice ai m.length ci] 24)))
  have G4 := Lib.hid (BoxG.new W4 (La : Int) (nc : Int) (.slice ai m.length ci) 24)
  have K4 := Lib.hid (K3.out.keep k4)
  obtain ⟨P4, hP4⟩ : ∃ P4, W4.heap.size = P4 := ⟨_, rfl⟩
  rw [hP4] at G4 ⊢
  clear b4 e4 k4 x1 x2 x3 hP4 K3 G3 E3
  generalize (W4.alloc (.cells #[.int .i64 (La : Int), .int .i64 (nc : Int), .slice ai m.length ci] 24)) = X4 at *
  obtain ⟨x1, x2, x3⟩ := id G4.out
  go_upto_region 15 with (go_at_call 20; (with_reducible refine (HSK.out _ _ E4.out).mono ?_); rintro e W5 ⟨lb, lo, lc, uc, rfl, c5, i5, b5⟩; (have K5 := Lib.hid (K4.out.keep b5)); (have G5 := Lib.hid (G4.out.keep b5)); (have E5 := Lib.hid (E4.out.keep b5)); (have I5 := Lib.hid i5); (clear b5 i5 x1 x2 x3); (obtain ⟨x1, x2, x3⟩ := id G5.out))
  clear K4 G4 E4
  have j1 : (0 : Int) < (rn : Int) := by omega
  have BD := Lib.hid (Below.refl W5.heap.size W5).drew
  have KX : Hid (∀ W, Below W5.heap.size W5 W → W.cell? ⟨lb, lo, none⟩ = some uc ∧ W.cell? ⟨P4, 0, none⟩ = some (.int .i64 (La : Int)) ∧ W.cell? ⟨P4, 1, none⟩ = some (.int .i64 (nc : Int)) ∧ W.cell? ⟨P4, 2, none⟩ = some (.slice ai m.length ci)) :=
    Lib.hid (fun W hb => ⟨cell_keep c5 hb, cell_keep x1 hb, cell_keep x2 hb, cell_keep x3 hb⟩)
  have HKQ : Hid (∀ W, Below W5.heap.size W5 W → _) := Lib.hid (fun W hb => HKP.out W _ _ (E5.out.keep hb) (I5.out.keep hb))
  have BA := Lib.hid (fun o => BD.out.alloc (Nat.le_refl _) o)
  clear c5 x1 x2 x3
  go_cut [5, 11] (fun s5 s11 wx => ∃ P ak ck, s5 = .int .i64 0 ∧ s11 = .pointer (some ⟨P, 0, none⟩) ∧ Hid (BoxG wx P (La : Int) (k : Int) (.slice ak p.length ck)) ∧ Hid (EdgesRd wx (.slice ak p.length ck) p) ∧ Hid (Below W5.heap.size W5 wx))
  case first =>
    go_region_held3 (fun W => W.cell? ⟨lb, lo, none⟩ = some uc ∧ W.cell? ⟨P4, 0, none⟩ = some (.int .i64 (La : Int)) ∧ W.cell? ⟨P4, 1, none⟩ = some (.int .i64 (nc : Int)) ∧ W.cell? ⟨P4, 2, none⟩ = some (.slice ai m.length ci))
      (first | exact KX.out _ BD.out | exact KX.out _ (BA.out _) | exact KX.out _ K1.out | exact KX.out _ (K1.out.alloc K1.out.size _) | exact KX.out _ (below_over (K1.out.alloc K1.out.size _) K1.out.size _ _ _) | exact KX.out _ (below_over K1.out (Nat.le_refl _) _ _ _))
      (first
        | (go_at_call 21; (first | (with_reducible refine (HKQ.out _ BD.out).mono ?_) | (refine (HKQ.out _ (BA.out _)).mono ?_)); rintro e0 Y1 ⟨ak, ck, rfl, e6, q1⟩; (first | (with_reducible have K1 := Lib.hid (below_more BD.out (Nat.le_refl _) q1)) | (have K1 := Lib.hid (below_more (BA.out _) (Nat.le_refl _) q1); have V1 : Hid (GBox Y1 W5.heap.size (.int .i64 0) (.int .i64 0) (.slice none 0 0)) := Lib.hid ((GBox.new W5.drew (.int .i64 0) (.int .i64 0) (.slice none 0 0)).keep q1); obtain ⟨v1, v2, v3, v4, v5, v6⟩ := V1.out.cells)); (have E6 := Lib.hid e6); clear e6))
    all_goals go_wp2_with fail
    all_goals go_meet
    all_goals first
      | exact ⟨_, ak, ck, rfl, rfl, Lib.hid (BoxG.new Y1 (La : Int) (k : Int) _ _), Lib.hid (E6.out.rd.keep (below1 _ _)), Lib.hid (K1.out.alloc K1.out.size _)⟩
      | exact ⟨_, ak, ck, rfl, rfl, Lib.hid (V1.out.set _ _ _).g, Lib.hid (edges_over E6.out (show W5.heap.size < _ by rw [World.size_alloc]; exact Nat.lt_succ_self _) _ _ _ (Nat.le_refl _)).rd, Lib.hid (below_over K1.out (Nat.le_refl _) _ _ _)⟩
  case rest =>
    obtain ⟨P, ak, ck, rfl, rfl, G6, E6, B6⟩ := hcut
    obtain ⟨X6, rfl⟩ : ∃ X6, X6 = wc := ⟨_, rfl⟩
    have K6 := Lib.hid (K5.out.keep B6.out)
    obtain ⟨x1, x2, x3⟩ := id G6.out
    have bb := Lib.hid (below1 X6 (.cells #[.int .i64 0] 3))
    have FR := Lib.hid (HFR.out _ _ _ (E6.out.keep bb.out) (ints_oneJ X6 0) (HT.out.keep ((K6.out.keep bb.out).bel)))
    clear K5 G5 E5 I5 KX BA BD
    go_upto_region 19 with (go_at_call 22; (with_reducible refine FR.out.mono ?_); rintro e W7 ⟨au, cu, lv7, rfl, e7, b7⟩)
    have b8 := below_more bb.out (Nat.le_refl _) (below_more b7 (Nat.le_refl _) (below1 W7 (.cells #[.int .i64 (La : Int), .int .i64 (f : Int), .slice au F.2.length cu] 24)))
    have E8 := Lib.hid (e7.keep (below1 W7 (.cells #[.int .i64 (La : Int), .int .i64 (f : Int), .slice au F.2.length cu] 24)))
    have G8 := Lib.hid (BoxG.new W7 (La : Int) (f : Int) (.slice au F.2.length cu) 24)
    have K8 := Lib.hid (K6.out.keep b8)
    have hlo := K6.out.2.2.2
    obtain ⟨P8, hP8⟩ : ∃ P8, W7.heap.size = P8 := ⟨_, rfl⟩
    rw [hP8] at G8 ⊢
    rw [World.size_alloc] at E8
    clear b7 e7 b8 x1 x2 x3 hP8
    generalize (W7.alloc (.cells #[.int .i64 (La : Int), .int .i64 (f : Int), .slice au F.2.length cu] 24)) = X8 at *
    obtain ⟨x1, x2, x3⟩ := id G8.out
    obtain ⟨⟨y1, y2, y3⟩, ⟨⟨r1, r2, r3⟩, r4, r5, r6⟩, -⟩ := id K8.out
    go_wp2_with fail
    exact bodyPost_ret (v := .tuple #[grV (La : Int) (f : Int) (.slice au F.2.length cu), .int .i64 0]) (by simp [results, Tryz.results6, go_sem, r1, r2, r3]) rfl
      (HE.out _ _ ⟨au, cu, rfl, (edges_over E8.out (by omega) _ _ _ (Nat.le_refl _)).rd, below_over K8.out.bel (Nat.le_succ _) _ _ _⟩)
set_option maxRecDepth 100000 in
/-- Cover, in every case. -/
theorem cover_any (La S : Int) (es : List E3) (v : Value) (w : World) (hrd : EdgesRd w v es) (hn : es.length ≤ 9223372036854775807) (hT : TabD w) :
    Calls Tryz.prog 6 #[grV La S v] w (CovOut La (covR La S es) w) := by
  by_cases hi : irrR La S es = true
  · by_cases h0 : chkG La S es = 0
    · have hir : irrB es S.toNat = true := by unfold irrR at hi; rwa [if_pos h0] at hi
      by_cases hb : (buildR La S es).1 = 0
      · have hvg := chkG_zero h0
        obtain ⟨n, rfl⟩ : ∃ n : Nat, S = (n : Int) := ⟨S.toNat, by have := hvg.s1; omega⟩
        obtain ⟨La, rfl⟩ : ∃ n : Nat, La = (n : Int) := ⟨La.toNat, by have := hvg.l1; omega⟩
        rw [Int.toNat_natCast] at hir
        obtain ⟨b, cs, m, c, r, p, F, hcv⟩ := cv_get hvg hir hb
        exact cover_yes La n es v w hrd hvg hT hir b cs m c r p F hcv
      · exact cover_many La S es v w hrd hn hT h0 hir hb
    · unfold irrR at hi; rw [if_neg h0] at hi; cases hi
  · exact cover_no La S es v w hrd hn (by cases h : irrR La S es with | false => rfl | true => exact absurd h hi)
end Go.Proofs.YtiockphjnkehnaaGreatDoor

namespace Go.Proofs.YtiockphjnkehnaaGreatDoor
open Go.RowKit
set_option linter.unusedSimpArgs false
set_option linter.unusedVariables false

def SYe (lb lo P La nc : Nat) (uc v : Value) (W : World) : Prop := W.cell? ⟨lb, lo, none⟩ = some uc ∧ W.cell? ⟨P, 0, none⟩ = some (.int .i64 (La : Int)) ∧ W.cell? ⟨P, 1, none⟩ = some (.int .i64 (nc : Int)) ∧ W.cell? ⟨P, 2, none⟩ = some v
theorem SYe.keep {lb lo P La nc : Nat} {uc v : Value} {W W' : World} (h : SYe lb lo P La nc uc v W) (hb : Below W.heap.size W W') : SYe lb lo P La nc uc v W' := ⟨cell_keep h.1 hb, cell_keep h.2.1 hb, cell_keep h.2.2.1 hb, cell_keep h.2.2.2 hb⟩
theorem part_len (st : List Int) (es : List E3) : (partE st es).length ≤ es.length := List.length_filterMap_le _ _
set_option maxRecDepth 100000 in
set_option maxHeartbeats 6400000 in
theorem rcover_bad (La S : Int) (es : List E3) (v : Value) (w : World) (hrd : EdgesRd w v es) (hn : es.length ≤ 9223372036854775807) (h : chkG La S es ≠ 0) :
    Calls Tryz.prog 7 #[grV La S v] w (CovOut La (covR La S es) w) := by
  have K0 := Lib.hid (KB.start w La S v 24)
  have HCH := Lib.hid (rcheck_any La S es v _ (hrd.keep K0.out.bel) hn)
  obtain ⟨z, hz⟩ : ∃ z, chkG La S es = z := ⟨_, rfl⟩
  rw [hz] at HCH
  have d1 : (z != 0) = true := by rw [bne_iff_ne, ← hz]; exact h
  obtain ⟨⟨x1, x2, x3⟩, ⟨⟨r1, r2, r3⟩, r4, r5, r6⟩, -⟩ := id K0.out
  obtain ⟨a, c, rfl⟩ := hrd.form
  rw [covR_bad h]
  clear hrd h hz
  go_enter Tryz.func7, Tryz.ntmps7
  go_wp2_with (go_at_call 23; (with_reducible refine HCH.out.mono ?_); rintro e W1 ⟨rfl, b1⟩; (have K1 := Lib.hid (K0.out.keep b1)); (clear b1 x1 x2 x3 r1 r2 r3 r4 r5 r6); (obtain ⟨⟨x1, x2, x3⟩, ⟨⟨r1, r2, r3⟩, r4, r5, r6⟩, -⟩ := id K1.out))
  exact bodyPost_ret (v := .tuple #[grV 0 0 (.slice none 0 0), .int .i64 1]) (by simp [results, Tryz.results7, go_sem, r1, r2, r3]) rfl (CovOut.err (by decide) (below_over K1.out.bel (Nat.le_succ _) _ _ _))
set_option maxRecDepth 100000 in
set_option maxHeartbeats 6400000 in
theorem rcover_not (La S : Int) (es : List E3) (v : Value) (w : World) (hrd : EdgesRd w v es) (hn : es.length ≤ 9223372036854775807) (h : chkG La S es = 0) (hi : irrB es S.toNat = false) :
    Calls Tryz.prog 7 #[grV La S v] w (CovOut La (covR La S es) w) := by
  have K0 := Lib.hid (KB.start w La S v 24)
  have HCH := Lib.hid (rcheck_any La S es v _ (hrd.keep K0.out.bel) hn)
  rw [h] at HCH
  have HIR : Hid (∀ W, EdgesRd W v es → Calls Tryz.prog 24 #[grV La S v] W fun e W' => e = .returned (.tuple #[.bool false, .int .i64 0]) ∧ Below W.heap.size W W') := Lib.hid (fun W g => by
    have k := refIrr_any La S es v W g hn
    rw [show irrR La S es = false by unfold irrR; rw [if_pos h]; exact hi, errC_ok h] at k
    exact k)
  have HRD := Lib.hid hrd
  obtain ⟨⟨x1, x2, x3⟩, ⟨⟨r1, r2, r3⟩, r4, r5, r6⟩, -⟩ := id K0.out
  obtain ⟨a, c, rfl⟩ := hrd.form
  rw [covR_not h hi]
  clear hrd h hi
  go_enter Tryz.func7, Tryz.ntmps7
  go_wp2_with (first
    | (go_at_call 23; (with_reducible refine HCH.out.mono ?_); rintro e W1 ⟨rfl, b1⟩; (have K1 := Lib.hid (K0.out.keep b1)); (clear b1 x1 x2 x3 r1 r2 r3 r4 r5 r6); (obtain ⟨⟨x1, x2, x3⟩, ⟨⟨r1, r2, r3⟩, r4, r5, r6⟩, -⟩ := id K1.out))
    | (go_at_call 24; (with_reducible refine (HIR.out _ (HRD.out.keep K1.out.bel)).mono ?_); rintro e W2 ⟨rfl, b2⟩; (have K2 := Lib.hid (K1.out.keep b2)); (clear b2 x1 x2 x3 r1 r2 r3 r4 r5 r6); (obtain ⟨⟨x1, x2, x3⟩, ⟨⟨r1, r2, r3⟩, r4, r5, r6⟩, -⟩ := id K2.out)))
  exact bodyPost_ret (v := .tuple #[grV 0 0 (.slice none 0 0), .int .i64 8]) (by simp [results, Tryz.results7, go_sem, r1, r2, r3]) rfl (CovOut.err (by decide) (below_over K2.out.bel (Nat.le_succ _) _ _ _))
set_option maxRecDepth 100000 in
set_option maxHeartbeats 6400000 in
theorem rcover_many (La S : Int) (es : List E3) (v : Value) (w : World) (hrd : EdgesRd w v es) (hn : es.length ≤ 9223372036854775807) (h : chkG La S es = 0) (hi : irrB es S.toNat = true) (hb : (buildR La S es).1 ≠ 0) :
    Calls Tryz.prog 7 #[grV La S v] w (CovOut La (covR La S es) w) := by
  have K0 := Lib.hid (KB.start w La S v 24)
  have HCH := Lib.hid (rcheck_any La S es v _ (hrd.keep K0.out.bel) hn)
  rw [h] at HCH
  have HIR : Hid (∀ W, EdgesRd W v es → Calls Tryz.prog 24 #[grV La S v] W fun e W' => e = .returned (.tuple #[.bool true, .int .i64 0]) ∧ Below W.heap.size W W') := Lib.hid (fun W g => by
    have k := refIrr_any La S es v W g hn
    rw [show irrR La S es = true by unfold irrR; rw [if_pos h]; exact hi, errC_ok h] at k
    exact k)
  have h4 : (buildR La S es).1 = 4 := (buildR_err h).resolve_left hb
  have HB1 : Hid (∀ W, EdgesRd W v es → Calls Tryz.prog 25 #[grV La S v] W fun e W' => ∃ gv lv, e = .returned (.tuple #[gv, lv, .int .i64 4]) ∧ (∃ l1 l2 ah k ch, gv = grV l1 l2 (.slice ah k ch)) ∧ Below W.heap.size W W') := Lib.hid (fun W g1 => by
    refine (rbuild_any La S es v W g1 hn).mono ?_
    rintro e W' ⟨b, d, a, c, he, g3, g4, g5⟩
    rw [h4] at he
    exact ⟨_, _, he, ⟨_, _, _, _, _, rfl⟩, g5⟩)
  have HRD := Lib.hid hrd
  obtain ⟨⟨x1, x2, x3⟩, ⟨⟨r1, r2, r3⟩, r4, r5, r6⟩, -⟩ := id K0.out
  obtain ⟨a, c, rfl⟩ := hrd.form
  rw [covR_many h hi hb]
  clear hrd h hi hb h4
  go_enter Tryz.func7, Tryz.ntmps7
  go_upto_region 6 with (first
    | (go_at_call 23; (with_reducible refine HCH.out.mono ?_); rintro e W1 ⟨rfl, b1⟩; (have K1 := Lib.hid (K0.out.keep b1)); (clear b1 x1 x2 x3 r1 r2 r3 r4 r5 r6); (obtain ⟨⟨x1, x2, x3⟩, ⟨⟨r1, r2, r3⟩, r4, r5, r6⟩, -⟩ := id K1.out))
    | (go_at_call 24; (with_reducible refine (HIR.out _ (HRD.out.keep K1.out.bel)).mono ?_); rintro e W2 ⟨rfl, b2⟩; (have K2 := Lib.hid (K1.out.keep b2)); (clear b2 x1 x2 x3 r1 r2 r3 r4 r5 r6); (obtain ⟨⟨x1, x2, x3⟩, ⟨⟨r1, r2, r3⟩, r4, r5, r6⟩, -⟩ := id K2.out)))
  go_upto_region 7 with (go_at_call 25; (with_reducible refine (HB1.out _ (HRD.out.keep K2.out.bel)).mono ?_); rintro e W3 ⟨gv, lv, rfl, ⟨l1, l2, ah, k, ch, rfl⟩, b3⟩)
  have k3 := below_more b3 (Nat.le_refl _) (below1 W3 (.cells #[.int .i64 l1, .int .i64 l2, .slice ah k ch] 24))
  have K3 := Lib.hid (K2.out.keep k3)
  clear b3 k3 x1 x2 x3 r1 r2 r3 r4 r5 r6
  obtain ⟨⟨x1, x2, x3⟩, ⟨⟨r1, r2, r3⟩, r4, r5, r6⟩, -⟩ := id K3.out
  go_wp2_with fail
  exact bodyPost_ret (v := .tuple #[grV 0 0 (.slice none 0 0), .int .i64 4]) (by simp [results, Tryz.results7, go_sem, r1, r2, r3]) rfl (CovOut.err (by decide) (below_over K3.out.bel (Nat.le_succ _) _ _ _))
set_option maxRecDepth 100000 in
set_option maxHeartbeats 12800000 in
theorem rcover_yes (La n : Nat) (es : List E3) (v : Value) (w : World) (hrd : EdgesRd w v es) (hvg : VG (La : Int) (n : Int) es) (hL : La ≤ 8) (hi : irrB es n = true) (b : Bs) (cs : List Nat) (m : List E3) (c : List Int) (r : List (List Int)) (p : List E3) (F : Bs) (hcv : CV La n es b cs m c r p F) :
    Calls Tryz.prog 7 #[grV (La : Int) (n : Int) v] w (CovOut (La : Int) (covR (La : Int) (n : Int) es) w) := by
  have hmx : Tryz.prog.follows .mixedOrders = true := by kernel_rfl
  have hlen := hvg.len
  have hb64 := hcv.bv.s2
  have hbl : b.2.length ≤ 512 := by
    have h1 := hcv.bl
    have h2 : b.1.length * La ≤ 64 * 8 := Nat.mul_le_mul (by omega) hL
    omega
  have hml : m.length ≤ 512 := by
    rw [← hcv.hm]
    have h1 := mkE_len (mgE b.2 cs)
    rw [mgE_len] at h1
    omega
  have hpl : p.length ≤ 512 := by
    rw [← hcv.hp]
    have h1 := part_len c m
    omega
  have HRD := Lib.hid hrd
  have K0 := Lib.hid (KB.start w (La : Int) (n : Int) v 24)
  have HCH := Lib.hid (rcheck_any (La : Int) (n : Int) es v _ (hrd.keep K0.out.bel) (by omega))
  rw [hvg.chk] at HCH
  have HIR : Hid (∀ W, EdgesRd W v es → Calls Tryz.prog 24 #[grV (La : Int) (n : Int) v] W fun e W' => e = .returned (.tuple #[.bool true, .int .i64 0]) ∧ Below W.heap.size W W') := Lib.hid (fun W h => by
    have k := refIrr_any (La : Int) (n : Int) es v W h (by omega)
    rw [show irrR (La : Int) (n : Int) es = true by unfold irrR; rw [if_pos hvg.chk, Int.toNat_natCast]; exact hi, errC_ok hvg.chk] at k
    exact k)
  obtain ⟨ea, hea⟩ : ∃ ea, b.2 = ea := ⟨_, rfl⟩
  obtain ⟨na, hna⟩ : ∃ na, b.1.length = na := ⟨_, rfl⟩
  obtain ⟨nc, hnc⟩ : ∃ nc, numC cs = nc := ⟨_, rfl⟩
  obtain ⟨k, hk⟩ : ∃ k, c.length = k := ⟨_, rfl⟩
  have HB1 : Hid (∀ W, EdgesRd W v es → Calls Tryz.prog 25 #[grV (La : Int) (n : Int) v] W fun e W' => ∃ ah ch lv, e = .returned (.tuple #[grV (La : Int) (na : Int) (.slice ah ea.length ch), lv, .int .i64 0]) ∧ EdgesRd W' (.slice ah ea.length ch) ea ∧ Below W.heap.size W W') := Lib.hid (fun W g1 => by
    refine (rbuild_any (La : Int) (n : Int) es v W g1 (by omega)).mono ?_
    rw [hcv.hb]
    rintro e W' ⟨b9, d9, a9, c9, he, g3, g4, g5⟩
    dsimp only at he g3
    rw [hea] at g3 he
    rw [hna] at he
    exact ⟨b9, d9, _, he, g3, g5⟩)
  have HMG : Hid (∀ W u, EdgesRd W u ea → Calls Tryz.prog 26 #[grV (La : Int) (na : Int) u] W fun e W' => ∃ ah ch lv, e = .returned (.tuple #[grV (La : Int) (nc : Int) (.slice ah m.length ch), lv, .int .i64 0]) ∧ EdgesRd W' (.slice ah m.length ch) m ∧ Below W.heap.size W W') := Lib.hid (fun W u g1 => by
    have q1 := hcv.hcs
    have q2 := hcv.hm
    have q3 := hcv.bv
    have q4 := hcv.bd
    rw [hea] at q1 q2 q3 q4
    rw [hna] at q1 q3
    refine (rmerge_yes La na ea u W cs q1 g1 q3 q4 (by rw [← hea]; omega)).mono ?_
    rintro e W' ⟨v', g, he, g2, g3, g4⟩
    rw [q2] at g2
    obtain ⟨ah, ch, rfl⟩ := g2.slice
    rw [hnc] at he
    exact ⟨ah, ch, _, he, g2.rd, g4⟩)
  have HSK : Hid (∀ W u, EdgesRd W u m → Calls Tryz.prog 27 #[grV (La : Int) (nc : Int) u] W fun e W' => ∃ lb, ∃ lo, ∃ lc, ∃ uc, e = .returned (.tuple #[.slice (some ⟨lb, lo, none⟩) (c :: r).length lc, .int .i64 0]) ∧ W'.cell? ⟨lb, lo, none⟩ = some uc ∧ IntsRd W' uc c ∧ Below W.heap.size W W') := Lib.hid (fun W u g1 => by
    have q1 := hcv.mv
    have q2 := hcv.hs
    rw [hnc] at q1 q2
    have k1 := refSnk_any (La : Int) (nc : Int) m u W g1 (by omega)
    rw [parts_filter, snks_parts q1, q2, errC_ok q1.chk] at k1
    refine k1.mono ?_
    rintro e W' ⟨lv, he, g2, g3⟩
    obtain ⟨lb, lo, lc, uc, hv, h1, h2⟩ := g2.at (i := 0) (r := c) rfl
    subst hv
    exact ⟨lb, lo, lc, uc, he, h1, h2, g3⟩)
  have HKP : Hid (∀ W u uc, EdgesRd W u m → IntsRd W uc c → Calls Tryz.prog 29 #[grV (La : Int) (nc : Int) u, uc] W fun e W' => ∃ ah ch, e = .returned (grV (La : Int) (k : Int) (.slice ah p.length ch)) ∧ EdgesRd W' (.slice ah p.length ch) p ∧ Below W.heap.size W W') := Lib.hid (fun W u uc g1 g2 => by
    have q2 := hcv.sg
    have q1 := hcv.mv
    have k1 := rpart_any (La : Int) (nc : Int) m u uc c W g1 g2 (by omega) (by have := sg_len q2; have := q1.s2; omega)
    rw [hk, hcv.hp] at k1
    refine k1.mono ?_
    rintro e W' ⟨v', he, g3, g4⟩
    obtain ⟨ah, ch, rfl⟩ := g3.slice
    exact ⟨ah, ch, he, g3.rd, g4⟩)
  obtain ⟨f, hf⟩ : ∃ f, F.1.length = f := ⟨_, rfl⟩
  have HFR : Hid (∀ W u, EdgesRd W u p → Calls Tryz.prog 28 #[grV (La : Int) (k : Int) u] W fun e W' => ∃ ah ch, e = .returned (grV (La : Int) (f : Int) (.slice ah F.2.length ch)) ∧ EdgesAt W' W.heap.size (.slice ah F.2.length ch) F.2 ∧ Below W.heap.size W W') := Lib.hid (fun W u g1 => by
    have q1 := hcv.pv
    have q2 := hcv.rc
    have q3 := hcv.pos
    rw [hk] at q1 q2 q3
    refine (ren_any La k p u W F g1 q1 hcv.pd q3 hcv.hF hcv.res q2 (by omega)).mono ?_
    rintro e W' ⟨v', he, g4, g5⟩
    obtain ⟨ah, ch, rfl⟩ := g4.slice
    rw [hf] at he
    exact ⟨ah, ch, he, g4, g5⟩)
  have HE : Hid (∀ e w', (∃ ah ch, e = .returned (.tuple #[grV (La : Int) (f : Int) (.slice ah F.2.length ch), .int .i64 0]) ∧ EdgesRd w' (.slice ah F.2.length ch) F.2 ∧ Below w.heap.size w w') → CovOut (La : Int) (covR (La : Int) (n : Int) es) w e w') := Lib.hid (fun e w' h => by
    obtain ⟨ah, ch, he, h1, h2⟩ := h
    rw [hcv.cov]
    exact ⟨ah, ch, by rw [hf]; exact he, h1, h2⟩)
  obtain ⟨⟨x1, x2, x3⟩, ⟨⟨r1, r2, r3⟩, r4, r5, r6⟩, -⟩ := id K0.out
  obtain ⟨a, cc, rfl⟩ := hrd.form
  obtain ⟨rn, hrn⟩ : ∃ rn, (c :: r).length = rn := ⟨_, rfl⟩
  have hrn1 : 0 < rn := by rw [← hrn]; simp
  rw [hrn] at HSK
  clear hrd hvg hi hcv hea hna hnc hk hf hrn hbl hml hpl hb64
  go_enter Tryz.func7, Tryz.ntmps7
  go_upto_region 6 with (first
    | (go_at_call 23; (with_reducible refine HCH.out.mono ?_); rintro e W0 ⟨rfl, b1⟩; (have K1 := Lib.hid (K0.out.keep b1)); (clear b1 x1 x2 x3 r1 r2 r3 r4 r5 r6); (obtain ⟨⟨x1, x2, x3⟩, ⟨⟨r1, r2, r3⟩, r4, r5, r6⟩, -⟩ := id K1.out))
    | (go_at_call 24; (with_reducible refine (HIR.out _ (HRD.out.keep K1.out.bel)).mono ?_); rintro e W2 ⟨rfl, b2⟩; (have K2 := Lib.hid (K1.out.keep b2)); (clear b2 x1 x2 x3 r1 r2 r3 r4 r5 r6); (obtain ⟨⟨x1, x2, x3⟩, ⟨⟨r1, r2, r3⟩, r4, r5, r6⟩, -⟩ := id K2.out)))
  go_upto_region 7 with (go_at_call 25; (with_reducible refine (HB1.out _ (HRD.out.keep K2.out.bel)).mono ?_); rintro e W3 ⟨ah, ch, lv, rfl, e3, b3⟩)
  have k3 := below_more b3 (Nat.le_refl _) (below1 W3 (.cells #[.int .i64 (La : Int), .int .i64 (na : Int), .slice ah ea.length ch] 24))
  have E3 := Lib.hid (e3.keep (below1 W3 (.cells #[.int .i64 (La : Int), .int .i64 (na : Int), .slice ah ea.length ch] 24)))
  have G3 := Lib.hid (BoxG.new W3 (La : Int) (na : Int) (.slice ah ea.length ch) 24)
  have K3 := Lib.hid (K2.out.keep k3)
  obtain ⟨P3, hP3⟩ : ∃ P3, W3.heap.size = P3 := ⟨_, rfl⟩
  rw [hP3] at G3 ⊢
  clear b3 e3 k3 x1 x2 x3 r1 r2 r3 r4 r5 r6 hP3 K0 K1 K2
  generalize (W3.alloc (.cells #[.int .i64 (La : Int), .int .i64 (na : Int), .slice ah ea.length ch] 24)) = X3 at *
  obtain ⟨x1, x2, x3⟩ := id G3.out
  go_upto_region 10 with (go_at_call 26; (with_reducible refine (HMG.out _ _ E3.out).mono ?_); rintro e W4 ⟨ai, ci, lv2, rfl, e4, b4⟩)
  have k4 := below_more b4 (Nat.le_refl _) (below1 W4 (.cells #[.int .i64 (La : Int), .int .i64 (nc : Int), .slice ai m.length ci] 24))
  have E4 := Lib.hid (e4.keep (below1 W4 (.cells #[.int .i64 (La : Int), .int .i64 (nc : Int), .slice ai m.length ci] 24)))
  have G4 := Lib.hid (BoxG.new W4 (La : Int) (nc : Int) (.slice ai m.length ci) 24)
  have K4 := Lib.hid (K3.out.keep k4)
  obtain ⟨P4, hP4⟩ : ∃ P4, W4.heap.size = P4 := ⟨_, rfl⟩
  rw [hP4] at G4 ⊢
  clear b4 e4 k4 x1 x2 x3 hP4 K3 G3 E3
  generalize (W4.alloc (.cells #[.int .i64 (La : Int), .int .i64 (nc : Int), .slice ai m.length ci] 24)) = X4 at *
  obtain ⟨x1, x2, x3⟩ := id G4.out
  go_upto_region 11 with (go_at_call 27; (with_reducible refine (HSK.out _ _ E4.out).mono ?_); rintro e W5 ⟨lb, lo, lc, uc, rfl, c5, i5, b5⟩; (have K5 := Lib.hid (K4.out.keep b5)); (have G5 := Lib.hid (G4.out.keep b5)); (have E5 := Lib.hid (E4.out.keep b5)); (have I5 := Lib.hid i5); (clear b5 i5 x1 x2 x3); (obtain ⟨x1, x2, x3⟩ := id G5.out))
  clear K4 G4 E4
  have j1 : (0 : Int) < (rn : Int) := by omega
  have hlo := K5.out.2.2.2
  have BD := Lib.hid (Below.refl W5.heap.size W5).drew
  have HKQ := Lib.hid (HKP.out _ _ _ (E5.out.keep BD.out) (I5.out.keep BD.out))
  have hR : SYe lb lo P4 La nc uc (.slice ai m.length ci) W5.drew := ⟨c5, x1, x2, x3⟩
  clear c5 x1 x2 x3
  refine regionT (T := T2 6 6 (SYe lb lo P4 La nc uc (.slice ai m.length ci)) (SYe lb lo P4 La nc uc (.slice ai m.length ci))) hmx ?_
  refine take1 (i := 0) (v := ?_) rfl (by kernel_rfl) (by kernel_rfl) (by kernel_rfl) (by kernel_rfl) (by kernel_rfl) (by decide) (by decide) (fun _ _ _ h => h) (Or.inl ⟨by rfl, ?_⟩) hR hR ?_
  rotate_left
  · intro w hSw
    (try unfold SYe at hSw)
    go_simp
    all_goals with_reducible rfl
  (try simp only [Act.put, List.setIfInBounds_toArray, List.set_cons_zero, List.set_cons_succ])
  refine take1 (i := 1) (v := ?_) rfl (by kernel_rfl) (by kernel_rfl) (by kernel_rfl) (by kernel_rfl) (by kernel_rfl) (by decide) (by decide) (fun _ _ _ h => h) (Or.inl ⟨by rfl, ?_⟩) hR hR ?_
  rotate_left
  · intro w hSw
    (try unfold SYe at hSw)
    go_simp
    all_goals with_reducible rfl
  (try simp only [Act.put, List.setIfInBounds_toArray, List.set_cons_zero, List.set_cons_succ])
  refine take1 (i := 2) (v := ?_) rfl (by kernel_rfl) (by kernel_rfl) (by kernel_rfl) (by kernel_rfl) (by kernel_rfl) (by decide) (by decide) (fun _ _ _ h => h) (Or.inl ⟨by rfl, ?_⟩) hR hR ?_
  rotate_left
  · intro w hSw
    (try unfold SYe at hSw)
    go_simp
    all_goals with_reducible rfl
  (try simp only [Act.put, List.setIfInBounds_toArray, List.set_cons_zero, List.set_cons_succ])
  refine take1 (i := 3) (v := ?_) rfl (by kernel_rfl) (by kernel_rfl) (by kernel_rfl) (by kernel_rfl) (by kernel_rfl) (by decide) (by decide) (fun _ _ _ h => h) (Or.inl ⟨by rfl, ?_⟩) hR hR ?_
  rotate_left
  · intro w hSw
    (try unfold SYe at hSw)
    go_simp
    all_goals with_reducible rfl
  (try simp only [Act.put, List.setIfInBounds_toArray, List.set_cons_zero, List.set_cons_succ])
  refine stepT (i := 4) (by kernel_rfl) rfl (fun K hK => ?_)
  go_simp
  go_at_call 29
  refine HKQ.out.mono ?_
  rintro e0 Y1 ⟨ak, ck, rfl, e6, q1⟩
  have K6 := Lib.hid (below_more BD.out (Nat.le_refl _) q1)
  have E6 := Lib.hid e6
  have hR6 := hR.keep q1
  clear e6 q1
  go_wp2_with fail
  refine hK.out _ _ ⟨fun _ => hR6, fun _ => hR6⟩ ?_
  clear hK K hR
  have hR := hR6
  (try simp only [Act.put, List.setIfInBounds_toArray, List.set_cons_zero, List.set_cons_succ])
  refine stepT (i := 5) (by kernel_rfl) rfl (fun K hK => ?_)
  go_simp
  go_at_call 28
  refine (HFR.out _ _ E6.out).mono ?_
  rintro e1 Y2 ⟨au, cu, rfl, e7, q2⟩
  have K7 := Lib.hid (below_more K6.out (Nat.le_refl _) q2)
  have E7 := Lib.hid (own_low e7 K6.out.size)
  have K8 := Lib.hid (K5.out.keep K7.out)
  have hR7 := hR.keep q2
  clear e7 q2 hR6
  obtain ⟨⟨y1, y2, y3⟩, ⟨⟨r1, r2, r3⟩, r4, r5, r6⟩, -⟩ := id K8.out
  go_wp2_with fail
  refine hK.out _ _ ⟨fun _ => hR7, fun _ => hR7⟩ ?_
  clear hK K hR
  have hR := hR7
  (try simp only [Act.put, List.setIfInBounds_toArray, List.set_cons_zero, List.set_cons_succ])
  refine stepT (i := 6) (by kernel_rfl) rfl (fun K hK => ?_)
  go_simp
  refine hK.out _ _ ⟨fun h => absurd h (by decide), fun h => absurd h (by decide)⟩ ?_
  clear hK K hR hR7
  (try simp only [Act.put, List.setIfInBounds_toArray, List.set_cons_zero, List.set_cons_succ])
  refine stepT (i := 7) (by kernel_rfl) rfl (fun K hK => ?_)
  go_simp
  refine hK.out _ _ ⟨fun h => absurd h (by decide), fun h => absurd h (by decide)⟩ ?_
  clear hK K
  (try simp only [Act.put, List.setIfInBounds_toArray, List.set_cons_zero, List.set_cons_succ])
  refine doneT (by kernel_rfl) ?_ _
  go_wp2_with fail
  exact bodyPost_ret (v := .tuple #[grV (La : Int) (f : Int) (.slice au F.2.length cu), .int .i64 0]) (by simp [results, Tryz.results7, go_sem, r1, r2, r3]) rfl
      (HE.out _ _ ⟨au, cu, rfl, (edges_over E7.out (by omega) _ _ _ (Nat.le_refl _)).rd, below_over K8.out.bel (Nat.le_succ _) _ _ _⟩)
set_option maxRecDepth 100000 in
/-- Cover, in every case. -/
theorem rcover_any (La S : Int) (es : List E3) (v : Value) (w : World) (hrd : EdgesRd w v es) (hn : es.length ≤ 9223372036854775807) (hL : chkG La S es = 0 → La ≤ 8) :
    Calls Tryz.prog 7 #[grV La S v] w (CovOut La (covR La S es) w) := by
  by_cases h0 : chkG La S es = 0
  · cases hir : irrB es S.toNat with
    | true =>
      by_cases hb : (buildR La S es).1 = 0
      · have hvg := chkG_zero h0
        have h8 := hL h0
        obtain ⟨n, rfl⟩ : ∃ n : Nat, S = (n : Int) := ⟨S.toNat, by have := hvg.s1; omega⟩
        obtain ⟨La, rfl⟩ : ∃ n : Nat, La = (n : Int) := ⟨La.toNat, by have := hvg.l1; omega⟩
        rw [Int.toNat_natCast] at hir
        obtain ⟨b, cs, m, c, r, p, F, hcv⟩ := cv_get hvg hir hb
        exact rcover_yes La n es v w hrd hvg (by omega) hir b cs m c r p F hcv
      · exact rcover_many La S es v w hrd hn h0 hir hb
    | false => exact rcover_not La S es v w hrd hn h0 hir
  · exact rcover_bad La S es v w hrd hn h0
end Go.Proofs.YtiockphjnkehnaaGreatDoor

namespace Go.Proofs.YtiockphjnkehnaaGreatDoor
open Go.RowKit
set_option linter.unusedSimpArgs false
set_option linter.unusedVariables false

theorem build_vg {La : Nat} {S : Int} {es : List E3} (h : chkG (La : Int) S es = 0) (h0 : (buildR (La : Int) S es).1 = 0) : VG (La : Int) (((buildR (La : Int) S es).2.1.length : Nat) : Int) (buildR (La : Int) S es).2.2 ∧ detE (buildR (La : Int) S es).2.2 = true := by
  have hvg := chkG_zero h
  have hL1 : 1 ≤ La := by have := hvg.l1; omega
  have hL2 : La ≤ 256 := by have := hvg.l2; omega
  unfold buildR at h0 ⊢
  rw [if_pos h] at h0 ⊢
  by_cases hs : S = 0
  · rw [if_pos hs]
    exact ⟨⟨by omega, by omega, by decide, by decide, by simp, fun e he => (by cases he), List.Pairwise.nil⟩, rfl⟩
  · rw [if_neg hs] at h0 ⊢
    dsimp only at h0 ⊢
    rw [Int.toNat_natCast] at h0 ⊢
    have hn : S.toNat ≠ 0 := by have := hvg.s1; omega
    have hn64 : S.toNat ≤ 64 := by have := hvg.s2; omega
    cases hb : builtN es La (fullN S.toNat) with
    | none => rw [hb] at h0; cases h0
    | some b =>
      have hr := built_res (fullN_ne hn) (fullN_lt hn64) hb
      exact ⟨hr.vg hL1 hL2, hr.det⟩
/-- What is asked of first. -/
def FRX (D : Bool → Bool → Bool) (B : Bool) : Prop := ∀ (La Lb na nb s t : Nat) (ea eb : List E3) (va vb : Value) (w : World), EdgesRd w va ea → EdgesRd w vb eb → VG (La : Int) (na : Int) ea → VG (Lb : Int) (nb : Int) eb → detE ea = true → detE eb = true → s ≤ na → t ≤ nb → ∀ (M : Nat), max La Lb = M →
  Calls Tryz.prog 64 #[grV (La : Int) (na : Int) va, grV (Lb : Int) (nb : Int) vb, .int .i64 (tgV na s), .int .i64 (tgV nb t), .bool B] w (FWOut D (mT na ea) (mT nb eb) na nb M s t w)
theorem frx_xo : FRX (fun x y : Bool => x != y) true := fun La Lb na nb s t ea eb va vb w h1 h2 h3 h4 h5 h6 h7 h8 M h9 => rfirst_xo La Lb na nb s t ea eb va vb w h1 h2 h3 h4 h5 h6 h7 h8 M h9
theorem frx_of : FRX (fun x y : Bool => x && !y) false := fun La Lb na nb s t ea eb va vb w h1 h2 h3 h4 h5 h6 h7 h8 M h9 => rfirst_of La Lb na nb s t ea eb va vb w h1 h2 h3 h4 h5 h6 h7 h8 M h9
set_option maxRecDepth 100000 in
set_option maxHeartbeats 12800000 in
theorem rcompare13_any (D : Bool → Bool → Bool) (B : Bool) (HF : FRX D B) (La S Lb T : Int) (es fs : List E3) (v u : Value) (w : World) (hrd : EdgesRd w v es) (hru : EdgesRd w u fs) (hn : es.length ≤ 9223372036854775807) (hm : fs.length ≤ 9223372036854775807) :
    Calls Tryz.prog 32 #[grV La S v, grV Lb T u, .bool B] w (CmpOut D La S es Lb T fs w) := by
  have HC1 := Lib.hid (fun W h => rcheck_any La S es v W h hn)
  have HC2 := Lib.hid (fun W h => rcheck_any Lb T fs u W h hm)
  have b0 := below_more (below1 w (.cells #[.int .i64 La, .int .i64 S, v] 24)) (Nat.le_refl _) (below1 _ (.cells #[.int .i64 Lb, .int .i64 T, u] 24))
  have B0 := Lib.hid b0
  have G0 := Lib.hid ((BoxG.new w La S v 24).keep (below1 _ (.cells #[.int .i64 Lb, .int .i64 T, u] 24)))
  have H0 := BoxG.new (w.alloc (.cells #[.int .i64 La, .int .i64 S, v] 24)) Lb T u 24
  rw [World.size_alloc] at H0
  have H0 := Lib.hid H0
  have RA := Lib.hid hrd
  have RB := Lib.hid hru
  have HBA := Lib.hid (fun W h => rbuild_any La S es v W h hn)
  have HBB := Lib.hid (fun W h => rbuild_any Lb T fs u W h hm)
  obtain ⟨x1, x2, x3⟩ := id G0.out
  obtain ⟨y1, y2, y3⟩ := id H0.out
  by_cases h1 : chkG La S es = 0
  · rw [h1] at HC1
    by_cases h2 : chkG Lb T fs = 0
    · rw [h2] at HC2
      have hcz : cmpZ La S es Lb T fs = if (buildR La S es).1 = 0 then (buildR Lb T fs).1 else (buildR La S es).1 := by unfold cmpZ; rw [if_pos (And.intro h1 h2)]
      have hva := chkG_zero h1
      have hvb := chkG_zero h2
      obtain ⟨la, rfl⟩ : ∃ la : Nat, La = (la : Int) := ⟨La.toNat, by have := hva.l1; omega⟩
      obtain ⟨lb, rfl⟩ : ∃ lb : Nat, Lb = (lb : Int) := ⟨Lb.toNat, by have := hvb.l1; omega⟩
      by_cases h34 : (buildR (la : Int) S es).1 = 0 ∧ (buildR (lb : Int) T fs).1 = 0
      · obtain ⟨h3, h4⟩ := h34
        rw [if_pos h3, h4] at hcz
        obtain ⟨f1, f3⟩ := build_vg h1 h3
        obtain ⟨f2, f4⟩ := build_vg h2 h4
        obtain ⟨ba, hba⟩ : ∃ ba, (buildR (la : Int) S es).2 = ba := ⟨_, rfl⟩
        obtain ⟨ea, hea⟩ : ∃ ea, ba.2 = ea := ⟨_, rfl⟩
        obtain ⟨na, hna⟩ : ∃ na, ba.1.length = na := ⟨_, rfl⟩
        obtain ⟨bb, hbb⟩ : ∃ bb, (buildR (lb : Int) T fs).2 = bb := ⟨_, rfl⟩
        obtain ⟨eb, heb⟩ : ∃ eb, bb.2 = eb := ⟨_, rfl⟩
        obtain ⟨nb, hnb⟩ : ∃ nb, bb.1.length = nb := ⟨_, rfl⟩
        rw [hba, hea] at f1 f3
        rw [hna] at f1
        rw [hbb, heb] at f2 f4
        rw [hnb] at f2
        have HB1 : Hid (∀ W, EdgesRd W v es → Calls Tryz.prog 25 #[grV (la : Int) S v] W fun e W' => ∃ ah ch lv, e = .returned (.tuple #[grV (la : Int) (na : Int) (.slice ah ea.length ch), lv, .int .i64 0]) ∧ EdgesRd W' (.slice ah ea.length ch) ea ∧ Below W.heap.size W W') := Lib.hid (fun W g1 => by
          refine (HBA.out W g1).mono ?_
          rintro e W' ⟨b9, d9, a9, c9, he, g3, g4, g5⟩
          rw [h3, hba, hea, hna] at he
          rw [hba, hea] at g3
          exact ⟨b9, d9, _, he, g3, g5⟩)
        have HB2 : Hid (∀ W, EdgesRd W u fs → Calls Tryz.prog 25 #[grV (lb : Int) T u] W fun e W' => ∃ ah ch lv, e = .returned (.tuple #[grV (lb : Int) (nb : Int) (.slice ah eb.length ch), lv, .int .i64 0]) ∧ EdgesRd W' (.slice ah eb.length ch) eb ∧ Below W.heap.size W W') := Lib.hid (fun W g1 => by
          refine (HBB.out W g1).mono ?_
          rintro e W' ⟨b9, d9, a9, c9, he, g3, g4, g5⟩
          rw [h4, hbb, heb, hnb] at he
          rw [hbb, heb] at g3
          exact ⟨b9, d9, _, he, g3, g5⟩)
        obtain ⟨lm, hlm⟩ : ∃ lm : Nat, max la lb = lm := ⟨_, rfl⟩
        have hfin : (max (la : Int) (lb : Int)).toNat = lm := by omega
        have HFI := Lib.hid (fun va vb W g1 g2 => HF la lb na nb 0 0 ea eb va vb W g1 g2 f1 f2 f3 f4 (Nat.zero_le _) (Nat.zero_le _) lm hlm)
        have HE := Lib.hid hcz
        have HQ : Hid (∀ q is, FW D (mT na ea) (mT nb eb) na nb lm 0 0 q is → FW D (mT (buildR (la : Int) S es).2.1.length (buildR (la : Int) S es).2.2) (mT (buildR (lb : Int) T fs).2.1.length (buildR (lb : Int) T fs).2.2) (buildR (la : Int) S es).2.1.length (buildR (lb : Int) T fs).2.1.length (max (la : Int) (lb : Int)).toNat 0 0 q (!(!is))) := Lib.hid (fun q is h => by
          rw [hba, hbb, hea, heb, hna, hnb, hfin, Bool.not_not]
          exact h)
        obtain ⟨X, hX⟩ : ∃ X, tgV na 0 = X := ⟨_, rfl⟩
        obtain ⟨Y, hY⟩ : ∃ Y, tgV nb 0 = Y := ⟨_, rfl⟩
        rw [hX, hY] at HFI
        have hX1 : na = 0 → X = -1 := fun e => by rw [← hX, e]; rfl
        have hX2 : na ≠ 0 → X = 0 := fun e => by rw [← hX]; exact tgV_some (fun h => e h.symm)
        have hY1 : nb = 0 → Y = -1 := fun e => by rw [← hY, e]; rfl
        have hY2 : nb ≠ 0 → Y = 0 := fun e => by rw [← hY]; exact tgV_some (fun h => e h.symm)
        clear hcz h3 h4 h1 h2 hrd hru b0 HBA HBB hba hea hna hbb heb hnb f1 f2 f3 f4 hva hvb hlm hfin hX hY
        go_enter Tryz.func32, Tryz.ntmps32
        go_upto_region 3 with (first
    | (go_at_call 23; (with_reducible refine (HC1.out _ (RA.out.keep B0.out)).mono ?_); rintro e W1 ⟨rfl, b1⟩; (have B1 := Lib.hid (below_more B0.out (Nat.le_refl _) b1)); (have G1 := Lib.hid (G0.out.keep b1)); (have H1 := Lib.hid (H0.out.keep b1)); clear b1 x1 x2 x3 y1 y2 y3; (obtain ⟨y1, y2, y3⟩ := id H1.out))
    | (go_at_call 23; (with_reducible refine (HC2.out _ (RB.out.keep B1.out)).mono ?_); rintro e W2 ⟨rfl, b2⟩; (have B2 := Lib.hid (B1.out.trans (b2.mono B1.out.size))); (have G2 := Lib.hid (G1.out.keep b2)); (have H2 := Lib.hid (H1.out.keep b2)); clear b2 y1 y2 y3; (obtain ⟨x1, x2, x3⟩ := id G2.out)))
        go_upto_region 4 with (go_at_call 25; (with_reducible refine (HB1.out _ (RA.out.keep B2.out)).mono ?_); rintro e W3 ⟨ah, ch, lv, rfl, e3, b3⟩)
        have k3 := below_more b3 (Nat.le_refl _) (below1 W3 (.cells #[.int .i64 (la : Int), .int .i64 (na : Int), .slice ah ea.length ch] 24))
        have E3' := Lib.hid (e3.keep (below1 W3 (.cells #[.int .i64 (la : Int), .int .i64 (na : Int), .slice ah ea.length ch] 24)))
        have GA3 := Lib.hid (BoxG.new W3 (la : Int) (na : Int) (.slice ah ea.length ch) 24)
        have B3 := Lib.hid (B2.out.trans (k3.mono B2.out.size))
        have H3 := Lib.hid (H2.out.keep k3)
        obtain ⟨P7, hP7⟩ : ∃ P7, W3.heap.size = P7 := ⟨_, rfl⟩
        rw [hP7] at GA3 ⊢
        clear b3 e3 k3 x1 x2 x3 G2 H2 hP7
        generalize (W3.alloc (.cells #[.int .i64 (la : Int), .int .i64 (na : Int), .slice ah ea.length ch] 24)) = X3 at *
        obtain ⟨y1, y2, y3⟩ := id H3.out
        go_upto_region 5 with (go_at_call 25; (with_reducible refine (HB2.out _ (RB.out.keep B3.out)).mono ?_); rintro e W4 ⟨ai, ci, lv2, rfl, e4, b4⟩)
        have k4 := below_more b4 (Nat.le_refl _) (below1 W4 (.cells #[.int .i64 (lb : Int), .int .i64 (nb : Int), .slice ai eb.length ci] 24))
        have E4' := Lib.hid (e4.keep (below1 W4 (.cells #[.int .i64 (lb : Int), .int .i64 (nb : Int), .slice ai eb.length ci] 24)))
        have GB4 := Lib.hid (BoxG.new W4 (lb : Int) (nb : Int) (.slice ai eb.length ci) 24)
        have B4 := Lib.hid (B3.out.trans (k4.mono B3.out.size))
        have GA4 := Lib.hid (GA3.out.keep k4)
        have EA4 := Lib.hid (E3'.out.keep k4)
        obtain ⟨P8, hP8⟩ : ∃ P8, W4.heap.size = P8 := ⟨_, rfl⟩
        rw [hP8] at GB4 ⊢
        clear b4 e4 k4 y1 y2 y3 H3 E3' GA3 hP8
        generalize (W4.alloc (.cells #[.int .i64 (lb : Int), .int .i64 (nb : Int), .slice ai eb.length ci] 24)) = X4 at *
        obtain ⟨x1, x2, x3⟩ := id GA4.out
        obtain ⟨y1, y2, y3⟩ := id GB4.out
        have HFQ := Lib.hid (HFI.out _ _ _ EA4.out E4'.out)
        clear HFI HB1 HB2 RA RB HC1 HC2 GA4 GB4
        by_cases h1 : na = 0
        · have e1 := hX1 h1
          subst e1
          have d1 : ((na : Int) == 0) = true := by rw [beq_iff_eq]; omega
          by_cases h2 : nb = 0
          · have e2 := hY1 h2
            subst e2
            have d2 : ((nb : Int) == 0) = true := by rw [beq_iff_eq]; omega
            clear h1 h2 hX1 hX2 hY1 hY2
            go_wp2_with (go_at_call 64; (with_reducible refine HFQ.out.mono ?_); rintro e0 W9 ⟨g9, c9, u9, is9, rfl, i9, fw9, q9⟩; (have B9 := Lib.hid (B4.out.trans (q9.mono B4.out.size))); (have I9 := Lib.hid i9); (have FW9 := Lib.hid fw9); clear q9 i9 fw9)
            exact bodyPost_ret (v := .tuple #[.slice g9 u9.length c9, .bool (!is9), .int .i64 0]) (by simp [results, Tryz.results32, go_sem]) rfl ⟨u9, !is9, g9, c9, by rw [HE.out], I9.out, fun h => absurd HE.out h, fun _ => HQ.out _ _ FW9.out, B9.out⟩
          · have e2 := hY2 h2
            subst e2
            have d2 : ((nb : Int) == 0) = false := by rw [beq_eq_false_iff_ne]; omega
            clear h1 h2 hX1 hX2 hY1 hY2
            go_wp2_with (go_at_call 64; (with_reducible refine HFQ.out.mono ?_); rintro e0 W9 ⟨g9, c9, u9, is9, rfl, i9, fw9, q9⟩; (have B9 := Lib.hid (B4.out.trans (q9.mono B4.out.size))); (have I9 := Lib.hid i9); (have FW9 := Lib.hid fw9); clear q9 i9 fw9)
            exact bodyPost_ret (v := .tuple #[.slice g9 u9.length c9, .bool (!is9), .int .i64 0]) (by simp [results, Tryz.results32, go_sem]) rfl ⟨u9, !is9, g9, c9, by rw [HE.out], I9.out, fun h => absurd HE.out h, fun _ => HQ.out _ _ FW9.out, B9.out⟩
        · have e1 := hX2 h1
          subst e1
          have d1 : ((na : Int) == 0) = false := by rw [beq_eq_false_iff_ne]; omega
          by_cases h2 : nb = 0
          · have e2 := hY1 h2
            subst e2
            have d2 : ((nb : Int) == 0) = true := by rw [beq_iff_eq]; omega
            clear h1 h2 hX1 hX2 hY1 hY2
            go_wp2_with (go_at_call 64; (with_reducible refine HFQ.out.mono ?_); rintro e0 W9 ⟨g9, c9, u9, is9, rfl, i9, fw9, q9⟩; (have B9 := Lib.hid (B4.out.trans (q9.mono B4.out.size))); (have I9 := Lib.hid i9); (have FW9 := Lib.hid fw9); clear q9 i9 fw9)
            exact bodyPost_ret (v := .tuple #[.slice g9 u9.length c9, .bool (!is9), .int .i64 0]) (by simp [results, Tryz.results32, go_sem]) rfl ⟨u9, !is9, g9, c9, by rw [HE.out], I9.out, fun h => absurd HE.out h, fun _ => HQ.out _ _ FW9.out, B9.out⟩
          · have e2 := hY2 h2
            subst e2
            have d2 : ((nb : Int) == 0) = false := by rw [beq_eq_false_iff_ne]; omega
            clear h1 h2 hX1 hX2 hY1 hY2
            go_wp2_with (go_at_call 64; (with_reducible refine HFQ.out.mono ?_); rintro e0 W9 ⟨g9, c9, u9, is9, rfl, i9, fw9, q9⟩; (have B9 := Lib.hid (B4.out.trans (q9.mono B4.out.size))); (have I9 := Lib.hid i9); (have FW9 := Lib.hid fw9); clear q9 i9 fw9)
            exact bodyPost_ret (v := .tuple #[.slice g9 u9.length c9, .bool (!is9), .int .i64 0]) (by simp [results, Tryz.results32, go_sem]) rfl ⟨u9, !is9, g9, c9, by rw [HE.out], I9.out, fun h => absurd HE.out h, fun _ => HQ.out _ _ FW9.out, B9.out⟩
      · have hz4 : cmpZ (la : Int) S es (lb : Int) T fs = 4 := by
          rw [hcz]
          by_cases h3 : (buildR (la : Int) S es).1 = 0
          · rw [if_pos h3]; exact (buildR_err h2).resolve_left (fun h4 => h34 ⟨h3, h4⟩)
          · rw [if_neg h3]; exact (buildR_err h1).resolve_left h3
        obtain ⟨z1, hz1⟩ : ∃ z1, (buildR (la : Int) S es).1 = z1 := ⟨_, rfl⟩
        obtain ⟨z2, hz2⟩ : ∃ z2, (buildR (lb : Int) T fs).1 = z2 := ⟨_, rfl⟩
        have HB1 : Hid (∀ W, EdgesRd W v es → Calls Tryz.prog 25 #[grV (la : Int) S v] W fun e W' => ∃ gv lv, e = .returned (.tuple #[gv, lv, .int .i64 z1]) ∧ (∃ l1 l2 ah k ch, gv = grV l1 l2 (.slice ah k ch)) ∧ Below W.heap.size W W') := Lib.hid (fun W g1 => by
          refine (HBA.out W g1).mono ?_
          rintro e W' ⟨b9, d9, a9, c9, he, g3, g4, g5⟩
          rw [hz1] at he
          exact ⟨_, _, he, ⟨_, _, _, _, _, rfl⟩, g5⟩)
        have HB2 : Hid (∀ W, EdgesRd W u fs → Calls Tryz.prog 25 #[grV (lb : Int) T u] W fun e W' => ∃ gv lv, e = .returned (.tuple #[gv, lv, .int .i64 z2]) ∧ (∃ l1 l2 ah k ch, gv = grV l1 l2 (.slice ah k ch)) ∧ Below W.heap.size W W') := Lib.hid (fun W g1 => by
          refine (HBB.out W g1).mono ?_
          rintro e W' ⟨b9, d9, a9, c9, he, g3, g4, g5⟩
          rw [hz2] at he
          exact ⟨_, _, he, ⟨_, _, _, _, _, rfl⟩, g5⟩)
        rw [hz1, hz2] at h34
        have HE := Lib.hid hz4
        clear hcz hz4 hz1 hz2 h1 h2 hrd hru b0 HBA HBB hva hvb
        go_enter Tryz.func32, Tryz.ntmps32
        go_upto_region 3 with (first
    | (go_at_call 23; (with_reducible refine (HC1.out _ (RA.out.keep B0.out)).mono ?_); rintro e W1 ⟨rfl, b1⟩; (have B1 := Lib.hid (below_more B0.out (Nat.le_refl _) b1)); (have G1 := Lib.hid (G0.out.keep b1)); (have H1 := Lib.hid (H0.out.keep b1)); clear b1 x1 x2 x3 y1 y2 y3; (obtain ⟨y1, y2, y3⟩ := id H1.out))
    | (go_at_call 23; (with_reducible refine (HC2.out _ (RB.out.keep B1.out)).mono ?_); rintro e W2 ⟨rfl, b2⟩; (have B2 := Lib.hid (B1.out.trans (b2.mono B1.out.size))); (have G2 := Lib.hid (G1.out.keep b2)); (have H2 := Lib.hid (H1.out.keep b2)); clear b2 y1 y2 y3; (obtain ⟨x1, x2, x3⟩ := id G2.out)))
        go_upto_region 4 with (go_at_call 25; (with_reducible refine (HB1.out _ (RA.out.keep B2.out)).mono ?_); rintro e W3 ⟨gv, lv, rfl, ⟨l1, l2, a8, m8, c8, rfl⟩, b3⟩)
        have k3 := below_more b3 (Nat.le_refl _) (below1 W3 (.cells #[.int .i64 l1, .int .i64 l2, .slice a8 m8 c8] 24))
        have B3 := Lib.hid (B2.out.trans (k3.mono B2.out.size))
        have H3 := Lib.hid (H2.out.keep k3)
        clear b3 k3 x1 x2 x3 G2 H2
        generalize (W3.alloc (.cells #[.int .i64 l1, .int .i64 l2, .slice a8 m8 c8] 24)) = X3 at *
        obtain ⟨y1, y2, y3⟩ := id H3.out
        go_upto_region 5 with (go_at_call 25; (with_reducible refine (HB2.out _ (RB.out.keep B3.out)).mono ?_); rintro e W4 ⟨gv, lv2, rfl, ⟨l3, l4, a9, m9, c9, rfl⟩, b4⟩; (have B4 := Lib.hid (B3.out.trans ((below_more b4 (Nat.le_refl _) (below1 W4 (.cells #[.int .i64 l3, .int .i64 l4, .slice a9 m9 c9] 24))).mono B3.out.size))); clear b4 y1 y2 y3)
        by_cases hz : z1 = 0
        · have d1 : (z1 != 0) = false := by rw [hz]; rfl
          have d2 : (z2 != 0) = true := by rw [bne_iff_ne]; exact fun h => h34 ⟨hz, h⟩
          clear hz h34
          go_wp2_with fail
          exact bodyPost_ret (v := .tuple #[.slice none 0 0, .bool false, .int .i64 4]) (by simp [results, Tryz.results32, go_sem]) rfl ⟨[], false, none, 0, by rw [HE.out]; rfl, intsRd_nilM _, fun _ => ⟨rfl, rfl⟩, fun h => absurd (HE.out.symm.trans h) (by decide), B4.out⟩
        · have d1 : (z1 != 0) = true := by rw [bne_iff_ne]; exact hz
          clear hz h34
          go_wp2_with fail
          exact bodyPost_ret (v := .tuple #[.slice none 0 0, .bool false, .int .i64 4]) (by simp [results, Tryz.results32, go_sem]) rfl ⟨[], false, none, 0, by rw [HE.out]; rfl, intsRd_nilM _, fun _ => ⟨rfl, rfl⟩, fun h => absurd (HE.out.symm.trans h) (by decide), B4.out⟩
    · obtain ⟨z, hz⟩ : ∃ z, chkG Lb T fs = z := ⟨_, rfl⟩
      have HE := Lib.hid (show cmpZ La S es Lb T fs = 1 by unfold cmpZ; rw [if_neg (fun h => h2 h.2)])
      rw [hz] at h2
      simp only [hz] at HC2
      have d1 : (z != 0) = true := by simpa using h2
      clear h1 h2 hz hrd hru b0 HBA HBB
      go_enter Tryz.func32, Tryz.ntmps32
      go_wp2_with (first
    | (go_at_call 23; (with_reducible refine (HC1.out _ (RA.out.keep B0.out)).mono ?_); rintro e W1 ⟨rfl, b1⟩; (have B1 := Lib.hid (below_more B0.out (Nat.le_refl _) b1)); (have G1 := Lib.hid (G0.out.keep b1)); (have H1 := Lib.hid (H0.out.keep b1)); clear b1 x1 x2 x3 y1 y2 y3; (obtain ⟨y1, y2, y3⟩ := id H1.out))
    | (go_at_call 23; (with_reducible refine (HC2.out _ (RB.out.keep B1.out)).mono ?_); rintro e W2 ⟨rfl, b2⟩; (have B2 := Lib.hid (B1.out.trans (b2.mono B1.out.size))); (have G2 := Lib.hid (G1.out.keep b2)); (have H2 := Lib.hid (H1.out.keep b2)); clear b2 y1 y2 y3; (obtain ⟨x1, x2, x3⟩ := id G2.out)))
      exact bodyPost_ret (v := .tuple #[.slice none 0 0, .bool false, .int .i64 1]) (by simp [results, Tryz.results32, go_sem]) rfl ⟨[], false, none, 0, by rw [HE.out]; rfl, intsRd_nilM _, fun _ => ⟨rfl, rfl⟩, fun h => absurd (HE.out.symm.trans h) (by decide), B2.out⟩
  · obtain ⟨z, hz⟩ : ∃ z, chkG La S es = z := ⟨_, rfl⟩
    have HE := Lib.hid (show cmpZ La S es Lb T fs = 1 by unfold cmpZ; rw [if_neg (fun h => h1 h.1)])
    rw [hz] at h1
    simp only [hz] at HC1
    have d1 : (z != 0) = true := by simpa using h1
    clear h1 hz hrd hru b0 HBA HBB
    go_enter Tryz.func32, Tryz.ntmps32
    go_wp2_with (first
    | (go_at_call 23; (with_reducible refine (HC1.out _ (RA.out.keep B0.out)).mono ?_); rintro e W1 ⟨rfl, b1⟩; (have B1 := Lib.hid (below_more B0.out (Nat.le_refl _) b1)); (have G1 := Lib.hid (G0.out.keep b1)); (have H1 := Lib.hid (H0.out.keep b1)); clear b1 x1 x2 x3 y1 y2 y3; (obtain ⟨y1, y2, y3⟩ := id H1.out))
    | (go_at_call 23; (with_reducible refine (HC2.out _ (RB.out.keep B1.out)).mono ?_); rintro e W2 ⟨rfl, b2⟩; (have B2 := Lib.hid (B1.out.trans (b2.mono B1.out.size))); (have G2 := Lib.hid (G1.out.keep b2)); (have H2 := Lib.hid (H1.out.keep b2)); clear b2 y1 y2 y3; (obtain ⟨x1, x2, x3⟩ := id G2.out)))
    exact bodyPost_ret (v := .tuple #[.slice none 0 0, .bool false, .int .i64 1]) (by simp [results, Tryz.results32, go_sem]) rfl ⟨[], false, none, 0, by rw [HE.out]; rfl, intsRd_nilM _, fun _ => ⟨rfl, rfl⟩, fun h => absurd (HE.out.symm.trans h) (by decide), B1.out⟩
set_option maxRecDepth 100000 in
set_option maxHeartbeats 3200000 in
theorem requal_any (La S Lb T : Int) (es fs : List E3) (v u : Value) (w : World) (hrd : EdgesRd w v es) (hru : EdgesRd w u fs) (hn : es.length ≤ 9223372036854775807) (hm : fs.length ≤ 9223372036854775807) :
    Calls Tryz.prog 11 #[grV La S v, grV Lb T u] w (CmpOut (fun x y : Bool => x != y) La S es Lb T fs w) := by
  have HC := Lib.hid (fun W h1 h2 => rcompare13_any _ _ frx_xo La S Lb T es fs v u W h1 h2 hn hm)
  have b0 := below_more (below1 w (.cells #[.int .i64 La, .int .i64 S, v] 24)) (Nat.le_refl _) (below1 _ (.cells #[.int .i64 Lb, .int .i64 T, u] 24))
  have B0 := Lib.hid b0
  have G0 := Lib.hid ((BoxG.new w La S v 24).keep (below1 _ (.cells #[.int .i64 Lb, .int .i64 T, u] 24)))
  have H0 := BoxG.new (w.alloc (.cells #[.int .i64 La, .int .i64 S, v] 24)) Lb T u 24
  rw [World.size_alloc] at H0
  have RA := Lib.hid (hrd.keep b0)
  have RB := Lib.hid (hru.keep b0)
  obtain ⟨x1, x2, x3⟩ := id G0.out
  obtain ⟨y1, y2, y3⟩ := id H0
  clear hrd hru b0
  go_enter Tryz.func11, Tryz.ntmps11
  go_wp2_with (go_at_call 32; (with_reducible refine (HC.out _ RA.out RB.out).mono ?_); rintro e W1 ⟨q, is, g, c, rfl, i1, f1, f2, b1⟩; (have I1 := Lib.hid i1); (have F1 := Lib.hid f1); (have F2 := Lib.hid f2); (have B1 := Lib.hid (below_more B0.out (Nat.le_refl _) b1)); clear i1 f1 f2 b1 x1 x2 x3 y1 y2 y3)
  exact bodyPost_ret (v := .tuple #[.slice g q.length c, .bool is, .int .i64 (cmpZ La S es Lb T fs)]) (by simp [results, Tryz.results11, go_sem]) rfl ⟨q, is, g, c, rfl, I1.out, F1.out, F2.out, B1.out⟩
set_option maxRecDepth 100000 in
set_option maxHeartbeats 3200000 in
theorem rincluded_any (La S Lb T : Int) (es fs : List E3) (v u : Value) (w : World) (hrd : EdgesRd w v es) (hru : EdgesRd w u fs) (hn : es.length ≤ 9223372036854775807) (hm : fs.length ≤ 9223372036854775807) :
    Calls Tryz.prog 9 #[grV La S v, grV Lb T u] w (CmpOut (fun x y : Bool => x && !y) La S es Lb T fs w) := by
  have HC := Lib.hid (fun W h1 h2 => rcompare13_any _ _ frx_of La S Lb T es fs v u W h1 h2 hn hm)
  have b0 := below_more (below1 w (.cells #[.int .i64 La, .int .i64 S, v] 24)) (Nat.le_refl _) (below1 _ (.cells #[.int .i64 Lb, .int .i64 T, u] 24))
  have B0 := Lib.hid b0
  have G0 := Lib.hid ((BoxG.new w La S v 24).keep (below1 _ (.cells #[.int .i64 Lb, .int .i64 T, u] 24)))
  have H0 := BoxG.new (w.alloc (.cells #[.int .i64 La, .int .i64 S, v] 24)) Lb T u 24
  rw [World.size_alloc] at H0
  have RA := Lib.hid (hrd.keep b0)
  have RB := Lib.hid (hru.keep b0)
  obtain ⟨x1, x2, x3⟩ := id G0.out
  obtain ⟨y1, y2, y3⟩ := id H0
  clear hrd hru b0
  go_enter Tryz.func9, Tryz.ntmps9
  go_wp2_with (go_at_call 32; (with_reducible refine (HC.out _ RA.out RB.out).mono ?_); rintro e W1 ⟨q, is, g, c, rfl, i1, f1, f2, b1⟩; (have I1 := Lib.hid i1); (have F1 := Lib.hid f1); (have F2 := Lib.hid f2); (have B1 := Lib.hid (below_more B0.out (Nat.le_refl _) b1)); clear i1 f1 f2 b1 x1 x2 x3 y1 y2 y3)
  exact bodyPost_ret (v := .tuple #[.slice g q.length c, .bool is, .int .i64 (cmpZ La S es Lb T fs)]) (by simp [results, Tryz.results9, go_sem]) rfl ⟨q, is, g, c, rfl, I1.out, F1.out, F2.out, B1.out⟩
end Go.Proofs.YtiockphjnkehnaaGreatDoor

namespace Go.Proofs.YtiockphjnkehnaaGreatDoor
open Go.RowKit
set_option linter.unusedSimpArgs false
set_option linter.unusedVariables false

theorem fw_uniqY {D : Bool → Bool → Bool} {a b : Nat → Nat → Nat} {na nb La s t : Nat} {x y : List Int} {ix iy : Bool} (h : FW D a b na nb La s t x ix) (h1 : FW D a b na nb La s t y iy) : x = y ∧ ix = iy := by
  rcases h with ⟨rfl, w, rfl, h2, h3, h4⟩ | ⟨rfl, rfl, h2⟩ <;> rcases h1 with ⟨rfl, w', rfl, h5, h6, h7⟩ | ⟨rfl, rfl, h5⟩
  · exact ⟨sle_antisymm (h4 w' h5 h6) (h7 w h2 h3), rfl⟩
  · rw [h5 w h2] at h3; cases h3
  · rw [h2 w' h5] at h6; cases h6
  · exact ⟨rfl, rfl⟩
theorem cmp_uniq {D : Bool → Bool → Bool} {a b : Nat → Nat → Nat} {na nb M : Nat} {Z : Int} {u v : List Int} {iu iv : Bool} (n1 : Z ≠ 0 → u = [] ∧ iu = false) (f1 : Z = 0 → FW D a b na nb M 0 0 u (!iu)) (n2 : Z ≠ 0 → v = [] ∧ iv = false) (f2 : Z = 0 → FW D a b na nb M 0 0 v (!iv)) : v = u ∧ iv = iu := by
  by_cases hz : Z = 0
  · obtain ⟨e1, e2⟩ := fw_uniqY (f1 hz) (f2 hz)
    exact ⟨e1.symm, by cases iu <;> cases iv <;> simp at e2 ⊢⟩
  · rw [(n1 hz).1, (n1 hz).2, (n2 hz).1, (n2 hz).2]; exact ⟨rfl, rfl⟩
theorem built_lensY {es : List E3} {La S : Nat} (h : S ≠ 0) (h2 : S < 18446744073709551616) : (bSets (builtN es La S)).2.length ≤ 1024 := by
  cases hb : builtN es La S with
  | none => exact Nat.zero_le _
  | some b => exact (built_res h h2 hb).m
theorem cov_len (La S : Int) (es : List E3) : (covR La S es).2.2.length ≤ 1024 := by
  unfold covR
  split
  · split
    · split
      · exact built_lensY (by decide) (by decide)
      · exact Nat.zero_le _
    · exact Nat.zero_le _
  · exact Nat.zero_le _
theorem great_La {L S : Int} {k : Nat} (h : great13B L S k = false) (h2 : L ≤ 256) : L ≤ 8 := by
  unfold great13B at h
  simp only [Bool.or_eq_false_iff, Bool.and_eq_false_imp, decide_eq_false_iff_not, decide_eq_true_iff] at h
  omega
set_option maxRecDepth 100000 in
set_option maxHeartbeats 12800000 in
theorem compares_any (La S Lb T : Int) (es fs : List E3) (v u : Value) (w : World) (hrd : EdgesRd w v es) (hru : EdgesRd w u fs) (hn : es.length ≤ 9223372036854775807) (hm : fs.length ≤ 9223372036854775807) (hT : TabD w) :
    Calls Tryz.prog 3 #[grV La S v, grV Lb T u] w fun e w' => e = .returned (.bool true) ∧ Below w.heap.size w w' := by
  have HA := Lib.hid (fun W => awake13_any W)
  have b0 := below_more (below1 w (.cells #[.int .i64 La, .int .i64 S, v] 24)) (Nat.le_refl _) (below1 _ (.cells #[.int .i64 Lb, .int .i64 T, u] 24))
  have G0 := (BoxG.new w La S v 24).keep (below1 _ (.cells #[.int .i64 Lb, .int .i64 T, u] 24))
  have H0 := BoxG.new (w.alloc (.cells #[.int .i64 La, .int .i64 S, v] 24)) Lb T u 24
  have zX : ((w.alloc (.cells #[.int .i64 La, .int .i64 S, v] 24)).alloc (.cells #[.int .i64 Lb, .int .i64 T, u] 24)).heap.size = w.heap.size + 1 + 1 := by rw [World.size_alloc, World.size_alloc]
  rw [World.size_alloc] at H0
  obtain ⟨a, c, hva⟩ := hrd.form
  obtain ⟨a', c', hvb⟩ := hru.form
  have TW : Two ((w.alloc (.cells #[.int .i64 La, .int .i64 S, v] 24)).alloc (.cells #[.int .i64 Lb, .int .i64 T, u] 24)).heap.size La S Lb T v u (((w.alloc (.cells #[.int .i64 La, .int .i64 S, v] 24)).alloc (.cells #[.int .i64 Lb, .int .i64 T, u] 24)).alloc (.cells #[.int .i64 La, .int .i64 S, v, .int .i64 Lb, .int .i64 T, u] 24)) := by
    generalize ((w.alloc (.cells #[.int .i64 La, .int .i64 S, v] 24)).alloc (.cells #[.int .i64 Lb, .int .i64 T, u] 24)) = X
    exact ⟨by simp [go_sem], by simp [go_sem], by simp [go_sem], by simp [go_sem], by simp [go_sem], by simp [go_sem]⟩
  rw [zX] at TW
  have b2 := below1 ((w.alloc (.cells #[.int .i64 La, .int .i64 S, v] 24)).alloc (.cells #[.int .i64 Lb, .int .i64 T, u] 24)) (.cells #[.int .i64 La, .int .i64 S, v, .int .i64 Lb, .int .i64 T, u] 24)
  have G1 := Lib.hid (G0.keep b2)
  have H1 := Lib.hid (H0.keep b2)
  have B0 := Lib.hid (below_more b0 (Nat.le_refl _) b2)
  have HGT : Hid (Calls Tryz.prog 4 #[.slice (some ⟨w.heap.size + 1 + 1, 0, none⟩) 2 2] (((w.alloc (.cells #[.int .i64 La, .int .i64 S, v] 24)).alloc (.cells #[.int .i64 Lb, .int .i64 T, u] 24)).alloc (.cells #[.int .i64 La, .int .i64 S, v, .int .i64 Lb, .int .i64 T, u] 24)) fun e w' => e = .returned (.bool (great13B La S es.length || great13B Lb T fs.length)) ∧ Below (((w.alloc (.cells #[.int .i64 La, .int .i64 S, v] 24)).alloc (.cells #[.int .i64 Lb, .int .i64 T, u] 24)).alloc (.cells #[.int .i64 La, .int .i64 S, v, .int .i64 Lb, .int .i64 T, u] 24)).heap.size (((w.alloc (.cells #[.int .i64 La, .int .i64 S, v] 24)).alloc (.cells #[.int .i64 Lb, .int .i64 T, u] 24)).alloc (.cells #[.int .i64 La, .int .i64 S, v, .int .i64 Lb, .int .i64 T, u] 24)) w') := Lib.hid (by
    subst hva hvb
    exact great2_any La S Lb T a a' es.length fs.length c c' _ _ TW)
  have RA := Lib.hid hrd
  have RB := Lib.hid hru
  have HT := Lib.hid hT
  have HV1 := Lib.hid (fun W h h3 => cover_any La S es v W h hn h3)
  have HI1 := Lib.hid (fun W h1 h2 h3 => included_any La S Lb T es fs v u W h1 h2 hn hm h3)
  have HI2 := Lib.hid (fun W h1 h2 => rincluded_any La S Lb T es fs v u W h1 h2 hn hm)
  have HQ1 := Lib.hid (fun W h1 h2 h3 => equal_any La S Lb T es fs v u W h1 h2 hn hm h3)
  have HQ2 := Lib.hid (fun W h1 h2 => requal_any La S Lb T es fs v u W h1 h2 hn hm)
  obtain ⟨x1, x2, x3⟩ := G0
  obtain ⟨y1, y2, y3⟩ := H0
  have HRV := Lib.hid (fun W h hL => rcover_any La S es v W h hn hL)
  have HLL := Lib.hid (show (great13B La S es.length || great13B Lb T fs.length) = false → chkG La S es = 0 → La ≤ 8 from fun h h0 => by
    rw [Bool.or_eq_false_iff] at h
    exact great_La h.1 (chkG_zero h0).l2)
  clear hrd hru hT b0 b2 TW zX hva hvb
  generalize hgg : (great13B La S es.length || great13B Lb T fs.length) = gg at HGT HLL
  clear hgg
  cases gg
  · have HV2 := Lib.hid (fun W h => HRV.out W h (HLL.out rfl))
    obtain ⟨R, hR⟩ : ∃ R, covR La S es = R := ⟨_, rfl⟩
    have hRl : R.2.2.length ≤ 1024 := by rw [← hR]; exact cov_len La S es
    rw [hR] at HV1 HV2
    obtain ⟨ZR, Q, ER⟩ := R
    dsimp only at hRl
    obtain ⟨LR, hLR⟩ : ∃ LR, onOk ZR La = LR := ⟨_, rfl⟩
    obtain ⟨NR, hNR⟩ : ∃ NR, Q.length = NR := ⟨_, rfl⟩
    have HV1 : Hid (∀ W, EdgesRd W v es → TabD W → Calls Tryz.prog 6 #[grV La S v] W fun e W' => ∃ b d, e = .returned (.tuple #[grV LR (NR : Int) (.slice b ER.length d), .int .i64 ZR]) ∧ EdgesRd W' (.slice b ER.length d) ER ∧ Below W.heap.size W W') := Lib.hid (fun W h h3 => by
      refine (HV1.out W h h3).mono ?_
      rintro e W' ⟨b, d, he, g1, g2⟩
      dsimp only at he g1
      rw [hLR, hNR] at he
      exact ⟨b, d, he, g1, g2⟩)
    have HV2 : Hid (∀ W, EdgesRd W v es → Calls Tryz.prog 7 #[grV La S v] W fun e W' => ∃ b d, e = .returned (.tuple #[grV LR (NR : Int) (.slice b ER.length d), .int .i64 ZR]) ∧ EdgesRd W' (.slice b ER.length d) ER ∧ Below W.heap.size W W') := Lib.hid (fun W h => by
      refine (HV2.out W h).mono ?_
      rintro e W' ⟨b, d, he, g1, g2⟩
      dsimp only at he g1
      rw [hLR, hNR] at he
      exact ⟨b, d, he, g1, g2⟩)
    clear hR hLR hNR HRV HLL
    go_enter Tryz.func3, Tryz.ntmps3
    go_upto_region 3 with (go_at_call 4; (with_reducible refine HGT.out.mono ?_); rintro e W1 ⟨rfl, b1⟩; (have B9 := Lib.hid (below_more B0.out (Nat.le_refl _) b1)); (have G9 := Lib.hid (G1.out.keep b1)); (have H9 := Lib.hid (H1.out.keep b1)); clear b1 x1 x2 x3 y1 y2 y3; (obtain ⟨x1, x2, x3⟩ := id G9.out); (obtain ⟨y1, y2, y3⟩ := id H9.out))
    clear HGT G1 H1 B0
    go_upto_region 4 with (go_at_call 6; (with_reducible refine (HV1.out _ (RA.out.keep B9.out) (HT.out.keep B9.out)).mono ?_); rintro e W2 ⟨a2, d2, rfl, e2, b2⟩)
    have k2 := below_more b2 (Nat.le_refl _) (below1 W2 (.cells #[.int .i64 LR, .int .i64 (NR : Int), .slice a2 ER.length d2] 24))
    have E2 := Lib.hid (e2.keep (below1 W2 (.cells #[.int .i64 LR, .int .i64 (NR : Int), .slice a2 ER.length d2] 24)))
    have C2 := Lib.hid (BoxG.new W2 LR (NR : Int) (.slice a2 ER.length d2) 24)
    have B2 := Lib.hid (B9.out.trans (k2.mono B9.out.size))
    have G2 := Lib.hid (G9.out.keep k2)
    have H2 := Lib.hid (H9.out.keep k2)
    obtain ⟨P2, hP2⟩ : ∃ P, W2.heap.size = P := ⟨_, rfl⟩
    rw [hP2] at C2 ⊢
    clear b2 e2 k2 x1 x2 x3 y1 y2 y3 hP2 G9 H9
    generalize (W2.alloc (.cells #[.int .i64 LR, .int .i64 (NR : Int), .slice a2 ER.length d2] 24)) = X2 at *
    obtain ⟨x1, x2, x3⟩ := id G2.out
    obtain ⟨y1, y2, y3⟩ := id H2.out
    go_upto_region 5 with (go_at_call 7; (with_reducible refine (HV2.out _ (RA.out.keep B2.out)).mono ?_); rintro e W3 ⟨a3, d3, rfl, e3, b3⟩)
    have k3 := below_more b3 (Nat.le_refl _) (below1 W3 (.cells #[.int .i64 LR, .int .i64 (NR : Int), .slice a3 ER.length d3] 24))
    have E3 := Lib.hid (e3.keep (below1 W3 (.cells #[.int .i64 LR, .int .i64 (NR : Int), .slice a3 ER.length d3] 24)))
    have C3 := Lib.hid (BoxG.new W3 LR (NR : Int) (.slice a3 ER.length d3) 24)
    have B3 := Lib.hid (B2.out.trans (k3.mono B2.out.size))
    have G3 := Lib.hid (G2.out.keep k3)
    have H3 := Lib.hid (H2.out.keep k3)
    have E2b := Lib.hid (E2.out.keep k3)
    have C2b := Lib.hid (C2.out.keep k3)
    clear E2 C2
    obtain ⟨P3, hP3⟩ : ∃ P, W3.heap.size = P := ⟨_, rfl⟩
    rw [hP3] at C3 ⊢
    clear b3 e3 k3 x1 x2 x3 y1 y2 y3 hP3 G2 H2
    generalize (W3.alloc (.cells #[.int .i64 LR, .int .i64 (NR : Int), .slice a3 ER.length d3] 24)) = X3 at *
    obtain ⟨x1, x2, x3⟩ := id G3.out
    obtain ⟨y1, y2, y3⟩ := id H3.out
    have Ea := E2b
    have Ca := C2b
    have Eb := E3
    have Cb := C3
    clear E2b C2b E3 C3
    go_upto_region 6 with (go_at_call 8; (with_reducible refine (HI1.out _ (RA.out.keep B3.out) (RB.out.keep B3.out) (HT.out.keep B3.out)).mono ?_); rintro e W4 ⟨p, ip, gp, cp, rfl, i4, n4, f4, b4⟩; (have Ip := Lib.hid i4); (have Np := Lib.hid n4); (have Fp := Lib.hid f4); (have B4 := Lib.hid (B3.out.trans (b4.mono B3.out.size))); (have Ea_4 := Lib.hid (Ea.out.keep b4)); (have Ca_4 := Lib.hid (Ca.out.keep b4)); (have Eb_4 := Lib.hid (Eb.out.keep b4)); (have Cb_4 := Lib.hid (Cb.out.keep b4)); (have G4 := Lib.hid (G3.out.keep b4)); (have H4 := Lib.hid (H3.out.keep b4)); clear b4 i4 n4 f4 x1 x2 x3 y1 y2 y3 Ea Ca Eb Cb G3 H3; (obtain ⟨x1, x2, x3⟩ := id G4.out); (obtain ⟨y1, y2, y3⟩ := id H4.out))
    go_upto_region 7 with (go_at_call 9; (with_reducible refine (HI2.out _ (RA.out.keep B4.out) (RB.out.keep B4.out)).mono ?_); rintro e W5 ⟨q, iq, gq, cq, rfl, i5, n5, f5, b5⟩; (have Iq := Lib.hid i5); (have Nq := Lib.hid n5); (have Fq := Lib.hid f5); (have B5 := Lib.hid (B4.out.trans (b5.mono B4.out.size))); (have Ea_5 := Lib.hid (Ea_4.out.keep b5)); (have Ca_5 := Lib.hid (Ca_4.out.keep b5)); (have Eb_5 := Lib.hid (Eb_4.out.keep b5)); (have Cb_5 := Lib.hid (Cb_4.out.keep b5)); (have Ip_5 := Lib.hid (Ip.out.keep b5)); (have G5 := Lib.hid (G4.out.keep b5)); (have H5 := Lib.hid (H4.out.keep b5)); clear b5 i5 n5 f5 x1 x2 x3 y1 y2 y3 Ea_4 Ca_4 Eb_4 Cb_4 Ip G4 H4; (obtain ⟨x1, x2, x3⟩ := id G5.out); (obtain ⟨y1, y2, y3⟩ := id H5.out))
    go_upto_region 8 with (go_at_call 10; (with_reducible refine (HQ1.out _ (RA.out.keep B5.out) (RB.out.keep B5.out) (HT.out.keep B5.out)).mono ?_); rintro e W6 ⟨x, ix, gx, cx, rfl, i6, n6, f6, b6⟩; (have Ix := Lib.hid i6); (have Nx := Lib.hid n6); (have Fx := Lib.hid f6); (have B6 := Lib.hid (B5.out.trans (b6.mono B5.out.size))); (have Ea_6 := Lib.hid (Ea_5.out.keep b6)); (have Ca_6 := Lib.hid (Ca_5.out.keep b6)); (have Eb_6 := Lib.hid (Eb_5.out.keep b6)); (have Cb_6 := Lib.hid (Cb_5.out.keep b6)); (have Ip_6 := Lib.hid (Ip_5.out.keep b6)); (have Iq_6 := Lib.hid (Iq.out.keep b6)); (have G6 := Lib.hid (G5.out.keep b6)); (have H6 := Lib.hid (H5.out.keep b6)); clear b6 i6 n6 f6 x1 x2 x3 y1 y2 y3 Ea_5 Ca_5 Eb_5 Cb_5 Ip_5 Iq G5 H5; (obtain ⟨x1, x2, x3⟩ := id G6.out); (obtain ⟨y1, y2, y3⟩ := id H6.out))
    go_upto_region 9 with (go_at_call 11; (with_reducible refine (HQ2.out _ (RA.out.keep B6.out) (RB.out.keep B6.out)).mono ?_); rintro e W7 ⟨y, iy, gy, cy, rfl, i7, n7, f7, b7⟩; (have Iy := Lib.hid i7); (have Ny := Lib.hid n7); (have Fy := Lib.hid f7); (have B7 := Lib.hid (B6.out.trans (b7.mono B6.out.size))); (have Ea_7 := Lib.hid (Ea_6.out.keep b7)); (have Ca_7 := Lib.hid (Ca_6.out.keep b7)); (have Eb_7 := Lib.hid (Eb_6.out.keep b7)); (have Cb_7 := Lib.hid (Cb_6.out.keep b7)); (have Ip_7 := Lib.hid (Ip_6.out.keep b7)); (have Iq_7 := Lib.hid (Iq_6.out.keep b7)); (have Ix_7 := Lib.hid (Ix.out.keep b7)); clear b7 i7 n7 f7 x1 x2 x3 y1 y2 y3 Ea_6 Ca_6 Eb_6 Cb_6 Ip_6 Iq_6 Ix G6 H6)
    have lp := cmp_len Np.out Fp.out
    have lx := cmp_len Nx.out Fx.out
    obtain ⟨e1, e2⟩ := cmp_uniq Np.out Fp.out Nq.out Fq.out
    obtain ⟨e3, e4⟩ := cmp_uniq Nx.out Fx.out Ny.out Fy.out
    clear Np Fp Nq Fq Nx Fx Ny Fy
    subst e1 e2 e3 e4
    generalize cmpZ La S es Lb T fs = Z at *
    have HEE : Hid (∀ W u u' l, IntsRd W u l → IntsRd W u' l → l.length ≤ 100000 → Calls Tryz.prog 13 #[u, u'] W fun e W' => e = .returned (.bool true) ∧ Below W.heap.size W W') := Lib.hid (fun W u u' l h1 h2 h3 => by
      have h := intsEq_any h1 h2 (by omega) (by omega)
      rw [decide_eq_true rfl] at h
      exact h)
    have HSM := Lib.hid (rsame_any LR (NR : Int) LR (NR : Int) ER ER _ _ W7 Ea_7.out Eb_7.out (by omega) (by omega))
    rw [show sameG LR (NR : Int) ER LR (NR : Int) ER = true by unfold sameG; simp] at HSM
    have dz : (Z == Z) = true := by simp
    have dr : (ZR == ZR) = true := by simp
    have b1 : (iq == iq) = true := by simp
    have b2 : (iy == iy) = true := by simp
    obtain ⟨x1, x2, x3⟩ := id Ca_7.out
    obtain ⟨y1, y2, y3⟩ := id Cb_7.out
    clear HV1 HV2 HI1 HI2 HQ1 HQ2 RA RB HT hRl
    go_wp2_with (first
      | (go_at_call 12; (with_reducible refine HSM.out.mono ?_); rintro e W8 ⟨rfl, q8⟩; (have R8 := Lib.hid q8); clear q8 x1 x2 x3 y1 y2 y3)
      | (go_at_call 13; (with_reducible refine (HEE.out _ _ _ _ (Ip_7.out.keep R8.out) (Iq_7.out.keep R8.out) lp).mono ?_); rintro e W9 ⟨rfl, q9⟩; (have R9 := Lib.hid (R8.out.trans (q9.mono R8.out.size))); clear q9)
      | (go_at_call 13; (with_reducible refine (HEE.out _ _ _ _ (Ix_7.out.keep R9.out) (Iy.out.keep R9.out) lx).mono ?_); rintro e W10 ⟨rfl, q10⟩; (have R10 := Lib.hid (R9.out.trans (q10.mono R9.out.size))); clear q10)
      | (go_at_call 5; (with_reducible refine (HA.out _).mono ?_); rintro e W11 ⟨rfl, q11⟩; (have R11 := Lib.hid (R10.out.trans (q11.mono R10.out.size))); clear q11))
    go_ret
    exact ⟨rfl, B7.out.trans (R11.out.mono B7.out.size)⟩
  · go_enter Tryz.func3, Tryz.ntmps3
    go_wp2_with (first
      | (go_at_call 4; (with_reducible refine HGT.out.mono ?_); rintro e W1 ⟨rfl, b1⟩; (have B1 := Lib.hid (below_more B0.out (Nat.le_refl _) b1)); clear b1 x1 x2 x3 y1 y2 y3)
      | (go_at_call 5; (with_reducible refine (HA.out _).mono ?_); rintro e W9 ⟨rfl, b9⟩; (have B9 := Lib.hid (B1.out.trans (b9.mono B1.out.size))); clear b9))
    go_ret
    exact ⟨rfl, B9.out⟩
end Go.Proofs.YtiockphjnkehnaaGreatDoor

namespace Go.Proofs.YtiockphjnkehnaaGreatDoor
open Go.ChangeShapes Go.WideShapes Go.ChangeAt Go.RowKit
def lst1 : List (String × DataW Unit) := [("math/bits.deBruijn64tab", Rows.laid_math_bits_deBruijn64tab)]
theorem lst1_met {W : World} (h : laidMetH Tryz.prog lst1 W) : laidMet Tryz.prog lst1 W := h
theorem tabDeb1 {W : World} (h : laidMetH Tryz.prog lst1 W) : Lib.TabIs Tryz.prog W "math/bits.deBruijn64tab" .u8 debZ :=
  Lib.tabIs_of_head (zs := debZ) (rest := []) gDeb gDebType Tryz.underlying153 Tryz.underlying5 cellsU8n cellsDeb (lst1_met h)
theorem tabD_laid1 {W : World} (h : laidMetH Tryz.prog lst1 W) : TabD W := fun j hj => by
  have h1 := (tabDeb1 h).cell gDeb j (by rw [List.length_map]; exact hj)
  rw [h1]
  have h2 : debZ[j]? = some ((Lib.deBruijn64tab.getD j 0 : Nat) : Int) := by
    rw [List.getElem?_map, List.getD_eq_getElem?_getD, List.getElem?_eq_getElem hj]; rfl
  first
    | (rw [List.getD_eq_getElem?_getD, h2]; rfl)
    | (rw [h2]; rfl)
    | simp [h2]
set_option maxRecDepth 100000 in
theorem laid_met1 (os : Os) (args : Array Value) : laidMet Tryz.prog lst1 ((laidWorldN os).forCall (fun _ _ => 0) ⟨#[], args, []⟩).memory :=
  laidMet_of_run' 8 (by kernel_rfl) (by kernel_rfl)
end Go.Proofs.YtiockphjnkehnaaGreatDoor

namespace Go.Proofs.YtiockphjnkehnaaGreatDoor.minimalCompares
open Go.ChangeShapes Go.WideShapes Go.ChangeAt Go.RowKit
open Go.ChangeMaps (open_string shut_string)
set_option maxRecDepth 100000
set_option linter.unusedVariables false

theorem contract (H : Type) (enc : TypeId × Value → H) (W : World) (args : Array Value) (ds gs : List (DataW H)) (before : List MemPlace)
    (hval : ∀ (j : Nat) t v, Tryz.f3.params[j]? = some t → args[j]? = some v → Value.okWide Tryz.prog W .any 0 t v)
    (hW : DataW.Whole enc Tryz.prog Tryz.f3.params.toList Rows.minimalComparesSpec.vars false W args.toList ds gs before) (hL : laidMetH Tryz.prog Rows.minimalComparesRow.laid W) :
    Calls Tryz.prog 3 args W fun e W' => ∃ v, e = .returned v ∧ Rows.minimalComparesSpec.post enc Tryz.prog Tryz.f3 false true false false W args v W' := by
  have hW' := hW
  obtain ⟨p, q, hA0, hV, rfl, hfz, hnd⟩ := hW
  have hA : DataW.TrodAll enc Tryz.prog W 0 (fun _ => true) true Tryz.f3.params.toList args.toList ds p := hA0
  rw [Tryz.params3] at hA hval
  obtain ⟨v0, vs0, d0, ds0, p0, q0, hargs, rfl, rfl, h0, r0⟩ := trodAll_cons hA
  obtain ⟨v1, vs1, d1, ds1, p1, q1, rfl, rfl, rfl, h1, r1⟩ := trodAll_cons r0
  obtain ⟨rfl, rfl, rfl⟩ := trodAll_nil r1
  obtain rfl : args = #[v0, v1] := by cases args; simp_all
  obtain ⟨rfl, rfl⟩ := trodVars_none hV
  obtain ⟨L0, S0, u0, es0, rfl, k0, l0⟩ := graph_open (hval 0 24 v0 rfl rfl) h0
  have t0 : ∀ x ∈ p0, x.block < W.heap.size := fun x hx => by simpa using hW'.lt x (by simp [hx])
  obtain ⟨L1, S1, u1, es1, rfl, k1, l1⟩ := graph_open (hval 1 24 v1 rfl rfl) h1
  have t1 : ∀ x ∈ p1, x.block < W.heap.size := fun x hx => by simpa using hW'.lt x (by simp [hx])
  clear hA0
  refine (compares_any L0 S0 L1 S1 es0 es1 u0 u1 W k0 k1 l0 l1 (tabD_laid1 hL)).mono fun e W' ⟨he, hb⟩ => ?_
  subst he
  refine ⟨_, rfl, _, _, _, [], (p0 ++ (p1 ++ [])), [], hW', ?_, ?_, ?_, hb.frame _, fun h => by cases h⟩
  · exact trodAll_cons_mk (p := []) (shut_bool Tryz.underlying4 true) trodAll_mk0
  · exact (trodAll_cons_mk (graph_keep h0 hb t0) (trodAll_cons_mk (graph_keep h1 hb t1) trodAll_mk0))
  · rfl

theorem reads (os : Os) {H : Type} (enc : TypeId × Value → H) : ∃ places, DataW.whole enc Tryz.prog ((laidWorldN os).forCall (fun _ _ => 0) ⟨#[], #[.agg #[.int .i64 0, .int .i64 0, .slice none 0 0], .agg #[.int .i64 0, .int .i64 0, .slice none 0 0]], []⟩).memory Tryz.f3.params.toList Rows.minimalComparesSpec.vars false [.agg #[.int .i64 0, .int .i64 0, .slice none 0 0], .agg #[.int .i64 0, .int .i64 0, .slice none 0 0]] 8 = some ([.agg [.lit (.int .i64 0), .lit (.int .i64 0), .nil], .agg [.lit (.int .i64 0), .lit (.int .i64 0), .nil]], [], places) :=
  ⟨[], by kernel_rfl⟩

theorem lifted (os : Os) (started : os.Started) (H : Type) (enc : TypeId × Value → H) (F : Stop.Interp) :
    ReturnsInHanded {} Tryz.checked os 3 .any ((OpenSpec.ofChange Rows.minimalComparesSpec).preRow enc Tryz.prog Tryz.f3 Rows.minimalComparesRow.domain false Rows.minimalComparesRow.laid) (((OpenSpec.ofChange Rows.minimalComparesSpec).at F).post enc Tryz.prog Tryz.f3 false true false false) := by
  obtain ⟨places, hx⟩ := reads os enc
  refine returnsInHanded_of_row (C := Tryz.checked) (s := OpenSpec.ofChange Rows.minimalComparesSpec) ownNone started (by kernel_rfl) Tryz.func3
    (witness_row_at (enc := enc) (C := Tryz.checked) false (laidWorldN os) #[.agg #[.int .i64 0, .int .i64 0, .slice none 0 0], .agg #[.int .i64 0, .int .i64 0, .slice none 0 0]] rfl (by kernel_rfl) (by kernel_rfl) (by kernel_rfl)
      (OpenSpec.preRow_of_cond 8 hx (by kernel_rfl) (fun k hk => by cases hk) (by kernel_rfl) (laid_met1 os _))) ?_
  intro W base args ds gs before hval hW _ _ _ hL _ _
  exact contract H enc W args ds gs before hval hW hL

theorem said : Rows.MinimalComparesSaid :=
  OpenClaim.holds_of_cond 3 Tryz.f3 rfl rfl rfl rfl rfl rfl rfl ⟨rfl, rfl, rfl, rfl, rfl⟩ rfl rfl rfl rfl rfl (by kernel_rfl) Tryz.func3 (by kernel_rfl)
    (of_decide_eq_true (by kernel_rfl)) (by unfold Func.isWrapper; first | (rw [if_pos (by decide +kernel)]; kernel_rfl) | (rw [if_neg (by decide +kernel)]; exact ⟨rfl, rfl⟩))
    (fun os started H enc _ F => by rw [OpenClaim.pre_eq_preRow]; exact lifted os started H enc F)

theorem ns0 : Tryz.prog.wantsStandIn 24 = false := by kernel_rfl

theorem plain (f : FuncId) (fn : Func) (hf : Tryz.pinned.checked.prog.funcNamed "groove/groovelaw13.MinimalCompares" = some f) (hfn : Tryz.pinned.checked.prog.funcs[f]? = some fn) :
    false = Tryz.pinned.checked.prog.looks [] ∧ ∀ (j : Nat) t, fn.params[j]? = some t → Tryz.pinned.checked.prog.wantsStandIn t = false := by
  obtain rfl : f = 3 := Option.some.inj ((show Tryz.prog.funcNamed "groove/groovelaw13.MinimalCompares" = some 3 by kernel_rfl).symm.trans hf) |>.symm
  obtain rfl : fn = Tryz.f3 := (Option.some.inj (Tryz.func3.symm.trans hfn)).symm
  refine ⟨by kernel_rfl, fun j t ht => ?_⟩
  rw [Tryz.params3] at ht
  have hm := Array.mem_of_getElem? ht
  obtain rfl : t = 24 := by simpa using hm
  exact ns0

/-- MinimalCompares's card. -/
theorem card : Rows.MinimalComparesCardSaid :=
  Claim7.holds_tied_plain_at .later [] _ _ _ _ said (fun _ h => by cases h) (by kernel_rfl) (fun _ h => by cases h) minimalCompares_row_tie rfl ⟨rfl, rfl⟩ (by kernel_rfl) rfl plain (by kernel_rfl)
end Go.Proofs.YtiockphjnkehnaaGreatDoor.minimalCompares
