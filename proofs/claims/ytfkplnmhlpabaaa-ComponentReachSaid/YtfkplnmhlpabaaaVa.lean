/- Plain facts on graphs: the order of edges, the errors of Check, members of a set. No condition. -/
import Derived.Lib.Hide
namespace Go.Proofs.Ytfkplnmhlpabaaa
set_option linter.unusedVariables false

/-- An edge: where it begins, its label, where it ends. -/
abbrev E3 := Int × Int × Int
def ltE (a b : E3) : Bool := decide (a.1 < b.1 ∨ (a.1 = b.1 ∧ (a.2.1 < b.2.1 ∨ (a.2.1 = b.2.1 ∧ a.2.2 < b.2.2))))
theorem ltE_iff (a b : E3) : ltE a b = true ↔ (a.1 < b.1 ∨ (a.1 = b.1 ∧ (a.2.1 < b.2.1 ∨ (a.2.1 = b.2.1 ∧ a.2.2 < b.2.2)))) := by unfold ltE; exact decide_eq_true_iff
theorem ltE_not (a b : E3) : ltE a b = false ↔ ¬ (a.1 < b.1 ∨ (a.1 = b.1 ∧ (a.2.1 < b.2.1 ∨ (a.2.1 = b.2.1 ∧ a.2.2 < b.2.2)))) := by unfold ltE; exact decide_eq_false_iff_not
theorem e3_ext {a b : E3} (h1 : a.1 = b.1) (h2 : a.2.1 = b.2.1) (h3 : a.2.2 = b.2.2) : a = b := Prod.ext h1 (Prod.ext h2 h3)
theorem ltE_irrefl (a : E3) : ltE a a = false := by rw [ltE_not]; omega
theorem ltE_trans {a b c : E3} (h : ltE a b = true) (h' : ltE b c = true) : ltE a c = true := by rw [ltE_iff] at *; omega
theorem ltE_asymm {a b : E3} (h : ltE a b = true) : ltE b a = false := by rw [ltE_not]; rw [ltE_iff] at h; omega
theorem ltE_total {a b : E3} (h : ltE a b = false) (h' : ltE b a = false) : a = b := by
  rw [ltE_not] at h h'
  exact e3_ext (by omega) (by omega) (by omega)
/-- The result of comparing two edges. -/
def cmpE (a b : E3) : Int := if ltE a b = true then -1 else if ltE b a = true then 1 else 0
theorem cmpE_lt (a b : E3) : decide (cmpE a b < 0) = ltE a b := by
  unfold cmpE
  cases h : ltE a b with
  | true => rfl
  | false =>
    cases h2 : ltE b a with
    | true => rfl
    | false => rfl
theorem cmpE_ge (a b : E3) : decide (0 ≤ cmpE a b) = !ltE a b := by
  unfold cmpE
  cases h : ltE a b with
  | true => rfl
  | false =>
    cases h2 : ltE b a with
    | true => rfl
    | false => rfl
theorem cmpE_bd (a b : E3) : -1 ≤ cmpE a b ∧ cmpE a b ≤ 1 := by
  unfold cmpE
  split
  · omega
  · split <;> omega
/-- An edge of a graph with L labels and S states. -/
def okE (L S : Int) (e : E3) : Bool := decide (0 ≤ e.1 ∧ e.1 < S ∧ 0 ≤ e.2.1 ∧ e.2.1 < L ∧ 0 ≤ e.2.2 ∧ e.2.2 < S)
theorem okE_iff {L S : Int} {e : E3} : okE L S e = true ↔ (0 ≤ e.1 ∧ e.1 < S ∧ 0 ≤ e.2.1 ∧ e.2.1 < L ∧ 0 ≤ e.2.2 ∧ e.2.2 < S) := by unfold okE; exact decide_eq_true_iff
theorem okE_not {L S : Int} {e : E3} : okE L S e = false ↔ ¬ (0 ≤ e.1 ∧ e.1 < S ∧ 0 ≤ e.2.1 ∧ e.2.1 < L ∧ 0 ≤ e.2.2 ∧ e.2.2 < S) := by unfold okE; exact decide_eq_false_iff_not
/-- The error of the first edge that has one. -/
def chkF (L S : Int) : Option E3 → List E3 → Int
  | _, [] => 0
  | p, e :: r => if okE L S e = false then 2 else if (∃ q, p = some q ∧ ltE q e = false) then 10 else chkF L S (some e) r
/-- What Check returns. -/
def chkG (L S : Int) (es : List E3) : Int :=
  if L < 1 ∨ 256 < L then 12 else if S < 0 then 2 else if 64 < S ∨ 1024 < es.length then 4 else chkF L S none es
/-- The edge before the one with index i. -/
def prevE (es : List E3) (i : Nat) : Option E3 := (es.take i).getLast?
theorem prevE_zero (es : List E3) : prevE es 0 = none := rfl
theorem prevE_succ {es : List E3} {i : Nat} {e : E3} (h : es[i]? = some e) : prevE es (i + 1) = some e := by
  unfold prevE
  rw [List.take_add_one, h]; simp
theorem drop_at {α : Type} {es : List α} {i : Nat} {e : α} (h : es[i]? = some e) : es.drop i = e :: es.drop (i + 1) := by
  obtain ⟨hi, rfl⟩ := List.getElem?_eq_some_iff.1 h
  exact List.drop_eq_getElem_cons hi
theorem chkF_bad {L S : Int} {p : Option E3} {e : E3} {r : List E3} (h : okE L S e = false) : chkF L S p (e :: r) = 2 := by rw [chkF, if_pos h]
theorem chkF_order {L S : Int} {q e : E3} {r : List E3} (h : okE L S e = true) (h2 : ltE q e = false) : chkF L S (some q) (e :: r) = 10 := by
  rw [chkF, if_neg (by rw [h]; decide), if_pos ⟨q, rfl, h2⟩]
theorem chkF_step {L S : Int} {p : Option E3} {e : E3} {r : List E3} (h : okE L S e = true) (h2 : ∀ q, p = some q → ltE q e = true) : chkF L S p (e :: r) = chkF L S (some e) r := by
  rw [chkF, if_neg (by rw [h]; decide), if_neg]
  rintro ⟨q, rfl, h3⟩
  rw [h2 q rfl] at h3; cases h3
theorem chkF_zero {L S : Int} : ∀ {p : Option E3} {es : List E3}, chkF L S p es = 0 → (∀ e ∈ es, okE L S e = true) ∧ es.Pairwise (fun a b => ltE a b = true) ∧ (∀ q, p = some q → ∀ e ∈ es, ltE q e = true)
  | p, [], _ => ⟨fun e h => (by cases h), List.Pairwise.nil, fun q _ e h => (by cases h)⟩
  | p, e :: r, h => by
    cases h1 : okE L S e with
    | false => rw [chkF_bad h1] at h; cases h
    | true =>
      by_cases h2 : ∃ q, p = some q ∧ ltE q e = false
      · obtain ⟨q, rfl, h3⟩ := h2
        rw [chkF_order h1 h3] at h; cases h
      · have h3 : ∀ q, p = some q → ltE q e = true := fun q hq => by
          cases h4 : ltE q e with
          | true => rfl
          | false => exact absurd ⟨q, hq, h4⟩ h2
        rw [chkF_step h1 h3] at h
        obtain ⟨a, b, c⟩ := chkF_zero h
        refine ⟨fun x hx => ?_, List.Pairwise.cons (fun x hx => c e rfl x hx) b, fun q hq x hx => ?_⟩
        · rcases List.mem_cons.1 hx with rfl | hx
          · exact h1
          · exact a x hx
        · rcases List.mem_cons.1 hx with rfl | hx
          · exact h3 q hq
          · exact ltE_trans (h3 q hq) (c e rfl x hx)
theorem chkF_fine {L S : Int} : ∀ {p : Option E3} {es : List E3}, (∀ e ∈ es, okE L S e = true) → es.Pairwise (fun a b => ltE a b = true) → (∀ q, p = some q → ∀ e ∈ es, ltE q e = true) → chkF L S p es = 0
  | p, [], _, _, _ => rfl
  | p, e :: r, h1, h2, h3 => by
    rw [chkF_step (h1 e List.mem_cons_self) (fun q hq => h3 q hq e List.mem_cons_self)]
    obtain ⟨a, b⟩ := List.pairwise_cons.1 h2
    exact chkF_fine (fun x hx => h1 x (List.mem_cons_of_mem _ hx)) b (fun q hq x hx => by injection hq with hq; subst hq; exact a x hx)
/-- A valid graph. -/
structure VG (L S : Int) (es : List E3) : Prop where
  l1 : 1 ≤ L
  l2 : L ≤ 256
  s1 : 0 ≤ S
  s2 : S ≤ 64
  len : es.length ≤ 1024
  ok : ∀ e ∈ es, okE L S e = true
  asc : es.Pairwise (fun a b => ltE a b = true)
theorem chkG_zero {L S : Int} {es : List E3} (h : chkG L S es = 0) : VG L S es := by
  unfold chkG at h
  split at h
  · cases h
  · split at h
    · cases h
    · split at h
      · cases h
      · obtain ⟨a, b, -⟩ := chkF_zero h
        exact ⟨by omega, by omega, by omega, by omega, by omega, a, b⟩
theorem VG.chk {L S : Int} {es : List E3} (h : VG L S es) : chkG L S es = 0 := by
  unfold chkG
  rw [if_neg (by have := h.l1; have := h.l2; omega), if_neg (by have := h.s1; omega), if_neg (by have := h.s2; have := h.len; omega)]
  exact chkF_fine h.ok h.asc (fun q hq => by cases hq)
theorem chkF_bd {L S : Int} : ∀ (p : Option E3) (es : List E3), 0 ≤ chkF L S p es ∧ chkF L S p es ≤ 10
  | p, [] => by unfold chkF; omega
  | p, e :: r => by
    unfold chkF
    split
    · omega
    · split
      · omega
      · exact chkF_bd _ _
theorem chkG_bd (L S : Int) (es : List E3) : 0 ≤ chkG L S es ∧ chkG L S es ≤ 12 := by
  unfold chkG
  have := chkF_bd (L := L) (S := S) none es
  split
  · omega
  · split
    · omega
    · split <;> omega
/-- The error of the first number of a list that should be a set of states. -/
def chkS (S : Int) : Option Int → List Int → Int
  | _, [] => 0
  | p, s :: r => if s < 0 ∨ S ≤ s then 25 else if (∃ q, p = some q ∧ s ≤ q) then 10 else chkS S (some s) r
def prevI (l : List Int) (i : Nat) : Option Int := (l.take i).getLast?
theorem prevI_zero (l : List Int) : prevI l 0 = none := rfl
theorem prevI_succ {l : List Int} {i : Nat} {e : Int} (h : l[i]? = some e) : prevI l (i + 1) = some e := by
  unfold prevI
  rw [List.take_add_one, h]; simp
theorem chkS_bad {S : Int} {p : Option Int} {s : Int} {r : List Int} (h : s < 0 ∨ S ≤ s) : chkS S p (s :: r) = 25 := by rw [chkS, if_pos h]
theorem chkS_order {S q s : Int} {r : List Int} (h : ¬ (s < 0 ∨ S ≤ s)) (h2 : s ≤ q) : chkS S (some q) (s :: r) = 10 := by
  rw [chkS, if_neg h, if_pos ⟨q, rfl, h2⟩]
theorem chkS_step {S : Int} {p : Option Int} {s : Int} {r : List Int} (h : ¬ (s < 0 ∨ S ≤ s)) (h2 : ∀ q, p = some q → q < s) : chkS S p (s :: r) = chkS S (some s) r := by
  rw [chkS, if_neg h, if_neg]
  rintro ⟨q, rfl, h3⟩
  have := h2 q rfl
  omega
theorem chkS_zero {S : Int} : ∀ {p : Option Int} {l : List Int}, chkS S p l = 0 → (∀ s ∈ l, 0 ≤ s ∧ s < S) ∧ l.Pairwise (· < ·) ∧ (∀ q, p = some q → ∀ s ∈ l, q < s)
  | p, [], _ => ⟨fun e h => (by cases h), List.Pairwise.nil, fun q _ e h => (by cases h)⟩
  | p, s :: r, h => by
    by_cases h1 : s < 0 ∨ S ≤ s
    · rw [chkS_bad h1] at h; cases h
    · by_cases h2 : ∃ q, p = some q ∧ s ≤ q
      · obtain ⟨q, rfl, h3⟩ := h2
        rw [chkS_order h1 h3] at h; cases h
      · have h3 : ∀ q, p = some q → q < s := fun q hq => by
          by_cases h4 : q < s
          · exact h4
          · exact absurd ⟨q, hq, by omega⟩ h2
        rw [chkS_step h1 h3] at h
        obtain ⟨a, b, c⟩ := chkS_zero h
        refine ⟨fun x hx => ?_, List.Pairwise.cons (fun x hx => c s rfl x hx) b, fun q hq x hx => ?_⟩
        · rcases List.mem_cons.1 hx with rfl | hx
          · omega
          · exact a x hx
        · rcases List.mem_cons.1 hx with rfl | hx
          · exact h3 q hq
          · have := h3 q hq; have := c s rfl x hx; omega
theorem chkS_fine {S : Int} : ∀ {p : Option Int} {l : List Int}, (∀ s ∈ l, 0 ≤ s ∧ s < S) → l.Pairwise (· < ·) → (∀ q, p = some q → ∀ s ∈ l, q < s) → chkS S p l = 0
  | p, [], _, _, _ => rfl
  | p, s :: r, h1, h2, h3 => by
    rw [chkS_step (by have := h1 s List.mem_cons_self; omega) (fun q hq => h3 q hq s List.mem_cons_self)]
    obtain ⟨a, b⟩ := List.pairwise_cons.1 h2
    exact chkS_fine (fun x hx => h1 x (List.mem_cons_of_mem _ hx)) b (fun q hq x hx => by injection hq with hq; subst hq; exact a x hx)
/-- A set of states. -/
structure SG (S : Int) (l : List Int) : Prop where
  bd : ∀ s ∈ l, 0 ≤ s ∧ s < S
  asc : l.Pairwise (· < ·)
theorem chkS_ok {S : Int} {l : List Int} (h : chkS S none l = 0) : SG S l := by obtain ⟨a, b, -⟩ := chkS_zero h; exact ⟨a, b⟩
theorem SG.chk {S : Int} {l : List Int} (h : SG S l) : chkS S none l = 0 := chkS_fine h.bd h.asc (fun q hq => by cases hq)
end Go.Proofs.Ytfkplnmhlpabaaa
