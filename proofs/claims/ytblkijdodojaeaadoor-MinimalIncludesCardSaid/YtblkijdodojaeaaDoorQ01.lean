/- Plain facts on graphs: the order of edges, the errors of Check, members of a set. No condition. Plain facts on lists of labels in order of their length, and then of their labels; searches breadth first. No condition. Edges in memory, and what compareEdges and the reference's Compare return. No condition. -/
import Derived.Lib.Hide
import Derived.Test.YtblkijdodojaeaaDoorChecked
import Derived.Below
import Derived.WalkKit
import Derived.OwnWalk
import Derived.Deep.LoopGhost
import Derived.Deep.Cut
import Derived.Deep.OwnRows
import Derived.Deep.RegionHeld3
import Derived.Deep.RegionLaw
import Derived.Deep.AppendLies
import Derived.Deep.QuietTactic
import Derived.BigQuiet
import Derived.Lib.MinMax
import Derived.Maps.AppendAt

namespace Go.Proofs.YtblkijdodojaeaaDoor
set_option linter.unusedVariables false

/-- An edge: where it begins, its label, where it ends. -/
abbrev E3 := Int × Int × Int
def ltE (a b : E3) : Bool := decide (a.1 < b.1 ∨ (a.1 = b.1 ∧ (a.2.1 < b.2.1 ∨ (a.2.1 = b.2.1 ∧ a.2.2 < b.2.2))))
theorem ltE_iff (a b : E3) : ltE a b = true ↔ (a.1 < b.1 ∨ (a.1 = b.1 ∧ (a.2.1 < b.2.1 ∨ (a.2.1 = b.2.1 ∧ a.2.2 < b.2.2)))) := by unfold ltE; exact decide_eq_true_iff
theorem ltE_not (a b : E3) : ltE a b = false ↔ ¬ (a.1 < b.1 ∨ (a.1 = b.1 ∧ (a.2.1 < b.2.1 ∨ (a.2.1 = b.2.1 ∧ a.2.2 < b.2.2)))) := by unfold ltE; exact decide_eq_false_iff_not
theorem e3_ext {a b : E3} (h1 : a.1 = b.1) (h2 : a.2.1 = b.2.1) (h3 : a.2.2 = b.2.2) : a = b := Prod.ext h1 (Prod.ext h2 h3)
theorem ltE_irrefl (a : E3) : ltE a a = false := by rw [ltE_not]; omega
theorem ltE_trans {a b c : E3} (h : ltE a b = true) (h' : ltE b c = true) : ltE a c = true := by rw [ltE_iff] at *; omega
theorem ltE_asymm {a b : E3} (h : ltE a b = true) : ltE b a = false := by rw [ltE_not]; rw [ltE_iff] at h; omega
theorem ltE_total {a b : E3} (h : ltE a b = false) (h' : ltE b a = false) : a = b := by
  rw [ltE_not] at h h'
  exact e3_ext (by omega) (by omega) (by omega)
/-- The result of comparing two edges. -/
def cmpE (a b : E3) : Int := if ltE a b = true then -1 else if ltE b a = true then 1 else 0
theorem cmpE_lt (a b : E3) : decide (cmpE a b < 0) = ltE a b := by
  unfold cmpE
  cases h : ltE a b with
  | true => rfl
  | false =>
    cases h2 : ltE b a with
    | true => rfl
    | false => rfl
theorem cmpE_ge (a b : E3) : decide (0 ≤ cmpE a b) = !ltE a b := by
  unfold cmpE
  cases h : ltE a b with
  | true => rfl
  | false =>
    cases h2 : ltE b a with
    | true => rfl
    | false => rfl
theorem cmpE_bd (a b : E3) : -1 ≤ cmpE a b ∧ cmpE a b ≤ 1 := by
  unfold cmpE
  split
  · omega
  · split <;> omega
/-- An edge of a graph with L labels and S states. -/
def okE (L S : Int) (e : E3) : Bool := decide (0 ≤ e.1 ∧ e.1 < S ∧ 0 ≤ e.2.1 ∧ e.2.1 < L ∧ 0 ≤ e.2.2 ∧ e.2.2 < S)
theorem okE_iff {L S : Int} {e : E3} : okE L S e = true ↔ (0 ≤ e.1 ∧ e.1 < S ∧ 0 ≤ e.2.1 ∧ e.2.1 < L ∧ 0 ≤ e.2.2 ∧ e.2.2 < S) := by unfold okE; exact decide_eq_true_iff
theorem okE_not {L S : Int} {e : E3} : okE L S e = false ↔ ¬ (0 ≤ e.1 ∧ e.1 < S ∧ 0 ≤ e.2.1 ∧ e.2.1 < L ∧ 0 ≤ e.2.2 ∧ e.2.2 < S) := by unfold okE; exact decide_eq_false_iff_not
/-- The error of the first edge that has one. -/
def chkF (L S : Int) : Option E3 → List E3 → Int
  | _, [] => 0
  | p, e :: r => if okE L S e = false then 2 else if (∃ q, p = some q ∧ ltE q e = false) then 10 else chkF L S (some e) r
/-- What Check returns. -/
def chkG (L S : Int) (es : List E3) : Int :=
  if L < 1 ∨ 256 < L then 12 else if S < 0 then 2 else if 64 < S ∨ 1024 < es.length then 4 else chkF L S none es
/-- The edge before the one with index i. -/
def prevE (es : List E3) (i : Nat) : Option E3 := (es.take i).getLast?
theorem prevE_zero (es : List E3) : prevE es 0 = none := rfl
theorem prevE_succ {es : List E3} {i : Nat} {e : E3} (h : es[i]? = some e) : prevE es (i + 1) = some e := by
  unfold prevE
  rw [List.take_add_one, h]; simp
theorem drop_at {α : Type} {es : List α} {i : Nat} {e : α} (h : es[i]? = some e) : es.drop i = e :: es.drop (i + 1) := by
  obtain ⟨hi, rfl⟩ := List.getElem?_eq_some_iff.1 h
  exact List.drop_eq_getElem_cons hi
theorem chkF_bad {L S : Int} {p : Option E3} {e : E3} {r : List E3} (h : okE L S e = false) : chkF L S p (e :: r) = 2 := by rw [chkF, if_pos h]
theorem chkF_order {L S : Int} {q e : E3} {r : List E3} (h : okE L S e = true) (h2 : ltE q e = false) : chkF L S (some q) (e :: r) = 10 := by
  rw [chkF, if_neg (by rw [h]; decide), if_pos ⟨q, rfl, h2⟩]
theorem chkF_step {L S : Int} {p : Option E3} {e : E3} {r : List E3} (h : okE L S e = true) (h2 : ∀ q, p = some q → ltE q e = true) : chkF L S p (e :: r) = chkF L S (some e) r := by
  rw [chkF, if_neg (by rw [h]; decide), if_neg]
  rintro ⟨q, rfl, h3⟩
  rw [h2 q rfl] at h3; cases h3
theorem chkF_zero {L S : Int} : ∀ {p : Option E3} {es : List E3}, chkF L S p es = 0 → (∀ e ∈ es, okE L S e = true) ∧ es.Pairwise (fun a b => ltE a b = true) ∧ (∀ q, p = some q → ∀ e ∈ es, ltE q e = true)
  | p, [], _ => ⟨fun e h => (by cases h), List.Pairwise.nil, fun q _ e h => (by cases h)⟩
  | p, e :: r, h => by
    cases h1 : okE L S e with
    | false => rw [chkF_bad h1] at h; cases h
    | true =>
      by_cases h2 : ∃ q, p = some q ∧ ltE q e = false
      · obtain ⟨q, rfl, h3⟩ := h2
        rw [chkF_order h1 h3] at h; cases h
      · have h3 : ∀ q, p = some q → ltE q e = true := fun q hq => by
          cases h4 : ltE q e with
          | true => rfl
          | false => exact absurd ⟨q, hq, h4⟩ h2
        rw [chkF_step h1 h3] at h
        obtain ⟨a, b, c⟩ := chkF_zero h
        refine ⟨fun x hx => ?_, List.Pairwise.cons (fun x hx => c e rfl x hx) b, fun q hq x hx => ?_⟩
        · rcases List.mem_cons.1 hx with rfl | hx
          · exact h1
          · exact a x hx
        · rcases List.mem_cons.1 hx with rfl | hx
          · exact h3 q hq
          · exact ltE_trans (h3 q hq) (c e rfl x hx)
theorem chkF_fine {L S : Int} : ∀ {p : Option E3} {es : List E3}, (∀ e ∈ es, okE L S e = true) → es.Pairwise (fun a b => ltE a b = true) → (∀ q, p = some q → ∀ e ∈ es, ltE q e = true) → chkF L S p es = 0
  | p, [], _, _, _ => rfl
  | p, e :: r, h1, h2, h3 => by
    rw [chkF_step (h1 e List.mem_cons_self) (fun q hq => h3 q hq e List.mem_cons_self)]
    obtain ⟨a, b⟩ := List.pairwise_cons.1 h2
    exact chkF_fine (fun x hx => h1 x (List.mem_cons_of_mem _ hx)) b (fun q hq x hx => by injection hq with hq; subst hq; exact a x hx)
/-- A valid graph. -/
structure VG (L S : Int) (es : List E3) : Prop where
  l1 : 1 ≤ L
  l2 : L ≤ 256
  s1 : 0 ≤ S
  s2 : S ≤ 64
  len : es.length ≤ 1024
  ok : ∀ e ∈ es, okE L S e = true
  asc : es.Pairwise (fun a b => ltE a b = true)
theorem chkG_zero {L S : Int} {es : List E3} (h : chkG L S es = 0) : VG L S es := by
  unfold chkG at h
  split at h
  · cases h
  · split at h
    · cases h
    · split at h
      · cases h
      · obtain ⟨a, b, -⟩ := chkF_zero h
        exact ⟨by omega, by omega, by omega, by omega, by omega, a, b⟩
theorem VG.chk {L S : Int} {es : List E3} (h : VG L S es) : chkG L S es = 0 := by
  unfold chkG
  rw [if_neg (by have := h.l1; have := h.l2; omega), if_neg (by have := h.s1; omega), if_neg (by have := h.s2; have := h.len; omega)]
  exact chkF_fine h.ok h.asc (fun q hq => by cases hq)
theorem chkF_bd {L S : Int} : ∀ (p : Option E3) (es : List E3), 0 ≤ chkF L S p es ∧ chkF L S p es ≤ 10
  | p, [] => by unfold chkF; omega
  | p, e :: r => by
    unfold chkF
    split
    · omega
    · split
      · omega
      · exact chkF_bd _ _
theorem chkG_bd (L S : Int) (es : List E3) : 0 ≤ chkG L S es ∧ chkG L S es ≤ 12 := by
  unfold chkG
  have := chkF_bd (L := L) (S := S) none es
  split
  · omega
  · split
    · omega
    · split <;> omega
/-- The error of the first number of a list that should be a set of states. -/
def chkS (S : Int) : Option Int → List Int → Int
  | _, [] => 0
  | p, s :: r => if s < 0 ∨ S ≤ s then 25 else if (∃ q, p = some q ∧ s ≤ q) then 10 else chkS S (some s) r
def prevI (l : List Int) (i : Nat) : Option Int := (l.take i).getLast?
theorem prevI_zero (l : List Int) : prevI l 0 = none := rfl
theorem prevI_succ {l : List Int} {i : Nat} {e : Int} (h : l[i]? = some e) : prevI l (i + 1) = some e := by
  unfold prevI
  rw [List.take_add_one, h]; simp
theorem chkS_bad {S : Int} {p : Option Int} {s : Int} {r : List Int} (h : s < 0 ∨ S ≤ s) : chkS S p (s :: r) = 25 := by rw [chkS, if_pos h]
theorem chkS_order {S q s : Int} {r : List Int} (h : ¬ (s < 0 ∨ S ≤ s)) (h2 : s ≤ q) : chkS S (some q) (s :: r) = 10 := by
  rw [chkS, if_neg h, if_pos ⟨q, rfl, h2⟩]
theorem chkS_step {S : Int} {p : Option Int} {s : Int} {r : List Int} (h : ¬ (s < 0 ∨ S ≤ s)) (h2 : ∀ q, p = some q → q < s) : chkS S p (s :: r) = chkS S (some s) r := by
  rw [chkS, if_neg h, if_neg]
  rintro ⟨q, rfl, h3⟩
  have := h2 q rfl
  omega
theorem chkS_zero {S : Int} : ∀ {p : Option Int} {l : List Int}, chkS S p l = 0 → (∀ s ∈ l, 0 ≤ s ∧ s < S) ∧ l.Pairwise (· < ·) ∧ (∀ q, p = some q → ∀ s ∈ l, q < s)
  | p, [], _ => ⟨fun e h => (by cases h), List.Pairwise.nil, fun q _ e h => (by cases h)⟩
  | p, s :: r, h => by
    by_cases h1 : s < 0 ∨ S ≤ s
    · rw [chkS_bad h1] at h; cases h
    · by_cases h2 : ∃ q, p = some q ∧ s ≤ q
      · obtain ⟨q, rfl, h3⟩ := h2
        rw [chkS_order h1 h3] at h; cases h
      · have h3 : ∀ q, p = some q → q < s := fun q hq => by
          by_cases h4 : q < s
          · exact h4
          · exact absurd ⟨q, hq, by omega⟩ h2
        rw [chkS_step h1 h3] at h
        obtain ⟨a, b, c⟩ := chkS_zero h
        refine ⟨fun x hx => ?_, List.Pairwise.cons (fun x hx => c s rfl x hx) b, fun q hq x hx => ?_⟩
        · rcases List.mem_cons.1 hx with rfl | hx
          · omega
          · exact a x hx
        · rcases List.mem_cons.1 hx with rfl | hx
          · exact h3 q hq
          · have := h3 q hq; have := c s rfl x hx; omega
theorem chkS_fine {S : Int} : ∀ {p : Option Int} {l : List Int}, (∀ s ∈ l, 0 ≤ s ∧ s < S) → l.Pairwise (· < ·) → (∀ q, p = some q → ∀ s ∈ l, q < s) → chkS S p l = 0
  | p, [], _, _, _ => rfl
  | p, s :: r, h1, h2, h3 => by
    rw [chkS_step (by have := h1 s List.mem_cons_self; omega) (fun q hq => h3 q hq s List.mem_cons_self)]
    obtain ⟨a, b⟩ := List.pairwise_cons.1 h2
    exact chkS_fine (fun x hx => h1 x (List.mem_cons_of_mem _ hx)) b (fun q hq x hx => by injection hq with hq; subst hq; exact a x hx)
/-- A set of states. -/
structure SG (S : Int) (l : List Int) : Prop where
  bd : ∀ s ∈ l, 0 ≤ s ∧ s < S
  asc : l.Pairwise (· < ·)
theorem chkS_ok {S : Int} {l : List Int} (h : chkS S none l = 0) : SG S l := by obtain ⟨a, b, -⟩ := chkS_zero h; exact ⟨a, b⟩
theorem SG.chk {S : Int} {l : List Int} (h : SG S l) : chkS S none l = 0 := chkS_fine h.bd h.asc (fun q hq => by cases hq)
end Go.Proofs.YtblkijdodojaeaaDoor

namespace Go.Proofs.YtblkijdodojaeaaDoor

/-- How slices.Compare compares. -/
def cmpL : List Int → List Int → Int
  | [], [] => 0
  | [], _ :: _ => -1
  | _ :: _, [] => 1
  | x :: xs, y :: ys => if x < y then -1 else if y < x then 1 else cmpL xs ys
def slt (u v : List Int) : Prop := u.length < v.length ∨ (u.length = v.length ∧ cmpL u v < 0)
def sle (u v : List Int) : Prop := u.length < v.length ∨ (u.length = v.length ∧ cmpL u v ≤ 0)
instance (u v : List Int) : Decidable (slt u v) := by unfold slt; infer_instance
instance (u v : List Int) : Decidable (sle u v) := by unfold sle; infer_instance
theorem cmpL_refl : ∀ u, cmpL u u = 0
  | [] => rfl
  | x :: xs => by unfold cmpL; rw [if_neg (by omega), if_neg (by omega)]; exact cmpL_refl xs
theorem cmpL_vals : ∀ u v, cmpL u v = -1 ∨ cmpL u v = 0 ∨ cmpL u v = 1
  | [], [] => .inr (.inl rfl)
  | [], _ :: _ => .inl rfl
  | _ :: _, [] => .inr (.inr rfl)
  | x :: xs, y :: ys => by
    unfold cmpL
    split
    · exact .inl rfl
    · split
      · exact .inr (.inr rfl)
      · exact cmpL_vals xs ys
theorem cmpL_turn : ∀ u v, cmpL u v = - cmpL v u
  | [], [] => rfl
  | [], _ :: _ => rfl
  | _ :: _, [] => rfl
  | x :: xs, y :: ys => by
    unfold cmpL
    by_cases h1 : x < y
    · rw [if_pos h1, if_neg (by omega), if_pos h1]
    · by_cases h2 : y < x
      · rw [if_neg h1, if_pos h2, if_pos h2]; rfl
      · rw [if_neg h1, if_neg h2, if_neg h2, if_neg h1]; exact cmpL_turn xs ys
theorem cmpL_eq : ∀ {u v}, cmpL u v = 0 → u = v
  | [], [], _ => rfl
  | [], _ :: _, h => by cases h
  | _ :: _, [], h => by cases h
  | x :: xs, y :: ys, h => by
    unfold cmpL at h
    by_cases h1 : x < y
    · rw [if_pos h1] at h; cases h
    · by_cases h2 : y < x
      · rw [if_neg h1, if_pos h2] at h; cases h
      · rw [if_neg h1, if_neg h2] at h
        rw [cmpL_eq h, show x = y by omega]
theorem cmpL_trans : ∀ {u v w}, cmpL u v ≤ 0 → cmpL v w ≤ 0 → cmpL u w ≤ 0 ∧ ((cmpL u v < 0 ∨ cmpL v w < 0) → cmpL u w < 0)
  | [], [], [], _, _ => ⟨Int.le_refl _, fun h => by rcases h with h | h <;> exact absurd h (by decide)⟩
  | [], _, _ :: _, _, _ => ⟨by show (-1 : Int) ≤ 0; decide, fun _ => by show (-1 : Int) < 0; decide⟩
  | [], _ :: _, [], _, h => absurd h (by show ¬ (1 : Int) ≤ 0; decide)
  | _ :: _, [], _, h, _ => absurd h (by show ¬ (1 : Int) ≤ 0; decide)
  | _ :: _, _ :: _, [], _, h => absurd h (by show ¬ (1 : Int) ≤ 0; decide)
  | x :: xs, y :: ys, z :: zs, h1, h2 => by
    unfold cmpL at h1 h2 ⊢
    by_cases a1 : x < y
    · by_cases b1 : y < z
      · rw [if_pos (show x < z by omega)]; exact ⟨by decide, fun _ => by decide⟩
      · by_cases b2 : z < y
        · rw [if_neg b1, if_pos b2] at h2; exact absurd h2 (by decide)
        · rw [if_pos (show x < z by omega)]; exact ⟨by decide, fun _ => by decide⟩
    · by_cases a2 : y < x
      · rw [if_neg a1, if_pos a2] at h1; exact absurd h1 (by decide)
      · rw [if_neg a1, if_neg a2] at h1
        by_cases b1 : y < z
        · rw [if_pos (show x < z by omega)]; exact ⟨by decide, fun _ => by decide⟩
        · by_cases b2 : z < y
          · rw [if_neg b1, if_pos b2] at h2; exact absurd h2 (by decide)
          · rw [if_neg b1, if_neg b2] at h2
            have h3 := cmpL_trans h1 h2
            rw [if_neg (show ¬ x < z by omega), if_neg (show ¬ z < x by omega), if_neg a1, if_neg a2, if_neg b1, if_neg b2]
            exact h3
theorem cmpL_snoc : ∀ {u v : List Int} (x y : Int), u.length = v.length → cmpL (u ++ [x]) (v ++ [y]) = if cmpL u v = 0 then (if x < y then -1 else if y < x then 1 else 0) else cmpL u v
  | [], [], x, y, _ => by rw [show cmpL [] [] = 0 from rfl, if_pos rfl]; rfl
  | [], _ :: _, _, _, h => by cases h
  | _ :: _, [], _, _, h => by cases h
  | a :: u, b :: v, x, y, h => by
    have h2 : u.length = v.length := by simpa using h
    have ih := cmpL_snoc x y h2
    rw [List.cons_append, List.cons_append]
    unfold cmpL
    by_cases h3 : a < b
    · rw [if_pos h3, if_pos h3, if_neg (by decide)]
    · by_cases h4 : b < a
      · rw [if_neg h3, if_pos h4, if_neg h3, if_pos h4, if_neg (by decide)]
      · rw [if_neg h3, if_neg h4, if_neg h3, if_neg h4]; exact ih
theorem sle_refl (u : List Int) : sle u u := .inr ⟨rfl, by rw [cmpL_refl]; decide⟩
theorem slt_sle {u v : List Int} (h : slt u v) : sle u v := by unfold slt at h; unfold sle; omega
theorem sle_trans {u v w : List Int} (h1 : sle u v) (h2 : sle v w) : sle u w := by
  unfold sle at *
  rcases h1 with h1 | ⟨h1, h3⟩ <;> rcases h2 with h2 | ⟨h2, h4⟩
  · exact .inl (by omega)
  · exact .inl (by omega)
  · exact .inl (by omega)
  · exact .inr ⟨by omega, (cmpL_trans h3 h4).1⟩
theorem slt_of_slt_sle {u v w : List Int} (h1 : slt u v) (h2 : sle v w) : slt u w := by
  unfold sle slt at *
  rcases h1 with h1 | ⟨h1, h3⟩ <;> rcases h2 with h2 | ⟨h2, h4⟩
  · exact .inl (by omega)
  · exact .inl (by omega)
  · exact .inl (by omega)
  · exact .inr ⟨by omega, (cmpL_trans (by omega) h4).2 (.inl h3)⟩
theorem slt_of_sle_slt {u v w : List Int} (h1 : sle u v) (h2 : slt v w) : slt u w := by
  unfold sle slt at *
  rcases h1 with h1 | ⟨h1, h3⟩ <;> rcases h2 with h2 | ⟨h2, h4⟩
  · exact .inl (by omega)
  · exact .inl (by omega)
  · exact .inl (by omega)
  · exact .inr ⟨by omega, (cmpL_trans h3 (by omega)).2 (.inr h4)⟩
theorem slt_irrefl (u : List Int) : ¬ slt u u := by
  unfold slt; rw [cmpL_refl]; omega
theorem sle_antisymm {u v : List Int} (h1 : sle u v) (h2 : sle v u) : u = v := by
  unfold sle at *
  have h3 := cmpL_turn u v
  rcases h1 with h1 | ⟨h1, h4⟩ <;> rcases h2 with h2 | ⟨h2, h5⟩
  · omega
  · omega
  · omega
  · exact cmpL_eq (by omega)
theorem sle_or (u v : List Int) : sle u v ∨ slt v u := by
  unfold sle slt
  have h3 := cmpL_turn u v
  omega
theorem slt_snoc {u v : List Int} (x y : Int) (h : slt u v) : slt (u ++ [x]) (v ++ [y]) := by
  unfold slt at *
  rw [List.length_append, List.length_append]
  rcases h with h | ⟨h1, h2⟩
  · exact .inl (by simp; omega)
  · refine .inr ⟨by simp; omega, ?_⟩
    rw [cmpL_snoc x y h1, if_neg (by omega)]; exact h2
theorem slt_last {u : List Int} {x y : Int} (h : x < y) : slt (u ++ [x]) (u ++ [y]) := by
  refine .inr ⟨by simp, ?_⟩
  rw [cmpL_snoc x y rfl, cmpL_refl, if_pos rfl, if_pos h]; decide
theorem slt_more (u : List Int) (x : Int) : slt u (u ++ [x]) := .inl (by simp)
theorem sle_snoc {u v : List Int} (x : Int) (h : sle u v) : sle (u ++ [x]) (v ++ [x]) := by
  rcases sle_or v u with h2 | h2
  · rw [sle_antisymm h h2]; exact sle_refl _
  · exact slt_sle (slt_snoc x x h2)
/-- A search breadth first: what is found (with the word that leads to it), in order; the labels below c of number i are done, and all of the numbers before. -/
structure Bfs {α : Type} (step : α → Nat → Option α) (La : Nat) (i c : Nat) (Q : List (List Int × α)) : Prop where
  asc : Q.Pairwise fun a b => slt a.1 b.1
  top : ∀ q ∈ Q, ∀ p, Q[i]? = some p → slt q.1 (p.1 ++ [(c : Int)])
  clo : ∀ j l p b, (j < i ∧ l < La ∨ j = i ∧ l < c) → Q[j]? = some p → step p.2 l = some b → ∃ q ∈ Q, q.2 = b ∧ sle q.1 (p.1 ++ [(l : Int)])
theorem Bfs.start {α : Type} (step : α → Nat → Option α) (La : Nat) (a : α) : Bfs step La 0 0 [([], a)] := by
  refine ⟨List.pairwise_singleton _ _, fun q hq p hp => ?_, fun j l p b h _ _ => by omega⟩
  rw [List.mem_singleton] at hq
  subst hq
  exact .inl (by simp)
theorem Bfs.skip {α : Type} {step : α → Nat → Option α} {La i c : Nat} {Q : List (List Int × α)} (h : Bfs step La i c Q) {p : List Int × α} (hp : Q[i]? = some p)
    (h2 : ∀ b, step p.2 c = some b → ∃ q ∈ Q, q.2 = b) : Bfs step La i (c + 1) Q := by
  refine ⟨h.asc, fun q hq p' hp' => ?_, fun j l p' b hjl hp' hb => ?_⟩
  · exact slt_of_slt_sle (h.top q hq p' hp') (slt_sle (slt_last (by omega)))
  · by_cases h3 : j = i ∧ l = c
    · obtain ⟨rfl, rfl⟩ := h3
      rw [hp] at hp'
      injection hp' with hp'
      subst hp'
      obtain ⟨q, hq, e⟩ := h2 b hb
      exact ⟨q, hq, e, slt_sle (h.top q hq p hp)⟩
    · exact h.clo j l p' b (by omega) hp' hb
theorem Bfs.add {α : Type} {step : α → Nat → Option α} {La i c : Nat} {Q : List (List Int × α)} (h : Bfs step La i c Q) {p : List Int × α} (hp : Q[i]? = some p)
    {b : α} (h2 : step p.2 c = some b) : Bfs step La i (c + 1) (Q ++ [(p.1 ++ [(c : Int)], b)]) := by
  have hi : i < Q.length := (List.getElem?_eq_some_iff.1 hp).1
  have hold : ∀ {j : Nat}, j ≤ i → (Q ++ [(p.1 ++ [(c : Int)], b)])[j]? = Q[j]? := fun hj => List.getElem?_append_left (by omega)
  refine ⟨?_, fun q hq p' hp' => ?_, fun j l p' b' hjl hp' hb => ?_⟩
  · rw [List.pairwise_append]
    refine ⟨h.asc, List.pairwise_singleton _ _, fun x hx y hy => ?_⟩
    rw [List.mem_singleton] at hy
    subst hy
    exact h.top x hx p hp
  · rw [hold (Nat.le_refl _)] at hp'
    rw [hp] at hp'
    injection hp' with hp'
    subst hp'
    rw [List.mem_append, List.mem_singleton] at hq
    rcases hq with hq | rfl
    · exact slt_of_slt_sle (h.top q hq p hp) (slt_sle (slt_last (by omega)))
    · exact slt_last (by omega)
  · have hj : j ≤ i := by omega
    rw [hold hj] at hp'
    by_cases h3 : j = i ∧ l = c
    · obtain ⟨rfl, rfl⟩ := h3
      rw [hp] at hp'
      injection hp' with hp'
      subst hp'
      rw [h2] at hb
      injection hb with hb
      subst hb
      exact ⟨_, List.mem_append_right _ (List.mem_singleton.2 rfl), rfl, sle_refl _⟩
    · obtain ⟨q, hq, e1, e2⟩ := h.clo j l p' b' (by omega) hp' hb
      exact ⟨q, List.mem_append_left _ hq, e1, e2⟩
theorem Bfs.next {α : Type} {step : α → Nat → Option α} {La i : Nat} {Q : List (List Int × α)} (h : Bfs step La i La Q) : Bfs step La (i + 1) 0 Q := by
  refine ⟨h.asc, fun q hq p hp => ?_, fun j l p b hjl hp hb => h.clo j l p b (by omega) hp hb⟩
  have hi : i + 1 < Q.length := (List.getElem?_eq_some_iff.1 hp).1
  obtain ⟨o, ho⟩ : ∃ o, Q[i]? = some o := ⟨_, List.getElem?_eq_getElem (by omega)⟩
  have h1 := h.top q hq o ho
  have h2 : slt o.1 p.1 := by
    have h3 := List.pairwise_iff_getElem.1 h.asc i (i + 1) (by omega) hi (by omega)
    rw [List.getElem?_eq_getElem (by omega)] at ho hp
    injection ho with ho
    injection hp with hp
    rw [ho, hp] at h3
    exact h3
  exact slt_of_slt_sle h1 (slt_sle (slt_snoc _ _ h2))
/-- Where a list of labels leads. -/
def runS {α : Type} (step : α → Nat → Option α) : α → List Nat → Option α
  | a, [] => some a
  | a, l :: w => (step a l).bind fun b => runS step b w
def labsI (w : List Nat) : List Int := w.map fun (x : Nat) => (x : Int)
theorem runS_snoc {α : Type} (step : α → Nat → Option α) : ∀ (a : α) (w : List Nat) (l : Nat), runS step a (w ++ [l]) = (runS step a w).bind fun b => step b l
  | a, [], l => by
    show (step a l).bind (fun b => runS step b []) = step a l
    cases step a l <;> rfl
  | a, x :: w, l => by
    rw [List.cons_append]
    unfold runS
    cases h : step a x with
    | none => rfl
    | some b => exact runS_snoc step b w l
theorem snocI {α : Type} {P : List α → Prop} (h0 : P []) (h1 : ∀ w l, P w → P (w ++ [l])) (w : List α) : P w := by
  have h : ∀ n (w : List α), w.length = n → P w := fun n => by
    induction n with
    | zero => intro w hw; rw [List.length_eq_zero_iff] at hw; subst hw; exact h0
    | succ n ih =>
      intro w hw
      have hne : w ≠ [] := fun e => by subst e; cases hw
      rw [← List.dropLast_concat_getLast hne]
      exact h1 _ _ (ih _ (by rw [List.length_dropLast]; omega))
  exact h _ w rfl
/-- What a list of labels leads to is found, by one that is not greater; or the labels of the number i are not greater. -/
theorem Bfs.least {α : Type} {step : α → Nat → Option α} {La i : Nat} {Q : List (List Int × α)} {a : α} (h : Bfs step La i 0 Q) (h0 : ∃ q ∈ Q, q.2 = a ∧ q.1 = []) (w : List Nat) :
    (∀ l ∈ w, l < La) → ∀ b, runS step a w = some b → (∃ j q, j < i ∧ Q[j]? = some q ∧ q.2 = b ∧ sle q.1 (labsI w)) ∨ (∃ j q, i ≤ j ∧ Q[j]? = some q ∧ sle q.1 (labsI w)) := by
  refine snocI (P := fun w => (∀ l ∈ w, l < La) → ∀ b, runS step a w = some b → (∃ j q, j < i ∧ Q[j]? = some q ∧ q.2 = b ∧ sle q.1 (labsI w)) ∨ (∃ j q, i ≤ j ∧ Q[j]? = some q ∧ sle q.1 (labsI w))) ?_ ?_ w
  · intro _ b hb
    injection hb with hb
    subst hb
    obtain ⟨q, hq, e1, e2⟩ := h0
    obtain ⟨j, hj⟩ := List.mem_iff_getElem?.1 hq
    by_cases hji : j < i
    · exact .inl ⟨j, q, hji, hj, e1, by rw [e2]; exact sle_refl _⟩
    · exact .inr ⟨j, q, by omega, hj, by rw [e2]; exact sle_refl _⟩
  · intro w l ih hw b hb
    rw [runS_snoc] at hb
    have hlab : labsI (w ++ [l]) = labsI w ++ [(l : Int)] := by unfold labsI; rw [List.map_append]; rfl
    rw [hlab]
    cases hr : runS step a w with
    | none => rw [hr] at hb; cases hb
    | some m =>
      rw [hr] at hb
      rcases ih (fun x hx => hw x (List.mem_append_left _ hx)) m hr with ⟨j, q, hj, hq, rfl, hle⟩ | ⟨j, q, hj, hq, hle⟩
      · obtain ⟨q2, hq2, e, hle2⟩ := h.clo j l q b (.inl ⟨hj, hw l (by simp)⟩) hq hb
        have hle3 := sle_trans hle2 (sle_snoc (l : Int) hle)
        obtain ⟨k, hk⟩ := List.mem_iff_getElem?.1 hq2
        by_cases hki : k < i
        · exact .inl ⟨k, q2, hki, hk, e, hle3⟩
        · exact .inr ⟨k, q2, by omega, hk, hle3⟩
      · exact .inr ⟨j, q, hj, hq, sle_trans hle (slt_sle (slt_more _ _))⟩
/-- From the number i on, labels are not less than those of i. -/
theorem Bfs.from {α : Type} {step : α → Nat → Option α} {La i c : Nat} {Q : List (List Int × α)} (h : Bfs step La i c Q) {j : Nat} {p q : List Int × α} (hp : Q[i]? = some p) (hj : i ≤ j) (hq : Q[j]? = some q) : sle p.1 q.1 := by
  by_cases e : i = j
  · subst e
    rw [hp] at hq
    injection hq with hq
    subst hq
    exact sle_refl _
  · have hjl := (List.getElem?_eq_some_iff.1 hq).1
    have h3 := List.pairwise_iff_getElem.1 h.asc i j (by omega) hjl (by omega)
    rw [List.getElem?_eq_getElem (by omega)] at hp hq
    injection hp with hp
    injection hq with hq
    rw [hp, hq] at h3
    exact slt_sle h3
end Go.Proofs.YtblkijdodojaeaaDoor

namespace Go.Proofs.YtblkijdodojaeaaDoor
open Go.RowKit
set_option linter.unusedSimpArgs false
set_option linter.unusedVariables false

theorem cell_keep {Wp W1 : World} {p : Addr} {v : Value} (h : Wp.cell? p = some v) (hb : Below Wp.heap.size Wp W1) : W1.cell? p = some v := (hb.cell (World.block_lt_of_cell? _ _ h)).trans h
theorem frozen_keep {Wp W1 : World} {p : Addr} {v : Value} {b : Bool} (h : Wp.cell? p = some v) (hf : Wp.frozen? p = b) (hb : Below Wp.heap.size Wp W1) : W1.frozen? p = b := (hb.frozen (World.block_lt_of_cell? _ _ h)).trans hf
theorem below1 (w : World) (o1 : Obj) : Below w.heap.size w (w.alloc o1) := (Below.refl _ w).alloc (Nat.le_refl _) _
/-- A call more. -/
theorem below_more {B : Nat} {w w1 w2 : World} (h : Below B w w1) (hB : B ≤ w.heap.size) (k : Below w1.heap.size w1 w2) : Below B w w2 := h.trans (k.mono (by have := h.size; omega))
theorem grown_none {w w' : World} (h : Below w.heap.size w w') : w.grownBy w' none := ⟨h.os, h.tape, h.output, h.size, fun k hk _ => h.block k hk⟩
theorem below_drewM {B : Nat} {w W : World} (h : Below B w W) (q : Nat) : Below B w (W.drewN q) := ⟨h.os, h.tape, h.output, h.size, h.block⟩
theorem own_slice {W : World} {B t k n : Nat} {v : Value} {xs : List Value} (h : W.ownsRow B t k v n xs) : ∃ a c, v = .slice a n c := by
  rcases h.2 with ⟨h1, h2⟩ | ⟨g, cap, cur, h1, _⟩
  · exact ⟨none, 0, by rw [h1, h2]⟩
  · exact ⟨_, _, h1⟩
theorem own_low {W : World} {A B t k n : Nat} {v : Value} {xs : List Value} (h : W.ownsRow B t k v n xs) (hA : A ≤ B) : W.ownsRow A t k v n xs := by
  refine ⟨h.1, ?_⟩
  rcases h.2 with h1 | ⟨g, cap, cur, h1, h2, h3⟩
  · exact .inl h1
  · exact .inr ⟨g, cap, cur, h1, Nat.le_trans hA h2, h3⟩
/-! ### Integers -/
def intz (l : List Int) : List Value := l.map (Value.int .i64)
theorem intz_len (l : List Int) : (intz l).length = l.length := List.length_map _
theorem intz_snoc (l : List Int) (z : Int) : intz (l ++ [z]) = intz l ++ [.int .i64 z] := by unfold intz; rw [List.map_append]; rfl
def IntsAt (W : World) (B : Nat) (v : Value) (l : List Int) : Prop := W.ownsRow B 3 1 v l.length (intz l)
/-- Integers that can be read. -/
def IntsRd (W : World) (v : Value) (l : List Int) : Prop := ∃ a c, v = .slice a l.length c ∧ ∀ (i : Nat) (x : Int), l[i]? = some x → ∃ b off, a = some ⟨b, off, none⟩ ∧ W.cell? ⟨b, off + i, none⟩ = some (.int .i64 x)
section
variable {W W' : World} {B : Nat} {v : Value} {l : List Int}
theorem IntsAt.keep (h : IntsAt W B v l) (hb : Below W.heap.size W W') : IntsAt W' B v l := World.ownsRow.kept h (grown_none hb) (by cases v.ownBlock <;> simp)
theorem IntsAt.slice (h : IntsAt W B v l) : ∃ a c, v = .slice a l.length c := own_slice h
theorem IntsAt.row (h : IntsAt W B v l) (h0 : 0 < l.length) : ∃ g c, v = .slice (some ⟨g, 0, none⟩) l.length c := by
  obtain ⟨g, c, hv, _⟩ := World.ownsRow.form h h0
  exact ⟨g, c, hv⟩
theorem IntsAt.cell {g c i : Nat} {x : Int} (h : IntsAt W B (.slice (some ⟨g, 0, none⟩) l.length c) l) (hx : l[i]? = some x) : W.cell? ⟨g, i, none⟩ = some (.int .i64 x) := by
  have hi : i < l.length := (List.getElem?_eq_some_iff.1 hx).1
  rw [World.ownsRow.cellAt h i (by omega)]
  unfold intz
  rw [List.getElem?_map, hx]; rfl
theorem IntsAt.rd (h : IntsAt W B v l) : IntsRd W v l := by
  obtain ⟨a, c, rfl⟩ := h.slice
  refine ⟨a, c, rfl, fun i x hx => ?_⟩
  have hi : i < l.length := (List.getElem?_eq_some_iff.1 hx).1
  obtain ⟨g, c2, hv⟩ := h.row (by omega)
  injection hv with e1 e2 e3
  subst e1
  exact ⟨g, 0, rfl, by rw [Nat.zero_add]; exact IntsAt.cell h hx⟩
theorem IntsRd.keep (h : IntsRd W v l) (hb : Below W.heap.size W W') : IntsRd W' v l := by
  obtain ⟨a, c, rfl, h1⟩ := h
  refine ⟨a, c, rfl, fun i x hx => ?_⟩
  obtain ⟨b, off, rfl, k⟩ := h1 i x hx
  exact ⟨b, off, rfl, cell_keep k hb⟩
end
theorem ints_nil (W : World) (B : Nat) : IntsAt W B (.slice none 0 0) [] := World.ownsRow_nil _ _ _ _
theorem Tryd.infoI64 : (Tryd.prog.info? 3).map (fun i => (i.zero, i.size, i.bytes)) = some (some (.int .i64 0), 1, 8) := by kernel_rfl
/-! ### Edges -/
def encE (e : E3) : List Value := [.int .i64 e.1, .int .i64 e.2.1, .int .i64 e.2.2]
abbrev edgV (e : E3) : Value := .agg #[.int .i64 e.1, .int .i64 e.2.1, .int .i64 e.2.2]
def ecl (es : List E3) : List Value := es.flatMap encE
theorem ecl_snoc (es : List E3) (e : E3) : ecl (es ++ [e]) = ecl es ++ [.int .i64 e.1, .int .i64 e.2.1, .int .i64 e.2.2] := by unfold ecl; rw [List.flatMap_append]; rfl
theorem ecl_len (es : List E3) : (ecl es).length = es.length * 3 := by
  induction es with
  | nil => rfl
  | cons p rs ih => show (_ :: _ :: _ :: ecl rs).length = _; rw [List.length_cons, List.length_cons, List.length_cons, ih, List.length_cons]; omega
theorem ecl_at {es : List E3} : ∀ {i : Nat} {e : E3}, es[i]? = some e → (ecl es)[i * 3]? = some (.int .i64 e.1) ∧ (ecl es)[i * 3 + 1]? = some (.int .i64 e.2.1) ∧ (ecl es)[i * 3 + 2]? = some (.int .i64 e.2.2) := by
  induction es with
  | nil => intro i p h; cases h
  | cons q rs ih =>
    intro i p h
    cases i with
    | zero => simp at h; subst h; exact ⟨rfl, rfl, rfl⟩
    | succ i =>
      have := ih (i := i) (by simpa using h)
      rw [show (i + 1) * 3 = i * 3 + 1 + 1 + 1 by omega]
      exact this
def EdgesAt (W : World) (B : Nat) (v : Value) (es : List E3) : Prop := W.ownsRow B 63 3 v es.length (ecl es)
/-- Edges that can be read. -/
def EdgesRd (W : World) (v : Value) (es : List E3) : Prop := ∃ a c, v = .slice a es.length c ∧ ∀ (i : Nat) (e : E3), es[i]? = some e → ∃ b off, a = some ⟨b, off, none⟩ ∧
  W.cell? ⟨b, off + i * 3, none⟩ = some (.int .i64 e.1) ∧ W.cell? ⟨b, off + i * 3 + 1, none⟩ = some (.int .i64 e.2.1) ∧ W.cell? ⟨b, off + i * 3 + 2, none⟩ = some (.int .i64 e.2.2)
section
variable {W W' : World} {B : Nat} {v : Value} {es : List E3}
theorem EdgesAt.keep (h : EdgesAt W B v es) (hb : Below W.heap.size W W') : EdgesAt W' B v es := World.ownsRow.kept h (grown_none hb) (by cases v.ownBlock <;> simp)
theorem EdgesAt.slice (h : EdgesAt W B v es) : ∃ a c, v = .slice a es.length c := own_slice h
theorem EdgesAt.row (h : EdgesAt W B v es) (h0 : 0 < es.length) : ∃ g c, v = .slice (some ⟨g, 0, none⟩) es.length c := by
  obtain ⟨g, c, hv, _⟩ := World.ownsRow.form h h0
  exact ⟨g, c, hv⟩
theorem EdgesAt.cell {g c i : Nat} {e : E3} (h : EdgesAt W B (.slice (some ⟨g, 0, none⟩) es.length c) es) (hx : es[i]? = some e) :
    W.cell? ⟨g, i * 3, none⟩ = some (.int .i64 e.1) ∧ W.cell? ⟨g, i * 3 + 1, none⟩ = some (.int .i64 e.2.1) ∧ W.cell? ⟨g, i * 3 + 2, none⟩ = some (.int .i64 e.2.2) := by
  have hi : i < es.length := (List.getElem?_eq_some_iff.1 hx).1
  obtain ⟨k1, k2, k3⟩ := ecl_at hx
  exact ⟨(World.ownsRow.cellAt h (i * 3) (by omega)).trans k1, (World.ownsRow.cellAt h (i * 3 + 1) (by omega)).trans k2, (World.ownsRow.cellAt h (i * 3 + 2) (by omega)).trans k3⟩
theorem EdgesAt.rd (h : EdgesAt W B v es) : EdgesRd W v es := by
  obtain ⟨a, c, rfl⟩ := h.slice
  refine ⟨a, c, rfl, fun i e hx => ?_⟩
  have hi : i < es.length := (List.getElem?_eq_some_iff.1 hx).1
  obtain ⟨g, c2, hv⟩ := h.row (by omega)
  injection hv with e1 e2 e3
  subst e1
  exact ⟨g, 0, rfl, by rw [Nat.zero_add]; exact EdgesAt.cell h hx⟩
theorem EdgesRd.keep (h : EdgesRd W v es) (hb : Below W.heap.size W W') : EdgesRd W' v es := by
  obtain ⟨a, c, rfl, h1⟩ := h
  refine ⟨a, c, rfl, fun i x hx => ?_⟩
  obtain ⟨b, off, rfl, k1, k2, k3⟩ := h1 i x hx
  exact ⟨b, off, rfl, cell_keep k1 hb, cell_keep k2 hb, cell_keep k3 hb⟩
end
theorem edges_nil (W : World) (B : Nat) : EdgesAt W B (.slice none 0 0) [] := World.ownsRow_nil _ _ _ _
theorem Tryd.infoEdge : (Tryd.prog.info? 63).map (fun i => (i.zero, i.size, i.bytes)) = some (some (.agg #[.int .i64 0, .int .i64 0, .int .i64 0]), 3, 24) := by kernel_rfl
theorem cell_three_new (w : World) (x y z : Value) (t : TypeId) : ∀ j u, [x, y, z][j]? = some u → (w.alloc (.cells #[x, y, z] t)).cell? ((⟨w.heap.size, 0, none⟩ : Addr).add j) = some u := by
  intro j u hj
  match j, hj with
  | 0, hj => simp at hj; subst hj; simp [Addr.add]
  | 1, hj => simp at hj; subst hj; simp [Addr.add]
  | 2, hj => simp at hj; subst hj; simp [Addr.add]
/-! ### Comparing -/
def cmpI (x y : Int) : Int := if x < y then -1 else if y < x then 1 else 0
set_option maxRecDepth 100000 in
set_option maxHeartbeats 1600000 in
theorem cmpInt_any (x y : Int) (w : World) : Calls Tryd.prog 70 #[.int .i64 x, .int .i64 y] w fun e w' => e = .returned (.int .i64 (cmpI x y)) ∧ w' = w := by
  have ex : (x == x) = true := by simp
  have ey : (y == y) = true := by simp
  have ex2 : (x != x) = false := by simp
  have ey2 : (y != y) = false := by simp
  rcases (show x < y ∨ x = y ∨ y < x by omega) with h | h | h
  · have d1 : decide (x < y) = true := decide_eq_true h
    have d2 : decide (y < x) = false := decide_eq_false (by omega)
    have d3 : (x == y) = false := by rw [beq_eq_false_iff_ne]; omega
    have HE := Lib.hid (show cmpI x y = -1 by unfold cmpI; rw [if_pos h])
    go_enter Tryd.func70, Tryd.ntmps70
    go_wp2
    go_ret
    exact ⟨by rw [HE.out]; rfl, rfl⟩
  · subst h
    have d1 : decide (x < x) = false := decide_eq_false (by omega)
    have HE := Lib.hid (show cmpI x x = 0 by unfold cmpI; rw [if_neg (by omega), if_neg (by omega)])
    go_enter Tryd.func70, Tryd.ntmps70
    go_wp2
    go_ret
    exact ⟨by rw [HE.out]; rfl, rfl⟩
  · have d1 : decide (x < y) = false := decide_eq_false (by omega)
    have d2 : decide (y < x) = true := decide_eq_true h
    have d3 : (x == y) = false := by rw [beq_eq_false_iff_ne]; omega
    have HE := Lib.hid (show cmpI x y = 1 by unfold cmpI; rw [if_neg (by omega), if_pos h])
    go_enter Tryd.func70, Tryd.ntmps70
    go_wp2
    go_ret
    exact ⟨by rw [HE.out]; rfl, rfl⟩
end Go.Proofs.YtblkijdodojaeaaDoor
