/- Polynomials as lists of coefficients: sums, products, what has no zeros at the end. Plain facts; no condition. -/
import Derived.Test.YtgcogpfmhmmgdaaGreatDoorProg

namespace Go.Proofs.YtgcogpfmhmmgdaaGreatDoor

/-- The coefficient of x^i. -/
def co (L : List Int) (i : Nat) : Int := L.getD i 0
theorem co_nil (i : Nat) : co [] i = 0 := by simp [co]
theorem co_cons0 (x : Int) (L : List Int) : co (x :: L) 0 = x := rfl
theorem co_consS (x : Int) (L : List Int) (i : Nat) : co (x :: L) (i + 1) = co L i := by simp [co]
theorem co_ge {L : List Int} {i : Nat} (h : L.length ≤ i) : co L i = 0 := by simp [co, h]
theorem co_get {L : List Int} {i : Nat} (h : i < L.length) : L[i]? = some (co L i) := by simp [co, h]
/-- Without zeros at the end. -/
def trm : List Int → List Int
  | [] => []
  | x :: L => if x = 0 ∧ trm L = [] then [] else x :: trm L
theorem co_trm (L : List Int) : ∀ i, co (trm L) i = co L i := by
  induction L with
  | nil => intro i; rfl
  | cons x L ih =>
    intro i
    unfold trm
    split
    · rename_i h
      rw [co_nil]
      cases i with
      | zero => rw [co_cons0]; exact h.1.symm
      | succ i => rw [co_consS, ← ih i, h.2, co_nil]
    · cases i with
      | zero => rfl
      | succ i => rw [co_consS, co_consS, ih]
theorem trm_nil_iff (L : List Int) : trm L = [] ↔ ∀ i, co L i = 0 := by
  constructor
  · intro h i
    rw [← co_trm, h, co_nil]
  · intro h
    induction L with
    | nil => rfl
    | cons x L ih =>
      unfold trm
      rw [if_pos ⟨h 0, ih fun i => by rw [← co_consS x L i]; exact h (i + 1)⟩]
theorem trm_eq {L M : List Int} (h : ∀ i, co L i = co M i) : trm L = trm M := by
  induction L generalizing M with
  | nil => exact ((trm_nil_iff M).2 fun i => by rw [← h i, co_nil]).symm
  | cons x L ih =>
    cases M with
    | nil => exact (trm_nil_iff (x :: L)).2 fun i => by rw [h i, co_nil]
    | cons y M =>
      have h0 : x = y := h 0
      have h1 := ih (M := M) fun i => by rw [← co_consS x L i, h (i + 1), co_consS]
      unfold trm
      rw [h0, h1]
theorem trm_trm (L : List Int) : trm (trm L) = trm L := trm_eq fun i => co_trm L i
theorem trm_len (L : List Int) : (trm L).length ≤ L.length := by
  induction L with
  | nil => exact Nat.le_refl _
  | cons x L ih =>
    unfold trm
    split
    · simp
    · simp; exact ih
/-- The last coefficient of what has no zeros at the end is none. -/
theorem trm_last (L : List Int) {n : Nat} (h : (trm L).length = n + 1) : co L n ≠ 0 := by
  induction L generalizing n with
  | nil => simp [trm] at h
  | cons x L ih =>
    unfold trm at h
    split at h
    · simp at h
    · rename_i hn
      simp only [List.length_cons] at h
      cases n with
      | zero =>
        rw [co_cons0]
        intro hx
        exact hn ⟨hx, List.eq_nil_of_length_eq_zero (by omega)⟩
      | succ n =>
        rw [co_consS]
        exact ih (by omega)
theorem trm_above (L : List Int) {i : Nat} (h : (trm L).length ≤ i) : co L i = 0 := by rw [← co_trm, co_ge h]
/-- Where the zeros at the end begin. -/
theorem trm_len_of {L : List Int} {n : Nat} (h0 : ∀ i, n ≤ i → co L i = 0) (h1 : n = 0 ∨ co L (n - 1) ≠ 0) : (trm L).length = n := by
  rcases Nat.lt_trichotomy (trm L).length n with h | h | h
  · rcases h1 with rfl | h1
    · omega
    · exact absurd (trm_above L (show _ ≤ n - 1 by omega)) h1
  · exact h
  · obtain ⟨m, hm⟩ : ∃ m, (trm L).length = m + 1 := ⟨(trm L).length - 1, by omega⟩
    exact absurd (h0 m (by omega)) (trm_last L hm)
theorem trm_take {L : List Int} : trm L = L.take (trm L).length := by
  induction L with
  | nil => rfl
  | cons x L ih =>
    unfold trm
    split
    · simp
    · rename_i h
      simp only [List.length_cons, List.take_succ_cons]
      rw [← ih]
/-- The product's coefficients, by the first factor's list. -/
def mulL : List Int → (Nat → Int) → Nat → Int
  | [], _ => fun _ => 0
  | x :: a, g => fun k => x * g k + (match k with | 0 => 0 | k + 1 => mulL a g k)
theorem mulL_0 (x : Int) (a : List Int) (g : Nat → Int) : mulL (x :: a) g 0 = x * g 0 := by simp [mulL]
theorem mulL_S (x : Int) (a : List Int) (g : Nat → Int) (k : Nat) : mulL (x :: a) g (k + 1) = x * g (k + 1) + mulL a g k := rfl
theorem mulL_add (a : List Int) (g h : Nat → Int) : ∀ k, mulL a (fun i => g i + h i) k = mulL a g k + mulL a h k := by
  induction a with
  | nil => intro k; rfl
  | cons x a ih =>
    intro k
    cases k with
    | zero => simp only [mulL_0]; exact Int.mul_add _ _ _
    | succ k => simp only [mulL_S]; rw [ih]; grind
theorem mulL_scale (a : List Int) (c : Int) (g : Nat → Int) : ∀ k, mulL a (fun i => c * g i) k = c * mulL a g k := by
  induction a with
  | nil => intro k; simp [mulL]
  | cons x a ih =>
    intro k
    cases k with
    | zero => simp only [mulL_0]; grind
    | succ k => simp only [mulL_S]; rw [ih]; grind
/-- One place higher. -/
def up (g : Nat → Int) : Nat → Int
  | 0 => 0
  | k + 1 => g k
theorem mulL_up (a : List Int) (g : Nat → Int) : ∀ k, mulL a (up g) k = up (mulL a g) k := by
  induction a with
  | nil => intro k; cases k <;> rfl
  | cons x a ih =>
    intro k
    cases k with
    | zero => rw [mulL_0]; simp [up]
    | succ k =>
      rw [mulL_S, ih]
      cases k with
      | zero => show x * g 0 + 0 = _; simp [up, mulL_0]
      | succ k => show x * g (k + 1) + mulL a g k = _; rfl
theorem mulL_congr (a : List Int) {g h : Nat → Int} (e : ∀ i, g i = h i) : ∀ k, mulL a g k = mulL a h k := fun k => by rw [funext e]
def one : Nat → Int
  | 0 => 1
  | _ + 1 => 0
theorem mulL_one (a : List Int) : ∀ k, mulL a one k = co a k := by
  induction a with
  | nil => intro k; rfl
  | cons x a ih =>
    intro k
    cases k with
    | zero => rw [mulL_0]; simp [one, co_cons0]
    | succ k => rw [mulL_S, ih]; simp [one, co_consS]
theorem co_split (x : Int) (a : List Int) : ∀ i, co (x :: a) i = x * one i + up (co a) i := by
  intro i
  cases i with
  | zero => simp [one, up, co_cons0]
  | succ i => simp [one, up, co_consS]
theorem mulL_comm (a b : List Int) : ∀ k, mulL a (co b) k = mulL b (co a) k := by
  induction a with
  | nil =>
    intro k
    rw [mulL_congr b (h := fun i => 0 * co b i) (fun i => by rw [co_nil]; simp), mulL_scale]
    simp [mulL]
  | cons x a ih =>
    intro k
    rw [mulL_congr b (co_split x a), mulL_add, mulL_scale, mulL_one, mulL_up]
    cases k with
    | zero => rw [mulL_0]; simp [up]
    | succ k => rw [mulL_S, ih]; rfl
theorem mulL_zero (a : List Int) (g : Nat → Int) (h : ∀ i, co a i = 0) : ∀ k, mulL a g k = 0 := by
  induction a with
  | nil => intro k; rfl
  | cons x a ih =>
    intro k
    have hx : x = 0 := h 0
    have ih' := ih fun i => by rw [← co_consS x a i]; exact h (i + 1)
    cases k with
    | zero => rw [mulL_0, hx]; simp
    | succ k => rw [mulL_S, hx, ih']; simp
theorem mulL_congr1 {a b : List Int} (g : Nat → Int) (h : ∀ i, co a i = co b i) : ∀ k, mulL a g k = mulL b g k := by
  induction a generalizing b with
  | nil => intro k; rw [mulL_zero b g fun i => by rw [← h i, co_nil]]; rfl
  | cons x a ih =>
    intro k
    cases b with
    | nil => rw [mulL_zero (x :: a) g fun i => by rw [h i, co_nil]]; rfl
    | cons y b =>
      have hx : x = y := h 0
      have ih' := ih (b := b) fun i => by rw [← co_consS x a i, h (i + 1), co_consS]
      cases k with
      | zero => rw [mulL_0, mulL_0, hx]
      | succ k => rw [mulL_S, mulL_S, hx, ih']
/-- Sums and products as lists. -/
def addL : List Int → List Int → List Int
  | [], b => b
  | a, [] => a
  | x :: a, y :: b => (x + y) :: addL a b
theorem co_addL (a b : List Int) : ∀ i, co (addL a b) i = co a i + co b i := by
  induction a generalizing b with
  | nil => intro i; unfold addL; rw [co_nil]; simp
  | cons x a ih =>
    intro i
    cases b with
    | nil => unfold addL; rw [co_nil]; simp
    | cons y b =>
      unfold addL
      cases i with
      | zero => rfl
      | succ i => rw [co_consS, co_consS, co_consS, ih]
def prodL : List Int → List Int → List Int
  | [], _ => []
  | x :: a, b => addL (b.map (x * ·)) (0 :: prodL a b)
theorem co_map (x : Int) (b : List Int) (i : Nat) : co (b.map (x * ·)) i = x * co b i := by
  unfold co
  rw [List.getD_eq_getElem?_getD, List.getD_eq_getElem?_getD, List.getElem?_map]
  rcases b[i]? with _ | y
  · simp
  · rfl
theorem co_prodL (a b : List Int) : ∀ i, co (prodL a b) i = mulL a (co b) i := by
  induction a with
  | nil => intro i; rfl
  | cons x a ih =>
    intro i
    unfold prodL
    rw [co_addL, co_map]
    cases i with
    | zero => rw [mulL_0]; simp [co]
    | succ i => rw [mulL_S, co_consS, ih]
theorem mulL_addL (a b : List Int) (g : Nat → Int) : ∀ k, mulL (addL a b) g k = mulL a g k + mulL b g k := by
  induction a generalizing b with
  | nil => intro k; unfold addL; simp [mulL]
  | cons x a ih =>
    intro k
    cases b with
    | nil => unfold addL; simp [mulL]
    | cons y b =>
      unfold addL
      cases k with
      | zero => simp only [mulL_0]; grind
      | succ k => simp only [mulL_S]; rw [ih]; grind
theorem mulL_map (x : Int) (b : List Int) (g : Nat → Int) : ∀ k, mulL (b.map (x * ·)) g k = x * mulL b g k := by
  induction b with
  | nil => intro k; simp [mulL]
  | cons y b ih =>
    intro k
    rw [List.map_cons]
    cases k with
    | zero => simp only [mulL_0]; grind
    | succ k => simp only [mulL_S]; rw [ih]; grind
/-- Products are associative. -/
theorem mulL_assoc (a b : List Int) (g : Nat → Int) : ∀ k, mulL (prodL a b) g k = mulL a (mulL b g) k := by
  induction a with
  | nil => intro k; rfl
  | cons x a ih =>
    intro k
    unfold prodL
    rw [mulL_addL, mulL_map]
    cases k with
    | zero => rw [mulL_0, mulL_0]; simp
    | succ k => rw [mulL_S, mulL_S, ih]; simp
theorem trm_mul_comm (a b : List Int) : trm (prodL a b) = trm (prodL b a) := trm_eq fun i => by rw [co_prodL, co_prodL, mulL_comm]
theorem trm_mul_assoc (a b c : List Int) : trm (prodL (trm (prodL a b)) c) = trm (prodL a (trm (prodL b c))) := trm_eq fun i => by
  rw [co_prodL, co_prodL, mulL_congr1 (b := prodL a b) _ (co_trm _), mulL_assoc, mulL_congr a (co_trm _), mulL_congr a (co_prodL b c)]
theorem trm_mul_add (a b c : List Int) : trm (prodL a (trm (addL b c))) = trm (addL (trm (prodL a b)) (trm (prodL a c))) := trm_eq fun i => by
  rw [co_prodL, mulL_congr a (co_trm _), mulL_congr a (co_addL b c), mulL_add, co_addL, co_trm, co_trm, co_prodL, co_prodL]
/-- What the first factor's terms from i on make. -/
theorem mulL_drop (a : List Int) (g : Nat → Int) (i : Nat) (h : i < a.length) : ∀ k, mulL (a.drop i) g k = co a i * g k + up (mulL (a.drop (i + 1)) g) k := by
  intro k
  have e : a.drop i = co a i :: a.drop (i + 1) := by
    rw [List.drop_eq_getElem_cons h]
    congr 1
    unfold co
    simp [h]
  rw [e]
  cases k with
  | zero => rw [mulL_0]; simp [up]
  | succ k => rfl
/-- The degree of a product. -/
theorem mulL_top (a b : List Int) {m n : Nat} (ha : ∀ i, m < i → co a i = 0) (hb : ∀ i, n < i → co b i = 0) : mulL a (co b) (m + n) = co a m * co b n ∧ ∀ k, m + n < k → mulL a (co b) k = 0 := by
  induction a generalizing m with
  | nil => exact ⟨by rw [co_nil]; simp [mulL], fun k _ => rfl⟩
  | cons x a ih =>
    cases m with
    | zero =>
      have h0 : ∀ i, co a i = 0 := fun i => by rw [← co_consS x a i]; exact ha _ (by omega)
      constructor
      · rw [Nat.zero_add, co_cons0]
        cases n with
        | zero => rw [mulL_0]
        | succ n => rw [mulL_S, mulL_zero a _ h0]; simp
      · intro k hk
        cases k with
        | zero => omega
        | succ k => rw [mulL_S, mulL_zero a _ h0, hb _ (by omega)]; simp
    | succ m =>
      obtain ⟨e1, e2⟩ := ih (m := m) fun i hi => by rw [← co_consS x a i]; exact ha _ (by omega)
      constructor
      · rw [show m + 1 + n = (m + n) + 1 by omega, mulL_S, e1, hb _ (by omega), co_consS]; simp
      · intro k hk
        cases k with
        | zero => omega
        | succ k => rw [mulL_S, e2 k (by omega), hb _ (by omega)]; simp
theorem trm_len_mul (a b : List Int) (ha : trm a ≠ []) (hb : trm b ≠ []) : (trm (prodL a b)).length = (trm a).length + (trm b).length - 1 := by
  obtain ⟨m, hm⟩ : ∃ m, (trm a).length = m + 1 := ⟨(trm a).length - 1, by have := List.length_pos_iff.2 ha; omega⟩
  obtain ⟨n, hn⟩ : ∃ n, (trm b).length = n + 1 := ⟨(trm b).length - 1, by have := List.length_pos_iff.2 hb; omega⟩
  obtain ⟨e1, e2⟩ := mulL_top a b (m := m) (n := n) (fun i hi => trm_above a (by omega)) (fun i hi => trm_above b (by omega))
  refine (trm_len_of (n := m + n + 1) ?_ (.inr ?_)).trans (by omega)
  · intro i hi
    rw [co_prodL]
    exact e2 i (by omega)
  · rw [co_prodL, show m + n + 1 - 1 = m + n by omega, e1]
    exact Int.mul_ne_zero (trm_last a hm) (trm_last b hn)
theorem trm_mul_zero (a b : List Int) (h : trm a = [] ∨ trm b = []) : trm (prodL a b) = [] := by
  rw [trm_nil_iff]
  intro i
  rw [co_prodL]
  rcases h with h | h
  · exact mulL_zero a _ ((trm_nil_iff a).1 h) i
  · rw [mulL_comm]; exact mulL_zero b _ ((trm_nil_iff b).1 h) i
end Go.Proofs.YtgcogpfmhmmgdaaGreatDoor
