/- The pseudo-division of polynomials, as lists of coefficients: its equation, the degree of the rest, and no rest where the divisor divides. Plain facts; no condition. Plain facts on values of polynomials: what polynomial.lowest and At reckon; values of sums and products. No condition. What rational.lowest, upright and canonical return. Condition: the integers have at most 10^7 digits to the base 2^32. -/
import Derived.Test.YtgcogpfmhmmgdaaGreatDoorQ21

namespace Go.Proofs.YtgcogpfmhmmgdaaGreatDoor

/-- Multiples. -/
def scal (c : Int) (L : List Int) : List Int := L.map (c * ·)
theorem co_scal (c : Int) (L : List Int) (i : Nat) : co (scal c L) i = c * co L i := co_map c L i
def shf (n : Nat) (L : List Int) : List Int := List.replicate n 0 ++ L
theorem co_shf (n : Nat) (L : List Int) (i : Nat) : co (shf n L) i = if i < n then 0 else co L (i - n) := by
  unfold co shf
  split
  · rename_i h
    rw [List.getD_eq_getElem?_getD, List.getElem?_append_left (by simpa using h)]
    simp [h]
  · rename_i h
    rw [List.getD_eq_getElem?_getD, List.getD_eq_getElem?_getD, List.getElem?_append_right (by simp; omega)]
    simp
def subL (a b : List Int) : List Int := addL a (scal (-1) b)
theorem co_subL (a b : List Int) (i : Nat) : co (subL a b) i = co a i - co b i := by
  unfold subL
  rw [co_addL, co_scal]
  omega
theorem mulL_shf1 (n : Nat) (f : Int) (g : Nat → Int) : ∀ i, mulL (shf n [f]) g i = if i < n then 0 else f * g (i - n) := by
  induction n with
  | zero =>
    intro i
    show mulL [f] g i = _
    rw [if_neg (by omega)]
    cases i with
    | zero => rw [mulL_0]
    | succ i => rw [mulL_S]; simp [mulL]
  | succ n ih =>
    intro i
    have e : shf (n + 1) [f] = 0 :: shf n [f] := by unfold shf; rw [List.replicate_succ, List.cons_append]
    rw [e]
    cases i with
    | zero => rw [mulL_0, if_pos (by omega)]; simp
    | succ i =>
      rw [mulL_S, ih]
      by_cases h : i < n
      · rw [if_pos h, if_pos (by omega)]; simp
      · rw [if_neg h, if_neg (by omega), show i + 1 - (n + 1) = i - n by omega]; simp
/-- One step of the pseudo-division, at the place k. -/
def stepQ (c : Int) (k : Nat) (f : Int) (q : List Int) : List Int := trm (addL (scal c q) (shf k [f]))
def stepR (c : Int) (k : Nat) (f : Int) (b r : List Int) : List Int := trm (subL (scal c r) (shf k (scal f b)))
/-- The pseudo-division by b, whose degree is n and whose leading coefficient is c: k places are left. -/
def divR (b : List Int) (n : Nat) (c : Int) : Nat → List Int → List Int → List Int × List Int
  | 0, q, r => (q, r)
  | k + 1, q, r => divR b n c k (stepQ c k (co r (k + n)) q) (stepR c k (co r (k + n)) b r)
theorem stepR_deg {b r : List Int} {n k : Nat} {c : Int} (hb : ∀ i, n < i → co b i = 0) (hc : co b n = c) (hr : ∀ i, k + 1 + n ≤ i → co r i = 0) : ∀ i, k + n ≤ i → co (stepR c k (co r (k + n)) b r) i = 0 := by
  intro i hi
  unfold stepR
  rw [co_trm, co_subL, co_scal, co_shf, if_neg (by omega), co_scal]
  rcases Nat.lt_or_ge (k + n) i with h | h
  · rw [hr i (by omega), hb (i - k) (by omega)]; simp
  · have e : i = k + n := by omega
    subst e
    rw [show k + n - k = n by omega, hc, Int.mul_comm, Int.sub_self]
theorem step_eq {b q r : List Int} {n k : Nat} {c : Int} (i : Nat) : c * (mulL q (co b) i + co r i) = mulL (stepQ c k (co r (k + n)) q) (co b) i + co (stepR c k (co r (k + n)) b r) i := by
  unfold stepQ stepR
  rw [mulL_congr1 _ (co_trm _), mulL_addL, co_trm, co_subL, co_scal, co_shf, mulL_shf1]
  have h1 : mulL (scal c q) (co b) i = c * mulL q (co b) i := mulL_map c q _ i
  rw [h1]
  by_cases h : i < k
  · rw [if_pos h, if_pos h]; grind
  · rw [if_neg h, if_neg h, co_scal]; grind
theorem divR_eq {b : List Int} {n : Nat} {c : Int} (hb : ∀ i, n < i → co b i = 0) (hc : co b n = c) : ∀ (k : Nat) (q r : List Int), (∀ i, k + n ≤ i → co r i = 0) →
    (∀ i, c ^ k * (mulL q (co b) i + co r i) = mulL (divR b n c k q r).1 (co b) i + co (divR b n c k q r).2 i) ∧ ∀ i, n ≤ i → co (divR b n c k q r).2 i = 0 := by
  intro k
  induction k with
  | zero => intro q r h; exact ⟨fun i => by simp [divR], fun i hi => h i (by omega)⟩
  | succ k ih =>
    intro q r h
    obtain ⟨h1, h2⟩ := ih (stepQ c k (co r (k + n)) q) (stepR c k (co r (k + n)) b r) (stepR_deg hb hc (by intro i hi; exact h i (by omega)))
    refine ⟨fun i => ?_, h2⟩
    show _ = mulL (divR b n c k _ _).1 (co b) i + co (divR b n c k _ _).2 i
    rw [← h1, ← step_eq, Int.pow_succ]
    grind
theorem divR_trm {b : List Int} {n : Nat} {c : Int} : ∀ (k : Nat) (q r : List Int), trm q = q → trm r = r → trm (divR b n c k q r).1 = (divR b n c k q r).1 ∧ trm (divR b n c k q r).2 = (divR b n c k q r).2 := by
  intro k
  induction k with
  | zero => intro q r hq hr; exact ⟨hq, hr⟩
  | succ k ih => intro q r _ _; exact ih _ _ (trm_trm _) (trm_trm _)
/-- A product of b that has a lesser degree than b is 0. -/
theorem mul_small {a b : List Int} {n : Nat} (hb : ∀ i, n < i → co b i = 0) (hc : co b n ≠ 0) (h : ∀ i, n ≤ i → mulL a (co b) i = 0) : ∀ i, co a i = 0 := by
  rw [← trm_nil_iff]
  rcases Nat.eq_zero_or_pos (trm a).length with h0 | h0
  · exact List.eq_nil_of_length_eq_zero h0
  · exfalso
    obtain ⟨m, hm⟩ : ∃ m, (trm a).length = m + 1 := ⟨(trm a).length - 1, by omega⟩
    obtain ⟨e1, _⟩ := mulL_top a b (m := m) (n := n) (fun i hi => trm_above a (by omega)) hb
    rw [h (m + n) (by omega)] at e1
    exact Int.mul_ne_zero (trm_last a hm) hc e1.symm
/-- What b divides leaves no rest. -/
theorem divR_none {a b : List Int} {n : Nat} {c : Int} (hb : ∀ i, n < i → co b i = 0) (hc : co b n = c) (h0 : c ≠ 0) (k : Nat) (r : List Int) (hr : ∀ i, co r i = mulL a (co b) i) (hd : ∀ i, k + n ≤ i → co r i = 0) : ∀ i, co (divR b n c k [] r).2 i = 0 := by
  obtain ⟨h1, h2⟩ := divR_eq hb hc k [] r hd
  -- the rest is the product of b and what follows
  have key : ∀ i, mulL (addL (scal (c ^ k) a) (scal (-1) (divR b n c k [] r).1)) (co b) i = co (divR b n c k [] r).2 i := by
    intro i
    have e1 := h1 i
    have e2 : mulL (scal (c ^ k) a) (co b) i = c ^ k * mulL a (co b) i := mulL_map _ a _ i
    have e3 : mulL (scal (-1) (divR b n c k [] r).1) (co b) i = -1 * mulL (divR b n c k [] r).1 (co b) i := mulL_map _ _ _ i
    rw [mulL_addL, e2, e3, ← hr i]
    have e4 : mulL [] (co b) i = 0 := rfl
    rw [e4] at e1
    grind
  have z := mul_small hb (by rw [hc]; exact h0) (fun i hi => (key i).trans (h2 i hi))
  intro i
  rw [← key i]
  exact mulL_zero _ _ z i
end Go.Proofs.YtgcogpfmhmmgdaaGreatDoor

namespace Go.Proofs.YtgcogpfmhmmgdaaGreatDoor
open Go.RowKit
set_option linter.unusedSimpArgs false
set_option linter.unusedVariables false

/-- One round of lowest: the numerator, the denominator, what may be common. -/
def lwS (b : Nat) (s : Int × Nat × Nat) : Int × Nat × Nat :=
  (s.1 / ((Nat.gcd s.1.natAbs s.2.2 : Nat) : Int), s.2.1 * (b / Nat.gcd s.1.natAbs s.2.2), Nat.gcd s.1.natAbs s.2.2)
def lwR (b : Nat) (n : Int) : Nat → Int × Nat × Nat
  | 0 => (n, 1, b)
  | k + 1 => lwS b (lwR b n k)
/-- What holds behind k rounds. -/
structure LwI (b : Nat) (n0 : Int) (k : Nat) (n : Int) (d c : Nat) : Prop where
  dv : c ∣ b
  cp : 0 < c
  dp : 0 < d
  c1 : Nat.Coprime n.natAbs (b / c)
  c2 : Nat.Coprime n.natAbs d
  val : n * ((b ^ k : Nat) : Int) = n0 * (d : Int)
  le : n.natAbs ≤ n0.natAbs
  dl : d ≤ b ^ k
theorem lwI_start {b : Nat} (hb : 0 < b) (n : Int) : LwI b n 0 n 1 b where
  dv := Nat.dvd_refl b
  cp := hb
  dp := by decide
  c1 := by rw [Nat.div_self hb]; exact Nat.coprime_one_right _
  c2 := Nat.coprime_one_right _
  val := by simp
  le := Nat.le_refl _
  dl := by simp
theorem lwI_step {b : Nat} (hb : 0 < b) {n0 n : Int} {k d c : Nat} (h : LwI b n0 k n d c) (g : Nat) (hg : Nat.gcd n.natAbs c = g) :
    LwI b n0 (k + 1) (n / (g : Int)) (d * (b / g)) g ∧ 0 < g ∧ (g : Int) ∣ n ∧ g ∣ b := by
  have gp : 0 < g := by rw [← hg]; exact Nat.gcd_pos_of_pos_right _ h.cp
  have d1 : g ∣ n.natAbs := by rw [← hg]; exact Nat.gcd_dvd_left _ _
  have d2 : g ∣ c := by rw [← hg]; exact Nat.gcd_dvd_right _ _
  have d3 : (g : Int) ∣ n := Int.ofNat_dvd_left.2 d1
  have hq : n / (g : Int) * (g : Int) = n := Int.ediv_mul_cancel d3
  have hab : (n / (g : Int)).natAbs = n.natAbs / g := Int.natAbs_ediv_of_dvd d3
  have hco : Nat.Coprime (n.natAbs / g) (c / g) := by
    have := Nat.coprime_div_gcd_div_gcd (m := n.natAbs) (n := c) (by rw [hg]; exact gp)
    rwa [hg] at this
  have hdv : n.natAbs / g ∣ n.natAbs := Nat.div_dvd_of_dvd d1
  have hbg : b / g = (c / g) * (b / c) := by
    obtain ⟨u, hu⟩ := h.dv
    obtain ⟨v, hv⟩ := d2
    have hc0 := h.cp
    rw [hu, Nat.mul_div_cancel_left _ hc0, hv, Nat.mul_div_cancel_left _ gp, Nat.mul_assoc, Nat.mul_div_cancel_left _ gp]
  have hcb : Nat.Coprime (n.natAbs / g) (b / g) := by
    rw [hbg]
    exact Nat.Coprime.mul_right hco (Nat.Coprime.coprime_dvd_left hdv h.c1)
  have hgb : g ∣ b := Nat.dvd_trans d2 h.dv
  have hbp : 0 < b / g := Nat.div_pos (Nat.le_of_dvd hb hgb) gp
  refine ⟨⟨hgb, gp, Nat.mul_pos h.dp hbp, by rw [hab]; exact hcb, by rw [hab]; exact Nat.Coprime.mul_right (Nat.Coprime.coprime_dvd_left hdv h.c2) hcb, ?_, ?_, ?_⟩, gp, d3, hgb⟩
  · have hbm : ((b / g : Nat) : Int) * (g : Int) = (b : Int) := by rw [← Int.natCast_mul, Nat.div_mul_cancel hgb]
    rw [Nat.pow_succ, Int.natCast_mul, Int.natCast_mul, ← Int.mul_assoc n0, ← h.val, ← hbm]
    generalize ((b ^ k : Nat) : Int) = B
    generalize ((b / g : Nat) : Int) = C
    generalize n / (g : Int) = m at hq
    rw [← hq]
    grind
  · rw [hab]; exact Nat.le_trans (Nat.div_le_self _ _) h.le
  · rw [Nat.pow_succ]
    exact Nat.mul_le_mul h.dl (Nat.div_le_self _ _)
/-- What lowest returns is in lowest terms. -/
theorem lwI_end {b : Nat} (hb : 0 < b) {n0 n : Int} {k d c : Nat} (h : LwI b n0 k n d c) : (Rat.divInt n0 ((b ^ k : Nat) : Int)).num = n ∧ (Rat.divInt n0 ((b ^ k : Nat) : Int)).den = d := by
  have hd := h.dp
  have hB : 0 < b ^ k := Nat.pow_pos hb
  have e : Rat.divInt n0 ((b ^ k : Nat) : Int) = Rat.divInt n (d : Int) := by
    rw [Rat.divInt_eq_divInt_iff (by omega) (by omega)]
    exact h.val.symm
  have h1 : Nat.gcd n.natAbs (d : Int).natAbs = 1 := by rw [Int.natAbs_natCast]; exact h.c2
  rw [e]
  have e1 := low_num (n := n) (d := (d : Int)) (by omega)
  have e2 := low_den (n := n) (d := (d : Int)) (by omega)
  rw [h1] at e1 e2
  constructor
  · rw [e1]; simp
  · have : ((Rat.divInt n (d : Int)).den : Int) = (d : Int) := by rw [e2]; simp
    omega
/-- The value of a polynomial. -/
def evL (r : Rat) : List Int → Rat
  | [] => 0
  | x :: L => (x : Rat) + r * evL r L
theorem evL_addL (r : Rat) (a b : List Int) : evL r (addL a b) = evL r a + evL r b := by
  induction a generalizing b with
  | nil => unfold addL; rw [evL, Rat.zero_add]
  | cons x a ih =>
    cases b with
    | nil => unfold addL; rw [show evL r [] = 0 from rfl, Rat.add_zero]
    | cons y b =>
      unfold addL
      rw [evL, evL, evL, ih, Rat.intCast_add]
      grind
theorem evL_map (r : Rat) (x : Int) (b : List Int) : evL r (b.map (x * ·)) = (x : Rat) * evL r b := by
  induction b with
  | nil => rw [List.map_nil, evL, Rat.mul_zero]
  | cons y b ih =>
    rw [List.map_cons, evL, evL, ih, Rat.intCast_mul]
    grind
theorem evL_prodL (r : Rat) (a b : List Int) : evL r (prodL a b) = evL r a * evL r b := by
  induction a with
  | nil => rw [prodL, evL, Rat.zero_mul]
  | cons x a ih =>
    rw [prodL, evL_addL, evL_map, evL, evL, ih]
    have : ((0 : Int) : Rat) = 0 := rfl
    rw [this]
    grind
theorem evL_trm (r : Rat) (L : List Int) : evL r (trm L) = evL r L := by
  induction L with
  | nil => rfl
  | cons x L ih =>
    unfold trm
    split
    · rename_i h
      rw [evL, evL, ← ih, h.1, h.2, evL, Rat.mul_zero, Rat.add_zero]
      rfl
    · rw [evL, evL, ih]
/-- The rounds of At, from the greatest exponent on: the numerator and the scale. -/
def hzR (L : List Int) (X D : Int) : Nat → Int × Int
  | 0 => (0, 1)
  | j + 1 => ((hzR L X D j).1 * X + co L (L.length - 1 - j) * (hzR L X D j).2, (hzR L X D j).2 * D)
theorem hzR_snd (L : List Int) (X D : Int) : ∀ j, (hzR L X D j).2 = D ^ j := fun j => by
  induction j with
  | zero => rw [hzR, Int.pow_zero]
  | succ j ih => rw [hzR, ih, Int.pow_succ]
theorem evL_drop (r : Rat) (L : List Int) {i : Nat} (h : i < L.length) : evL r (L.drop i) = (co L i : Rat) + r * evL r (L.drop (i + 1)) := by
  have e : L.drop i = co L i :: L.drop (i + 1) := by
    rw [List.drop_eq_getElem_cons h]
    congr 1
    have := co_get h
    rw [List.getElem?_eq_getElem h] at this
    exact Option.some.inj this
  rw [e, evL]
theorem hzR_val (L : List Int) (X D : Int) (hD : D ≠ 0) : ∀ j, j ≤ L.length → ((hzR L X D j).1 : Rat) * (D : Rat) = ((hzR L X D j).2 : Rat) * evL ((X : Rat) / (D : Rat)) (L.drop (L.length - j)) := by
  have hD' : (D : Rat) ≠ 0 := by
    intro h
    exact hD (Rat.intCast_inj.1 (by rw [h]; rfl))
  intro j
  induction j with
  | zero =>
    intro _
    rw [Nat.sub_zero, List.drop_length, evL, hzR, Rat.mul_zero, show ((0 : Int) : Rat) = 0 from rfl, Rat.zero_mul]
  | succ j ih =>
    intro hj
    have h1 := ih (by omega)
    rw [evL_drop _ _ (show L.length - (j + 1) < L.length by omega), show L.length - (j + 1) + 1 = L.length - j by omega, hzR, show L.length - 1 - j = L.length - (j + 1) by omega]
    have h2 : (D : Rat) * ((X : Rat) / (D : Rat)) = (X : Rat) := by rw [Rat.mul_comm, Rat.div_mul_cancel hD']
    rw [Rat.intCast_add, Rat.intCast_mul, Rat.intCast_mul, Rat.intCast_mul]
    generalize evL ((X : Rat) / (D : Rat)) (L.drop (L.length - j)) = v at *
    generalize ((hzR L X D j).1 : Rat) = a at *
    generalize ((hzR L X D j).2 : Rat) = s at *
    generalize (co L (L.length - (j + 1)) : Rat) = c at *
    generalize (X : Rat) / (D : Rat) = y at *
    generalize (X : Rat) = x at *
    generalize (D : Rat) = e at *
    grind
/-- What At hands to lowest is the value. -/
theorem hzR_end (L : List Int) (X : Int) (D : Nat) (hD : 0 < D) : Rat.divInt (hzR L X (D : Int) L.length).1 ((D ^ (L.length - 1) : Nat) : Int) = evL (Rat.divInt X (D : Int)) L := by
  have h := hzR_val L X (D : Int) (by omega) L.length (Nat.le_refl _)
  rw [Nat.sub_self, List.drop_zero, hzR_snd] at h
  have hD' : ((D : Int) : Rat) ≠ 0 := by
    intro h
    have := Rat.intCast_inj.1 (show (((D : Int)) : Rat) = ((0 : Int) : Rat) by rw [h]; rfl)
    omega
  rw [Rat.divInt_eq_div, Rat.divInt_eq_div]
  cases L with
  | nil =>
    rw [List.length_nil, hzR, evL, show ((0 : Int) : Rat) = 0 from rfl, Rat.div_def, Rat.zero_mul]
  | cons x L =>
    rw [List.length_cons, Nat.add_sub_cancel] at *
    generalize (hzR (x :: L) X (D : Int) (L.length + 1)).1 = a at *
    generalize evL ((X : Rat) / ((D : Int) : Rat)) (x :: L) = v at *
    rw [Int.pow_succ, Rat.intCast_mul, Rat.mul_assoc, Rat.mul_comm ((D : Int) : Rat) v, ← Rat.mul_assoc] at h
    have h2 : (a : Rat) = (((D : Int) ^ L.length : Int) : Rat) * v := by
      have := congrArg (· / ((D : Int) : Rat)) h
      simpa [Rat.mul_div_cancel hD'] using this
    have h3 : (((D : Int) ^ L.length : Int) : Rat) ≠ 0 := by
      intro h
      have h4 := Rat.intCast_inj.1 (show (((D : Int) ^ L.length : Int) : Rat) = ((0 : Int) : Rat) by rw [h]; rfl)
      have h5 : 0 < (D : Int) ^ L.length := Int.pow_pos (by omega)
      omega
    rw [h2, Int.natCast_pow, Rat.mul_comm, Rat.mul_div_cancel h3]
/-- How large the rounds' integers are. -/
theorem hzR_bd (L : List Int) (X D : Int) (B : Nat) (hX : X.natAbs ≤ B) (hD : D.natAbs ≤ B) (hL : ∀ i, (co L i).natAbs ≤ B) : ∀ j, (hzR L X D j).1.natAbs ≤ j * B ^ j ∧ (hzR L X D j).2.natAbs ≤ B ^ j := by
  intro j
  induction j with
  | zero => exact ⟨by simp [hzR], by simp [hzR]⟩
  | succ j ih =>
    obtain ⟨i1, i2⟩ := ih
    rw [hzR]
    constructor
    · refine Nat.le_trans (Int.natAbs_add_le _ _) ?_
      rw [Int.natAbs_mul, Int.natAbs_mul, Nat.succ_mul, Nat.pow_succ]
      refine Nat.add_le_add ?_ ?_
      · rw [← Nat.mul_assoc]; exact Nat.mul_le_mul i1 hX
      · rw [Nat.mul_comm]; exact Nat.mul_le_mul i2 (hL _)
    · rw [Int.natAbs_mul, Nat.pow_succ]
      exact Nat.mul_le_mul i2 hD
end Go.Proofs.YtgcogpfmhmmgdaaGreatDoor

namespace Go.Proofs.YtgcogpfmhmmgdaaGreatDoor
open Go.RowKit
set_option linter.unusedSimpArgs false

/-- A rational number in a box. -/
def RIn (W : World) (p : Nat) (g1 : Bool) (s1 : ByteArray) (g2 : Bool) (s2 : ByteArray) : Prop :=
  W.cell? ⟨p, 0, none⟩ = some (.bool g1) ∧ W.cell? ⟨p, 1, none⟩ = some (.string s1) ∧ W.cell? ⟨p, 2, none⟩ = some (.bool g2) ∧ W.cell? ⟨p, 3, none⟩ = some (.string s2)
theorem RIn.keep {W W1 : World} {p : Nat} {g1 g2 : Bool} {s1 s2 : ByteArray} (h : RIn W p g1 s1 g2 s2) (hb : Below W.heap.size W W1) : RIn W1 p g1 s1 g2 s2 :=
  ⟨cell_keep h.1 hb, cell_keep h.2.1 hb, cell_keep h.2.2.1 hb, cell_keep h.2.2.2 hb⟩
theorem RIn.lt {W : World} {p : Nat} {g1 g2 : Bool} {s1 s2 : ByteArray} (h : RIn W p g1 s1 g2 s2) : p < W.heap.size := World.block_lt_of_cell? W ⟨p, 0, none⟩ h.1
theorem RIn.set {W : World} {p : Nat} {g1 g2 : Bool} {s1 s2 : ByteArray} (h : RIn W p g1 s1 g2 s2) (a : Addr) (ha : p ≠ a.block) (u : Value) : RIn (W.setCell a u) p g1 s1 g2 s2 := by
  refine ⟨?_, ?_, ?_, ?_⟩ <;> rw [World.cell?_setCell_far _ _ _ _ (by dsimp only; exact fun e => ha e.symm)]
  · exact h.1
  · exact h.2.1
  · exact h.2.2.1
  · exact h.2.2.2
/-- A box that a result is stored in. -/
def ResRat (w : World) (b : Nat) : Prop := RIn w b false ⟨#[]⟩ false ⟨#[]⟩ ∧ w.frozen? ⟨b, 0, none⟩ = false ∧ w.frozen? ⟨b, 1, none⟩ = false ∧ w.frozen? ⟨b, 2, none⟩ = false ∧ w.frozen? ⟨b, 3, none⟩ = false
theorem ResRat.keep {w w' : World} {b : Nat} (h : ResRat w b) (hb : Below w.heap.size w w') : ResRat w' b :=
  ⟨h.1.keep hb, frozen_keep h.1.1 h.2.1 hb, frozen_keep h.1.2.1 h.2.2.1 hb, frozen_keep h.1.2.2.1 h.2.2.2.1 hb, frozen_keep h.1.2.2.2 h.2.2.2.2 hb⟩
theorem ResRat.new (w : World) : ResRat (w.alloc (.cells #[.bool false, .string ⟨#[]⟩, .bool false, .string ⟨#[]⟩] 33)) w.heap.size := by
  refine ⟨⟨?_, ?_, ?_, ?_⟩, ?_, ?_, ?_, ?_⟩ <;> simp [go_sem]
theorem ResRat.drew {w : World} {b : Nat} (h : ResRat w b) : ResRat w.drew b := h
theorem below4s {B : Nat} {w w1 : World} (hb : Below B w w1) (p : Nat) (hp : B ≤ p) (u1 u2 u3 u4 : Value) :
    Below B w ((((w1.setCell ⟨p, 0, none⟩ u1).setCell ⟨p, 1, none⟩ u2).setCell ⟨p, 2, none⟩ u3).setCell ⟨p, 3, none⟩ u4) :=
  (((hb.setCell (by exact hp) _).setCell (by exact hp) _).setCell (by exact hp) _).setCell (by exact hp) _

set_option maxRecDepth 100000 in
set_option maxHeartbeats 3200000 in
theorem lowest_any (v : Value) (q : Rat) (k : Nat) (w : World) (h : IsUp v q k) : Calls Tryz.prog 94 #[v] w (RatOut w q) := by
  obtain ⟨na, sa, nb, sb, n, d, rfl, hn, hd, hpos, hq⟩ := h
  have Dn := Lib.hid (show n.natAbs < 4294967296 ^ k ∧ k ≤ 10000000 from by obtain ⟨_, _, _, _, _, h1, h2⟩ := hn; exact ⟨h1, h2⟩)
  have Dd := Lib.hid (show d.natAbs < 4294967296 ^ k from by obtain ⟨_, _, _, _, _, h1, h2⟩ := hd; exact h1)
  have In := Lib.hid hn
  have Id := Lib.hid hd
  clear hn hd
  obtain ⟨g, Eg⟩ : ∃ g : Int, Hid (((Nat.gcd n.natAbs d.natAbs : Nat) : Int) = g) := ⟨_, Lib.hid rfl⟩
  have Gp := Lib.hid (show 0 < g by rw [← Eg.out]; exact dv_pos hpos)
  have Ig := Lib.hid (isInt_mg (gcd_bd Dn.out.1 Dd.out Eg.out) Dn.out.2)
  have Q1 := Lib.hid (show qD n g = q.num by rw [(qD_exact Gp.out (by rw [← Eg.out]; exact dv_dvd)).1, ← hq, low_num hpos, Eg.out])
  have R1 := Lib.hid (show rD n g = 0 from (qD_exact Gp.out (by rw [← Eg.out]; exact dv_dvd)).2)
  have Q2 := Lib.hid (show qD d g = (q.den : Int) by rw [(qD_exact Gp.out (by rw [← Eg.out]; exact dv_dvd')).1, ← hq, low_den hpos, Eg.out])
  have R2 := Lib.hid (show rD d g = 0 from (qD_exact Gp.out (by rw [← Eg.out]; exact dv_dvd')).2)
  have G0 := Lib.hid (show g ≠ 0 by have := Gp.out; omega)
  clear hpos hq
  have S0 : RIn ((w.alloc (.cells #[.bool na, .string sa, .bool nb, .string sb] 33)).alloc (.cells #[.bool false, .string ⟨#[]⟩, .bool false, .string ⟨#[]⟩] 33)) w.heap.size na sa nb sb := by
    refine ⟨?_, ?_, ?_, ?_⟩ <;> simp [go_sem]
  have P0 := ResRat.new (w.alloc (.cells #[.bool na, .string sa, .bool nb, .string sb] 33))
  rw [World.size_alloc] at P0
  have B0 := below2 w (.cells #[.bool na, .string sa, .bool nb, .string sb] 33) (.cells #[.bool false, .string ⟨#[]⟩, .bool false, .string ⟨#[]⟩] 33)
  go_enter Tryz.func94, Tryz.ntmps94
  go_wp2_with fail
  refine (gcd_eq In.out Id.out Eg.out).mono ?_
  rintro e W1 ⟨rfl, b1⟩
  have hbl := below1 W1 (.cells #[.bool (sg g), .string (mg g)] 27)
  have S1 := (S0.keep b1).keep hbl
  have P1 := (P0.keep b1).keep hbl
  have B1 := below_more (below_more B0 (Nat.le_refl _) b1) (Nat.le_refl _) hbl
  have h1 : (W1.alloc (.cells #[.bool (sg g), .string (mg g)] 27)).cell? ⟨W1.heap.size, 0, none⟩ = some (.bool (sg g)) := by simp [go_sem]
  have h2 : (W1.alloc (.cells #[.bool (sg g), .string (mg g)] 27)).cell? ⟨W1.heap.size, 1, none⟩ = some (.string (mg g)) := by simp [go_sem]
  clear S0 P0 B0 hbl b1
  go_upto_region 2 with fail
  generalize W1.alloc (.cells #[.bool (sg g), .string (mg g)] 27) = W2 at *
  generalize W1.heap.size = p3 at *
  obtain ⟨t1, t2, t3, t4⟩ := id S1
  go_wp2_with fail
  refine (ediv_eq In.out Ig.out G0.out Q1.out R1.out).mono ?_
  rintro e W3 ⟨rfl, b3⟩
  have hbl := below2 W3 (.cells #[.bool (sg q.num), .string (mg q.num)] 27) (.cells #[.bool (sg 0), .string (mg 0)] 27)
  have S2 := (S1.keep b3).keep hbl
  have P2 := (P1.keep b3).keep hbl
  have B2 := below_more (below_more B1 (Nat.le_refl _) b3) (Nat.le_refl _) hbl
  have k1 := cell_keep (cell_keep h1 b3) hbl
  have k2 := cell_keep (cell_keep h2 b3) hbl
  have j1 : ((W3.alloc (.cells #[.bool (sg q.num), .string (mg q.num)] 27)).alloc (.cells #[.bool (sg 0), .string (mg 0)] 27)).cell? ⟨W3.heap.size, 0, none⟩ = some (.bool (sg q.num)) := by simp [go_sem]
  have j2 : ((W3.alloc (.cells #[.bool (sg q.num), .string (mg q.num)] 27)).alloc (.cells #[.bool (sg 0), .string (mg 0)] 27)).cell? ⟨W3.heap.size, 1, none⟩ = some (.string (mg q.num)) := by simp [go_sem]
  clear S1 P1 B1 hbl b3 h1 h2 t1 t2 t3 t4
  go_upto_region 3 with fail
  generalize ((W3.alloc (.cells #[.bool (sg q.num), .string (mg q.num)] 27)).alloc (.cells #[.bool (sg 0), .string (mg 0)] 27)) = W4 at *
  generalize W3.heap.size = p4 at *
  obtain ⟨t1, t2, t3, t4⟩ := id S2
  go_wp2_with fail
  refine (ediv_eq Id.out Ig.out G0.out Q2.out R2.out).mono ?_
  rintro e W5 ⟨rfl, b5⟩
  have hbl := below2 W5 (.cells #[.bool (sg (q.den : Int)), .string (mg (q.den : Int))] 27) (.cells #[.bool (sg 0), .string (mg 0)] 27)
  have P3 := (P2.keep b5).keep hbl
  have B3 := below_more (below_more B2 (Nat.le_refl _) b5) (Nat.le_refl _) hbl
  have u1 := cell_keep (cell_keep j1 b5) hbl
  have u2 := cell_keep (cell_keep j2 b5) hbl
  have u3 : ((W5.alloc (.cells #[.bool (sg (q.den : Int)), .string (mg (q.den : Int))] 27)).alloc (.cells #[.bool (sg 0), .string (mg 0)] 27)).cell? ⟨W5.heap.size, 0, none⟩ = some (.bool (sg (q.den : Int))) := by simp [go_sem]
  have u4 : ((W5.alloc (.cells #[.bool (sg (q.den : Int)), .string (mg (q.den : Int))] 27)).alloc (.cells #[.bool (sg 0), .string (mg 0)] 27)).cell? ⟨W5.heap.size, 1, none⟩ = some (.string (mg (q.den : Int))) := by simp [go_sem]
  clear S2 P2 B2 hbl b5 j1 j2 t1 t2 t3 t4 k1 k2
  go_upto_region 4 with fail
  generalize ((W5.alloc (.cells #[.bool (sg (q.den : Int)), .string (mg (q.den : Int))] 27)).alloc (.cells #[.bool (sg 0), .string (mg 0)] 27)) = W6 at *
  generalize W5.heap.size = p7 at *
  obtain ⟨⟨r1, r2, r3, r4⟩, r5, r6, r7, r8⟩ := P3
  go_wp2_with fail
  exact bodyPost_ret (v := ratV q) (by simp [results, Tryz.results94, go_sem, r1, r2, r3, r4, ratV]) rfl ⟨rfl, below4s B3 _ (by omega) _ _ _ _⟩
end Go.Proofs.YtgcogpfmhmmgdaaGreatDoor
