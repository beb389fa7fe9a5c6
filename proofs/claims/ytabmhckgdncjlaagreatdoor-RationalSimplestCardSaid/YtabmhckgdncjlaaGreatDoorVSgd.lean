/- The simplest number between two others: between them, with the least denominator, and which it is. Plain facts; no condition. What grooveref02.Long returns over a slice of rational numbers. Condition: at most a million of them. What RationalSimplest returns: true. Conditions: its table, and block 0. -/
import Derived.Test.YtabmhckgdncjlaaGreatDoorQ34
import Derived.Test.YtabmhckgdncjlaaGreatDoorQ38

namespace Go.Proofs.YtabmhckgdncjlaaGreatDoor
open Go.RowKit
set_option linter.unusedSimpArgs false
set_option linter.unusedVariables false

/-- The run from its end to its start: the number x / y. -/
inductive Sp : Int → Int → Int → Int → Int → Int → Prop
  | whole {a b c d : Int} (h : a % b = 0) : Sp a b c d (a / b) 1
  | above {a b c d : Int} (h : a % b ≠ 0) (h2 : a / b ≠ c / d) : Sp a b c d (a / b + 1) 1
  | more {a b c d x y : Int} (h : a % b ≠ 0) (h2 : a / b = c / d) (k : Sp d (c % d) b (a % b) x y) : Sp a b c d (a / b * x + y) x
theorem Sim.sp {a b c d ln ld nn nd rn rd : Int} (h : Sim a b c d ln ld nn nd rn rd) : ∃ x y, Sp a b c d x y ∧ rn = nn * x + ln * y ∧ rd = nd * x + ld * y := by
  induction h with
  | @whole a b c d ln ld nn nd h => exact ⟨_, _, .whole h, by grind, by grind⟩
  | @above a b c d ln ld nn nd h h2 => exact ⟨_, _, .above h h2, by grind, by grind⟩
  | @more a b c d ln ld nn nd rn rd h h2 _ ih =>
    obtain ⟨x, y, h3, e1, e2⟩ := ih
    exact ⟨_, _, .more h h2 h3, by rw [e1]; grind, by rw [e2]; grind⟩
theorem Sp.good {a b c d x y : Int} (h : Sp a b c d x y) : 0 < a → 0 < b → 0 < c → 0 < d → a * d ≤ c * b →
    0 < x ∧ 0 < y ∧ (∀ g : Int, g ∣ x → g ∣ y → g ∣ 1) ∧ a * y ≤ x * b ∧ x * d ≤ c * y ∧ ∀ u v : Int, 0 < v → a * v ≤ u * b → u * d ≤ c * v → x ≤ u ∧ y ≤ v := by
  induction h with
  | @whole a b c d h =>
    intro ha hb hc hd hle
    have ea := Int.mul_ediv_add_emod a b
    rw [h] at ea
    generalize a / b = t at *
    have ht : 0 < t := by
      rcases Int.lt_or_le 0 t with h1 | h1
      · exact h1
      · have : b * t ≤ 0 := Int.mul_nonpos_of_nonneg_of_nonpos (by omega) h1
        omega
    refine ⟨ht, by omega, fun g _ h1 => h1, ?_, ?_, ?_⟩
    · rw [← ea]; grind
    · have e : b * (t * d) ≤ b * (c * 1) := by rw [← ea] at hle; grind
      exact Int.le_of_mul_le_mul_left e hb
    · intro u v hv h1 h2
      refine ⟨?_, by omega⟩
      have e1 : b * (t * v) ≤ b * u := by rw [← ea] at h1; grind
      have e2 := Int.le_of_mul_le_mul_left e1 hb
      have e3 : t * 1 ≤ t * v := Int.mul_le_mul_of_nonneg_left (by omega) (by omega)
      omega
  | @above a b c d h hne =>
    intro ha hb hc hd hle
    have hq := quot_le hb hd hle
    have ea := Int.mul_ediv_add_emod a b
    have ec := Int.mul_ediv_add_emod c d
    have r1 := Int.emod_nonneg a (b := b) (by omega)
    have r2 := Int.emod_lt_of_pos a hb
    have s1 := Int.emod_nonneg c (b := d) (by omega)
    have s2 := Int.emod_lt_of_pos c hd
    have ht : 0 ≤ a / b := Int.ediv_nonneg (by omega) (by omega)
    generalize a / b = t at *
    generalize a % b = r at *
    generalize c / d = t' at *
    generalize c % d = s at *
    refine ⟨by omega, by omega, fun g _ h1 => h1, ?_, ?_, ?_⟩
    · rw [← ea]
      have : (t + 1) * b = b * t + b := by grind
      omega
    · rw [← ec]
      have e : (t + 1) * d ≤ t' * d := Int.mul_le_mul_of_nonneg_right (by omega) (by omega)
      have e2 : t' * d = d * t' := Int.mul_comm _ _
      omega
    · intro u v hv h1 h2
      refine ⟨?_, by omega⟩
      rcases Int.lt_or_le t u with h3 | h3
      · omega
      · exfalso
        have e1 : u * b ≤ t * b := Int.mul_le_mul_of_nonneg_right h3 (by omega)
        have e2 : a * 1 ≤ a * v := Int.mul_le_mul_of_nonneg_left (by omega) (by omega)
        have e3 : t * b = b * t := Int.mul_comm _ _
        omega
  | @more a b c d x y h h2 _ ih =>
    intro ha hb hc hd hle
    have ea := Int.mul_ediv_add_emod a b
    have ec := Int.mul_ediv_add_emod c d
    have r1 := Int.emod_nonneg a (b := b) (by omega)
    have r2 := Int.emod_lt_of_pos a hb
    have s1 := Int.emod_nonneg c (b := d) (by omega)
    have s2 := Int.emod_lt_of_pos c hd
    have ht : 0 ≤ a / b := Int.ediv_nonneg (by omega) (by omega)
    rw [← h2] at ec
    generalize a / b = t at *
    generalize a % b = r at *
    generalize c % d = s at *
    clear h2
    subst ea
    subst ec
    have hrs : r * d ≤ s * b := by
      have e : (d * t + s) * b - (b * t + r) * d = s * b - r * d := by grind
      omega
    have hr : 0 < r := by omega
    have hs : 0 < s := by
      rcases Int.lt_or_le 0 s with h9 | h9
      · exact h9
      · exfalso
        have h10 : s = 0 := by omega
        rw [h10, Int.zero_mul] at hrs
        have h11 : 0 < r * d := Int.mul_pos hr hd
        omega
    obtain ⟨x0, y0, cop, b1, b2, mn⟩ := ih hd hs hb hr (by grind)
    have hx : 0 ≤ t * x := Int.mul_nonneg ht (by omega)
    refine ⟨by omega, x0, ?_, ?_, ?_, ?_⟩
    · intro g h3 h4
      refine cop g h4 ?_
      have h5 : g ∣ t * x := Int.dvd_mul_of_dvd_right h4
      exact (Int.dvd_add_right h5).1 h3
    · have e : (t * x + y) * b - (b * t + r) * x = y * b - r * x := by grind
      have e2 : b * y = y * b := Int.mul_comm _ _
      have e3 : x * r = r * x := Int.mul_comm _ _
      omega
    · have e : (d * t + s) * x - (t * x + y) * d = s * x - y * d := by grind
      have e2 : d * y = y * d := Int.mul_comm _ _
      have e3 : x * s = s * x := Int.mul_comm _ _
      omega
    · intro u v hv h3 h4
      have k1 : r * v ≤ b * (u - t * v) := by
        have e : b * (u - t * v) - r * v = u * b - (b * t + r) * v := by grind
        omega
      have k2 : d * (u - t * v) ≤ v * s := by
        have e : v * s - d * (u - t * v) = (d * t + s) * v - u * d := by grind
        omega
      have k3 : 0 < u - t * v := by
        rcases Int.lt_or_le 0 (u - t * v) with h9 | h9
        · exact h9
        · exfalso
          have h10 : b * (u - t * v) ≤ 0 := Int.mul_nonpos_of_nonneg_of_nonpos (by omega) h9
          have h11 : 0 < r * v := Int.mul_pos hr hv
          omega
      obtain ⟨m1, m2⟩ := mn v (u - t * v) k3 k2 (by rw [Int.mul_comm v r]; exact k1)
      refine ⟨?_, m1⟩
      have e : t * x ≤ t * v := Int.mul_le_mul_of_nonneg_left m1 ht
      omega
theorem Sp.one {a b c d x y : Int} (h : Sp a b c d x y) (ha : 0 < a) (hb : 0 < b) (hc : 0 < c) (hd : 0 < d) (hle : a * d ≤ c * b) (hy : y ≠ 1) {u : Int} (h1 : a * y ≤ u * b) (h2 : u * d ≤ c * y) : u = x := by
  obtain ⟨x0, y0, _, b1, b2, mn⟩ := h.good ha hb hc hd hle
  have m := (mn u y y0 h1 h2).1
  rcases Int.lt_or_eq_of_le m with hlt | he
  · exfalso
    have ex := Int.mul_ediv_add_emod x y
    have r1 := Int.emod_nonneg x (b := y) (by omega)
    have r2 := Int.emod_lt_of_pos x y0
    generalize x / y = t at *
    generalize x % y = r at *
    have k := (mn (x - t) (y - 1) (by omega) ?_ ?_).2
    · omega
    · have e1 : a * y * (y - 1) ≤ x * b * (y - 1) := Int.mul_le_mul_of_nonneg_right b1 (by omega)
      have e2 : (x - t) * b * y - x * b * (y - 1) = b * (x - y * t) := by grind
      have e3 : 0 ≤ b * (x - y * t) := Int.mul_nonneg (by omega) (by omega)
      have e4 : a * (y - 1) * y ≤ (x - t) * b * y := by
        have e5 : a * (y - 1) * y = a * y * (y - 1) := by grind
        omega
      exact Int.le_of_mul_le_mul_right e4 y0
    · have e0 : (x + 1) * d ≤ u * d := Int.mul_le_mul_of_nonneg_right (by omega) (by omega)
      have e1 : (x + 1) * d * (y - 1) ≤ c * y * (y - 1) := Int.mul_le_mul_of_nonneg_right (by omega) (by omega)
      have e2 : (x + 1) * d * (y - 1) - (x - t) * d * y = d * (y - 1 - (x - y * t)) := by grind
      have e3 : 0 ≤ d * (y - 1 - (x - y * t)) := Int.mul_nonneg (by omega) (by omega)
      have e4 : (x - t) * d * y ≤ c * (y - 1) * y := by
        have e5 : c * (y - 1) * y = c * y * (y - 1) := by grind
        omega
      exact Int.le_of_mul_le_mul_right e4 y0
  · exact he.symm
theorem divInt_le_iff {n1 d1 n2 d2 : Int} (h1 : 0 < d1) (h2 : 0 < d2) : Rat.divInt n1 d1 ≤ Rat.divInt n2 d2 ↔ n1 * d2 ≤ n2 * d1 := by
  rw [← Rat.not_lt, divInt_lt_iff h2 h1]
  omega
theorem dvd_one_gcd {x y : Int} (h : ∀ g : Int, g ∣ x → g ∣ y → g ∣ 1) : Nat.gcd x.natAbs y.natAbs = 1 := by
  have h1 := h ((Nat.gcd x.natAbs y.natAbs : Nat) : Int) (Int.ofNat_dvd_left.2 (Nat.gcd_dvd_left _ _)) (Int.ofNat_dvd_left.2 (Nat.gcd_dvd_right _ _))
  have h2 := Int.natAbs_dvd_natAbs.2 h1
  simpa using h2
/-- r is the simplest number from p to q. -/
def Simp (p q r : Rat) : Prop := p ≤ r ∧ r ≤ q ∧ (∀ s : Rat, p ≤ s → s ≤ q → r.den ≤ s.den) ∧ (∀ s : Rat, p ≤ s → s ≤ q → s.den = r.den → r.den ≠ 1 → s = r) ∧ (r.den = 1 → 0 < r → ¬ p ≤ r - 1) ∧ (r.den = 1 → r < 0 → ¬ r + 1 ≤ q)
theorem simOf_simp {p q : Rat} {rn rd : Int} (hp : 0 < p) (hle : p ≤ q) (h : SimOf p q rn rd) : Simp p q (Rat.divInt rn rd) ∧ raw rn rd = ratV (Rat.divInt rn rd) := by
  obtain ⟨a, b, c, d, hb, hd, rfl, rfl, hs⟩ := h
  obtain ⟨x, y, h1, e1, e2⟩ := hs.sp
  have e3 : rn = x := by omega
  have e4 : rd = y := by omega
  clear e1 e2
  subst e3 e4
  have ha : 0 < a := (divInt_pos_iff hb).1 hp
  have hle' := (divInt_le_iff hb hd).1 hle
  have hc : 0 < c := by
    rcases Int.lt_or_le 0 c with h9 | h9
    · exact h9
    · have h10 : c * b ≤ 0 := Int.mul_nonpos_of_nonpos_of_nonneg h9 (by omega)
      have h11 : 0 < a * d := Int.mul_pos ha hd
      omega
  obtain ⟨x0, y0, cop, b1, b2, mn⟩ := h1.good ha hb hc hd hle'
  have hg := dvd_one_gcd cop
  have en : (Rat.divInt rn rd).num = rn := by rw [low_num y0, hg]; simp
  have ed : ((Rat.divInt rn rd).den : Int) = rd := by rw [low_den y0, hg]; simp
  have key : ∀ s : Rat, Rat.divInt a b ≤ s → s ≤ Rat.divInt c d → a * (s.den : Int) ≤ s.num * b ∧ s.num * d ≤ c * (s.den : Int) := by
    intro s h3 h4
    have hs0 := s.den_pos
    rw [← Rat.num_divInt_den s] at h3 h4
    exact ⟨(divInt_le_iff hb (by omega)).1 h3, (divInt_le_iff (by omega) hd).1 h4⟩
  refine ⟨⟨(divInt_le_iff hb y0).2 b1, (divInt_le_iff y0 hd).2 b2, ?_, ?_, ?_, ?_⟩, ?_⟩
  · intro s h3 h4
    obtain ⟨k1, k2⟩ := key s h3 h4
    have := (mn s.num s.den (by have := s.den_pos; omega) k1 k2).2
    omega
  · intro s h3 h4 h5 h6
    obtain ⟨k1, k2⟩ := key s h3 h4
    have h7 : (s.den : Int) = rd := by rw [h5, ed]
    rw [h7] at k1 k2
    have h8 := h1.one ha hb hc hd hle' (by omega) k1 k2
    rw [← Rat.num_divInt_den s, h7, h8]
  · intro h3 h4 h5
    have h6 : rd = 1 := by omega
    subst h6
    have h7 : Rat.divInt rn 1 - 1 = ((rn - 1 : Int) : Rat) := by rw [divInt_one, Rat.intCast_sub]; rfl
    have h8 : Rat.divInt rn 1 - 1 ≤ Rat.divInt c d := Rat.le_trans (by grind) ((divInt_le_iff y0 hd).2 b2)
    rw [h7] at h5 h8
    obtain ⟨k1, k2⟩ := key _ h5 h8
    have := (mn _ _ (by have := ((rn - 1 : Int) : Rat).den_pos; omega) k1 k2).1
    rw [Rat.num_intCast] at this
    omega
  · intro h3 h4
    have h5 : 0 < Rat.divInt rn rd := (divInt_pos_iff y0).2 x0
    exact absurd h5 (by grind)
  · unfold raw ratV
    rw [en, ed]
theorem simp_neg {p q r : Rat} (h : Simp (-q) (-p) r) : Simp p q (-r) := by
  obtain ⟨h1, h2, h3, h4, h5, h6⟩ := h
  refine ⟨by grind, by grind, ?_, ?_, ?_, ?_⟩
  · intro s k1 k2
    exact h3 (-s) (by grind) (by grind)
  · intro s k1 k2 k3 k4
    have := h4 (-s) (by grind) (by grind) k3 k4
    grind
  · intro k1 k2 k3
    exact h6 k1 (by grind) (by grind)
  · intro k1 k2 k3
    exact h5 k1 (by grind) (by grind)
theorem simRes_simp {p q : Rat} {v : Value} {n : Int} (hle : p ≤ q) (h : SimRes p q v n) : ∃ r, Simp p q r ∧ v = ratV r ∧ n = 0 := by
  rcases h with ⟨h, _⟩ | ⟨_, hn, ⟨h1, rn, rd, h2, rfl⟩ | ⟨h1, rn, rd, h2, rfl⟩ | ⟨h1, h2, rfl⟩⟩
  · exact absurd h (Rat.not_lt.2 hle)
  · obtain ⟨k1, k2⟩ := simOf_simp h1 hle h2
    exact ⟨_, k1, k2, hn⟩
  · obtain ⟨k1, _⟩ := simOf_simp (by grind) (by grind) h2
    exact ⟨_, simp_neg k1, rfl, hn⟩
  · refine ⟨0, ⟨h1, h2, ?_, ?_, ?_, ?_⟩, rfl, hn⟩
    · intro s _ _
      have := s.den_pos
      show 1 ≤ s.den
      omega
    · intro s _ _ _ k
      exact absurd rfl k
    · intro _ k
      exact absurd k (by decide)
    · intro _ k
      exact absurd k (by decide)
theorem den_shift (r : Rat) (n : Int) : (r + (n : Rat)).den = r.den := by
  have hp := r.den_pos
  have e : r + (n : Rat) = Rat.divInt (r.num + n * (r.den : Int)) (r.den : Int) := by
    rw [Rat.divInt_eq_div, Rat.intCast_add, Rat.intCast_mul]
    have h1 : r = (r.num : Rat) / ((r.den : Int) : Rat) := by rw [← Rat.divInt_eq_div, Rat.num_divInt_den]
    have h2 : ((r.den : Int) : Rat) ≠ 0 := by
      intro h
      have : (r.den : Int) = 0 := Rat.intCast_inj.1 (by rw [h]; rfl)
      omega
    grind
  have hg : Nat.gcd (r.num + n * (r.den : Int)).natAbs (r.den : Int).natAbs = 1 := by
    have h1 : Nat.gcd r.num.natAbs (r.den : Int).natAbs = 1 := by rw [Int.natAbs_natCast]; exact r.reduced
    have h2 : Int.gcd (r.num + n * (r.den : Int)) (r.den : Int) = Int.gcd r.num (r.den : Int) := by simp
    exact h2.trans h1
  have h3 := low_den (n := r.num + n * (r.den : Int)) (d := (r.den : Int)) (by omega)
  rw [← e, hg] at h3
  have h4 : ((r.den : Int)) / ((1 : Nat) : Int) = (r.den : Int) := by simp
  rw [h4] at h3
  omega
theorem simp_shift {p q r s : Rat} (n : Int) (h1 : Simp p q r) (h2 : Simp (p + (n : Rat)) (q + (n : Rat)) s) (hd : r.den ≠ 1) : s = r + (n : Rat) := by
  obtain ⟨a1, a2, a3, a4, _, _⟩ := h1
  obtain ⟨b1, b2, b3, _, _, _⟩ := h2
  have e1 : (s + ((-n : Int) : Rat)).den = s.den := den_shift s (-n)
  have e2 := den_shift r n
  have e3 : s + ((-n : Int) : Rat) = s - (n : Rat) := by rw [Rat.intCast_neg, Rat.sub_eq_add_neg]
  rw [e3] at e1
  have k1 := a3 (s - (n : Rat)) (by grind) (by grind)
  have k2 := b3 (r + (n : Rat)) (by grind) (by grind)
  have k3 := a4 (s - (n : Rat)) (by grind) (by grind) (by omega) hd
  grind
theorem simp_floor {p q r k m : Rat} {d f : Int} (h : Simp p q r) (h0 : 0 < d) (hd : d < (r.den : Int)) (hm : q * Rat.divInt d 1 = m) (hf : m.floor = f) (hk : Rat.divInt f d = k) : cmpQ k p = -1 := by
  have hdp : (0 : Rat) < (d : Rat) := by
    have : ((0 : Int) : Rat) < (d : Rat) := Rat.intCast_lt_intCast.2 h0
    exact this
  have e1 : (f : Rat) ≤ q * (d : Rat) := by
    have := Rat.floor_le m
    rw [hf, ← hm, divInt_one] at this
    exact this
  have e2 : k * (d : Rat) = (f : Rat) := by
    rw [← hk, Rat.divInt_eq_div]
    exact Rat.div_mul_cancel (by grind)
  have e3 : k ≤ q := by
    rcases (Rat.le_total : k ≤ q ∨ q ≤ k) with h1 | h1
    · exact h1
    · have h2 : 0 ≤ (k - q) * (d : Rat) := Rat.mul_nonneg (by grind) (by grind)
      have h3 : (k - q) * (d : Rat) = k * (d : Rat) - q * (d : Rat) := by grind
      have h4 : (k - q) * (d : Rat) = 0 := by grind
      have h5 : k - q = 0 := by
        rcases Rat.mul_eq_zero.1 h4 with h5 | h5
        · exact h5
        · grind
      grind
  have e4 : k.den ≤ d.natAbs := by rw [← hk]; exact low_den_le h0
  have e5 : ¬ p ≤ k := by
    intro h1
    have := h.2.2.1 k h1 e3
    omega
  unfold cmpQ
  rw [if_pos (Rat.not_le.1 e5)]
theorem simp_bd {p q r : Rat} {k : Nat} (h : Simp p q r) (hp : RatBd p k) (hq : RatBd q k) : RatBd r (k + k) := by
  obtain ⟨h1, h2, h3, _⟩ := h
  have e1 := h3 p Rat.le_refl (Rat.le_trans h1 h2)
  have e2 := (Rat.le_iff _ _).1 h1
  have e3 := (Rat.le_iff _ _).1 h2
  have d1 := p.den_pos
  have d2 := q.den_pos
  have d3 := r.den_pos
  have hk : 1 ≤ 4294967296 ^ k := Nat.pow_pos (by omega)
  have hden : r.den < 4294967296 ^ k := Nat.lt_of_le_of_lt e1 hp.2
  constructor
  · have key : r.num.natAbs ≤ p.num.natAbs * r.den ∨ r.num.natAbs ≤ q.num.natAbs * r.den := by
      rcases Int.lt_or_le r.num 0 with h9 | h9
      · left
        have f1 : r.num * (p.den : Int) ≤ r.num * 1 := Int.mul_le_mul_of_nonpos_left (by omega) (by omega)
        have f2 : p.num * (r.den : Int) ≤ r.num := by omega
        have f3 : ((p.num.natAbs * r.den : Nat) : Int) = (p.num.natAbs : Int) * (r.den : Int) := Int.natCast_mul _ _
        have f4 : -(p.num.natAbs : Int) * (r.den : Int) ≤ p.num * (r.den : Int) := Int.mul_le_mul_of_nonneg_right (by omega) (by omega)
        have f5 : -(p.num.natAbs : Int) * (r.den : Int) = -((p.num.natAbs : Int) * (r.den : Int)) := Int.neg_mul _ _
        omega
      · right
        have f1 : r.num * 1 ≤ r.num * (q.den : Int) := Int.mul_le_mul_of_nonneg_left (by omega) h9
        have f3 : ((q.num.natAbs * r.den : Nat) : Int) = (q.num.natAbs : Int) * (r.den : Int) := Int.natCast_mul _ _
        have f4 : q.num * (r.den : Int) ≤ (q.num.natAbs : Int) * (r.den : Int) := Int.mul_le_mul_of_nonneg_right (by omega) (by omega)
        omega
    rcases key with h9 | h9
    · exact Nat.lt_of_le_of_lt h9 (prod_bound hp.1 hden)
    · exact Nat.lt_of_le_of_lt h9 (prod_bound hq.1 hden)
  · exact Nat.lt_of_lt_of_le hden (Nat.pow_le_pow_right (by omega) (by omega))
/-- Simplest, where it is known what is the simplest number. -/
theorem simplest_eq {v1 v2 : Value} {p q r : Rat} {k : Nat} {w : World} (h1 : IsRat v1 p k) (h2 : IsRat v2 q k) (hk1 : 1 ≤ k) (hk : k ≤ 900000) (hle : p ≤ q) (hr : ∀ r', Simp p q r' → r' = r) :
    Calls Tryz.prog 31 #[v1, v2] w (RatGood w r) := by
  refine (simplest_any v1 v2 p q k w h1 h2 hk1 hk).mono ?_
  rintro e w' ⟨v, n, hs, rfl, hb⟩
  obtain ⟨r', h, rfl, rfl⟩ := simRes_simp hle hs
  rw [hr r' h]
  exact ⟨rfl, hb⟩
end Go.Proofs.YtabmhckgdncjlaaGreatDoor

namespace Go.Proofs.YtabmhckgdncjlaaGreatDoor
open Go.RowKit
set_option linter.unusedSimpArgs false

def longRB (n : Nat) (s1 s2 : Nat → ByteArray) : Bool := (List.range n).any fun i => decide (4 < (s1 i).size) || decide (4 < (s2 i).size)

set_option maxRecDepth 100000 in
set_option maxHeartbeats 1600000 in
theorem longR_any (b n c : Nat) (g1 : Nat → Bool) (s1 : Nat → ByteArray) (g2 : Nat → Bool) (s2 : Nat → ByteArray) (w : World) (h : RdRats w b n g1 s1 g2 s2) (hn : n ≤ 1000000) (hs : ∀ i, i < n → (s1 i).size ≤ 9223372036854775807 ∧ (s2 i).size ≤ 9223372036854775807) :
    Calls Tryz.prog 30 #[.slice (some ⟨b, 0, none⟩) n c] w fun e w' => e = .returned (.bool (longRB n s1 s2)) ∧ Below w.heap.size w w' := by
  have H : Hid (RdRats w b n g1 s1 g2 s2) := h
  have Hs := Lib.hid hs
  clear h hs
  go_enter Tryz.func30, Tryz.ntmps30
  go_wp2_with fail
  go_loopg [3] n (fun g s3 wx => g ≤ n ∧ s3 = .int .i64 ((n - g : Nat) : Int) ∧ Below w.heap.size w wx ∧ Hid (∀ i, i < n - g → (s1 i).size ≤ 4 ∧ (s2 i).size ≤ 4))
  case atStart => exact ⟨Nat.le_refl _, by rw [Nat.sub_self]; rfl, Below.refl _ _, fun i hi => absurd hi (by omega)⟩
  case round =>
    obtain ⟨hg, rfl, hb, hall⟩ := hrel
    rcases gk with _ | g
    · have hgr : Hid (longRB n s1 s2 = false) := by
        show _ = _
        unfold longRB
        rw [List.any_eq_false]
        intro i hi
        have := hall.out i (by have := List.mem_range.1 hi; omega)
        simp; omega
      go_wp2
      go_ret
      exact ⟨by rw [hgr.out]; rfl, hb⟩
    · obtain ⟨i, hi⟩ : ∃ i, i = n - (g + 1) := ⟨_, rfl⟩
      rw [← hi] at hall ⊢
      have hin : i < n := by omega
      have HI : Hid (i + 1 = n - g ∧ g + 1 ≤ n) := by show _ ∧ _; omega
      obtain ⟨h1, h2, h3, h4⟩ := H.out i hin
      have x2 : wr.cell? ⟨b, i * 4 + 1, none⟩ = some (.string (s1 i)) := (hb.cell (World.block_lt_of_cell? _ _ h2)).trans h2
      have x4 : wr.cell? ⟨b, i * 4 + 2 + 1, none⟩ = some (.string (s2 i)) := (hb.cell (World.block_lt_of_cell? _ _ h4)).trans h4
      obtain ⟨z1, z2⟩ := Hs.out i hin
      clear hi h1 h2 h3 h4 hg
      by_cases hbig : 4 < (s1 i).size
      · have hgr : Hid (longRB n s1 s2 = true) := by
          show _ = _
          unfold longRB
          rw [List.any_eq_true]
          exact ⟨i, List.mem_range.2 hin, by rw [decide_eq_true hbig]; rfl⟩
        have hbw : decide ((4 : Int) < ((s1 i).size : Int)) = true := decide_eq_true (by omega)
        go_wp2
        go_ret
        exact ⟨by rw [hgr.out]; rfl, hb⟩
      · have hbw : decide ((4 : Int) < ((s1 i).size : Int)) = false := decide_eq_false (by omega)
        by_cases hbig2 : 4 < (s2 i).size
        · have hgr : Hid (longRB n s1 s2 = true) := by
            show _ = _
            unfold longRB
            rw [List.any_eq_true]
            exact ⟨i, List.mem_range.2 hin, by rw [decide_eq_true hbig2]; simp⟩
          have hbw2 : decide ((4 : Int) < ((s2 i).size : Int)) = true := decide_eq_true (by omega)
          go_wp2
          go_ret
          exact ⟨by rw [hgr.out]; rfl, hb⟩
        · have hall2 : Hid (∀ j, j < i + 1 → (s1 j).size ≤ 4 ∧ (s2 j).size ≤ 4) := by
            intro j hj
            by_cases e : j = i
            · subst e; omega
            · exact hall.out j (by omega)
          have hbw2 : decide ((4 : Int) < ((s2 i).size : Int)) = false := decide_eq_false (by omega)
          go_wp2
          go_roundg g
          case measure => omega
          case rel => exact ⟨by have := HI.out.2; omega, by rw [← HI.out.1]; rfl, hb, by rw [← HI.out.1]; exact hall2⟩
/-- A variable of the type api.Rat that may be stored into. -/
def Unf (p : Nat) (W : World) : Prop := p < W.heap.size ∧ W.frozen? ⟨p, 0, none⟩ = false ∧ W.frozen? ⟨p, 1, none⟩ = false ∧ W.frozen? ⟨p, 2, none⟩ = false ∧ W.frozen? ⟨p, 3, none⟩ = false
theorem Unf.keep {p : Nat} {W W1 : World} (h : Unf p W) (hb : Below W.heap.size W W1) : Unf p W1 := by
  obtain ⟨h0, h1, h2, h3, h4⟩ := h
  refine ⟨Nat.lt_of_lt_of_le h0 hb.size, ?_, ?_, ?_, ?_⟩
  · exact (hb.frozen (by dsimp only; omega)).trans h1
  · exact (hb.frozen (by dsimp only; omega)).trans h2
  · exact (hb.frozen (by dsimp only; omega)).trans h3
  · exact (hb.frozen (by dsimp only; omega)).trans h4
theorem Unf.drew {p : Nat} {W : World} (h : Unf p W) : Unf p W.drew := h
theorem Unf.set4 {p q : Nat} {W : World} (h : Unf p W) (u1 u2 u3 u4 : Value) : Unf p ((((W.setCell ⟨q, 0, none⟩ u1).setCell ⟨q, 1, none⟩ u2).setCell ⟨q, 2, none⟩ u3).setCell ⟨q, 3, none⟩ u4) := by
  obtain ⟨h0, h1, h2, h3, h4⟩ := h
  refine ⟨by simp only [World.size_setCell]; exact h0, ?_, ?_, ?_, ?_⟩ <;> simp [go_sem, *]
theorem Vars.swap {L : List (Nat × List Value)} {x y : Nat × List Value} {W : World} (h : Vars (x :: y :: L) W) : Vars (y :: x :: L) W := by
  intro z hz
  rcases List.mem_cons.1 hz with rfl | hz
  · exact h _ (List.mem_cons_of_mem _ List.mem_cons_self)
  · rcases List.mem_cons.1 hz with rfl | hz
    · exact h _ List.mem_cons_self
    · exact h _ (List.mem_cons_of_mem _ (List.mem_cons_of_mem _ hz))
theorem cmpQ_neg {p q : Rat} (h : p ≤ q) : cmpQ p q = -1 ∨ cmpQ p q = 0 := by
  rcases cmpQ_three p q with h1 | h1 | h1
  · exact Or.inl h1.2
  · exact Or.inr h1.2
  · exact absurd h (Rat.not_le.2 h1.1)
theorem new_eq {v1 v2 : Value} {n d : Int} {q : Rat} {k : Nat} {w : World} (h1 : IsInt v1 n k) (h2 : IsInt v2 d k) (h0 : d ≠ 0) (e : Rat.divInt n d = q) : Calls Tryz.prog 32 #[v1, v2] w (RatGood w q) := e ▸ new_some v1 v2 n d k w h1 h2 h0
theorem Unf.new (W : World) (a b c d : Value) (t : TypeId) : Unf W.heap.size (W.alloc (.cells #[a, b, c, d] t)) := by
  refine ⟨?_, ?_, ?_, ?_, ?_⟩ <;> simp [go_sem]
/-- A block that is none of these, and none of those before. -/
def Far (base p : Nat) (L : List (Nat × List Value)) : Prop := (∀ x ∈ L, x.1 ≠ p) ∧ base ≤ p
theorem Far.ne {base p : Nat} {L : List (Nat × List Value)} (h : Far base p L) : ∀ x ∈ L, x.1 ≠ p := h.1
theorem Far.le {base p : Nat} {L : List (Nat × List Value)} (h : Far base p L) : base ≤ p := h.2
theorem long2R (sa sb ta tb : ByteArray) : longRB 2 (sel [sa, sb] ⟨#[]⟩) (sel [ta, tb] ⟨#[]⟩) = ((decide (4 < sa.size) || decide (4 < ta.size)) || (decide (4 < sb.size) || decide (4 < tb.size))) := by simp [longRB, sel, List.range_succ]
theorem arg_rat4 {na nb : Bool} {sa sb : ByteArray} (ha : sa.size ≤ 4) (hb : sb.size ≤ 4) : IsRat (.agg #[.bool na, .string sa, .bool nb, .string sb]) (Rat.divInt (zv na sa) (zv nb sb)) 15 := arg_rat (by omega) (by omega)
end Go.Proofs.YtabmhckgdncjlaaGreatDoor

namespace Go.Proofs.YtabmhckgdncjlaaGreatDoor
open Go.RowKit
set_option linter.unusedSimpArgs false
set_option linter.unusedVariables false
attribute [local go_sem ↓] eqlInt guardInt2 eqlRat guardRat2

theorem smp_le {p q n x y : Rat} (h : p ≤ q) (hx : p + n = x) (hy : q + n = y) : x ≤ y := by rw [← hx, ← hy]; grind
theorem cmpQ_rng3 (a b : Rat) : cmpQ a b = -1 ∨ cmpQ a b = 0 ∨ cmpQ a b = 1 := by
  rcases cmpQ_three a b with ⟨_, e⟩ | ⟨_, e⟩ | ⟨_, e⟩
  · exact Or.inl e
  · exact Or.inr (Or.inl e)
  · exact Or.inr (Or.inr e)
theorem smp_c9 {p q r m o : Rat} (h : Simp p q r) (ho : o = 1) (hm : r - o = m) : cmpQ m q = -1 := by
  have h1 := h.2.1
  unfold cmpQ
  rw [if_pos]
  rw [← hm, ho]
  clear h
  grind
theorem smp_c0 {p q r m u o z : Rat} (h : Simp p q r) (hd : r.den = 1) (hz : z = 0) (ho : o = 1) (hm : r - o = m) (hu : r + o = u) :
    (cmpQ r z = -1 ∧ cmpQ p u = -1 ∧ cmpQ u q = 1) ∨ cmpQ r z = 0 ∨ (cmpQ r z = 1 ∧ cmpQ p m = 1) := by
  obtain ⟨h1, h2, _, _, h5, h6⟩ := h
  have h5 := h5 hd
  have h6 := h6 hd
  subst hz ho
  clear hd
  rcases cmpQ_three r 0 with h | h | h
  · left
    have k2 := h6 h.1
    refine ⟨h.2, ?_, ?_⟩
    · unfold cmpQ
      rw [if_pos]
      rw [← hu]
      clear h5 h6 k2 h
      grind
    · have k3 : q < u := by rw [← hu]; exact Rat.not_le.1 k2
      unfold cmpQ
      rw [if_neg (rlt_asymm k3), if_pos k3]
  · exact Or.inr (Or.inl h.2)
  · right; right
    have k2 := h5 h.1
    refine ⟨h.2, ?_⟩
    have k3 : m < p := by rw [← hm]; exact Rat.not_le.1 k2
    unfold cmpQ
    rw [if_neg (rlt_asymm k3), if_pos k3]

set_option maxRecDepth 100000 in
set_option maxHeartbeats 12800000 in
theorem simplest02_law (na : Bool) (sa : ByteArray) (ma : Bool) (ta : ByteArray) (nb : Bool) (sb : ByteArray) (mb : Bool) (tb : ByteArray) (sh : Int) (w : World) (hsa : sa.size ≤ 9223372036854775807) (hta : ta.size ≤ 9223372036854775807) (hsb : sb.size ≤ 9223372036854775807) (htb : tb.size ≤ 9223372036854775807) (hsh : -32768 ≤ sh) (hsh' : sh ≤ 32767) (h0 : Zero0 w) (htab : Lib.TabIs Tryz.prog w "internal/strconv.uint64pow10" .u64 Lib.pow10Tab) :
    Calls Tryz.prog 9 #[.agg #[.bool na, .string sa, .bool ma, .string ta], .agg #[.bool nb, .string sb, .bool mb, .string tb], .int .i16 sh] w fun e w' => e = .returned (.bool true) ∧ Below w.heap.size w w' := by
  have H0 := Lib.hid h0
  have Ht := Lib.hid htab
  clear h0 htab
  go_enter Tryz.func9, Tryz.ntmps9
  go_wp2_with fail
  refine (longR_any (w.heap.size + 1 + 1) 2 2 (sel [na, nb] false) (sel [sa, sb] ⟨#[]⟩) (sel [ma, mb] false) (sel [ta, tb] ⟨#[]⟩) _ ?_ (by omega) ?_).mono ?_
  · intro i hi
    have : i = 0 ∨ i = 1 := by omega
    rcases this with rfl | rfl <;> (refine ⟨?_, ?_, ?_, ?_⟩ <;> simp [go_sem, sel])
  · intro i hi
    have : i = 0 ∨ i = 1 := by omega
    rcases this with rfl | rfl
    · exact ⟨hsa, hta⟩
    · exact ⟨hsb, htb⟩
  rintro e W0 ⟨rfl, b0⟩
  rw [long2R]
  have K : Vars [(w.heap.size, [.bool na, .string sa, .bool ma, .string ta]), (w.heap.size + 1, [.bool nb, .string sb, .bool mb, .string tb])] W0 := Vars.keep b0 (Vars.cons (four_cells (by simp [go_sem]) (by simp [go_sem]) (by simp [go_sem]) (by simp [go_sem])) (Vars.cons (four_cells (by simp [go_sem]) (by simp [go_sem]) (by simp [go_sem]) (by simp [go_sem])) (Vars.nil _)))
  have B : Below w.heap.size w W0 := below_more (below3 w _ _ _) (Nat.le_refl _) b0
  have U0 : Unf (w.heap.size) W0 := Unf.keep (by refine ⟨?_, ?_, ?_, ?_, ?_⟩ <;> simp [go_sem] <;> omega) b0
  have U1 : Unf (w.heap.size + 1) W0 := Unf.keep (by refine ⟨?_, ?_, ?_, ?_, ?_⟩ <;> simp [go_sem] <;> omega) b0
  clear b0
  by_cases hg : ((decide (4 < sa.size) || decide (4 < ta.size)) || (decide (4 < sb.size) || decide (4 < tb.size))) = true
  · rw [hg]
    clear K U0 U1
    go_wp2_with fail
    refine (awaker_any _ (H0.out.keep B) (tab_keep Ht.out B)).mono ?_
    rintro e W2 ⟨rfl, b2⟩
    go_wp2
    go_ret
    exact ⟨rfl, below_more B (Nat.le_refl _) b2⟩
  rw [Bool.not_eq_true] at hg
  rw [hg]
  have h4 : (sa.size ≤ 4 ∧ ta.size ≤ 4) ∧ (sb.size ≤ 4 ∧ tb.size ≤ 4) := by simpa using hg
  have Aa := Lib.hid (arg_rat4 (na := na) (nb := ma) h4.1.1 h4.1.2)
  have Ab := Lib.hid (arg_rat4 (na := nb) (nb := mb) h4.2.1 h4.2.2)
  clear h4 hg hsa hta hsb htb
  generalize Rat.divInt (zv na sa) (zv ma ta) = qa at *
  generalize Rat.divInt (zv nb sb) (zv mb tb) = qb at *
  have Da := Lib.hid Aa.out.bd
  have Ia := Lib.hid (IsRat.wider Aa.out (show 15 ≤ 400 by omega) (by omega))
  have Db := Lib.hid Ab.out.bd
  have Ib := Lib.hid (IsRat.wider Ab.out (show 15 ≤ 400 by omega) (by omega))
  obtain ⟨c, Ec⟩ : ∃ c, Hid (cmpQ qa qb = c) := ⟨_, Lib.hid rfl⟩
  have hc : (c = -1 ∧ decide (qb < qa) = false) ∨ (c = 0 ∧ decide (qb < qa) = false) ∨ (c = 1 ∧ decide (qb < qa) = true) := by
    rw [← Ec.out]
    rcases cmpQ_three qa qb with ⟨h, e⟩ | ⟨h, e⟩ | ⟨h, e⟩
    · exact Or.inl ⟨e, decide_eq_false (rlt_asymm h)⟩
    · exact Or.inr (Or.inl ⟨e, decide_eq_false (by rw [h]; exact rlt_irr)⟩)
    · exact Or.inr (Or.inr ⟨e, decide_eq_true h⟩)
  have Hc := Lib.hid hc
  clear hc
  go_upto_region 3 with fail
  go_cut [26] (fun s26 wx => s26 = .bool (decide (qb < qa)) ∧ Unf (w.heap.size) wx ∧ Unf (w.heap.size + 1) wx ∧ Vars [(w.heap.size, [.bool na, .string sa, .bool ma, .string ta]), (w.heap.size + 1, [.bool nb, .string sb, .bool mb, .string tb])] wx ∧ Below w.heap.size w wx)
  case first =>
    obtain ⟨t1, t2, t3, t4, t5, t6, t7, t8⟩ : W0.cell? ⟨w.heap.size, 0, none⟩ = some (.bool na) ∧ W0.cell? ⟨w.heap.size, 1, none⟩ = some (.string sa) ∧ W0.cell? ⟨w.heap.size, 2, none⟩ = some (.bool ma) ∧ W0.cell? ⟨w.heap.size, 3, none⟩ = some (.string ta) ∧ W0.cell? ⟨w.heap.size + 1, 0, none⟩ = some (.bool nb) ∧ W0.cell? ⟨w.heap.size + 1, 1, none⟩ = some (.string sb) ∧ W0.cell? ⟨w.heap.size + 1, 2, none⟩ = some (.bool mb) ∧ W0.cell? ⟨w.heap.size + 1, 3, none⟩ = some (.string tb) := ⟨K.at 0 0 rfl, K.at 0 1 rfl, K.at 0 2 rfl, K.at 0 3 rfl, K.at 1 0 rfl, K.at 1 1 rfl, K.at 1 2 rfl, K.at 1 3 rfl⟩
    rcases Hc.out with ⟨rfl, hd⟩ | ⟨rfl, hd⟩ | ⟨rfl, hd⟩
    all_goals
      have Hd := Lib.hid hd
      clear hd
      go_wp2_with fail
      refine (rcmp_eq Ia.out Ib.out (by omega) Ec.out).mono ?_
      rintro e W1 ⟨rfl, b1⟩
      have K := K.keep b1
      have B := below_more B (Nat.le_refl _) b1
      have U0 := U0.keep b1; have U1 := U1.keep b1
      clear b1
      go_wp2_with fail
      go_meet
      exact ⟨by rw [Hd.out], U0, U1, K, B⟩
  case rest =>
    obtain ⟨rfl, U0', U1', K9, B9⟩ := hcut
    clear K B
    have K := K9
    have B := B9
    clear K9 B9
    have U0 := U0'
    have U1 := U1'
    clear U0' U1'
    go_upto_if 26 with fail
    go_cut [26] (fun s26 wx => ∃ (n1 : Bool) (s1 : ByteArray) (m1 : Bool) (t1 : ByteArray) (n2 : Bool) (s2 : ByteArray) (m2 : Bool) (t2 : ByteArray) (p q : Rat), Hid (IsRat (.agg #[.bool n1, .string s1, .bool m1, .string t1]) p 400) ∧ Hid (IsRat (.agg #[.bool n2, .string s2, .bool m2, .string t2]) q 400) ∧ Hid (RatBd p 16) ∧ Hid (RatBd q 16) ∧ Hid (p ≤ q) ∧ Vars [(w.heap.size, [.bool n1, .string s1, .bool m1, .string t1]), (w.heap.size + 1, [.bool n2, .string s2, .bool m2, .string t2])] wx ∧ Below w.heap.size w wx)
    case first =>
      by_cases hd : decide (qb < qa) = true
      · have Hle := Lib.hid (show qb ≤ qa from Rat.le_of_lt (of_decide_eq_true hd))
        rw [hd]
        clear hd
        obtain ⟨t1, t2, t3, t4, t5, t6, t7, t8⟩ : wc.cell? ⟨w.heap.size, 0, none⟩ = some (.bool na) ∧ wc.cell? ⟨w.heap.size, 1, none⟩ = some (.string sa) ∧ wc.cell? ⟨w.heap.size, 2, none⟩ = some (.bool ma) ∧ wc.cell? ⟨w.heap.size, 3, none⟩ = some (.string ta) ∧ wc.cell? ⟨w.heap.size + 1, 0, none⟩ = some (.bool nb) ∧ wc.cell? ⟨w.heap.size + 1, 1, none⟩ = some (.string sb) ∧ wc.cell? ⟨w.heap.size + 1, 2, none⟩ = some (.bool mb) ∧ wc.cell? ⟨w.heap.size + 1, 3, none⟩ = some (.string tb) := ⟨K.at 0 0 rfl, K.at 0 1 rfl, K.at 0 2 rfl, K.at 0 3 rfl, K.at 1 0 rfl, K.at 1 1 rfl, K.at 1 2 rfl, K.at 1 3 rfl⟩
        obtain ⟨-, y1, y2, y3, y4⟩ := id U0
        obtain ⟨-, y5, y6, y7, y8⟩ := id U1
        go_wp2_with fail
        go_meet
        refine ⟨nb, sb, mb, tb, na, sa, ma, ta, qb, qa, Ib, Ia, Db, Da, Hle, ?_, ?_⟩
        · exact Vars.swap (Vars.stored (Vars.swap (Vars.stored K (by simp) nb mb sb tb)) (by simp) na ma sa ta)
        · exact below4s (below4s B _ (by omega) _ _ _ _) _ (by omega) _ _ _ _
      · rw [Bool.not_eq_true] at hd
        have Hle := Lib.hid (show qa ≤ qb from Rat.not_lt.1 (of_decide_eq_false hd))
        rw [hd]
        clear hd
        go_wp2_with fail
        go_meet
        exact ⟨na, sa, ma, ta, nb, sb, mb, tb, qa, qb, Ia, Ib, Da, Db, Hle, K, B⟩
    case rest =>
      obtain ⟨n1, s1, m1, t1, n2, s2, m2, t2, qp, qq, Ip, Iq, Dp, Dq, Hle, K9, B9⟩ := hcut
      clear K B U0 U1 Ia Ib Da Db Aa Ab Ec Hc
      have K := K9
      have B := B9
      clear K9 B9
      go_upto_region 5 with fail
      obtain ⟨x1, x2, x3, x4, x5, x6, x7, x8⟩ : wc.cell? ⟨w.heap.size, 0, none⟩ = some (.bool n1) ∧ wc.cell? ⟨w.heap.size, 1, none⟩ = some (.string s1) ∧ wc.cell? ⟨w.heap.size, 2, none⟩ = some (.bool m1) ∧ wc.cell? ⟨w.heap.size, 3, none⟩ = some (.string t1) ∧ wc.cell? ⟨w.heap.size + 1, 0, none⟩ = some (.bool n2) ∧ wc.cell? ⟨w.heap.size + 1, 1, none⟩ = some (.string s2) ∧ wc.cell? ⟨w.heap.size + 1, 2, none⟩ = some (.bool m2) ∧ wc.cell? ⟨w.heap.size + 1, 3, none⟩ = some (.string t2) := ⟨K.at 0 0 rfl, K.at 0 1 rfl, K.at 0 2 rfl, K.at 0 3 rfl, K.at 1 0 rfl, K.at 1 1 rfl, K.at 1 2 rfl, K.at 1 3 rfl⟩
      go_wp2_with fail
      refine (simplest_any _ _ qp qq 400 _ Ip.out Iq.out (by omega) (by omega)).mono ?_
      rintro e W2 ⟨v, n9, hs, rfl, b2⟩
      have K := K.keep b2
      have B := below_more B (Nat.le_refl _) b2
      clear b2
      clear x1 x2 x3 x4 x5 x6 x7 x8
      obtain ⟨qr, hS, rfl, rfl⟩ := simRes_simp Hle.out hs
      have HS := Lib.hid hS
      clear hS hs
      have Dr := Lib.hid (simp_bd HS.out Dp.out Dq.out)
      have Ir := Lib.hid (rat_is Dr.out 400 (by omega) (by omega))
      have Sr := Lib.hid (sameR_self (sg qr.num) (sg (qr.den : Int)) (mg qr.num) (mg (qr.den : Int)))
      have hbl := below1 W2 (.cells #[.bool (sg qr.num), .string (mg qr.num), .bool (sg (qr.den : Int)), .string (mg (qr.den : Int))] 25)
      have K : Vars ((W2.heap.size, [.bool (sg qr.num), .string (mg qr.num), .bool (sg (qr.den : Int)), .string (mg (qr.den : Int))]) :: [(w.heap.size, [.bool n1, .string s1, .bool m1, .string t1]), (w.heap.size + 1, [.bool n2, .string s2, .bool m2, .string t2])]) (W2.alloc (.cells #[.bool (sg qr.num), .string (mg qr.num), .bool (sg (qr.den : Int)), .string (mg (qr.den : Int))] 25)) := Vars.new K _ _
      have B := below_more B (Nat.le_refl _) hbl
      clear hbl
      unfold ratV
      go_upto_region 6 with fail
      generalize W2.alloc (.cells #[.bool (sg qr.num), .string (mg qr.num), .bool (sg (qr.den : Int)), .string (mg (qr.den : Int))] 25) = V3 at *
      generalize W2.heap.size = p3 at *
      obtain ⟨c5, Ec5⟩ : ∃ c, Hid (cmpQ qp qr = c) := ⟨_, Lib.hid rfl⟩
      obtain ⟨c6, Ec6⟩ : ∃ c, Hid (cmpQ qr qq = c) := ⟨_, Lib.hid rfl⟩
      have H5 := Lib.hid (show c5 = -1 ∨ c5 = 0 by rw [← Ec5.out]; exact cmpQ_neg HS.out.1)
      have H6 := Lib.hid (show c6 = -1 ∨ c6 = 0 by rw [← Ec6.out]; exact cmpQ_neg HS.out.2.1)
      go_cut [53] (fun s53 wx => s53 = .bool false ∧ Vars [(p3, [.bool (sg qr.num), .string (mg qr.num), .bool (sg (qr.den : Int)), .string (mg (qr.den : Int))]), (w.heap.size, [.bool n1, .string s1, .bool m1, .string t1]), (w.heap.size + 1, [.bool n2, .string s2, .bool m2, .string t2])] wx ∧ Below w.heap.size w wx)
      case first =>
        rcases H5.out with rfl | rfl <;> rcases H6.out with rfl | rfl
        all_goals
          obtain ⟨x1, x2, x3, x4, x5, x6, x7, x8, x9, x10, x11, x12⟩ : V3.cell? ⟨p3, 0, none⟩ = some (.bool (sg qr.num)) ∧ V3.cell? ⟨p3, 1, none⟩ = some (.string (mg qr.num)) ∧ V3.cell? ⟨p3, 2, none⟩ = some (.bool (sg (qr.den : Int))) ∧ V3.cell? ⟨p3, 3, none⟩ = some (.string (mg (qr.den : Int))) ∧ V3.cell? ⟨w.heap.size, 0, none⟩ = some (.bool n1) ∧ V3.cell? ⟨w.heap.size, 1, none⟩ = some (.string s1) ∧ V3.cell? ⟨w.heap.size, 2, none⟩ = some (.bool m1) ∧ V3.cell? ⟨w.heap.size, 3, none⟩ = some (.string t1) ∧ V3.cell? ⟨w.heap.size + 1, 0, none⟩ = some (.bool n2) ∧ V3.cell? ⟨w.heap.size + 1, 1, none⟩ = some (.string s2) ∧ V3.cell? ⟨w.heap.size + 1, 2, none⟩ = some (.bool m2) ∧ V3.cell? ⟨w.heap.size + 1, 3, none⟩ = some (.string t2) := ⟨K.at 0 0 rfl, K.at 0 1 rfl, K.at 0 2 rfl, K.at 0 3 rfl, K.at 1 0 rfl, K.at 1 1 rfl, K.at 1 2 rfl, K.at 1 3 rfl, K.at 2 0 rfl, K.at 2 1 rfl, K.at 2 2 rfl, K.at 2 3 rfl⟩
          go_wp2_with fail
          refine (rcmp_eq Ip.out Ir.out (by omega) Ec5.out).mono ?_
          rintro e W4 ⟨rfl, b4⟩
          have K := K.keep b4
          have B := below_more B (Nat.le_refl _) b4
          clear b4
          clear x1 x2 x3 x4 x5 x6 x7 x8 x9 x10 x11 x12
          obtain ⟨x1, x2, x3, x4, x5, x6, x7, x8, x9, x10, x11, x12⟩ : W4.cell? ⟨p3, 0, none⟩ = some (.bool (sg qr.num)) ∧ W4.cell? ⟨p3, 1, none⟩ = some (.string (mg qr.num)) ∧ W4.cell? ⟨p3, 2, none⟩ = some (.bool (sg (qr.den : Int))) ∧ W4.cell? ⟨p3, 3, none⟩ = some (.string (mg (qr.den : Int))) ∧ W4.cell? ⟨w.heap.size, 0, none⟩ = some (.bool n1) ∧ W4.cell? ⟨w.heap.size, 1, none⟩ = some (.string s1) ∧ W4.cell? ⟨w.heap.size, 2, none⟩ = some (.bool m1) ∧ W4.cell? ⟨w.heap.size, 3, none⟩ = some (.string t1) ∧ W4.cell? ⟨w.heap.size + 1, 0, none⟩ = some (.bool n2) ∧ W4.cell? ⟨w.heap.size + 1, 1, none⟩ = some (.string s2) ∧ W4.cell? ⟨w.heap.size + 1, 2, none⟩ = some (.bool m2) ∧ W4.cell? ⟨w.heap.size + 1, 3, none⟩ = some (.string t2) := ⟨K.at 0 0 rfl, K.at 0 1 rfl, K.at 0 2 rfl, K.at 0 3 rfl, K.at 1 0 rfl, K.at 1 1 rfl, K.at 1 2 rfl, K.at 1 3 rfl, K.at 2 0 rfl, K.at 2 1 rfl, K.at 2 2 rfl, K.at 2 3 rfl⟩
          go_wp2_with fail
          refine (rcmp_eq Ir.out Iq.out (by omega) Ec6.out).mono ?_
          rintro e W5 ⟨rfl, b5⟩
          have K := K.keep b5
          have B := below_more B (Nat.le_refl _) b5
          clear b5
          clear x1 x2 x3 x4 x5 x6 x7 x8 x9 x10 x11 x12
          obtain ⟨x1, x2, x3, x4, x5, x6, x7, x8, x9, x10, x11, x12⟩ : W5.cell? ⟨p3, 0, none⟩ = some (.bool (sg qr.num)) ∧ W5.cell? ⟨p3, 1, none⟩ = some (.string (mg qr.num)) ∧ W5.cell? ⟨p3, 2, none⟩ = some (.bool (sg (qr.den : Int))) ∧ W5.cell? ⟨p3, 3, none⟩ = some (.string (mg (qr.den : Int))) ∧ W5.cell? ⟨w.heap.size, 0, none⟩ = some (.bool n1) ∧ W5.cell? ⟨w.heap.size, 1, none⟩ = some (.string s1) ∧ W5.cell? ⟨w.heap.size, 2, none⟩ = some (.bool m1) ∧ W5.cell? ⟨w.heap.size, 3, none⟩ = some (.string t1) ∧ W5.cell? ⟨w.heap.size + 1, 0, none⟩ = some (.bool n2) ∧ W5.cell? ⟨w.heap.size + 1, 1, none⟩ = some (.string s2) ∧ W5.cell? ⟨w.heap.size + 1, 2, none⟩ = some (.bool m2) ∧ W5.cell? ⟨w.heap.size + 1, 3, none⟩ = some (.string t2) := ⟨K.at 0 0 rfl, K.at 0 1 rfl, K.at 0 2 rfl, K.at 0 3 rfl, K.at 1 0 rfl, K.at 1 1 rfl, K.at 1 2 rfl, K.at 1 3 rfl, K.at 2 0 rfl, K.at 2 1 rfl, K.at 2 2 rfl, K.at 2 3 rfl⟩
          go_wp2_with fail
          refine (check_ok _ _ _ _ qr 400 _ Ir.out Sr.out).mono ?_
          rintro e W6 ⟨rfl, b6⟩
          have K := K.keep b6
          have B := below_more B (Nat.le_refl _) b6
          clear b6
          clear x1 x2 x3 x4 x5 x6 x7 x8 x9 x10 x11 x12
          go_wp2_with fail
          go_meet
          exact ⟨rfl, K, B⟩
      case rest =>
        obtain ⟨rfl, K9, B9⟩ := hcut
        clear K B
        have K := K9
        have B := B9
        clear K9 B9
        go_upto_block 0 with fail
        go_cut [9] (fun s9 wx => Vars [(p3, [.bool (sg qr.num), .string (mg qr.num), .bool (sg (qr.den : Int)), .string (mg (qr.den : Int))]), (w.heap.size, [.bool n1, .string s1, .bool m1, .string t1]), (w.heap.size + 1, [.bool n2, .string s2, .bool m2, .string t2])] wx ∧ Below w.heap.size w wx)
        case first =>
          go_wp2_with fail
          go_loopg [9] 60 (fun g s9 wx => g ≤ 60 ∧ s9 = .int .i64 ((61 - g : Nat) : Int) ∧ Vars [(p3, [.bool (sg qr.num), .string (mg qr.num), .bool (sg (qr.den : Int)), .string (mg (qr.den : Int))]), (w.heap.size, [.bool n1, .string s1, .bool m1, .string t1]), (w.heap.size + 1, [.bool n2, .string s2, .bool m2, .string t2])] wx ∧ Below w.heap.size w wx)
          case atStart => exact ⟨Nat.le_refl _, rfl, K, B⟩
          case round =>
            clear K B
            obtain ⟨hg, rfl, K, B⟩ := hrel
            rcases gk with _ | g
            · go_upto_region 9 with fail
              go_big_region
              go_wp2_with fail
              go_meet
              exact ⟨Vars.drew K, B.drew⟩
            · obtain ⟨d, hd⟩ : ∃ d, d = 61 - (g + 1) := ⟨_, rfl⟩
              rw [← hd]
              have hd1 : 1 ≤ d ∧ d ≤ 60 := by omega
              have HI : Hid (d + 1 = 61 - g ∧ g + 1 ≤ 60) := by show _ ∧ _; omega
              clear hd hg
              have h60 : decide ((d : Int) ≤ 60) = true := decide_eq_true (by omega)
              obtain ⟨qd, Eqd⟩ : ∃ r, Hid (Rat.divInt (d : Int) 1 = r) := ⟨_, Lib.hid rfl⟩
              have Dd := Lib.hid (rbd_int (z := (d : Int)) (k := 1) (r := qd) (by omega) (by rw [← Eqd.out, divInt_one]))
              have Id := Lib.hid (rat_is Dd.out 400 (by omega) (by omega))
              obtain ⟨qm, Em⟩ : ∃ r, Hid (qq * qd = r) := ⟨_, Lib.hid rfl⟩
              have Dm := Lib.hid (rbd_mul Dq.out Dd.out Em.out)
              have Im := Lib.hid (rat_is Dm.out 400 (by omega) (by omega))
              obtain ⟨f, Ef⟩ : ∃ f, Hid (qm.floor = f) := ⟨_, Lib.hid rfl⟩
              have Df := Lib.hid (floor_bd Dm.out Ef.out)
              have Jf := Lib.hid ((isInt_mg Df.out (by omega)).wider (show _ ≤ 200 by omega) (by omega))
              have Jd := Lib.hid (isInt_mg (z := (d : Int)) (k := 200) (Nat.lt_of_lt_of_le (show (d : Int).natAbs < 4294967296 ^ 1 by omega) (Nat.pow_le_pow_right (by omega) (by omega))) (by omega))
              obtain ⟨qk, Ek⟩ : ∃ r, Hid (Rat.divInt f (d : Int) = r) := ⟨_, Lib.hid rfl⟩
              have Dk := Lib.hid (show RatBd qk (200 + 1) by rw [← Ek.out]; exact ratBd_divInt Jf.out.bd Jd.out.bd)
              have Ik := Lib.hid (rat_is Dk.out 400 (by omega) (by omega))
              have Jr := Lib.hid (isInt_mg (z := (qr.den : Int)) (k := 200) (by rw [Int.natAbs_natCast]; exact (Dr.out.wider (show 16 + 16 ≤ 200 by omega)).2) (by omega))
              obtain ⟨c7, Ec7⟩ : ∃ c, Hid (cmpZ (d : Int) (qr.den : Int) = c) := ⟨_, Lib.hid rfl⟩
              have h7 : (c7 = -1 ∧ (d : Int) < (qr.den : Int)) ∨ c7 = 0 ∨ c7 = 1 := by rw [← Ec7.out]; unfold cmpZ; split <;> (try split) <;> omega
              rcases h7 with ⟨rfl, hlt⟩ | rfl | rfl
              · have Eck := Lib.hid (simp_floor HS.out (by omega) hlt (by rw [Eqd.out]; exact Em.out) Ef.out Ek.out)
                clear hlt
                go_upto_region 9 with fail
                obtain ⟨x1, x2, x3, x4, x5, x6, x7, x8, x9, x10, x11, x12⟩ : wr.cell? ⟨p3, 0, none⟩ = some (.bool (sg qr.num)) ∧ wr.cell? ⟨p3, 1, none⟩ = some (.string (mg qr.num)) ∧ wr.cell? ⟨p3, 2, none⟩ = some (.bool (sg (qr.den : Int))) ∧ wr.cell? ⟨p3, 3, none⟩ = some (.string (mg (qr.den : Int))) ∧ wr.cell? ⟨w.heap.size, 0, none⟩ = some (.bool n1) ∧ wr.cell? ⟨w.heap.size, 1, none⟩ = some (.string s1) ∧ wr.cell? ⟨w.heap.size, 2, none⟩ = some (.bool m1) ∧ wr.cell? ⟨w.heap.size, 3, none⟩ = some (.string t1) ∧ wr.cell? ⟨w.heap.size + 1, 0, none⟩ = some (.bool n2) ∧ wr.cell? ⟨w.heap.size + 1, 1, none⟩ = some (.string s2) ∧ wr.cell? ⟨w.heap.size + 1, 2, none⟩ = some (.bool m2) ∧ wr.cell? ⟨w.heap.size + 1, 3, none⟩ = some (.string t2) := ⟨K.at 0 0 rfl, K.at 0 1 rfl, K.at 0 2 rfl, K.at 0 3 rfl, K.at 1 0 rfl, K.at 1 1 rfl, K.at 1 2 rfl, K.at 1 3 rfl, K.at 2 0 rfl, K.at 2 1 rfl, K.at 2 2 rfl, K.at 2 3 rfl⟩
                have K0 : Vars [(p3, [.bool (sg qr.num), .string (mg qr.num), .bool (sg (qr.den : Int)), .string (mg (qr.den : Int))]), (w.heap.size, [.bool n1, .string s1, .bool m1, .string t1]), (w.heap.size + 1, [.bool n2, .string s2, .bool m2, .string t2])] wr.drew := K
                have B0 := B.drew
                have KB := And.intro K0 B0
                clear K0 B0
                have FL := Lib.hid (show ∀ W, Vars [(p3, [.bool (sg qr.num), .string (mg qr.num), .bool (sg (qr.den : Int)), .string (mg (qr.den : Int))]), (w.heap.size, [.bool n1, .string s1, .bool m1, .string t1]), (w.heap.size + 1, [.bool n2, .string s2, .bool m2, .string t2])] W → (W.cell? ⟨p3, 0, none⟩ = some (.bool (sg qr.num)) ∧ W.cell? ⟨p3, 1, none⟩ = some (.string (mg qr.num)) ∧ W.cell? ⟨p3, 2, none⟩ = some (.bool (sg (qr.den : Int))) ∧ W.cell? ⟨p3, 3, none⟩ = some (.string (mg (qr.den : Int))) ∧ W.cell? ⟨w.heap.size, 0, none⟩ = some (.bool n1) ∧ W.cell? ⟨w.heap.size, 1, none⟩ = some (.string s1) ∧ W.cell? ⟨w.heap.size, 2, none⟩ = some (.bool m1) ∧ W.cell? ⟨w.heap.size, 3, none⟩ = some (.string t1) ∧ W.cell? ⟨w.heap.size + 1, 0, none⟩ = some (.bool n2) ∧ W.cell? ⟨w.heap.size + 1, 1, none⟩ = some (.string s2) ∧ W.cell? ⟨w.heap.size + 1, 2, none⟩ = some (.bool m2) ∧ W.cell? ⟨w.heap.size + 1, 3, none⟩ = some (.string t2)) from fun W h => ⟨h.at 0 0 rfl, h.at 0 1 rfl, h.at 0 2 rfl, h.at 0 3 rfl, h.at 1 0 rfl, h.at 1 1 rfl, h.at 1 2 rfl, h.at 1 3 rfl, h.at 2 0 rfl, h.at 2 1 rfl, h.at 2 2 rfl, h.at 2 3 rfl⟩)
                go_region_held3 (fun W => W.cell? ⟨p3, 0, none⟩ = some (.bool (sg qr.num)) ∧ W.cell? ⟨p3, 1, none⟩ = some (.string (mg qr.num)) ∧ W.cell? ⟨p3, 2, none⟩ = some (.bool (sg (qr.den : Int))) ∧ W.cell? ⟨p3, 3, none⟩ = some (.string (mg (qr.den : Int))) ∧ W.cell? ⟨w.heap.size, 0, none⟩ = some (.bool n1) ∧ W.cell? ⟨w.heap.size, 1, none⟩ = some (.string s1) ∧ W.cell? ⟨w.heap.size, 2, none⟩ = some (.bool m1) ∧ W.cell? ⟨w.heap.size, 3, none⟩ = some (.string t1) ∧ W.cell? ⟨w.heap.size + 1, 0, none⟩ = some (.bool n2) ∧ W.cell? ⟨w.heap.size + 1, 1, none⟩ = some (.string s2) ∧ W.cell? ⟨w.heap.size + 1, 2, none⟩ = some (.bool m2) ∧ W.cell? ⟨w.heap.size + 1, 3, none⟩ = some (.string t2))
                  (first | (with_reducible exact FL.out _ KB.1) | (with_reducible exact FL.out _ (Vars.alloc KB.1 _)) | exact FL.out _ KB.1)
                  (first
                    | (go_at_call 24; (with_reducible refine (iof_any (d : Int) _ (by omega) (by omega)).mono ?_); rintro e X ⟨rfl, bX⟩; (try unfold ratV); have KB := And.intro (KB.1.keep bX) (below_more KB.2 (Nat.le_refl _) bX))
                    | (go_at_call 23; (with_reducible refine (icmp_eq Jd.out Jr.out Ec7.out).mono ?_); rintro e X ⟨rfl, bX⟩; (try unfold ratV); have KB := And.intro (KB.1.keep bX) (below_more KB.2 (Nat.le_refl _) bX)))
                all_goals go_upto_region 11 with fail
                all_goals
                  have K := KB.1
                  have B := KB.2
                  clear KB FL
                  go_cut [10] (fun s10 wx => ∃ p10 : Nat, s10 = .pointer (some ⟨p10, 0, none⟩) ∧ Vars ((p10, [.bool (sg qk.num), .string (mg qk.num), .bool (sg (qk.den : Int)), .string (mg (qk.den : Int))]) :: [(p3, [.bool (sg qr.num), .string (mg qr.num), .bool (sg (qr.den : Int)), .string (mg (qr.den : Int))]), (w.heap.size, [.bool n1, .string s1, .bool m1, .string t1]), (w.heap.size + 1, [.bool n2, .string s2, .bool m2, .string t2])]) wx ∧ Below w.heap.size w wx)
                  case first =>
                    have KB := And.intro K B
                    have FL := Lib.hid (show ∀ W, Vars [(p3, [.bool (sg qr.num), .string (mg qr.num), .bool (sg (qr.den : Int)), .string (mg (qr.den : Int))]), (w.heap.size, [.bool n1, .string s1, .bool m1, .string t1]), (w.heap.size + 1, [.bool n2, .string s2, .bool m2, .string t2])] W → (W.cell? ⟨p3, 0, none⟩ = some (.bool (sg qr.num)) ∧ W.cell? ⟨p3, 1, none⟩ = some (.string (mg qr.num)) ∧ W.cell? ⟨p3, 2, none⟩ = some (.bool (sg (qr.den : Int))) ∧ W.cell? ⟨p3, 3, none⟩ = some (.string (mg (qr.den : Int))) ∧ W.cell? ⟨w.heap.size, 0, none⟩ = some (.bool n1) ∧ W.cell? ⟨w.heap.size, 1, none⟩ = some (.string s1) ∧ W.cell? ⟨w.heap.size, 2, none⟩ = some (.bool m1) ∧ W.cell? ⟨w.heap.size, 3, none⟩ = some (.string t1) ∧ W.cell? ⟨w.heap.size + 1, 0, none⟩ = some (.bool n2) ∧ W.cell? ⟨w.heap.size + 1, 1, none⟩ = some (.string s2) ∧ W.cell? ⟨w.heap.size + 1, 2, none⟩ = some (.bool m2) ∧ W.cell? ⟨w.heap.size + 1, 3, none⟩ = some (.string t2)) from fun W h => ⟨h.at 0 0 rfl, h.at 0 1 rfl, h.at 0 2 rfl, h.at 0 3 rfl, h.at 1 0 rfl, h.at 1 1 rfl, h.at 1 2 rfl, h.at 1 3 rfl, h.at 2 0 rfl, h.at 2 1 rfl, h.at 2 2 rfl, h.at 2 3 rfl⟩)
                    go_region_held3 (fun W => W.cell? ⟨p3, 0, none⟩ = some (.bool (sg qr.num)) ∧ W.cell? ⟨p3, 1, none⟩ = some (.string (mg qr.num)) ∧ W.cell? ⟨p3, 2, none⟩ = some (.bool (sg (qr.den : Int))) ∧ W.cell? ⟨p3, 3, none⟩ = some (.string (mg (qr.den : Int))) ∧ W.cell? ⟨w.heap.size, 0, none⟩ = some (.bool n1) ∧ W.cell? ⟨w.heap.size, 1, none⟩ = some (.string s1) ∧ W.cell? ⟨w.heap.size, 2, none⟩ = some (.bool m1) ∧ W.cell? ⟨w.heap.size, 3, none⟩ = some (.string t1) ∧ W.cell? ⟨w.heap.size + 1, 0, none⟩ = some (.bool n2) ∧ W.cell? ⟨w.heap.size + 1, 1, none⟩ = some (.string s2) ∧ W.cell? ⟨w.heap.size + 1, 2, none⟩ = some (.bool m2) ∧ W.cell? ⟨w.heap.size + 1, 3, none⟩ = some (.string t2))
                      (first | (with_reducible exact FL.out _ KB.1) | (with_reducible exact FL.out _ (Vars.drew KB.1)) | (with_reducible exact FL.out _ (Vars.alloc KB.1 _)) | (with_reducible exact FL.out _ (Vars.drew (Vars.alloc KB.1 _))) | (with_reducible exact FL.out _ (Vars.set4 KB.1 KR.2.1 _ _ _ _)) | go_keep)
                      (first
                        | (go_at_call 14; (with_reducible refine (lratio_any (d : Int) 1 qd _ (by omega) (by omega) (by omega) (by omega) (by omega) Eqd.out).mono ?_); rintro e X ⟨rfl, bX⟩; (try unfold ratV); (first | (with_reducible have KR := And.intro (ResRat.keep KR.1 bX) KR.2) | have KR := And.intro (ResRat.keep (ResRat.new _) bX) (And.intro (KB.1.far (Nat.le_refl _)) KB.2.size) | have KR := And.intro (ResRat.keep (ResRat.drew (ResRat.new _)) bX) (And.intro (KB.1.far (Nat.le_refl _)) KB.2.size) | skip); (try obtain ⟨⟨⟨r1, r2, r3, r4⟩, r5, r6, r7, r8⟩, _⟩ := id KR); (first | (with_reducible have KB := And.intro (KB.1.keep bX) (below_more KB.2 (Nat.le_refl _) bX)) | have KB := And.intro ((Vars.drew KB.1).keep bX) (below_more (Below.drew KB.2) (Nat.le_refl _) bX) | have KB := And.intro ((KB.1.alloc _).keep bX) (below_more (below_al KB.2 _) (Nat.le_refl _) bX) | have KB := And.intro ((Vars.drew (KB.1.alloc _)).keep bX) (below_more (Below.drew (below_al KB.2 _)) (Nat.le_refl _) bX)))
                        | (go_at_call 13; (with_reducible refine (rmul_any _ _ qq qd qm 400 _ Iq.out Id.out (by omega) Em.out).mono ?_); rintro e X ⟨rfl, bX⟩; (try unfold ratV); (first | (with_reducible have KR := And.intro (ResRat.keep KR.1 bX) KR.2) | have KR := And.intro (ResRat.keep (ResRat.new _) bX) (And.intro (KB.1.far (Nat.le_refl _)) KB.2.size) | have KR := And.intro (ResRat.keep (ResRat.drew (ResRat.new _)) bX) (And.intro (KB.1.far (Nat.le_refl _)) KB.2.size) | skip); (try obtain ⟨⟨⟨r1, r2, r3, r4⟩, r5, r6, r7, r8⟩, _⟩ := id KR); (first | (with_reducible have KB := And.intro (KB.1.keep bX) (below_more KB.2 (Nat.le_refl _) bX)) | have KB := And.intro ((Vars.drew KB.1).keep bX) (below_more (Below.drew KB.2) (Nat.le_refl _) bX) | have KB := And.intro ((KB.1.alloc _).keep bX) (below_more (below_al KB.2 _) (Nat.le_refl _) bX) | have KB := And.intro ((Vars.drew (KB.1.alloc _)).keep bX) (below_more (Below.drew (below_al KB.2 _)) (Nat.le_refl _) bX)))
                        | (go_at_call 19; (with_reducible refine (rfloor_any _ qm f 400 _ Im.out Ef.out).mono ?_); rintro e X ⟨rfl, bX⟩; (try unfold ratV); (first | (with_reducible have KR := And.intro (ResRat.keep KR.1 bX) KR.2) | have KR := And.intro (ResRat.keep (ResRat.new _) bX) (And.intro (KB.1.far (Nat.le_refl _)) KB.2.size) | have KR := And.intro (ResRat.keep (ResRat.drew (ResRat.new _)) bX) (And.intro (KB.1.far (Nat.le_refl _)) KB.2.size) | skip); (try obtain ⟨⟨⟨r1, r2, r3, r4⟩, r5, r6, r7, r8⟩, _⟩ := id KR); (first | (with_reducible have KB := And.intro (KB.1.keep bX) (below_more KB.2 (Nat.le_refl _) bX)) | have KB := And.intro ((Vars.drew KB.1).keep bX) (below_more (Below.drew KB.2) (Nat.le_refl _) bX) | have KB := And.intro ((KB.1.alloc _).keep bX) (below_more (below_al KB.2 _) (Nat.le_refl _) bX) | have KB := And.intro ((Vars.drew (KB.1.alloc _)).keep bX) (below_more (Below.drew (below_al KB.2 _)) (Nat.le_refl _) bX)))
                        | (go_at_call 24; (with_reducible refine (iof_any (d : Int) _ (by omega) (by omega)).mono ?_); rintro e X ⟨rfl, bX⟩; (try unfold ratV); (first | (with_reducible have KR := And.intro (ResRat.keep KR.1 bX) KR.2) | have KR := And.intro (ResRat.keep (ResRat.new _) bX) (And.intro (KB.1.far (Nat.le_refl _)) KB.2.size) | have KR := And.intro (ResRat.keep (ResRat.drew (ResRat.new _)) bX) (And.intro (KB.1.far (Nat.le_refl _)) KB.2.size) | skip); (try obtain ⟨⟨⟨r1, r2, r3, r4⟩, r5, r6, r7, r8⟩, _⟩ := id KR); (first | (with_reducible have KB := And.intro (KB.1.keep bX) (below_more KB.2 (Nat.le_refl _) bX)) | have KB := And.intro ((Vars.drew KB.1).keep bX) (below_more (Below.drew KB.2) (Nat.le_refl _) bX) | have KB := And.intro ((KB.1.alloc _).keep bX) (below_more (below_al KB.2 _) (Nat.le_refl _) bX) | have KB := And.intro ((Vars.drew (KB.1.alloc _)).keep bX) (below_more (Below.drew (below_al KB.2 _)) (Nat.le_refl _) bX)))
                        | (go_at_call 32; (with_reducible refine (new_eq Jf.out Jd.out (by omega) Ek.out).mono ?_); rintro e X ⟨rfl, bX⟩; (try unfold ratV); (first | (with_reducible have KR := And.intro (ResRat.keep KR.1 bX) KR.2) | have KR := And.intro (ResRat.keep (ResRat.new _) bX) (And.intro (KB.1.far (Nat.le_refl _)) KB.2.size) | have KR := And.intro (ResRat.keep (ResRat.drew (ResRat.new _)) bX) (And.intro (KB.1.far (Nat.le_refl _)) KB.2.size) | skip); (try obtain ⟨⟨⟨r1, r2, r3, r4⟩, r5, r6, r7, r8⟩, _⟩ := id KR); (first | (with_reducible have KB := And.intro (KB.1.keep bX) (below_more KB.2 (Nat.le_refl _) bX)) | have KB := And.intro ((Vars.drew KB.1).keep bX) (below_more (Below.drew KB.2) (Nat.le_refl _) bX) | have KB := And.intro ((KB.1.alloc _).keep bX) (below_more (below_al KB.2 _) (Nat.le_refl _) bX) | have KB := And.intro ((Vars.drew (KB.1.alloc _)).keep bX) (below_more (Below.drew (below_al KB.2 _)) (Nat.le_refl _) bX))))
                    all_goals go_wp2_with fail
                    all_goals go_meet
                    all_goals refine ⟨_, rfl, ?_, ?_⟩
                    all_goals first | exact Vars.stored (Vars.cons (four_cells r1 r2 r3 r4) KB.1) KR.2.1 _ _ _ _ | exact Vars.new KB.1 _ _ | exact below4s KB.2 _ KR.2.2 _ _ _ _ | exact below_al KB.2 _
                  case rest =>
                    obtain ⟨p10, rfl, K9, B9⟩ := hcut
                    clear K B
                    have K := K9
                    have B := B9
                    clear K9 B9
                    go_upto_region 12 with fail
                    obtain ⟨x1, x2, x3, x4, x5, x6, x7, x8, x9, x10, x11, x12, x13, x14, x15, x16⟩ : wc.cell? ⟨p10, 0, none⟩ = some (.bool (sg qk.num)) ∧ wc.cell? ⟨p10, 1, none⟩ = some (.string (mg qk.num)) ∧ wc.cell? ⟨p10, 2, none⟩ = some (.bool (sg (qk.den : Int))) ∧ wc.cell? ⟨p10, 3, none⟩ = some (.string (mg (qk.den : Int))) ∧ wc.cell? ⟨p3, 0, none⟩ = some (.bool (sg qr.num)) ∧ wc.cell? ⟨p3, 1, none⟩ = some (.string (mg qr.num)) ∧ wc.cell? ⟨p3, 2, none⟩ = some (.bool (sg (qr.den : Int))) ∧ wc.cell? ⟨p3, 3, none⟩ = some (.string (mg (qr.den : Int))) ∧ wc.cell? ⟨w.heap.size, 0, none⟩ = some (.bool n1) ∧ wc.cell? ⟨w.heap.size, 1, none⟩ = some (.string s1) ∧ wc.cell? ⟨w.heap.size, 2, none⟩ = some (.bool m1) ∧ wc.cell? ⟨w.heap.size, 3, none⟩ = some (.string t1) ∧ wc.cell? ⟨w.heap.size + 1, 0, none⟩ = some (.bool n2) ∧ wc.cell? ⟨w.heap.size + 1, 1, none⟩ = some (.string s2) ∧ wc.cell? ⟨w.heap.size + 1, 2, none⟩ = some (.bool m2) ∧ wc.cell? ⟨w.heap.size + 1, 3, none⟩ = some (.string t2) := ⟨K.at 0 0 rfl, K.at 0 1 rfl, K.at 0 2 rfl, K.at 0 3 rfl, K.at 1 0 rfl, K.at 1 1 rfl, K.at 1 2 rfl, K.at 1 3 rfl, K.at 2 0 rfl, K.at 2 1 rfl, K.at 2 2 rfl, K.at 2 3 rfl, K.at 3 0 rfl, K.at 3 1 rfl, K.at 3 2 rfl, K.at 3 3 rfl⟩
                    go_wp2_with fail
                    refine (rcmp_eq Ik.out Ip.out (by omega) Eck.out).mono ?_
                    rintro e W7 ⟨rfl, b7⟩
                    have K := K.keep b7
                    have B := below_more B (Nat.le_refl _) b7
                    clear b7
                    clear x1 x2 x3 x4 x5 x6 x7 x8 x9 x10 x11 x12 x13 x14 x15 x16
                    go_wp2
                    go_roundg g
                    case measure => omega
                    case rel => exact ⟨by have := HI.out.2; omega, by rw [← HI.out.1]; rfl, K.tail, B⟩
              · go_upto_region 9 with fail
                obtain ⟨x1, x2, x3, x4, x5, x6, x7, x8, x9, x10, x11, x12⟩ : wr.cell? ⟨p3, 0, none⟩ = some (.bool (sg qr.num)) ∧ wr.cell? ⟨p3, 1, none⟩ = some (.string (mg qr.num)) ∧ wr.cell? ⟨p3, 2, none⟩ = some (.bool (sg (qr.den : Int))) ∧ wr.cell? ⟨p3, 3, none⟩ = some (.string (mg (qr.den : Int))) ∧ wr.cell? ⟨w.heap.size, 0, none⟩ = some (.bool n1) ∧ wr.cell? ⟨w.heap.size, 1, none⟩ = some (.string s1) ∧ wr.cell? ⟨w.heap.size, 2, none⟩ = some (.bool m1) ∧ wr.cell? ⟨w.heap.size, 3, none⟩ = some (.string t1) ∧ wr.cell? ⟨w.heap.size + 1, 0, none⟩ = some (.bool n2) ∧ wr.cell? ⟨w.heap.size + 1, 1, none⟩ = some (.string s2) ∧ wr.cell? ⟨w.heap.size + 1, 2, none⟩ = some (.bool m2) ∧ wr.cell? ⟨w.heap.size + 1, 3, none⟩ = some (.string t2) := ⟨K.at 0 0 rfl, K.at 0 1 rfl, K.at 0 2 rfl, K.at 0 3 rfl, K.at 1 0 rfl, K.at 1 1 rfl, K.at 1 2 rfl, K.at 1 3 rfl, K.at 2 0 rfl, K.at 2 1 rfl, K.at 2 2 rfl, K.at 2 3 rfl⟩
                have K0 : Vars [(p3, [.bool (sg qr.num), .string (mg qr.num), .bool (sg (qr.den : Int)), .string (mg (qr.den : Int))]), (w.heap.size, [.bool n1, .string s1, .bool m1, .string t1]), (w.heap.size + 1, [.bool n2, .string s2, .bool m2, .string t2])] wr.drew := K
                have B0 := B.drew
                have KB := And.intro K0 B0
                clear K0 B0
                have FL := Lib.hid (show ∀ W, Vars [(p3, [.bool (sg qr.num), .string (mg qr.num), .bool (sg (qr.den : Int)), .string (mg (qr.den : Int))]), (w.heap.size, [.bool n1, .string s1, .bool m1, .string t1]), (w.heap.size + 1, [.bool n2, .string s2, .bool m2, .string t2])] W → (W.cell? ⟨p3, 0, none⟩ = some (.bool (sg qr.num)) ∧ W.cell? ⟨p3, 1, none⟩ = some (.string (mg qr.num)) ∧ W.cell? ⟨p3, 2, none⟩ = some (.bool (sg (qr.den : Int))) ∧ W.cell? ⟨p3, 3, none⟩ = some (.string (mg (qr.den : Int))) ∧ W.cell? ⟨w.heap.size, 0, none⟩ = some (.bool n1) ∧ W.cell? ⟨w.heap.size, 1, none⟩ = some (.string s1) ∧ W.cell? ⟨w.heap.size, 2, none⟩ = some (.bool m1) ∧ W.cell? ⟨w.heap.size, 3, none⟩ = some (.string t1) ∧ W.cell? ⟨w.heap.size + 1, 0, none⟩ = some (.bool n2) ∧ W.cell? ⟨w.heap.size + 1, 1, none⟩ = some (.string s2) ∧ W.cell? ⟨w.heap.size + 1, 2, none⟩ = some (.bool m2) ∧ W.cell? ⟨w.heap.size + 1, 3, none⟩ = some (.string t2)) from fun W h => ⟨h.at 0 0 rfl, h.at 0 1 rfl, h.at 0 2 rfl, h.at 0 3 rfl, h.at 1 0 rfl, h.at 1 1 rfl, h.at 1 2 rfl, h.at 1 3 rfl, h.at 2 0 rfl, h.at 2 1 rfl, h.at 2 2 rfl, h.at 2 3 rfl⟩)
                go_region_held3 (fun W => W.cell? ⟨p3, 0, none⟩ = some (.bool (sg qr.num)) ∧ W.cell? ⟨p3, 1, none⟩ = some (.string (mg qr.num)) ∧ W.cell? ⟨p3, 2, none⟩ = some (.bool (sg (qr.den : Int))) ∧ W.cell? ⟨p3, 3, none⟩ = some (.string (mg (qr.den : Int))) ∧ W.cell? ⟨w.heap.size, 0, none⟩ = some (.bool n1) ∧ W.cell? ⟨w.heap.size, 1, none⟩ = some (.string s1) ∧ W.cell? ⟨w.heap.size, 2, none⟩ = some (.bool m1) ∧ W.cell? ⟨w.heap.size, 3, none⟩ = some (.string t1) ∧ W.cell? ⟨w.heap.size + 1, 0, none⟩ = some (.bool n2) ∧ W.cell? ⟨w.heap.size + 1, 1, none⟩ = some (.string s2) ∧ W.cell? ⟨w.heap.size + 1, 2, none⟩ = some (.bool m2) ∧ W.cell? ⟨w.heap.size + 1, 3, none⟩ = some (.string t2))
                  (first | (with_reducible exact FL.out _ KB.1) | (with_reducible exact FL.out _ (Vars.alloc KB.1 _)) | exact FL.out _ KB.1)
                  (first
                    | (go_at_call 24; (with_reducible refine (iof_any (d : Int) _ (by omega) (by omega)).mono ?_); rintro e X ⟨rfl, bX⟩; (try unfold ratV); have KB := And.intro (KB.1.keep bX) (below_more KB.2 (Nat.le_refl _) bX))
                    | (go_at_call 23; (with_reducible refine (icmp_eq Jd.out Jr.out Ec7.out).mono ?_); rintro e X ⟨rfl, bX⟩; (try unfold ratV); have KB := And.intro (KB.1.keep bX) (below_more KB.2 (Nat.le_refl _) bX)))
                all_goals go_wp2_with fail
                all_goals go_meet
                all_goals exact ⟨KB.1, KB.2⟩
              · go_upto_region 9 with fail
                obtain ⟨x1, x2, x3, x4, x5, x6, x7, x8, x9, x10, x11, x12⟩ : wr.cell? ⟨p3, 0, none⟩ = some (.bool (sg qr.num)) ∧ wr.cell? ⟨p3, 1, none⟩ = some (.string (mg qr.num)) ∧ wr.cell? ⟨p3, 2, none⟩ = some (.bool (sg (qr.den : Int))) ∧ wr.cell? ⟨p3, 3, none⟩ = some (.string (mg (qr.den : Int))) ∧ wr.cell? ⟨w.heap.size, 0, none⟩ = some (.bool n1) ∧ wr.cell? ⟨w.heap.size, 1, none⟩ = some (.string s1) ∧ wr.cell? ⟨w.heap.size, 2, none⟩ = some (.bool m1) ∧ wr.cell? ⟨w.heap.size, 3, none⟩ = some (.string t1) ∧ wr.cell? ⟨w.heap.size + 1, 0, none⟩ = some (.bool n2) ∧ wr.cell? ⟨w.heap.size + 1, 1, none⟩ = some (.string s2) ∧ wr.cell? ⟨w.heap.size + 1, 2, none⟩ = some (.bool m2) ∧ wr.cell? ⟨w.heap.size + 1, 3, none⟩ = some (.string t2) := ⟨K.at 0 0 rfl, K.at 0 1 rfl, K.at 0 2 rfl, K.at 0 3 rfl, K.at 1 0 rfl, K.at 1 1 rfl, K.at 1 2 rfl, K.at 1 3 rfl, K.at 2 0 rfl, K.at 2 1 rfl, K.at 2 2 rfl, K.at 2 3 rfl⟩
                have K0 : Vars [(p3, [.bool (sg qr.num), .string (mg qr.num), .bool (sg (qr.den : Int)), .string (mg (qr.den : Int))]), (w.heap.size, [.bool n1, .string s1, .bool m1, .string t1]), (w.heap.size + 1, [.bool n2, .string s2, .bool m2, .string t2])] wr.drew := K
                have B0 := B.drew
                have KB := And.intro K0 B0
                clear K0 B0
                have FL := Lib.hid (show ∀ W, Vars [(p3, [.bool (sg qr.num), .string (mg qr.num), .bool (sg (qr.den : Int)), .string (mg (qr.den : Int))]), (w.heap.size, [.bool n1, .string s1, .bool m1, .string t1]), (w.heap.size + 1, [.bool n2, .string s2, .bool m2, .string t2])] W → (W.cell? ⟨p3, 0, none⟩ = some (.bool (sg qr.num)) ∧ W.cell? ⟨p3, 1, none⟩ = some (.string (mg qr.num)) ∧ W.cell? ⟨p3, 2, none⟩ = some (.bool (sg (qr.den : Int))) ∧ W.cell? ⟨p3, 3, none⟩ = some (.string (mg (qr.den : Int))) ∧ W.cell? ⟨w.heap.size, 0, none⟩ = some (.bool n1) ∧ W.cell? ⟨w.heap.size, 1, none⟩ = some (.string s1) ∧ W.cell? ⟨w.heap.size, 2, none⟩ = some (.bool m1) ∧ W.cell? ⟨w.heap.size, 3, none⟩ = some (.string t1) ∧ W.cell? ⟨w.heap.size + 1, 0, none⟩ = some (.bool n2) ∧ W.cell? ⟨w.heap.size + 1, 1, none⟩ = some (.string s2) ∧ W.cell? ⟨w.heap.size + 1, 2, none⟩ = some (.bool m2) ∧ W.cell? ⟨w.heap.size + 1, 3, none⟩ = some (.string t2)) from fun W h => ⟨h.at 0 0 rfl, h.at 0 1 rfl, h.at 0 2 rfl, h.at 0 3 rfl, h.at 1 0 rfl, h.at 1 1 rfl, h.at 1 2 rfl, h.at 1 3 rfl, h.at 2 0 rfl, h.at 2 1 rfl, h.at 2 2 rfl, h.at 2 3 rfl⟩)
                go_region_held3 (fun W => W.cell? ⟨p3, 0, none⟩ = some (.bool (sg qr.num)) ∧ W.cell? ⟨p3, 1, none⟩ = some (.string (mg qr.num)) ∧ W.cell? ⟨p3, 2, none⟩ = some (.bool (sg (qr.den : Int))) ∧ W.cell? ⟨p3, 3, none⟩ = some (.string (mg (qr.den : Int))) ∧ W.cell? ⟨w.heap.size, 0, none⟩ = some (.bool n1) ∧ W.cell? ⟨w.heap.size, 1, none⟩ = some (.string s1) ∧ W.cell? ⟨w.heap.size, 2, none⟩ = some (.bool m1) ∧ W.cell? ⟨w.heap.size, 3, none⟩ = some (.string t1) ∧ W.cell? ⟨w.heap.size + 1, 0, none⟩ = some (.bool n2) ∧ W.cell? ⟨w.heap.size + 1, 1, none⟩ = some (.string s2) ∧ W.cell? ⟨w.heap.size + 1, 2, none⟩ = some (.bool m2) ∧ W.cell? ⟨w.heap.size + 1, 3, none⟩ = some (.string t2))
                  (first | (with_reducible exact FL.out _ KB.1) | (with_reducible exact FL.out _ (Vars.alloc KB.1 _)) | exact FL.out _ KB.1)
                  (first
                    | (go_at_call 24; (with_reducible refine (iof_any (d : Int) _ (by omega) (by omega)).mono ?_); rintro e X ⟨rfl, bX⟩; (try unfold ratV); have KB := And.intro (KB.1.keep bX) (below_more KB.2 (Nat.le_refl _) bX))
                    | (go_at_call 23; (with_reducible refine (icmp_eq Jd.out Jr.out Ec7.out).mono ?_); rintro e X ⟨rfl, bX⟩; (try unfold ratV); have KB := And.intro (KB.1.keep bX) (below_more KB.2 (Nat.le_refl _) bX)))
                all_goals go_wp2_with fail
                all_goals go_meet
                all_goals exact ⟨KB.1, KB.2⟩
        case rest =>
          obtain ⟨K9, B9⟩ := hcut
          clear K B
          have K := K9
          have B := B9
          clear K9 B9
          go_upto_region 14 with fail
          go_cut [84] (fun s84 wx => s84 = .bool (decide ((qr.den : Int) = 1)) ∧ Vars [(p3, [.bool (sg qr.num), .string (mg qr.num), .bool (sg (qr.den : Int)), .string (mg (qr.den : Int))]), (w.heap.size, [.bool n1, .string s1, .bool m1, .string t1]), (w.heap.size + 1, [.bool n2, .string s2, .bool m2, .string t2])] wx ∧ Below w.heap.size w wx)
          case first =>
            obtain ⟨x1, x2, x3, x4, x5, x6, x7, x8, x9, x10, x11, x12⟩ : wc.cell? ⟨p3, 0, none⟩ = some (.bool (sg qr.num)) ∧ wc.cell? ⟨p3, 1, none⟩ = some (.string (mg qr.num)) ∧ wc.cell? ⟨p3, 2, none⟩ = some (.bool (sg (qr.den : Int))) ∧ wc.cell? ⟨p3, 3, none⟩ = some (.string (mg (qr.den : Int))) ∧ wc.cell? ⟨w.heap.size, 0, none⟩ = some (.bool n1) ∧ wc.cell? ⟨w.heap.size, 1, none⟩ = some (.string s1) ∧ wc.cell? ⟨w.heap.size, 2, none⟩ = some (.bool m1) ∧ wc.cell? ⟨w.heap.size, 3, none⟩ = some (.string t1) ∧ wc.cell? ⟨w.heap.size + 1, 0, none⟩ = some (.bool n2) ∧ wc.cell? ⟨w.heap.size + 1, 1, none⟩ = some (.string s2) ∧ wc.cell? ⟨w.heap.size + 1, 2, none⟩ = some (.bool m2) ∧ wc.cell? ⟨w.heap.size + 1, 3, none⟩ = some (.string t2) := ⟨K.at 0 0 rfl, K.at 0 1 rfl, K.at 0 2 rfl, K.at 0 3 rfl, K.at 1 0 rfl, K.at 1 1 rfl, K.at 1 2 rfl, K.at 1 3 rfl, K.at 2 0 rfl, K.at 2 1 rfl, K.at 2 2 rfl, K.at 2 3 rfl⟩
            have K0 : Vars [(p3, [.bool (sg qr.num), .string (mg qr.num), .bool (sg (qr.den : Int)), .string (mg (qr.den : Int))]), (w.heap.size, [.bool n1, .string s1, .bool m1, .string t1]), (w.heap.size + 1, [.bool n2, .string s2, .bool m2, .string t2])] wc.drew := K
            have B0 := B.drew
            have KB := And.intro K0 B0
            clear K0 B0
            have FL := Lib.hid (show ∀ W, Vars [(p3, [.bool (sg qr.num), .string (mg qr.num), .bool (sg (qr.den : Int)), .string (mg (qr.den : Int))]), (w.heap.size, [.bool n1, .string s1, .bool m1, .string t1]), (w.heap.size + 1, [.bool n2, .string s2, .bool m2, .string t2])] W → (W.cell? ⟨p3, 0, none⟩ = some (.bool (sg qr.num)) ∧ W.cell? ⟨p3, 1, none⟩ = some (.string (mg qr.num)) ∧ W.cell? ⟨p3, 2, none⟩ = some (.bool (sg (qr.den : Int))) ∧ W.cell? ⟨p3, 3, none⟩ = some (.string (mg (qr.den : Int))) ∧ W.cell? ⟨w.heap.size, 0, none⟩ = some (.bool n1) ∧ W.cell? ⟨w.heap.size, 1, none⟩ = some (.string s1) ∧ W.cell? ⟨w.heap.size, 2, none⟩ = some (.bool m1) ∧ W.cell? ⟨w.heap.size, 3, none⟩ = some (.string t1) ∧ W.cell? ⟨w.heap.size + 1, 0, none⟩ = some (.bool n2) ∧ W.cell? ⟨w.heap.size + 1, 1, none⟩ = some (.string s2) ∧ W.cell? ⟨w.heap.size + 1, 2, none⟩ = some (.bool m2) ∧ W.cell? ⟨w.heap.size + 1, 3, none⟩ = some (.string t2)) from fun W h => ⟨h.at 0 0 rfl, h.at 0 1 rfl, h.at 0 2 rfl, h.at 0 3 rfl, h.at 1 0 rfl, h.at 1 1 rfl, h.at 1 2 rfl, h.at 1 3 rfl, h.at 2 0 rfl, h.at 2 1 rfl, h.at 2 2 rfl, h.at 2 3 rfl⟩)
            go_region_held3 (fun W => W.cell? ⟨p3, 0, none⟩ = some (.bool (sg qr.num)) ∧ W.cell? ⟨p3, 1, none⟩ = some (.string (mg qr.num)) ∧ W.cell? ⟨p3, 2, none⟩ = some (.bool (sg (qr.den : Int))) ∧ W.cell? ⟨p3, 3, none⟩ = some (.string (mg (qr.den : Int))) ∧ W.cell? ⟨w.heap.size, 0, none⟩ = some (.bool n1) ∧ W.cell? ⟨w.heap.size, 1, none⟩ = some (.string s1) ∧ W.cell? ⟨w.heap.size, 2, none⟩ = some (.bool m1) ∧ W.cell? ⟨w.heap.size, 3, none⟩ = some (.string t1) ∧ W.cell? ⟨w.heap.size + 1, 0, none⟩ = some (.bool n2) ∧ W.cell? ⟨w.heap.size + 1, 1, none⟩ = some (.string s2) ∧ W.cell? ⟨w.heap.size + 1, 2, none⟩ = some (.bool m2) ∧ W.cell? ⟨w.heap.size + 1, 3, none⟩ = some (.string t2))
              (first | (with_reducible exact FL.out _ KB.1) | (with_reducible exact FL.out _ (Vars.alloc KB.1 _)) | exact FL.out _ KB.1)
              (first
                | (go_at_call 24; (with_reducible refine (iof_any 1 _ (by omega) (by omega)).mono ?_); rintro e X ⟨rfl, bX⟩; (try unfold ratV); have KB := And.intro (KB.1.keep bX) (below_more KB.2 (Nat.le_refl _) bX)))
            all_goals go_wp2_with fail
            all_goals go_meet
            all_goals exact ⟨congrArg Value.bool (same_one _), KB.1, KB.2⟩
          case rest =>
            obtain ⟨rfl, K9, B9⟩ := hcut
            clear K B
            have K := K9
            have B := B9
            clear K9 B9
            by_cases hden : decide ((qr.den : Int) = 1) = true
            · have hden1 : qr.den = 1 := by have := of_decide_eq_true hden; omega
              have Hden := Lib.hid hden1
              rw [hden]
              clear hden hden1
              obtain ⟨qz, Ez⟩ : ∃ r, Hid (Rat.divInt 0 1 = r) := ⟨_, Lib.hid rfl⟩
              have Dz := Lib.hid (show RatBd qz 1 by rw [← Ez.out]; constructor <;> decide)
              have Iz := Lib.hid (rat_is Dz.out 400 (by omega) (by omega))
              obtain ⟨qo, Eo⟩ : ∃ r, Hid (Rat.divInt 1 1 = r) := ⟨_, Lib.hid rfl⟩
              have Do := Lib.hid (show RatBd qo 1 by rw [← Eo.out]; constructor <;> decide)
              have Io := Lib.hid (rat_is Do.out 400 (by omega) (by omega))
              obtain ⟨qm, Em⟩ : ∃ r, Hid (qr - qo = r) := ⟨_, Lib.hid rfl⟩
              have Dm := Lib.hid (rbd_sub Dr.out Do.out Em.out)
              have Im := Lib.hid (rat_is Dm.out 400 (by omega) (by omega))
              obtain ⟨qu, Eu⟩ : ∃ r, Hid (qr + qo = r) := ⟨_, Lib.hid rfl⟩
              have Du := Lib.hid (rbd_add Dr.out Do.out Eu.out)
              have Iu := Lib.hid (rat_is Du.out 400 (by omega) (by omega))
              have Hz := Lib.hid (show qz = 0 by rw [← Ez.out]; decide)
              have Ho := Lib.hid (show qo = 1 by rw [← Eo.out]; decide)
              obtain ⟨c0, Ec0⟩ : ∃ c, Hid (cmpQ qr qz = c) := ⟨_, Lib.hid rfl⟩
              obtain ⟨c8, Ec8⟩ : ∃ c, Hid (cmpQ qp qm = c) := ⟨_, Lib.hid rfl⟩
              have Ec9 := Lib.hid (smp_c9 HS.out Ho.out Em.out)
              have h8 : c8 = -1 ∨ c8 = 0 ∨ c8 = 1 := by rw [← Ec8.out]; exact cmpQ_rng3 _ _
              have hc0 : (c0 = -1 ∧ cmpQ qp qu = -1 ∧ cmpQ qu qq = 1) ∨ c0 = 0 ∨ (c0 = 1 ∧ c8 = 1) := by
                rw [← Ec0.out, ← Ec8.out]
                exact smp_c0 HS.out Hden.out Hz.out Ho.out Em.out Eu.out
              have Hc0 := Lib.hid hc0
              have H8 := Lib.hid h8
              clear hc0 h8
              go_wp2_with fail
              refine (lratio_any 0 1 qz _ (by omega) (by omega) (by omega) (by omega) (by omega) Ez.out).mono ?_
              rintro e W7 ⟨rfl, b7⟩
              have K := K.keep b7
              have B := below_more B (Nat.le_refl _) b7
              clear b7
              have hbl := below1 W7 (.cells #[.bool (sg qz.num), .string (mg qz.num), .bool (sg (qz.den : Int)), .string (mg (qz.den : Int))] 25)
              have K : Vars ((W7.heap.size, [.bool (sg qz.num), .string (mg qz.num), .bool (sg (qz.den : Int)), .string (mg (qz.den : Int))]) :: [(p3, [.bool (sg qr.num), .string (mg qr.num), .bool (sg (qr.den : Int)), .string (mg (qr.den : Int))]), (w.heap.size, [.bool n1, .string s1, .bool m1, .string t1]), (w.heap.size + 1, [.bool n2, .string s2, .bool m2, .string t2])]) (W7.alloc (.cells #[.bool (sg qz.num), .string (mg qz.num), .bool (sg (qz.den : Int)), .string (mg (qz.den : Int))] 25)) := Vars.new K _ _
              have B := below_more B (Nat.le_refl _) hbl
              clear hbl
              unfold ratV
              go_upto_region 16 with fail
              generalize W7.alloc (.cells #[.bool (sg qz.num), .string (mg qz.num), .bool (sg (qz.den : Int)), .string (mg (qz.den : Int))] 25) = V8 at *
              generalize W7.heap.size = p8 at *
              go_cut [13] (fun s13 wx => ∃ p13 : Nat, s13 = .pointer (some ⟨p13, 0, none⟩) ∧ Unf p13 wx ∧ Far w.heap.size p13 [(p8, [.bool (sg qz.num), .string (mg qz.num), .bool (sg (qz.den : Int)), .string (mg (qz.den : Int))]), (p3, [.bool (sg qr.num), .string (mg qr.num), .bool (sg (qr.den : Int)), .string (mg (qr.den : Int))]), (w.heap.size, [.bool n1, .string s1, .bool m1, .string t1]), (w.heap.size + 1, [.bool n2, .string s2, .bool m2, .string t2])] ∧ Vars ((p13, [.bool (sg qm.num), .string (mg qm.num), .bool (sg (qm.den : Int)), .string (mg (qm.den : Int))]) :: [(p8, [.bool (sg qz.num), .string (mg qz.num), .bool (sg (qz.den : Int)), .string (mg (qz.den : Int))]), (p3, [.bool (sg qr.num), .string (mg qr.num), .bool (sg (qr.den : Int)), .string (mg (qr.den : Int))]), (w.heap.size, [.bool n1, .string s1, .bool m1, .string t1]), (w.heap.size + 1, [.bool n2, .string s2, .bool m2, .string t2])]) wx ∧ Below w.heap.size w wx)
              case first =>
                obtain ⟨x1, x2, x3, x4, x5, x6, x7, x8, x9, x10, x11, x12, x13, x14, x15, x16⟩ : V8.cell? ⟨p8, 0, none⟩ = some (.bool (sg qz.num)) ∧ V8.cell? ⟨p8, 1, none⟩ = some (.string (mg qz.num)) ∧ V8.cell? ⟨p8, 2, none⟩ = some (.bool (sg (qz.den : Int))) ∧ V8.cell? ⟨p8, 3, none⟩ = some (.string (mg (qz.den : Int))) ∧ V8.cell? ⟨p3, 0, none⟩ = some (.bool (sg qr.num)) ∧ V8.cell? ⟨p3, 1, none⟩ = some (.string (mg qr.num)) ∧ V8.cell? ⟨p3, 2, none⟩ = some (.bool (sg (qr.den : Int))) ∧ V8.cell? ⟨p3, 3, none⟩ = some (.string (mg (qr.den : Int))) ∧ V8.cell? ⟨w.heap.size, 0, none⟩ = some (.bool n1) ∧ V8.cell? ⟨w.heap.size, 1, none⟩ = some (.string s1) ∧ V8.cell? ⟨w.heap.size, 2, none⟩ = some (.bool m1) ∧ V8.cell? ⟨w.heap.size, 3, none⟩ = some (.string t1) ∧ V8.cell? ⟨w.heap.size + 1, 0, none⟩ = some (.bool n2) ∧ V8.cell? ⟨w.heap.size + 1, 1, none⟩ = some (.string s2) ∧ V8.cell? ⟨w.heap.size + 1, 2, none⟩ = some (.bool m2) ∧ V8.cell? ⟨w.heap.size + 1, 3, none⟩ = some (.string t2) := ⟨K.at 0 0 rfl, K.at 0 1 rfl, K.at 0 2 rfl, K.at 0 3 rfl, K.at 1 0 rfl, K.at 1 1 rfl, K.at 1 2 rfl, K.at 1 3 rfl, K.at 2 0 rfl, K.at 2 1 rfl, K.at 2 2 rfl, K.at 2 3 rfl, K.at 3 0 rfl, K.at 3 1 rfl, K.at 3 2 rfl, K.at 3 3 rfl⟩
                have KB := And.intro K B
                have FL := Lib.hid (show ∀ W, Vars [(p8, [.bool (sg qz.num), .string (mg qz.num), .bool (sg (qz.den : Int)), .string (mg (qz.den : Int))]), (p3, [.bool (sg qr.num), .string (mg qr.num), .bool (sg (qr.den : Int)), .string (mg (qr.den : Int))]), (w.heap.size, [.bool n1, .string s1, .bool m1, .string t1]), (w.heap.size + 1, [.bool n2, .string s2, .bool m2, .string t2])] W → (W.cell? ⟨p8, 0, none⟩ = some (.bool (sg qz.num)) ∧ W.cell? ⟨p8, 1, none⟩ = some (.string (mg qz.num)) ∧ W.cell? ⟨p8, 2, none⟩ = some (.bool (sg (qz.den : Int))) ∧ W.cell? ⟨p8, 3, none⟩ = some (.string (mg (qz.den : Int))) ∧ W.cell? ⟨p3, 0, none⟩ = some (.bool (sg qr.num)) ∧ W.cell? ⟨p3, 1, none⟩ = some (.string (mg qr.num)) ∧ W.cell? ⟨p3, 2, none⟩ = some (.bool (sg (qr.den : Int))) ∧ W.cell? ⟨p3, 3, none⟩ = some (.string (mg (qr.den : Int))) ∧ W.cell? ⟨w.heap.size, 0, none⟩ = some (.bool n1) ∧ W.cell? ⟨w.heap.size, 1, none⟩ = some (.string s1) ∧ W.cell? ⟨w.heap.size, 2, none⟩ = some (.bool m1) ∧ W.cell? ⟨w.heap.size, 3, none⟩ = some (.string t1) ∧ W.cell? ⟨w.heap.size + 1, 0, none⟩ = some (.bool n2) ∧ W.cell? ⟨w.heap.size + 1, 1, none⟩ = some (.string s2) ∧ W.cell? ⟨w.heap.size + 1, 2, none⟩ = some (.bool m2) ∧ W.cell? ⟨w.heap.size + 1, 3, none⟩ = some (.string t2)) from fun W h => ⟨h.at 0 0 rfl, h.at 0 1 rfl, h.at 0 2 rfl, h.at 0 3 rfl, h.at 1 0 rfl, h.at 1 1 rfl, h.at 1 2 rfl, h.at 1 3 rfl, h.at 2 0 rfl, h.at 2 1 rfl, h.at 2 2 rfl, h.at 2 3 rfl, h.at 3 0 rfl, h.at 3 1 rfl, h.at 3 2 rfl, h.at 3 3 rfl⟩)
                go_region_held3 (fun W => W.cell? ⟨p8, 0, none⟩ = some (.bool (sg qz.num)) ∧ W.cell? ⟨p8, 1, none⟩ = some (.string (mg qz.num)) ∧ W.cell? ⟨p8, 2, none⟩ = some (.bool (sg (qz.den : Int))) ∧ W.cell? ⟨p8, 3, none⟩ = some (.string (mg (qz.den : Int))) ∧ W.cell? ⟨p3, 0, none⟩ = some (.bool (sg qr.num)) ∧ W.cell? ⟨p3, 1, none⟩ = some (.string (mg qr.num)) ∧ W.cell? ⟨p3, 2, none⟩ = some (.bool (sg (qr.den : Int))) ∧ W.cell? ⟨p3, 3, none⟩ = some (.string (mg (qr.den : Int))) ∧ W.cell? ⟨w.heap.size, 0, none⟩ = some (.bool n1) ∧ W.cell? ⟨w.heap.size, 1, none⟩ = some (.string s1) ∧ W.cell? ⟨w.heap.size, 2, none⟩ = some (.bool m1) ∧ W.cell? ⟨w.heap.size, 3, none⟩ = some (.string t1) ∧ W.cell? ⟨w.heap.size + 1, 0, none⟩ = some (.bool n2) ∧ W.cell? ⟨w.heap.size + 1, 1, none⟩ = some (.string s2) ∧ W.cell? ⟨w.heap.size + 1, 2, none⟩ = some (.bool m2) ∧ W.cell? ⟨w.heap.size + 1, 3, none⟩ = some (.string t2))
                  (first | (with_reducible exact FL.out _ KB.1) | (with_reducible exact FL.out _ (Vars.drew KB.1)) | (with_reducible exact FL.out _ (Vars.alloc KB.1 _)) | (with_reducible exact FL.out _ (Vars.drew (Vars.alloc KB.1 _))) | (with_reducible exact FL.out _ (Vars.set4 KB.1 KR.2.1 _ _ _ _)) | go_keep)
                  (first
                    | (go_at_call 14; (with_reducible refine (lratio_any 1 1 qo _ (by omega) (by omega) (by omega) (by omega) (by omega) Eo.out).mono ?_); rintro e X ⟨rfl, bX⟩; (try unfold ratV); (first | (with_reducible have KR := And.intro (ResRat.keep KR.1 bX) KR.2) | have KR := And.intro (ResRat.keep (ResRat.new _) bX) (And.intro (KB.1.far (Nat.le_refl _)) KB.2.size) | have KR := And.intro (ResRat.keep (ResRat.drew (ResRat.new _)) bX) (And.intro (KB.1.far (Nat.le_refl _)) KB.2.size) | skip); (try obtain ⟨⟨⟨r1, r2, r3, r4⟩, r5, r6, r7, r8⟩, _⟩ := id KR); (first | (with_reducible have KB := And.intro (KB.1.keep bX) (below_more KB.2 (Nat.le_refl _) bX)) | have KB := And.intro ((Vars.drew KB.1).keep bX) (below_more (Below.drew KB.2) (Nat.le_refl _) bX) | have KB := And.intro ((KB.1.alloc _).keep bX) (below_more (below_al KB.2 _) (Nat.le_refl _) bX) | have KB := And.intro ((Vars.drew (KB.1.alloc _)).keep bX) (below_more (Below.drew (below_al KB.2 _)) (Nat.le_refl _) bX)))
                    | (go_at_call 15; (with_reducible refine (rsub_any _ _ qr qo qm 400 _ Ir.out Io.out (by omega) Em.out).mono ?_); rintro e X ⟨rfl, bX⟩; (try unfold ratV); (first | (with_reducible have KR := And.intro (ResRat.keep KR.1 bX) KR.2) | have KR := And.intro (ResRat.keep (ResRat.new _) bX) (And.intro (KB.1.far (Nat.le_refl _)) KB.2.size) | have KR := And.intro (ResRat.keep (ResRat.drew (ResRat.new _)) bX) (And.intro (KB.1.far (Nat.le_refl _)) KB.2.size) | skip); (try obtain ⟨⟨⟨r1, r2, r3, r4⟩, r5, r6, r7, r8⟩, _⟩ := id KR); (first | (with_reducible have KB := And.intro (KB.1.keep bX) (below_more KB.2 (Nat.le_refl _) bX)) | have KB := And.intro ((Vars.drew KB.1).keep bX) (below_more (Below.drew KB.2) (Nat.le_refl _) bX) | have KB := And.intro ((KB.1.alloc _).keep bX) (below_more (below_al KB.2 _) (Nat.le_refl _) bX) | have KB := And.intro ((Vars.drew (KB.1.alloc _)).keep bX) (below_more (Below.drew (below_al KB.2 _)) (Nat.le_refl _) bX))))
                all_goals go_wp2_with fail
                all_goals go_meet
                all_goals refine ⟨_, rfl, ?_, ?_, ?_, ?_⟩
                all_goals first | exact Vars.stored (Vars.cons (four_cells r1 r2 r3 r4) KB.1) KR.2.1 _ _ _ _ | exact Vars.new KB.1 _ _ | exact below4s KB.2 _ KR.2.2 _ _ _ _ | exact below_al KB.2 _ | exact Unf.set4 ⟨World.block_lt_of_cell? _ _ r1, r5, r6, r7, r8⟩ _ _ _ _ | exact Unf.new _ _ _ _ _ _ | exact KR.2 | exact And.intro (KB.1.far (Nat.le_refl _)) KB.2.size
              case rest =>
                obtain ⟨p13, rfl, KU, HF, K9, B9⟩ := hcut
                clear K B
                have K := K9
                have B := B9
                clear K9 B9
                go_upto_region 17 with fail
                rcases Hc0.out with ⟨rfl, e8, e9⟩ | rfl | ⟨rfl, rfl⟩
                · have E8 := Lib.hid e8
                  have E9 := Lib.hid e9
                  clear e8 e9
                  obtain ⟨x1, x2, x3, x4, x5, x6, x7, x8, x9, x10, x11, x12, x13, x14, x15, x16, x17, x18, x19, x20⟩ : wc.cell? ⟨p13, 0, none⟩ = some (.bool (sg qm.num)) ∧ wc.cell? ⟨p13, 1, none⟩ = some (.string (mg qm.num)) ∧ wc.cell? ⟨p13, 2, none⟩ = some (.bool (sg (qm.den : Int))) ∧ wc.cell? ⟨p13, 3, none⟩ = some (.string (mg (qm.den : Int))) ∧ wc.cell? ⟨p8, 0, none⟩ = some (.bool (sg qz.num)) ∧ wc.cell? ⟨p8, 1, none⟩ = some (.string (mg qz.num)) ∧ wc.cell? ⟨p8, 2, none⟩ = some (.bool (sg (qz.den : Int))) ∧ wc.cell? ⟨p8, 3, none⟩ = some (.string (mg (qz.den : Int))) ∧ wc.cell? ⟨p3, 0, none⟩ = some (.bool (sg qr.num)) ∧ wc.cell? ⟨p3, 1, none⟩ = some (.string (mg qr.num)) ∧ wc.cell? ⟨p3, 2, none⟩ = some (.bool (sg (qr.den : Int))) ∧ wc.cell? ⟨p3, 3, none⟩ = some (.string (mg (qr.den : Int))) ∧ wc.cell? ⟨w.heap.size, 0, none⟩ = some (.bool n1) ∧ wc.cell? ⟨w.heap.size, 1, none⟩ = some (.string s1) ∧ wc.cell? ⟨w.heap.size, 2, none⟩ = some (.bool m1) ∧ wc.cell? ⟨w.heap.size, 3, none⟩ = some (.string t1) ∧ wc.cell? ⟨w.heap.size + 1, 0, none⟩ = some (.bool n2) ∧ wc.cell? ⟨w.heap.size + 1, 1, none⟩ = some (.string s2) ∧ wc.cell? ⟨w.heap.size + 1, 2, none⟩ = some (.bool m2) ∧ wc.cell? ⟨w.heap.size + 1, 3, none⟩ = some (.string t2) := ⟨K.at 0 0 rfl, K.at 0 1 rfl, K.at 0 2 rfl, K.at 0 3 rfl, K.at 1 0 rfl, K.at 1 1 rfl, K.at 1 2 rfl, K.at 1 3 rfl, K.at 2 0 rfl, K.at 2 1 rfl, K.at 2 2 rfl, K.at 2 3 rfl, K.at 3 0 rfl, K.at 3 1 rfl, K.at 3 2 rfl, K.at 3 3 rfl, K.at 4 0 rfl, K.at 4 1 rfl, K.at 4 2 rfl, K.at 4 3 rfl⟩
                  go_wp2_with fail
                  refine (rcmp_eq Ir.out Iz.out (by omega) Ec0.out).mono ?_
                  rintro e W9 ⟨rfl, b9⟩
                  have K := K.keep b9
                  have B := below_more B (Nat.le_refl _) b9
                  have KU := KU.keep b9
                  clear b9
                  clear x1 x2 x3 x4 x5 x6 x7 x8 x9 x10 x11 x12 x13 x14 x15 x16 x17 x18 x19 x20
                  go_upto_region 18 with fail
                  have K0 : Vars [(p13, [.bool (sg qm.num), .string (mg qm.num), .bool (sg (qm.den : Int)), .string (mg (qm.den : Int))]), (p8, [.bool (sg qz.num), .string (mg qz.num), .bool (sg (qz.den : Int)), .string (mg (qz.den : Int))]), (p3, [.bool (sg qr.num), .string (mg qr.num), .bool (sg (qr.den : Int)), .string (mg (qr.den : Int))]), (w.heap.size, [.bool n1, .string s1, .bool m1, .string t1]), (w.heap.size + 1, [.bool n2, .string s2, .bool m2, .string t2])] W9.drew := K
                  have B0 := B.drew
                  have KB := And.intro K0 B0
                  have KU := KU.drew
                  clear K0 B0
                  have FL := Lib.hid (show ∀ W, Vars [(p8, [.bool (sg qz.num), .string (mg qz.num), .bool (sg (qz.den : Int)), .string (mg (qz.den : Int))]), (p3, [.bool (sg qr.num), .string (mg qr.num), .bool (sg (qr.den : Int)), .string (mg (qr.den : Int))]), (w.heap.size, [.bool n1, .string s1, .bool m1, .string t1]), (w.heap.size + 1, [.bool n2, .string s2, .bool m2, .string t2])] W → (W.cell? ⟨p8, 0, none⟩ = some (.bool (sg qz.num)) ∧ W.cell? ⟨p8, 1, none⟩ = some (.string (mg qz.num)) ∧ W.cell? ⟨p8, 2, none⟩ = some (.bool (sg (qz.den : Int))) ∧ W.cell? ⟨p8, 3, none⟩ = some (.string (mg (qz.den : Int))) ∧ W.cell? ⟨p3, 0, none⟩ = some (.bool (sg qr.num)) ∧ W.cell? ⟨p3, 1, none⟩ = some (.string (mg qr.num)) ∧ W.cell? ⟨p3, 2, none⟩ = some (.bool (sg (qr.den : Int))) ∧ W.cell? ⟨p3, 3, none⟩ = some (.string (mg (qr.den : Int))) ∧ W.cell? ⟨w.heap.size, 0, none⟩ = some (.bool n1) ∧ W.cell? ⟨w.heap.size, 1, none⟩ = some (.string s1) ∧ W.cell? ⟨w.heap.size, 2, none⟩ = some (.bool m1) ∧ W.cell? ⟨w.heap.size, 3, none⟩ = some (.string t1) ∧ W.cell? ⟨w.heap.size + 1, 0, none⟩ = some (.bool n2) ∧ W.cell? ⟨w.heap.size + 1, 1, none⟩ = some (.string s2) ∧ W.cell? ⟨w.heap.size + 1, 2, none⟩ = some (.bool m2) ∧ W.cell? ⟨w.heap.size + 1, 3, none⟩ = some (.string t2)) from fun W h => ⟨h.at 0 0 rfl, h.at 0 1 rfl, h.at 0 2 rfl, h.at 0 3 rfl, h.at 1 0 rfl, h.at 1 1 rfl, h.at 1 2 rfl, h.at 1 3 rfl, h.at 2 0 rfl, h.at 2 1 rfl, h.at 2 2 rfl, h.at 2 3 rfl, h.at 3 0 rfl, h.at 3 1 rfl, h.at 3 2 rfl, h.at 3 3 rfl⟩)
                  go_region_held3 (fun W => W.cell? ⟨p8, 0, none⟩ = some (.bool (sg qz.num)) ∧ W.cell? ⟨p8, 1, none⟩ = some (.string (mg qz.num)) ∧ W.cell? ⟨p8, 2, none⟩ = some (.bool (sg (qz.den : Int))) ∧ W.cell? ⟨p8, 3, none⟩ = some (.string (mg (qz.den : Int))) ∧ W.cell? ⟨p3, 0, none⟩ = some (.bool (sg qr.num)) ∧ W.cell? ⟨p3, 1, none⟩ = some (.string (mg qr.num)) ∧ W.cell? ⟨p3, 2, none⟩ = some (.bool (sg (qr.den : Int))) ∧ W.cell? ⟨p3, 3, none⟩ = some (.string (mg (qr.den : Int))) ∧ W.cell? ⟨w.heap.size, 0, none⟩ = some (.bool n1) ∧ W.cell? ⟨w.heap.size, 1, none⟩ = some (.string s1) ∧ W.cell? ⟨w.heap.size, 2, none⟩ = some (.bool m1) ∧ W.cell? ⟨w.heap.size, 3, none⟩ = some (.string t1) ∧ W.cell? ⟨w.heap.size + 1, 0, none⟩ = some (.bool n2) ∧ W.cell? ⟨w.heap.size + 1, 1, none⟩ = some (.string s2) ∧ W.cell? ⟨w.heap.size + 1, 2, none⟩ = some (.bool m2) ∧ W.cell? ⟨w.heap.size + 1, 3, none⟩ = some (.string t2))
                    (first | (with_reducible exact FL.out _ KB.1.tail) | (with_reducible exact FL.out _ (Vars.set4 KB.1.tail HF.ne _ _ _ _)))
                    (first
                      | (go_at_call 14; (with_reducible refine (lratio_any 1 1 qo _ (by omega) (by omega) (by omega) (by omega) (by omega) Eo.out).mono ?_); rintro e X ⟨rfl, bX⟩; (try unfold ratV); have KB := And.intro (KB.1.keep bX) (below_more KB.2 (Nat.le_refl _) bX); have KU := KU.keep bX; obtain ⟨-, r5, r6, r7, r8⟩ := id KU; have r1 := KB.1.at 0 0 rfl; have r2 := KB.1.at 0 1 rfl; have r3 := KB.1.at 0 2 rfl; have r4 := KB.1.at 0 3 rfl)
                      | (go_at_call 12; (with_reducible refine (radd_any _ _ qr qo qu 400 _ Ir.out Io.out (by omega) Eu.out).mono ?_); rintro e X ⟨rfl, bX⟩; (try unfold ratV); have KB := And.intro (KB.1.keep bX) (below_more KB.2 (Nat.le_refl _) bX); have KU := KU.keep bX; obtain ⟨-, r5, r6, r7, r8⟩ := id KU; have r1 := KB.1.at 0 0 rfl; have r2 := KB.1.at 0 1 rfl; have r3 := KB.1.at 0 2 rfl; have r4 := KB.1.at 0 3 rfl))
                  all_goals go_upto_region 19 with fail
                  all_goals
                    have K := Vars.stored KB.1 HF.ne (sg qu.num) (sg (qu.den : Int)) (mg qu.num) (mg (qu.den : Int))
                    have B := below4s KB.2 _ HF.le (.bool (sg qu.num)) (.string (mg qu.num)) (.bool (sg (qu.den : Int))) (.string (mg (qu.den : Int)))
                    clear KB FL KU r1 r2 r3 r4 r5 r6 r7 r8
                    generalize World.setCell _ ⟨p13, 3, none⟩ _ = WZ at *
                    obtain ⟨x1, x2, x3, x4, x5, x6, x7, x8, x9, x10, x11, x12, x13, x14, x15, x16, x17, x18, x19, x20⟩ : WZ.cell? ⟨p13, 0, none⟩ = some (.bool (sg qu.num)) ∧ WZ.cell? ⟨p13, 1, none⟩ = some (.string (mg qu.num)) ∧ WZ.cell? ⟨p13, 2, none⟩ = some (.bool (sg (qu.den : Int))) ∧ WZ.cell? ⟨p13, 3, none⟩ = some (.string (mg (qu.den : Int))) ∧ WZ.cell? ⟨p8, 0, none⟩ = some (.bool (sg qz.num)) ∧ WZ.cell? ⟨p8, 1, none⟩ = some (.string (mg qz.num)) ∧ WZ.cell? ⟨p8, 2, none⟩ = some (.bool (sg (qz.den : Int))) ∧ WZ.cell? ⟨p8, 3, none⟩ = some (.string (mg (qz.den : Int))) ∧ WZ.cell? ⟨p3, 0, none⟩ = some (.bool (sg qr.num)) ∧ WZ.cell? ⟨p3, 1, none⟩ = some (.string (mg qr.num)) ∧ WZ.cell? ⟨p3, 2, none⟩ = some (.bool (sg (qr.den : Int))) ∧ WZ.cell? ⟨p3, 3, none⟩ = some (.string (mg (qr.den : Int))) ∧ WZ.cell? ⟨w.heap.size, 0, none⟩ = some (.bool n1) ∧ WZ.cell? ⟨w.heap.size, 1, none⟩ = some (.string s1) ∧ WZ.cell? ⟨w.heap.size, 2, none⟩ = some (.bool m1) ∧ WZ.cell? ⟨w.heap.size, 3, none⟩ = some (.string t1) ∧ WZ.cell? ⟨w.heap.size + 1, 0, none⟩ = some (.bool n2) ∧ WZ.cell? ⟨w.heap.size + 1, 1, none⟩ = some (.string s2) ∧ WZ.cell? ⟨w.heap.size + 1, 2, none⟩ = some (.bool m2) ∧ WZ.cell? ⟨w.heap.size + 1, 3, none⟩ = some (.string t2) := ⟨K.at 0 0 rfl, K.at 0 1 rfl, K.at 0 2 rfl, K.at 0 3 rfl, K.at 1 0 rfl, K.at 1 1 rfl, K.at 1 2 rfl, K.at 1 3 rfl, K.at 2 0 rfl, K.at 2 1 rfl, K.at 2 2 rfl, K.at 2 3 rfl, K.at 3 0 rfl, K.at 3 1 rfl, K.at 3 2 rfl, K.at 3 3 rfl, K.at 4 0 rfl, K.at 4 1 rfl, K.at 4 2 rfl, K.at 4 3 rfl⟩
                    go_wp2_with fail
                    refine (rcmp_eq Ip.out Iu.out (by omega) E8.out).mono ?_
                    rintro e W10 ⟨rfl, b10⟩
                    have K := K.keep b10
                    have B := below_more B (Nat.le_refl _) b10
                    clear b10
                    clear x1 x2 x3 x4 x5 x6 x7 x8 x9 x10 x11 x12 x13 x14 x15 x16 x17 x18 x19 x20
                    obtain ⟨x1, x2, x3, x4, x5, x6, x7, x8, x9, x10, x11, x12, x13, x14, x15, x16, x17, x18, x19, x20⟩ : W10.cell? ⟨p13, 0, none⟩ = some (.bool (sg qu.num)) ∧ W10.cell? ⟨p13, 1, none⟩ = some (.string (mg qu.num)) ∧ W10.cell? ⟨p13, 2, none⟩ = some (.bool (sg (qu.den : Int))) ∧ W10.cell? ⟨p13, 3, none⟩ = some (.string (mg (qu.den : Int))) ∧ W10.cell? ⟨p8, 0, none⟩ = some (.bool (sg qz.num)) ∧ W10.cell? ⟨p8, 1, none⟩ = some (.string (mg qz.num)) ∧ W10.cell? ⟨p8, 2, none⟩ = some (.bool (sg (qz.den : Int))) ∧ W10.cell? ⟨p8, 3, none⟩ = some (.string (mg (qz.den : Int))) ∧ W10.cell? ⟨p3, 0, none⟩ = some (.bool (sg qr.num)) ∧ W10.cell? ⟨p3, 1, none⟩ = some (.string (mg qr.num)) ∧ W10.cell? ⟨p3, 2, none⟩ = some (.bool (sg (qr.den : Int))) ∧ W10.cell? ⟨p3, 3, none⟩ = some (.string (mg (qr.den : Int))) ∧ W10.cell? ⟨w.heap.size, 0, none⟩ = some (.bool n1) ∧ W10.cell? ⟨w.heap.size, 1, none⟩ = some (.string s1) ∧ W10.cell? ⟨w.heap.size, 2, none⟩ = some (.bool m1) ∧ W10.cell? ⟨w.heap.size, 3, none⟩ = some (.string t1) ∧ W10.cell? ⟨w.heap.size + 1, 0, none⟩ = some (.bool n2) ∧ W10.cell? ⟨w.heap.size + 1, 1, none⟩ = some (.string s2) ∧ W10.cell? ⟨w.heap.size + 1, 2, none⟩ = some (.bool m2) ∧ W10.cell? ⟨w.heap.size + 1, 3, none⟩ = some (.string t2) := ⟨K.at 0 0 rfl, K.at 0 1 rfl, K.at 0 2 rfl, K.at 0 3 rfl, K.at 1 0 rfl, K.at 1 1 rfl, K.at 1 2 rfl, K.at 1 3 rfl, K.at 2 0 rfl, K.at 2 1 rfl, K.at 2 2 rfl, K.at 2 3 rfl, K.at 3 0 rfl, K.at 3 1 rfl, K.at 3 2 rfl, K.at 3 3 rfl, K.at 4 0 rfl, K.at 4 1 rfl, K.at 4 2 rfl, K.at 4 3 rfl⟩
                    go_wp2_with fail
                    refine (rcmp_eq Iu.out Iq.out (by omega) E9.out).mono ?_
                    rintro e W11 ⟨rfl, b11⟩
                    have K := K.keep b11
                    have B := below_more B (Nat.le_refl _) b11
                    clear b11
                    clear x1 x2 x3 x4 x5 x6 x7 x8 x9 x10 x11 x12 x13 x14 x15 x16 x17 x18 x19 x20
                    obtain ⟨x1, x2, x3, x4, x5, x6, x7, x8, x9, x10, x11, x12, x13, x14, x15, x16, x17, x18, x19, x20⟩ : W11.cell? ⟨p13, 0, none⟩ = some (.bool (sg qu.num)) ∧ W11.cell? ⟨p13, 1, none⟩ = some (.string (mg qu.num)) ∧ W11.cell? ⟨p13, 2, none⟩ = some (.bool (sg (qu.den : Int))) ∧ W11.cell? ⟨p13, 3, none⟩ = some (.string (mg (qu.den : Int))) ∧ W11.cell? ⟨p8, 0, none⟩ = some (.bool (sg qz.num)) ∧ W11.cell? ⟨p8, 1, none⟩ = some (.string (mg qz.num)) ∧ W11.cell? ⟨p8, 2, none⟩ = some (.bool (sg (qz.den : Int))) ∧ W11.cell? ⟨p8, 3, none⟩ = some (.string (mg (qz.den : Int))) ∧ W11.cell? ⟨p3, 0, none⟩ = some (.bool (sg qr.num)) ∧ W11.cell? ⟨p3, 1, none⟩ = some (.string (mg qr.num)) ∧ W11.cell? ⟨p3, 2, none⟩ = some (.bool (sg (qr.den : Int))) ∧ W11.cell? ⟨p3, 3, none⟩ = some (.string (mg (qr.den : Int))) ∧ W11.cell? ⟨w.heap.size, 0, none⟩ = some (.bool n1) ∧ W11.cell? ⟨w.heap.size, 1, none⟩ = some (.string s1) ∧ W11.cell? ⟨w.heap.size, 2, none⟩ = some (.bool m1) ∧ W11.cell? ⟨w.heap.size, 3, none⟩ = some (.string t1) ∧ W11.cell? ⟨w.heap.size + 1, 0, none⟩ = some (.bool n2) ∧ W11.cell? ⟨w.heap.size + 1, 1, none⟩ = some (.string s2) ∧ W11.cell? ⟨w.heap.size + 1, 2, none⟩ = some (.bool m2) ∧ W11.cell? ⟨w.heap.size + 1, 3, none⟩ = some (.string t2) := ⟨K.at 0 0 rfl, K.at 0 1 rfl, K.at 0 2 rfl, K.at 0 3 rfl, K.at 1 0 rfl, K.at 1 1 rfl, K.at 1 2 rfl, K.at 1 3 rfl, K.at 2 0 rfl, K.at 2 1 rfl, K.at 2 2 rfl, K.at 2 3 rfl, K.at 3 0 rfl, K.at 3 1 rfl, K.at 3 2 rfl, K.at 3 3 rfl, K.at 4 0 rfl, K.at 4 1 rfl, K.at 4 2 rfl, K.at 4 3 rfl⟩
                    go_wp2_with fail
                    refine (rcmp_eq Ir.out Iz.out (by omega) Ec0.out).mono ?_
                    rintro e W12 ⟨rfl, b12⟩
                    have K := K.keep b12
                    have B := below_more B (Nat.le_refl _) b12
                    clear b12
                    clear x1 x2 x3 x4 x5 x6 x7 x8 x9 x10 x11 x12 x13 x14 x15 x16 x17 x18 x19 x20
                    go_wp2_with fail
                    refine (awaker_any _ (H0.out.keep B) (tab_keep Ht.out B)).mono ?_
                    rintro e W13 ⟨rfl, b13⟩
                    have K := K.keep b13
                    have B := below_more B (Nat.le_refl _) b13
                    clear b13
                    go_wp2
                    go_ret
                    exact ⟨rfl, B⟩
                · rcases H8.out with rfl | rfl | rfl
                  all_goals
                    obtain ⟨x1, x2, x3, x4, x5, x6, x7, x8, x9, x10, x11, x12, x13, x14, x15, x16, x17, x18, x19, x20⟩ : wc.cell? ⟨p13, 0, none⟩ = some (.bool (sg qm.num)) ∧ wc.cell? ⟨p13, 1, none⟩ = some (.string (mg qm.num)) ∧ wc.cell? ⟨p13, 2, none⟩ = some (.bool (sg (qm.den : Int))) ∧ wc.cell? ⟨p13, 3, none⟩ = some (.string (mg (qm.den : Int))) ∧ wc.cell? ⟨p8, 0, none⟩ = some (.bool (sg qz.num)) ∧ wc.cell? ⟨p8, 1, none⟩ = some (.string (mg qz.num)) ∧ wc.cell? ⟨p8, 2, none⟩ = some (.bool (sg (qz.den : Int))) ∧ wc.cell? ⟨p8, 3, none⟩ = some (.string (mg (qz.den : Int))) ∧ wc.cell? ⟨p3, 0, none⟩ = some (.bool (sg qr.num)) ∧ wc.cell? ⟨p3, 1, none⟩ = some (.string (mg qr.num)) ∧ wc.cell? ⟨p3, 2, none⟩ = some (.bool (sg (qr.den : Int))) ∧ wc.cell? ⟨p3, 3, none⟩ = some (.string (mg (qr.den : Int))) ∧ wc.cell? ⟨w.heap.size, 0, none⟩ = some (.bool n1) ∧ wc.cell? ⟨w.heap.size, 1, none⟩ = some (.string s1) ∧ wc.cell? ⟨w.heap.size, 2, none⟩ = some (.bool m1) ∧ wc.cell? ⟨w.heap.size, 3, none⟩ = some (.string t1) ∧ wc.cell? ⟨w.heap.size + 1, 0, none⟩ = some (.bool n2) ∧ wc.cell? ⟨w.heap.size + 1, 1, none⟩ = some (.string s2) ∧ wc.cell? ⟨w.heap.size + 1, 2, none⟩ = some (.bool m2) ∧ wc.cell? ⟨w.heap.size + 1, 3, none⟩ = some (.string t2) := ⟨K.at 0 0 rfl, K.at 0 1 rfl, K.at 0 2 rfl, K.at 0 3 rfl, K.at 1 0 rfl, K.at 1 1 rfl, K.at 1 2 rfl, K.at 1 3 rfl, K.at 2 0 rfl, K.at 2 1 rfl, K.at 2 2 rfl, K.at 2 3 rfl, K.at 3 0 rfl, K.at 3 1 rfl, K.at 3 2 rfl, K.at 3 3 rfl, K.at 4 0 rfl, K.at 4 1 rfl, K.at 4 2 rfl, K.at 4 3 rfl⟩
                    go_wp2_with fail
                    refine (rcmp_eq Ir.out Iz.out (by omega) Ec0.out).mono ?_
                    rintro e W14 ⟨rfl, b14⟩
                    have K := K.keep b14
                    have B := below_more B (Nat.le_refl _) b14
                    clear b14
                    clear x1 x2 x3 x4 x5 x6 x7 x8 x9 x10 x11 x12 x13 x14 x15 x16 x17 x18 x19 x20
                    obtain ⟨x1, x2, x3, x4, x5, x6, x7, x8, x9, x10, x11, x12, x13, x14, x15, x16, x17, x18, x19, x20⟩ : W14.cell? ⟨p13, 0, none⟩ = some (.bool (sg qm.num)) ∧ W14.cell? ⟨p13, 1, none⟩ = some (.string (mg qm.num)) ∧ W14.cell? ⟨p13, 2, none⟩ = some (.bool (sg (qm.den : Int))) ∧ W14.cell? ⟨p13, 3, none⟩ = some (.string (mg (qm.den : Int))) ∧ W14.cell? ⟨p8, 0, none⟩ = some (.bool (sg qz.num)) ∧ W14.cell? ⟨p8, 1, none⟩ = some (.string (mg qz.num)) ∧ W14.cell? ⟨p8, 2, none⟩ = some (.bool (sg (qz.den : Int))) ∧ W14.cell? ⟨p8, 3, none⟩ = some (.string (mg (qz.den : Int))) ∧ W14.cell? ⟨p3, 0, none⟩ = some (.bool (sg qr.num)) ∧ W14.cell? ⟨p3, 1, none⟩ = some (.string (mg qr.num)) ∧ W14.cell? ⟨p3, 2, none⟩ = some (.bool (sg (qr.den : Int))) ∧ W14.cell? ⟨p3, 3, none⟩ = some (.string (mg (qr.den : Int))) ∧ W14.cell? ⟨w.heap.size, 0, none⟩ = some (.bool n1) ∧ W14.cell? ⟨w.heap.size, 1, none⟩ = some (.string s1) ∧ W14.cell? ⟨w.heap.size, 2, none⟩ = some (.bool m1) ∧ W14.cell? ⟨w.heap.size, 3, none⟩ = some (.string t1) ∧ W14.cell? ⟨w.heap.size + 1, 0, none⟩ = some (.bool n2) ∧ W14.cell? ⟨w.heap.size + 1, 1, none⟩ = some (.string s2) ∧ W14.cell? ⟨w.heap.size + 1, 2, none⟩ = some (.bool m2) ∧ W14.cell? ⟨w.heap.size + 1, 3, none⟩ = some (.string t2) := ⟨K.at 0 0 rfl, K.at 0 1 rfl, K.at 0 2 rfl, K.at 0 3 rfl, K.at 1 0 rfl, K.at 1 1 rfl, K.at 1 2 rfl, K.at 1 3 rfl, K.at 2 0 rfl, K.at 2 1 rfl, K.at 2 2 rfl, K.at 2 3 rfl, K.at 3 0 rfl, K.at 3 1 rfl, K.at 3 2 rfl, K.at 3 3 rfl, K.at 4 0 rfl, K.at 4 1 rfl, K.at 4 2 rfl, K.at 4 3 rfl⟩
                    go_wp2_with fail
                    refine (rcmp_eq Ip.out Im.out (by omega) Ec8.out).mono ?_
                    rintro e W15 ⟨rfl, b15⟩
                    have K := K.keep b15
                    have B := below_more B (Nat.le_refl _) b15
                    clear b15
                    clear x1 x2 x3 x4 x5 x6 x7 x8 x9 x10 x11 x12 x13 x14 x15 x16 x17 x18 x19 x20
                  iterate 2
                    · skip
                      obtain ⟨x1, x2, x3, x4, x5, x6, x7, x8, x9, x10, x11, x12, x13, x14, x15, x16, x17, x18, x19, x20⟩ : W15.cell? ⟨p13, 0, none⟩ = some (.bool (sg qm.num)) ∧ W15.cell? ⟨p13, 1, none⟩ = some (.string (mg qm.num)) ∧ W15.cell? ⟨p13, 2, none⟩ = some (.bool (sg (qm.den : Int))) ∧ W15.cell? ⟨p13, 3, none⟩ = some (.string (mg (qm.den : Int))) ∧ W15.cell? ⟨p8, 0, none⟩ = some (.bool (sg qz.num)) ∧ W15.cell? ⟨p8, 1, none⟩ = some (.string (mg qz.num)) ∧ W15.cell? ⟨p8, 2, none⟩ = some (.bool (sg (qz.den : Int))) ∧ W15.cell? ⟨p8, 3, none⟩ = some (.string (mg (qz.den : Int))) ∧ W15.cell? ⟨p3, 0, none⟩ = some (.bool (sg qr.num)) ∧ W15.cell? ⟨p3, 1, none⟩ = some (.string (mg qr.num)) ∧ W15.cell? ⟨p3, 2, none⟩ = some (.bool (sg (qr.den : Int))) ∧ W15.cell? ⟨p3, 3, none⟩ = some (.string (mg (qr.den : Int))) ∧ W15.cell? ⟨w.heap.size, 0, none⟩ = some (.bool n1) ∧ W15.cell? ⟨w.heap.size, 1, none⟩ = some (.string s1) ∧ W15.cell? ⟨w.heap.size, 2, none⟩ = some (.bool m1) ∧ W15.cell? ⟨w.heap.size, 3, none⟩ = some (.string t1) ∧ W15.cell? ⟨w.heap.size + 1, 0, none⟩ = some (.bool n2) ∧ W15.cell? ⟨w.heap.size + 1, 1, none⟩ = some (.string s2) ∧ W15.cell? ⟨w.heap.size + 1, 2, none⟩ = some (.bool m2) ∧ W15.cell? ⟨w.heap.size + 1, 3, none⟩ = some (.string t2) := ⟨K.at 0 0 rfl, K.at 0 1 rfl, K.at 0 2 rfl, K.at 0 3 rfl, K.at 1 0 rfl, K.at 1 1 rfl, K.at 1 2 rfl, K.at 1 3 rfl, K.at 2 0 rfl, K.at 2 1 rfl, K.at 2 2 rfl, K.at 2 3 rfl, K.at 3 0 rfl, K.at 3 1 rfl, K.at 3 2 rfl, K.at 3 3 rfl, K.at 4 0 rfl, K.at 4 1 rfl, K.at 4 2 rfl, K.at 4 3 rfl⟩
                      go_wp2_with fail
                      refine (rcmp_eq Im.out Iq.out (by omega) Ec9.out).mono ?_
                      rintro e W16 ⟨rfl, b16⟩
                      have K := K.keep b16
                      have B := below_more B (Nat.le_refl _) b16
                      clear b16
                      clear x1 x2 x3 x4 x5 x6 x7 x8 x9 x10 x11 x12 x13 x14 x15 x16 x17 x18 x19 x20
                      obtain ⟨x1, x2, x3, x4, x5, x6, x7, x8, x9, x10, x11, x12, x13, x14, x15, x16, x17, x18, x19, x20⟩ : W16.cell? ⟨p13, 0, none⟩ = some (.bool (sg qm.num)) ∧ W16.cell? ⟨p13, 1, none⟩ = some (.string (mg qm.num)) ∧ W16.cell? ⟨p13, 2, none⟩ = some (.bool (sg (qm.den : Int))) ∧ W16.cell? ⟨p13, 3, none⟩ = some (.string (mg (qm.den : Int))) ∧ W16.cell? ⟨p8, 0, none⟩ = some (.bool (sg qz.num)) ∧ W16.cell? ⟨p8, 1, none⟩ = some (.string (mg qz.num)) ∧ W16.cell? ⟨p8, 2, none⟩ = some (.bool (sg (qz.den : Int))) ∧ W16.cell? ⟨p8, 3, none⟩ = some (.string (mg (qz.den : Int))) ∧ W16.cell? ⟨p3, 0, none⟩ = some (.bool (sg qr.num)) ∧ W16.cell? ⟨p3, 1, none⟩ = some (.string (mg qr.num)) ∧ W16.cell? ⟨p3, 2, none⟩ = some (.bool (sg (qr.den : Int))) ∧ W16.cell? ⟨p3, 3, none⟩ = some (.string (mg (qr.den : Int))) ∧ W16.cell? ⟨w.heap.size, 0, none⟩ = some (.bool n1) ∧ W16.cell? ⟨w.heap.size, 1, none⟩ = some (.string s1) ∧ W16.cell? ⟨w.heap.size, 2, none⟩ = some (.bool m1) ∧ W16.cell? ⟨w.heap.size, 3, none⟩ = some (.string t1) ∧ W16.cell? ⟨w.heap.size + 1, 0, none⟩ = some (.bool n2) ∧ W16.cell? ⟨w.heap.size + 1, 1, none⟩ = some (.string s2) ∧ W16.cell? ⟨w.heap.size + 1, 2, none⟩ = some (.bool m2) ∧ W16.cell? ⟨w.heap.size + 1, 3, none⟩ = some (.string t2) := ⟨K.at 0 0 rfl, K.at 0 1 rfl, K.at 0 2 rfl, K.at 0 3 rfl, K.at 1 0 rfl, K.at 1 1 rfl, K.at 1 2 rfl, K.at 1 3 rfl, K.at 2 0 rfl, K.at 2 1 rfl, K.at 2 2 rfl, K.at 2 3 rfl, K.at 3 0 rfl, K.at 3 1 rfl, K.at 3 2 rfl, K.at 3 3 rfl, K.at 4 0 rfl, K.at 4 1 rfl, K.at 4 2 rfl, K.at 4 3 rfl⟩
                      go_wp2_with fail
                      refine (rcmp_eq Ir.out Iz.out (by omega) Ec0.out).mono ?_
                      rintro e W17 ⟨rfl, b17⟩
                      have K := K.keep b17
                      have B := below_more B (Nat.le_refl _) b17
                      clear b17
                      clear x1 x2 x3 x4 x5 x6 x7 x8 x9 x10 x11 x12 x13 x14 x15 x16 x17 x18 x19 x20
                      go_wp2_with fail
                      refine (awaker_any _ (H0.out.keep B) (tab_keep Ht.out B)).mono ?_
                      rintro e W18 ⟨rfl, b18⟩
                      have K := K.keep b18
                      have B := below_more B (Nat.le_refl _) b18
                      clear b18
                      go_wp2
                      go_ret
                      exact ⟨rfl, B⟩
                  · skip
                    obtain ⟨x1, x2, x3, x4, x5, x6, x7, x8, x9, x10, x11, x12, x13, x14, x15, x16, x17, x18, x19, x20⟩ : W15.cell? ⟨p13, 0, none⟩ = some (.bool (sg qm.num)) ∧ W15.cell? ⟨p13, 1, none⟩ = some (.string (mg qm.num)) ∧ W15.cell? ⟨p13, 2, none⟩ = some (.bool (sg (qm.den : Int))) ∧ W15.cell? ⟨p13, 3, none⟩ = some (.string (mg (qm.den : Int))) ∧ W15.cell? ⟨p8, 0, none⟩ = some (.bool (sg qz.num)) ∧ W15.cell? ⟨p8, 1, none⟩ = some (.string (mg qz.num)) ∧ W15.cell? ⟨p8, 2, none⟩ = some (.bool (sg (qz.den : Int))) ∧ W15.cell? ⟨p8, 3, none⟩ = some (.string (mg (qz.den : Int))) ∧ W15.cell? ⟨p3, 0, none⟩ = some (.bool (sg qr.num)) ∧ W15.cell? ⟨p3, 1, none⟩ = some (.string (mg qr.num)) ∧ W15.cell? ⟨p3, 2, none⟩ = some (.bool (sg (qr.den : Int))) ∧ W15.cell? ⟨p3, 3, none⟩ = some (.string (mg (qr.den : Int))) ∧ W15.cell? ⟨w.heap.size, 0, none⟩ = some (.bool n1) ∧ W15.cell? ⟨w.heap.size, 1, none⟩ = some (.string s1) ∧ W15.cell? ⟨w.heap.size, 2, none⟩ = some (.bool m1) ∧ W15.cell? ⟨w.heap.size, 3, none⟩ = some (.string t1) ∧ W15.cell? ⟨w.heap.size + 1, 0, none⟩ = some (.bool n2) ∧ W15.cell? ⟨w.heap.size + 1, 1, none⟩ = some (.string s2) ∧ W15.cell? ⟨w.heap.size + 1, 2, none⟩ = some (.bool m2) ∧ W15.cell? ⟨w.heap.size + 1, 3, none⟩ = some (.string t2) := ⟨K.at 0 0 rfl, K.at 0 1 rfl, K.at 0 2 rfl, K.at 0 3 rfl, K.at 1 0 rfl, K.at 1 1 rfl, K.at 1 2 rfl, K.at 1 3 rfl, K.at 2 0 rfl, K.at 2 1 rfl, K.at 2 2 rfl, K.at 2 3 rfl, K.at 3 0 rfl, K.at 3 1 rfl, K.at 3 2 rfl, K.at 3 3 rfl, K.at 4 0 rfl, K.at 4 1 rfl, K.at 4 2 rfl, K.at 4 3 rfl⟩
                    go_wp2_with fail
                    refine (rcmp_eq Ir.out Iz.out (by omega) Ec0.out).mono ?_
                    rintro e W16 ⟨rfl, b16⟩
                    have K := K.keep b16
                    have B := below_more B (Nat.le_refl _) b16
                    clear b16
                    clear x1 x2 x3 x4 x5 x6 x7 x8 x9 x10 x11 x12 x13 x14 x15 x16 x17 x18 x19 x20
                    go_wp2_with fail
                    refine (awaker_any _ (H0.out.keep B) (tab_keep Ht.out B)).mono ?_
                    rintro e W17 ⟨rfl, b17⟩
                    have K := K.keep b17
                    have B := below_more B (Nat.le_refl _) b17
                    clear b17
                    go_wp2
                    go_ret
                    exact ⟨rfl, B⟩
                · skip
                  obtain ⟨x1, x2, x3, x4, x5, x6, x7, x8, x9, x10, x11, x12, x13, x14, x15, x16, x17, x18, x19, x20⟩ : wc.cell? ⟨p13, 0, none⟩ = some (.bool (sg qm.num)) ∧ wc.cell? ⟨p13, 1, none⟩ = some (.string (mg qm.num)) ∧ wc.cell? ⟨p13, 2, none⟩ = some (.bool (sg (qm.den : Int))) ∧ wc.cell? ⟨p13, 3, none⟩ = some (.string (mg (qm.den : Int))) ∧ wc.cell? ⟨p8, 0, none⟩ = some (.bool (sg qz.num)) ∧ wc.cell? ⟨p8, 1, none⟩ = some (.string (mg qz.num)) ∧ wc.cell? ⟨p8, 2, none⟩ = some (.bool (sg (qz.den : Int))) ∧ wc.cell? ⟨p8, 3, none⟩ = some (.string (mg (qz.den : Int))) ∧ wc.cell? ⟨p3, 0, none⟩ = some (.bool (sg qr.num)) ∧ wc.cell? ⟨p3, 1, none⟩ = some (.string (mg qr.num)) ∧ wc.cell? ⟨p3, 2, none⟩ = some (.bool (sg (qr.den : Int))) ∧ wc.cell? ⟨p3, 3, none⟩ = some (.string (mg (qr.den : Int))) ∧ wc.cell? ⟨w.heap.size, 0, none⟩ = some (.bool n1) ∧ wc.cell? ⟨w.heap.size, 1, none⟩ = some (.string s1) ∧ wc.cell? ⟨w.heap.size, 2, none⟩ = some (.bool m1) ∧ wc.cell? ⟨w.heap.size, 3, none⟩ = some (.string t1) ∧ wc.cell? ⟨w.heap.size + 1, 0, none⟩ = some (.bool n2) ∧ wc.cell? ⟨w.heap.size + 1, 1, none⟩ = some (.string s2) ∧ wc.cell? ⟨w.heap.size + 1, 2, none⟩ = some (.bool m2) ∧ wc.cell? ⟨w.heap.size + 1, 3, none⟩ = some (.string t2) := ⟨K.at 0 0 rfl, K.at 0 1 rfl, K.at 0 2 rfl, K.at 0 3 rfl, K.at 1 0 rfl, K.at 1 1 rfl, K.at 1 2 rfl, K.at 1 3 rfl, K.at 2 0 rfl, K.at 2 1 rfl, K.at 2 2 rfl, K.at 2 3 rfl, K.at 3 0 rfl, K.at 3 1 rfl, K.at 3 2 rfl, K.at 3 3 rfl, K.at 4 0 rfl, K.at 4 1 rfl, K.at 4 2 rfl, K.at 4 3 rfl⟩
                  go_wp2_with fail
                  refine (rcmp_eq Ir.out Iz.out (by omega) Ec0.out).mono ?_
                  rintro e W18 ⟨rfl, b18⟩
                  have K := K.keep b18
                  have B := below_more B (Nat.le_refl _) b18
                  clear b18
                  clear x1 x2 x3 x4 x5 x6 x7 x8 x9 x10 x11 x12 x13 x14 x15 x16 x17 x18 x19 x20
                  obtain ⟨x1, x2, x3, x4, x5, x6, x7, x8, x9, x10, x11, x12, x13, x14, x15, x16, x17, x18, x19, x20⟩ : W18.cell? ⟨p13, 0, none⟩ = some (.bool (sg qm.num)) ∧ W18.cell? ⟨p13, 1, none⟩ = some (.string (mg qm.num)) ∧ W18.cell? ⟨p13, 2, none⟩ = some (.bool (sg (qm.den : Int))) ∧ W18.cell? ⟨p13, 3, none⟩ = some (.string (mg (qm.den : Int))) ∧ W18.cell? ⟨p8, 0, none⟩ = some (.bool (sg qz.num)) ∧ W18.cell? ⟨p8, 1, none⟩ = some (.string (mg qz.num)) ∧ W18.cell? ⟨p8, 2, none⟩ = some (.bool (sg (qz.den : Int))) ∧ W18.cell? ⟨p8, 3, none⟩ = some (.string (mg (qz.den : Int))) ∧ W18.cell? ⟨p3, 0, none⟩ = some (.bool (sg qr.num)) ∧ W18.cell? ⟨p3, 1, none⟩ = some (.string (mg qr.num)) ∧ W18.cell? ⟨p3, 2, none⟩ = some (.bool (sg (qr.den : Int))) ∧ W18.cell? ⟨p3, 3, none⟩ = some (.string (mg (qr.den : Int))) ∧ W18.cell? ⟨w.heap.size, 0, none⟩ = some (.bool n1) ∧ W18.cell? ⟨w.heap.size, 1, none⟩ = some (.string s1) ∧ W18.cell? ⟨w.heap.size, 2, none⟩ = some (.bool m1) ∧ W18.cell? ⟨w.heap.size, 3, none⟩ = some (.string t1) ∧ W18.cell? ⟨w.heap.size + 1, 0, none⟩ = some (.bool n2) ∧ W18.cell? ⟨w.heap.size + 1, 1, none⟩ = some (.string s2) ∧ W18.cell? ⟨w.heap.size + 1, 2, none⟩ = some (.bool m2) ∧ W18.cell? ⟨w.heap.size + 1, 3, none⟩ = some (.string t2) := ⟨K.at 0 0 rfl, K.at 0 1 rfl, K.at 0 2 rfl, K.at 0 3 rfl, K.at 1 0 rfl, K.at 1 1 rfl, K.at 1 2 rfl, K.at 1 3 rfl, K.at 2 0 rfl, K.at 2 1 rfl, K.at 2 2 rfl, K.at 2 3 rfl, K.at 3 0 rfl, K.at 3 1 rfl, K.at 3 2 rfl, K.at 3 3 rfl, K.at 4 0 rfl, K.at 4 1 rfl, K.at 4 2 rfl, K.at 4 3 rfl⟩
                  go_wp2_with fail
                  refine (rcmp_eq Ip.out Im.out (by omega) Ec8.out).mono ?_
                  rintro e W19 ⟨rfl, b19⟩
                  have K := K.keep b19
                  have B := below_more B (Nat.le_refl _) b19
                  clear b19
                  clear x1 x2 x3 x4 x5 x6 x7 x8 x9 x10 x11 x12 x13 x14 x15 x16 x17 x18 x19 x20
                  obtain ⟨x1, x2, x3, x4, x5, x6, x7, x8, x9, x10, x11, x12, x13, x14, x15, x16, x17, x18, x19, x20⟩ : W19.cell? ⟨p13, 0, none⟩ = some (.bool (sg qm.num)) ∧ W19.cell? ⟨p13, 1, none⟩ = some (.string (mg qm.num)) ∧ W19.cell? ⟨p13, 2, none⟩ = some (.bool (sg (qm.den : Int))) ∧ W19.cell? ⟨p13, 3, none⟩ = some (.string (mg (qm.den : Int))) ∧ W19.cell? ⟨p8, 0, none⟩ = some (.bool (sg qz.num)) ∧ W19.cell? ⟨p8, 1, none⟩ = some (.string (mg qz.num)) ∧ W19.cell? ⟨p8, 2, none⟩ = some (.bool (sg (qz.den : Int))) ∧ W19.cell? ⟨p8, 3, none⟩ = some (.string (mg (qz.den : Int))) ∧ W19.cell? ⟨p3, 0, none⟩ = some (.bool (sg qr.num)) ∧ W19.cell? ⟨p3, 1, none⟩ = some (.string (mg qr.num)) ∧ W19.cell? ⟨p3, 2, none⟩ = some (.bool (sg (qr.den : Int))) ∧ W19.cell? ⟨p3, 3, none⟩ = some (.string (mg (qr.den : Int))) ∧ W19.cell? ⟨w.heap.size, 0, none⟩ = some (.bool n1) ∧ W19.cell? ⟨w.heap.size, 1, none⟩ = some (.string s1) ∧ W19.cell? ⟨w.heap.size, 2, none⟩ = some (.bool m1) ∧ W19.cell? ⟨w.heap.size, 3, none⟩ = some (.string t1) ∧ W19.cell? ⟨w.heap.size + 1, 0, none⟩ = some (.bool n2) ∧ W19.cell? ⟨w.heap.size + 1, 1, none⟩ = some (.string s2) ∧ W19.cell? ⟨w.heap.size + 1, 2, none⟩ = some (.bool m2) ∧ W19.cell? ⟨w.heap.size + 1, 3, none⟩ = some (.string t2) := ⟨K.at 0 0 rfl, K.at 0 1 rfl, K.at 0 2 rfl, K.at 0 3 rfl, K.at 1 0 rfl, K.at 1 1 rfl, K.at 1 2 rfl, K.at 1 3 rfl, K.at 2 0 rfl, K.at 2 1 rfl, K.at 2 2 rfl, K.at 2 3 rfl, K.at 3 0 rfl, K.at 3 1 rfl, K.at 3 2 rfl, K.at 3 3 rfl, K.at 4 0 rfl, K.at 4 1 rfl, K.at 4 2 rfl, K.at 4 3 rfl⟩
                  go_wp2_with fail
                  refine (rcmp_eq Ir.out Iz.out (by omega) Ec0.out).mono ?_
                  rintro e W20 ⟨rfl, b20⟩
                  have K := K.keep b20
                  have B := below_more B (Nat.le_refl _) b20
                  clear b20
                  clear x1 x2 x3 x4 x5 x6 x7 x8 x9 x10 x11 x12 x13 x14 x15 x16 x17 x18 x19 x20
                  go_wp2_with fail
                  refine (awaker_any _ (H0.out.keep B) (tab_keep Ht.out B)).mono ?_
                  rintro e W21 ⟨rfl, b21⟩
                  have K := K.keep b21
                  have B := below_more B (Nat.le_refl _) b21
                  clear b21
                  go_wp2
                  go_ret
                  exact ⟨rfl, B⟩
            · have hden1 : qr.den ≠ 1 := by intro h; rw [h] at hden; exact hden (by decide)
              have Hden := Lib.hid hden1
              rw [Bool.not_eq_true] at hden
              rw [hden]
              clear hden hden1
              have xw : IntKind.i64.wrap sh = sh := IntWalk.i64_in _ (by omega)
              obtain ⟨qn, En⟩ : ∃ r, Hid (Rat.divInt sh 1 = r) := ⟨_, Lib.hid rfl⟩
              have Hn := Lib.hid (show (sh : Rat) = qn by rw [← En.out, divInt_one])
              have Dn := Lib.hid (rbd_int (z := sh) (k := 1) (by omega) Hn.out)
              have In := Lib.hid (rat_is Dn.out 400 (by omega) (by omega))
              obtain ⟨qx, Ex⟩ : ∃ r, Hid (qp + qn = r) := ⟨_, Lib.hid rfl⟩
              have Dx := Lib.hid (rbd_add Dp.out Dn.out Ex.out)
              have Ix := Lib.hid (rat_is Dx.out 400 (by omega) (by omega))
              obtain ⟨qy, Ey⟩ : ∃ r, Hid (qq + qn = r) := ⟨_, Lib.hid rfl⟩
              have Dy := Lib.hid (rbd_add Dq.out Dn.out Ey.out)
              have Iy := Lib.hid (rat_is Dy.out 400 (by omega) (by omega))
              obtain ⟨qw, Ew⟩ : ∃ r, Hid (qr + qn = r) := ⟨_, Lib.hid rfl⟩
              have Dw := Lib.hid (rbd_add Dr.out Dn.out Ew.out)
              have Iw := Lib.hid (rat_is Dw.out 400 (by omega) (by omega))
              have Hxy := Lib.hid (smp_le Hle.out Ex.out Ey.out)
              have Hsh := Lib.hid (show ∀ r', Simp qx qy r' → r' = qw by
                intro r' h
                rw [← Ex.out, ← Ey.out, ← Hn.out] at h
                rw [← Ew.out, ← Hn.out]
                exact simp_shift sh HS.out h Hden.out)
              have Sw := sameR_self (sg qw.num) (sg (qw.den : Int)) (mg qw.num) (mg (qw.den : Int))
              go_wp2_with fail
              refine (lratio_any sh 1 qn _ (by omega) (by omega) (by omega) (by omega) (by omega) En.out).mono ?_
              rintro e W47 ⟨rfl, b47⟩
              have K := K.keep b47
              have B := below_more B (Nat.le_refl _) b47
              clear b47
              have hbl := below1 W47 (.cells #[.bool (sg qn.num), .string (mg qn.num), .bool (sg (qn.den : Int)), .string (mg (qn.den : Int))] 25)
              have K : Vars ((W47.heap.size, [.bool (sg qn.num), .string (mg qn.num), .bool (sg (qn.den : Int)), .string (mg (qn.den : Int))]) :: [(p3, [.bool (sg qr.num), .string (mg qr.num), .bool (sg (qr.den : Int)), .string (mg (qr.den : Int))]), (w.heap.size, [.bool n1, .string s1, .bool m1, .string t1]), (w.heap.size + 1, [.bool n2, .string s2, .bool m2, .string t2])]) (W47.alloc (.cells #[.bool (sg qn.num), .string (mg qn.num), .bool (sg (qn.den : Int)), .string (mg (qn.den : Int))] 25)) := Vars.new K _ _
              have B := below_more B (Nat.le_refl _) hbl
              clear hbl
              unfold ratV
              go_upto_region 22 with fail
              generalize W47.alloc (.cells #[.bool (sg qn.num), .string (mg qn.num), .bool (sg (qn.den : Int)), .string (mg (qn.den : Int))] 25) = V48 at *
              generalize W47.heap.size = p48 at *
              go_cut [16, 17] (fun s16 s17 wx => ∃ p16 : Nat, s16 = .pointer (some ⟨p16, 0, none⟩) ∧ s17 = .int .i64 0 ∧ Vars ((p16, [.bool (sg qw.num), .string (mg qw.num), .bool (sg (qw.den : Int)), .string (mg (qw.den : Int))]) :: [(p48, [.bool (sg qn.num), .string (mg qn.num), .bool (sg (qn.den : Int)), .string (mg (qn.den : Int))]), (p3, [.bool (sg qr.num), .string (mg qr.num), .bool (sg (qr.den : Int)), .string (mg (qr.den : Int))]), (w.heap.size, [.bool n1, .string s1, .bool m1, .string t1]), (w.heap.size + 1, [.bool n2, .string s2, .bool m2, .string t2])]) wx ∧ Below w.heap.size w wx)
              case first =>
                obtain ⟨x1, x2, x3, x4, x5, x6, x7, x8, x9, x10, x11, x12, x13, x14, x15, x16⟩ : V48.cell? ⟨p48, 0, none⟩ = some (.bool (sg qn.num)) ∧ V48.cell? ⟨p48, 1, none⟩ = some (.string (mg qn.num)) ∧ V48.cell? ⟨p48, 2, none⟩ = some (.bool (sg (qn.den : Int))) ∧ V48.cell? ⟨p48, 3, none⟩ = some (.string (mg (qn.den : Int))) ∧ V48.cell? ⟨p3, 0, none⟩ = some (.bool (sg qr.num)) ∧ V48.cell? ⟨p3, 1, none⟩ = some (.string (mg qr.num)) ∧ V48.cell? ⟨p3, 2, none⟩ = some (.bool (sg (qr.den : Int))) ∧ V48.cell? ⟨p3, 3, none⟩ = some (.string (mg (qr.den : Int))) ∧ V48.cell? ⟨w.heap.size, 0, none⟩ = some (.bool n1) ∧ V48.cell? ⟨w.heap.size, 1, none⟩ = some (.string s1) ∧ V48.cell? ⟨w.heap.size, 2, none⟩ = some (.bool m1) ∧ V48.cell? ⟨w.heap.size, 3, none⟩ = some (.string t1) ∧ V48.cell? ⟨w.heap.size + 1, 0, none⟩ = some (.bool n2) ∧ V48.cell? ⟨w.heap.size + 1, 1, none⟩ = some (.string s2) ∧ V48.cell? ⟨w.heap.size + 1, 2, none⟩ = some (.bool m2) ∧ V48.cell? ⟨w.heap.size + 1, 3, none⟩ = some (.string t2) := ⟨K.at 0 0 rfl, K.at 0 1 rfl, K.at 0 2 rfl, K.at 0 3 rfl, K.at 1 0 rfl, K.at 1 1 rfl, K.at 1 2 rfl, K.at 1 3 rfl, K.at 2 0 rfl, K.at 2 1 rfl, K.at 2 2 rfl, K.at 2 3 rfl, K.at 3 0 rfl, K.at 3 1 rfl, K.at 3 2 rfl, K.at 3 3 rfl⟩
                have KB := And.intro K B
                have FL := Lib.hid (show ∀ W, Vars [(p48, [.bool (sg qn.num), .string (mg qn.num), .bool (sg (qn.den : Int)), .string (mg (qn.den : Int))]), (p3, [.bool (sg qr.num), .string (mg qr.num), .bool (sg (qr.den : Int)), .string (mg (qr.den : Int))]), (w.heap.size, [.bool n1, .string s1, .bool m1, .string t1]), (w.heap.size + 1, [.bool n2, .string s2, .bool m2, .string t2])] W → (W.cell? ⟨p48, 0, none⟩ = some (.bool (sg qn.num)) ∧ W.cell? ⟨p48, 1, none⟩ = some (.string (mg qn.num)) ∧ W.cell? ⟨p48, 2, none⟩ = some (.bool (sg (qn.den : Int))) ∧ W.cell? ⟨p48, 3, none⟩ = some (.string (mg (qn.den : Int))) ∧ W.cell? ⟨p3, 0, none⟩ = some (.bool (sg qr.num)) ∧ W.cell? ⟨p3, 1, none⟩ = some (.string (mg qr.num)) ∧ W.cell? ⟨p3, 2, none⟩ = some (.bool (sg (qr.den : Int))) ∧ W.cell? ⟨p3, 3, none⟩ = some (.string (mg (qr.den : Int))) ∧ W.cell? ⟨w.heap.size, 0, none⟩ = some (.bool n1) ∧ W.cell? ⟨w.heap.size, 1, none⟩ = some (.string s1) ∧ W.cell? ⟨w.heap.size, 2, none⟩ = some (.bool m1) ∧ W.cell? ⟨w.heap.size, 3, none⟩ = some (.string t1) ∧ W.cell? ⟨w.heap.size + 1, 0, none⟩ = some (.bool n2) ∧ W.cell? ⟨w.heap.size + 1, 1, none⟩ = some (.string s2) ∧ W.cell? ⟨w.heap.size + 1, 2, none⟩ = some (.bool m2) ∧ W.cell? ⟨w.heap.size + 1, 3, none⟩ = some (.string t2)) from fun W h => ⟨h.at 0 0 rfl, h.at 0 1 rfl, h.at 0 2 rfl, h.at 0 3 rfl, h.at 1 0 rfl, h.at 1 1 rfl, h.at 1 2 rfl, h.at 1 3 rfl, h.at 2 0 rfl, h.at 2 1 rfl, h.at 2 2 rfl, h.at 2 3 rfl, h.at 3 0 rfl, h.at 3 1 rfl, h.at 3 2 rfl, h.at 3 3 rfl⟩)
                go_region_held3 (fun W => W.cell? ⟨p48, 0, none⟩ = some (.bool (sg qn.num)) ∧ W.cell? ⟨p48, 1, none⟩ = some (.string (mg qn.num)) ∧ W.cell? ⟨p48, 2, none⟩ = some (.bool (sg (qn.den : Int))) ∧ W.cell? ⟨p48, 3, none⟩ = some (.string (mg (qn.den : Int))) ∧ W.cell? ⟨p3, 0, none⟩ = some (.bool (sg qr.num)) ∧ W.cell? ⟨p3, 1, none⟩ = some (.string (mg qr.num)) ∧ W.cell? ⟨p3, 2, none⟩ = some (.bool (sg (qr.den : Int))) ∧ W.cell? ⟨p3, 3, none⟩ = some (.string (mg (qr.den : Int))) ∧ W.cell? ⟨w.heap.size, 0, none⟩ = some (.bool n1) ∧ W.cell? ⟨w.heap.size, 1, none⟩ = some (.string s1) ∧ W.cell? ⟨w.heap.size, 2, none⟩ = some (.bool m1) ∧ W.cell? ⟨w.heap.size, 3, none⟩ = some (.string t1) ∧ W.cell? ⟨w.heap.size + 1, 0, none⟩ = some (.bool n2) ∧ W.cell? ⟨w.heap.size + 1, 1, none⟩ = some (.string s2) ∧ W.cell? ⟨w.heap.size + 1, 2, none⟩ = some (.bool m2) ∧ W.cell? ⟨w.heap.size + 1, 3, none⟩ = some (.string t2))
                  (first | (with_reducible exact FL.out _ KB.1) | (with_reducible exact FL.out _ (Vars.drew KB.1)) | (with_reducible exact FL.out _ (Vars.alloc KB.1 _)) | (with_reducible exact FL.out _ (Vars.drew (Vars.alloc KB.1 _))) | (with_reducible exact FL.out _ (Vars.set4 KB.1 KR.2.1 _ _ _ _)) | go_keep)
                  (first
                    | (go_at_call 12; (first | (with_reducible refine (radd_any _ _ qp qn qx 400 _ Ip.out In.out (by omega) Ex.out).mono ?_) | (with_reducible refine (radd_any _ _ qq qn qy 400 _ Iq.out In.out (by omega) Ey.out).mono ?_)); rintro e X ⟨rfl, bX⟩; (try unfold ratV); (first | (with_reducible have KR := And.intro (ResRat.keep KR.1 bX) KR.2) | have KR := And.intro (ResRat.keep (ResRat.new _) bX) (And.intro (KB.1.far (Nat.le_refl _)) KB.2.size) | have KR := And.intro (ResRat.keep (ResRat.drew (ResRat.new _)) bX) (And.intro (KB.1.far (Nat.le_refl _)) KB.2.size) | skip); (try obtain ⟨⟨⟨r1, r2, r3, r4⟩, r5, r6, r7, r8⟩, _⟩ := id KR); (first | (with_reducible have KB := And.intro (KB.1.keep bX) (below_more KB.2 (Nat.le_refl _) bX)) | have KB := And.intro ((Vars.drew KB.1).keep bX) (below_more (Below.drew KB.2) (Nat.le_refl _) bX) | have KB := And.intro ((KB.1.alloc _).keep bX) (below_more (below_al KB.2 _) (Nat.le_refl _) bX) | have KB := And.intro ((Vars.drew (KB.1.alloc _)).keep bX) (below_more (Below.drew (below_al KB.2 _)) (Nat.le_refl _) bX)))
                    | (go_at_call 31; (with_reducible refine (simplest_eq Ix.out Iy.out (by omega) (by omega) Hxy.out Hsh.out).mono ?_); rintro e X ⟨rfl, bX⟩; (try unfold ratV); (first | (with_reducible have KR := And.intro (ResRat.keep KR.1 bX) KR.2) | have KR := And.intro (ResRat.keep (ResRat.new _) bX) (And.intro (KB.1.far (Nat.le_refl _)) KB.2.size) | have KR := And.intro (ResRat.keep (ResRat.drew (ResRat.new _)) bX) (And.intro (KB.1.far (Nat.le_refl _)) KB.2.size) | skip); (try obtain ⟨⟨⟨r1, r2, r3, r4⟩, r5, r6, r7, r8⟩, _⟩ := id KR); (first | (with_reducible have KB := And.intro (KB.1.keep bX) (below_more KB.2 (Nat.le_refl _) bX)) | have KB := And.intro ((Vars.drew KB.1).keep bX) (below_more (Below.drew KB.2) (Nat.le_refl _) bX) | have KB := And.intro ((KB.1.alloc _).keep bX) (below_more (below_al KB.2 _) (Nat.le_refl _) bX) | have KB := And.intro ((Vars.drew (KB.1.alloc _)).keep bX) (below_more (Below.drew (below_al KB.2 _)) (Nat.le_refl _) bX))))
                all_goals go_wp2_with fail
                all_goals go_meet
                all_goals refine ⟨_, rfl, rfl, ?_, ?_⟩
                all_goals first | exact Vars.stored (Vars.cons (four_cells r1 r2 r3 r4) KB.1) KR.2.1 _ _ _ _ | exact Vars.new KB.1 _ _ | exact below4s KB.2 _ KR.2.2 _ _ _ _ | exact below_al KB.2 _
              case rest =>
                obtain ⟨p16, rfl, rfl, K9, B9⟩ := hcut
                clear K B
                have K := K9
                have B := B9
                clear K9 B9
                go_upto_region 23 with fail
                obtain ⟨x1, x2, x3, x4, x5, x6, x7, x8, x9, x10, x11, x12, x13, x14, x15, x16, x17, x18, x19, x20⟩ : wc.cell? ⟨p16, 0, none⟩ = some (.bool (sg qw.num)) ∧ wc.cell? ⟨p16, 1, none⟩ = some (.string (mg qw.num)) ∧ wc.cell? ⟨p16, 2, none⟩ = some (.bool (sg (qw.den : Int))) ∧ wc.cell? ⟨p16, 3, none⟩ = some (.string (mg (qw.den : Int))) ∧ wc.cell? ⟨p48, 0, none⟩ = some (.bool (sg qn.num)) ∧ wc.cell? ⟨p48, 1, none⟩ = some (.string (mg qn.num)) ∧ wc.cell? ⟨p48, 2, none⟩ = some (.bool (sg (qn.den : Int))) ∧ wc.cell? ⟨p48, 3, none⟩ = some (.string (mg (qn.den : Int))) ∧ wc.cell? ⟨p3, 0, none⟩ = some (.bool (sg qr.num)) ∧ wc.cell? ⟨p3, 1, none⟩ = some (.string (mg qr.num)) ∧ wc.cell? ⟨p3, 2, none⟩ = some (.bool (sg (qr.den : Int))) ∧ wc.cell? ⟨p3, 3, none⟩ = some (.string (mg (qr.den : Int))) ∧ wc.cell? ⟨w.heap.size, 0, none⟩ = some (.bool n1) ∧ wc.cell? ⟨w.heap.size, 1, none⟩ = some (.string s1) ∧ wc.cell? ⟨w.heap.size, 2, none⟩ = some (.bool m1) ∧ wc.cell? ⟨w.heap.size, 3, none⟩ = some (.string t1) ∧ wc.cell? ⟨w.heap.size + 1, 0, none⟩ = some (.bool n2) ∧ wc.cell? ⟨w.heap.size + 1, 1, none⟩ = some (.string s2) ∧ wc.cell? ⟨w.heap.size + 1, 2, none⟩ = some (.bool m2) ∧ wc.cell? ⟨w.heap.size + 1, 3, none⟩ = some (.string t2) := ⟨K.at 0 0 rfl, K.at 0 1 rfl, K.at 0 2 rfl, K.at 0 3 rfl, K.at 1 0 rfl, K.at 1 1 rfl, K.at 1 2 rfl, K.at 1 3 rfl, K.at 2 0 rfl, K.at 2 1 rfl, K.at 2 2 rfl, K.at 2 3 rfl, K.at 3 0 rfl, K.at 3 1 rfl, K.at 3 2 rfl, K.at 3 3 rfl, K.at 4 0 rfl, K.at 4 1 rfl, K.at 4 2 rfl, K.at 4 3 rfl⟩
                have K0 : Vars [(p16, [.bool (sg qw.num), .string (mg qw.num), .bool (sg (qw.den : Int)), .string (mg (qw.den : Int))]), (p48, [.bool (sg qn.num), .string (mg qn.num), .bool (sg (qn.den : Int)), .string (mg (qn.den : Int))]), (p3, [.bool (sg qr.num), .string (mg qr.num), .bool (sg (qr.den : Int)), .string (mg (qr.den : Int))]), (w.heap.size, [.bool n1, .string s1, .bool m1, .string t1]), (w.heap.size + 1, [.bool n2, .string s2, .bool m2, .string t2])] wc.drew := K
                have B0 := B.drew
                have KB := And.intro K0 B0
                clear K0 B0
                have FL := Lib.hid (show ∀ W, Vars [(p16, [.bool (sg qw.num), .string (mg qw.num), .bool (sg (qw.den : Int)), .string (mg (qw.den : Int))]), (p48, [.bool (sg qn.num), .string (mg qn.num), .bool (sg (qn.den : Int)), .string (mg (qn.den : Int))]), (p3, [.bool (sg qr.num), .string (mg qr.num), .bool (sg (qr.den : Int)), .string (mg (qr.den : Int))]), (w.heap.size, [.bool n1, .string s1, .bool m1, .string t1]), (w.heap.size + 1, [.bool n2, .string s2, .bool m2, .string t2])] W → (W.cell? ⟨p16, 0, none⟩ = some (.bool (sg qw.num)) ∧ W.cell? ⟨p16, 1, none⟩ = some (.string (mg qw.num)) ∧ W.cell? ⟨p16, 2, none⟩ = some (.bool (sg (qw.den : Int))) ∧ W.cell? ⟨p16, 3, none⟩ = some (.string (mg (qw.den : Int))) ∧ W.cell? ⟨p48, 0, none⟩ = some (.bool (sg qn.num)) ∧ W.cell? ⟨p48, 1, none⟩ = some (.string (mg qn.num)) ∧ W.cell? ⟨p48, 2, none⟩ = some (.bool (sg (qn.den : Int))) ∧ W.cell? ⟨p48, 3, none⟩ = some (.string (mg (qn.den : Int))) ∧ W.cell? ⟨p3, 0, none⟩ = some (.bool (sg qr.num)) ∧ W.cell? ⟨p3, 1, none⟩ = some (.string (mg qr.num)) ∧ W.cell? ⟨p3, 2, none⟩ = some (.bool (sg (qr.den : Int))) ∧ W.cell? ⟨p3, 3, none⟩ = some (.string (mg (qr.den : Int))) ∧ W.cell? ⟨w.heap.size, 0, none⟩ = some (.bool n1) ∧ W.cell? ⟨w.heap.size, 1, none⟩ = some (.string s1) ∧ W.cell? ⟨w.heap.size, 2, none⟩ = some (.bool m1) ∧ W.cell? ⟨w.heap.size, 3, none⟩ = some (.string t1) ∧ W.cell? ⟨w.heap.size + 1, 0, none⟩ = some (.bool n2) ∧ W.cell? ⟨w.heap.size + 1, 1, none⟩ = some (.string s2) ∧ W.cell? ⟨w.heap.size + 1, 2, none⟩ = some (.bool m2) ∧ W.cell? ⟨w.heap.size + 1, 3, none⟩ = some (.string t2)) from fun W h => ⟨h.at 0 0 rfl, h.at 0 1 rfl, h.at 0 2 rfl, h.at 0 3 rfl, h.at 1 0 rfl, h.at 1 1 rfl, h.at 1 2 rfl, h.at 1 3 rfl, h.at 2 0 rfl, h.at 2 1 rfl, h.at 2 2 rfl, h.at 2 3 rfl, h.at 3 0 rfl, h.at 3 1 rfl, h.at 3 2 rfl, h.at 3 3 rfl, h.at 4 0 rfl, h.at 4 1 rfl, h.at 4 2 rfl, h.at 4 3 rfl⟩)
                go_region_held3 (fun W => W.cell? ⟨p16, 0, none⟩ = some (.bool (sg qw.num)) ∧ W.cell? ⟨p16, 1, none⟩ = some (.string (mg qw.num)) ∧ W.cell? ⟨p16, 2, none⟩ = some (.bool (sg (qw.den : Int))) ∧ W.cell? ⟨p16, 3, none⟩ = some (.string (mg (qw.den : Int))) ∧ W.cell? ⟨p48, 0, none⟩ = some (.bool (sg qn.num)) ∧ W.cell? ⟨p48, 1, none⟩ = some (.string (mg qn.num)) ∧ W.cell? ⟨p48, 2, none⟩ = some (.bool (sg (qn.den : Int))) ∧ W.cell? ⟨p48, 3, none⟩ = some (.string (mg (qn.den : Int))) ∧ W.cell? ⟨p3, 0, none⟩ = some (.bool (sg qr.num)) ∧ W.cell? ⟨p3, 1, none⟩ = some (.string (mg qr.num)) ∧ W.cell? ⟨p3, 2, none⟩ = some (.bool (sg (qr.den : Int))) ∧ W.cell? ⟨p3, 3, none⟩ = some (.string (mg (qr.den : Int))) ∧ W.cell? ⟨w.heap.size, 0, none⟩ = some (.bool n1) ∧ W.cell? ⟨w.heap.size, 1, none⟩ = some (.string s1) ∧ W.cell? ⟨w.heap.size, 2, none⟩ = some (.bool m1) ∧ W.cell? ⟨w.heap.size, 3, none⟩ = some (.string t1) ∧ W.cell? ⟨w.heap.size + 1, 0, none⟩ = some (.bool n2) ∧ W.cell? ⟨w.heap.size + 1, 1, none⟩ = some (.string s2) ∧ W.cell? ⟨w.heap.size + 1, 2, none⟩ = some (.bool m2) ∧ W.cell? ⟨w.heap.size + 1, 3, none⟩ = some (.string t2))
                  (first | (with_reducible exact FL.out _ KB.1) | (with_reducible exact FL.out _ (Vars.alloc KB.1 _)) | exact FL.out _ KB.1)
                  (first
                    | (go_at_call 12; (with_reducible refine (radd_any _ _ qr qn qw 400 _ Ir.out In.out (by omega) Ew.out).mono ?_); rintro e X ⟨rfl, bX⟩; (try unfold ratV); have KB := And.intro (KB.1.keep bX) (below_more KB.2 (Nat.le_refl _) bX))
                    | (go_at_call 11; (with_reducible refine (awaker_any _ (H0.out.keep KB.2) (tab_keep Ht.out KB.2)).mono ?_); rintro e X ⟨rfl, bX⟩; (try unfold ratV); have KB := And.intro (KB.1.keep bX) (below_more KB.2 (Nat.le_refl _) bX)))
                all_goals
                  go_wp2
                  go_ret
                  exact ⟨rfl, KB.2⟩
end Go.Proofs.YtabmhckgdncjlaaGreatDoor
