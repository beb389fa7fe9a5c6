/- The contracts of Div and Gcd, with a name for what comes out. Condition: the integers have at most 10^7 digits to the base 2^32. Plain facts on rational numbers: what is in lowest terms, and what integers in memory make a rational number. No condition. Polynomials as lists of coefficients: sums, products, what has no zeros at the end. Plain facts; no condition. -/
import Derived.Test.YtgcogpfmhmmgdaaGreatDoorQ19
import Derived.Test.YtgcogpfmhmmgdaaGreatDoorQ20
import Derived.Test.YtgcogpfmhmmgdaaGreatDoorProg

namespace Go.Proofs.YtgcogpfmhmmgdaaGreatDoor
open Go.RowKit

theorem ediv_eq {v1 v2 : Value} {z1 z2 q r : Int} {k1 k2 : Nat} {w : World} (h1 : IsInt v1 z1 k1) (h2 : IsInt v2 z2 k2) (h0 : z2 ≠ 0) (eq : qD z1 z2 = q) (er : rD z1 z2 = r) :
    Calls Tryz.prog 90 #[v1, v2] w fun e w' => e = .returned (.tuple #[.agg #[.bool (sg q), .string (mg q)], .agg #[.bool (sg r), .string (mg r)], .int .i64 0]) ∧ Below w.heap.size w w' := eq ▸ er ▸ idiv_all v1 v2 z1 z2 k1 k2 w h1 h2 h0
theorem cmpZ_ge' {a b : Int} (h : b ≤ a) : 0 ≤ cmpZ a b := by unfold cmpZ; split <;> (try split) <;> omega
theorem qD_bd {a b q : Int} {k : Nat} (h : a.natAbs < 4294967296 ^ k) (e : qD a b = q) : q.natAbs < 4294967296 ^ (k + 1) := by
  have h1 : ∀ s, dq s a.natAbs b.natAbs < 4294967296 ^ (k + 1) := fun s => dq_lt s _ h
  rw [← e]
  unfold qD
  split
  · rw [Int.natAbs_neg, Int.natAbs_natCast]; exact h1 _
  · rw [Int.natAbs_natCast]; exact h1 _
theorem ezero_eq {v1 v2 : Value} {z1 z2 : Int} {k1 k2 : Nat} {w : World} (h1 : IsInt v1 z1 k1) (h2 : IsInt v2 z2 k2) (h0 : z2 = 0) :
    Calls Tryz.prog 90 #[v1, v2] w fun e w' => e = .returned (.tuple #[.agg #[.bool false, .string ⟨#[]⟩], .agg #[.bool false, .string ⟨#[]⟩], .int .i64 9]) ∧ Below w.heap.size w w' := idiv_zero v1 v2 z1 k1 k2 w h1 (h0 ▸ h2)

theorem qD_exact {n g : Int} (hg : 0 < g) (hd : g ∣ n) : qD n g = n / g ∧ rD n g = 0 := by
  obtain ⟨s1, s2, s3⟩ := qD_spec (a := n) (b := g) (by omega)
  refine div_one s1 (by rw [Int.ediv_mul_cancel hd]; omega) ⟨s2, s3⟩ ⟨fun _ => by omega, fun _ => by omega⟩ (by omega)
theorem gcd_eq {v1 v2 : Value} {z1 z2 g : Int} {k1 k2 : Nat} {w : World} (h1 : IsInt v1 z1 k1) (h2 : IsInt v2 z2 k2) (e : ((Nat.gcd z1.natAbs z2.natAbs : Nat) : Int) = g) :
    Calls Tryz.prog 89 #[v1, v2] w (IntOut w g) := e ▸ gcd_any v1 v2 z1 z2 k1 k2 w h1 h2
theorem gcd_bd {a b g : Int} {k : Nat} (ha : a.natAbs < 4294967296 ^ k) (hb : b.natAbs < 4294967296 ^ k) (e : ((Nat.gcd a.natAbs b.natAbs : Nat) : Int) = g) : g.natAbs < 4294967296 ^ k := by
  rw [← e, Int.natAbs_natCast]
  by_cases h0 : a.natAbs = 0
  · rw [h0, Nat.gcd_zero_left]; exact hb
  · exact Nat.lt_of_le_of_lt (Nat.gcd_le_left _ (Nat.pos_of_ne_zero h0)) ha
end Go.Proofs.YtgcogpfmhmmgdaaGreatDoor

namespace Go.Proofs.YtgcogpfmhmmgdaaGreatDoor
open Go.RowKit

theorem dv_dvd {n d : Int} : ((Nat.gcd n.natAbs d.natAbs : Nat) : Int) ∣ n := Int.ofNat_dvd_left.2 (Nat.gcd_dvd_left _ _)
theorem dv_dvd' {n d : Int} : ((Nat.gcd n.natAbs d.natAbs : Nat) : Int) ∣ d := Int.ofNat_dvd_left.2 (Nat.gcd_dvd_right _ _)
theorem dv_pos {n d : Int} (h : 0 < d) : (0 : Int) < ((Nat.gcd n.natAbs d.natAbs : Nat) : Int) := by
  have : 0 < Nat.gcd n.natAbs d.natAbs := Nat.gcd_pos_of_pos_right _ (by omega)
  omega
theorem low_num {n d : Int} (h : 0 < d) : (Rat.divInt n d).num = n / ((Nat.gcd n.natAbs d.natAbs : Nat) : Int) := by
  rw [Rat.num_divInt, Int.sign_eq_one_of_pos h, Int.one_mul, Int.gcd_comm]; rfl
theorem low_den {n d : Int} (h : 0 < d) : ((Rat.divInt n d).den : Int) = d / ((Nat.gcd n.natAbs d.natAbs : Nat) : Int) := by
  rw [Rat.den_divInt, if_neg (by omega), Int.gcd_comm, Int.natCast_ediv]
  show ((d.natAbs : Nat) : Int) / _ = _
  rw [show ((d.natAbs : Nat) : Int) = d by omega]; rfl
theorem low_num_mul {n d : Int} (h : 0 < d) : (Rat.divInt n d).num * ((Nat.gcd n.natAbs d.natAbs : Nat) : Int) = n := by
  rw [low_num h]; exact Int.ediv_mul_cancel dv_dvd
theorem low_den_mul {n d : Int} (h : 0 < d) : ((Rat.divInt n d).den : Int) * ((Nat.gcd n.natAbs d.natAbs : Nat) : Int) = d := by
  rw [low_den h]; exact Int.ediv_mul_cancel dv_dvd'
theorem divInt_pos_iff {a b : Int} (hb : 0 < b) : 0 < Rat.divInt a b ↔ 0 < a := by
  rw [← Rat.not_le, Rat.le_iff_sub_nonneg, Rat.sub_eq_add_neg, Rat.zero_add, Rat.neg_divInt, Rat.divInt_nonneg_iff_of_pos_right hb]
  omega
theorem divInt_lt_iff {n1 d1 n2 d2 : Int} (h1 : 0 < d1) (h2 : 0 < d2) : Rat.divInt n1 d1 < Rat.divInt n2 d2 ↔ n1 * d2 < n2 * d1 := by
  rw [Rat.lt_iff_sub_pos, Rat.divInt_sub_divInt _ _ (by omega) (by omega), divInt_pos_iff (Int.mul_pos h2 h1)]
  omega
theorem floor_divInt {n d : Int} (h : 0 < d) : (Rat.divInt n d).floor = n / d := by
  rw [Rat.floor_def]
  have e1 := low_num_mul (n := n) h
  have e2 := low_den_mul (n := n) h
  have hp := dv_pos (n := n) h
  generalize ((Nat.gcd n.natAbs d.natAbs : Nat) : Int) = g at *
  generalize hr : Rat.divInt n d = r at *
  rw [← e1, ← e2, Int.mul_ediv_mul_of_pos_left _ _ hp]
theorem low_num_le {n d : Int} (h : 0 < d) : (Rat.divInt n d).num.natAbs ≤ n.natAbs := by
  have e := low_num_mul (n := n) h
  have hp := dv_pos (n := n) h
  generalize ((Nat.gcd n.natAbs d.natAbs : Nat) : Int) = g at *
  have e2 := congrArg Int.natAbs e
  rw [Int.natAbs_mul] at e2
  rw [← e2]
  exact Nat.le_mul_of_pos_right _ (by omega)
theorem low_den_le {n d : Int} (h : 0 < d) : (Rat.divInt n d).den ≤ d.natAbs := by
  have e := low_den_mul (n := n) h
  have hp := dv_pos (n := n) h
  generalize ((Nat.gcd n.natAbs d.natAbs : Nat) : Int) = g at *
  have e2 := congrArg Int.natAbs e
  rw [Int.natAbs_mul, Int.natAbs_natCast] at e2
  rw [← e2]
  exact Nat.le_mul_of_pos_right _ (by omega)
theorem divInt_quot {n1 d1 n2 d2 : Int} : Rat.divInt (n1 * d2) (d1 * n2) = Rat.divInt n1 d1 / Rat.divInt n2 d2 := by
  rw [Rat.div_def, Rat.inv_divInt, Rat.divInt_mul_divInt]
theorem qD_floor {n d : Int} (h : d ≠ 0) : qD n d = (Rat.divInt n d).floor := by
  obtain ⟨s1, s2, s3⟩ := qD_spec (a := n) (b := d) h
  rcases Int.lt_or_gt_of_ne h with h1 | h1
  · rw [← Rat.neg_divInt_neg, floor_divInt (by omega)]
    have e1 := Int.mul_ediv_add_emod (-n) (-d)
    have e2 := Int.emod_nonneg (-n) (b := -d) (by omega)
    have e3 := Int.emod_lt_of_pos (-n) (b := -d) (by omega)
    refine (div_one s1 (q' := -n / -d) (r' := -(-n % -d)) ?_ ⟨s2, s3⟩ ⟨fun _ => by omega, fun _ => by omega⟩ h).1
    have e4 : -d * (-n / -d) = -((-n / -d) * d) := by rw [Int.neg_mul, Int.mul_comm]
    omega
  · rw [floor_divInt h1]
    have e1 := Int.mul_ediv_add_emod n d
    have e2 := Int.emod_nonneg n (b := d) (by omega)
    have e3 := Int.emod_lt_of_pos n (b := d) (by omega)
    refine (div_one s1 (q' := n / d) (r' := n % d) ?_ ⟨s2, s3⟩ ⟨fun _ => by omega, fun _ => by omega⟩ h).1
    rw [Int.mul_comm]; omega

/-- The value of a rational number in lowest terms. -/
def ratV (q : Rat) : Value := .agg #[.bool (sg q.num), .string (mg q.num), .bool (sg (q.den : Int)), .string (mg (q.den : Int))]
/-- v is an api.Rat with the value q, of integers of at most k digits to the base 2^32. -/
def IsRat (v : Value) (q : Rat) (k : Nat) : Prop := ∃ na sa nb sb n d, v = .agg #[.bool na, .string sa, .bool nb, .string sb] ∧ IsInt (.agg #[.bool na, .string sa]) n k ∧ IsInt (.agg #[.bool nb, .string sb]) d k ∧ Rat.divInt n d = q
/-- .. whose denominator is greater than 0. -/
def IsUp (v : Value) (q : Rat) (k : Nat) : Prop := ∃ na sa nb sb n d, v = .agg #[.bool na, .string sa, .bool nb, .string sb] ∧ IsInt (.agg #[.bool na, .string sa]) n k ∧ IsInt (.agg #[.bool nb, .string sb]) d k ∧ 0 < d ∧ Rat.divInt n d = q
def RatOut (w : World) (q : Rat) (e : Ending) (w' : World) : Prop := e = .returned (ratV q) ∧ Below w.heap.size w w'
/-- How large a rational number is in lowest terms. -/
def RatBd (q : Rat) (k : Nat) : Prop := q.num.natAbs < 4294967296 ^ k ∧ q.den < 4294967296 ^ k
theorem IsUp.rat {v : Value} {q : Rat} {k : Nat} (h : IsUp v q k) : IsRat v q k := by
  obtain ⟨na, sa, nb, sb, n, d, h1, h2, h3, _, h4⟩ := h
  exact ⟨na, sa, nb, sb, n, d, h1, h2, h3, h4⟩
theorem isUp_ratV {q : Rat} {k : Nat} (h : RatBd q k) (hk : k ≤ 10000000) : IsUp (ratV q) q k :=
  ⟨_, _, _, _, q.num, (q.den : Int), rfl, isInt_mg h.1 hk, isInt_mg (by rw [Int.natAbs_natCast]; exact h.2) hk, by have := q.den_pos; omega, Rat.num_divInt_den q⟩
theorem isRat_ratV {q : Rat} {k : Nat} (h : RatBd q k) (hk : k ≤ 10000000) : IsRat (ratV q) q k := (isUp_ratV h hk).rat
theorem divInt_norm (n d : Int) : ∃ n' d' : Int, Rat.divInt n' d' = Rat.divInt n d ∧ 0 < d' ∧ n'.natAbs ≤ n.natAbs ∧ (d' = 1 ∨ d'.natAbs = d.natAbs) := by
  rcases Int.lt_trichotomy d 0 with h | h | h
  · exact ⟨-n, -d, Rat.neg_divInt_neg n d, by omega, by omega, by omega⟩
  · subst h; exact ⟨0, 1, by simp, by omega, by omega, by omega⟩
  · exact ⟨n, d, rfl, h, by omega, by omega⟩
theorem ratBd_divInt {n d : Int} {k : Nat} (hn : n.natAbs < 4294967296 ^ k) (hd : d.natAbs < 4294967296 ^ k) : RatBd (Rat.divInt n d) (k + 1) := by
  obtain ⟨n', d', e, hp, h1, h2⟩ := divInt_norm n d
  rw [← e]
  have l1 := low_num_le (n := n') hp
  have l2 := low_den_le (n := n') hp
  have hP : 1 ≤ 4294967296 ^ k := Nat.pow_pos (by omega)
  constructor
  · rw [Nat.pow_succ]; omega
  · rw [Nat.pow_succ]; rcases h2 with h2 | h2 <;> omega
/-- The order of two rational numbers. -/
def cmpQ (p q : Rat) : Int := if p < q then -1 else if q < p then 1 else 0
theorem cmpQ_eq {n1 d1 n2 d2 : Int} (h1 : 0 < d1) (h2 : 0 < d2) : cmpZ (n1 * d2) (n2 * d1) = cmpQ (Rat.divInt n1 d1) (Rat.divInt n2 d2) := by
  unfold cmpZ cmpQ
  simp only [divInt_lt_iff h1 h2, divInt_lt_iff h2 h1]
end Go.Proofs.YtgcogpfmhmmgdaaGreatDoor

namespace Go.Proofs.YtgcogpfmhmmgdaaGreatDoor

/-- The coefficient of x^i. -/
def co (L : List Int) (i : Nat) : Int := L.getD i 0
theorem co_nil (i : Nat) : co [] i = 0 := by simp [co]
theorem co_cons0 (x : Int) (L : List Int) : co (x :: L) 0 = x := rfl
theorem co_consS (x : Int) (L : List Int) (i : Nat) : co (x :: L) (i + 1) = co L i := by simp [co]
theorem co_ge {L : List Int} {i : Nat} (h : L.length ≤ i) : co L i = 0 := by simp [co, h]
theorem co_get {L : List Int} {i : Nat} (h : i < L.length) : L[i]? = some (co L i) := by simp [co, h]
/-- Without zeros at the end. -/
def trm : List Int → List Int
  | [] => []
  | x :: L => if x = 0 ∧ trm L = [] then [] else x :: trm L
theorem co_trm (L : List Int) : ∀ i, co (trm L) i = co L i := by
  induction L with
  | nil => intro i; rfl
  | cons x L ih =>
    intro i
    unfold trm
    split
    · rename_i h
      rw [co_nil]
      cases i with
      | zero => rw [co_cons0]; exact h.1.symm
      | succ i => rw [co_consS, ← ih i, h.2, co_nil]
    · cases i with
      | zero => rfl
      | succ i => rw [co_consS, co_consS, ih]
theorem trm_nil_iff (L : List Int) : trm L = [] ↔ ∀ i, co L i = 0 := by
  constructor
  · intro h i
    rw [← co_trm, h, co_nil]
  · intro h
    induction L with
    | nil => rfl
    | cons x L ih =>
      unfold trm
      rw [if_pos ⟨h 0, ih fun i => by rw [← co_consS x L i]; exact h (i + 1)⟩]
theorem trm_eq {L M : List Int} (h : ∀ i, co L i = co M i) : trm L = trm M := by
  induction L generalizing M with
  | nil => exact ((trm_nil_iff M).2 fun i => by rw [← h i, co_nil]).symm
  | cons x L ih =>
    cases M with
    | nil => exact (trm_nil_iff (x :: L)).2 fun i => by rw [h i, co_nil]
    | cons y M =>
      have h0 : x = y := h 0
      have h1 := ih (M := M) fun i => by rw [← co_consS x L i, h (i + 1), co_consS]
      unfold trm
      rw [h0, h1]
theorem trm_trm (L : List Int) : trm (trm L) = trm L := trm_eq fun i => co_trm L i
theorem trm_len (L : List Int) : (trm L).length ≤ L.length := by
  induction L with
  | nil => exact Nat.le_refl _
  | cons x L ih =>
    unfold trm
    split
    · simp
    · simp; exact ih
/-- The last coefficient of what has no zeros at the end is none. -/
theorem trm_last (L : List Int) {n : Nat} (h : (trm L).length = n + 1) : co L n ≠ 0 := by
  induction L generalizing n with
  | nil => simp [trm] at h
  | cons x L ih =>
    unfold trm at h
    split at h
    · simp at h
    · rename_i hn
      simp only [List.length_cons] at h
      cases n with
      | zero =>
        rw [co_cons0]
        intro hx
        exact hn ⟨hx, List.eq_nil_of_length_eq_zero (by omega)⟩
      | succ n =>
        rw [co_consS]
        exact ih (by omega)
theorem trm_above (L : List Int) {i : Nat} (h : (trm L).length ≤ i) : co L i = 0 := by rw [← co_trm, co_ge h]
/-- Where the zeros at the end begin. -/
theorem trm_len_of {L : List Int} {n : Nat} (h0 : ∀ i, n ≤ i → co L i = 0) (h1 : n = 0 ∨ co L (n - 1) ≠ 0) : (trm L).length = n := by
  rcases Nat.lt_trichotomy (trm L).length n with h | h | h
  · rcases h1 with rfl | h1
    · omega
    · exact absurd (trm_above L (show _ ≤ n - 1 by omega)) h1
  · exact h
  · obtain ⟨m, hm⟩ : ∃ m, (trm L).length = m + 1 := ⟨(trm L).length - 1, by omega⟩
    exact absurd (h0 m (by omega)) (trm_last L hm)
theorem trm_take {L : List Int} : trm L = L.take (trm L).length := by
  induction L with
  | nil => rfl
  | cons x L ih =>
    unfold trm
    split
    · simp
    · rename_i h
      simp only [List.length_cons, List.take_succ_cons]
      rw [← ih]
/-- The product's coefficients, by the first factor's list. -/
def mulL : List Int → (Nat → Int) → Nat → Int
  | [], _ => fun _ => 0
  | x :: a, g => fun k => x * g k + (match k with | 0 => 0 | k + 1 => mulL a g k)
theorem mulL_0 (x : Int) (a : List Int) (g : Nat → Int) : mulL (x :: a) g 0 = x * g 0 := by simp [mulL]
theorem mulL_S (x : Int) (a : List Int) (g : Nat → Int) (k : Nat) : mulL (x :: a) g (k + 1) = x * g (k + 1) + mulL a g k := rfl
theorem mulL_add (a : List Int) (g h : Nat → Int) : ∀ k, mulL a (fun i => g i + h i) k = mulL a g k + mulL a h k := by
  induction a with
  | nil => intro k; rfl
  | cons x a ih =>
    intro k
    cases k with
    | zero => simp only [mulL_0]; exact Int.mul_add _ _ _
    | succ k => simp only [mulL_S]; rw [ih]; grind
theorem mulL_scale (a : List Int) (c : Int) (g : Nat → Int) : ∀ k, mulL a (fun i => c * g i) k = c * mulL a g k := by
  induction a with
  | nil => intro k; simp [mulL]
  | cons x a ih =>
    intro k
    cases k with
    | zero => simp only [mulL_0]; grind
    | succ k => simp only [mulL_S]; rw [ih]; grind
/-- One place higher. -/
def up (g : Nat → Int) : Nat → Int
  | 0 => 0
  | k + 1 => g k
theorem mulL_up (a : List Int) (g : Nat → Int) : ∀ k, mulL a (up g) k = up (mulL a g) k := by
  induction a with
  | nil => intro k; cases k <;> rfl
  | cons x a ih =>
    intro k
    cases k with
    | zero => rw [mulL_0]; simp [up]
    | succ k =>
      rw [mulL_S, ih]
      cases k with
      | zero => show x * g 0 + 0 = _; simp [up, mulL_0]
      | succ k => show x * g (k + 1) + mulL a g k = _; rfl
theorem mulL_congr (a : List Int) {g h : Nat → Int} (e : ∀ i, g i = h i) : ∀ k, mulL a g k = mulL a h k := fun k => by rw [funext e]
def one : Nat → Int
  | 0 => 1
  | _ + 1 => 0
theorem mulL_one (a : List Int) : ∀ k, mulL a one k = co a k := by
  induction a with
  | nil => intro k; rfl
  | cons x a ih =>
    intro k
    cases k with
    | zero => rw [mulL_0]; simp [one, co_cons0]
    | succ k => rw [mulL_S, ih]; simp [one, co_consS]
theorem co_split (x : Int) (a : List Int) : ∀ i, co (x :: a) i = x * one i + up (co a) i := by
  intro i
  cases i with
  | zero => simp [one, up, co_cons0]
  | succ i => simp [one, up, co_consS]
theorem mulL_comm (a b : List Int) : ∀ k, mulL a (co b) k = mulL b (co a) k := by
  induction a with
  | nil =>
    intro k
    rw [mulL_congr b (h := fun i => 0 * co b i) (fun i => by rw [co_nil]; simp), mulL_scale]
    simp [mulL]
  | cons x a ih =>
    intro k
    rw [mulL_congr b (co_split x a), mulL_add, mulL_scale, mulL_one, mulL_up]
    cases k with
    | zero => rw [mulL_0]; simp [up]
    | succ k => rw [mulL_S, ih]; rfl
theorem mulL_zero (a : List Int) (g : Nat → Int) (h : ∀ i, co a i = 0) : ∀ k, mulL a g k = 0 := by
  induction a with
  | nil => intro k; rfl
  | cons x a ih =>
    intro k
    have hx : x = 0 := h 0
    have ih' := ih fun i => by rw [← co_consS x a i]; exact h (i + 1)
    cases k with
    | zero => rw [mulL_0, hx]; simp
    | succ k => rw [mulL_S, hx, ih']; simp
theorem mulL_congr1 {a b : List Int} (g : Nat → Int) (h : ∀ i, co a i = co b i) : ∀ k, mulL a g k = mulL b g k := by
  induction a generalizing b with
  | nil => intro k; rw [mulL_zero b g fun i => by rw [← h i, co_nil]]; rfl
  | cons x a ih =>
    intro k
    cases b with
    | nil => rw [mulL_zero (x :: a) g fun i => by rw [h i, co_nil]]; rfl
    | cons y b =>
      have hx : x = y := h 0
      have ih' := ih (b := b) fun i => by rw [← co_consS x a i, h (i + 1), co_consS]
      cases k with
      | zero => rw [mulL_0, mulL_0, hx]
      | succ k => rw [mulL_S, mulL_S, hx, ih']
/-- Sums and products as lists. -/
def addL : List Int → List Int → List Int
  | [], b => b
  | a, [] => a
  | x :: a, y :: b => (x + y) :: addL a b
theorem co_addL (a b : List Int) : ∀ i, co (addL a b) i = co a i + co b i := by
  induction a generalizing b with
  | nil => intro i; unfold addL; rw [co_nil]; simp
  | cons x a ih =>
    intro i
    cases b with
    | nil => unfold addL; rw [co_nil]; simp
    | cons y b =>
      unfold addL
      cases i with
      | zero => rfl
      | succ i => rw [co_consS, co_consS, co_consS, ih]
def prodL : List Int → List Int → List Int
  | [], _ => []
  | x :: a, b => addL (b.map (x * ·)) (0 :: prodL a b)
theorem co_map (x : Int) (b : List Int) (i : Nat) : co (b.map (x * ·)) i = x * co b i := by
  unfold co
  rw [List.getD_eq_getElem?_getD, List.getD_eq_getElem?_getD, List.getElem?_map]
  rcases b[i]? with _ | y
  · simp
  · rfl
theorem co_prodL (a b : List Int) : ∀ i, co (prodL a b) i = mulL a (co b) i := by
  induction a with
  | nil => intro i; rfl
  | cons x a ih =>
    intro i
    unfold prodL
    rw [co_addL, co_map]
    cases i with
    | zero => rw [mulL_0]; simp [co]
    | succ i => rw [mulL_S, co_consS, ih]
theorem mulL_addL (a b : List Int) (g : Nat → Int) : ∀ k, mulL (addL a b) g k = mulL a g k + mulL b g k := by
  induction a generalizing b with
  | nil => intro k; unfold addL; simp [mulL]
  | cons x a ih =>
    intro k
    cases b with
    | nil => unfold addL; simp [mulL]
    | cons y b =>
      unfold addL
      cases k with
      | zero => simp only [mulL_0]; grind
      | succ k => simp only [mulL_S]; rw [ih]; grind
theorem mulL_map (x : Int) (b : List Int) (g : Nat → Int) : ∀ k, mulL (b.map (x * ·)) g k = x * mulL b g k := by
  induction b with
  | nil => intro k; simp [mulL]
  | cons y b ih =>
    intro k
    rw [List.map_cons]
    cases k with
    | zero => simp only [mulL_0]; grind
    | succ k => simp only [mulL_S]; rw [ih]; grind
/-- Products are associative. -/
theorem mulL_assoc (a b : List Int) (g : Nat → Int) : ∀ k, mulL (prodL a b) g k = mulL a (mulL b g) k := by
  induction a with
  | nil => intro k; rfl
  | cons x a ih =>
    intro k
    unfold prodL
    rw [mulL_addL, mulL_map]
    cases k with
    | zero => rw [mulL_0, mulL_0]; simp
    | succ k => rw [mulL_S, mulL_S, ih]; simp
theorem trm_mul_comm (a b : List Int) : trm (prodL a b) = trm (prodL b a) := trm_eq fun i => by rw [co_prodL, co_prodL, mulL_comm]
theorem trm_mul_assoc (a b c : List Int) : trm (prodL (trm (prodL a b)) c) = trm (prodL a (trm (prodL b c))) := trm_eq fun i => by
  rw [co_prodL, co_prodL, mulL_congr1 (b := prodL a b) _ (co_trm _), mulL_assoc, mulL_congr a (co_trm _), mulL_congr a (co_prodL b c)]
theorem trm_mul_add (a b c : List Int) : trm (prodL a (trm (addL b c))) = trm (addL (trm (prodL a b)) (trm (prodL a c))) := trm_eq fun i => by
  rw [co_prodL, mulL_congr a (co_trm _), mulL_congr a (co_addL b c), mulL_add, co_addL, co_trm, co_trm, co_prodL, co_prodL]
/-- What the first factor's terms from i on make. -/
theorem mulL_drop (a : List Int) (g : Nat → Int) (i : Nat) (h : i < a.length) : ∀ k, mulL (a.drop i) g k = co a i * g k + up (mulL (a.drop (i + 1)) g) k := by
  intro k
  have e : a.drop i = co a i :: a.drop (i + 1) := by
    rw [List.drop_eq_getElem_cons h]
    congr 1
    unfold co
    simp [h]
  rw [e]
  cases k with
  | zero => rw [mulL_0]; simp [up]
  | succ k => rfl
/-- The degree of a product. -/
theorem mulL_top (a b : List Int) {m n : Nat} (ha : ∀ i, m < i → co a i = 0) (hb : ∀ i, n < i → co b i = 0) : mulL a (co b) (m + n) = co a m * co b n ∧ ∀ k, m + n < k → mulL a (co b) k = 0 := by
  induction a generalizing m with
  | nil => exact ⟨by rw [co_nil]; simp [mulL], fun k _ => rfl⟩
  | cons x a ih =>
    cases m with
    | zero =>
      have h0 : ∀ i, co a i = 0 := fun i => by rw [← co_consS x a i]; exact ha _ (by omega)
      constructor
      · rw [Nat.zero_add, co_cons0]
        cases n with
        | zero => rw [mulL_0]
        | succ n => rw [mulL_S, mulL_zero a _ h0]; simp
      · intro k hk
        cases k with
        | zero => omega
        | succ k => rw [mulL_S, mulL_zero a _ h0, hb _ (by omega)]; simp
    | succ m =>
      obtain ⟨e1, e2⟩ := ih (m := m) fun i hi => by rw [← co_consS x a i]; exact ha _ (by omega)
      constructor
      · rw [show m + 1 + n = (m + n) + 1 by omega, mulL_S, e1, hb _ (by omega), co_consS]; simp
      · intro k hk
        cases k with
        | zero => omega
        | succ k => rw [mulL_S, e2 k (by omega), hb _ (by omega)]; simp
theorem trm_len_mul (a b : List Int) (ha : trm a ≠ []) (hb : trm b ≠ []) : (trm (prodL a b)).length = (trm a).length + (trm b).length - 1 := by
  obtain ⟨m, hm⟩ : ∃ m, (trm a).length = m + 1 := ⟨(trm a).length - 1, by have := List.length_pos_iff.2 ha; omega⟩
  obtain ⟨n, hn⟩ : ∃ n, (trm b).length = n + 1 := ⟨(trm b).length - 1, by have := List.length_pos_iff.2 hb; omega⟩
  obtain ⟨e1, e2⟩ := mulL_top a b (m := m) (n := n) (fun i hi => trm_above a (by omega)) (fun i hi => trm_above b (by omega))
  refine (trm_len_of (n := m + n + 1) ?_ (.inr ?_)).trans (by omega)
  · intro i hi
    rw [co_prodL]
    exact e2 i (by omega)
  · rw [co_prodL, show m + n + 1 - 1 = m + n by omega, e1]
    exact Int.mul_ne_zero (trm_last a hm) (trm_last b hn)
theorem trm_mul_zero (a b : List Int) (h : trm a = [] ∨ trm b = []) : trm (prodL a b) = [] := by
  rw [trm_nil_iff]
  intro i
  rw [co_prodL]
  rcases h with h | h
  · exact mulL_zero a _ ((trm_nil_iff a).1 h) i
  · rw [mulL_comm]; exact mulL_zero b _ ((trm_nil_iff b).1 h) i
end Go.Proofs.YtgcogpfmhmmgdaaGreatDoor
