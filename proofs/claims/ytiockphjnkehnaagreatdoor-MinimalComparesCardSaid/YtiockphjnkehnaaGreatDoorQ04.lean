/- Plain facts on sets of states kept as numbers: their bits, the least member, what is left without it. No condition. Plain facts on graphs of sets: how they are found, and what the result is. No condition. What graph.passed returns. Conditions: at most 64 states, edges between states. -/
import Derived.Test.YtiockphjnkehnaaGreatDoorQ03
import Derived.Lib.TrailingZeros
import Derived.Deep.DeepCutAuto

namespace Go.Proofs.YtiockphjnkehnaaGreatDoor
set_option linter.unusedVariables false

def mkN (f : Nat → Bool) : Nat → Nat
  | 0 => 0
  | n + 1 => mkN f n ||| (if f n = true then 2 ^ n else 0)
theorem mkN_lt (f : Nat → Bool) : ∀ n, mkN f n < 2 ^ n
  | 0 => by show 0 < 1; decide
  | n + 1 => by
    unfold mkN
    have h := mkN_lt f n
    have h2 : (2 : Nat) ^ n < 2 ^ (n + 1) := Nat.pow_lt_pow_right (by decide) (Nat.lt_succ_self n)
    exact Nat.or_lt_two_pow (by omega) (by split <;> omega)
theorem mkN_bit (f : Nat → Bool) : ∀ (n i : Nat), (mkN f n).testBit i = (decide (i < n) && f i)
  | 0, i => by simp [mkN]
  | n + 1, i => by
    unfold mkN
    rw [Nat.testBit_or, mkN_bit f n i]
    by_cases h : i = n
    · subst h
      cases hf : f i with
      | true => rw [if_pos rfl, Nat.testBit_two_pow_self]; simp
      | false => rw [if_neg (by decide)]; simp
    · have e : (if f n = true then 2 ^ n else 0).testBit i = false := by
        split
        · exact Nat.testBit_two_pow_of_ne (fun h2 => h h2.symm)
        · simp
      rw [e, Bool.or_false]
      by_cases h3 : i < n
      · rw [decide_eq_true h3, decide_eq_true (show i < n + 1 by omega)]
      · rw [decide_eq_false h3, decide_eq_false (show ¬ i < n + 1 by omega)]
theorem mkN_lt64 (f : Nat → Bool) : mkN f 64 < 18446744073709551616 := mkN_lt f 64
theorem bit_hi {S i : Nat} (h : S < 18446744073709551616) (hi : 64 ≤ i) : S.testBit i = false :=
  Nat.testBit_lt_two_pow (Nat.lt_of_lt_of_le h (Nat.pow_le_pow_right (n := 2) (by decide) hi))
theorem set_ext {S T : Nat} (hS : S < 18446744073709551616) (hT : T < 18446744073709551616) (h : ∀ i, i < 64 → S.testBit i = T.testBit i) : S = T := by
  apply Nat.eq_of_testBit_eq
  intro i
  by_cases hi : i < 64
  · exact h i hi
  · rw [bit_hi hS (by omega), bit_hi hT (by omega)]
def clr (S : Nat) : Nat := S &&& (S - 1)
theorem clr_lt {S : Nat} (h : S < 18446744073709551616) : clr S < 18446744073709551616 := Nat.and_lt_two_pow (n := 64) _ (by omega)
theorem ctz_form {S : Nat} (h0 : S ≠ 0) (h : S < 18446744073709551616) : ∃ m, S = 2 ^ Lib.ctz 64 S * (2 * m + 1) ∧ Lib.ctz 64 S < 64 := by
  obtain ⟨m, h1, h2⟩ := Lib.ctzFrom_spec 64 S (by omega) h
  have e : Lib.ctz 64 S = Lib.ctzFrom 64 S := by unfold Lib.ctz; rw [if_neg h0]
  rw [e]
  exact ⟨m, h1, h2⟩
theorem ctz_lt {S : Nat} (h0 : S ≠ 0) (h : S < 18446744073709551616) : Lib.ctz 64 S < 64 := by
  obtain ⟨m, _, h2⟩ := ctz_form h0 h
  exact h2
theorem ctz_bit {S : Nat} (h0 : S ≠ 0) (h : S < 18446744073709551616) : S.testBit (Lib.ctz 64 S) = true := by
  obtain ⟨m, h1, h2⟩ := ctz_form h0 h
  generalize Lib.ctz 64 S = k at *
  rw [h1, Nat.testBit_two_pow_mul]
  simp
theorem ctz_below {S i : Nat} (h0 : S ≠ 0) (h : S < 18446744073709551616) (hi : i < Lib.ctz 64 S) : S.testBit i = false := by
  obtain ⟨m, h1, h2⟩ := ctz_form h0 h
  generalize Lib.ctz 64 S = k at *
  rw [h1, Nat.testBit_two_pow_mul, decide_eq_false (by omega)]
  rfl
theorem clr_bit {S : Nat} (h0 : S ≠ 0) (h : S < 18446744073709551616) (i : Nat) : (clr S).testBit i = (S.testBit i && decide (i ≠ Lib.ctz 64 S)) := by
  obtain ⟨m, h1, h2⟩ := ctz_form h0 h
  generalize Lib.ctz 64 S = k at *
  have hp : 0 < 2 ^ k := Nat.two_pow_pos k
  have e1 : S - 1 = 2 ^ k * (2 * m) + (2 ^ k - 1) := by rw [h1, Nat.mul_add, Nat.mul_one]; omega
  unfold clr
  rw [Nat.testBit_and, e1, Nat.testBit_two_pow_mul_add _ (by omega) i]
  have e2 : S.testBit i = (decide (k ≤ i) && (2 * m + 1).testBit (i - k)) := by rw [h1, Nat.testBit_two_pow_mul]
  rw [e2]
  by_cases hk : k ≤ i
  · rw [decide_eq_true hk, if_neg (by omega)]
    by_cases he : i = k
    · subst he
      rw [Nat.sub_self, Nat.testBit_zero, Nat.testBit_zero]
      have : (2 * m) % 2 = 0 := by omega
      simp
    · rw [decide_eq_true (show i ≠ k from he)]
      obtain ⟨j, hj⟩ : ∃ j, i - k = j + 1 := ⟨i - k - 1, by omega⟩
      rw [hj, Nat.testBit_succ, Nat.testBit_succ, show (2 * m + 1) / 2 = m by omega, show (2 * m) / 2 = m by omega]
      simp
  · rw [decide_eq_false hk]
    simp
def fromN (S c cur : Nat) : Prop := cur < 18446744073709551616 ∧ ∀ i, cur.testBit i = (decide (c ≤ i) && S.testBit i)
theorem fromN_start {S : Nat} (h : S < 18446744073709551616) : fromN S 0 S := ⟨h, fun i => by rw [decide_eq_true (Nat.zero_le i)]; rfl⟩
theorem fromN_ctz {S c cur : Nat} (h : fromN S c cur) (h0 : cur ≠ 0) : c ≤ Lib.ctz 64 cur ∧ Lib.ctz 64 cur < 64 ∧ S.testBit (Lib.ctz 64 cur) = true ∧ ∀ i, c ≤ i → i < Lib.ctz 64 cur → S.testBit i = false := by
  have h1 := ctz_bit h0 h.1
  rw [h.2, Bool.and_eq_true, decide_eq_true_iff] at h1
  refine ⟨h1.1, ctz_lt h0 h.1, h1.2, fun i hi hi2 => ?_⟩
  have h2 := ctz_below h0 h.1 hi2
  rw [h.2, decide_eq_true hi] at h2
  exact h2
theorem fromN_step {S c cur : Nat} (h : fromN S c cur) (h0 : cur ≠ 0) : fromN S (Lib.ctz 64 cur + 1) (clr cur) := by
  obtain ⟨h1, h2, h3, h4⟩ := fromN_ctz h h0
  refine ⟨clr_lt h.1, fun i => ?_⟩
  rw [clr_bit h0 h.1, h.2]
  by_cases e1 : c ≤ i
  · rw [decide_eq_true e1]
    by_cases e2 : i = Lib.ctz 64 cur
    · rw [decide_eq_false (by omega), decide_eq_false (show ¬ (Lib.ctz 64 cur + 1 ≤ i) by omega)]; simp
    · rw [decide_eq_true (show i ≠ Lib.ctz 64 cur from e2)]
      by_cases e3 : Lib.ctz 64 cur + 1 ≤ i
      · rw [decide_eq_true e3]; simp
      · rw [decide_eq_false e3, h4 i e1 (by omega)]; rfl
  · rw [decide_eq_false e1, decide_eq_false (show ¬ (Lib.ctz 64 cur + 1 ≤ i) by omega)]; rfl
theorem mems_skip {f : Nat → Bool} {c : Nat} : ∀ (d : Nat), (∀ i, c ≤ i → i < c + d → f i = false) → mems (c + d) f = mems c f
  | 0, _ => rfl
  | d + 1, h => by
    rw [← Nat.add_assoc, mems_succ, h (c + d) (by omega) (by omega), if_neg (by decide), List.append_nil]
    exact mems_skip d (fun i h1 h2 => h i h1 (by omega))
theorem mems_next {f : Nat → Bool} {c k : Nat} (h : c ≤ k) (h1 : f k = true) (h2 : ∀ i, c ≤ i → i < k → f i = false) : mems (k + 1) f = mems c f ++ [(k : Int)] := by
  obtain ⟨d, rfl⟩ : ∃ d, k = c + d := ⟨k - c, by omega⟩
  rw [mems_succ, if_pos h1, mems_skip d h2]
theorem fromN_mems {S c cur : Nat} (h : fromN S c cur) (h0 : cur ≠ 0) : mems (Lib.ctz 64 cur + 1) S.testBit = mems c S.testBit ++ [((Lib.ctz 64 cur : Nat) : Int)] := by
  obtain ⟨h1, _, h3, h4⟩ := fromN_ctz h h0
  exact mems_next h1 h3 h4
theorem fromN_end {S c : Nat} (h : fromN S c 0) (hc : c ≤ 64) : mems 64 S.testBit = mems c S.testBit := by
  obtain ⟨d, hd⟩ : ∃ d, 64 = c + d := ⟨64 - c, by omega⟩
  rw [hd]
  exact mems_skip d (fun i h1 _ => by
    have := h.2 i
    rw [Nat.zero_testBit, decide_eq_true h1] at this
    exact this.symm)
def memN (S : Nat) : List Int := mems 64 S.testBit
theorem mems_mem {n : Nat} {f : Nat → Bool} {x : Int} : x ∈ mems n f ↔ ∃ i : Nat, x = (i : Int) ∧ i < n ∧ f i = true := by
  unfold mems
  rw [List.mem_map]
  constructor
  · rintro ⟨i, h, rfl⟩
    rw [List.mem_filter, List.mem_range] at h
    exact ⟨i, rfl, h.1, h.2⟩
  · rintro ⟨i, rfl, h1, h2⟩
    exact ⟨i, List.mem_filter.2 ⟨List.mem_range.2 h1, h2⟩, rfl⟩
theorem memN_mem {S s : Nat} (h : S < 18446744073709551616) : (s : Int) ∈ memN S ↔ S.testBit s = true := by
  unfold memN
  rw [mems_mem]
  constructor
  · rintro ⟨i, h1, h2, h3⟩
    obtain rfl : s = i := by omega
    exact h3
  · intro h1
    refine ⟨s, rfl, ?_, h1⟩
    apply Nat.lt_of_not_le
    intro hle
    rw [bit_hi h hle] at h1
    cases h1
theorem memN_inj {S T : Nat} (hS : S < 18446744073709551616) (hT : T < 18446744073709551616) (h : memN S = memN T) : S = T := by
  apply set_ext hS hT
  intro i hi
  rw [Bool.eq_iff_iff, ← memN_mem hS, ← memN_mem hT, h]
def mvN (es : List E3) (l s : Nat) : Nat := mkN (fun t => es.any fun e => e.1 == (s : Int) && e.2.1 == (l : Int) && e.2.2 == (t : Int)) 64
def accN (es : List E3) (l S c : Nat) : Nat := mkN (fun t => es.any fun e => decide (0 ≤ e.1) && decide (e.1 < (c : Int)) && S.testBit e.1.toNat && e.2.1 == (l : Int) && e.2.2 == (t : Int)) 64
def stN (es : List E3) (S l : Nat) : Nat := accN es l S 64
theorem mvN_lt (es : List E3) (l s : Nat) : mvN es l s < 18446744073709551616 := mkN_lt64 _
theorem accN_lt (es : List E3) (l S c : Nat) : accN es l S c < 18446744073709551616 := mkN_lt64 _
theorem stN_lt (es : List E3) (S l : Nat) : stN es S l < 18446744073709551616 := mkN_lt64 _
theorem accN_zero (es : List E3) (l S : Nat) : accN es l S 0 = 0 := by
  apply Nat.eq_of_testBit_eq
  intro i
  unfold accN
  rw [mkN_bit, Nat.zero_testBit, Bool.and_eq_false_iff]
  right
  rw [List.any_eq_false]
  intro e he h
  simp only [Bool.and_eq_true, decide_eq_true_iff] at h
  omega
theorem accN_skip {es : List E3} {l S c d : Nat} (hcd : c ≤ d) (h : ∀ i, c ≤ i → i < d → S.testBit i = false) : accN es l S d = accN es l S c := by
  unfold accN
  congr 1
  funext t
  congr 1
  funext e
  by_cases h0 : 0 ≤ e.1
  · obtain ⟨s, hs⟩ : ∃ s : Nat, e.1 = (s : Int) := ⟨e.1.toNat, by omega⟩
    rw [hs, Int.toNat_natCast]
    by_cases h1 : s < c
    · rw [decide_eq_true (show (s : Int) < (d : Int) by omega), decide_eq_true (show (s : Int) < (c : Int) by omega)]
    · by_cases h2 : s < d
      · rw [h s (by omega) h2]; simp
      · rw [decide_eq_false (show ¬ (s : Int) < (d : Int) by omega), decide_eq_false (show ¬ (s : Int) < (c : Int) by omega)]
  · rw [decide_eq_false h0]; simp
theorem any_or {α : Type} (l : List α) (p q : α → Bool) : (l.any fun x => p x || q x) = (l.any p || l.any q) := by
  induction l with
  | nil => rfl
  | cons a r ih => simp only [List.any_cons, ih]; cases p a <;> cases q a <;> cases r.any p <;> cases r.any q <;> rfl
theorem accN_add {es : List E3} {l S k : Nat} (h : S.testBit k = true) : accN es l S (k + 1) = accN es l S k ||| mvN es l k := by
  apply Nat.eq_of_testBit_eq
  intro t
  unfold accN mvN
  rw [Nat.testBit_or, mkN_bit, mkN_bit, mkN_bit, ← Bool.and_or_distrib_left, ← any_or]
  congr 1
  congr 1
  funext e
  by_cases h0 : 0 ≤ e.1
  · obtain ⟨s, hs⟩ : ∃ s : Nat, e.1 = (s : Int) := ⟨e.1.toNat, by omega⟩
    rw [hs, Int.toNat_natCast, decide_eq_true (show (0 : Int) ≤ (s : Int) by omega)]
    by_cases h1 : s = k
    · subst h1
      rw [h, decide_eq_true (show (s : Int) < ((s + 1 : Nat) : Int) by omega), decide_eq_false (show ¬ (s : Int) < (s : Int) by omega)]
      simp
    · rw [show ((s : Int) == (k : Int)) = false by rw [beq_eq_false_iff_ne]; omega]
      by_cases h2 : s < k
      · rw [decide_eq_true (show (s : Int) < ((k + 1 : Nat) : Int) by omega), decide_eq_true (show (s : Int) < (k : Int) by omega)]; simp
      · rw [decide_eq_false (show ¬ (s : Int) < ((k + 1 : Nat) : Int) by omega), decide_eq_false (show ¬ (s : Int) < (k : Int) by omega)]; simp
  · rw [decide_eq_false h0, show (e.1 == (k : Int)) = false by rw [beq_eq_false_iff_ne]; omega]; simp
theorem fromN_acc {es : List E3} {l S c cur : Nat} (h : fromN S c cur) (h0 : cur ≠ 0) : accN es l S (Lib.ctz 64 cur + 1) = accN es l S c ||| mvN es l (Lib.ctz 64 cur) := by
  obtain ⟨h1, _, h3, h4⟩ := fromN_ctz h h0
  rw [accN_add h3, accN_skip h1 h4]
theorem fromN_accEnd {es : List E3} {l S c : Nat} (h : fromN S c 0) (hc : c ≤ 64) : stN es S l = accN es l S c := by
  unfold stN
  exact accN_skip hc (fun i h1 _ => by
    have := h.2 i
    rw [Nat.zero_testBit, decide_eq_true h1] at this
    exact this.symm)
theorem mvN_snoc (es : List E3) (e : E3) (l s : Nat) (h0 : 0 ≤ e.2.2) (h1 : e.2.2 < 64) : mvN (es ++ [e]) l s = if e.1 = (s : Int) ∧ e.2.1 = (l : Int) then mvN es l s ||| 2 ^ e.2.2.toNat else mvN es l s := by
  apply Nat.eq_of_testBit_eq
  intro t
  split
  · rename_i h
    rw [Nat.testBit_or]
    unfold mvN
    rw [mkN_bit, mkN_bit, List.any_append, Bool.and_or_distrib_left]
    congr 1
    rw [List.any_cons, List.any_nil, Bool.or_false, h.1, h.2, beq_self_eq_true, beq_self_eq_true, Nat.testBit_two_pow]
    by_cases ht : e.2.2 = (t : Int)
    · rw [ht, Int.toNat_natCast, decide_eq_true (show t < 64 by omega)]; simp
    · rw [show (e.2.2 == (t : Int)) = false by rw [beq_eq_false_iff_ne]; exact ht, decide_eq_false (show ¬ e.2.2.toNat = t by omega)]; simp
  · rename_i h
    unfold mvN
    rw [mkN_bit, mkN_bit, List.any_append]
    congr 1
    rw [List.any_cons, List.any_nil, Bool.or_false]
    have e1 : (e.1 == (s : Int) && e.2.1 == (l : Int) && e.2.2 == (t : Int)) = false := by
      by_cases a : e.1 = (s : Int)
      · have b : ¬ e.2.1 = (l : Int) := fun hb => h ⟨a, hb⟩
        rw [show (e.2.1 == (l : Int)) = false by rw [beq_eq_false_iff_ne]; exact b]; simp
      · rw [show (e.1 == (s : Int)) = false by rw [beq_eq_false_iff_ne]; exact a]; simp
    rw [e1, Bool.or_false]
theorem stN_bit {es : List E3} {S l t : Nat} : (stN es S l).testBit t = (decide (t < 64) && es.any fun e => decide (0 ≤ e.1) && decide (e.1 < 64) && S.testBit e.1.toNat && e.2.1 == (l : Int) && e.2.2 == (t : Int)) := by
  unfold stN accN
  rw [mkN_bit]; rfl
end Go.Proofs.YtiockphjnkehnaaGreatDoor

namespace Go.Proofs.YtiockphjnkehnaaGreatDoor
set_option linter.unusedVariables false

theorem getD_app {l r : List Nat} {j d : Nat} (h : j < l.length) : (l ++ r).getD j d = l.getD j d := by
  rw [List.getD_eq_getElem?_getD, List.getElem?_append_left h, ← List.getD_eq_getElem?_getD]
theorem fm_congr {α β : Type} {f g : α → Option β} : ∀ {l : List α}, (∀ x ∈ l, f x = g x) → l.filterMap f = l.filterMap g
  | [], _ => rfl
  | a :: l, h => by
    rw [List.filterMap_cons, List.filterMap_cons, h a (by simp), fm_congr (l := l) (fun x hx => h x (by simp [hx]))]
abbrev Bs := List Nat × List E3
def visN (es : List E3) (i : Nat) (b : Bs) (l : Nat) : Bs :=
  if stN es (b.1.getD i 0) l = 0 then b else
    (if stN es (b.1.getD i 0) l ∈ b.1 then b.1 else b.1 ++ [stN es (b.1.getD i 0) l], b.2 ++ [((i : Int), (l : Int), ((b.1.idxOf (stN es (b.1.getD i 0) l) : Nat) : Int))])
def rowN (es : List E3) (i : Nat) (b : Bs) (c : Nat) : Bs := (List.range c).foldl (visN es i) b
theorem rowN_zero (es : List E3) (i : Nat) (b : Bs) : rowN es i b 0 = b := rfl
theorem rowN_succ (es : List E3) (i : Nat) (b : Bs) (c : Nat) : rowN es i b (c + 1) = visN es i (rowN es i b c) c := by
  unfold rowN; rw [List.range_succ, List.foldl_append]; rfl
def tooN (b : Bs) : Prop := 64 < b.1.length ∨ 1024 < b.2.length
instance (b : Bs) : Decidable (tooN b) := by unfold tooN; infer_instance
def runN (es : List E3) (La : Nat) : Nat → Nat → Bs → Option Bs
  | 0, _, _ => none
  | k + 1, i, b => if i < b.1.length then (if tooN (rowN es i b La) then none else runN es La k (i + 1) (rowN es i b La)) else some b
def builtN (es : List E3) (La S : Nat) : Option Bs := runN es La 66 0 ([S], [])
theorem runN_end {es : List E3} {La k i : Nat} {b : Bs} (h : ¬ i < b.1.length) : runN es La (k + 1) i b = some b := by unfold runN; rw [if_neg h]
theorem runN_many {es : List E3} {La k i : Nat} {b : Bs} (h : i < b.1.length) (h2 : tooN (rowN es i b La)) : runN es La (k + 1) i b = none := by unfold runN; rw [if_pos h, if_pos h2]
theorem runN_more {es : List E3} {La k i : Nat} {b : Bs} (h : i < b.1.length) (h2 : ¬ tooN (rowN es i b La)) : runN es La (k + 1) i b = runN es La k (i + 1) (rowN es i b La) := by rw [runN, if_pos h, if_neg h2]
theorem visN_none {es : List E3} {i l : Nat} {b : Bs} (h : stN es (b.1.getD i 0) l = 0) : visN es i b l = b := by unfold visN; rw [if_pos h]
theorem visN_old {es : List E3} {i l : Nat} {b : Bs} (h : stN es (b.1.getD i 0) l ≠ 0) (h2 : stN es (b.1.getD i 0) l ∈ b.1) : visN es i b l = (b.1, b.2 ++ [((i : Int), (l : Int), ((b.1.idxOf (stN es (b.1.getD i 0) l) : Nat) : Int))]) := by unfold visN; rw [if_neg h, if_pos h2]
theorem visN_new {es : List E3} {i l : Nat} {b : Bs} (h : stN es (b.1.getD i 0) l ≠ 0) (h2 : stN es (b.1.getD i 0) l ∉ b.1) : visN es i b l = (b.1 ++ [stN es (b.1.getD i 0) l], b.2 ++ [((i : Int), (l : Int), ((b.1.length : Nat) : Int))]) := by
  unfold visN; rw [if_neg h, if_neg h2, List.idxOf_eq_length h2]
theorem visN_len (es : List E3) (i l : Nat) (b : Bs) : b.1.length ≤ (visN es i b l).1.length ∧ (visN es i b l).1.length ≤ b.1.length + 1 ∧ b.2.length ≤ (visN es i b l).2.length ∧ (visN es i b l).2.length ≤ b.2.length + 1 := by
  by_cases h : stN es (b.1.getD i 0) l = 0
  · rw [visN_none h]; omega
  · by_cases h2 : stN es (b.1.getD i 0) l ∈ b.1
    · rw [visN_old h h2]
      show b.1.length ≤ b.1.length ∧ b.1.length ≤ b.1.length + 1 ∧ _
      rw [List.length_append, List.length_singleton]; omega
    · rw [visN_new h h2, List.length_append, List.length_append, List.length_singleton, List.length_singleton]; omega
theorem visN_get {es : List E3} {i l j : Nat} {b : Bs} (hj : j < b.1.length) : (visN es i b l).1.getD j 0 = b.1.getD j 0 := by
  by_cases h : stN es (b.1.getD i 0) l = 0
  · rw [visN_none h]
  · by_cases h2 : stN es (b.1.getD i 0) l ∈ b.1
    · rw [visN_old h h2]
    · rw [visN_new h h2]
      exact getD_app hj
theorem rowN_len (es : List E3) (i : Nat) (b : Bs) : ∀ (c : Nat), b.1.length ≤ (rowN es i b c).1.length ∧ (rowN es i b c).1.length ≤ b.1.length + c ∧ b.2.length ≤ (rowN es i b c).2.length ∧ (rowN es i b c).2.length ≤ b.2.length + c
  | 0 => by rw [rowN_zero]; omega
  | c + 1 => by
    have h := rowN_len es i b c
    have h2 := visN_len es i c (rowN es i b c)
    rw [rowN_succ]; omega
theorem rowN_get {es : List E3} {i j : Nat} {b : Bs} (hj : j < b.1.length) : ∀ (c : Nat), (rowN es i b c).1.getD j 0 = b.1.getD j 0
  | 0 => rfl
  | c + 1 => by
    have h := rowN_len es i b c
    rw [rowN_succ, visN_get (by omega), rowN_get hj c]
def edN (es : List E3) (sets : List Nat) (i l : Nat) : Option E3 :=
  if stN es (sets.getD i 0) l = 0 then none else some ((i : Int), (l : Int), ((sets.idxOf (stN es (sets.getD i 0) l) : Nat) : Int))
def edsN (es : List E3) (sets : List Nat) (i c : Nat) : List E3 := (List.range c).filterMap (edN es sets i)
def allN (es : List E3) (La : Nat) (sets : List Nat) (i : Nat) : List E3 := (List.range i).flatMap fun j => edsN es sets j La
theorem edsN_succ (es : List E3) (sets : List Nat) (i c : Nat) : edsN es sets i (c + 1) = edsN es sets i c ++ (edN es sets i c).toList := by
  unfold edsN
  rw [List.range_succ, List.filterMap_append]
  cases h : edN es sets i c <;> simp [h]
theorem allN_succ (es : List E3) (La : Nat) (sets : List Nat) (i : Nat) : allN es La sets (i + 1) = allN es La sets i ++ edsN es sets i La := by
  unfold allN
  rw [List.range_succ, List.flatMap_append]; simp
structure InvN (es : List E3) (La i c : Nat) (b : Bs) : Prop where
  nd : b.1.Nodup
  lt : ∀ S ∈ b.1, S ≠ 0 ∧ S < 18446744073709551616
  cl : ∀ j l, (j < i ∧ l < La ∨ j = i ∧ l < c) → stN es (b.1.getD j 0) l = 0 ∨ stN es (b.1.getD j 0) l ∈ b.1
  ed : b.2 = allN es La b.1 i ++ edsN es b.1 i c
theorem edN_ext {es : List E3} {sets : List Nat} {T j l : Nat} (hj : j < sets.length) (h : stN es (sets.getD j 0) l = 0 ∨ stN es (sets.getD j 0) l ∈ sets) : edN es (sets ++ [T]) j l = edN es sets j l := by
  have e : (sets ++ [T]).getD j 0 = sets.getD j 0 := getD_app hj
  unfold edN
  rw [e]
  split
  · rfl
  · rename_i h0
    rcases h with h | h
    · exact absurd h h0
    · rw [List.idxOf_append, if_pos h]
theorem edsN_ext {es : List E3} {sets : List Nat} {T j c : Nat} (hj : j < sets.length) (h : ∀ l, l < c → stN es (sets.getD j 0) l = 0 ∨ stN es (sets.getD j 0) l ∈ sets) : edsN es (sets ++ [T]) j c = edsN es sets j c := by
  unfold edsN
  apply fm_congr
  intro l hl
  exact edN_ext hj (h l (List.mem_range.1 hl))
theorem allN_ext {es : List E3} {La : Nat} {sets : List Nat} {T : Nat} : ∀ {i : Nat}, i ≤ sets.length → (∀ j l, j < i → l < La → stN es (sets.getD j 0) l = 0 ∨ stN es (sets.getD j 0) l ∈ sets) → allN es La (sets ++ [T]) i = allN es La sets i
  | 0, _, _ => by unfold allN; rw [List.range_zero, List.flatMap_nil, List.flatMap_nil]
  | i + 1, hi, h => by
    rw [allN_succ, allN_succ, allN_ext (by omega) (fun j l hj hl => h j l (by omega) hl), edsN_ext (by omega) (fun l hl => h i l (by omega) hl)]
theorem InvN.vis {es : List E3} {La i c : Nat} {b : Bs} (h : InvN es La i c b) (hi : i < b.1.length) : InvN es La i (c + 1) (visN es i b c) := by
  by_cases h0 : stN es (b.1.getD i 0) c = 0
  · rw [visN_none h0]
    refine ⟨h.nd, h.lt, fun j l hjl => ?_, ?_⟩
    · by_cases hl : j = i ∧ l = c
      · obtain ⟨rfl, rfl⟩ := hl; exact .inl h0
      · exact h.cl j l (by omega)
    · have e : edN es b.1 i c = none := by unfold edN; rw [if_pos h0]
      rw [edsN_succ, e, Option.toList_none, List.append_nil]; exact h.ed
  · by_cases h1 : stN es (b.1.getD i 0) c ∈ b.1
    · rw [visN_old h0 h1]
      refine ⟨h.nd, h.lt, fun j l hjl => ?_, ?_⟩
      · by_cases hl : j = i ∧ l = c
        · obtain ⟨rfl, rfl⟩ := hl; exact .inr h1
        · exact h.cl j l (by omega)
      · have e : edN es b.1 i c = some ((i : Int), (c : Int), ((b.1.idxOf (stN es (b.1.getD i 0) c) : Nat) : Int)) := by unfold edN; rw [if_neg h0]
        show b.2 ++ _ = allN es La b.1 i ++ edsN es b.1 i (c + 1)
        rw [edsN_succ, e, ← List.append_assoc, ← h.ed]; rfl
    · rw [visN_new h0 h1]
      have hg : ∀ j, j < b.1.length → (b.1 ++ [stN es (b.1.getD i 0) c]).getD j 0 = b.1.getD j 0 := fun j hj => getD_app hj
      refine ⟨?_, fun S hS => ?_, fun j l hjl => ?_, ?_⟩
      · show (b.1 ++ _).Nodup
        rw [List.nodup_append]
        refine ⟨h.nd, (by simp), fun x hx y hy => ?_⟩
        rw [List.mem_singleton] at hy
        subst hy
        exact fun e => h1 (e ▸ hx)
      · rw [List.mem_append, List.mem_singleton] at hS
        rcases hS with hS | rfl
        · exact h.lt S hS
        · exact ⟨h0, stN_lt _ _ _⟩
      · show stN es ((b.1 ++ _).getD j 0) l = 0 ∨ _ ∈ b.1 ++ _
        rw [hg j (by omega)]
        by_cases hl : j = i ∧ l = c
        · obtain ⟨rfl, rfl⟩ := hl; exact .inr (by simp)
        · rcases h.cl j l (by omega) with h2 | h2
          · exact .inl h2
          · exact .inr (List.mem_append_left _ h2)
      · show b.2 ++ _ = allN es La (b.1 ++ _) i ++ edsN es (b.1 ++ _) i (c + 1)
        have e : edN es (b.1 ++ [stN es (b.1.getD i 0) c]) i c = some ((i : Int), (c : Int), ((b.1.length : Nat) : Int)) := by
          unfold edN
          rw [hg i hi, if_neg h0, List.idxOf_append, if_neg h1]; simp
        rw [allN_ext (by omega) (fun j l hj hl => h.cl j l (by omega)), edsN_succ, edsN_ext hi (fun l hl => h.cl i l (by omega)), e, ← List.append_assoc, ← h.ed]; rfl
theorem InvN.row {es : List E3} {La i : Nat} {b : Bs} (h : InvN es La i 0 b) (hi : i < b.1.length) : ∀ (c : Nat), InvN es La i c (rowN es i b c)
  | 0 => h
  | c + 1 => by
    have h2 := rowN_len es i b c
    rw [rowN_succ]
    exact (InvN.row h hi c).vis (by omega)
theorem InvN.next {es : List E3} {La i : Nat} {b : Bs} (h : InvN es La i La b) : InvN es La (i + 1) 0 b :=
  ⟨h.nd, h.lt, fun j l hjl => h.cl j l (by omega), by rw [allN_succ, h.ed]; unfold edsN; simp⟩
theorem InvN.start (es : List E3) (La S : Nat) (h : S ≠ 0) (h2 : S < 18446744073709551616) : InvN es La 0 0 ([S], []) :=
  ⟨(by simp), fun T hT => by rw [List.mem_singleton] at hT; subst hT; exact ⟨h, h2⟩, fun j l hjl => by omega, rfl⟩
structure ResN (es : List E3) (La S : Nat) (b : Bs) : Prop where
  nd : b.1.Nodup
  lt : ∀ S ∈ b.1, S ≠ 0 ∧ S < 18446744073709551616
  cl : ∀ j l, j < b.1.length → l < La → stN es (b.1.getD j 0) l = 0 ∨ stN es (b.1.getD j 0) l ∈ b.1
  ed : b.2 = allN es La b.1 b.1.length
  hd : b.1[0]? = some S
  n : b.1.length ≤ 64
  m : b.2.length ≤ 1024
theorem runN_res {es : List E3} {La S : Nat} : ∀ (k i : Nat) (b b' : Bs), InvN es La i 0 b → i ≤ b.1.length → b.1[0]? = some S → ¬ tooN b → runN es La k i b = some b' → ResN es La S b'
  | 0, _, _, _, _, _, _, _, h => by cases h
  | k + 1, i, b, b', hI, hi, h0, ht, h => by
    by_cases h1 : i < b.1.length
    · by_cases h2 : tooN (rowN es i b La)
      · rw [runN_many h1 h2] at h; cases h
      · rw [runN_more h1 h2] at h
        have hl := rowN_len es i b La
        refine runN_res k (i + 1) _ b' (hI.row h1 La).next (by omega) ?_ h2 h
        have hg := rowN_get (es := es) (i := i) (show 0 < b.1.length by omega) La
        rw [List.getD_eq_getElem?_getD, List.getD_eq_getElem?_getD, h0, List.getElem?_eq_getElem (show 0 < (rowN es i b La).1.length by omega)] at hg
        rw [List.getElem?_eq_getElem (show 0 < (rowN es i b La).1.length by omega)]
        exact congrArg some hg
    · rw [runN_end h1] at h
      injection h with h
      subst h
      obtain rfl : i = b.1.length := by omega
      refine ⟨hI.nd, hI.lt, fun j l hj hl => hI.cl j l (.inl ⟨hj, hl⟩), ?_, h0, ?_, ?_⟩
      · rw [hI.ed]; unfold edsN; simp
      · unfold tooN at ht; omega
      · unfold tooN at ht; omega
theorem built_res {es : List E3} {La S : Nat} {b : Bs} (h : S ≠ 0) (h2 : S < 18446744073709551616) (hb : builtN es La S = some b) : ResN es La S b := by
  unfold builtN at hb
  generalize (66 : Nat) = k at hb
  exact runN_res k 0 _ b (InvN.start es La S h h2) (Nat.zero_le _) rfl (by unfold tooN; simp) hb
end Go.Proofs.YtiockphjnkehnaaGreatDoor

namespace Go.Proofs.YtiockphjnkehnaaGreatDoor
open Go.RowKit
set_option linter.unusedSimpArgs false
set_option linter.unusedVariables false

theorem take_snoc {α : Type} {l : List α} {i : Nat} {e : α} (h : l[i]? = some e) : l.take (i + 1) = l.take i ++ [e] := by rw [List.take_add_one, h]; rfl
structure TB (w : World) (n : Nat) (L S : Int) (v : Value) (p q : Nat) (f g : Nat → Bool) (W : World) : Prop where
  rp : BRow W p n f
  rq : BRow W q n g
  ne : p ≠ q
  lp : w.heap.size < p
  lq : w.heap.size < q
  box : BoxG W w.heap.size L S v
  b : Below w.heap.size w W
section
variable {w W W' : World} {n p q : Nat} {L S : Int} {v : Value} {f g : Nat → Bool}
theorem TB.keep (h : TB w n L S v p q f g W) (hb : Below W.heap.size W W') : TB w n L S v p q f g W' :=
  ⟨h.rp.keep hb, h.rq.keep hb, h.ne, h.lp, h.lq, h.box.keep hb, h.b.trans (hb.mono h.b.size)⟩
theorem boxG_other (h : BoxG W p L S v) {a : Addr} (ha : a.block ≠ p) (x : Value) : BoxG (W.setCell a x) p L S v := by
  unfold BoxG
  rw [World.cell?_setCell_far _ _ _ _ (by exact ha), World.cell?_setCell_far _ _ _ _ (by exact ha), World.cell?_setCell_far _ _ _ _ (by exact ha)]
  exact h
theorem TB.setP (h : TB w n L S v p q f g W) (i : Nat) (x : Bool) : TB w n L S v p q (fun j => if j = i then x else f j) g (W.setCell ⟨p, i, none⟩ (.bool x)) :=
  ⟨h.rp.set i x, h.rq.other (by exact Ne.symm h.ne) _, h.ne, h.lp, h.lq, boxG_other h.box (by have := h.lp; show p ≠ _; omega) _, h.b.setCell (by have := h.lp; show _ ≤ p; omega) _⟩
theorem TB.setQ (h : TB w n L S v p q f g W) (i : Nat) (x : Bool) : TB w n L S v p q f (fun j => if j = i then x else g j) (W.setCell ⟨q, i, none⟩ (.bool x)) :=
  ⟨h.rp.other (by exact h.ne) _, h.rq.set i x, h.ne, h.lp, h.lq, boxG_other h.box (by have := h.lq; show q ≠ _; omega) _, h.b.setCell (by have := h.lq; show _ ≤ q; omega) _⟩
theorem TB.far (h : TB w n L S v p q f g W) {a : Addr} (h1 : p ≠ a.block) (h2 : q ≠ a.block) (h3 : w.heap.size < a.block) (x : Value) : TB w n L S v p q f g (W.setCell a x) :=
  ⟨h.rp.other h1 _, h.rq.other h2 _, h.ne, h.lp, h.lq, boxG_other h.box (by omega) _, h.b.setCell (by omega) _⟩
theorem TB.congr {f' g' : Nat → Bool} (h : TB w n L S v p q f g W) (e1 : ∀ i, i < n → f i = f' i) (e2 : ∀ i, i < n → g i = g' i) : TB w n L S v p q f' g' W := { h with rp := h.rp.congr e1, rq := h.rq.congr e2 }
end
end Go.Proofs.YtiockphjnkehnaaGreatDoor
