/- Plain facts on the period of a graph: the greatest number that divides the lengths of all its closed paths. No condition. -/
import Derived.Test.YtfkplnmhlpabaaaKb
namespace Go.Proofs.Ytfkplnmhlpabaaa
set_option linter.unusedVariables false

/-- The greatest common divisor of what edges differ by. -/
def perF (d : Nat → Int) (es : List E3) : Nat := es.foldl (fun p e => Int.gcd (p : Int) (d e.1.toNat + 1 - d e.2.2.toNat)) 0
def perI (d : Nat → Int) (es : List E3) (p : Nat) : Nat := es.foldl (fun p e => Int.gcd (p : Int) (d e.1.toNat + 1 - d e.2.2.toNat)) p
theorem perI_dvd (d : Nat → Int) : ∀ (es : List E3) (p : Nat), perI d es p ∣ p ∧ ∀ e ∈ es, (perI d es p : Int) ∣ d e.1.toNat + 1 - d e.2.2.toNat
  | [], p => ⟨Nat.dvd_refl _, fun e he => (by cases he)⟩
  | e :: es, p => by
    obtain ⟨h1, h2⟩ := perI_dvd d es (Int.gcd (p : Int) (d e.1.toNat + 1 - d e.2.2.toNat))
    have h3 : perI d (e :: es) p = perI d es (Int.gcd (p : Int) (d e.1.toNat + 1 - d e.2.2.toNat)) := rfl
    rw [h3]
    refine ⟨Nat.dvd_trans h1 ?_, fun x hx => ?_⟩
    · exact Int.natCast_dvd_natCast.1 (Int.gcd_dvd_left _ _)
    · rcases List.mem_cons.1 hx with rfl | hx
      · exact Int.dvd_trans (Int.natCast_dvd_natCast.2 h1) (Int.gcd_dvd_right _ _)
      · exact h2 x hx
theorem perI_great (d : Nat → Int) (q : Nat) : ∀ (es : List E3) (p : Nat), q ∣ p → (∀ e ∈ es, (q : Int) ∣ d e.1.toNat + 1 - d e.2.2.toNat) → q ∣ perI d es p
  | [], p, h, _ => h
  | e :: es, p, h, h2 => perI_great d q es _ (Int.natCast_dvd_natCast.1 (Int.dvd_coe_gcd (Int.natCast_dvd_natCast.2 h) (h2 e List.mem_cons_self))) (fun x hx => h2 x (List.mem_cons_of_mem _ hx))
theorem perF_dvd {d : Nat → Int} {es : List E3} {e : E3} (he : e ∈ es) : (perF d es : Int) ∣ d e.1.toNat + 1 - d e.2.2.toNat := (perI_dvd d es 0).2 e he
theorem perF_great {d : Nat → Int} {es : List E3} {q : Nat} (h : ∀ e ∈ es, (q : Int) ∣ d e.1.toNat + 1 - d e.2.2.toNat) : q ∣ perF d es := perI_great d q es 0 (Nat.dvd_zero q) h
theorem perF_path {d : Nat → Int} {es : List E3} {s x : Int} {k : Nat} (h : Pth es s k x) : (perF d es : Int) ∣ d s.toNat + k - d x.toNat := by
  induction h with
  | nil => exact ⟨0, by simp⟩
  | @step k e h he ih =>
    have h1 := perF_dvd (d := d) he
    obtain ⟨a, ha⟩ := ih
    obtain ⟨b, hb⟩ := h1
    refine ⟨a + b, ?_⟩
    rw [Int.mul_add, ← ha, ← hb]
    push_cast
    omega
/-- The numbers are lengths of paths from the state 0. -/
def Pot (es : List E3) (n : Nat) (d : Nat → Int) : Prop := ∀ t, t < n → ∃ k : Nat, Pth es 0 k (t : Int) ∧ d t = k
section
variable {L : Int} {n : Nat} {es : List E3} {d d' : Nat → Int}
theorem lenF_pot (h : ∀ e ∈ es, okE L (n : Int) e = true) (hc : ∀ s t, s < n → t < n → Rc es (s : Int) (t : Int)) : Pot es n (lenF es n 0) := by
  intro t ht
  obtain ⟨k, hk, he⟩ := lenF_path h ((lenF_found h (show 0 < n by omega) ht).2 (hc 0 t (by omega) ht))
  exact ⟨k, hk, he⟩
/-- The period divides the length of each closed path. -/
theorem per_closed {s : Int} {k : Nat} (h : Pth es s k s) : perF d es ∣ k := by
  have := perF_path (d := d) h
  have h2 : d s.toNat + (k : Int) - d s.toNat = (k : Int) := by omega
  rw [h2] at this
  exact Int.natCast_dvd_natCast.1 this
/-- What divides the lengths of all closed paths from 0 divides the period. -/
theorem per_most (h : ∀ e ∈ es, okE L (n : Int) e = true) (hc : ∀ s t, s < n → t < n → Rc es (s : Int) (t : Int)) (hd : Pot es n d) {q : Nat} (hq : ∀ k, Pth es 0 k 0 → q ∣ k) : q ∣ perF d es := by
  refine perF_great fun e he => ?_
  obtain ⟨a1, a2, a3, a4⟩ := okE_st (h e he)
  obtain ⟨i, hi, hi2⟩ := hd e.1.toNat a1
  obtain ⟨j, hj, hj2⟩ := hd e.2.2.toNat a2
  obtain ⟨b, hb⟩ := hc e.2.2.toNat 0 a2 (by omega)
  have h1 : Pth es 0 (i + 1 + b) 0 := (Pth.step (by rw [← a3] at hi; exact hi) he).trans (by rw [← a4] at hb; exact hb)
  have h2 : Pth es 0 (j + b) 0 := hj.trans hb
  obtain ⟨x, hx⟩ := hq _ h1
  obtain ⟨y, hy⟩ := hq _ h2
  rw [hi2, hj2]
  refine ⟨(x : Int) - y, ?_⟩
  rw [Int.mul_sub]
  have e1 : (q : Int) * (x : Int) = ((i + 1 + b : Nat) : Int) := by rw [hx]; push_cast; rfl
  have e2 : (q : Int) * (y : Int) = ((j + b : Nat) : Int) := by rw [hy]; push_cast; rfl
  rw [e1, e2]; omega
theorem per_iff (h : ∀ e ∈ es, okE L (n : Int) e = true) (hc : ∀ s t, s < n → t < n → Rc es (s : Int) (t : Int)) (hd : Pot es n d) (q : Nat) : q ∣ perF d es ↔ ∀ k, Pth es 0 k 0 → q ∣ k :=
  ⟨fun h1 k hk => Nat.dvd_trans h1 (per_closed hk), per_most h hc hd⟩
theorem per_same (h : ∀ e ∈ es, okE L (n : Int) e = true) (hc : ∀ s t, s < n → t < n → Rc es (s : Int) (t : Int)) (hd : Pot es n d) (hd' : Pot es n d') : perF d es = perF d' es :=
  Nat.dvd_antisymm ((per_iff h hc hd' _).2 fun k hk => per_closed hk) ((per_iff h hc hd _).2 fun k hk => per_closed hk)
/-- Two lengths of paths to a state differ by a multiple of the period. -/
theorem per_mod (hc : ∀ s t, s < n → t < n → Rc es (s : Int) (t : Int)) (hd : Pot es n d) (hd' : Pot es n d') {t : Nat} (ht : t < n) (p : Nat) (hp : ∀ k, Pth es 0 k 0 → p ∣ k) : d t % (p : Int) = d' t % (p : Int) := by
  obtain ⟨i, hi, hi2⟩ := hd t ht
  obtain ⟨j, hj, hj2⟩ := hd' t ht
  obtain ⟨b, hb⟩ := hc t 0 ht (by omega)
  obtain ⟨x, hx⟩ := hp _ (hi.trans hb)
  obtain ⟨y, hy⟩ := hp _ (hj.trans hb)
  rw [hi2, hj2]
  rw [Int.emod_eq_emod_iff_emod_sub_eq_zero]
  refine Int.emod_eq_zero_of_dvd ⟨(x : Int) - y, ?_⟩
  rw [Int.mul_sub]
  have e1 : (p : Int) * (x : Int) = ((i + b : Nat) : Int) := by rw [hx]; push_cast; rfl
  have e2 : (p : Int) * (y : Int) = ((j + b : Nat) : Int) := by rw [hy]; push_cast; rfl
  rw [e1, e2]; omega
theorem per_pos (h : ∀ e ∈ es, okE L (n : Int) e = true) (hc : ∀ s t, s < n → t < n → Rc es (s : Int) (t : Int)) (h0 : es ≠ []) : 1 ≤ perF d es := by
  obtain ⟨e, he⟩ : ∃ e, e ∈ es := by
    cases es with
    | nil => exact absurd rfl h0
    | cons e es => exact ⟨e, List.mem_cons_self⟩
  obtain ⟨a1, a2, a3, a4⟩ := okE_st (h e he)
  obtain ⟨b, hb⟩ := hc e.2.2.toNat e.1.toNat a2 a1
  rw [← a3, ← a4] at hb
  have := per_closed (d := d) (hb.front he)
  rcases Nat.eq_zero_or_pos (perF d es) with h1 | h1
  · rw [h1] at this; have := Nat.eq_zero_of_zero_dvd this; omega
  · exact h1
end
/-! ### Go's greatest common divisor -/
theorem gcd_tmod (a b : Int) : Int.gcd b (a.tmod b) = Int.gcd a b := by
  unfold Int.gcd
  rw [Int.natAbs_tmod, Nat.gcd_comm b.natAbs, ← Nat.gcd_rec, Nat.gcd_comm]
theorem gcd_end (a : Int) : ((Int.gcd a 0 : Nat) : Int) = max a (-a) := by
  rw [Int.gcd_zero_right]; omega
theorem gcd_le {p : Nat} {x : Int} {m : Nat} (hp : p ≤ m) (hx : x.natAbs ≤ m) : Int.gcd (p : Int) x ≤ m := by
  rcases Nat.eq_zero_or_pos p with h | h
  · subst h
    simp; exact hx
  · exact Nat.le_trans (Nat.le_of_dvd h (Int.natCast_dvd_natCast.1 (Int.gcd_dvd_left _ _))) hp
end Go.Proofs.Ytfkplnmhlpabaaa
