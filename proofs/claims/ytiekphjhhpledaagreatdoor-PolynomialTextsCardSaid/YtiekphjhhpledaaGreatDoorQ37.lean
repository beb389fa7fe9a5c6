/- The text that Print writes tells the polynomial. Condition: at most 10^6 coefficients. -/
import Derived.Test.YtiekphjhhpledaaGreatDoorQ31
import Derived.Test.YtiekphjhhpledaaGreatDoorQ30
import Derived.Test.YtiekphjhhpledaaGreatDoorQ36

namespace Go.Proofs.YtiekphjhhpledaaGreatDoor
open Go.RowKit

def DZ (n : Nat) : List UInt8 := prZ (n : Int)
theorem digs_DZ : Digs DZ where
  inj := fun m n h => by
    have h1 := pz_print (m : Int)
    have h2 := pz_print (n : Int)
    unfold DZ at h
    rw [h, h2] at h1
    have := Option.some.inj h1
    omega
  dig := fun n b hb => by
    unfold DZ at hb
    rcases Nat.eq_zero_or_pos n with rfl | h
    · have e : prZ ((0 : Nat) : Int) = [48] := rfl
      rw [e] at hb
      have := List.mem_singleton.1 hb
      subst this
      decide
    · rw [prZ_pos h] at hb
      have := List.all_eq_true.1 (pr_facts n).2.1 b hb
      unfold digB at this
      rw [Bool.and_eq_true] at this
      have h1 := of_decide_eq_true this.1
      have h2 := of_decide_eq_true this.2
      exact ⟨UInt8.le_iff_toNat_le.2 (by simpa using h1), UInt8.le_iff_toNat_le.2 (by simpa using h2)⟩
  ne := fun n => by
    unfold DZ
    rcases Nat.eq_zero_or_pos n with rfl | h
    · decide
    · rw [prZ_pos h]
      obtain ⟨b, t, e, -⟩ := (pr_facts n).2.2 h
      rw [e]
      simp
  one := by kernel_rfl
  zero := rfl
theorem dec_DZ {e : Nat} (h0 : 0 < e) (h : e < 1000000000) : Lib.decDigits e = DZ e := by
  unfold DZ
  rw [prZ_pos h0, gs_pos (by omega), Nat.mod_eq_of_lt h, Nat.div_eq_of_lt h, gs_zero]
  show _ = prS [] ++ (if ([] : List Nat) = [] then Lib.decDigits e else pad9 e)
  rw [if_pos rfl]
  rfl
theorem tmW_tmT (c e : Nat) (h : e < 1000000000) : tmW c e = tmT DZ c e := by
  have hd : 1 < e → Lib.decDigits e = DZ e := fun h1 => dec_DZ (by omega) h
  have hz : prZ (c : Int) = DZ c := rfl
  unfold tmW tmT
  rw [hz]
  rcases (show e = 0 ∨ e = 1 ∨ 1 < e by omega) with rfl | rfl | h1
  · rfl
  · by_cases hc : DZ c = [49] <;> simp [hc]
  · have h0 : e ≠ 0 := by omega
    have h2 : e ≠ 1 := by omega
    rw [hd h1]
    by_cases hc : DZ c = [49] <;> simp [hc, h0, h1, h2]
/-- A term as the plain text has it. -/
def tmF {L : List Int} (x : Tm L) : Bool × Nat × Nat := (decide (co L x.1 < 0), (co L x.1).natAbs, x.1)
theorem tms_tmx (L : List Int) : ∀ n, tms L n = (tmx L n).map tmF := fun n => by
  induction n with
  | zero => rfl
  | succ n ih =>
    unfold tms tmx
    by_cases h : co L n = 0
    · rw [if_pos h, dif_pos h, ih]
    · rw [if_neg h, dif_neg h, ih]; rfl
theorem fold_txt {L : List Int} : ∀ (l : List (Tm L)) (a : List UInt8), (∀ x ∈ l, x.1 < 1000000000) →
    l.foldl (fun a x => a ++ sgn1 (decide (a.length = 0)) (decide (co L x.1 < 0)) ++ tmW (co L x.1).natAbs x.1) a = a ++ txt DZ (decide (a.length = 0)) (l.map tmF) := fun l => by
  induction l with
  | nil => intro a _; show a = a ++ []; rw [List.append_nil]
  | cons x l ih =>
    intro a h
    have hx := tmW_tmT (co L x.1).natAbs x.1 (h x List.mem_cons_self)
    have hne : tmT DZ (co L x.1).natAbs x.1 ≠ [] := tmT_ne digs_DZ _ _
    have hl : 0 < (tmT DZ (co L x.1).natAbs x.1).length := List.length_pos_iff.2 hne
    rw [List.foldl_cons, ih _ (fun y hy => h y (List.mem_cons_of_mem _ hy)), hx]
    have hd : decide ((a ++ sgn1 (decide (a.length = 0)) (decide (co L x.1 < 0)) ++ tmT DZ (co L x.1).natAbs x.1).length = 0) = false := decide_eq_false (by rw [List.length_append]; omega)
    rw [hd, List.map_cons]
    show _ = a ++ (sgn1 (decide (a.length = 0)) (decide (co L x.1 < 0)) ++ tmT DZ (co L x.1).natAbs x.1 ++ txt DZ false (l.map tmF))
    rw [List.append_assoc, List.append_assoc, List.append_assoc]
theorem prL_prP {L : List Int} (h : L.length ≤ 1000000) : prL L = prP DZ L := by
  have e : prW (tmx L L.length) = txt DZ true (tms L L.length) := by
    rw [tms_tmx]
    unfold prW
    rw [fold_txt _ _ (fun x _ => by have := x.2; rcases Nat.lt_or_ge x.1 L.length with h1 | h1; omega; exact absurd (co_ge h1) this)]
    rfl
  unfold prL prP
  rw [e]
  by_cases h0 : txt DZ true (tms L L.length) = []
  · rw [if_pos (by rw [h0]; rfl), if_pos h0]
  · rw [if_neg (fun h1 => h0 (List.eq_nil_of_length_eq_zero h1)), if_neg h0]
theorem tms_congr {L M : List Int} (h : ∀ i, co L i = co M i) : ∀ n, tms L n = tms M n := fun n => by
  induction n with
  | zero => rfl
  | succ n ih => unfold tms; rw [h n, ih]
theorem prL_trm {L : List Int} (h : L.length ≤ 1000000) : prL (trm L) = prL L := by
  have ht := trm_len L
  rw [prL_prP h, prL_prP (by omega)]
  have e : tms (trm L) (trm L).length = tms L L.length := by
    rw [tms_congr (M := L) (fun i => co_trm L i)]
    exact tms_trm L (Nat.le_refl _) ht
  unfold prP
  rw [e]
theorem prL_iff {L M : List Int} (h : L.length ≤ 1000000) (h' : M.length ≤ 1000000) : prL L = prL M ↔ trm L = trm M := by
  constructor
  · rw [prL_prP h, prL_prP h']
    exact prP_inj digs_DZ
  · intro e
    rw [← prL_trm h, ← prL_trm h', e]
end Go.Proofs.YtiekphjhhpledaaGreatDoor
