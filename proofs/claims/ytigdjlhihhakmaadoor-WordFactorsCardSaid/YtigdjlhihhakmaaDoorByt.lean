/- Plain facts on numbers written to the base 256, the most significant digit first. No condition. -/
import Derived.Test.YtigdjlhihhakmaaDoorDig
import Derived.Lib.TrimByte
namespace Go.Proofs.YtigdjlhihhakmaaDoor
open Go.RowKit

/-- The value of bytes. -/
def vB (l : List UInt8) : Nat := l.foldl (fun a b => a * 256 + b.toNat) 0
/-- The bytes of a number, without leading zeros. -/
def bytesOf (n : Nat) : List UInt8 := if n = 0 then [] else bytesOf (n / 256) ++ [UInt8.ofNat (n % 256)]
termination_by n
decreasing_by omega

theorem vB_snoc (l : List UInt8) (b : UInt8) : vB (l ++ [b]) = vB l * 256 + b.toNat := by simp [vB, List.foldl_append]
theorem vB_nil : vB [] = 0 := rfl
theorem foldl_acc (l : List UInt8) (a : Nat) : l.foldl (fun a b => a * 256 + b.toNat) a = a * 256 ^ l.length + vB l := by
  induction l generalizing a with
  | nil => simp [vB]
  | cons b l ih =>
    have e : vB (b :: l) = (0 * 256 + b.toNat) * 256 ^ l.length + vB l := by
      show (b :: l).foldl (fun a b => a * 256 + b.toNat) 0 = _
      rw [List.foldl_cons, ih]
    rw [List.foldl_cons, ih, e, List.length_cons, Nat.pow_succ, Nat.add_mul, Nat.mul_assoc, Nat.mul_comm 256, Nat.zero_mul, Nat.zero_add]
    omega
theorem vB_cons (b : UInt8) (l : List UInt8) : vB (b :: l) = b.toNat * 256 ^ l.length + vB l := by
  rw [vB, List.foldl_cons, foldl_acc]; simp
theorem vB_lt (l : List UInt8) : vB l < 256 ^ l.length := by
  induction l with
  | nil => simp [vB]
  | cons b l ih =>
    rw [vB_cons, List.length_cons, Nat.pow_succ]
    have hb := b.toNat_lt
    have : b.toNat * 256 ^ l.length ≤ 255 * 256 ^ l.length := Nat.mul_le_mul_right _ (by omega)
    generalize 256 ^ l.length = P at *
    omega
theorem vB_ge {b : UInt8} {l : List UInt8} (h : b ≠ 0) : 256 ^ l.length ≤ vB (b :: l) := by
  rw [vB_cons]
  have hb : b.toNat ≠ 0 := fun e => h (by apply UInt8.toNat_inj.1; simpa using e)
  have : 1 * 256 ^ l.length ≤ b.toNat * 256 ^ l.length := Nat.mul_le_mul_right _ (by omega)
  omega

theorem bytesOf_zero : bytesOf 0 = [] := by rw [bytesOf]; simp
theorem bytesOf_pos {n : Nat} (h : n ≠ 0) : bytesOf n = bytesOf (n / 256) ++ [UInt8.ofNat (n % 256)] := by rw [bytesOf]; simp [h]
theorem vB_bytesOf (n : Nat) : vB (bytesOf n) = n := by
  induction n using Nat.strongRecOn with
  | _ n ih =>
    by_cases h : n = 0
    · subst h; rw [bytesOf_zero]; rfl
    · rw [bytesOf_pos h, vB_snoc, ih _ (by omega)]
      rw [UInt8.toNat_ofNat_of_lt' (by show n % 256 < 256; omega)]
      omega
theorem bytesOf_nil {n : Nat} : bytesOf n = [] ↔ n = 0 := by
  constructor
  · intro h
    have := vB_bytesOf n
    rw [h] at this
    exact this.symm
  · rintro rfl; exact bytesOf_zero
/-- Bytes without leading zeros are those of their value. -/
theorem bytesOf_vB (l : List UInt8) (h : l.head? ≠ some 0) : bytesOf (vB l) = l := by
  generalize hn : l.length = n
  induction n generalizing l with
  | zero =>
    have : l = [] := List.eq_nil_of_length_eq_zero hn
    subst this; exact bytesOf_zero
  | succ n ih =>
    have hne : l ≠ [] := by intro e; subst e; simp at hn
    obtain ⟨l', b, rfl⟩ : ∃ l' b, l = l' ++ [b] := ⟨l.dropLast, l.getLast hne, (List.dropLast_concat_getLast hne).symm⟩
    have hb := b.toNat_lt
    have hl : l'.head? ≠ some 0 := by
      cases l' with
      | nil => simp
      | cons c l' => simpa using h
    have h0 : vB (l' ++ [b]) ≠ 0 := by
      cases l' with
      | nil =>
        have hb0 : b ≠ 0 := by simpa using h
        have : b.toNat ≠ 0 := fun e => hb0 (by apply UInt8.toNat_inj.1; simpa using e)
        simp [vB]; omega
      | cons c l' =>
        have hc : c ≠ 0 := by simpa using h
        have := vB_ge (b := c) (l := l' ++ [b]) hc
        have hp : 0 < 256 ^ (l' ++ [b]).length := Nat.pow_pos (by omega)
        simp only [List.cons_append] at *
        omega
    rw [bytesOf_pos h0, vB_snoc]
    have e1 : (vB l' * 256 + b.toNat) / 256 = vB l' := by omega
    have e2 : (vB l' * 256 + b.toNat) % 256 = b.toNat := by omega
    rw [e1, e2, ih l' hl (by simpa using hn)]
    simp
theorem vB_trim (l : List UInt8) : vB (Lib.trimLeftB l 0) = vB l := by
  induction l with
  | nil => rfl
  | cons b l ih =>
    by_cases h : b = 0
    · subst h
      rw [show Lib.trimLeftB (0 :: l) 0 = Lib.trimLeftB l 0 by simp [Lib.trimLeftB], ih, vB_cons]; simp
    · rw [show Lib.trimLeftB (b :: l) 0 = b :: l by simp [Lib.trimLeftB, h]]
theorem head_trim (l : List UInt8) : (Lib.trimLeftB l 0).head? ≠ some 0 := by
  induction l with
  | nil => simp [Lib.trimLeftB]
  | cons b l ih =>
    by_cases h : b = 0
    · subst h
      rwa [show Lib.trimLeftB (0 :: l) 0 = Lib.trimLeftB l 0 by simp [Lib.trimLeftB]]
    · rw [show Lib.trimLeftB (b :: l) 0 = b :: l by simp [Lib.trimLeftB, h]]; simpa using h
theorem trim_bytes (l : List UInt8) : Lib.trimLeftB l 0 = bytesOf (vB l) := by
  rw [← vB_trim]; exact (bytesOf_vB _ (head_trim l)).symm

theorem pow256 (k : Nat) : (4294967296 : Nat) ^ (k / 4) * 256 ^ (k % 4) = 256 ^ k := by
  rw [show (4294967296 : Nat) = 256 ^ 4 by rfl, ← Nat.pow_mul, ← Nat.pow_add]
  congr 1
  omega
theorem vB_drop {l : List UInt8} {k : Nat} (h : k < l.length) : vB (l.drop k) = (l[k]'h).toNat * 256 ^ (l.length - 1 - k) + vB (l.drop (k + 1)) := by
  rw [List.drop_eq_getElem_cons h, vB_cons, List.length_drop]
  congr 3
  omega
theorem vB_len {l : List UInt8} (h : l.head? ≠ some 0) (hl : 0 < l.length) : 256 ^ (l.length - 1) ≤ vB l := by
  cases l with
  | nil => simp at hl
  | cons b l => exact vB_ge (by simpa using h)
end Go.Proofs.YtigdjlhihhakmaaDoor
