/- What integer.canonical returns: the integer without leading zeros, and without a sign for 0. No condition. Plain facts on numbers written to the base 256, the most significant digit first. No condition. Plain facts on products by digits. No condition. -/
import Derived.Test.YtgcogpfmhmmgdaaGreatDoorQ03
import Derived.WalkKit
import Derived.WalkSpells
import Derived.Deep.LoopGhost
import Derived.BigQuiet
import Derived.Deep.QuietTactic
import Derived.Test.YtgcogpfmhmmgdaaGreatDoorQ01
import Derived.Lib.TrimByte

namespace Go.Proofs.YtgcogpfmhmmgdaaGreatDoor
open Go.RowKit

/-- The bytes without the leading zeros. -/
def stz (s : ByteArray) : List UInt8 := Lib.trimLeftB s.data.toList 0
/-- A value of type api.Int. -/
def iv (b : Bool) (l : List UInt8) : Value := .agg #[.bool b, .string ⟨l.toArray⟩]

theorem fieldMag (b : Bool) (s : ByteArray) (w : World) : (Instr.field 27 (.agg #[.bool b, .string s]) 1).run Tryz.prog w = .ok (.string s) w := by kernel_rfl
theorem fieldNeg (b : Bool) (s : ByteArray) (w : World) : (Instr.field 27 (.agg #[.bool b, .string s]) 0).run Tryz.prog w = .ok (.bool b) w := by kernel_rfl
attribute [go_sem] fieldMag fieldNeg

theorem run_index_bytes (l : List UInt8) (i : Nat) (b : UInt8) (h : l[i]? = some b) (z : Int) (hz : z = (i : Int)) (w : World) :
    (Instr.index 9 (.string ⟨l.toArray⟩) (.int .i64 z)).run Tryz.prog w = .ok (.int .u8 (b.toNat : Int)) w := by
  subst hz
  have hi : i < l.length := by
    rcases Nat.lt_or_ge i l.length with h1 | h1
    · exact h1
    · rw [List.getElem?_eq_none h1] at h; cases h
  rw [run_index_string w 9 ⟨l.toArray⟩ .i64 i Tryz.underlying9, dif_pos ⟨by omega, by simpa [ByteArray.size] using hi⟩]
  have e : (⟨l.toArray⟩ : ByteArray)[(i : Int).toNat]'(by simpa [ByteArray.size] using hi) = b := by
    rw [List.getElem?_eq_getElem hi] at h
    have h2 := Option.some.inj h
    rw [← h2]; rfl
  rw [e]
theorem iv_eq (b : Bool) (l : List UInt8) : iv b l = .agg #[.bool b, .string ⟨l.toArray⟩] := rfl

set_option maxHeartbeats 800000 in
theorem canonical_any (ng : Bool) (s : ByteArray) (w : World) :
    Calls Tryz.prog 70 #[.agg #[.bool ng, .string s]] w fun e w' => e = .returned (iv (ng && !(stz s).isEmpty) (stz s)) ∧ Below w.heap.size w w' := by
  cases ng
  all_goals go_enter Tryz.func70, Tryz.ntmps70
  all_goals go_wp2_with (go_at_call 101; refine (Tryz.strings_TrimLeft_one s 0 (by decide) _).mono ?_; rintro e w' ⟨rfl, rfl⟩)
  · exact bodyPost_ret (v := iv false (stz s)) (by simp [results, Tryz.results70, go_sem, iv, stz]) rfl ⟨rfl, ((Below.refl _ _).alloc (Nat.le_refl _) _).alloc (by simp) _⟩
  · exact bodyPost_ret (v := iv (!(stz s).isEmpty) (stz s)) (by simp [results, Tryz.results70, go_sem, iv, stz]) rfl ⟨rfl, ((Below.refl _ _).alloc (Nat.le_refl _) _).alloc (by simp) _⟩
end Go.Proofs.YtgcogpfmhmmgdaaGreatDoor

namespace Go.Proofs.YtgcogpfmhmmgdaaGreatDoor
open Go.RowKit

/-- The value of bytes. -/
def vB (l : List UInt8) : Nat := l.foldl (fun a b => a * 256 + b.toNat) 0
/-- The bytes of a number, without leading zeros. -/
def bytesOf (n : Nat) : List UInt8 := if n = 0 then [] else bytesOf (n / 256) ++ [UInt8.ofNat (n % 256)]
termination_by n
decreasing_by omega

theorem vB_snoc (l : List UInt8) (b : UInt8) : vB (l ++ [b]) = vB l * 256 + b.toNat := by simp [vB, List.foldl_append]
theorem vB_nil : vB [] = 0 := rfl
theorem foldl_acc (l : List UInt8) (a : Nat) : l.foldl (fun a b => a * 256 + b.toNat) a = a * 256 ^ l.length + vB l := by
  induction l generalizing a with
  | nil => simp [vB]
  | cons b l ih =>
    have e : vB (b :: l) = (0 * 256 + b.toNat) * 256 ^ l.length + vB l := by
      show (b :: l).foldl (fun a b => a * 256 + b.toNat) 0 = _
      rw [List.foldl_cons, ih]
    rw [List.foldl_cons, ih, e, List.length_cons, Nat.pow_succ, Nat.add_mul, Nat.mul_assoc, Nat.mul_comm 256, Nat.zero_mul, Nat.zero_add]
    omega
theorem vB_cons (b : UInt8) (l : List UInt8) : vB (b :: l) = b.toNat * 256 ^ l.length + vB l := by
  rw [vB, List.foldl_cons, foldl_acc]; simp
theorem vB_lt (l : List UInt8) : vB l < 256 ^ l.length := by
  induction l with
  | nil => simp [vB]
  | cons b l ih =>
    rw [vB_cons, List.length_cons, Nat.pow_succ]
    have hb := b.toNat_lt
    have : b.toNat * 256 ^ l.length ≤ 255 * 256 ^ l.length := Nat.mul_le_mul_right _ (by omega)
    generalize 256 ^ l.length = P at *
    omega
theorem vB_ge {b : UInt8} {l : List UInt8} (h : b ≠ 0) : 256 ^ l.length ≤ vB (b :: l) := by
  rw [vB_cons]
  have hb : b.toNat ≠ 0 := fun e => h (by apply UInt8.toNat_inj.1; simpa using e)
  have : 1 * 256 ^ l.length ≤ b.toNat * 256 ^ l.length := Nat.mul_le_mul_right _ (by omega)
  omega

theorem bytesOf_zero : bytesOf 0 = [] := by rw [bytesOf]; simp
theorem bytesOf_pos {n : Nat} (h : n ≠ 0) : bytesOf n = bytesOf (n / 256) ++ [UInt8.ofNat (n % 256)] := by rw [bytesOf]; simp [h]
theorem vB_bytesOf (n : Nat) : vB (bytesOf n) = n := by
  induction n using Nat.strongRecOn with
  | _ n ih =>
    by_cases h : n = 0
    · subst h; rw [bytesOf_zero]; rfl
    · rw [bytesOf_pos h, vB_snoc, ih _ (by omega)]
      rw [UInt8.toNat_ofNat_of_lt' (by show n % 256 < 256; omega)]
      omega
theorem bytesOf_nil {n : Nat} : bytesOf n = [] ↔ n = 0 := by
  constructor
  · intro h
    have := vB_bytesOf n
    rw [h] at this
    exact this.symm
  · rintro rfl; exact bytesOf_zero
/-- Bytes without leading zeros are those of their value. -/
theorem bytesOf_vB (l : List UInt8) (h : l.head? ≠ some 0) : bytesOf (vB l) = l := by
  generalize hn : l.length = n
  induction n generalizing l with
  | zero =>
    have : l = [] := List.eq_nil_of_length_eq_zero hn
    subst this; exact bytesOf_zero
  | succ n ih =>
    have hne : l ≠ [] := by intro e; subst e; simp at hn
    obtain ⟨l', b, rfl⟩ : ∃ l' b, l = l' ++ [b] := ⟨l.dropLast, l.getLast hne, (List.dropLast_concat_getLast hne).symm⟩
    have hb := b.toNat_lt
    have hl : l'.head? ≠ some 0 := by
      cases l' with
      | nil => simp
      | cons c l' => simpa using h
    have h0 : vB (l' ++ [b]) ≠ 0 := by
      cases l' with
      | nil =>
        have hb0 : b ≠ 0 := by simpa using h
        have : b.toNat ≠ 0 := fun e => hb0 (by apply UInt8.toNat_inj.1; simpa using e)
        simp [vB]; omega
      | cons c l' =>
        have hc : c ≠ 0 := by simpa using h
        have := vB_ge (b := c) (l := l' ++ [b]) hc
        have hp : 0 < 256 ^ (l' ++ [b]).length := Nat.pow_pos (by omega)
        simp only [List.cons_append] at *
        omega
    rw [bytesOf_pos h0, vB_snoc]
    have e1 : (vB l' * 256 + b.toNat) / 256 = vB l' := by omega
    have e2 : (vB l' * 256 + b.toNat) % 256 = b.toNat := by omega
    rw [e1, e2, ih l' hl (by simpa using hn)]
    simp
theorem vB_trim (l : List UInt8) : vB (Lib.trimLeftB l 0) = vB l := by
  induction l with
  | nil => rfl
  | cons b l ih =>
    by_cases h : b = 0
    · subst h
      rw [show Lib.trimLeftB (0 :: l) 0 = Lib.trimLeftB l 0 by simp [Lib.trimLeftB], ih, vB_cons]; simp
    · rw [show Lib.trimLeftB (b :: l) 0 = b :: l by simp [Lib.trimLeftB, h]]
theorem head_trim (l : List UInt8) : (Lib.trimLeftB l 0).head? ≠ some 0 := by
  induction l with
  | nil => simp [Lib.trimLeftB]
  | cons b l ih =>
    by_cases h : b = 0
    · subst h
      rwa [show Lib.trimLeftB (0 :: l) 0 = Lib.trimLeftB l 0 by simp [Lib.trimLeftB]]
    · rw [show Lib.trimLeftB (b :: l) 0 = b :: l by simp [Lib.trimLeftB, h]]; simpa using h
theorem trim_bytes (l : List UInt8) : Lib.trimLeftB l 0 = bytesOf (vB l) := by
  rw [← vB_trim]; exact (bytesOf_vB _ (head_trim l)).symm

theorem pow256 (k : Nat) : (4294967296 : Nat) ^ (k / 4) * 256 ^ (k % 4) = 256 ^ k := by
  rw [show (4294967296 : Nat) = 256 ^ 4 by rfl, ← Nat.pow_mul, ← Nat.pow_add]
  congr 1
  omega
theorem vB_drop {l : List UInt8} {k : Nat} (h : k < l.length) : vB (l.drop k) = (l[k]'h).toNat * 256 ^ (l.length - 1 - k) + vB (l.drop (k + 1)) := by
  rw [List.drop_eq_getElem_cons h, vB_cons, List.length_drop]
  congr 3
  omega
theorem vB_len {l : List UInt8} (h : l.head? ≠ some 0) (hl : 0 < l.length) : 256 ^ (l.length - 1) ≤ vB l := by
  cases l with
  | nil => simp at hl
  | cons b l => exact vB_ge (by simpa using h)
end Go.Proofs.YtgcogpfmhmmgdaaGreatDoor

namespace Go.Proofs.YtgcogpfmhmmgdaaGreatDoor
open Go.RowKit

theorem val_set (p : Nat → Nat) {i n : Nat} (v : Nat) (h : i < n) : val (upd p i v) n + p i * 4294967296 ^ i = val p n + v * 4294967296 ^ i := by
  induction n with
  | zero => omega
  | succ n ih =>
    rw [val, val]
    by_cases e : i = n
    · subst e
      have e3 : val (upd p i v) i = val p i := val_congr fun j hj => upd_lt p i v hj
      rw [upd_same, e3]
      omega
    · have := ih (by omega)
      have e2 : upd p i v n = p n := by simp [upd, show n ≠ i by omega]
      rw [e2]
      omega

theorem mul_inner {p f g : Nat → Nat} {k m j y V t : Nat} (hj : j < m) (hv : val p (k + m) + y * 4294967296 ^ (k + j) = V + f k * val g j * 4294967296 ^ k) (ht : t = y + (f k * g j + p (k + j))) :
    val (upd p (k + j) (t % 4294967296)) (k + m) + t / 4294967296 * 4294967296 ^ (k + (j + 1)) = V + f k * val g (j + 1) * 4294967296 ^ k := by
  have h1 := val_set p (t % 4294967296) (show k + j < k + m by omega)
  have h2 := Nat.div_add_mod t 4294967296
  have h3 : f k * val g (j + 1) * 4294967296 ^ k = f k * val g j * 4294967296 ^ k + f k * g j * 4294967296 ^ (k + j) := by
    rw [val, Nat.mul_add, Nat.add_mul, Nat.pow_add]
    congr 1
    rw [← Nat.mul_assoc, Nat.mul_assoc (f k * g j), Nat.mul_comm (4294967296 ^ j)]
  rw [h3, show k + (j + 1) = (k + j) + 1 by omega, Nat.pow_succ]
  generalize 4294967296 ^ (k + j) = Q at *
  generalize t / 4294967296 = a at *
  generalize t % 4294967296 = r at *
  have h4 : (4294967296 * a + r) * Q = (y + (f k * g j + p (k + j))) * Q := by rw [h2, ht]
  rw [Nat.add_mul, Nat.add_mul, Nat.add_mul] at h4
  have h5 : a * (Q * 4294967296) = 4294967296 * a * Q := by rw [Nat.mul_comm Q, ← Nat.mul_assoc, Nat.mul_comm a]
  rw [h5]
  generalize 4294967296 * a * Q = z1 at *
  generalize f k * g j * Q = z2 at *
  omega

theorem mul_outer {p f g : Nat → Nat} {k m y : Nat} (hv : val p (k + m) + y * 4294967296 ^ (k + m) = val f k * val g m + f k * val g m * 4294967296 ^ k) :
    val (upd p (k + m) y) (k + 1 + m) = val f (k + 1) * val g m := by
  rw [show k + 1 + m = (k + m) + 1 by omega, val_upd, hv, val, Nat.add_mul, Nat.mul_assoc, Nat.mul_assoc, Nat.mul_comm (val g m)]

theorem dig_set {p : Nat → Nat} {i n v : Nat} (h : Dig p n) (hv : v < 4294967296) : Dig (upd p i v) n := fun j hj => by
  by_cases e : j = i
  · subst e; rw [upd_same]; exact hv
  · simp only [upd, if_neg e]; exact h j hj

/-- The row that holds the digits p. -/
def dall (p : Nat → Nat) : Nat → Value := fun j => .int .u32 (p j : Int)
theorem dall_set {w : World} {b n : Nat} {t : TypeId} {p : Nat → Nat} (h : w.rowIs b t n (dall p)) (i : Nat) {x : Int} {v : Nat} (hx : x = (v : Int)) :
    (w.setCell ⟨b, i, none⟩ (.int .u32 x)).rowIs b t n (dall (upd p i v)) :=
  (h.set i _).congr fun j _ => by
    subst hx
    unfold dall upd
    by_cases e : j = i
    · rw [if_pos e, if_pos e]
    · rw [if_neg e, if_neg e]
theorem dall_rd {w : World} {b n : Nat} {t : TypeId} {s : Nat → Nat} (h : w.rowIs b t n (dall s)) : Rd w (some ⟨b, 0, none⟩) n s :=
  Rd.of_row h (Nat.le_refl _) fun _ _ => rfl
theorem val_zeros (p : Nat → Nat) {n m : Nat} (h : n ≤ m) (hz : ∀ i, n ≤ i → p i = 0) : val p m = val p n := by
  induction m with
  | zero => obtain rfl : n = 0 := by omega
            rfl
  | succ m ih =>
    by_cases e : n = m + 1
    · rw [e]
    · rw [val, ih (by omega), hz m (by omega)]; simp
end Go.Proofs.YtgcogpfmhmmgdaaGreatDoor
