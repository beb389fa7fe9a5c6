/- What integer.canonical returns: the integer without leading zeros, and without a sign for 0. No condition. Plain facts on numbers written to the base 2^32, the least significant digit first, told by a function of the place. No condition. Plain facts on numbers written to the base 256, the most significant digit first. No condition. -/
import Derived.Test.YtgcogpfmhmmgdaaGreatDoorQ02
import Derived.WalkKit
import Derived.WalkSpells
import Derived.Deep.LoopGhost
import Derived.BigQuiet
import Derived.Deep.QuietTactic
import Derived.Test.YtgcogpfmhmmgdaaGreatDoorProg
import Derived.Below
import Derived.Deep.OwnRows
import Derived.Lib.TrimByte

namespace Go.Proofs.YtgcogpfmhmmgdaaGreatDoor
open Go.RowKit

/-- The bytes without the leading zeros. -/
def stz (s : ByteArray) : List UInt8 := Lib.trimLeftB s.data.toList 0
/-- A value of type api.Int. -/
def iv (b : Bool) (l : List UInt8) : Value := .agg #[.bool b, .string ⟨l.toArray⟩]

theorem fieldMag (b : Bool) (s : ByteArray) (w : World) : (Instr.field 27 (.agg #[.bool b, .string s]) 1).run Tryz.prog w = .ok (.string s) w := by kernel_rfl
theorem fieldNeg (b : Bool) (s : ByteArray) (w : World) : (Instr.field 27 (.agg #[.bool b, .string s]) 0).run Tryz.prog w = .ok (.bool b) w := by kernel_rfl
attribute [go_sem] fieldMag fieldNeg

theorem run_index_bytes (l : List UInt8) (i : Nat) (b : UInt8) (h : l[i]? = some b) (z : Int) (hz : z = (i : Int)) (w : World) :
    (Instr.index 9 (.string ⟨l.toArray⟩) (.int .i64 z)).run Tryz.prog w = .ok (.int .u8 (b.toNat : Int)) w := by
  subst hz
  have hi : i < l.length := by
    rcases Nat.lt_or_ge i l.length with h1 | h1
    · exact h1
    · rw [List.getElem?_eq_none h1] at h; cases h
  rw [run_index_string w 9 ⟨l.toArray⟩ .i64 i Tryz.underlying9, dif_pos ⟨by omega, by simpa [ByteArray.size] using hi⟩]
  have e : (⟨l.toArray⟩ : ByteArray)[(i : Int).toNat]'(by simpa [ByteArray.size] using hi) = b := by
    rw [List.getElem?_eq_getElem hi] at h
    have h2 := Option.some.inj h
    rw [← h2]; rfl
  rw [e]
theorem iv_eq (b : Bool) (l : List UInt8) : iv b l = .agg #[.bool b, .string ⟨l.toArray⟩] := rfl

set_option maxHeartbeats 800000 in
theorem canonical_any (ng : Bool) (s : ByteArray) (w : World) :
    Calls Tryz.prog 70 #[.agg #[.bool ng, .string s]] w fun e w' => e = .returned (iv (ng && !(stz s).isEmpty) (stz s)) ∧ Below w.heap.size w w' := by
  cases ng
  all_goals go_enter Tryz.func70, Tryz.ntmps70
  all_goals go_wp2_with (go_at_call 101; refine (Tryz.strings_TrimLeft_one s 0 (by decide) _).mono ?_; rintro e w' ⟨rfl, rfl⟩)
  · exact bodyPost_ret (v := iv false (stz s)) (by simp [results, Tryz.results70, go_sem, iv, stz]) rfl ⟨rfl, ((Below.refl _ _).alloc (Nat.le_refl _) _).alloc (by simp) _⟩
  · exact bodyPost_ret (v := iv (!(stz s).isEmpty) (stz s)) (by simp [results, Tryz.results70, go_sem, iv, stz]) rfl ⟨rfl, ((Below.refl _ _).alloc (Nat.le_refl _) _).alloc (by simp) _⟩
end Go.Proofs.YtgcogpfmhmmgdaaGreatDoor

namespace Go.Proofs.YtgcogpfmhmmgdaaGreatDoor
open Go.RowKit

/-- The value of the first n digits of f. -/
def val (f : Nat → Nat) : Nat → Nat
  | 0 => 0
  | n + 1 => val f n + f n * 4294967296 ^ n

def Dig (f : Nat → Nat) (n : Nat) : Prop := ∀ i, i < n → f i < 4294967296
/-- No zero at the end. -/
def Trm (f : Nat → Nat) (n : Nat) : Prop := 0 < n → f (n - 1) ≠ 0

theorem val_congr {f g : Nat → Nat} {n : Nat} (h : ∀ i, i < n → f i = g i) : val f n = val g n := by
  induction n with
  | zero => rfl
  | succ n ih => rw [val, val, ih (fun i hi => h i (by omega)), h n (by omega)]

theorem val_lt {f : Nat → Nat} {n : Nat} (h : Dig f n) : val f n < 4294967296 ^ n := by
  induction n with
  | zero => simp [val]
  | succ n ih =>
    rw [val, Nat.pow_succ]
    have h1 := ih (fun i hi => h i (by omega))
    have h2 := h n (by omega)
    have h3 : f n * 4294967296 ^ n ≤ 4294967295 * 4294967296 ^ n := Nat.mul_le_mul_right _ (by omega)
    have hp : 0 < 4294967296 ^ n := Nat.pow_pos (by omega)
    generalize 4294967296 ^ n = P at *
    omega

theorem val_ge {f : Nat → Nat} {n : Nat} (hn : 0 < n) (h : f (n - 1) ≠ 0) : 4294967296 ^ (n - 1) ≤ val f n := by
  obtain ⟨m, rfl⟩ : ∃ m, n = m + 1 := ⟨n - 1, by omega⟩
  rw [val]
  simp only [Nat.add_sub_cancel] at *
  have : 1 * 4294967296 ^ m ≤ f m * 4294967296 ^ m := Nat.mul_le_mul_right _ (by omega)
  omega

/-- The number of the digits behind which there are zeros alone. -/
def tln (f : Nat → Nat) : Nat → Nat
  | 0 => 0
  | n + 1 => if f n = 0 then tln f n else n + 1

theorem tln_le (f : Nat → Nat) (n : Nat) : tln f n ≤ n := by
  induction n with
  | zero => simp [tln]
  | succ n ih => rw [tln]; split <;> omega
theorem tln_val (f : Nat → Nat) (n : Nat) : val f (tln f n) = val f n := by
  induction n with
  | zero => rfl
  | succ n ih =>
    rw [tln]
    split
    · rename_i h; rw [ih, val, h]; simp
    · rfl
theorem tln_trm (f : Nat → Nat) (n : Nat) : Trm f (tln f n) := by
  induction n with
  | zero => intro h; exact absurd h (by simp [tln])
  | succ n ih =>
    rw [tln]
    split
    · exact ih
    · intro _; simpa using ‹¬ f n = 0›

/-- Digits in memory: the slice with the address A and the length n holds the digits f. -/
def Rd (w : World) (A : Option Addr) (n : Nat) (f : Nat → Nat) : Prop :=
  ∃ b off : Nat, (0 < n → A = some ⟨b, off, none⟩) ∧ ∀ i, i < n → w.cell? ⟨b, off + i, none⟩ = some (.int .u32 (f i : Int))

theorem Rd.nil (w : World) (f : Nat → Nat) (A : Option Addr) : Rd w A 0 f := ⟨0, 0, fun h => absurd h (by omega), fun i h => absurd h (by omega)⟩
theorem Rd.lt {w : World} {b off n : Nat} {f : Nat → Nat} (h : ∀ i, i < n → w.cell? ⟨b, off + i, none⟩ = some (.int .u32 (f i : Int))) (hn : 0 < n) : b < w.heap.size :=
  World.block_lt_of_cell? w _ (h 0 hn)
theorem Rd.below {w w' : World} {A : Option Addr} {n : Nat} {f : Nat → Nat} {B : Nat} (h : Rd w A n f) (hB : w.heap.size ≤ B) (hb : Below B w w') : Rd w' A n f := by
  obtain ⟨b, off, hA, hc⟩ := h
  refine ⟨b, off, hA, fun i hi => ?_⟩
  rw [hb.cell (p := ⟨b, off + i, none⟩) (by have := Rd.lt hc (by omega); show b < B; omega)]
  exact hc i hi
theorem Rd.take {w : World} {A : Option Addr} {n m : Nat} {f : Nat → Nat} (h : Rd w A n f) (hm : m ≤ n) : Rd w A m f := by
  obtain ⟨b, off, hA, hc⟩ := h
  exact ⟨b, off, fun h => hA (by omega), fun i hi => hc i (by omega)⟩
theorem Rd.of_row {w : World} {b n m : Nat} {t : TypeId} {f : Nat → Nat} {g : Nat → Value} (h : w.rowIs b t n g) (hm : m ≤ n) (hg : ∀ i, i < m → g i = .int .u32 (f i : Int)) : Rd w (some ⟨b, 0, none⟩) m f :=
  ⟨b, 0, fun _ => rfl, fun i hi => by rw [Nat.zero_add, h.cell (by omega), hg i hi]⟩

/-- The value v is the number N in memory. -/
def IsNat (w : World) (A : Option Addr) (n c : Nat) (N : Nat) : Prop :=
  n ≤ c ∧ c ≤ 100000000000 ∧ ∃ f, Rd w A n f ∧ Dig f n ∧ Trm f n ∧ val f n = N
theorem IsNat.below {w w' : World} {A : Option Addr} {n c N B : Nat} (h : IsNat w A n c N) (hB : w.heap.size ≤ B) (hb : Below B w w') : IsNat w' A n c N := by
  obtain ⟨h1, h2, f, h3, h4⟩ := h
  exact ⟨h1, h2, f, h3.below hB hb, h4⟩

/-- What a function that returns a number leaves. -/
def NatOut (w : World) (N : Nat) (e : Ending) (w' : World) : Prop :=
  ∃ A n c, e = .returned (.slice A n c) ∧ IsNat w' A n c N ∧ Below w.heap.size w w'

/-- The row that holds the first k digits of s, and zeros behind them. -/
def dsts (s : Nat → Nat) (k : Nat) : Nat → Value := fun j => .int .u32 ((if j < k then s j else 0 : Nat) : Int)
def upd (s : Nat → Nat) (k v : Nat) : Nat → Nat := fun j => if j = k then v else s j
theorem upd_same (s : Nat → Nat) (k v : Nat) : upd s k v k = v := by simp [upd]
theorem upd_lt (s : Nat → Nat) (k v : Nat) {j : Nat} (h : j < k) : upd s k v j = s j := by simp [upd, Nat.ne_of_lt h]
theorem val_upd (s : Nat → Nat) (k v : Nat) : val (upd s k v) (k + 1) = val s k + v * 4294967296 ^ k := by
  rw [val, upd_same, val_congr (fun i hi => upd_lt s k v hi)]
theorem dig_upd {s : Nat → Nat} {k v : Nat} (h : Dig s k) (hv : v < 4294967296) : Dig (upd s k v) (k + 1) := fun i hi => by
  by_cases e : i = k
  · subst e; rw [upd_same]; exact hv
  · rw [upd_lt _ _ _ (by omega)]; exact h i (by omega)
theorem dsts_step {w : World} {b n k : Nat} {t : TypeId} {s : Nat → Nat} (h : w.rowIs b t n (dsts s k)) {x : Int} {v : Nat} (hx : x = (v : Int)) :
    (w.setCell ⟨b, k, none⟩ (.int .u32 x)).rowIs b t n (dsts (upd s k v) (k + 1)) :=
  (h.set k _).congr fun j _ => by
    subst hx
    unfold dsts
    by_cases e : j = k
    · subst e; rw [if_pos rfl, if_pos (by omega), upd_same]
    · rw [if_neg e]
      by_cases hl : j < k
      · rw [if_pos hl, if_pos (by omega), upd_lt _ _ _ hl]
      · rw [if_neg hl, if_neg (by omega)]
theorem dsts_rd {w : World} {b n : Nat} {t : TypeId} {s : Nat → Nat} (h : w.rowIs b t n (dsts s n)) : Rd w (some ⟨b, 0, none⟩) n s :=
  Rd.of_row h (Nat.le_refl _) fun i hi => by simp [dsts, hi]
/-- The digits with zeros behind them. -/
def ext (g : Nat → Nat) (m : Nat) : Nat → Nat := fun j => if j < m then g j else 0
theorem val_ext (g : Nat → Nat) (m n : Nat) (h : m ≤ n) : val (ext g m) n = val g m := by
  induction n with
  | zero => obtain rfl : m = 0 := by omega
            rfl
  | succ n ih =>
    by_cases e : m = n + 1
    · subst e; exact val_congr fun i hi => by simp [ext, hi]
    · rw [val, ih (by omega)]; simp [ext, show ¬ n < m by omega]
theorem nat_out {w wx : World} {b n N : Nat} {s : Nat → Nat} (hr : Rd wx (some ⟨b, 0, none⟩) n s) (hb : Below w.heap.size w wx) (ds : Dig s n) (hn : n ≤ 100000000000) (hv : val s n = N) :
    NatOut w N (.returned (.slice (some ⟨b, 0, none⟩) (tln s n) n)) wx :=
  ⟨_, _, _, rfl, ⟨tln_le s n, hn, s, hr.take (tln_le s n), fun i hi => ds i (by have := tln_le s n; omega), tln_trm s n, (tln_val s n).trans hv⟩, hb⟩
end Go.Proofs.YtgcogpfmhmmgdaaGreatDoor

namespace Go.Proofs.YtgcogpfmhmmgdaaGreatDoor
open Go.RowKit

/-- The value of bytes. -/
def vB (l : List UInt8) : Nat := l.foldl (fun a b => a * 256 + b.toNat) 0
/-- The bytes of a number, without leading zeros. -/
def bytesOf (n : Nat) : List UInt8 := if n = 0 then [] else bytesOf (n / 256) ++ [UInt8.ofNat (n % 256)]
termination_by n
decreasing_by omega

theorem vB_snoc (l : List UInt8) (b : UInt8) : vB (l ++ [b]) = vB l * 256 + b.toNat := by simp [vB, List.foldl_append]
theorem vB_nil : vB [] = 0 := rfl
theorem foldl_acc (l : List UInt8) (a : Nat) : l.foldl (fun a b => a * 256 + b.toNat) a = a * 256 ^ l.length + vB l := by
  induction l generalizing a with
  | nil => simp [vB]
  | cons b l ih =>
    have e : vB (b :: l) = (0 * 256 + b.toNat) * 256 ^ l.length + vB l := by
      show (b :: l).foldl (fun a b => a * 256 + b.toNat) 0 = _
      rw [List.foldl_cons, ih]
    rw [List.foldl_cons, ih, e, List.length_cons, Nat.pow_succ, Nat.add_mul, Nat.mul_assoc, Nat.mul_comm 256, Nat.zero_mul, Nat.zero_add]
    omega
theorem vB_cons (b : UInt8) (l : List UInt8) : vB (b :: l) = b.toNat * 256 ^ l.length + vB l := by
  rw [vB, List.foldl_cons, foldl_acc]; simp
theorem vB_lt (l : List UInt8) : vB l < 256 ^ l.length := by
  induction l with
  | nil => simp [vB]
  | cons b l ih =>
    rw [vB_cons, List.length_cons, Nat.pow_succ]
    have hb := b.toNat_lt
    have : b.toNat * 256 ^ l.length ≤ 255 * 256 ^ l.length := Nat.mul_le_mul_right _ (by omega)
    generalize 256 ^ l.length = P at *
    omega
theorem vB_ge {b : UInt8} {l : List UInt8} (h : b ≠ 0) : 256 ^ l.length ≤ vB (b :: l) := by
  rw [vB_cons]
  have hb : b.toNat ≠ 0 := fun e => h (by apply UInt8.toNat_inj.1; simpa using e)
  have : 1 * 256 ^ l.length ≤ b.toNat * 256 ^ l.length := Nat.mul_le_mul_right _ (by omega)
  omega

theorem bytesOf_zero : bytesOf 0 = [] := by rw [bytesOf]; simp
theorem bytesOf_pos {n : Nat} (h : n ≠ 0) : bytesOf n = bytesOf (n / 256) ++ [UInt8.ofNat (n % 256)] := by rw [bytesOf]; simp [h]
theorem vB_bytesOf (n : Nat) : vB (bytesOf n) = n := by
  induction n using Nat.strongRecOn with
  | _ n ih =>
    by_cases h : n = 0
    · subst h; rw [bytesOf_zero]; rfl
    · rw [bytesOf_pos h, vB_snoc, ih _ (by omega)]
      rw [UInt8.toNat_ofNat_of_lt' (by show n % 256 < 256; omega)]
      omega
theorem bytesOf_nil {n : Nat} : bytesOf n = [] ↔ n = 0 := by
  constructor
  · intro h
    have := vB_bytesOf n
    rw [h] at this
    exact this.symm
  · rintro rfl; exact bytesOf_zero
/-- Bytes without leading zeros are those of their value. -/
theorem bytesOf_vB (l : List UInt8) (h : l.head? ≠ some 0) : bytesOf (vB l) = l := by
  generalize hn : l.length = n
  induction n generalizing l with
  | zero =>
    have : l = [] := List.eq_nil_of_length_eq_zero hn
    subst this; exact bytesOf_zero
  | succ n ih =>
    have hne : l ≠ [] := by intro e; subst e; simp at hn
    obtain ⟨l', b, rfl⟩ : ∃ l' b, l = l' ++ [b] := ⟨l.dropLast, l.getLast hne, (List.dropLast_concat_getLast hne).symm⟩
    have hb := b.toNat_lt
    have hl : l'.head? ≠ some 0 := by
      cases l' with
      | nil => simp
      | cons c l' => simpa using h
    have h0 : vB (l' ++ [b]) ≠ 0 := by
      cases l' with
      | nil =>
        have hb0 : b ≠ 0 := by simpa using h
        have : b.toNat ≠ 0 := fun e => hb0 (by apply UInt8.toNat_inj.1; simpa using e)
        simp [vB]; omega
      | cons c l' =>
        have hc : c ≠ 0 := by simpa using h
        have := vB_ge (b := c) (l := l' ++ [b]) hc
        have hp : 0 < 256 ^ (l' ++ [b]).length := Nat.pow_pos (by omega)
        simp only [List.cons_append] at *
        omega
    rw [bytesOf_pos h0, vB_snoc]
    have e1 : (vB l' * 256 + b.toNat) / 256 = vB l' := by omega
    have e2 : (vB l' * 256 + b.toNat) % 256 = b.toNat := by omega
    rw [e1, e2, ih l' hl (by simpa using hn)]
    simp
theorem vB_trim (l : List UInt8) : vB (Lib.trimLeftB l 0) = vB l := by
  induction l with
  | nil => rfl
  | cons b l ih =>
    by_cases h : b = 0
    · subst h
      rw [show Lib.trimLeftB (0 :: l) 0 = Lib.trimLeftB l 0 by simp [Lib.trimLeftB], ih, vB_cons]; simp
    · rw [show Lib.trimLeftB (b :: l) 0 = b :: l by simp [Lib.trimLeftB, h]]
theorem head_trim (l : List UInt8) : (Lib.trimLeftB l 0).head? ≠ some 0 := by
  induction l with
  | nil => simp [Lib.trimLeftB]
  | cons b l ih =>
    by_cases h : b = 0
    · subst h
      rwa [show Lib.trimLeftB (0 :: l) 0 = Lib.trimLeftB l 0 by simp [Lib.trimLeftB]]
    · rw [show Lib.trimLeftB (b :: l) 0 = b :: l by simp [Lib.trimLeftB, h]]; simpa using h
theorem trim_bytes (l : List UInt8) : Lib.trimLeftB l 0 = bytesOf (vB l) := by
  rw [← vB_trim]; exact (bytesOf_vB _ (head_trim l)).symm

theorem pow256 (k : Nat) : (4294967296 : Nat) ^ (k / 4) * 256 ^ (k % 4) = 256 ^ k := by
  rw [show (4294967296 : Nat) = 256 ^ 4 by rfl, ← Nat.pow_mul, ← Nat.pow_add]
  congr 1
  omega
theorem vB_drop {l : List UInt8} {k : Nat} (h : k < l.length) : vB (l.drop k) = (l[k]'h).toNat * 256 ^ (l.length - 1 - k) + vB (l.drop (k + 1)) := by
  rw [List.drop_eq_getElem_cons h, vB_cons, List.length_drop]
  congr 3
  omega
theorem vB_len {l : List UInt8} (h : l.head? ≠ some 0) (hl : 0 < l.length) : 256 ^ (l.length - 1) ≤ vB l := by
  cases l with
  | nil => simp at hl
  | cons b l => exact vB_ge (by simpa using h)
end Go.Proofs.YtgcogpfmhmmgdaaGreatDoor
