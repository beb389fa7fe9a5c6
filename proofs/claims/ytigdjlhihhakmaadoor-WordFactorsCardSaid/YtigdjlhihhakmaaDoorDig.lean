/- Plain facts on numbers written to the base 2^32, the least significant digit first, told by a function of the place. No condition. -/
import Derived.Test.YtigdjlhihhakmaaDoorProg
import Derived.Below
import Derived.Deep.OwnRows
namespace Go.Proofs.YtigdjlhihhakmaaDoor
open Go.RowKit

/-- The value of the first n digits of f. -/
def val (f : Nat → Nat) : Nat → Nat
  | 0 => 0
  | n + 1 => val f n + f n * 4294967296 ^ n

def Dig (f : Nat → Nat) (n : Nat) : Prop := ∀ i, i < n → f i < 4294967296
/-- No zero at the end. -/
def Trm (f : Nat → Nat) (n : Nat) : Prop := 0 < n → f (n - 1) ≠ 0

theorem val_congr {f g : Nat → Nat} {n : Nat} (h : ∀ i, i < n → f i = g i) : val f n = val g n := by
  induction n with
  | zero => rfl
  | succ n ih => rw [val, val, ih (fun i hi => h i (by omega)), h n (by omega)]

theorem val_lt {f : Nat → Nat} {n : Nat} (h : Dig f n) : val f n < 4294967296 ^ n := by
  induction n with
  | zero => simp [val]
  | succ n ih =>
    rw [val, Nat.pow_succ]
    have h1 := ih (fun i hi => h i (by omega))
    have h2 := h n (by omega)
    have h3 : f n * 4294967296 ^ n ≤ 4294967295 * 4294967296 ^ n := Nat.mul_le_mul_right _ (by omega)
    have hp : 0 < 4294967296 ^ n := Nat.pow_pos (by omega)
    generalize 4294967296 ^ n = P at *
    omega

theorem val_ge {f : Nat → Nat} {n : Nat} (hn : 0 < n) (h : f (n - 1) ≠ 0) : 4294967296 ^ (n - 1) ≤ val f n := by
  obtain ⟨m, rfl⟩ : ∃ m, n = m + 1 := ⟨n - 1, by omega⟩
  rw [val]
  simp only [Nat.add_sub_cancel] at *
  have : 1 * 4294967296 ^ m ≤ f m * 4294967296 ^ m := Nat.mul_le_mul_right _ (by omega)
  omega

/-- The number of the digits behind which there are zeros alone. -/
def tln (f : Nat → Nat) : Nat → Nat
  | 0 => 0
  | n + 1 => if f n = 0 then tln f n else n + 1

theorem tln_le (f : Nat → Nat) (n : Nat) : tln f n ≤ n := by
  induction n with
  | zero => simp [tln]
  | succ n ih => rw [tln]; split <;> omega
theorem tln_val (f : Nat → Nat) (n : Nat) : val f (tln f n) = val f n := by
  induction n with
  | zero => rfl
  | succ n ih =>
    rw [tln]
    split
    · rename_i h; rw [ih, val, h]; simp
    · rfl
theorem tln_trm (f : Nat → Nat) (n : Nat) : Trm f (tln f n) := by
  induction n with
  | zero => intro h; exact absurd h (by simp [tln])
  | succ n ih =>
    rw [tln]
    split
    · exact ih
    · intro _; simpa using ‹¬ f n = 0›

/-- Digits in memory: the slice with the address A and the length n holds the digits f. -/
def Rd (w : World) (A : Option Addr) (n : Nat) (f : Nat → Nat) : Prop :=
  ∃ b off : Nat, (0 < n → A = some ⟨b, off, none⟩) ∧ ∀ i, i < n → w.cell? ⟨b, off + i, none⟩ = some (.int .u32 (f i : Int))

theorem Rd.nil (w : World) (f : Nat → Nat) (A : Option Addr) : Rd w A 0 f := ⟨0, 0, fun h => absurd h (by omega), fun i h => absurd h (by omega)⟩
theorem Rd.lt {w : World} {b off n : Nat} {f : Nat → Nat} (h : ∀ i, i < n → w.cell? ⟨b, off + i, none⟩ = some (.int .u32 (f i : Int))) (hn : 0 < n) : b < w.heap.size :=
  World.block_lt_of_cell? w _ (h 0 hn)
theorem Rd.below {w w' : World} {A : Option Addr} {n : Nat} {f : Nat → Nat} {B : Nat} (h : Rd w A n f) (hB : w.heap.size ≤ B) (hb : Below B w w') : Rd w' A n f := by
  obtain ⟨b, off, hA, hc⟩ := h
  refine ⟨b, off, hA, fun i hi => ?_⟩
  rw [hb.cell (p := ⟨b, off + i, none⟩) (by have := Rd.lt hc (by omega); show b < B; omega)]
  exact hc i hi
theorem Rd.take {w : World} {A : Option Addr} {n m : Nat} {f : Nat → Nat} (h : Rd w A n f) (hm : m ≤ n) : Rd w A m f := by
  obtain ⟨b, off, hA, hc⟩ := h
  exact ⟨b, off, fun h => hA (by omega), fun i hi => hc i (by omega)⟩
theorem Rd.of_row {w : World} {b n m : Nat} {t : TypeId} {f : Nat → Nat} {g : Nat → Value} (h : w.rowIs b t n g) (hm : m ≤ n) (hg : ∀ i, i < m → g i = .int .u32 (f i : Int)) : Rd w (some ⟨b, 0, none⟩) m f :=
  ⟨b, 0, fun _ => rfl, fun i hi => by rw [Nat.zero_add, h.cell (by omega), hg i hi]⟩

/-- The value v is the number N in memory. -/
def IsNat (w : World) (A : Option Addr) (n c : Nat) (N : Nat) : Prop :=
  n ≤ c ∧ c ≤ 100000000000 ∧ ∃ f, Rd w A n f ∧ Dig f n ∧ Trm f n ∧ val f n = N
theorem IsNat.below {w w' : World} {A : Option Addr} {n c N B : Nat} (h : IsNat w A n c N) (hB : w.heap.size ≤ B) (hb : Below B w w') : IsNat w' A n c N := by
  obtain ⟨h1, h2, f, h3, h4⟩ := h
  exact ⟨h1, h2, f, h3.below hB hb, h4⟩

/-- What a function that returns a number leaves. -/
def NatOut (w : World) (N : Nat) (e : Ending) (w' : World) : Prop :=
  ∃ A n c, e = .returned (.slice A n c) ∧ IsNat w' A n c N ∧ Below w.heap.size w w'

/-- The row that holds the first k digits of s, and zeros behind them. -/
def dsts (s : Nat → Nat) (k : Nat) : Nat → Value := fun j => .int .u32 ((if j < k then s j else 0 : Nat) : Int)
def upd (s : Nat → Nat) (k v : Nat) : Nat → Nat := fun j => if j = k then v else s j
theorem upd_same (s : Nat → Nat) (k v : Nat) : upd s k v k = v := by simp [upd]
theorem upd_lt (s : Nat → Nat) (k v : Nat) {j : Nat} (h : j < k) : upd s k v j = s j := by simp [upd, Nat.ne_of_lt h]
theorem val_upd (s : Nat → Nat) (k v : Nat) : val (upd s k v) (k + 1) = val s k + v * 4294967296 ^ k := by
  rw [val, upd_same, val_congr (fun i hi => upd_lt s k v hi)]
theorem dig_upd {s : Nat → Nat} {k v : Nat} (h : Dig s k) (hv : v < 4294967296) : Dig (upd s k v) (k + 1) := fun i hi => by
  by_cases e : i = k
  · subst e; rw [upd_same]; exact hv
  · rw [upd_lt _ _ _ (by omega)]; exact h i (by omega)
theorem dsts_step {w : World} {b n k : Nat} {t : TypeId} {s : Nat → Nat} (h : w.rowIs b t n (dsts s k)) {x : Int} {v : Nat} (hx : x = (v : Int)) :
    (w.setCell ⟨b, k, none⟩ (.int .u32 x)).rowIs b t n (dsts (upd s k v) (k + 1)) :=
  (h.set k _).congr fun j _ => by
    subst hx
    unfold dsts
    by_cases e : j = k
    · subst e; rw [if_pos rfl, if_pos (by omega), upd_same]
    · rw [if_neg e]
      by_cases hl : j < k
      · rw [if_pos hl, if_pos (by omega), upd_lt _ _ _ hl]
      · rw [if_neg hl, if_neg (by omega)]
theorem dsts_rd {w : World} {b n : Nat} {t : TypeId} {s : Nat → Nat} (h : w.rowIs b t n (dsts s n)) : Rd w (some ⟨b, 0, none⟩) n s :=
  Rd.of_row h (Nat.le_refl _) fun i hi => by simp [dsts, hi]
/-- The digits with zeros behind them. -/
def ext (g : Nat → Nat) (m : Nat) : Nat → Nat := fun j => if j < m then g j else 0
theorem val_ext (g : Nat → Nat) (m n : Nat) (h : m ≤ n) : val (ext g m) n = val g m := by
  induction n with
  | zero => obtain rfl : m = 0 := by omega
            rfl
  | succ n ih =>
    by_cases e : m = n + 1
    · subst e; exact val_congr fun i hi => by simp [ext, hi]
    · rw [val, ih (by omega)]; simp [ext, show ¬ n < m by omega]
theorem nat_out {w wx : World} {b n N : Nat} {s : Nat → Nat} (hr : Rd wx (some ⟨b, 0, none⟩) n s) (hb : Below w.heap.size w wx) (ds : Dig s n) (hn : n ≤ 100000000000) (hv : val s n = N) :
    NatOut w N (.returned (.slice (some ⟨b, 0, none⟩) (tln s n) n)) wx :=
  ⟨_, _, _, rfl, ⟨tln_le s n, hn, s, hr.take (tln_le s n), fun i hi => ds i (by have := tln_le s n; omega), tln_trm s n, (tln_val s n).trans hv⟩, hb⟩
end Go.Proofs.YtigdjlhihhakmaaDoor
