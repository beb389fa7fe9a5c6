/- Plain facts on numbers by their digits, read from above. No condition. -/
import Derived.Test.YtmdkkeklihfdgaaGreatDoorDig
import Derived.Laws.BitsAllLaws
namespace Go.Proofs.YtmdkkeklihfdgaaGreatDoor
open Go.RowKit

theorem val_cons (f : Nat → Nat) (n : Nat) : val f (n + 1) = f 0 + 4294967296 * val (fun j => f (j + 1)) n := by
  induction n with
  | zero => simp [val]
  | succ n ih =>
    rw [val, ih, val, Nat.pow_succ, Nat.mul_add, Nat.add_assoc]
    congr 2
    rw [Nat.mul_comm (4294967296 ^ n), ← Nat.mul_assoc, ← Nat.mul_assoc, Nat.mul_comm (f (n + 1))]

/-- The number above the first k digits. -/
def top (f : Nat → Nat) (k n : Nat) : Nat := val (fun j => f (j + k)) (n - k)
theorem top_zero (f : Nat → Nat) (n : Nat) : top f 0 n = val f n := rfl
theorem top_all (f : Nat → Nat) (n : Nat) : top f n n = 0 := by simp [top, val]
theorem top_step (f : Nat → Nat) {k n : Nat} (h : k < n) : top f k n = f k + 4294967296 * top f (k + 1) n := by
  unfold top
  rw [show n - k = (n - (k + 1)) + 1 by omega, val_cons]
  congr 2
  · simp
  · exact val_congr fun i _ => by congr 1; omega
theorem top_congr {f g : Nat → Nat} {k n : Nat} (h : ∀ i, k ≤ i → i < n → f i = g i) : top f k n = top g k n :=
  val_congr fun i hi => h _ (by omega) (by omega)

/-- The row that holds the digits of s from k on, and zeros before them. -/
def dsdn (s : Nat → Nat) (k : Nat) : Nat → Value := fun j => .int .u32 ((if k ≤ j then s j else 0 : Nat) : Int)
theorem dsdn_step {w : World} {b n k : Nat} {t : TypeId} {s : Nat → Nat} (h : w.rowIs b t n (dsdn s (k + 1))) {x : Int} {v : Nat} (hx : x = (v : Int)) :
    (w.setCell ⟨b, k, none⟩ (.int .u32 x)).rowIs b t n (dsdn (upd s k v) k) :=
  (h.set k _).congr fun j _ => by
    subst hx
    unfold dsdn
    by_cases e : j = k
    · subst e; rw [if_pos rfl, if_pos (Nat.le_refl _), upd_same]
    · rw [if_neg e]
      by_cases hl : k + 1 ≤ j
      · rw [if_pos hl, if_pos (by omega)]; simp [upd, e]
      · rw [if_neg hl, if_neg (by omega)]
theorem dsdn_rd {w : World} {b n : Nat} {t : TypeId} {s : Nat → Nat} (h : w.rowIs b t n (dsdn s 0)) : Rd w (some ⟨b, 0, none⟩) n s :=
  Rd.of_row h (Nat.le_refl _) fun i hi => by simp [dsdn]

theorem or_shl (a b : Nat) (h : b < 4294967296) : a * 4294967296 ||| b = a * 4294967296 + b := by
  have := Nat.two_pow_add_eq_or_of_lt (i := 32) (b := b) (by simpa using h) a
  rw [show (2 : Nat) ^ 32 = 4294967296 from rfl, Nat.mul_comm] at this
  exact this.symm
theorem u64_or_shl (a b : Nat) (ha : a < 4294967296) (hb : b < 4294967296) : bits .or .u64 ((a : Int) * 4294967296) (b : Int) = (a : Int) * 4294967296 + (b : Int) := by
  have h := u64_or_nat (a * 4294967296) b (by omega) (by omega)
  rw [or_shl a b hb, Int.natCast_mul, Int.natCast_add, Int.natCast_mul] at h
  exact h

theorem div_step {f s : Nat → Nat} {k n d r q t : Nat} (hk : k < n) (hv : top f (k + 1) n = d * top s (k + 1) n + r) (hq : q * d + t = r * 4294967296 + f k) :
    top f k n = d * top (upd s k q) k n + t := by
  rw [top_step f hk, top_step _ hk, hv, upd_same, top_congr (f := upd s k q) (g := s) (fun i a _ => by simp [upd, show i ≠ k by omega])]
  generalize top s (k + 1) n = S
  rw [Nat.mul_add 4294967296, Nat.mul_add d, Nat.mul_comm d q, Nat.mul_left_comm 4294967296 d S]
  omega
end Go.Proofs.YtmdkkeklihfdgaaGreatDoor
