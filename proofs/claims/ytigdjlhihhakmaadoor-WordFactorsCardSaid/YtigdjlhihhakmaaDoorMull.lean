/- Plain facts on products by digits. No condition. -/
import Derived.Test.YtigdjlhihhakmaaDoorDig
namespace Go.Proofs.YtigdjlhihhakmaaDoor
open Go.RowKit

theorem val_set (p : Nat → Nat) {i n : Nat} (v : Nat) (h : i < n) : val (upd p i v) n + p i * 4294967296 ^ i = val p n + v * 4294967296 ^ i := by
  induction n with
  | zero => omega
  | succ n ih =>
    rw [val, val]
    by_cases e : i = n
    · subst e
      have e3 : val (upd p i v) i = val p i := val_congr fun j hj => upd_lt p i v hj
      rw [upd_same, e3]
      omega
    · have := ih (by omega)
      have e2 : upd p i v n = p n := by simp [upd, show n ≠ i by omega]
      rw [e2]
      omega

theorem mul_inner {p f g : Nat → Nat} {k m j y V t : Nat} (hj : j < m) (hv : val p (k + m) + y * 4294967296 ^ (k + j) = V + f k * val g j * 4294967296 ^ k) (ht : t = y + (f k * g j + p (k + j))) :
    val (upd p (k + j) (t % 4294967296)) (k + m) + t / 4294967296 * 4294967296 ^ (k + (j + 1)) = V + f k * val g (j + 1) * 4294967296 ^ k := by
  have h1 := val_set p (t % 4294967296) (show k + j < k + m by omega)
  have h2 := Nat.div_add_mod t 4294967296
  have h3 : f k * val g (j + 1) * 4294967296 ^ k = f k * val g j * 4294967296 ^ k + f k * g j * 4294967296 ^ (k + j) := by
    rw [val, Nat.mul_add, Nat.add_mul, Nat.pow_add]
    congr 1
    rw [← Nat.mul_assoc, Nat.mul_assoc (f k * g j), Nat.mul_comm (4294967296 ^ j)]
  rw [h3, show k + (j + 1) = (k + j) + 1 by omega, Nat.pow_succ]
  generalize 4294967296 ^ (k + j) = Q at *
  generalize t / 4294967296 = a at *
  generalize t % 4294967296 = r at *
  have h4 : (4294967296 * a + r) * Q = (y + (f k * g j + p (k + j))) * Q := by rw [h2, ht]
  rw [Nat.add_mul, Nat.add_mul, Nat.add_mul] at h4
  have h5 : a * (Q * 4294967296) = 4294967296 * a * Q := by rw [Nat.mul_comm Q, ← Nat.mul_assoc, Nat.mul_comm a]
  rw [h5]
  generalize 4294967296 * a * Q = z1 at *
  generalize f k * g j * Q = z2 at *
  omega

theorem mul_outer {p f g : Nat → Nat} {k m y : Nat} (hv : val p (k + m) + y * 4294967296 ^ (k + m) = val f k * val g m + f k * val g m * 4294967296 ^ k) :
    val (upd p (k + m) y) (k + 1 + m) = val f (k + 1) * val g m := by
  rw [show k + 1 + m = (k + m) + 1 by omega, val_upd, hv, val, Nat.add_mul, Nat.mul_assoc, Nat.mul_assoc, Nat.mul_comm (val g m)]

theorem dig_set {p : Nat → Nat} {i n v : Nat} (h : Dig p n) (hv : v < 4294967296) : Dig (upd p i v) n := fun j hj => by
  by_cases e : j = i
  · subst e; rw [upd_same]; exact hv
  · simp only [upd, if_neg e]; exact h j hj

/-- The row that holds the digits p. -/
def dall (p : Nat → Nat) : Nat → Value := fun j => .int .u32 (p j : Int)
theorem dall_set {w : World} {b n : Nat} {t : TypeId} {p : Nat → Nat} (h : w.rowIs b t n (dall p)) (i : Nat) {x : Int} {v : Nat} (hx : x = (v : Int)) :
    (w.setCell ⟨b, i, none⟩ (.int .u32 x)).rowIs b t n (dall (upd p i v)) :=
  (h.set i _).congr fun j _ => by
    subst hx
    unfold dall upd
    by_cases e : j = i
    · rw [if_pos e, if_pos e]
    · rw [if_neg e, if_neg e]
theorem dall_rd {w : World} {b n : Nat} {t : TypeId} {s : Nat → Nat} (h : w.rowIs b t n (dall s)) : Rd w (some ⟨b, 0, none⟩) n s :=
  Rd.of_row h (Nat.le_refl _) fun _ _ => rfl
theorem val_zeros (p : Nat → Nat) {n m : Nat} (h : n ≤ m) (hz : ∀ i, n ≤ i → p i = 0) : val p m = val p n := by
  induction m with
  | zero => obtain rfl : n = 0 := by omega
            rfl
  | succ m ih =>
    by_cases e : n = m + 1
    · rw [e]
    · rw [val, ih (by omega), hz m (by omega)]; simp
end Go.Proofs.YtigdjlhihhakmaaDoor
