/- Plain facts on numbers by their digits, read from above. No condition. What integer.divideSmall returns: the quotient and the rest. Condition: a number in memory; the divisor is not 0. -/
import Derived.Test.YtgcogpfmhmmgdaaGreatDoorQ01
import Derived.Laws.BitsAllLaws

namespace Go.Proofs.YtgcogpfmhmmgdaaGreatDoor
open Go.RowKit

theorem val_cons (f : Nat → Nat) (n : Nat) : val f (n + 1) = f 0 + 4294967296 * val (fun j => f (j + 1)) n := by
  induction n with
  | zero => simp [val]
  | succ n ih =>
    rw [val, ih, val, Nat.pow_succ, Nat.mul_add, Nat.add_assoc]
    congr 2
    rw [Nat.mul_comm (4294967296 ^ n), ← Nat.mul_assoc, ← Nat.mul_assoc, Nat.mul_comm (f (n + 1))]

/-- The number above the first k digits. -/
def top (f : Nat → Nat) (k n : Nat) : Nat := val (fun j => f (j + k)) (n - k)
theorem top_zero (f : Nat → Nat) (n : Nat) : top f 0 n = val f n := rfl
theorem top_all (f : Nat → Nat) (n : Nat) : top f n n = 0 := by simp [top, val]
theorem top_step (f : Nat → Nat) {k n : Nat} (h : k < n) : top f k n = f k + 4294967296 * top f (k + 1) n := by
  unfold top
  rw [show n - k = (n - (k + 1)) + 1 by omega, val_cons]
  congr 2
  · simp
  · exact val_congr fun i _ => by congr 1; omega
theorem top_congr {f g : Nat → Nat} {k n : Nat} (h : ∀ i, k ≤ i → i < n → f i = g i) : top f k n = top g k n :=
  val_congr fun i hi => h _ (by omega) (by omega)

/-- The row that holds the digits of s from k on, and zeros before them. -/
def dsdn (s : Nat → Nat) (k : Nat) : Nat → Value := fun j => .int .u32 ((if k ≤ j then s j else 0 : Nat) : Int)
theorem dsdn_step {w : World} {b n k : Nat} {t : TypeId} {s : Nat → Nat} (h : w.rowIs b t n (dsdn s (k + 1))) {x : Int} {v : Nat} (hx : x = (v : Int)) :
    (w.setCell ⟨b, k, none⟩ (.int .u32 x)).rowIs b t n (dsdn (upd s k v) k) :=
  (h.set k _).congr fun j _ => by
    subst hx
    unfold dsdn
    by_cases e : j = k
    · subst e; rw [if_pos rfl, if_pos (Nat.le_refl _), upd_same]
    · rw [if_neg e]
      by_cases hl : k + 1 ≤ j
      · rw [if_pos hl, if_pos (by omega)]; simp [upd, e]
      · rw [if_neg hl, if_neg (by omega)]
theorem dsdn_rd {w : World} {b n : Nat} {t : TypeId} {s : Nat → Nat} (h : w.rowIs b t n (dsdn s 0)) : Rd w (some ⟨b, 0, none⟩) n s :=
  Rd.of_row h (Nat.le_refl _) fun i hi => by simp [dsdn]

theorem or_shl (a b : Nat) (h : b < 4294967296) : a * 4294967296 ||| b = a * 4294967296 + b := by
  have := Nat.two_pow_add_eq_or_of_lt (i := 32) (b := b) (by simpa using h) a
  rw [show (2 : Nat) ^ 32 = 4294967296 from rfl, Nat.mul_comm] at this
  exact this.symm
theorem u64_or_shl (a b : Nat) (ha : a < 4294967296) (hb : b < 4294967296) : bits .or .u64 ((a : Int) * 4294967296) (b : Int) = (a : Int) * 4294967296 + (b : Int) := by
  have h := u64_or_nat (a * 4294967296) b (by omega) (by omega)
  rw [or_shl a b hb, Int.natCast_mul, Int.natCast_add, Int.natCast_mul] at h
  exact h

theorem div_step {f s : Nat → Nat} {k n d r q t : Nat} (hk : k < n) (hv : top f (k + 1) n = d * top s (k + 1) n + r) (hq : q * d + t = r * 4294967296 + f k) :
    top f k n = d * top (upd s k q) k n + t := by
  rw [top_step f hk, top_step _ hk, hv, upd_same, top_congr (f := upd s k q) (g := s) (fun i a _ => by simp [upd, show i ≠ k by omega])]
  generalize top s (k + 1) n = S
  rw [Nat.mul_add 4294967296, Nat.mul_add d, Nat.mul_comm d q, Nat.mul_left_comm 4294967296 d S]
  omega
end Go.Proofs.YtgcogpfmhmmgdaaGreatDoor

namespace Go.Proofs.YtgcogpfmhmmgdaaGreatDoor
open Go.RowKit

def DivOut (w : World) (Q R : Nat) (e : Ending) (w' : World) : Prop :=
  ∃ A n c, e = .returned (.tuple #[.slice A n c, .int .u32 (R : Int)]) ∧ IsNat w' A n c Q ∧ Below w.heap.size w w'

/-- .. and where the quotient lies: in the block that was made first. -/
def DivNew (w : World) (Q R : Nat) (e : Ending) (w' : World) : Prop :=
  ∃ n c, e = .returned (.tuple #[.slice (some ⟨w.heap.size, 0, none⟩) n c, .int .u32 (R : Int)]) ∧ IsNat w' (some ⟨w.heap.size, 0, none⟩) n c Q ∧ Below w.heap.size w w'

set_option maxHeartbeats 800000 in
theorem divSmall_new (A : Option Addr) (n c N d : Nat) (w : World) (hA : ∃ f, Rd w A n f ∧ Dig f n ∧ val f n = N) (hn : n ≤ 10000000000) (hd0 : 1 ≤ d) (hd : d < 4294967296) :
    Calls Tryz.prog 127 #[.slice A n c, .int .u32 (d : Int)] w (DivNew w (N / d) (N % d)) := by
  obtain ⟨f, ⟨b, off, hAe, hcell⟩, df, rfl⟩ := hA
  have hmk := run_make_row' (P := Tryz.prog) 86 93 (.int .u32 0) 4 Tryz.underlying86 Tryz.infoU32 rfl .i64 .i64 n (by omega) (by omega)
  go_enter Tryz.func127, Tryz.ntmps127
  go_wp2
  clear hmk
  go_loopg [7, 8] n (fun k rs i wx => ∃ (r : Nat) (s : Nat → Nat), k ≤ n ∧ i = .int .i64 ((k : Int) - 1) ∧ rs = .int .u64 (r : Int) ∧ r < d ∧ (∀ j, k ≤ j → j < n → s j < 4294967296) ∧ top f k n = d * top s k n + r ∧ Below w.heap.size w wx ∧ wx.heap.size = w.heap.size + 1 ∧ wx.rowIs w.heap.size 93 n (dsdn s k))
  case atStart => exact ⟨0, fun _ => 0, Nat.le_refl _, by go_num, rfl, by omega, fun i _ _ => by omega, by rw [top_all, top_all]; simp, (Below.refl _ _).alloc (Nat.le_refl _) _, by simp, (World.rowIs_made w _ n _).congr (fun i _ => by simp [dsdn])⟩
  case round =>
    obtain ⟨r, s, hk, rfl, rfl, hr, ds, hv, hb, hsz, hrow⟩ := hrel
    rcases gk with _ | k
    · have Hv : Hid (top f 0 n = d * top s 0 n + r) := hv
      have hr2 := dsdn_rd hrow
      clear hv hsz
      go_wp2_with fail
      refine (trim_any _ n n s _ (Nat.le_refl _) (by omega) hr2).mono ?_
      rintro e w' ⟨rfl, rfl⟩
      go_wp2
      go_ret2
      have h := Hv.out
      rw [top_zero, top_zero] at h
      have hq : val f n / d = val s n := by rw [h, Nat.add_comm, Nat.add_mul_div_left _ _ (by omega), Nat.div_eq_of_lt hr, Nat.zero_add]
      have hm : val f n % d = r := by rw [h, Nat.add_comm, Nat.add_mul_mod_self_left, Nat.mod_eq_of_lt hr]
      rw [hq, hm]
      obtain ⟨A', n', c', he, hi, hbb⟩ := nat_out hr2 hb (fun i hi => ds i (Nat.zero_le _) hi) (by omega) (rfl : val s n = val s n)
      injection he with he
      injection he with h1 h2 h3
      subst h1 h2 h3
      exact ⟨_, _, rfl, hi, hbb⟩
    · obtain rfl := hAe (by omega)
      have hx : wr.cell? ⟨b, off + k, none⟩ = some (.int .u32 (f k : Int)) := by rw [hb.cell (Rd.lt hcell (by omega))]; exact hcell k (by omega)
      have hw1 := hrow.cell (i := k) (by omega)
      have hw2 := hrow.frozen k
      have dk := df k (by omega)
      have hor := u64_or_shl r (f k) (by omega) dk
      have Hv : Hid (top f (k + 1) n = d * top s (k + 1) n + r) := hv
      have Hs : Hid (wr.heap.size = w.heap.size + 1) := hsz
      clear hv hsz
      go_wp2
      have hlt : (r * 4294967296 + f k) / d < 4294967296 := by
        apply Nat.div_lt_of_lt_mul
        have : (r + 1) * 4294967296 ≤ d * 4294967296 := Nat.mul_le_mul_right _ (by omega)
        omega
      have hmd : (r * 4294967296 + f k) % d < d := Nat.mod_lt _ (by omega)
      have hdm : (r * 4294967296 + f k) / d * d + (r * 4294967296 + f k) % d = r * 4294967296 + f k := by
        rw [Nat.mul_comm]; exact Nat.div_add_mod _ _
      have hst := div_step hk Hv.out hdm
      have e1 : ((r : Int) * 4294967296 + (f k : Int)) / (d : Int) = (((r * 4294967296 + f k) / d : Nat) : Int) := by rw [Int.natCast_ediv, Int.natCast_add, Int.natCast_mul]; rfl
      have e2 : ((r : Int) * 4294967296 + (f k : Int)) % (d : Int) = (((r * 4294967296 + f k) % d : Nat) : Int) := by rw [Int.natCast_emod, Int.natCast_add, Int.natCast_mul]; rfl
      have e3 : ((r : Int) * 4294967296 + (f k : Int)) / (d : Int) % 4294967296 = (((r * 4294967296 + f k) / d : Nat) : Int) := by
        rw [e1]
        clear hst hdm hmd e1 e2
        generalize (r * 4294967296 + f k) / d = Q at hlt ⊢
        omega
      go_roundg k
      case measure => omega
      case rel => exact ⟨(r * 4294967296 + f k) % d, upd s k ((r * 4294967296 + f k) / d), by omega, rfl, by rw [e2], hmd, (fun j a b' => by
        by_cases e : j = k
        · subst e; rw [upd_same]; exact hlt
        · simp only [upd, if_neg e]; exact ds j (by omega) b'), hst, hb.setCell (Nat.le_refl _) _, by simpa using Hs.out, dsdn_step hrow e3⟩

theorem divSmall_any (A : Option Addr) (n c N d : Nat) (w : World) (hA : ∃ f, Rd w A n f ∧ Dig f n ∧ val f n = N) (hn : n ≤ 10000000000) (hd0 : 1 ≤ d) (hd : d < 4294967296) :
    Calls Tryz.prog 127 #[.slice A n c, .int .u32 (d : Int)] w (DivOut w (N / d) (N % d)) :=
  (divSmall_new A n c N d w hA hn hd0 hd).mono fun _ _ ⟨m, k, h1, h2, h3⟩ => ⟨_, m, k, h1, h2, h3⟩
end Go.Proofs.YtgcogpfmhmmgdaaGreatDoor
