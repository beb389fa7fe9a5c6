/- What integer.divideSmall returns: the quotient and the rest. Condition: a number in memory; the divisor is not 0. -/
import Derived.Test.YtmdkkeklihfdgaaGreatDoorAdd
import Derived.Test.YtmdkkeklihfdgaaGreatDoorDivl
namespace Go.Proofs.YtmdkkeklihfdgaaGreatDoor
open Go.RowKit

def DivOut (w : World) (Q R : Nat) (e : Ending) (w' : World) : Prop :=
  ∃ A n c, e = .returned (.tuple #[.slice A n c, .int .u32 (R : Int)]) ∧ IsNat w' A n c Q ∧ Below w.heap.size w w'

/-- .. and where the quotient lies: in the block that was made first. -/
def DivNew (w : World) (Q R : Nat) (e : Ending) (w' : World) : Prop :=
  ∃ n c, e = .returned (.tuple #[.slice (some ⟨w.heap.size, 0, none⟩) n c, .int .u32 (R : Int)]) ∧ IsNat w' (some ⟨w.heap.size, 0, none⟩) n c Q ∧ Below w.heap.size w w'

set_option maxHeartbeats 800000 in
theorem divSmall_new (A : Option Addr) (n c N d : Nat) (w : World) (hA : ∃ f, Rd w A n f ∧ Dig f n ∧ val f n = N) (hn : n ≤ 10000000000) (hd0 : 1 ≤ d) (hd : d < 4294967296) :
    Calls Tryz.prog 54 #[.slice A n c, .int .u32 (d : Int)] w (DivNew w (N / d) (N % d)) := by
  obtain ⟨f, ⟨b, off, hAe, hcell⟩, df, rfl⟩ := hA
  have hmk := run_make_row' (P := Tryz.prog) 45 47 (.int .u32 0) 4 Tryz.underlying45 Tryz.infoU32 rfl .i64 .i64 n (by omega) (by omega)
  go_enter Tryz.func54, Tryz.ntmps54
  go_wp2
  clear hmk
  go_loopg [7, 8] n (fun k rs i wx => ∃ (r : Nat) (s : Nat → Nat), k ≤ n ∧ i = .int .i64 ((k : Int) - 1) ∧ rs = .int .u64 (r : Int) ∧ r < d ∧ (∀ j, k ≤ j → j < n → s j < 4294967296) ∧ top f k n = d * top s k n + r ∧ Below w.heap.size w wx ∧ wx.heap.size = w.heap.size + 1 ∧ wx.rowIs w.heap.size 47 n (dsdn s k))
  case atStart => exact ⟨0, fun _ => 0, Nat.le_refl _, by go_num, rfl, by omega, fun i _ _ => by omega, by rw [top_all, top_all]; simp, (Below.refl _ _).alloc (Nat.le_refl _) _, by simp, (World.rowIs_made w _ n _).congr (fun i _ => by simp [dsdn])⟩
  case round =>
    obtain ⟨r, s, hk, rfl, rfl, hr, ds, hv, hb, hsz, hrow⟩ := hrel
    rcases gk with _ | k
    · have Hv : Hid (top f 0 n = d * top s 0 n + r) := hv
      have hr2 := dsdn_rd hrow
      clear hv hsz
      go_wp2_with fail
      refine (trim_any _ n n s _ (Nat.le_refl _) (by omega) hr2).mono ?_
      rintro e w' ⟨rfl, rfl⟩
      go_wp2
      go_ret2
      have h := Hv.out
      rw [top_zero, top_zero] at h
      have hq : val f n / d = val s n := by rw [h, Nat.add_comm, Nat.add_mul_div_left _ _ (by omega), Nat.div_eq_of_lt hr, Nat.zero_add]
      have hm : val f n % d = r := by rw [h, Nat.add_comm, Nat.add_mul_mod_self_left, Nat.mod_eq_of_lt hr]
      rw [hq, hm]
      obtain ⟨A', n', c', he, hi, hbb⟩ := nat_out hr2 hb (fun i hi => ds i (Nat.zero_le _) hi) (by omega) (rfl : val s n = val s n)
      injection he with he
      injection he with h1 h2 h3
      subst h1 h2 h3
      exact ⟨_, _, rfl, hi, hbb⟩
    · obtain rfl := hAe (by omega)
      have hx : wr.cell? ⟨b, off + k, none⟩ = some (.int .u32 (f k : Int)) := by rw [hb.cell (Rd.lt hcell (by omega))]; exact hcell k (by omega)
      have hw1 := hrow.cell (i := k) (by omega)
      have hw2 := hrow.frozen k
      have dk := df k (by omega)
      have hor := u64_or_shl r (f k) (by omega) dk
      have Hv : Hid (top f (k + 1) n = d * top s (k + 1) n + r) := hv
      have Hs : Hid (wr.heap.size = w.heap.size + 1) := hsz
      clear hv hsz
      go_wp2
      have hlt : (r * 4294967296 + f k) / d < 4294967296 := by
        apply Nat.div_lt_of_lt_mul
        have : (r + 1) * 4294967296 ≤ d * 4294967296 := Nat.mul_le_mul_right _ (by omega)
        omega
      have hmd : (r * 4294967296 + f k) % d < d := Nat.mod_lt _ (by omega)
      have hdm : (r * 4294967296 + f k) / d * d + (r * 4294967296 + f k) % d = r * 4294967296 + f k := by
        rw [Nat.mul_comm]; exact Nat.div_add_mod _ _
      have hst := div_step hk Hv.out hdm
      have e1 : ((r : Int) * 4294967296 + (f k : Int)) / (d : Int) = (((r * 4294967296 + f k) / d : Nat) : Int) := by rw [Int.natCast_ediv, Int.natCast_add, Int.natCast_mul]; rfl
      have e2 : ((r : Int) * 4294967296 + (f k : Int)) % (d : Int) = (((r * 4294967296 + f k) % d : Nat) : Int) := by rw [Int.natCast_emod, Int.natCast_add, Int.natCast_mul]; rfl
      have e3 : ((r : Int) * 4294967296 + (f k : Int)) / (d : Int) % 4294967296 = (((r * 4294967296 + f k) / d : Nat) : Int) := by
        rw [e1]
        clear hst hdm hmd e1 e2
        generalize (r * 4294967296 + f k) / d = Q at hlt ⊢
        omega
      go_roundg k
      case measure => omega
      case rel => exact ⟨(r * 4294967296 + f k) % d, upd s k ((r * 4294967296 + f k) / d), by omega, rfl, by rw [e2], hmd, (fun j a b' => by
        by_cases e : j = k
        · subst e; rw [upd_same]; exact hlt
        · simp only [upd, if_neg e]; exact ds j (by omega) b'), hst, hb.setCell (Nat.le_refl _) _, by simpa using Hs.out, dsdn_step hrow e3⟩

theorem divSmall_any (A : Option Addr) (n c N d : Nat) (w : World) (hA : ∃ f, Rd w A n f ∧ Dig f n ∧ val f n = N) (hn : n ≤ 10000000000) (hd0 : 1 ≤ d) (hd : d < 4294967296) :
    Calls Tryz.prog 54 #[.slice A n c, .int .u32 (d : Int)] w (DivOut w (N / d) (N % d)) :=
  (divSmall_new A n c N d w hA hn hd0 hd).mono fun _ _ ⟨m, k, h1, h2, h3⟩ => ⟨_, m, k, h1, h2, h3⟩
end Go.Proofs.YtmdkkeklihfdgaaGreatDoor
