/- What integer.multiplyAdd returns: the product with a digit, and a digit more. Condition: a number in memory. -/
import Derived.Test.YtfcdekkoeeaolaaGreatDoorQ04

namespace Go.Proofs.YtfcdekkoeeaolaaGreatDoor
open Go.RowKit

theorem muladd_step {s f : Nat → Nat} {k x a y : Nat} (hv : val s k + y * 4294967296 ^ k = val f k * x + a) :
    val (upd s k ((y + f k * x) % 4294967296)) (k + 1) + (y + f k * x) / 4294967296 * 4294967296 ^ (k + 1) = val f (k + 1) * x + a := by
  rw [val_upd, val, Nat.pow_succ]
  have h := Nat.div_add_mod (y + f k * x) 4294967296
  generalize hq : (y + f k * x) / 4294967296 = q at *
  generalize hr : (y + f k * x) % 4294967296 = r at *
  generalize 4294967296 ^ k = P at *
  have e : (4294967296 * q + r) * P = (y + f k * x) * P := by rw [h]
  rw [Nat.add_mul, Nat.add_mul] at e
  have e2 : q * (P * 4294967296) = 4294967296 * q * P := by rw [Nat.mul_comm P, ← Nat.mul_assoc, Nat.mul_comm q]
  have e3 : f k * P * x = f k * x * P := by rw [Nat.mul_assoc, Nat.mul_comm P, Nat.mul_assoc]
  rw [e2, Nat.add_mul, e3]
  omega

set_option maxHeartbeats 800000 in
theorem mulAdd_any (A : Option Addr) (n c N x a : Nat) (w : World) (hA : IsNat w A n c N) (hn : n ≤ 10000000000) (hx : x < 4294967296) (ha : a < 4294967296) :
    Calls Tryz.prog 118 #[.slice A n c, .int .u32 (x : Int), .int .u32 (a : Int)] w (NatOut w (N * x + a)) := by
  obtain ⟨hnc, hc, f, ⟨b, off, hAe, hcell⟩, df, tf, rfl⟩ := hA
  have hmk := run_make_row' (P := Tryz.prog) 60 70 (.int .u32 0) 4 Tryz.underlying60 Tryz.infoU32 rfl .i64 .i64 (n + 1) (by omega) (by omega)
  rw [show ((n + 1 : Nat) : Int) = (n : Int) + 1 by omega] at hmk
  go_enter Tryz.func118, Tryz.ntmps118
  go_wp2
  clear hmk
  go_loopg [8, 19] n (fun q cy i wx => ∃ (k y : Nat) (s : Nat → Nat), k + q = n ∧ i = .int .i64 k ∧ cy = .int .u64 (y : Int) ∧ y < 4294967296 ∧ Dig s k ∧ val s k + y * 4294967296 ^ k = val f k * x + a ∧ Below w.heap.size w wx ∧ wx.heap.size = w.heap.size + 1 ∧ wx.rowIs w.heap.size 70 (n + 1) (dsts s k))
  case atStart => exact ⟨0, a, fun _ => 0, by omega, rfl, rfl, by omega, fun i h => absurd h (by omega), by simp [val], (Below.refl _ _).alloc (Nat.le_refl _) _, by simp, (World.rowIs_made w _ (n + 1) _).congr (fun i _ => by simp [dsts])⟩
  case round =>
    obtain ⟨k, y, s, hk, rfl, rfl, hy, ds, hv, hb, hsz, hrow⟩ := hrel
    rcases gk with _ | q
    · obtain rfl : k = n := by omega
      clear hk
      have hw1 := hrow.cell (i := k) (by omega)
      have hw2 := hrow.frozen k
      have Hv : Hid (val s k + y * 4294967296 ^ k = val f k * x + a) := hv
      have Hs : Hid (wr.heap.size = w.heap.size + 1) := hsz
      clear hv hsz
      have hrow2 := dsts_step hrow (x := (y : Int)) rfl
      have hb2 := hb.setCell (p := ⟨w.heap.size, k, none⟩) (Nat.le_refl _) (.int .u32 (y : Int))
      have ds2 := dig_upd ds (show y < 4294967296 by omega)
      have hr2 := dsts_rd hrow2
      clear hrow2
      go_wp2_with fail
      refine (trim_any _ (k + 1) (k + 1) (upd s k y) _ (Nat.le_refl _) (by omega) hr2).mono ?_
      rintro e w' ⟨rfl, rfl⟩
      go_wp2
      go_ret
      exact nat_out hr2 hb2 ds2 (by omega) (by rw [val_upd, Hv.out])
    · obtain rfl := hAe (by omega)
      have hx : wr.cell? ⟨b, off + k, none⟩ = some (.int .u32 (f k : Int)) := by rw [hb.cell (Rd.lt hcell (by omega))]; exact hcell k (by omega)
      have hw1 := hrow.cell (i := k) (by omega)
      have hw2 := hrow.frozen k
      have dk := df k (by omega)
      have hkn : k < n := by omega
      have Hv : Hid (val s k + y * 4294967296 ^ k = val f k * x + a) := hv
      have Hs : Hid (wr.heap.size = w.heap.size + 1) := hsz
      have Hk : Hid (k + (q + 1) = n) := hk
      clear hv hsz hk
      have hp : f k * x ≤ 4294967295 * 4294967295 := Nat.mul_le_mul (by omega) (by omega)
      have hp1 : (f k : Int) * (x : Int) ≤ 18446744065119617025 := by
        rw [← Int.natCast_mul]; omega
      have hp0 : 0 ≤ (f k : Int) * (x : Int) := by rw [← Int.natCast_mul]; omega
      go_wp2
      have hst := muladd_step Hv.out
      go_roundg q
      case measure => omega
      case rel => exact ⟨k + 1, (y + f k * x) / 4294967296, _, by have := Hk.out; omega, by go_num, by rw [Int.natCast_ediv, Int.natCast_add, Int.natCast_mul]; rfl, by omega, dig_upd ds (Nat.mod_lt _ (by omega)), hst, hb.setCell (Nat.le_refl _) _, by simpa using Hs.out, dsts_step hrow (by rw [Int.natCast_emod, Int.natCast_add, Int.natCast_mul]; rfl)⟩
end Go.Proofs.YtfcdekkoeeaolaaGreatDoor
