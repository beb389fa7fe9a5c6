/- What integer.divide returns where the divisor has one digit, or is greater: the quotient and the rest. What integer.multiplyAdd returns: the product with a digit, and a digit more. Condition: a number in memory. -/
import Derived.Test.YtgcogpfmhmmgdaaGreatDoorQ10
import Derived.Test.YtgcogpfmhmmgdaaGreatDoorQ08
import Derived.Lib.Hide
import Derived.Test.YtgcogpfmhmmgdaaGreatDoorQ05

namespace Go.Proofs.YtgcogpfmhmmgdaaGreatDoor
open Go.RowKit

def DivdOut (w : World) (Q R : Nat) (e : Ending) (w' : World) : Prop :=
  ∃ A1 n1 c1 A2 n2 c2, e = .returned (.tuple #[.slice A1 n1 c1, .slice A2 n2 c2]) ∧ IsNat w' A1 n1 c1 Q ∧ IsNat w' A2 n2 c2 R ∧ Below w.heap.size w w'

theorem zero_nat (w : World) : IsNat w none 0 0 0 := ⟨Nat.le_refl _, by omega, fun _ => 0, Rd.nil _ _ _, fun i h => absurd h (by omega), fun h => absurd h (by omega), rfl⟩
theorem oneRow (w : World) (t : TypeId) (d : Nat) : Rd (w.alloc (.cells #[.int .u32 (d : Int)] t)) (some ⟨w.heap.size, 0, none⟩) 1 (fun _ => d) := by
  refine ⟨w.heap.size, 0, fun _ => rfl, fun i hi => ?_⟩
  obtain rfl : i = 0 := by omega
  simp [go_sem]

set_option maxRecDepth 100000 in
set_option maxHeartbeats 1600000 in
theorem divide_lt (A B : Option Addr) (n m c d N M : Nat) (w : World) (hA : IsNat w A n c N) (hB : IsNat w B m d M) (hlt : N < M) :
    Calls Tryz.prog 112 #[.slice A n c, .slice B m d] w (DivdOut w (N / M) (N % M)) := by
  have hc : cmpN N M < 0 := by unfold cmpN; rw [if_pos hlt]; omega
  have Hq : Hid (N / M = 0 ∧ N % M = N) := ⟨Nat.div_eq_of_lt hlt, Nat.mod_eq_of_lt hlt⟩
  clear hlt
  go_enter Tryz.func112, Tryz.ntmps112
  go_wp2_with fail
  refine (compare_any A B n m c d N M _ hA hB).mono ?_
  rintro e w' ⟨rfl, q, rfl⟩
  go_wp2
  go_ret2
  exact ⟨none, 0, 0, A, n, c, rfl, by rw [Hq.out.1]; exact zero_nat _, by rw [Hq.out.2]; exact hA, ⟨rfl, rfl, rfl, Nat.le_refl _, fun _ _ => rfl⟩⟩

set_option maxRecDepth 100000 in
set_option maxHeartbeats 1600000 in
theorem divide_one (A B : Option Addr) (n m c d N M : Nat) (w : World) (hA : IsNat w A n c N) (hB : IsNat w B m d M) (hn : n ≤ 10000000) (hge : ¬ N < M) (h0 : M ≠ 0) (h1 : M < 4294967296) :
    Calls Tryz.prog 112 #[.slice A n c, .slice B m d] w (DivdOut w (N / M) (N % M)) := by
  have hc : ¬ cmpN N M < 0 := by unfold cmpN; rw [if_neg hge]; split <;> omega
  have hm1 : m = 1 := by
    have h2 := hB.len (k := 1) (by simpa using h1)
    obtain ⟨_, _, g, _, _, _, hv⟩ := hB
    rcases m with _ | m
    · simp [val] at hv; omega
    · omega
  subst hm1
  have hB2 := hB
  obtain ⟨hmd, hd, g, ⟨b', off', hBe, hcell'⟩, dg, tg, hv⟩ := hB
  obtain rfl := hBe (by omega)
  have hg : g 0 = M := by simpa [val] using hv
  have hx : w.cell? ⟨b', off', none⟩ = some (.int .u32 (M : Int)) := by have := hcell' 0 (by omega); rw [hg] at this; simpa using this
  have hone : (((1 : Nat) : Int) == 1) = true := rfl
  clear hcell' hv hg hge
  go_enter Tryz.func112, Tryz.ntmps112
  go_wp2_with fail
  refine (compare_any A _ n 1 c d N M _ hA hB2).mono ?_
  rintro e w' ⟨rfl, q, rfl⟩
  have hA' : IsNat (w.drewN q) A n c N := hA
  have hb0 : Below w.heap.size w (w.drewN q) := ⟨rfl, rfl, rfl, Nat.le_refl _, fun _ _ => rfl⟩
  go_wp2_with fail
  refine (divSmall_any A n c N M _ (by obtain ⟨_, _, f, a1, a2, _, a3⟩ := hA'; exact ⟨f, a1, a2, a3⟩) (by omega) (by omega) h1).mono ?_
  rintro e W1 ⟨A1, n1, c1, rfl, i1, b1⟩
  have hmod := Nat.mod_lt N (show 0 < M by omega)
  have hr := oneRow W1 93 (N % M)
  have hbb := below1 W1 (.cells #[.int .u32 ((N % M : Nat) : Int)] 93)
  have i1' := i1.below (Nat.le_refl _) hbb
  have hrd := nat_out hr (Below.refl _ _) (s := fun _ => N % M) (fun i _ => (by omega : N % M < 4294967296)) (by omega) (by simp [val] : val (fun _ => N % M) 1 = N % M)
  have Hrd := Lib.hid hrd
  clear hrd hmod
  generalize N % M = r at *
  go_wp2_with fail
  refine (trim_any _ 1 1 (fun _ => r) _ (Nat.le_refl _) (by omega) hr).mono ?_
  rintro e W2 ⟨rfl, rfl⟩
  go_wp2
  go_ret2
  obtain ⟨A2, n2, c2, he, hi, _⟩ := Hrd.out
  injection he with he
  injection he with x1 x2 x3
  subst x1 x2 x3
  exact ⟨_, _, _, _, _, _, rfl, i1', hi, (below_more hb0 (Nat.le_refl _) b1).trans (hbb.mono (by have := b1.size; have := hb0.size; omega))⟩
end Go.Proofs.YtgcogpfmhmmgdaaGreatDoor

namespace Go.Proofs.YtgcogpfmhmmgdaaGreatDoor
open Go.RowKit

theorem muladd_step {s f : Nat → Nat} {k x a y : Nat} (hv : val s k + y * 4294967296 ^ k = val f k * x + a) :
    val (upd s k ((y + f k * x) % 4294967296)) (k + 1) + (y + f k * x) / 4294967296 * 4294967296 ^ (k + 1) = val f (k + 1) * x + a := by
  rw [val_upd, val, Nat.pow_succ]
  have h := Nat.div_add_mod (y + f k * x) 4294967296
  generalize hq : (y + f k * x) / 4294967296 = q at *
  generalize hr : (y + f k * x) % 4294967296 = r at *
  generalize 4294967296 ^ k = P at *
  have e : (4294967296 * q + r) * P = (y + f k * x) * P := by rw [h]
  rw [Nat.add_mul, Nat.add_mul] at e
  have e2 : q * (P * 4294967296) = 4294967296 * q * P := by rw [Nat.mul_comm P, ← Nat.mul_assoc, Nat.mul_comm q]
  have e3 : f k * P * x = f k * x * P := by rw [Nat.mul_assoc, Nat.mul_comm P, Nat.mul_assoc]
  rw [e2, Nat.add_mul, e3]
  omega

set_option maxHeartbeats 800000 in
theorem mulAdd_any (A : Option Addr) (n c N x a : Nat) (w : World) (hA : IsNat w A n c N) (hn : n ≤ 10000000000) (hx : x < 4294967296) (ha : a < 4294967296) :
    Calls Tryz.prog 135 #[.slice A n c, .int .u32 (x : Int), .int .u32 (a : Int)] w (NatOut w (N * x + a)) := by
  obtain ⟨hnc, hc, f, ⟨b, off, hAe, hcell⟩, df, tf, rfl⟩ := hA
  have hmk := run_make_row' (P := Tryz.prog) 86 93 (.int .u32 0) 4 Tryz.underlying86 Tryz.infoU32 rfl .i64 .i64 (n + 1) (by omega) (by omega)
  rw [show ((n + 1 : Nat) : Int) = (n : Int) + 1 by omega] at hmk
  go_enter Tryz.func135, Tryz.ntmps135
  go_wp2
  clear hmk
  go_loopg [8, 19] n (fun q cy i wx => ∃ (k y : Nat) (s : Nat → Nat), k + q = n ∧ i = .int .i64 k ∧ cy = .int .u64 (y : Int) ∧ y < 4294967296 ∧ Dig s k ∧ val s k + y * 4294967296 ^ k = val f k * x + a ∧ Below w.heap.size w wx ∧ wx.heap.size = w.heap.size + 1 ∧ wx.rowIs w.heap.size 93 (n + 1) (dsts s k))
  case atStart => exact ⟨0, a, fun _ => 0, by omega, rfl, rfl, by omega, fun i h => absurd h (by omega), by simp [val], (Below.refl _ _).alloc (Nat.le_refl _) _, by simp, (World.rowIs_made w _ (n + 1) _).congr (fun i _ => by simp [dsts])⟩
  case round =>
    obtain ⟨k, y, s, hk, rfl, rfl, hy, ds, hv, hb, hsz, hrow⟩ := hrel
    rcases gk with _ | q
    · obtain rfl : k = n := by omega
      clear hk
      have hw1 := hrow.cell (i := k) (by omega)
      have hw2 := hrow.frozen k
      have Hv : Hid (val s k + y * 4294967296 ^ k = val f k * x + a) := hv
      have Hs : Hid (wr.heap.size = w.heap.size + 1) := hsz
      clear hv hsz
      have hrow2 := dsts_step hrow (x := (y : Int)) rfl
      have hb2 := hb.setCell (p := ⟨w.heap.size, k, none⟩) (Nat.le_refl _) (.int .u32 (y : Int))
      have ds2 := dig_upd ds (show y < 4294967296 by omega)
      have hr2 := dsts_rd hrow2
      clear hrow2
      go_wp2_with fail
      refine (trim_any _ (k + 1) (k + 1) (upd s k y) _ (Nat.le_refl _) (by omega) hr2).mono ?_
      rintro e w' ⟨rfl, rfl⟩
      go_wp2
      go_ret
      exact nat_out hr2 hb2 ds2 (by omega) (by rw [val_upd, Hv.out])
    · obtain rfl := hAe (by omega)
      have hx : wr.cell? ⟨b, off + k, none⟩ = some (.int .u32 (f k : Int)) := by rw [hb.cell (Rd.lt hcell (by omega))]; exact hcell k (by omega)
      have hw1 := hrow.cell (i := k) (by omega)
      have hw2 := hrow.frozen k
      have dk := df k (by omega)
      have hkn : k < n := by omega
      have Hv : Hid (val s k + y * 4294967296 ^ k = val f k * x + a) := hv
      have Hs : Hid (wr.heap.size = w.heap.size + 1) := hsz
      have Hk : Hid (k + (q + 1) = n) := hk
      clear hv hsz hk
      have hp : f k * x ≤ 4294967295 * 4294967295 := Nat.mul_le_mul (by omega) (by omega)
      have hp1 : (f k : Int) * (x : Int) ≤ 18446744065119617025 := by
        rw [← Int.natCast_mul]; omega
      have hp0 : 0 ≤ (f k : Int) * (x : Int) := by rw [← Int.natCast_mul]; omega
      go_wp2
      have hst := muladd_step Hv.out
      go_roundg q
      case measure => omega
      case rel => exact ⟨k + 1, (y + f k * x) / 4294967296, _, by have := Hk.out; omega, by go_num, by rw [Int.natCast_ediv, Int.natCast_add, Int.natCast_mul]; rfl, by omega, dig_upd ds (Nat.mod_lt _ (by omega)), hst, hb.setCell (Nat.le_refl _) _, by simpa using Hs.out, dsts_step hrow (by rw [Int.natCast_emod, Int.natCast_add, Int.natCast_mul]; rfl)⟩
end Go.Proofs.YtgcogpfmhmmgdaaGreatDoor
