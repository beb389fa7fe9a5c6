/- What integer.shift returns: the number without its last bits. Condition: not more bits than the number has. -/
import Derived.Test.YtmdkkeklihfdgaaGreatDoorDivS
import Derived.Test.YtmdkkeklihfdgaaGreatDoorIbits
import Derived.Test.YtmdkkeklihfdgaaGreatDoorInt
import Derived.Deep.RegionWith
import Derived.Deep.RegionHeld3
namespace Go.Proofs.YtmdkkeklihfdgaaGreatDoor
open Go.RowKit

theorem val_drop (f : Nat → Nat) (n q : Nat) (hq : q ≤ n) (h : Dig f n) : val (fun j => f (j + q)) (n - q) = val f n / 4294967296 ^ q := by
  induction q with
  | zero => simp
  | succ q ih =>
    have h1 := ih (by omega)
    have h2 := top_step f (show q < n by omega)
    unfold top at h2
    rw [h1] at h2
    rw [Nat.pow_succ, ← Nat.div_div_eq_div_mul, h2]
    have := h q (by omega)
    omega
theorem val_shift (f : Nat → Nat) (n s : Nat) (hq : s / 32 ≤ n) (h : Dig f n) : val (fun j => f (j + s / 32)) (n - s / 32) / 2 ^ (s % 32) = val f n / 2 ^ s := by
  rw [val_drop f n _ hq h, Nat.div_div_eq_div_mul, show (4294967296 : Nat) = 2 ^ 32 by rfl, ← Nat.pow_mul, ← Nat.pow_add]
  congr 2
  omega

theorem sizeU32 (w : World) : (sizeOf (Tryz.prog.elem 45)).run Tryz.prog w = .ok 1 w := by kernel_rfl
theorem elemU32 : Tryz.prog.elem 45 = 47 := by kernel_rfl
theorem underElem : Tryz.prog.underlying 45 = some (.slice (Tryz.prog.elem 45)) := by rw [elemU32]; exact Tryz.underlying45
/-- A slice from q on. -/
theorem rd_low {A : Option Addr} {n q : Nat} {w : World} {f : Nat → Nat} (hq : q ≤ n) (h : Rd w A n f) : Rd w (A.map (·.add q)) (n - q) (fun j => f (j + q)) := by
  obtain ⟨b, off, hA, hc⟩ := h
  refine ⟨b, off + q, fun h0 => ?_, fun i hi => ?_⟩
  · rw [hA (by omega)]
    simp only [Option.map_some]
    unfold Addr.add
    split <;> simp_all
  · rw [show off + q + i = off + (i + q) by omega]
    exact hc (i + q) (by omega)

set_option maxRecDepth 100000 in
set_option maxHeartbeats 1600000 in
theorem shift_any (A : Option Addr) (n c N s : Nat) (w : World) (hA : IsNat w A n c N) (hn : n ≤ 10000000) (hs : s / 32 ≤ n) :
    Calls Tryz.prog 60 #[.slice A n c, .int .i64 (s : Int)] w (NatOut w (N / 2 ^ s)) := by
  obtain ⟨hnc, hc, f, hrd, df, tf, rfl⟩ := hA
  have hv := val_shift f n s hs df
  have Hv : Hid (val (fun j => f (j + s / 32)) (n - s / 32) / 2 ^ (s % 32) = val f n / 2 ^ s) := hv
  have hp : 2 ^ (s % 32) ≤ 2 ^ 31 := Nat.pow_le_pow_right (by omega) (by omega)
  have hp1 : 1 ≤ 2 ^ (s % 32) := Nat.two_pow_pos _
  have h2 := rd_low hs hrd
  have Hshl : Hid ((1 : Int) * 2 ^ (s % 32) % 4294967296 = ((2 ^ (s % 32) : Nat) : Int)) := by
    have : ((2 ^ (s % 32) : Nat) : Int) = 2 ^ (s % 32) := Int.natCast_pow _ _
    show (1 : Int) * 2 ^ (s % 32) % 4294967296 = ((2 ^ (s % 32) : Nat) : Int)
    omega
  have dg : Dig (fun j => f (j + s / 32)) (n - s / 32) := fun i hi => df _ (by omega)
  clear hv
  have hsI : (s : Int) / 32 ≤ (n : Int) := by omega
  have hs0 : 0 ≤ (s : Int) / 32 := by omega
  have e1 : (s : Int).tdiv 32 = (s : Int) / 32 := Int.tdiv_eq_ediv_of_nonneg (by omega)
  have e2 : (s : Int).tmod 32 = (s : Int) % 32 := Int.tmod_eq_emod_of_nonneg (by omega)
  have e3 : IntKind.i64.wrap ((s : Int) / 32) = (s : Int) / 32 := by rw [IntKind.wrap_i64]; omega
  have e4 : IntKind.i64.wrap ((s : Int) % 32) = (s : Int) % 32 := by rw [IntKind.wrap_i64]; omega
  have hr0 : 0 ≤ (s : Int) % 32 := by omega
  have hr1 : (s : Int) % 32 < 32 := by omega
  have Hq1 : Hid (((s : Int) / 32).toNat = s / 32) := by show ((s : Int) / 32).toNat = s / 32; omega
  have Hq2 : Hid (IntKind.u32.wrap (2 ^ ((s : Int) % 32).toNat) = ((2 ^ (s % 32) : Nat) : Int)) := by
    show IntKind.u32.wrap (2 ^ ((s : Int) % 32).toNat) = ((2 ^ (s % 32) : Nat) : Int)
    rw [show ((s : Int) % 32).toNat = s % 32 by omega, IntKind.wrap_u32]
    have : ((2 ^ (s % 32) : Nat) : Int) = 2 ^ (s % 32) := Int.natCast_pow _ _
    omega
  have Hb1 : Hid (n - s / 32 ≤ 10000000000) := by show n - s / 32 ≤ 10000000000; omega
  have Hb2 : Hid (2 ^ (s % 32) < 4294967296) := by show 2 ^ (s % 32) < 4294967296; omega
  by_cases hcq : c = s / 32
  · have hcq2 : c = ((s : Int) / 32).toNat := by omega
    have hnq : n - s / 32 = 0 := by omega
    have h3 : Rd w A (n - s / 32) (fun j => f (j + s / 32)) := by rw [hnq]; exact Rd.nil _ _ _
    have HX : Hid (c = s / 32) := hcq
    clear hnq hcq
    go_enter Tryz.func60, Tryz.ntmps60
    go_wp2_with fail
    go_region_held3 (fun _ => True) (trivial) (first | (go_at_call 54; rw [Hq1.out, Hq2.out]; refine (divSmall_any (A) _ _ (val (fun j => f (j + s / 32)) (n - s / 32)) (2 ^ (s % 32)) w.drew ⟨_, h3, dg, rfl⟩ Hb1.out hp1 Hb2.out).mono ?_; rintro e W1 ⟨A3, n3, c3, rfl, i3, b3⟩))
    go_wp2
    go_ret
    exact ⟨A3, n3, c3, rfl, by rw [← Hv.out]; exact i3, below_more (Below.refl _ w).drew (Nat.le_refl _) b3⟩
  · have hcq2 : ¬ c = ((s : Int) / 32).toNat := by omega
    go_enter Tryz.func60, Tryz.ntmps60
    go_wp2_with fail
    go_region_held3 (fun _ => True) (trivial) (first | (go_at_call 54; rw [Hq1.out, Hq2.out]; refine (divSmall_any (A.map (·.add (s / 32))) _ _ (val (fun j => f (j + s / 32)) (n - s / 32)) (2 ^ (s % 32)) w.drew ⟨_, h2, dg, rfl⟩ Hb1.out hp1 Hb2.out).mono ?_; rintro e W1 ⟨A3, n3, c3, rfl, i3, b3⟩))
    go_wp2
    go_ret
    exact ⟨A3, n3, c3, rfl, by rw [← Hv.out]; exact i3, below_more (Below.refl _ w).drew (Nat.le_refl _) b3⟩
end Go.Proofs.YtmdkkeklihfdgaaGreatDoor
