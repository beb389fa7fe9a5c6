/- What integer.divide returns where the divisor has one digit, or is greater: the quotient and the rest. -/
import Derived.Test.YtmdkkeklihfdgaaGreatDoorDivS
import Derived.Test.YtmdkkeklihfdgaaGreatDoorInt
import Derived.Lib.Hide
namespace Go.Proofs.YtmdkkeklihfdgaaGreatDoor
open Go.RowKit

def DivdOut (w : World) (Q R : Nat) (e : Ending) (w' : World) : Prop :=
  ∃ A1 n1 c1 A2 n2 c2, e = .returned (.tuple #[.slice A1 n1 c1, .slice A2 n2 c2]) ∧ IsNat w' A1 n1 c1 Q ∧ IsNat w' A2 n2 c2 R ∧ Below w.heap.size w w'

theorem zero_nat (w : World) : IsNat w none 0 0 0 := ⟨Nat.le_refl _, by omega, fun _ => 0, Rd.nil _ _ _, fun i h => absurd h (by omega), fun h => absurd h (by omega), rfl⟩
theorem oneRow (w : World) (t : TypeId) (d : Nat) : Rd (w.alloc (.cells #[.int .u32 (d : Int)] t)) (some ⟨w.heap.size, 0, none⟩) 1 (fun _ => d) := by
  refine ⟨w.heap.size, 0, fun _ => rfl, fun i hi => ?_⟩
  obtain rfl : i = 0 := by omega
  simp [go_sem]

set_option maxRecDepth 100000 in
set_option maxHeartbeats 1600000 in
theorem divide_lt (A B : Option Addr) (n m c d N M : Nat) (w : World) (hA : IsNat w A n c N) (hB : IsNat w B m d M) (hlt : N < M) :
    Calls Tryz.prog 38 #[.slice A n c, .slice B m d] w (DivdOut w (N / M) (N % M)) := by
  have hc : cmpN N M < 0 := by unfold cmpN; rw [if_pos hlt]; omega
  have Hq : Hid (N / M = 0 ∧ N % M = N) := ⟨Nat.div_eq_of_lt hlt, Nat.mod_eq_of_lt hlt⟩
  clear hlt
  go_enter Tryz.func38, Tryz.ntmps38
  go_wp2_with fail
  refine (compare_any A B n m c d N M _ hA hB).mono ?_
  rintro e w' ⟨rfl, q, rfl⟩
  go_wp2
  go_ret2
  exact ⟨none, 0, 0, A, n, c, rfl, by rw [Hq.out.1]; exact zero_nat _, by rw [Hq.out.2]; exact hA, ⟨rfl, rfl, rfl, Nat.le_refl _, fun _ _ => rfl⟩⟩

set_option maxRecDepth 100000 in
set_option maxHeartbeats 1600000 in
theorem divide_one (A B : Option Addr) (n m c d N M : Nat) (w : World) (hA : IsNat w A n c N) (hB : IsNat w B m d M) (hn : n ≤ 10000000) (hge : ¬ N < M) (h0 : M ≠ 0) (h1 : M < 4294967296) :
    Calls Tryz.prog 38 #[.slice A n c, .slice B m d] w (DivdOut w (N / M) (N % M)) := by
  have hc : ¬ cmpN N M < 0 := by unfold cmpN; rw [if_neg hge]; split <;> omega
  have hm1 : m = 1 := by
    have h2 := hB.len (k := 1) (by simpa using h1)
    obtain ⟨_, _, g, _, _, _, hv⟩ := hB
    rcases m with _ | m
    · simp [val] at hv; omega
    · omega
  subst hm1
  have hB2 := hB
  obtain ⟨hmd, hd, g, ⟨b', off', hBe, hcell'⟩, dg, tg, hv⟩ := hB
  obtain rfl := hBe (by omega)
  have hg : g 0 = M := by simpa [val] using hv
  have hx : w.cell? ⟨b', off', none⟩ = some (.int .u32 (M : Int)) := by have := hcell' 0 (by omega); rw [hg] at this; simpa using this
  have hone : (((1 : Nat) : Int) == 1) = true := rfl
  clear hcell' hv hg hge
  go_enter Tryz.func38, Tryz.ntmps38
  go_wp2_with fail
  refine (compare_any A _ n 1 c d N M _ hA hB2).mono ?_
  rintro e w' ⟨rfl, q, rfl⟩
  have hA' : IsNat (w.drewN q) A n c N := hA
  have hb0 : Below w.heap.size w (w.drewN q) := ⟨rfl, rfl, rfl, Nat.le_refl _, fun _ _ => rfl⟩
  go_wp2_with fail
  refine (divSmall_any A n c N M _ (by obtain ⟨_, _, f, a1, a2, _, a3⟩ := hA'; exact ⟨f, a1, a2, a3⟩) (by omega) (by omega) h1).mono ?_
  rintro e W1 ⟨A1, n1, c1, rfl, i1, b1⟩
  have hmod := Nat.mod_lt N (show 0 < M by omega)
  have hr := oneRow W1 47 (N % M)
  have hbb := below1 W1 (.cells #[.int .u32 ((N % M : Nat) : Int)] 47)
  have i1' := i1.below (Nat.le_refl _) hbb
  have hrd := nat_out hr (Below.refl _ _) (s := fun _ => N % M) (fun i _ => (by omega : N % M < 4294967296)) (by omega) (by simp [val] : val (fun _ => N % M) 1 = N % M)
  have Hrd := Lib.hid hrd
  clear hrd hmod
  generalize N % M = r at *
  go_wp2_with fail
  refine (trim_any _ 1 1 (fun _ => r) _ (Nat.le_refl _) (by omega) hr).mono ?_
  rintro e W2 ⟨rfl, rfl⟩
  go_wp2
  go_ret2
  obtain ⟨A2, n2, c2, he, hi, _⟩ := Hrd.out
  injection he with he
  injection he with x1 x2 x3
  subst x1 x2 x3
  exact ⟨_, _, _, _, _, _, rfl, i1', hi, (below_more hb0 (Nat.le_refl _) b1).trans (hbb.mono (by have := b1.size; have := hb0.size; omega))⟩
end Go.Proofs.YtmdkkeklihfdgaaGreatDoor
