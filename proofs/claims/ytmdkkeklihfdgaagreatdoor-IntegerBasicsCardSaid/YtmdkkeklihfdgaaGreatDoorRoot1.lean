/- What the closure of integer.root returns: whether the next bit belongs to the root. -/
import Derived.Test.YtmdkkeklihfdgaaGreatDoorPow
import Derived.Test.YtmdkkeklihfdgaaGreatDoorShift
import Derived.Test.YtmdkkeklihfdgaaGreatDoorMulAdd
namespace Go.Proofs.YtmdkkeklihfdgaaGreatDoor
open Go.RowKit

theorem cmpN_le (a b : Nat) : decide (cmpN a b ≤ 0) = decide (a ≤ b) := by
  rw [decide_eq_decide]
  unfold cmpN
  split
  · constructor <;> omega
  · split <;> constructor <;> omega
theorem keep5 {Wp W1 : World} {p1 p2 p3 : Addr} {v1 v2 v3 : Value} (hb : Below Wp.heap.size Wp W1)
    (h : Wp.cell? p1 = some v1 ∧ Wp.cell? p2 = some v2 ∧ Wp.cell? p3 = some v3) :
    W1.cell? p1 = some v1 ∧ W1.cell? p2 = some v2 ∧ W1.cell? p3 = some v3 :=
  ⟨cell_keep h.1 hb, cell_keep h.2.1 hb, cell_keep h.2.2 hb⟩

set_option maxRecDepth 100000 in
set_option maxHeartbeats 3200000 in
theorem belongs_any (pl : Nat) (g1 g2 g3 : Nat) (A1 A2 : Option Addr) (n1 c1 n2 c2 R X m : Nat) (w : World) (q1 : w.cell? ⟨g1, 0, none⟩ = some (.slice A1 n1 c1)) (q2 : w.cell? ⟨g2, 0, none⟩ = some (.int .i64 (m : Int))) (q3 : w.cell? ⟨g3, 0, none⟩ = some (.slice A2 n2 c2))
    (i1 : IsNat w A1 n1 c1 R) (i2 : IsNat w A2 n2 c2 X) (hm : m ≤ 1000000) (k : Nat) (hR : R * 2 + 1 < 4294967296 ^ k) (hk : k * m + 1 ≤ 10000000) (hk2 : k ≤ 1000000) (hX : n2 ≤ 1000000) (hpl : m * pl ≤ 32 * n2) :
    Calls Tryz.prog 59 #[.int .i64 (pl : Int), .pointer (some ⟨g1, 0, none⟩), .pointer (some ⟨g2, 0, none⟩), .pointer (some ⟨g3, 0, none⟩)] w fun e w' => e = .returned (.bool (decide ((R * 2 + 1) ^ m ≤ X / 2 ^ (m * pl)))) ∧ Below w.heap.size w w' := by
  have hn1 : n1 ≤ k := i1.len (Nat.lt_of_le_of_lt (by omega) hR)
  have HR : Hid (R * 2 + 1 < 4294967296 ^ k) := hR
  have S0 : w.drew.cell? ⟨g1, 0, none⟩ = some (.slice A1 n1 c1) ∧ w.drew.cell? ⟨g2, 0, none⟩ = some (.int .i64 (m : Int)) ∧ w.drew.cell? ⟨g3, 0, none⟩ = some (.slice A2 n2 c2) := ⟨q1, q2, q3⟩
  have i2d : IsNat w.drew A2 n2 c2 X := i2
  obtain ⟨t, ht⟩ : ∃ t : Nat, t = m * pl := ⟨_, rfl⟩
  rw [← ht]
  rw [← ht] at hpl
  have e2 : IntKind.i64.wrap ((m : Int) * (pl : Int)) = (t : Int) := by rw [← Int.natCast_mul, ← ht, IntKind.wrap_i64]; omega
  have HP : Hid ((R * 2 + 1) ^ m < 4294967296 ^ (k * m + 1)) := pow_bound hR (Nat.le_refl m)
  have HK : Hid (k * m + 1 ≤ 10000000) := hk
  clear ht hR
  go_enter Tryz.func59, Tryz.ntmps59
  go_wp2_with fail
  go_region_held3 (fun W => W.cell? ⟨g1, 0, none⟩ = some (.slice A1 n1 c1) ∧ W.cell? ⟨g2, 0, none⟩ = some (.int .i64 (m : Int)) ∧ W.cell? ⟨g3, 0, none⟩ = some (.slice A2 n2 c2)) (first | exact keep5 (by assumption) (by assumption) | exact S0)
    (first
      | (go_at_call 57; refine (mulAdd_any A1 n1 c1 R 2 1 w.drew (by exact i1) (by omega) (by omega) (by omega)).mono ?_; rintro e W1 ⟨A3, n3, c3, rfl, i3, b3⟩; have l3 := i3.len HR.out)
      | (go_at_call 42; refine (power_any A3 n3 c3 (R * 2 + 1) m k _ i3 hm HR.out HK.out (by omega)).mono ?_; rintro e W2 ⟨A4, n4, c4, rfl, i4, b4⟩)
      | (go_at_call 60; refine (shift_any A2 n2 c2 X t _ ((i2d.below (Nat.le_refl _) b3).below (Nat.le_refl _) b4) (by omega) (by omega)).mono ?_; rintro e W3 ⟨A5, n5, c5, rfl, i5, b5⟩)
      | (go_at_call 53; refine (compare_any A4 A5 n4 n5 c4 c5 _ _ _ (i4.below (Nat.le_refl _) b5) i5).mono ?_; rintro e W4 ⟨rfl, qq, rfl⟩; have b6 : Below W3.heap.size W3 (W3.drewN qq) := ⟨rfl, rfl, rfl, Nat.le_refl _, fun _ _ => rfl⟩))
  have Hd : Hid (decide (cmpN ((R * 2 + 1) ^ m) (X / 2 ^ t) ≤ 0) = decide ((R * 2 + 1) ^ m ≤ X / 2 ^ t)) := cmpN_le _ _
  go_wp2
  go_ret
  exact ⟨by rw [← Hd.out]; rfl, below_more (below_more (below_more (below_more (Below.refl _ w).drew (Nat.le_refl _) b3) (Nat.le_refl _) b4) (Nat.le_refl _) b5) (Nat.le_refl _) b6⟩
end Go.Proofs.YtmdkkeklihfdgaaGreatDoor
