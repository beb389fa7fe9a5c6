/- What integer.shift returns: the number without its last bits. Condition: not more bits than the number has. What the closure of integer.root returns: whether the next bit belongs to the root. What integer.root returns: the greatest number whose power is at most x. Condition: the exponent is from 1 to 4096, x has at most 1000 digits. -/
import Derived.Test.YtfcdekkoeeaolaaGreatDoorQ16
import Derived.Test.YtfcdekkoeeaolaaGreatDoorQ09
import Derived.Test.YtfcdekkoeeaolaaGreatDoorQ07
import Derived.Deep.RegionWith
import Derived.Deep.RegionHeld3
import Derived.Test.YtfcdekkoeeaolaaGreatDoorQ19
import Derived.Test.YtfcdekkoeeaolaaGreatDoorQ17
import Derived.Lib.Hide

namespace Go.Proofs.YtfcdekkoeeaolaaGreatDoor
open Go.RowKit

theorem val_drop (f : Nat → Nat) (n q : Nat) (hq : q ≤ n) (h : Dig f n) : val (fun j => f (j + q)) (n - q) = val f n / 4294967296 ^ q := by
  induction q with
  | zero => simp
  | succ q ih =>
    have h1 := ih (by omega)
    have h2 := top_step f (show q < n by omega)
    unfold top at h2
    rw [h1] at h2
    rw [Nat.pow_succ, ← Nat.div_div_eq_div_mul, h2]
    have := h q (by omega)
    omega
theorem val_shift (f : Nat → Nat) (n s : Nat) (hq : s / 32 ≤ n) (h : Dig f n) : val (fun j => f (j + s / 32)) (n - s / 32) / 2 ^ (s % 32) = val f n / 2 ^ s := by
  rw [val_drop f n _ hq h, Nat.div_div_eq_div_mul, show (4294967296 : Nat) = 2 ^ 32 by rfl, ← Nat.pow_mul, ← Nat.pow_add]
  congr 2
  omega

theorem sizeU32 (w : World) : (sizeOf (Tryz.prog.elem 60)).run Tryz.prog w = .ok 1 w := by kernel_rfl
theorem elemU32 : Tryz.prog.elem 60 = 70 := by kernel_rfl
theorem underElem : Tryz.prog.underlying 60 = some (.slice (Tryz.prog.elem 60)) := by rw [elemU32]; exact Tryz.underlying60
/-- A slice from q on. -/
theorem rd_low {A : Option Addr} {n q : Nat} {w : World} {f : Nat → Nat} (hq : q ≤ n) (h : Rd w A n f) : Rd w (A.map (·.add q)) (n - q) (fun j => f (j + q)) := by
  obtain ⟨b, off, hA, hc⟩ := h
  refine ⟨b, off + q, fun h0 => ?_, fun i hi => ?_⟩
  · rw [hA (by omega)]
    simp only [Option.map_some]
    unfold Addr.add
    split <;> simp_all
  · rw [show off + q + i = off + (i + q) by omega]
    exact hc (i + q) (by omega)

set_option maxRecDepth 100000 in
set_option maxHeartbeats 1600000 in
theorem shift_any (A : Option Addr) (n c N s : Nat) (w : World) (hA : IsNat w A n c N) (hn : n ≤ 10000000) (hs : s / 32 ≤ n) :
    Calls Tryz.prog 121 #[.slice A n c, .int .i64 (s : Int)] w (NatOut w (N / 2 ^ s)) := by
  obtain ⟨hnc, hc, f, hrd, df, tf, rfl⟩ := hA
  have hv := val_shift f n s hs df
  have Hv : Hid (val (fun j => f (j + s / 32)) (n - s / 32) / 2 ^ (s % 32) = val f n / 2 ^ s) := hv
  have hp : 2 ^ (s % 32) ≤ 2 ^ 31 := Nat.pow_le_pow_right (by omega) (by omega)
  have hp1 : 1 ≤ 2 ^ (s % 32) := Nat.two_pow_pos _
  have h2 := rd_low hs hrd
  have Hshl : Hid ((1 : Int) * 2 ^ (s % 32) % 4294967296 = ((2 ^ (s % 32) : Nat) : Int)) := by
    have : ((2 ^ (s % 32) : Nat) : Int) = 2 ^ (s % 32) := Int.natCast_pow _ _
    show (1 : Int) * 2 ^ (s % 32) % 4294967296 = ((2 ^ (s % 32) : Nat) : Int)
    omega
  have dg : Dig (fun j => f (j + s / 32)) (n - s / 32) := fun i hi => df _ (by omega)
  clear hv
  have hsI : (s : Int) / 32 ≤ (n : Int) := by omega
  have hs0 : 0 ≤ (s : Int) / 32 := by omega
  have e1 : (s : Int).tdiv 32 = (s : Int) / 32 := Int.tdiv_eq_ediv_of_nonneg (by omega)
  have e2 : (s : Int).tmod 32 = (s : Int) % 32 := Int.tmod_eq_emod_of_nonneg (by omega)
  have e3 : IntKind.i64.wrap ((s : Int) / 32) = (s : Int) / 32 := by rw [IntKind.wrap_i64]; omega
  have e4 : IntKind.i64.wrap ((s : Int) % 32) = (s : Int) % 32 := by rw [IntKind.wrap_i64]; omega
  have hr0 : 0 ≤ (s : Int) % 32 := by omega
  have hr1 : (s : Int) % 32 < 32 := by omega
  have Hq1 : Hid (((s : Int) / 32).toNat = s / 32) := by show ((s : Int) / 32).toNat = s / 32; omega
  have Hq2 : Hid (IntKind.u32.wrap (2 ^ ((s : Int) % 32).toNat) = ((2 ^ (s % 32) : Nat) : Int)) := by
    show IntKind.u32.wrap (2 ^ ((s : Int) % 32).toNat) = ((2 ^ (s % 32) : Nat) : Int)
    rw [show ((s : Int) % 32).toNat = s % 32 by omega, IntKind.wrap_u32]
    have : ((2 ^ (s % 32) : Nat) : Int) = 2 ^ (s % 32) := Int.natCast_pow _ _
    omega
  have Hb1 : Hid (n - s / 32 ≤ 10000000000) := by show n - s / 32 ≤ 10000000000; omega
  have Hb2 : Hid (2 ^ (s % 32) < 4294967296) := by show 2 ^ (s % 32) < 4294967296; omega
  by_cases hcq : c = s / 32
  · have hcq2 : c = ((s : Int) / 32).toNat := by omega
    have hnq : n - s / 32 = 0 := by omega
    have h3 : Rd w A (n - s / 32) (fun j => f (j + s / 32)) := by rw [hnq]; exact Rd.nil _ _ _
    have HX : Hid (c = s / 32) := hcq
    clear hnq hcq
    go_enter Tryz.func121, Tryz.ntmps121
    go_wp2_with fail
    go_region_held3 (fun _ => True) (trivial) (first | (go_at_call 115; rw [Hq1.out, Hq2.out]; refine (divSmall_any (A) _ _ (val (fun j => f (j + s / 32)) (n - s / 32)) (2 ^ (s % 32)) w.drew ⟨_, h3, dg, rfl⟩ Hb1.out hp1 Hb2.out).mono ?_; rintro e W1 ⟨A3, n3, c3, rfl, i3, b3⟩))
    go_wp2
    go_ret
    exact ⟨A3, n3, c3, rfl, by rw [← Hv.out]; exact i3, below_more (Below.refl _ w).drew (Nat.le_refl _) b3⟩
  · have hcq2 : ¬ c = ((s : Int) / 32).toNat := by omega
    go_enter Tryz.func121, Tryz.ntmps121
    go_wp2_with fail
    go_region_held3 (fun _ => True) (trivial) (first | (go_at_call 115; rw [Hq1.out, Hq2.out]; refine (divSmall_any (A.map (·.add (s / 32))) _ _ (val (fun j => f (j + s / 32)) (n - s / 32)) (2 ^ (s % 32)) w.drew ⟨_, h2, dg, rfl⟩ Hb1.out hp1 Hb2.out).mono ?_; rintro e W1 ⟨A3, n3, c3, rfl, i3, b3⟩))
    go_wp2
    go_ret
    exact ⟨A3, n3, c3, rfl, by rw [← Hv.out]; exact i3, below_more (Below.refl _ w).drew (Nat.le_refl _) b3⟩
end Go.Proofs.YtfcdekkoeeaolaaGreatDoor

namespace Go.Proofs.YtfcdekkoeeaolaaGreatDoor
open Go.RowKit

theorem cmpN_le (a b : Nat) : decide (cmpN a b ≤ 0) = decide (a ≤ b) := by
  rw [decide_eq_decide]
  unfold cmpN
  split
  · constructor <;> omega
  · split <;> constructor <;> omega
theorem keep5 {Wp W1 : World} {p1 p2 p3 : Addr} {v1 v2 v3 : Value} (hb : Below Wp.heap.size Wp W1)
    (h : Wp.cell? p1 = some v1 ∧ Wp.cell? p2 = some v2 ∧ Wp.cell? p3 = some v3) :
    W1.cell? p1 = some v1 ∧ W1.cell? p2 = some v2 ∧ W1.cell? p3 = some v3 :=
  ⟨cell_keep h.1 hb, cell_keep h.2.1 hb, cell_keep h.2.2 hb⟩

set_option maxRecDepth 100000 in
set_option maxHeartbeats 3200000 in
theorem belongs_any (pl : Nat) (g1 g2 g3 : Nat) (A1 A2 : Option Addr) (n1 c1 n2 c2 R X m : Nat) (w : World) (q1 : w.cell? ⟨g1, 0, none⟩ = some (.slice A1 n1 c1)) (q2 : w.cell? ⟨g2, 0, none⟩ = some (.int .i64 (m : Int))) (q3 : w.cell? ⟨g3, 0, none⟩ = some (.slice A2 n2 c2))
    (i1 : IsNat w A1 n1 c1 R) (i2 : IsNat w A2 n2 c2 X) (hm : m ≤ 1000000) (k : Nat) (hR : R * 2 + 1 < 4294967296 ^ k) (hk : k * m + 1 ≤ 10000000) (hk2 : k ≤ 1000000) (hX : n2 ≤ 1000000) (hpl : m * pl ≤ 32 * n2) :
    Calls Tryz.prog 120 #[.int .i64 (pl : Int), .pointer (some ⟨g1, 0, none⟩), .pointer (some ⟨g2, 0, none⟩), .pointer (some ⟨g3, 0, none⟩)] w fun e w' => e = .returned (.bool (decide ((R * 2 + 1) ^ m ≤ X / 2 ^ (m * pl)))) ∧ Below w.heap.size w w' := by
  have hn1 : n1 ≤ k := i1.len (Nat.lt_of_le_of_lt (by omega) hR)
  have HR : Hid (R * 2 + 1 < 4294967296 ^ k) := hR
  have S0 : w.drew.cell? ⟨g1, 0, none⟩ = some (.slice A1 n1 c1) ∧ w.drew.cell? ⟨g2, 0, none⟩ = some (.int .i64 (m : Int)) ∧ w.drew.cell? ⟨g3, 0, none⟩ = some (.slice A2 n2 c2) := ⟨q1, q2, q3⟩
  have i2d : IsNat w.drew A2 n2 c2 X := i2
  obtain ⟨t, ht⟩ : ∃ t : Nat, t = m * pl := ⟨_, rfl⟩
  rw [← ht]
  rw [← ht] at hpl
  have e2 : IntKind.i64.wrap ((m : Int) * (pl : Int)) = (t : Int) := by rw [← Int.natCast_mul, ← ht, IntKind.wrap_i64]; omega
  have HP : Hid ((R * 2 + 1) ^ m < 4294967296 ^ (k * m + 1)) := pow_bound hR (Nat.le_refl m)
  have HK : Hid (k * m + 1 ≤ 10000000) := hk
  clear ht hR
  go_enter Tryz.func120, Tryz.ntmps120
  go_wp2_with fail
  go_region_held3 (fun W => W.cell? ⟨g1, 0, none⟩ = some (.slice A1 n1 c1) ∧ W.cell? ⟨g2, 0, none⟩ = some (.int .i64 (m : Int)) ∧ W.cell? ⟨g3, 0, none⟩ = some (.slice A2 n2 c2)) (first | exact keep5 (by assumption) (by assumption) | exact S0)
    (first
      | (go_at_call 118; refine (mulAdd_any A1 n1 c1 R 2 1 w.drew (by exact i1) (by omega) (by omega) (by omega)).mono ?_; rintro e W1 ⟨A3, n3, c3, rfl, i3, b3⟩; have l3 := i3.len HR.out)
      | (go_at_call 83; refine (power_any A3 n3 c3 (R * 2 + 1) m k _ i3 hm HR.out HK.out (by omega)).mono ?_; rintro e W2 ⟨A4, n4, c4, rfl, i4, b4⟩)
      | (go_at_call 121; refine (shift_any A2 n2 c2 X t _ ((i2d.below (Nat.le_refl _) b3).below (Nat.le_refl _) b4) (by omega) (by omega)).mono ?_; rintro e W3 ⟨A5, n5, c5, rfl, i5, b5⟩)
      | (go_at_call 63; refine (compare_any A4 A5 n4 n5 c4 c5 _ _ _ (i4.below (Nat.le_refl _) b5) i5).mono ?_; rintro e W4 ⟨rfl, qq, rfl⟩; have b6 : Below W3.heap.size W3 (W3.drewN qq) := ⟨rfl, rfl, rfl, Nat.le_refl _, fun _ _ => rfl⟩))
  have Hd : Hid (decide (cmpN ((R * 2 + 1) ^ m) (X / 2 ^ t) ≤ 0) = decide ((R * 2 + 1) ^ m ≤ X / 2 ^ t)) := cmpN_le _ _
  go_wp2
  go_ret
  exact ⟨by rw [← Hd.out]; rfl, below_more (below_more (below_more (below_more (Below.refl _ w).drew (Nat.le_refl _) b3) (Nat.le_refl _) b4) (Nat.le_refl _) b5) (Nat.le_refl _) b6⟩
end Go.Proofs.YtfcdekkoeeaolaaGreatDoor

namespace Go.Proofs.YtfcdekkoeeaolaaGreatDoor
open Go.RowKit

/-- R is the root of X for the exponent m. -/
def IsRoot (X m R : Nat) : Prop := R ^ m ≤ X ∧ X < (R + 1) ^ m
theorem root_step {X m g R : Nat} (h : IsRoot (X / 2 ^ (m * (g + 1))) m R) :
    IsRoot (X / 2 ^ (m * g)) m (if (R * 2 + 1) ^ m ≤ X / 2 ^ (m * g) then R * 2 + 1 else R * 2) := by
  obtain ⟨h1, h2⟩ := h
  rw [Nat.mul_succ, Nat.pow_add, ← Nat.div_div_eq_div_mul] at h1 h2
  generalize X / 2 ^ (m * g) = Y at *
  have hp : 0 < 2 ^ m := Nat.two_pow_pos m
  have a1 : (R * 2) ^ m ≤ Y := by
    rw [Nat.mul_pow]
    exact Nat.le_trans (Nat.mul_le_mul_right _ h1) (Nat.div_mul_le_self _ _)
  have a2 : Y < (R * 2 + 2) ^ m := by
    rw [show R * 2 + 2 = (R + 1) * 2 by omega, Nat.mul_pow]
    exact (Nat.div_lt_iff_lt_mul hp).1 h2
  split
  · exact ⟨by assumption, a2⟩
  · exact ⟨a1, by omega⟩
theorem root_start {X m : Nat} (hm : 1 ≤ m) : IsRoot (X / 2 ^ (m * (nbits X / m + 1))) m 0 := by
  have h1 := nbits_lt X
  have h2 : nbits X < m * (nbits X / m + 1) := by
    have := Nat.div_add_mod (nbits X) m
    have := Nat.mod_lt (nbits X) (show 0 < m by omega)
    rw [Nat.mul_add]
    omega
  have h3 : (2 : Nat) ^ nbits X ≤ 2 ^ (m * (nbits X / m + 1)) := Nat.pow_le_pow_right (by omega) (by omega)
  rw [Nat.div_eq_of_lt (by omega)]
  refine ⟨?_, by simp⟩
  rw [Nat.zero_pow (by omega)]
  exact Nat.le_refl _
theorem root_le {X m R : Nat} (hm : 1 ≤ m) (h : R ^ m ≤ X) : R ≤ X := by
  rcases Nat.eq_zero_or_pos R with h0 | h0
  · omega
  · exact Nat.le_trans (Nat.le_self_pow (by omega) R) h
theorem two_bound {R X k : Nat} (h : R ≤ X) (hX : X < 4294967296 ^ k) : R * 2 + 1 < 4294967296 ^ (k + 1) := by
  rw [Nat.pow_succ]
  generalize (4294967296 : Nat) ^ k = P at *
  omega
theorem nbits_len {w : World} {A : Option Addr} {n c X : Nat} (h : IsNat w A n c X) : nbits X ≤ 32 * n := by
  obtain ⟨_, _, f, _, df, _, rfl⟩ := h
  have h1 := val_lt df
  by_cases h0 : val f n = 0
  · rw [h0]; show 0 ≤ _; omega
  · have h2 := nbits_ge h0
    rw [show (4294967296 : Nat) = 2 ^ 32 by rfl, ← Nat.pow_mul] at h1
    rcases Nat.lt_or_ge (32 * n) (nbits (val f n)) with h3 | h3
    · have : (2 : Nat) ^ (32 * n) ≤ 2 ^ (nbits (val f n) - 1) := Nat.pow_le_pow_right (by omega) (by omega)
      omega
    · exact h3

theorem isNat_set {w : World} {A : Option Addr} {n c N : Nat} (h : IsNat w A n c N) (p : Addr) (u : Value) (hp : ∀ x, w.cell? p = some x → ∀ d, x ≠ .int .u32 d) : IsNat (w.setCell p u) A n c N := by
  obtain ⟨h1, h2, f, ⟨b, off, hA, hc⟩, h4⟩ := h
  refine ⟨h1, h2, f, ⟨b, off, hA, fun i hi => ?_⟩, h4⟩
  have h5 := hc i hi
  by_cases e : p = ⟨b, off + i, none⟩
  · subst e; exact absurd rfl (hp _ h5 _)
  · rw [World.cell?_setCell_other _ _ _ _ (fun e2 => e (by first | exact e2 | exact e2.symm))]; exact h5

def RootOut (w : World) (X m : Nat) (e : Ending) (w' : World) : Prop := ∃ R, IsRoot X m R ∧ NatOut w R e w'

set_option maxRecDepth 100000 in
set_option maxHeartbeats 3200000 in
theorem root_any (A : Option Addr) (n c X m k : Nat) (w : World) (hA : IsNat w A n c X) (hm1 : 1 ≤ m) (hm : m ≤ 4096) (hX : X < 4294967296 ^ k) (hk : k ≤ 1000) :
    Calls Tryz.prog 80 #[.slice A n c, .int .i64 (m : Int)] w (RootOut w X m) := by
  have hn : n ≤ k := hA.len hX
  by_cases h1 : m = 1
  · subst h1
    have hone : (((1 : Nat) : Int) == 1) = true := rfl
    go_enter Tryz.func80, Tryz.ntmps80
    go_wp2
    go_ret
    exact ⟨X, ⟨by simp, by simp⟩, A, n, c, rfl, (hA.below (Nat.le_refl _) (below2 w _ _)), below2 w _ _⟩
  · have hone : ((m : Int) == 1) = false := beq_eq_false_iff_ne.2 (by omega)
    have hnb := nbits_len hA
    go_enter Tryz.func80, Tryz.ntmps80
    go_wp2_with fail
    go_cut [7] (fun s7 wx => s7 = .int .i64 ((nbits X / m : Nat) : Int) ∧ Below w.heap.size w wx ∧ IsNat wx A n c X ∧ wx.cell? ⟨w.heap.size, 0, none⟩ = some (.slice A n c) ∧ wx.cell? ⟨w.heap.size + 1, 0, none⟩ = some (.int .i64 (m : Int)) ∧ wx.cell? ⟨w.heap.size + 1 + 1, 0, none⟩ = some (.slice none 0 0) ∧ wx.frozen? ⟨w.heap.size + 1 + 1, 0, none⟩ = false ∧ w.heap.size + 1 + 1 < wx.heap.size)
    case first =>
      have hb := below3 w (.cells #[.slice A n c] 60) (.cells #[.int .i64 (m : Int)] 3) (.cells #[.slice none 0 0] 60)
      have hA3 := (hA.below (Nat.le_refl _) hb)
      have e1 : ((nbits X : Nat) : Int).tdiv (m : Int) = (nbits X : Int) / (m : Int) := Int.tdiv_eq_ediv_of_nonneg (by omega)
      have e0 : 0 ≤ ((nbits X : Nat) : Int) / (m : Int) := Int.ediv_nonneg (by omega) (by omega)
      have e5 : ((nbits X : Nat) : Int) / (m : Int) ≤ (nbits X : Int) := Int.ediv_le_self _ (by omega)
      have e3 : IntKind.i64.wrap (((nbits X : Nat) : Int) / (m : Int)) = (nbits X : Int) / (m : Int) := by rw [IntKind.wrap_i64]; omega
      have hmz : ((m : Int) == 0) = false := beq_eq_false_iff_ne.2 (by omega)
      have hm0 : ¬ m = 0 := by omega
      have hmi : ¬ (m : Int) = 0 := by omega
      have hmI : 1 ≤ (m : Int) := by omega
      have hnI : 0 ≤ ((nbits X : Nat) : Int) := by omega
      go_region_held3 (fun W => W.cell? ⟨w.heap.size, 0, none⟩ = some (.slice A n c) ∧ W.cell? ⟨w.heap.size + 1, 0, none⟩ = some (.int .i64 (m : Int)) ∧ W.cell? ⟨w.heap.size + 1 + 1, 0, none⟩ = some (.slice none 0 0)) (first | assumption | (simp [go_sem]; done) | go_keep)
        (first | (go_at_call 122; refine (size_any A n c X _ (by exact hA3) (by omega)).mono ?_; rintro e W1 ⟨rfl, hw⟩; subst hw))
      go_wp2_with fail
      go_meet
      refine ⟨by rw [Int.natCast_ediv], hb.drew, hA3, ?_, ?_, ?_, ?_, ?_⟩
      all_goals simp [go_sem]
    case rest =>
      obtain ⟨rfl, hb, hAc, q1, q2, q3, q4, hsz⟩ := hcut
      have Hst : Hid (IsRoot (X / 2 ^ (m * (nbits X / m + 1))) m 0) := root_start hm1
      have Hq : Hid (m * (nbits X / m) ≤ nbits X) := Nat.mul_div_le _ _
      have HX : Hid (X < 4294967296 ^ k) := hX
      have hq2 : nbits X / m ≤ nbits X := Nat.div_le_self _ _
      clear hX
      generalize nbits X / m = P at *
      go_wp2_with fail
      go_loopg [7] (P + 1) (fun g s7 wx => ∃ R A1 n1 c1, g ≤ P + 1 ∧ s7 = .int .i64 ((g : Int) - 1) ∧ IsRoot (X / 2 ^ (m * g)) m R ∧ IsNat wx A1 n1 c1 R ∧ Below w.heap.size w wx ∧ IsNat wx A n c X ∧ wx.cell? ⟨w.heap.size, 0, none⟩ = some (.slice A n c) ∧ wx.cell? ⟨w.heap.size + 1, 0, none⟩ = some (.int .i64 (m : Int)) ∧ wx.cell? ⟨w.heap.size + 1 + 1, 0, none⟩ = some (.slice A1 n1 c1) ∧ wx.frozen? ⟨w.heap.size + 1 + 1, 0, none⟩ = false ∧ w.heap.size + 1 + 1 < wx.heap.size)
      case atStart => exact ⟨0, none, 0, 0, Nat.le_refl _, by go_num, Hst.out, ⟨Nat.le_refl _, by omega, fun _ => 0, Rd.nil _ _ _, fun i h => absurd h (by omega), fun h => absurd h (by omega), rfl⟩, hb, hAc, q1, q2, q3, q4, hsz⟩
      case round =>
        clear hb hAc q1 q2 q3 q4 hsz
        obtain ⟨R, A1, n1, c1, hg, rfl, hR, iR, hb, hAc, q1, q2, q3, q4, hsz⟩ := hrel
        rcases gk with _ | g
        · have hR2 : IsRoot X m R := by simpa using hR
          clear hR
          go_wp2
          go_ret
          exact ⟨R, hR2, A1, n1, c1, rfl, iR, hb⟩
        · have HR : Hid (IsRoot (X / 2 ^ (m * (g + 1))) m R) := hR
          have HR2 : Hid (R * 2 + 1 < 4294967296 ^ (k + 1)) := two_bound (Nat.le_trans (root_le hm1 hR.1) (Nat.div_le_self _ _)) HX.out
          have HR1 : Hid (R < 4294967296 ^ (k + 1)) := Nat.lt_of_le_of_lt (by omega) HR2.out
          have Hpl : Hid (m * g ≤ 32 * n) := Nat.le_trans (Nat.mul_le_mul_left _ (by omega)) (Nat.le_trans Hq.out hnb)
          have hkm : (k + 1) * m + 1 ≤ 10000000 := by
            have : (k + 1) * m ≤ 1001 * 4096 := Nat.mul_le_mul (by omega) hm
            omega
          have HKM : Hid ((k + 1) * m + 1 ≤ 10000000) := hkm
          clear hR hkm
          go_wp2_with fail
          rw [show ((g + 1 : Nat) : Int) - 1 = (g : Int) from by omega]
          refine (belongs_any g _ _ _ A1 A n1 c1 n c R X m _ q3 q2 q1 iR hAc (by omega) (k + 1) HR2.out HKM.out (by omega) (by omega) Hpl.out).mono ?_
          rintro e W2 ⟨rfl, b2⟩
          have hl1 : n1 ≤ k + 1 := iR.len HR1.out
          have hb2 := below_more hb (Nat.le_refl _) b2
          have z3 := cell_keep q3 b2
          by_cases hbit : (R * 2 + 1) ^ m ≤ X / 2 ^ (m * g)
          · rw [show decide ((R * 2 + 1) ^ m ≤ X / 2 ^ (m * g)) = true from by simp; exact hbit]
            have Hnew : Hid (IsRoot (X / 2 ^ (m * g)) m (R * 2 + 1)) := by
              have h := root_step HR.out
              rw [if_pos hbit] at h
              exact h
            clear hbit
            go_wp2_with fail
            refine (mulAdd_any A1 n1 c1 R 2 1 _ (iR.below (Nat.le_refl _) b2) (by omega) (by omega) (by omega)).mono ?_
            rintro e W3 ⟨A3, n3, c3, rfl, i3, b3⟩
            have hbn := below_more hb2 (Nat.le_refl _) b3
            have y1 := cell_keep (cell_keep q1 b2) b3
            have y2 := cell_keep (cell_keep q2 b2) b3
            have y3 := cell_keep (cell_keep q3 b2) b3
            have y4 := frozen_keep (cell_keep q3 b2) (frozen_keep q3 q4 b2) b3
            have y5 : w.heap.size + 1 + 1 < W3.heap.size := Nat.lt_of_lt_of_le hsz (Nat.le_trans b2.size b3.size)
            have hnd : ∀ x, W3.cell? ⟨w.heap.size + 1 + 1, 0, none⟩ = some x → ∀ d, x ≠ .int .u32 d := fun x hx d e => by rw [y3] at hx; injection hx with hx; rw [← hx] at e; cases e
            have Hnd := Lib.hid hnd
            clear hnd
            have iX := (hAc.below (Nat.le_refl _) b2).below (Nat.le_refl _) b3
            go_wp2
            go_roundg g
            case measure => omega
            case rel => exact ⟨R * 2 + 1, A3, n3, c3, by omega, by go_num, Hnew.out, isNat_set i3 _ _ Hnd.out, hbn.setCell (by show w.heap.size ≤ w.heap.size + 1 + 1; omega) _, isNat_set iX _ _ Hnd.out, by rw [World.cell?_setCell_far _ _ _ _ (by show w.heap.size + 1 + 1 ≠ w.heap.size; omega)]; exact y1, by rw [World.cell?_setCell_far _ _ _ _ (by show w.heap.size + 1 + 1 ≠ w.heap.size + 1; omega)]; exact y2, World.cell?_setCell_same' _ _ _ (by rw [y3]; rfl), by rw [World.frozen?_setCell]; exact y4, by rw [World.size_setCell]; exact y5⟩
          · rw [show decide ((R * 2 + 1) ^ m ≤ X / 2 ^ (m * g)) = false from by simp; omega]
            have Hnew : Hid (IsRoot (X / 2 ^ (m * g)) m (R * 2)) := by
              have h := root_step HR.out
              rw [if_neg hbit] at h
              exact h
            clear hbit
            go_wp2_with fail
            refine (mulAdd_any A1 n1 c1 R 2 0 _ (iR.below (Nat.le_refl _) b2) (by omega) (by omega) (by omega)).mono ?_
            rintro e W3 ⟨A3, n3, c3, rfl, i3, b3⟩
            have hbn := below_more hb2 (Nat.le_refl _) b3
            have y1 := cell_keep (cell_keep q1 b2) b3
            have y2 := cell_keep (cell_keep q2 b2) b3
            have y3 := cell_keep (cell_keep q3 b2) b3
            have y4 := frozen_keep (cell_keep q3 b2) (frozen_keep q3 q4 b2) b3
            have y5 : w.heap.size + 1 + 1 < W3.heap.size := Nat.lt_of_lt_of_le hsz (Nat.le_trans b2.size b3.size)
            have hnd : ∀ x, W3.cell? ⟨w.heap.size + 1 + 1, 0, none⟩ = some x → ∀ d, x ≠ .int .u32 d := fun x hx d e => by rw [y3] at hx; injection hx with hx; rw [← hx] at e; cases e
            have Hnd := Lib.hid hnd
            clear hnd
            have iX := (hAc.below (Nat.le_refl _) b2).below (Nat.le_refl _) b3
            go_wp2
            go_roundg g
            case measure => omega
            case rel => exact ⟨R * 2, A3, n3, c3, by omega, by go_num, Hnew.out, isNat_set i3 _ _ Hnd.out, hbn.setCell (by show w.heap.size ≤ w.heap.size + 1 + 1; omega) _, isNat_set iX _ _ Hnd.out, by rw [World.cell?_setCell_far _ _ _ _ (by show w.heap.size + 1 + 1 ≠ w.heap.size; omega)]; exact y1, by rw [World.cell?_setCell_far _ _ _ _ (by show w.heap.size + 1 + 1 ≠ w.heap.size + 1; omega)]; exact y2, World.cell?_setCell_same' _ _ _ (by rw [y3]; rfl), by rw [World.frozen?_setCell]; exact y4, by rw [World.size_setCell]; exact y5⟩
end Go.Proofs.YtfcdekkoeeaolaaGreatDoor
