/- What the laws' great returns over a slice of integers. What integer.Of returns: the integer. No condition: any int. What integer.shift returns: the number without its last bits. Condition: not more bits than the number has. -/
import Derived.Test.YtfcdekkoeeaolaaDoorQ14
import Derived.Lib.Hide
import Derived.Test.YtfcdekkoeeaolaaDoorQ07
import Derived.Test.YtfcdekkoeeaolaaDoorQ09
import Derived.Deep.RegionWith
import Derived.Deep.RegionHeld3

namespace Go.Proofs.YtfcdekkoeeaolaaDoor
open Go.RowKit

/-- n integers lie in a row. -/
def RdInts (w : World) (b off n : Nat) (ng : Nat → Bool) (s : Nat → ByteArray) : Prop :=
  ∀ i, i < n → w.cell? ⟨b, off + i * 2, none⟩ = some (.bool (ng i)) ∧ w.cell? ⟨b, off + i * 2 + 1, none⟩ = some (.string (s i))
def greatB (n : Nat) (s : Nat → ByteArray) : Bool := (List.range n).any fun i => decide (60 < (s i).size)

set_option maxRecDepth 100000 in
set_option maxHeartbeats 1600000 in
theorem greats_any (b off n c : Nat) (ng : Nat → Bool) (s : Nat → ByteArray) (w : World) (h : RdInts w b off n ng s) (hn : n ≤ 1000000) (hs : ∀ i, i < n → (s i).size ≤ 9223372036854775807) :
    Calls Tryd.prog 4 #[.slice (some ⟨b, off, none⟩) n c] w fun e w' => e = .returned (.bool (greatB n s)) ∧ Below w.heap.size w w' := by
  have H : Hid (RdInts w b off n ng s) := h
  have Hs : Hid (∀ i, i < n → (s i).size ≤ 9223372036854775807) := hs
  clear h hs
  go_enter Tryd.func4, Tryd.ntmps4
  go_wp2_with fail
  go_loopg [7] n (fun g s7 wx => g ≤ n ∧ s7 = .int .i64 ((n - g : Nat) : Int) ∧ Below w.heap.size w wx ∧ Hid (∀ i, i < n - g → (s i).size ≤ 60))
  case atStart => exact ⟨Nat.le_refl _, by rw [Nat.sub_self]; rfl, Below.refl _ _, fun i hi => absurd hi (by omega)⟩
  case round =>
    obtain ⟨hg, rfl, hb, hall⟩ := hrel
    rcases gk with _ | g
    · have hgr : Hid (greatB n s = false) := by
        show _ = _
        unfold greatB
        rw [List.any_eq_false]
        intro i hi
        have := hall.out i (by have := List.mem_range.1 hi; omega)
        simp; omega
      go_wp2
      go_ret
      exact ⟨by rw [hgr.out]; rfl, hb⟩
    · obtain ⟨i, hi⟩ : ∃ i, i = n - (g + 1) := ⟨_, rfl⟩
      rw [← hi] at hall ⊢
      have hin : i < n := by omega
      have HI : Hid (i + 1 = n - g ∧ g + 1 ≤ n) := by show _ ∧ _; omega
      obtain ⟨h1, h2⟩ := H.out i hin
      have x1 : wr.cell? ⟨b, off + i * 2, none⟩ = some (.bool (ng i)) := (hb.cell (World.block_lt_of_cell? _ _ h1)).trans h1
      have x2 : wr.cell? ⟨b, off + i * 2 + 1, none⟩ = some (.string (s i)) := (hb.cell (World.block_lt_of_cell? _ _ h2)).trans h2
      have hbl := World.block_lt_of_cell? _ _ x1
      have hsz := Hs.out i hin
      clear hi h1 h2 hg
      have hb1 := below1 wr (.cells #[.bool (ng i), .string (s i)] 23)
      go_wp2_with fail
      refine (great_int (ng i) (s i) _ hsz).mono ?_
      rintro e W1 ⟨rfl, b1⟩
      have hb2 := hb.trans (below_more hb1 (Nat.le_refl _) b1 |>.mono hb.size)
      clear hb hb1 b1 x1 x2 hbl
      by_cases hbig : 60 < (s i).size
      · have hgr : Hid (greatB n s = true) := by
          show _ = _
          unfold greatB
          rw [List.any_eq_true]
          exact ⟨i, List.mem_range.2 hin, decide_eq_true hbig⟩
        rw [decide_eq_true hbig]
        go_wp2
        go_ret
        exact ⟨by rw [hgr.out]; rfl, hb2⟩
      · have hall2 : Hid (∀ j, j < i + 1 → (s j).size ≤ 60) := by
          intro j hj
          by_cases e : j = i
          · subst e; omega
          · exact hall.out j (by omega)
        rw [decide_eq_false hbig]
        go_wp2
        go_roundg g
        case measure => omega
        case rel => exact ⟨by have := HI.out.2; omega, by rw [← HI.out.1]; rfl, hb2, by rw [← HI.out.1]; exact hall2⟩
end Go.Proofs.YtfcdekkoeeaolaaDoor

namespace Go.Proofs.YtfcdekkoeeaolaaDoor
open Go.RowKit

def two (m : Nat) : Nat → Nat := fun i => if i = 0 then m % 4294967296 else if i = 1 then m / 4294967296 else 0
theorem two_val (m : Nat) : val (two m) 2 = m := by simp [val, two]; omega
theorem two_dig (m : Nat) (h : m < 18446744073709551616) : Dig (two m) 2 := fun i hi => by
  rcases (show i = 0 ∨ i = 1 by omega) with rfl | rfl <;> simp [two] <;> omega

theorem two_rd (w : World) (o : Obj) (t : TypeId) (d0 d1 : Int) (m : Nat) (h0 : d0 = ((m % 4294967296 : Nat) : Int)) (h1 : d1 = ((m / 4294967296 : Nat) : Int)) :
    Rd ((w.alloc o).alloc (.cells #[.int .u32 d0, .int .u32 d1] t)) (some ⟨w.heap.size + 1, 0, none⟩) 2 (two m) := by
  refine ⟨w.heap.size + 1, 0, fun _ => rfl, fun i hi => ?_⟩
  subst h0 h1
  rcases (show i = 0 ∨ i = 1 by omega) with rfl | rfl <;> simp [go_sem, two]
theorem u64_negwrap (z : Int) (h0 : -9223372036854775808 ≤ z) (hz : z < 0) : IntKind.u64.wrap (-IntKind.u64.wrap z) = ((z.natAbs : Nat) : Int) := by
  rw [IntKind.wrap_u64, IntKind.wrap_u64]
  omega

set_option maxRecDepth 100000 in
set_option maxHeartbeats 800000 in
theorem iof_any (z : Int) (w : World) (h0 : -9223372036854775808 ≤ z) (h1 : z ≤ 9223372036854775807) :
    Calls Tryd.prog 12 #[.int .i64 z] w (IntOut w z) := by
  have hm : z.natAbs < 18446744073709551616 := by omega
  have Hm : Hid (z.natAbs < 18446744073709551616) := hm
  have hr := (ResCell.new w 23)
  have hb := below1 w (.cells #[.bool false, .string ⟨#[]⟩] 23)
  have dg2 := two_dig z.natAbs hm
  clear hm
  by_cases hz : z < 0
  · have hw := u64_negwrap z h0 hz
    have Hw : Hid (IntKind.u64.wrap (-IntKind.u64.wrap z) = ((z.natAbs : Nat) : Int)) := hw
    have e1 : IntKind.u64.wrap (-IntKind.u64.wrap z) % 4294967296 = ((z.natAbs % 4294967296 : Nat) : Int) := by rw [hw, Int.natCast_emod]; rfl
    have e2 : IntKind.u64.wrap (-IntKind.u64.wrap z) / 4294967296 % 4294967296 = ((z.natAbs / 4294967296 : Nat) : Int) := by
      rw [hw]; have := Hm.out; omega
    have hrd := two_rd w (.cells #[.bool false, .string ⟨#[]⟩] 23) 58 _ _ z.natAbs e1 e2
    have hS : Hid (z = if true = true then -(z.natAbs : Int) else (z.natAbs : Int)) := by show z = _; rw [if_pos rfl]; omega
    clear hw e1 e2
    go_enter Tryd.func12, Tryd.ntmps12
    go_wp2_with fail
    refine (trim_any _ 2 2 (two z.natAbs) _ (Nat.le_refl _) (by omega) hrd).mono ?_
    rintro e W ⟨rfl, rfl⟩
    obtain ⟨A3, n3, c3, he, hi, hbb⟩ := nat_out hrd (Below.refl _ _) dg2 (by omega) (two_val z.natAbs)
    injection he with he
    injection he with x1 x2 x3
    subst x1 x2 x3
    go_wp2_with fail
    refine (signed_any true _ _ _ z.natAbs _ hi (by have := tln_le (two z.natAbs) 2; omega)).mono ?_
    rintro e W4 ⟨rfl, b4⟩
    rw [ivN_eq true _ z hS.out]
    have hb2 := hb.alloc (by rw [World.size_alloc]; omega) (.cells #[.int .u32 (IntKind.u64.wrap (-IntKind.u64.wrap z) % 4294967296), .int .u32 (IntKind.u64.wrap (-IntKind.u64.wrap z) / 4294967296 % 4294967296)] 58)
    obtain ⟨r1, r2, r3, r4⟩ := (hr.keep (below1 _ _)).keep b4
    go_wp2
    exact bodyPost_ret (v := .agg #[.bool (sg z), .string (mg z)]) (by simp [results, Tryd.results12, go_sem, r1, r2]) rfl ⟨rfl, below_more2 hb2 (Nat.le_refl _) b4 (Nat.le_refl _) (Nat.le_refl _)⟩
  · have e1 : z % 4294967296 = ((z.natAbs % 4294967296 : Nat) : Int) := by omega
    have e2 : z / 4294967296 = ((z.natAbs / 4294967296 : Nat) : Int) := by omega
    have hrd := two_rd w (.cells #[.bool false, .string ⟨#[]⟩] 23) 58 _ _ z.natAbs e1 e2
    have hS : Hid (z = if false = true then -(z.natAbs : Int) else (z.natAbs : Int)) := by show z = _; rw [if_neg (by simp)]; omega
    clear e1 e2
    go_enter Tryd.func12, Tryd.ntmps12
    go_wp2_with fail
    refine (trim_any _ 2 2 (two z.natAbs) _ (Nat.le_refl _) (by omega) hrd).mono ?_
    rintro e W ⟨rfl, rfl⟩
    obtain ⟨A3, n3, c3, he, hi, hbb⟩ := nat_out hrd (Below.refl _ _) dg2 (by omega) (two_val z.natAbs)
    injection he with he
    injection he with x1 x2 x3
    subst x1 x2 x3
    go_wp2_with fail
    refine (signed_any false _ _ _ z.natAbs _ hi (by have := tln_le (two z.natAbs) 2; omega)).mono ?_
    rintro e W4 ⟨rfl, b4⟩
    rw [ivN_eq false _ z hS.out]
    have hb2 := hb.alloc (by rw [World.size_alloc]; omega) (.cells #[.int .u32 (z % 4294967296), .int .u32 (z / 4294967296)] 58)
    obtain ⟨r1, r2, r3, r4⟩ := (hr.keep (below1 _ _)).keep b4
    go_wp2
    exact bodyPost_ret (v := .agg #[.bool (sg z), .string (mg z)]) (by simp [results, Tryd.results12, go_sem, r1, r2]) rfl ⟨rfl, below_more2 hb2 (Nat.le_refl _) b4 (Nat.le_refl _) (Nat.le_refl _)⟩
end Go.Proofs.YtfcdekkoeeaolaaDoor

namespace Go.Proofs.YtfcdekkoeeaolaaDoor
open Go.RowKit

theorem val_drop (f : Nat → Nat) (n q : Nat) (hq : q ≤ n) (h : Dig f n) : val (fun j => f (j + q)) (n - q) = val f n / 4294967296 ^ q := by
  induction q with
  | zero => simp
  | succ q ih =>
    have h1 := ih (by omega)
    have h2 := top_step f (show q < n by omega)
    unfold top at h2
    rw [h1] at h2
    rw [Nat.pow_succ, ← Nat.div_div_eq_div_mul, h2]
    have := h q (by omega)
    omega
theorem val_shift (f : Nat → Nat) (n s : Nat) (hq : s / 32 ≤ n) (h : Dig f n) : val (fun j => f (j + s / 32)) (n - s / 32) / 2 ^ (s % 32) = val f n / 2 ^ s := by
  rw [val_drop f n _ hq h, Nat.div_div_eq_div_mul, show (4294967296 : Nat) = 2 ^ 32 by rfl, ← Nat.pow_mul, ← Nat.pow_add]
  congr 2
  omega

theorem sizeU32 (w : World) : (sizeOf (Tryd.prog.elem 44)).run Tryd.prog w = .ok 1 w := by kernel_rfl
theorem elemU32 : Tryd.prog.elem 44 = 58 := by kernel_rfl
theorem underElem : Tryd.prog.underlying 44 = some (.slice (Tryd.prog.elem 44)) := by rw [elemU32]; exact Tryd.underlying44
/-- A slice from q on. -/
theorem rd_low {A : Option Addr} {n q : Nat} {w : World} {f : Nat → Nat} (hq : q ≤ n) (h : Rd w A n f) : Rd w (A.map (·.add q)) (n - q) (fun j => f (j + q)) := by
  obtain ⟨b, off, hA, hc⟩ := h
  refine ⟨b, off + q, fun h0 => ?_, fun i hi => ?_⟩
  · rw [hA (by omega)]
    simp only [Option.map_some]
    unfold Addr.add
    split <;> simp_all
  · rw [show off + q + i = off + (i + q) by omega]
    exact hc (i + q) (by omega)

set_option maxRecDepth 100000 in
set_option maxHeartbeats 1600000 in
theorem shift_any (A : Option Addr) (n c N s : Nat) (w : World) (hA : IsNat w A n c N) (hn : n ≤ 10000000) (hs : s / 32 ≤ n) :
    Calls Tryd.prog 54 #[.slice A n c, .int .i64 (s : Int)] w (NatOut w (N / 2 ^ s)) := by
  obtain ⟨hnc, hc, f, hrd, df, tf, rfl⟩ := hA
  have hv := val_shift f n s hs df
  have Hv : Hid (val (fun j => f (j + s / 32)) (n - s / 32) / 2 ^ (s % 32) = val f n / 2 ^ s) := hv
  have hp : 2 ^ (s % 32) ≤ 2 ^ 31 := Nat.pow_le_pow_right (by omega) (by omega)
  have hp1 : 1 ≤ 2 ^ (s % 32) := Nat.two_pow_pos _
  have h2 := rd_low hs hrd
  have Hshl : Hid ((1 : Int) * 2 ^ (s % 32) % 4294967296 = ((2 ^ (s % 32) : Nat) : Int)) := by
    have : ((2 ^ (s % 32) : Nat) : Int) = 2 ^ (s % 32) := Int.natCast_pow _ _
    show (1 : Int) * 2 ^ (s % 32) % 4294967296 = ((2 ^ (s % 32) : Nat) : Int)
    omega
  have dg : Dig (fun j => f (j + s / 32)) (n - s / 32) := fun i hi => df _ (by omega)
  clear hv
  have hsI : (s : Int) / 32 ≤ (n : Int) := by omega
  have hs0 : 0 ≤ (s : Int) / 32 := by omega
  have e1 : (s : Int).tdiv 32 = (s : Int) / 32 := Int.tdiv_eq_ediv_of_nonneg (by omega)
  have e2 : (s : Int).tmod 32 = (s : Int) % 32 := Int.tmod_eq_emod_of_nonneg (by omega)
  have e3 : IntKind.i64.wrap ((s : Int) / 32) = (s : Int) / 32 := by rw [IntKind.wrap_i64]; omega
  have e4 : IntKind.i64.wrap ((s : Int) % 32) = (s : Int) % 32 := by rw [IntKind.wrap_i64]; omega
  have hr0 : 0 ≤ (s : Int) % 32 := by omega
  have hr1 : (s : Int) % 32 < 32 := by omega
  have Hq1 : Hid (((s : Int) / 32).toNat = s / 32) := by show ((s : Int) / 32).toNat = s / 32; omega
  have Hq2 : Hid (IntKind.u32.wrap (2 ^ ((s : Int) % 32).toNat) = ((2 ^ (s % 32) : Nat) : Int)) := by
    show IntKind.u32.wrap (2 ^ ((s : Int) % 32).toNat) = ((2 ^ (s % 32) : Nat) : Int)
    rw [show ((s : Int) % 32).toNat = s % 32 by omega, IntKind.wrap_u32]
    have : ((2 ^ (s % 32) : Nat) : Int) = 2 ^ (s % 32) := Int.natCast_pow _ _
    omega
  have Hb1 : Hid (n - s / 32 ≤ 10000000000) := by show n - s / 32 ≤ 10000000000; omega
  have Hb2 : Hid (2 ^ (s % 32) < 4294967296) := by show 2 ^ (s % 32) < 4294967296; omega
  by_cases hcq : c = s / 32
  · have hcq2 : c = ((s : Int) / 32).toNat := by omega
    have hnq : n - s / 32 = 0 := by omega
    have h3 : Rd w A (n - s / 32) (fun j => f (j + s / 32)) := by rw [hnq]; exact Rd.nil _ _ _
    have HX : Hid (c = s / 32) := hcq
    clear hnq hcq
    go_enter Tryd.func54, Tryd.ntmps54
    go_wp2_with fail
    go_region_held3 (fun _ => True) (trivial) (first | (go_at_call 42; rw [Hq1.out, Hq2.out]; refine (divSmall_any (A) _ _ (val (fun j => f (j + s / 32)) (n - s / 32)) (2 ^ (s % 32)) w.drew ⟨_, h3, dg, rfl⟩ Hb1.out hp1 Hb2.out).mono ?_; rintro e W1 ⟨A3, n3, c3, rfl, i3, b3⟩))
    go_wp2
    go_ret
    exact ⟨A3, n3, c3, rfl, by rw [← Hv.out]; exact i3, below_more (Below.refl _ w).drew (Nat.le_refl _) b3⟩
  · have hcq2 : ¬ c = ((s : Int) / 32).toNat := by omega
    go_enter Tryd.func54, Tryd.ntmps54
    go_wp2_with fail
    go_region_held3 (fun _ => True) (trivial) (first | (go_at_call 42; rw [Hq1.out, Hq2.out]; refine (divSmall_any (A.map (·.add (s / 32))) _ _ (val (fun j => f (j + s / 32)) (n - s / 32)) (2 ^ (s % 32)) w.drew ⟨_, h2, dg, rfl⟩ Hb1.out hp1 Hb2.out).mono ?_; rintro e W1 ⟨A3, n3, c3, rfl, i3, b3⟩))
    go_wp2
    go_ret
    exact ⟨A3, n3, c3, rfl, by rw [← Hv.out]; exact i3, below_more (Below.refl _ w).drew (Nat.le_refl _) b3⟩
end Go.Proofs.YtfcdekkoeeaolaaDoor
