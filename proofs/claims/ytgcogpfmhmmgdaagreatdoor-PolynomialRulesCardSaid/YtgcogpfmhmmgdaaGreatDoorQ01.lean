/- Plain facts on numbers written to the base 2^32, the least significant digit first, told by a function of the place. No condition. What integer.trim returns: the slice without the zeros at its end. Condition: the slice is not longer than 100000000000. What integer.add returns: the sum. Condition: both are numbers in memory without zeros at the end. -/
import Derived.Test.YtgcogpfmhmmgdaaGreatDoorProg
import Derived.Below
import Derived.Deep.OwnRows
import Derived.WalkKit
import Derived.Deep.LoopGhost

namespace Go.Proofs.YtgcogpfmhmmgdaaGreatDoor
open Go.RowKit

/-- The value of the first n digits of f. -/
def val (f : Nat → Nat) : Nat → Nat
  | 0 => 0
  | n + 1 => val f n + f n * 4294967296 ^ n

def Dig (f : Nat → Nat) (n : Nat) : Prop := ∀ i, i < n → f i < 4294967296
/-- No zero at the end. -/
def Trm (f : Nat → Nat) (n : Nat) : Prop := 0 < n → f (n - 1) ≠ 0

theorem val_congr {f g : Nat → Nat} {n : Nat} (h : ∀ i, i < n → f i = g i) : val f n = val g n := by
  induction n with
  | zero => rfl
  | succ n ih => rw [val, val, ih (fun i hi => h i (by omega)), h n (by omega)]

theorem val_lt {f : Nat → Nat} {n : Nat} (h : Dig f n) : val f n < 4294967296 ^ n := by
  induction n with
  | zero => simp [val]
  | succ n ih =>
    rw [val, Nat.pow_succ]
    have h1 := ih (fun i hi => h i (by omega))
    have h2 := h n (by omega)
    have h3 : f n * 4294967296 ^ n ≤ 4294967295 * 4294967296 ^ n := Nat.mul_le_mul_right _ (by omega)
    have hp : 0 < 4294967296 ^ n := Nat.pow_pos (by omega)
    generalize 4294967296 ^ n = P at *
    omega

theorem val_ge {f : Nat → Nat} {n : Nat} (hn : 0 < n) (h : f (n - 1) ≠ 0) : 4294967296 ^ (n - 1) ≤ val f n := by
  obtain ⟨m, rfl⟩ : ∃ m, n = m + 1 := ⟨n - 1, by omega⟩
  rw [val]
  simp only [Nat.add_sub_cancel] at *
  have : 1 * 4294967296 ^ m ≤ f m * 4294967296 ^ m := Nat.mul_le_mul_right _ (by omega)
  omega

/-- The number of the digits behind which there are zeros alone. -/
def tln (f : Nat → Nat) : Nat → Nat
  | 0 => 0
  | n + 1 => if f n = 0 then tln f n else n + 1

theorem tln_le (f : Nat → Nat) (n : Nat) : tln f n ≤ n := by
  induction n with
  | zero => simp [tln]
  | succ n ih => rw [tln]; split <;> omega
theorem tln_val (f : Nat → Nat) (n : Nat) : val f (tln f n) = val f n := by
  induction n with
  | zero => rfl
  | succ n ih =>
    rw [tln]
    split
    · rename_i h; rw [ih, val, h]; simp
    · rfl
theorem tln_trm (f : Nat → Nat) (n : Nat) : Trm f (tln f n) := by
  induction n with
  | zero => intro h; exact absurd h (by simp [tln])
  | succ n ih =>
    rw [tln]
    split
    · exact ih
    · intro _; simpa using ‹¬ f n = 0›

/-- Digits in memory: the slice with the address A and the length n holds the digits f. -/
def Rd (w : World) (A : Option Addr) (n : Nat) (f : Nat → Nat) : Prop :=
  ∃ b off : Nat, (0 < n → A = some ⟨b, off, none⟩) ∧ ∀ i, i < n → w.cell? ⟨b, off + i, none⟩ = some (.int .u32 (f i : Int))

theorem Rd.nil (w : World) (f : Nat → Nat) (A : Option Addr) : Rd w A 0 f := ⟨0, 0, fun h => absurd h (by omega), fun i h => absurd h (by omega)⟩
theorem Rd.lt {w : World} {b off n : Nat} {f : Nat → Nat} (h : ∀ i, i < n → w.cell? ⟨b, off + i, none⟩ = some (.int .u32 (f i : Int))) (hn : 0 < n) : b < w.heap.size :=
  World.block_lt_of_cell? w _ (h 0 hn)
theorem Rd.below {w w' : World} {A : Option Addr} {n : Nat} {f : Nat → Nat} {B : Nat} (h : Rd w A n f) (hB : w.heap.size ≤ B) (hb : Below B w w') : Rd w' A n f := by
  obtain ⟨b, off, hA, hc⟩ := h
  refine ⟨b, off, hA, fun i hi => ?_⟩
  rw [hb.cell (p := ⟨b, off + i, none⟩) (by have := Rd.lt hc (by omega); show b < B; omega)]
  exact hc i hi
theorem Rd.take {w : World} {A : Option Addr} {n m : Nat} {f : Nat → Nat} (h : Rd w A n f) (hm : m ≤ n) : Rd w A m f := by
  obtain ⟨b, off, hA, hc⟩ := h
  exact ⟨b, off, fun h => hA (by omega), fun i hi => hc i (by omega)⟩
theorem Rd.of_row {w : World} {b n m : Nat} {t : TypeId} {f : Nat → Nat} {g : Nat → Value} (h : w.rowIs b t n g) (hm : m ≤ n) (hg : ∀ i, i < m → g i = .int .u32 (f i : Int)) : Rd w (some ⟨b, 0, none⟩) m f :=
  ⟨b, 0, fun _ => rfl, fun i hi => by rw [Nat.zero_add, h.cell (by omega), hg i hi]⟩

/-- The value v is the number N in memory. -/
def IsNat (w : World) (A : Option Addr) (n c : Nat) (N : Nat) : Prop :=
  n ≤ c ∧ c ≤ 100000000000 ∧ ∃ f, Rd w A n f ∧ Dig f n ∧ Trm f n ∧ val f n = N
theorem IsNat.below {w w' : World} {A : Option Addr} {n c N B : Nat} (h : IsNat w A n c N) (hB : w.heap.size ≤ B) (hb : Below B w w') : IsNat w' A n c N := by
  obtain ⟨h1, h2, f, h3, h4⟩ := h
  exact ⟨h1, h2, f, h3.below hB hb, h4⟩

/-- What a function that returns a number leaves. -/
def NatOut (w : World) (N : Nat) (e : Ending) (w' : World) : Prop :=
  ∃ A n c, e = .returned (.slice A n c) ∧ IsNat w' A n c N ∧ Below w.heap.size w w'

/-- The row that holds the first k digits of s, and zeros behind them. -/
def dsts (s : Nat → Nat) (k : Nat) : Nat → Value := fun j => .int .u32 ((if j < k then s j else 0 : Nat) : Int)
def upd (s : Nat → Nat) (k v : Nat) : Nat → Nat := fun j => if j = k then v else s j
theorem upd_same (s : Nat → Nat) (k v : Nat) : upd s k v k = v := by simp [upd]
theorem upd_lt (s : Nat → Nat) (k v : Nat) {j : Nat} (h : j < k) : upd s k v j = s j := by simp [upd, Nat.ne_of_lt h]
theorem val_upd (s : Nat → Nat) (k v : Nat) : val (upd s k v) (k + 1) = val s k + v * 4294967296 ^ k := by
  rw [val, upd_same, val_congr (fun i hi => upd_lt s k v hi)]
theorem dig_upd {s : Nat → Nat} {k v : Nat} (h : Dig s k) (hv : v < 4294967296) : Dig (upd s k v) (k + 1) := fun i hi => by
  by_cases e : i = k
  · subst e; rw [upd_same]; exact hv
  · rw [upd_lt _ _ _ (by omega)]; exact h i (by omega)
theorem dsts_step {w : World} {b n k : Nat} {t : TypeId} {s : Nat → Nat} (h : w.rowIs b t n (dsts s k)) {x : Int} {v : Nat} (hx : x = (v : Int)) :
    (w.setCell ⟨b, k, none⟩ (.int .u32 x)).rowIs b t n (dsts (upd s k v) (k + 1)) :=
  (h.set k _).congr fun j _ => by
    subst hx
    unfold dsts
    by_cases e : j = k
    · subst e; rw [if_pos rfl, if_pos (by omega), upd_same]
    · rw [if_neg e]
      by_cases hl : j < k
      · rw [if_pos hl, if_pos (by omega), upd_lt _ _ _ hl]
      · rw [if_neg hl, if_neg (by omega)]
theorem dsts_rd {w : World} {b n : Nat} {t : TypeId} {s : Nat → Nat} (h : w.rowIs b t n (dsts s n)) : Rd w (some ⟨b, 0, none⟩) n s :=
  Rd.of_row h (Nat.le_refl _) fun i hi => by simp [dsts, hi]
/-- The digits with zeros behind them. -/
def ext (g : Nat → Nat) (m : Nat) : Nat → Nat := fun j => if j < m then g j else 0
theorem val_ext (g : Nat → Nat) (m n : Nat) (h : m ≤ n) : val (ext g m) n = val g m := by
  induction n with
  | zero => obtain rfl : m = 0 := by omega
            rfl
  | succ n ih =>
    by_cases e : m = n + 1
    · subst e; exact val_congr fun i hi => by simp [ext, hi]
    · rw [val, ih (by omega)]; simp [ext, show ¬ n < m by omega]
theorem nat_out {w wx : World} {b n N : Nat} {s : Nat → Nat} (hr : Rd wx (some ⟨b, 0, none⟩) n s) (hb : Below w.heap.size w wx) (ds : Dig s n) (hn : n ≤ 100000000000) (hv : val s n = N) :
    NatOut w N (.returned (.slice (some ⟨b, 0, none⟩) (tln s n) n)) wx :=
  ⟨_, _, _, rfl, ⟨tln_le s n, hn, s, hr.take (tln_le s n), fun i hi => ds i (by have := tln_le s n; omega), tln_trm s n, (tln_val s n).trans hv⟩, hb⟩
end Go.Proofs.YtgcogpfmhmmgdaaGreatDoor

namespace Go.Proofs.YtgcogpfmhmmgdaaGreatDoor
open Go.RowKit

set_option maxHeartbeats 400000 in
theorem trim_any (A : Option Addr) (n c : Nat) (f : Nat → Nat) (w : World) (hn : n ≤ c) (hc : c ≤ 100000000000) (h : Rd w A n f) :
    Calls Tryz.prog 80 #[.slice A n c] w fun e w' => e = .returned (.slice A (tln f n) c) ∧ w = w' := by
  obtain ⟨b, off, hA, hcell⟩ := h
  go_enter Tryz.func80, Tryz.ntmps80
  go_wp2
  go_loopg [0] n (fun g x wx => wx = w ∧ x = .slice A g c ∧ g ≤ n ∧ tln f g = tln f n)
  case atStart => exact ⟨rfl, rfl, Nat.le_refl _, rfl⟩
  case round =>
    obtain ⟨rfl, rfl, hg, ht⟩ := hrel
    have Ht : Hid (tln f gk = tln f n) := ht
    clear ht
    rcases gk with _ | g
    · go_wp2
      go_ret
      exact ⟨by rw [← Ht.out]; rfl, rfl⟩
    · obtain rfl := hA (by omega)
      have hx := hcell g (by omega)
      by_cases hz : f g = 0
      · go_wp2
        go_roundg g
        case measure => omega
        case rel => exact ⟨rfl, by go_num, by omega, by rw [← Ht.out, tln, if_pos hz]⟩
      · go_wp2
        go_ret
        exact ⟨by rw [← Ht.out, tln, if_neg hz]; rfl, rfl⟩
end Go.Proofs.YtgcogpfmhmmgdaaGreatDoor

namespace Go.Proofs.YtgcogpfmhmmgdaaGreatDoor
open Go.RowKit

theorem Tryz.infoU32 : (Tryz.prog.info? 93).map (fun i => (i.zero, i.size, i.bytes)) = some (some (.int .u32 0), 1, 4) := by kernel_rfl


theorem add_step {s f g : Nat → Nat} {k m y : Nat} (hv : val s k + y * 4294967296 ^ k = val f k + val (ext g m) k) :
    val (upd s k ((y + f k + ext g m k) % 4294967296)) (k + 1) + (y + f k + ext g m k) / 4294967296 * 4294967296 ^ (k + 1) = val f (k + 1) + val (ext g m) (k + 1) := by
  rw [val_upd, val, val, Nat.pow_succ]
  have h := Nat.div_add_mod (y + f k + ext g m k) 4294967296
  generalize hq : (y + f k + ext g m k) / 4294967296 = q at *
  generalize hr : (y + f k + ext g m k) % 4294967296 = r at *
  generalize 4294967296 ^ k = P at *
  have e : (4294967296 * q + r) * P = (y + f k + ext g m k) * P := by rw [h]
  rw [Nat.add_mul, Nat.add_mul, Nat.add_mul] at e
  have e2 : q * (P * 4294967296) = 4294967296 * q * P := by rw [Nat.mul_comm P, ← Nat.mul_assoc, Nat.mul_comm q]
  rw [e2]
  omega

set_option maxHeartbeats 800000 in
theorem add_ord (A B : Option Addr) (n m c d : Nat) (f g : Nat → Nat) (w : World) (hn : n ≤ 10000000000) (hmn : m ≤ n) (hA : Rd w A n f) (hB : Rd w B m g) (df : Dig f n) (dg : Dig g m) :
    Calls Tryz.prog 75 #[.slice A n c, .slice B m d] w (NatOut w (val f n + val g m)) := by
  obtain ⟨b, off, hAe, hcell⟩ := hA
  obtain ⟨b', off', hBe, hcell'⟩ := hB
  have hmk := run_make_row' (P := Tryz.prog) 86 93 (.int .u32 0) 4 Tryz.underlying86 Tryz.infoU32 rfl .i64 .i64 (n + 1) (by omega) (by omega)
  rw [show ((n + 1 : Nat) : Int) = (n : Int) + 1 by omega] at hmk
  have hnm : decide (n < m) = false := by simp; omega
  go_enter Tryz.func75, Tryz.ntmps75
  go_wp2
  clear hmk
  go_loopg [6, 22] n (fun q cy i wx => ∃ (k y : Nat) (s : Nat → Nat), k + q = n ∧ i = .int .i64 k ∧ cy = .int .u64 (y : Int) ∧ y ≤ 1 ∧ Dig s k ∧ val s k + y * 4294967296 ^ k = val f k + val (ext g m) k ∧ Below w.heap.size w wx ∧ wx.heap.size = w.heap.size + 1 ∧ wx.rowIs w.heap.size 93 (n + 1) (dsts s k))
  case atStart => exact ⟨0, 0, fun _ => 0, by omega, rfl, rfl, by omega, fun i h => absurd h (by omega), rfl, (Below.refl _ _).alloc (Nat.le_refl _) _, by simp, (World.rowIs_made w _ (n + 1) _).congr (fun i _ => by simp [dsts])⟩
  case round =>
    obtain ⟨k, y, s, hk, rfl, rfl, hy, ds, hv, hb, hsz, hrow⟩ := hrel
    rcases gk with _ | q
    · obtain rfl : k = n := by omega
      clear hk
      have hw1 := hrow.cell (i := k) (by omega)
      have hw2 := hrow.frozen k
      have Hv : Hid (val s k + y * 4294967296 ^ k = val f k + val (ext g m) k) := hv
      have Hs : Hid (wr.heap.size = w.heap.size + 1) := hsz
      clear hv hsz
      have hrow2 := dsts_step hrow (x := (y : Int)) rfl
      have hb2 := hb.setCell (p := ⟨w.heap.size, k, none⟩) (Nat.le_refl _) (.int .u32 (y : Int))
      have ds2 := dig_upd ds (show y < 4294967296 by omega)
      have hr2 := dsts_rd hrow2
      clear hrow2
      go_wp2_with fail
      refine (trim_any _ (k + 1) (k + 1) (upd s k y) _ (Nat.le_refl _) (by omega) hr2).mono ?_
      rintro e w' ⟨rfl, rfl⟩
      go_wp2
      go_ret
      exact nat_out hr2 hb2 ds2 (by omega) (by rw [val_upd, Hv.out, val_ext _ _ _ hmn])
    · obtain rfl := hAe (by omega)
      have hx : wr.cell? ⟨b, off + k, none⟩ = some (.int .u32 (f k : Int)) := by rw [hb.cell (Rd.lt hcell (by omega))]; exact hcell k (by omega)
      have hw1 := hrow.cell (i := k) (by omega)
      have hw2 := hrow.frozen k
      have dk := df k (by omega)
      have hkn : k < n := by omega
      by_cases hkm : k < m
      · obtain rfl := hBe (by omega)
        have hx2 : wr.cell? ⟨b', off' + k, none⟩ = some (.int .u32 (g k : Int)) := by rw [hb.cell (Rd.lt hcell' (by omega))]; exact hcell' k (by omega)
        have dk2 := dg k (by omega)
        have Hv : Hid (val s k + y * 4294967296 ^ k = val f k + val (ext g m) k) := hv
        have Hs : Hid (wr.heap.size = w.heap.size + 1) := hsz
        have Hk : Hid (k + (q + 1) = n) := hk
        clear hv hsz hk
        go_wp2
        have he : ext g m k = g k := by simp [ext, hkm]
        have hst := add_step Hv.out
        rw [he] at hst
        go_roundg q
        case measure => omega
        case rel => exact ⟨k + 1, (y + f k + g k) / 4294967296, _, by have := Hk.out; omega, by go_num, by go_num, by omega, dig_upd ds (Nat.mod_lt _ (by omega)), hst, hb.setCell (Nat.le_refl _) _, by simpa using Hs.out, dsts_step hrow (by omega)⟩
      · have Hv : Hid (val s k + y * 4294967296 ^ k = val f k + val (ext g m) k) := hv
        have Hs : Hid (wr.heap.size = w.heap.size + 1) := hsz
        have Hk : Hid (k + (q + 1) = n) := hk
        clear hv hsz hk
        go_wp2
        have he : ext g m k = 0 := by simp [ext, hkm]
        have hst := add_step Hv.out
        rw [he] at hst
        go_roundg q
        case measure => omega
        case rel => exact ⟨k + 1, (y + f k + 0) / 4294967296, _, by have := Hk.out; omega, by go_num, by go_num, by omega, dig_upd ds (Nat.mod_lt _ (by omega)), hst, hb.setCell (Nat.le_refl _) _, by simpa using Hs.out, dsts_step hrow (by omega)⟩

set_option maxHeartbeats 800000 in
theorem add_swap (A B : Option Addr) (n m c d : Nat) (f g : Nat → Nat) (w : World) (hn : n ≤ 10000000000) (hmn : m < n) (hA : Rd w A n f) (hB : Rd w B m g) (df : Dig f n) (dg : Dig g m) :
    Calls Tryz.prog 75 #[.slice B m d, .slice A n c] w (NatOut w (val f n + val g m)) := by
  obtain ⟨b, off, hAe, hcell⟩ := hA
  obtain ⟨b', off', hBe, hcell'⟩ := hB
  have hmk := run_make_row' (P := Tryz.prog) 86 93 (.int .u32 0) 4 Tryz.underlying86 Tryz.infoU32 rfl .i64 .i64 (n + 1) (by omega) (by omega)
  rw [show ((n + 1 : Nat) : Int) = (n : Int) + 1 by omega] at hmk
  have hnm : decide (m < n) = true := by simp; omega
  go_enter Tryz.func75, Tryz.ntmps75
  go_wp2
  clear hmk
  go_loopg [6, 22] n (fun q cy i wx => ∃ (k y : Nat) (s : Nat → Nat), k + q = n ∧ i = .int .i64 k ∧ cy = .int .u64 (y : Int) ∧ y ≤ 1 ∧ Dig s k ∧ val s k + y * 4294967296 ^ k = val f k + val (ext g m) k ∧ Below w.heap.size w wx ∧ wx.heap.size = w.heap.size + 1 ∧ wx.rowIs w.heap.size 93 (n + 1) (dsts s k))
  case atStart => exact ⟨0, 0, fun _ => 0, by omega, rfl, rfl, by omega, fun i h => absurd h (by omega), rfl, (Below.refl _ _).alloc (Nat.le_refl _) _, by simp, (World.rowIs_made w _ (n + 1) _).congr (fun i _ => by simp [dsts])⟩
  case round =>
    obtain ⟨k, y, s, hk, rfl, rfl, hy, ds, hv, hb, hsz, hrow⟩ := hrel
    rcases gk with _ | q
    · obtain rfl : k = n := by omega
      clear hk
      have hw1 := hrow.cell (i := k) (by omega)
      have hw2 := hrow.frozen k
      have Hv : Hid (val s k + y * 4294967296 ^ k = val f k + val (ext g m) k) := hv
      have Hs : Hid (wr.heap.size = w.heap.size + 1) := hsz
      clear hv hsz
      have hrow2 := dsts_step hrow (x := (y : Int)) rfl
      have hb2 := hb.setCell (p := ⟨w.heap.size, k, none⟩) (Nat.le_refl _) (.int .u32 (y : Int))
      have ds2 := dig_upd ds (show y < 4294967296 by omega)
      have hr2 := dsts_rd hrow2
      clear hrow2
      go_wp2_with fail
      refine (trim_any _ (k + 1) (k + 1) (upd s k y) _ (Nat.le_refl _) (by omega) hr2).mono ?_
      rintro e w' ⟨rfl, rfl⟩
      go_wp2
      go_ret
      exact nat_out hr2 hb2 ds2 (by omega) (by rw [val_upd, Hv.out, val_ext _ _ _ (by omega)])
    · obtain rfl := hAe (by omega)
      have hx : wr.cell? ⟨b, off + k, none⟩ = some (.int .u32 (f k : Int)) := by rw [hb.cell (Rd.lt hcell (by omega))]; exact hcell k (by omega)
      have hw1 := hrow.cell (i := k) (by omega)
      have hw2 := hrow.frozen k
      have dk := df k (by omega)
      have hkn : k < n := by omega
      by_cases hkm : k < m
      · obtain rfl := hBe (by omega)
        have hx2 : wr.cell? ⟨b', off' + k, none⟩ = some (.int .u32 (g k : Int)) := by rw [hb.cell (Rd.lt hcell' (by omega))]; exact hcell' k (by omega)
        have dk2 := dg k (by omega)
        have Hv : Hid (val s k + y * 4294967296 ^ k = val f k + val (ext g m) k) := hv
        have Hs : Hid (wr.heap.size = w.heap.size + 1) := hsz
        have Hk : Hid (k + (q + 1) = n) := hk
        clear hv hsz hk
        go_wp2
        have he : ext g m k = g k := by simp [ext, hkm]
        have hst := add_step Hv.out
        rw [he] at hst
        go_roundg q
        case measure => omega
        case rel => exact ⟨k + 1, (y + f k + g k) / 4294967296, _, by have := Hk.out; omega, by go_num, by go_num, by omega, dig_upd ds (Nat.mod_lt _ (by omega)), hst, hb.setCell (Nat.le_refl _) _, by simpa using Hs.out, dsts_step hrow (by omega)⟩
      · have Hv : Hid (val s k + y * 4294967296 ^ k = val f k + val (ext g m) k) := hv
        have Hs : Hid (wr.heap.size = w.heap.size + 1) := hsz
        have Hk : Hid (k + (q + 1) = n) := hk
        clear hv hsz hk
        go_wp2
        have he : ext g m k = 0 := by simp [ext, hkm]
        have hst := add_step Hv.out
        rw [he] at hst
        go_roundg q
        case measure => omega
        case rel => exact ⟨k + 1, (y + f k + 0) / 4294967296, _, by have := Hk.out; omega, by go_num, by go_num, by omega, dig_upd ds (Nat.mod_lt _ (by omega)), hst, hb.setCell (Nat.le_refl _) _, by simpa using Hs.out, dsts_step hrow (by omega)⟩

set_option maxHeartbeats 800000 in
theorem add_any (A B : Option Addr) (n m c d N M : Nat) (w : World) (hA : IsNat w A n c N) (hB : IsNat w B m d M) (hn : n ≤ 10000000000) (hm : m ≤ 10000000000) :
    Calls Tryz.prog 75 #[.slice A n c, .slice B m d] w (NatOut w (N + M)) := by
  obtain ⟨hnc, hc, f, hf, df, tf, rfl⟩ := hA
  obtain ⟨hmd, hd, g, hg, dg, tg, rfl⟩ := hB
  by_cases h : m ≤ n
  · exact add_ord A B n m c d f g w hn h hf hg df dg
  · rw [Nat.add_comm]
    exact add_swap B A m n d c g f w hm (by omega) hg hf dg df
end Go.Proofs.YtgcogpfmhmmgdaaGreatDoor
