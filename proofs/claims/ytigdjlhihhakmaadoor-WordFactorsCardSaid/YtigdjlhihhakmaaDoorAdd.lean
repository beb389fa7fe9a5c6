/- What integer.add returns: the sum. Condition: both are numbers in memory without zeros at the end. -/
import Derived.Test.YtigdjlhihhakmaaDoorTrim
import Derived.WalkKit
import Derived.Deep.LoopGhost
import Derived.Deep.OwnRows
namespace Go.Proofs.YtigdjlhihhakmaaDoor
open Go.RowKit

theorem Tryd.infoU32 : (Tryd.prog.info? 85).map (fun i => (i.zero, i.size, i.bytes)) = some (some (.int .u32 0), 1, 4) := by kernel_rfl


theorem add_step {s f g : Nat → Nat} {k m y : Nat} (hv : val s k + y * 4294967296 ^ k = val f k + val (ext g m) k) :
    val (upd s k ((y + f k + ext g m k) % 4294967296)) (k + 1) + (y + f k + ext g m k) / 4294967296 * 4294967296 ^ (k + 1) = val f (k + 1) + val (ext g m) (k + 1) := by
  rw [val_upd, val, val, Nat.pow_succ]
  have h := Nat.div_add_mod (y + f k + ext g m k) 4294967296
  generalize hq : (y + f k + ext g m k) / 4294967296 = q at *
  generalize hr : (y + f k + ext g m k) % 4294967296 = r at *
  generalize 4294967296 ^ k = P at *
  have e : (4294967296 * q + r) * P = (y + f k + ext g m k) * P := by rw [h]
  rw [Nat.add_mul, Nat.add_mul, Nat.add_mul] at e
  have e2 : q * (P * 4294967296) = 4294967296 * q * P := by rw [Nat.mul_comm P, ← Nat.mul_assoc, Nat.mul_comm q]
  rw [e2]
  omega

set_option maxHeartbeats 800000 in
theorem add_ord (A B : Option Addr) (n m c d : Nat) (f g : Nat → Nat) (w : World) (hn : n ≤ 10000000000) (hmn : m ≤ n) (hA : Rd w A n f) (hB : Rd w B m g) (df : Dig f n) (dg : Dig g m) :
    Calls Tryd.prog 61 #[.slice A n c, .slice B m d] w (NatOut w (val f n + val g m)) := by
  obtain ⟨b, off, hAe, hcell⟩ := hA
  obtain ⟨b', off', hBe, hcell'⟩ := hB
  have hmk := run_make_row' (P := Tryd.prog) 78 85 (.int .u32 0) 4 Tryd.underlying78 Tryd.infoU32 rfl .i64 .i64 (n + 1) (by omega) (by omega)
  rw [show ((n + 1 : Nat) : Int) = (n : Int) + 1 by omega] at hmk
  have hnm : decide (n < m) = false := by simp; omega
  go_enter Tryd.func61, Tryd.ntmps61
  go_wp2
  clear hmk
  go_loopg [6, 22] n (fun q cy i wx => ∃ (k y : Nat) (s : Nat → Nat), k + q = n ∧ i = .int .i64 k ∧ cy = .int .u64 (y : Int) ∧ y ≤ 1 ∧ Dig s k ∧ val s k + y * 4294967296 ^ k = val f k + val (ext g m) k ∧ Below w.heap.size w wx ∧ wx.heap.size = w.heap.size + 1 ∧ wx.rowIs w.heap.size 85 (n + 1) (dsts s k))
  case atStart => exact ⟨0, 0, fun _ => 0, by omega, rfl, rfl, by omega, fun i h => absurd h (by omega), rfl, (Below.refl _ _).alloc (Nat.le_refl _) _, by simp, (World.rowIs_made w _ (n + 1) _).congr (fun i _ => by simp [dsts])⟩
  case round =>
    obtain ⟨k, y, s, hk, rfl, rfl, hy, ds, hv, hb, hsz, hrow⟩ := hrel
    rcases gk with _ | q
    · obtain rfl : k = n := by omega
      clear hk
      have hw1 := hrow.cell (i := k) (by omega)
      have hw2 := hrow.frozen k
      have Hv : Hid (val s k + y * 4294967296 ^ k = val f k + val (ext g m) k) := hv
      have Hs : Hid (wr.heap.size = w.heap.size + 1) := hsz
      clear hv hsz
      have hrow2 := dsts_step hrow (x := (y : Int)) rfl
      have hb2 := hb.setCell (p := ⟨w.heap.size, k, none⟩) (Nat.le_refl _) (.int .u32 (y : Int))
      have ds2 := dig_upd ds (show y < 4294967296 by omega)
      have hr2 := dsts_rd hrow2
      clear hrow2
      go_wp2_with fail
      refine (trim_any _ (k + 1) (k + 1) (upd s k y) _ (Nat.le_refl _) (by omega) hr2).mono ?_
      rintro e w' ⟨rfl, rfl⟩
      go_wp2
      go_ret
      exact nat_out hr2 hb2 ds2 (by omega) (by rw [val_upd, Hv.out, val_ext _ _ _ hmn])
    · obtain rfl := hAe (by omega)
      have hx : wr.cell? ⟨b, off + k, none⟩ = some (.int .u32 (f k : Int)) := by rw [hb.cell (Rd.lt hcell (by omega))]; exact hcell k (by omega)
      have hw1 := hrow.cell (i := k) (by omega)
      have hw2 := hrow.frozen k
      have dk := df k (by omega)
      have hkn : k < n := by omega
      by_cases hkm : k < m
      · obtain rfl := hBe (by omega)
        have hx2 : wr.cell? ⟨b', off' + k, none⟩ = some (.int .u32 (g k : Int)) := by rw [hb.cell (Rd.lt hcell' (by omega))]; exact hcell' k (by omega)
        have dk2 := dg k (by omega)
        have Hv : Hid (val s k + y * 4294967296 ^ k = val f k + val (ext g m) k) := hv
        have Hs : Hid (wr.heap.size = w.heap.size + 1) := hsz
        have Hk : Hid (k + (q + 1) = n) := hk
        clear hv hsz hk
        go_wp2
        have he : ext g m k = g k := by simp [ext, hkm]
        have hst := add_step Hv.out
        rw [he] at hst
        go_roundg q
        case measure => omega
        case rel => exact ⟨k + 1, (y + f k + g k) / 4294967296, _, by have := Hk.out; omega, by go_num, by go_num, by omega, dig_upd ds (Nat.mod_lt _ (by omega)), hst, hb.setCell (Nat.le_refl _) _, by simpa using Hs.out, dsts_step hrow (by omega)⟩
      · have Hv : Hid (val s k + y * 4294967296 ^ k = val f k + val (ext g m) k) := hv
        have Hs : Hid (wr.heap.size = w.heap.size + 1) := hsz
        have Hk : Hid (k + (q + 1) = n) := hk
        clear hv hsz hk
        go_wp2
        have he : ext g m k = 0 := by simp [ext, hkm]
        have hst := add_step Hv.out
        rw [he] at hst
        go_roundg q
        case measure => omega
        case rel => exact ⟨k + 1, (y + f k + 0) / 4294967296, _, by have := Hk.out; omega, by go_num, by go_num, by omega, dig_upd ds (Nat.mod_lt _ (by omega)), hst, hb.setCell (Nat.le_refl _) _, by simpa using Hs.out, dsts_step hrow (by omega)⟩

set_option maxHeartbeats 800000 in
theorem add_swap (A B : Option Addr) (n m c d : Nat) (f g : Nat → Nat) (w : World) (hn : n ≤ 10000000000) (hmn : m < n) (hA : Rd w A n f) (hB : Rd w B m g) (df : Dig f n) (dg : Dig g m) :
    Calls Tryd.prog 61 #[.slice B m d, .slice A n c] w (NatOut w (val f n + val g m)) := by
  obtain ⟨b, off, hAe, hcell⟩ := hA
  obtain ⟨b', off', hBe, hcell'⟩ := hB
  have hmk := run_make_row' (P := Tryd.prog) 78 85 (.int .u32 0) 4 Tryd.underlying78 Tryd.infoU32 rfl .i64 .i64 (n + 1) (by omega) (by omega)
  rw [show ((n + 1 : Nat) : Int) = (n : Int) + 1 by omega] at hmk
  have hnm : decide (m < n) = true := by simp; omega
  go_enter Tryd.func61, Tryd.ntmps61
  go_wp2
  clear hmk
  go_loopg [6, 22] n (fun q cy i wx => ∃ (k y : Nat) (s : Nat → Nat), k + q = n ∧ i = .int .i64 k ∧ cy = .int .u64 (y : Int) ∧ y ≤ 1 ∧ Dig s k ∧ val s k + y * 4294967296 ^ k = val f k + val (ext g m) k ∧ Below w.heap.size w wx ∧ wx.heap.size = w.heap.size + 1 ∧ wx.rowIs w.heap.size 85 (n + 1) (dsts s k))
  case atStart => exact ⟨0, 0, fun _ => 0, by omega, rfl, rfl, by omega, fun i h => absurd h (by omega), rfl, (Below.refl _ _).alloc (Nat.le_refl _) _, by simp, (World.rowIs_made w _ (n + 1) _).congr (fun i _ => by simp [dsts])⟩
  case round =>
    obtain ⟨k, y, s, hk, rfl, rfl, hy, ds, hv, hb, hsz, hrow⟩ := hrel
    rcases gk with _ | q
    · obtain rfl : k = n := by omega
      clear hk
      have hw1 := hrow.cell (i := k) (by omega)
      have hw2 := hrow.frozen k
      have Hv : Hid (val s k + y * 4294967296 ^ k = val f k + val (ext g m) k) := hv
      have Hs : Hid (wr.heap.size = w.heap.size + 1) := hsz
      clear hv hsz
      have hrow2 := dsts_step hrow (x := (y : Int)) rfl
      have hb2 := hb.setCell (p := ⟨w.heap.size, k, none⟩) (Nat.le_refl _) (.int .u32 (y : Int))
      have ds2 := dig_upd ds (show y < 4294967296 by omega)
      have hr2 := dsts_rd hrow2
      clear hrow2
      go_wp2_with fail
      refine (trim_any _ (k + 1) (k + 1) (upd s k y) _ (Nat.le_refl _) (by omega) hr2).mono ?_
      rintro e w' ⟨rfl, rfl⟩
      go_wp2
      go_ret
      exact nat_out hr2 hb2 ds2 (by omega) (by rw [val_upd, Hv.out, val_ext _ _ _ (by omega)])
    · obtain rfl := hAe (by omega)
      have hx : wr.cell? ⟨b, off + k, none⟩ = some (.int .u32 (f k : Int)) := by rw [hb.cell (Rd.lt hcell (by omega))]; exact hcell k (by omega)
      have hw1 := hrow.cell (i := k) (by omega)
      have hw2 := hrow.frozen k
      have dk := df k (by omega)
      have hkn : k < n := by omega
      by_cases hkm : k < m
      · obtain rfl := hBe (by omega)
        have hx2 : wr.cell? ⟨b', off' + k, none⟩ = some (.int .u32 (g k : Int)) := by rw [hb.cell (Rd.lt hcell' (by omega))]; exact hcell' k (by omega)
        have dk2 := dg k (by omega)
        have Hv : Hid (val s k + y * 4294967296 ^ k = val f k + val (ext g m) k) := hv
        have Hs : Hid (wr.heap.size = w.heap.size + 1) := hsz
        have Hk : Hid (k + (q + 1) = n) := hk
        clear hv hsz hk
        go_wp2
        have he : ext g m k = g k := by simp [ext, hkm]
        have hst := add_step Hv.out
        rw [he] at hst
        go_roundg q
        case measure => omega
        case rel => exact ⟨k + 1, (y + f k + g k) / 4294967296, _, by have := Hk.out; omega, by go_num, by go_num, by omega, dig_upd ds (Nat.mod_lt _ (by omega)), hst, hb.setCell (Nat.le_refl _) _, by simpa using Hs.out, dsts_step hrow (by omega)⟩
      · have Hv : Hid (val s k + y * 4294967296 ^ k = val f k + val (ext g m) k) := hv
        have Hs : Hid (wr.heap.size = w.heap.size + 1) := hsz
        have Hk : Hid (k + (q + 1) = n) := hk
        clear hv hsz hk
        go_wp2
        have he : ext g m k = 0 := by simp [ext, hkm]
        have hst := add_step Hv.out
        rw [he] at hst
        go_roundg q
        case measure => omega
        case rel => exact ⟨k + 1, (y + f k + 0) / 4294967296, _, by have := Hk.out; omega, by go_num, by go_num, by omega, dig_upd ds (Nat.mod_lt _ (by omega)), hst, hb.setCell (Nat.le_refl _) _, by simpa using Hs.out, dsts_step hrow (by omega)⟩

set_option maxHeartbeats 800000 in
theorem add_any (A B : Option Addr) (n m c d N M : Nat) (w : World) (hA : IsNat w A n c N) (hB : IsNat w B m d M) (hn : n ≤ 10000000000) (hm : m ≤ 10000000000) :
    Calls Tryd.prog 61 #[.slice A n c, .slice B m d] w (NatOut w (N + M)) := by
  obtain ⟨hnc, hc, f, hf, df, tf, rfl⟩ := hA
  obtain ⟨hmd, hd, g, hg, dg, tg, rfl⟩ := hB
  by_cases h : m ≤ n
  · exact add_ord A B n m c d f g w hn h hf hg df dg
  · rw [Nat.add_comm]
    exact add_swap B A m n d c g f w hm (by omega) hg hf dg df
end Go.Proofs.YtigdjlhihhakmaaDoor
