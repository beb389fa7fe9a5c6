/- What integer.subtract returns: the difference. Condition: both are numbers in memory; the second one is not greater. -/
import Derived.Test.YtigdjlhihhakmaaDoorAdd
import Derived.Test.YtigdjlhihhakmaaDoorSubl
import Derived.Test.YtigdjlhihhakmaaDoorCmpl
namespace Go.Proofs.YtigdjlhihhakmaaDoor
open Go.RowKit

/-- The borrow. -/
def bor (x y b : Nat) : Nat := if x < y + b then 1 else 0
theorem bor_le (x y b : Nat) : bor x y b ≤ 1 := by unfold bor; split <;> omega
theorem bor_eq (x y b : Nat) (hx : x < 4294967296) (hy : y < 4294967296) (hb : b ≤ 1) : x + 4294967296 * bor x y b = y + b + (x + 4294967296 * bor x y b - y - b) ∧ x + 4294967296 * bor x y b - y - b < 4294967296 := by
  unfold bor; split <;> omega

/-- bits.Sub32: the difference, and the borrow. -/
theorem sub32_any (x y b : Nat) (w : World) (hx : x < 4294967296) (hy : y < 4294967296) (hb : b ≤ 1) :
    Calls Tryd.prog 95 #[.int .u32 (x : Int), .int .u32 (y : Int), .int .u32 (b : Int)] w fun e w' =>
      e = .returned (.tuple #[.int .u32 ((x + 4294967296 * bor x y b - y - b : Nat) : Int), .int .u32 (bor x y b : Int)]) ∧ w = w' := by
  have H : Hid (bits .or .u32 (bits .and .u32 (bits .xor .u32 IntKind.u32.max (x : Int)) (y : Int)) (bits .and .u32 (bits .xor .u32 IntKind.u32.max (bits .xor .u32 (x : Int) (y : Int))) (((x : Int) - y - b) % 4294967296)) / 2147483648 = (bor x y b : Int)) := borrow x y b hx hy hb
  have H2 : Hid ((((x : Int) - y) % 4294967296 - b) % 4294967296 = ((x + 4294967296 * bor x y b - y - b : Nat) : Int)) := by
    show (((x : Int) - y) % 4294967296 - b) % 4294967296 = ((x + 4294967296 * bor x y b - y - b : Nat) : Int)
    unfold bor; split <;> omega
  have hs : IntKind.u32.signed = false := rfl
  go_enter Tryd.func95, Tryd.ntmps95
  go_wp2
  go_ret2
  exact ⟨by rw [← H.out, ← H2.out]; rfl, rfl⟩

set_option maxHeartbeats 800000 in
theorem subtract_any (A B : Option Addr) (n m c d N M : Nat) (w : World) (hA : IsNat w A n c N) (hB : IsNat w B m d M) (hn : n ≤ 10000000000) (hm : m ≤ 10000000000) (hle : M ≤ N) :
    Calls Tryd.prog 63 #[.slice A n c, .slice B m d] w (NatOut w (N - M)) := by
  obtain ⟨hnc, hc, f, ⟨b, off, hAe, hcell⟩, df, tf, rfl⟩ := hA
  obtain ⟨hmd, hd, g, ⟨b', off', hBe, hcell'⟩, dg, tg, rfl⟩ := hB
  have hmn : m ≤ n := by
    by_cases h : m ≤ n
    · exact h
    · have := val_lt_len df tg (show n < m by omega)
      omega
  have hmk := run_make_row' (P := Tryd.prog) 78 85 (.int .u32 0) 4 Tryd.underlying78 Tryd.infoU32 rfl .i64 .i64 n (by omega) (by omega)
  go_enter Tryd.func63, Tryd.ntmps63
  go_wp2
  clear hmk
  go_loopg [6, 15] n (fun q cy i wx => ∃ (k y : Nat) (s : Nat → Nat), k + q = n ∧ i = .int .i64 k ∧ cy = .int .u32 (y : Int) ∧ y ≤ 1 ∧ Dig s k ∧ val s k + val (ext g m) k = val f k + y * 4294967296 ^ k ∧ Below w.heap.size w wx ∧ wx.heap.size = w.heap.size + 1 ∧ wx.rowIs w.heap.size 85 n (dsts s k))
  case atStart => exact ⟨0, 0, fun _ => 0, by omega, rfl, rfl, by omega, fun i h => absurd h (by omega), rfl, (Below.refl _ _).alloc (Nat.le_refl _) _, by simp, (World.rowIs_made w _ n _).congr (fun i _ => by simp [dsts])⟩
  case round =>
    obtain ⟨k, y, s, hk, rfl, rfl, hy, ds, hv, hb, hsz, hrow⟩ := hrel
    rcases gk with _ | q
    · obtain rfl : k = n := by omega
      clear hk
      have hfin : val s k = val f k - val g m := by
        rw [val_ext _ _ _ hmn] at hv
        have h1 := val_lt ds
        rcases (show y = 0 ∨ y = 1 by omega) with rfl | rfl <;> omega
      have Hv : Hid (val s k = val f k - val g m) := hfin
      have hr2 := dsts_rd hrow
      clear hv hsz hfin
      go_wp2_with fail
      refine (trim_any _ k k s _ (Nat.le_refl _) (by omega) hr2).mono ?_
      rintro e w' ⟨rfl, rfl⟩
      go_wp2
      go_ret
      exact nat_out hr2 hb ds (by omega) Hv.out
    · obtain rfl := hAe (by omega)
      have hx : wr.cell? ⟨b, off + k, none⟩ = some (.int .u32 (f k : Int)) := by rw [hb.cell (Rd.lt hcell (by omega))]; exact hcell k (by omega)
      have hw1 := hrow.cell (i := k) (by omega)
      have hw2 := hrow.frozen k
      have dk := df k (by omega)
      have hkn : k < n := by omega
      have Hv : Hid (val s k + val (ext g m) k = val f k + y * 4294967296 ^ k) := hv
      have Hs : Hid (wr.heap.size = w.heap.size + 1) := hsz
      have Hk : Hid (k + (q + 1) = n) := hk
      clear hv hsz hk
      by_cases hkm : k < m
      · obtain rfl := hBe (by omega)
        have hx2 : wr.cell? ⟨b', off' + k, none⟩ = some (.int .u32 (g k : Int)) := by rw [hb.cell (Rd.lt hcell' (by omega))]; exact hcell' k (by omega)
        have dk2 := dg k (by omega)
        go_wp2_with (go_at_call 95; refine (sub32_any (f k) (g k) y _ dk dk2 hy).mono ?_; rintro e w' ⟨rfl, rfl⟩)
        have he : ext g m k = g k := by simp [ext, hkm]
        have hb3 := bor_eq (f k) (g k) y dk dk2 hy
        have hb4 := bor_le (f k) (g k) y
        have hst := sub_step Hv.out (bor (f k) (g k) y) (by rw [he]; exact hb3.1)
        go_roundg q
        case measure => omega
        case rel => exact ⟨k + 1, bor (f k) (g k) y, _, by have := Hk.out; omega, by go_num, rfl, hb4, dig_upd ds hb3.2, hst, hb.setCell (Nat.le_refl _) _, by simpa using Hs.out, dsts_step hrow rfl⟩
      · go_wp2_with (go_at_call 95; refine (sub32_any (f k) 0 y _ dk (by omega) hy).mono ?_; rintro e w' ⟨rfl, rfl⟩)
        have he : ext g m k = 0 := by simp [ext, hkm]
        have hb3 := bor_eq (f k) 0 y dk (by omega) hy
        have hb4 := bor_le (f k) 0 y
        have hst := sub_step Hv.out (bor (f k) 0 y) (by rw [he]; exact hb3.1)
        go_roundg q
        case measure => omega
        case rel => exact ⟨k + 1, bor (f k) 0 y, _, by have := Hk.out; omega, by go_num, rfl, hb4, dig_upd ds hb3.2, hst, hb.setCell (Nat.le_refl _) _, by simpa using Hs.out, dsts_step hrow rfl⟩
end Go.Proofs.YtigdjlhihhakmaaDoor
