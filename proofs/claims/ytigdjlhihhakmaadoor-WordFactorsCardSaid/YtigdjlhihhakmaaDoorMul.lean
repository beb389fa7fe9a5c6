/- What integer.multiply returns: the product. Condition: both are numbers in memory. -/
import Derived.Test.YtigdjlhihhakmaaDoorAdd
import Derived.Test.YtigdjlhihhakmaaDoorMull
namespace Go.Proofs.YtigdjlhihhakmaaDoor
open Go.RowKit

set_option maxHeartbeats 1600000 in
theorem mul_any (A B : Option Addr) (n m c d N M : Nat) (w : World) (hA : IsNat w A n c N) (hB : IsNat w B m d M) (hn : n ≤ 10000000000) (hm : m ≤ 10000000000) :
    Calls Tryd.prog 106 #[.slice A n c, .slice B m d] w (NatOut w (N * M)) := by
  obtain ⟨hnc, hc, f, ⟨b, off, hAe, hcell⟩, df, tf, rfl⟩ := hA
  obtain ⟨hmd, hd, g, ⟨b', off', hBe, hcell'⟩, dg, tg, rfl⟩ := hB
  have hmk := run_make_row' (P := Tryd.prog) 78 85 (.int .u32 0) 4 Tryd.underlying78 Tryd.infoU32 rfl .i64 .i64 (n + m) (by omega) (by omega)
  rw [show ((n + m : Nat) : Int) = (n : Int) + (m : Int) by omega] at hmk
  go_enter Tryd.func106, Tryd.ntmps106
  go_wp2
  clear hmk
  go_loopg [19] n (fun q i wx => ∃ (k : Nat) (p : Nat → Nat), k + q = n ∧ i = .int .i64 k ∧ Dig p (n + m) ∧ (∀ i, k + m ≤ i → p i = 0) ∧ val p (k + m) = val f k * val g m ∧ Below w.heap.size w wx ∧ wx.heap.size = w.heap.size + 1 ∧ wx.rowIs w.heap.size 85 (n + m) (dall p))
  case atStart => exact ⟨0, fun _ => 0, by omega, rfl, fun i _ => (by omega : (0 : Nat) < 4294967296), fun i _ => rfl, by rw [val_zeros _ (Nat.zero_le _) (fun _ _ => rfl)]; simp [val], (Below.refl _ _).alloc (Nat.le_refl _) _, by simp, (World.rowIs_made w _ (n + m) _).congr (fun i _ => by simp [dall])⟩
  case round =>
    obtain ⟨k, p, hk, rfl, dp, hz, hv, hb, hsz, hrow⟩ := hrel
    rcases gk with _ | q
    · obtain rfl : k = n := by omega
      clear hk
      have Hv : Hid (val p (k + m) = val f k * val g m) := hv
      have hr2 := dall_rd hrow
      clear hv hsz hz
      go_wp2_with fail
      refine (trim_any _ (k + m) (k + m) p _ (Nat.le_refl _) (by omega) hr2).mono ?_
      rintro e w' ⟨rfl, rfl⟩
      go_wp2
      go_ret
      exact nat_out hr2 hb dp (by omega) Hv.out
    · obtain rfl := hAe (by omega)
      have hx : wr.cell? ⟨b, off + k, none⟩ = some (.int .u32 (f k : Int)) := by rw [hb.cell (Rd.lt hcell (by omega))]; exact hcell k (by omega)
      have dk := df k (by omega)
      have hkn : k < n := by omega
      have Hv : Hid (val p (k + m) = val f k * val g m) := hv
      have Hs : Hid (wr.heap.size = w.heap.size + 1) := hsz
      have Hk : Hid (k + (q + 1) = n) := hk
      have Hz : Hid (∀ i, k + m ≤ i → p i = 0) := hz
      clear hv hsz hk hz
      obtain ⟨wo, rfl⟩ : ∃ wo : World, wo = wr := ⟨_, rfl⟩
      go_wp2
      go_loopg [8, 26] m (fun q2 cy i wx => ∃ (j y : Nat) (p : Nat → Nat), j + q2 = m ∧ i = .int .i64 j ∧ cy = .int .u64 (y : Int) ∧ y < 4294967296 ∧ Dig p (n + m) ∧ (∀ i, k + m ≤ i → p i = 0) ∧ val p (k + m) + y * 4294967296 ^ (k + j) = val f k * val g m + f k * val g j * 4294967296 ^ k ∧ Below w.heap.size w wx ∧ wx.heap.size = w.heap.size + 1 ∧ wx.rowIs w.heap.size 85 (n + m) (dall p))
      case atStart => exact ⟨0, 0, p, by omega, rfl, rfl, by omega, dp, Hz.out, by rw [Hv.out]; simp [val], hb, Hs.out, hrow⟩
      case round =>
        clear hx hb hrow dp
        obtain ⟨j, y, p2, hj, rfl, rfl, hy, dp, hz, hv, hb, hsz, hrow⟩ := hrel
        rcases gk with _ | q2
        · obtain rfl : j = m := by omega
          clear hj
          have Hv2 : Hid (val p2 (k + j) + y * 4294967296 ^ (k + j) = val f k * val g j + f k * val g j * 4294967296 ^ k) := hv
          have Hz2 : Hid (∀ i, k + j ≤ i → p2 i = 0) := hz
          have Hs2 : Hid (wr.heap.size = w.heap.size + 1) := hsz
          clear hv hz hsz
          have hw1 := hrow.cell (i := k + j) (by omega)
          have hw2 := hrow.frozen (k + j)
          go_wp2
          have hfin := mul_outer Hv2.out
          go_roundg q
          case measure => omega
          case rel => exact ⟨k + 1, upd p2 (k + j) y, by have := Hk.out; omega, by go_num, dig_set dp hy, fun i hi => by
            have e : i ≠ k + j := by omega
            simp only [upd, if_neg e]; exact Hz2.out i (by omega), hfin, hb.setCell (Nat.le_refl _) _, by simpa using Hs2.out, dall_set hrow _ rfl⟩
        · obtain rfl := hBe (by omega)
          have hx2 : wr.cell? ⟨b', off' + j, none⟩ = some (.int .u32 (g j : Int)) := by rw [hb.cell (Rd.lt hcell' (by omega))]; exact hcell' j (by omega)
          have dj := dg j (by omega)
          have hjm : j < m := by omega
          have Hv2 : Hid (val p2 (k + m) + y * 4294967296 ^ (k + j) = val f k * val g m + f k * val g j * 4294967296 ^ k) := hv
          have Hz2 : Hid (∀ i, k + m ≤ i → p2 i = 0) := hz
          have Hs2 : Hid (wr.heap.size = w.heap.size + 1) := hsz
          have Hj : Hid (j + (q2 + 1) = m) := hj
          clear hv hz hsz hj
          have hw1 : wr.cell? ⟨w.heap.size, k + j, none⟩ = some (.int .u32 (p2 (k + j) : Int)) := hrow.cell (i := k + j) (by omega)
          have hw2 := hrow.frozen (k + j)
          have dpj := dp (k + j) (by omega)
          have hp : f k * g j ≤ 4294967295 * 4294967295 := Nat.mul_le_mul (by omega) (by omega)
          have hp1 : (f k : Int) * (g j : Int) ≤ 18446744065119617025 := by
            rw [← Int.natCast_mul]; omega
          have hp0 : 0 ≤ (f k : Int) * (g j : Int) := by rw [← Int.natCast_mul]; omega
          go_wp2
          have hst := mul_inner (t := y + (f k * g j + p2 (k + j))) hjm Hv2.out rfl
          have e1 : (y : Int) + ((f k : Int) * (g j : Int) + (p2 (k + j) : Int)) = ((y + (f k * g j + p2 (k + j)) : Nat) : Int) := by rw [Int.natCast_add, Int.natCast_add, Int.natCast_mul]
          go_roundg q2
          case measure => omega
          case rel => exact ⟨j + 1, (y + (f k * g j + p2 (k + j))) / 4294967296, upd p2 (k + j) ((y + (f k * g j + p2 (k + j))) % 4294967296), by have := Hj.out; omega, by go_num, by rw [e1, Int.natCast_ediv]; rfl, by omega, dig_set dp (Nat.mod_lt _ (by omega)), fun i hi => by
            have e : i ≠ k + j := by omega
            simp only [upd, if_neg e]; exact Hz2.out i (by omega), hst, hb.setCell (Nat.le_refl _) _, by simpa using Hs2.out, dall_set hrow _ (by rw [e1, Int.natCast_emod]; rfl)⟩
end Go.Proofs.YtigdjlhihhakmaaDoor
