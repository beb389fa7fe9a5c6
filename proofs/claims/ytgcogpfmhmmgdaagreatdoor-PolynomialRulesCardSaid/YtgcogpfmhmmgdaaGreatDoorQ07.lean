/- Plain facts: the borrow of a subtraction of 32 bits, as bits.Sub32 reckons it; differences by digits. No condition. What integer.subtract returns: the difference. Condition: both are numbers in memory; the second one is not greater. What integer.multiply returns: the product. Condition: both are numbers in memory. -/
import Derived.Test.YtgcogpfmhmmgdaaGreatDoorQ01
import Derived.Laws.BitsAllLaws
import Derived.Test.YtgcogpfmhmmgdaaGreatDoorQ06
import Derived.Test.YtgcogpfmhmmgdaaGreatDoorQ04

namespace Go.Proofs.YtgcogpfmhmmgdaaGreatDoor
open Go.RowKit

theorem top_bit (n : Nat) (h : n < 4294967296) : n / 2147483648 = (n.testBit 31).toNat := by
  rw [Nat.testBit_eq_decide_div_mod_eq]
  have : n / 2 ^ 31 = n / 2147483648 := rfl
  rw [this]
  have h2 : n / 2147483648 < 2 := by omega
  by_cases e : n / 2147483648 % 2 = 1
  · simp [e]; omega
  · simp [e]; omega
theorem tb31 (n : Nat) (h : n < 4294967296) : n.testBit 31 = decide (2147483648 ≤ n) := by
  rw [Nat.testBit_eq_decide_div_mod_eq]
  have : n / 2 ^ 31 = n / 2147483648 := rfl
  rw [this, decide_eq_decide]
  omega

theorem borrow_nat (x y d b : Nat) (hx : x < 4294967296) (hy : y < 4294967296) (hb : b ≤ 1) (hd : d < 4294967296) (he : x + 4294967296 * (if x < y + b then 1 else 0) = y + b + d) :
    (((4294967295 ^^^ x) &&& y) ||| ((4294967295 ^^^ (x ^^^ y)) &&& d)) / 2147483648 = if x < y + b then 1 else 0 := by
  have h1 : 4294967295 ^^^ x < 2 ^ 32 := Nat.xor_lt_two_pow (by omega) (by omega)
  have h2 : x ^^^ y < 2 ^ 32 := Nat.xor_lt_two_pow (by omega) (by omega)
  have h3 : 4294967295 ^^^ (x ^^^ y) < 2 ^ 32 := Nat.xor_lt_two_pow (by omega) h2
  have h4 : (4294967295 ^^^ x) &&& y < 2 ^ 32 := Nat.and_lt_two_pow _ (by omega)
  have h5 : (4294967295 ^^^ (x ^^^ y)) &&& d < 2 ^ 32 := Nat.and_lt_two_pow _ (by omega)
  have h6 : ((4294967295 ^^^ x) &&& y) ||| ((4294967295 ^^^ (x ^^^ y)) &&& d) < 2 ^ 32 := Nat.or_lt_two_pow h4 h5
  rw [top_bit _ (by omega)]
  simp only [Nat.testBit_or, Nat.testBit_and, Nat.testBit_xor]
  rw [tb31 x hx, tb31 y hy, tb31 d hd, tb31 4294967295 (by omega)]
  by_cases a1 : 2147483648 ≤ x <;> by_cases a2 : 2147483648 ≤ y <;> by_cases a3 : 2147483648 ≤ d <;> by_cases a4 : x < y + b <;> simp [a1, a2, a3, a4] at he ⊢ <;> omega

theorem borrow (x y b : Nat) (hx : x < 4294967296) (hy : y < 4294967296) (hb : b ≤ 1) :
    bits .or .u32 (bits .and .u32 (bits .xor .u32 IntKind.u32.max (x : Int)) (y : Int)) (bits .and .u32 (bits .xor .u32 IntKind.u32.max (bits .xor .u32 (x : Int) (y : Int))) (((x : Int) - y - b) % 4294967296)) / 2147483648 =
      ((if x < y + b then 1 else 0 : Nat) : Int) := by
  obtain ⟨d, hd, e, he⟩ : ∃ d : Nat, d < 4294967296 ∧ ((x : Int) - y - b) % 4294967296 = (d : Int) ∧ x + 4294967296 * (if x < y + b then 1 else 0) = y + b + d := by
    refine ⟨(((x : Int) - y - b) % 4294967296).toNat, by omega, by omega, ?_⟩
    split <;> omega
  rw [e, show IntKind.u32.max = ((4294967295 : Nat) : Int) from rfl]
  have h1 : 4294967295 ^^^ x < 2 ^ 32 := Nat.xor_lt_two_pow (by omega) (by omega)
  have h2 : x ^^^ y < 2 ^ 32 := Nat.xor_lt_two_pow (by omega) (by omega)
  have h3 : 4294967295 ^^^ (x ^^^ y) < 2 ^ 32 := Nat.xor_lt_two_pow (by omega) h2
  have h4 : (4294967295 ^^^ x) &&& y < 2 ^ 32 := Nat.and_lt_two_pow _ (by omega)
  have h5 : (4294967295 ^^^ (x ^^^ y)) &&& d < 2 ^ 32 := Nat.and_lt_two_pow _ (by omega)
  rw [u32_xor_nat _ _ (by omega) hx, u32_xor_nat _ _ hx hy, u32_xor_nat _ _ (by omega) (by omega), u32_and_nat _ _ (by omega) hy, u32_and_nat _ _ (by omega) hd, u32_or_nat _ _ (by omega) (by omega)]
  have h := borrow_nat x y d b hx hy hb hd he
  rw [← h, Int.natCast_ediv]
  rfl

theorem sub_step {s f g : Nat → Nat} {k m y d : Nat} (hv : val s k + val (ext g m) k = val f k + y * 4294967296 ^ k)
    (z : Nat) (he : f k + 4294967296 * z = ext g m k + y + d) :
    val (upd s k d) (k + 1) + val (ext g m) (k + 1) = val f (k + 1) + z * 4294967296 ^ (k + 1) := by
  rw [val_upd, val, val, Nat.pow_succ]
  generalize ext g m = G at *
  generalize 4294967296 ^ k = P at *
  have e : (f k + 4294967296 * z) * P = (G k + y + d) * P := by rw [he]
  rw [Nat.add_mul, Nat.add_mul, Nat.add_mul] at e
  have e2 : z * (P * 4294967296) = 4294967296 * z * P := by rw [Nat.mul_comm P, ← Nat.mul_assoc, Nat.mul_comm z]
  rw [e2]
  omega
end Go.Proofs.YtgcogpfmhmmgdaaGreatDoor

namespace Go.Proofs.YtgcogpfmhmmgdaaGreatDoor
open Go.RowKit

/-- The borrow. -/
def bor (x y b : Nat) : Nat := if x < y + b then 1 else 0
theorem bor_le (x y b : Nat) : bor x y b ≤ 1 := by unfold bor; split <;> omega
theorem bor_eq (x y b : Nat) (hx : x < 4294967296) (hy : y < 4294967296) (hb : b ≤ 1) : x + 4294967296 * bor x y b = y + b + (x + 4294967296 * bor x y b - y - b) ∧ x + 4294967296 * bor x y b - y - b < 4294967296 := by
  unfold bor; split <;> omega

/-- bits.Sub32: the difference, and the borrow. -/
theorem sub32_any (x y b : Nat) (w : World) (hx : x < 4294967296) (hy : y < 4294967296) (hb : b ≤ 1) :
    Calls Tryz.prog 102 #[.int .u32 (x : Int), .int .u32 (y : Int), .int .u32 (b : Int)] w fun e w' =>
      e = .returned (.tuple #[.int .u32 ((x + 4294967296 * bor x y b - y - b : Nat) : Int), .int .u32 (bor x y b : Int)]) ∧ w = w' := by
  have H : Hid (bits .or .u32 (bits .and .u32 (bits .xor .u32 IntKind.u32.max (x : Int)) (y : Int)) (bits .and .u32 (bits .xor .u32 IntKind.u32.max (bits .xor .u32 (x : Int) (y : Int))) (((x : Int) - y - b) % 4294967296)) / 2147483648 = (bor x y b : Int)) := borrow x y b hx hy hb
  have H2 : Hid ((((x : Int) - y) % 4294967296 - b) % 4294967296 = ((x + 4294967296 * bor x y b - y - b : Nat) : Int)) := by
    show (((x : Int) - y) % 4294967296 - b) % 4294967296 = ((x + 4294967296 * bor x y b - y - b : Nat) : Int)
    unfold bor; split <;> omega
  have hs : IntKind.u32.signed = false := rfl
  go_enter Tryz.func102, Tryz.ntmps102
  go_wp2
  go_ret2
  exact ⟨by rw [← H.out, ← H2.out]; rfl, rfl⟩

set_option maxHeartbeats 800000 in
theorem subtract_any (A B : Option Addr) (n m c d N M : Nat) (w : World) (hA : IsNat w A n c N) (hB : IsNat w B m d M) (hn : n ≤ 10000000000) (hm : m ≤ 10000000000) (hle : M ≤ N) :
    Calls Tryz.prog 77 #[.slice A n c, .slice B m d] w (NatOut w (N - M)) := by
  obtain ⟨hnc, hc, f, ⟨b, off, hAe, hcell⟩, df, tf, rfl⟩ := hA
  obtain ⟨hmd, hd, g, ⟨b', off', hBe, hcell'⟩, dg, tg, rfl⟩ := hB
  have hmn : m ≤ n := by
    by_cases h : m ≤ n
    · exact h
    · have := val_lt_len df tg (show n < m by omega)
      omega
  have hmk := run_make_row' (P := Tryz.prog) 86 93 (.int .u32 0) 4 Tryz.underlying86 Tryz.infoU32 rfl .i64 .i64 n (by omega) (by omega)
  go_enter Tryz.func77, Tryz.ntmps77
  go_wp2
  clear hmk
  go_loopg [6, 15] n (fun q cy i wx => ∃ (k y : Nat) (s : Nat → Nat), k + q = n ∧ i = .int .i64 k ∧ cy = .int .u32 (y : Int) ∧ y ≤ 1 ∧ Dig s k ∧ val s k + val (ext g m) k = val f k + y * 4294967296 ^ k ∧ Below w.heap.size w wx ∧ wx.heap.size = w.heap.size + 1 ∧ wx.rowIs w.heap.size 93 n (dsts s k))
  case atStart => exact ⟨0, 0, fun _ => 0, by omega, rfl, rfl, by omega, fun i h => absurd h (by omega), rfl, (Below.refl _ _).alloc (Nat.le_refl _) _, by simp, (World.rowIs_made w _ n _).congr (fun i _ => by simp [dsts])⟩
  case round =>
    obtain ⟨k, y, s, hk, rfl, rfl, hy, ds, hv, hb, hsz, hrow⟩ := hrel
    rcases gk with _ | q
    · obtain rfl : k = n := by omega
      clear hk
      have hfin : val s k = val f k - val g m := by
        rw [val_ext _ _ _ hmn] at hv
        have h1 := val_lt ds
        rcases (show y = 0 ∨ y = 1 by omega) with rfl | rfl <;> omega
      have Hv : Hid (val s k = val f k - val g m) := hfin
      have hr2 := dsts_rd hrow
      clear hv hsz hfin
      go_wp2_with fail
      refine (trim_any _ k k s _ (Nat.le_refl _) (by omega) hr2).mono ?_
      rintro e w' ⟨rfl, rfl⟩
      go_wp2
      go_ret
      exact nat_out hr2 hb ds (by omega) Hv.out
    · obtain rfl := hAe (by omega)
      have hx : wr.cell? ⟨b, off + k, none⟩ = some (.int .u32 (f k : Int)) := by rw [hb.cell (Rd.lt hcell (by omega))]; exact hcell k (by omega)
      have hw1 := hrow.cell (i := k) (by omega)
      have hw2 := hrow.frozen k
      have dk := df k (by omega)
      have hkn : k < n := by omega
      have Hv : Hid (val s k + val (ext g m) k = val f k + y * 4294967296 ^ k) := hv
      have Hs : Hid (wr.heap.size = w.heap.size + 1) := hsz
      have Hk : Hid (k + (q + 1) = n) := hk
      clear hv hsz hk
      by_cases hkm : k < m
      · obtain rfl := hBe (by omega)
        have hx2 : wr.cell? ⟨b', off' + k, none⟩ = some (.int .u32 (g k : Int)) := by rw [hb.cell (Rd.lt hcell' (by omega))]; exact hcell' k (by omega)
        have dk2 := dg k (by omega)
        go_wp2_with (go_at_call 102; refine (sub32_any (f k) (g k) y _ dk dk2 hy).mono ?_; rintro e w' ⟨rfl, rfl⟩)
        have he : ext g m k = g k := by simp [ext, hkm]
        have hb3 := bor_eq (f k) (g k) y dk dk2 hy
        have hb4 := bor_le (f k) (g k) y
        have hst := sub_step Hv.out (bor (f k) (g k) y) (by rw [he]; exact hb3.1)
        go_roundg q
        case measure => omega
        case rel => exact ⟨k + 1, bor (f k) (g k) y, _, by have := Hk.out; omega, by go_num, rfl, hb4, dig_upd ds hb3.2, hst, hb.setCell (Nat.le_refl _) _, by simpa using Hs.out, dsts_step hrow rfl⟩
      · go_wp2_with (go_at_call 102; refine (sub32_any (f k) 0 y _ dk (by omega) hy).mono ?_; rintro e w' ⟨rfl, rfl⟩)
        have he : ext g m k = 0 := by simp [ext, hkm]
        have hb3 := bor_eq (f k) 0 y dk (by omega) hy
        have hb4 := bor_le (f k) 0 y
        have hst := sub_step Hv.out (bor (f k) 0 y) (by rw [he]; exact hb3.1)
        go_roundg q
        case measure => omega
        case rel => exact ⟨k + 1, bor (f k) 0 y, _, by have := Hk.out; omega, by go_num, rfl, hb4, dig_upd ds hb3.2, hst, hb.setCell (Nat.le_refl _) _, by simpa using Hs.out, dsts_step hrow rfl⟩
end Go.Proofs.YtgcogpfmhmmgdaaGreatDoor

namespace Go.Proofs.YtgcogpfmhmmgdaaGreatDoor
open Go.RowKit

set_option maxHeartbeats 1600000 in
theorem mul_any (A B : Option Addr) (n m c d N M : Nat) (w : World) (hA : IsNat w A n c N) (hB : IsNat w B m d M) (hn : n ≤ 10000000000) (hm : m ≤ 10000000000) :
    Calls Tryz.prog 79 #[.slice A n c, .slice B m d] w (NatOut w (N * M)) := by
  obtain ⟨hnc, hc, f, ⟨b, off, hAe, hcell⟩, df, tf, rfl⟩ := hA
  obtain ⟨hmd, hd, g, ⟨b', off', hBe, hcell'⟩, dg, tg, rfl⟩ := hB
  have hmk := run_make_row' (P := Tryz.prog) 86 93 (.int .u32 0) 4 Tryz.underlying86 Tryz.infoU32 rfl .i64 .i64 (n + m) (by omega) (by omega)
  rw [show ((n + m : Nat) : Int) = (n : Int) + (m : Int) by omega] at hmk
  go_enter Tryz.func79, Tryz.ntmps79
  go_wp2
  clear hmk
  go_loopg [19] n (fun q i wx => ∃ (k : Nat) (p : Nat → Nat), k + q = n ∧ i = .int .i64 k ∧ Dig p (n + m) ∧ (∀ i, k + m ≤ i → p i = 0) ∧ val p (k + m) = val f k * val g m ∧ Below w.heap.size w wx ∧ wx.heap.size = w.heap.size + 1 ∧ wx.rowIs w.heap.size 93 (n + m) (dall p))
  case atStart => exact ⟨0, fun _ => 0, by omega, rfl, fun i _ => (by omega : (0 : Nat) < 4294967296), fun i _ => rfl, by rw [val_zeros _ (Nat.zero_le _) (fun _ _ => rfl)]; simp [val], (Below.refl _ _).alloc (Nat.le_refl _) _, by simp, (World.rowIs_made w _ (n + m) _).congr (fun i _ => by simp [dall])⟩
  case round =>
    obtain ⟨k, p, hk, rfl, dp, hz, hv, hb, hsz, hrow⟩ := hrel
    rcases gk with _ | q
    · obtain rfl : k = n := by omega
      clear hk
      have Hv : Hid (val p (k + m) = val f k * val g m) := hv
      have hr2 := dall_rd hrow
      clear hv hsz hz
      go_wp2_with fail
      refine (trim_any _ (k + m) (k + m) p _ (Nat.le_refl _) (by omega) hr2).mono ?_
      rintro e w' ⟨rfl, rfl⟩
      go_wp2
      go_ret
      exact nat_out hr2 hb dp (by omega) Hv.out
    · obtain rfl := hAe (by omega)
      have hx : wr.cell? ⟨b, off + k, none⟩ = some (.int .u32 (f k : Int)) := by rw [hb.cell (Rd.lt hcell (by omega))]; exact hcell k (by omega)
      have dk := df k (by omega)
      have hkn : k < n := by omega
      have Hv : Hid (val p (k + m) = val f k * val g m) := hv
      have Hs : Hid (wr.heap.size = w.heap.size + 1) := hsz
      have Hk : Hid (k + (q + 1) = n) := hk
      have Hz : Hid (∀ i, k + m ≤ i → p i = 0) := hz
      clear hv hsz hk hz
      obtain ⟨wo, rfl⟩ : ∃ wo : World, wo = wr := ⟨_, rfl⟩
      go_wp2
      go_loopg [8, 26] m (fun q2 cy i wx => ∃ (j y : Nat) (p : Nat → Nat), j + q2 = m ∧ i = .int .i64 j ∧ cy = .int .u64 (y : Int) ∧ y < 4294967296 ∧ Dig p (n + m) ∧ (∀ i, k + m ≤ i → p i = 0) ∧ val p (k + m) + y * 4294967296 ^ (k + j) = val f k * val g m + f k * val g j * 4294967296 ^ k ∧ Below w.heap.size w wx ∧ wx.heap.size = w.heap.size + 1 ∧ wx.rowIs w.heap.size 93 (n + m) (dall p))
      case atStart => exact ⟨0, 0, p, by omega, rfl, rfl, by omega, dp, Hz.out, by rw [Hv.out]; simp [val], hb, Hs.out, hrow⟩
      case round =>
        clear hx hb hrow dp
        obtain ⟨j, y, p2, hj, rfl, rfl, hy, dp, hz, hv, hb, hsz, hrow⟩ := hrel
        rcases gk with _ | q2
        · obtain rfl : j = m := by omega
          clear hj
          have Hv2 : Hid (val p2 (k + j) + y * 4294967296 ^ (k + j) = val f k * val g j + f k * val g j * 4294967296 ^ k) := hv
          have Hz2 : Hid (∀ i, k + j ≤ i → p2 i = 0) := hz
          have Hs2 : Hid (wr.heap.size = w.heap.size + 1) := hsz
          clear hv hz hsz
          have hw1 := hrow.cell (i := k + j) (by omega)
          have hw2 := hrow.frozen (k + j)
          go_wp2
          have hfin := mul_outer Hv2.out
          go_roundg q
          case measure => omega
          case rel => exact ⟨k + 1, upd p2 (k + j) y, by have := Hk.out; omega, by go_num, dig_set dp hy, fun i hi => by
            have e : i ≠ k + j := by omega
            simp only [upd, if_neg e]; exact Hz2.out i (by omega), hfin, hb.setCell (Nat.le_refl _) _, by simpa using Hs2.out, dall_set hrow _ rfl⟩
        · obtain rfl := hBe (by omega)
          have hx2 : wr.cell? ⟨b', off' + j, none⟩ = some (.int .u32 (g j : Int)) := by rw [hb.cell (Rd.lt hcell' (by omega))]; exact hcell' j (by omega)
          have dj := dg j (by omega)
          have hjm : j < m := by omega
          have Hv2 : Hid (val p2 (k + m) + y * 4294967296 ^ (k + j) = val f k * val g m + f k * val g j * 4294967296 ^ k) := hv
          have Hz2 : Hid (∀ i, k + m ≤ i → p2 i = 0) := hz
          have Hs2 : Hid (wr.heap.size = w.heap.size + 1) := hsz
          have Hj : Hid (j + (q2 + 1) = m) := hj
          clear hv hz hsz hj
          have hw1 : wr.cell? ⟨w.heap.size, k + j, none⟩ = some (.int .u32 (p2 (k + j) : Int)) := hrow.cell (i := k + j) (by omega)
          have hw2 := hrow.frozen (k + j)
          have dpj := dp (k + j) (by omega)
          have hp : f k * g j ≤ 4294967295 * 4294967295 := Nat.mul_le_mul (by omega) (by omega)
          have hp1 : (f k : Int) * (g j : Int) ≤ 18446744065119617025 := by
            rw [← Int.natCast_mul]; omega
          have hp0 : 0 ≤ (f k : Int) * (g j : Int) := by rw [← Int.natCast_mul]; omega
          go_wp2
          have hst := mul_inner (t := y + (f k * g j + p2 (k + j))) hjm Hv2.out rfl
          have e1 : (y : Int) + ((f k : Int) * (g j : Int) + (p2 (k + j) : Int)) = ((y + (f k * g j + p2 (k + j)) : Nat) : Int) := by rw [Int.natCast_add, Int.natCast_add, Int.natCast_mul]
          go_roundg q2
          case measure => omega
          case rel => exact ⟨j + 1, (y + (f k * g j + p2 (k + j))) / 4294967296, upd p2 (k + j) ((y + (f k * g j + p2 (k + j))) % 4294967296), by have := Hj.out; omega, by go_num, by rw [e1, Int.natCast_ediv]; rfl, by omega, dig_set dp (Nat.mod_lt _ (by omega)), fun i hi => by
            have e : i ≠ k + j := by omega
            simp only [upd, if_neg e]; exact Hz2.out i (by omega), hst, hb.setCell (Nat.le_refl _) _, by simpa using Hs2.out, dall_set hrow _ (by rw [e1, Int.natCast_emod]; rfl)⟩
end Go.Proofs.YtgcogpfmhmmgdaaGreatDoor
