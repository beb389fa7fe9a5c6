/- What the reference implementation's mulMag returns. Condition: at most 10^9 bytes. What the reference implementation's small and value return, and its compareMag. Condition: at most 7 bytes (small, value). What the reference implementation's mag returns: the bytes of a number. Condition: a number from 0 on, below 2^63. -/
import Derived.Test.YtigdjlhihhakmaaGreatDoorQ27
import Derived.Laws.BitsAllLaws
import Derived.Test.YtigdjlhihhakmaaGreatDoorQ05
import Derived.Deep.OwnRows

namespace Go.Proofs.YtigdjlhihhakmaaGreatDoor
open Go.RowKit
set_option linter.unusedSimpArgs false
set_option linter.unusedVariables false

theorem Tryz.infoI64r : (Tryz.prog.info? 3).map (fun i => (i.zero, i.size, i.bytes)) = some (some (.int .i64 0), 1, 8) := by kernel_rfl
theorem and_255 (n : Nat) (h : n < 9223372036854775808) : bits .and .i64 (n : Int) 255 = ((n % 256 : Nat) : Int) := by
  show IntKind.i64.wrap ((BitVec.ofInt 64 (n : Int) &&& BitVec.ofInt 64 ((255 : Nat) : Int)).toNat : Int) = _
  rw [BitVec.toNat_and, ofInt_u64 n (by omega), ofInt_u64 255 (by omega), show (255 : Nat) = 2 ^ 8 - 1 from rfl, Nat.and_two_pow_sub_one_eq_mod]
  exact IntWalk.i64_in _ (by omega)
theorem mul8_bound {y p f g : Nat} (hy : y < 256) (hp : p < 256) (hf : f < 256) (hg : g < 256) : y + (p + f * g) < 65536 ∧ (y + (p + f * g)) / 256 < 256 := by
  have : f * g ≤ 255 * 255 := Nat.mul_le_mul (by omega) (by omega)
  omega
set_option maxRecDepth 100000 in
set_option maxHeartbeats 3200000 in
theorem rmulMag_any (a b : List UInt8) (w : World) (ha : a.length ≤ 100000000) (hb : b.length ≤ 100000000) :
    Calls Tryz.prog 63 #[.string ⟨a.toArray⟩, .string ⟨b.toArray⟩] w fun e w' => e = .returned (.string ⟨(bytesOf (vB a * vB b)).toArray⟩) ∧ Below w.heap.size w w' := by
  have hmk := run_make_row' (P := Tryz.prog) 45 3 (.int .i64 0) 8 Tryz.underlying45 Tryz.infoI64r rfl .i64 .i64 (a.length + b.length) (by omega) (by omega)
  rw [show ((a.length + b.length : Nat) : Int) = (a.length : Int) + (b.length : Int) by omega] at hmk
  have Hva := Lib.hid (w8_dg a)
  have Hvb := Lib.hid (w8_dg b)
  go_enter Tryz.func63, Tryz.ntmps63
  go_wp2_with fail
  clear hmk
  obtain ⟨n, hn⟩ : ∃ n, a.length = n := ⟨_, rfl⟩
  obtain ⟨m, hm⟩ : ∃ m, b.length = m := ⟨_, rfl⟩
  go_loopg [6] n (fun q s6 wx => ∃ (k : Nat) (p : Nat → Nat), k + q = n ∧ s6 = .int .i64 ((q : Int) - 1) ∧ Dig8 p (n + m) ∧ (∀ i, k + m ≤ i → p i = 0) ∧ Hid (w8 p (k + m) = w8 (dg a) k * w8 (dg b) m) ∧ wx.rowIs w.heap.size 3 (n + m) (rowI (n + m) p) ∧ Below w.heap.size w wx ∧ wx.heap.size = w.heap.size + 1)
  case atStart => exact ⟨0, fun _ => 0, by omega, by rw [hn], fun i _ => (by omega : (0 : Nat) < 256), fun i _ => rfl, by show _ = _; rw [w8_zeros _ (Nat.zero_le _) (fun _ _ => rfl)]; simp [w8], by rw [← hn, ← hm]; exact (World.rowIs_made w _ _ _).congr (fun i _ => by simp [rowI]), below1 w _, by simp⟩
  case round =>
    obtain ⟨k, p, hk, rfl, dp, hz, HV, hrow, hbl, hsz⟩ := hrel
    rcases gk with _ | q
    · obtain rfl : k = n := by omega
      have hfin : w8 p (k + m) = vB a * vB b := by rw [HV.out, ← hn, ← hm, Hva.out, Hvb.out]
      have HF := Lib.hid (bytesOf_w8 dp hfin)
      have Hs := Lib.hid hsz
      have HP := Lib.hid (And.intro dp hz)
      obtain ⟨N, hN⟩ : ∃ N, k + m = N := ⟨_, rfl⟩
      have hNl : N ≤ 200000000 := by omega
      have hmk := run_make_row' (P := Tryz.prog) 56 5 (.int .u8 0) 1 Tryz.underlying56 Tryz.infoU8 rfl .i64 .i64 N (by omega) (by omega)
      rw [hN] at hrow HF HP
      clear HV hfin hz hsz dp
      obtain ⟨wo, rfl⟩ : ∃ wo : World, wo = wr := ⟨_, rfl⟩
      go_wp2_with fail
      clear hmk
      have hbw : w.heap.size ≤ wo.heap.size := hbl.size
      have hne : w.heap.size ≠ wo.heap.size := by rw [Hs.out]; omega
      go_loopg [10] N (fun q s10 wx => ∃ (k : Nat) (g : Nat → Nat), k + q = N ∧ s10 = .int .i64 (k : Int) ∧ (∀ i, i < N → N - 1 - i < k → g i = p i) ∧ wx.rowIs w.heap.size 3 N (rowI N p) ∧ wx.rowIs wo.heap.size 5 N (rowR N g) ∧ Below w.heap.size w wx)
      case atStart =>
        refine ⟨0, fun _ => 0, by omega, rfl, fun i _ h => absurd h (by omega), hrow.alloc _, ?_, hbl.alloc hbl.size _⟩
        exact (World.rowIs_made wo (.int .u8 0) N 5).congr (fun i _ => by simp [rowR])
      case round =>
        clear hrow hbl
        obtain ⟨k2, g, hk2, rfl, hg, hrow, hrow2, hbl⟩ := hrel
        rcases gk with _ | q
        · obtain rfl : k2 = N := by omega
          have hgp : ∀ i, i < k2 → g i = p i := fun i hi => hg i hi (by omega)
          have dg2 : Dig8 g k2 := fun i hi => by rw [hgp i hi]; exact HP.out.1 i hi
          have hcv := run_string_of wr wo.heap.size 0 k2 (bl g k2) (fun i u hu => rowR_cell hrow2 dg2 i u hu)
          rw [bl_len] at hcv
          have hlen : (bl g k2).length ≤ 1000000000 := by rw [bl_len]; omega
          have HG := Lib.hid (show Lib.trimLeftB (bl g k2) 0 = bytesOf (vB a * vB b) by rw [← HF.out, trim_bytes, trim_bytes, vB_bl dg2, vB_bl HP.out.1, w8_congr hgp])
          clear hg hgp hrow hrow2 dg2
          generalize bl g k2 = T at *
          go_wp2_with fail
          refine (rtrim_any T _ (by omega)).mono ?_
          rintro e W1 ⟨rfl, rfl⟩
          go_wp2
          go_ret
          exact ⟨by rw [HG.out]; rfl, hbl⟩
        · have Hk2 := Lib.hid hk2
          have Hg := Lib.hid hg
          have hkN : k2 < N := by omega
          have hp8 := HP.out.1 (N - 1 - k2) (by omega)
          have hc1 : wr.cell? ⟨w.heap.size, k2, none⟩ = some (.int .i64 (p (N - 1 - k2) : Int)) := hrow.cell (i := k2) hkN
          have hw := hrow2.cell (i := k2) hkN
          have hf := hrow2.frozen k2
          have HW := Lib.hid (rowR_set hrow2 (k := N - 1 - k2) (i := k2) (v := p (N - 1 - k2)) (by omega) (by omega) rfl)
          have HR := Lib.hid (hrow.setOther (a := ⟨wo.heap.size, k2, none⟩) hne (.int .u8 (p (N - 1 - k2) : Int)))
          have hw8 : IntKind.u8.wrap (p (N - 1 - k2) : Int) = (p (N - 1 - k2) : Int) := by rw [u8_wrap_nat, Nat.mod_eq_of_lt hp8]
          have hg2 : ∀ i, i < N → N - 1 - i < k2 + 1 → upd g (N - 1 - k2) (p (N - 1 - k2)) i = p i := fun i hi h => by
            by_cases e : i = N - 1 - k2
            · rw [e, upd_same]
            · simp only [upd, if_neg e]; exact Hg.out i hi (by omega)
          have Hg2 := Lib.hid hg2
          clear hg2
          clear hk2 hg hrow hrow2 Hg
          go_wp2_with fail
          go_roundg q
          case measure => omega
          case rel => exact ⟨k2 + 1, upd g (N - 1 - k2) (p (N - 1 - k2)), by have := Hk2.out; omega, by go_num, Hg2.out, HR.out, HW.out, hbl.setCell hbw _⟩
    · have Hk := Lib.hid hk
      have Hs := Lib.hid hsz
      have Hz := Lib.hid hz
      have hqa : q < a.length := by omega
      have hkq : a.length - 1 - q = k := by omega
      obtain ⟨ca, hca, hxa⟩ := dg_pos hqa
      have hia := run_index_bytes a q ca hca (q : Int) rfl
      rw [hxa, hkq] at hia
      have hxa2 : dg a k < 256 := dg_lt a k
      clear hk hsz hz hca hxa
      obtain ⟨wo, rfl⟩ : ∃ wo : World, wo = wr := ⟨_, rfl⟩
      go_wp2_with fail
      go_loopg [7, 8] m (fun q2 s7 s8 wx => ∃ (j y : Nat) (p : Nat → Nat), j + q2 = m ∧ s8 = .int .i64 ((q2 : Int) - 1) ∧ s7 = .int .i64 (y : Int) ∧ y < 256 ∧ Dig8 p (n + m) ∧ (∀ i, k + m ≤ i → p i = 0) ∧ Hid (w8 p (k + m) + y * 256 ^ (k + j) = w8 (dg a) k * w8 (dg b) m + dg a k * w8 (dg b) j * 256 ^ k) ∧ wx.rowIs w.heap.size 3 (n + m) (rowI (n + m) p) ∧ Below w.heap.size w wx ∧ wx.heap.size = w.heap.size + 1)
      case atStart => exact ⟨0, 0, p, by omega, by first | rfl | rw [hm], rfl, by omega, dp, Hz.out, by show _ = _; rw [HV.out]; simp [w8], hrow, hbl, Hs.out⟩
      case round =>
        clear hrow hbl dp HV Hz Hs
        obtain ⟨j, y, p2, hj, rfl, rfl, hy, dp, hz, HV, hrow, hbl, hsz⟩ := hrel
        have Hz := Lib.hid hz
        have Hs := Lib.hid hsz
        have Hj := Lib.hid hj
        rcases gk with _ | q2
        · obtain rfl : j = m := by omega
          have HF := Lib.hid (mul8_outer HV.out)
          have hpz : p2 (k + j) = 0 := Hz.out _ (Nat.le_refl _)
          have hc1 : wr.cell? ⟨w.heap.size, q, none⟩ = some (.int .i64 0) := by
            have h := hrow.cell (i := q) (by omega)
            rw [h, rowI, show n + j - 1 - q = k + j by omega, hpz]; rfl
          have hf := hrow.frozen q
          have HW := Lib.hid (rowI_set hrow (k := k + j) (i := q) (v := y) (by omega) (by omega) rfl)
          clear hz hsz hj HV hrow
          go_wp2_with fail
          go_roundg q
          case measure => omega
          case rel => exact ⟨k + 1, upd p2 (k + j) y, by have := Hk.out; omega, by go_num, dig8_set dp hy, fun i hi => by
            have e : i ≠ k + j := by omega
            simp only [upd, if_neg e]; exact Hz.out i (by omega), HF, HW.out, hbl.setCell (Nat.le_refl _) _, by simpa using Hs.out⟩
        · have hqb : q2 < b.length := by omega
          have hjq : b.length - 1 - q2 = j := by omega
          obtain ⟨cb, hcb, hxb⟩ := dg_pos hqb
          have hib := run_index_bytes b q2 cb hcb (q2 : Int) rfl
          rw [hxb, hjq] at hib
          have hxb2 : dg b j < 256 := dg_lt b j
          have hpl : p2 (k + j) < 256 := dp _ (by omega)
          have hc1 : wr.cell? ⟨w.heap.size, q + q2 + 1, none⟩ = some (.int .i64 (p2 (k + j) : Int)) := by
            have h := hrow.cell (i := q + q2 + 1) (by omega)
            rw [h, rowI, show n + m - 1 - (q + q2 + 1) = k + j by omega]
          have hf := hrow.frozen (q + q2 + 1)
          have HM := mul8_inner (t := y + (p2 (k + j) + dg a k * dg b j)) (show j < m by omega) HV.out rfl
          have hb8 := mul8_bound hy hpl hxa2 hxb2
          obtain ⟨T, hT⟩ : ∃ T : Nat, Hid (y + (p2 (k + j) + dg a k * dg b j) = T) := ⟨_, Lib.hid rfl⟩
          rw [hT.out] at HM hb8
          obtain ⟨r, Er⟩ : ∃ x, Hid (T % 256 = x) := ⟨_, Lib.hid rfl⟩
          obtain ⟨m2, Em⟩ : ∃ x, Hid (T / 256 = x) := ⟨_, Lib.hid rfl⟩
          rw [Er.out, Em.out] at HM
          rw [Em.out] at hb8
          have HM := Lib.hid HM
          have hr : r < 256 := by rw [← Er.out]; omega
          have hT2 := hb8.1
          have hm2 := hb8.2
          have HW := Lib.hid (rowI_set hrow (k := k + j) (i := q + q2 + 1) (v := r) (by omega) (by omega) rfl)
          have hsum : (y : Int) + ((p2 (k + j) : Int) + (dg a k : Int) * (dg b j : Int)) = (T : Int) := by rw [← hT.out, Int.natCast_add, Int.natCast_add, Int.natCast_mul]
          have hpr : (dg a k : Int) * (dg b j : Int) = ((dg a k * dg b j : Nat) : Int) := (Int.natCast_mul _ _).symm
          have hprb : dg a k * dg b j < 65536 := by
            have : dg a k * dg b j ≤ 255 * 255 := Nat.mul_le_mul (by omega) (by omega)
            omega
          have hand : bits .and .i64 (T : Int) 255 = (r : Int) := by rw [and_255 T (by omega), Er.out]
          have hdiv : (T : Int) / 256 = (m2 : Int) := by rw [← Em.out]; omega
          rw [hpr] at hsum
          obtain ⟨xa, hxa9⟩ : ∃ x, dg a k = x := ⟨_, rfl⟩
          obtain ⟨xb, hxb9⟩ : ∃ x, dg b j = x := ⟨_, rfl⟩
          rw [hxa9] at hia hsum hpr hprb hxa2
          rw [hxb9] at hib hsum hpr hprb hxb2
          clear hxa9 hxb9
          obtain ⟨xp, hxp⟩ : ∃ xp, p2 (k + j) = xp := ⟨_, rfl⟩
          rw [hxp] at hc1 hsum hpl
          obtain ⟨pr, Hpr⟩ : ∃ pr, Hid (xa * xb = pr) := ⟨_, Lib.hid rfl⟩
          rw [Hpr.out] at hpr hsum hprb
          clear hz hsz hj HV hrow hxb hcb hb8 hxp
          go_upto_region 9 with fail
          go_big_region
          go_wp2_with fail
          go_roundg q2
          case measure => omega
          case rel => exact ⟨j + 1, m2, upd p2 (k + j) r, by have := Hj.out; omega, by go_num, rfl, hm2, dig8_set dp hr, fun i hi => by
            have e : i ≠ k + j := by omega
            simp only [upd, if_neg e]; exact Hz.out i (by omega), HM, HW.out.drew, (hbl.setCell (Nat.le_refl _) _).drew, by simpa using Hs.out⟩
end Go.Proofs.YtigdjlhihhakmaaGreatDoor

namespace Go.Proofs.YtigdjlhihhakmaaGreatDoor
open Go.RowKit
set_option linter.unusedSimpArgs false

set_option maxRecDepth 100000 in
theorem rsmall_any (l : List UInt8) (w : World) (hl : l.length ≤ 8) (hv : vB l < 9223372036854775808) :
    Calls Tryz.prog 72 #[.string ⟨l.toArray⟩] w fun e w' => e = .returned (.int .i64 (vB l : Int)) ∧ w' = w := by
  have Hv := Lib.hid hv
  clear hv
  go_enter Tryz.func72, Tryz.ntmps72
  go_wp2_with fail
  go_loopg [3, 4] l.length (fun g s3 s4 wx => wx = w ∧ ∃ k N : Nat, k + g = l.length ∧ s4 = .int .i64 (k : Int) ∧ s3 = .int .i64 (N : Int) ∧ Hid (vB (l.take k) = N))
  case atStart => exact ⟨rfl, 0, 0, by omega, rfl, rfl, rfl⟩
  case round =>
    obtain ⟨rfl, k, N, hk, rfl, rfl, HN⟩ := hrel
    rcases gk with _ | q
    · have Hr : Hid (vB l = N) := by show _ = _; rw [← HN.out, List.take_of_length_le (by omega)]
      go_wp2
      go_ret
      exact ⟨by rw [Hr.out]; rfl, rfl⟩
    · obtain ⟨c, hc⟩ : ∃ c, l[k]? = some c := ⟨_, List.getElem?_eq_getElem (by omega)⟩
      have hix := run_index_bytes l k c hc (k : Int) rfl
      have hc' := c.toNat_lt
      have Hn : Hid (vB (l.take (k + 1)) = N * 256 + c.toNat) := by show _ = _; rw [vB_take_succ hc, HN.out]
      have hb2 : N * 256 + c.toNat < 9223372036854775808 := by
        have h1 := vB_take_le l (k + 1)
        rw [Hn.out] at h1
        exact Nat.lt_of_le_of_lt h1 Hv.out
      have w1 : IntKind.i64.wrap ((N : Int) * 256) = (N : Int) * 256 := IntWalk.i64_in _ (by omega)
      have ho : bits .or .i64 ((N : Int) * 256) ((c.toNat : Nat) : Int) = ((N * 256 + c.toNat : Nat) : Int) := i64_or_256 N c.toNat hb2 (by omega)
      clear hb2 hc
      go_wp2
      go_roundg q
      case measure => omega
      case rel => exact ⟨rfl, k + 1, N * 256 + c.toNat, by omega, rfl, by rw [Int.natCast_add, Int.natCast_mul]; rfl, Hn⟩

theorem value_small {g : Bool} {l : List UInt8} : (if g then -(vB l : Int) else (vB l : Int)) = zv g ⟨l.toArray⟩ := rfl
set_option maxRecDepth 100000 in
theorem rvalue_any (g : Bool) (l : List UInt8) (z : Int) (w : World) (hl : l.length ≤ 8) (h3 : vB l < 9223372036854775808) (hz : zv g ⟨l.toArray⟩ = z) :
    Calls Tryz.prog 59 #[.agg #[.bool g, .string ⟨l.toArray⟩]] w fun e w' => e = .returned (.int .i64 z) ∧ Below w.heap.size w w' := by
  have B0 := below1 w (.cells #[.bool g, .string ⟨l.toArray⟩] 23)
  have Hs := Lib.hid (rsmall_any l · hl h3)
  cases g with
  | false =>
    have Hz := Lib.hid (show (vB l : Int) = z from hz)
    clear hz
    go_enter Tryz.func59, Tryz.ntmps59
    go_wp2_with fail
    refine (Hs.out _).mono ?_
    rintro e W1 ⟨rfl, rfl⟩
    go_wp2
    go_ret
    exact ⟨by rw [← Hz.out]; rfl, B0⟩
  | true =>
    have Hz := Lib.hid (show -(vB l : Int) = z from hz)
    have hw : IntKind.i64.wrap (-(vB l : Int)) = -(vB l : Int) := IntWalk.i64_in _ (by omega)
    clear hz
    go_enter Tryz.func59, Tryz.ntmps59
    go_wp2_with fail
    refine (Hs.out _).mono ?_
    rintro e W1 ⟨rfl, rfl⟩
    go_wp2
    go_ret
    exact ⟨by rw [← Hz.out]; rfl, B0⟩
theorem cmpS_cases {A B : Nat} (h : (bytesOf A).length = (bytesOf B).length) : Op.bytesLess (bytesOf A) (bytesOf B) = decide (A < B) := by
  rw [bytesLess_eq_len _ _ h, vB_bytesOf, vB_bytesOf]
end Go.Proofs.YtigdjlhihhakmaaGreatDoor

namespace Go.Proofs.YtigdjlhihhakmaaGreatDoor
open Go.RowKit
set_option linter.unusedSimpArgs false
set_option linter.unusedVariables false

/-- The bytes that have been written into eight, from the end. -/
def drow (D : List UInt8) : Nat → Value := fun j => .int .u8 ((if 8 - D.length ≤ j then (D.getD (j - (8 - D.length)) 0).toNat else 0 : Nat) : Int)
theorem drow_step {w : World} {b : Nat} {t : TypeId} {D : List UInt8} {c : UInt8} (h : w.rowIs b t 8 (drow D)) (hk : D.length < 8) {i : Nat} (hi : i = 7 - D.length) :
    (w.setCell ⟨b, i, none⟩ (.int .u8 (c.toNat : Int))).rowIs b t 8 (drow (c :: D)) := by
  subst hi
  refine (h.set (7 - D.length) _).congr fun j hj => ?_
  unfold drow
  rw [List.length_cons]
  by_cases e : j = 7 - D.length
  · subst e
    rw [if_pos rfl, if_pos (by omega), show 7 - D.length - (8 - (D.length + 1)) = 0 by omega]
    rfl
  · rw [if_neg e]
    by_cases hl : 8 - D.length ≤ j
    · rw [if_pos hl, if_pos (by omega), show j - (8 - (D.length + 1)) = j - (8 - D.length) + 1 by omega]
      rfl
    · rw [if_neg hl, if_neg (by omega)]
theorem drow_cell {w : World} {b : Nat} {t : TypeId} {D : List UInt8} (h : w.rowIs b t 8 (drow D)) (hk : D.length ≤ 8) (i : Nat) (u : UInt8) (hu : D[i]? = some u) :
    w.cell? ⟨b, 8 - D.length + i, none⟩ = some (.int .u8 (u.toNat : Int)) := by
  have hi : i < D.length := by
    rcases Nat.lt_or_ge i D.length with h1 | h1
    · exact h1
    · rw [List.getElem?_eq_none h1] at hu; cases hu
  rw [h.cell (by omega)]
  unfold drow
  rw [if_pos (by omega), show 8 - D.length + i - (8 - D.length) = i by omega, List.getD_eq_getElem?_getD, hu]
  rfl
theorem byte_of (m : Nat) : (UInt8.ofNat (m % 256)).toNat = m % 256 := by simp
theorem len8 : Tryz.prog.arrayLen 120 = 8 := by kernel_rfl
theorem elem8 : Tryz.prog.elem 120 = 5 := by kernel_rfl
theorem shr8 (m : Nat) : Op.shift .shr .i64 (m : Int) .u64 8 = pure (.int .i64 ((m / 256 : Nat) : Int)) := by
  have h := shift_shr .i64 .u64 (m : Int) 8 (by omega) (by decide)
  rw [h]
  congr 2
set_option maxRecDepth 100000 in
theorem slice8 (p i : Nat) (h : i < 8) (w : World) : (Instr.sliceAt 120 (.pointer (some ⟨p, 0, none⟩)) (some (.int .i64 (i : Int))) none none).run Tryz.prog w = .ok (.slice (some ⟨p, i, none⟩) (8 - i) (8 - i)) w := by
  have h1 := run_sliceAt_array_l w 120 ⟨p, 0, none⟩ (by rw [len8, elem8]; exact Tryz.underlying120) .i64 (i : Int) (by omega) (by rw [len8]; omega)
  rw [h1, len8, elem8]
  simp [go_sem]
  omega
set_option maxRecDepth 100000 in
set_option maxHeartbeats 1600000 in
theorem rmag_any (n : Nat) (w : World) (hn : n < 9223372036854775808) :
    Calls Tryz.prog 64 #[.int .i64 (n : Int)] w fun e w' => e = .returned (.string ⟨(bytesOf n).toArray⟩) ∧ Below w.heap.size w w' := by
  by_cases h1 : n < 256
  · by_cases h0 : n = 0
    · subst h0
      have H := Lib.hid bytesOf_zero
      go_enter Tryz.func64, Tryz.ntmps64
      go_wp2
      go_ret
      exact ⟨by rw [H.out]; rfl, Below.refl _ _⟩
    · have H := Lib.hid (show bytesOf n = [UInt8.ofNat n] by
        rw [bytesOf_pos h0, show n / 256 = 0 by omega, bytesOf_zero, show n % 256 = n by omega]; rfl)
      have hz : ((n : Int) == 0) = false := by rw [beq_eq_false_iff_ne]; omega
      have hw : IntKind.u8.wrap (n : Int) = (n : Int) := by simp [IntKind.wrap, IntKind.bits, IntKind.signed]; omega
      have hu : (UInt8.ofNat n).toNat = n := by simp; omega
      have hcv := run_string_of (w.alloc (.cells #[.int .u8 (n : Int)] 5)) w.heap.size 0 1 [UInt8.ofNat n] (fun i u hi => by
        rcases i with _ | i
        · simp at hi
          subst hi
          rw [hu]
          simp [go_sem]
        · simp at hi)
      rw [List.length_singleton] at hcv
      go_enter Tryz.func64, Tryz.ntmps64
      go_wp2
      go_ret
      exact ⟨by rw [H.out]; rfl, below1 w _⟩
  · have hlt : decide ((n : Int) < 256) = false := decide_eq_false (by omega)
    go_enter Tryz.func64, Tryz.ntmps64
    go_wp2_with fail
    go_loopg [4, 0] 8 (fun q s4 s0 wx => ∃ (m : Nat) (D : List UInt8), s4 = .int .i64 ((8 - D.length : Nat) : Int) ∧ s0 = .int .i64 (m : Int) ∧ D.length + q = 8 ∧ m < 256 ^ q ∧ m < 9223372036854775808 ∧ Hid (bytesOf n = bytesOf m ++ D) ∧ wx.rowIs w.heap.size 120 8 (drow D) ∧ Below w.heap.size w wx)
    case atStart =>
      refine ⟨n, [], rfl, rfl, rfl, by omega, hn, by show _ = _; simp, ?_, below1 w _⟩
      refine World.rowIs_alloc w #[.int .u8 0, .int .u8 0, .int .u8 0, .int .u8 0, .int .u8 0, .int .u8 0, .int .u8 0, .int .u8 0] 120 (drow []) (fun i hi => ?_)
      have hi' : i = 0 ∨ i = 1 ∨ i = 2 ∨ i = 3 ∨ i = 4 ∨ i = 5 ∨ i = 6 ∨ i = 7 := by simp at hi; omega
      rcases hi' with rfl | rfl | rfl | rfl | rfl | rfl | rfl | rfl <;> rfl
    case round =>
      obtain ⟨m, D, rfl, rfl, hD, hm, hm2, HD, hrow, hb⟩ := hrel
      by_cases h0 : m = 0
      · subst h0
        have hcv := run_string_of wr w.heap.size (8 - D.length) D.length D (fun i u hu => drow_cell hrow (by omega) i u hu)
        have hD0 : D.length ≠ 0 := by
          intro e
          have e2 : D = [] := List.length_eq_zero_iff.1 e
          have e3 := HD.out
          rw [e2, bytesOf_zero] at e3
          have := bytesOf_nil.1 e3
          omega
        have hsl := slice8 w.heap.size (8 - D.length) (by omega) wr
        rw [show 8 - (8 - D.length) = D.length by omega] at hsl
        have HR := Lib.hid (show bytesOf n = D by rw [HD.out, bytesOf_zero]; rfl)
        go_wp2
        go_ret
        exact ⟨by rw [HR.out]; rfl, hb⟩
      · obtain ⟨q, rfl⟩ : ∃ q, gk = q + 1 := ⟨gk - 1, by rcases gk with _ | g; simp at hm; exact absurd hm h0; omega⟩
        have hD7 : D.length + q = 7 := by omega
        have hi : 8 - D.length = q + 1 := by omega
        have H2 := Lib.hid (show bytesOf n = bytesOf (m / 256) ++ (UInt8.ofNat (m % 256) :: D) by rw [HD.out, bytesOf_pos h0]; simp)
        have hw : IntKind.u8.wrap (m : Int) = ((m % 256 : Nat) : Int) := by simp [IntKind.wrap, IntKind.bits, IntKind.signed]
        have hr2 := drow_step (c := UInt8.ofNat (m % 256)) hrow (by omega) (i := q) (by omega)
        rw [byte_of] at hr2
        have H3 := Lib.hid hr2
        have hcell := hrow.cell (i := q) (by omega)
        have hfr := hrow.frozen q
        rw [hi]
        have hmq : m / 256 < 256 ^ q := by
          rw [Nat.pow_succ] at hm
          omega
        have Hmq := Lib.hid hmq
        obtain ⟨m2, Em2⟩ : ∃ x, Hid (m / 256 = x) := ⟨_, Lib.hid rfl⟩
        obtain ⟨r, Er⟩ : ∃ x, Hid (m % 256 = x) := ⟨_, Lib.hid rfl⟩
        have hdiv : (m : Int) / 256 = (m2 : Int) := by rw [← Em2.out]; omega
        have hmod : (m : Int) % 256 = (r : Int) := by rw [← Er.out]; omega
        rw [Em2.out] at Hmq H2
        rw [Er.out] at H2 H3 hw
        have hm3 : m2 < 9223372036854775808 := by rw [← Em2.out]; omega
        clear hr2 hm hmq HD
        go_wp2_with fail
        go_roundg q
        case measure => omega
        case rel => exact ⟨m2, UInt8.ofNat r :: D, by rw [show 8 - (UInt8.ofNat r :: D).length = q by rw [List.length_cons]; omega], rfl, by rw [List.length_cons]; omega, Hmq.out, hm3, H2, H3.out, hb.setCell (Nat.le_refl _) _⟩
end Go.Proofs.YtigdjlhihhakmaaGreatDoor
