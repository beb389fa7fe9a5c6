/- What the reference implementation's trim and Canonical return. Condition: at most 10^9 bytes. What the reference implementation's addMag and subMag return. Condition: at most 10^9 bytes; for subMag a minuend that is not less. What the reference implementation's mulMag returns. Condition: at most 10^9 bytes. -/
import Derived.Test.YtgcogpfmhmmgdaaGreatDoorQ40
import Derived.Deep.LoopGhost
import Derived.Test.YtgcogpfmhmmgdaaGreatDoorQ05

namespace Go.Proofs.YtgcogpfmhmmgdaaGreatDoor
open Go.RowKit
set_option linter.unusedSimpArgs false
set_option linter.unusedVariables false

theorem run_tail_bytes (b : UInt8) (m : List UInt8) (w : World) :
    (Instr.slice 9 (.string ⟨(b :: m).toArray⟩) (some (.int .i64 1)) none none).run Tryz.prog w = .ok (.string ⟨m.toArray⟩) w := by
  rw [run_slice_string_l w 9 ⟨(b :: m).toArray⟩ Tryz.underlying9 .i64 1 (by omega) (by simp [ByteArray.size]; omega)]
  congr 2
  apply ByteArray.ext
  simp [ByteArray.size]
set_option maxRecDepth 100000 in
theorem rtrim_any (l : List UInt8) (w : World) (hl : l.length ≤ 1000000000) :
    Calls Tryz.prog 99 #[.string ⟨l.toArray⟩] w fun e w' => e = .returned (.string ⟨(Lib.trimLeftB l 0).toArray⟩) ∧ w' = w := by
  go_enter Tryz.func99, Tryz.ntmps99
  go_wp2_with fail
  go_loopg [0] l.length (fun g s0 wx => wx = w ∧ ∃ m : List UInt8, m.length = g ∧ s0 = .string ⟨m.toArray⟩ ∧ Hid (Lib.trimLeftB m 0 = Lib.trimLeftB l 0))
  case atStart => exact ⟨rfl, l, rfl, rfl, rfl⟩
  case round =>
    obtain ⟨rfl, m, hm, rfl, HM⟩ := hrel
    cases m with
    | nil =>
      have hg : gk = 0 := by rw [← hm]; rfl
      subst hg
      go_wp2
      go_ret
      exact ⟨by rw [← HM.out]; rfl, rfl⟩
    | cons b m =>
      have hix := run_index_bytes (b :: m) 0 b rfl 0 (by simp)
      have htl := run_tail_bytes b m
      have hb' := b.toNat_lt
      have hml : m.length + 1 = gk := hm
      by_cases hb : b = 0
      · subst hb
        have HM2 : Hid (Lib.trimLeftB m 0 = Lib.trimLeftB l 0) := by show _ = _; rw [← HM.out, trim_cons0]
        obtain ⟨g, rfl⟩ : ∃ g, gk = g + 1 := ⟨gk - 1, by omega⟩
        clear HM
        go_wp2
        go_roundg g
        case measure => omega
        case rel => exact ⟨rfl, m, by omega, rfl, HM2⟩
      · have hz : ((b.toNat : Int) == 0) = false := by
          rw [beq_eq_false_iff_ne]
          intro e
          exact hb (UInt8.toNat_inj.1 (by simpa using (by omega : b.toNat = 0)))
        have HM2 : Hid (Lib.trimLeftB l 0 = b :: m) := by show _ = _; rw [← HM.out, trim_consN m hb]
        clear HM
        go_wp2
        go_ret
        exact ⟨by rw [HM2.out]; rfl, rfl⟩
set_option maxRecDepth 100000 in
theorem rcanonical_any (g : Bool) (l : List UInt8) (w : World) (hl : l.length ≤ 1000000000) :
    Calls Tryz.prog 65 #[.agg #[.bool g, .string ⟨l.toArray⟩]] w (IntOut w (zv g ⟨l.toArray⟩)) := by
  have h := canon_trim g l
  have H1 := Lib.hid h.1
  have H2 := Lib.hid h.2
  clear h
  have hcase : (∃ b m, l = b :: m ∧ b ≠ 0) ∨ (l = [] ∨ ∃ m, l = 0 :: m) := by
    cases l with
    | nil => exact Or.inr (Or.inl rfl)
    | cons b m =>
      by_cases hb : b = 0
      · exact Or.inr (Or.inr ⟨m, by rw [hb]⟩)
      · exact Or.inl ⟨b, m, rfl, hb⟩
  rcases hcase with ⟨b, m, rfl, hb⟩ | hcase
  · have hix := run_index_bytes (b :: m) 0 b rfl 0 (by simp)
    have hb' := b.toNat_lt
    have hz : ((b.toNat : Int) != 0) = true := by
      rw [bne_iff_ne]
      intro e
      exact hb (UInt8.toNat_inj.1 (by simpa using (by omega : b.toNat = 0)))
    have H := canon_first (g := g) (l := m) hb
    have H3 := Lib.hid H.1
    have H4 := Lib.hid H.2
    clear H
    go_enter Tryz.func65, Tryz.ntmps65
    go_wp2
    exact bodyPost_ret (v := .agg #[.bool g, .string ⟨(b :: m).toArray⟩]) (by simp [results, Tryz.results65, go_sem]) rfl ⟨by rw [H3.out, H4.out], below2 w _ _⟩
  · obtain ⟨T, HT⟩ : ∃ T, Hid (Lib.trimLeftB l 0 = T) := ⟨_, Lib.hid rfl⟩
    rw [HT.out] at H1 H2
    have hc : T = [] ∨ ∃ c t, T = c :: t := by cases T with
      | nil => exact Or.inl rfl
      | cons c t => exact Or.inr ⟨c, t, rfl⟩
    rcases hcase with rfl | ⟨m, rfl⟩
    · have hT : T = [] := by rw [← HT.out]; rfl
      subst hT
      go_enter Tryz.func65, Tryz.ntmps65
      go_wp2_with fail
      refine (rtrim_any [] _ (by simp)).mono ?_
      rintro e W1 ⟨rfl, rfl⟩
      rw [HT.out]
      cases g
      all_goals
        go_wp2
        exact bodyPost_ret (v := .agg #[.bool false, .string ⟨#[]⟩]) (by simp [results, Tryz.results65, go_sem]) rfl ⟨by rw [H1.out, H2.out]; rfl, below2 w _ _⟩
    · have hix := run_index_bytes (0 :: m) 0 0 rfl 0 (by simp)
      go_enter Tryz.func65, Tryz.ntmps65
      go_wp2_with fail
      refine (rtrim_any (0 :: m) _ hl).mono ?_
      rintro e W1 ⟨rfl, rfl⟩
      rw [HT.out]
      rcases hc with rfl | ⟨c, t, rfl⟩
      · cases g
        all_goals
          go_wp2
          exact bodyPost_ret (v := .agg #[.bool false, .string ⟨#[]⟩]) (by simp [results, Tryz.results65, go_sem]) rfl ⟨by rw [H1.out, H2.out]; rfl, below2 w _ _⟩
      · cases g
        · go_wp2
          exact bodyPost_ret (v := .agg #[.bool false, .string ⟨(c :: t).toArray⟩]) (by simp [results, Tryz.results65, go_sem]) rfl ⟨by rw [H1.out, H2.out]; rfl, below2 w _ _⟩
        · go_wp2
          exact bodyPost_ret (v := .agg #[.bool true, .string ⟨(c :: t).toArray⟩]) (by simp [results, Tryz.results65, go_sem]) rfl ⟨by rw [H1.out, H2.out]; rfl, below2 w _ _⟩
end Go.Proofs.YtgcogpfmhmmgdaaGreatDoor

namespace Go.Proofs.YtgcogpfmhmmgdaaGreatDoor
open Go.RowKit
set_option linter.unusedSimpArgs false
set_option linter.unusedVariables false

theorem u8_wrap_nat (t : Nat) : IntKind.u8.wrap (t : Int) = ((t % 256 : Nat) : Int) := by simp [IntKind.wrap, IntKind.bits, IntKind.signed]
theorem carry_zero {s c n A B : Nat} (h : s + c * 256 ^ n = A + B) (hA : 2 * A < 256 ^ n) (hB : 2 * B < 256 ^ n) : c = 0 := by
  rcases Nat.eq_zero_or_pos c with h0 | h0
  · exact h0
  · have : 1 * 256 ^ n ≤ c * 256 ^ n := Nat.mul_le_mul_right _ h0
    omega
theorem two_vB {l : List UInt8} {n : Nat} (h : l.length < n) : 2 * vB l < 256 ^ n := by
  have h1 := vB_lt l
  have h2 : 256 ^ (l.length + 1) ≤ 256 ^ n := Nat.pow_le_pow_right (by omega) h
  rw [Nat.pow_succ] at h2
  omega
theorem dg_pos {l : List UInt8} {q : Nat} (h : q < l.length) : ∃ c, l[q]? = some c ∧ c.toNat = dg l (l.length - 1 - q) := by
  obtain ⟨c, h1, h2⟩ := dg_at (l := l) (j := l.length - 1 - q) (by omega)
  exact ⟨c, by rw [← h1]; congr 1; omega, h2⟩
set_option maxRecDepth 100000 in
set_option maxHeartbeats 1600000 in
theorem raddMag_any (a b : List UInt8) (w : World) (ha : a.length ≤ 100000000) (hb : b.length ≤ 100000000) :
    Calls Tryz.prog 67 #[.string ⟨a.toArray⟩, .string ⟨b.toArray⟩] w fun e w' => e = .returned (.string ⟨(bytesOf (vB a + vB b)).toArray⟩) ∧ Below w.heap.size w w' := by
  obtain ⟨m, hm⟩ : ∃ m : Nat, Hid (max a.length b.length = m) := ⟨_, Lib.hid rfl⟩
  have hma : a.length ≤ m := by rw [← hm.out]; exact Nat.le_max_left _ _
  have hmb : b.length ≤ m := by rw [← hm.out]; exact Nat.le_max_right _ _
  have hml : m ≤ 100000000 := by rw [← hm.out]; exact Nat.max_le.2 ⟨ha, hb⟩
  have hmk := run_make_row' (P := Tryz.prog) 59 5 (.int .u8 0) 1 Tryz.underlying59 Tryz.infoU8 rfl .i64 .i64 (m + 1) (by omega) (by omega)
  rw [show ((m + 1 : Nat) : Int) = (m : Int) + 1 by omega] at hmk
  have hmx : (max (a.length : Int) (b.length : Int)) = (m : Int) := by rw [← hm.out]; omega
  go_enter Tryz.func67, Tryz.ntmps67
  go_wp2_with fail
  clear hmk hmx
  go_loopg [7, 8] (m + 1) (fun q s7 s8 wx => ∃ (k y : Nat) (g : Nat → Nat), k + q = m + 1 ∧ s8 = .int .i64 ((k : Int) + 1) ∧ s7 = .int .i64 (y : Int) ∧ y ≤ 1 ∧ Dig8 g k ∧ Hid (w8 g k + y * 256 ^ k = w8 (dg a) k + w8 (dg b) k) ∧ wx.rowIs w.heap.size 5 (m + 1) (rowR (m + 1) g) ∧ Below w.heap.size w wx)
  case atStart => exact ⟨0, 0, fun _ => 0, by omega, rfl, rfl, by omega, fun i h => absurd h (by omega), by show _ = _; rfl, (World.rowIs_made w _ (m + 1) _).congr (fun i _ => by simp [rowR]), below1 w _⟩
  case round =>
    obtain ⟨k, y, g, hk, rfl, rfl, hy, hd, HV, hrow, hb⟩ := hrel
    rcases gk with _ | q
    · obtain rfl : k = m + 1 := by omega
      have hfin : w8 g (m + 1) = vB a + vB b := by
        have h := HV.out
        rw [w8_dg_le a (by omega), w8_dg_le b (by omega)] at h
        have := carry_zero h (two_vB (by omega)) (two_vB (by omega))
        subst this
        omega
      have HF := Lib.hid (bytesOf_w8 hd hfin)
      have hcv := run_string_of wr w.heap.size 0 (m + 1) (bl g (m + 1)) (fun i u hu => rowR_cell hrow hd i u hu)
      rw [bl_len] at hcv
      have hlen : (bl g (m + 1)).length ≤ 100000001 := by rw [bl_len]; omega
      clear HV hfin hrow hd
      generalize bl g (m + 1) = T at *
      go_wp2_with fail
      refine (rtrim_any T _ (by omega)).mono ?_
      rintro e W1 ⟨rfl, rfl⟩
      go_wp2
      go_ret
      exact ⟨by rw [HF.out]; rfl, hb⟩
    · have Hk := Lib.hid hk
      have hf := hrow.frozen (m - k)
      have hw := hrow.cell (i := m - k) (by omega)
      have hkn : k + q = m := by omega
      clear hk
      by_cases h1 : k < a.length <;> by_cases h2 : k < b.length
      · obtain ⟨ca, hca, hxa⟩ := dg_at (l := a) (j := k) h1
        have hia := run_index_bytes a (a.length - 1 - k) ca hca ((a.length : Int) - ((k : Int) + 1)) (by omega)
        rw [hxa] at hia
        clear hca hxa
        obtain ⟨cb, hcb, hxb⟩ := dg_at (l := b) (j := k) h2
        have hib := run_index_bytes b (b.length - 1 - k) cb hcb ((b.length : Int) - ((k : Int) + 1)) (by omega)
        rw [hxb] at hib
        clear hcb hxb
        have hxa : dg a k < 256 := dg_lt a k
        have hxb : dg b k < 256 := dg_lt b k
        have HS := Lib.hid (add8_step HV.out (t := y + dg a k + dg b k) rfl)
        clear HV
        generalize dg a k = xa at *
        generalize dg b k = xb at *
        obtain ⟨m2, Em⟩ : ∃ x, Hid ((y + xa + xb) / 256 = x) := ⟨_, Lib.hid rfl⟩
        obtain ⟨r, Er⟩ : ∃ x, Hid ((y + xa + xb) % 256 = x) := ⟨_, Lib.hid rfl⟩
        rw [Em.out, Er.out] at HS
        have hdiv : ((y : Int) + (xa : Int) + (xb : Int)) / 256 = (m2 : Int) := by rw [← Em.out]; omega
        have hmod : IntKind.u8.wrap ((y : Int) + (xa : Int) + (xb : Int)) = (r : Int) := by
          have h := u8_wrap_nat (y + xa + xb)
          rw [Er.out] at h
          rw [← h]
          congr 1 <;> omega
        have hm2 : m2 ≤ 1 := by rw [← Em.out]; omega
        have hr : r < 256 := by rw [← Er.out]; omega
        have HW := Lib.hid (rowR_set hrow (k := k) (i := m - k) (v := r) (by omega) (by omega) rfl)
        clear hrow
        go_wp2_with fail
        go_roundg q
        case measure => omega
        case rel => exact ⟨k + 1, m2, upd g k r, by have := Hk.out; omega, by go_num, rfl, hm2, dig8_upd hd hr, HS, HW.out, hb.setCell (Nat.le_refl _) _⟩
      · obtain ⟨ca, hca, hxa⟩ := dg_at (l := a) (j := k) h1
        have hia := run_index_bytes a (a.length - 1 - k) ca hca ((a.length : Int) - ((k : Int) + 1)) (by omega)
        rw [hxa] at hia
        clear hca hxa
        have hxa : dg a k < 256 := dg_lt a k
        have hxb : dg b k < 256 := dg_lt b k
        have hzb : dg b k = 0 := dg_out (by omega)
        have HS := Lib.hid (add8_step HV.out (t := y + dg a k + dg b k) rfl)
        clear HV
        generalize dg a k = xa at *
        generalize dg b k = xb at *
        obtain ⟨m2, Em⟩ : ∃ x, Hid ((y + xa + xb) / 256 = x) := ⟨_, Lib.hid rfl⟩
        obtain ⟨r, Er⟩ : ∃ x, Hid ((y + xa + xb) % 256 = x) := ⟨_, Lib.hid rfl⟩
        rw [Em.out, Er.out] at HS
        have hdiv : ((y : Int) + (xa : Int)) / 256 = (m2 : Int) := by rw [← Em.out]; omega
        have hmod : IntKind.u8.wrap ((y : Int) + (xa : Int)) = (r : Int) := by
          have h := u8_wrap_nat (y + xa + xb)
          rw [Er.out] at h
          rw [← h]
          congr 1 <;> omega
        have hm2 : m2 ≤ 1 := by rw [← Em.out]; omega
        have hr : r < 256 := by rw [← Er.out]; omega
        have HW := Lib.hid (rowR_set hrow (k := k) (i := m - k) (v := r) (by omega) (by omega) rfl)
        clear hrow
        go_wp2_with fail
        go_roundg q
        case measure => omega
        case rel => exact ⟨k + 1, m2, upd g k r, by have := Hk.out; omega, by go_num, rfl, hm2, dig8_upd hd hr, HS, HW.out, hb.setCell (Nat.le_refl _) _⟩
      · obtain ⟨cb, hcb, hxb⟩ := dg_at (l := b) (j := k) h2
        have hib := run_index_bytes b (b.length - 1 - k) cb hcb ((b.length : Int) - ((k : Int) + 1)) (by omega)
        rw [hxb] at hib
        clear hcb hxb
        have hxa : dg a k < 256 := dg_lt a k
        have hxb : dg b k < 256 := dg_lt b k
        have hza : dg a k = 0 := dg_out (by omega)
        have HS := Lib.hid (add8_step HV.out (t := y + dg a k + dg b k) rfl)
        clear HV
        generalize dg a k = xa at *
        generalize dg b k = xb at *
        obtain ⟨m2, Em⟩ : ∃ x, Hid ((y + xa + xb) / 256 = x) := ⟨_, Lib.hid rfl⟩
        obtain ⟨r, Er⟩ : ∃ x, Hid ((y + xa + xb) % 256 = x) := ⟨_, Lib.hid rfl⟩
        rw [Em.out, Er.out] at HS
        have hdiv : ((y : Int) + (xb : Int)) / 256 = (m2 : Int) := by rw [← Em.out]; omega
        have hmod : IntKind.u8.wrap ((y : Int) + (xb : Int)) = (r : Int) := by
          have h := u8_wrap_nat (y + xa + xb)
          rw [Er.out] at h
          rw [← h]
          congr 1 <;> omega
        have hm2 : m2 ≤ 1 := by rw [← Em.out]; omega
        have hr : r < 256 := by rw [← Er.out]; omega
        have HW := Lib.hid (rowR_set hrow (k := k) (i := m - k) (v := r) (by omega) (by omega) rfl)
        clear hrow
        go_wp2_with fail
        go_roundg q
        case measure => omega
        case rel => exact ⟨k + 1, m2, upd g k r, by have := Hk.out; omega, by go_num, rfl, hm2, dig8_upd hd hr, HS, HW.out, hb.setCell (Nat.le_refl _) _⟩
      · have hxa : dg a k < 256 := dg_lt a k
        have hxb : dg b k < 256 := dg_lt b k
        have hza : dg a k = 0 := dg_out (by omega)
        have hzb : dg b k = 0 := dg_out (by omega)
        have HS := Lib.hid (add8_step HV.out (t := y + dg a k + dg b k) rfl)
        clear HV
        generalize dg a k = xa at *
        generalize dg b k = xb at *
        obtain ⟨m2, Em⟩ : ∃ x, Hid ((y + xa + xb) / 256 = x) := ⟨_, Lib.hid rfl⟩
        obtain ⟨r, Er⟩ : ∃ x, Hid ((y + xa + xb) % 256 = x) := ⟨_, Lib.hid rfl⟩
        rw [Em.out, Er.out] at HS
        have hdiv : ((y : Int)) / 256 = (m2 : Int) := by rw [← Em.out]; omega
        have hmod : IntKind.u8.wrap ((y : Int)) = (r : Int) := by
          have h := u8_wrap_nat (y + xa + xb)
          rw [Er.out] at h
          rw [← h]
          congr 1 <;> omega
        have hm2 : m2 ≤ 1 := by rw [← Em.out]; omega
        have hr : r < 256 := by rw [← Er.out]; omega
        have HW := Lib.hid (rowR_set hrow (k := k) (i := m - k) (v := r) (by omega) (by omega) rfl)
        clear hrow
        go_wp2_with fail
        go_roundg q
        case measure => omega
        case rel => exact ⟨k + 1, m2, upd g k r, by have := Hk.out; omega, by go_num, rfl, hm2, dig8_upd hd hr, HS, HW.out, hb.setCell (Nat.le_refl _) _⟩
set_option maxRecDepth 100000 in
set_option maxHeartbeats 1600000 in
theorem rsubMag_any (a b : List UInt8) (w : World) (ha : a.length ≤ 100000000) (hb : b.length ≤ a.length) (hle : vB b ≤ vB a) :
    Calls Tryz.prog 69 #[.string ⟨a.toArray⟩, .string ⟨b.toArray⟩] w fun e w' => e = .returned (.string ⟨(bytesOf (vB a - vB b)).toArray⟩) ∧ Below w.heap.size w w' := by
  have hmk := run_make_row' (P := Tryz.prog) 59 5 (.int .u8 0) 1 Tryz.underlying59 Tryz.infoU8 rfl .i64 .i64 a.length (by omega) (by omega)
  have Hle := Lib.hid hle
  clear hle
  go_enter Tryz.func69, Tryz.ntmps69
  go_wp2_with fail
  clear hmk
  go_loopg [6, 7] a.length (fun q s6 s7 wx => ∃ (k y : Nat) (g : Nat → Nat), k + q = a.length ∧ s7 = .int .i64 ((k : Int) + 1) ∧ s6 = .int .i64 (y : Int) ∧ y ≤ 1 ∧ Dig8 g k ∧ Hid (w8 g k + w8 (dg b) k = w8 (dg a) k + y * 256 ^ k) ∧ wx.rowIs w.heap.size 5 a.length (rowR a.length g) ∧ Below w.heap.size w wx)
  case atStart => exact ⟨0, 0, fun _ => 0, by omega, rfl, rfl, by omega, fun i h => absurd h (by omega), by show _ = _; rfl, (World.rowIs_made w _ a.length _).congr (fun i _ => by simp [rowR]), below1 w _⟩
  case round =>
    obtain ⟨k, y, g, hk, rfl, rfl, hy, hd, HV, hrow, hbl⟩ := hrel
    rcases gk with _ | q
    · have hkk : k = a.length := by omega
      subst hkk
      have hfin : w8 g a.length = vB a - vB b := by
        have h := HV.out
        rw [w8_dg_le a (Nat.le_refl _), w8_dg_le b hb] at h
        have h1 := w8_lt hd
        have h2 := Hle.out
        rcases (show y = 0 ∨ y = 1 by omega) with rfl | rfl <;> omega
      have HF := Lib.hid (bytesOf_w8 hd hfin)
      have hcv := run_string_of wr w.heap.size 0 a.length (bl g a.length) (fun i u hu => rowR_cell hrow hd i u hu)
      rw [bl_len] at hcv
      have hlen : (bl g a.length).length ≤ 100000001 := by rw [bl_len]; omega
      clear HV hfin hrow hd
      generalize bl g a.length = T at *
      go_wp2_with fail
      refine (rtrim_any T _ (by omega)).mono ?_
      rintro e W1 ⟨rfl, rfl⟩
      go_wp2
      go_ret
      exact ⟨by rw [HF.out]; rfl, hbl⟩
    · have Hk := Lib.hid hk
      have h1 : k < a.length := by omega
      have hkn : k + q + 1 = a.length := by omega
      clear hk
      by_cases h2 : k < b.length <;> by_cases h3 : dg a k < dg b k + y
      · obtain ⟨ca, hca, hxa⟩ := dg_at (l := a) (j := k) h1
        have hia := run_index_bytes a (a.length - 1 - k) ca hca ((a.length : Int) - ((k : Int) + 1)) (by omega)
        rw [hxa] at hia
        clear hca hxa
        obtain ⟨cb, hcb, hxb⟩ := dg_at (l := b) (j := k) h2
        have hib := run_index_bytes b (b.length - 1 - k) cb hcb ((b.length : Int) - ((k : Int) + 1)) (by omega)
        rw [hxb] at hib
        clear hcb hxb
        have hxa : dg a k < 256 := dg_lt a k
        have hxb : dg b k < 256 := dg_lt b k
        obtain ⟨r, Er⟩ : ∃ r : Nat, dg a k + 256 * 1 = dg b k + y + r := ⟨dg a k + 256 * 1 - dg b k - y, by omega⟩
        have HS := Lib.hid (sub8_step HV.out Er)
        clear HV
        generalize dg a k = xa at *
        generalize dg b k = xb at *
        have hd0 : (xa : Int) - (y : Int) - (xb : Int) < 0 := by omega
        have hmod : IntKind.u8.wrap ((xa : Int) - (y : Int) - (xb : Int) + 256) = (r : Int) := by
          have h := u8_wrap_nat r
          rw [show r % 256 = r by omega] at h
          rw [← h]
          congr 1 <;> omega
        have hr : r < 256 := by omega
        have HW := Lib.hid (rowR_set hrow (k := k) (i := a.length - (k + 1)) (v := r) (by omega) (by omega) rfl)
        have hf := hrow.frozen (a.length - (k + 1))
        have hw := hrow.cell (i := a.length - (k + 1)) (by omega)
        clear hrow Er
        go_wp2_with fail
        go_roundg q
        case measure => omega
        case rel => exact ⟨k + 1, 1, upd g k r, by have := Hk.out; omega, by go_num, rfl, by omega, dig8_upd hd hr, HS, HW.out, hbl.setCell (Nat.le_refl _) _⟩
      · obtain ⟨ca, hca, hxa⟩ := dg_at (l := a) (j := k) h1
        have hia := run_index_bytes a (a.length - 1 - k) ca hca ((a.length : Int) - ((k : Int) + 1)) (by omega)
        rw [hxa] at hia
        clear hca hxa
        obtain ⟨cb, hcb, hxb⟩ := dg_at (l := b) (j := k) h2
        have hib := run_index_bytes b (b.length - 1 - k) cb hcb ((b.length : Int) - ((k : Int) + 1)) (by omega)
        rw [hxb] at hib
        clear hcb hxb
        have hxa : dg a k < 256 := dg_lt a k
        have hxb : dg b k < 256 := dg_lt b k
        obtain ⟨r, Er⟩ : ∃ r : Nat, dg a k + 256 * 0 = dg b k + y + r := ⟨dg a k + 256 * 0 - dg b k - y, by omega⟩
        have HS := Lib.hid (sub8_step HV.out Er)
        clear HV
        generalize dg a k = xa at *
        generalize dg b k = xb at *
        have hd0 : (xa : Int) - (y : Int) - (xb : Int) ≥ 0 := by omega
        have hmod : IntKind.u8.wrap ((xa : Int) - (y : Int) - (xb : Int)) = (r : Int) := by
          have h := u8_wrap_nat r
          rw [show r % 256 = r by omega] at h
          rw [← h]
          congr 1 <;> omega
        have hr : r < 256 := by omega
        have HW := Lib.hid (rowR_set hrow (k := k) (i := a.length - (k + 1)) (v := r) (by omega) (by omega) rfl)
        have hf := hrow.frozen (a.length - (k + 1))
        have hw := hrow.cell (i := a.length - (k + 1)) (by omega)
        clear hrow Er
        go_wp2_with fail
        go_roundg q
        case measure => omega
        case rel => exact ⟨k + 1, 0, upd g k r, by have := Hk.out; omega, by go_num, rfl, by omega, dig8_upd hd hr, HS, HW.out, hbl.setCell (Nat.le_refl _) _⟩
      · obtain ⟨ca, hca, hxa⟩ := dg_at (l := a) (j := k) h1
        have hia := run_index_bytes a (a.length - 1 - k) ca hca ((a.length : Int) - ((k : Int) + 1)) (by omega)
        rw [hxa] at hia
        clear hca hxa
        have hxa : dg a k < 256 := dg_lt a k
        have hxb : dg b k < 256 := dg_lt b k
        have hzb : dg b k = 0 := dg_out (by omega)
        obtain ⟨r, Er⟩ : ∃ r : Nat, dg a k + 256 * 1 = dg b k + y + r := ⟨dg a k + 256 * 1 - dg b k - y, by omega⟩
        have HS := Lib.hid (sub8_step HV.out Er)
        clear HV
        generalize dg a k = xa at *
        generalize dg b k = xb at *
        have hd0 : (xa : Int) - (y : Int) < 0 := by omega
        have hmod : IntKind.u8.wrap ((xa : Int) - (y : Int) + 256) = (r : Int) := by
          have h := u8_wrap_nat r
          rw [show r % 256 = r by omega] at h
          rw [← h]
          congr 1 <;> omega
        have hr : r < 256 := by omega
        have HW := Lib.hid (rowR_set hrow (k := k) (i := a.length - (k + 1)) (v := r) (by omega) (by omega) rfl)
        have hf := hrow.frozen (a.length - (k + 1))
        have hw := hrow.cell (i := a.length - (k + 1)) (by omega)
        clear hrow Er
        go_wp2_with fail
        go_roundg q
        case measure => omega
        case rel => exact ⟨k + 1, 1, upd g k r, by have := Hk.out; omega, by go_num, rfl, by omega, dig8_upd hd hr, HS, HW.out, hbl.setCell (Nat.le_refl _) _⟩
      · obtain ⟨ca, hca, hxa⟩ := dg_at (l := a) (j := k) h1
        have hia := run_index_bytes a (a.length - 1 - k) ca hca ((a.length : Int) - ((k : Int) + 1)) (by omega)
        rw [hxa] at hia
        clear hca hxa
        have hxa : dg a k < 256 := dg_lt a k
        have hxb : dg b k < 256 := dg_lt b k
        have hzb : dg b k = 0 := dg_out (by omega)
        obtain ⟨r, Er⟩ : ∃ r : Nat, dg a k + 256 * 0 = dg b k + y + r := ⟨dg a k + 256 * 0 - dg b k - y, by omega⟩
        have HS := Lib.hid (sub8_step HV.out Er)
        clear HV
        generalize dg a k = xa at *
        generalize dg b k = xb at *
        have hd0 : (xa : Int) - (y : Int) ≥ 0 := by omega
        have hmod : IntKind.u8.wrap ((xa : Int) - (y : Int)) = (r : Int) := by
          have h := u8_wrap_nat r
          rw [show r % 256 = r by omega] at h
          rw [← h]
          congr 1 <;> omega
        have hr : r < 256 := by omega
        have HW := Lib.hid (rowR_set hrow (k := k) (i := a.length - (k + 1)) (v := r) (by omega) (by omega) rfl)
        have hf := hrow.frozen (a.length - (k + 1))
        have hw := hrow.cell (i := a.length - (k + 1)) (by omega)
        clear hrow Er
        go_wp2_with fail
        go_roundg q
        case measure => omega
        case rel => exact ⟨k + 1, 0, upd g k r, by have := Hk.out; omega, by go_num, rfl, by omega, dig8_upd hd hr, HS, HW.out, hbl.setCell (Nat.le_refl _) _⟩
end Go.Proofs.YtgcogpfmhmmgdaaGreatDoor

namespace Go.Proofs.YtgcogpfmhmmgdaaGreatDoor
open Go.RowKit
set_option linter.unusedSimpArgs false
set_option linter.unusedVariables false

theorem Tryz.infoI64r : (Tryz.prog.info? 3).map (fun i => (i.zero, i.size, i.bytes)) = some (some (.int .i64 0), 1, 8) := by kernel_rfl
theorem and_255 (n : Nat) (h : n < 9223372036854775808) : bits .and .i64 (n : Int) 255 = ((n % 256 : Nat) : Int) := by
  show IntKind.i64.wrap ((BitVec.ofInt 64 (n : Int) &&& BitVec.ofInt 64 ((255 : Nat) : Int)).toNat : Int) = _
  rw [BitVec.toNat_and, ofInt_u64 n (by omega), ofInt_u64 255 (by omega), show (255 : Nat) = 2 ^ 8 - 1 from rfl, Nat.and_two_pow_sub_one_eq_mod]
  exact IntWalk.i64_in _ (by omega)
theorem mul8_bound {y p f g : Nat} (hy : y < 256) (hp : p < 256) (hf : f < 256) (hg : g < 256) : y + (p + f * g) < 65536 ∧ (y + (p + f * g)) / 256 < 256 := by
  have : f * g ≤ 255 * 255 := Nat.mul_le_mul (by omega) (by omega)
  omega
set_option maxRecDepth 100000 in
set_option maxHeartbeats 3200000 in
theorem rmulMag_any (a b : List UInt8) (w : World) (ha : a.length ≤ 100000000) (hb : b.length ≤ 100000000) :
    Calls Tryz.prog 81 #[.string ⟨a.toArray⟩, .string ⟨b.toArray⟩] w fun e w' => e = .returned (.string ⟨(bytesOf (vB a * vB b)).toArray⟩) ∧ Below w.heap.size w w' := by
  have hmk := run_make_row' (P := Tryz.prog) 81 3 (.int .i64 0) 8 Tryz.underlying81 Tryz.infoI64r rfl .i64 .i64 (a.length + b.length) (by omega) (by omega)
  rw [show ((a.length + b.length : Nat) : Int) = (a.length : Int) + (b.length : Int) by omega] at hmk
  have Hva := Lib.hid (w8_dg a)
  have Hvb := Lib.hid (w8_dg b)
  go_enter Tryz.func81, Tryz.ntmps81
  go_wp2_with fail
  clear hmk
  obtain ⟨n, hn⟩ : ∃ n, a.length = n := ⟨_, rfl⟩
  obtain ⟨m, hm⟩ : ∃ m, b.length = m := ⟨_, rfl⟩
  go_loopg [6] n (fun q s6 wx => ∃ (k : Nat) (p : Nat → Nat), k + q = n ∧ s6 = .int .i64 ((q : Int) - 1) ∧ Dig8 p (n + m) ∧ (∀ i, k + m ≤ i → p i = 0) ∧ Hid (w8 p (k + m) = w8 (dg a) k * w8 (dg b) m) ∧ wx.rowIs w.heap.size 3 (n + m) (rowI (n + m) p) ∧ Below w.heap.size w wx ∧ wx.heap.size = w.heap.size + 1)
  case atStart => exact ⟨0, fun _ => 0, by omega, by rw [hn], fun i _ => (by omega : (0 : Nat) < 256), fun i _ => rfl, by show _ = _; rw [w8_zeros _ (Nat.zero_le _) (fun _ _ => rfl)]; simp [w8], by rw [← hn, ← hm]; exact (World.rowIs_made w _ _ _).congr (fun i _ => by simp [rowI]), below1 w _, by simp⟩
  case round =>
    obtain ⟨k, p, hk, rfl, dp, hz, HV, hrow, hbl, hsz⟩ := hrel
    rcases gk with _ | q
    · obtain rfl : k = n := by omega
      have hfin : w8 p (k + m) = vB a * vB b := by rw [HV.out, ← hn, ← hm, Hva.out, Hvb.out]
      have HF := Lib.hid (bytesOf_w8 dp hfin)
      have Hs := Lib.hid hsz
      have HP := Lib.hid (And.intro dp hz)
      obtain ⟨N, hN⟩ : ∃ N, k + m = N := ⟨_, rfl⟩
      have hNl : N ≤ 200000000 := by omega
      have hmk := run_make_row' (P := Tryz.prog) 59 5 (.int .u8 0) 1 Tryz.underlying59 Tryz.infoU8 rfl .i64 .i64 N (by omega) (by omega)
      rw [hN] at hrow HF HP
      clear HV hfin hz hsz dp
      obtain ⟨wo, rfl⟩ : ∃ wo : World, wo = wr := ⟨_, rfl⟩
      go_wp2_with fail
      clear hmk
      have hbw : w.heap.size ≤ wo.heap.size := hbl.size
      have hne : w.heap.size ≠ wo.heap.size := by rw [Hs.out]; omega
      go_loopg [10] N (fun q s10 wx => ∃ (k : Nat) (g : Nat → Nat), k + q = N ∧ s10 = .int .i64 (k : Int) ∧ (∀ i, i < N → N - 1 - i < k → g i = p i) ∧ wx.rowIs w.heap.size 3 N (rowI N p) ∧ wx.rowIs wo.heap.size 5 N (rowR N g) ∧ Below w.heap.size w wx)
      case atStart =>
        refine ⟨0, fun _ => 0, by omega, rfl, fun i _ h => absurd h (by omega), hrow.alloc _, ?_, hbl.alloc hbl.size _⟩
        exact (World.rowIs_made wo (.int .u8 0) N 5).congr (fun i _ => by simp [rowR])
      case round =>
        clear hrow hbl
        obtain ⟨k2, g, hk2, rfl, hg, hrow, hrow2, hbl⟩ := hrel
        rcases gk with _ | q
        · obtain rfl : k2 = N := by omega
          have hgp : ∀ i, i < k2 → g i = p i := fun i hi => hg i hi (by omega)
          have dg2 : Dig8 g k2 := fun i hi => by rw [hgp i hi]; exact HP.out.1 i hi
          have hcv := run_string_of wr wo.heap.size 0 k2 (bl g k2) (fun i u hu => rowR_cell hrow2 dg2 i u hu)
          rw [bl_len] at hcv
          have hlen : (bl g k2).length ≤ 1000000000 := by rw [bl_len]; omega
          have HG := Lib.hid (show Lib.trimLeftB (bl g k2) 0 = bytesOf (vB a * vB b) by rw [← HF.out, trim_bytes, trim_bytes, vB_bl dg2, vB_bl HP.out.1, w8_congr hgp])
          clear hg hgp hrow hrow2 dg2
          generalize bl g k2 = T at *
          go_wp2_with fail
          refine (rtrim_any T _ (by omega)).mono ?_
          rintro e W1 ⟨rfl, rfl⟩
          go_wp2
          go_ret
          exact ⟨by rw [HG.out]; rfl, hbl⟩
        · have Hk2 := Lib.hid hk2
          have Hg := Lib.hid hg
          have hkN : k2 < N := by omega
          have hp8 := HP.out.1 (N - 1 - k2) (by omega)
          have hc1 : wr.cell? ⟨w.heap.size, k2, none⟩ = some (.int .i64 (p (N - 1 - k2) : Int)) := hrow.cell (i := k2) hkN
          have hw := hrow2.cell (i := k2) hkN
          have hf := hrow2.frozen k2
          have HW := Lib.hid (rowR_set hrow2 (k := N - 1 - k2) (i := k2) (v := p (N - 1 - k2)) (by omega) (by omega) rfl)
          have HR := Lib.hid (hrow.setOther (a := ⟨wo.heap.size, k2, none⟩) hne (.int .u8 (p (N - 1 - k2) : Int)))
          have hw8 : IntKind.u8.wrap (p (N - 1 - k2) : Int) = (p (N - 1 - k2) : Int) := by rw [u8_wrap_nat, Nat.mod_eq_of_lt hp8]
          have hg2 : ∀ i, i < N → N - 1 - i < k2 + 1 → upd g (N - 1 - k2) (p (N - 1 - k2)) i = p i := fun i hi h => by
            by_cases e : i = N - 1 - k2
            · rw [e, upd_same]
            · simp only [upd, if_neg e]; exact Hg.out i hi (by omega)
          have Hg2 := Lib.hid hg2
          clear hg2
          clear hk2 hg hrow hrow2 Hg
          go_wp2_with fail
          go_roundg q
          case measure => omega
          case rel => exact ⟨k2 + 1, upd g (N - 1 - k2) (p (N - 1 - k2)), by have := Hk2.out; omega, by go_num, Hg2.out, HR.out, HW.out, hbl.setCell hbw _⟩
    · have Hk := Lib.hid hk
      have Hs := Lib.hid hsz
      have Hz := Lib.hid hz
      have hqa : q < a.length := by omega
      have hkq : a.length - 1 - q = k := by omega
      obtain ⟨ca, hca, hxa⟩ := dg_pos hqa
      have hia := run_index_bytes a q ca hca (q : Int) rfl
      rw [hxa, hkq] at hia
      have hxa2 : dg a k < 256 := dg_lt a k
      clear hk hsz hz hca hxa
      obtain ⟨wo, rfl⟩ : ∃ wo : World, wo = wr := ⟨_, rfl⟩
      go_wp2_with fail
      go_loopg [7, 8] m (fun q2 s7 s8 wx => ∃ (j y : Nat) (p : Nat → Nat), j + q2 = m ∧ s8 = .int .i64 ((q2 : Int) - 1) ∧ s7 = .int .i64 (y : Int) ∧ y < 256 ∧ Dig8 p (n + m) ∧ (∀ i, k + m ≤ i → p i = 0) ∧ Hid (w8 p (k + m) + y * 256 ^ (k + j) = w8 (dg a) k * w8 (dg b) m + dg a k * w8 (dg b) j * 256 ^ k) ∧ wx.rowIs w.heap.size 3 (n + m) (rowI (n + m) p) ∧ Below w.heap.size w wx ∧ wx.heap.size = w.heap.size + 1)
      case atStart => exact ⟨0, 0, p, by omega, by first | rfl | rw [hm], rfl, by omega, dp, Hz.out, by show _ = _; rw [HV.out]; simp [w8], hrow, hbl, Hs.out⟩
      case round =>
        clear hrow hbl dp HV Hz Hs
        obtain ⟨j, y, p2, hj, rfl, rfl, hy, dp, hz, HV, hrow, hbl, hsz⟩ := hrel
        have Hz := Lib.hid hz
        have Hs := Lib.hid hsz
        have Hj := Lib.hid hj
        rcases gk with _ | q2
        · obtain rfl : j = m := by omega
          have HF := Lib.hid (mul8_outer HV.out)
          have hpz : p2 (k + j) = 0 := Hz.out _ (Nat.le_refl _)
          have hc1 : wr.cell? ⟨w.heap.size, q, none⟩ = some (.int .i64 0) := by
            have h := hrow.cell (i := q) (by omega)
            rw [h, rowI, show n + j - 1 - q = k + j by omega, hpz]; rfl
          have hf := hrow.frozen q
          have HW := Lib.hid (rowI_set hrow (k := k + j) (i := q) (v := y) (by omega) (by omega) rfl)
          clear hz hsz hj HV hrow
          go_wp2_with fail
          go_roundg q
          case measure => omega
          case rel => exact ⟨k + 1, upd p2 (k + j) y, by have := Hk.out; omega, by go_num, dig8_set dp hy, fun i hi => by
            have e : i ≠ k + j := by omega
            simp only [upd, if_neg e]; exact Hz.out i (by omega), HF, HW.out, hbl.setCell (Nat.le_refl _) _, by simpa using Hs.out⟩
        · have hqb : q2 < b.length := by omega
          have hjq : b.length - 1 - q2 = j := by omega
          obtain ⟨cb, hcb, hxb⟩ := dg_pos hqb
          have hib := run_index_bytes b q2 cb hcb (q2 : Int) rfl
          rw [hxb, hjq] at hib
          have hxb2 : dg b j < 256 := dg_lt b j
          have hpl : p2 (k + j) < 256 := dp _ (by omega)
          have hc1 : wr.cell? ⟨w.heap.size, q + q2 + 1, none⟩ = some (.int .i64 (p2 (k + j) : Int)) := by
            have h := hrow.cell (i := q + q2 + 1) (by omega)
            rw [h, rowI, show n + m - 1 - (q + q2 + 1) = k + j by omega]
          have hf := hrow.frozen (q + q2 + 1)
          have HM := mul8_inner (t := y + (p2 (k + j) + dg a k * dg b j)) (show j < m by omega) HV.out rfl
          have hb8 := mul8_bound hy hpl hxa2 hxb2
          obtain ⟨T, hT⟩ : ∃ T : Nat, Hid (y + (p2 (k + j) + dg a k * dg b j) = T) := ⟨_, Lib.hid rfl⟩
          rw [hT.out] at HM hb8
          obtain ⟨r, Er⟩ : ∃ x, Hid (T % 256 = x) := ⟨_, Lib.hid rfl⟩
          obtain ⟨m2, Em⟩ : ∃ x, Hid (T / 256 = x) := ⟨_, Lib.hid rfl⟩
          rw [Er.out, Em.out] at HM
          rw [Em.out] at hb8
          have HM := Lib.hid HM
          have hr : r < 256 := by rw [← Er.out]; omega
          have hT2 := hb8.1
          have hm2 := hb8.2
          have HW := Lib.hid (rowI_set hrow (k := k + j) (i := q + q2 + 1) (v := r) (by omega) (by omega) rfl)
          have hsum : (y : Int) + ((p2 (k + j) : Int) + (dg a k : Int) * (dg b j : Int)) = (T : Int) := by rw [← hT.out, Int.natCast_add, Int.natCast_add, Int.natCast_mul]
          have hpr : (dg a k : Int) * (dg b j : Int) = ((dg a k * dg b j : Nat) : Int) := (Int.natCast_mul _ _).symm
          have hprb : dg a k * dg b j < 65536 := by
            have : dg a k * dg b j ≤ 255 * 255 := Nat.mul_le_mul (by omega) (by omega)
            omega
          have hand : bits .and .i64 (T : Int) 255 = (r : Int) := by rw [and_255 T (by omega), Er.out]
          have hdiv : (T : Int) / 256 = (m2 : Int) := by rw [← Em.out]; omega
          rw [hpr] at hsum
          obtain ⟨xa, hxa9⟩ : ∃ x, dg a k = x := ⟨_, rfl⟩
          obtain ⟨xb, hxb9⟩ : ∃ x, dg b j = x := ⟨_, rfl⟩
          rw [hxa9] at hia hsum hpr hprb hxa2
          rw [hxb9] at hib hsum hpr hprb hxb2
          clear hxa9 hxb9
          obtain ⟨xp, hxp⟩ : ∃ xp, p2 (k + j) = xp := ⟨_, rfl⟩
          rw [hxp] at hc1 hsum hpl
          obtain ⟨pr, Hpr⟩ : ∃ pr, Hid (xa * xb = pr) := ⟨_, Lib.hid rfl⟩
          rw [Hpr.out] at hpr hsum hprb
          clear hz hsz hj HV hrow hxb hcb hb8 hxp
          go_upto_region 9 with fail
          go_big_region
          go_wp2_with fail
          go_roundg q2
          case measure => omega
          case rel => exact ⟨j + 1, m2, upd p2 (k + j) r, by have := Hj.out; omega, by go_num, rfl, hm2, dig8_set dp hr, fun i hi => by
            have e : i ≠ k + j := by omega
            simp only [upd, if_neg e]; exact Hz.out i (by omega), HM, HW.out.drew, (hbl.setCell (Nat.le_refl _) _).drew, by simpa using Hs.out⟩
end Go.Proofs.YtgcogpfmhmmgdaaGreatDoor
