/- What integer.Small returns: the value, if it is an int. -/
import Derived.Test.YtmdkkeklihfdgaaGreatDoorIof
import Derived.Test.YtmdkkeklihfdgaaGreatDoorIcmp
import Derived.Test.YtmdkkeklihfdgaaGreatDoorIbits
import Derived.Test.YtmdkkeklihfdgaaGreatDoorDgr
import Derived.Test.YtmdkkeklihfdgaaGreatDoorIpow
import Derived.Deep.DeepCutAuto
import Derived.Deep.RegionHeld3
namespace Go.Proofs.YtmdkkeklihfdgaaGreatDoor
open Go.RowKit

def fitsInt (z : Int) : Prop := -9223372036854775808 ≤ z ∧ z ≤ 9223372036854775807
instance (z : Int) : Decidable (fitsInt z) := by unfold fitsInt; infer_instance

theorem keep2' {Wp W1 : World} {p1 p2 : Addr} {v1 v2 : Value} (hb : Below Wp.heap.size Wp W1) (h : Wp.cell? p1 = some v1 ∧ Wp.cell? p2 = some v2) : W1.cell? p1 = some v1 ∧ W1.cell? p2 = some v2 := ⟨cell_keep h.1 hb, cell_keep h.2 hb⟩
theorem or_zero64 (f : Nat → Nat) (h : f 0 < 4294967296) : bits .or .u64 ((val f 0 : Nat) : Int) ((f 0 : Nat) : Int) = ((val f (0 + 1) : Nat) : Int) := by
  rw [u64_or_nat _ _ (by simp [val]) (by omega)]
  simp [val]
theorem or_one64 (f : Nat → Nat) (h0 : f 0 < 4294967296) (h : f 1 < 4294967296) : bits .or .u64 ((val f 1 : Nat) : Int) (((f 1 : Nat) : Int) * 4294967296) = ((val f (1 + 1) : Nat) : Int) := by
  have h1 := u64_or_nat (val f 1) (f 1 * 4294967296) (by simp [val]; omega) (by omega)
  rw [Nat.or_comm, or_shl (f 1) (val f 1) (by simp [val]; omega), Int.natCast_mul] at h1
  refine Eq.trans h1 ?_
  simp [val]; omega
theorem small_val (na : Bool) (z y : Int) (hz : z = if na then -((z.natAbs : Nat) : Int) else ((z.natAbs : Nat) : Int)) (hy : y = if na then IntKind.u64.wrap (-((z.natAbs : Nat) : Int)) else ((z.natAbs : Nat) : Int)) (hM : z.natAbs < 18446744073709551616) :
    -9223372036854775808 ≤ wrap64 y ∧ wrap64 y ≤ 9223372036854775807 ∧ (fitsInt z → wrap64 y = z) ∧ (wrap64 y = z → fitsInt z) := by
  unfold wrap64 fitsInt
  cases na
  · simp only [Bool.false_eq_true, if_false] at hz hy
    omega
  · simp only [if_true] at hz hy
    rw [IntKind.wrap_u64] at hy
    omega

set_option maxRecDepth 100000 in
set_option maxHeartbeats 3200000 in
theorem small_any (v : Value) (z : Int) (k : Nat) (w : World) (h : IsInt v z k) :
    Calls Tryz.prog 6 #[v] w fun e w' => e = .returned (if fitsInt z then .tuple #[.int .i64 z, .bool true] else .tuple #[.int .i64 0, .bool false]) ∧ Below w.heap.size w w' := by
  have Hi : Hid (IsInt v z k) := h
  obtain ⟨na, sa, rfl, hz, hs, hk, hkk⟩ := h
  have HN : Hid (vB sa.data.toList = z.natAbs) := by show _ = _; rw [← natAbs_zv na sa, hz]
  have Hz : Hid (zv na sa = z) := hz
  have hb0 := below1 w (.cells #[.bool na, .string sa] 23)
  have c1 : (w.alloc (.cells #[.bool na, .string sa] 23)).cell? ⟨w.heap.size, 0, none⟩ = some (.bool na) := by simp [go_sem]
  have c2 : (w.alloc (.cells #[.bool na, .string sa] 23)).cell? ⟨w.heap.size, 1, none⟩ = some (.string sa) := by simp [go_sem]
  have hnb := nbits_le hk
  have Hlt : Hid (z.natAbs < 2 ^ nbits z.natAbs) := nbits_lt _
  obtain ⟨nb, hnbe⟩ : ∃ nb, nb = nbits z.natAbs := ⟨_, rfl⟩
  have Hb : Hid (nbits z.natAbs = nb) := hnbe.symm
  rw [← hnbe] at hnb
  clear hz hk hnbe
  by_cases hbig : 64 < nb
  · have hnf : Hid (¬ fitsInt z) := by
      intro hf
      have h1 : 0 < z.natAbs := by
        rcases Nat.eq_zero_or_pos z.natAbs with h | h
        · have := Hb.out; rw [h] at this; have : nb = 0 := by rw [← this]; rfl
          omega
        · exact h
      have h2 := nbits_ge (N := z.natAbs) (by omega)
      rw [Hb.out] at h2
      have h3 : 2 ^ 64 ≤ 2 ^ (nb - 1) := Nat.pow_le_pow_right (by omega) (by omega)
      obtain ⟨f1, f2⟩ := hf
      omega
    go_enter Tryz.func6, Tryz.ntmps6
    go_wp2_with fail
    refine (ibits_any _ z k _ Hi.out).mono ?_
    rintro e W1 ⟨rfl, b1⟩
    rw [Hb.out]
    go_wp2
    go_ret2
    exact ⟨rfl, below_more hb0 (Nat.le_refl _) b1⟩
  · have HM : Hid (z.natAbs < 18446744073709551616) := by
      have h1 := Hlt.out
      rw [Hb.out] at h1
      exact Nat.lt_of_lt_of_le h1 (Nat.pow_le_pow_right (by omega) (by omega : nb ≤ 64))
    go_enter Tryz.func6, Tryz.ntmps6
    go_wp2_with fail
    refine (ibits_any _ z k _ Hi.out).mono ?_
    rintro e W1 ⟨rfl, b1⟩
    rw [Hb.out]
    have y1 := cell_keep c1 b1
    have y2 := cell_keep c2 b1
    have hb1 := below_more hb0 (Nat.le_refl _) b1
    clear c1 c2 b1 hb0
    go_wp2_with fail
    refine (magnitude_any _ sa _ (by omega)).mono ?_
    rintro e W2 ⟨A, n, c, rfl, i2, b2⟩
    rw [HN.out] at i2
    have l2 : n ≤ 2 := i2.len (k := 2) (by have := HM.out; omega)
    have hb2 := below_more hb1 (Nat.le_refl _) b2
    have x1 := cell_keep y1 b2
    have x2 := cell_keep y2 b2
    clear y1 y2 b2 hb1
    obtain ⟨_, _, f, ⟨bb, off, hAe, hcell⟩, df, tf, hv⟩ := i2
    have HV : Hid (val f n = z.natAbs) := hv
    clear tf hv
    go_wp2_with fail
    go_loopg [4, 14] n (fun g s4 s14 wx => g ≤ n ∧ s14 = .int .i64 ((n - g : Nat) : Int) ∧ s4 = .int .u64 ((val f (n - g) : Nat) : Int) ∧ wx = W2)
    case atStart => exact ⟨Nat.le_refl _, by rw [Nat.sub_self]; rfl, by rw [Nat.sub_self]; rfl, rfl⟩
    case round =>
      obtain ⟨hg, rfl, rfl, rfl⟩ := hrel
      rcases gk with _ | g
      · clear hAe hcell df
        have HV2 : Hid (val f (n - 0) = z.natAbs) := HV.out
        go_upto_if 28 with fail
        go_cut [4] (fun s4 wx => ∃ y : Int, s4 = .int .u64 y ∧ wx = wr ∧ Hid (y = if na then IntKind.u64.wrap (-((z.natAbs : Nat) : Int)) else ((z.natAbs : Nat) : Int)))
        case first =>
          cases na with
          | false =>
            go_wp2_with fail
            go_meet
            exact ⟨_, rfl, rfl, by show _ = _; rw [HV2.out]; rfl⟩
          | true =>
            go_wp2_with fail
            go_meet
            exact ⟨_, rfl, rfl, by show _ = _; first | (rw [HV2.out]; rfl) | (rw [HV.out]; rfl)⟩
        case rest =>
          obtain ⟨y, rfl, rfl, Hy⟩ := hcut
          go_upto_region 12 with fail
          have hsv := small_val na z y (by rw [← HN.out]; exact Hz.out.symm) Hy.out HM.out
          obtain ⟨y2, hy2⟩ : ∃ y2, y2 = wrap64 y := ⟨_, rfl⟩
          rw [← hy2] at hsv ⊢
          obtain ⟨lo, hi, f1, f2⟩ := hsv
          clear hy2
          have H2 : Hid (y2.natAbs < 4294967296 ^ 2) := by show _ < _; omega
          by_cases hf : fitsInt z
          · have he := f1 hf
            have Hc : Hid (cmpZ y2 z = 0) := by show _ = _; rw [he]; unfold cmpZ; simp
            have HF : Hid (fitsInt z) := hf
            have HE : Hid (y2 = z) := he
            clear f1 f2 hf he
            go_region_held3 (fun W => W.cell? ⟨w.heap.size, 0, none⟩ = some (.bool na) ∧ W.cell? ⟨w.heap.size, 1, none⟩ = some (.string sa)) (first | exact keep2' (by assumption) (by assumption) | exact ⟨x1, x2⟩ | go_keep)
              (first
                | (go_at_call 8; refine (iof_any y2 _ lo hi).mono ?_; rintro e W5 ⟨rfl, b5⟩)
                | (go_at_call 14; refine (icmp_any _ _ y2 z 2 k _ (isInt_mg H2.out (by omega)) Hi.out).mono ?_; rintro e W6 ⟨rfl, b6⟩; rw [Hc.out]))
            all_goals
              go_wp2
              go_ret2
              exact ⟨by rw [← HE.out]; rfl, below_more (below_more hb2.drew (Nat.le_refl _) b5) (Nat.le_refl _) b6⟩
          · obtain ⟨q, Hc, hq⟩ : ∃ q : Int, Hid (cmpZ y2 z = q) ∧ (q = 1 ∨ q = -1) := by
              have hne : y2 ≠ z := fun e => hf (f2 e)
              refine ⟨_, rfl, ?_⟩
              unfold cmpZ
              rcases Int.lt_or_gt_of_ne hne with h | h
              · rw [if_pos h]; exact Or.inr rfl
              · rw [if_neg (by omega), if_pos h]; exact Or.inl rfl
            have HF : Hid (¬ fitsInt z) := hf
            clear f1 f2 hf
            rcases hq with rfl | rfl
            all_goals
              go_region_held3 (fun W => W.cell? ⟨w.heap.size, 0, none⟩ = some (.bool na) ∧ W.cell? ⟨w.heap.size, 1, none⟩ = some (.string sa)) (first | exact keep2' (by assumption) (by assumption) | exact ⟨x1, x2⟩ | go_keep)
                (first
                  | (go_at_call 8; refine (iof_any y2 _ lo hi).mono ?_; rintro e W5 ⟨rfl, b5⟩)
                  | (go_at_call 14; refine (icmp_any _ _ y2 z 2 k _ (isInt_mg H2.out (by omega)) Hi.out).mono ?_; rintro e W6 ⟨rfl, b6⟩; rw [Hc.out]))
            all_goals
              go_wp2
              go_ret2
              exact ⟨rfl, below_more (below_more hb2.drew (Nat.le_refl _) b5) (Nat.le_refl _) b6⟩
      · obtain ⟨i, hi⟩ : ∃ i, i = n - (g + 1) := ⟨_, rfl⟩
        rw [← hi]
        obtain rfl := hAe (by omega)
        have hx := hcell i (by omega)
        have dk := df i (by omega)
        have d0 := df 0 (by omega)
        have hin : i < n := by omega
        have hi1 : i = 0 ∨ i = 1 := by omega
        have HI : Hid (i + 1 = n - g ∧ g + 1 ≤ n) := by show _ ∧ _; omega
        clear hg hi
        rcases hi1 with rfl | rfl
        · go_wp2
          go_roundg g
          case measure => omega
          case rel => exact ⟨by have := HI.out.2; omega, by rw [← HI.out.1]; rfl, by rw [← HI.out.1, or_zero64 f (by omega)], rfl⟩
        · go_wp2
          go_roundg g
          case measure => omega
          case rel => exact ⟨by have := HI.out.2; omega, by rw [← HI.out.1]; rfl, by rw [← HI.out.1, or_one64 f (by omega) (by omega)], rfl⟩
end Go.Proofs.YtmdkkeklihfdgaaGreatDoor
