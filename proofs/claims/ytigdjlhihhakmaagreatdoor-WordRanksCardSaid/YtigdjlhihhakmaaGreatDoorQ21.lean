/- What integer.Small returns: the value, if it is an int. What integer.divide returns where the divisor has one digit, or is greater: the quotient and the rest. What integer.multiplyAdd returns: the product with a digit, and a digit more. Condition: a number in memory. -/
import Derived.Test.YtigdjlhihhakmaaGreatDoorQ12
import Derived.Test.YtigdjlhihhakmaaGreatDoorQ18
import Derived.Test.YtigdjlhihhakmaaGreatDoorQ19
import Derived.Test.YtigdjlhihhakmaaGreatDoorQ20
import Derived.Deep.DeepCutAuto
import Derived.Deep.RegionHeld3
import Derived.Test.YtigdjlhihhakmaaGreatDoorQ09
import Derived.Lib.Hide
import Derived.Test.YtigdjlhihhakmaaGreatDoorQ06

namespace Go.Proofs.YtigdjlhihhakmaaGreatDoor
open Go.RowKit

def fitsInt (z : Int) : Prop := -9223372036854775808 ≤ z ∧ z ≤ 9223372036854775807
instance (z : Int) : Decidable (fitsInt z) := by unfold fitsInt; infer_instance

theorem keep2' {Wp W1 : World} {p1 p2 : Addr} {v1 v2 : Value} (hb : Below Wp.heap.size Wp W1) (h : Wp.cell? p1 = some v1 ∧ Wp.cell? p2 = some v2) : W1.cell? p1 = some v1 ∧ W1.cell? p2 = some v2 := ⟨cell_keep h.1 hb, cell_keep h.2 hb⟩
theorem or_zero64 (f : Nat → Nat) (h : f 0 < 4294967296) : bits .or .u64 ((val f 0 : Nat) : Int) ((f 0 : Nat) : Int) = ((val f (0 + 1) : Nat) : Int) := by
  rw [u64_or_nat _ _ (by simp [val]) (by omega)]
  simp [val]
theorem or_one64 (f : Nat → Nat) (h0 : f 0 < 4294967296) (h : f 1 < 4294967296) : bits .or .u64 ((val f 1 : Nat) : Int) (((f 1 : Nat) : Int) * 4294967296) = ((val f (1 + 1) : Nat) : Int) := by
  have h1 := u64_or_nat (val f 1) (f 1 * 4294967296) (by simp [val]; omega) (by omega)
  rw [Nat.or_comm, or_shl (f 1) (val f 1) (by simp [val]; omega), Int.natCast_mul] at h1
  refine Eq.trans h1 ?_
  simp [val]; omega
theorem small_val (na : Bool) (z y : Int) (hz : z = if na then -((z.natAbs : Nat) : Int) else ((z.natAbs : Nat) : Int)) (hy : y = if na then IntKind.u64.wrap (-((z.natAbs : Nat) : Int)) else ((z.natAbs : Nat) : Int)) (hM : z.natAbs < 18446744073709551616) :
    -9223372036854775808 ≤ wrap64 y ∧ wrap64 y ≤ 9223372036854775807 ∧ (fitsInt z → wrap64 y = z) ∧ (wrap64 y = z → fitsInt z) := by
  unfold wrap64 fitsInt
  cases na
  · simp only [Bool.false_eq_true, if_false] at hz hy
    omega
  · simp only [if_true] at hz hy
    rw [IntKind.wrap_u64] at hy
    omega

set_option maxRecDepth 100000 in
set_option maxHeartbeats 3200000 in
theorem small_any (v : Value) (z : Int) (k : Nat) (w : World) (h : IsInt v z k) :
    Calls Tryz.prog 69 #[v] w fun e w' => e = .returned (if fitsInt z then .tuple #[.int .i64 z, .bool true] else .tuple #[.int .i64 0, .bool false]) ∧ Below w.heap.size w w' := by
  have Hi : Hid (IsInt v z k) := h
  obtain ⟨na, sa, rfl, hz, hs, hk, hkk⟩ := h
  have HN : Hid (vB sa.data.toList = z.natAbs) := by show _ = _; rw [← natAbs_zv na sa, hz]
  have Hz : Hid (zv na sa = z) := hz
  have hb0 := below1 w (.cells #[.bool na, .string sa] 23)
  have c1 : (w.alloc (.cells #[.bool na, .string sa] 23)).cell? ⟨w.heap.size, 0, none⟩ = some (.bool na) := by simp [go_sem]
  have c2 : (w.alloc (.cells #[.bool na, .string sa] 23)).cell? ⟨w.heap.size, 1, none⟩ = some (.string sa) := by simp [go_sem]
  have hnb := nbits_le hk
  have Hlt : Hid (z.natAbs < 2 ^ nbits z.natAbs) := nbits_lt _
  obtain ⟨nb, hnbe⟩ : ∃ nb, nb = nbits z.natAbs := ⟨_, rfl⟩
  have Hb : Hid (nbits z.natAbs = nb) := hnbe.symm
  rw [← hnbe] at hnb
  clear hz hk hnbe
  by_cases hbig : 64 < nb
  · have hnf : Hid (¬ fitsInt z) := by
      intro hf
      have h1 : 0 < z.natAbs := by
        rcases Nat.eq_zero_or_pos z.natAbs with h | h
        · have := Hb.out; rw [h] at this; have : nb = 0 := by rw [← this]; rfl
          omega
        · exact h
      have h2 := nbits_ge (N := z.natAbs) (by omega)
      rw [Hb.out] at h2
      have h3 : 2 ^ 64 ≤ 2 ^ (nb - 1) := Nat.pow_le_pow_right (by omega) (by omega)
      obtain ⟨f1, f2⟩ := hf
      omega
    go_enter Tryz.func69, Tryz.ntmps69
    go_wp2_with fail
    refine (ibits_any _ z k _ Hi.out).mono ?_
    rintro e W1 ⟨rfl, b1⟩
    rw [Hb.out]
    go_wp2
    go_ret2
    exact ⟨rfl, below_more hb0 (Nat.le_refl _) b1⟩
  · have HM : Hid (z.natAbs < 18446744073709551616) := by
      have h1 := Hlt.out
      rw [Hb.out] at h1
      exact Nat.lt_of_lt_of_le h1 (Nat.pow_le_pow_right (by omega) (by omega : nb ≤ 64))
    go_enter Tryz.func69, Tryz.ntmps69
    go_wp2_with fail
    refine (ibits_any _ z k _ Hi.out).mono ?_
    rintro e W1 ⟨rfl, b1⟩
    rw [Hb.out]
    have y1 := cell_keep c1 b1
    have y2 := cell_keep c2 b1
    have hb1 := below_more hb0 (Nat.le_refl _) b1
    clear c1 c2 b1 hb0
    go_wp2_with fail
    refine (magnitude_any _ sa _ (by omega)).mono ?_
    rintro e W2 ⟨A, n, c, rfl, i2, b2⟩
    rw [HN.out] at i2
    have l2 : n ≤ 2 := i2.len (k := 2) (by have := HM.out; omega)
    have hb2 := below_more hb1 (Nat.le_refl _) b2
    have x1 := cell_keep y1 b2
    have x2 := cell_keep y2 b2
    clear y1 y2 b2 hb1
    obtain ⟨_, _, f, ⟨bb, off, hAe, hcell⟩, df, tf, hv⟩ := i2
    have HV : Hid (val f n = z.natAbs) := hv
    clear tf hv
    go_wp2_with fail
    go_loopg [4, 14] n (fun g s4 s14 wx => g ≤ n ∧ s14 = .int .i64 ((n - g : Nat) : Int) ∧ s4 = .int .u64 ((val f (n - g) : Nat) : Int) ∧ wx = W2)
    case atStart => exact ⟨Nat.le_refl _, by rw [Nat.sub_self]; rfl, by rw [Nat.sub_self]; rfl, rfl⟩
    case round =>
      obtain ⟨hg, rfl, rfl, rfl⟩ := hrel
      rcases gk with _ | g
      · clear hAe hcell df
        have HV2 : Hid (val f (n - 0) = z.natAbs) := HV.out
        go_upto_if 28 with fail
        go_cut [4] (fun s4 wx => ∃ y : Int, s4 = .int .u64 y ∧ wx = wr ∧ Hid (y = if na then IntKind.u64.wrap (-((z.natAbs : Nat) : Int)) else ((z.natAbs : Nat) : Int)))
        case first =>
          cases na with
          | false =>
            go_wp2_with fail
            go_meet
            exact ⟨_, rfl, rfl, by show _ = _; rw [HV2.out]; rfl⟩
          | true =>
            go_wp2_with fail
            go_meet
            exact ⟨_, rfl, rfl, by show _ = _; first | (rw [HV2.out]; rfl) | (rw [HV.out]; rfl)⟩
        case rest =>
          obtain ⟨y, rfl, rfl, Hy⟩ := hcut
          go_upto_region 12 with fail
          have hsv := small_val na z y (by rw [← HN.out]; exact Hz.out.symm) Hy.out HM.out
          obtain ⟨y2, hy2⟩ : ∃ y2, y2 = wrap64 y := ⟨_, rfl⟩
          rw [← hy2] at hsv ⊢
          obtain ⟨lo, hi, f1, f2⟩ := hsv
          clear hy2
          have H2 : Hid (y2.natAbs < 4294967296 ^ 2) := by show _ < _; omega
          by_cases hf : fitsInt z
          · have he := f1 hf
            have Hc : Hid (cmpZ y2 z = 0) := by show _ = _; rw [he]; unfold cmpZ; simp
            have HF : Hid (fitsInt z) := hf
            have HE : Hid (y2 = z) := he
            clear f1 f2 hf he
            go_region_held3 (fun W => W.cell? ⟨w.heap.size, 0, none⟩ = some (.bool na) ∧ W.cell? ⟨w.heap.size, 1, none⟩ = some (.string sa)) (first | exact keep2' (by assumption) (by assumption) | exact ⟨x1, x2⟩ | go_keep)
              (first
                | (go_at_call 14; refine (iof_any y2 _ lo hi).mono ?_; rintro e W5 ⟨rfl, b5⟩)
                | (go_at_call 31; refine (icmp_any _ _ y2 z 2 k _ (isInt_mg H2.out (by omega)) Hi.out).mono ?_; rintro e W6 ⟨rfl, b6⟩; rw [Hc.out]))
            all_goals
              go_wp2
              go_ret2
              exact ⟨by rw [← HE.out]; rfl, below_more (below_more hb2.drew (Nat.le_refl _) b5) (Nat.le_refl _) b6⟩
          · obtain ⟨q, Hc, hq⟩ : ∃ q : Int, Hid (cmpZ y2 z = q) ∧ (q = 1 ∨ q = -1) := by
              have hne : y2 ≠ z := fun e => hf (f2 e)
              refine ⟨_, rfl, ?_⟩
              unfold cmpZ
              rcases Int.lt_or_gt_of_ne hne with h | h
              · rw [if_pos h]; exact Or.inr rfl
              · rw [if_neg (by omega), if_pos h]; exact Or.inl rfl
            have HF : Hid (¬ fitsInt z) := hf
            clear f1 f2 hf
            rcases hq with rfl | rfl
            all_goals
              go_region_held3 (fun W => W.cell? ⟨w.heap.size, 0, none⟩ = some (.bool na) ∧ W.cell? ⟨w.heap.size, 1, none⟩ = some (.string sa)) (first | exact keep2' (by assumption) (by assumption) | exact ⟨x1, x2⟩ | go_keep)
                (first
                  | (go_at_call 14; refine (iof_any y2 _ lo hi).mono ?_; rintro e W5 ⟨rfl, b5⟩)
                  | (go_at_call 31; refine (icmp_any _ _ y2 z 2 k _ (isInt_mg H2.out (by omega)) Hi.out).mono ?_; rintro e W6 ⟨rfl, b6⟩; rw [Hc.out]))
            all_goals
              go_wp2
              go_ret2
              exact ⟨rfl, below_more (below_more hb2.drew (Nat.le_refl _) b5) (Nat.le_refl _) b6⟩
      · obtain ⟨i, hi⟩ : ∃ i, i = n - (g + 1) := ⟨_, rfl⟩
        rw [← hi]
        obtain rfl := hAe (by omega)
        have hx := hcell i (by omega)
        have dk := df i (by omega)
        have d0 := df 0 (by omega)
        have hin : i < n := by omega
        have hi1 : i = 0 ∨ i = 1 := by omega
        have HI : Hid (i + 1 = n - g ∧ g + 1 ≤ n) := by show _ ∧ _; omega
        clear hg hi
        rcases hi1 with rfl | rfl
        · (try rw [Nat.add_zero] at hx)
          go_wp2
          go_roundg g
          case measure => omega
          case rel => exact ⟨by have := HI.out.2; omega, by rw [← HI.out.1]; rfl, by rw [← HI.out.1, or_zero64 f (by omega)], rfl⟩
        · go_wp2
          go_roundg g
          case measure => omega
          case rel => exact ⟨by have := HI.out.2; omega, by rw [← HI.out.1]; rfl, by rw [← HI.out.1, or_one64 f (by omega) (by omega)], rfl⟩
end Go.Proofs.YtigdjlhihhakmaaGreatDoor

namespace Go.Proofs.YtigdjlhihhakmaaGreatDoor
open Go.RowKit

def DivdOut (w : World) (Q R : Nat) (e : Ending) (w' : World) : Prop :=
  ∃ A1 n1 c1 A2 n2 c2, e = .returned (.tuple #[.slice A1 n1 c1, .slice A2 n2 c2]) ∧ IsNat w' A1 n1 c1 Q ∧ IsNat w' A2 n2 c2 R ∧ Below w.heap.size w w'

theorem zero_nat (w : World) : IsNat w none 0 0 0 := ⟨Nat.le_refl _, by omega, fun _ => 0, Rd.nil _ _ _, fun i h => absurd h (by omega), fun h => absurd h (by omega), rfl⟩
theorem oneRow (w : World) (t : TypeId) (d : Nat) : Rd (w.alloc (.cells #[.int .u32 (d : Int)] t)) (some ⟨w.heap.size, 0, none⟩) 1 (fun _ => d) := by
  refine ⟨w.heap.size, 0, fun _ => rfl, fun i hi => ?_⟩
  obtain rfl : i = 0 := by omega
  simp [go_sem]

set_option maxRecDepth 100000 in
set_option maxHeartbeats 1600000 in
theorem divide_lt (A B : Option Addr) (n m c d N M : Nat) (w : World) (hA : IsNat w A n c N) (hB : IsNat w B m d M) (hlt : N < M) :
    Calls Tryz.prog 103 #[.slice A n c, .slice B m d] w (DivdOut w (N / M) (N % M)) := by
  have hc : cmpN N M < 0 := by unfold cmpN; rw [if_pos hlt]; omega
  have Hq : Hid (N / M = 0 ∧ N % M = N) := ⟨Nat.div_eq_of_lt hlt, Nat.mod_eq_of_lt hlt⟩
  clear hlt
  go_enter Tryz.func103, Tryz.ntmps103
  go_wp2_with fail
  refine (compare_any A B n m c d N M _ hA hB).mono ?_
  rintro e w' ⟨rfl, q, rfl⟩
  go_wp2
  go_ret2
  exact ⟨none, 0, 0, A, n, c, rfl, by rw [Hq.out.1]; exact zero_nat _, by rw [Hq.out.2]; exact hA, ⟨rfl, rfl, rfl, Nat.le_refl _, fun _ _ => rfl⟩⟩

set_option maxRecDepth 100000 in
set_option maxHeartbeats 1600000 in
theorem divide_one (A B : Option Addr) (n m c d N M : Nat) (w : World) (hA : IsNat w A n c N) (hB : IsNat w B m d M) (hn : n ≤ 10000000) (hge : ¬ N < M) (h0 : M ≠ 0) (h1 : M < 4294967296) :
    Calls Tryz.prog 103 #[.slice A n c, .slice B m d] w (DivdOut w (N / M) (N % M)) := by
  have hc : ¬ cmpN N M < 0 := by unfold cmpN; rw [if_neg hge]; split <;> omega
  have hm1 : m = 1 := by
    have h2 := hB.len (k := 1) (by simpa using h1)
    obtain ⟨_, _, g, _, _, _, hv⟩ := hB
    rcases m with _ | m
    · simp [val] at hv; omega
    · omega
  subst hm1
  have hB2 := hB
  obtain ⟨hmd, hd, g, ⟨b', off', hBe, hcell'⟩, dg, tg, hv⟩ := hB
  obtain rfl := hBe (by omega)
  have hg : g 0 = M := by simpa [val] using hv
  have hx : w.cell? ⟨b', off', none⟩ = some (.int .u32 (M : Int)) := by have := hcell' 0 (by omega); rw [hg] at this; simpa using this
  have hone : (((1 : Nat) : Int) == 1) = true := rfl
  clear hcell' hv hg hge
  go_enter Tryz.func103, Tryz.ntmps103
  go_wp2_with fail
  refine (compare_any A _ n 1 c d N M _ hA hB2).mono ?_
  rintro e w' ⟨rfl, q, rfl⟩
  have hA' : IsNat (w.drewN q) A n c N := hA
  have hb0 : Below w.heap.size w (w.drewN q) := ⟨rfl, rfl, rfl, Nat.le_refl _, fun _ _ => rfl⟩
  go_wp2_with fail
  refine (divSmall_any A n c N M _ (by obtain ⟨_, _, f, a1, a2, _, a3⟩ := hA'; exact ⟨f, a1, a2, a3⟩) (by omega) (by omega) h1).mono ?_
  rintro e W1 ⟨A1, n1, c1, rfl, i1, b1⟩
  have hmod := Nat.mod_lt N (show 0 < M by omega)
  have hr := oneRow W1 70 (N % M)
  have hbb := below1 W1 (.cells #[.int .u32 ((N % M : Nat) : Int)] 70)
  have i1' := i1.below (Nat.le_refl _) hbb
  have hrd := nat_out hr (Below.refl _ _) (s := fun _ => N % M) (fun i _ => (by omega : N % M < 4294967296)) (by omega) (by simp [val] : val (fun _ => N % M) 1 = N % M)
  have Hrd := Lib.hid hrd
  clear hrd hmod
  generalize N % M = r at *
  go_wp2_with fail
  refine (trim_any _ 1 1 (fun _ => r) _ (Nat.le_refl _) (by omega) hr).mono ?_
  rintro e W2 ⟨rfl, rfl⟩
  go_wp2
  go_ret2
  obtain ⟨A2, n2, c2, he, hi, _⟩ := Hrd.out
  injection he with he
  injection he with x1 x2 x3
  subst x1 x2 x3
  exact ⟨_, _, _, _, _, _, rfl, i1', hi, (below_more hb0 (Nat.le_refl _) b1).trans (hbb.mono (by have := b1.size; have := hb0.size; omega))⟩
end Go.Proofs.YtigdjlhihhakmaaGreatDoor

namespace Go.Proofs.YtigdjlhihhakmaaGreatDoor
open Go.RowKit

theorem muladd_step {s f : Nat → Nat} {k x a y : Nat} (hv : val s k + y * 4294967296 ^ k = val f k * x + a) :
    val (upd s k ((y + f k * x) % 4294967296)) (k + 1) + (y + f k * x) / 4294967296 * 4294967296 ^ (k + 1) = val f (k + 1) * x + a := by
  rw [val_upd, val, Nat.pow_succ]
  have h := Nat.div_add_mod (y + f k * x) 4294967296
  generalize hq : (y + f k * x) / 4294967296 = q at *
  generalize hr : (y + f k * x) % 4294967296 = r at *
  generalize 4294967296 ^ k = P at *
  have e : (4294967296 * q + r) * P = (y + f k * x) * P := by rw [h]
  rw [Nat.add_mul, Nat.add_mul] at e
  have e2 : q * (P * 4294967296) = 4294967296 * q * P := by rw [Nat.mul_comm P, ← Nat.mul_assoc, Nat.mul_comm q]
  have e3 : f k * P * x = f k * x * P := by rw [Nat.mul_assoc, Nat.mul_comm P, Nat.mul_assoc]
  rw [e2, Nat.add_mul, e3]
  omega

set_option maxHeartbeats 800000 in
theorem mulAdd_any (A : Option Addr) (n c N x a : Nat) (w : World) (hA : IsNat w A n c N) (hn : n ≤ 10000000000) (hx : x < 4294967296) (ha : a < 4294967296) :
    Calls Tryz.prog 116 #[.slice A n c, .int .u32 (x : Int), .int .u32 (a : Int)] w (NatOut w (N * x + a)) := by
  obtain ⟨hnc, hc, f, ⟨b, off, hAe, hcell⟩, df, tf, rfl⟩ := hA
  have hmk := run_make_row' (P := Tryz.prog) 68 70 (.int .u32 0) 4 Tryz.underlying68 Tryz.infoU32 rfl .i64 .i64 (n + 1) (by omega) (by omega)
  rw [show ((n + 1 : Nat) : Int) = (n : Int) + 1 by omega] at hmk
  go_enter Tryz.func116, Tryz.ntmps116
  go_wp2
  clear hmk
  go_loopg [8, 19] n (fun q cy i wx => ∃ (k y : Nat) (s : Nat → Nat), k + q = n ∧ i = .int .i64 k ∧ cy = .int .u64 (y : Int) ∧ y < 4294967296 ∧ Dig s k ∧ val s k + y * 4294967296 ^ k = val f k * x + a ∧ Below w.heap.size w wx ∧ wx.heap.size = w.heap.size + 1 ∧ wx.rowIs w.heap.size 70 (n + 1) (dsts s k))
  case atStart => exact ⟨0, a, fun _ => 0, by omega, rfl, rfl, by omega, fun i h => absurd h (by omega), by simp [val], (Below.refl _ _).alloc (Nat.le_refl _) _, by simp, (World.rowIs_made w _ (n + 1) _).congr (fun i _ => by simp [dsts])⟩
  case round =>
    obtain ⟨k, y, s, hk, rfl, rfl, hy, ds, hv, hb, hsz, hrow⟩ := hrel
    rcases gk with _ | q
    · obtain rfl : k = n := by omega
      clear hk
      have hw1 := hrow.cell (i := k) (by omega)
      have hw2 := hrow.frozen k
      have Hv : Hid (val s k + y * 4294967296 ^ k = val f k * x + a) := hv
      have Hs : Hid (wr.heap.size = w.heap.size + 1) := hsz
      clear hv hsz
      have hrow2 := dsts_step hrow (x := (y : Int)) rfl
      have hb2 := hb.setCell (p := ⟨w.heap.size, k, none⟩) (Nat.le_refl _) (.int .u32 (y : Int))
      have ds2 := dig_upd ds (show y < 4294967296 by omega)
      have hr2 := dsts_rd hrow2
      clear hrow2
      go_wp2_with fail
      refine (trim_any _ (k + 1) (k + 1) (upd s k y) _ (Nat.le_refl _) (by omega) hr2).mono ?_
      rintro e w' ⟨rfl, rfl⟩
      go_wp2
      go_ret
      exact nat_out hr2 hb2 ds2 (by omega) (by rw [val_upd, Hv.out])
    · obtain rfl := hAe (by omega)
      have hx : wr.cell? ⟨b, off + k, none⟩ = some (.int .u32 (f k : Int)) := by rw [hb.cell (Rd.lt hcell (by omega))]; exact hcell k (by omega)
      have hw1 := hrow.cell (i := k) (by omega)
      have hw2 := hrow.frozen k
      have dk := df k (by omega)
      have hkn : k < n := by omega
      have Hv : Hid (val s k + y * 4294967296 ^ k = val f k * x + a) := hv
      have Hs : Hid (wr.heap.size = w.heap.size + 1) := hsz
      have Hk : Hid (k + (q + 1) = n) := hk
      clear hv hsz hk
      have hp : f k * x ≤ 4294967295 * 4294967295 := Nat.mul_le_mul (by omega) (by omega)
      have hp1 : (f k : Int) * (x : Int) ≤ 18446744065119617025 := by
        rw [← Int.natCast_mul]; omega
      have hp0 : 0 ≤ (f k : Int) * (x : Int) := by rw [← Int.natCast_mul]; omega
      go_wp2
      have hst := muladd_step Hv.out
      go_roundg q
      case measure => omega
      case rel => exact ⟨k + 1, (y + f k * x) / 4294967296, _, by have := Hk.out; omega, by go_num, by rw [Int.natCast_ediv, Int.natCast_add, Int.natCast_mul]; rfl, by omega, dig_upd ds (Nat.mod_lt _ (by omega)), hst, hb.setCell (Nat.le_refl _) _, by simpa using Hs.out, dsts_step hrow (by rw [Int.natCast_emod, Int.natCast_add, Int.natCast_mul]; rfl)⟩
end Go.Proofs.YtigdjlhihhakmaaGreatDoor
