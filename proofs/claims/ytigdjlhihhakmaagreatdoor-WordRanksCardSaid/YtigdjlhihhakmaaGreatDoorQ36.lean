/- What the reference implementation's Unrank returns. Condition: at most 30 letters, or an error, and a number of at most 16 bytes. What the reference implementation's Long and LongNumber return. No condition but a string's length. Integers among a law's arguments. No condition. -/
import Derived.Test.YtigdjlhihhakmaaGreatDoorQ35
import Derived.Test.YtigdjlhihhakmaaGreatDoorQ13
import Derived.Test.YtigdjlhihhakmaaGreatDoorQ26

namespace Go.Proofs.YtigdjlhihhakmaaGreatDoor
open Go.RowKit
set_option linter.unusedSimpArgs false
set_option linter.unusedVariables false

/-- What lies below while a word is found from its rank: the letters' row. -/
def LU (w : World) (r n : Nat) (f : Nat → Value) (W : World) : Prop := Below w.heap.size w W ∧ W.rowIs r 5 n f ∧ w.heap.size < r ∧ r < W.heap.size
theorem LU.keep {w W X : World} {r n : Nat} {f : Nat → Value} (h : LU w r n f W) (b : Below W.heap.size W X) : LU w r n f X :=
  ⟨below_more h.1 (Nat.le_refl _) b, rowIs_block b h.2.2.2 h.2.1, h.2.2.1, Nat.lt_of_lt_of_le h.2.2.2 b.size⟩
theorem LU.drew {w W : World} {r n : Nat} {f : Nat → Value} (h : LU w r n f W) : LU w r n f W.drew := h.keep (Below.refl _ _).drew
theorem LU.far {w W : World} {r n q : Nat} {f : Nat → Value} {y : Int} (h : LU w r n f W) (hq : w.heap.size ≤ q) (hne : r ≠ q) : LU w r n f (stI W q y) :=
  ⟨h.1.trans (stI_below hq), (h.2.1.setOther (by exact hne) _).setOther (by exact hne) _, h.2.2.1, Nat.lt_of_lt_of_le h.2.2.2 (stI_below (B := q) (W := W) (q := q) (y := y) (Nat.le_refl _)).size⟩
theorem LU.farA {w W : World} {r n : Nat} {f : Nat → Value} {y : Int} (h : LU w r n f W) : LU w r n f (stI W w.heap.size y) := h.far (Nat.le_refl _) (Nat.ne_of_gt h.2.2.1)
theorem LU.farR {w W : World} {r n q : Nat} {f : Nat → Value} {y : Int} (h : LU w r n f W) (hq : r < q) : LU w r n f (stI W q y) := h.far (Nat.le_of_lt (Nat.lt_trans h.2.2.1 hq)) (Nat.ne_of_lt hq)
theorem VW.cell {p q o : Nat} {z z2 : Int} {F0 F1 : Prop} {W : World} {v : Value} (h : VW p z z2 F0 F1 W) (hne : p ≠ q) : VW p z z2 F0 F1 (W.setCell ⟨q, o, none⟩ v) := by
  obtain ⟨⟨z', ⟨h1, h1'⟩, h2⟩, h3, h4⟩ := h
  have e : ∀ a : Nat, (W.setCell ⟨q, o, none⟩ v).cell? ⟨p, a, none⟩ = W.cell? ⟨p, a, none⟩ := fun a => World.cell?_setCell_far _ _ _ _ (by exact Ne.symm hne)
  refine ⟨⟨z', ⟨(e 0).trans h1, (e 1).trans h1'⟩, ?_⟩, fun f => ⟨(e 0).trans (h3 f).1, (e 1).trans (h3 f).2⟩, fun f => ⟨(e 0).trans (h4 f).1, (e 1).trans (h4 f).2⟩⟩
  exact ⟨(World.frozen?_setCell _ _ _ _).trans h2.1, (World.frozen?_setCell _ _ _ _).trans h2.2⟩
theorem cmpZ_nat (m : Nat) : ¬ cmpZ (m : Int) 0 < 0 := by
  unfold cmpZ
  split
  · omega
  · split <;> omega
set_option maxRecDepth 100000 in
set_option maxHeartbeats 12800000 in
theorem refUnrank_nat (q n y : Nat) (w : World) (q1 : 1 ≤ q) (q2 : q ≤ 16) (hn : n ≤ 30) (hy : y < 256 ^ 16) :
    Calls Tryz.prog 11 #[.int .i64 (q : Int), .int .i64 (n : Int), .agg #[.bool (sg (y : Int)), .string (mg (y : Int))]] w (TxOut w (if q ^ n ≤ y then ([], 2) else (unrk q n y, 0))) := by
  have hyl := bytesOf_len (n := y) (k := 16) hy
  have HK : Hid (∀ W, Calls Tryz.prog 34 #[.agg #[.bool (sg (y : Int)), .string (mg (y : Int))]] W fun e w' => e = .returned (.int .i64 0) ∧ Below W.heap.size W w') := Lib.hid (fun W => by
    have := rcheck01_any (sg (y : Int)) (bytesOf (y : Int).natAbs) W (by rw [Int.natAbs_natCast]; omega)
    rw [show checkN (sg (y : Int)) ⟨(bytesOf (y : Int).natAbs).toArray⟩ = 0 from checkN_own _] at this
    exact this)
  have HM0 := Lib.hid (fun W (m : Nat) (hm : m ≤ y) => aiw_cmp (w := W) (aiw_mg (z := (m : Int)) (L := 16) (by rw [Int.natAbs_natCast]; omega)) (aiw_zero.wider (Nat.zero_le 16)) (by omega) rfl)
  have HO := Lib.hid (fun W => rof01_any (q : Int) W (by omega) (by omega))
  have HU := Lib.hid (unrk_at q n y)
  obtain ⟨R, hR⟩ : ∃ R, unrk q n y = R := ⟨_, rfl⟩
  have HRl := Lib.hid (show R.length = n by rw [← hR, unrk_len])
  rw [hR] at HU ⊢
  obtain ⟨V, hV⟩ : ∃ V : List UInt8 × Int, (if q ^ n ≤ y then ([], 2) else (R, 0)) = V := ⟨_, rfl⟩
  have HV := Lib.hid hV
  rw [hV]
  have hmk := run_make_row' (P := Tryz.prog) 56 5 (.int .u8 0) 1 Tryz.underlying56 Tryz.infoU8v rfl .i64 .i64 n (by omega) (by omega)
  have hmx : Tryz.prog.follows .mixedOrders = true := by kernel_rfl
  have HY := Lib.hid hy
  have K := AS.box w (y : Int)
  have KF := ResCell.new w 23
  obtain ⟨x1, x2⟩ := K.cells
  have hc0 : decide (cmpZ (y : Int) 0 < 0) = false := decide_eq_false (cmpZ_nat y)
  obtain ⟨c0, hc0e⟩ : ∃ c0, cmpZ (y : Int) 0 = c0 := ⟨_, rfl⟩
  have HC0 := Lib.hid (fun W => HM0.out W y (Nat.le_refl _))
  simp only [hc0e] at HC0
  rw [hc0e] at hc0
  have hc1 : ¬ c0 < 0 := of_decide_eq_false hc0
  clear hV hR hy hyl hc0e KF hc0
  go_enter Tryz.func11, Tryz.ntmps11
  go_upto_region 9 with (go_at_call 34; (with_reducible refine (HK.out _).mono ?_); rintro e W1 ⟨rfl, b1⟩)
  obtain ⟨x3, x4⟩ := (K.keep b1).cells
  go_wp2_with (go_at_call 35; (with_reducible refine (HC0.out _).mono ?_); rintro e W2 ⟨rfl, b2⟩)
  have hbx : BFr W2 w.heap.size := by
    have h0 : BFr (w.alloc (.cells #[.bool (sg (y : Int)), .string (mg (y : Int))] 23)) w.heap.size := by constructor <;> simp [go_sem]
    exact ⟨frozen_keep x3 (frozen_keep x1 h0.1 b1) b2, frozen_keep x4 (frozen_keep x2 h0.2 b1) b2⟩
  have K2 := (K.keep b1).keep b2
  have hW0 := World.rowIs_made W2 (.int .u8 0) n 5
  have hB0 := below1 W2 (.cells (madeCells #[.int .u8 0] n) 5)
  have hr0 : w.heap.size < W2.heap.size := K2.lt
  have U0 : LU w W2.heap.size n (fun _ => .int .u8 0) (W2.alloc (.cells (madeCells #[.int .u8 0] n) 5)) := ⟨below_more K2.below (Nat.le_refl _) hB0, hW0, hr0, by rw [World.size_alloc]; omega⟩
  have N0 : VW w.heap.size (y : Int) (y : Int) False True (W2.alloc (.cells (madeCells #[.int .u8 0] n) 5)) :=
    VW.keep (W := W2) ⟨⟨(y : Int), ⟨K2.cells.1, K2.cells.2⟩, hbx⟩, fun h => h.elim, fun _ => ⟨K2.cells.1, K2.cells.2⟩⟩ hB0
  clear hmk x1 x2 x3 x4 K K2 hbx b1 b2 hW0 hB0
  generalize W2.alloc (.cells (madeCells #[.int .u8 0] n) 5) = W0 at *
  generalize W2.heap.size = r at *
  go_loopg [9] n (fun g s9 wx => ∃ m : Nat, g ≤ n ∧ m ≤ y ∧ s9 = .int .i64 ((g : Int) - 1) ∧ Hid (y / q ^ (n - g) = m) ∧ LU w r n (fun j => if j < g then .int .u8 0 else .int .u8 ((R.getD j 0).toNat : Int)) wx ∧ VW w.heap.size (m : Int) (m : Int) False True wx)
  case atStart => exact ⟨y, Nat.le_refl _, Nat.le_refl _, rfl, Lib.hid (by rw [Nat.sub_self, Nat.pow_zero, Nat.div_one]), ⟨U0.1, U0.2.1.congr (fun i hi => by rw [if_pos hi]), U0.2.2⟩, N0⟩
  case round =>
    obtain ⟨m, hg, hmy, rfl, Hm, hlu, hvw⟩ := hrel
    clear U0 N0
    rcases gk with _ | g
    · obtain ⟨x1, x2⟩ := hvw.2.2 trivial
      have HCm := Lib.hid (fun W => HM0.out W m hmy)
      have hq0 : 0 < q ^ n := Nat.pow_pos (by omega)
      have hm' : y / q ^ n = m := Hm.out
      by_cases hm0 : m = 0
      · have hm00 := Lib.hid hm0
        have HVe := Lib.hid (show V = (R, 0) by rw [← HV.out, if_neg]; exact Nat.not_le.2 (Nat.lt_of_div_eq_zero hq0 (hm'.trans hm0)))
        have hcz : cmpZ (m : Int) 0 = 0 := by rw [hm0]; rfl
        simp only [hcz] at HCm
        clear hm' hvw HM0 HV hm0
        go_upto_region 21 with (go_at_call 35; (with_reducible refine (HCm.out _).mono ?_); rintro e W5 ⟨rfl, b5⟩)
        have hlu := hlu.keep b5
        have hbk : (convert 56 9 (.slice (some ⟨r, 0, none⟩) n n)).run Tryz.prog W5 = .ok (.string ⟨R.toArray⟩) W5 := by
          have := run_convert_bytes_back W5 56 9 5 ⟨r, 0, none⟩ n R Tryz.underlying56 Tryz.underlying5 Tryz.underlying9 (fun j hj => by
            rw [show (⟨r, 0, none⟩ : Addr).add j = ⟨r, j, none⟩ by unfold Addr.add; split <;> simp_all, hlu.2.1.cell (by rw [← HRl.out]; exact hj), if_neg (by omega), List.getD_eq_getElem?_getD, List.getElem?_eq_getElem hj]
            rfl)
          rwa [HRl.out] at this
        have hbw := hlu.1
        clear hlu
        go_wp2_with fail
        exact bodyPost_ret (v := .tuple #[.string ⟨R.toArray⟩, .int .i64 0]) (by simp [results, Tryz.results11, go_sem]) rfl ⟨by rw [HVe.out], hbw⟩
      · have HVe := Lib.hid (show V = ([], 2) by
          rw [← HV.out, if_pos]
          rcases Nat.lt_or_ge y (q ^ n) with h | h
          · exact absurd (by rw [← hm', Nat.div_eq_of_lt h]) hm0
          · exact h)
        have hcz : cmpZ (m : Int) 0 = 1 := by unfold cmpZ; rw [if_neg (by omega), if_pos (by omega)]
        simp only [hcz] at HCm
        have hbw := hlu.1
        clear hm' hvw HM0 HV hlu
        go_wp2_with (go_at_call 35; (with_reducible refine (HCm.out _).mono ?_); rintro e W5 ⟨rfl, b5⟩)
        exact bodyPost_ret (v := .tuple #[.string ⟨#[]⟩, .int .i64 2]) (by simp [results, Tryz.results11, go_sem]) rfl ⟨by rw [HVe.out], below_more hbw (Nat.le_refl _) b5⟩
    · have hgn : g < n := by omega
      obtain ⟨rr, hrr⟩ : ∃ rr, m % q = rr := ⟨_, rfl⟩
      have hrq : rr < q := by rw [← hrr]; exact Nat.mod_lt _ (by omega)
      have hx : R[g]? = some (lt rr) := by rw [HU.out g hgn, show n - 1 - g = n - (g + 1) by omega, Hm.out, hrr]
      have hix : ∀ w, (Instr.index 9 (.string ⟨#[48, 49, 50, 51, 52, 53, 54, 55, 56, 57, 97, 98, 99, 100, 101, 102]⟩) (.int .i64 (rr : Int))).run Tryz.prog w = .ok (.int .u8 ((lt rr).toNat : Int)) w := run_at_bytes lets rr (lt rr) (lt_mem (by omega)) (rr : Int) rfl
      obtain ⟨k, hk⟩ : ∃ k, m / q = k := ⟨_, rfl⟩
      have hkm : k ≤ m := by rw [← hk]; exact Nat.div_le_self _ _
      have Hk := Lib.hid (show y / q ^ (n - g) = k by rw [← hk, ← Hm.out, Nat.div_div_eq_div_mul, show n - g = n - (g + 1) + 1 by omega, Nat.pow_succ])
      have HDv := Lib.hid (fun W => aiw_div (w := W) (aiw_mg (z := (m : Int)) (L := 16) (by rw [Int.natAbs_natCast]; have := HY.out; omega)) (aiw_mg (z := (q : Int)) (L := 16) (by rw [Int.natAbs_natCast]; omega)) (by omega) (by omega) (qD_nat m q) (rD_nat m q))
      simp only [hk, hrr] at HDv
      have HS : Hid (∀ W, Calls Tryz.prog 37 #[.agg #[.bool (sg (rr : Int)), .string (mg (rr : Int))]] W fun e w' => e = .returned (.tuple #[.int .i64 (rr : Int), .bool true]) ∧ Below W.heap.size W w') := Lib.hid (fun W => by
        have := rsmall01_any (sg (rr : Int)) (bytesOf (rr : Int).natAbs) (rr : Int) W (by have := bytesOf_len (n := (rr : Int).natAbs) (k := 1) (by rw [Int.natAbs_natCast]; omega); omega) (zv_mg _)
        rw [show smallZ (rr : Int) = (rr : Int) by unfold smallZ; rw [if_pos (by omega)], show smallB (rr : Int) = true by unfold smallB; exact decide_eq_true (by omega)] at this
        exact this)
      obtain ⟨c, hc⟩ : ∃ c, lt rr = c := ⟨_, rfl⟩
      rw [hc] at hx hix
      have hcl := c.toNat_lt
      have hg1 : ((g + 1 : Nat) : Int) - 1 = (g : Int) := by omega
      rw [hg1]
      have Hx := Lib.hid hx
      obtain ⟨mz, hmz⟩ : ∃ mz : Int, (m : Int) = mz := ⟨_, rfl⟩
      obtain ⟨kz, hkz⟩ : ∃ kz : Int, (k : Int) = kz := ⟨_, rfl⟩
      simp only [hmz, hkz] at HDv
      rw [hmz] at hvw
      have Hkz := Lib.hid hkz
      clear hrr hk hc hg1 hx HM0 HU hmz hkz
      go_upto_region 16 with fail
      have hrp : r < wr.heap.size := hlu.2.2.2
      have hvp : w.heap.size ≠ wr.heap.size := Nat.ne_of_lt (Nat.lt_trans hlu.2.2.1 hrp)
      have bp := below1 wr (.cells #[.bool false, .string ⟨#[]⟩] 23)
      have KB := (hlu.keep bp).drew
      have hv2 := (hvw.keep bp).keep (Below.refl _ _).drew
      have IVA : VW w.heap.size mz kz (Array.getD (Array.replicate 10 false) 0 false = false) (Array.getD (Array.replicate 10 false) 8 false = true) (wr.alloc (.cells #[.bool false, .string ⟨#[]⟩] 23)).drew := ⟨hv2.1, fun _ => hv2.2.2 trivial, fun h => absurd h (by decide)⟩
      have hrc := (ResCell.new wr 23).drew
      have IVR : VW wr.heap.size 0 (rr : Int) False (Array.getD (Array.replicate 10 false) 9 false = true) (wr.alloc (.cells #[.bool false, .string ⟨#[]⟩] 23)).drew := ⟨⟨0, ⟨by rw [sg0]; exact hrc.1, by rw [mg0]; exact hrc.2.1⟩, hrc.2.2⟩, fun h => h.elim, fun h => absurd h (by decide)⟩
      clear hlu hvw bp hv2 hrc
      generalize wr.alloc (.cells #[.bool false, .string ⟨#[]⟩] 23) = W4 at *
      generalize wr.heap.size = p at *
      have nVA_VR := hvp
      refine region_inv' (J := (fun L a wx => ∃ u40 u41 u42 u43 u39 u44 u45 u46, a = { tmps := #[.int .i64 (q : Int), .int .i64 (n : Int), .agg #[.bool (sg (y : Int)), .string (mg (y : Int))], undef, undef, .pointer (some ⟨w.heap.size, 0, none⟩), .string ⟨#[]⟩, .int .i64 0, .slice (some ⟨r, 0, none⟩) n n, .int .i64 (g : Int), .pointer (some ⟨p, 0, none⟩), u11, u12, .int .i64 (q : Int), .bool (decide ((q : Int) < 1)), .bool (decide ((q : Int) < 1)), .int .i64 (q : Int), .bool (decide (16 < (q : Int))), .bool (decide ((q : Int) < 1) || decide (16 < (q : Int))), .int .i64 (n : Int), .bool (decide ((n : Int) < 0)), .int .i64 (n : Int), .bool (decide (65536 < (n : Int))), .agg #[.bool (sg (y : Int)), .string (mg (y : Int))], .int .i64 0, .bool false, .agg #[.bool (sg (y : Int)), .string (mg (y : Int))], .agg #[.bool false, .string ⟨#[]⟩], .int .i64 c0, .bool (decide (c0 < 0)), .int .i64 (n : Int), .slice (some ⟨r, 0, none⟩) n n, .int .i64 (n : Int), .int .i64 ((n : Int) - 1), .int .i64 (g : Int), .bool true, u36, u37, .agg #[.bool false, .string ⟨#[]⟩], u39, u40, u41, u42, u43, u44, u45, u46, u47, u48, u49, u50, u51, u52, u53, u54, u55, u56, undef, undef, undef, undef, undef, undef], defers := [] } ∧ LU w r n (fun j => if j < g + 1 then .int .u8 0 else .int .u8 ((R.getD j 0).toNat : Int)) wx ∧
      (L.getD 0 false = true → u40 = .agg #[.bool (sg mz), .string (mg mz)]) ∧ (L.getD 1 false = true → u41 = .int .i64 (q : Int)) ∧ (L.getD 2 false = true → u42 = .agg #[.bool (sg (q : Int)), .string (mg (q : Int))]) ∧ (L.getD 3 false = true → u43 = .tuple #[.agg #[.bool (sg kz), .string (mg kz)], .agg #[.bool (sg (rr : Int)), .string (mg (rr : Int))], .int .i64 0]) ∧ (L.getD 4 false = true → u39 = .tuple #[.agg #[.bool (sg kz), .string (mg kz)], .agg #[.bool (sg (rr : Int)), .string (mg (rr : Int))], .int .i64 0]) ∧ (L.getD 5 false = true → u44 = .agg #[.bool (sg kz), .string (mg kz)]) ∧ (L.getD 6 false = true → u45 = .agg #[.bool (sg (rr : Int)), .string (mg (rr : Int))]) ∧ (L.getD 7 false = true → u46 = .int .i64 0) ∧ VW (w.heap.size) (mz) (kz) (L.getD 0 false = false) (L.getD 8 false = true) wx ∧ VW (p) (0) ((rr : Int)) (False) (L.getD 9 false = true) wx)) hmx (by kernel_rfl) ?_ ?_ ?_
      · exact ⟨_, _, _, _, _, _, _, _, rfl, KB, fun h => absurd h (by decide), fun h => absurd h (by decide), fun h => absurd h (by decide), fun h => absurd h (by decide), fun h => absurd h (by decide), fun h => absurd h (by decide), fun h => absurd h (by decide), fun h => absurd h (by decide), IVA, IVR⟩
      · intro i hi L a wx hl hw ⟨u40, u41, u42, u43, u39, u44, u45, u46, ha, lo, c0, c1, c2, c3, c4, c5, c6, c7, VA, VR⟩
        subst ha
        clear KB
        have hi' : i = 0 ∨ i = 1 ∨ i = 2 ∨ i = 3 ∨ i = 4 ∨ i = 5 ∨ i = 6 ∨ i = 7 ∨ i = 8 ∨ i = 9 := by
          have : i < 10 := hi
          omega
        rcases hi' with rfl | rfl | rfl | rfl | rfl | rfl | rfl | rfl | rfl | rfl
        · refine stepJ (i := 0) rfl (fun K hK => ?_)
          obtain ⟨x1, x2⟩ := VA.2.1 hl
          go_simp
          refine hK.out _ _ ⟨_, u41, u42, u43, u39, u44, u45, u46, rfl, lo, fun _ => rfl, fun h => c1 (fl (by decide) h), fun h => c2 (fl (by decide) h), fun h => c3 (fl (by decide) h), fun h => c4 (fl (by decide) h), fun h => c5 (fl (by decide) h), fun h => c6 (fl (by decide) h), fun h => c7 (fl (by decide) h), (VA.imp (fun _ => hl) (fl (by decide))), (VR.imp (fun h => h) (fl (by decide)))⟩
        · refine stepJ (i := 1) rfl (fun K hK => ?_)
          go_simp
          refine hK.out _ _ ⟨u40, _, u42, u43, u39, u44, u45, u46, rfl, lo, fun h => c0 (fl (by decide) h), fun _ => rfl, fun h => c2 (fl (by decide) h), fun h => c3 (fl (by decide) h), fun h => c4 (fl (by decide) h), fun h => c5 (fl (by decide) h), fun h => c6 (fl (by decide) h), fun h => c7 (fl (by decide) h), (VA.imp (flF (by decide)) (fl (by decide))), (VR.imp (fun h => h) (fl (by decide)))⟩
        · refine stepJ (i := 2) rfl (fun K hK => ?_)
          obtain rfl := c1 (hw 1 (by kernel_rfl))
          go_simp
          go_at_call 27
          refine (HO.out _).mono ?_
          rintro e W2 ⟨rfl, b2⟩
          go_wp2_with fail
          refine hK.out _ _ ⟨u40, _, _, u43, u39, u44, u45, u46, rfl, lo.keep b2, fun h => c0 (fl (by decide) h), fun _ => rfl, fun _ => rfl, fun h => c3 (fl (by decide) h), fun h => c4 (fl (by decide) h), fun h => c5 (fl (by decide) h), fun h => c6 (fl (by decide) h), fun h => c7 (fl (by decide) h), (VA.imp (flF (by decide)) (fl (by decide))).keep b2, (VR.imp (fun h => h) (fl (by decide))).keep b2⟩
        · refine stepJ (i := 3) rfl (fun K hK => ?_)
          obtain rfl := c0 (hw 0 (by kernel_rfl))
          obtain rfl := c2 (hw 2 (by kernel_rfl))
          go_simp
          go_at_call 36
          refine (HDv.out _).mono ?_
          rintro e W2 ⟨rfl, b2⟩
          go_wp2_with fail
          refine hK.out _ _ ⟨_, u41, _, _, u39, u44, u45, u46, rfl, lo.keep b2, fun _ => rfl, fun h => c1 (fl (by decide) h), fun _ => rfl, fun _ => rfl, fun h => c4 (fl (by decide) h), fun h => c5 (fl (by decide) h), fun h => c6 (fl (by decide) h), fun h => c7 (fl (by decide) h), (VA.imp (flF (by decide)) (fl (by decide))).keep b2, (VR.imp (fun h => h) (fl (by decide))).keep b2⟩
        · refine stepJ (i := 4) rfl (fun K hK => ?_)
          obtain rfl := c3 (hw 3 (by kernel_rfl))
          go_simp
          refine hK.out _ _ ⟨u40, u41, u42, _, _, u44, u45, u46, rfl, lo, fun h => c0 (fl (by decide) h), fun h => c1 (fl (by decide) h), fun h => c2 (fl (by decide) h), fun _ => rfl, fun _ => rfl, fun h => c5 (fl (by decide) h), fun h => c6 (fl (by decide) h), fun h => c7 (fl (by decide) h), (VA.imp (flF (by decide)) (fl (by decide))), (VR.imp (fun h => h) (fl (by decide)))⟩
        · refine stepJ (i := 5) rfl (fun K hK => ?_)
          obtain rfl := c4 (hw 4 (by kernel_rfl))
          go_simp
          refine hK.out _ _ ⟨u40, u41, u42, u43, _, _, u45, u46, rfl, lo, fun h => c0 (fl (by decide) h), fun h => c1 (fl (by decide) h), fun h => c2 (fl (by decide) h), fun h => c3 (fl (by decide) h), fun _ => rfl, fun _ => rfl, fun h => c6 (fl (by decide) h), fun h => c7 (fl (by decide) h), (VA.imp (flF (by decide)) (fl (by decide))), (VR.imp (fun h => h) (fl (by decide)))⟩
        · refine stepJ (i := 6) rfl (fun K hK => ?_)
          obtain rfl := c4 (hw 4 (by kernel_rfl))
          go_simp
          refine hK.out _ _ ⟨u40, u41, u42, u43, _, u44, _, u46, rfl, lo, fun h => c0 (fl (by decide) h), fun h => c1 (fl (by decide) h), fun h => c2 (fl (by decide) h), fun h => c3 (fl (by decide) h), fun _ => rfl, fun h => c5 (fl (by decide) h), fun _ => rfl, fun h => c7 (fl (by decide) h), (VA.imp (flF (by decide)) (fl (by decide))), (VR.imp (fun h => h) (fl (by decide)))⟩
        · refine stepJ (i := 7) rfl (fun K hK => ?_)
          obtain rfl := c4 (hw 4 (by kernel_rfl))
          go_simp
          refine hK.out _ _ ⟨u40, u41, u42, u43, _, u44, u45, _, rfl, lo, fun h => c0 (fl (by decide) h), fun h => c1 (fl (by decide) h), fun h => c2 (fl (by decide) h), fun h => c3 (fl (by decide) h), fun _ => rfl, fun h => c5 (fl (by decide) h), fun h => c6 (fl (by decide) h), fun _ => rfl, (VA.imp (flF (by decide)) (fl (by decide))), (VR.imp (fun h => h) (fl (by decide)))⟩
        · refine stepJ (i := 8) rfl (fun K hK => ?_)
          obtain rfl := c5 (hw 5 (by kernel_rfl))
          obtain ⟨z9, ⟨y1, y2⟩, y3, y4⟩ := id VA.1
          go_simp
          refine hK.out _ _ ⟨u40, u41, u42, u43, u39, _, u45, u46, rfl, lo.farA, fun h => c0 (fl (by decide) h), fun h => c1 (fl (by decide) h), fun h => c2 (fl (by decide) h), fun h => c3 (fl (by decide) h), fun h => c4 (fl (by decide) h), fun _ => rfl, fun h => c6 (fl (by decide) h), fun h => c7 (fl (by decide) h), VA.put (fun h => absurd ((hw 0 (by kernel_rfl)).symm.trans (flF (by decide) h)) (by decide)), (VR.imp (fun h => h) (fl (by decide))).far (Ne.symm nVA_VR)⟩
        · refine stepJ (i := 9) rfl (fun K hK => ?_)
          obtain rfl := c6 (hw 6 (by kernel_rfl))
          obtain ⟨z9, ⟨y1, y2⟩, y3, y4⟩ := id VR.1
          go_simp
          refine hK.out _ _ ⟨u40, u41, u42, u43, u39, u44, _, u46, rfl, lo.farR hrp, fun h => c0 (fl (by decide) h), fun h => c1 (fl (by decide) h), fun h => c2 (fl (by decide) h), fun h => c3 (fl (by decide) h), fun h => c4 (fl (by decide) h), fun h => c5 (fl (by decide) h), fun _ => rfl, fun h => c7 (fl (by decide) h), (VA.imp (flF (by decide)) (fl (by decide))).far nVA_VR, VR.put (fun h => h)⟩
      · rintro L a wx hall ⟨u40, u41, u42, u43, u39, u44, u45, u46, rfl, lo, c0, c1, c2, c3, c4, c5, c6, c7, VA, VR⟩
        obtain rfl := c0 (hall 0 (by decide))
        obtain rfl := c1 (hall 1 (by decide))
        obtain rfl := c2 (hall 2 (by decide))
        obtain rfl := c3 (hall 3 (by decide))
        obtain rfl := c4 (hall 4 (by decide))
        obtain rfl := c5 (hall 5 (by decide))
        obtain rfl := c6 (hall 6 (by decide))
        obtain rfl := c7 (hall 7 (by decide))
        have WVA := VA.2.2 (hall 8 (by decide))
        have XVA := VA.1
        have WVR := VR.2.2 (hall 9 (by decide))
        have XVR := VR.1
        clear hall c0 c1 c2 c3 c4 c5 c6 c7
        have NX : VW w.heap.size kz kz False True wx := ⟨XVA, fun h => h.elim, fun _ => WVA⟩
        clear KB IVA IVR WVA XVA XVR
        obtain ⟨x1, x2⟩ := WVR
        go_upto_region 18 with (go_at_call 37; (with_reducible refine (HS.out _).mono ?_); rintro e W5 ⟨rfl, b5⟩)
        have lo := lo.keep b5
        have NX := NX.keep b5
        clear x1 x2 b5
        have hrow := lo.2.1
        have hcell := hrow.cell hgn
        rw [if_pos (by omega)] at hcell
        have hfz := hrow.frozen g
        have HR2 := Lib.hid (show LU w r n (fun j => if j < g then .int .u8 0 else .int .u8 ((R.getD j 0).toNat : Int)) (W5.setCell ⟨r, g, none⟩ (.int .u8 (c.toNat : Int))) from
          ⟨lo.1.setCell (p := ⟨r, g, none⟩) (Nat.le_of_lt lo.2.2.1) _, (hrow.set g (.int .u8 (c.toNat : Int))).congr (fun i hi => by
            by_cases h1 : i = g
            · subst h1
              rw [if_pos rfl, if_neg (by omega), List.getD_eq_getElem?_getD, Hx.out]; rfl
            · rw [if_neg h1]
              by_cases h2 : i < g
              · rw [if_pos (by omega), if_pos h2]
              · rw [if_neg (by omega), if_neg h2]), lo.2.2.1, by rw [World.size_setCell]; exact lo.2.2.2⟩)
        have HN2 := Lib.hid (show VW w.heap.size kz kz False True (W5.setCell ⟨r, g, none⟩ (.int .u8 (c.toNat : Int))) from NX.cell (Nat.ne_of_lt lo.2.2.1))
        clear hrow lo NX
        go_wp2
        go_roundg g
        case measure => omega
        case rel => exact ⟨k, by omega, by omega, by go_num, Hk, HR2.out, by rw [Hkz.out]; exact HN2.out⟩
set_option maxRecDepth 100000 in
set_option maxHeartbeats 3200000 in
theorem refUnrank_len (q n : Int) (g : Bool) (s : ByteArray) (w : World) (h : chkL q n ≠ 0) :
    Calls Tryz.prog 11 #[.int .i64 q, .int .i64 n, .agg #[.bool g, .string s]] w (TxOut w ([], chkL q n)) := by
  have K := AB.box w g s
  rcases (show q < 1 ∨ 16 < q ∨ (1 ≤ q ∧ q ≤ 16) by omega) with hq | hq | ⟨q1, q2⟩
  · have HC := Lib.hid (show chkL q n = 12 by unfold chkL; rw [if_neg (by omega)])
    clear h
    go_enter Tryz.func11, Tryz.ntmps11
    go_wp2_with fail
    exact bodyPost_ret (v := .tuple #[.string ⟨#[]⟩, .int .i64 12]) (by simp [results, Tryz.results11, go_sem]) rfl ⟨by rw [HC.out], K.below⟩
  · have HC := Lib.hid (show chkL q n = 12 by unfold chkL; rw [if_neg (by omega)])
    clear h
    go_enter Tryz.func11, Tryz.ntmps11
    go_wp2_with fail
    exact bodyPost_ret (v := .tuple #[.string ⟨#[]⟩, .int .i64 12]) (by simp [results, Tryz.results11, go_sem]) rfl ⟨by rw [HC.out], K.below⟩
  · rcases (show n < 0 ∨ (0 ≤ n ∧ 65536 < n) ∨ (0 ≤ n ∧ n ≤ 65536) by omega) with h1 | ⟨h1, h2⟩ | ⟨h1, h2⟩
    · have HC := Lib.hid (show chkL q n = 2 by unfold chkL; rw [if_pos ⟨q1, q2⟩, if_pos h1])
      clear h
      go_enter Tryz.func11, Tryz.ntmps11
      go_wp2_with fail
      exact bodyPost_ret (v := .tuple #[.string ⟨#[]⟩, .int .i64 2]) (by simp [results, Tryz.results11, go_sem]) rfl ⟨by rw [HC.out], K.below⟩
    · have HC := Lib.hid (show chkL q n = 4 by unfold chkL; rw [if_pos ⟨q1, q2⟩, if_neg (by omega), if_pos h2])
      clear h
      go_enter Tryz.func11, Tryz.ntmps11
      go_wp2_with fail
      exact bodyPost_ret (v := .tuple #[.string ⟨#[]⟩, .int .i64 4]) (by simp [results, Tryz.results11, go_sem]) rfl ⟨by rw [HC.out], K.below⟩
    · exact absurd (by unfold chkL; rw [if_pos ⟨q1, q2⟩, if_neg (by omega), if_neg (by omega)]) h
set_option maxRecDepth 100000 in
set_option maxHeartbeats 3200000 in
theorem refUnrank_bad (q n : Nat) (g : Bool) (s : ByteArray) (w : World) (q1 : 1 ≤ q) (q2 : q ≤ 16) (hn : n ≤ 65536) (hs : s.size ≤ 16) (h2 : checkN g s ≠ 0) :
    Calls Tryz.prog 11 #[.int .i64 (q : Int), .int .i64 (n : Int), .agg #[.bool g, .string s]] w (TxOut w ([], 1)) := by
  have HK : Hid (∀ W, Calls Tryz.prog 34 #[.agg #[.bool g, .string s]] W fun e w' => e = .returned (.int .i64 (checkN g s)) ∧ Below W.heap.size W w') := Lib.hid (fun W => rcheck01_any g s.data.toList W (Nat.le_trans (Nat.le_of_eq Array.length_toList) (Nat.le_trans hs (by decide))))
  obtain ⟨c, hc⟩ : ∃ c, checkN g s = c := ⟨_, rfl⟩
  simp only [hc] at HK
  rw [hc] at h2
  have h1 : (c == 0) = false := by rw [beq_eq_false_iff_ne]; exact h2
  clear hc h2
  have K := AB.box w g s
  obtain ⟨x1, x2⟩ := K.cells
  go_enter Tryz.func11, Tryz.ntmps11
  go_wp2_with (go_at_call 34; (with_reducible refine (HK.out _).mono ?_); rintro e W2 ⟨rfl, b2⟩)
  exact bodyPost_ret (v := .tuple #[.string ⟨#[]⟩, .int .i64 1]) (by simp [results, Tryz.results11, go_sem]) rfl ⟨rfl, (K.keep b2).below⟩
set_option maxRecDepth 100000 in
set_option maxHeartbeats 3200000 in
theorem refUnrank_neg (q n : Nat) (s : ByteArray) (w : World) (q1 : 1 ≤ q) (q2 : q ≤ 16) (hn : n ≤ 65536) (hs : s.size ≤ 16) (h2 : checkN true s = 0) :
    Calls Tryz.prog 11 #[.int .i64 (q : Int), .int .i64 (n : Int), .agg #[.bool true, .string s]] w (TxOut w ([], 2)) := by
  have HK : Hid (∀ W, Calls Tryz.prog 34 #[.agg #[.bool true, .string s]] W fun e w' => e = .returned (.int .i64 (checkN true s)) ∧ Below W.heap.size W w') := Lib.hid (fun W => rcheck01_any true s.data.toList W (Nat.le_trans (Nat.le_of_eq Array.length_toList) (Nat.le_trans hs (by decide))))
  simp only [h2] at HK
  have hneg : cmpZ (zv true s) 0 = -1 := by
    unfold checkN at h2
    split at h2
    · next h => have h3 := h.1; unfold sg at h3; have h4 := of_decide_eq_true h3; unfold cmpZ; rw [if_pos h4]
    · cases h2
  have HM := Lib.hid (fun W => aiw_cmp (w := W) (v1 := .agg #[.bool true, .string s]) (L := 16) ⟨true, s.data.toList, rfl, rfl, Nat.le_trans (Nat.le_of_eq Array.length_toList) hs⟩ (aiw_zero.wider (Nat.zero_le 16)) (by omega) hneg)
  clear hneg h2
  have K := AB.box w true s
  obtain ⟨x1, x2⟩ := K.cells
  go_enter Tryz.func11, Tryz.ntmps11
  go_upto_region 9 with (go_at_call 34; (with_reducible refine (HK.out _).mono ?_); rintro e W2 ⟨rfl, b2⟩)
  obtain ⟨x3, x4⟩ := (K.keep b2).cells
  go_wp2_with (go_at_call 35; (with_reducible refine (HM.out _).mono ?_); rintro e W3 ⟨rfl, b3⟩)
  exact bodyPost_ret (v := .tuple #[.string ⟨#[]⟩, .int .i64 2]) (by simp [results, Tryz.results11, go_sem]) rfl ⟨rfl, ((K.keep b2).keep b3).below⟩
theorem refUnrank_any (q n : Int) (g : Bool) (s : ByteArray) (w : World) (hn : n.toNat ≤ 30 ∨ chkL q n ≠ 0) (hs : s.size ≤ 16) :
    Calls Tryz.prog 11 #[.int .i64 q, .int .i64 n, .agg #[.bool g, .string s]] w (TxOut w (unrV q n g s)) := by
  unfold unrV
  by_cases h : chkL q n = 0
  · rw [if_neg (fun h1 => h1 h)]
    have hk : n.toNat ≤ 30 := hn.resolve_right (fun h1 => h1 h)
    obtain ⟨m, k, rfl, rfl, q1, q2, k2⟩ := chkL_zero h
    by_cases h2 : checkN g s = 0
    · rw [if_neg (fun h1 => h1 h2)]
      cases g
      · have h3 : sg (zv false s) = false ∧ mg (zv false s) = s := by
          unfold checkN at h2
          split at h2
          · next h3 => exact h3
          · cases h2
        have h4 : 0 ≤ zv false s := by
          have := h3.1
          unfold sg at this
          have := of_decide_eq_false this
          omega
        obtain ⟨y, hy⟩ : ∃ y : Nat, zv false s = (y : Int) := ⟨(zv false s).toNat, by omega⟩
        have hb : y < 256 ^ 16 := by
          have e1 : (zv false s).natAbs = y := by rw [hy, Int.natAbs_natCast]
          rw [natAbs_zv] at e1
          rw [← e1]
          exact Nat.lt_of_lt_of_le (vB_lt s.data.toList) (Nat.pow_le_pow_right (by omega) (Nat.le_trans (Nat.le_of_eq Array.length_toList) hs))
        rw [Int.toNat_natCast] at hk
        have := refUnrank_nat m k y w q1 q2 hk hb
        rw [hy] at h3
        rw [h3.1, h3.2] at this
        rw [hy, Int.toNat_natCast, Int.toNat_natCast, Int.toNat_natCast]
        by_cases h5 : m ^ k ≤ y
        · rw [if_pos h5] at this
          rw [if_pos (Or.inr (by omega))]; exact this
        · rw [if_neg h5] at this
          rw [if_neg (by rintro (h6 | h6); cases h6; omega)]; exact this
      · rw [if_pos (Or.inl rfl)]; exact refUnrank_neg m k s w q1 q2 k2 hs h2
    · rw [if_pos h2]; exact refUnrank_bad m k g s w q1 q2 k2 hs h2
  · rw [if_pos h]; exact refUnrank_len q n g s w h
end Go.Proofs.YtigdjlhihhakmaaGreatDoor

namespace Go.Proofs.YtigdjlhihhakmaaGreatDoor
open Go.RowKit
set_option linter.unusedSimpArgs false
set_option linter.unusedVariables false

set_option maxRecDepth 100000 in
set_option maxHeartbeats 3200000 in
theorem refLong_any (l : List UInt8) (w : World) (hl : l.length ≤ 9223372036854775807) :
    Calls Tryz.prog 5 #[.string ⟨l.toArray⟩, .int .i64 24] w fun e w' => e = .returned (.bool (decide ((24 < l.length ∧ l.length ≤ 65536) ∨ 65544 < l.length))) ∧ w' = w := by
  rcases (show l.length ≤ 24 ∨ (24 < l.length ∧ l.length ≤ 65536) ∨ (65536 < l.length ∧ l.length ≤ 65544) ∨ 65544 < l.length by omega) with h | ⟨h, h2⟩ | ⟨h, h2⟩ | h
  · have d1 : decide (((l.length : Int) : Int) ≤ 65536) = true := decide_eq_true (by omega)
    have d2 : decide ((65544 : Int) < (l.length : Int)) = false := decide_eq_false (by omega)
    have d3 : decide ((24 : Int) < (l.length : Int)) = false := decide_eq_false (by omega)
    have HD := Lib.hid (show decide ((24 < l.length ∧ l.length ≤ 65536) ∨ 65544 < l.length) = false from decide_eq_false (by omega))
    rw [HD.out]
    go_enter Tryz.func5, Tryz.ntmps5
    go_wp2_with fail
    go_ret
    exact ⟨rfl, rfl⟩
  · have d1 : decide (((l.length : Int) : Int) ≤ 65536) = true := decide_eq_true (by omega)
    have d2 : decide ((65544 : Int) < (l.length : Int)) = false := decide_eq_false (by omega)
    have d3 : decide ((24 : Int) < (l.length : Int)) = true := decide_eq_true (by omega)
    have HD := Lib.hid (show decide ((24 < l.length ∧ l.length ≤ 65536) ∨ 65544 < l.length) = true from decide_eq_true (by omega))
    rw [HD.out]
    go_enter Tryz.func5, Tryz.ntmps5
    go_wp2_with fail
    go_ret
    exact ⟨rfl, rfl⟩
  · have d1 : decide (((l.length : Int) : Int) ≤ 65536) = false := decide_eq_false (by omega)
    have d2 : decide ((65544 : Int) < (l.length : Int)) = false := decide_eq_false (by omega)
    have d3 : decide ((24 : Int) < (l.length : Int)) = true := decide_eq_true (by omega)
    have HD := Lib.hid (show decide ((24 < l.length ∧ l.length ≤ 65536) ∨ 65544 < l.length) = false from decide_eq_false (by omega))
    rw [HD.out]
    go_enter Tryz.func5, Tryz.ntmps5
    go_wp2_with fail
    go_ret
    exact ⟨rfl, rfl⟩
  · have d1 : decide (((l.length : Int) : Int) ≤ 65536) = false := decide_eq_false (by omega)
    have d2 : decide ((65544 : Int) < (l.length : Int)) = true := decide_eq_true (by omega)
    have d3 : decide ((24 : Int) < (l.length : Int)) = true := decide_eq_true (by omega)
    have HD := Lib.hid (show decide ((24 < l.length ∧ l.length ≤ 65536) ∨ 65544 < l.length) = true from decide_eq_true (by omega))
    rw [HD.out]
    go_enter Tryz.func5, Tryz.ntmps5
    go_wp2_with fail
    go_ret
    exact ⟨rfl, rfl⟩
set_option maxRecDepth 100000 in
set_option maxHeartbeats 3200000 in
theorem refLongNumber_any (n : Int) (w : World) :
    Calls Tryz.prog 6 #[.int .i64 n, .int .i64 24] w fun e w' => e = .returned (.bool (decide (24 < n ∧ n ≤ 65536))) ∧ w' = w := by
  rcases (show n ≤ 24 ∨ (24 < n ∧ n ≤ 65536) ∨ (24 < n ∧ 65536 < n) by omega) with h | ⟨h, h2⟩ | ⟨h, h2⟩
  · have d1 : decide (n ≤ 65536) = true := decide_eq_true (by omega)
    have d3 : decide (24 < n) = false := decide_eq_false (by omega)
    have HD := Lib.hid (show decide (24 < n ∧ n ≤ 65536) = false from decide_eq_false (by omega))
    rw [HD.out]
    go_enter Tryz.func6, Tryz.ntmps6
    go_wp2_with fail
    go_ret
    exact ⟨rfl, rfl⟩
  · have d1 : decide (n ≤ 65536) = true := decide_eq_true (by omega)
    have d3 : decide (24 < n) = true := decide_eq_true (by omega)
    have HD := Lib.hid (show decide (24 < n ∧ n ≤ 65536) = true from decide_eq_true (by omega))
    rw [HD.out]
    go_enter Tryz.func6, Tryz.ntmps6
    go_wp2_with fail
    go_ret
    exact ⟨rfl, rfl⟩
  · have d1 : decide (n ≤ 65536) = false := decide_eq_false (by omega)
    have d3 : decide (24 < n) = true := decide_eq_true (by omega)
    have HD := Lib.hid (show decide (24 < n ∧ n ≤ 65536) = false from decide_eq_false (by omega))
    rw [HD.out]
    go_enter Tryz.func6, Tryz.ntmps6
    go_wp2_with fail
    go_ret
    exact ⟨rfl, rfl⟩
end Go.Proofs.YtigdjlhihhakmaaGreatDoor

namespace Go.Proofs.YtigdjlhihhakmaaGreatDoor
open Go.ChangeShapes Go.WideShapes Go.ChangeAt Go.RowKit
open Go.ChangeMaps (open_string shut_string)
theorem cellsInt : Tryz.prog.cellsOf 23 = 2 := by kernel_rfl
set_option maxRecDepth 100000 in
/-- An integer that was handed in, opened. -/
theorem int_open {H : Type} {enc : TypeId × Value → H} {w : World} {base b0 : Nat} {sp : Nat → Bool} {held : Bool} {r : Reach} {v : Value} {d : DataW H} {p : List MemPlace}
    (hv : Value.okWide Tryz.prog w r b0 23 v) (h : DataW.Trod enc Tryz.prog w base sp held 23 v d p) :
    ∃ (ng : Bool) (s : ByteArray), v = .agg #[.bool ng, .string s] ∧ d = .agg [.lit (.bool ng), .lit (.string s.data.toList)] ∧ p = [] ∧ s.size ≤ maxLen := by
  obtain ⟨c0, c1, y0, y1, m, rfl, rfl, rfl, hy0, hy1⟩ := Joins.open_agg2 Tryz.underlying23 (by kernel_rfl) cellsInt hv h
  obtain ⟨g, e0, rfl⟩ := DataW.trod_bool Tryz.underlying4 hy0
  obtain ⟨s, e1, rfl, hs⟩ := DataW.trod_string Tryz.underlying9 hy1
  simp at e0 e1
  subst e0 e1
  exact ⟨g, s, rfl, rfl, rfl, hs⟩
theorem int_shut {H : Type} {enc : TypeId × Value → H} {w : World} {base : Nat} {sp : Nat → Bool} {held : Bool} {ng : Bool} {s : ByteArray} (hs : s.size ≤ maxLen) :
    DataW.Trod enc Tryz.prog w base sp held 23 (.agg #[.bool ng, .string s]) (.agg [.lit (.bool ng), .lit (.string s.data.toList)]) [] :=
  Joins.shut_agg2 (y0 := (.lit (.bool ng), [])) (y1 := (.lit (.string s.data.toList), [])) Tryz.underlying23 (by kernel_rfl) cellsInt (shut_bool Tryz.underlying4 ng) (shut_string Tryz.underlying9 hs)
theorem noStandI : Tryz.prog.wantsStandIn 23 = false := by kernel_rfl
end Go.Proofs.YtigdjlhihhakmaaGreatDoor
