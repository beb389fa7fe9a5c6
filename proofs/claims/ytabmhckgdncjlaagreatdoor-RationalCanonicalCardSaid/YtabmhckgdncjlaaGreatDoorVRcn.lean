/- What RationalCanonical returns: true. Conditions: its table, and block 0. RationalCanonical returns true for every input: the law's row, and its card, tied to the program's text. Conditions: those of the row: its tables read as listed (the card ties them to the program's text). -/
import Derived.Test.YtabmhckgdncjlaaGreatDoorQ38
import Derived.Test.YtabmhckgdncjlaaGreatDoorQ40

namespace Go.Proofs.YtabmhckgdncjlaaGreatDoor
open Go.RowKit
set_option linter.unusedSimpArgs false
set_option linter.unusedVariables false
attribute [local go_sem ↓] eqlInt guardInt2 eqlRat guardRat2 neqInt guardInt

/-- Rational numbers in lowest terms in a row. -/
def RdQ (w : World) (b n : Nat) (f : Nat → Rat) : Prop := ∀ i, i < n → w.cell? ⟨b, i * 4, none⟩ = some (.bool (sg (f i).num)) ∧ w.cell? ⟨b, i * 4 + 1, none⟩ = some (.string (mg (f i).num)) ∧ w.cell? ⟨b, i * 4 + 2, none⟩ = some (.bool (sg ((f i).den : Int))) ∧ w.cell? ⟨b, i * 4 + 3, none⟩ = some (.string (mg ((f i).den : Int)))
theorem RdQ.keep {w w' : World} {b n : Nat} {f : Nat → Rat} (hb : Below w.heap.size w w') (h : RdQ w b n f) : RdQ w' b n f := fun i hi => ⟨cell_keep (h i hi).1 hb, cell_keep (h i hi).2.1 hb, cell_keep (h i hi).2.2.1 hb, cell_keep (h i hi).2.2.2 hb⟩
theorem den_cmp (q : Rat) : cmpZ (q.den : Int) 0 = 1 := by
  have := q.den_pos
  unfold cmpZ
  rw [if_neg (by omega), if_pos (by omega)]
theorem low_gcd (q : Rat) : ((Nat.gcd q.num.natAbs (q.den : Int).natAbs : Nat) : Int) = 1 := by
  have h := q.reduced
  rw [Int.natAbs_natCast]
  unfold Nat.Coprime at h
  rw [h]; rfl

set_option maxRecDepth 100000 in
set_option maxHeartbeats 12800000 in
theorem canon_law (na : Bool) (sa : ByteArray) (ma : Bool) (ta : ByteArray) (nb : Bool) (sb : ByteArray) (mb : Bool) (tb : ByteArray) (nk : Bool) (sk : ByteArray) (w : World) (hsa : sa.size ≤ 9223372036854775807) (hta : ta.size ≤ 9223372036854775807) (hsb : sb.size ≤ 9223372036854775807) (htb : tb.size ≤ 9223372036854775807) (hsk : sk.size ≤ 9223372036854775807) (h0 : Zero0 w) (htab : Lib.TabIs Tryz.prog w "internal/strconv.uint64pow10" .u64 Lib.pow10Tab) :
    Calls Tryz.prog 6 #[.agg #[.bool na, .string sa, .bool ma, .string ta], .agg #[.bool nb, .string sb, .bool mb, .string tb], .agg #[.bool nk, .string sk]] w fun e w' => e = .returned (.bool true) ∧ Below w.heap.size w w' := by
  have H0 := Lib.hid h0
  have Ht := Lib.hid htab
  clear h0 htab
  go_enter Tryz.func6, Tryz.ntmps6
  go_wp2_with fail
  refine (greatR_any (w.heap.size + 1 + 1 + 1) 2 2 (sel [na, nb] false) (sel [sa, sb] ⟨#[]⟩) (sel [ma, mb] false) (sel [ta, tb] ⟨#[]⟩) _ ?_ (by omega) ?_).mono ?_
  · intro i hi
    have : i = 0 ∨ i = 1 := by omega
    rcases this with rfl | rfl <;> (refine ⟨?_, ?_, ?_, ?_⟩ <;> simp [go_sem, sel])
  · intro i hi
    have : i = 0 ∨ i = 1 := by omega
    rcases this with rfl | rfl
    · exact ⟨hsa, hta⟩
    · exact ⟨hsb, htb⟩
  rintro e W0 ⟨rfl, b0⟩
  rw [great2R]
  have K : Vars [(w.heap.size, [.bool na, .string sa, .bool ma, .string ta]), (w.heap.size + 1, [.bool nb, .string sb, .bool mb, .string tb]), (w.heap.size + 1 + 1, [.bool nk, .string sk])] W0 := Vars.keep b0 (Vars.cons (four_cells (by simp [go_sem]) (by simp [go_sem]) (by simp [go_sem]) (by simp [go_sem])) (Vars.cons (four_cells (by simp [go_sem]) (by simp [go_sem]) (by simp [go_sem]) (by simp [go_sem])) (Vars.cons (two_cells (by simp [go_sem]) (by simp [go_sem])) (Vars.nil _))))
  have B : Below w.heap.size w W0 := below_more (below4 w _ _ _ _) (Nat.le_refl _) b0
  clear b0
  by_cases hg : ((decide (24 < sa.size) || decide (24 < ta.size)) || (decide (24 < sb.size) || decide (24 < tb.size))) = true
  · rw [hg]
    clear K
    go_wp2_with fail
    refine (awaker_any _ (H0.out.keep B) (tab_keep Ht.out B)).mono ?_
    rintro e W2 ⟨rfl, b2⟩
    go_wp2
    go_ret
    exact ⟨rfl, below_more B (Nat.le_refl _) b2⟩
  rw [Bool.not_eq_true] at hg
  rw [hg]
  have h24 : (sa.size ≤ 24 ∧ ta.size ≤ 24) ∧ (sb.size ≤ 24 ∧ tb.size ≤ 24) := by simpa using hg
  have Aa := Lib.hid (arg_rat (na := na) (nb := ma) h24.1.1 h24.1.2)
  have Ab := Lib.hid (arg_rat (na := nb) (nb := mb) h24.2.1 h24.2.2)
  have Jn := Lib.hid (arg_int na sa (show sa.size ≤ 60 by omega))
  have Jd := Lib.hid (arg_int ma ta (show ta.size ≤ 60 by omega))
  have hta24 : ta.size ≤ 24 := by omega
  clear h24 hg hsa hta hsb htb
  obtain ⟨t1, t2, t3, t4, t5, t6, t7, t8, t9, t10⟩ : W0.cell? ⟨w.heap.size, 0, none⟩ = some (.bool na) ∧ W0.cell? ⟨w.heap.size, 1, none⟩ = some (.string sa) ∧ W0.cell? ⟨w.heap.size, 2, none⟩ = some (.bool ma) ∧ W0.cell? ⟨w.heap.size, 3, none⟩ = some (.string ta) ∧ W0.cell? ⟨w.heap.size + 1, 0, none⟩ = some (.bool nb) ∧ W0.cell? ⟨w.heap.size + 1, 1, none⟩ = some (.string sb) ∧ W0.cell? ⟨w.heap.size + 1, 2, none⟩ = some (.bool mb) ∧ W0.cell? ⟨w.heap.size + 1, 3, none⟩ = some (.string tb) ∧ W0.cell? ⟨w.heap.size + 1 + 1, 0, none⟩ = some (.bool nk) ∧ W0.cell? ⟨w.heap.size + 1 + 1, 1, none⟩ = some (.string sk) := ⟨K.at 0 0 rfl, K.at 0 1 rfl, K.at 0 2 rfl, K.at 0 3 rfl, K.at 1 0 rfl, K.at 1 1 rfl, K.at 1 2 rfl, K.at 1 3 rfl, K.at 2 0 rfl, K.at 2 1 rfl⟩
  by_cases h8 : 8 < sk.size
  · clear K
    go_wp2_with fail
    refine (awaker_any _ (H0.out.keep B) (tab_keep Ht.out B)).mono ?_
    rintro e W2 ⟨rfl, b2⟩
    go_wp2
    go_ret
    exact ⟨rfl, below_more B (Nat.le_refl _) b2⟩
  have Jk := Lib.hid (arg_int nk sk (show sk.size ≤ 60 by omega))
  have h8' : sk.size ≤ 8 := by omega
  clear h8 hsk hta24
  generalize zv na sa = n at *
  generalize zv ma ta = d at *
  generalize zv nk sk = z at *
  obtain ⟨qa, Eqa⟩ : ∃ r, Hid (Rat.divInt n d = r) := ⟨_, Lib.hid rfl⟩
  rw [Eqa.out] at Aa
  generalize Rat.divInt (zv nb sb) (zv mb tb) = qb at *
  have Da := Lib.hid Aa.out.bd
  have Ia := Lib.hid (IsRat.wider Aa.out (show 15 ≤ 400 by omega) (by omega))
  have Db := Lib.hid Ab.out.bd
  have Ib := Lib.hid (IsRat.wider Ab.out (show 15 ≤ 400 by omega) (by omega))
  obtain ⟨qs, Es⟩ : ∃ r, Hid (qa + qb = r) := ⟨_, Lib.hid rfl⟩
  have Ds := Lib.hid (rbd_add Da.out Db.out Es.out)
  have Is := Lib.hid (rat_is Ds.out 400 (by omega) (by omega))
  obtain ⟨qp, Ep⟩ : ∃ r, Hid (qa * qb = r) := ⟨_, Lib.hid rfl⟩
  have Dp := Lib.hid (rbd_mul Da.out Db.out Ep.out)
  have Ip := Lib.hid (rat_is Dp.out 400 (by omega) (by omega))
  obtain ⟨qg, Eg⟩ : ∃ r, Hid (-qa = r) := ⟨_, Lib.hid rfl⟩
  have Dg := Lib.hid (rbd_neg Da.out Eg.out)
  have Ig := Lib.hid (rat_is Dg.out 400 (by omega) (by omega))
  obtain ⟨qi, Ei⟩ : ∃ r, Hid ((z : Rat) = r) := ⟨_, Lib.hid rfl⟩
  have Di := Lib.hid (rbd_int Jk.out.bd Ei.out)
  have Ii := Lib.hid (rat_is Di.out 400 (by omega) (by omega))
  have HD := Lib.hid (show ∀ i, i < 4 → RatBd (sel [qs, qp, qg, qi] 0 i) 300 by
    intro i hi
    have : i = 0 ∨ i = 1 ∨ i = 2 ∨ i = 3 := by omega
    rcases this with rfl | rfl | rfl | rfl
    · exact Ds.out.wider (by omega)
    · exact Dp.out.wider (by omega)
    · exact Dg.out.wider (by omega)
    · exact Di.out.wider (by omega))
  obtain ⟨c1, Ec1⟩ : ∃ c, Hid (cmpZ z 0 = c) := ⟨_, Lib.hid rfl⟩
  obtain ⟨c2, Ec2⟩ : ∃ c, Hid (cmpZ d 0 = c) := ⟨_, Lib.hid rfl⟩
  have J0 := Lib.hid (isInt_mg (z := 0) (k := 1) (by decide) (by omega))
  obtain ⟨x, Ex⟩ : ∃ x, Hid (n * z = x) := ⟨_, Lib.hid rfl⟩
  obtain ⟨y, Ey⟩ : ∃ y, Hid (d * z = y) := ⟨_, Lib.hid rfl⟩
  go_upto_region 3 with fail
  clear t1 t2 t3 t4 t5 t6 t7 t8 t9 t10
  go_cut [31, 32, 33] (fun s31 s32 s33 wx => ∃ q : Nat, s31 = .slice (some ⟨q, 0, none⟩) 4 4 ∧ s32 = .int .i64 4 ∧ s33 = .int .i64 0 ∧ Vars [(w.heap.size, [.bool na, .string sa, .bool ma, .string ta]), (w.heap.size + 1, [.bool nb, .string sb, .bool mb, .string tb]), (w.heap.size + 1 + 1, [.bool nk, .string sk])] wx ∧ RdQ wx q 4 (sel [qs, qp, qg, qi] 0) ∧ Below w.heap.size w wx)
  case first =>
    obtain ⟨t1, t2, t3, t4, t5, t6, t7, t8, t9, t10⟩ : W0.cell? ⟨w.heap.size, 0, none⟩ = some (.bool na) ∧ W0.cell? ⟨w.heap.size, 1, none⟩ = some (.string sa) ∧ W0.cell? ⟨w.heap.size, 2, none⟩ = some (.bool ma) ∧ W0.cell? ⟨w.heap.size, 3, none⟩ = some (.string ta) ∧ W0.cell? ⟨w.heap.size + 1, 0, none⟩ = some (.bool nb) ∧ W0.cell? ⟨w.heap.size + 1, 1, none⟩ = some (.string sb) ∧ W0.cell? ⟨w.heap.size + 1, 2, none⟩ = some (.bool mb) ∧ W0.cell? ⟨w.heap.size + 1, 3, none⟩ = some (.string tb) ∧ W0.cell? ⟨w.heap.size + 1 + 1, 0, none⟩ = some (.bool nk) ∧ W0.cell? ⟨w.heap.size + 1 + 1, 1, none⟩ = some (.string sk) := ⟨K.at 0 0 rfl, K.at 0 1 rfl, K.at 0 2 rfl, K.at 0 3 rfl, K.at 1 0 rfl, K.at 1 1 rfl, K.at 1 2 rfl, K.at 1 3 rfl, K.at 2 0 rfl, K.at 2 1 rfl⟩
    have K0 : Vars [(w.heap.size, [.bool na, .string sa, .bool ma, .string ta]), (w.heap.size + 1, [.bool nb, .string sb, .bool mb, .string tb]), (w.heap.size + 1 + 1, [.bool nk, .string sk])] W0.drew := K
    have B0 := B.drew
    have KB := And.intro K0 B0
    clear K0 B0
    have FL := Lib.hid (show ∀ W, Vars [(w.heap.size, [.bool na, .string sa, .bool ma, .string ta]), (w.heap.size + 1, [.bool nb, .string sb, .bool mb, .string tb]), (w.heap.size + 1 + 1, [.bool nk, .string sk])] W → (W.cell? ⟨w.heap.size, 0, none⟩ = some (.bool na) ∧ W.cell? ⟨w.heap.size, 1, none⟩ = some (.string sa) ∧ W.cell? ⟨w.heap.size, 2, none⟩ = some (.bool ma) ∧ W.cell? ⟨w.heap.size, 3, none⟩ = some (.string ta) ∧ W.cell? ⟨w.heap.size + 1, 0, none⟩ = some (.bool nb) ∧ W.cell? ⟨w.heap.size + 1, 1, none⟩ = some (.string sb) ∧ W.cell? ⟨w.heap.size + 1, 2, none⟩ = some (.bool mb) ∧ W.cell? ⟨w.heap.size + 1, 3, none⟩ = some (.string tb) ∧ W.cell? ⟨w.heap.size + 1 + 1, 0, none⟩ = some (.bool nk) ∧ W.cell? ⟨w.heap.size + 1 + 1, 1, none⟩ = some (.string sk)) from fun W h => ⟨h.at 0 0 rfl, h.at 0 1 rfl, h.at 0 2 rfl, h.at 0 3 rfl, h.at 1 0 rfl, h.at 1 1 rfl, h.at 1 2 rfl, h.at 1 3 rfl, h.at 2 0 rfl, h.at 2 1 rfl⟩)
    go_region_held3 (fun W => W.cell? ⟨w.heap.size, 0, none⟩ = some (.bool na) ∧ W.cell? ⟨w.heap.size, 1, none⟩ = some (.string sa) ∧ W.cell? ⟨w.heap.size, 2, none⟩ = some (.bool ma) ∧ W.cell? ⟨w.heap.size, 3, none⟩ = some (.string ta) ∧ W.cell? ⟨w.heap.size + 1, 0, none⟩ = some (.bool nb) ∧ W.cell? ⟨w.heap.size + 1, 1, none⟩ = some (.string sb) ∧ W.cell? ⟨w.heap.size + 1, 2, none⟩ = some (.bool mb) ∧ W.cell? ⟨w.heap.size + 1, 3, none⟩ = some (.string tb) ∧ W.cell? ⟨w.heap.size + 1 + 1, 0, none⟩ = some (.bool nk) ∧ W.cell? ⟨w.heap.size + 1 + 1, 1, none⟩ = some (.string sk))
      (first | (with_reducible exact FL.out _ KB.1) | (with_reducible exact FL.out _ (Vars.alloc KB.1 _)) | exact FL.out _ KB.1)
      (first
        | (go_at_call 12; (with_reducible refine (radd_any _ _ qa qb qs 400 _ Ia.out Ib.out (by omega) Es.out).mono ?_); rintro e X ⟨rfl, bX⟩; (try unfold ratV); have KB := And.intro (KB.1.keep bX) (below_more KB.2 (Nat.le_refl _) bX))
        | (go_at_call 13; (with_reducible refine (rmul_any _ _ qa qb qp 400 _ Ia.out Ib.out (by omega) Ep.out).mono ?_); rintro e X ⟨rfl, bX⟩; (try unfold ratV); have KB := And.intro (KB.1.keep bX) (below_more KB.2 (Nat.le_refl _) bX))
        | (go_at_call 16; (with_reducible refine (rneg_any _ qa qg 400 _ Ia.out (by omega) Eg.out).mono ?_); rintro e X ⟨rfl, bX⟩; (try unfold ratV); have KB := And.intro (KB.1.keep bX) (below_more KB.2 (Nat.le_refl _) bX))
        | (go_at_call 21; (with_reducible refine (rof_eq Jk.out Ei.out).mono ?_); rintro e X ⟨rfl, bX⟩; (try unfold ratV); have KB := And.intro (KB.1.keep bX) (below_more KB.2 (Nat.le_refl _) bX)))
    all_goals go_wp2_with fail
    all_goals go_meet
    all_goals refine ⟨_, rfl, rfl, rfl, Vars.alloc KB.1 _, ?_, below_al KB.2 _⟩
    all_goals
      intro i hi
      have : i = 0 ∨ i = 1 ∨ i = 2 ∨ i = 3 := by omega
      rcases this with rfl | rfl | rfl | rfl <;> (refine ⟨?_, ?_, ?_, ?_⟩ <;> simp [go_sem, sel])
  case rest =>
    obtain ⟨q, rfl, rfl, rfl, K9, RD, B9⟩ := hcut
    clear K B
    have K := K9
    have B := B9
    clear K9 B9
    go_wp2_with fail
    go_loopg [33] 4 (fun g s33 wx => g ≤ 4 ∧ s33 = .int .i64 ((4 - g : Nat) : Int) ∧ Vars [(w.heap.size, [.bool na, .string sa, .bool ma, .string ta]), (w.heap.size + 1, [.bool nb, .string sb, .bool mb, .string tb]), (w.heap.size + 1 + 1, [.bool nk, .string sk])] wx ∧ RdQ wx q 4 (sel [qs, qp, qg, qi] 0) ∧ Below w.heap.size w wx)
    case atStart => exact ⟨Nat.le_refl _, rfl, K, RD, B⟩
    case round =>
      clear K RD B
      obtain ⟨hg, rfl, K, RD, B⟩ := hrel
      rcases gk with _ | g
      · clear RD
        go_upto_region 9 with fail
        go_cut [67] (fun s67 wx => s67 = .bool (decide (z = 0) || decide (d = 0)) ∧ Vars [(w.heap.size, [.bool na, .string sa, .bool ma, .string ta]), (w.heap.size + 1, [.bool nb, .string sb, .bool mb, .string tb]), (w.heap.size + 1 + 1, [.bool nk, .string sk])] wx ∧ Below w.heap.size w wx)
        case first =>
          obtain ⟨t1, t2, t3, t4, t5, t6, t7, t8, t9, t10⟩ : wr.cell? ⟨w.heap.size, 0, none⟩ = some (.bool na) ∧ wr.cell? ⟨w.heap.size, 1, none⟩ = some (.string sa) ∧ wr.cell? ⟨w.heap.size, 2, none⟩ = some (.bool ma) ∧ wr.cell? ⟨w.heap.size, 3, none⟩ = some (.string ta) ∧ wr.cell? ⟨w.heap.size + 1, 0, none⟩ = some (.bool nb) ∧ wr.cell? ⟨w.heap.size + 1, 1, none⟩ = some (.string sb) ∧ wr.cell? ⟨w.heap.size + 1, 2, none⟩ = some (.bool mb) ∧ wr.cell? ⟨w.heap.size + 1, 3, none⟩ = some (.string tb) ∧ wr.cell? ⟨w.heap.size + 1 + 1, 0, none⟩ = some (.bool nk) ∧ wr.cell? ⟨w.heap.size + 1 + 1, 1, none⟩ = some (.string sk) := ⟨K.at 0 0 rfl, K.at 0 1 rfl, K.at 0 2 rfl, K.at 0 3 rfl, K.at 1 0 rfl, K.at 1 1 rfl, K.at 1 2 rfl, K.at 1 3 rfl, K.at 2 0 rfl, K.at 2 1 rfl⟩
          have hz : (z = 0 ∧ c1 = 0) ∨ (z ≠ 0 ∧ c1 = -1) ∨ (z ≠ 0 ∧ c1 = 1) := by rw [← Ec1.out]; unfold cmpZ; split <;> (try split) <;> omega
          have hd : (d = 0 ∧ c2 = 0) ∨ (d ≠ 0 ∧ c2 = -1) ∨ (d ≠ 0 ∧ c2 = 1) := by rw [← Ec2.out]; unfold cmpZ; split <;> (try split) <;> omega
          have Hd := Lib.hid hd
          clear hd
          rcases hz with ⟨h, rfl⟩ | ⟨h, rfl⟩ | ⟨h, rfl⟩
          · have HZ := Lib.hid (decide_eq_true h)
            clear h
            have K0 : Vars [(w.heap.size, [.bool na, .string sa, .bool ma, .string ta]), (w.heap.size + 1, [.bool nb, .string sb, .bool mb, .string tb]), (w.heap.size + 1 + 1, [.bool nk, .string sk])] wr.drew := K
            have B0 := B.drew
            have KB := And.intro K0 B0
            clear K0 B0
            have FL := Lib.hid (show ∀ W, Vars [(w.heap.size, [.bool na, .string sa, .bool ma, .string ta]), (w.heap.size + 1, [.bool nb, .string sb, .bool mb, .string tb]), (w.heap.size + 1 + 1, [.bool nk, .string sk])] W → (W.cell? ⟨w.heap.size, 0, none⟩ = some (.bool na) ∧ W.cell? ⟨w.heap.size, 1, none⟩ = some (.string sa) ∧ W.cell? ⟨w.heap.size, 2, none⟩ = some (.bool ma) ∧ W.cell? ⟨w.heap.size, 3, none⟩ = some (.string ta) ∧ W.cell? ⟨w.heap.size + 1, 0, none⟩ = some (.bool nb) ∧ W.cell? ⟨w.heap.size + 1, 1, none⟩ = some (.string sb) ∧ W.cell? ⟨w.heap.size + 1, 2, none⟩ = some (.bool mb) ∧ W.cell? ⟨w.heap.size + 1, 3, none⟩ = some (.string tb) ∧ W.cell? ⟨w.heap.size + 1 + 1, 0, none⟩ = some (.bool nk) ∧ W.cell? ⟨w.heap.size + 1 + 1, 1, none⟩ = some (.string sk)) from fun W h => ⟨h.at 0 0 rfl, h.at 0 1 rfl, h.at 0 2 rfl, h.at 0 3 rfl, h.at 1 0 rfl, h.at 1 1 rfl, h.at 1 2 rfl, h.at 1 3 rfl, h.at 2 0 rfl, h.at 2 1 rfl⟩)
            refine wp_region_held_drew (S := (fun W => W.cell? ⟨w.heap.size, 0, none⟩ = some (.bool na) ∧ W.cell? ⟨w.heap.size, 1, none⟩ = some (.string sa) ∧ W.cell? ⟨w.heap.size, 2, none⟩ = some (.bool ma) ∧ W.cell? ⟨w.heap.size, 3, none⟩ = some (.string ta) ∧ W.cell? ⟨w.heap.size + 1, 0, none⟩ = some (.bool nb) ∧ W.cell? ⟨w.heap.size + 1, 1, none⟩ = some (.string sb) ∧ W.cell? ⟨w.heap.size + 1, 2, none⟩ = some (.bool mb) ∧ W.cell? ⟨w.heap.size + 1, 3, none⟩ = some (.string tb) ∧ W.cell? ⟨w.heap.size + 1 + 1, 0, none⟩ = some (.bool nk) ∧ W.cell? ⟨w.heap.size + 1 + 1, 1, none⟩ = some (.string sk))) (by kernel_rfl) ?_ (fun hHeld => ?_)
            · exact FL.out _ KB.1
            refine wpAnyH_take (i := 0) (oi := { dst := some 57, op := Go.Op.load 23 (Go.Operand.tmp 5), type := 23, pos := "law.go:108", after := #[], guard := none }) (v := ?_) rfl (by kernel_rfl) (by kernel_rfl) (by kernel_rfl) (fun _ _ _ h => h) (Or.inl ⟨by rfl, ?_⟩) (by assumption) ?_
            rotate_left
            · intro w hSw
              (try dsimp only at hSw)
              go_simp
              all_goals with_reducible rfl
            (try simp only [Act.put, List.setIfInBounds_toArray, List.set_cons_zero, List.set_cons_succ])
            refine wpAnyH_ready (rs := [1]) (by kernel_rfl) (by simp) ?_
            refine AllReadyH.cons (o := { dst := some 58, op := Go.Op.call { callee := Go.Callee.value (Go.Operand.func 24), args := #[Go.Operand.const (Go.Value.int Go.IntKind.i64 0)], argTypes := #[3] }, type := 23, pos := "law.go:108", after := #[], guard := none }) rfl (fun K hK => ?_) AllReadyH.nil
            go_simp
            refine (iof_any 0 _ (by omega) (by omega)).mono ?_; rintro e X ⟨rfl, bX⟩; have KB := And.intro (KB.1.keep bX) (below_more KB.2 (Nat.le_refl _) bX)
            go_wp2_with fail
            refine hK.out _ _ ?_ (fun hHeld => ?_)
            · (try dsimp only)
              exact FL.out _ KB.1
            clear hK K
            (try simp only [Act.put, List.setIfInBounds_toArray, List.set_cons_zero, List.set_cons_succ])
            refine wpAnyH_ready (rs := [2]) (by kernel_rfl) (by simp) ?_
            refine AllReadyH.cons (o := { dst := some 59, op := Go.Op.call { callee := Go.Callee.value (Go.Operand.func 23), args := #[Go.Operand.tmp 57, Go.Operand.tmp 58], argTypes := #[23, 23] }, type := 3, pos := "law.go:108", after := #[{ on := 0, ground := Go.Ground.data }, { on := 1, ground := Go.Ground.data }, { on := 1, ground := Go.Ground.chain }], guard := none }) rfl (fun K hK => ?_) AllReadyH.nil
            go_simp
            refine (icmp_eq Jk.out J0.out Ec1.out).mono ?_; rintro e X ⟨rfl, bX⟩; have KB := And.intro (KB.1.keep bX) (below_more KB.2 (Nat.le_refl _) bX)
            go_wp2_with fail
            refine hK.out _ _ ?_ (fun hHeld => ?_)
            · (try dsimp only)
              exact FL.out _ KB.1
            clear hK K
            (try simp only [Act.put, List.setIfInBounds_toArray, List.set_cons_zero, List.set_cons_succ])
            refine wpAnyH_take (i := 3) (oi := { dst := some 60, op := Go.Op.binOp Go.BinOp.eql 3 (Go.Operand.tmp 59) (Go.Operand.const (Go.Value.int Go.IntKind.i64 0)) 3, type := 4, pos := "law.go:108", after := #[{ on := 2, ground := Go.Ground.data }], guard := none }) (v := ?_) rfl (by kernel_rfl) (by kernel_rfl) (by kernel_rfl) (fun _ _ _ h => h) (Or.inl ⟨by rfl, ?_⟩) (by assumption) ?_
            rotate_left
            · intro w hSw
              (try dsimp only at hSw)
              go_simp
              all_goals with_reducible rfl
            (try simp only [Act.put, List.setIfInBounds_toArray, List.set_cons_zero, List.set_cons_succ])
            refine wpAnyH_take (i := 4) (oi := { dst := some 61, op := Go.Op.move (Go.Operand.tmp 60), type := 4, pos := "law.go:108", after := #[{ on := 3, ground := Go.Ground.data }, { on := 2, ground := Go.Ground.chain }], guard := none }) (v := ?_) rfl (by kernel_rfl) (by kernel_rfl) (by kernel_rfl) (fun _ _ _ h => h) (Or.inl ⟨by rfl, ?_⟩) (by assumption) ?_
            rotate_left
            · intro w hSw
              (try dsimp only at hSw)
              go_simp
              all_goals with_reducible rfl
            (try simp only [Act.put, List.setIfInBounds_toArray, List.set_cons_zero, List.set_cons_succ])
            refine wpAnyH_take (i := 5) (oi := { dst := some 62, op := Go.Op.fieldAddr 25 (Go.Operand.tmp 3) 1, type := 0, pos := "law.go:108", after := #[{ on := 4, ground := Go.Ground.guard }], guard := some (4, false) }) (v := undef) rfl (by kernel_rfl) (by kernel_rfl) (by kernel_rfl) (fun _ _ _ h => h) (Or.inr ⟨by rfl, rfl⟩) (by assumption) ?_
            (try simp only [Act.put, List.setIfInBounds_toArray, List.set_cons_zero, List.set_cons_succ])
            refine wpAnyH_take (i := 6) (oi := { dst := some 63, op := Go.Op.load 23 (Go.Operand.tmp 62), type := 23, pos := "law.go:108", after := #[{ on := 5, ground := Go.Ground.data }, { on := 4, ground := Go.Ground.guard }], guard := some (4, false) }) (v := undef) rfl (by kernel_rfl) (by kernel_rfl) (by kernel_rfl) (fun _ _ _ h => h) (Or.inr ⟨by rfl, rfl⟩) (by assumption) ?_
            (try simp only [Act.put, List.setIfInBounds_toArray, List.set_cons_zero, List.set_cons_succ])
            refine wpAnyH_take (i := 7) (oi := { dst := some 64, op := Go.Op.call { callee := Go.Callee.value (Go.Operand.func 24), args := #[Go.Operand.const (Go.Value.int Go.IntKind.i64 0)], argTypes := #[3] }, type := 23, pos := "law.go:108", after := #[{ on := 4, ground := Go.Ground.chain }, { on := 4, ground := Go.Ground.guard }], guard := some (4, false) }) (v := undef) rfl (by kernel_rfl) (by kernel_rfl) (by kernel_rfl) (fun _ _ _ h => h) (Or.inr ⟨by rfl, rfl⟩) (by assumption) ?_
            (try simp only [Act.put, List.setIfInBounds_toArray, List.set_cons_zero, List.set_cons_succ])
            refine wpAnyH_take (i := 8) (oi := { dst := some 65, op := Go.Op.call { callee := Go.Callee.value (Go.Operand.func 23), args := #[Go.Operand.tmp 63, Go.Operand.tmp 64], argTypes := #[23, 23] }, type := 3, pos := "law.go:108", after := #[{ on := 6, ground := Go.Ground.data }, { on := 7, ground := Go.Ground.data }, { on := 7, ground := Go.Ground.chain }, { on := 4, ground := Go.Ground.guard }], guard := some (4, false) }) (v := undef) rfl (by kernel_rfl) (by kernel_rfl) (by kernel_rfl) (fun _ _ _ h => h) (Or.inr ⟨by rfl, rfl⟩) (by assumption) ?_
            (try simp only [Act.put, List.setIfInBounds_toArray, List.set_cons_zero, List.set_cons_succ])
            refine wpAnyH_take (i := 9) (oi := { dst := some 66, op := Go.Op.binOp Go.BinOp.eql 3 (Go.Operand.tmp 65) (Go.Operand.const (Go.Value.int Go.IntKind.i64 0)) 3, type := 4, pos := "law.go:108", after := #[{ on := 8, ground := Go.Ground.data }, { on := 4, ground := Go.Ground.guard }], guard := some (4, false) }) (v := undef) rfl (by kernel_rfl) (by kernel_rfl) (by kernel_rfl) (fun _ _ _ h => h) (Or.inr ⟨by rfl, rfl⟩) (by assumption) ?_
            (try simp only [Act.put, List.setIfInBounds_toArray, List.set_cons_zero, List.set_cons_succ])
            refine wpAnyH_take (i := 10) (oi := { dst := some 67, op := Go.Op.pick (Go.Operand.tmp 61) (Go.Operand.const (Go.Value.bool true)) (Go.Operand.tmp 66), type := 4, pos := "law.go:108", after := #[{ on := 4, ground := Go.Ground.data }, { on := 9, ground := Go.Ground.data }], guard := none }) (v := ?_) rfl (by kernel_rfl) (by kernel_rfl) (by kernel_rfl) (fun _ _ _ h => h) (Or.inl ⟨by rfl, ?_⟩) (by assumption) ?_
            rotate_left
            · intro w hSw
              (try dsimp only at hSw)
              go_simp
              all_goals with_reducible rfl
            (try simp only [Act.put, List.setIfInBounds_toArray, List.set_cons_zero, List.set_cons_succ])
            refine wpAnyH_done (by kernel_rfl) ?_ _
            all_goals go_wp2_with fail
            all_goals go_meet
            all_goals exact ⟨by rw [HZ.out]; rfl, KB.1, KB.2⟩
          · have HZ := Lib.hid (decide_eq_false h)
            clear h
            rcases Hd.out with ⟨h, rfl⟩ | ⟨h, rfl⟩ | ⟨h, rfl⟩
            · have HE := Lib.hid (decide_eq_true h)
              clear h
              have K0 : Vars [(w.heap.size, [.bool na, .string sa, .bool ma, .string ta]), (w.heap.size + 1, [.bool nb, .string sb, .bool mb, .string tb]), (w.heap.size + 1 + 1, [.bool nk, .string sk])] wr.drew := K
              have B0 := B.drew
              have KB := And.intro K0 B0
              clear K0 B0
              have FL := Lib.hid (show ∀ W, Vars [(w.heap.size, [.bool na, .string sa, .bool ma, .string ta]), (w.heap.size + 1, [.bool nb, .string sb, .bool mb, .string tb]), (w.heap.size + 1 + 1, [.bool nk, .string sk])] W → (W.cell? ⟨w.heap.size, 0, none⟩ = some (.bool na) ∧ W.cell? ⟨w.heap.size, 1, none⟩ = some (.string sa) ∧ W.cell? ⟨w.heap.size, 2, none⟩ = some (.bool ma) ∧ W.cell? ⟨w.heap.size, 3, none⟩ = some (.string ta) ∧ W.cell? ⟨w.heap.size + 1, 0, none⟩ = some (.bool nb) ∧ W.cell? ⟨w.heap.size + 1, 1, none⟩ = some (.string sb) ∧ W.cell? ⟨w.heap.size + 1, 2, none⟩ = some (.bool mb) ∧ W.cell? ⟨w.heap.size + 1, 3, none⟩ = some (.string tb) ∧ W.cell? ⟨w.heap.size + 1 + 1, 0, none⟩ = some (.bool nk) ∧ W.cell? ⟨w.heap.size + 1 + 1, 1, none⟩ = some (.string sk)) from fun W h => ⟨h.at 0 0 rfl, h.at 0 1 rfl, h.at 0 2 rfl, h.at 0 3 rfl, h.at 1 0 rfl, h.at 1 1 rfl, h.at 1 2 rfl, h.at 1 3 rfl, h.at 2 0 rfl, h.at 2 1 rfl⟩)
              go_region_held3 (fun W => W.cell? ⟨w.heap.size, 0, none⟩ = some (.bool na) ∧ W.cell? ⟨w.heap.size, 1, none⟩ = some (.string sa) ∧ W.cell? ⟨w.heap.size, 2, none⟩ = some (.bool ma) ∧ W.cell? ⟨w.heap.size, 3, none⟩ = some (.string ta) ∧ W.cell? ⟨w.heap.size + 1, 0, none⟩ = some (.bool nb) ∧ W.cell? ⟨w.heap.size + 1, 1, none⟩ = some (.string sb) ∧ W.cell? ⟨w.heap.size + 1, 2, none⟩ = some (.bool mb) ∧ W.cell? ⟨w.heap.size + 1, 3, none⟩ = some (.string tb) ∧ W.cell? ⟨w.heap.size + 1 + 1, 0, none⟩ = some (.bool nk) ∧ W.cell? ⟨w.heap.size + 1 + 1, 1, none⟩ = some (.string sk))
                (first | (with_reducible exact FL.out _ KB.1) | (with_reducible exact FL.out _ (Vars.alloc KB.1 _)) | exact FL.out _ KB.1)
                (first
                  | (go_at_call 24; (with_reducible refine (iof_any 0 _ (by omega) (by omega)).mono ?_); rintro e X ⟨rfl, bX⟩; (try unfold ratV); have KB := And.intro (KB.1.keep bX) (below_more KB.2 (Nat.le_refl _) bX))
                  | (go_at_call 23; (first | (with_reducible refine (icmp_eq Jk.out J0.out Ec1.out).mono ?_) | (with_reducible refine (icmp_eq Jd.out J0.out Ec2.out).mono ?_)); rintro e X ⟨rfl, bX⟩; (try unfold ratV); have KB := And.intro (KB.1.keep bX) (below_more KB.2 (Nat.le_refl _) bX)))
              all_goals go_wp2_with fail
              all_goals go_meet
              all_goals exact ⟨by rw [HZ.out, HE.out]; rfl, KB.1, KB.2⟩
            · have HE := Lib.hid (decide_eq_false h)
              clear h
              have K0 : Vars [(w.heap.size, [.bool na, .string sa, .bool ma, .string ta]), (w.heap.size + 1, [.bool nb, .string sb, .bool mb, .string tb]), (w.heap.size + 1 + 1, [.bool nk, .string sk])] wr.drew := K
              have B0 := B.drew
              have KB := And.intro K0 B0
              clear K0 B0
              have FL := Lib.hid (show ∀ W, Vars [(w.heap.size, [.bool na, .string sa, .bool ma, .string ta]), (w.heap.size + 1, [.bool nb, .string sb, .bool mb, .string tb]), (w.heap.size + 1 + 1, [.bool nk, .string sk])] W → (W.cell? ⟨w.heap.size, 0, none⟩ = some (.bool na) ∧ W.cell? ⟨w.heap.size, 1, none⟩ = some (.string sa) ∧ W.cell? ⟨w.heap.size, 2, none⟩ = some (.bool ma) ∧ W.cell? ⟨w.heap.size, 3, none⟩ = some (.string ta) ∧ W.cell? ⟨w.heap.size + 1, 0, none⟩ = some (.bool nb) ∧ W.cell? ⟨w.heap.size + 1, 1, none⟩ = some (.string sb) ∧ W.cell? ⟨w.heap.size + 1, 2, none⟩ = some (.bool mb) ∧ W.cell? ⟨w.heap.size + 1, 3, none⟩ = some (.string tb) ∧ W.cell? ⟨w.heap.size + 1 + 1, 0, none⟩ = some (.bool nk) ∧ W.cell? ⟨w.heap.size + 1 + 1, 1, none⟩ = some (.string sk)) from fun W h => ⟨h.at 0 0 rfl, h.at 0 1 rfl, h.at 0 2 rfl, h.at 0 3 rfl, h.at 1 0 rfl, h.at 1 1 rfl, h.at 1 2 rfl, h.at 1 3 rfl, h.at 2 0 rfl, h.at 2 1 rfl⟩)
              go_region_held3 (fun W => W.cell? ⟨w.heap.size, 0, none⟩ = some (.bool na) ∧ W.cell? ⟨w.heap.size, 1, none⟩ = some (.string sa) ∧ W.cell? ⟨w.heap.size, 2, none⟩ = some (.bool ma) ∧ W.cell? ⟨w.heap.size, 3, none⟩ = some (.string ta) ∧ W.cell? ⟨w.heap.size + 1, 0, none⟩ = some (.bool nb) ∧ W.cell? ⟨w.heap.size + 1, 1, none⟩ = some (.string sb) ∧ W.cell? ⟨w.heap.size + 1, 2, none⟩ = some (.bool mb) ∧ W.cell? ⟨w.heap.size + 1, 3, none⟩ = some (.string tb) ∧ W.cell? ⟨w.heap.size + 1 + 1, 0, none⟩ = some (.bool nk) ∧ W.cell? ⟨w.heap.size + 1 + 1, 1, none⟩ = some (.string sk))
                (first | (with_reducible exact FL.out _ KB.1) | (with_reducible exact FL.out _ (Vars.alloc KB.1 _)) | exact FL.out _ KB.1)
                (first
                  | (go_at_call 24; (with_reducible refine (iof_any 0 _ (by omega) (by omega)).mono ?_); rintro e X ⟨rfl, bX⟩; (try unfold ratV); have KB := And.intro (KB.1.keep bX) (below_more KB.2 (Nat.le_refl _) bX))
                  | (go_at_call 23; (first | (with_reducible refine (icmp_eq Jk.out J0.out Ec1.out).mono ?_) | (with_reducible refine (icmp_eq Jd.out J0.out Ec2.out).mono ?_)); rintro e X ⟨rfl, bX⟩; (try unfold ratV); have KB := And.intro (KB.1.keep bX) (below_more KB.2 (Nat.le_refl _) bX)))
              all_goals go_wp2_with fail
              all_goals go_meet
              all_goals exact ⟨by rw [HZ.out, HE.out]; rfl, KB.1, KB.2⟩
            · have HE := Lib.hid (decide_eq_false h)
              clear h
              have K0 : Vars [(w.heap.size, [.bool na, .string sa, .bool ma, .string ta]), (w.heap.size + 1, [.bool nb, .string sb, .bool mb, .string tb]), (w.heap.size + 1 + 1, [.bool nk, .string sk])] wr.drew := K
              have B0 := B.drew
              have KB := And.intro K0 B0
              clear K0 B0
              have FL := Lib.hid (show ∀ W, Vars [(w.heap.size, [.bool na, .string sa, .bool ma, .string ta]), (w.heap.size + 1, [.bool nb, .string sb, .bool mb, .string tb]), (w.heap.size + 1 + 1, [.bool nk, .string sk])] W → (W.cell? ⟨w.heap.size, 0, none⟩ = some (.bool na) ∧ W.cell? ⟨w.heap.size, 1, none⟩ = some (.string sa) ∧ W.cell? ⟨w.heap.size, 2, none⟩ = some (.bool ma) ∧ W.cell? ⟨w.heap.size, 3, none⟩ = some (.string ta) ∧ W.cell? ⟨w.heap.size + 1, 0, none⟩ = some (.bool nb) ∧ W.cell? ⟨w.heap.size + 1, 1, none⟩ = some (.string sb) ∧ W.cell? ⟨w.heap.size + 1, 2, none⟩ = some (.bool mb) ∧ W.cell? ⟨w.heap.size + 1, 3, none⟩ = some (.string tb) ∧ W.cell? ⟨w.heap.size + 1 + 1, 0, none⟩ = some (.bool nk) ∧ W.cell? ⟨w.heap.size + 1 + 1, 1, none⟩ = some (.string sk)) from fun W h => ⟨h.at 0 0 rfl, h.at 0 1 rfl, h.at 0 2 rfl, h.at 0 3 rfl, h.at 1 0 rfl, h.at 1 1 rfl, h.at 1 2 rfl, h.at 1 3 rfl, h.at 2 0 rfl, h.at 2 1 rfl⟩)
              go_region_held3 (fun W => W.cell? ⟨w.heap.size, 0, none⟩ = some (.bool na) ∧ W.cell? ⟨w.heap.size, 1, none⟩ = some (.string sa) ∧ W.cell? ⟨w.heap.size, 2, none⟩ = some (.bool ma) ∧ W.cell? ⟨w.heap.size, 3, none⟩ = some (.string ta) ∧ W.cell? ⟨w.heap.size + 1, 0, none⟩ = some (.bool nb) ∧ W.cell? ⟨w.heap.size + 1, 1, none⟩ = some (.string sb) ∧ W.cell? ⟨w.heap.size + 1, 2, none⟩ = some (.bool mb) ∧ W.cell? ⟨w.heap.size + 1, 3, none⟩ = some (.string tb) ∧ W.cell? ⟨w.heap.size + 1 + 1, 0, none⟩ = some (.bool nk) ∧ W.cell? ⟨w.heap.size + 1 + 1, 1, none⟩ = some (.string sk))
                (first | (with_reducible exact FL.out _ KB.1) | (with_reducible exact FL.out _ (Vars.alloc KB.1 _)) | exact FL.out _ KB.1)
                (first
                  | (go_at_call 24; (with_reducible refine (iof_any 0 _ (by omega) (by omega)).mono ?_); rintro e X ⟨rfl, bX⟩; (try unfold ratV); have KB := And.intro (KB.1.keep bX) (below_more KB.2 (Nat.le_refl _) bX))
                  | (go_at_call 23; (first | (with_reducible refine (icmp_eq Jk.out J0.out Ec1.out).mono ?_) | (with_reducible refine (icmp_eq Jd.out J0.out Ec2.out).mono ?_)); rintro e X ⟨rfl, bX⟩; (try unfold ratV); have KB := And.intro (KB.1.keep bX) (below_more KB.2 (Nat.le_refl _) bX)))
              all_goals go_wp2_with fail
              all_goals go_meet
              all_goals exact ⟨by rw [HZ.out, HE.out]; rfl, KB.1, KB.2⟩
          · have HZ := Lib.hid (decide_eq_false h)
            clear h
            rcases Hd.out with ⟨h, rfl⟩ | ⟨h, rfl⟩ | ⟨h, rfl⟩
            · have HE := Lib.hid (decide_eq_true h)
              clear h
              have K0 : Vars [(w.heap.size, [.bool na, .string sa, .bool ma, .string ta]), (w.heap.size + 1, [.bool nb, .string sb, .bool mb, .string tb]), (w.heap.size + 1 + 1, [.bool nk, .string sk])] wr.drew := K
              have B0 := B.drew
              have KB := And.intro K0 B0
              clear K0 B0
              have FL := Lib.hid (show ∀ W, Vars [(w.heap.size, [.bool na, .string sa, .bool ma, .string ta]), (w.heap.size + 1, [.bool nb, .string sb, .bool mb, .string tb]), (w.heap.size + 1 + 1, [.bool nk, .string sk])] W → (W.cell? ⟨w.heap.size, 0, none⟩ = some (.bool na) ∧ W.cell? ⟨w.heap.size, 1, none⟩ = some (.string sa) ∧ W.cell? ⟨w.heap.size, 2, none⟩ = some (.bool ma) ∧ W.cell? ⟨w.heap.size, 3, none⟩ = some (.string ta) ∧ W.cell? ⟨w.heap.size + 1, 0, none⟩ = some (.bool nb) ∧ W.cell? ⟨w.heap.size + 1, 1, none⟩ = some (.string sb) ∧ W.cell? ⟨w.heap.size + 1, 2, none⟩ = some (.bool mb) ∧ W.cell? ⟨w.heap.size + 1, 3, none⟩ = some (.string tb) ∧ W.cell? ⟨w.heap.size + 1 + 1, 0, none⟩ = some (.bool nk) ∧ W.cell? ⟨w.heap.size + 1 + 1, 1, none⟩ = some (.string sk)) from fun W h => ⟨h.at 0 0 rfl, h.at 0 1 rfl, h.at 0 2 rfl, h.at 0 3 rfl, h.at 1 0 rfl, h.at 1 1 rfl, h.at 1 2 rfl, h.at 1 3 rfl, h.at 2 0 rfl, h.at 2 1 rfl⟩)
              go_region_held3 (fun W => W.cell? ⟨w.heap.size, 0, none⟩ = some (.bool na) ∧ W.cell? ⟨w.heap.size, 1, none⟩ = some (.string sa) ∧ W.cell? ⟨w.heap.size, 2, none⟩ = some (.bool ma) ∧ W.cell? ⟨w.heap.size, 3, none⟩ = some (.string ta) ∧ W.cell? ⟨w.heap.size + 1, 0, none⟩ = some (.bool nb) ∧ W.cell? ⟨w.heap.size + 1, 1, none⟩ = some (.string sb) ∧ W.cell? ⟨w.heap.size + 1, 2, none⟩ = some (.bool mb) ∧ W.cell? ⟨w.heap.size + 1, 3, none⟩ = some (.string tb) ∧ W.cell? ⟨w.heap.size + 1 + 1, 0, none⟩ = some (.bool nk) ∧ W.cell? ⟨w.heap.size + 1 + 1, 1, none⟩ = some (.string sk))
                (first | (with_reducible exact FL.out _ KB.1) | (with_reducible exact FL.out _ (Vars.alloc KB.1 _)) | exact FL.out _ KB.1)
                (first
                  | (go_at_call 24; (with_reducible refine (iof_any 0 _ (by omega) (by omega)).mono ?_); rintro e X ⟨rfl, bX⟩; (try unfold ratV); have KB := And.intro (KB.1.keep bX) (below_more KB.2 (Nat.le_refl _) bX))
                  | (go_at_call 23; (first | (with_reducible refine (icmp_eq Jk.out J0.out Ec1.out).mono ?_) | (with_reducible refine (icmp_eq Jd.out J0.out Ec2.out).mono ?_)); rintro e X ⟨rfl, bX⟩; (try unfold ratV); have KB := And.intro (KB.1.keep bX) (below_more KB.2 (Nat.le_refl _) bX)))
              all_goals go_wp2_with fail
              all_goals go_meet
              all_goals exact ⟨by rw [HZ.out, HE.out]; rfl, KB.1, KB.2⟩
            · have HE := Lib.hid (decide_eq_false h)
              clear h
              have K0 : Vars [(w.heap.size, [.bool na, .string sa, .bool ma, .string ta]), (w.heap.size + 1, [.bool nb, .string sb, .bool mb, .string tb]), (w.heap.size + 1 + 1, [.bool nk, .string sk])] wr.drew := K
              have B0 := B.drew
              have KB := And.intro K0 B0
              clear K0 B0
              have FL := Lib.hid (show ∀ W, Vars [(w.heap.size, [.bool na, .string sa, .bool ma, .string ta]), (w.heap.size + 1, [.bool nb, .string sb, .bool mb, .string tb]), (w.heap.size + 1 + 1, [.bool nk, .string sk])] W → (W.cell? ⟨w.heap.size, 0, none⟩ = some (.bool na) ∧ W.cell? ⟨w.heap.size, 1, none⟩ = some (.string sa) ∧ W.cell? ⟨w.heap.size, 2, none⟩ = some (.bool ma) ∧ W.cell? ⟨w.heap.size, 3, none⟩ = some (.string ta) ∧ W.cell? ⟨w.heap.size + 1, 0, none⟩ = some (.bool nb) ∧ W.cell? ⟨w.heap.size + 1, 1, none⟩ = some (.string sb) ∧ W.cell? ⟨w.heap.size + 1, 2, none⟩ = some (.bool mb) ∧ W.cell? ⟨w.heap.size + 1, 3, none⟩ = some (.string tb) ∧ W.cell? ⟨w.heap.size + 1 + 1, 0, none⟩ = some (.bool nk) ∧ W.cell? ⟨w.heap.size + 1 + 1, 1, none⟩ = some (.string sk)) from fun W h => ⟨h.at 0 0 rfl, h.at 0 1 rfl, h.at 0 2 rfl, h.at 0 3 rfl, h.at 1 0 rfl, h.at 1 1 rfl, h.at 1 2 rfl, h.at 1 3 rfl, h.at 2 0 rfl, h.at 2 1 rfl⟩)
              go_region_held3 (fun W => W.cell? ⟨w.heap.size, 0, none⟩ = some (.bool na) ∧ W.cell? ⟨w.heap.size, 1, none⟩ = some (.string sa) ∧ W.cell? ⟨w.heap.size, 2, none⟩ = some (.bool ma) ∧ W.cell? ⟨w.heap.size, 3, none⟩ = some (.string ta) ∧ W.cell? ⟨w.heap.size + 1, 0, none⟩ = some (.bool nb) ∧ W.cell? ⟨w.heap.size + 1, 1, none⟩ = some (.string sb) ∧ W.cell? ⟨w.heap.size + 1, 2, none⟩ = some (.bool mb) ∧ W.cell? ⟨w.heap.size + 1, 3, none⟩ = some (.string tb) ∧ W.cell? ⟨w.heap.size + 1 + 1, 0, none⟩ = some (.bool nk) ∧ W.cell? ⟨w.heap.size + 1 + 1, 1, none⟩ = some (.string sk))
                (first | (with_reducible exact FL.out _ KB.1) | (with_reducible exact FL.out _ (Vars.alloc KB.1 _)) | exact FL.out _ KB.1)
                (first
                  | (go_at_call 24; (with_reducible refine (iof_any 0 _ (by omega) (by omega)).mono ?_); rintro e X ⟨rfl, bX⟩; (try unfold ratV); have KB := And.intro (KB.1.keep bX) (below_more KB.2 (Nat.le_refl _) bX))
                  | (go_at_call 23; (first | (with_reducible refine (icmp_eq Jk.out J0.out Ec1.out).mono ?_) | (with_reducible refine (icmp_eq Jd.out J0.out Ec2.out).mono ?_)); rintro e X ⟨rfl, bX⟩; (try unfold ratV); have KB := And.intro (KB.1.keep bX) (below_more KB.2 (Nat.le_refl _) bX)))
              all_goals go_wp2_with fail
              all_goals go_meet
              all_goals exact ⟨by rw [HZ.out, HE.out]; rfl, KB.1, KB.2⟩
            · have HE := Lib.hid (decide_eq_false h)
              clear h
              have K0 : Vars [(w.heap.size, [.bool na, .string sa, .bool ma, .string ta]), (w.heap.size + 1, [.bool nb, .string sb, .bool mb, .string tb]), (w.heap.size + 1 + 1, [.bool nk, .string sk])] wr.drew := K
              have B0 := B.drew
              have KB := And.intro K0 B0
              clear K0 B0
              have FL := Lib.hid (show ∀ W, Vars [(w.heap.size, [.bool na, .string sa, .bool ma, .string ta]), (w.heap.size + 1, [.bool nb, .string sb, .bool mb, .string tb]), (w.heap.size + 1 + 1, [.bool nk, .string sk])] W → (W.cell? ⟨w.heap.size, 0, none⟩ = some (.bool na) ∧ W.cell? ⟨w.heap.size, 1, none⟩ = some (.string sa) ∧ W.cell? ⟨w.heap.size, 2, none⟩ = some (.bool ma) ∧ W.cell? ⟨w.heap.size, 3, none⟩ = some (.string ta) ∧ W.cell? ⟨w.heap.size + 1, 0, none⟩ = some (.bool nb) ∧ W.cell? ⟨w.heap.size + 1, 1, none⟩ = some (.string sb) ∧ W.cell? ⟨w.heap.size + 1, 2, none⟩ = some (.bool mb) ∧ W.cell? ⟨w.heap.size + 1, 3, none⟩ = some (.string tb) ∧ W.cell? ⟨w.heap.size + 1 + 1, 0, none⟩ = some (.bool nk) ∧ W.cell? ⟨w.heap.size + 1 + 1, 1, none⟩ = some (.string sk)) from fun W h => ⟨h.at 0 0 rfl, h.at 0 1 rfl, h.at 0 2 rfl, h.at 0 3 rfl, h.at 1 0 rfl, h.at 1 1 rfl, h.at 1 2 rfl, h.at 1 3 rfl, h.at 2 0 rfl, h.at 2 1 rfl⟩)
              go_region_held3 (fun W => W.cell? ⟨w.heap.size, 0, none⟩ = some (.bool na) ∧ W.cell? ⟨w.heap.size, 1, none⟩ = some (.string sa) ∧ W.cell? ⟨w.heap.size, 2, none⟩ = some (.bool ma) ∧ W.cell? ⟨w.heap.size, 3, none⟩ = some (.string ta) ∧ W.cell? ⟨w.heap.size + 1, 0, none⟩ = some (.bool nb) ∧ W.cell? ⟨w.heap.size + 1, 1, none⟩ = some (.string sb) ∧ W.cell? ⟨w.heap.size + 1, 2, none⟩ = some (.bool mb) ∧ W.cell? ⟨w.heap.size + 1, 3, none⟩ = some (.string tb) ∧ W.cell? ⟨w.heap.size + 1 + 1, 0, none⟩ = some (.bool nk) ∧ W.cell? ⟨w.heap.size + 1 + 1, 1, none⟩ = some (.string sk))
                (first | (with_reducible exact FL.out _ KB.1) | (with_reducible exact FL.out _ (Vars.alloc KB.1 _)) | exact FL.out _ KB.1)
                (first
                  | (go_at_call 24; (with_reducible refine (iof_any 0 _ (by omega) (by omega)).mono ?_); rintro e X ⟨rfl, bX⟩; (try unfold ratV); have KB := And.intro (KB.1.keep bX) (below_more KB.2 (Nat.le_refl _) bX))
                  | (go_at_call 23; (first | (with_reducible refine (icmp_eq Jk.out J0.out Ec1.out).mono ?_) | (with_reducible refine (icmp_eq Jd.out J0.out Ec2.out).mono ?_)); rintro e X ⟨rfl, bX⟩; (try unfold ratV); have KB := And.intro (KB.1.keep bX) (below_more KB.2 (Nat.le_refl _) bX)))
              all_goals go_wp2_with fail
              all_goals go_meet
              all_goals exact ⟨by rw [HZ.out, HE.out]; rfl, KB.1, KB.2⟩
        case rest =>
          obtain ⟨rfl, K9, B9⟩ := hcut
          clear K B
          have K := K9
          have B := B9
          clear K9 B9
          by_cases hzd : (decide (z = 0) || decide (d = 0)) = true
          · rw [hzd]
            clear K
            go_wp2_with fail
            refine (awaker_any _ (H0.out.keep B) (tab_keep Ht.out B)).mono ?_
            rintro e W2 ⟨rfl, b2⟩
            go_wp2
            go_ret
            exact ⟨rfl, below_more B (Nat.le_refl _) b2⟩
          rw [Bool.not_eq_true] at hzd
          rw [hzd]
          have hz0 : z ≠ 0 := by
            intro e
            rw [decide_eq_true e] at hzd
            simp at hzd
          clear hzd
          have Eq' := Lib.hid (show Rat.divInt x y = qa by rw [← Ex.out, ← Ey.out, ← Eqa.out]; exact Rat.divInt_mul_right hz0)
          clear hz0
          have Jx := Lib.hid (isInt_mg (db_mul Jn.out.bd Jk.out.bd Ex.out) (by omega))
          have Jy := Lib.hid (isInt_mg (db_mul Jd.out.bd Jk.out.bd Ey.out) (by omega))
          have Ic := Lib.hid (show IsRat (.agg #[.bool (sg x), .string (mg x), .bool (sg y), .string (mg y)]) qa 400 from ⟨_, _, _, _, x, y, rfl, Jx.out.wider (by omega) (by omega), Jy.out.wider (by omega) (by omega), Eq'.out⟩)
          have Ec := Lib.hid (cmpQ_self qa)
          obtain ⟨T, HT⟩ : ∃ T, Hid (prQ qa = T) := ⟨_, Lib.hid rfl⟩
          have Ss := sameR_self (sg qs.num) (sg (qs.den : Int)) (mg qs.num) (mg (qs.den : Int))
          go_upto_region 11 with fail
          go_cut [9] (fun s9 wx => ∃ p9 : Nat, s9 = .pointer (some ⟨p9, 0, none⟩) ∧ Vars ((p9, [.bool (sg x), .string (mg x), .bool (sg y), .string (mg y)]) :: [(w.heap.size, [.bool na, .string sa, .bool ma, .string ta]), (w.heap.size + 1, [.bool nb, .string sb, .bool mb, .string tb]), (w.heap.size + 1 + 1, [.bool nk, .string sk])]) wx ∧ Below w.heap.size w wx)
          case first =>
            obtain ⟨t1, t2, t3, t4, t5, t6, t7, t8, t9, t10⟩ : wc.cell? ⟨w.heap.size, 0, none⟩ = some (.bool na) ∧ wc.cell? ⟨w.heap.size, 1, none⟩ = some (.string sa) ∧ wc.cell? ⟨w.heap.size, 2, none⟩ = some (.bool ma) ∧ wc.cell? ⟨w.heap.size, 3, none⟩ = some (.string ta) ∧ wc.cell? ⟨w.heap.size + 1, 0, none⟩ = some (.bool nb) ∧ wc.cell? ⟨w.heap.size + 1, 1, none⟩ = some (.string sb) ∧ wc.cell? ⟨w.heap.size + 1, 2, none⟩ = some (.bool mb) ∧ wc.cell? ⟨w.heap.size + 1, 3, none⟩ = some (.string tb) ∧ wc.cell? ⟨w.heap.size + 1 + 1, 0, none⟩ = some (.bool nk) ∧ wc.cell? ⟨w.heap.size + 1 + 1, 1, none⟩ = some (.string sk) := ⟨K.at 0 0 rfl, K.at 0 1 rfl, K.at 0 2 rfl, K.at 0 3 rfl, K.at 1 0 rfl, K.at 1 1 rfl, K.at 1 2 rfl, K.at 1 3 rfl, K.at 2 0 rfl, K.at 2 1 rfl⟩
            have KB := And.intro K B
            have FL := Lib.hid (show ∀ W, Vars [(w.heap.size, [.bool na, .string sa, .bool ma, .string ta]), (w.heap.size + 1, [.bool nb, .string sb, .bool mb, .string tb]), (w.heap.size + 1 + 1, [.bool nk, .string sk])] W → (W.cell? ⟨w.heap.size, 0, none⟩ = some (.bool na) ∧ W.cell? ⟨w.heap.size, 1, none⟩ = some (.string sa) ∧ W.cell? ⟨w.heap.size, 2, none⟩ = some (.bool ma) ∧ W.cell? ⟨w.heap.size, 3, none⟩ = some (.string ta) ∧ W.cell? ⟨w.heap.size + 1, 0, none⟩ = some (.bool nb) ∧ W.cell? ⟨w.heap.size + 1, 1, none⟩ = some (.string sb) ∧ W.cell? ⟨w.heap.size + 1, 2, none⟩ = some (.bool mb) ∧ W.cell? ⟨w.heap.size + 1, 3, none⟩ = some (.string tb) ∧ W.cell? ⟨w.heap.size + 1 + 1, 0, none⟩ = some (.bool nk) ∧ W.cell? ⟨w.heap.size + 1 + 1, 1, none⟩ = some (.string sk)) from fun W h => ⟨h.at 0 0 rfl, h.at 0 1 rfl, h.at 0 2 rfl, h.at 0 3 rfl, h.at 1 0 rfl, h.at 1 1 rfl, h.at 1 2 rfl, h.at 1 3 rfl, h.at 2 0 rfl, h.at 2 1 rfl⟩)
            go_region_held3 (fun W => W.cell? ⟨w.heap.size, 0, none⟩ = some (.bool na) ∧ W.cell? ⟨w.heap.size, 1, none⟩ = some (.string sa) ∧ W.cell? ⟨w.heap.size, 2, none⟩ = some (.bool ma) ∧ W.cell? ⟨w.heap.size, 3, none⟩ = some (.string ta) ∧ W.cell? ⟨w.heap.size + 1, 0, none⟩ = some (.bool nb) ∧ W.cell? ⟨w.heap.size + 1, 1, none⟩ = some (.string sb) ∧ W.cell? ⟨w.heap.size + 1, 2, none⟩ = some (.bool mb) ∧ W.cell? ⟨w.heap.size + 1, 3, none⟩ = some (.string tb) ∧ W.cell? ⟨w.heap.size + 1 + 1, 0, none⟩ = some (.bool nk) ∧ W.cell? ⟨w.heap.size + 1 + 1, 1, none⟩ = some (.string sk))
              (first | (with_reducible exact FL.out _ KB.1) | (with_reducible exact FL.out _ (Vars.drew KB.1)) | (with_reducible exact FL.out _ (Vars.alloc KB.1 _)) | (with_reducible exact FL.out _ (Vars.drew (Vars.alloc KB.1 _))) | (with_reducible exact FL.out _ (Vars.set4 KB.1 KR.2.1 _ _ _ _)) | go_keep)
              (first
                | (go_at_call 26; (first | (with_reducible refine (imul_eq Jn.out Jk.out Ex.out).mono ?_) | (with_reducible refine (imul_eq Jd.out Jk.out Ey.out).mono ?_)); rintro e X ⟨rfl, bX⟩; (try unfold ratV); (first | (with_reducible have KR := And.intro (ResRat.keep KR.1 bX) KR.2) | have KR := And.intro (ResRat.keep (ResRat.new _) bX) (And.intro (KB.1.far (Nat.le_refl _)) KB.2.size) | have KR := And.intro (ResRat.keep (ResRat.drew (ResRat.new _)) bX) (And.intro (KB.1.far (Nat.le_refl _)) KB.2.size) | skip); (try obtain ⟨⟨⟨r1, r2, r3, r4⟩, r5, r6, r7, r8⟩, _⟩ := id KR); (first | (with_reducible have KB := And.intro (KB.1.keep bX) (below_more KB.2 (Nat.le_refl _) bX)) | have KB := And.intro ((Vars.drew KB.1).keep bX) (below_more (Below.drew KB.2) (Nat.le_refl _) bX) | have KB := And.intro ((KB.1.alloc _).keep bX) (below_more (below_al KB.2 _) (Nat.le_refl _) bX) | have KB := And.intro ((Vars.drew (KB.1.alloc _)).keep bX) (below_more (Below.drew (below_al KB.2 _)) (Nat.le_refl _) bX))))
            all_goals go_wp2_with fail
            all_goals go_meet
            all_goals refine ⟨_, rfl, ?_, ?_⟩
            all_goals first | exact Vars.stored (Vars.cons (four_cells r1 r2 r3 r4) KB.1) KR.2.1 _ _ _ _ | exact Vars.new KB.1 _ _ | exact below4s KB.2 _ KR.2.2 _ _ _ _ | exact below_al KB.2 _
          case rest =>
            obtain ⟨p9, rfl, K9, B9⟩ := hcut
            clear K B
            have K := K9
            have B := B9
            clear K9 B9
            go_upto_region 12 with fail
            obtain ⟨t1, t2, t3, t4, t5, t6, t7, t8, t9, t10, t11, t12, t13, t14⟩ : wc.cell? ⟨p9, 0, none⟩ = some (.bool (sg x)) ∧ wc.cell? ⟨p9, 1, none⟩ = some (.string (mg x)) ∧ wc.cell? ⟨p9, 2, none⟩ = some (.bool (sg y)) ∧ wc.cell? ⟨p9, 3, none⟩ = some (.string (mg y)) ∧ wc.cell? ⟨w.heap.size, 0, none⟩ = some (.bool na) ∧ wc.cell? ⟨w.heap.size, 1, none⟩ = some (.string sa) ∧ wc.cell? ⟨w.heap.size, 2, none⟩ = some (.bool ma) ∧ wc.cell? ⟨w.heap.size, 3, none⟩ = some (.string ta) ∧ wc.cell? ⟨w.heap.size + 1, 0, none⟩ = some (.bool nb) ∧ wc.cell? ⟨w.heap.size + 1, 1, none⟩ = some (.string sb) ∧ wc.cell? ⟨w.heap.size + 1, 2, none⟩ = some (.bool mb) ∧ wc.cell? ⟨w.heap.size + 1, 3, none⟩ = some (.string tb) ∧ wc.cell? ⟨w.heap.size + 1 + 1, 0, none⟩ = some (.bool nk) ∧ wc.cell? ⟨w.heap.size + 1 + 1, 1, none⟩ = some (.string sk) := ⟨K.at 0 0 rfl, K.at 0 1 rfl, K.at 0 2 rfl, K.at 0 3 rfl, K.at 1 0 rfl, K.at 1 1 rfl, K.at 1 2 rfl, K.at 1 3 rfl, K.at 2 0 rfl, K.at 2 1 rfl, K.at 2 2 rfl, K.at 2 3 rfl, K.at 3 0 rfl, K.at 3 1 rfl⟩
            have K0 : Vars [(p9, [.bool (sg x), .string (mg x), .bool (sg y), .string (mg y)]), (w.heap.size, [.bool na, .string sa, .bool ma, .string ta]), (w.heap.size + 1, [.bool nb, .string sb, .bool mb, .string tb]), (w.heap.size + 1 + 1, [.bool nk, .string sk])] wc.drew := K
            have B0 := B.drew
            have KB := And.intro K0 B0
            clear K0 B0
            have FL := Lib.hid (show ∀ W, Vars [(p9, [.bool (sg x), .string (mg x), .bool (sg y), .string (mg y)]), (w.heap.size, [.bool na, .string sa, .bool ma, .string ta]), (w.heap.size + 1, [.bool nb, .string sb, .bool mb, .string tb]), (w.heap.size + 1 + 1, [.bool nk, .string sk])] W → (W.cell? ⟨p9, 0, none⟩ = some (.bool (sg x)) ∧ W.cell? ⟨p9, 1, none⟩ = some (.string (mg x)) ∧ W.cell? ⟨p9, 2, none⟩ = some (.bool (sg y)) ∧ W.cell? ⟨p9, 3, none⟩ = some (.string (mg y)) ∧ W.cell? ⟨w.heap.size, 0, none⟩ = some (.bool na) ∧ W.cell? ⟨w.heap.size, 1, none⟩ = some (.string sa) ∧ W.cell? ⟨w.heap.size, 2, none⟩ = some (.bool ma) ∧ W.cell? ⟨w.heap.size, 3, none⟩ = some (.string ta) ∧ W.cell? ⟨w.heap.size + 1, 0, none⟩ = some (.bool nb) ∧ W.cell? ⟨w.heap.size + 1, 1, none⟩ = some (.string sb) ∧ W.cell? ⟨w.heap.size + 1, 2, none⟩ = some (.bool mb) ∧ W.cell? ⟨w.heap.size + 1, 3, none⟩ = some (.string tb) ∧ W.cell? ⟨w.heap.size + 1 + 1, 0, none⟩ = some (.bool nk) ∧ W.cell? ⟨w.heap.size + 1 + 1, 1, none⟩ = some (.string sk)) from fun W h => ⟨h.at 0 0 rfl, h.at 0 1 rfl, h.at 0 2 rfl, h.at 0 3 rfl, h.at 1 0 rfl, h.at 1 1 rfl, h.at 1 2 rfl, h.at 1 3 rfl, h.at 2 0 rfl, h.at 2 1 rfl, h.at 2 2 rfl, h.at 2 3 rfl, h.at 3 0 rfl, h.at 3 1 rfl⟩)
            go_region_held3 (fun W => W.cell? ⟨p9, 0, none⟩ = some (.bool (sg x)) ∧ W.cell? ⟨p9, 1, none⟩ = some (.string (mg x)) ∧ W.cell? ⟨p9, 2, none⟩ = some (.bool (sg y)) ∧ W.cell? ⟨p9, 3, none⟩ = some (.string (mg y)) ∧ W.cell? ⟨w.heap.size, 0, none⟩ = some (.bool na) ∧ W.cell? ⟨w.heap.size, 1, none⟩ = some (.string sa) ∧ W.cell? ⟨w.heap.size, 2, none⟩ = some (.bool ma) ∧ W.cell? ⟨w.heap.size, 3, none⟩ = some (.string ta) ∧ W.cell? ⟨w.heap.size + 1, 0, none⟩ = some (.bool nb) ∧ W.cell? ⟨w.heap.size + 1, 1, none⟩ = some (.string sb) ∧ W.cell? ⟨w.heap.size + 1, 2, none⟩ = some (.bool mb) ∧ W.cell? ⟨w.heap.size + 1, 3, none⟩ = some (.string tb) ∧ W.cell? ⟨w.heap.size + 1 + 1, 0, none⟩ = some (.bool nk) ∧ W.cell? ⟨w.heap.size + 1 + 1, 1, none⟩ = some (.string sk))
              (first | (with_reducible exact FL.out _ KB.1) | (with_reducible exact FL.out _ (Vars.alloc KB.1 _)) | exact FL.out _ KB.1)
              (first
                | (go_at_call 12; (first | (with_reducible refine (radd_any _ _ qa qb qs 400 _ Ic.out Ib.out (by omega) Es.out).mono ?_) | (with_reducible refine (radd_any _ _ qa qb qs 400 _ Ia.out Ib.out (by omega) Es.out).mono ?_)); rintro e X ⟨rfl, bX⟩; (try unfold ratV); have KB := And.intro (KB.1.keep bX) (below_more KB.2 (Nat.le_refl _) bX))
                | (go_at_call 18; (with_reducible refine (rcmp_eq Ia.out Ic.out (by omega) Ec.out).mono ?_); rintro e X ⟨rfl, bX⟩; (try unfold ratV); have KB := And.intro (KB.1.keep bX) (below_more KB.2 (Nat.le_refl _) bX))
                | (go_at_call 27; (first | (with_reducible refine (rprint_any _ qa T 400 _ Ia.out (by omega) (tab_keep Ht.out KB.2) HT.out).mono ?_) | (with_reducible refine (rprint_any _ qa T 400 _ Ic.out (by omega) (tab_keep Ht.out KB.2) HT.out).mono ?_)); rintro e X ⟨rfl, bX⟩; (try unfold ratV); have KB := And.intro (KB.1.keep bX) (below_more KB.2 (Nat.le_refl _) bX))
                | (go_at_call 11; (with_reducible refine (awaker_any _ (H0.out.keep KB.2) (tab_keep Ht.out KB.2)).mono ?_); rintro e X ⟨rfl, bX⟩; (try unfold ratV); have KB := And.intro (KB.1.keep bX) (below_more KB.2 (Nat.le_refl _) bX)))
            all_goals
              go_wp2
              go_ret
              exact ⟨rfl, KB.2⟩
      · obtain ⟨i', hi'⟩ : ∃ i', i' = 4 - (g + 1) := ⟨_, rfl⟩
        rw [← hi']
        have hin : i' < 4 := by omega
        have HI : Hid (i' + 1 = 4 - g ∧ g + 1 ≤ 4) := by show _ ∧ _; omega
        obtain ⟨h1, h2, h3, h4⟩ := RD i' hin
        have RD' := Lib.hid RD
        have Dr := Lib.hid (HD.out i' hin)
        obtain ⟨r, Er⟩ : ∃ r, Hid (sel [qs, qp, qg, qi] 0 i' = r) := ⟨_, Lib.hid rfl⟩
        rw [Er.out] at h1 h2 h3 h4 Dr
        have Sr := Lib.hid (sameR_self (sg r.num) (sg (r.den : Int)) (mg r.num) (mg (r.den : Int)))
        have Ir := Lib.hid (rat_is Dr.out 400 (by omega) (by omega))
        have Jrn := Lib.hid (isInt_mg Dr.out.1 (by omega))
        have Jrd := Lib.hid (isInt_mg (z := (r.den : Int)) (k := 300) (by rw [Int.natAbs_natCast]; exact Dr.out.2) (by omega))
        have Ed := Lib.hid (den_cmp r)
        have Eg1 := Lib.hid (low_gcd r)
        clear hi' hg RD
        have KR0 := K
        have hbl := below1 wr (.cells #[.bool (sg r.num), .string (mg r.num), .bool (sg (r.den : Int)), .string (mg (r.den : Int))] 25)
        have K : Vars ((wr.heap.size, [.bool (sg r.num), .string (mg r.num), .bool (sg (r.den : Int)), .string (mg (r.den : Int))]) :: [(w.heap.size, [.bool na, .string sa, .bool ma, .string ta]), (w.heap.size + 1, [.bool nb, .string sb, .bool mb, .string tb]), (w.heap.size + 1 + 1, [.bool nk, .string sk])]) (wr.alloc (.cells #[.bool (sg r.num), .string (mg r.num), .bool (sg (r.den : Int)), .string (mg (r.den : Int))] 25)) := Vars.new K _ _
        have B := below_more B (Nat.le_refl _) hbl
        have RD1 := Lib.hid (RD'.out.keep hbl)
        clear hbl KR0
        go_upto_region 6 with fail
        clear h1 h2 h3 h4 RD'
        generalize wr.alloc (.cells #[.bool (sg r.num), .string (mg r.num), .bool (sg (r.den : Int)), .string (mg (r.den : Int))] 25) = V at *
        generalize wr.heap.size = pr at *
        obtain ⟨t1, t2, t3, t4, t5, t6, t7, t8, t9, t10, t11, t12, t13, t14⟩ : V.cell? ⟨pr, 0, none⟩ = some (.bool (sg r.num)) ∧ V.cell? ⟨pr, 1, none⟩ = some (.string (mg r.num)) ∧ V.cell? ⟨pr, 2, none⟩ = some (.bool (sg (r.den : Int))) ∧ V.cell? ⟨pr, 3, none⟩ = some (.string (mg (r.den : Int))) ∧ V.cell? ⟨w.heap.size, 0, none⟩ = some (.bool na) ∧ V.cell? ⟨w.heap.size, 1, none⟩ = some (.string sa) ∧ V.cell? ⟨w.heap.size, 2, none⟩ = some (.bool ma) ∧ V.cell? ⟨w.heap.size, 3, none⟩ = some (.string ta) ∧ V.cell? ⟨w.heap.size + 1, 0, none⟩ = some (.bool nb) ∧ V.cell? ⟨w.heap.size + 1, 1, none⟩ = some (.string sb) ∧ V.cell? ⟨w.heap.size + 1, 2, none⟩ = some (.bool mb) ∧ V.cell? ⟨w.heap.size + 1, 3, none⟩ = some (.string tb) ∧ V.cell? ⟨w.heap.size + 1 + 1, 0, none⟩ = some (.bool nk) ∧ V.cell? ⟨w.heap.size + 1 + 1, 1, none⟩ = some (.string sk) := ⟨K.at 0 0 rfl, K.at 0 1 rfl, K.at 0 2 rfl, K.at 0 3 rfl, K.at 1 0 rfl, K.at 1 1 rfl, K.at 1 2 rfl, K.at 1 3 rfl, K.at 2 0 rfl, K.at 2 1 rfl, K.at 2 2 rfl, K.at 2 3 rfl, K.at 3 0 rfl, K.at 3 1 rfl⟩
        have KE : RdQ V.drew q 4 (sel [qs, qp, qg, qi] 0) := RD1.out
        clear RD1
        have K0 : Vars [(pr, [.bool (sg r.num), .string (mg r.num), .bool (sg (r.den : Int)), .string (mg (r.den : Int))]), (w.heap.size, [.bool na, .string sa, .bool ma, .string ta]), (w.heap.size + 1, [.bool nb, .string sb, .bool mb, .string tb]), (w.heap.size + 1 + 1, [.bool nk, .string sk])] V.drew := K
        have B0 := B.drew
        have KB := And.intro K0 B0
        clear K0 B0
        have FL := Lib.hid (show ∀ W, Vars [(pr, [.bool (sg r.num), .string (mg r.num), .bool (sg (r.den : Int)), .string (mg (r.den : Int))]), (w.heap.size, [.bool na, .string sa, .bool ma, .string ta]), (w.heap.size + 1, [.bool nb, .string sb, .bool mb, .string tb]), (w.heap.size + 1 + 1, [.bool nk, .string sk])] W → (W.cell? ⟨pr, 0, none⟩ = some (.bool (sg r.num)) ∧ W.cell? ⟨pr, 1, none⟩ = some (.string (mg r.num)) ∧ W.cell? ⟨pr, 2, none⟩ = some (.bool (sg (r.den : Int))) ∧ W.cell? ⟨pr, 3, none⟩ = some (.string (mg (r.den : Int))) ∧ W.cell? ⟨w.heap.size, 0, none⟩ = some (.bool na) ∧ W.cell? ⟨w.heap.size, 1, none⟩ = some (.string sa) ∧ W.cell? ⟨w.heap.size, 2, none⟩ = some (.bool ma) ∧ W.cell? ⟨w.heap.size, 3, none⟩ = some (.string ta) ∧ W.cell? ⟨w.heap.size + 1, 0, none⟩ = some (.bool nb) ∧ W.cell? ⟨w.heap.size + 1, 1, none⟩ = some (.string sb) ∧ W.cell? ⟨w.heap.size + 1, 2, none⟩ = some (.bool mb) ∧ W.cell? ⟨w.heap.size + 1, 3, none⟩ = some (.string tb) ∧ W.cell? ⟨w.heap.size + 1 + 1, 0, none⟩ = some (.bool nk) ∧ W.cell? ⟨w.heap.size + 1 + 1, 1, none⟩ = some (.string sk)) from fun W h => ⟨h.at 0 0 rfl, h.at 0 1 rfl, h.at 0 2 rfl, h.at 0 3 rfl, h.at 1 0 rfl, h.at 1 1 rfl, h.at 1 2 rfl, h.at 1 3 rfl, h.at 2 0 rfl, h.at 2 1 rfl, h.at 2 2 rfl, h.at 2 3 rfl, h.at 3 0 rfl, h.at 3 1 rfl⟩)
        go_region_held3 (fun W => W.cell? ⟨pr, 0, none⟩ = some (.bool (sg r.num)) ∧ W.cell? ⟨pr, 1, none⟩ = some (.string (mg r.num)) ∧ W.cell? ⟨pr, 2, none⟩ = some (.bool (sg (r.den : Int))) ∧ W.cell? ⟨pr, 3, none⟩ = some (.string (mg (r.den : Int))) ∧ W.cell? ⟨w.heap.size, 0, none⟩ = some (.bool na) ∧ W.cell? ⟨w.heap.size, 1, none⟩ = some (.string sa) ∧ W.cell? ⟨w.heap.size, 2, none⟩ = some (.bool ma) ∧ W.cell? ⟨w.heap.size, 3, none⟩ = some (.string ta) ∧ W.cell? ⟨w.heap.size + 1, 0, none⟩ = some (.bool nb) ∧ W.cell? ⟨w.heap.size + 1, 1, none⟩ = some (.string sb) ∧ W.cell? ⟨w.heap.size + 1, 2, none⟩ = some (.bool mb) ∧ W.cell? ⟨w.heap.size + 1, 3, none⟩ = some (.string tb) ∧ W.cell? ⟨w.heap.size + 1 + 1, 0, none⟩ = some (.bool nk) ∧ W.cell? ⟨w.heap.size + 1 + 1, 1, none⟩ = some (.string sk))
          (first | (with_reducible exact FL.out _ KB.1) | (with_reducible exact FL.out _ (Vars.alloc KB.1 _)) | exact FL.out _ KB.1)
          (first
            | (go_at_call 22; (with_reducible refine (check_ok _ _ _ _ r 400 _ Ir.out Sr.out).mono ?_); rintro e X ⟨rfl, bX⟩; (try unfold ratV); have KB := And.intro (KB.1.keep bX) (below_more KB.2 (Nat.le_refl _) bX); have KE := RdQ.keep bX KE)
            | (go_at_call 24; (first | (with_reducible refine (iof_any 0 _ (by omega) (by omega)).mono ?_) | (with_reducible refine (iof_any 1 _ (by omega) (by omega)).mono ?_)); rintro e X ⟨rfl, bX⟩; (try unfold ratV); have KB := And.intro (KB.1.keep bX) (below_more KB.2 (Nat.le_refl _) bX); have KE := RdQ.keep bX KE)
            | (go_at_call 23; (with_reducible refine (icmp_eq Jrd.out J0.out Ed.out).mono ?_); rintro e X ⟨rfl, bX⟩; (try unfold ratV); have KB := And.intro (KB.1.keep bX) (below_more KB.2 (Nat.le_refl _) bX); have KE := RdQ.keep bX KE)
            | (go_at_call 25; (with_reducible refine (gcd_eq Jrn.out Jrd.out Eg1.out).mono ?_); rintro e X ⟨rfl, bX⟩; (try unfold ratV); have KB := And.intro (KB.1.keep bX) (below_more KB.2 (Nat.le_refl _) bX); have KE := RdQ.keep bX KE))
        all_goals
          go_wp2
          go_roundg g
          case measure => omega
          case rel => exact ⟨by have := HI.out.2; omega, by rw [← HI.out.1]; rfl, KB.1.tail, KE, KB.2⟩
end Go.Proofs.YtabmhckgdncjlaaGreatDoor

namespace Go.Proofs.YtabmhckgdncjlaaGreatDoor.rationalCanonical
open Go.ChangeShapes Go.WideShapes Go.ChangeAt Go.RowKit
open Go.ChangeMaps (open_string shut_string)
set_option maxRecDepth 100000
set_option linter.unusedVariables false

theorem contract (H : Type) (enc : TypeId × Value → H) (W : World) (base : Nat) (args : Array Value) (ds gs : List (DataW H)) (before : List MemPlace)
    (hval : ∀ (j : Nat) t v, Tryz.f6.params[j]? = some t → args[j]? = some v → Value.okWide Tryz.prog W .any base t v)
    (hW : DataW.Whole enc Tryz.prog Tryz.f6.params.toList Rows.rationalCanonicalSpec.vars false W args.toList ds gs before) (hL : laidMetH Tryz.prog Rows.rationalCanonicalRow.laid W) (hS : W.ShapedOpen Tryz.prog) :
    Calls Tryz.prog 6 args W fun e W' => ∃ v, e = .returned v ∧ Rows.rationalCanonicalSpec.post enc Tryz.prog Tryz.f6 false true false false W args v W' := by
  have hW' := hW
  obtain ⟨p, q, hA0, hV, rfl, hfz, hnd⟩ := hW
  have hA : DataW.TrodAll enc Tryz.prog W 0 (fun _ => true) true Tryz.f6.params.toList args.toList ds p := hA0
  rw [Tryz.params6] at hA hval
  obtain ⟨v0, vs0, d0, ds0, p0, q0, hargs, rfl, rfl, h0, r0⟩ := trodAll_cons hA
  obtain ⟨v1, vs1, d1, ds1, p1, q1, rfl, rfl, rfl, h1, r1⟩ := trodAll_cons r0
  obtain ⟨v2, vs2, d2, ds2, p2, q2, rfl, rfl, rfl, h2, r2⟩ := trodAll_cons r1
  obtain ⟨rfl, rfl, rfl⟩ := trodAll_nil r2
  obtain rfl : args = #[v0, v1, v2] := by cases args; simp_all
  obtain ⟨rfl, rfl⟩ := trodVars_none hV
  obtain ⟨g0, s0, k0, t0, rfl, rfl, rfl, z0, y0⟩ := rat_open (hval 0 25 v0 rfl rfl) h0
  obtain ⟨g1, s1, k1, t1, rfl, rfl, rfl, z1, y1⟩ := rat_open (hval 1 25 v1 rfl rfl) h1
  obtain ⟨g2, s2, rfl, rfl, rfl, z2⟩ := int_open (hval 2 23 v2 rfl rfl) h2
  clear hA0
  simp only [List.append_nil] at hW'
  refine (canon_law g0 s0 k0 t0 g1 s1 k1 t1 g2 s2 W z0 y0 z1 y1 z2 (zero0 hS) (tabPow hL)).mono fun e W' ⟨he, hb⟩ => ?_
  subst he
  refine ⟨_, rfl, _, _, _, [], [], [], hW', ?_, ?_, ?_, hb.frame _, fun h => by cases h⟩
  · exact trodAll_cons_mk (p := []) (shut_bool Tryz.underlying4 true) trodAll_mk0
  · exact (trodAll_cons_mk (p := []) (rat_shut z0 y0) (trodAll_cons_mk (p := []) (rat_shut z1 y1) (trodAll_cons_mk (p := []) (int_shut z2) trodAll_mk0)))
  · rfl

theorem reads (os : Os) {H : Type} (enc : TypeId × Value → H) : ∃ places, DataW.whole enc Tryz.prog ((laidWorld os).forCall (fun _ _ => 0) ⟨#[], #[.agg #[.bool false, .string ⟨#[]⟩, .bool false, .string ⟨#[]⟩], .agg #[.bool false, .string ⟨#[]⟩, .bool false, .string ⟨#[]⟩], .agg #[.bool false, .string ⟨#[]⟩]], []⟩).memory Tryz.f6.params.toList Rows.rationalCanonicalSpec.vars false [.agg #[.bool false, .string ⟨#[]⟩, .bool false, .string ⟨#[]⟩], .agg #[.bool false, .string ⟨#[]⟩, .bool false, .string ⟨#[]⟩], .agg #[.bool false, .string ⟨#[]⟩]] 8 = some ([.agg [.agg [.lit (.bool false), .lit (.string [])], .agg [.lit (.bool false), .lit (.string [])]], .agg [.agg [.lit (.bool false), .lit (.string [])], .agg [.lit (.bool false), .lit (.string [])]], .agg [.lit (.bool false), .lit (.string [])]], [], places) :=
  ⟨[], by kernel_rfl⟩

theorem lifted (os : Os) (started : os.Started) (H : Type) (enc : TypeId × Value → H) (F : Stop.Interp) :
    ReturnsInHanded {} Tryz.checked os 6 .any ((OpenSpec.ofChange Rows.rationalCanonicalSpec).preRow enc Tryz.prog Tryz.f6 Rows.rationalCanonicalRow.domain false Rows.rationalCanonicalRow.laid) (((OpenSpec.ofChange Rows.rationalCanonicalSpec).at F).post enc Tryz.prog Tryz.f6 false true false false) := by
  obtain ⟨places, hx⟩ := reads os enc
  refine returnsInHanded_of_row (C := Tryz.checked) (s := OpenSpec.ofChange Rows.rationalCanonicalSpec) ownNone started (by kernel_rfl) Tryz.func6
    (witness_row_at (enc := enc) (C := Tryz.checked) false (laidWorld os) #[.agg #[.bool false, .string ⟨#[]⟩, .bool false, .string ⟨#[]⟩], .agg #[.bool false, .string ⟨#[]⟩, .bool false, .string ⟨#[]⟩], .agg #[.bool false, .string ⟨#[]⟩]] rfl (by kernel_rfl) (by kernel_rfl) (by kernel_rfl)
      (OpenSpec.preRow_of_cond 8 hx (by kernel_rfl) (fun k hk => by cases hk) (by kernel_rfl) (laid_met os _))) ?_
  intro W base args ds gs before hval hW _ _ _ hL hS _
  exact contract H enc W base args ds gs before hval hW hL hS

theorem said : Rows.RationalCanonicalSaid :=
  OpenClaim.holds_of_cond 6 Tryz.f6 rfl rfl rfl rfl rfl rfl rfl ⟨rfl, rfl, rfl, rfl, rfl⟩ rfl rfl rfl rfl rfl (by kernel_rfl) Tryz.func6 (by kernel_rfl)
    (of_decide_eq_true (by kernel_rfl)) (by unfold Func.isWrapper; first | (rw [if_pos (by decide +kernel)]; kernel_rfl) | (rw [if_neg (by decide +kernel)]; exact ⟨rfl, rfl⟩))
    (fun os started H enc _ F => by rw [OpenClaim.pre_eq_preRow]; exact lifted os started H enc F)

theorem plain (f : FuncId) (fn : Func) (hf : Tryz.pinned.checked.prog.funcNamed "groove/groovelaw02.RationalCanonical" = some f) (hfn : Tryz.pinned.checked.prog.funcs[f]? = some fn) :
    false = Tryz.pinned.checked.prog.looks [] ∧ ∀ (j : Nat) t, fn.params[j]? = some t → Tryz.pinned.checked.prog.wantsStandIn t = false := by
  obtain rfl : f = 6 := Option.some.inj ((show Tryz.prog.funcNamed "groove/groovelaw02.RationalCanonical" = some 6 by kernel_rfl).symm.trans hf) |>.symm
  obtain rfl : fn = Tryz.f6 := (Option.some.inj (Tryz.func6.symm.trans hfn)).symm
  refine ⟨by kernel_rfl, fun j t ht => ?_⟩
  rw [Tryz.params6] at ht
  have hm := Array.mem_of_getElem? ht
  have hm : t = 25 ∨ t = 25 ∨ t = 23 := by simpa using hm
  rcases hm with rfl | rfl | rfl
  · exact noStandR
  · exact noStandR
  · exact noStand.1

/-- RationalCanonical's card. -/
theorem card : Rows.RationalCanonicalCardSaid :=
  Claim7.holds_tied_plain_at .later [] _ _ _ _ said (fun _ h => by cases h) (by kernel_rfl) (fun _ h => by cases h) rationalCanonical_row_tie rfl ⟨rfl, rfl⟩ (by kernel_rfl) rfl plain (by kernel_rfl)
end Go.Proofs.YtabmhckgdncjlaaGreatDoor.rationalCanonical
