/- What RationalField returns: true. Conditions: its table, and block 0. RationalField returns true for every input: the law's row, and its card, tied to the program's text. Conditions: those of the row: its tables read as listed (the card ties them to the program's text). -/
import Derived.Test.YtabmhckgdncjlaaGreatDoorQ38
import Derived.Test.YtabmhckgdncjlaaGreatDoorQ40

namespace Go.Proofs.YtabmhckgdncjlaaGreatDoor
open Go.RowKit
set_option linter.unusedSimpArgs false
set_option linter.unusedVariables false
attribute [local go_sem ↓] eqlInt guardInt2 eqlRat guardRat2

theorem field_e {a b s : Rat} (h : a - b = s) : s + b = a := by rw [← h]; grind
theorem field_g {a g z : Rat} (h : -a = g) (hz : Rat.divInt 0 1 = z) : a + g = z := by rw [← h, ← hz, show Rat.divInt 0 1 = (0 : Rat) by decide]; grind
theorem field_0 {a z : Rat} (hz : Rat.divInt 0 1 = z) : a + z = a := by rw [← hz, show Rat.divInt 0 1 = (0 : Rat) by decide]; grind
theorem field_1 {a o : Rat} (ho : Rat.divInt 1 1 = o) : a * o = a := by rw [← ho, show Rat.divInt 1 1 = (1 : Rat) by decide]; grind
theorem field_q {a b q : Rat} (hb : b ≠ 0) (h : a / b = q) : q * b = a := by rw [← h]; exact Rat.div_mul_cancel hb
theorem ratBd_quo {p q r : Rat} {k : Nat} (h1 : RatBd p k) (h2 : RatBd q k) (e : p / q = r) : RatBd r (k + k + 1) := by
  subst e
  have e : p / q = Rat.divInt (p.num * (q.den : Int)) ((p.den : Int) * q.num) := by rw [divInt_quot, Rat.num_divInt_den, Rat.num_divInt_den]
  rw [e]
  refine ratBd_divInt ?_ ?_
  · rw [Int.natAbs_mul]; exact prod_bound h1.1 h2.2
  · rw [Int.natAbs_mul]; exact prod_bound h1.2 h2.1

set_option maxRecDepth 100000 in
set_option maxHeartbeats 12800000 in
theorem field_law (na : Bool) (sa : ByteArray) (ma : Bool) (ta : ByteArray) (nb : Bool) (sb : ByteArray) (mb : Bool) (tb : ByteArray) (nc : Bool) (sc : ByteArray) (mc : Bool) (tc : ByteArray) (w : World) (hsa : sa.size ≤ 9223372036854775807) (hta : ta.size ≤ 9223372036854775807) (hsb : sb.size ≤ 9223372036854775807) (htb : tb.size ≤ 9223372036854775807) (hsc : sc.size ≤ 9223372036854775807) (htc : tc.size ≤ 9223372036854775807) (h0 : Zero0 w) (htab : Lib.TabIs Tryz.prog w "internal/strconv.uint64pow10" .u64 Lib.pow10Tab) :
    Calls Tryz.prog 3 #[.agg #[.bool na, .string sa, .bool ma, .string ta], .agg #[.bool nb, .string sb, .bool mb, .string tb], .agg #[.bool nc, .string sc, .bool mc, .string tc]] w fun e w' => e = .returned (.bool true) ∧ Below w.heap.size w w' := by
  have H0 := Lib.hid h0
  have Ht := Lib.hid htab
  clear h0 htab
  go_enter Tryz.func3, Tryz.ntmps3
  go_wp2_with fail
  refine (greatR_any (w.heap.size + 1 + 1 + 1) 3 3 (sel [na, nb, nc] false) (sel [sa, sb, sc] ⟨#[]⟩) (sel [ma, mb, mc] false) (sel [ta, tb, tc] ⟨#[]⟩) _ ?_ (by omega) ?_).mono ?_
  · intro i hi
    have : i = 0 ∨ i = 1 ∨ i = 2 := by omega
    rcases this with rfl | rfl | rfl <;> (refine ⟨?_, ?_, ?_, ?_⟩ <;> simp [go_sem, sel])
  · intro i hi
    have : i = 0 ∨ i = 1 ∨ i = 2 := by omega
    rcases this with rfl | rfl | rfl
    · exact ⟨hsa, hta⟩
    · exact ⟨hsb, htb⟩
    · exact ⟨hsc, htc⟩
  rintro e W0 ⟨rfl, b0⟩
  rw [great3R]
  have K : Vars [(w.heap.size, [.bool na, .string sa, .bool ma, .string ta]), (w.heap.size + 1, [.bool nb, .string sb, .bool mb, .string tb]), (w.heap.size + 1 + 1, [.bool nc, .string sc, .bool mc, .string tc])] W0 := Vars.keep b0 (Vars.cons (four_cells (by simp [go_sem]) (by simp [go_sem]) (by simp [go_sem]) (by simp [go_sem])) (Vars.cons (four_cells (by simp [go_sem]) (by simp [go_sem]) (by simp [go_sem]) (by simp [go_sem])) (Vars.cons (four_cells (by simp [go_sem]) (by simp [go_sem]) (by simp [go_sem]) (by simp [go_sem])) (Vars.nil _))))
  have B : Below w.heap.size w W0 := below_more (below4 w _ _ _ _) (Nat.le_refl _) b0
  clear b0
  by_cases hg : ((decide (24 < sa.size) || decide (24 < ta.size)) || ((decide (24 < sb.size) || decide (24 < tb.size)) || (decide (24 < sc.size) || decide (24 < tc.size)))) = true
  · rw [hg]
    clear K
    go_wp2_with fail
    refine (awaker_any _ (H0.out.keep B) (tab_keep Ht.out B)).mono ?_
    rintro e W2 ⟨rfl, b2⟩
    go_wp2
    go_ret
    exact ⟨rfl, below_more B (Nat.le_refl _) b2⟩
  rw [Bool.not_eq_true] at hg
  rw [hg]
  have h24 : (sa.size ≤ 24 ∧ ta.size ≤ 24) ∧ (sb.size ≤ 24 ∧ tb.size ≤ 24) ∧ (sc.size ≤ 24 ∧ tc.size ≤ 24) := by simpa using hg
  have Aa := Lib.hid (arg_rat (na := na) (nb := ma) h24.1.1 h24.1.2)
  have Ab := Lib.hid (arg_rat (na := nb) (nb := mb) h24.2.1.1 h24.2.1.2)
  have Ac := Lib.hid (arg_rat (na := nc) (nb := mc) h24.2.2.1 h24.2.2.2)
  clear h24 hg hsa hta hsb htb hsc htc
  generalize Rat.divInt (zv na sa) (zv ma ta) = qa at *
  generalize Rat.divInt (zv nb sb) (zv mb tb) = qb at *
  generalize Rat.divInt (zv nc sc) (zv mc tc) = qc at *
  have Da := Lib.hid Aa.out.bd
  have Ia := Lib.hid (IsRat.wider Aa.out (show 15 ≤ 400 by omega) (by omega))
  have Db := Lib.hid Ab.out.bd
  have Ib := Lib.hid (IsRat.wider Ab.out (show 15 ≤ 400 by omega) (by omega))
  have Dc := Lib.hid Ac.out.bd
  have Ic := Lib.hid (IsRat.wider Ac.out (show 15 ≤ 400 by omega) (by omega))
  obtain ⟨qz, Ez⟩ : ∃ r, Hid (Rat.divInt 0 1 = r) := ⟨_, Lib.hid rfl⟩
  have Dz := Lib.hid (show RatBd qz 1 by rw [← Ez.out]; constructor <;> decide)
  have Iz := Lib.hid (rat_is Dz.out 400 (by omega) (by omega))
  obtain ⟨qo, Eo⟩ : ∃ r, Hid (Rat.divInt 1 1 = r) := ⟨_, Lib.hid rfl⟩
  have Do := Lib.hid (show RatBd qo 1 by rw [← Eo.out]; constructor <;> decide)
  have Io := Lib.hid (rat_is Do.out 400 (by omega) (by omega))
  obtain ⟨qs, Es⟩ : ∃ r, Hid (qa + qb = r) := ⟨_, Lib.hid rfl⟩
  have Ds := Lib.hid (rbd_add Da.out Db.out Es.out)
  have Is := Lib.hid (rat_is Ds.out 400 (by omega) (by omega))
  have Es' := Lib.hid (show qb + qa = qs by rw [Rat.add_comm]; exact Es.out)
  obtain ⟨qp, Ep⟩ : ∃ r, Hid (qa * qb = r) := ⟨_, Lib.hid rfl⟩
  have Dp := Lib.hid (rbd_mul Da.out Db.out Ep.out)
  have Ip := Lib.hid (rat_is Dp.out 400 (by omega) (by omega))
  have Ep' := Lib.hid (show qb * qa = qp by rw [Rat.mul_comm]; exact Ep.out)
  obtain ⟨qt, Et⟩ : ∃ r, Hid (qs + qc = r) := ⟨_, Lib.hid rfl⟩
  have Dt := Lib.hid (rbd_add Ds.out Dc.out Et.out)
  have It := Lib.hid (rat_is Dt.out 400 (by omega) (by omega))
  obtain ⟨qu, Eu⟩ : ∃ r, Hid (qb + qc = r) := ⟨_, Lib.hid rfl⟩
  have Du := Lib.hid (rbd_add Db.out Dc.out Eu.out)
  have Iu := Lib.hid (rat_is Du.out 400 (by omega) (by omega))
  have Et' := Lib.hid (show qa + qu = qt by rw [← Et.out, ← Es.out, ← Eu.out, Rat.add_assoc])
  obtain ⟨ql, El⟩ : ∃ r, Hid (qp * qc = r) := ⟨_, Lib.hid rfl⟩
  have Dl := Lib.hid (rbd_mul Dp.out Dc.out El.out)
  have Il := Lib.hid (rat_is Dl.out 400 (by omega) (by omega))
  obtain ⟨qm, Em⟩ : ∃ r, Hid (qb * qc = r) := ⟨_, Lib.hid rfl⟩
  have Dm := Lib.hid (rbd_mul Db.out Dc.out Em.out)
  have Im := Lib.hid (rat_is Dm.out 400 (by omega) (by omega))
  have El' := Lib.hid (show qa * qm = ql by rw [← El.out, ← Ep.out, ← Em.out, Rat.mul_assoc])
  obtain ⟨qd, Ed⟩ : ∃ r, Hid (qa * qu = r) := ⟨_, Lib.hid rfl⟩
  have Dd := Lib.hid (rbd_mul Da.out Du.out Ed.out)
  have Id := Lib.hid (rat_is Dd.out 400 (by omega) (by omega))
  obtain ⟨qn, En⟩ : ∃ r, Hid (qa * qc = r) := ⟨_, Lib.hid rfl⟩
  have Dn := Lib.hid (rbd_mul Da.out Dc.out En.out)
  have In := Lib.hid (rat_is Dn.out 400 (by omega) (by omega))
  have Ed' := Lib.hid (show qp + qn = qd by rw [← Ed.out, ← Ep.out, ← En.out, ← Eu.out, Rat.mul_add])
  obtain ⟨qe, Ee⟩ : ∃ r, Hid (qa - qb = r) := ⟨_, Lib.hid rfl⟩
  have De := Lib.hid (rbd_sub Da.out Db.out Ee.out)
  have Ie := Lib.hid (rat_is De.out 400 (by omega) (by omega))
  have Ee' := Lib.hid (show qe + qb = qa by exact field_e Ee.out)
  obtain ⟨qg, Eg⟩ : ∃ r, Hid (-qa = r) := ⟨_, Lib.hid rfl⟩
  have Dg := Lib.hid (rbd_neg Da.out Eg.out)
  have Ig := Lib.hid (rat_is Dg.out 400 (by omega) (by omega))
  have Eg' := Lib.hid (show qa + qg = qz by exact field_g Eg.out Ez.out)
  have E0 := Lib.hid (show qa + qz = qa by exact field_0 Ez.out)
  have E1 := Lib.hid (show qa * qo = qa by exact field_1 Eo.out)
  have Ss := sameR_self (sg qs.num) (sg (qs.den : Int)) (mg qs.num) (mg (qs.den : Int))
  have Sp := sameR_self (sg qp.num) (sg (qp.den : Int)) (mg qp.num) (mg (qp.den : Int))
  have St := sameR_self (sg qt.num) (sg (qt.den : Int)) (mg qt.num) (mg (qt.den : Int))
  have Sl := sameR_self (sg ql.num) (sg (ql.den : Int)) (mg ql.num) (mg (ql.den : Int))
  have Sd := sameR_self (sg qd.num) (sg (qd.den : Int)) (mg qd.num) (mg (qd.den : Int))
  have Sa := sameR_self (sg qa.num) (sg (qa.den : Int)) (mg qa.num) (mg (qa.den : Int))
  have Sz := sameR_self (sg qz.num) (sg (qz.den : Int)) (mg qz.num) (mg (qz.den : Int))
  go_upto_region 4 with fail
  go_cut [9] (fun s9 wx => ∃ p9 : Nat, s9 = .pointer (some ⟨p9, 0, none⟩) ∧ Vars ((p9, [.bool (sg qa.num), .string (mg qa.num), .bool (sg (qa.den : Int)), .string (mg (qa.den : Int))]) :: [(w.heap.size, [.bool na, .string sa, .bool ma, .string ta]), (w.heap.size + 1, [.bool nb, .string sb, .bool mb, .string tb]), (w.heap.size + 1 + 1, [.bool nc, .string sc, .bool mc, .string tc])]) wx ∧ Below w.heap.size w wx)
  case first =>
    obtain ⟨t1, t2, t3, t4, t5, t6, t7, t8, t9, t10, t11, t12⟩ : W0.cell? ⟨w.heap.size, 0, none⟩ = some (.bool na) ∧ W0.cell? ⟨w.heap.size, 1, none⟩ = some (.string sa) ∧ W0.cell? ⟨w.heap.size, 2, none⟩ = some (.bool ma) ∧ W0.cell? ⟨w.heap.size, 3, none⟩ = some (.string ta) ∧ W0.cell? ⟨w.heap.size + 1, 0, none⟩ = some (.bool nb) ∧ W0.cell? ⟨w.heap.size + 1, 1, none⟩ = some (.string sb) ∧ W0.cell? ⟨w.heap.size + 1, 2, none⟩ = some (.bool mb) ∧ W0.cell? ⟨w.heap.size + 1, 3, none⟩ = some (.string tb) ∧ W0.cell? ⟨w.heap.size + 1 + 1, 0, none⟩ = some (.bool nc) ∧ W0.cell? ⟨w.heap.size + 1 + 1, 1, none⟩ = some (.string sc) ∧ W0.cell? ⟨w.heap.size + 1 + 1, 2, none⟩ = some (.bool mc) ∧ W0.cell? ⟨w.heap.size + 1 + 1, 3, none⟩ = some (.string tc) := ⟨K.at 0 0 rfl, K.at 0 1 rfl, K.at 0 2 rfl, K.at 0 3 rfl, K.at 1 0 rfl, K.at 1 1 rfl, K.at 1 2 rfl, K.at 1 3 rfl, K.at 2 0 rfl, K.at 2 1 rfl, K.at 2 2 rfl, K.at 2 3 rfl⟩
    have hW := K.at 0 0 rfl
    clear hW
    have KB := And.intro K B
    have FL := Lib.hid (show ∀ W, Vars [(w.heap.size, [.bool na, .string sa, .bool ma, .string ta]), (w.heap.size + 1, [.bool nb, .string sb, .bool mb, .string tb]), (w.heap.size + 1 + 1, [.bool nc, .string sc, .bool mc, .string tc])] W → (W.cell? ⟨w.heap.size, 0, none⟩ = some (.bool na) ∧ W.cell? ⟨w.heap.size, 1, none⟩ = some (.string sa) ∧ W.cell? ⟨w.heap.size, 2, none⟩ = some (.bool ma) ∧ W.cell? ⟨w.heap.size, 3, none⟩ = some (.string ta) ∧ W.cell? ⟨w.heap.size + 1, 0, none⟩ = some (.bool nb) ∧ W.cell? ⟨w.heap.size + 1, 1, none⟩ = some (.string sb) ∧ W.cell? ⟨w.heap.size + 1, 2, none⟩ = some (.bool mb) ∧ W.cell? ⟨w.heap.size + 1, 3, none⟩ = some (.string tb) ∧ W.cell? ⟨w.heap.size + 1 + 1, 0, none⟩ = some (.bool nc) ∧ W.cell? ⟨w.heap.size + 1 + 1, 1, none⟩ = some (.string sc) ∧ W.cell? ⟨w.heap.size + 1 + 1, 2, none⟩ = some (.bool mc) ∧ W.cell? ⟨w.heap.size + 1 + 1, 3, none⟩ = some (.string tc)) from fun W h => ⟨h.at 0 0 rfl, h.at 0 1 rfl, h.at 0 2 rfl, h.at 0 3 rfl, h.at 1 0 rfl, h.at 1 1 rfl, h.at 1 2 rfl, h.at 1 3 rfl, h.at 2 0 rfl, h.at 2 1 rfl, h.at 2 2 rfl, h.at 2 3 rfl⟩)
    go_region_held3 (fun W => W.cell? ⟨w.heap.size, 0, none⟩ = some (.bool na) ∧ W.cell? ⟨w.heap.size, 1, none⟩ = some (.string sa) ∧ W.cell? ⟨w.heap.size, 2, none⟩ = some (.bool ma) ∧ W.cell? ⟨w.heap.size, 3, none⟩ = some (.string ta) ∧ W.cell? ⟨w.heap.size + 1, 0, none⟩ = some (.bool nb) ∧ W.cell? ⟨w.heap.size + 1, 1, none⟩ = some (.string sb) ∧ W.cell? ⟨w.heap.size + 1, 2, none⟩ = some (.bool mb) ∧ W.cell? ⟨w.heap.size + 1, 3, none⟩ = some (.string tb) ∧ W.cell? ⟨w.heap.size + 1 + 1, 0, none⟩ = some (.bool nc) ∧ W.cell? ⟨w.heap.size + 1 + 1, 1, none⟩ = some (.string sc) ∧ W.cell? ⟨w.heap.size + 1 + 1, 2, none⟩ = some (.bool mc) ∧ W.cell? ⟨w.heap.size + 1 + 1, 3, none⟩ = some (.string tc))
      (first | (with_reducible exact FL.out _ KB.1) | (with_reducible exact FL.out _ (Vars.drew KB.1)) | (with_reducible exact FL.out _ (Vars.alloc KB.1 _)) | (with_reducible exact FL.out _ (Vars.drew (Vars.alloc KB.1 _))) | (with_reducible exact FL.out _ (Vars.set4 KB.1 KR.2.1 _ _ _ _)) | go_keep)
      (first
        | (go_at_call 14; (with_reducible refine (lratio_any 0 1 qz _ (by omega) (by omega) (by omega) (by omega) (by omega) Ez.out).mono ?_); rintro e X ⟨rfl, bX⟩; (try unfold ratV); (first | (with_reducible have KR := And.intro (ResRat.keep KR.1 bX) KR.2) | have KR := And.intro (ResRat.keep (ResRat.new _) bX) (And.intro (KB.1.far (Nat.le_refl _)) KB.2.size) | have KR := And.intro (ResRat.keep (ResRat.drew (ResRat.new _)) bX) (And.intro (KB.1.far (Nat.le_refl _)) KB.2.size) | skip); (try obtain ⟨⟨⟨r1, r2, r3, r4⟩, r5, r6, r7, r8⟩, _⟩ := id KR); (first | (with_reducible have KB := And.intro (KB.1.keep bX) (below_more KB.2 (Nat.le_refl _) bX)) | have KB := And.intro ((Vars.drew KB.1).keep bX) (below_more (Below.drew KB.2) (Nat.le_refl _) bX) | have KB := And.intro ((KB.1.alloc _).keep bX) (below_more (below_al KB.2 _) (Nat.le_refl _) bX) | have KB := And.intro ((Vars.drew (KB.1.alloc _)).keep bX) (below_more (Below.drew (below_al KB.2 _)) (Nat.le_refl _) bX)))
        | (go_at_call 12; (with_reducible refine (radd_any _ _ qa qz qa 400 _ Ia.out Iz.out (by omega) E0.out).mono ?_); rintro e X ⟨rfl, bX⟩; (try unfold ratV); (first | (with_reducible have KR := And.intro (ResRat.keep KR.1 bX) KR.2) | have KR := And.intro (ResRat.keep (ResRat.new _) bX) (And.intro (KB.1.far (Nat.le_refl _)) KB.2.size) | have KR := And.intro (ResRat.keep (ResRat.drew (ResRat.new _)) bX) (And.intro (KB.1.far (Nat.le_refl _)) KB.2.size) | skip); (try obtain ⟨⟨⟨r1, r2, r3, r4⟩, r5, r6, r7, r8⟩, _⟩ := id KR); (first | (with_reducible have KB := And.intro (KB.1.keep bX) (below_more KB.2 (Nat.le_refl _) bX)) | have KB := And.intro ((Vars.drew KB.1).keep bX) (below_more (Below.drew KB.2) (Nat.le_refl _) bX) | have KB := And.intro ((KB.1.alloc _).keep bX) (below_more (below_al KB.2 _) (Nat.le_refl _) bX) | have KB := And.intro ((Vars.drew (KB.1.alloc _)).keep bX) (below_more (Below.drew (below_al KB.2 _)) (Nat.le_refl _) bX))))
    all_goals go_wp2_with fail
    all_goals go_meet
    all_goals refine ⟨_, rfl, ?_, ?_⟩
    all_goals first | exact Vars.stored (Vars.cons (four_cells r1 r2 r3 r4) KB.1) KR.2.1 _ _ _ _ | exact Vars.new KB.1 _ _ | exact below4s KB.2 _ KR.2.2 _ _ _ _ | exact below_al KB.2 _
  case rest =>
    obtain ⟨p9, rfl, K9, B9⟩ := hcut
    clear K B
    have K := K9
    have B := B9
    clear K9 B9
    go_upto_region 5 with fail
    go_cut [10] (fun s10 wx => s10 = .bool true ∧ Vars [(p9, [.bool (sg qa.num), .string (mg qa.num), .bool (sg (qa.den : Int)), .string (mg (qa.den : Int))]), (w.heap.size, [.bool na, .string sa, .bool ma, .string ta]), (w.heap.size + 1, [.bool nb, .string sb, .bool mb, .string tb]), (w.heap.size + 1 + 1, [.bool nc, .string sc, .bool mc, .string tc])] wx ∧ Below w.heap.size w wx)
    case first =>
      obtain ⟨t1, t2, t3, t4, t5, t6, t7, t8, t9, t10, t11, t12, t13, t14, t15, t16⟩ : wc.cell? ⟨p9, 0, none⟩ = some (.bool (sg qa.num)) ∧ wc.cell? ⟨p9, 1, none⟩ = some (.string (mg qa.num)) ∧ wc.cell? ⟨p9, 2, none⟩ = some (.bool (sg (qa.den : Int))) ∧ wc.cell? ⟨p9, 3, none⟩ = some (.string (mg (qa.den : Int))) ∧ wc.cell? ⟨w.heap.size, 0, none⟩ = some (.bool na) ∧ wc.cell? ⟨w.heap.size, 1, none⟩ = some (.string sa) ∧ wc.cell? ⟨w.heap.size, 2, none⟩ = some (.bool ma) ∧ wc.cell? ⟨w.heap.size, 3, none⟩ = some (.string ta) ∧ wc.cell? ⟨w.heap.size + 1, 0, none⟩ = some (.bool nb) ∧ wc.cell? ⟨w.heap.size + 1, 1, none⟩ = some (.string sb) ∧ wc.cell? ⟨w.heap.size + 1, 2, none⟩ = some (.bool mb) ∧ wc.cell? ⟨w.heap.size + 1, 3, none⟩ = some (.string tb) ∧ wc.cell? ⟨w.heap.size + 1 + 1, 0, none⟩ = some (.bool nc) ∧ wc.cell? ⟨w.heap.size + 1 + 1, 1, none⟩ = some (.string sc) ∧ wc.cell? ⟨w.heap.size + 1 + 1, 2, none⟩ = some (.bool mc) ∧ wc.cell? ⟨w.heap.size + 1 + 1, 3, none⟩ = some (.string tc) := ⟨K.at 0 0 rfl, K.at 0 1 rfl, K.at 0 2 rfl, K.at 0 3 rfl, K.at 1 0 rfl, K.at 1 1 rfl, K.at 1 2 rfl, K.at 1 3 rfl, K.at 2 0 rfl, K.at 2 1 rfl, K.at 2 2 rfl, K.at 2 3 rfl, K.at 3 0 rfl, K.at 3 1 rfl, K.at 3 2 rfl, K.at 3 3 rfl⟩
      have K0 : Vars [(p9, [.bool (sg qa.num), .string (mg qa.num), .bool (sg (qa.den : Int)), .string (mg (qa.den : Int))]), (w.heap.size, [.bool na, .string sa, .bool ma, .string ta]), (w.heap.size + 1, [.bool nb, .string sb, .bool mb, .string tb]), (w.heap.size + 1 + 1, [.bool nc, .string sc, .bool mc, .string tc])] wc.drew := K
      have B0 := B.drew
      have KB := And.intro K0 B0
      clear K0 B0
      have FL := Lib.hid (show ∀ W, Vars [(p9, [.bool (sg qa.num), .string (mg qa.num), .bool (sg (qa.den : Int)), .string (mg (qa.den : Int))]), (w.heap.size, [.bool na, .string sa, .bool ma, .string ta]), (w.heap.size + 1, [.bool nb, .string sb, .bool mb, .string tb]), (w.heap.size + 1 + 1, [.bool nc, .string sc, .bool mc, .string tc])] W → (W.cell? ⟨p9, 0, none⟩ = some (.bool (sg qa.num)) ∧ W.cell? ⟨p9, 1, none⟩ = some (.string (mg qa.num)) ∧ W.cell? ⟨p9, 2, none⟩ = some (.bool (sg (qa.den : Int))) ∧ W.cell? ⟨p9, 3, none⟩ = some (.string (mg (qa.den : Int))) ∧ W.cell? ⟨w.heap.size, 0, none⟩ = some (.bool na) ∧ W.cell? ⟨w.heap.size, 1, none⟩ = some (.string sa) ∧ W.cell? ⟨w.heap.size, 2, none⟩ = some (.bool ma) ∧ W.cell? ⟨w.heap.size, 3, none⟩ = some (.string ta) ∧ W.cell? ⟨w.heap.size + 1, 0, none⟩ = some (.bool nb) ∧ W.cell? ⟨w.heap.size + 1, 1, none⟩ = some (.string sb) ∧ W.cell? ⟨w.heap.size + 1, 2, none⟩ = some (.bool mb) ∧ W.cell? ⟨w.heap.size + 1, 3, none⟩ = some (.string tb) ∧ W.cell? ⟨w.heap.size + 1 + 1, 0, none⟩ = some (.bool nc) ∧ W.cell? ⟨w.heap.size + 1 + 1, 1, none⟩ = some (.string sc) ∧ W.cell? ⟨w.heap.size + 1 + 1, 2, none⟩ = some (.bool mc) ∧ W.cell? ⟨w.heap.size + 1 + 1, 3, none⟩ = some (.string tc)) from fun W h => ⟨h.at 0 0 rfl, h.at 0 1 rfl, h.at 0 2 rfl, h.at 0 3 rfl, h.at 1 0 rfl, h.at 1 1 rfl, h.at 1 2 rfl, h.at 1 3 rfl, h.at 2 0 rfl, h.at 2 1 rfl, h.at 2 2 rfl, h.at 2 3 rfl, h.at 3 0 rfl, h.at 3 1 rfl, h.at 3 2 rfl, h.at 3 3 rfl⟩)
      go_region_held3 (fun W => W.cell? ⟨p9, 0, none⟩ = some (.bool (sg qa.num)) ∧ W.cell? ⟨p9, 1, none⟩ = some (.string (mg qa.num)) ∧ W.cell? ⟨p9, 2, none⟩ = some (.bool (sg (qa.den : Int))) ∧ W.cell? ⟨p9, 3, none⟩ = some (.string (mg (qa.den : Int))) ∧ W.cell? ⟨w.heap.size, 0, none⟩ = some (.bool na) ∧ W.cell? ⟨w.heap.size, 1, none⟩ = some (.string sa) ∧ W.cell? ⟨w.heap.size, 2, none⟩ = some (.bool ma) ∧ W.cell? ⟨w.heap.size, 3, none⟩ = some (.string ta) ∧ W.cell? ⟨w.heap.size + 1, 0, none⟩ = some (.bool nb) ∧ W.cell? ⟨w.heap.size + 1, 1, none⟩ = some (.string sb) ∧ W.cell? ⟨w.heap.size + 1, 2, none⟩ = some (.bool mb) ∧ W.cell? ⟨w.heap.size + 1, 3, none⟩ = some (.string tb) ∧ W.cell? ⟨w.heap.size + 1 + 1, 0, none⟩ = some (.bool nc) ∧ W.cell? ⟨w.heap.size + 1 + 1, 1, none⟩ = some (.string sc) ∧ W.cell? ⟨w.heap.size + 1 + 1, 2, none⟩ = some (.bool mc) ∧ W.cell? ⟨w.heap.size + 1 + 1, 3, none⟩ = some (.string tc))
        (first | (with_reducible exact FL.out _ KB.1) | exact FL.out _ KB.1)
        (first
          | (go_at_call 12; (first | (with_reducible refine (radd_any _ _ qa qb qs 400 _ Ia.out Ib.out (by omega) Es.out).mono ?_) | (with_reducible refine (radd_any _ _ qb qa qs 400 _ Ib.out Ia.out (by omega) Es'.out).mono ?_) | (with_reducible refine (radd_any _ _ qs qc qt 400 _ Is.out Ic.out (by omega) Et.out).mono ?_) | (with_reducible refine (radd_any _ _ qb qc qu 400 _ Ib.out Ic.out (by omega) Eu.out).mono ?_) | (with_reducible refine (radd_any _ _ qa qu qt 400 _ Ia.out Iu.out (by omega) Et'.out).mono ?_)); rintro e X ⟨rfl, bX⟩; (try unfold ratV); have KB := And.intro (KB.1.keep bX) (below_more KB.2 (Nat.le_refl _) bX))
          | (go_at_call 13; (first | (with_reducible refine (rmul_any _ _ qa qb qp 400 _ Ia.out Ib.out (by omega) Ep.out).mono ?_) | (with_reducible refine (rmul_any _ _ qb qa qp 400 _ Ib.out Ia.out (by omega) Ep'.out).mono ?_) | (with_reducible refine (rmul_any _ _ qp qc ql 400 _ Ip.out Ic.out (by omega) El.out).mono ?_) | (with_reducible refine (rmul_any _ _ qb qc qm 400 _ Ib.out Ic.out (by omega) Em.out).mono ?_) | (with_reducible refine (rmul_any _ _ qa qm ql 400 _ Ia.out Im.out (by omega) El'.out).mono ?_)); rintro e X ⟨rfl, bX⟩; (try unfold ratV); have KB := And.intro (KB.1.keep bX) (below_more KB.2 (Nat.le_refl _) bX)))
      all_goals go_wp2_with fail
      all_goals go_meet
      all_goals exact ⟨rfl, KB.1, KB.2⟩
    case rest =>
      obtain ⟨rfl, K9, B9⟩ := hcut
      clear K B
      have K := K9
      have B := B9
      clear K9 B9
      go_upto_region 6 with fail
      go_cut [10] (fun s10 wx => s10 = .bool true ∧ Vars [(p9, [.bool (sg qa.num), .string (mg qa.num), .bool (sg (qa.den : Int)), .string (mg (qa.den : Int))]), (w.heap.size, [.bool na, .string sa, .bool ma, .string ta]), (w.heap.size + 1, [.bool nb, .string sb, .bool mb, .string tb]), (w.heap.size + 1 + 1, [.bool nc, .string sc, .bool mc, .string tc])] wx ∧ Below w.heap.size w wx)
      case first =>
        obtain ⟨t1, t2, t3, t4, t5, t6, t7, t8, t9, t10, t11, t12, t13, t14, t15, t16⟩ : wc.cell? ⟨p9, 0, none⟩ = some (.bool (sg qa.num)) ∧ wc.cell? ⟨p9, 1, none⟩ = some (.string (mg qa.num)) ∧ wc.cell? ⟨p9, 2, none⟩ = some (.bool (sg (qa.den : Int))) ∧ wc.cell? ⟨p9, 3, none⟩ = some (.string (mg (qa.den : Int))) ∧ wc.cell? ⟨w.heap.size, 0, none⟩ = some (.bool na) ∧ wc.cell? ⟨w.heap.size, 1, none⟩ = some (.string sa) ∧ wc.cell? ⟨w.heap.size, 2, none⟩ = some (.bool ma) ∧ wc.cell? ⟨w.heap.size, 3, none⟩ = some (.string ta) ∧ wc.cell? ⟨w.heap.size + 1, 0, none⟩ = some (.bool nb) ∧ wc.cell? ⟨w.heap.size + 1, 1, none⟩ = some (.string sb) ∧ wc.cell? ⟨w.heap.size + 1, 2, none⟩ = some (.bool mb) ∧ wc.cell? ⟨w.heap.size + 1, 3, none⟩ = some (.string tb) ∧ wc.cell? ⟨w.heap.size + 1 + 1, 0, none⟩ = some (.bool nc) ∧ wc.cell? ⟨w.heap.size + 1 + 1, 1, none⟩ = some (.string sc) ∧ wc.cell? ⟨w.heap.size + 1 + 1, 2, none⟩ = some (.bool mc) ∧ wc.cell? ⟨w.heap.size + 1 + 1, 3, none⟩ = some (.string tc) := ⟨K.at 0 0 rfl, K.at 0 1 rfl, K.at 0 2 rfl, K.at 0 3 rfl, K.at 1 0 rfl, K.at 1 1 rfl, K.at 1 2 rfl, K.at 1 3 rfl, K.at 2 0 rfl, K.at 2 1 rfl, K.at 2 2 rfl, K.at 2 3 rfl, K.at 3 0 rfl, K.at 3 1 rfl, K.at 3 2 rfl, K.at 3 3 rfl⟩
        have K0 : Vars [(p9, [.bool (sg qa.num), .string (mg qa.num), .bool (sg (qa.den : Int)), .string (mg (qa.den : Int))]), (w.heap.size, [.bool na, .string sa, .bool ma, .string ta]), (w.heap.size + 1, [.bool nb, .string sb, .bool mb, .string tb]), (w.heap.size + 1 + 1, [.bool nc, .string sc, .bool mc, .string tc])] wc.drew := K
        have B0 := B.drew
        have KB := And.intro K0 B0
        clear K0 B0
        have FL := Lib.hid (show ∀ W, Vars [(p9, [.bool (sg qa.num), .string (mg qa.num), .bool (sg (qa.den : Int)), .string (mg (qa.den : Int))]), (w.heap.size, [.bool na, .string sa, .bool ma, .string ta]), (w.heap.size + 1, [.bool nb, .string sb, .bool mb, .string tb]), (w.heap.size + 1 + 1, [.bool nc, .string sc, .bool mc, .string tc])] W → (W.cell? ⟨p9, 0, none⟩ = some (.bool (sg qa.num)) ∧ W.cell? ⟨p9, 1, none⟩ = some (.string (mg qa.num)) ∧ W.cell? ⟨p9, 2, none⟩ = some (.bool (sg (qa.den : Int))) ∧ W.cell? ⟨p9, 3, none⟩ = some (.string (mg (qa.den : Int))) ∧ W.cell? ⟨w.heap.size, 0, none⟩ = some (.bool na) ∧ W.cell? ⟨w.heap.size, 1, none⟩ = some (.string sa) ∧ W.cell? ⟨w.heap.size, 2, none⟩ = some (.bool ma) ∧ W.cell? ⟨w.heap.size, 3, none⟩ = some (.string ta) ∧ W.cell? ⟨w.heap.size + 1, 0, none⟩ = some (.bool nb) ∧ W.cell? ⟨w.heap.size + 1, 1, none⟩ = some (.string sb) ∧ W.cell? ⟨w.heap.size + 1, 2, none⟩ = some (.bool mb) ∧ W.cell? ⟨w.heap.size + 1, 3, none⟩ = some (.string tb) ∧ W.cell? ⟨w.heap.size + 1 + 1, 0, none⟩ = some (.bool nc) ∧ W.cell? ⟨w.heap.size + 1 + 1, 1, none⟩ = some (.string sc) ∧ W.cell? ⟨w.heap.size + 1 + 1, 2, none⟩ = some (.bool mc) ∧ W.cell? ⟨w.heap.size + 1 + 1, 3, none⟩ = some (.string tc)) from fun W h => ⟨h.at 0 0 rfl, h.at 0 1 rfl, h.at 0 2 rfl, h.at 0 3 rfl, h.at 1 0 rfl, h.at 1 1 rfl, h.at 1 2 rfl, h.at 1 3 rfl, h.at 2 0 rfl, h.at 2 1 rfl, h.at 2 2 rfl, h.at 2 3 rfl, h.at 3 0 rfl, h.at 3 1 rfl, h.at 3 2 rfl, h.at 3 3 rfl⟩)
        go_region_held3 (fun W => W.cell? ⟨p9, 0, none⟩ = some (.bool (sg qa.num)) ∧ W.cell? ⟨p9, 1, none⟩ = some (.string (mg qa.num)) ∧ W.cell? ⟨p9, 2, none⟩ = some (.bool (sg (qa.den : Int))) ∧ W.cell? ⟨p9, 3, none⟩ = some (.string (mg (qa.den : Int))) ∧ W.cell? ⟨w.heap.size, 0, none⟩ = some (.bool na) ∧ W.cell? ⟨w.heap.size, 1, none⟩ = some (.string sa) ∧ W.cell? ⟨w.heap.size, 2, none⟩ = some (.bool ma) ∧ W.cell? ⟨w.heap.size, 3, none⟩ = some (.string ta) ∧ W.cell? ⟨w.heap.size + 1, 0, none⟩ = some (.bool nb) ∧ W.cell? ⟨w.heap.size + 1, 1, none⟩ = some (.string sb) ∧ W.cell? ⟨w.heap.size + 1, 2, none⟩ = some (.bool mb) ∧ W.cell? ⟨w.heap.size + 1, 3, none⟩ = some (.string tb) ∧ W.cell? ⟨w.heap.size + 1 + 1, 0, none⟩ = some (.bool nc) ∧ W.cell? ⟨w.heap.size + 1 + 1, 1, none⟩ = some (.string sc) ∧ W.cell? ⟨w.heap.size + 1 + 1, 2, none⟩ = some (.bool mc) ∧ W.cell? ⟨w.heap.size + 1 + 1, 3, none⟩ = some (.string tc))
          (first | (with_reducible exact FL.out _ KB.1) | exact FL.out _ KB.1)
          (first
            | (go_at_call 12; (first | (with_reducible refine (radd_any _ _ qb qc qu 400 _ Ib.out Ic.out (by omega) Eu.out).mono ?_) | (with_reducible refine (radd_any _ _ qp qn qd 400 _ Ip.out In.out (by omega) Ed'.out).mono ?_) | (with_reducible refine (radd_any _ _ qe qb qa 400 _ Ie.out Ib.out (by omega) Ee'.out).mono ?_) | (with_reducible refine (radd_any _ _ qa qg qz 400 _ Ia.out Ig.out (by omega) Eg'.out).mono ?_)); rintro e X ⟨rfl, bX⟩; (try unfold ratV); have KB := And.intro (KB.1.keep bX) (below_more KB.2 (Nat.le_refl _) bX))
            | (go_at_call 13; (first | (with_reducible refine (rmul_any _ _ qa qb qp 400 _ Ia.out Ib.out (by omega) Ep.out).mono ?_) | (with_reducible refine (rmul_any _ _ qa qu qd 400 _ Ia.out Iu.out (by omega) Ed.out).mono ?_) | (with_reducible refine (rmul_any _ _ qa qc qn 400 _ Ia.out Ic.out (by omega) En.out).mono ?_) | (with_reducible refine (rmul_any _ _ qa qo qa 400 _ Ia.out Io.out (by omega) E1.out).mono ?_)); rintro e X ⟨rfl, bX⟩; (try unfold ratV); have KB := And.intro (KB.1.keep bX) (below_more KB.2 (Nat.le_refl _) bX))
            | (go_at_call 15; (with_reducible refine (rsub_any _ _ qa qb qe 400 _ Ia.out Ib.out (by omega) Ee.out).mono ?_); rintro e X ⟨rfl, bX⟩; (try unfold ratV); have KB := And.intro (KB.1.keep bX) (below_more KB.2 (Nat.le_refl _) bX))
            | (go_at_call 16; (with_reducible refine (rneg_any _ qa qg 400 _ Ia.out (by omega) Eg.out).mono ?_); rintro e X ⟨rfl, bX⟩; (try unfold ratV); have KB := And.intro (KB.1.keep bX) (below_more KB.2 (Nat.le_refl _) bX))
            | (go_at_call 14; (first | (with_reducible refine (lratio_any 0 1 qz _ (by omega) (by omega) (by omega) (by omega) (by omega) Ez.out).mono ?_) | (with_reducible refine (lratio_any 1 1 qo _ (by omega) (by omega) (by omega) (by omega) (by omega) Eo.out).mono ?_)); rintro e X ⟨rfl, bX⟩; (try unfold ratV); have KB := And.intro (KB.1.keep bX) (below_more KB.2 (Nat.le_refl _) bX)))
        all_goals go_wp2_with fail
        all_goals go_meet
        all_goals exact ⟨rfl, KB.1, KB.2⟩
      case rest =>
        obtain ⟨rfl, K9, B9⟩ := hcut
        clear K B
        have K := K9
        have B := B9
        clear K9 B9
        by_cases hb0 : qb = 0
        · have Hb0 := Lib.hid hb0
          have Ec := Lib.hid (show cmpQ qb qz = 0 by rw [hb0, ← Ez.out, show Rat.divInt 0 1 = (0 : Rat) by decide]; exact cmpQ_self _)
          clear hb0
          obtain ⟨t1, t2, t3, t4, t5, t6, t7, t8, t9, t10, t11, t12, t13, t14, t15, t16⟩ : wc.cell? ⟨p9, 0, none⟩ = some (.bool (sg qa.num)) ∧ wc.cell? ⟨p9, 1, none⟩ = some (.string (mg qa.num)) ∧ wc.cell? ⟨p9, 2, none⟩ = some (.bool (sg (qa.den : Int))) ∧ wc.cell? ⟨p9, 3, none⟩ = some (.string (mg (qa.den : Int))) ∧ wc.cell? ⟨w.heap.size, 0, none⟩ = some (.bool na) ∧ wc.cell? ⟨w.heap.size, 1, none⟩ = some (.string sa) ∧ wc.cell? ⟨w.heap.size, 2, none⟩ = some (.bool ma) ∧ wc.cell? ⟨w.heap.size, 3, none⟩ = some (.string ta) ∧ wc.cell? ⟨w.heap.size + 1, 0, none⟩ = some (.bool nb) ∧ wc.cell? ⟨w.heap.size + 1, 1, none⟩ = some (.string sb) ∧ wc.cell? ⟨w.heap.size + 1, 2, none⟩ = some (.bool mb) ∧ wc.cell? ⟨w.heap.size + 1, 3, none⟩ = some (.string tb) ∧ wc.cell? ⟨w.heap.size + 1 + 1, 0, none⟩ = some (.bool nc) ∧ wc.cell? ⟨w.heap.size + 1 + 1, 1, none⟩ = some (.string sc) ∧ wc.cell? ⟨w.heap.size + 1 + 1, 2, none⟩ = some (.bool mc) ∧ wc.cell? ⟨w.heap.size + 1 + 1, 3, none⟩ = some (.string tc) := ⟨K.at 0 0 rfl, K.at 0 1 rfl, K.at 0 2 rfl, K.at 0 3 rfl, K.at 1 0 rfl, K.at 1 1 rfl, K.at 1 2 rfl, K.at 1 3 rfl, K.at 2 0 rfl, K.at 2 1 rfl, K.at 2 2 rfl, K.at 2 3 rfl, K.at 3 0 rfl, K.at 3 1 rfl, K.at 3 2 rfl, K.at 3 3 rfl⟩
          go_wp2_with fail
          refine (rquo_none _ _ qa qb 400 _ Ia.out Ib.out (by omega) Hb0.out).mono ?_
          rintro e W1 ⟨rfl, b1⟩
          have K := K.keep b1
          have B := below_more B (Nat.le_refl _) b1
          clear b1
          clear t1 t2 t3 t4 t5 t6 t7 t8 t9 t10 t11 t12 t13 t14 t15 t16
          have hbl := below1 W1 (.cells #[.bool false, .string ⟨#[]⟩, .bool false, .string ⟨#[]⟩] 25)
          have K : Vars ((W1.heap.size, [.bool false, .string ⟨#[]⟩, .bool false, .string ⟨#[]⟩]) :: [(p9, [.bool (sg qa.num), .string (mg qa.num), .bool (sg (qa.den : Int)), .string (mg (qa.den : Int))]), (w.heap.size, [.bool na, .string sa, .bool ma, .string ta]), (w.heap.size + 1, [.bool nb, .string sb, .bool mb, .string tb]), (w.heap.size + 1 + 1, [.bool nc, .string sc, .bool mc, .string tc])]) (W1.alloc (.cells #[.bool false, .string ⟨#[]⟩, .bool false, .string ⟨#[]⟩] 25)) := Vars.new K _ _
          have B := below_more B (Nat.le_refl _) hbl
          clear hbl
          go_upto_region 8 with fail
          generalize W1.alloc (.cells #[.bool false, .string ⟨#[]⟩, .bool false, .string ⟨#[]⟩] 25) = V2 at *
          generalize W1.heap.size = p2 at *
          obtain ⟨t1, t2, t3, t4, t5, t6, t7, t8, t9, t10, t11, t12, t13, t14, t15, t16, t17, t18, t19, t20⟩ : V2.cell? ⟨p2, 0, none⟩ = some (.bool false) ∧ V2.cell? ⟨p2, 1, none⟩ = some (.string ⟨#[]⟩) ∧ V2.cell? ⟨p2, 2, none⟩ = some (.bool false) ∧ V2.cell? ⟨p2, 3, none⟩ = some (.string ⟨#[]⟩) ∧ V2.cell? ⟨p9, 0, none⟩ = some (.bool (sg qa.num)) ∧ V2.cell? ⟨p9, 1, none⟩ = some (.string (mg qa.num)) ∧ V2.cell? ⟨p9, 2, none⟩ = some (.bool (sg (qa.den : Int))) ∧ V2.cell? ⟨p9, 3, none⟩ = some (.string (mg (qa.den : Int))) ∧ V2.cell? ⟨w.heap.size, 0, none⟩ = some (.bool na) ∧ V2.cell? ⟨w.heap.size, 1, none⟩ = some (.string sa) ∧ V2.cell? ⟨w.heap.size, 2, none⟩ = some (.bool ma) ∧ V2.cell? ⟨w.heap.size, 3, none⟩ = some (.string ta) ∧ V2.cell? ⟨w.heap.size + 1, 0, none⟩ = some (.bool nb) ∧ V2.cell? ⟨w.heap.size + 1, 1, none⟩ = some (.string sb) ∧ V2.cell? ⟨w.heap.size + 1, 2, none⟩ = some (.bool mb) ∧ V2.cell? ⟨w.heap.size + 1, 3, none⟩ = some (.string tb) ∧ V2.cell? ⟨w.heap.size + 1 + 1, 0, none⟩ = some (.bool nc) ∧ V2.cell? ⟨w.heap.size + 1 + 1, 1, none⟩ = some (.string sc) ∧ V2.cell? ⟨w.heap.size + 1 + 1, 2, none⟩ = some (.bool mc) ∧ V2.cell? ⟨w.heap.size + 1 + 1, 3, none⟩ = some (.string tc) := ⟨K.at 0 0 rfl, K.at 0 1 rfl, K.at 0 2 rfl, K.at 0 3 rfl, K.at 1 0 rfl, K.at 1 1 rfl, K.at 1 2 rfl, K.at 1 3 rfl, K.at 2 0 rfl, K.at 2 1 rfl, K.at 2 2 rfl, K.at 2 3 rfl, K.at 3 0 rfl, K.at 3 1 rfl, K.at 3 2 rfl, K.at 3 3 rfl, K.at 4 0 rfl, K.at 4 1 rfl, K.at 4 2 rfl, K.at 4 3 rfl⟩
          have K0 : Vars [(p2, [.bool false, .string ⟨#[]⟩, .bool false, .string ⟨#[]⟩]), (p9, [.bool (sg qa.num), .string (mg qa.num), .bool (sg (qa.den : Int)), .string (mg (qa.den : Int))]), (w.heap.size, [.bool na, .string sa, .bool ma, .string ta]), (w.heap.size + 1, [.bool nb, .string sb, .bool mb, .string tb]), (w.heap.size + 1 + 1, [.bool nc, .string sc, .bool mc, .string tc])] V2.drew := K
          have B0 := B.drew
          have KB := And.intro K0 B0
          clear K0 B0
          have FL := Lib.hid (show ∀ W, Vars [(p2, [.bool false, .string ⟨#[]⟩, .bool false, .string ⟨#[]⟩]), (p9, [.bool (sg qa.num), .string (mg qa.num), .bool (sg (qa.den : Int)), .string (mg (qa.den : Int))]), (w.heap.size, [.bool na, .string sa, .bool ma, .string ta]), (w.heap.size + 1, [.bool nb, .string sb, .bool mb, .string tb]), (w.heap.size + 1 + 1, [.bool nc, .string sc, .bool mc, .string tc])] W → (W.cell? ⟨p2, 0, none⟩ = some (.bool false) ∧ W.cell? ⟨p2, 1, none⟩ = some (.string ⟨#[]⟩) ∧ W.cell? ⟨p2, 2, none⟩ = some (.bool false) ∧ W.cell? ⟨p2, 3, none⟩ = some (.string ⟨#[]⟩) ∧ W.cell? ⟨p9, 0, none⟩ = some (.bool (sg qa.num)) ∧ W.cell? ⟨p9, 1, none⟩ = some (.string (mg qa.num)) ∧ W.cell? ⟨p9, 2, none⟩ = some (.bool (sg (qa.den : Int))) ∧ W.cell? ⟨p9, 3, none⟩ = some (.string (mg (qa.den : Int))) ∧ W.cell? ⟨w.heap.size, 0, none⟩ = some (.bool na) ∧ W.cell? ⟨w.heap.size, 1, none⟩ = some (.string sa) ∧ W.cell? ⟨w.heap.size, 2, none⟩ = some (.bool ma) ∧ W.cell? ⟨w.heap.size, 3, none⟩ = some (.string ta) ∧ W.cell? ⟨w.heap.size + 1, 0, none⟩ = some (.bool nb) ∧ W.cell? ⟨w.heap.size + 1, 1, none⟩ = some (.string sb) ∧ W.cell? ⟨w.heap.size + 1, 2, none⟩ = some (.bool mb) ∧ W.cell? ⟨w.heap.size + 1, 3, none⟩ = some (.string tb) ∧ W.cell? ⟨w.heap.size + 1 + 1, 0, none⟩ = some (.bool nc) ∧ W.cell? ⟨w.heap.size + 1 + 1, 1, none⟩ = some (.string sc) ∧ W.cell? ⟨w.heap.size + 1 + 1, 2, none⟩ = some (.bool mc) ∧ W.cell? ⟨w.heap.size + 1 + 1, 3, none⟩ = some (.string tc)) from fun W h => ⟨h.at 0 0 rfl, h.at 0 1 rfl, h.at 0 2 rfl, h.at 0 3 rfl, h.at 1 0 rfl, h.at 1 1 rfl, h.at 1 2 rfl, h.at 1 3 rfl, h.at 2 0 rfl, h.at 2 1 rfl, h.at 2 2 rfl, h.at 2 3 rfl, h.at 3 0 rfl, h.at 3 1 rfl, h.at 3 2 rfl, h.at 3 3 rfl, h.at 4 0 rfl, h.at 4 1 rfl, h.at 4 2 rfl, h.at 4 3 rfl⟩)
          go_region_held3 (fun W => W.cell? ⟨p2, 0, none⟩ = some (.bool false) ∧ W.cell? ⟨p2, 1, none⟩ = some (.string ⟨#[]⟩) ∧ W.cell? ⟨p2, 2, none⟩ = some (.bool false) ∧ W.cell? ⟨p2, 3, none⟩ = some (.string ⟨#[]⟩) ∧ W.cell? ⟨p9, 0, none⟩ = some (.bool (sg qa.num)) ∧ W.cell? ⟨p9, 1, none⟩ = some (.string (mg qa.num)) ∧ W.cell? ⟨p9, 2, none⟩ = some (.bool (sg (qa.den : Int))) ∧ W.cell? ⟨p9, 3, none⟩ = some (.string (mg (qa.den : Int))) ∧ W.cell? ⟨w.heap.size, 0, none⟩ = some (.bool na) ∧ W.cell? ⟨w.heap.size, 1, none⟩ = some (.string sa) ∧ W.cell? ⟨w.heap.size, 2, none⟩ = some (.bool ma) ∧ W.cell? ⟨w.heap.size, 3, none⟩ = some (.string ta) ∧ W.cell? ⟨w.heap.size + 1, 0, none⟩ = some (.bool nb) ∧ W.cell? ⟨w.heap.size + 1, 1, none⟩ = some (.string sb) ∧ W.cell? ⟨w.heap.size + 1, 2, none⟩ = some (.bool mb) ∧ W.cell? ⟨w.heap.size + 1, 3, none⟩ = some (.string tb) ∧ W.cell? ⟨w.heap.size + 1 + 1, 0, none⟩ = some (.bool nc) ∧ W.cell? ⟨w.heap.size + 1 + 1, 1, none⟩ = some (.string sc) ∧ W.cell? ⟨w.heap.size + 1 + 1, 2, none⟩ = some (.bool mc) ∧ W.cell? ⟨w.heap.size + 1 + 1, 3, none⟩ = some (.string tc))
            (first | (with_reducible exact FL.out _ KB.1) | exact FL.out _ KB.1)
            (first
              | (go_at_call 14; (with_reducible refine (lratio_any 0 1 qz _ (by omega) (by omega) (by omega) (by omega) (by omega) Ez.out).mono ?_); rintro e X ⟨rfl, bX⟩; (try unfold ratV); have KB := And.intro (KB.1.keep bX) (below_more KB.2 (Nat.le_refl _) bX))
              | (go_at_call 18; (with_reducible refine (rcmp_eq Ib.out Iz.out (by omega) Ec.out).mono ?_); rintro e X ⟨rfl, bX⟩; (try unfold ratV); have KB := And.intro (KB.1.keep bX) (below_more KB.2 (Nat.le_refl _) bX)))
          all_goals go_wp2_with fail
          all_goals refine (awaker_any _ (H0.out.keep KB.2) (tab_keep Ht.out KB.2)).mono ?_
          all_goals
            rintro e W9 ⟨rfl, b9⟩
            go_wp2
            go_ret
            exact ⟨rfl, below_more KB.2 (Nat.le_refl _) b9⟩
        · obtain ⟨qk, Ek⟩ : ∃ r, Hid (qa / qb = r) := ⟨_, Lib.hid rfl⟩
          have Dk := Lib.hid (ratBd_quo Da.out Db.out Ek.out)
          have Ik := Lib.hid (rat_is Dk.out 400 (by omega) (by omega))
          have Hb0 := Lib.hid hb0
          have Ek' := Lib.hid (show qk * qb = qa from field_q hb0 Ek.out)
          obtain ⟨c, Ec⟩ : ∃ c, Hid (cmpQ qb qz = c) := ⟨_, Lib.hid rfl⟩
          have hc : c = -1 ∨ c = 1 := by
            rw [← Ec.out, ← Ez.out, show Rat.divInt 0 1 = (0 : Rat) by decide]
            rcases cmpQ_three qb 0 with h | h | h
            · exact Or.inl h.2
            · exact absurd h.1 hb0
            · exact Or.inr h.2
          clear hb0
          obtain ⟨t1, t2, t3, t4, t5, t6, t7, t8, t9, t10, t11, t12, t13, t14, t15, t16⟩ : wc.cell? ⟨p9, 0, none⟩ = some (.bool (sg qa.num)) ∧ wc.cell? ⟨p9, 1, none⟩ = some (.string (mg qa.num)) ∧ wc.cell? ⟨p9, 2, none⟩ = some (.bool (sg (qa.den : Int))) ∧ wc.cell? ⟨p9, 3, none⟩ = some (.string (mg (qa.den : Int))) ∧ wc.cell? ⟨w.heap.size, 0, none⟩ = some (.bool na) ∧ wc.cell? ⟨w.heap.size, 1, none⟩ = some (.string sa) ∧ wc.cell? ⟨w.heap.size, 2, none⟩ = some (.bool ma) ∧ wc.cell? ⟨w.heap.size, 3, none⟩ = some (.string ta) ∧ wc.cell? ⟨w.heap.size + 1, 0, none⟩ = some (.bool nb) ∧ wc.cell? ⟨w.heap.size + 1, 1, none⟩ = some (.string sb) ∧ wc.cell? ⟨w.heap.size + 1, 2, none⟩ = some (.bool mb) ∧ wc.cell? ⟨w.heap.size + 1, 3, none⟩ = some (.string tb) ∧ wc.cell? ⟨w.heap.size + 1 + 1, 0, none⟩ = some (.bool nc) ∧ wc.cell? ⟨w.heap.size + 1 + 1, 1, none⟩ = some (.string sc) ∧ wc.cell? ⟨w.heap.size + 1 + 1, 2, none⟩ = some (.bool mc) ∧ wc.cell? ⟨w.heap.size + 1 + 1, 3, none⟩ = some (.string tc) := ⟨K.at 0 0 rfl, K.at 0 1 rfl, K.at 0 2 rfl, K.at 0 3 rfl, K.at 1 0 rfl, K.at 1 1 rfl, K.at 1 2 rfl, K.at 1 3 rfl, K.at 2 0 rfl, K.at 2 1 rfl, K.at 2 2 rfl, K.at 2 3 rfl, K.at 3 0 rfl, K.at 3 1 rfl, K.at 3 2 rfl, K.at 3 3 rfl⟩
          go_wp2_with fail
          refine (rquo_some _ _ qa qb qk 400 _ Ia.out Ib.out (by omega) Hb0.out Ek.out).mono ?_
          rintro e W1 ⟨rfl, b1⟩
          have K := K.keep b1
          have B := below_more B (Nat.le_refl _) b1
          clear b1
          clear t1 t2 t3 t4 t5 t6 t7 t8 t9 t10 t11 t12 t13 t14 t15 t16
          have hbl := below1 W1 (.cells #[.bool (sg qk.num), .string (mg qk.num), .bool (sg (qk.den : Int)), .string (mg (qk.den : Int))] 25)
          have K : Vars ((W1.heap.size, [.bool (sg qk.num), .string (mg qk.num), .bool (sg (qk.den : Int)), .string (mg (qk.den : Int))]) :: [(p9, [.bool (sg qa.num), .string (mg qa.num), .bool (sg (qa.den : Int)), .string (mg (qa.den : Int))]), (w.heap.size, [.bool na, .string sa, .bool ma, .string ta]), (w.heap.size + 1, [.bool nb, .string sb, .bool mb, .string tb]), (w.heap.size + 1 + 1, [.bool nc, .string sc, .bool mc, .string tc])]) (W1.alloc (.cells #[.bool (sg qk.num), .string (mg qk.num), .bool (sg (qk.den : Int)), .string (mg (qk.den : Int))] 25)) := Vars.new K _ _
          have B := below_more B (Nat.le_refl _) hbl
          clear hbl
          unfold ratV
          go_upto_region 8 with fail
          generalize W1.alloc (.cells #[.bool (sg qk.num), .string (mg qk.num), .bool (sg (qk.den : Int)), .string (mg (qk.den : Int))] 25) = V2 at *
          generalize W1.heap.size = p2 at *
          obtain ⟨t1, t2, t3, t4, t5, t6, t7, t8, t9, t10, t11, t12, t13, t14, t15, t16, t17, t18, t19, t20⟩ : V2.cell? ⟨p2, 0, none⟩ = some (.bool (sg qk.num)) ∧ V2.cell? ⟨p2, 1, none⟩ = some (.string (mg qk.num)) ∧ V2.cell? ⟨p2, 2, none⟩ = some (.bool (sg (qk.den : Int))) ∧ V2.cell? ⟨p2, 3, none⟩ = some (.string (mg (qk.den : Int))) ∧ V2.cell? ⟨p9, 0, none⟩ = some (.bool (sg qa.num)) ∧ V2.cell? ⟨p9, 1, none⟩ = some (.string (mg qa.num)) ∧ V2.cell? ⟨p9, 2, none⟩ = some (.bool (sg (qa.den : Int))) ∧ V2.cell? ⟨p9, 3, none⟩ = some (.string (mg (qa.den : Int))) ∧ V2.cell? ⟨w.heap.size, 0, none⟩ = some (.bool na) ∧ V2.cell? ⟨w.heap.size, 1, none⟩ = some (.string sa) ∧ V2.cell? ⟨w.heap.size, 2, none⟩ = some (.bool ma) ∧ V2.cell? ⟨w.heap.size, 3, none⟩ = some (.string ta) ∧ V2.cell? ⟨w.heap.size + 1, 0, none⟩ = some (.bool nb) ∧ V2.cell? ⟨w.heap.size + 1, 1, none⟩ = some (.string sb) ∧ V2.cell? ⟨w.heap.size + 1, 2, none⟩ = some (.bool mb) ∧ V2.cell? ⟨w.heap.size + 1, 3, none⟩ = some (.string tb) ∧ V2.cell? ⟨w.heap.size + 1 + 1, 0, none⟩ = some (.bool nc) ∧ V2.cell? ⟨w.heap.size + 1 + 1, 1, none⟩ = some (.string sc) ∧ V2.cell? ⟨w.heap.size + 1 + 1, 2, none⟩ = some (.bool mc) ∧ V2.cell? ⟨w.heap.size + 1 + 1, 3, none⟩ = some (.string tc) := ⟨K.at 0 0 rfl, K.at 0 1 rfl, K.at 0 2 rfl, K.at 0 3 rfl, K.at 1 0 rfl, K.at 1 1 rfl, K.at 1 2 rfl, K.at 1 3 rfl, K.at 2 0 rfl, K.at 2 1 rfl, K.at 2 2 rfl, K.at 2 3 rfl, K.at 3 0 rfl, K.at 3 1 rfl, K.at 3 2 rfl, K.at 3 3 rfl, K.at 4 0 rfl, K.at 4 1 rfl, K.at 4 2 rfl, K.at 4 3 rfl⟩
          rcases hc with rfl | rfl
          all_goals
            have K0 : Vars [(p2, [.bool (sg qk.num), .string (mg qk.num), .bool (sg (qk.den : Int)), .string (mg (qk.den : Int))]), (p9, [.bool (sg qa.num), .string (mg qa.num), .bool (sg (qa.den : Int)), .string (mg (qa.den : Int))]), (w.heap.size, [.bool na, .string sa, .bool ma, .string ta]), (w.heap.size + 1, [.bool nb, .string sb, .bool mb, .string tb]), (w.heap.size + 1 + 1, [.bool nc, .string sc, .bool mc, .string tc])] V2.drew := K
            have B0 := B.drew
            have KB := And.intro K0 B0
            clear K0 B0
            have FL := Lib.hid (show ∀ W, Vars [(p2, [.bool (sg qk.num), .string (mg qk.num), .bool (sg (qk.den : Int)), .string (mg (qk.den : Int))]), (p9, [.bool (sg qa.num), .string (mg qa.num), .bool (sg (qa.den : Int)), .string (mg (qa.den : Int))]), (w.heap.size, [.bool na, .string sa, .bool ma, .string ta]), (w.heap.size + 1, [.bool nb, .string sb, .bool mb, .string tb]), (w.heap.size + 1 + 1, [.bool nc, .string sc, .bool mc, .string tc])] W → (W.cell? ⟨p2, 0, none⟩ = some (.bool (sg qk.num)) ∧ W.cell? ⟨p2, 1, none⟩ = some (.string (mg qk.num)) ∧ W.cell? ⟨p2, 2, none⟩ = some (.bool (sg (qk.den : Int))) ∧ W.cell? ⟨p2, 3, none⟩ = some (.string (mg (qk.den : Int))) ∧ W.cell? ⟨p9, 0, none⟩ = some (.bool (sg qa.num)) ∧ W.cell? ⟨p9, 1, none⟩ = some (.string (mg qa.num)) ∧ W.cell? ⟨p9, 2, none⟩ = some (.bool (sg (qa.den : Int))) ∧ W.cell? ⟨p9, 3, none⟩ = some (.string (mg (qa.den : Int))) ∧ W.cell? ⟨w.heap.size, 0, none⟩ = some (.bool na) ∧ W.cell? ⟨w.heap.size, 1, none⟩ = some (.string sa) ∧ W.cell? ⟨w.heap.size, 2, none⟩ = some (.bool ma) ∧ W.cell? ⟨w.heap.size, 3, none⟩ = some (.string ta) ∧ W.cell? ⟨w.heap.size + 1, 0, none⟩ = some (.bool nb) ∧ W.cell? ⟨w.heap.size + 1, 1, none⟩ = some (.string sb) ∧ W.cell? ⟨w.heap.size + 1, 2, none⟩ = some (.bool mb) ∧ W.cell? ⟨w.heap.size + 1, 3, none⟩ = some (.string tb) ∧ W.cell? ⟨w.heap.size + 1 + 1, 0, none⟩ = some (.bool nc) ∧ W.cell? ⟨w.heap.size + 1 + 1, 1, none⟩ = some (.string sc) ∧ W.cell? ⟨w.heap.size + 1 + 1, 2, none⟩ = some (.bool mc) ∧ W.cell? ⟨w.heap.size + 1 + 1, 3, none⟩ = some (.string tc)) from fun W h => ⟨h.at 0 0 rfl, h.at 0 1 rfl, h.at 0 2 rfl, h.at 0 3 rfl, h.at 1 0 rfl, h.at 1 1 rfl, h.at 1 2 rfl, h.at 1 3 rfl, h.at 2 0 rfl, h.at 2 1 rfl, h.at 2 2 rfl, h.at 2 3 rfl, h.at 3 0 rfl, h.at 3 1 rfl, h.at 3 2 rfl, h.at 3 3 rfl, h.at 4 0 rfl, h.at 4 1 rfl, h.at 4 2 rfl, h.at 4 3 rfl⟩)
            go_region_held3 (fun W => W.cell? ⟨p2, 0, none⟩ = some (.bool (sg qk.num)) ∧ W.cell? ⟨p2, 1, none⟩ = some (.string (mg qk.num)) ∧ W.cell? ⟨p2, 2, none⟩ = some (.bool (sg (qk.den : Int))) ∧ W.cell? ⟨p2, 3, none⟩ = some (.string (mg (qk.den : Int))) ∧ W.cell? ⟨p9, 0, none⟩ = some (.bool (sg qa.num)) ∧ W.cell? ⟨p9, 1, none⟩ = some (.string (mg qa.num)) ∧ W.cell? ⟨p9, 2, none⟩ = some (.bool (sg (qa.den : Int))) ∧ W.cell? ⟨p9, 3, none⟩ = some (.string (mg (qa.den : Int))) ∧ W.cell? ⟨w.heap.size, 0, none⟩ = some (.bool na) ∧ W.cell? ⟨w.heap.size, 1, none⟩ = some (.string sa) ∧ W.cell? ⟨w.heap.size, 2, none⟩ = some (.bool ma) ∧ W.cell? ⟨w.heap.size, 3, none⟩ = some (.string ta) ∧ W.cell? ⟨w.heap.size + 1, 0, none⟩ = some (.bool nb) ∧ W.cell? ⟨w.heap.size + 1, 1, none⟩ = some (.string sb) ∧ W.cell? ⟨w.heap.size + 1, 2, none⟩ = some (.bool mb) ∧ W.cell? ⟨w.heap.size + 1, 3, none⟩ = some (.string tb) ∧ W.cell? ⟨w.heap.size + 1 + 1, 0, none⟩ = some (.bool nc) ∧ W.cell? ⟨w.heap.size + 1 + 1, 1, none⟩ = some (.string sc) ∧ W.cell? ⟨w.heap.size + 1 + 1, 2, none⟩ = some (.bool mc) ∧ W.cell? ⟨w.heap.size + 1 + 1, 3, none⟩ = some (.string tc))
              (first | (with_reducible exact FL.out _ KB.1) | exact FL.out _ KB.1)
              (first
                | (go_at_call 14; (with_reducible refine (lratio_any 0 1 qz _ (by omega) (by omega) (by omega) (by omega) (by omega) Ez.out).mono ?_); rintro e X ⟨rfl, bX⟩; (try unfold ratV); have KB := And.intro (KB.1.keep bX) (below_more KB.2 (Nat.le_refl _) bX))
                | (go_at_call 18; (with_reducible refine (rcmp_eq Ib.out Iz.out (by omega) Ec.out).mono ?_); rintro e X ⟨rfl, bX⟩; (try unfold ratV); have KB := And.intro (KB.1.keep bX) (below_more KB.2 (Nat.le_refl _) bX)))
          all_goals go_upto_region 10 with fail
          all_goals
            have K := KB.1
            have B := KB.2
            clear KB
            have K0 := Vars.drew K
            have B0 := B.drew
            have KB := And.intro K0 B0
            obtain ⟨t1, t2, t3, t4, t5, t6, t7, t8, t9, t10, t11, t12, t13, t14, t15, t16, t17, t18, t19, t20⟩ := FL.out _ K
            go_region_held3 (fun W => W.cell? ⟨p2, 0, none⟩ = some (.bool (sg qk.num)) ∧ W.cell? ⟨p2, 1, none⟩ = some (.string (mg qk.num)) ∧ W.cell? ⟨p2, 2, none⟩ = some (.bool (sg (qk.den : Int))) ∧ W.cell? ⟨p2, 3, none⟩ = some (.string (mg (qk.den : Int))) ∧ W.cell? ⟨p9, 0, none⟩ = some (.bool (sg qa.num)) ∧ W.cell? ⟨p9, 1, none⟩ = some (.string (mg qa.num)) ∧ W.cell? ⟨p9, 2, none⟩ = some (.bool (sg (qa.den : Int))) ∧ W.cell? ⟨p9, 3, none⟩ = some (.string (mg (qa.den : Int))) ∧ W.cell? ⟨w.heap.size, 0, none⟩ = some (.bool na) ∧ W.cell? ⟨w.heap.size, 1, none⟩ = some (.string sa) ∧ W.cell? ⟨w.heap.size, 2, none⟩ = some (.bool ma) ∧ W.cell? ⟨w.heap.size, 3, none⟩ = some (.string ta) ∧ W.cell? ⟨w.heap.size + 1, 0, none⟩ = some (.bool nb) ∧ W.cell? ⟨w.heap.size + 1, 1, none⟩ = some (.string sb) ∧ W.cell? ⟨w.heap.size + 1, 2, none⟩ = some (.bool mb) ∧ W.cell? ⟨w.heap.size + 1, 3, none⟩ = some (.string tb) ∧ W.cell? ⟨w.heap.size + 1 + 1, 0, none⟩ = some (.bool nc) ∧ W.cell? ⟨w.heap.size + 1 + 1, 1, none⟩ = some (.string sc) ∧ W.cell? ⟨w.heap.size + 1 + 1, 2, none⟩ = some (.bool mc) ∧ W.cell? ⟨w.heap.size + 1 + 1, 3, none⟩ = some (.string tc))
              (first | (with_reducible exact FL.out _ KB.1) | exact FL.out _ KB.1)
              (first
                | (go_at_call 13; (with_reducible refine (rmul_any _ _ qk qb qa 400 _ Ik.out Ib.out (by omega) Ek'.out).mono ?_); rintro e X ⟨rfl, bX⟩; (try unfold ratV); have KB := And.intro (KB.1.keep bX) (below_more KB.2 (Nat.le_refl _) bX))
                | (go_at_call 11; (with_reducible refine (awaker_any _ (H0.out.keep KB.2) (tab_keep Ht.out KB.2)).mono ?_); rintro e X ⟨rfl, bX⟩; (try unfold ratV); have KB := And.intro (KB.1.keep bX) (below_more KB.2 (Nat.le_refl _) bX)))
          all_goals
            go_wp2
            go_ret
            exact ⟨rfl, KB.2⟩
end Go.Proofs.YtabmhckgdncjlaaGreatDoor

namespace Go.Proofs.YtabmhckgdncjlaaGreatDoor.rationalField
open Go.ChangeShapes Go.WideShapes Go.ChangeAt Go.RowKit
open Go.ChangeMaps (open_string shut_string)
set_option maxRecDepth 100000
set_option linter.unusedVariables false

theorem contract (H : Type) (enc : TypeId × Value → H) (W : World) (base : Nat) (args : Array Value) (ds gs : List (DataW H)) (before : List MemPlace)
    (hval : ∀ (j : Nat) t v, Tryz.f3.params[j]? = some t → args[j]? = some v → Value.okWide Tryz.prog W .any base t v)
    (hW : DataW.Whole enc Tryz.prog Tryz.f3.params.toList Rows.rationalFieldSpec.vars false W args.toList ds gs before) (hL : laidMetH Tryz.prog Rows.rationalFieldRow.laid W) (hS : W.ShapedOpen Tryz.prog) :
    Calls Tryz.prog 3 args W fun e W' => ∃ v, e = .returned v ∧ Rows.rationalFieldSpec.post enc Tryz.prog Tryz.f3 false true false false W args v W' := by
  have hW' := hW
  obtain ⟨p, q, hA0, hV, rfl, hfz, hnd⟩ := hW
  have hA : DataW.TrodAll enc Tryz.prog W 0 (fun _ => true) true Tryz.f3.params.toList args.toList ds p := hA0
  rw [Tryz.params3] at hA hval
  obtain ⟨v0, vs0, d0, ds0, p0, q0, hargs, rfl, rfl, h0, r0⟩ := trodAll_cons hA
  obtain ⟨v1, vs1, d1, ds1, p1, q1, rfl, rfl, rfl, h1, r1⟩ := trodAll_cons r0
  obtain ⟨v2, vs2, d2, ds2, p2, q2, rfl, rfl, rfl, h2, r2⟩ := trodAll_cons r1
  obtain ⟨rfl, rfl, rfl⟩ := trodAll_nil r2
  obtain rfl : args = #[v0, v1, v2] := by cases args; simp_all
  obtain ⟨rfl, rfl⟩ := trodVars_none hV
  obtain ⟨g0, s0, k0, t0, rfl, rfl, rfl, z0, y0⟩ := rat_open (hval 0 25 v0 rfl rfl) h0
  obtain ⟨g1, s1, k1, t1, rfl, rfl, rfl, z1, y1⟩ := rat_open (hval 1 25 v1 rfl rfl) h1
  obtain ⟨g2, s2, k2, t2, rfl, rfl, rfl, z2, y2⟩ := rat_open (hval 2 25 v2 rfl rfl) h2
  clear hA0
  simp only [List.append_nil] at hW'
  refine (field_law g0 s0 k0 t0 g1 s1 k1 t1 g2 s2 k2 t2 W z0 y0 z1 y1 z2 y2 (zero0 hS) (tabPow hL)).mono fun e W' ⟨he, hb⟩ => ?_
  subst he
  refine ⟨_, rfl, _, _, _, [], [], [], hW', ?_, ?_, ?_, hb.frame _, fun h => by cases h⟩
  · exact trodAll_cons_mk (p := []) (shut_bool Tryz.underlying4 true) trodAll_mk0
  · exact (trodAll_cons_mk (p := []) (rat_shut z0 y0) (trodAll_cons_mk (p := []) (rat_shut z1 y1) (trodAll_cons_mk (p := []) (rat_shut z2 y2) trodAll_mk0)))
  · rfl

theorem reads (os : Os) {H : Type} (enc : TypeId × Value → H) : ∃ places, DataW.whole enc Tryz.prog ((laidWorld os).forCall (fun _ _ => 0) ⟨#[], #[.agg #[.bool false, .string ⟨#[]⟩, .bool false, .string ⟨#[]⟩], .agg #[.bool false, .string ⟨#[]⟩, .bool false, .string ⟨#[]⟩], .agg #[.bool false, .string ⟨#[]⟩, .bool false, .string ⟨#[]⟩]], []⟩).memory Tryz.f3.params.toList Rows.rationalFieldSpec.vars false [.agg #[.bool false, .string ⟨#[]⟩, .bool false, .string ⟨#[]⟩], .agg #[.bool false, .string ⟨#[]⟩, .bool false, .string ⟨#[]⟩], .agg #[.bool false, .string ⟨#[]⟩, .bool false, .string ⟨#[]⟩]] 8 = some ([.agg [.agg [.lit (.bool false), .lit (.string [])], .agg [.lit (.bool false), .lit (.string [])]], .agg [.agg [.lit (.bool false), .lit (.string [])], .agg [.lit (.bool false), .lit (.string [])]], .agg [.agg [.lit (.bool false), .lit (.string [])], .agg [.lit (.bool false), .lit (.string [])]]], [], places) :=
  ⟨[], by kernel_rfl⟩

theorem lifted (os : Os) (started : os.Started) (H : Type) (enc : TypeId × Value → H) (F : Stop.Interp) :
    ReturnsInHanded {} Tryz.checked os 3 .any ((OpenSpec.ofChange Rows.rationalFieldSpec).preRow enc Tryz.prog Tryz.f3 Rows.rationalFieldRow.domain false Rows.rationalFieldRow.laid) (((OpenSpec.ofChange Rows.rationalFieldSpec).at F).post enc Tryz.prog Tryz.f3 false true false false) := by
  obtain ⟨places, hx⟩ := reads os enc
  refine returnsInHanded_of_row (C := Tryz.checked) (s := OpenSpec.ofChange Rows.rationalFieldSpec) ownNone started (by kernel_rfl) Tryz.func3
    (witness_row_at (enc := enc) (C := Tryz.checked) false (laidWorld os) #[.agg #[.bool false, .string ⟨#[]⟩, .bool false, .string ⟨#[]⟩], .agg #[.bool false, .string ⟨#[]⟩, .bool false, .string ⟨#[]⟩], .agg #[.bool false, .string ⟨#[]⟩, .bool false, .string ⟨#[]⟩]] rfl (by kernel_rfl) (by kernel_rfl) (by kernel_rfl)
      (OpenSpec.preRow_of_cond 8 hx (by kernel_rfl) (fun k hk => by cases hk) (by kernel_rfl) (laid_met os _))) ?_
  intro W base args ds gs before hval hW _ _ _ hL hS _
  exact contract H enc W base args ds gs before hval hW hL hS

theorem said : Rows.RationalFieldSaid :=
  OpenClaim.holds_of_cond 3 Tryz.f3 rfl rfl rfl rfl rfl rfl rfl ⟨rfl, rfl, rfl, rfl, rfl⟩ rfl rfl rfl rfl rfl (by kernel_rfl) Tryz.func3 (by kernel_rfl)
    (of_decide_eq_true (by kernel_rfl)) (by unfold Func.isWrapper; first | (rw [if_pos (by decide +kernel)]; kernel_rfl) | (rw [if_neg (by decide +kernel)]; exact ⟨rfl, rfl⟩))
    (fun os started H enc _ F => by rw [OpenClaim.pre_eq_preRow]; exact lifted os started H enc F)

theorem plain (f : FuncId) (fn : Func) (hf : Tryz.pinned.checked.prog.funcNamed "groove/groovelaw02.RationalField" = some f) (hfn : Tryz.pinned.checked.prog.funcs[f]? = some fn) :
    false = Tryz.pinned.checked.prog.looks [] ∧ ∀ (j : Nat) t, fn.params[j]? = some t → Tryz.pinned.checked.prog.wantsStandIn t = false := by
  obtain rfl : f = 3 := Option.some.inj ((show Tryz.prog.funcNamed "groove/groovelaw02.RationalField" = some 3 by kernel_rfl).symm.trans hf) |>.symm
  obtain rfl : fn = Tryz.f3 := (Option.some.inj (Tryz.func3.symm.trans hfn)).symm
  refine ⟨by kernel_rfl, fun j t ht => ?_⟩
  rw [Tryz.params3] at ht
  have hm := Array.mem_of_getElem? ht
  obtain rfl : t = 25 := by simpa using hm
  exact noStandR

/-- RationalField's card. -/
theorem card : Rows.RationalFieldCardSaid :=
  Claim7.holds_tied_plain_at .later [] _ _ _ _ said (fun _ h => by cases h) (by kernel_rfl) (fun _ h => by cases h) rationalField_row_tie rfl ⟨rfl, rfl⟩ (by kernel_rfl) rfl plain (by kernel_rfl)
end Go.Proofs.YtabmhckgdncjlaaGreatDoor.rationalField
