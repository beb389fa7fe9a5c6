/- What RationalOrder returns: true. Conditions: its table, and block 0. RationalOrder returns true for every input: the law's row, and its card, tied to the program's text. Conditions: those of the row: its tables read as listed (the card ties them to the program's text). -/
import Derived.Test.YtabmhckgdncjlaaGreatDoorQ38
import Derived.Test.YtabmhckgdncjlaaGreatDoorQ40

namespace Go.Proofs.YtabmhckgdncjlaaGreatDoor
open Go.RowKit
set_option linter.unusedSimpArgs false
set_option linter.unusedVariables false
attribute [local go_sem ↓] eqlInt guardInt2 eqlRat guardRat2

theorem cmpQ_swap (a b : Rat) : cmpQ b a = -cmpQ a b := by
  rcases cmpQ_three a b with ⟨h, e⟩ | ⟨h, e⟩ | ⟨h, e⟩
  · rw [e]; unfold cmpQ; rw [if_neg (rlt_asymm h), if_pos h]; rfl
  · subst h; rw [cmpQ_self]; rfl
  · rw [e]; unfold cmpQ; rw [if_pos h]
theorem cmpQ_sub (a b : Rat) : cmpQ a b = cmpQ (a - b) 0 := by
  unfold cmpQ
  have e1 : (a < b) = (a - b < 0) := propext (by constructor <;> intro h <;> grind)
  have e2 : (b < a) = (0 < a - b) := propext (by constructor <;> intro h <;> grind)
  simp only [e1, e2]
theorem cmpQ_add (a b c : Rat) : cmpQ (a + c) (b + c) = cmpQ a b := by rw [cmpQ_sub, cmpQ_sub a b]; congr 1; grind
theorem cmpQ_zero_mul (x y : Rat) : cmpQ (x * y) 0 = cmpQ x 0 * cmpQ y 0 := by
  rcases cmpQ_three x 0 with ⟨h, e⟩ | ⟨h, e⟩ | ⟨h, e⟩ <;> rcases cmpQ_three y 0 with ⟨k, f⟩ | ⟨k, f⟩ | ⟨k, f⟩ <;> rw [e, f]
  · have : 0 < x * y := by have := Rat.mul_pos (a := -x) (b := -y) (by grind) (by grind); grind
    unfold cmpQ; rw [if_neg (rlt_asymm this), if_pos this]; rfl
  · subst k; rw [Rat.mul_zero, cmpQ_self]; rfl
  · have : x * y < 0 := by have := Rat.mul_pos (a := -x) (b := y) (by grind) (by grind); grind
    unfold cmpQ; rw [if_pos this]; rfl
  · subst h; rw [Rat.zero_mul, cmpQ_self]; rfl
  · subst h; rw [Rat.zero_mul, cmpQ_self]; rfl
  · subst h; rw [Rat.zero_mul, cmpQ_self]; rfl
  · have : x * y < 0 := by have := Rat.mul_pos (a := x) (b := -y) (by grind) (by grind); grind
    unfold cmpQ; rw [if_pos this]; rfl
  · subst k; rw [Rat.mul_zero, cmpQ_self]; rfl
  · have : 0 < x * y := Rat.mul_pos h k
    unfold cmpQ; rw [if_neg (rlt_asymm this), if_pos this]; rfl
theorem cmpQ_mul (a b c : Rat) : cmpQ (a * c) (b * c) = cmpQ a b * cmpQ c 0 := by
  rw [cmpQ_sub, cmpQ_sub a b, ← cmpQ_zero_mul]; congr 1; grind
theorem cmpQ_rng (a b : Rat) : cmpQ a b = -1 ∨ cmpQ a b = 0 ∨ cmpQ a b = 1 := by
  rcases cmpQ_three a b with ⟨_, e⟩ | ⟨_, e⟩ | ⟨_, e⟩
  · exact Or.inl e
  · exact Or.inr (Or.inl e)
  · exact Or.inr (Or.inr e)
theorem cmpQ_le {a b : Rat} : cmpQ a b ≤ 0 ↔ a ≤ b := by
  rcases cmpQ_three a b with ⟨h, e⟩ | ⟨h, e⟩ | ⟨h, e⟩ <;> rw [e]
  · exact ⟨fun _ => Rat.le_of_lt h, fun _ => by decide⟩
  · exact ⟨fun _ => h ▸ Rat.le_refl, fun _ => by decide⟩
  · exact ⟨fun h1 => absurd h1 (by decide), fun h1 => absurd h1 (Rat.not_le.2 h)⟩
theorem cmpQ_trans {a b c : Rat} (h1 : cmpQ a b ≤ 0) (h2 : cmpQ b c ≤ 0) : cmpQ a c ≤ 0 := cmpQ_le.2 (Rat.le_trans (cmpQ_le.1 h1) (cmpQ_le.1 h2))
theorem order_diff {a b e z : Rat} (h : a - b = e) (hz : Rat.divInt 0 1 = z) : (a = b → e = z) ∧ (a ≠ b → e ≠ z) := by
  rw [← h, ← hz, show Rat.divInt 0 1 = (0 : Rat) by decide]
  constructor
  · intro h; grind
  · intro h h1; apply h; grind

set_option maxRecDepth 100000 in
set_option maxHeartbeats 12800000 in
theorem order02_law (na : Bool) (sa : ByteArray) (ma : Bool) (ta : ByteArray) (nb : Bool) (sb : ByteArray) (mb : Bool) (tb : ByteArray) (nc : Bool) (sc : ByteArray) (mc : Bool) (tc : ByteArray) (w : World) (hsa : sa.size ≤ 9223372036854775807) (hta : ta.size ≤ 9223372036854775807) (hsb : sb.size ≤ 9223372036854775807) (htb : tb.size ≤ 9223372036854775807) (hsc : sc.size ≤ 9223372036854775807) (htc : tc.size ≤ 9223372036854775807) (h0 : Zero0 w) (htab : Lib.TabIs Tryz.prog w "internal/strconv.uint64pow10" .u64 Lib.pow10Tab) :
    Calls Tryz.prog 4 #[.agg #[.bool na, .string sa, .bool ma, .string ta], .agg #[.bool nb, .string sb, .bool mb, .string tb], .agg #[.bool nc, .string sc, .bool mc, .string tc]] w fun e w' => e = .returned (.bool true) ∧ Below w.heap.size w w' := by
  have H0 := Lib.hid h0
  have Ht := Lib.hid htab
  clear h0 htab
  go_enter Tryz.func4, Tryz.ntmps4
  go_wp2_with fail
  refine (greatR_any (w.heap.size + 1 + 1 + 1) 3 3 (sel [na, nb, nc] false) (sel [sa, sb, sc] ⟨#[]⟩) (sel [ma, mb, mc] false) (sel [ta, tb, tc] ⟨#[]⟩) _ ?_ (by omega) ?_).mono ?_
  · intro i hi
    have : i = 0 ∨ i = 1 ∨ i = 2 := by omega
    rcases this with rfl | rfl | rfl <;> (refine ⟨?_, ?_, ?_, ?_⟩ <;> simp [go_sem, sel])
  · intro i hi
    have : i = 0 ∨ i = 1 ∨ i = 2 := by omega
    rcases this with rfl | rfl | rfl
    · exact ⟨hsa, hta⟩
    · exact ⟨hsb, htb⟩
    · exact ⟨hsc, htc⟩
  rintro e W0 ⟨rfl, b0⟩
  rw [great3R]
  have K : Vars [(w.heap.size, [.bool na, .string sa, .bool ma, .string ta]), (w.heap.size + 1, [.bool nb, .string sb, .bool mb, .string tb]), (w.heap.size + 1 + 1, [.bool nc, .string sc, .bool mc, .string tc])] W0 := Vars.keep b0 (Vars.cons (four_cells (by simp [go_sem]) (by simp [go_sem]) (by simp [go_sem]) (by simp [go_sem])) (Vars.cons (four_cells (by simp [go_sem]) (by simp [go_sem]) (by simp [go_sem]) (by simp [go_sem])) (Vars.cons (four_cells (by simp [go_sem]) (by simp [go_sem]) (by simp [go_sem]) (by simp [go_sem])) (Vars.nil _))))
  have B : Below w.heap.size w W0 := below_more (below4 w _ _ _ _) (Nat.le_refl _) b0
  clear b0
  by_cases hg : ((decide (24 < sa.size) || decide (24 < ta.size)) || ((decide (24 < sb.size) || decide (24 < tb.size)) || (decide (24 < sc.size) || decide (24 < tc.size)))) = true
  · rw [hg]
    clear K
    go_wp2_with fail
    refine (awaker_any _ (H0.out.keep B) (tab_keep Ht.out B)).mono ?_
    rintro e W2 ⟨rfl, b2⟩
    go_wp2
    go_ret
    exact ⟨rfl, below_more B (Nat.le_refl _) b2⟩
  rw [Bool.not_eq_true] at hg
  rw [hg]
  have h24 : (sa.size ≤ 24 ∧ ta.size ≤ 24) ∧ (sb.size ≤ 24 ∧ tb.size ≤ 24) ∧ (sc.size ≤ 24 ∧ tc.size ≤ 24) := by simpa using hg
  have Aa := Lib.hid (arg_rat (na := na) (nb := ma) h24.1.1 h24.1.2)
  have Ab := Lib.hid (arg_rat (na := nb) (nb := mb) h24.2.1.1 h24.2.1.2)
  have Ac := Lib.hid (arg_rat (na := nc) (nb := mc) h24.2.2.1 h24.2.2.2)
  clear h24 hg hsa hta hsb htb hsc htc
  generalize Rat.divInt (zv na sa) (zv ma ta) = qa at *
  generalize Rat.divInt (zv nb sb) (zv mb tb) = qb at *
  generalize Rat.divInt (zv nc sc) (zv mc tc) = qc at *
  have Da := Lib.hid Aa.out.bd
  have Ia := Lib.hid (IsRat.wider Aa.out (show 15 ≤ 400 by omega) (by omega))
  have Db := Lib.hid Ab.out.bd
  have Ib := Lib.hid (IsRat.wider Ab.out (show 15 ≤ 400 by omega) (by omega))
  have Dc := Lib.hid Ac.out.bd
  have Ic := Lib.hid (IsRat.wider Ac.out (show 15 ≤ 400 by omega) (by omega))
  obtain ⟨qz, Ez⟩ : ∃ r, Hid (Rat.divInt 0 1 = r) := ⟨_, Lib.hid rfl⟩
  have Dz := Lib.hid (show RatBd qz 1 by rw [← Ez.out]; constructor <;> decide)
  have Iz := Lib.hid (rat_is Dz.out 400 (by omega) (by omega))
  obtain ⟨n, En⟩ : ∃ n, Hid (cmpQ qa qb = n) := ⟨_, Lib.hid rfl⟩
  obtain ⟨nm, Em⟩ : ∃ n, Hid (cmpQ qb qa = n) := ⟨_, Lib.hid rfl⟩
  obtain ⟨qe, Ee⟩ : ∃ r, Hid (qa - qb = r) := ⟨_, Lib.hid rfl⟩
  have De := Lib.hid (rbd_sub Da.out Db.out Ee.out)
  have Ie := Lib.hid (rat_is De.out 400 (by omega) (by omega))
  obtain ⟨qs, Es⟩ : ∃ r, Hid (qa + qc = r) := ⟨_, Lib.hid rfl⟩
  have Ds := Lib.hid (rbd_add Da.out Dc.out Es.out)
  have Is := Lib.hid (rat_is Ds.out 400 (by omega) (by omega))
  obtain ⟨qt, Et⟩ : ∃ r, Hid (qb + qc = r) := ⟨_, Lib.hid rfl⟩
  have Dt := Lib.hid (rbd_add Db.out Dc.out Et.out)
  have It := Lib.hid (rat_is Dt.out 400 (by omega) (by omega))
  obtain ⟨qp, Ep⟩ : ∃ r, Hid (qa * qc = r) := ⟨_, Lib.hid rfl⟩
  have Dp := Lib.hid (rbd_mul Da.out Dc.out Ep.out)
  have Ip := Lib.hid (rat_is Dp.out 400 (by omega) (by omega))
  obtain ⟨qr, Er⟩ : ∃ r, Hid (qb * qc = r) := ⟨_, Lib.hid rfl⟩
  have Dr := Lib.hid (rbd_mul Db.out Dc.out Er.out)
  have Ir := Lib.hid (rat_is Dr.out 400 (by omega) (by omega))
  obtain ⟨g, Eg⟩ : ∃ n, Hid (cmpQ qc qz = n) := ⟨_, Lib.hid rfl⟩
  have Es' := Lib.hid (show cmpQ qs qt = n by rw [← En.out, ← Es.out, ← Et.out]; exact cmpQ_add _ _ _)
  obtain ⟨ng, Eng⟩ : ∃ x, Hid (n * g = x) := ⟨_, Lib.hid rfl⟩
  have Ep' := Lib.hid (show cmpQ qp qr = ng by rw [← Eng.out, ← En.out, ← Ep.out, ← Er.out, ← Eg.out, ← Ez.out]; exact cmpQ_mul _ _ _)
  obtain ⟨m1, Em1⟩ : ∃ x, Hid (cmpQ qb qc = x) := ⟨_, Lib.hid rfl⟩
  obtain ⟨m2, Em2⟩ : ∃ x, Hid (cmpQ qa qc = x) := ⟨_, Lib.hid rfl⟩
  have Hm1 := Lib.hid (show m1 = -1 ∨ m1 = 0 ∨ m1 = 1 by rw [← Em1.out]; exact cmpQ_rng _ _)
  have Hm2 := Lib.hid (show n ≤ 0 → m1 ≤ 0 → m2 = -1 ∨ m2 = 0 by rw [← En.out, ← Em1.out, ← Em2.out]; intro h1 h2; have h3 := cmpQ_trans h1 h2; have h4 := cmpQ_rng qa qc; omega)
  have Hn3 := Lib.hid (show n = -1 ∨ n = 0 ∨ n = 1 by rw [← En.out]; exact cmpQ_rng _ _)
  have hn : (qa ≠ qb ∧ n = -1 ∧ nm = 1) ∨ (qa = qb ∧ n = 0 ∧ nm = 0) ∨ (qa ≠ qb ∧ n = 1 ∧ nm = -1) := by
    rw [← En.out, ← Em.out, cmpQ_swap qa qb]
    rcases cmpQ_three qa qb with ⟨h, e⟩ | ⟨h, e⟩ | ⟨h, e⟩ <;> rw [e]
    · exact Or.inl ⟨Rat.ne_of_lt h, rfl, rfl⟩
    · exact Or.inr (Or.inl ⟨h, rfl, rfl⟩)
    · exact Or.inr (Or.inr ⟨(Rat.ne_of_lt h).symm, rfl, rfl⟩)
  have hg : g = -1 ∨ g = 0 ∨ g = 1 := by rw [← Eg.out]; exact cmpQ_rng _ _
  have Hn := Lib.hid hn
  have Hg := Lib.hid hg
  have Hw := Lib.hid (show IntKind.i64.wrap (n * g) = ng by
    rw [← Eng.out]
    rcases Hn3.out with h | h | h <;> rcases hg with h1 | h1 | h1 <;> rw [h, h1] <;> decide)
  have Hd := Lib.hid (order_diff Ee.out Ez.out)
  clear hn hg
  obtain ⟨t1, t2, t3, t4, t5, t6, t7, t8, t9, t10, t11, t12⟩ : W0.cell? ⟨w.heap.size, 0, none⟩ = some (.bool na) ∧ W0.cell? ⟨w.heap.size, 1, none⟩ = some (.string sa) ∧ W0.cell? ⟨w.heap.size, 2, none⟩ = some (.bool ma) ∧ W0.cell? ⟨w.heap.size, 3, none⟩ = some (.string ta) ∧ W0.cell? ⟨w.heap.size + 1, 0, none⟩ = some (.bool nb) ∧ W0.cell? ⟨w.heap.size + 1, 1, none⟩ = some (.string sb) ∧ W0.cell? ⟨w.heap.size + 1, 2, none⟩ = some (.bool mb) ∧ W0.cell? ⟨w.heap.size + 1, 3, none⟩ = some (.string tb) ∧ W0.cell? ⟨w.heap.size + 1 + 1, 0, none⟩ = some (.bool nc) ∧ W0.cell? ⟨w.heap.size + 1 + 1, 1, none⟩ = some (.string sc) ∧ W0.cell? ⟨w.heap.size + 1 + 1, 2, none⟩ = some (.bool mc) ∧ W0.cell? ⟨w.heap.size + 1 + 1, 3, none⟩ = some (.string tc) := ⟨K.at 0 0 rfl, K.at 0 1 rfl, K.at 0 2 rfl, K.at 0 3 rfl, K.at 1 0 rfl, K.at 1 1 rfl, K.at 1 2 rfl, K.at 1 3 rfl, K.at 2 0 rfl, K.at 2 1 rfl, K.at 2 2 rfl, K.at 2 3 rfl⟩
  go_wp2_with fail
  refine (rcmp_eq Ia.out Ib.out (by omega) En.out).mono ?_
  rintro e W1 ⟨rfl, b1⟩
  have K := K.keep b1
  have B := below_more B (Nat.le_refl _) b1
  clear b1
  clear t1 t2 t3 t4 t5 t6 t7 t8 t9 t10 t11 t12
  go_wp2_with fail
  refine (lratio_any 0 1 qz _ (by omega) (by omega) (by omega) (by omega) (by omega) Ez.out).mono ?_
  rintro e W2 ⟨rfl, b2⟩
  have K := K.keep b2
  have B := below_more B (Nat.le_refl _) b2
  clear b2
  have hbl := below1 W2 (.cells #[.bool (sg qz.num), .string (mg qz.num), .bool (sg (qz.den : Int)), .string (mg (qz.den : Int))] 25)
  have K : Vars ((W2.heap.size, [.bool (sg qz.num), .string (mg qz.num), .bool (sg (qz.den : Int)), .string (mg (qz.den : Int))]) :: [(w.heap.size, [.bool na, .string sa, .bool ma, .string ta]), (w.heap.size + 1, [.bool nb, .string sb, .bool mb, .string tb]), (w.heap.size + 1 + 1, [.bool nc, .string sc, .bool mc, .string tc])]) (W2.alloc (.cells #[.bool (sg qz.num), .string (mg qz.num), .bool (sg (qz.den : Int)), .string (mg (qz.den : Int))] 25)) := Vars.new K _ _
  have B := below_more B (Nat.le_refl _) hbl
  clear hbl
  unfold ratV
  go_upto_region 4 with fail
  generalize W2.alloc (.cells #[.bool (sg qz.num), .string (mg qz.num), .bool (sg (qz.den : Int)), .string (mg (qz.den : Int))] 25) = V3 at *
  generalize W2.heap.size = p3 at *
  go_cut [43] (fun s43 wx => s43 = .bool false ∧ Vars [(p3, [.bool (sg qz.num), .string (mg qz.num), .bool (sg (qz.den : Int)), .string (mg (qz.den : Int))]), (w.heap.size, [.bool na, .string sa, .bool ma, .string ta]), (w.heap.size + 1, [.bool nb, .string sb, .bool mb, .string tb]), (w.heap.size + 1 + 1, [.bool nc, .string sc, .bool mc, .string tc])] wx ∧ Below w.heap.size w wx)
  case first =>
    obtain ⟨t1, t2, t3, t4, t5, t6, t7, t8, t9, t10, t11, t12, t13, t14, t15, t16⟩ : V3.cell? ⟨p3, 0, none⟩ = some (.bool (sg qz.num)) ∧ V3.cell? ⟨p3, 1, none⟩ = some (.string (mg qz.num)) ∧ V3.cell? ⟨p3, 2, none⟩ = some (.bool (sg (qz.den : Int))) ∧ V3.cell? ⟨p3, 3, none⟩ = some (.string (mg (qz.den : Int))) ∧ V3.cell? ⟨w.heap.size, 0, none⟩ = some (.bool na) ∧ V3.cell? ⟨w.heap.size, 1, none⟩ = some (.string sa) ∧ V3.cell? ⟨w.heap.size, 2, none⟩ = some (.bool ma) ∧ V3.cell? ⟨w.heap.size, 3, none⟩ = some (.string ta) ∧ V3.cell? ⟨w.heap.size + 1, 0, none⟩ = some (.bool nb) ∧ V3.cell? ⟨w.heap.size + 1, 1, none⟩ = some (.string sb) ∧ V3.cell? ⟨w.heap.size + 1, 2, none⟩ = some (.bool mb) ∧ V3.cell? ⟨w.heap.size + 1, 3, none⟩ = some (.string tb) ∧ V3.cell? ⟨w.heap.size + 1 + 1, 0, none⟩ = some (.bool nc) ∧ V3.cell? ⟨w.heap.size + 1 + 1, 1, none⟩ = some (.string sc) ∧ V3.cell? ⟨w.heap.size + 1 + 1, 2, none⟩ = some (.bool mc) ∧ V3.cell? ⟨w.heap.size + 1 + 1, 3, none⟩ = some (.string tc) := ⟨K.at 0 0 rfl, K.at 0 1 rfl, K.at 0 2 rfl, K.at 0 3 rfl, K.at 1 0 rfl, K.at 1 1 rfl, K.at 1 2 rfl, K.at 1 3 rfl, K.at 2 0 rfl, K.at 2 1 rfl, K.at 2 2 rfl, K.at 2 3 rfl, K.at 3 0 rfl, K.at 3 1 rfl, K.at 3 2 rfl, K.at 3 3 rfl⟩
    rcases Hn.out with ⟨h, rfl, rfl⟩ | ⟨h, rfl, rfl⟩ | ⟨h, rfl, rfl⟩
    · have Hs := Lib.hid (show sameR (sg qe.num) (mg qe.num) (sg (qe.den : Int)) (mg (qe.den : Int)) (sg qz.num) (mg qz.num) (sg (qz.den : Int)) (mg (qz.den : Int)) = false by rw [sameR_ratV]; exact decide_eq_false (Hd.out.2 h))
      clear h
      have hw1 : IntKind.i64.wrap (-1) = -1 := by decide
      have K0 : Vars [(p3, [.bool (sg qz.num), .string (mg qz.num), .bool (sg (qz.den : Int)), .string (mg (qz.den : Int))]), (w.heap.size, [.bool na, .string sa, .bool ma, .string ta]), (w.heap.size + 1, [.bool nb, .string sb, .bool mb, .string tb]), (w.heap.size + 1 + 1, [.bool nc, .string sc, .bool mc, .string tc])] V3.drew := K
      have B0 := B.drew
      have KB := And.intro K0 B0
      clear K0 B0
      go_region_held3 (fun W => W.cell? ⟨p3, 0, none⟩ = some (.bool (sg qz.num)) ∧ W.cell? ⟨p3, 1, none⟩ = some (.string (mg qz.num)) ∧ W.cell? ⟨p3, 2, none⟩ = some (.bool (sg (qz.den : Int))) ∧ W.cell? ⟨p3, 3, none⟩ = some (.string (mg (qz.den : Int))) ∧ W.cell? ⟨w.heap.size, 0, none⟩ = some (.bool na) ∧ W.cell? ⟨w.heap.size, 1, none⟩ = some (.string sa) ∧ W.cell? ⟨w.heap.size, 2, none⟩ = some (.bool ma) ∧ W.cell? ⟨w.heap.size, 3, none⟩ = some (.string ta) ∧ W.cell? ⟨w.heap.size + 1, 0, none⟩ = some (.bool nb) ∧ W.cell? ⟨w.heap.size + 1, 1, none⟩ = some (.string sb) ∧ W.cell? ⟨w.heap.size + 1, 2, none⟩ = some (.bool mb) ∧ W.cell? ⟨w.heap.size + 1, 3, none⟩ = some (.string tb) ∧ W.cell? ⟨w.heap.size + 1 + 1, 0, none⟩ = some (.bool nc) ∧ W.cell? ⟨w.heap.size + 1 + 1, 1, none⟩ = some (.string sc) ∧ W.cell? ⟨w.heap.size + 1 + 1, 2, none⟩ = some (.bool mc) ∧ W.cell? ⟨w.heap.size + 1 + 1, 3, none⟩ = some (.string tc))
        (first | exact ⟨KB.1.at 0 0 rfl, KB.1.at 0 1 rfl, KB.1.at 0 2 rfl, KB.1.at 0 3 rfl, KB.1.at 1 0 rfl, KB.1.at 1 1 rfl, KB.1.at 1 2 rfl, KB.1.at 1 3 rfl, KB.1.at 2 0 rfl, KB.1.at 2 1 rfl, KB.1.at 2 2 rfl, KB.1.at 2 3 rfl, KB.1.at 3 0 rfl, KB.1.at 3 1 rfl, KB.1.at 3 2 rfl, KB.1.at 3 3 rfl⟩)
        (first
          | (go_at_call 18; (with_reducible refine (rcmp_eq Ib.out Ia.out (by omega) Em.out).mono ?_); rintro e X ⟨rfl, bX⟩; (try unfold ratV); have KB := And.intro (KB.1.keep bX) (below_more KB.2 (Nat.le_refl _) bX))
          | (go_at_call 15; (with_reducible refine (rsub_any _ _ qa qb qe 400 _ Ia.out Ib.out (by omega) Ee.out).mono ?_); rintro e X ⟨rfl, bX⟩; (try unfold ratV); have KB := And.intro (KB.1.keep bX) (below_more KB.2 (Nat.le_refl _) bX)))
      all_goals go_wp2_with fail
      all_goals go_meet
      all_goals exact ⟨by first | rfl | (rw [Hs.out]), KB.1, KB.2⟩
    · have he := Hd.out.1 h
      subst he
      clear h
      have Hs := sameR_self (sg qe.num) (sg (qe.den : Int)) (mg qe.num) (mg (qe.den : Int))
      have hw1 : IntKind.i64.wrap (0) = 0 := by decide
      have K0 : Vars [(p3, [.bool (sg qe.num), .string (mg qe.num), .bool (sg (qe.den : Int)), .string (mg (qe.den : Int))]), (w.heap.size, [.bool na, .string sa, .bool ma, .string ta]), (w.heap.size + 1, [.bool nb, .string sb, .bool mb, .string tb]), (w.heap.size + 1 + 1, [.bool nc, .string sc, .bool mc, .string tc])] V3.drew := K
      have B0 := B.drew
      have KB := And.intro K0 B0
      clear K0 B0
      go_region_held3 (fun W => W.cell? ⟨p3, 0, none⟩ = some (.bool (sg qe.num)) ∧ W.cell? ⟨p3, 1, none⟩ = some (.string (mg qe.num)) ∧ W.cell? ⟨p3, 2, none⟩ = some (.bool (sg (qe.den : Int))) ∧ W.cell? ⟨p3, 3, none⟩ = some (.string (mg (qe.den : Int))) ∧ W.cell? ⟨w.heap.size, 0, none⟩ = some (.bool na) ∧ W.cell? ⟨w.heap.size, 1, none⟩ = some (.string sa) ∧ W.cell? ⟨w.heap.size, 2, none⟩ = some (.bool ma) ∧ W.cell? ⟨w.heap.size, 3, none⟩ = some (.string ta) ∧ W.cell? ⟨w.heap.size + 1, 0, none⟩ = some (.bool nb) ∧ W.cell? ⟨w.heap.size + 1, 1, none⟩ = some (.string sb) ∧ W.cell? ⟨w.heap.size + 1, 2, none⟩ = some (.bool mb) ∧ W.cell? ⟨w.heap.size + 1, 3, none⟩ = some (.string tb) ∧ W.cell? ⟨w.heap.size + 1 + 1, 0, none⟩ = some (.bool nc) ∧ W.cell? ⟨w.heap.size + 1 + 1, 1, none⟩ = some (.string sc) ∧ W.cell? ⟨w.heap.size + 1 + 1, 2, none⟩ = some (.bool mc) ∧ W.cell? ⟨w.heap.size + 1 + 1, 3, none⟩ = some (.string tc))
        (first | exact ⟨KB.1.at 0 0 rfl, KB.1.at 0 1 rfl, KB.1.at 0 2 rfl, KB.1.at 0 3 rfl, KB.1.at 1 0 rfl, KB.1.at 1 1 rfl, KB.1.at 1 2 rfl, KB.1.at 1 3 rfl, KB.1.at 2 0 rfl, KB.1.at 2 1 rfl, KB.1.at 2 2 rfl, KB.1.at 2 3 rfl, KB.1.at 3 0 rfl, KB.1.at 3 1 rfl, KB.1.at 3 2 rfl, KB.1.at 3 3 rfl⟩)
        (first
          | (go_at_call 18; (with_reducible refine (rcmp_eq Ib.out Ia.out (by omega) Em.out).mono ?_); rintro e X ⟨rfl, bX⟩; (try unfold ratV); have KB := And.intro (KB.1.keep bX) (below_more KB.2 (Nat.le_refl _) bX))
          | (go_at_call 15; (with_reducible refine (rsub_any _ _ qa qb qe 400 _ Ia.out Ib.out (by omega) Ee.out).mono ?_); rintro e X ⟨rfl, bX⟩; (try unfold ratV); have KB := And.intro (KB.1.keep bX) (below_more KB.2 (Nat.le_refl _) bX)))
      all_goals go_wp2_with fail
      all_goals go_meet
      all_goals exact ⟨by first | rfl | (rw [Hs.out]), KB.1, KB.2⟩
    · have Hs := Lib.hid (show sameR (sg qe.num) (mg qe.num) (sg (qe.den : Int)) (mg (qe.den : Int)) (sg qz.num) (mg qz.num) (sg (qz.den : Int)) (mg (qz.den : Int)) = false by rw [sameR_ratV]; exact decide_eq_false (Hd.out.2 h))
      clear h
      have hw1 : IntKind.i64.wrap (1) = 1 := by decide
      have K0 : Vars [(p3, [.bool (sg qz.num), .string (mg qz.num), .bool (sg (qz.den : Int)), .string (mg (qz.den : Int))]), (w.heap.size, [.bool na, .string sa, .bool ma, .string ta]), (w.heap.size + 1, [.bool nb, .string sb, .bool mb, .string tb]), (w.heap.size + 1 + 1, [.bool nc, .string sc, .bool mc, .string tc])] V3.drew := K
      have B0 := B.drew
      have KB := And.intro K0 B0
      clear K0 B0
      go_region_held3 (fun W => W.cell? ⟨p3, 0, none⟩ = some (.bool (sg qz.num)) ∧ W.cell? ⟨p3, 1, none⟩ = some (.string (mg qz.num)) ∧ W.cell? ⟨p3, 2, none⟩ = some (.bool (sg (qz.den : Int))) ∧ W.cell? ⟨p3, 3, none⟩ = some (.string (mg (qz.den : Int))) ∧ W.cell? ⟨w.heap.size, 0, none⟩ = some (.bool na) ∧ W.cell? ⟨w.heap.size, 1, none⟩ = some (.string sa) ∧ W.cell? ⟨w.heap.size, 2, none⟩ = some (.bool ma) ∧ W.cell? ⟨w.heap.size, 3, none⟩ = some (.string ta) ∧ W.cell? ⟨w.heap.size + 1, 0, none⟩ = some (.bool nb) ∧ W.cell? ⟨w.heap.size + 1, 1, none⟩ = some (.string sb) ∧ W.cell? ⟨w.heap.size + 1, 2, none⟩ = some (.bool mb) ∧ W.cell? ⟨w.heap.size + 1, 3, none⟩ = some (.string tb) ∧ W.cell? ⟨w.heap.size + 1 + 1, 0, none⟩ = some (.bool nc) ∧ W.cell? ⟨w.heap.size + 1 + 1, 1, none⟩ = some (.string sc) ∧ W.cell? ⟨w.heap.size + 1 + 1, 2, none⟩ = some (.bool mc) ∧ W.cell? ⟨w.heap.size + 1 + 1, 3, none⟩ = some (.string tc))
        (first | exact ⟨KB.1.at 0 0 rfl, KB.1.at 0 1 rfl, KB.1.at 0 2 rfl, KB.1.at 0 3 rfl, KB.1.at 1 0 rfl, KB.1.at 1 1 rfl, KB.1.at 1 2 rfl, KB.1.at 1 3 rfl, KB.1.at 2 0 rfl, KB.1.at 2 1 rfl, KB.1.at 2 2 rfl, KB.1.at 2 3 rfl, KB.1.at 3 0 rfl, KB.1.at 3 1 rfl, KB.1.at 3 2 rfl, KB.1.at 3 3 rfl⟩)
        (first
          | (go_at_call 18; (with_reducible refine (rcmp_eq Ib.out Ia.out (by omega) Em.out).mono ?_); rintro e X ⟨rfl, bX⟩; (try unfold ratV); have KB := And.intro (KB.1.keep bX) (below_more KB.2 (Nat.le_refl _) bX))
          | (go_at_call 15; (with_reducible refine (rsub_any _ _ qa qb qe 400 _ Ia.out Ib.out (by omega) Ee.out).mono ?_); rintro e X ⟨rfl, bX⟩; (try unfold ratV); have KB := And.intro (KB.1.keep bX) (below_more KB.2 (Nat.le_refl _) bX)))
      all_goals go_wp2_with fail
      all_goals go_meet
      all_goals exact ⟨by first | rfl | (rw [Hs.out]), KB.1, KB.2⟩
  case rest =>
    obtain ⟨rfl, K', B'⟩ := hcut
    clear K B
    have K := K'
    have B := B'
    clear K' B'
    go_upto_region 6 with fail
    go_cut [57] (fun s57 wx => s57 = .bool false ∧ Vars [(p3, [.bool (sg qz.num), .string (mg qz.num), .bool (sg (qz.den : Int)), .string (mg (qz.den : Int))]), (w.heap.size, [.bool na, .string sa, .bool ma, .string ta]), (w.heap.size + 1, [.bool nb, .string sb, .bool mb, .string tb]), (w.heap.size + 1 + 1, [.bool nc, .string sc, .bool mc, .string tc])] wx ∧ Below w.heap.size w wx)
    case first =>
      obtain ⟨t1, t2, t3, t4, t5, t6, t7, t8, t9, t10, t11, t12, t13, t14, t15, t16⟩ : wc.cell? ⟨p3, 0, none⟩ = some (.bool (sg qz.num)) ∧ wc.cell? ⟨p3, 1, none⟩ = some (.string (mg qz.num)) ∧ wc.cell? ⟨p3, 2, none⟩ = some (.bool (sg (qz.den : Int))) ∧ wc.cell? ⟨p3, 3, none⟩ = some (.string (mg (qz.den : Int))) ∧ wc.cell? ⟨w.heap.size, 0, none⟩ = some (.bool na) ∧ wc.cell? ⟨w.heap.size, 1, none⟩ = some (.string sa) ∧ wc.cell? ⟨w.heap.size, 2, none⟩ = some (.bool ma) ∧ wc.cell? ⟨w.heap.size, 3, none⟩ = some (.string ta) ∧ wc.cell? ⟨w.heap.size + 1, 0, none⟩ = some (.bool nb) ∧ wc.cell? ⟨w.heap.size + 1, 1, none⟩ = some (.string sb) ∧ wc.cell? ⟨w.heap.size + 1, 2, none⟩ = some (.bool mb) ∧ wc.cell? ⟨w.heap.size + 1, 3, none⟩ = some (.string tb) ∧ wc.cell? ⟨w.heap.size + 1 + 1, 0, none⟩ = some (.bool nc) ∧ wc.cell? ⟨w.heap.size + 1 + 1, 1, none⟩ = some (.string sc) ∧ wc.cell? ⟨w.heap.size + 1 + 1, 2, none⟩ = some (.bool mc) ∧ wc.cell? ⟨w.heap.size + 1 + 1, 3, none⟩ = some (.string tc) := ⟨K.at 0 0 rfl, K.at 0 1 rfl, K.at 0 2 rfl, K.at 0 3 rfl, K.at 1 0 rfl, K.at 1 1 rfl, K.at 1 2 rfl, K.at 1 3 rfl, K.at 2 0 rfl, K.at 2 1 rfl, K.at 2 2 rfl, K.at 2 3 rfl, K.at 3 0 rfl, K.at 3 1 rfl, K.at 3 2 rfl, K.at 3 3 rfl⟩
      rcases Hn3.out with rfl | rfl | rfl
      · rcases Hm1.out with rfl | rfl | rfl
        · rcases Hm2.out (by decide) (by decide) with rfl | rfl
          · skip
            go_wp2_with fail
            refine (rcmp_eq Ib.out Ic.out (by omega) Em1.out).mono ?_
            rintro e W4 ⟨rfl, b4⟩
            have K := K.keep b4
            have B := below_more B (Nat.le_refl _) b4
            clear b4
            clear t1 t2 t3 t4 t5 t6 t7 t8 t9 t10 t11 t12 t13 t14 t15 t16
            obtain ⟨t1, t2, t3, t4, t5, t6, t7, t8, t9, t10, t11, t12, t13, t14, t15, t16⟩ : W4.cell? ⟨p3, 0, none⟩ = some (.bool (sg qz.num)) ∧ W4.cell? ⟨p3, 1, none⟩ = some (.string (mg qz.num)) ∧ W4.cell? ⟨p3, 2, none⟩ = some (.bool (sg (qz.den : Int))) ∧ W4.cell? ⟨p3, 3, none⟩ = some (.string (mg (qz.den : Int))) ∧ W4.cell? ⟨w.heap.size, 0, none⟩ = some (.bool na) ∧ W4.cell? ⟨w.heap.size, 1, none⟩ = some (.string sa) ∧ W4.cell? ⟨w.heap.size, 2, none⟩ = some (.bool ma) ∧ W4.cell? ⟨w.heap.size, 3, none⟩ = some (.string ta) ∧ W4.cell? ⟨w.heap.size + 1, 0, none⟩ = some (.bool nb) ∧ W4.cell? ⟨w.heap.size + 1, 1, none⟩ = some (.string sb) ∧ W4.cell? ⟨w.heap.size + 1, 2, none⟩ = some (.bool mb) ∧ W4.cell? ⟨w.heap.size + 1, 3, none⟩ = some (.string tb) ∧ W4.cell? ⟨w.heap.size + 1 + 1, 0, none⟩ = some (.bool nc) ∧ W4.cell? ⟨w.heap.size + 1 + 1, 1, none⟩ = some (.string sc) ∧ W4.cell? ⟨w.heap.size + 1 + 1, 2, none⟩ = some (.bool mc) ∧ W4.cell? ⟨w.heap.size + 1 + 1, 3, none⟩ = some (.string tc) := ⟨K.at 0 0 rfl, K.at 0 1 rfl, K.at 0 2 rfl, K.at 0 3 rfl, K.at 1 0 rfl, K.at 1 1 rfl, K.at 1 2 rfl, K.at 1 3 rfl, K.at 2 0 rfl, K.at 2 1 rfl, K.at 2 2 rfl, K.at 2 3 rfl, K.at 3 0 rfl, K.at 3 1 rfl, K.at 3 2 rfl, K.at 3 3 rfl⟩
            go_wp2_with fail
            refine (rcmp_eq Ia.out Ic.out (by omega) Em2.out).mono ?_
            rintro e W5 ⟨rfl, b5⟩
            have K := K.keep b5
            have B := below_more B (Nat.le_refl _) b5
            clear b5
            clear t1 t2 t3 t4 t5 t6 t7 t8 t9 t10 t11 t12 t13 t14 t15 t16
            go_wp2_with fail
            go_meet
            exact ⟨rfl, K, B⟩
          · skip
            go_wp2_with fail
            refine (rcmp_eq Ib.out Ic.out (by omega) Em1.out).mono ?_
            rintro e W6 ⟨rfl, b6⟩
            have K := K.keep b6
            have B := below_more B (Nat.le_refl _) b6
            clear b6
            clear t1 t2 t3 t4 t5 t6 t7 t8 t9 t10 t11 t12 t13 t14 t15 t16
            obtain ⟨t1, t2, t3, t4, t5, t6, t7, t8, t9, t10, t11, t12, t13, t14, t15, t16⟩ : W6.cell? ⟨p3, 0, none⟩ = some (.bool (sg qz.num)) ∧ W6.cell? ⟨p3, 1, none⟩ = some (.string (mg qz.num)) ∧ W6.cell? ⟨p3, 2, none⟩ = some (.bool (sg (qz.den : Int))) ∧ W6.cell? ⟨p3, 3, none⟩ = some (.string (mg (qz.den : Int))) ∧ W6.cell? ⟨w.heap.size, 0, none⟩ = some (.bool na) ∧ W6.cell? ⟨w.heap.size, 1, none⟩ = some (.string sa) ∧ W6.cell? ⟨w.heap.size, 2, none⟩ = some (.bool ma) ∧ W6.cell? ⟨w.heap.size, 3, none⟩ = some (.string ta) ∧ W6.cell? ⟨w.heap.size + 1, 0, none⟩ = some (.bool nb) ∧ W6.cell? ⟨w.heap.size + 1, 1, none⟩ = some (.string sb) ∧ W6.cell? ⟨w.heap.size + 1, 2, none⟩ = some (.bool mb) ∧ W6.cell? ⟨w.heap.size + 1, 3, none⟩ = some (.string tb) ∧ W6.cell? ⟨w.heap.size + 1 + 1, 0, none⟩ = some (.bool nc) ∧ W6.cell? ⟨w.heap.size + 1 + 1, 1, none⟩ = some (.string sc) ∧ W6.cell? ⟨w.heap.size + 1 + 1, 2, none⟩ = some (.bool mc) ∧ W6.cell? ⟨w.heap.size + 1 + 1, 3, none⟩ = some (.string tc) := ⟨K.at 0 0 rfl, K.at 0 1 rfl, K.at 0 2 rfl, K.at 0 3 rfl, K.at 1 0 rfl, K.at 1 1 rfl, K.at 1 2 rfl, K.at 1 3 rfl, K.at 2 0 rfl, K.at 2 1 rfl, K.at 2 2 rfl, K.at 2 3 rfl, K.at 3 0 rfl, K.at 3 1 rfl, K.at 3 2 rfl, K.at 3 3 rfl⟩
            go_wp2_with fail
            refine (rcmp_eq Ia.out Ic.out (by omega) Em2.out).mono ?_
            rintro e W7 ⟨rfl, b7⟩
            have K := K.keep b7
            have B := below_more B (Nat.le_refl _) b7
            clear b7
            clear t1 t2 t3 t4 t5 t6 t7 t8 t9 t10 t11 t12 t13 t14 t15 t16
            go_wp2_with fail
            go_meet
            exact ⟨rfl, K, B⟩
        · rcases Hm2.out (by decide) (by decide) with rfl | rfl
          · skip
            go_wp2_with fail
            refine (rcmp_eq Ib.out Ic.out (by omega) Em1.out).mono ?_
            rintro e W8 ⟨rfl, b8⟩
            have K := K.keep b8
            have B := below_more B (Nat.le_refl _) b8
            clear b8
            clear t1 t2 t3 t4 t5 t6 t7 t8 t9 t10 t11 t12 t13 t14 t15 t16
            obtain ⟨t1, t2, t3, t4, t5, t6, t7, t8, t9, t10, t11, t12, t13, t14, t15, t16⟩ : W8.cell? ⟨p3, 0, none⟩ = some (.bool (sg qz.num)) ∧ W8.cell? ⟨p3, 1, none⟩ = some (.string (mg qz.num)) ∧ W8.cell? ⟨p3, 2, none⟩ = some (.bool (sg (qz.den : Int))) ∧ W8.cell? ⟨p3, 3, none⟩ = some (.string (mg (qz.den : Int))) ∧ W8.cell? ⟨w.heap.size, 0, none⟩ = some (.bool na) ∧ W8.cell? ⟨w.heap.size, 1, none⟩ = some (.string sa) ∧ W8.cell? ⟨w.heap.size, 2, none⟩ = some (.bool ma) ∧ W8.cell? ⟨w.heap.size, 3, none⟩ = some (.string ta) ∧ W8.cell? ⟨w.heap.size + 1, 0, none⟩ = some (.bool nb) ∧ W8.cell? ⟨w.heap.size + 1, 1, none⟩ = some (.string sb) ∧ W8.cell? ⟨w.heap.size + 1, 2, none⟩ = some (.bool mb) ∧ W8.cell? ⟨w.heap.size + 1, 3, none⟩ = some (.string tb) ∧ W8.cell? ⟨w.heap.size + 1 + 1, 0, none⟩ = some (.bool nc) ∧ W8.cell? ⟨w.heap.size + 1 + 1, 1, none⟩ = some (.string sc) ∧ W8.cell? ⟨w.heap.size + 1 + 1, 2, none⟩ = some (.bool mc) ∧ W8.cell? ⟨w.heap.size + 1 + 1, 3, none⟩ = some (.string tc) := ⟨K.at 0 0 rfl, K.at 0 1 rfl, K.at 0 2 rfl, K.at 0 3 rfl, K.at 1 0 rfl, K.at 1 1 rfl, K.at 1 2 rfl, K.at 1 3 rfl, K.at 2 0 rfl, K.at 2 1 rfl, K.at 2 2 rfl, K.at 2 3 rfl, K.at 3 0 rfl, K.at 3 1 rfl, K.at 3 2 rfl, K.at 3 3 rfl⟩
            go_wp2_with fail
            refine (rcmp_eq Ia.out Ic.out (by omega) Em2.out).mono ?_
            rintro e W9 ⟨rfl, b9⟩
            have K := K.keep b9
            have B := below_more B (Nat.le_refl _) b9
            clear b9
            clear t1 t2 t3 t4 t5 t6 t7 t8 t9 t10 t11 t12 t13 t14 t15 t16
            go_wp2_with fail
            go_meet
            exact ⟨rfl, K, B⟩
          · skip
            go_wp2_with fail
            refine (rcmp_eq Ib.out Ic.out (by omega) Em1.out).mono ?_
            rintro e W10 ⟨rfl, b10⟩
            have K := K.keep b10
            have B := below_more B (Nat.le_refl _) b10
            clear b10
            clear t1 t2 t3 t4 t5 t6 t7 t8 t9 t10 t11 t12 t13 t14 t15 t16
            obtain ⟨t1, t2, t3, t4, t5, t6, t7, t8, t9, t10, t11, t12, t13, t14, t15, t16⟩ : W10.cell? ⟨p3, 0, none⟩ = some (.bool (sg qz.num)) ∧ W10.cell? ⟨p3, 1, none⟩ = some (.string (mg qz.num)) ∧ W10.cell? ⟨p3, 2, none⟩ = some (.bool (sg (qz.den : Int))) ∧ W10.cell? ⟨p3, 3, none⟩ = some (.string (mg (qz.den : Int))) ∧ W10.cell? ⟨w.heap.size, 0, none⟩ = some (.bool na) ∧ W10.cell? ⟨w.heap.size, 1, none⟩ = some (.string sa) ∧ W10.cell? ⟨w.heap.size, 2, none⟩ = some (.bool ma) ∧ W10.cell? ⟨w.heap.size, 3, none⟩ = some (.string ta) ∧ W10.cell? ⟨w.heap.size + 1, 0, none⟩ = some (.bool nb) ∧ W10.cell? ⟨w.heap.size + 1, 1, none⟩ = some (.string sb) ∧ W10.cell? ⟨w.heap.size + 1, 2, none⟩ = some (.bool mb) ∧ W10.cell? ⟨w.heap.size + 1, 3, none⟩ = some (.string tb) ∧ W10.cell? ⟨w.heap.size + 1 + 1, 0, none⟩ = some (.bool nc) ∧ W10.cell? ⟨w.heap.size + 1 + 1, 1, none⟩ = some (.string sc) ∧ W10.cell? ⟨w.heap.size + 1 + 1, 2, none⟩ = some (.bool mc) ∧ W10.cell? ⟨w.heap.size + 1 + 1, 3, none⟩ = some (.string tc) := ⟨K.at 0 0 rfl, K.at 0 1 rfl, K.at 0 2 rfl, K.at 0 3 rfl, K.at 1 0 rfl, K.at 1 1 rfl, K.at 1 2 rfl, K.at 1 3 rfl, K.at 2 0 rfl, K.at 2 1 rfl, K.at 2 2 rfl, K.at 2 3 rfl, K.at 3 0 rfl, K.at 3 1 rfl, K.at 3 2 rfl, K.at 3 3 rfl⟩
            go_wp2_with fail
            refine (rcmp_eq Ia.out Ic.out (by omega) Em2.out).mono ?_
            rintro e W11 ⟨rfl, b11⟩
            have K := K.keep b11
            have B := below_more B (Nat.le_refl _) b11
            clear b11
            clear t1 t2 t3 t4 t5 t6 t7 t8 t9 t10 t11 t12 t13 t14 t15 t16
            go_wp2_with fail
            go_meet
            exact ⟨rfl, K, B⟩
        · skip
          go_wp2_with fail
          refine (rcmp_eq Ib.out Ic.out (by omega) Em1.out).mono ?_
          rintro e W12 ⟨rfl, b12⟩
          have K := K.keep b12
          have B := below_more B (Nat.le_refl _) b12
          clear b12
          go_wp2_with fail
          go_meet
          exact ⟨rfl, K, B⟩
      · rcases Hm1.out with rfl | rfl | rfl
        · rcases Hm2.out (by decide) (by decide) with rfl | rfl
          · skip
            go_wp2_with fail
            refine (rcmp_eq Ib.out Ic.out (by omega) Em1.out).mono ?_
            rintro e W13 ⟨rfl, b13⟩
            have K := K.keep b13
            have B := below_more B (Nat.le_refl _) b13
            clear b13
            clear t1 t2 t3 t4 t5 t6 t7 t8 t9 t10 t11 t12 t13 t14 t15 t16
            obtain ⟨t1, t2, t3, t4, t5, t6, t7, t8, t9, t10, t11, t12, t13, t14, t15, t16⟩ : W13.cell? ⟨p3, 0, none⟩ = some (.bool (sg qz.num)) ∧ W13.cell? ⟨p3, 1, none⟩ = some (.string (mg qz.num)) ∧ W13.cell? ⟨p3, 2, none⟩ = some (.bool (sg (qz.den : Int))) ∧ W13.cell? ⟨p3, 3, none⟩ = some (.string (mg (qz.den : Int))) ∧ W13.cell? ⟨w.heap.size, 0, none⟩ = some (.bool na) ∧ W13.cell? ⟨w.heap.size, 1, none⟩ = some (.string sa) ∧ W13.cell? ⟨w.heap.size, 2, none⟩ = some (.bool ma) ∧ W13.cell? ⟨w.heap.size, 3, none⟩ = some (.string ta) ∧ W13.cell? ⟨w.heap.size + 1, 0, none⟩ = some (.bool nb) ∧ W13.cell? ⟨w.heap.size + 1, 1, none⟩ = some (.string sb) ∧ W13.cell? ⟨w.heap.size + 1, 2, none⟩ = some (.bool mb) ∧ W13.cell? ⟨w.heap.size + 1, 3, none⟩ = some (.string tb) ∧ W13.cell? ⟨w.heap.size + 1 + 1, 0, none⟩ = some (.bool nc) ∧ W13.cell? ⟨w.heap.size + 1 + 1, 1, none⟩ = some (.string sc) ∧ W13.cell? ⟨w.heap.size + 1 + 1, 2, none⟩ = some (.bool mc) ∧ W13.cell? ⟨w.heap.size + 1 + 1, 3, none⟩ = some (.string tc) := ⟨K.at 0 0 rfl, K.at 0 1 rfl, K.at 0 2 rfl, K.at 0 3 rfl, K.at 1 0 rfl, K.at 1 1 rfl, K.at 1 2 rfl, K.at 1 3 rfl, K.at 2 0 rfl, K.at 2 1 rfl, K.at 2 2 rfl, K.at 2 3 rfl, K.at 3 0 rfl, K.at 3 1 rfl, K.at 3 2 rfl, K.at 3 3 rfl⟩
            go_wp2_with fail
            refine (rcmp_eq Ia.out Ic.out (by omega) Em2.out).mono ?_
            rintro e W14 ⟨rfl, b14⟩
            have K := K.keep b14
            have B := below_more B (Nat.le_refl _) b14
            clear b14
            clear t1 t2 t3 t4 t5 t6 t7 t8 t9 t10 t11 t12 t13 t14 t15 t16
            go_wp2_with fail
            go_meet
            exact ⟨rfl, K, B⟩
          · skip
            go_wp2_with fail
            refine (rcmp_eq Ib.out Ic.out (by omega) Em1.out).mono ?_
            rintro e W15 ⟨rfl, b15⟩
            have K := K.keep b15
            have B := below_more B (Nat.le_refl _) b15
            clear b15
            clear t1 t2 t3 t4 t5 t6 t7 t8 t9 t10 t11 t12 t13 t14 t15 t16
            obtain ⟨t1, t2, t3, t4, t5, t6, t7, t8, t9, t10, t11, t12, t13, t14, t15, t16⟩ : W15.cell? ⟨p3, 0, none⟩ = some (.bool (sg qz.num)) ∧ W15.cell? ⟨p3, 1, none⟩ = some (.string (mg qz.num)) ∧ W15.cell? ⟨p3, 2, none⟩ = some (.bool (sg (qz.den : Int))) ∧ W15.cell? ⟨p3, 3, none⟩ = some (.string (mg (qz.den : Int))) ∧ W15.cell? ⟨w.heap.size, 0, none⟩ = some (.bool na) ∧ W15.cell? ⟨w.heap.size, 1, none⟩ = some (.string sa) ∧ W15.cell? ⟨w.heap.size, 2, none⟩ = some (.bool ma) ∧ W15.cell? ⟨w.heap.size, 3, none⟩ = some (.string ta) ∧ W15.cell? ⟨w.heap.size + 1, 0, none⟩ = some (.bool nb) ∧ W15.cell? ⟨w.heap.size + 1, 1, none⟩ = some (.string sb) ∧ W15.cell? ⟨w.heap.size + 1, 2, none⟩ = some (.bool mb) ∧ W15.cell? ⟨w.heap.size + 1, 3, none⟩ = some (.string tb) ∧ W15.cell? ⟨w.heap.size + 1 + 1, 0, none⟩ = some (.bool nc) ∧ W15.cell? ⟨w.heap.size + 1 + 1, 1, none⟩ = some (.string sc) ∧ W15.cell? ⟨w.heap.size + 1 + 1, 2, none⟩ = some (.bool mc) ∧ W15.cell? ⟨w.heap.size + 1 + 1, 3, none⟩ = some (.string tc) := ⟨K.at 0 0 rfl, K.at 0 1 rfl, K.at 0 2 rfl, K.at 0 3 rfl, K.at 1 0 rfl, K.at 1 1 rfl, K.at 1 2 rfl, K.at 1 3 rfl, K.at 2 0 rfl, K.at 2 1 rfl, K.at 2 2 rfl, K.at 2 3 rfl, K.at 3 0 rfl, K.at 3 1 rfl, K.at 3 2 rfl, K.at 3 3 rfl⟩
            go_wp2_with fail
            refine (rcmp_eq Ia.out Ic.out (by omega) Em2.out).mono ?_
            rintro e W16 ⟨rfl, b16⟩
            have K := K.keep b16
            have B := below_more B (Nat.le_refl _) b16
            clear b16
            clear t1 t2 t3 t4 t5 t6 t7 t8 t9 t10 t11 t12 t13 t14 t15 t16
            go_wp2_with fail
            go_meet
            exact ⟨rfl, K, B⟩
        · rcases Hm2.out (by decide) (by decide) with rfl | rfl
          · skip
            go_wp2_with fail
            refine (rcmp_eq Ib.out Ic.out (by omega) Em1.out).mono ?_
            rintro e W17 ⟨rfl, b17⟩
            have K := K.keep b17
            have B := below_more B (Nat.le_refl _) b17
            clear b17
            clear t1 t2 t3 t4 t5 t6 t7 t8 t9 t10 t11 t12 t13 t14 t15 t16
            obtain ⟨t1, t2, t3, t4, t5, t6, t7, t8, t9, t10, t11, t12, t13, t14, t15, t16⟩ : W17.cell? ⟨p3, 0, none⟩ = some (.bool (sg qz.num)) ∧ W17.cell? ⟨p3, 1, none⟩ = some (.string (mg qz.num)) ∧ W17.cell? ⟨p3, 2, none⟩ = some (.bool (sg (qz.den : Int))) ∧ W17.cell? ⟨p3, 3, none⟩ = some (.string (mg (qz.den : Int))) ∧ W17.cell? ⟨w.heap.size, 0, none⟩ = some (.bool na) ∧ W17.cell? ⟨w.heap.size, 1, none⟩ = some (.string sa) ∧ W17.cell? ⟨w.heap.size, 2, none⟩ = some (.bool ma) ∧ W17.cell? ⟨w.heap.size, 3, none⟩ = some (.string ta) ∧ W17.cell? ⟨w.heap.size + 1, 0, none⟩ = some (.bool nb) ∧ W17.cell? ⟨w.heap.size + 1, 1, none⟩ = some (.string sb) ∧ W17.cell? ⟨w.heap.size + 1, 2, none⟩ = some (.bool mb) ∧ W17.cell? ⟨w.heap.size + 1, 3, none⟩ = some (.string tb) ∧ W17.cell? ⟨w.heap.size + 1 + 1, 0, none⟩ = some (.bool nc) ∧ W17.cell? ⟨w.heap.size + 1 + 1, 1, none⟩ = some (.string sc) ∧ W17.cell? ⟨w.heap.size + 1 + 1, 2, none⟩ = some (.bool mc) ∧ W17.cell? ⟨w.heap.size + 1 + 1, 3, none⟩ = some (.string tc) := ⟨K.at 0 0 rfl, K.at 0 1 rfl, K.at 0 2 rfl, K.at 0 3 rfl, K.at 1 0 rfl, K.at 1 1 rfl, K.at 1 2 rfl, K.at 1 3 rfl, K.at 2 0 rfl, K.at 2 1 rfl, K.at 2 2 rfl, K.at 2 3 rfl, K.at 3 0 rfl, K.at 3 1 rfl, K.at 3 2 rfl, K.at 3 3 rfl⟩
            go_wp2_with fail
            refine (rcmp_eq Ia.out Ic.out (by omega) Em2.out).mono ?_
            rintro e W18 ⟨rfl, b18⟩
            have K := K.keep b18
            have B := below_more B (Nat.le_refl _) b18
            clear b18
            clear t1 t2 t3 t4 t5 t6 t7 t8 t9 t10 t11 t12 t13 t14 t15 t16
            go_wp2_with fail
            go_meet
            exact ⟨rfl, K, B⟩
          · skip
            go_wp2_with fail
            refine (rcmp_eq Ib.out Ic.out (by omega) Em1.out).mono ?_
            rintro e W19 ⟨rfl, b19⟩
            have K := K.keep b19
            have B := below_more B (Nat.le_refl _) b19
            clear b19
            clear t1 t2 t3 t4 t5 t6 t7 t8 t9 t10 t11 t12 t13 t14 t15 t16
            obtain ⟨t1, t2, t3, t4, t5, t6, t7, t8, t9, t10, t11, t12, t13, t14, t15, t16⟩ : W19.cell? ⟨p3, 0, none⟩ = some (.bool (sg qz.num)) ∧ W19.cell? ⟨p3, 1, none⟩ = some (.string (mg qz.num)) ∧ W19.cell? ⟨p3, 2, none⟩ = some (.bool (sg (qz.den : Int))) ∧ W19.cell? ⟨p3, 3, none⟩ = some (.string (mg (qz.den : Int))) ∧ W19.cell? ⟨w.heap.size, 0, none⟩ = some (.bool na) ∧ W19.cell? ⟨w.heap.size, 1, none⟩ = some (.string sa) ∧ W19.cell? ⟨w.heap.size, 2, none⟩ = some (.bool ma) ∧ W19.cell? ⟨w.heap.size, 3, none⟩ = some (.string ta) ∧ W19.cell? ⟨w.heap.size + 1, 0, none⟩ = some (.bool nb) ∧ W19.cell? ⟨w.heap.size + 1, 1, none⟩ = some (.string sb) ∧ W19.cell? ⟨w.heap.size + 1, 2, none⟩ = some (.bool mb) ∧ W19.cell? ⟨w.heap.size + 1, 3, none⟩ = some (.string tb) ∧ W19.cell? ⟨w.heap.size + 1 + 1, 0, none⟩ = some (.bool nc) ∧ W19.cell? ⟨w.heap.size + 1 + 1, 1, none⟩ = some (.string sc) ∧ W19.cell? ⟨w.heap.size + 1 + 1, 2, none⟩ = some (.bool mc) ∧ W19.cell? ⟨w.heap.size + 1 + 1, 3, none⟩ = some (.string tc) := ⟨K.at 0 0 rfl, K.at 0 1 rfl, K.at 0 2 rfl, K.at 0 3 rfl, K.at 1 0 rfl, K.at 1 1 rfl, K.at 1 2 rfl, K.at 1 3 rfl, K.at 2 0 rfl, K.at 2 1 rfl, K.at 2 2 rfl, K.at 2 3 rfl, K.at 3 0 rfl, K.at 3 1 rfl, K.at 3 2 rfl, K.at 3 3 rfl⟩
            go_wp2_with fail
            refine (rcmp_eq Ia.out Ic.out (by omega) Em2.out).mono ?_
            rintro e W20 ⟨rfl, b20⟩
            have K := K.keep b20
            have B := below_more B (Nat.le_refl _) b20
            clear b20
            clear t1 t2 t3 t4 t5 t6 t7 t8 t9 t10 t11 t12 t13 t14 t15 t16
            go_wp2_with fail
            go_meet
            exact ⟨rfl, K, B⟩
        · skip
          go_wp2_with fail
          refine (rcmp_eq Ib.out Ic.out (by omega) Em1.out).mono ?_
          rintro e W21 ⟨rfl, b21⟩
          have K := K.keep b21
          have B := below_more B (Nat.le_refl _) b21
          clear b21
          go_wp2_with fail
          go_meet
          exact ⟨rfl, K, B⟩
      · skip
        go_wp2_with fail
        go_meet
        exact ⟨rfl, K, B⟩
    case rest =>
      obtain ⟨rfl, K', B'⟩ := hcut
      clear K B
      have K := K'
      have B := B'
      clear K' B'
      have wp := Hw.out
      obtain ⟨t1, t2, t3, t4, t5, t6, t7, t8, t9, t10, t11, t12, t13, t14, t15, t16⟩ : wc.cell? ⟨p3, 0, none⟩ = some (.bool (sg qz.num)) ∧ wc.cell? ⟨p3, 1, none⟩ = some (.string (mg qz.num)) ∧ wc.cell? ⟨p3, 2, none⟩ = some (.bool (sg (qz.den : Int))) ∧ wc.cell? ⟨p3, 3, none⟩ = some (.string (mg (qz.den : Int))) ∧ wc.cell? ⟨w.heap.size, 0, none⟩ = some (.bool na) ∧ wc.cell? ⟨w.heap.size, 1, none⟩ = some (.string sa) ∧ wc.cell? ⟨w.heap.size, 2, none⟩ = some (.bool ma) ∧ wc.cell? ⟨w.heap.size, 3, none⟩ = some (.string ta) ∧ wc.cell? ⟨w.heap.size + 1, 0, none⟩ = some (.bool nb) ∧ wc.cell? ⟨w.heap.size + 1, 1, none⟩ = some (.string sb) ∧ wc.cell? ⟨w.heap.size + 1, 2, none⟩ = some (.bool mb) ∧ wc.cell? ⟨w.heap.size + 1, 3, none⟩ = some (.string tb) ∧ wc.cell? ⟨w.heap.size + 1 + 1, 0, none⟩ = some (.bool nc) ∧ wc.cell? ⟨w.heap.size + 1 + 1, 1, none⟩ = some (.string sc) ∧ wc.cell? ⟨w.heap.size + 1 + 1, 2, none⟩ = some (.bool mc) ∧ wc.cell? ⟨w.heap.size + 1 + 1, 3, none⟩ = some (.string tc) := ⟨K.at 0 0 rfl, K.at 0 1 rfl, K.at 0 2 rfl, K.at 0 3 rfl, K.at 1 0 rfl, K.at 1 1 rfl, K.at 1 2 rfl, K.at 1 3 rfl, K.at 2 0 rfl, K.at 2 1 rfl, K.at 2 2 rfl, K.at 2 3 rfl, K.at 3 0 rfl, K.at 3 1 rfl, K.at 3 2 rfl, K.at 3 3 rfl⟩
      go_wp2_with fail
      refine (rcmp_eq Ic.out Iz.out (by omega) Eg.out).mono ?_
      rintro e W22 ⟨rfl, b22⟩
      have K := K.keep b22
      have B := below_more B (Nat.le_refl _) b22
      clear b22
      clear t1 t2 t3 t4 t5 t6 t7 t8 t9 t10 t11 t12 t13 t14 t15 t16
      go_upto_region 9 with fail
      obtain ⟨t1, t2, t3, t4, t5, t6, t7, t8, t9, t10, t11, t12, t13, t14, t15, t16⟩ : W22.cell? ⟨p3, 0, none⟩ = some (.bool (sg qz.num)) ∧ W22.cell? ⟨p3, 1, none⟩ = some (.string (mg qz.num)) ∧ W22.cell? ⟨p3, 2, none⟩ = some (.bool (sg (qz.den : Int))) ∧ W22.cell? ⟨p3, 3, none⟩ = some (.string (mg (qz.den : Int))) ∧ W22.cell? ⟨w.heap.size, 0, none⟩ = some (.bool na) ∧ W22.cell? ⟨w.heap.size, 1, none⟩ = some (.string sa) ∧ W22.cell? ⟨w.heap.size, 2, none⟩ = some (.bool ma) ∧ W22.cell? ⟨w.heap.size, 3, none⟩ = some (.string ta) ∧ W22.cell? ⟨w.heap.size + 1, 0, none⟩ = some (.bool nb) ∧ W22.cell? ⟨w.heap.size + 1, 1, none⟩ = some (.string sb) ∧ W22.cell? ⟨w.heap.size + 1, 2, none⟩ = some (.bool mb) ∧ W22.cell? ⟨w.heap.size + 1, 3, none⟩ = some (.string tb) ∧ W22.cell? ⟨w.heap.size + 1 + 1, 0, none⟩ = some (.bool nc) ∧ W22.cell? ⟨w.heap.size + 1 + 1, 1, none⟩ = some (.string sc) ∧ W22.cell? ⟨w.heap.size + 1 + 1, 2, none⟩ = some (.bool mc) ∧ W22.cell? ⟨w.heap.size + 1 + 1, 3, none⟩ = some (.string tc) := ⟨K.at 0 0 rfl, K.at 0 1 rfl, K.at 0 2 rfl, K.at 0 3 rfl, K.at 1 0 rfl, K.at 1 1 rfl, K.at 1 2 rfl, K.at 1 3 rfl, K.at 2 0 rfl, K.at 2 1 rfl, K.at 2 2 rfl, K.at 2 3 rfl, K.at 3 0 rfl, K.at 3 1 rfl, K.at 3 2 rfl, K.at 3 3 rfl⟩
      have K0 : Vars [(p3, [.bool (sg qz.num), .string (mg qz.num), .bool (sg (qz.den : Int)), .string (mg (qz.den : Int))]), (w.heap.size, [.bool na, .string sa, .bool ma, .string ta]), (w.heap.size + 1, [.bool nb, .string sb, .bool mb, .string tb]), (w.heap.size + 1 + 1, [.bool nc, .string sc, .bool mc, .string tc])] W22.drew := K
      have B0 := B.drew
      have KB := And.intro K0 B0
      clear K0 B0
      go_region_held3 (fun W => W.cell? ⟨p3, 0, none⟩ = some (.bool (sg qz.num)) ∧ W.cell? ⟨p3, 1, none⟩ = some (.string (mg qz.num)) ∧ W.cell? ⟨p3, 2, none⟩ = some (.bool (sg (qz.den : Int))) ∧ W.cell? ⟨p3, 3, none⟩ = some (.string (mg (qz.den : Int))) ∧ W.cell? ⟨w.heap.size, 0, none⟩ = some (.bool na) ∧ W.cell? ⟨w.heap.size, 1, none⟩ = some (.string sa) ∧ W.cell? ⟨w.heap.size, 2, none⟩ = some (.bool ma) ∧ W.cell? ⟨w.heap.size, 3, none⟩ = some (.string ta) ∧ W.cell? ⟨w.heap.size + 1, 0, none⟩ = some (.bool nb) ∧ W.cell? ⟨w.heap.size + 1, 1, none⟩ = some (.string sb) ∧ W.cell? ⟨w.heap.size + 1, 2, none⟩ = some (.bool mb) ∧ W.cell? ⟨w.heap.size + 1, 3, none⟩ = some (.string tb) ∧ W.cell? ⟨w.heap.size + 1 + 1, 0, none⟩ = some (.bool nc) ∧ W.cell? ⟨w.heap.size + 1 + 1, 1, none⟩ = some (.string sc) ∧ W.cell? ⟨w.heap.size + 1 + 1, 2, none⟩ = some (.bool mc) ∧ W.cell? ⟨w.heap.size + 1 + 1, 3, none⟩ = some (.string tc))
        (first | exact ⟨KB.1.at 0 0 rfl, KB.1.at 0 1 rfl, KB.1.at 0 2 rfl, KB.1.at 0 3 rfl, KB.1.at 1 0 rfl, KB.1.at 1 1 rfl, KB.1.at 1 2 rfl, KB.1.at 1 3 rfl, KB.1.at 2 0 rfl, KB.1.at 2 1 rfl, KB.1.at 2 2 rfl, KB.1.at 2 3 rfl, KB.1.at 3 0 rfl, KB.1.at 3 1 rfl, KB.1.at 3 2 rfl, KB.1.at 3 3 rfl⟩)
        (first
          | (go_at_call 12; (first | (with_reducible refine (radd_any _ _ qa qc qs 400 _ Ia.out Ic.out (by omega) Es.out).mono ?_) | (with_reducible refine (radd_any _ _ qb qc qt 400 _ Ib.out Ic.out (by omega) Et.out).mono ?_)); rintro e X ⟨rfl, bX⟩; (try unfold ratV); have KB := And.intro (KB.1.keep bX) (below_more KB.2 (Nat.le_refl _) bX))
          | (go_at_call 13; (first | (with_reducible refine (rmul_any _ _ qa qc qp 400 _ Ia.out Ic.out (by omega) Ep.out).mono ?_) | (with_reducible refine (rmul_any _ _ qb qc qr 400 _ Ib.out Ic.out (by omega) Er.out).mono ?_)); rintro e X ⟨rfl, bX⟩; (try unfold ratV); have KB := And.intro (KB.1.keep bX) (below_more KB.2 (Nat.le_refl _) bX))
          | (go_at_call 18; (first | (with_reducible refine (rcmp_eq Is.out It.out (by omega) Es'.out).mono ?_) | (with_reducible refine (rcmp_eq Ip.out Ir.out (by omega) Ep'.out).mono ?_)); rintro e X ⟨rfl, bX⟩; (try unfold ratV); have KB := And.intro (KB.1.keep bX) (below_more KB.2 (Nat.le_refl _) bX))
          | (go_at_call 11; (with_reducible refine (awaker_any _ (H0.out.keep KB.2) (tab_keep Ht.out KB.2)).mono ?_); rintro e X ⟨rfl, bX⟩; (try unfold ratV); have KB := And.intro (KB.1.keep bX) (below_more KB.2 (Nat.le_refl _) bX)))
      all_goals
        go_wp2
        go_ret
        exact ⟨rfl, KB.2⟩
end Go.Proofs.YtabmhckgdncjlaaGreatDoor

namespace Go.Proofs.YtabmhckgdncjlaaGreatDoor.rationalOrder
open Go.ChangeShapes Go.WideShapes Go.ChangeAt Go.RowKit
open Go.ChangeMaps (open_string shut_string)
set_option maxRecDepth 100000
set_option linter.unusedVariables false

theorem contract (H : Type) (enc : TypeId × Value → H) (W : World) (base : Nat) (args : Array Value) (ds gs : List (DataW H)) (before : List MemPlace)
    (hval : ∀ (j : Nat) t v, Tryz.f4.params[j]? = some t → args[j]? = some v → Value.okWide Tryz.prog W .any base t v)
    (hW : DataW.Whole enc Tryz.prog Tryz.f4.params.toList Rows.rationalOrderSpec.vars false W args.toList ds gs before) (hL : laidMetH Tryz.prog Rows.rationalOrderRow.laid W) (hS : W.ShapedOpen Tryz.prog) :
    Calls Tryz.prog 4 args W fun e W' => ∃ v, e = .returned v ∧ Rows.rationalOrderSpec.post enc Tryz.prog Tryz.f4 false true false false W args v W' := by
  have hW' := hW
  obtain ⟨p, q, hA0, hV, rfl, hfz, hnd⟩ := hW
  have hA : DataW.TrodAll enc Tryz.prog W 0 (fun _ => true) true Tryz.f4.params.toList args.toList ds p := hA0
  rw [Tryz.params4] at hA hval
  obtain ⟨v0, vs0, d0, ds0, p0, q0, hargs, rfl, rfl, h0, r0⟩ := trodAll_cons hA
  obtain ⟨v1, vs1, d1, ds1, p1, q1, rfl, rfl, rfl, h1, r1⟩ := trodAll_cons r0
  obtain ⟨v2, vs2, d2, ds2, p2, q2, rfl, rfl, rfl, h2, r2⟩ := trodAll_cons r1
  obtain ⟨rfl, rfl, rfl⟩ := trodAll_nil r2
  obtain rfl : args = #[v0, v1, v2] := by cases args; simp_all
  obtain ⟨rfl, rfl⟩ := trodVars_none hV
  obtain ⟨g0, s0, k0, t0, rfl, rfl, rfl, z0, y0⟩ := rat_open (hval 0 25 v0 rfl rfl) h0
  obtain ⟨g1, s1, k1, t1, rfl, rfl, rfl, z1, y1⟩ := rat_open (hval 1 25 v1 rfl rfl) h1
  obtain ⟨g2, s2, k2, t2, rfl, rfl, rfl, z2, y2⟩ := rat_open (hval 2 25 v2 rfl rfl) h2
  clear hA0
  simp only [List.append_nil] at hW'
  refine (order02_law g0 s0 k0 t0 g1 s1 k1 t1 g2 s2 k2 t2 W z0 y0 z1 y1 z2 y2 (zero0 hS) (tabPow hL)).mono fun e W' ⟨he, hb⟩ => ?_
  subst he
  refine ⟨_, rfl, _, _, _, [], [], [], hW', ?_, ?_, ?_, hb.frame _, fun h => by cases h⟩
  · exact trodAll_cons_mk (p := []) (shut_bool Tryz.underlying4 true) trodAll_mk0
  · exact (trodAll_cons_mk (p := []) (rat_shut z0 y0) (trodAll_cons_mk (p := []) (rat_shut z1 y1) (trodAll_cons_mk (p := []) (rat_shut z2 y2) trodAll_mk0)))
  · rfl

theorem reads (os : Os) {H : Type} (enc : TypeId × Value → H) : ∃ places, DataW.whole enc Tryz.prog ((laidWorld os).forCall (fun _ _ => 0) ⟨#[], #[.agg #[.bool false, .string ⟨#[]⟩, .bool false, .string ⟨#[]⟩], .agg #[.bool false, .string ⟨#[]⟩, .bool false, .string ⟨#[]⟩], .agg #[.bool false, .string ⟨#[]⟩, .bool false, .string ⟨#[]⟩]], []⟩).memory Tryz.f4.params.toList Rows.rationalOrderSpec.vars false [.agg #[.bool false, .string ⟨#[]⟩, .bool false, .string ⟨#[]⟩], .agg #[.bool false, .string ⟨#[]⟩, .bool false, .string ⟨#[]⟩], .agg #[.bool false, .string ⟨#[]⟩, .bool false, .string ⟨#[]⟩]] 8 = some ([.agg [.agg [.lit (.bool false), .lit (.string [])], .agg [.lit (.bool false), .lit (.string [])]], .agg [.agg [.lit (.bool false), .lit (.string [])], .agg [.lit (.bool false), .lit (.string [])]], .agg [.agg [.lit (.bool false), .lit (.string [])], .agg [.lit (.bool false), .lit (.string [])]]], [], places) :=
  ⟨[], by kernel_rfl⟩

theorem lifted (os : Os) (started : os.Started) (H : Type) (enc : TypeId × Value → H) (F : Stop.Interp) :
    ReturnsInHanded {} Tryz.checked os 4 .any ((OpenSpec.ofChange Rows.rationalOrderSpec).preRow enc Tryz.prog Tryz.f4 Rows.rationalOrderRow.domain false Rows.rationalOrderRow.laid) (((OpenSpec.ofChange Rows.rationalOrderSpec).at F).post enc Tryz.prog Tryz.f4 false true false false) := by
  obtain ⟨places, hx⟩ := reads os enc
  refine returnsInHanded_of_row (C := Tryz.checked) (s := OpenSpec.ofChange Rows.rationalOrderSpec) ownNone started (by kernel_rfl) Tryz.func4
    (witness_row_at (enc := enc) (C := Tryz.checked) false (laidWorld os) #[.agg #[.bool false, .string ⟨#[]⟩, .bool false, .string ⟨#[]⟩], .agg #[.bool false, .string ⟨#[]⟩, .bool false, .string ⟨#[]⟩], .agg #[.bool false, .string ⟨#[]⟩, .bool false, .string ⟨#[]⟩]] rfl (by kernel_rfl) (by kernel_rfl) (by kernel_rfl)
      (OpenSpec.preRow_of_cond 8 hx (by kernel_rfl) (fun k hk => by cases hk) (by kernel_rfl) (laid_met os _))) ?_
  intro W base args ds gs before hval hW _ _ _ hL hS _
  exact contract H enc W base args ds gs before hval hW hL hS

theorem said : Rows.RationalOrderSaid :=
  OpenClaim.holds_of_cond 4 Tryz.f4 rfl rfl rfl rfl rfl rfl rfl ⟨rfl, rfl, rfl, rfl, rfl⟩ rfl rfl rfl rfl rfl (by kernel_rfl) Tryz.func4 (by kernel_rfl)
    (of_decide_eq_true (by kernel_rfl)) (by unfold Func.isWrapper; first | (rw [if_pos (by decide +kernel)]; kernel_rfl) | (rw [if_neg (by decide +kernel)]; exact ⟨rfl, rfl⟩))
    (fun os started H enc _ F => by rw [OpenClaim.pre_eq_preRow]; exact lifted os started H enc F)

theorem plain (f : FuncId) (fn : Func) (hf : Tryz.pinned.checked.prog.funcNamed "groove/groovelaw02.RationalOrder" = some f) (hfn : Tryz.pinned.checked.prog.funcs[f]? = some fn) :
    false = Tryz.pinned.checked.prog.looks [] ∧ ∀ (j : Nat) t, fn.params[j]? = some t → Tryz.pinned.checked.prog.wantsStandIn t = false := by
  obtain rfl : f = 4 := Option.some.inj ((show Tryz.prog.funcNamed "groove/groovelaw02.RationalOrder" = some 4 by kernel_rfl).symm.trans hf) |>.symm
  obtain rfl : fn = Tryz.f4 := (Option.some.inj (Tryz.func4.symm.trans hfn)).symm
  refine ⟨by kernel_rfl, fun j t ht => ?_⟩
  rw [Tryz.params4] at ht
  have hm := Array.mem_of_getElem? ht
  obtain rfl : t = 25 := by simpa using hm
  exact noStandR

/-- RationalOrder's card. -/
theorem card : Rows.RationalOrderCardSaid :=
  Claim7.holds_tied_plain_at .later [] _ _ _ _ said (fun _ h => by cases h) (by kernel_rfl) (fun _ h => by cases h) rationalOrder_row_tie rfl ⟨rfl, rfl⟩ (by kernel_rfl) rfl plain (by kernel_rfl)
end Go.Proofs.YtabmhckgdncjlaaGreatDoor.rationalOrder
