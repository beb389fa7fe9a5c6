/- RationalArithmetic returns true for every input: the walk. Conditions: its own table, and what is in memory. RationalArithmetic returns true for every input: the law's row, and its card, tied to the program's text. Conditions: those of the row: its tables read as listed (the card ties them to the program's text). -/
import Derived.Test.YtfcdekkoeeaolaaGreatDoorQ55

namespace Go.Proofs.YtfcdekkoeeaolaaGreatDoor
open Go.RowKit
set_option linter.unusedSimpArgs false
set_option linter.unusedVariables false
attribute [local go_sem ↓] eqlInt guardInt2 eqlRat guardRat2 sameR_self

set_option maxRecDepth 100000 in
set_option maxHeartbeats 12800000 in
theorem rarith_any (na : Bool) (sa : ByteArray) (ma : Bool) (ta : ByteArray) (nb : Bool) (sb : ByteArray) (mb : Bool) (tb : ByteArray) (n d : Int) (w : World) (hsa : sa.size ≤ 9223372036854775807) (hta : ta.size ≤ 9223372036854775807) (hsb : sb.size ≤ 9223372036854775807) (htb : tb.size ≤ 9223372036854775807)(hn0 : -9223372036854775808 ≤ n) (hn1 : n ≤ 9223372036854775807) (hd0 : -9223372036854775808 ≤ d) (hd1 : d ≤ 9223372036854775807)  (h0 : Zero0 w) (htab : Lib.TabIs Tryz.prog w "internal/strconv.uint64pow10" .u64 Lib.pow10Tab) :
    Calls Tryz.prog 5 #[.agg #[.bool na, .string sa, .bool ma, .string ta], .agg #[.bool nb, .string sb, .bool mb, .string tb], .int .i64 n, .int .i64 d] w fun e w' => e = .returned (.bool true) ∧ Below w.heap.size w w' := by
  have H0 := Lib.hid h0
  have Ht := Lib.hid htab
  clear h0 htab
  go_enter Tryz.func5, Tryz.ntmps5
  go_wp2_with fail
  refine (greatR_any (w.heap.size + 1 + 1) 2 2 (sel [na, nb] false) (sel [sa, sb] ⟨#[]⟩) (sel [ma, mb] false) (sel [ta, tb] ⟨#[]⟩) _ ?_ (by omega) ?_).mono ?_
  · intro i hi
    have : i = 0 ∨ i = 1 := by omega
    rcases this with rfl | rfl <;> (refine ⟨?_, ?_, ?_, ?_⟩ <;> simp [go_sem, sel])
  · intro i hi
    have : i = 0 ∨ i = 1 := by omega
    rcases this with rfl | rfl
    · exact ⟨hsa, hta⟩
    · exact ⟨hsb, htb⟩
  rintro e W0 ⟨rfl, b0⟩
  rw [great2R]
  have K : Vars [(w.heap.size, [.bool na, .string sa, .bool ma, .string ta]), (w.heap.size + 1, [.bool nb, .string sb, .bool mb, .string tb])] W0 := Vars.keep b0 (Vars.cons (four_cells (by simp [go_sem]) (by simp [go_sem]) (by simp [go_sem]) (by simp [go_sem])) (Vars.cons (four_cells (by simp [go_sem]) (by simp [go_sem]) (by simp [go_sem]) (by simp [go_sem])) (Vars.nil _)))
  have B : Below w.heap.size w W0 := below_more (below3 w _ _ _) (Nat.le_refl _) b0
  clear b0
  by_cases hg : ((decide (24 < sa.size) || decide (24 < ta.size)) || (decide (24 < sb.size) || decide (24 < tb.size))) = true
  · rw [hg]
    clear K
    go_wp2_with fail
    refine (awaker_any _ (H0.out.keep B) (tab_keep Ht.out B)).mono ?_
    rintro e W2 ⟨rfl, b2⟩
    go_wp2
    go_ret
    exact ⟨rfl, below_more B (Nat.le_refl _) b2⟩
  rw [Bool.not_eq_true] at hg
  rw [hg]
  have h24 : (sa.size ≤ 24 ∧ ta.size ≤ 24) ∧ (sb.size ≤ 24 ∧ tb.size ≤ 24) := by simpa using hg
  obtain ⟨⟨za1, za2⟩, zb1, zb2⟩ := h24
  clear hg hsa hta hsb htb
  obtain ⟨ck, CK⟩ := check_both (na := na) (nb := ma) za1 za2
  obtain ⟨x1, x2, x3, x4, ex, NW⟩ := new_both (na := na) (nb := mb) za1 zb2
  obtain ⟨u1, u2, u3, u4, eu, RT⟩ := ratio_both hn0 hn1 hd0 hd1
  obtain ⟨v1, v2, v3, v4, ev, QU⟩ := quo_both (na := na) (nb := ma) (nc := nb) (nd := mb) za1 za2 zb1 zb2
  obtain ⟨o1, o2, o3, o4, OF⟩ := of_both (na := ma) za2
  obtain ⟨a1, a2, a3, a4, AD⟩ := add_both (na := na) (nb := ma) (nc := nb) (nd := mb) za1 za2 zb1 zb2
  obtain ⟨s1, s2, s3, s4, SU⟩ := sub_both (na := na) (nb := ma) (nc := nb) (nd := mb) za1 za2 zb1 zb2
  obtain ⟨m1, m2, m3, m4, MU⟩ := mul_both (na := na) (nb := ma) (nc := nb) (nd := mb) za1 za2 zb1 zb2
  obtain ⟨g1, g2, g3, g4, NG⟩ := neg_both (na := na) (nb := ma) za1 za2
  obtain ⟨cc, CM⟩ := cmp_both (na := na) (nb := ma) (nc := nb) (nd := mb) za1 za2 zb1 zb2
  obtain ⟨f1, f2, FO⟩ := floor_both (na := na) (nb := ma) za1 za2
  clear za1 za2 zb1 zb2 hn0 hn1 hd0 hd1
  have HCK1 := Lib.hid CK.1
  have HCK2 := Lib.hid CK.2
  clear CK
  have HNW1 := Lib.hid NW.1
  have HNW2 := Lib.hid NW.2
  clear NW
  have HRT1 := Lib.hid RT.1
  have HRT2 := Lib.hid RT.2
  clear RT
  have HQU1 := Lib.hid QU.1
  have HQU2 := Lib.hid QU.2
  clear QU
  have HOF1 := Lib.hid OF.1
  have HOF2 := Lib.hid OF.2
  clear OF
  have HAD1 := Lib.hid AD.1
  have HAD2 := Lib.hid AD.2
  clear AD
  have HSU1 := Lib.hid SU.1
  have HSU2 := Lib.hid SU.2
  clear SU
  have HMU1 := Lib.hid MU.1
  have HMU2 := Lib.hid MU.2
  clear MU
  have HNG1 := Lib.hid NG.1
  have HNG2 := Lib.hid NG.2
  clear NG
  have HCM1 := Lib.hid CM.1
  have HCM2 := Lib.hid CM.2
  clear CM
  have HFO1 := Lib.hid FO.1
  have HFO2 := Lib.hid FO.2
  clear FO
  obtain ⟨t1, t2, t3, t4, t5, t6, t7, t8⟩ : W0.cell? ⟨w.heap.size, 0, none⟩ = some (.bool na) ∧ W0.cell? ⟨w.heap.size, 1, none⟩ = some (.string sa) ∧ W0.cell? ⟨w.heap.size, 2, none⟩ = some (.bool ma) ∧ W0.cell? ⟨w.heap.size, 3, none⟩ = some (.string ta) ∧ W0.cell? ⟨w.heap.size + 1, 0, none⟩ = some (.bool nb) ∧ W0.cell? ⟨w.heap.size + 1, 1, none⟩ = some (.string sb) ∧ W0.cell? ⟨w.heap.size + 1, 2, none⟩ = some (.bool mb) ∧ W0.cell? ⟨w.heap.size + 1, 3, none⟩ = some (.string tb) := ⟨K.at 0 0 rfl, K.at 0 1 rfl, K.at 0 2 rfl, K.at 0 3 rfl, K.at 1 0 rfl, K.at 1 1 rfl, K.at 1 2 rfl, K.at 1 3 rfl⟩
  go_wp2_with fail
  refine (HNW1.out _).mono ?_
  rintro e W1 ⟨rfl, b1⟩
  have K := K.keep b1
  have B := below_more B (Nat.le_refl _) b1
  clear b1
  clear t1 t2 t3 t4 t5 t6 t7 t8
  have hbl := below1 W1 (.cells #[.bool x1, .string x2, .bool x3, .string x4] 36)
  have K : Vars ((W1.heap.size, [.bool x1, .string x2, .bool x3, .string x4]) :: [(w.heap.size, [.bool na, .string sa, .bool ma, .string ta]), (w.heap.size + 1, [.bool nb, .string sb, .bool mb, .string tb])]) (W1.alloc (.cells #[.bool x1, .string x2, .bool x3, .string x4] 36)) := Vars.new K _ _
  have B := below_more B (Nat.le_refl _) hbl
  clear hbl
  go_upto_region 4 with fail
  generalize W1.alloc (.cells #[.bool x1, .string x2, .bool x3, .string x4] 36) = V2 at *
  generalize W1.heap.size = p2 at *
  obtain ⟨t1, t2, t3, t4, t5, t6, t7, t8, t9, t10, t11, t12⟩ : V2.cell? ⟨p2, 0, none⟩ = some (.bool x1) ∧ V2.cell? ⟨p2, 1, none⟩ = some (.string x2) ∧ V2.cell? ⟨p2, 2, none⟩ = some (.bool x3) ∧ V2.cell? ⟨p2, 3, none⟩ = some (.string x4) ∧ V2.cell? ⟨w.heap.size, 0, none⟩ = some (.bool na) ∧ V2.cell? ⟨w.heap.size, 1, none⟩ = some (.string sa) ∧ V2.cell? ⟨w.heap.size, 2, none⟩ = some (.bool ma) ∧ V2.cell? ⟨w.heap.size, 3, none⟩ = some (.string ta) ∧ V2.cell? ⟨w.heap.size + 1, 0, none⟩ = some (.bool nb) ∧ V2.cell? ⟨w.heap.size + 1, 1, none⟩ = some (.string sb) ∧ V2.cell? ⟨w.heap.size + 1, 2, none⟩ = some (.bool mb) ∧ V2.cell? ⟨w.heap.size + 1, 3, none⟩ = some (.string tb) := ⟨K.at 0 0 rfl, K.at 0 1 rfl, K.at 0 2 rfl, K.at 0 3 rfl, K.at 1 0 rfl, K.at 1 1 rfl, K.at 1 2 rfl, K.at 1 3 rfl, K.at 2 0 rfl, K.at 2 1 rfl, K.at 2 2 rfl, K.at 2 3 rfl⟩
  go_wp2_with fail
  refine (HNW2.out _).mono ?_
  rintro e W3 ⟨rfl, b3⟩
  have K := K.keep b3
  have B := below_more B (Nat.le_refl _) b3
  clear b3
  clear t1 t2 t3 t4 t5 t6 t7 t8 t9 t10 t11 t12
  have hbl := below1 W3 (.cells #[.bool x1, .string x2, .bool x3, .string x4] 36)
  have K : Vars ((W3.heap.size, [.bool x1, .string x2, .bool x3, .string x4]) :: [(p2, [.bool x1, .string x2, .bool x3, .string x4]), (w.heap.size, [.bool na, .string sa, .bool ma, .string ta]), (w.heap.size + 1, [.bool nb, .string sb, .bool mb, .string tb])]) (W3.alloc (.cells #[.bool x1, .string x2, .bool x3, .string x4] 36)) := Vars.new K _ _
  have B := below_more B (Nat.le_refl _) hbl
  clear hbl
  go_upto_region 5 with fail
  generalize W3.alloc (.cells #[.bool x1, .string x2, .bool x3, .string x4] 36) = V4 at *
  generalize W3.heap.size = p4 at *
  obtain ⟨t1, t2, t3, t4, t5, t6, t7, t8, t9, t10, t11, t12, t13, t14, t15, t16⟩ : V4.cell? ⟨p4, 0, none⟩ = some (.bool x1) ∧ V4.cell? ⟨p4, 1, none⟩ = some (.string x2) ∧ V4.cell? ⟨p4, 2, none⟩ = some (.bool x3) ∧ V4.cell? ⟨p4, 3, none⟩ = some (.string x4) ∧ V4.cell? ⟨p2, 0, none⟩ = some (.bool x1) ∧ V4.cell? ⟨p2, 1, none⟩ = some (.string x2) ∧ V4.cell? ⟨p2, 2, none⟩ = some (.bool x3) ∧ V4.cell? ⟨p2, 3, none⟩ = some (.string x4) ∧ V4.cell? ⟨w.heap.size, 0, none⟩ = some (.bool na) ∧ V4.cell? ⟨w.heap.size, 1, none⟩ = some (.string sa) ∧ V4.cell? ⟨w.heap.size, 2, none⟩ = some (.bool ma) ∧ V4.cell? ⟨w.heap.size, 3, none⟩ = some (.string ta) ∧ V4.cell? ⟨w.heap.size + 1, 0, none⟩ = some (.bool nb) ∧ V4.cell? ⟨w.heap.size + 1, 1, none⟩ = some (.string sb) ∧ V4.cell? ⟨w.heap.size + 1, 2, none⟩ = some (.bool mb) ∧ V4.cell? ⟨w.heap.size + 1, 3, none⟩ = some (.string tb) := ⟨K.at 0 0 rfl, K.at 0 1 rfl, K.at 0 2 rfl, K.at 0 3 rfl, K.at 1 0 rfl, K.at 1 1 rfl, K.at 1 2 rfl, K.at 1 3 rfl, K.at 2 0 rfl, K.at 2 1 rfl, K.at 2 2 rfl, K.at 2 3 rfl, K.at 3 0 rfl, K.at 3 1 rfl, K.at 3 2 rfl, K.at 3 3 rfl⟩
  go_wp2_with fail
  refine (HRT1.out _).mono ?_
  rintro e W5 ⟨rfl, b5⟩
  have K := K.keep b5
  have B := below_more B (Nat.le_refl _) b5
  clear b5
  clear t1 t2 t3 t4 t5 t6 t7 t8 t9 t10 t11 t12 t13 t14 t15 t16
  have hbl := below1 W5 (.cells #[.bool u1, .string u2, .bool u3, .string u4] 36)
  have K : Vars ((W5.heap.size, [.bool u1, .string u2, .bool u3, .string u4]) :: [(p4, [.bool x1, .string x2, .bool x3, .string x4]), (p2, [.bool x1, .string x2, .bool x3, .string x4]), (w.heap.size, [.bool na, .string sa, .bool ma, .string ta]), (w.heap.size + 1, [.bool nb, .string sb, .bool mb, .string tb])]) (W5.alloc (.cells #[.bool u1, .string u2, .bool u3, .string u4] 36)) := Vars.new K _ _
  have B := below_more B (Nat.le_refl _) hbl
  clear hbl
  go_upto_region 6 with fail
  generalize W5.alloc (.cells #[.bool u1, .string u2, .bool u3, .string u4] 36) = V6 at *
  generalize W5.heap.size = p6 at *
  obtain ⟨t1, t2, t3, t4, t5, t6, t7, t8, t9, t10, t11, t12, t13, t14, t15, t16, t17, t18, t19, t20⟩ : V6.cell? ⟨p6, 0, none⟩ = some (.bool u1) ∧ V6.cell? ⟨p6, 1, none⟩ = some (.string u2) ∧ V6.cell? ⟨p6, 2, none⟩ = some (.bool u3) ∧ V6.cell? ⟨p6, 3, none⟩ = some (.string u4) ∧ V6.cell? ⟨p4, 0, none⟩ = some (.bool x1) ∧ V6.cell? ⟨p4, 1, none⟩ = some (.string x2) ∧ V6.cell? ⟨p4, 2, none⟩ = some (.bool x3) ∧ V6.cell? ⟨p4, 3, none⟩ = some (.string x4) ∧ V6.cell? ⟨p2, 0, none⟩ = some (.bool x1) ∧ V6.cell? ⟨p2, 1, none⟩ = some (.string x2) ∧ V6.cell? ⟨p2, 2, none⟩ = some (.bool x3) ∧ V6.cell? ⟨p2, 3, none⟩ = some (.string x4) ∧ V6.cell? ⟨w.heap.size, 0, none⟩ = some (.bool na) ∧ V6.cell? ⟨w.heap.size, 1, none⟩ = some (.string sa) ∧ V6.cell? ⟨w.heap.size, 2, none⟩ = some (.bool ma) ∧ V6.cell? ⟨w.heap.size, 3, none⟩ = some (.string ta) ∧ V6.cell? ⟨w.heap.size + 1, 0, none⟩ = some (.bool nb) ∧ V6.cell? ⟨w.heap.size + 1, 1, none⟩ = some (.string sb) ∧ V6.cell? ⟨w.heap.size + 1, 2, none⟩ = some (.bool mb) ∧ V6.cell? ⟨w.heap.size + 1, 3, none⟩ = some (.string tb) := ⟨K.at 0 0 rfl, K.at 0 1 rfl, K.at 0 2 rfl, K.at 0 3 rfl, K.at 1 0 rfl, K.at 1 1 rfl, K.at 1 2 rfl, K.at 1 3 rfl, K.at 2 0 rfl, K.at 2 1 rfl, K.at 2 2 rfl, K.at 2 3 rfl, K.at 3 0 rfl, K.at 3 1 rfl, K.at 3 2 rfl, K.at 3 3 rfl, K.at 4 0 rfl, K.at 4 1 rfl, K.at 4 2 rfl, K.at 4 3 rfl⟩
  go_wp2_with fail
  refine (HRT2.out _).mono ?_
  rintro e W7 ⟨rfl, b7⟩
  have K := K.keep b7
  have B := below_more B (Nat.le_refl _) b7
  clear b7
  clear t1 t2 t3 t4 t5 t6 t7 t8 t9 t10 t11 t12 t13 t14 t15 t16 t17 t18 t19 t20
  have hbl := below1 W7 (.cells #[.bool u1, .string u2, .bool u3, .string u4] 36)
  have K : Vars ((W7.heap.size, [.bool u1, .string u2, .bool u3, .string u4]) :: [(p6, [.bool u1, .string u2, .bool u3, .string u4]), (p4, [.bool x1, .string x2, .bool x3, .string x4]), (p2, [.bool x1, .string x2, .bool x3, .string x4]), (w.heap.size, [.bool na, .string sa, .bool ma, .string ta]), (w.heap.size + 1, [.bool nb, .string sb, .bool mb, .string tb])]) (W7.alloc (.cells #[.bool u1, .string u2, .bool u3, .string u4] 36)) := Vars.new K _ _
  have B := below_more B (Nat.le_refl _) hbl
  clear hbl
  go_upto_region 7 with fail
  generalize W7.alloc (.cells #[.bool u1, .string u2, .bool u3, .string u4] 36) = V8 at *
  generalize W7.heap.size = p8 at *
  obtain ⟨t1, t2, t3, t4, t5, t6, t7, t8, t9, t10, t11, t12, t13, t14, t15, t16, t17, t18, t19, t20, t21, t22, t23, t24⟩ : V8.cell? ⟨p8, 0, none⟩ = some (.bool u1) ∧ V8.cell? ⟨p8, 1, none⟩ = some (.string u2) ∧ V8.cell? ⟨p8, 2, none⟩ = some (.bool u3) ∧ V8.cell? ⟨p8, 3, none⟩ = some (.string u4) ∧ V8.cell? ⟨p6, 0, none⟩ = some (.bool u1) ∧ V8.cell? ⟨p6, 1, none⟩ = some (.string u2) ∧ V8.cell? ⟨p6, 2, none⟩ = some (.bool u3) ∧ V8.cell? ⟨p6, 3, none⟩ = some (.string u4) ∧ V8.cell? ⟨p4, 0, none⟩ = some (.bool x1) ∧ V8.cell? ⟨p4, 1, none⟩ = some (.string x2) ∧ V8.cell? ⟨p4, 2, none⟩ = some (.bool x3) ∧ V8.cell? ⟨p4, 3, none⟩ = some (.string x4) ∧ V8.cell? ⟨p2, 0, none⟩ = some (.bool x1) ∧ V8.cell? ⟨p2, 1, none⟩ = some (.string x2) ∧ V8.cell? ⟨p2, 2, none⟩ = some (.bool x3) ∧ V8.cell? ⟨p2, 3, none⟩ = some (.string x4) ∧ V8.cell? ⟨w.heap.size, 0, none⟩ = some (.bool na) ∧ V8.cell? ⟨w.heap.size, 1, none⟩ = some (.string sa) ∧ V8.cell? ⟨w.heap.size, 2, none⟩ = some (.bool ma) ∧ V8.cell? ⟨w.heap.size, 3, none⟩ = some (.string ta) ∧ V8.cell? ⟨w.heap.size + 1, 0, none⟩ = some (.bool nb) ∧ V8.cell? ⟨w.heap.size + 1, 1, none⟩ = some (.string sb) ∧ V8.cell? ⟨w.heap.size + 1, 2, none⟩ = some (.bool mb) ∧ V8.cell? ⟨w.heap.size + 1, 3, none⟩ = some (.string tb) := ⟨K.at 0 0 rfl, K.at 0 1 rfl, K.at 0 2 rfl, K.at 0 3 rfl, K.at 1 0 rfl, K.at 1 1 rfl, K.at 1 2 rfl, K.at 1 3 rfl, K.at 2 0 rfl, K.at 2 1 rfl, K.at 2 2 rfl, K.at 2 3 rfl, K.at 3 0 rfl, K.at 3 1 rfl, K.at 3 2 rfl, K.at 3 3 rfl, K.at 4 0 rfl, K.at 4 1 rfl, K.at 4 2 rfl, K.at 4 3 rfl, K.at 5 0 rfl, K.at 5 1 rfl, K.at 5 2 rfl, K.at 5 3 rfl⟩
  go_wp2_with fail
  refine (HQU1.out _).mono ?_
  rintro e W9 ⟨rfl, b9⟩
  have K := K.keep b9
  have B := below_more B (Nat.le_refl _) b9
  clear b9
  clear t1 t2 t3 t4 t5 t6 t7 t8 t9 t10 t11 t12 t13 t14 t15 t16 t17 t18 t19 t20 t21 t22 t23 t24
  have hbl := below1 W9 (.cells #[.bool v1, .string v2, .bool v3, .string v4] 36)
  have K : Vars ((W9.heap.size, [.bool v1, .string v2, .bool v3, .string v4]) :: [(p8, [.bool u1, .string u2, .bool u3, .string u4]), (p6, [.bool u1, .string u2, .bool u3, .string u4]), (p4, [.bool x1, .string x2, .bool x3, .string x4]), (p2, [.bool x1, .string x2, .bool x3, .string x4]), (w.heap.size, [.bool na, .string sa, .bool ma, .string ta]), (w.heap.size + 1, [.bool nb, .string sb, .bool mb, .string tb])]) (W9.alloc (.cells #[.bool v1, .string v2, .bool v3, .string v4] 36)) := Vars.new K _ _
  have B := below_more B (Nat.le_refl _) hbl
  clear hbl
  go_upto_region 8 with fail
  generalize W9.alloc (.cells #[.bool v1, .string v2, .bool v3, .string v4] 36) = V10 at *
  generalize W9.heap.size = p10 at *
  obtain ⟨t1, t2, t3, t4, t5, t6, t7, t8, t9, t10, t11, t12, t13, t14, t15, t16, t17, t18, t19, t20, t21, t22, t23, t24, t25, t26, t27, t28⟩ : V10.cell? ⟨p10, 0, none⟩ = some (.bool v1) ∧ V10.cell? ⟨p10, 1, none⟩ = some (.string v2) ∧ V10.cell? ⟨p10, 2, none⟩ = some (.bool v3) ∧ V10.cell? ⟨p10, 3, none⟩ = some (.string v4) ∧ V10.cell? ⟨p8, 0, none⟩ = some (.bool u1) ∧ V10.cell? ⟨p8, 1, none⟩ = some (.string u2) ∧ V10.cell? ⟨p8, 2, none⟩ = some (.bool u3) ∧ V10.cell? ⟨p8, 3, none⟩ = some (.string u4) ∧ V10.cell? ⟨p6, 0, none⟩ = some (.bool u1) ∧ V10.cell? ⟨p6, 1, none⟩ = some (.string u2) ∧ V10.cell? ⟨p6, 2, none⟩ = some (.bool u3) ∧ V10.cell? ⟨p6, 3, none⟩ = some (.string u4) ∧ V10.cell? ⟨p4, 0, none⟩ = some (.bool x1) ∧ V10.cell? ⟨p4, 1, none⟩ = some (.string x2) ∧ V10.cell? ⟨p4, 2, none⟩ = some (.bool x3) ∧ V10.cell? ⟨p4, 3, none⟩ = some (.string x4) ∧ V10.cell? ⟨p2, 0, none⟩ = some (.bool x1) ∧ V10.cell? ⟨p2, 1, none⟩ = some (.string x2) ∧ V10.cell? ⟨p2, 2, none⟩ = some (.bool x3) ∧ V10.cell? ⟨p2, 3, none⟩ = some (.string x4) ∧ V10.cell? ⟨w.heap.size, 0, none⟩ = some (.bool na) ∧ V10.cell? ⟨w.heap.size, 1, none⟩ = some (.string sa) ∧ V10.cell? ⟨w.heap.size, 2, none⟩ = some (.bool ma) ∧ V10.cell? ⟨w.heap.size, 3, none⟩ = some (.string ta) ∧ V10.cell? ⟨w.heap.size + 1, 0, none⟩ = some (.bool nb) ∧ V10.cell? ⟨w.heap.size + 1, 1, none⟩ = some (.string sb) ∧ V10.cell? ⟨w.heap.size + 1, 2, none⟩ = some (.bool mb) ∧ V10.cell? ⟨w.heap.size + 1, 3, none⟩ = some (.string tb) := ⟨K.at 0 0 rfl, K.at 0 1 rfl, K.at 0 2 rfl, K.at 0 3 rfl, K.at 1 0 rfl, K.at 1 1 rfl, K.at 1 2 rfl, K.at 1 3 rfl, K.at 2 0 rfl, K.at 2 1 rfl, K.at 2 2 rfl, K.at 2 3 rfl, K.at 3 0 rfl, K.at 3 1 rfl, K.at 3 2 rfl, K.at 3 3 rfl, K.at 4 0 rfl, K.at 4 1 rfl, K.at 4 2 rfl, K.at 4 3 rfl, K.at 5 0 rfl, K.at 5 1 rfl, K.at 5 2 rfl, K.at 5 3 rfl, K.at 6 0 rfl, K.at 6 1 rfl, K.at 6 2 rfl, K.at 6 3 rfl⟩
  go_wp2_with fail
  refine (HQU2.out _).mono ?_
  rintro e W11 ⟨rfl, b11⟩
  have K := K.keep b11
  have B := below_more B (Nat.le_refl _) b11
  clear b11
  clear t1 t2 t3 t4 t5 t6 t7 t8 t9 t10 t11 t12 t13 t14 t15 t16 t17 t18 t19 t20 t21 t22 t23 t24 t25 t26 t27 t28
  have hbl := below1 W11 (.cells #[.bool v1, .string v2, .bool v3, .string v4] 36)
  have K : Vars ((W11.heap.size, [.bool v1, .string v2, .bool v3, .string v4]) :: [(p10, [.bool v1, .string v2, .bool v3, .string v4]), (p8, [.bool u1, .string u2, .bool u3, .string u4]), (p6, [.bool u1, .string u2, .bool u3, .string u4]), (p4, [.bool x1, .string x2, .bool x3, .string x4]), (p2, [.bool x1, .string x2, .bool x3, .string x4]), (w.heap.size, [.bool na, .string sa, .bool ma, .string ta]), (w.heap.size + 1, [.bool nb, .string sb, .bool mb, .string tb])]) (W11.alloc (.cells #[.bool v1, .string v2, .bool v3, .string v4] 36)) := Vars.new K _ _
  have B := below_more B (Nat.le_refl _) hbl
  clear hbl
  go_upto_region 9 with fail
  generalize W11.alloc (.cells #[.bool v1, .string v2, .bool v3, .string v4] 36) = V12 at *
  generalize W11.heap.size = p12 at *
  go_cut [21] (fun s21 wx => s21 = .bool true ∧ Vars [(p12, [.bool v1, .string v2, .bool v3, .string v4]), (p10, [.bool v1, .string v2, .bool v3, .string v4]), (p8, [.bool u1, .string u2, .bool u3, .string u4]), (p6, [.bool u1, .string u2, .bool u3, .string u4]), (p4, [.bool x1, .string x2, .bool x3, .string x4]), (p2, [.bool x1, .string x2, .bool x3, .string x4]), (w.heap.size, [.bool na, .string sa, .bool ma, .string ta]), (w.heap.size + 1, [.bool nb, .string sb, .bool mb, .string tb])] wx ∧ Below w.heap.size w wx)
  case first =>
    obtain ⟨t1, t2, t3, t4, t5, t6, t7, t8, t9, t10, t11, t12, t13, t14, t15, t16, t17, t18, t19, t20, t21, t22, t23, t24, t25, t26, t27, t28, t29, t30, t31, t32⟩ : V12.cell? ⟨p12, 0, none⟩ = some (.bool v1) ∧ V12.cell? ⟨p12, 1, none⟩ = some (.string v2) ∧ V12.cell? ⟨p12, 2, none⟩ = some (.bool v3) ∧ V12.cell? ⟨p12, 3, none⟩ = some (.string v4) ∧ V12.cell? ⟨p10, 0, none⟩ = some (.bool v1) ∧ V12.cell? ⟨p10, 1, none⟩ = some (.string v2) ∧ V12.cell? ⟨p10, 2, none⟩ = some (.bool v3) ∧ V12.cell? ⟨p10, 3, none⟩ = some (.string v4) ∧ V12.cell? ⟨p8, 0, none⟩ = some (.bool u1) ∧ V12.cell? ⟨p8, 1, none⟩ = some (.string u2) ∧ V12.cell? ⟨p8, 2, none⟩ = some (.bool u3) ∧ V12.cell? ⟨p8, 3, none⟩ = some (.string u4) ∧ V12.cell? ⟨p6, 0, none⟩ = some (.bool u1) ∧ V12.cell? ⟨p6, 1, none⟩ = some (.string u2) ∧ V12.cell? ⟨p6, 2, none⟩ = some (.bool u3) ∧ V12.cell? ⟨p6, 3, none⟩ = some (.string u4) ∧ V12.cell? ⟨p4, 0, none⟩ = some (.bool x1) ∧ V12.cell? ⟨p4, 1, none⟩ = some (.string x2) ∧ V12.cell? ⟨p4, 2, none⟩ = some (.bool x3) ∧ V12.cell? ⟨p4, 3, none⟩ = some (.string x4) ∧ V12.cell? ⟨p2, 0, none⟩ = some (.bool x1) ∧ V12.cell? ⟨p2, 1, none⟩ = some (.string x2) ∧ V12.cell? ⟨p2, 2, none⟩ = some (.bool x3) ∧ V12.cell? ⟨p2, 3, none⟩ = some (.string x4) ∧ V12.cell? ⟨w.heap.size, 0, none⟩ = some (.bool na) ∧ V12.cell? ⟨w.heap.size, 1, none⟩ = some (.string sa) ∧ V12.cell? ⟨w.heap.size, 2, none⟩ = some (.bool ma) ∧ V12.cell? ⟨w.heap.size, 3, none⟩ = some (.string ta) ∧ V12.cell? ⟨w.heap.size + 1, 0, none⟩ = some (.bool nb) ∧ V12.cell? ⟨w.heap.size + 1, 1, none⟩ = some (.string sb) ∧ V12.cell? ⟨w.heap.size + 1, 2, none⟩ = some (.bool mb) ∧ V12.cell? ⟨w.heap.size + 1, 3, none⟩ = some (.string tb) := ⟨K.at 0 0 rfl, K.at 0 1 rfl, K.at 0 2 rfl, K.at 0 3 rfl, K.at 1 0 rfl, K.at 1 1 rfl, K.at 1 2 rfl, K.at 1 3 rfl, K.at 2 0 rfl, K.at 2 1 rfl, K.at 2 2 rfl, K.at 2 3 rfl, K.at 3 0 rfl, K.at 3 1 rfl, K.at 3 2 rfl, K.at 3 3 rfl, K.at 4 0 rfl, K.at 4 1 rfl, K.at 4 2 rfl, K.at 4 3 rfl, K.at 5 0 rfl, K.at 5 1 rfl, K.at 5 2 rfl, K.at 5 3 rfl, K.at 6 0 rfl, K.at 6 1 rfl, K.at 6 2 rfl, K.at 6 3 rfl, K.at 7 0 rfl, K.at 7 1 rfl, K.at 7 2 rfl, K.at 7 3 rfl⟩
    have K0 : Vars [(p12, [.bool v1, .string v2, .bool v3, .string v4]), (p10, [.bool v1, .string v2, .bool v3, .string v4]), (p8, [.bool u1, .string u2, .bool u3, .string u4]), (p6, [.bool u1, .string u2, .bool u3, .string u4]), (p4, [.bool x1, .string x2, .bool x3, .string x4]), (p2, [.bool x1, .string x2, .bool x3, .string x4]), (w.heap.size, [.bool na, .string sa, .bool ma, .string ta]), (w.heap.size + 1, [.bool nb, .string sb, .bool mb, .string tb])] V12.drew := K
    have B0 := B.drew
    have KB := And.intro K0 B0
    clear K0 B0
    have FL := Lib.hid (show ∀ W, Vars [(p12, [.bool v1, .string v2, .bool v3, .string v4]), (p10, [.bool v1, .string v2, .bool v3, .string v4]), (p8, [.bool u1, .string u2, .bool u3, .string u4]), (p6, [.bool u1, .string u2, .bool u3, .string u4]), (p4, [.bool x1, .string x2, .bool x3, .string x4]), (p2, [.bool x1, .string x2, .bool x3, .string x4]), (w.heap.size, [.bool na, .string sa, .bool ma, .string ta]), (w.heap.size + 1, [.bool nb, .string sb, .bool mb, .string tb])] W → (W.cell? ⟨p12, 0, none⟩ = some (.bool v1) ∧ W.cell? ⟨p12, 1, none⟩ = some (.string v2) ∧ W.cell? ⟨p12, 2, none⟩ = some (.bool v3) ∧ W.cell? ⟨p12, 3, none⟩ = some (.string v4) ∧ W.cell? ⟨p10, 0, none⟩ = some (.bool v1) ∧ W.cell? ⟨p10, 1, none⟩ = some (.string v2) ∧ W.cell? ⟨p10, 2, none⟩ = some (.bool v3) ∧ W.cell? ⟨p10, 3, none⟩ = some (.string v4) ∧ W.cell? ⟨p8, 0, none⟩ = some (.bool u1) ∧ W.cell? ⟨p8, 1, none⟩ = some (.string u2) ∧ W.cell? ⟨p8, 2, none⟩ = some (.bool u3) ∧ W.cell? ⟨p8, 3, none⟩ = some (.string u4) ∧ W.cell? ⟨p6, 0, none⟩ = some (.bool u1) ∧ W.cell? ⟨p6, 1, none⟩ = some (.string u2) ∧ W.cell? ⟨p6, 2, none⟩ = some (.bool u3) ∧ W.cell? ⟨p6, 3, none⟩ = some (.string u4) ∧ W.cell? ⟨p4, 0, none⟩ = some (.bool x1) ∧ W.cell? ⟨p4, 1, none⟩ = some (.string x2) ∧ W.cell? ⟨p4, 2, none⟩ = some (.bool x3) ∧ W.cell? ⟨p4, 3, none⟩ = some (.string x4) ∧ W.cell? ⟨p2, 0, none⟩ = some (.bool x1) ∧ W.cell? ⟨p2, 1, none⟩ = some (.string x2) ∧ W.cell? ⟨p2, 2, none⟩ = some (.bool x3) ∧ W.cell? ⟨p2, 3, none⟩ = some (.string x4) ∧ W.cell? ⟨w.heap.size, 0, none⟩ = some (.bool na) ∧ W.cell? ⟨w.heap.size, 1, none⟩ = some (.string sa) ∧ W.cell? ⟨w.heap.size, 2, none⟩ = some (.bool ma) ∧ W.cell? ⟨w.heap.size, 3, none⟩ = some (.string ta) ∧ W.cell? ⟨w.heap.size + 1, 0, none⟩ = some (.bool nb) ∧ W.cell? ⟨w.heap.size + 1, 1, none⟩ = some (.string sb) ∧ W.cell? ⟨w.heap.size + 1, 2, none⟩ = some (.bool mb) ∧ W.cell? ⟨w.heap.size + 1, 3, none⟩ = some (.string tb)) from fun W h => ⟨h.at 0 0 rfl, h.at 0 1 rfl, h.at 0 2 rfl, h.at 0 3 rfl, h.at 1 0 rfl, h.at 1 1 rfl, h.at 1 2 rfl, h.at 1 3 rfl, h.at 2 0 rfl, h.at 2 1 rfl, h.at 2 2 rfl, h.at 2 3 rfl, h.at 3 0 rfl, h.at 3 1 rfl, h.at 3 2 rfl, h.at 3 3 rfl, h.at 4 0 rfl, h.at 4 1 rfl, h.at 4 2 rfl, h.at 4 3 rfl, h.at 5 0 rfl, h.at 5 1 rfl, h.at 5 2 rfl, h.at 5 3 rfl, h.at 6 0 rfl, h.at 6 1 rfl, h.at 6 2 rfl, h.at 6 3 rfl, h.at 7 0 rfl, h.at 7 1 rfl, h.at 7 2 rfl, h.at 7 3 rfl⟩)
    go_region_held3 (fun W => W.cell? ⟨p12, 0, none⟩ = some (.bool v1) ∧ W.cell? ⟨p12, 1, none⟩ = some (.string v2) ∧ W.cell? ⟨p12, 2, none⟩ = some (.bool v3) ∧ W.cell? ⟨p12, 3, none⟩ = some (.string v4) ∧ W.cell? ⟨p10, 0, none⟩ = some (.bool v1) ∧ W.cell? ⟨p10, 1, none⟩ = some (.string v2) ∧ W.cell? ⟨p10, 2, none⟩ = some (.bool v3) ∧ W.cell? ⟨p10, 3, none⟩ = some (.string v4) ∧ W.cell? ⟨p8, 0, none⟩ = some (.bool u1) ∧ W.cell? ⟨p8, 1, none⟩ = some (.string u2) ∧ W.cell? ⟨p8, 2, none⟩ = some (.bool u3) ∧ W.cell? ⟨p8, 3, none⟩ = some (.string u4) ∧ W.cell? ⟨p6, 0, none⟩ = some (.bool u1) ∧ W.cell? ⟨p6, 1, none⟩ = some (.string u2) ∧ W.cell? ⟨p6, 2, none⟩ = some (.bool u3) ∧ W.cell? ⟨p6, 3, none⟩ = some (.string u4) ∧ W.cell? ⟨p4, 0, none⟩ = some (.bool x1) ∧ W.cell? ⟨p4, 1, none⟩ = some (.string x2) ∧ W.cell? ⟨p4, 2, none⟩ = some (.bool x3) ∧ W.cell? ⟨p4, 3, none⟩ = some (.string x4) ∧ W.cell? ⟨p2, 0, none⟩ = some (.bool x1) ∧ W.cell? ⟨p2, 1, none⟩ = some (.string x2) ∧ W.cell? ⟨p2, 2, none⟩ = some (.bool x3) ∧ W.cell? ⟨p2, 3, none⟩ = some (.string x4) ∧ W.cell? ⟨w.heap.size, 0, none⟩ = some (.bool na) ∧ W.cell? ⟨w.heap.size, 1, none⟩ = some (.string sa) ∧ W.cell? ⟨w.heap.size, 2, none⟩ = some (.bool ma) ∧ W.cell? ⟨w.heap.size, 3, none⟩ = some (.string ta) ∧ W.cell? ⟨w.heap.size + 1, 0, none⟩ = some (.bool nb) ∧ W.cell? ⟨w.heap.size + 1, 1, none⟩ = some (.string sb) ∧ W.cell? ⟨w.heap.size + 1, 2, none⟩ = some (.bool mb) ∧ W.cell? ⟨w.heap.size + 1, 3, none⟩ = some (.string tb))
      (first | (with_reducible exact FL.out _ KB.1) | (with_reducible exact FL.out _ (Vars.alloc KB.1 _)) | exact FL.out _ KB.1)
      (first
        | (go_at_call 32; (with_reducible refine (HCK1.out _).mono ?_); rintro e X ⟨rfl, bX⟩; (try unfold ratV); have KB := And.intro (KB.1.keep bX) (below_more KB.2 (Nat.le_refl _) bX))
        | (go_at_call 33; (with_reducible refine (HCK2.out _).mono ?_); rintro e X ⟨rfl, bX⟩; (try unfold ratV); have KB := And.intro (KB.1.keep bX) (below_more KB.2 (Nat.le_refl _) bX))
        | (go_at_call 34; (with_reducible refine (HOF1.out _).mono ?_); rintro e X ⟨rfl, bX⟩; (try unfold ratV); have KB := And.intro (KB.1.keep bX) (below_more KB.2 (Nat.le_refl _) bX))
        | (go_at_call 35; (with_reducible refine (HOF2.out _).mono ?_); rintro e X ⟨rfl, bX⟩; (try unfold ratV); have KB := And.intro (KB.1.keep bX) (below_more KB.2 (Nat.le_refl _) bX)))
    all_goals go_wp2_with fail
    all_goals go_meet
    all_goals exact ⟨rfl, KB.1, KB.2⟩
  case rest =>
    obtain ⟨rfl, K9, B9⟩ := hcut
    clear K B
    have K := K9
    have B := B9
    clear K9 B9
    have K := Vars.tail (Vars.tail (Vars.tail (Vars.tail (Vars.tail (Vars.tail (K))))))
    go_upto_region 10 with fail
    go_cut [21] (fun s21 wx => s21 = .bool true ∧ Vars [(w.heap.size, [.bool na, .string sa, .bool ma, .string ta]), (w.heap.size + 1, [.bool nb, .string sb, .bool mb, .string tb])] wx ∧ Below w.heap.size w wx)
    case first =>
      obtain ⟨t1, t2, t3, t4, t5, t6, t7, t8⟩ : wc.cell? ⟨w.heap.size, 0, none⟩ = some (.bool na) ∧ wc.cell? ⟨w.heap.size, 1, none⟩ = some (.string sa) ∧ wc.cell? ⟨w.heap.size, 2, none⟩ = some (.bool ma) ∧ wc.cell? ⟨w.heap.size, 3, none⟩ = some (.string ta) ∧ wc.cell? ⟨w.heap.size + 1, 0, none⟩ = some (.bool nb) ∧ wc.cell? ⟨w.heap.size + 1, 1, none⟩ = some (.string sb) ∧ wc.cell? ⟨w.heap.size + 1, 2, none⟩ = some (.bool mb) ∧ wc.cell? ⟨w.heap.size + 1, 3, none⟩ = some (.string tb) := ⟨K.at 0 0 rfl, K.at 0 1 rfl, K.at 0 2 rfl, K.at 0 3 rfl, K.at 1 0 rfl, K.at 1 1 rfl, K.at 1 2 rfl, K.at 1 3 rfl⟩
      have K0 : Vars [(w.heap.size, [.bool na, .string sa, .bool ma, .string ta]), (w.heap.size + 1, [.bool nb, .string sb, .bool mb, .string tb])] wc.drew := K
      have B0 := B.drew
      have KB := And.intro K0 B0
      clear K0 B0
      have FL := Lib.hid (show ∀ W, Vars [(w.heap.size, [.bool na, .string sa, .bool ma, .string ta]), (w.heap.size + 1, [.bool nb, .string sb, .bool mb, .string tb])] W → (W.cell? ⟨w.heap.size, 0, none⟩ = some (.bool na) ∧ W.cell? ⟨w.heap.size, 1, none⟩ = some (.string sa) ∧ W.cell? ⟨w.heap.size, 2, none⟩ = some (.bool ma) ∧ W.cell? ⟨w.heap.size, 3, none⟩ = some (.string ta) ∧ W.cell? ⟨w.heap.size + 1, 0, none⟩ = some (.bool nb) ∧ W.cell? ⟨w.heap.size + 1, 1, none⟩ = some (.string sb) ∧ W.cell? ⟨w.heap.size + 1, 2, none⟩ = some (.bool mb) ∧ W.cell? ⟨w.heap.size + 1, 3, none⟩ = some (.string tb)) from fun W h => ⟨h.at 0 0 rfl, h.at 0 1 rfl, h.at 0 2 rfl, h.at 0 3 rfl, h.at 1 0 rfl, h.at 1 1 rfl, h.at 1 2 rfl, h.at 1 3 rfl⟩)
      go_region_held3 (fun W => W.cell? ⟨w.heap.size, 0, none⟩ = some (.bool na) ∧ W.cell? ⟨w.heap.size, 1, none⟩ = some (.string sa) ∧ W.cell? ⟨w.heap.size, 2, none⟩ = some (.bool ma) ∧ W.cell? ⟨w.heap.size, 3, none⟩ = some (.string ta) ∧ W.cell? ⟨w.heap.size + 1, 0, none⟩ = some (.bool nb) ∧ W.cell? ⟨w.heap.size + 1, 1, none⟩ = some (.string sb) ∧ W.cell? ⟨w.heap.size + 1, 2, none⟩ = some (.bool mb) ∧ W.cell? ⟨w.heap.size + 1, 3, none⟩ = some (.string tb))
        (first | (with_reducible exact FL.out _ KB.1) | (with_reducible exact FL.out _ (Vars.alloc KB.1 _)) | exact FL.out _ KB.1)
        (first
          | (go_at_call 36; (with_reducible refine (HAD1.out _).mono ?_); rintro e X ⟨rfl, bX⟩; (try unfold ratV); have KB := And.intro (KB.1.keep bX) (below_more KB.2 (Nat.le_refl _) bX))
          | (go_at_call 37; (with_reducible refine (HAD2.out _).mono ?_); rintro e X ⟨rfl, bX⟩; (try unfold ratV); have KB := And.intro (KB.1.keep bX) (below_more KB.2 (Nat.le_refl _) bX))
          | (go_at_call 38; (with_reducible refine (HSU1.out _).mono ?_); rintro e X ⟨rfl, bX⟩; (try unfold ratV); have KB := And.intro (KB.1.keep bX) (below_more KB.2 (Nat.le_refl _) bX))
          | (go_at_call 39; (with_reducible refine (HSU2.out _).mono ?_); rintro e X ⟨rfl, bX⟩; (try unfold ratV); have KB := And.intro (KB.1.keep bX) (below_more KB.2 (Nat.le_refl _) bX))
          | (go_at_call 40; (with_reducible refine (HMU1.out _).mono ?_); rintro e X ⟨rfl, bX⟩; (try unfold ratV); have KB := And.intro (KB.1.keep bX) (below_more KB.2 (Nat.le_refl _) bX))
          | (go_at_call 41; (with_reducible refine (HMU2.out _).mono ?_); rintro e X ⟨rfl, bX⟩; (try unfold ratV); have KB := And.intro (KB.1.keep bX) (below_more KB.2 (Nat.le_refl _) bX))
          | (go_at_call 42; (with_reducible refine (HNG1.out _).mono ?_); rintro e X ⟨rfl, bX⟩; (try unfold ratV); have KB := And.intro (KB.1.keep bX) (below_more KB.2 (Nat.le_refl _) bX))
          | (go_at_call 43; (with_reducible refine (HNG2.out _).mono ?_); rintro e X ⟨rfl, bX⟩; (try unfold ratV); have KB := And.intro (KB.1.keep bX) (below_more KB.2 (Nat.le_refl _) bX)))
      all_goals go_wp2_with fail
      all_goals go_meet
      all_goals exact ⟨rfl, KB.1, KB.2⟩
    case rest =>
      obtain ⟨rfl, K9, B9⟩ := hcut
      clear K B
      have K := K9
      have B := B9
      clear K9 B9
      go_upto_region 11 with fail
      obtain ⟨t1, t2, t3, t4, t5, t6, t7, t8⟩ : wc.cell? ⟨w.heap.size, 0, none⟩ = some (.bool na) ∧ wc.cell? ⟨w.heap.size, 1, none⟩ = some (.string sa) ∧ wc.cell? ⟨w.heap.size, 2, none⟩ = some (.bool ma) ∧ wc.cell? ⟨w.heap.size, 3, none⟩ = some (.string ta) ∧ wc.cell? ⟨w.heap.size + 1, 0, none⟩ = some (.bool nb) ∧ wc.cell? ⟨w.heap.size + 1, 1, none⟩ = some (.string sb) ∧ wc.cell? ⟨w.heap.size + 1, 2, none⟩ = some (.bool mb) ∧ wc.cell? ⟨w.heap.size + 1, 3, none⟩ = some (.string tb) := ⟨K.at 0 0 rfl, K.at 0 1 rfl, K.at 0 2 rfl, K.at 0 3 rfl, K.at 1 0 rfl, K.at 1 1 rfl, K.at 1 2 rfl, K.at 1 3 rfl⟩
      have K0 : Vars [(w.heap.size, [.bool na, .string sa, .bool ma, .string ta]), (w.heap.size + 1, [.bool nb, .string sb, .bool mb, .string tb])] wc.drew := K
      have B0 := B.drew
      have KB := And.intro K0 B0
      clear K0 B0
      have FL := Lib.hid (show ∀ W, Vars [(w.heap.size, [.bool na, .string sa, .bool ma, .string ta]), (w.heap.size + 1, [.bool nb, .string sb, .bool mb, .string tb])] W → (W.cell? ⟨w.heap.size, 0, none⟩ = some (.bool na) ∧ W.cell? ⟨w.heap.size, 1, none⟩ = some (.string sa) ∧ W.cell? ⟨w.heap.size, 2, none⟩ = some (.bool ma) ∧ W.cell? ⟨w.heap.size, 3, none⟩ = some (.string ta) ∧ W.cell? ⟨w.heap.size + 1, 0, none⟩ = some (.bool nb) ∧ W.cell? ⟨w.heap.size + 1, 1, none⟩ = some (.string sb) ∧ W.cell? ⟨w.heap.size + 1, 2, none⟩ = some (.bool mb) ∧ W.cell? ⟨w.heap.size + 1, 3, none⟩ = some (.string tb)) from fun W h => ⟨h.at 0 0 rfl, h.at 0 1 rfl, h.at 0 2 rfl, h.at 0 3 rfl, h.at 1 0 rfl, h.at 1 1 rfl, h.at 1 2 rfl, h.at 1 3 rfl⟩)
      go_region_held3 (fun W => W.cell? ⟨w.heap.size, 0, none⟩ = some (.bool na) ∧ W.cell? ⟨w.heap.size, 1, none⟩ = some (.string sa) ∧ W.cell? ⟨w.heap.size, 2, none⟩ = some (.bool ma) ∧ W.cell? ⟨w.heap.size, 3, none⟩ = some (.string ta) ∧ W.cell? ⟨w.heap.size + 1, 0, none⟩ = some (.bool nb) ∧ W.cell? ⟨w.heap.size + 1, 1, none⟩ = some (.string sb) ∧ W.cell? ⟨w.heap.size + 1, 2, none⟩ = some (.bool mb) ∧ W.cell? ⟨w.heap.size + 1, 3, none⟩ = some (.string tb))
        (first | (with_reducible exact FL.out _ KB.1) | (with_reducible exact FL.out _ (Vars.alloc KB.1 _)) | exact FL.out _ KB.1)
        (first
          | (go_at_call 44; (with_reducible refine (HCM1.out _).mono ?_); rintro e X ⟨rfl, bX⟩; (try unfold ratV); have KB := And.intro (KB.1.keep bX) (below_more KB.2 (Nat.le_refl _) bX))
          | (go_at_call 45; (with_reducible refine (HCM2.out _).mono ?_); rintro e X ⟨rfl, bX⟩; (try unfold ratV); have KB := And.intro (KB.1.keep bX) (below_more KB.2 (Nat.le_refl _) bX))
          | (go_at_call 46; (with_reducible refine (HFO1.out _).mono ?_); rintro e X ⟨rfl, bX⟩; (try unfold ratV); have KB := And.intro (KB.1.keep bX) (below_more KB.2 (Nat.le_refl _) bX))
          | (go_at_call 47; (with_reducible refine (HFO2.out _).mono ?_); rintro e X ⟨rfl, bX⟩; (try unfold ratV); have KB := And.intro (KB.1.keep bX) (below_more KB.2 (Nat.le_refl _) bX))
          | (go_at_call 25; (with_reducible refine (awaker_any _ (H0.out.keep KB.2) (tab_keep Ht.out KB.2)).mono ?_); rintro e X ⟨rfl, bX⟩; (try unfold ratV); have KB := And.intro (KB.1.keep bX) (below_more KB.2 (Nat.le_refl _) bX)))
      all_goals
        go_wp2
        go_ret
        exact ⟨rfl, KB.2⟩
end Go.Proofs.YtfcdekkoeeaolaaGreatDoor

namespace Go.Proofs.YtfcdekkoeeaolaaGreatDoor.rationalArithmetic
open Go.ChangeShapes Go.WideShapes Go.ChangeAt Go.RowKit
open Go.ChangeMaps (open_string shut_string)
set_option maxRecDepth 100000
set_option linter.unusedVariables false

theorem contract (H : Type) (enc : TypeId × Value → H) (W : World) (base : Nat) (args : Array Value) (ds gs : List (DataW H)) (before : List MemPlace)
    (hval : ∀ (j : Nat) t v, Tryz.f5.params[j]? = some t → args[j]? = some v → Value.okWide Tryz.prog W .any base t v)
    (hW : DataW.Whole enc Tryz.prog Tryz.f5.params.toList Rows.rationalArithmeticSpec.vars false W args.toList ds gs before) (hL : laidMetH Tryz.prog Rows.rationalArithmeticRow.laid W) (hS : W.ShapedOpen Tryz.prog) :
    Calls Tryz.prog 5 args W fun e W' => ∃ v, e = .returned v ∧ Rows.rationalArithmeticSpec.post enc Tryz.prog Tryz.f5 false true false false W args v W' := by
  have hW' := hW
  obtain ⟨p, q, hA0, hV, rfl, hfz, hnd⟩ := hW
  have hA : DataW.TrodAll enc Tryz.prog W 0 (fun _ => true) true Tryz.f5.params.toList args.toList ds p := hA0
  rw [Tryz.params5] at hA hval
  obtain ⟨v0, vs0, d0, ds0, p0, q0, hargs, rfl, rfl, h0, r0⟩ := trodAll_cons hA
  obtain ⟨v1, vs1, d1, ds1, p1, q1, rfl, rfl, rfl, h1, r1⟩ := trodAll_cons r0
  obtain ⟨v2, vs2, d2, ds2, p2, q2, rfl, rfl, rfl, h2, r2⟩ := trodAll_cons r1
  obtain ⟨v3, vs3, d3, ds3, p3, q3, rfl, rfl, rfl, h3, r3⟩ := trodAll_cons r2
  obtain ⟨rfl, rfl, rfl⟩ := trodAll_nil r3
  obtain rfl : args = #[v0, v1, v2, v3] := by cases args; simp_all
  obtain ⟨rfl, rfl⟩ := trodVars_none hV
  obtain ⟨g0, s0, k0, t0, rfl, rfl, rfl, z0, y0⟩ := rat_open (hval 0 36 v0 rfl rfl) h0
  obtain ⟨g1, s1, k1, t1, rfl, rfl, rfl, z1, y1⟩ := rat_open (hval 1 36 v1 rfl rfl) h1
  obtain ⟨n2, rfl, rfl, rfl, w2⟩ := open_int Tryz.underlying3 (hval 2 3 v2 rfl rfl) h2
  have b2 : (IntKind.min .i64) ≤ n2 ∧ n2 ≤ (IntKind.max .i64) := by simpa [Lit.wf] using w2
  simp [IntKind.min, IntKind.max, IntKind.signed, IntKind.bits] at b2
  obtain ⟨n3, rfl, rfl, rfl, w3⟩ := open_int Tryz.underlying3 (hval 3 3 v3 rfl rfl) h3
  have b3 : (IntKind.min .i64) ≤ n3 ∧ n3 ≤ (IntKind.max .i64) := by simpa [Lit.wf] using w3
  simp [IntKind.min, IntKind.max, IntKind.signed, IntKind.bits] at b3
  clear hA0
  simp only [List.append_nil] at hW'
  refine (rarith_any g0 s0 k0 t0 g1 s1 k1 t1 n2 n3 W z0 y0 z1 y1 b2.1 b2.2 b3.1 b3.2 (zero0 hS) (tabPow hL)).mono fun e W' ⟨he, hb⟩ => ?_
  subst he
  refine ⟨_, rfl, _, _, _, [], [], [], hW', ?_, ?_, ?_, hb.frame _, fun h => by cases h⟩
  · exact trodAll_cons_mk (p := []) (shut_bool Tryz.underlying4 true) trodAll_mk0
  · exact (trodAll_cons_mk (p := []) (rat_shut z0 y0) (trodAll_cons_mk (p := []) (rat_shut z1 y1) (trodAll_cons_mk (p := []) (shut_int Tryz.underlying3 w2) (trodAll_cons_mk (p := []) (shut_int Tryz.underlying3 w3) trodAll_mk0))))
  · rfl

theorem reads (os : Os) {H : Type} (enc : TypeId × Value → H) : ∃ places, DataW.whole enc Tryz.prog ((laidWorld os).forCall (fun _ _ => 0) ⟨#[], #[.agg #[.bool false, .string ⟨#[]⟩, .bool false, .string ⟨#[]⟩], .agg #[.bool false, .string ⟨#[]⟩, .bool false, .string ⟨#[]⟩], .int .i64 0, .int .i64 0], []⟩).memory Tryz.f5.params.toList Rows.rationalArithmeticSpec.vars false [.agg #[.bool false, .string ⟨#[]⟩, .bool false, .string ⟨#[]⟩], .agg #[.bool false, .string ⟨#[]⟩, .bool false, .string ⟨#[]⟩], .int .i64 0, .int .i64 0] 8 = some ([.agg [.agg [.lit (.bool false), .lit (.string [])], .agg [.lit (.bool false), .lit (.string [])]], .agg [.agg [.lit (.bool false), .lit (.string [])], .agg [.lit (.bool false), .lit (.string [])]], .lit (.int .i64 0), .lit (.int .i64 0)], [], places) :=
  ⟨[], by kernel_rfl⟩

theorem lifted (os : Os) (started : os.Started) (H : Type) (enc : TypeId × Value → H) (F : Stop.Interp) :
    ReturnsInHanded {} Tryz.checked os 5 .any ((OpenSpec.ofChange Rows.rationalArithmeticSpec).preRow enc Tryz.prog Tryz.f5 Rows.rationalArithmeticRow.domain false Rows.rationalArithmeticRow.laid) (((OpenSpec.ofChange Rows.rationalArithmeticSpec).at F).post enc Tryz.prog Tryz.f5 false true false false) := by
  obtain ⟨places, hx⟩ := reads os enc
  refine returnsInHanded_of_row (C := Tryz.checked) (s := OpenSpec.ofChange Rows.rationalArithmeticSpec) ownNone started (by kernel_rfl) Tryz.func5
    (witness_row_at (enc := enc) (C := Tryz.checked) false (laidWorld os) #[.agg #[.bool false, .string ⟨#[]⟩, .bool false, .string ⟨#[]⟩], .agg #[.bool false, .string ⟨#[]⟩, .bool false, .string ⟨#[]⟩], .int .i64 0, .int .i64 0] rfl (by kernel_rfl) (by kernel_rfl) (by kernel_rfl)
      (OpenSpec.preRow_of_cond 8 hx (by kernel_rfl) (fun k hk => by cases hk) (by kernel_rfl) (laid_met os _))) ?_
  intro W base args ds gs before hval hW _ _ _ hL hS _
  exact contract H enc W base args ds gs before hval hW hL hS

theorem said : Rows.RationalArithmeticSaid :=
  OpenClaim.holds_of_cond 5 Tryz.f5 rfl rfl rfl rfl rfl rfl rfl ⟨rfl, rfl, rfl, rfl, rfl⟩ rfl rfl rfl rfl rfl (by kernel_rfl) Tryz.func5 (by kernel_rfl)
    (of_decide_eq_true (by kernel_rfl)) (by unfold Func.isWrapper; first | (rw [if_pos (by decide +kernel)]; kernel_rfl) | (rw [if_neg (by decide +kernel)]; exact ⟨rfl, rfl⟩))
    (fun os started H enc _ F => by rw [OpenClaim.pre_eq_preRow]; exact lifted os started H enc F)

theorem plain (f : FuncId) (fn : Func) (hf : Tryz.pinned.checked.prog.funcNamed "groove/groovelaw02.RationalArithmetic" = some f) (hfn : Tryz.pinned.checked.prog.funcs[f]? = some fn) :
    false = Tryz.pinned.checked.prog.looks [] ∧ ∀ (j : Nat) t, fn.params[j]? = some t → Tryz.pinned.checked.prog.wantsStandIn t = false := by
  obtain rfl : f = 5 := Option.some.inj ((show Tryz.prog.funcNamed "groove/groovelaw02.RationalArithmetic" = some 5 by kernel_rfl).symm.trans hf) |>.symm
  obtain rfl : fn = Tryz.f5 := (Option.some.inj (Tryz.func5.symm.trans hfn)).symm
  refine ⟨by kernel_rfl, fun j t ht => ?_⟩
  rw [Tryz.params5] at ht
  have hm := Array.mem_of_getElem? ht
  have hm : t = 36 ∨ t = 36 ∨ t = 3 ∨ t = 3 := by simpa using hm
  rcases hm with rfl | rfl | rfl | rfl
  · exact noStandR
  · exact noStandR
  · exact noStand.2.2.2.1
  · exact noStand.2.2.2.1

/-- RationalArithmetic's card. -/
theorem card : Rows.RationalArithmeticCardSaid :=
  Claim7.holds_tied_plain_at .later [] _ _ _ _ said (fun _ h => by cases h) (by kernel_rfl) (fun _ h => by cases h) rationalArithmetic_row_tie rfl ⟨rfl, rfl⟩ (by kernel_rfl) rfl plain (by kernel_rfl)
end Go.Proofs.YtfcdekkoeeaolaaGreatDoor.rationalArithmetic
