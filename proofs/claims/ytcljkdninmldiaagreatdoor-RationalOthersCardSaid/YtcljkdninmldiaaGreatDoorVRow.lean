/- RationalOthers returns true for every input: the walk. Conditions: its own table, and what is in memory. RationalOthers returns true for every input: the law's row, and its card, tied to the program's text. Conditions: those of the row: its tables read as listed (the card ties them to the program's text). -/
import Derived.Test.YtcljkdninmldiaaGreatDoorQ47
import Derived.Test.YtcljkdninmldiaaGreatDoorQ49

namespace Go.Proofs.YtcljkdninmldiaaGreatDoor
open Go.RowKit
set_option linter.unusedSimpArgs false
set_option linter.unusedVariables false
attribute [local go_sem ↓] eqlInt guardInt2 eqlRat guardRat2 sameR_self

set_option maxRecDepth 100000 in
set_option maxHeartbeats 12800000 in
theorem roth_any (na : Bool) (sa : ByteArray) (ma : Bool) (ta : ByteArray) (nb : Bool) (sb : ByteArray) (mb : Bool) (tb : ByteArray) (n : Int) (l : List UInt8) (w : World) (hsa : sa.size ≤ 9223372036854775807) (hta : ta.size ≤ 9223372036854775807) (hsb : sb.size ≤ 9223372036854775807) (htb : tb.size ≤ 9223372036854775807)(hn0 : -9223372036854775808 ≤ n) (hn1 : n ≤ 9223372036854775807) (hl : l.length ≤ 9223372036854775807)  (h0 : Zero0 w) (htab : Lib.TabIs Tryz.prog w "internal/strconv.uint64pow10" .u64 Lib.pow10Tab) :
    Calls Tryz.prog 3 #[.agg #[.bool na, .string sa, .bool ma, .string ta], .agg #[.bool nb, .string sb, .bool mb, .string tb], .int .i64 n, .string ⟨l.toArray⟩] w fun e w' => e = .returned (.bool true) ∧ Below w.heap.size w w' := by
  have H0 := Lib.hid h0
  have Ht := Lib.hid htab
  clear h0 htab
  go_enter Tryz.func3, Tryz.ntmps3
  go_wp2_with fail
  refine (greatR_any (w.heap.size + 1 + 1) 2 2 (sel [na, nb] false) (sel [sa, sb] ⟨#[]⟩) (sel [ma, mb] false) (sel [ta, tb] ⟨#[]⟩) _ ?_ (by omega) ?_).mono ?_
  · intro i hi
    have : i = 0 ∨ i = 1 := by omega
    rcases this with rfl | rfl <;> (refine ⟨?_, ?_, ?_, ?_⟩ <;> simp [go_sem, sel])
  · intro i hi
    have : i = 0 ∨ i = 1 := by omega
    rcases this with rfl | rfl
    · exact ⟨hsa, hta⟩
    · exact ⟨hsb, htb⟩
  rintro e W0 ⟨rfl, b0⟩
  rw [great2R]
  have K : Vars [(w.heap.size, [.bool na, .string sa, .bool ma, .string ta]), (w.heap.size + 1, [.bool nb, .string sb, .bool mb, .string tb])] W0 := Vars.keep b0 (Vars.cons (four_cells (by simp [go_sem]) (by simp [go_sem]) (by simp [go_sem]) (by simp [go_sem])) (Vars.cons (four_cells (by simp [go_sem]) (by simp [go_sem]) (by simp [go_sem]) (by simp [go_sem])) (Vars.nil _)))
  have B : Below w.heap.size w W0 := below_more (below3 w _ _ _) (Nat.le_refl _) b0
  clear b0
  by_cases hg : ((decide (24 < sa.size) || decide (24 < ta.size)) || (decide (24 < sb.size) || decide (24 < tb.size))) = true
  · rw [hg]
    clear K
    go_wp2_with fail
    refine (awaker_any _ (H0.out.keep B) (tab_keep Ht.out B)).mono ?_
    rintro e W2 ⟨rfl, b2⟩
    go_wp2
    go_ret
    exact ⟨rfl, below_more B (Nat.le_refl _) b2⟩
  rw [Bool.not_eq_true] at hg
  rw [hg]
  have h24 : (sa.size ≤ 24 ∧ ta.size ≤ 24) ∧ (sb.size ≤ 24 ∧ tb.size ≤ 24) := by simpa using hg
  obtain ⟨⟨za1, za2⟩, zb1, zb2⟩ := h24
  clear hg hsa hta hsb htb
  have hll : (⟨l.toArray⟩ : ByteArray).size = l.length := by simp [ByteArray.size]
  by_cases hm : 40 < n ∧ n ≤ 4096
  · have e1 : decide (40 < n) = true := decide_eq_true hm.1
    have e2 : decide (n ≤ 4096) = true := decide_eq_true hm.2
    obtain ⟨i1, i2⟩ := hm
    clear K
    go_wp2_with fail
    refine (awaker_any _ (H0.out.keep B) (tab_keep Ht.out B)).mono ?_
    rintro e W2 ⟨rfl, b2⟩
    go_wp2
    go_ret
    exact ⟨rfl, below_more B (Nat.le_refl _) b2⟩
  have hm2 : (n ≤ 40 ∧ ¬ 40 < n) ∨ (40 < n ∧ ¬ n ≤ 4096) := by omega
  have HM := Lib.hid (show n ≤ 40 ∨ 4096 < n by omega)
  clear hm
  by_cases hs : 200 < l.length
  · have e3 : decide (200 < (l.length : Int)) = true := decide_eq_true (by omega)
    have i3 : 200 < (l.length : Int) := by omega
    rcases hm2 with ⟨_, i1⟩ | ⟨i1, i2⟩
    · have e1 : decide (40 < n) = false := decide_eq_false i1
      clear K
      go_wp2_with fail
      refine (awaker_any _ (H0.out.keep B) (tab_keep Ht.out B)).mono ?_
      rintro e W2 ⟨rfl, b2⟩
      go_wp2
      go_ret
      exact ⟨rfl, below_more B (Nat.le_refl _) b2⟩
    · have e1 : decide (40 < n) = true := decide_eq_true i1
      have e2 : decide (n ≤ 4096) = false := decide_eq_false i2
      clear K
      go_wp2_with fail
      refine (awaker_any _ (H0.out.keep B) (tab_keep Ht.out B)).mono ?_
      rintro e W2 ⟨rfl, b2⟩
      go_wp2
      go_ret
      exact ⟨rfl, below_more B (Nat.le_refl _) b2⟩
  have hl2 : l.length ≤ 200 := by omega
  have e3 : decide (200 < (l.length : Int)) = false := decide_eq_false (by omega)
  have i3 : ¬ 200 < (l.length : Int) := by omega
  clear hs
  obtain ⟨x1, x2, x3, x4, ex, PO⟩ := pow_both2 (na := na) (nb := ma) za1 za2 HM.out
  obtain ⟨u1, u2, u3, u4, eu, SI⟩ := simp_both (na := na) (nb := ma) (nc := nb) (nd := mb) za1 za2 zb1 zb2
  obtain ⟨v1, v2, v3, v4, ev, PA⟩ := parse_both2 hl2
  obtain ⟨T, PR⟩ := print_both2 (na := na) (nb := ma) za1 za2
  clear za1 za2 zb1 zb2 hn0 hn1 hl2 hl HM
  have HPO1 := Lib.hid PO.1
  have HPO2 := Lib.hid PO.2
  clear PO
  have HSI1 := Lib.hid SI.1
  have HSI2 := Lib.hid SI.2
  clear SI
  have HPA1 := Lib.hid PA.1
  have HPA2 := Lib.hid PA.2
  clear PA
  have HPR1 := Lib.hid PR.1
  have HPR2 := Lib.hid PR.2
  clear PR
  rcases hm2 with ⟨_, i1⟩ | ⟨i1, i2⟩
  · have e1 : decide (40 < n) = false := decide_eq_false i1
    go_upto_region 3 with fail
    obtain ⟨t1, t2, t3, t4, t5, t6, t7, t8⟩ : W0.cell? ⟨w.heap.size, 0, none⟩ = some (.bool na) ∧ W0.cell? ⟨w.heap.size, 1, none⟩ = some (.string sa) ∧ W0.cell? ⟨w.heap.size, 2, none⟩ = some (.bool ma) ∧ W0.cell? ⟨w.heap.size, 3, none⟩ = some (.string ta) ∧ W0.cell? ⟨w.heap.size + 1, 0, none⟩ = some (.bool nb) ∧ W0.cell? ⟨w.heap.size + 1, 1, none⟩ = some (.string sb) ∧ W0.cell? ⟨w.heap.size + 1, 2, none⟩ = some (.bool mb) ∧ W0.cell? ⟨w.heap.size + 1, 3, none⟩ = some (.string tb) := ⟨K.at 0 0 rfl, K.at 0 1 rfl, K.at 0 2 rfl, K.at 0 3 rfl, K.at 1 0 rfl, K.at 1 1 rfl, K.at 1 2 rfl, K.at 1 3 rfl⟩
    go_wp2_with fail
    refine (HPO1.out _).mono ?_
    rintro e W1 ⟨rfl, b1⟩
    have K := K.keep b1
    have B := below_more B (Nat.le_refl _) b1
    clear b1
    clear t1 t2 t3 t4 t5 t6 t7 t8
    have hbl := below1 W1 (.cells #[.bool x1, .string x2, .bool x3, .string x4] 25)
    have K : Vars ((W1.heap.size, [.bool x1, .string x2, .bool x3, .string x4]) :: [(w.heap.size, [.bool na, .string sa, .bool ma, .string ta]), (w.heap.size + 1, [.bool nb, .string sb, .bool mb, .string tb])]) (W1.alloc (.cells #[.bool x1, .string x2, .bool x3, .string x4] 25)) := Vars.new K _ _
    have B := below_more B (Nat.le_refl _) hbl
    clear hbl
    go_upto_region 4 with fail
    generalize W1.alloc (.cells #[.bool x1, .string x2, .bool x3, .string x4] 25) = V2 at *
    generalize W1.heap.size = p2 at *
    obtain ⟨t1, t2, t3, t4, t5, t6, t7, t8, t9, t10, t11, t12⟩ : V2.cell? ⟨p2, 0, none⟩ = some (.bool x1) ∧ V2.cell? ⟨p2, 1, none⟩ = some (.string x2) ∧ V2.cell? ⟨p2, 2, none⟩ = some (.bool x3) ∧ V2.cell? ⟨p2, 3, none⟩ = some (.string x4) ∧ V2.cell? ⟨w.heap.size, 0, none⟩ = some (.bool na) ∧ V2.cell? ⟨w.heap.size, 1, none⟩ = some (.string sa) ∧ V2.cell? ⟨w.heap.size, 2, none⟩ = some (.bool ma) ∧ V2.cell? ⟨w.heap.size, 3, none⟩ = some (.string ta) ∧ V2.cell? ⟨w.heap.size + 1, 0, none⟩ = some (.bool nb) ∧ V2.cell? ⟨w.heap.size + 1, 1, none⟩ = some (.string sb) ∧ V2.cell? ⟨w.heap.size + 1, 2, none⟩ = some (.bool mb) ∧ V2.cell? ⟨w.heap.size + 1, 3, none⟩ = some (.string tb) := ⟨K.at 0 0 rfl, K.at 0 1 rfl, K.at 0 2 rfl, K.at 0 3 rfl, K.at 1 0 rfl, K.at 1 1 rfl, K.at 1 2 rfl, K.at 1 3 rfl, K.at 2 0 rfl, K.at 2 1 rfl, K.at 2 2 rfl, K.at 2 3 rfl⟩
    go_wp2_with fail
    refine (HPO2.out _).mono ?_
    rintro e W3 ⟨rfl, b3⟩
    have K := K.keep b3
    have B := below_more B (Nat.le_refl _) b3
    clear b3
    clear t1 t2 t3 t4 t5 t6 t7 t8 t9 t10 t11 t12
    have hbl := below1 W3 (.cells #[.bool x1, .string x2, .bool x3, .string x4] 25)
    have K : Vars ((W3.heap.size, [.bool x1, .string x2, .bool x3, .string x4]) :: [(p2, [.bool x1, .string x2, .bool x3, .string x4]), (w.heap.size, [.bool na, .string sa, .bool ma, .string ta]), (w.heap.size + 1, [.bool nb, .string sb, .bool mb, .string tb])]) (W3.alloc (.cells #[.bool x1, .string x2, .bool x3, .string x4] 25)) := Vars.new K _ _
    have B := below_more B (Nat.le_refl _) hbl
    clear hbl
    go_upto_region 5 with fail
    generalize W3.alloc (.cells #[.bool x1, .string x2, .bool x3, .string x4] 25) = V4 at *
    generalize W3.heap.size = p4 at *
    obtain ⟨t1, t2, t3, t4, t5, t6, t7, t8, t9, t10, t11, t12, t13, t14, t15, t16⟩ : V4.cell? ⟨p4, 0, none⟩ = some (.bool x1) ∧ V4.cell? ⟨p4, 1, none⟩ = some (.string x2) ∧ V4.cell? ⟨p4, 2, none⟩ = some (.bool x3) ∧ V4.cell? ⟨p4, 3, none⟩ = some (.string x4) ∧ V4.cell? ⟨p2, 0, none⟩ = some (.bool x1) ∧ V4.cell? ⟨p2, 1, none⟩ = some (.string x2) ∧ V4.cell? ⟨p2, 2, none⟩ = some (.bool x3) ∧ V4.cell? ⟨p2, 3, none⟩ = some (.string x4) ∧ V4.cell? ⟨w.heap.size, 0, none⟩ = some (.bool na) ∧ V4.cell? ⟨w.heap.size, 1, none⟩ = some (.string sa) ∧ V4.cell? ⟨w.heap.size, 2, none⟩ = some (.bool ma) ∧ V4.cell? ⟨w.heap.size, 3, none⟩ = some (.string ta) ∧ V4.cell? ⟨w.heap.size + 1, 0, none⟩ = some (.bool nb) ∧ V4.cell? ⟨w.heap.size + 1, 1, none⟩ = some (.string sb) ∧ V4.cell? ⟨w.heap.size + 1, 2, none⟩ = some (.bool mb) ∧ V4.cell? ⟨w.heap.size + 1, 3, none⟩ = some (.string tb) := ⟨K.at 0 0 rfl, K.at 0 1 rfl, K.at 0 2 rfl, K.at 0 3 rfl, K.at 1 0 rfl, K.at 1 1 rfl, K.at 1 2 rfl, K.at 1 3 rfl, K.at 2 0 rfl, K.at 2 1 rfl, K.at 2 2 rfl, K.at 2 3 rfl, K.at 3 0 rfl, K.at 3 1 rfl, K.at 3 2 rfl, K.at 3 3 rfl⟩
    go_wp2_with fail
    refine (HSI1.out _).mono ?_
    rintro e W5 ⟨rfl, b5⟩
    have K := K.keep b5
    have B := below_more B (Nat.le_refl _) b5
    clear b5
    clear t1 t2 t3 t4 t5 t6 t7 t8 t9 t10 t11 t12 t13 t14 t15 t16
    have hbl := below1 W5 (.cells #[.bool u1, .string u2, .bool u3, .string u4] 25)
    have K : Vars ((W5.heap.size, [.bool u1, .string u2, .bool u3, .string u4]) :: [(p4, [.bool x1, .string x2, .bool x3, .string x4]), (p2, [.bool x1, .string x2, .bool x3, .string x4]), (w.heap.size, [.bool na, .string sa, .bool ma, .string ta]), (w.heap.size + 1, [.bool nb, .string sb, .bool mb, .string tb])]) (W5.alloc (.cells #[.bool u1, .string u2, .bool u3, .string u4] 25)) := Vars.new K _ _
    have B := below_more B (Nat.le_refl _) hbl
    clear hbl
    go_upto_region 6 with fail
    generalize W5.alloc (.cells #[.bool u1, .string u2, .bool u3, .string u4] 25) = V6 at *
    generalize W5.heap.size = p6 at *
    obtain ⟨t1, t2, t3, t4, t5, t6, t7, t8, t9, t10, t11, t12, t13, t14, t15, t16, t17, t18, t19, t20⟩ : V6.cell? ⟨p6, 0, none⟩ = some (.bool u1) ∧ V6.cell? ⟨p6, 1, none⟩ = some (.string u2) ∧ V6.cell? ⟨p6, 2, none⟩ = some (.bool u3) ∧ V6.cell? ⟨p6, 3, none⟩ = some (.string u4) ∧ V6.cell? ⟨p4, 0, none⟩ = some (.bool x1) ∧ V6.cell? ⟨p4, 1, none⟩ = some (.string x2) ∧ V6.cell? ⟨p4, 2, none⟩ = some (.bool x3) ∧ V6.cell? ⟨p4, 3, none⟩ = some (.string x4) ∧ V6.cell? ⟨p2, 0, none⟩ = some (.bool x1) ∧ V6.cell? ⟨p2, 1, none⟩ = some (.string x2) ∧ V6.cell? ⟨p2, 2, none⟩ = some (.bool x3) ∧ V6.cell? ⟨p2, 3, none⟩ = some (.string x4) ∧ V6.cell? ⟨w.heap.size, 0, none⟩ = some (.bool na) ∧ V6.cell? ⟨w.heap.size, 1, none⟩ = some (.string sa) ∧ V6.cell? ⟨w.heap.size, 2, none⟩ = some (.bool ma) ∧ V6.cell? ⟨w.heap.size, 3, none⟩ = some (.string ta) ∧ V6.cell? ⟨w.heap.size + 1, 0, none⟩ = some (.bool nb) ∧ V6.cell? ⟨w.heap.size + 1, 1, none⟩ = some (.string sb) ∧ V6.cell? ⟨w.heap.size + 1, 2, none⟩ = some (.bool mb) ∧ V6.cell? ⟨w.heap.size + 1, 3, none⟩ = some (.string tb) := ⟨K.at 0 0 rfl, K.at 0 1 rfl, K.at 0 2 rfl, K.at 0 3 rfl, K.at 1 0 rfl, K.at 1 1 rfl, K.at 1 2 rfl, K.at 1 3 rfl, K.at 2 0 rfl, K.at 2 1 rfl, K.at 2 2 rfl, K.at 2 3 rfl, K.at 3 0 rfl, K.at 3 1 rfl, K.at 3 2 rfl, K.at 3 3 rfl, K.at 4 0 rfl, K.at 4 1 rfl, K.at 4 2 rfl, K.at 4 3 rfl⟩
    go_wp2_with fail
    refine (HSI2.out _).mono ?_
    rintro e W7 ⟨rfl, b7⟩
    have K := K.keep b7
    have B := below_more B (Nat.le_refl _) b7
    clear b7
    clear t1 t2 t3 t4 t5 t6 t7 t8 t9 t10 t11 t12 t13 t14 t15 t16 t17 t18 t19 t20
    have hbl := below1 W7 (.cells #[.bool u1, .string u2, .bool u3, .string u4] 25)
    have K : Vars ((W7.heap.size, [.bool u1, .string u2, .bool u3, .string u4]) :: [(p6, [.bool u1, .string u2, .bool u3, .string u4]), (p4, [.bool x1, .string x2, .bool x3, .string x4]), (p2, [.bool x1, .string x2, .bool x3, .string x4]), (w.heap.size, [.bool na, .string sa, .bool ma, .string ta]), (w.heap.size + 1, [.bool nb, .string sb, .bool mb, .string tb])]) (W7.alloc (.cells #[.bool u1, .string u2, .bool u3, .string u4] 25)) := Vars.new K _ _
    have B := below_more B (Nat.le_refl _) hbl
    clear hbl
    go_upto_region 7 with fail
    generalize W7.alloc (.cells #[.bool u1, .string u2, .bool u3, .string u4] 25) = V8 at *
    generalize W7.heap.size = p8 at *
    obtain ⟨t1, t2, t3, t4, t5, t6, t7, t8, t9, t10, t11, t12, t13, t14, t15, t16, t17, t18, t19, t20, t21, t22, t23, t24⟩ : V8.cell? ⟨p8, 0, none⟩ = some (.bool u1) ∧ V8.cell? ⟨p8, 1, none⟩ = some (.string u2) ∧ V8.cell? ⟨p8, 2, none⟩ = some (.bool u3) ∧ V8.cell? ⟨p8, 3, none⟩ = some (.string u4) ∧ V8.cell? ⟨p6, 0, none⟩ = some (.bool u1) ∧ V8.cell? ⟨p6, 1, none⟩ = some (.string u2) ∧ V8.cell? ⟨p6, 2, none⟩ = some (.bool u3) ∧ V8.cell? ⟨p6, 3, none⟩ = some (.string u4) ∧ V8.cell? ⟨p4, 0, none⟩ = some (.bool x1) ∧ V8.cell? ⟨p4, 1, none⟩ = some (.string x2) ∧ V8.cell? ⟨p4, 2, none⟩ = some (.bool x3) ∧ V8.cell? ⟨p4, 3, none⟩ = some (.string x4) ∧ V8.cell? ⟨p2, 0, none⟩ = some (.bool x1) ∧ V8.cell? ⟨p2, 1, none⟩ = some (.string x2) ∧ V8.cell? ⟨p2, 2, none⟩ = some (.bool x3) ∧ V8.cell? ⟨p2, 3, none⟩ = some (.string x4) ∧ V8.cell? ⟨w.heap.size, 0, none⟩ = some (.bool na) ∧ V8.cell? ⟨w.heap.size, 1, none⟩ = some (.string sa) ∧ V8.cell? ⟨w.heap.size, 2, none⟩ = some (.bool ma) ∧ V8.cell? ⟨w.heap.size, 3, none⟩ = some (.string ta) ∧ V8.cell? ⟨w.heap.size + 1, 0, none⟩ = some (.bool nb) ∧ V8.cell? ⟨w.heap.size + 1, 1, none⟩ = some (.string sb) ∧ V8.cell? ⟨w.heap.size + 1, 2, none⟩ = some (.bool mb) ∧ V8.cell? ⟨w.heap.size + 1, 3, none⟩ = some (.string tb) := ⟨K.at 0 0 rfl, K.at 0 1 rfl, K.at 0 2 rfl, K.at 0 3 rfl, K.at 1 0 rfl, K.at 1 1 rfl, K.at 1 2 rfl, K.at 1 3 rfl, K.at 2 0 rfl, K.at 2 1 rfl, K.at 2 2 rfl, K.at 2 3 rfl, K.at 3 0 rfl, K.at 3 1 rfl, K.at 3 2 rfl, K.at 3 3 rfl, K.at 4 0 rfl, K.at 4 1 rfl, K.at 4 2 rfl, K.at 4 3 rfl, K.at 5 0 rfl, K.at 5 1 rfl, K.at 5 2 rfl, K.at 5 3 rfl⟩
    go_wp2_with fail
    refine (HPA1.out _ (H0.out.keep B) (tab_keep Ht.out B)).mono ?_
    rintro e W9 ⟨rfl, b9⟩
    have K := K.keep b9
    have B := below_more B (Nat.le_refl _) b9
    clear b9
    clear t1 t2 t3 t4 t5 t6 t7 t8 t9 t10 t11 t12 t13 t14 t15 t16 t17 t18 t19 t20 t21 t22 t23 t24
    have hbl := below1 W9 (.cells #[.bool v1, .string v2, .bool v3, .string v4] 25)
    have K : Vars ((W9.heap.size, [.bool v1, .string v2, .bool v3, .string v4]) :: [(p8, [.bool u1, .string u2, .bool u3, .string u4]), (p6, [.bool u1, .string u2, .bool u3, .string u4]), (p4, [.bool x1, .string x2, .bool x3, .string x4]), (p2, [.bool x1, .string x2, .bool x3, .string x4]), (w.heap.size, [.bool na, .string sa, .bool ma, .string ta]), (w.heap.size + 1, [.bool nb, .string sb, .bool mb, .string tb])]) (W9.alloc (.cells #[.bool v1, .string v2, .bool v3, .string v4] 25)) := Vars.new K _ _
    have B := below_more B (Nat.le_refl _) hbl
    clear hbl
    go_upto_region 8 with fail
    generalize W9.alloc (.cells #[.bool v1, .string v2, .bool v3, .string v4] 25) = V10 at *
    generalize W9.heap.size = p10 at *
    obtain ⟨t1, t2, t3, t4, t5, t6, t7, t8, t9, t10, t11, t12, t13, t14, t15, t16, t17, t18, t19, t20, t21, t22, t23, t24, t25, t26, t27, t28⟩ : V10.cell? ⟨p10, 0, none⟩ = some (.bool v1) ∧ V10.cell? ⟨p10, 1, none⟩ = some (.string v2) ∧ V10.cell? ⟨p10, 2, none⟩ = some (.bool v3) ∧ V10.cell? ⟨p10, 3, none⟩ = some (.string v4) ∧ V10.cell? ⟨p8, 0, none⟩ = some (.bool u1) ∧ V10.cell? ⟨p8, 1, none⟩ = some (.string u2) ∧ V10.cell? ⟨p8, 2, none⟩ = some (.bool u3) ∧ V10.cell? ⟨p8, 3, none⟩ = some (.string u4) ∧ V10.cell? ⟨p6, 0, none⟩ = some (.bool u1) ∧ V10.cell? ⟨p6, 1, none⟩ = some (.string u2) ∧ V10.cell? ⟨p6, 2, none⟩ = some (.bool u3) ∧ V10.cell? ⟨p6, 3, none⟩ = some (.string u4) ∧ V10.cell? ⟨p4, 0, none⟩ = some (.bool x1) ∧ V10.cell? ⟨p4, 1, none⟩ = some (.string x2) ∧ V10.cell? ⟨p4, 2, none⟩ = some (.bool x3) ∧ V10.cell? ⟨p4, 3, none⟩ = some (.string x4) ∧ V10.cell? ⟨p2, 0, none⟩ = some (.bool x1) ∧ V10.cell? ⟨p2, 1, none⟩ = some (.string x2) ∧ V10.cell? ⟨p2, 2, none⟩ = some (.bool x3) ∧ V10.cell? ⟨p2, 3, none⟩ = some (.string x4) ∧ V10.cell? ⟨w.heap.size, 0, none⟩ = some (.bool na) ∧ V10.cell? ⟨w.heap.size, 1, none⟩ = some (.string sa) ∧ V10.cell? ⟨w.heap.size, 2, none⟩ = some (.bool ma) ∧ V10.cell? ⟨w.heap.size, 3, none⟩ = some (.string ta) ∧ V10.cell? ⟨w.heap.size + 1, 0, none⟩ = some (.bool nb) ∧ V10.cell? ⟨w.heap.size + 1, 1, none⟩ = some (.string sb) ∧ V10.cell? ⟨w.heap.size + 1, 2, none⟩ = some (.bool mb) ∧ V10.cell? ⟨w.heap.size + 1, 3, none⟩ = some (.string tb) := ⟨K.at 0 0 rfl, K.at 0 1 rfl, K.at 0 2 rfl, K.at 0 3 rfl, K.at 1 0 rfl, K.at 1 1 rfl, K.at 1 2 rfl, K.at 1 3 rfl, K.at 2 0 rfl, K.at 2 1 rfl, K.at 2 2 rfl, K.at 2 3 rfl, K.at 3 0 rfl, K.at 3 1 rfl, K.at 3 2 rfl, K.at 3 3 rfl, K.at 4 0 rfl, K.at 4 1 rfl, K.at 4 2 rfl, K.at 4 3 rfl, K.at 5 0 rfl, K.at 5 1 rfl, K.at 5 2 rfl, K.at 5 3 rfl, K.at 6 0 rfl, K.at 6 1 rfl, K.at 6 2 rfl, K.at 6 3 rfl⟩
    go_wp2_with fail
    refine (HPA2.out _).mono ?_
    rintro e W11 ⟨rfl, b11⟩
    have K := K.keep b11
    have B := below_more B (Nat.le_refl _) b11
    clear b11
    clear t1 t2 t3 t4 t5 t6 t7 t8 t9 t10 t11 t12 t13 t14 t15 t16 t17 t18 t19 t20 t21 t22 t23 t24 t25 t26 t27 t28
    have hbl := below1 W11 (.cells #[.bool v1, .string v2, .bool v3, .string v4] 25)
    have K : Vars ((W11.heap.size, [.bool v1, .string v2, .bool v3, .string v4]) :: [(p10, [.bool v1, .string v2, .bool v3, .string v4]), (p8, [.bool u1, .string u2, .bool u3, .string u4]), (p6, [.bool u1, .string u2, .bool u3, .string u4]), (p4, [.bool x1, .string x2, .bool x3, .string x4]), (p2, [.bool x1, .string x2, .bool x3, .string x4]), (w.heap.size, [.bool na, .string sa, .bool ma, .string ta]), (w.heap.size + 1, [.bool nb, .string sb, .bool mb, .string tb])]) (W11.alloc (.cells #[.bool v1, .string v2, .bool v3, .string v4] 25)) := Vars.new K _ _
    have B := below_more B (Nat.le_refl _) hbl
    clear hbl
    go_upto_region 9 with fail
    generalize W11.alloc (.cells #[.bool v1, .string v2, .bool v3, .string v4] 25) = V12 at *
    generalize W11.heap.size = p12 at *
    obtain ⟨t1, t2, t3, t4, t5, t6, t7, t8, t9, t10, t11, t12, t13, t14, t15, t16, t17, t18, t19, t20, t21, t22, t23, t24, t25, t26, t27, t28, t29, t30, t31, t32⟩ : V12.cell? ⟨p12, 0, none⟩ = some (.bool v1) ∧ V12.cell? ⟨p12, 1, none⟩ = some (.string v2) ∧ V12.cell? ⟨p12, 2, none⟩ = some (.bool v3) ∧ V12.cell? ⟨p12, 3, none⟩ = some (.string v4) ∧ V12.cell? ⟨p10, 0, none⟩ = some (.bool v1) ∧ V12.cell? ⟨p10, 1, none⟩ = some (.string v2) ∧ V12.cell? ⟨p10, 2, none⟩ = some (.bool v3) ∧ V12.cell? ⟨p10, 3, none⟩ = some (.string v4) ∧ V12.cell? ⟨p8, 0, none⟩ = some (.bool u1) ∧ V12.cell? ⟨p8, 1, none⟩ = some (.string u2) ∧ V12.cell? ⟨p8, 2, none⟩ = some (.bool u3) ∧ V12.cell? ⟨p8, 3, none⟩ = some (.string u4) ∧ V12.cell? ⟨p6, 0, none⟩ = some (.bool u1) ∧ V12.cell? ⟨p6, 1, none⟩ = some (.string u2) ∧ V12.cell? ⟨p6, 2, none⟩ = some (.bool u3) ∧ V12.cell? ⟨p6, 3, none⟩ = some (.string u4) ∧ V12.cell? ⟨p4, 0, none⟩ = some (.bool x1) ∧ V12.cell? ⟨p4, 1, none⟩ = some (.string x2) ∧ V12.cell? ⟨p4, 2, none⟩ = some (.bool x3) ∧ V12.cell? ⟨p4, 3, none⟩ = some (.string x4) ∧ V12.cell? ⟨p2, 0, none⟩ = some (.bool x1) ∧ V12.cell? ⟨p2, 1, none⟩ = some (.string x2) ∧ V12.cell? ⟨p2, 2, none⟩ = some (.bool x3) ∧ V12.cell? ⟨p2, 3, none⟩ = some (.string x4) ∧ V12.cell? ⟨w.heap.size, 0, none⟩ = some (.bool na) ∧ V12.cell? ⟨w.heap.size, 1, none⟩ = some (.string sa) ∧ V12.cell? ⟨w.heap.size, 2, none⟩ = some (.bool ma) ∧ V12.cell? ⟨w.heap.size, 3, none⟩ = some (.string ta) ∧ V12.cell? ⟨w.heap.size + 1, 0, none⟩ = some (.bool nb) ∧ V12.cell? ⟨w.heap.size + 1, 1, none⟩ = some (.string sb) ∧ V12.cell? ⟨w.heap.size + 1, 2, none⟩ = some (.bool mb) ∧ V12.cell? ⟨w.heap.size + 1, 3, none⟩ = some (.string tb) := ⟨K.at 0 0 rfl, K.at 0 1 rfl, K.at 0 2 rfl, K.at 0 3 rfl, K.at 1 0 rfl, K.at 1 1 rfl, K.at 1 2 rfl, K.at 1 3 rfl, K.at 2 0 rfl, K.at 2 1 rfl, K.at 2 2 rfl, K.at 2 3 rfl, K.at 3 0 rfl, K.at 3 1 rfl, K.at 3 2 rfl, K.at 3 3 rfl, K.at 4 0 rfl, K.at 4 1 rfl, K.at 4 2 rfl, K.at 4 3 rfl, K.at 5 0 rfl, K.at 5 1 rfl, K.at 5 2 rfl, K.at 5 3 rfl, K.at 6 0 rfl, K.at 6 1 rfl, K.at 6 2 rfl, K.at 6 3 rfl, K.at 7 0 rfl, K.at 7 1 rfl, K.at 7 2 rfl, K.at 7 3 rfl⟩
    have K0 : Vars [(p12, [.bool v1, .string v2, .bool v3, .string v4]), (p10, [.bool v1, .string v2, .bool v3, .string v4]), (p8, [.bool u1, .string u2, .bool u3, .string u4]), (p6, [.bool u1, .string u2, .bool u3, .string u4]), (p4, [.bool x1, .string x2, .bool x3, .string x4]), (p2, [.bool x1, .string x2, .bool x3, .string x4]), (w.heap.size, [.bool na, .string sa, .bool ma, .string ta]), (w.heap.size + 1, [.bool nb, .string sb, .bool mb, .string tb])] V12.drew := K
    have B0 := B.drew
    have KB := And.intro K0 B0
    clear K0 B0
    have FL := Lib.hid (show ∀ W, Vars [(p12, [.bool v1, .string v2, .bool v3, .string v4]), (p10, [.bool v1, .string v2, .bool v3, .string v4]), (p8, [.bool u1, .string u2, .bool u3, .string u4]), (p6, [.bool u1, .string u2, .bool u3, .string u4]), (p4, [.bool x1, .string x2, .bool x3, .string x4]), (p2, [.bool x1, .string x2, .bool x3, .string x4]), (w.heap.size, [.bool na, .string sa, .bool ma, .string ta]), (w.heap.size + 1, [.bool nb, .string sb, .bool mb, .string tb])] W → (W.cell? ⟨p12, 0, none⟩ = some (.bool v1) ∧ W.cell? ⟨p12, 1, none⟩ = some (.string v2) ∧ W.cell? ⟨p12, 2, none⟩ = some (.bool v3) ∧ W.cell? ⟨p12, 3, none⟩ = some (.string v4) ∧ W.cell? ⟨p10, 0, none⟩ = some (.bool v1) ∧ W.cell? ⟨p10, 1, none⟩ = some (.string v2) ∧ W.cell? ⟨p10, 2, none⟩ = some (.bool v3) ∧ W.cell? ⟨p10, 3, none⟩ = some (.string v4) ∧ W.cell? ⟨p8, 0, none⟩ = some (.bool u1) ∧ W.cell? ⟨p8, 1, none⟩ = some (.string u2) ∧ W.cell? ⟨p8, 2, none⟩ = some (.bool u3) ∧ W.cell? ⟨p8, 3, none⟩ = some (.string u4) ∧ W.cell? ⟨p6, 0, none⟩ = some (.bool u1) ∧ W.cell? ⟨p6, 1, none⟩ = some (.string u2) ∧ W.cell? ⟨p6, 2, none⟩ = some (.bool u3) ∧ W.cell? ⟨p6, 3, none⟩ = some (.string u4) ∧ W.cell? ⟨p4, 0, none⟩ = some (.bool x1) ∧ W.cell? ⟨p4, 1, none⟩ = some (.string x2) ∧ W.cell? ⟨p4, 2, none⟩ = some (.bool x3) ∧ W.cell? ⟨p4, 3, none⟩ = some (.string x4) ∧ W.cell? ⟨p2, 0, none⟩ = some (.bool x1) ∧ W.cell? ⟨p2, 1, none⟩ = some (.string x2) ∧ W.cell? ⟨p2, 2, none⟩ = some (.bool x3) ∧ W.cell? ⟨p2, 3, none⟩ = some (.string x4) ∧ W.cell? ⟨w.heap.size, 0, none⟩ = some (.bool na) ∧ W.cell? ⟨w.heap.size, 1, none⟩ = some (.string sa) ∧ W.cell? ⟨w.heap.size, 2, none⟩ = some (.bool ma) ∧ W.cell? ⟨w.heap.size, 3, none⟩ = some (.string ta) ∧ W.cell? ⟨w.heap.size + 1, 0, none⟩ = some (.bool nb) ∧ W.cell? ⟨w.heap.size + 1, 1, none⟩ = some (.string sb) ∧ W.cell? ⟨w.heap.size + 1, 2, none⟩ = some (.bool mb) ∧ W.cell? ⟨w.heap.size + 1, 3, none⟩ = some (.string tb)) from fun W h => ⟨h.at 0 0 rfl, h.at 0 1 rfl, h.at 0 2 rfl, h.at 0 3 rfl, h.at 1 0 rfl, h.at 1 1 rfl, h.at 1 2 rfl, h.at 1 3 rfl, h.at 2 0 rfl, h.at 2 1 rfl, h.at 2 2 rfl, h.at 2 3 rfl, h.at 3 0 rfl, h.at 3 1 rfl, h.at 3 2 rfl, h.at 3 3 rfl, h.at 4 0 rfl, h.at 4 1 rfl, h.at 4 2 rfl, h.at 4 3 rfl, h.at 5 0 rfl, h.at 5 1 rfl, h.at 5 2 rfl, h.at 5 3 rfl, h.at 6 0 rfl, h.at 6 1 rfl, h.at 6 2 rfl, h.at 6 3 rfl, h.at 7 0 rfl, h.at 7 1 rfl, h.at 7 2 rfl, h.at 7 3 rfl⟩)
    go_region_held3 (fun W => W.cell? ⟨p12, 0, none⟩ = some (.bool v1) ∧ W.cell? ⟨p12, 1, none⟩ = some (.string v2) ∧ W.cell? ⟨p12, 2, none⟩ = some (.bool v3) ∧ W.cell? ⟨p12, 3, none⟩ = some (.string v4) ∧ W.cell? ⟨p10, 0, none⟩ = some (.bool v1) ∧ W.cell? ⟨p10, 1, none⟩ = some (.string v2) ∧ W.cell? ⟨p10, 2, none⟩ = some (.bool v3) ∧ W.cell? ⟨p10, 3, none⟩ = some (.string v4) ∧ W.cell? ⟨p8, 0, none⟩ = some (.bool u1) ∧ W.cell? ⟨p8, 1, none⟩ = some (.string u2) ∧ W.cell? ⟨p8, 2, none⟩ = some (.bool u3) ∧ W.cell? ⟨p8, 3, none⟩ = some (.string u4) ∧ W.cell? ⟨p6, 0, none⟩ = some (.bool u1) ∧ W.cell? ⟨p6, 1, none⟩ = some (.string u2) ∧ W.cell? ⟨p6, 2, none⟩ = some (.bool u3) ∧ W.cell? ⟨p6, 3, none⟩ = some (.string u4) ∧ W.cell? ⟨p4, 0, none⟩ = some (.bool x1) ∧ W.cell? ⟨p4, 1, none⟩ = some (.string x2) ∧ W.cell? ⟨p4, 2, none⟩ = some (.bool x3) ∧ W.cell? ⟨p4, 3, none⟩ = some (.string x4) ∧ W.cell? ⟨p2, 0, none⟩ = some (.bool x1) ∧ W.cell? ⟨p2, 1, none⟩ = some (.string x2) ∧ W.cell? ⟨p2, 2, none⟩ = some (.bool x3) ∧ W.cell? ⟨p2, 3, none⟩ = some (.string x4) ∧ W.cell? ⟨w.heap.size, 0, none⟩ = some (.bool na) ∧ W.cell? ⟨w.heap.size, 1, none⟩ = some (.string sa) ∧ W.cell? ⟨w.heap.size, 2, none⟩ = some (.bool ma) ∧ W.cell? ⟨w.heap.size, 3, none⟩ = some (.string ta) ∧ W.cell? ⟨w.heap.size + 1, 0, none⟩ = some (.bool nb) ∧ W.cell? ⟨w.heap.size + 1, 1, none⟩ = some (.string sb) ∧ W.cell? ⟨w.heap.size + 1, 2, none⟩ = some (.bool mb) ∧ W.cell? ⟨w.heap.size + 1, 3, none⟩ = some (.string tb))
      (first | (with_reducible exact FL.out _ KB.1) | (with_reducible exact FL.out _ (Vars.alloc KB.1 _)) | exact FL.out _ KB.1)
      (first
        | (go_at_call 12; (with_reducible refine (HPR1.out _ (H0.out.keep KB.2) (tab_keep Ht.out KB.2)).mono ?_); rintro e X ⟨rfl, bX⟩; (try unfold ratV); have KB := And.intro (KB.1.keep bX) (below_more KB.2 (Nat.le_refl _) bX))
        | (go_at_call 13; (with_reducible refine (HPR2.out _).mono ?_); rintro e X ⟨rfl, bX⟩; (try unfold ratV); have KB := And.intro (KB.1.keep bX) (below_more KB.2 (Nat.le_refl _) bX))
        | (go_at_call 5; (with_reducible refine (awaker_any _ (H0.out.keep KB.2) (tab_keep Ht.out KB.2)).mono ?_); rintro e X ⟨rfl, bX⟩; (try unfold ratV); have KB := And.intro (KB.1.keep bX) (below_more KB.2 (Nat.le_refl _) bX)))
    all_goals
      go_wp2
      go_ret
      exact ⟨rfl, KB.2⟩
  · have e1 : decide (40 < n) = true := decide_eq_true i1
    have e2 : decide (n ≤ 4096) = false := decide_eq_false i2
    go_upto_region 3 with fail
    obtain ⟨t1, t2, t3, t4, t5, t6, t7, t8⟩ : W0.cell? ⟨w.heap.size, 0, none⟩ = some (.bool na) ∧ W0.cell? ⟨w.heap.size, 1, none⟩ = some (.string sa) ∧ W0.cell? ⟨w.heap.size, 2, none⟩ = some (.bool ma) ∧ W0.cell? ⟨w.heap.size, 3, none⟩ = some (.string ta) ∧ W0.cell? ⟨w.heap.size + 1, 0, none⟩ = some (.bool nb) ∧ W0.cell? ⟨w.heap.size + 1, 1, none⟩ = some (.string sb) ∧ W0.cell? ⟨w.heap.size + 1, 2, none⟩ = some (.bool mb) ∧ W0.cell? ⟨w.heap.size + 1, 3, none⟩ = some (.string tb) := ⟨K.at 0 0 rfl, K.at 0 1 rfl, K.at 0 2 rfl, K.at 0 3 rfl, K.at 1 0 rfl, K.at 1 1 rfl, K.at 1 2 rfl, K.at 1 3 rfl⟩
    go_wp2_with fail
    refine (HPO1.out _).mono ?_
    rintro e W1 ⟨rfl, b1⟩
    have K := K.keep b1
    have B := below_more B (Nat.le_refl _) b1
    clear b1
    clear t1 t2 t3 t4 t5 t6 t7 t8
    have hbl := below1 W1 (.cells #[.bool x1, .string x2, .bool x3, .string x4] 25)
    have K : Vars ((W1.heap.size, [.bool x1, .string x2, .bool x3, .string x4]) :: [(w.heap.size, [.bool na, .string sa, .bool ma, .string ta]), (w.heap.size + 1, [.bool nb, .string sb, .bool mb, .string tb])]) (W1.alloc (.cells #[.bool x1, .string x2, .bool x3, .string x4] 25)) := Vars.new K _ _
    have B := below_more B (Nat.le_refl _) hbl
    clear hbl
    go_upto_region 4 with fail
    generalize W1.alloc (.cells #[.bool x1, .string x2, .bool x3, .string x4] 25) = V2 at *
    generalize W1.heap.size = p2 at *
    obtain ⟨t1, t2, t3, t4, t5, t6, t7, t8, t9, t10, t11, t12⟩ : V2.cell? ⟨p2, 0, none⟩ = some (.bool x1) ∧ V2.cell? ⟨p2, 1, none⟩ = some (.string x2) ∧ V2.cell? ⟨p2, 2, none⟩ = some (.bool x3) ∧ V2.cell? ⟨p2, 3, none⟩ = some (.string x4) ∧ V2.cell? ⟨w.heap.size, 0, none⟩ = some (.bool na) ∧ V2.cell? ⟨w.heap.size, 1, none⟩ = some (.string sa) ∧ V2.cell? ⟨w.heap.size, 2, none⟩ = some (.bool ma) ∧ V2.cell? ⟨w.heap.size, 3, none⟩ = some (.string ta) ∧ V2.cell? ⟨w.heap.size + 1, 0, none⟩ = some (.bool nb) ∧ V2.cell? ⟨w.heap.size + 1, 1, none⟩ = some (.string sb) ∧ V2.cell? ⟨w.heap.size + 1, 2, none⟩ = some (.bool mb) ∧ V2.cell? ⟨w.heap.size + 1, 3, none⟩ = some (.string tb) := ⟨K.at 0 0 rfl, K.at 0 1 rfl, K.at 0 2 rfl, K.at 0 3 rfl, K.at 1 0 rfl, K.at 1 1 rfl, K.at 1 2 rfl, K.at 1 3 rfl, K.at 2 0 rfl, K.at 2 1 rfl, K.at 2 2 rfl, K.at 2 3 rfl⟩
    go_wp2_with fail
    refine (HPO2.out _).mono ?_
    rintro e W3 ⟨rfl, b3⟩
    have K := K.keep b3
    have B := below_more B (Nat.le_refl _) b3
    clear b3
    clear t1 t2 t3 t4 t5 t6 t7 t8 t9 t10 t11 t12
    have hbl := below1 W3 (.cells #[.bool x1, .string x2, .bool x3, .string x4] 25)
    have K : Vars ((W3.heap.size, [.bool x1, .string x2, .bool x3, .string x4]) :: [(p2, [.bool x1, .string x2, .bool x3, .string x4]), (w.heap.size, [.bool na, .string sa, .bool ma, .string ta]), (w.heap.size + 1, [.bool nb, .string sb, .bool mb, .string tb])]) (W3.alloc (.cells #[.bool x1, .string x2, .bool x3, .string x4] 25)) := Vars.new K _ _
    have B := below_more B (Nat.le_refl _) hbl
    clear hbl
    go_upto_region 5 with fail
    generalize W3.alloc (.cells #[.bool x1, .string x2, .bool x3, .string x4] 25) = V4 at *
    generalize W3.heap.size = p4 at *
    obtain ⟨t1, t2, t3, t4, t5, t6, t7, t8, t9, t10, t11, t12, t13, t14, t15, t16⟩ : V4.cell? ⟨p4, 0, none⟩ = some (.bool x1) ∧ V4.cell? ⟨p4, 1, none⟩ = some (.string x2) ∧ V4.cell? ⟨p4, 2, none⟩ = some (.bool x3) ∧ V4.cell? ⟨p4, 3, none⟩ = some (.string x4) ∧ V4.cell? ⟨p2, 0, none⟩ = some (.bool x1) ∧ V4.cell? ⟨p2, 1, none⟩ = some (.string x2) ∧ V4.cell? ⟨p2, 2, none⟩ = some (.bool x3) ∧ V4.cell? ⟨p2, 3, none⟩ = some (.string x4) ∧ V4.cell? ⟨w.heap.size, 0, none⟩ = some (.bool na) ∧ V4.cell? ⟨w.heap.size, 1, none⟩ = some (.string sa) ∧ V4.cell? ⟨w.heap.size, 2, none⟩ = some (.bool ma) ∧ V4.cell? ⟨w.heap.size, 3, none⟩ = some (.string ta) ∧ V4.cell? ⟨w.heap.size + 1, 0, none⟩ = some (.bool nb) ∧ V4.cell? ⟨w.heap.size + 1, 1, none⟩ = some (.string sb) ∧ V4.cell? ⟨w.heap.size + 1, 2, none⟩ = some (.bool mb) ∧ V4.cell? ⟨w.heap.size + 1, 3, none⟩ = some (.string tb) := ⟨K.at 0 0 rfl, K.at 0 1 rfl, K.at 0 2 rfl, K.at 0 3 rfl, K.at 1 0 rfl, K.at 1 1 rfl, K.at 1 2 rfl, K.at 1 3 rfl, K.at 2 0 rfl, K.at 2 1 rfl, K.at 2 2 rfl, K.at 2 3 rfl, K.at 3 0 rfl, K.at 3 1 rfl, K.at 3 2 rfl, K.at 3 3 rfl⟩
    go_wp2_with fail
    refine (HSI1.out _).mono ?_
    rintro e W5 ⟨rfl, b5⟩
    have K := K.keep b5
    have B := below_more B (Nat.le_refl _) b5
    clear b5
    clear t1 t2 t3 t4 t5 t6 t7 t8 t9 t10 t11 t12 t13 t14 t15 t16
    have hbl := below1 W5 (.cells #[.bool u1, .string u2, .bool u3, .string u4] 25)
    have K : Vars ((W5.heap.size, [.bool u1, .string u2, .bool u3, .string u4]) :: [(p4, [.bool x1, .string x2, .bool x3, .string x4]), (p2, [.bool x1, .string x2, .bool x3, .string x4]), (w.heap.size, [.bool na, .string sa, .bool ma, .string ta]), (w.heap.size + 1, [.bool nb, .string sb, .bool mb, .string tb])]) (W5.alloc (.cells #[.bool u1, .string u2, .bool u3, .string u4] 25)) := Vars.new K _ _
    have B := below_more B (Nat.le_refl _) hbl
    clear hbl
    go_upto_region 6 with fail
    generalize W5.alloc (.cells #[.bool u1, .string u2, .bool u3, .string u4] 25) = V6 at *
    generalize W5.heap.size = p6 at *
    obtain ⟨t1, t2, t3, t4, t5, t6, t7, t8, t9, t10, t11, t12, t13, t14, t15, t16, t17, t18, t19, t20⟩ : V6.cell? ⟨p6, 0, none⟩ = some (.bool u1) ∧ V6.cell? ⟨p6, 1, none⟩ = some (.string u2) ∧ V6.cell? ⟨p6, 2, none⟩ = some (.bool u3) ∧ V6.cell? ⟨p6, 3, none⟩ = some (.string u4) ∧ V6.cell? ⟨p4, 0, none⟩ = some (.bool x1) ∧ V6.cell? ⟨p4, 1, none⟩ = some (.string x2) ∧ V6.cell? ⟨p4, 2, none⟩ = some (.bool x3) ∧ V6.cell? ⟨p4, 3, none⟩ = some (.string x4) ∧ V6.cell? ⟨p2, 0, none⟩ = some (.bool x1) ∧ V6.cell? ⟨p2, 1, none⟩ = some (.string x2) ∧ V6.cell? ⟨p2, 2, none⟩ = some (.bool x3) ∧ V6.cell? ⟨p2, 3, none⟩ = some (.string x4) ∧ V6.cell? ⟨w.heap.size, 0, none⟩ = some (.bool na) ∧ V6.cell? ⟨w.heap.size, 1, none⟩ = some (.string sa) ∧ V6.cell? ⟨w.heap.size, 2, none⟩ = some (.bool ma) ∧ V6.cell? ⟨w.heap.size, 3, none⟩ = some (.string ta) ∧ V6.cell? ⟨w.heap.size + 1, 0, none⟩ = some (.bool nb) ∧ V6.cell? ⟨w.heap.size + 1, 1, none⟩ = some (.string sb) ∧ V6.cell? ⟨w.heap.size + 1, 2, none⟩ = some (.bool mb) ∧ V6.cell? ⟨w.heap.size + 1, 3, none⟩ = some (.string tb) := ⟨K.at 0 0 rfl, K.at 0 1 rfl, K.at 0 2 rfl, K.at 0 3 rfl, K.at 1 0 rfl, K.at 1 1 rfl, K.at 1 2 rfl, K.at 1 3 rfl, K.at 2 0 rfl, K.at 2 1 rfl, K.at 2 2 rfl, K.at 2 3 rfl, K.at 3 0 rfl, K.at 3 1 rfl, K.at 3 2 rfl, K.at 3 3 rfl, K.at 4 0 rfl, K.at 4 1 rfl, K.at 4 2 rfl, K.at 4 3 rfl⟩
    go_wp2_with fail
    refine (HSI2.out _).mono ?_
    rintro e W7 ⟨rfl, b7⟩
    have K := K.keep b7
    have B := below_more B (Nat.le_refl _) b7
    clear b7
    clear t1 t2 t3 t4 t5 t6 t7 t8 t9 t10 t11 t12 t13 t14 t15 t16 t17 t18 t19 t20
    have hbl := below1 W7 (.cells #[.bool u1, .string u2, .bool u3, .string u4] 25)
    have K : Vars ((W7.heap.size, [.bool u1, .string u2, .bool u3, .string u4]) :: [(p6, [.bool u1, .string u2, .bool u3, .string u4]), (p4, [.bool x1, .string x2, .bool x3, .string x4]), (p2, [.bool x1, .string x2, .bool x3, .string x4]), (w.heap.size, [.bool na, .string sa, .bool ma, .string ta]), (w.heap.size + 1, [.bool nb, .string sb, .bool mb, .string tb])]) (W7.alloc (.cells #[.bool u1, .string u2, .bool u3, .string u4] 25)) := Vars.new K _ _
    have B := below_more B (Nat.le_refl _) hbl
    clear hbl
    go_upto_region 7 with fail
    generalize W7.alloc (.cells #[.bool u1, .string u2, .bool u3, .string u4] 25) = V8 at *
    generalize W7.heap.size = p8 at *
    obtain ⟨t1, t2, t3, t4, t5, t6, t7, t8, t9, t10, t11, t12, t13, t14, t15, t16, t17, t18, t19, t20, t21, t22, t23, t24⟩ : V8.cell? ⟨p8, 0, none⟩ = some (.bool u1) ∧ V8.cell? ⟨p8, 1, none⟩ = some (.string u2) ∧ V8.cell? ⟨p8, 2, none⟩ = some (.bool u3) ∧ V8.cell? ⟨p8, 3, none⟩ = some (.string u4) ∧ V8.cell? ⟨p6, 0, none⟩ = some (.bool u1) ∧ V8.cell? ⟨p6, 1, none⟩ = some (.string u2) ∧ V8.cell? ⟨p6, 2, none⟩ = some (.bool u3) ∧ V8.cell? ⟨p6, 3, none⟩ = some (.string u4) ∧ V8.cell? ⟨p4, 0, none⟩ = some (.bool x1) ∧ V8.cell? ⟨p4, 1, none⟩ = some (.string x2) ∧ V8.cell? ⟨p4, 2, none⟩ = some (.bool x3) ∧ V8.cell? ⟨p4, 3, none⟩ = some (.string x4) ∧ V8.cell? ⟨p2, 0, none⟩ = some (.bool x1) ∧ V8.cell? ⟨p2, 1, none⟩ = some (.string x2) ∧ V8.cell? ⟨p2, 2, none⟩ = some (.bool x3) ∧ V8.cell? ⟨p2, 3, none⟩ = some (.string x4) ∧ V8.cell? ⟨w.heap.size, 0, none⟩ = some (.bool na) ∧ V8.cell? ⟨w.heap.size, 1, none⟩ = some (.string sa) ∧ V8.cell? ⟨w.heap.size, 2, none⟩ = some (.bool ma) ∧ V8.cell? ⟨w.heap.size, 3, none⟩ = some (.string ta) ∧ V8.cell? ⟨w.heap.size + 1, 0, none⟩ = some (.bool nb) ∧ V8.cell? ⟨w.heap.size + 1, 1, none⟩ = some (.string sb) ∧ V8.cell? ⟨w.heap.size + 1, 2, none⟩ = some (.bool mb) ∧ V8.cell? ⟨w.heap.size + 1, 3, none⟩ = some (.string tb) := ⟨K.at 0 0 rfl, K.at 0 1 rfl, K.at 0 2 rfl, K.at 0 3 rfl, K.at 1 0 rfl, K.at 1 1 rfl, K.at 1 2 rfl, K.at 1 3 rfl, K.at 2 0 rfl, K.at 2 1 rfl, K.at 2 2 rfl, K.at 2 3 rfl, K.at 3 0 rfl, K.at 3 1 rfl, K.at 3 2 rfl, K.at 3 3 rfl, K.at 4 0 rfl, K.at 4 1 rfl, K.at 4 2 rfl, K.at 4 3 rfl, K.at 5 0 rfl, K.at 5 1 rfl, K.at 5 2 rfl, K.at 5 3 rfl⟩
    go_wp2_with fail
    refine (HPA1.out _ (H0.out.keep B) (tab_keep Ht.out B)).mono ?_
    rintro e W9 ⟨rfl, b9⟩
    have K := K.keep b9
    have B := below_more B (Nat.le_refl _) b9
    clear b9
    clear t1 t2 t3 t4 t5 t6 t7 t8 t9 t10 t11 t12 t13 t14 t15 t16 t17 t18 t19 t20 t21 t22 t23 t24
    have hbl := below1 W9 (.cells #[.bool v1, .string v2, .bool v3, .string v4] 25)
    have K : Vars ((W9.heap.size, [.bool v1, .string v2, .bool v3, .string v4]) :: [(p8, [.bool u1, .string u2, .bool u3, .string u4]), (p6, [.bool u1, .string u2, .bool u3, .string u4]), (p4, [.bool x1, .string x2, .bool x3, .string x4]), (p2, [.bool x1, .string x2, .bool x3, .string x4]), (w.heap.size, [.bool na, .string sa, .bool ma, .string ta]), (w.heap.size + 1, [.bool nb, .string sb, .bool mb, .string tb])]) (W9.alloc (.cells #[.bool v1, .string v2, .bool v3, .string v4] 25)) := Vars.new K _ _
    have B := below_more B (Nat.le_refl _) hbl
    clear hbl
    go_upto_region 8 with fail
    generalize W9.alloc (.cells #[.bool v1, .string v2, .bool v3, .string v4] 25) = V10 at *
    generalize W9.heap.size = p10 at *
    obtain ⟨t1, t2, t3, t4, t5, t6, t7, t8, t9, t10, t11, t12, t13, t14, t15, t16, t17, t18, t19, t20, t21, t22, t23, t24, t25, t26, t27, t28⟩ : V10.cell? ⟨p10, 0, none⟩ = some (.bool v1) ∧ V10.cell? ⟨p10, 1, none⟩ = some (.string v2) ∧ V10.cell? ⟨p10, 2, none⟩ = some (.bool v3) ∧ V10.cell? ⟨p10, 3, none⟩ = some (.string v4) ∧ V10.cell? ⟨p8, 0, none⟩ = some (.bool u1) ∧ V10.cell? ⟨p8, 1, none⟩ = some (.string u2) ∧ V10.cell? ⟨p8, 2, none⟩ = some (.bool u3) ∧ V10.cell? ⟨p8, 3, none⟩ = some (.string u4) ∧ V10.cell? ⟨p6, 0, none⟩ = some (.bool u1) ∧ V10.cell? ⟨p6, 1, none⟩ = some (.string u2) ∧ V10.cell? ⟨p6, 2, none⟩ = some (.bool u3) ∧ V10.cell? ⟨p6, 3, none⟩ = some (.string u4) ∧ V10.cell? ⟨p4, 0, none⟩ = some (.bool x1) ∧ V10.cell? ⟨p4, 1, none⟩ = some (.string x2) ∧ V10.cell? ⟨p4, 2, none⟩ = some (.bool x3) ∧ V10.cell? ⟨p4, 3, none⟩ = some (.string x4) ∧ V10.cell? ⟨p2, 0, none⟩ = some (.bool x1) ∧ V10.cell? ⟨p2, 1, none⟩ = some (.string x2) ∧ V10.cell? ⟨p2, 2, none⟩ = some (.bool x3) ∧ V10.cell? ⟨p2, 3, none⟩ = some (.string x4) ∧ V10.cell? ⟨w.heap.size, 0, none⟩ = some (.bool na) ∧ V10.cell? ⟨w.heap.size, 1, none⟩ = some (.string sa) ∧ V10.cell? ⟨w.heap.size, 2, none⟩ = some (.bool ma) ∧ V10.cell? ⟨w.heap.size, 3, none⟩ = some (.string ta) ∧ V10.cell? ⟨w.heap.size + 1, 0, none⟩ = some (.bool nb) ∧ V10.cell? ⟨w.heap.size + 1, 1, none⟩ = some (.string sb) ∧ V10.cell? ⟨w.heap.size + 1, 2, none⟩ = some (.bool mb) ∧ V10.cell? ⟨w.heap.size + 1, 3, none⟩ = some (.string tb) := ⟨K.at 0 0 rfl, K.at 0 1 rfl, K.at 0 2 rfl, K.at 0 3 rfl, K.at 1 0 rfl, K.at 1 1 rfl, K.at 1 2 rfl, K.at 1 3 rfl, K.at 2 0 rfl, K.at 2 1 rfl, K.at 2 2 rfl, K.at 2 3 rfl, K.at 3 0 rfl, K.at 3 1 rfl, K.at 3 2 rfl, K.at 3 3 rfl, K.at 4 0 rfl, K.at 4 1 rfl, K.at 4 2 rfl, K.at 4 3 rfl, K.at 5 0 rfl, K.at 5 1 rfl, K.at 5 2 rfl, K.at 5 3 rfl, K.at 6 0 rfl, K.at 6 1 rfl, K.at 6 2 rfl, K.at 6 3 rfl⟩
    go_wp2_with fail
    refine (HPA2.out _).mono ?_
    rintro e W11 ⟨rfl, b11⟩
    have K := K.keep b11
    have B := below_more B (Nat.le_refl _) b11
    clear b11
    clear t1 t2 t3 t4 t5 t6 t7 t8 t9 t10 t11 t12 t13 t14 t15 t16 t17 t18 t19 t20 t21 t22 t23 t24 t25 t26 t27 t28
    have hbl := below1 W11 (.cells #[.bool v1, .string v2, .bool v3, .string v4] 25)
    have K : Vars ((W11.heap.size, [.bool v1, .string v2, .bool v3, .string v4]) :: [(p10, [.bool v1, .string v2, .bool v3, .string v4]), (p8, [.bool u1, .string u2, .bool u3, .string u4]), (p6, [.bool u1, .string u2, .bool u3, .string u4]), (p4, [.bool x1, .string x2, .bool x3, .string x4]), (p2, [.bool x1, .string x2, .bool x3, .string x4]), (w.heap.size, [.bool na, .string sa, .bool ma, .string ta]), (w.heap.size + 1, [.bool nb, .string sb, .bool mb, .string tb])]) (W11.alloc (.cells #[.bool v1, .string v2, .bool v3, .string v4] 25)) := Vars.new K _ _
    have B := below_more B (Nat.le_refl _) hbl
    clear hbl
    go_upto_region 9 with fail
    generalize W11.alloc (.cells #[.bool v1, .string v2, .bool v3, .string v4] 25) = V12 at *
    generalize W11.heap.size = p12 at *
    obtain ⟨t1, t2, t3, t4, t5, t6, t7, t8, t9, t10, t11, t12, t13, t14, t15, t16, t17, t18, t19, t20, t21, t22, t23, t24, t25, t26, t27, t28, t29, t30, t31, t32⟩ : V12.cell? ⟨p12, 0, none⟩ = some (.bool v1) ∧ V12.cell? ⟨p12, 1, none⟩ = some (.string v2) ∧ V12.cell? ⟨p12, 2, none⟩ = some (.bool v3) ∧ V12.cell? ⟨p12, 3, none⟩ = some (.string v4) ∧ V12.cell? ⟨p10, 0, none⟩ = some (.bool v1) ∧ V12.cell? ⟨p10, 1, none⟩ = some (.string v2) ∧ V12.cell? ⟨p10, 2, none⟩ = some (.bool v3) ∧ V12.cell? ⟨p10, 3, none⟩ = some (.string v4) ∧ V12.cell? ⟨p8, 0, none⟩ = some (.bool u1) ∧ V12.cell? ⟨p8, 1, none⟩ = some (.string u2) ∧ V12.cell? ⟨p8, 2, none⟩ = some (.bool u3) ∧ V12.cell? ⟨p8, 3, none⟩ = some (.string u4) ∧ V12.cell? ⟨p6, 0, none⟩ = some (.bool u1) ∧ V12.cell? ⟨p6, 1, none⟩ = some (.string u2) ∧ V12.cell? ⟨p6, 2, none⟩ = some (.bool u3) ∧ V12.cell? ⟨p6, 3, none⟩ = some (.string u4) ∧ V12.cell? ⟨p4, 0, none⟩ = some (.bool x1) ∧ V12.cell? ⟨p4, 1, none⟩ = some (.string x2) ∧ V12.cell? ⟨p4, 2, none⟩ = some (.bool x3) ∧ V12.cell? ⟨p4, 3, none⟩ = some (.string x4) ∧ V12.cell? ⟨p2, 0, none⟩ = some (.bool x1) ∧ V12.cell? ⟨p2, 1, none⟩ = some (.string x2) ∧ V12.cell? ⟨p2, 2, none⟩ = some (.bool x3) ∧ V12.cell? ⟨p2, 3, none⟩ = some (.string x4) ∧ V12.cell? ⟨w.heap.size, 0, none⟩ = some (.bool na) ∧ V12.cell? ⟨w.heap.size, 1, none⟩ = some (.string sa) ∧ V12.cell? ⟨w.heap.size, 2, none⟩ = some (.bool ma) ∧ V12.cell? ⟨w.heap.size, 3, none⟩ = some (.string ta) ∧ V12.cell? ⟨w.heap.size + 1, 0, none⟩ = some (.bool nb) ∧ V12.cell? ⟨w.heap.size + 1, 1, none⟩ = some (.string sb) ∧ V12.cell? ⟨w.heap.size + 1, 2, none⟩ = some (.bool mb) ∧ V12.cell? ⟨w.heap.size + 1, 3, none⟩ = some (.string tb) := ⟨K.at 0 0 rfl, K.at 0 1 rfl, K.at 0 2 rfl, K.at 0 3 rfl, K.at 1 0 rfl, K.at 1 1 rfl, K.at 1 2 rfl, K.at 1 3 rfl, K.at 2 0 rfl, K.at 2 1 rfl, K.at 2 2 rfl, K.at 2 3 rfl, K.at 3 0 rfl, K.at 3 1 rfl, K.at 3 2 rfl, K.at 3 3 rfl, K.at 4 0 rfl, K.at 4 1 rfl, K.at 4 2 rfl, K.at 4 3 rfl, K.at 5 0 rfl, K.at 5 1 rfl, K.at 5 2 rfl, K.at 5 3 rfl, K.at 6 0 rfl, K.at 6 1 rfl, K.at 6 2 rfl, K.at 6 3 rfl, K.at 7 0 rfl, K.at 7 1 rfl, K.at 7 2 rfl, K.at 7 3 rfl⟩
    have K0 : Vars [(p12, [.bool v1, .string v2, .bool v3, .string v4]), (p10, [.bool v1, .string v2, .bool v3, .string v4]), (p8, [.bool u1, .string u2, .bool u3, .string u4]), (p6, [.bool u1, .string u2, .bool u3, .string u4]), (p4, [.bool x1, .string x2, .bool x3, .string x4]), (p2, [.bool x1, .string x2, .bool x3, .string x4]), (w.heap.size, [.bool na, .string sa, .bool ma, .string ta]), (w.heap.size + 1, [.bool nb, .string sb, .bool mb, .string tb])] V12.drew := K
    have B0 := B.drew
    have KB := And.intro K0 B0
    clear K0 B0
    have FL := Lib.hid (show ∀ W, Vars [(p12, [.bool v1, .string v2, .bool v3, .string v4]), (p10, [.bool v1, .string v2, .bool v3, .string v4]), (p8, [.bool u1, .string u2, .bool u3, .string u4]), (p6, [.bool u1, .string u2, .bool u3, .string u4]), (p4, [.bool x1, .string x2, .bool x3, .string x4]), (p2, [.bool x1, .string x2, .bool x3, .string x4]), (w.heap.size, [.bool na, .string sa, .bool ma, .string ta]), (w.heap.size + 1, [.bool nb, .string sb, .bool mb, .string tb])] W → (W.cell? ⟨p12, 0, none⟩ = some (.bool v1) ∧ W.cell? ⟨p12, 1, none⟩ = some (.string v2) ∧ W.cell? ⟨p12, 2, none⟩ = some (.bool v3) ∧ W.cell? ⟨p12, 3, none⟩ = some (.string v4) ∧ W.cell? ⟨p10, 0, none⟩ = some (.bool v1) ∧ W.cell? ⟨p10, 1, none⟩ = some (.string v2) ∧ W.cell? ⟨p10, 2, none⟩ = some (.bool v3) ∧ W.cell? ⟨p10, 3, none⟩ = some (.string v4) ∧ W.cell? ⟨p8, 0, none⟩ = some (.bool u1) ∧ W.cell? ⟨p8, 1, none⟩ = some (.string u2) ∧ W.cell? ⟨p8, 2, none⟩ = some (.bool u3) ∧ W.cell? ⟨p8, 3, none⟩ = some (.string u4) ∧ W.cell? ⟨p6, 0, none⟩ = some (.bool u1) ∧ W.cell? ⟨p6, 1, none⟩ = some (.string u2) ∧ W.cell? ⟨p6, 2, none⟩ = some (.bool u3) ∧ W.cell? ⟨p6, 3, none⟩ = some (.string u4) ∧ W.cell? ⟨p4, 0, none⟩ = some (.bool x1) ∧ W.cell? ⟨p4, 1, none⟩ = some (.string x2) ∧ W.cell? ⟨p4, 2, none⟩ = some (.bool x3) ∧ W.cell? ⟨p4, 3, none⟩ = some (.string x4) ∧ W.cell? ⟨p2, 0, none⟩ = some (.bool x1) ∧ W.cell? ⟨p2, 1, none⟩ = some (.string x2) ∧ W.cell? ⟨p2, 2, none⟩ = some (.bool x3) ∧ W.cell? ⟨p2, 3, none⟩ = some (.string x4) ∧ W.cell? ⟨w.heap.size, 0, none⟩ = some (.bool na) ∧ W.cell? ⟨w.heap.size, 1, none⟩ = some (.string sa) ∧ W.cell? ⟨w.heap.size, 2, none⟩ = some (.bool ma) ∧ W.cell? ⟨w.heap.size, 3, none⟩ = some (.string ta) ∧ W.cell? ⟨w.heap.size + 1, 0, none⟩ = some (.bool nb) ∧ W.cell? ⟨w.heap.size + 1, 1, none⟩ = some (.string sb) ∧ W.cell? ⟨w.heap.size + 1, 2, none⟩ = some (.bool mb) ∧ W.cell? ⟨w.heap.size + 1, 3, none⟩ = some (.string tb)) from fun W h => ⟨h.at 0 0 rfl, h.at 0 1 rfl, h.at 0 2 rfl, h.at 0 3 rfl, h.at 1 0 rfl, h.at 1 1 rfl, h.at 1 2 rfl, h.at 1 3 rfl, h.at 2 0 rfl, h.at 2 1 rfl, h.at 2 2 rfl, h.at 2 3 rfl, h.at 3 0 rfl, h.at 3 1 rfl, h.at 3 2 rfl, h.at 3 3 rfl, h.at 4 0 rfl, h.at 4 1 rfl, h.at 4 2 rfl, h.at 4 3 rfl, h.at 5 0 rfl, h.at 5 1 rfl, h.at 5 2 rfl, h.at 5 3 rfl, h.at 6 0 rfl, h.at 6 1 rfl, h.at 6 2 rfl, h.at 6 3 rfl, h.at 7 0 rfl, h.at 7 1 rfl, h.at 7 2 rfl, h.at 7 3 rfl⟩)
    go_region_held3 (fun W => W.cell? ⟨p12, 0, none⟩ = some (.bool v1) ∧ W.cell? ⟨p12, 1, none⟩ = some (.string v2) ∧ W.cell? ⟨p12, 2, none⟩ = some (.bool v3) ∧ W.cell? ⟨p12, 3, none⟩ = some (.string v4) ∧ W.cell? ⟨p10, 0, none⟩ = some (.bool v1) ∧ W.cell? ⟨p10, 1, none⟩ = some (.string v2) ∧ W.cell? ⟨p10, 2, none⟩ = some (.bool v3) ∧ W.cell? ⟨p10, 3, none⟩ = some (.string v4) ∧ W.cell? ⟨p8, 0, none⟩ = some (.bool u1) ∧ W.cell? ⟨p8, 1, none⟩ = some (.string u2) ∧ W.cell? ⟨p8, 2, none⟩ = some (.bool u3) ∧ W.cell? ⟨p8, 3, none⟩ = some (.string u4) ∧ W.cell? ⟨p6, 0, none⟩ = some (.bool u1) ∧ W.cell? ⟨p6, 1, none⟩ = some (.string u2) ∧ W.cell? ⟨p6, 2, none⟩ = some (.bool u3) ∧ W.cell? ⟨p6, 3, none⟩ = some (.string u4) ∧ W.cell? ⟨p4, 0, none⟩ = some (.bool x1) ∧ W.cell? ⟨p4, 1, none⟩ = some (.string x2) ∧ W.cell? ⟨p4, 2, none⟩ = some (.bool x3) ∧ W.cell? ⟨p4, 3, none⟩ = some (.string x4) ∧ W.cell? ⟨p2, 0, none⟩ = some (.bool x1) ∧ W.cell? ⟨p2, 1, none⟩ = some (.string x2) ∧ W.cell? ⟨p2, 2, none⟩ = some (.bool x3) ∧ W.cell? ⟨p2, 3, none⟩ = some (.string x4) ∧ W.cell? ⟨w.heap.size, 0, none⟩ = some (.bool na) ∧ W.cell? ⟨w.heap.size, 1, none⟩ = some (.string sa) ∧ W.cell? ⟨w.heap.size, 2, none⟩ = some (.bool ma) ∧ W.cell? ⟨w.heap.size, 3, none⟩ = some (.string ta) ∧ W.cell? ⟨w.heap.size + 1, 0, none⟩ = some (.bool nb) ∧ W.cell? ⟨w.heap.size + 1, 1, none⟩ = some (.string sb) ∧ W.cell? ⟨w.heap.size + 1, 2, none⟩ = some (.bool mb) ∧ W.cell? ⟨w.heap.size + 1, 3, none⟩ = some (.string tb))
      (first | (with_reducible exact FL.out _ KB.1) | (with_reducible exact FL.out _ (Vars.alloc KB.1 _)) | exact FL.out _ KB.1)
      (first
        | (go_at_call 12; (with_reducible refine (HPR1.out _ (H0.out.keep KB.2) (tab_keep Ht.out KB.2)).mono ?_); rintro e X ⟨rfl, bX⟩; (try unfold ratV); have KB := And.intro (KB.1.keep bX) (below_more KB.2 (Nat.le_refl _) bX))
        | (go_at_call 13; (with_reducible refine (HPR2.out _).mono ?_); rintro e X ⟨rfl, bX⟩; (try unfold ratV); have KB := And.intro (KB.1.keep bX) (below_more KB.2 (Nat.le_refl _) bX))
        | (go_at_call 5; (with_reducible refine (awaker_any _ (H0.out.keep KB.2) (tab_keep Ht.out KB.2)).mono ?_); rintro e X ⟨rfl, bX⟩; (try unfold ratV); have KB := And.intro (KB.1.keep bX) (below_more KB.2 (Nat.le_refl _) bX)))
    all_goals
      go_wp2
      go_ret
      exact ⟨rfl, KB.2⟩
end Go.Proofs.YtcljkdninmldiaaGreatDoor

namespace Go.Proofs.YtcljkdninmldiaaGreatDoor.rationalOthers
open Go.ChangeShapes Go.WideShapes Go.ChangeAt Go.RowKit
open Go.ChangeMaps (open_string shut_string)
set_option maxRecDepth 100000
set_option linter.unusedVariables false

theorem contract (H : Type) (enc : TypeId × Value → H) (W : World) (base : Nat) (args : Array Value) (ds gs : List (DataW H)) (before : List MemPlace)
    (hval : ∀ (j : Nat) t v, Tryz.f3.params[j]? = some t → args[j]? = some v → Value.okWide Tryz.prog W .any base t v)
    (hW : DataW.Whole enc Tryz.prog Tryz.f3.params.toList Rows.rationalOthersSpec.vars false W args.toList ds gs before) (hL : laidMetH Tryz.prog Rows.rationalOthersRow.laid W) (hS : W.ShapedOpen Tryz.prog) :
    Calls Tryz.prog 3 args W fun e W' => ∃ v, e = .returned v ∧ Rows.rationalOthersSpec.post enc Tryz.prog Tryz.f3 false true false false W args v W' := by
  have hW' := hW
  obtain ⟨p, q, hA0, hV, rfl, hfz, hnd⟩ := hW
  have hA : DataW.TrodAll enc Tryz.prog W 0 (fun _ => true) true Tryz.f3.params.toList args.toList ds p := hA0
  rw [Tryz.params3] at hA hval
  obtain ⟨v0, vs0, d0, ds0, p0, q0, hargs, rfl, rfl, h0, r0⟩ := trodAll_cons hA
  obtain ⟨v1, vs1, d1, ds1, p1, q1, rfl, rfl, rfl, h1, r1⟩ := trodAll_cons r0
  obtain ⟨v2, vs2, d2, ds2, p2, q2, rfl, rfl, rfl, h2, r2⟩ := trodAll_cons r1
  obtain ⟨v3, vs3, d3, ds3, p3, q3, rfl, rfl, rfl, h3, r3⟩ := trodAll_cons r2
  obtain ⟨rfl, rfl, rfl⟩ := trodAll_nil r3
  obtain rfl : args = #[v0, v1, v2, v3] := by cases args; simp_all
  obtain ⟨rfl, rfl⟩ := trodVars_none hV
  obtain ⟨g0, s0, k0, t0, rfl, rfl, rfl, z0, y0⟩ := rat_open (hval 0 25 v0 rfl rfl) h0
  obtain ⟨g1, s1, k1, t1, rfl, rfl, rfl, z1, y1⟩ := rat_open (hval 1 25 v1 rfl rfl) h1
  obtain ⟨n2, rfl, rfl, rfl, w2⟩ := open_int Tryz.underlying3 (hval 2 3 v2 rfl rfl) h2
  have b2 : (IntKind.min .i64) ≤ n2 ∧ n2 ≤ (IntKind.max .i64) := by simpa [Lit.wf] using w2
  simp [IntKind.min, IntKind.max, IntKind.signed, IntKind.bits] at b2
  obtain ⟨s3, rfl, rfl, rfl, z3⟩ := open_string Tryz.underlying9 (hval 3 9 v3 rfl rfl) h3
  clear hA0
  simp only [List.append_nil] at hW'
  refine (roth_any g0 s0 k0 t0 g1 s1 k1 t1 n2 s3.data.toList W z0 y0 z1 y1 b2.1 b2.2 (by exact z3) (zero0 hS) (tabPow hL)).mono fun e W' ⟨he, hb⟩ => ?_
  subst he
  refine ⟨_, rfl, _, _, _, [], [], [], hW', ?_, ?_, ?_, hb.frame _, fun h => by cases h⟩
  · exact trodAll_cons_mk (p := []) (shut_bool Tryz.underlying4 true) trodAll_mk0
  · exact (trodAll_cons_mk (p := []) (rat_shut z0 y0) (trodAll_cons_mk (p := []) (rat_shut z1 y1) (trodAll_cons_mk (p := []) (shut_int Tryz.underlying3 w2) (trodAll_cons_mk (p := []) (shut_string Tryz.underlying9 z3) trodAll_mk0))))
  · rfl

theorem reads (os : Os) {H : Type} (enc : TypeId × Value → H) : ∃ places, DataW.whole enc Tryz.prog ((laidWorld os).forCall (fun _ _ => 0) ⟨#[], #[.agg #[.bool false, .string ⟨#[]⟩, .bool false, .string ⟨#[]⟩], .agg #[.bool false, .string ⟨#[]⟩, .bool false, .string ⟨#[]⟩], .int .i64 0, .string ⟨#[]⟩], []⟩).memory Tryz.f3.params.toList Rows.rationalOthersSpec.vars false [.agg #[.bool false, .string ⟨#[]⟩, .bool false, .string ⟨#[]⟩], .agg #[.bool false, .string ⟨#[]⟩, .bool false, .string ⟨#[]⟩], .int .i64 0, .string ⟨#[]⟩] 8 = some ([.agg [.agg [.lit (.bool false), .lit (.string [])], .agg [.lit (.bool false), .lit (.string [])]], .agg [.agg [.lit (.bool false), .lit (.string [])], .agg [.lit (.bool false), .lit (.string [])]], .lit (.int .i64 0), .lit (.string [])], [], places) :=
  ⟨[], by kernel_rfl⟩

theorem lifted (os : Os) (started : os.Started) (H : Type) (enc : TypeId × Value → H) (F : Stop.Interp) :
    ReturnsInHanded {} Tryz.checked os 3 .any ((OpenSpec.ofChange Rows.rationalOthersSpec).preRow enc Tryz.prog Tryz.f3 Rows.rationalOthersRow.domain false Rows.rationalOthersRow.laid) (((OpenSpec.ofChange Rows.rationalOthersSpec).at F).post enc Tryz.prog Tryz.f3 false true false false) := by
  obtain ⟨places, hx⟩ := reads os enc
  refine returnsInHanded_of_row (C := Tryz.checked) (s := OpenSpec.ofChange Rows.rationalOthersSpec) ownNone started (by kernel_rfl) Tryz.func3
    (witness_row_at (enc := enc) (C := Tryz.checked) false (laidWorld os) #[.agg #[.bool false, .string ⟨#[]⟩, .bool false, .string ⟨#[]⟩], .agg #[.bool false, .string ⟨#[]⟩, .bool false, .string ⟨#[]⟩], .int .i64 0, .string ⟨#[]⟩] rfl (by kernel_rfl) (by kernel_rfl) (by kernel_rfl)
      (OpenSpec.preRow_of_cond 8 hx (by kernel_rfl) (fun k hk => by cases hk) (by kernel_rfl) (laid_met os _))) ?_
  intro W base args ds gs before hval hW _ _ _ hL hS _
  exact contract H enc W base args ds gs before hval hW hL hS

theorem said : Rows.RationalOthersSaid :=
  OpenClaim.holds_of_cond 3 Tryz.f3 rfl rfl rfl rfl rfl rfl rfl ⟨rfl, rfl, rfl, rfl, rfl⟩ rfl rfl rfl rfl rfl (by kernel_rfl) Tryz.func3 (by kernel_rfl)
    (of_decide_eq_true (by kernel_rfl)) (by unfold Func.isWrapper; first | (rw [if_pos (by decide +kernel)]; kernel_rfl) | (rw [if_neg (by decide +kernel)]; exact ⟨rfl, rfl⟩))
    (fun os started H enc _ F => by rw [OpenClaim.pre_eq_preRow]; exact lifted os started H enc F)

theorem plain (f : FuncId) (fn : Func) (hf : Tryz.pinned.checked.prog.funcNamed "groove/groovelaw02.RationalOthers" = some f) (hfn : Tryz.pinned.checked.prog.funcs[f]? = some fn) :
    false = Tryz.pinned.checked.prog.looks [] ∧ ∀ (j : Nat) t, fn.params[j]? = some t → Tryz.pinned.checked.prog.wantsStandIn t = false := by
  obtain rfl : f = 3 := Option.some.inj ((show Tryz.prog.funcNamed "groove/groovelaw02.RationalOthers" = some 3 by kernel_rfl).symm.trans hf) |>.symm
  obtain rfl : fn = Tryz.f3 := (Option.some.inj (Tryz.func3.symm.trans hfn)).symm
  refine ⟨by kernel_rfl, fun j t ht => ?_⟩
  rw [Tryz.params3] at ht
  have hm := Array.mem_of_getElem? ht
  have hm : t = 25 ∨ t = 25 ∨ t = 3 ∨ t = 9 := by simpa using hm
  rcases hm with rfl | rfl | rfl | rfl
  · exact noStandR
  · exact noStandR
  · exact noStand.2.2.2.1
  · exact noStand.2.1

/-- RationalOthers's card. -/
theorem card : Rows.RationalOthersCardSaid :=
  Claim7.holds_tied_plain_at .later [] _ _ _ _ said (fun _ h => by cases h) (by kernel_rfl) (fun _ h => by cases h) rationalOthers_row_tie rfl ⟨rfl, rfl⟩ (by kernel_rfl) rfl plain (by kernel_rfl)
end Go.Proofs.YtcljkdninmldiaaGreatDoor.rationalOthers
