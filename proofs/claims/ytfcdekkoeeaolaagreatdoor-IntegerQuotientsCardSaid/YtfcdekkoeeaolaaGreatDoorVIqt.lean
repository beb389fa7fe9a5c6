/- IntegerQuotients returns true for every input: the walk. Conditions: its own table, and what is in memory. IntegerQuotients returns true for every input: the law's row, and its card, tied to the program's text. Conditions: those of the row: its tables read as listed (the card ties them to the program's text). -/
import Derived.Test.YtfcdekkoeeaolaaGreatDoorQ35
import Derived.Test.YtfcdekkoeeaolaaGreatDoorQ36
import Derived.Test.YtfcdekkoeeaolaaGreatDoorQ37

namespace Go.Proofs.YtfcdekkoeeaolaaGreatDoor
open Go.RowKit
set_option linter.unusedSimpArgs false
set_option linter.unusedVariables false
attribute [local go_sem ↓] eqlInt guardInt2

theorem great2Q (sa sb : ByteArray) : greatB 2 (fun i => if i = 0 then sa else sb) = (decide (60 < sa.size) || decide (60 < sb.size)) := by simp [greatB, List.range_succ]
theorem below_alQ {w w1 : World} (h : Below w.heap.size w w1) (o : Obj) : Below w.heap.size w (w1.alloc o) := h.alloc h.size _
set_option maxRecDepth 100000 in
set_option maxHeartbeats 12800000 in
theorem quots_any (na nb : Bool) (sa sb : ByteArray) (n : Int) (w : World) (ha : sa.size ≤ 9223372036854775807) (hb : sb.size ≤ 9223372036854775807) (hn0 : -9223372036854775808 ≤ n) (hn1 : n ≤ 9223372036854775807) (htab : Lib.TabIs Tryz.prog w "internal/strconv.uint64pow10" .u64 Lib.pow10Tab) :
    Calls Tryz.prog 4 #[.agg #[.bool na, .string sa], .agg #[.bool nb, .string sb], .int .i64 n] w fun e w' => e = .returned (.bool true) ∧ Below w.heap.size w w' := by
  have Htab := Lib.hid htab
  clear htab
  obtain ⟨la, rfl⟩ : ∃ l : List UInt8, sa = ⟨l.toArray⟩ := ⟨sa.data.toList, rfl⟩
  obtain ⟨lb, rfl⟩ : ∃ l : List UInt8, sb = ⟨l.toArray⟩ := ⟨sb.data.toList, rfl⟩
  go_enter Tryz.func4, Tryz.ntmps4
  go_wp2_with fail
  refine (greats_any (w.heap.size + 1 + 1) 0 2 2 (fun i => if i = 0 then na else nb) (fun i => if i = 0 then ⟨la.toArray⟩ else ⟨lb.toArray⟩) _ ?_ (by omega) ?_).mono ?_
  · intro i hi
    have : i = 0 ∨ i = 1 := by omega
    rcases this with rfl | rfl <;> simp [go_sem]
  · intro i hi
    have : i = 0 ∨ i = 1 := by omega
    rcases this with rfl | rfl
    · exact ha
    · exact hb
  rintro e W0 ⟨rfl, b0⟩
  rw [great2Q]
  have K : Vars [(w.heap.size + 1, [.bool nb, .string ⟨lb.toArray⟩]), (w.heap.size, [.bool na, .string ⟨la.toArray⟩])] W0 := Vars.keep b0 (Vars.cons (two_cells (by simp [go_sem]) (by simp [go_sem])) (Vars.cons (two_cells (by simp [go_sem]) (by simp [go_sem])) (Vars.nil _)))
  have B : Below w.heap.size w W0 := below_more (below3 w _ _ _) (Nat.le_refl _) b0
  clear b0
  by_cases hg : (decide (60 < (⟨la.toArray⟩ : ByteArray).size) || decide (60 < (⟨lb.toArray⟩ : ByteArray).size)) = true
  · rw [hg]
    clear K
    go_wp2_with fail
    refine (awake_any _ (tab_keep Htab.out B)).mono ?_
    rintro e W2 ⟨rfl, b2⟩
    go_wp2
    go_ret
    exact ⟨rfl, below_more B (Nat.le_refl _) b2⟩
  rw [Bool.not_eq_true] at hg
  rw [hg]
  have h60 : la.length ≤ 60 ∧ lb.length ≤ 60 := by
    have h : (⟨la.toArray⟩ : ByteArray).size ≤ 60 ∧ (⟨lb.toArray⟩ : ByteArray).size ≤ 60 := by simpa using hg
    exact h
  clear hg ha hb
  obtain ⟨gq, sq, gr, sr, ed, CD1, CD2⟩ := div_both na nb la lb h60.1 h60.2
  obtain ⟨gx, sx, ex, CX1, CX2⟩ := root_both na la h60.1 n
  obtain ⟨gu, su, eu, CU1, CU2⟩ := pow_both nb lb h60.2 n
  obtain ⟨gg, sg9, CG1, CG2⟩ := gcd_both na nb la lb h60.1 h60.2
  obtain ⟨ht, CH⟩ : ∃ ht : Bool, ∀ w, Calls Tryz.prog 15 #[.agg #[.bool nb, .string ⟨lb.toArray⟩], .int .i64 n] w fun e w' => e = .returned (.bool ht) ∧ Below w.heap.size w w' := heavy_all nb lb n h60.2 hn0 hn1
  have D1 := Lib.hid CD1
  have D2 := Lib.hid CD2
  have X1 := Lib.hid CX1
  have X2 := Lib.hid CX2
  have U1 := Lib.hid CU1
  have U2 := Lib.hid CU2
  have G1 := Lib.hid CG1
  have G2 := Lib.hid CG2
  have H1 := Lib.hid CH
  clear CD1 CD2 CX1 CX2 CU1 CU2 CG1 CG2 CH h60 hn0 hn1
  obtain ⟨t1, t2, t3, t4⟩ : W0.cell? ⟨w.heap.size + 1, 0, none⟩ = some (.bool nb) ∧ W0.cell? ⟨w.heap.size + 1, 1, none⟩ = some (.string ⟨lb.toArray⟩) ∧ W0.cell? ⟨w.heap.size, 0, none⟩ = some (.bool na) ∧ W0.cell? ⟨w.heap.size, 1, none⟩ = some (.string ⟨la.toArray⟩) := ⟨K.at 0 0 rfl, K.at 0 1 rfl, K.at 1 0 rfl, K.at 1 1 rfl⟩
  go_wp2_with fail
  refine (H1.out _).mono ?_
  rintro e W1 ⟨rfl, b1⟩
  have K := K.keep b1
  have B := below_more B (Nat.le_refl _) b1
  clear b1
  clear t1 t2 t3 t4
  cases ht with
  | true =>
    clear K
    go_wp2_with fail
    refine (awake_any _ (tab_keep Htab.out B)).mono ?_
    rintro e W2 ⟨rfl, b2⟩
    go_wp2
    go_ret
    exact ⟨rfl, below_more B (Nat.le_refl _) b2⟩
  | false =>
    obtain ⟨t1, t2, t3, t4⟩ : W1.cell? ⟨w.heap.size + 1, 0, none⟩ = some (.bool nb) ∧ W1.cell? ⟨w.heap.size + 1, 1, none⟩ = some (.string ⟨lb.toArray⟩) ∧ W1.cell? ⟨w.heap.size, 0, none⟩ = some (.bool na) ∧ W1.cell? ⟨w.heap.size, 1, none⟩ = some (.string ⟨la.toArray⟩) := ⟨K.at 0 0 rfl, K.at 0 1 rfl, K.at 1 0 rfl, K.at 1 1 rfl⟩
    go_wp2_with fail
    refine (D1.out _).mono ?_
    rintro e W2 ⟨rfl, b2⟩
    have K := K.keep b2
    have B := below_more B (Nat.le_refl _) b2
    clear b2
    clear t1 t2 t3 t4
    have K : Vars ((W2.heap.size, [.bool gq, .string sq]) :: [(w.heap.size + 1, [.bool nb, .string ⟨lb.toArray⟩]), (w.heap.size, [.bool na, .string ⟨la.toArray⟩])]) (W2.alloc (.cells #[.bool gq, .string sq] 23)) := Vars.new K _ _
    have K : Vars ((W2.heap.size + 1, [.bool gr, .string sr]) :: [(W2.heap.size, [.bool gq, .string sq]), (w.heap.size + 1, [.bool nb, .string ⟨lb.toArray⟩]), (w.heap.size, [.bool na, .string ⟨la.toArray⟩])]) ((W2.alloc (.cells #[.bool gq, .string sq] 23)).alloc (.cells #[.bool gr, .string sr] 23)) := by
      have h := Vars.new K [.bool gr, .string sr] 23
      rw [World.size_alloc] at h
      exact h
    have B := below_alQ (below_alQ B (.cells #[.bool gq, .string sq] 23)) (.cells #[.bool gr, .string sr] 23)
    go_upto_region 4 with fail
    generalize (W2.alloc (.cells #[.bool gq, .string sq] 23)).alloc (.cells #[.bool gr, .string sr] 23) = V3 at *
    generalize W2.heap.size + 1 = r3 at *
    generalize W2.heap.size = p3 at *
    obtain ⟨t1, t2, t3, t4, t5, t6, t7, t8⟩ : V3.cell? ⟨r3, 0, none⟩ = some (.bool gr) ∧ V3.cell? ⟨r3, 1, none⟩ = some (.string sr) ∧ V3.cell? ⟨p3, 0, none⟩ = some (.bool gq) ∧ V3.cell? ⟨p3, 1, none⟩ = some (.string sq) ∧ V3.cell? ⟨w.heap.size + 1, 0, none⟩ = some (.bool nb) ∧ V3.cell? ⟨w.heap.size + 1, 1, none⟩ = some (.string ⟨lb.toArray⟩) ∧ V3.cell? ⟨w.heap.size, 0, none⟩ = some (.bool na) ∧ V3.cell? ⟨w.heap.size, 1, none⟩ = some (.string ⟨la.toArray⟩) := ⟨K.at 0 0 rfl, K.at 0 1 rfl, K.at 1 0 rfl, K.at 1 1 rfl, K.at 2 0 rfl, K.at 2 1 rfl, K.at 3 0 rfl, K.at 3 1 rfl⟩
    go_wp2_with fail
    refine (D2.out _).mono ?_
    rintro e W4 ⟨rfl, b4⟩
    have K := K.keep b4
    have B := below_more B (Nat.le_refl _) b4
    clear b4
    clear t1 t2 t3 t4 t5 t6 t7 t8
    have K : Vars ((W4.heap.size, [.bool gq, .string sq]) :: [(r3, [.bool gr, .string sr]), (p3, [.bool gq, .string sq]), (w.heap.size + 1, [.bool nb, .string ⟨lb.toArray⟩]), (w.heap.size, [.bool na, .string ⟨la.toArray⟩])]) (W4.alloc (.cells #[.bool gq, .string sq] 23)) := Vars.new K _ _
    have K : Vars ((W4.heap.size + 1, [.bool gr, .string sr]) :: [(W4.heap.size, [.bool gq, .string sq]), (r3, [.bool gr, .string sr]), (p3, [.bool gq, .string sq]), (w.heap.size + 1, [.bool nb, .string ⟨lb.toArray⟩]), (w.heap.size, [.bool na, .string ⟨la.toArray⟩])]) ((W4.alloc (.cells #[.bool gq, .string sq] 23)).alloc (.cells #[.bool gr, .string sr] 23)) := by
      have h := Vars.new K [.bool gr, .string sr] 23
      rw [World.size_alloc] at h
      exact h
    have B := below_alQ (below_alQ B (.cells #[.bool gq, .string sq] 23)) (.cells #[.bool gr, .string sr] 23)
    go_upto_region 5 with fail
    generalize (W4.alloc (.cells #[.bool gq, .string sq] 23)).alloc (.cells #[.bool gr, .string sr] 23) = V5 at *
    generalize W4.heap.size + 1 = r5 at *
    generalize W4.heap.size = p5 at *
    obtain ⟨t1, t2, t3, t4, t5, t6, t7, t8, t9, t10, t11, t12⟩ : V5.cell? ⟨r5, 0, none⟩ = some (.bool gr) ∧ V5.cell? ⟨r5, 1, none⟩ = some (.string sr) ∧ V5.cell? ⟨p5, 0, none⟩ = some (.bool gq) ∧ V5.cell? ⟨p5, 1, none⟩ = some (.string sq) ∧ V5.cell? ⟨r3, 0, none⟩ = some (.bool gr) ∧ V5.cell? ⟨r3, 1, none⟩ = some (.string sr) ∧ V5.cell? ⟨p3, 0, none⟩ = some (.bool gq) ∧ V5.cell? ⟨p3, 1, none⟩ = some (.string sq) ∧ V5.cell? ⟨w.heap.size + 1, 0, none⟩ = some (.bool nb) ∧ V5.cell? ⟨w.heap.size + 1, 1, none⟩ = some (.string ⟨lb.toArray⟩) ∧ V5.cell? ⟨w.heap.size, 0, none⟩ = some (.bool na) ∧ V5.cell? ⟨w.heap.size, 1, none⟩ = some (.string ⟨la.toArray⟩) := ⟨K.at 0 0 rfl, K.at 0 1 rfl, K.at 1 0 rfl, K.at 1 1 rfl, K.at 2 0 rfl, K.at 2 1 rfl, K.at 3 0 rfl, K.at 3 1 rfl, K.at 4 0 rfl, K.at 4 1 rfl, K.at 5 0 rfl, K.at 5 1 rfl⟩
    go_wp2_with fail
    refine (X1.out _).mono ?_
    rintro e W6 ⟨rfl, b6⟩
    have K := K.keep b6
    have B := below_more B (Nat.le_refl _) b6
    clear b6
    clear t1 t2 t3 t4 t5 t6 t7 t8 t9 t10 t11 t12
    have hbl := below1 W6 (.cells #[.bool gx, .string sx] 23)
    have K : Vars ((W6.heap.size, [.bool gx, .string sx]) :: [(r5, [.bool gr, .string sr]), (p5, [.bool gq, .string sq]), (r3, [.bool gr, .string sr]), (p3, [.bool gq, .string sq]), (w.heap.size + 1, [.bool nb, .string ⟨lb.toArray⟩]), (w.heap.size, [.bool na, .string ⟨la.toArray⟩])]) (W6.alloc (.cells #[.bool gx, .string sx] 23)) := Vars.new K _ _
    have B := below_more B (Nat.le_refl _) hbl
    clear hbl
    go_upto_region 6 with fail
    generalize W6.alloc (.cells #[.bool gx, .string sx] 23) = V7 at *
    generalize W6.heap.size = p7 at *
    obtain ⟨t1, t2, t3, t4, t5, t6, t7, t8, t9, t10, t11, t12, t13, t14⟩ : V7.cell? ⟨p7, 0, none⟩ = some (.bool gx) ∧ V7.cell? ⟨p7, 1, none⟩ = some (.string sx) ∧ V7.cell? ⟨r5, 0, none⟩ = some (.bool gr) ∧ V7.cell? ⟨r5, 1, none⟩ = some (.string sr) ∧ V7.cell? ⟨p5, 0, none⟩ = some (.bool gq) ∧ V7.cell? ⟨p5, 1, none⟩ = some (.string sq) ∧ V7.cell? ⟨r3, 0, none⟩ = some (.bool gr) ∧ V7.cell? ⟨r3, 1, none⟩ = some (.string sr) ∧ V7.cell? ⟨p3, 0, none⟩ = some (.bool gq) ∧ V7.cell? ⟨p3, 1, none⟩ = some (.string sq) ∧ V7.cell? ⟨w.heap.size + 1, 0, none⟩ = some (.bool nb) ∧ V7.cell? ⟨w.heap.size + 1, 1, none⟩ = some (.string ⟨lb.toArray⟩) ∧ V7.cell? ⟨w.heap.size, 0, none⟩ = some (.bool na) ∧ V7.cell? ⟨w.heap.size, 1, none⟩ = some (.string ⟨la.toArray⟩) := ⟨K.at 0 0 rfl, K.at 0 1 rfl, K.at 1 0 rfl, K.at 1 1 rfl, K.at 2 0 rfl, K.at 2 1 rfl, K.at 3 0 rfl, K.at 3 1 rfl, K.at 4 0 rfl, K.at 4 1 rfl, K.at 5 0 rfl, K.at 5 1 rfl, K.at 6 0 rfl, K.at 6 1 rfl⟩
    go_wp2_with fail
    refine (X2.out _).mono ?_
    rintro e W8 ⟨rfl, b8⟩
    have K := K.keep b8
    have B := below_more B (Nat.le_refl _) b8
    clear b8
    clear t1 t2 t3 t4 t5 t6 t7 t8 t9 t10 t11 t12 t13 t14
    have hbl := below1 W8 (.cells #[.bool gx, .string sx] 23)
    have K : Vars ((W8.heap.size, [.bool gx, .string sx]) :: [(p7, [.bool gx, .string sx]), (r5, [.bool gr, .string sr]), (p5, [.bool gq, .string sq]), (r3, [.bool gr, .string sr]), (p3, [.bool gq, .string sq]), (w.heap.size + 1, [.bool nb, .string ⟨lb.toArray⟩]), (w.heap.size, [.bool na, .string ⟨la.toArray⟩])]) (W8.alloc (.cells #[.bool gx, .string sx] 23)) := Vars.new K _ _
    have B := below_more B (Nat.le_refl _) hbl
    clear hbl
    go_upto_region 7 with fail
    generalize W8.alloc (.cells #[.bool gx, .string sx] 23) = V9 at *
    generalize W8.heap.size = p9 at *
    obtain ⟨t1, t2, t3, t4, t5, t6, t7, t8, t9, t10, t11, t12, t13, t14, t15, t16⟩ : V9.cell? ⟨p9, 0, none⟩ = some (.bool gx) ∧ V9.cell? ⟨p9, 1, none⟩ = some (.string sx) ∧ V9.cell? ⟨p7, 0, none⟩ = some (.bool gx) ∧ V9.cell? ⟨p7, 1, none⟩ = some (.string sx) ∧ V9.cell? ⟨r5, 0, none⟩ = some (.bool gr) ∧ V9.cell? ⟨r5, 1, none⟩ = some (.string sr) ∧ V9.cell? ⟨p5, 0, none⟩ = some (.bool gq) ∧ V9.cell? ⟨p5, 1, none⟩ = some (.string sq) ∧ V9.cell? ⟨r3, 0, none⟩ = some (.bool gr) ∧ V9.cell? ⟨r3, 1, none⟩ = some (.string sr) ∧ V9.cell? ⟨p3, 0, none⟩ = some (.bool gq) ∧ V9.cell? ⟨p3, 1, none⟩ = some (.string sq) ∧ V9.cell? ⟨w.heap.size + 1, 0, none⟩ = some (.bool nb) ∧ V9.cell? ⟨w.heap.size + 1, 1, none⟩ = some (.string ⟨lb.toArray⟩) ∧ V9.cell? ⟨w.heap.size, 0, none⟩ = some (.bool na) ∧ V9.cell? ⟨w.heap.size, 1, none⟩ = some (.string ⟨la.toArray⟩) := ⟨K.at 0 0 rfl, K.at 0 1 rfl, K.at 1 0 rfl, K.at 1 1 rfl, K.at 2 0 rfl, K.at 2 1 rfl, K.at 3 0 rfl, K.at 3 1 rfl, K.at 4 0 rfl, K.at 4 1 rfl, K.at 5 0 rfl, K.at 5 1 rfl, K.at 6 0 rfl, K.at 6 1 rfl, K.at 7 0 rfl, K.at 7 1 rfl⟩
    go_wp2_with fail
    refine (U1.out _).mono ?_
    rintro e W10 ⟨rfl, b10⟩
    have K := K.keep b10
    have B := below_more B (Nat.le_refl _) b10
    clear b10
    clear t1 t2 t3 t4 t5 t6 t7 t8 t9 t10 t11 t12 t13 t14 t15 t16
    have hbl := below1 W10 (.cells #[.bool gu, .string su] 23)
    have K : Vars ((W10.heap.size, [.bool gu, .string su]) :: [(p9, [.bool gx, .string sx]), (p7, [.bool gx, .string sx]), (r5, [.bool gr, .string sr]), (p5, [.bool gq, .string sq]), (r3, [.bool gr, .string sr]), (p3, [.bool gq, .string sq]), (w.heap.size + 1, [.bool nb, .string ⟨lb.toArray⟩]), (w.heap.size, [.bool na, .string ⟨la.toArray⟩])]) (W10.alloc (.cells #[.bool gu, .string su] 23)) := Vars.new K _ _
    have B := below_more B (Nat.le_refl _) hbl
    clear hbl
    go_upto_region 8 with fail
    generalize W10.alloc (.cells #[.bool gu, .string su] 23) = V11 at *
    generalize W10.heap.size = p11 at *
    obtain ⟨t1, t2, t3, t4, t5, t6, t7, t8, t9, t10, t11, t12, t13, t14, t15, t16, t17, t18⟩ : V11.cell? ⟨p11, 0, none⟩ = some (.bool gu) ∧ V11.cell? ⟨p11, 1, none⟩ = some (.string su) ∧ V11.cell? ⟨p9, 0, none⟩ = some (.bool gx) ∧ V11.cell? ⟨p9, 1, none⟩ = some (.string sx) ∧ V11.cell? ⟨p7, 0, none⟩ = some (.bool gx) ∧ V11.cell? ⟨p7, 1, none⟩ = some (.string sx) ∧ V11.cell? ⟨r5, 0, none⟩ = some (.bool gr) ∧ V11.cell? ⟨r5, 1, none⟩ = some (.string sr) ∧ V11.cell? ⟨p5, 0, none⟩ = some (.bool gq) ∧ V11.cell? ⟨p5, 1, none⟩ = some (.string sq) ∧ V11.cell? ⟨r3, 0, none⟩ = some (.bool gr) ∧ V11.cell? ⟨r3, 1, none⟩ = some (.string sr) ∧ V11.cell? ⟨p3, 0, none⟩ = some (.bool gq) ∧ V11.cell? ⟨p3, 1, none⟩ = some (.string sq) ∧ V11.cell? ⟨w.heap.size + 1, 0, none⟩ = some (.bool nb) ∧ V11.cell? ⟨w.heap.size + 1, 1, none⟩ = some (.string ⟨lb.toArray⟩) ∧ V11.cell? ⟨w.heap.size, 0, none⟩ = some (.bool na) ∧ V11.cell? ⟨w.heap.size, 1, none⟩ = some (.string ⟨la.toArray⟩) := ⟨K.at 0 0 rfl, K.at 0 1 rfl, K.at 1 0 rfl, K.at 1 1 rfl, K.at 2 0 rfl, K.at 2 1 rfl, K.at 3 0 rfl, K.at 3 1 rfl, K.at 4 0 rfl, K.at 4 1 rfl, K.at 5 0 rfl, K.at 5 1 rfl, K.at 6 0 rfl, K.at 6 1 rfl, K.at 7 0 rfl, K.at 7 1 rfl, K.at 8 0 rfl, K.at 8 1 rfl⟩
    go_wp2_with fail
    refine (U2.out _).mono ?_
    rintro e W12 ⟨rfl, b12⟩
    have K := K.keep b12
    have B := below_more B (Nat.le_refl _) b12
    clear b12
    clear t1 t2 t3 t4 t5 t6 t7 t8 t9 t10 t11 t12 t13 t14 t15 t16 t17 t18
    have hbl := below1 W12 (.cells #[.bool gu, .string su] 23)
    have K : Vars ((W12.heap.size, [.bool gu, .string su]) :: [(p11, [.bool gu, .string su]), (p9, [.bool gx, .string sx]), (p7, [.bool gx, .string sx]), (r5, [.bool gr, .string sr]), (p5, [.bool gq, .string sq]), (r3, [.bool gr, .string sr]), (p3, [.bool gq, .string sq]), (w.heap.size + 1, [.bool nb, .string ⟨lb.toArray⟩]), (w.heap.size, [.bool na, .string ⟨la.toArray⟩])]) (W12.alloc (.cells #[.bool gu, .string su] 23)) := Vars.new K _ _
    have B := below_more B (Nat.le_refl _) hbl
    clear hbl
    go_upto_region 9 with fail
    generalize W12.alloc (.cells #[.bool gu, .string su] 23) = V13 at *
    generalize W12.heap.size = p13 at *
    obtain ⟨t1, t2, t3, t4, t5, t6, t7, t8, t9, t10, t11, t12, t13, t14, t15, t16, t17, t18, t19, t20⟩ : V13.cell? ⟨p13, 0, none⟩ = some (.bool gu) ∧ V13.cell? ⟨p13, 1, none⟩ = some (.string su) ∧ V13.cell? ⟨p11, 0, none⟩ = some (.bool gu) ∧ V13.cell? ⟨p11, 1, none⟩ = some (.string su) ∧ V13.cell? ⟨p9, 0, none⟩ = some (.bool gx) ∧ V13.cell? ⟨p9, 1, none⟩ = some (.string sx) ∧ V13.cell? ⟨p7, 0, none⟩ = some (.bool gx) ∧ V13.cell? ⟨p7, 1, none⟩ = some (.string sx) ∧ V13.cell? ⟨r5, 0, none⟩ = some (.bool gr) ∧ V13.cell? ⟨r5, 1, none⟩ = some (.string sr) ∧ V13.cell? ⟨p5, 0, none⟩ = some (.bool gq) ∧ V13.cell? ⟨p5, 1, none⟩ = some (.string sq) ∧ V13.cell? ⟨r3, 0, none⟩ = some (.bool gr) ∧ V13.cell? ⟨r3, 1, none⟩ = some (.string sr) ∧ V13.cell? ⟨p3, 0, none⟩ = some (.bool gq) ∧ V13.cell? ⟨p3, 1, none⟩ = some (.string sq) ∧ V13.cell? ⟨w.heap.size + 1, 0, none⟩ = some (.bool nb) ∧ V13.cell? ⟨w.heap.size + 1, 1, none⟩ = some (.string ⟨lb.toArray⟩) ∧ V13.cell? ⟨w.heap.size, 0, none⟩ = some (.bool na) ∧ V13.cell? ⟨w.heap.size, 1, none⟩ = some (.string ⟨la.toArray⟩) := ⟨K.at 0 0 rfl, K.at 0 1 rfl, K.at 1 0 rfl, K.at 1 1 rfl, K.at 2 0 rfl, K.at 2 1 rfl, K.at 3 0 rfl, K.at 3 1 rfl, K.at 4 0 rfl, K.at 4 1 rfl, K.at 5 0 rfl, K.at 5 1 rfl, K.at 6 0 rfl, K.at 6 1 rfl, K.at 7 0 rfl, K.at 7 1 rfl, K.at 8 0 rfl, K.at 8 1 rfl, K.at 9 0 rfl, K.at 9 1 rfl⟩
    have K0 : Vars [(p13, [.bool gu, .string su]), (p11, [.bool gu, .string su]), (p9, [.bool gx, .string sx]), (p7, [.bool gx, .string sx]), (r5, [.bool gr, .string sr]), (p5, [.bool gq, .string sq]), (r3, [.bool gr, .string sr]), (p3, [.bool gq, .string sq]), (w.heap.size + 1, [.bool nb, .string ⟨lb.toArray⟩]), (w.heap.size, [.bool na, .string ⟨la.toArray⟩])] V13.drew := K
    have B0 := B.drew
    have KB := And.intro K0 B0
    clear K0 B0
    have FL := Lib.hid (show ∀ W, Vars [(p13, [.bool gu, .string su]), (p11, [.bool gu, .string su]), (p9, [.bool gx, .string sx]), (p7, [.bool gx, .string sx]), (r5, [.bool gr, .string sr]), (p5, [.bool gq, .string sq]), (r3, [.bool gr, .string sr]), (p3, [.bool gq, .string sq]), (w.heap.size + 1, [.bool nb, .string ⟨lb.toArray⟩]), (w.heap.size, [.bool na, .string ⟨la.toArray⟩])] W → (W.cell? ⟨p13, 0, none⟩ = some (.bool gu) ∧ W.cell? ⟨p13, 1, none⟩ = some (.string su) ∧ W.cell? ⟨p11, 0, none⟩ = some (.bool gu) ∧ W.cell? ⟨p11, 1, none⟩ = some (.string su) ∧ W.cell? ⟨p9, 0, none⟩ = some (.bool gx) ∧ W.cell? ⟨p9, 1, none⟩ = some (.string sx) ∧ W.cell? ⟨p7, 0, none⟩ = some (.bool gx) ∧ W.cell? ⟨p7, 1, none⟩ = some (.string sx) ∧ W.cell? ⟨r5, 0, none⟩ = some (.bool gr) ∧ W.cell? ⟨r5, 1, none⟩ = some (.string sr) ∧ W.cell? ⟨p5, 0, none⟩ = some (.bool gq) ∧ W.cell? ⟨p5, 1, none⟩ = some (.string sq) ∧ W.cell? ⟨r3, 0, none⟩ = some (.bool gr) ∧ W.cell? ⟨r3, 1, none⟩ = some (.string sr) ∧ W.cell? ⟨p3, 0, none⟩ = some (.bool gq) ∧ W.cell? ⟨p3, 1, none⟩ = some (.string sq) ∧ W.cell? ⟨w.heap.size + 1, 0, none⟩ = some (.bool nb) ∧ W.cell? ⟨w.heap.size + 1, 1, none⟩ = some (.string ⟨lb.toArray⟩) ∧ W.cell? ⟨w.heap.size, 0, none⟩ = some (.bool na) ∧ W.cell? ⟨w.heap.size, 1, none⟩ = some (.string ⟨la.toArray⟩)) from fun W h => ⟨h.at 0 0 rfl, h.at 0 1 rfl, h.at 1 0 rfl, h.at 1 1 rfl, h.at 2 0 rfl, h.at 2 1 rfl, h.at 3 0 rfl, h.at 3 1 rfl, h.at 4 0 rfl, h.at 4 1 rfl, h.at 5 0 rfl, h.at 5 1 rfl, h.at 6 0 rfl, h.at 6 1 rfl, h.at 7 0 rfl, h.at 7 1 rfl, h.at 8 0 rfl, h.at 8 1 rfl, h.at 9 0 rfl, h.at 9 1 rfl⟩)
    go_region_held3 (fun W => W.cell? ⟨p13, 0, none⟩ = some (.bool gu) ∧ W.cell? ⟨p13, 1, none⟩ = some (.string su) ∧ W.cell? ⟨p11, 0, none⟩ = some (.bool gu) ∧ W.cell? ⟨p11, 1, none⟩ = some (.string su) ∧ W.cell? ⟨p9, 0, none⟩ = some (.bool gx) ∧ W.cell? ⟨p9, 1, none⟩ = some (.string sx) ∧ W.cell? ⟨p7, 0, none⟩ = some (.bool gx) ∧ W.cell? ⟨p7, 1, none⟩ = some (.string sx) ∧ W.cell? ⟨r5, 0, none⟩ = some (.bool gr) ∧ W.cell? ⟨r5, 1, none⟩ = some (.string sr) ∧ W.cell? ⟨p5, 0, none⟩ = some (.bool gq) ∧ W.cell? ⟨p5, 1, none⟩ = some (.string sq) ∧ W.cell? ⟨r3, 0, none⟩ = some (.bool gr) ∧ W.cell? ⟨r3, 1, none⟩ = some (.string sr) ∧ W.cell? ⟨p3, 0, none⟩ = some (.bool gq) ∧ W.cell? ⟨p3, 1, none⟩ = some (.string sq) ∧ W.cell? ⟨w.heap.size + 1, 0, none⟩ = some (.bool nb) ∧ W.cell? ⟨w.heap.size + 1, 1, none⟩ = some (.string ⟨lb.toArray⟩) ∧ W.cell? ⟨w.heap.size, 0, none⟩ = some (.bool na) ∧ W.cell? ⟨w.heap.size, 1, none⟩ = some (.string ⟨la.toArray⟩))
      (first | (with_reducible exact FL.out _ KB.1) | (with_reducible exact FL.out _ (Vars.alloc KB.1 _)) | exact FL.out _ KB.1)
      (first
        | (go_at_call 22; (with_reducible refine (G1.out _).mono ?_); rintro e X ⟨rfl, bX⟩; (try unfold ratV); have KB := And.intro (KB.1.keep bX) (below_more KB.2 (Nat.le_refl _) bX))
        | (go_at_call 23; (with_reducible refine (G2.out _).mono ?_); rintro e X ⟨rfl, bX⟩; (try unfold ratV); have KB := And.intro (KB.1.keep bX) (below_more KB.2 (Nat.le_refl _) bX))
        | (go_at_call 8; (with_reducible refine (awake_any _ (tab_keep Htab.out KB.2)).mono ?_); rintro e X ⟨rfl, bX⟩; (try unfold ratV); have KB := And.intro (KB.1.keep bX) (below_more KB.2 (Nat.le_refl _) bX)))
    all_goals
      go_wp2
      go_ret
      exact ⟨rfl, KB.2⟩
end Go.Proofs.YtfcdekkoeeaolaaGreatDoor

namespace Go.Proofs.YtfcdekkoeeaolaaGreatDoor.integerQuotients
open Go.ChangeShapes Go.WideShapes Go.ChangeAt Go.RowKit
open Go.ChangeMaps (open_string shut_string)
set_option maxRecDepth 100000
set_option linter.unusedVariables false

theorem contract (H : Type) (enc : TypeId × Value → H) (W : World) (base : Nat) (args : Array Value) (ds gs : List (DataW H)) (before : List MemPlace)
    (hval : ∀ (j : Nat) t v, Tryz.f4.params[j]? = some t → args[j]? = some v → Value.okWide Tryz.prog W .any base t v)
    (hW : DataW.Whole enc Tryz.prog Tryz.f4.params.toList Rows.integerQuotientsSpec.vars false W args.toList ds gs before) (hL : laidMetH Tryz.prog Rows.integerQuotientsRow.laid W) :
    Calls Tryz.prog 4 args W fun e W' => ∃ v, e = .returned v ∧ Rows.integerQuotientsSpec.post enc Tryz.prog Tryz.f4 false true false false W args v W' := by
  have hW' := hW
  obtain ⟨p, q, hA0, hV, rfl, hfz, hnd⟩ := hW
  have hA : DataW.TrodAll enc Tryz.prog W 0 (fun _ => true) true Tryz.f4.params.toList args.toList ds p := hA0
  rw [Tryz.params4] at hA hval
  obtain ⟨v0, vs0, d0, ds0, p0, q0, hargs, rfl, rfl, h0, r0⟩ := trodAll_cons hA
  obtain ⟨v1, vs1, d1, ds1, p1, q1, rfl, rfl, rfl, h1, r1⟩ := trodAll_cons r0
  obtain ⟨v2, vs2, d2, ds2, p2, q2, rfl, rfl, rfl, h2, r2⟩ := trodAll_cons r1
  obtain ⟨rfl, rfl, rfl⟩ := trodAll_nil r2
  obtain rfl : args = #[v0, v1, v2] := by cases args; simp_all
  obtain ⟨rfl, rfl⟩ := trodVars_none hV
  obtain ⟨g0, s0, rfl, rfl, rfl, z0⟩ := int_open (hval 0 23 v0 rfl rfl) h0
  obtain ⟨g1, s1, rfl, rfl, rfl, z1⟩ := int_open (hval 1 23 v1 rfl rfl) h1
  obtain ⟨n2, rfl, rfl, rfl, w2⟩ := open_int Tryz.underlying3 (hval 2 3 v2 rfl rfl) h2
  have b2 : (IntKind.min .i64) ≤ n2 ∧ n2 ≤ (IntKind.max .i64) := by simpa [Lit.wf] using w2
  simp [IntKind.min, IntKind.max, IntKind.signed, IntKind.bits] at b2
  clear hA0
  simp only [List.append_nil] at hW'
  refine (quots_any g0 g1 s0 s1 n2 W z0 z1 b2.1 b2.2 (tabPow hL)).mono fun e W' ⟨he, hb⟩ => ?_
  subst he
  refine ⟨_, rfl, _, _, _, [], [], [], hW', ?_, ?_, ?_, hb.frame _, fun h => by cases h⟩
  · exact trodAll_cons_mk (p := []) (shut_bool Tryz.underlying4 true) trodAll_mk0
  · exact (trodAll_cons_mk (p := []) (int_shut z0) (trodAll_cons_mk (p := []) (int_shut z1) (trodAll_cons_mk (p := []) (shut_int Tryz.underlying3 w2) trodAll_mk0)))
  · rfl

theorem reads (os : Os) {H : Type} (enc : TypeId × Value → H) : ∃ places, DataW.whole enc Tryz.prog ((laidWorld os).forCall (fun _ _ => 0) ⟨#[], #[.agg #[.bool false, .string ⟨#[]⟩], .agg #[.bool false, .string ⟨#[]⟩], .int .i64 0], []⟩).memory Tryz.f4.params.toList Rows.integerQuotientsSpec.vars false [.agg #[.bool false, .string ⟨#[]⟩], .agg #[.bool false, .string ⟨#[]⟩], .int .i64 0] 8 = some ([.agg [.lit (.bool false), .lit (.string [])], .agg [.lit (.bool false), .lit (.string [])], .lit (.int .i64 0)], [], places) :=
  ⟨[], by kernel_rfl⟩

theorem lifted (os : Os) (started : os.Started) (H : Type) (enc : TypeId × Value → H) (F : Stop.Interp) :
    ReturnsInHanded {} Tryz.checked os 4 .any ((OpenSpec.ofChange Rows.integerQuotientsSpec).preRow enc Tryz.prog Tryz.f4 Rows.integerQuotientsRow.domain false Rows.integerQuotientsRow.laid) (((OpenSpec.ofChange Rows.integerQuotientsSpec).at F).post enc Tryz.prog Tryz.f4 false true false false) := by
  obtain ⟨places, hx⟩ := reads os enc
  refine returnsInHanded_of_row (C := Tryz.checked) (s := OpenSpec.ofChange Rows.integerQuotientsSpec) ownNone started (by kernel_rfl) Tryz.func4
    (witness_row_at (enc := enc) (C := Tryz.checked) false (laidWorld os) #[.agg #[.bool false, .string ⟨#[]⟩], .agg #[.bool false, .string ⟨#[]⟩], .int .i64 0] rfl (by kernel_rfl) (by kernel_rfl) (by kernel_rfl)
      (OpenSpec.preRow_of_cond 8 hx (by kernel_rfl) (fun k hk => by cases hk) (by kernel_rfl) (laid_met os _))) ?_
  intro W base args ds gs before hval hW _ _ _ hL _ _
  exact contract H enc W base args ds gs before hval hW hL

theorem said : Rows.IntegerQuotientsSaid :=
  OpenClaim.holds_of_cond 4 Tryz.f4 rfl rfl rfl rfl rfl rfl rfl ⟨rfl, rfl, rfl, rfl, rfl⟩ rfl rfl rfl rfl rfl (by kernel_rfl) Tryz.func4 (by kernel_rfl)
    (of_decide_eq_true (by kernel_rfl)) (by unfold Func.isWrapper; first | (rw [if_pos (by decide +kernel)]; kernel_rfl) | (rw [if_neg (by decide +kernel)]; exact ⟨rfl, rfl⟩))
    (fun os started H enc _ F => by rw [OpenClaim.pre_eq_preRow]; exact lifted os started H enc F)

theorem plain (f : FuncId) (fn : Func) (hf : Tryz.pinned.checked.prog.funcNamed "groove/groovelaw01.IntegerQuotients" = some f) (hfn : Tryz.pinned.checked.prog.funcs[f]? = some fn) :
    false = Tryz.pinned.checked.prog.looks [] ∧ ∀ (j : Nat) t, fn.params[j]? = some t → Tryz.pinned.checked.prog.wantsStandIn t = false := by
  obtain rfl : f = 4 := Option.some.inj ((show Tryz.prog.funcNamed "groove/groovelaw01.IntegerQuotients" = some 4 by kernel_rfl).symm.trans hf) |>.symm
  obtain rfl : fn = Tryz.f4 := (Option.some.inj (Tryz.func4.symm.trans hfn)).symm
  refine ⟨by kernel_rfl, fun j t ht => ?_⟩
  rw [Tryz.params4] at ht
  have hm := Array.mem_of_getElem? ht
  have hm : t = 23 ∨ t = 23 ∨ t = 3 := by simpa using hm
  rcases hm with rfl | rfl | rfl
  · exact noStand.1
  · exact noStand.1
  · exact noStand.2.2.2.1

/-- IntegerQuotients's card. -/
theorem card : Rows.IntegerQuotientsCardSaid :=
  Claim7.holds_tied_plain_at .later [] _ _ _ _ said (fun _ h => by cases h) (by kernel_rfl) (fun _ h => by cases h) integerQuotients_row_tie rfl ⟨rfl, rfl⟩ (by kernel_rfl) rfl plain (by kernel_rfl)
end Go.Proofs.YtfcdekkoeeaolaaGreatDoor.integerQuotients
