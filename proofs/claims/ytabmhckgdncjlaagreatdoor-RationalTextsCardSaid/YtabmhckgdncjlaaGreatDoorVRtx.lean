/- What RationalTexts returns: true. Conditions: its table, and block 0. RationalTexts returns true for every input: the law's row, and its card, tied to the program's text. Conditions: those of the row: its tables read as listed (the card ties them to the program's text). -/
import Derived.Test.YtabmhckgdncjlaaGreatDoorQ38
import Derived.Test.YtabmhckgdncjlaaGreatDoorQ40

namespace Go.Proofs.YtabmhckgdncjlaaGreatDoor
open Go.RowKit
set_option linter.unusedSimpArgs false
set_option linter.unusedVariables false
attribute [local go_sem ↓] eqlInt guardInt2 eqlRat guardRat2

set_option maxRecDepth 100000 in
set_option maxHeartbeats 12800000 in
theorem texts02_law (na : Bool) (sa : ByteArray) (ma : Bool) (ta : ByteArray) (s : ByteArray) (w : World) (hsa : sa.size ≤ 9223372036854775807) (hta : ta.size ≤ 9223372036854775807) (hs : s.size ≤ 9223372036854775807) (h0 : Zero0 w) (htab : Lib.TabIs Tryz.prog w "internal/strconv.uint64pow10" .u64 Lib.pow10Tab) :
    Calls Tryz.prog 8 #[.agg #[.bool na, .string sa, .bool ma, .string ta], .string s] w fun e w' => e = .returned (.bool true) ∧ Below w.heap.size w w' := by
  have H0 := Lib.hid h0
  have Ht := Lib.hid htab
  clear h0 htab
  obtain ⟨l, rfl⟩ : ∃ l : List UInt8, s = ⟨l.toArray⟩ := ⟨s.data.toList, rfl⟩
  have hll : (⟨l.toArray⟩ : ByteArray).size = l.length := by simp [ByteArray.size]
  rw [hll] at hs
  go_enter Tryz.func8, Tryz.ntmps8
  go_wp2_with fail
  refine (greatR_any (w.heap.size + 1) 1 1 (fun _ => na) (fun _ => sa) (fun _ => ma) (fun _ => ta) _ ?_ (by omega) (fun _ _ => ⟨hsa, hta⟩)).mono ?_
  · intro i hi
    obtain rfl : i = 0 := by omega
    refine ⟨?_, ?_, ?_, ?_⟩ <;> simp [go_sem]
  rintro e W0 ⟨rfl, b0⟩
  rw [great1R]
  have K : Vars [(w.heap.size, [.bool na, .string sa, .bool ma, .string ta])] W0 := Vars.keep b0 (Vars.cons (four_cells (by simp [go_sem]) (by simp [go_sem]) (by simp [go_sem]) (by simp [go_sem])) (Vars.nil _))
  have B : Below w.heap.size w W0 := below_more (below2 w _ _) (Nat.le_refl _) b0
  clear b0
  by_cases hg : (decide (24 < sa.size) || decide (24 < ta.size)) = true
  · rw [hg]
    clear K
    go_wp2_with fail
    refine (awaker_any _ (H0.out.keep B) (tab_keep Ht.out B)).mono ?_
    rintro e W2 ⟨rfl, b2⟩
    go_wp2
    go_ret
    exact ⟨rfl, below_more B (Nat.le_refl _) b2⟩
  rw [Bool.not_eq_true] at hg
  rw [hg]
  have h24 : (sa.size ≤ 24 ∧ ta.size ≤ 24) := by simpa using hg
  have Aa := Lib.hid (arg_rat (na := na) (nb := ma) h24.1 h24.2)
  clear h24 hg hsa hta
  generalize Rat.divInt (zv na sa) (zv ma ta) = qa at *
  have Da := Lib.hid Aa.out.bd
  have Ia := Lib.hid (IsRat.wider Aa.out (show 15 ≤ 400 by omega) (by omega))
  by_cases h2 : 200 < l.length
  · clear K
    go_wp2_with fail
    refine (awaker_any _ (H0.out.keep B) (tab_keep Ht.out B)).mono ?_
    rintro e W2 ⟨rfl, b2⟩
    go_wp2
    go_ret
    exact ⟨rfl, below_more B (Nat.le_refl _) b2⟩
  have h200 : l.length ≤ 200 := by omega
  clear h2 hs
  obtain ⟨T, HT⟩ : ∃ T, Hid (prQ qa = T) := ⟨_, Lib.hid rfl⟩
  have P1 := Lib.hid (show pq T = some qa by rw [← HT.out]; exact pq_prQ qa)
  have P2 : T.length ≤ 36 * 16 + 5 := by rw [← HT.out]; exact prQ_len Da.out
  have Ec := Lib.hid (cmpQ_self qa)
  have Sa := Lib.hid (sameR_self (sg qa.num) (sg (qa.den : Int)) (mg qa.num) (mg (qa.den : Int)))
  rcases hp : pq l with _ | y
  · have Hp := Lib.hid hp
    clear hp
    go_wp2_with fail
    have hp9 := rparse_any l _ (by omega) (H0.out.keep B)
    rw [Hp.out] at hp9
    refine hp9.mono ?_
    clear hp9
    rintro e W1 ⟨rfl, b1⟩
    have K := K.keep b1
    have B := below_more B (Nat.le_refl _) b1
    clear b1
    have Sz := sameR_self false false ⟨#[]⟩ ⟨#[]⟩
    have hbl := below1 W1 (.cells #[.bool false, .string ⟨#[]⟩, .bool false, .string ⟨#[]⟩] 25)
    have K : Vars ((W1.heap.size, [.bool false, .string ⟨#[]⟩, .bool false, .string ⟨#[]⟩]) :: [(w.heap.size, [.bool na, .string sa, .bool ma, .string ta])]) (W1.alloc (.cells #[.bool false, .string ⟨#[]⟩, .bool false, .string ⟨#[]⟩] 25)) := Vars.new K _ _
    have B := below_more B (Nat.le_refl _) hbl
    clear hbl
    go_upto_region 4 with fail
    generalize W1.alloc (.cells #[.bool false, .string ⟨#[]⟩, .bool false, .string ⟨#[]⟩] 25) = V2 at *
    generalize W1.heap.size = p2 at *
    obtain ⟨t1, t2, t3, t4, t5, t6, t7, t8⟩ : V2.cell? ⟨p2, 0, none⟩ = some (.bool false) ∧ V2.cell? ⟨p2, 1, none⟩ = some (.string ⟨#[]⟩) ∧ V2.cell? ⟨p2, 2, none⟩ = some (.bool false) ∧ V2.cell? ⟨p2, 3, none⟩ = some (.string ⟨#[]⟩) ∧ V2.cell? ⟨w.heap.size, 0, none⟩ = some (.bool na) ∧ V2.cell? ⟨w.heap.size, 1, none⟩ = some (.string sa) ∧ V2.cell? ⟨w.heap.size, 2, none⟩ = some (.bool ma) ∧ V2.cell? ⟨w.heap.size, 3, none⟩ = some (.string ta) := ⟨K.at 0 0 rfl, K.at 0 1 rfl, K.at 0 2 rfl, K.at 0 3 rfl, K.at 1 0 rfl, K.at 1 1 rfl, K.at 1 2 rfl, K.at 1 3 rfl⟩
    go_wp2_with fail
    refine (rprint_any _ qa T 400 _ Ia.out (by omega) (tab_keep Ht.out B) HT.out).mono ?_
    rintro e W3 ⟨rfl, b3⟩
    have K := K.keep b3
    have B := below_more B (Nat.le_refl _) b3
    clear b3
    clear t1 t2 t3 t4 t5 t6 t7 t8
    go_wp2_with fail
    have hp9 := rparse_any T _ (by omega) (H0.out.keep B)
    rw [P1.out] at hp9
    refine hp9.mono ?_
    clear hp9
    rintro e W4 ⟨rfl, b4⟩
    have K := K.keep b4
    have B := below_more B (Nat.le_refl _) b4
    clear b4
    have hbl := below1 W4 (.cells #[.bool (sg qa.num), .string (mg qa.num), .bool (sg (qa.den : Int)), .string (mg (qa.den : Int))] 25)
    have K : Vars ((W4.heap.size, [.bool (sg qa.num), .string (mg qa.num), .bool (sg (qa.den : Int)), .string (mg (qa.den : Int))]) :: [(p2, [.bool false, .string ⟨#[]⟩, .bool false, .string ⟨#[]⟩]), (w.heap.size, [.bool na, .string sa, .bool ma, .string ta])]) (W4.alloc (.cells #[.bool (sg qa.num), .string (mg qa.num), .bool (sg (qa.den : Int)), .string (mg (qa.den : Int))] 25)) := Vars.new K _ _
    have B := below_more B (Nat.le_refl _) hbl
    clear hbl
    unfold ratV
    go_upto_region 10 with fail
    generalize W4.alloc (.cells #[.bool (sg qa.num), .string (mg qa.num), .bool (sg (qa.den : Int)), .string (mg (qa.den : Int))] 25) = V5 at *
    generalize W4.heap.size = p5 at *
    obtain ⟨t1, t2, t3, t4, t5, t6, t7, t8, t9, t10, t11, t12⟩ : V5.cell? ⟨p5, 0, none⟩ = some (.bool (sg qa.num)) ∧ V5.cell? ⟨p5, 1, none⟩ = some (.string (mg qa.num)) ∧ V5.cell? ⟨p5, 2, none⟩ = some (.bool (sg (qa.den : Int))) ∧ V5.cell? ⟨p5, 3, none⟩ = some (.string (mg (qa.den : Int))) ∧ V5.cell? ⟨p2, 0, none⟩ = some (.bool false) ∧ V5.cell? ⟨p2, 1, none⟩ = some (.string ⟨#[]⟩) ∧ V5.cell? ⟨p2, 2, none⟩ = some (.bool false) ∧ V5.cell? ⟨p2, 3, none⟩ = some (.string ⟨#[]⟩) ∧ V5.cell? ⟨w.heap.size, 0, none⟩ = some (.bool na) ∧ V5.cell? ⟨w.heap.size, 1, none⟩ = some (.string sa) ∧ V5.cell? ⟨w.heap.size, 2, none⟩ = some (.bool ma) ∧ V5.cell? ⟨w.heap.size, 3, none⟩ = some (.string ta) := ⟨K.at 0 0 rfl, K.at 0 1 rfl, K.at 0 2 rfl, K.at 0 3 rfl, K.at 1 0 rfl, K.at 1 1 rfl, K.at 1 2 rfl, K.at 1 3 rfl, K.at 2 0 rfl, K.at 2 1 rfl, K.at 2 2 rfl, K.at 2 3 rfl⟩
    go_wp2_with fail
    refine (rcmp_eq Ia.out (isRat_ratV (Da.out.wider (show 16 ≤ 400 by omega)) (by omega)) (by omega) Ec.out).mono ?_
    rintro e W6 ⟨rfl, b6⟩
    have K := K.keep b6
    have B := below_more B (Nat.le_refl _) b6
    clear b6
    clear t1 t2 t3 t4 t5 t6 t7 t8 t9 t10 t11 t12
    obtain ⟨t1, t2, t3, t4, t5, t6, t7, t8, t9, t10, t11, t12⟩ : W6.cell? ⟨p5, 0, none⟩ = some (.bool (sg qa.num)) ∧ W6.cell? ⟨p5, 1, none⟩ = some (.string (mg qa.num)) ∧ W6.cell? ⟨p5, 2, none⟩ = some (.bool (sg (qa.den : Int))) ∧ W6.cell? ⟨p5, 3, none⟩ = some (.string (mg (qa.den : Int))) ∧ W6.cell? ⟨p2, 0, none⟩ = some (.bool false) ∧ W6.cell? ⟨p2, 1, none⟩ = some (.string ⟨#[]⟩) ∧ W6.cell? ⟨p2, 2, none⟩ = some (.bool false) ∧ W6.cell? ⟨p2, 3, none⟩ = some (.string ⟨#[]⟩) ∧ W6.cell? ⟨w.heap.size, 0, none⟩ = some (.bool na) ∧ W6.cell? ⟨w.heap.size, 1, none⟩ = some (.string sa) ∧ W6.cell? ⟨w.heap.size, 2, none⟩ = some (.bool ma) ∧ W6.cell? ⟨w.heap.size, 3, none⟩ = some (.string ta) := ⟨K.at 0 0 rfl, K.at 0 1 rfl, K.at 0 2 rfl, K.at 0 3 rfl, K.at 1 0 rfl, K.at 1 1 rfl, K.at 1 2 rfl, K.at 1 3 rfl, K.at 2 0 rfl, K.at 2 1 rfl, K.at 2 2 rfl, K.at 2 3 rfl⟩
    go_wp2_with fail
    refine (check_ok _ _ _ _ qa 400 _ (isRat_ratV (Da.out.wider (show 16 ≤ 400 by omega)) (by omega)) Sa.out).mono ?_
    rintro e W7 ⟨rfl, b7⟩
    have K := K.keep b7
    have B := below_more B (Nat.le_refl _) b7
    clear b7
    clear t1 t2 t3 t4 t5 t6 t7 t8 t9 t10 t11 t12
    go_wp2_with fail
    refine (awaker_any _ (H0.out.keep B) (tab_keep Ht.out B)).mono ?_
    rintro e W8 ⟨rfl, b8⟩
    have K := K.keep b8
    have B := below_more B (Nat.le_refl _) b8
    clear b8
    go_wp2
    go_ret
    exact ⟨rfl, B⟩
  · have Hp := Lib.hid hp
    have Hy := Lib.hid (prQ_pq hp)
    have Dy := Lib.hid (pq_bd hp h200)
    clear hp
    have Sy := Lib.hid (sameR_self (sg y.num) (sg (y.den : Int)) (mg y.num) (mg (y.den : Int)))
    go_wp2_with fail
    have hp9 := rparse_any l _ (by omega) (H0.out.keep B)
    rw [Hp.out] at hp9
    refine hp9.mono ?_
    clear hp9
    rintro e W1 ⟨rfl, b1⟩
    have K := K.keep b1
    have B := below_more B (Nat.le_refl _) b1
    clear b1
    have hbl := below1 W1 (.cells #[.bool (sg y.num), .string (mg y.num), .bool (sg (y.den : Int)), .string (mg (y.den : Int))] 25)
    have K : Vars ((W1.heap.size, [.bool (sg y.num), .string (mg y.num), .bool (sg (y.den : Int)), .string (mg (y.den : Int))]) :: [(w.heap.size, [.bool na, .string sa, .bool ma, .string ta])]) (W1.alloc (.cells #[.bool (sg y.num), .string (mg y.num), .bool (sg (y.den : Int)), .string (mg (y.den : Int))] 25)) := Vars.new K _ _
    have B := below_more B (Nat.le_refl _) hbl
    clear hbl
    unfold ratV
    go_upto_region 4 with fail
    generalize W1.alloc (.cells #[.bool (sg y.num), .string (mg y.num), .bool (sg (y.den : Int)), .string (mg (y.den : Int))] 25) = V2 at *
    generalize W1.heap.size = p2 at *
    obtain ⟨t1, t2, t3, t4, t5, t6, t7, t8⟩ : V2.cell? ⟨p2, 0, none⟩ = some (.bool (sg y.num)) ∧ V2.cell? ⟨p2, 1, none⟩ = some (.string (mg y.num)) ∧ V2.cell? ⟨p2, 2, none⟩ = some (.bool (sg (y.den : Int))) ∧ V2.cell? ⟨p2, 3, none⟩ = some (.string (mg (y.den : Int))) ∧ V2.cell? ⟨w.heap.size, 0, none⟩ = some (.bool na) ∧ V2.cell? ⟨w.heap.size, 1, none⟩ = some (.string sa) ∧ V2.cell? ⟨w.heap.size, 2, none⟩ = some (.bool ma) ∧ V2.cell? ⟨w.heap.size, 3, none⟩ = some (.string ta) := ⟨K.at 0 0 rfl, K.at 0 1 rfl, K.at 0 2 rfl, K.at 0 3 rfl, K.at 1 0 rfl, K.at 1 1 rfl, K.at 1 2 rfl, K.at 1 3 rfl⟩
    go_wp2_with fail
    refine (rprint_any _ y l 202 _ (isRat_ratV Dy.out (by omega)) (by omega) (tab_keep Ht.out B) Hy.out).mono ?_
    rintro e W3 ⟨rfl, b3⟩
    have K := K.keep b3
    have B := below_more B (Nat.le_refl _) b3
    clear b3
    clear t1 t2 t3 t4 t5 t6 t7 t8
    obtain ⟨t1, t2, t3, t4, t5, t6, t7, t8⟩ : W3.cell? ⟨p2, 0, none⟩ = some (.bool (sg y.num)) ∧ W3.cell? ⟨p2, 1, none⟩ = some (.string (mg y.num)) ∧ W3.cell? ⟨p2, 2, none⟩ = some (.bool (sg (y.den : Int))) ∧ W3.cell? ⟨p2, 3, none⟩ = some (.string (mg (y.den : Int))) ∧ W3.cell? ⟨w.heap.size, 0, none⟩ = some (.bool na) ∧ W3.cell? ⟨w.heap.size, 1, none⟩ = some (.string sa) ∧ W3.cell? ⟨w.heap.size, 2, none⟩ = some (.bool ma) ∧ W3.cell? ⟨w.heap.size, 3, none⟩ = some (.string ta) := ⟨K.at 0 0 rfl, K.at 0 1 rfl, K.at 0 2 rfl, K.at 0 3 rfl, K.at 1 0 rfl, K.at 1 1 rfl, K.at 1 2 rfl, K.at 1 3 rfl⟩
    go_wp2_with fail
    refine (check_ok _ _ _ _ y 202 _ (isRat_ratV Dy.out (by omega)) Sy.out).mono ?_
    rintro e W4 ⟨rfl, b4⟩
    have K := K.keep b4
    have B := below_more B (Nat.le_refl _) b4
    clear b4
    clear t1 t2 t3 t4 t5 t6 t7 t8
    obtain ⟨t1, t2, t3, t4, t5, t6, t7, t8⟩ : W4.cell? ⟨p2, 0, none⟩ = some (.bool (sg y.num)) ∧ W4.cell? ⟨p2, 1, none⟩ = some (.string (mg y.num)) ∧ W4.cell? ⟨p2, 2, none⟩ = some (.bool (sg (y.den : Int))) ∧ W4.cell? ⟨p2, 3, none⟩ = some (.string (mg (y.den : Int))) ∧ W4.cell? ⟨w.heap.size, 0, none⟩ = some (.bool na) ∧ W4.cell? ⟨w.heap.size, 1, none⟩ = some (.string sa) ∧ W4.cell? ⟨w.heap.size, 2, none⟩ = some (.bool ma) ∧ W4.cell? ⟨w.heap.size, 3, none⟩ = some (.string ta) := ⟨K.at 0 0 rfl, K.at 0 1 rfl, K.at 0 2 rfl, K.at 0 3 rfl, K.at 1 0 rfl, K.at 1 1 rfl, K.at 1 2 rfl, K.at 1 3 rfl⟩
    go_wp2_with fail
    refine (rprint_any _ qa T 400 _ Ia.out (by omega) (tab_keep Ht.out B) HT.out).mono ?_
    rintro e W5 ⟨rfl, b5⟩
    have K := K.keep b5
    have B := below_more B (Nat.le_refl _) b5
    clear b5
    clear t1 t2 t3 t4 t5 t6 t7 t8
    go_wp2_with fail
    have hp9 := rparse_any T _ (by omega) (H0.out.keep B)
    rw [P1.out] at hp9
    refine hp9.mono ?_
    clear hp9
    rintro e W6 ⟨rfl, b6⟩
    have K := K.keep b6
    have B := below_more B (Nat.le_refl _) b6
    clear b6
    have hbl := below1 W6 (.cells #[.bool (sg qa.num), .string (mg qa.num), .bool (sg (qa.den : Int)), .string (mg (qa.den : Int))] 25)
    have K : Vars ((W6.heap.size, [.bool (sg qa.num), .string (mg qa.num), .bool (sg (qa.den : Int)), .string (mg (qa.den : Int))]) :: [(p2, [.bool (sg y.num), .string (mg y.num), .bool (sg (y.den : Int)), .string (mg (y.den : Int))]), (w.heap.size, [.bool na, .string sa, .bool ma, .string ta])]) (W6.alloc (.cells #[.bool (sg qa.num), .string (mg qa.num), .bool (sg (qa.den : Int)), .string (mg (qa.den : Int))] 25)) := Vars.new K _ _
    have B := below_more B (Nat.le_refl _) hbl
    clear hbl
    unfold ratV
    go_upto_region 10 with fail
    generalize W6.alloc (.cells #[.bool (sg qa.num), .string (mg qa.num), .bool (sg (qa.den : Int)), .string (mg (qa.den : Int))] 25) = V7 at *
    generalize W6.heap.size = p7 at *
    obtain ⟨t1, t2, t3, t4, t5, t6, t7, t8, t9, t10, t11, t12⟩ : V7.cell? ⟨p7, 0, none⟩ = some (.bool (sg qa.num)) ∧ V7.cell? ⟨p7, 1, none⟩ = some (.string (mg qa.num)) ∧ V7.cell? ⟨p7, 2, none⟩ = some (.bool (sg (qa.den : Int))) ∧ V7.cell? ⟨p7, 3, none⟩ = some (.string (mg (qa.den : Int))) ∧ V7.cell? ⟨p2, 0, none⟩ = some (.bool (sg y.num)) ∧ V7.cell? ⟨p2, 1, none⟩ = some (.string (mg y.num)) ∧ V7.cell? ⟨p2, 2, none⟩ = some (.bool (sg (y.den : Int))) ∧ V7.cell? ⟨p2, 3, none⟩ = some (.string (mg (y.den : Int))) ∧ V7.cell? ⟨w.heap.size, 0, none⟩ = some (.bool na) ∧ V7.cell? ⟨w.heap.size, 1, none⟩ = some (.string sa) ∧ V7.cell? ⟨w.heap.size, 2, none⟩ = some (.bool ma) ∧ V7.cell? ⟨w.heap.size, 3, none⟩ = some (.string ta) := ⟨K.at 0 0 rfl, K.at 0 1 rfl, K.at 0 2 rfl, K.at 0 3 rfl, K.at 1 0 rfl, K.at 1 1 rfl, K.at 1 2 rfl, K.at 1 3 rfl, K.at 2 0 rfl, K.at 2 1 rfl, K.at 2 2 rfl, K.at 2 3 rfl⟩
    go_wp2_with fail
    refine (rcmp_eq Ia.out (isRat_ratV (Da.out.wider (show 16 ≤ 400 by omega)) (by omega)) (by omega) Ec.out).mono ?_
    rintro e W8 ⟨rfl, b8⟩
    have K := K.keep b8
    have B := below_more B (Nat.le_refl _) b8
    clear b8
    clear t1 t2 t3 t4 t5 t6 t7 t8 t9 t10 t11 t12
    obtain ⟨t1, t2, t3, t4, t5, t6, t7, t8, t9, t10, t11, t12⟩ : W8.cell? ⟨p7, 0, none⟩ = some (.bool (sg qa.num)) ∧ W8.cell? ⟨p7, 1, none⟩ = some (.string (mg qa.num)) ∧ W8.cell? ⟨p7, 2, none⟩ = some (.bool (sg (qa.den : Int))) ∧ W8.cell? ⟨p7, 3, none⟩ = some (.string (mg (qa.den : Int))) ∧ W8.cell? ⟨p2, 0, none⟩ = some (.bool (sg y.num)) ∧ W8.cell? ⟨p2, 1, none⟩ = some (.string (mg y.num)) ∧ W8.cell? ⟨p2, 2, none⟩ = some (.bool (sg (y.den : Int))) ∧ W8.cell? ⟨p2, 3, none⟩ = some (.string (mg (y.den : Int))) ∧ W8.cell? ⟨w.heap.size, 0, none⟩ = some (.bool na) ∧ W8.cell? ⟨w.heap.size, 1, none⟩ = some (.string sa) ∧ W8.cell? ⟨w.heap.size, 2, none⟩ = some (.bool ma) ∧ W8.cell? ⟨w.heap.size, 3, none⟩ = some (.string ta) := ⟨K.at 0 0 rfl, K.at 0 1 rfl, K.at 0 2 rfl, K.at 0 3 rfl, K.at 1 0 rfl, K.at 1 1 rfl, K.at 1 2 rfl, K.at 1 3 rfl, K.at 2 0 rfl, K.at 2 1 rfl, K.at 2 2 rfl, K.at 2 3 rfl⟩
    go_wp2_with fail
    refine (check_ok _ _ _ _ qa 400 _ (isRat_ratV (Da.out.wider (show 16 ≤ 400 by omega)) (by omega)) Sa.out).mono ?_
    rintro e W9 ⟨rfl, b9⟩
    have K := K.keep b9
    have B := below_more B (Nat.le_refl _) b9
    clear b9
    clear t1 t2 t3 t4 t5 t6 t7 t8 t9 t10 t11 t12
    go_wp2_with fail
    refine (awaker_any _ (H0.out.keep B) (tab_keep Ht.out B)).mono ?_
    rintro e W10 ⟨rfl, b10⟩
    have K := K.keep b10
    have B := below_more B (Nat.le_refl _) b10
    clear b10
    go_wp2
    go_ret
    exact ⟨rfl, B⟩
end Go.Proofs.YtabmhckgdncjlaaGreatDoor

namespace Go.Proofs.YtabmhckgdncjlaaGreatDoor.rationalTexts
open Go.ChangeShapes Go.WideShapes Go.ChangeAt Go.RowKit
open Go.ChangeMaps (open_string shut_string)
set_option maxRecDepth 100000
set_option linter.unusedVariables false

theorem contract (H : Type) (enc : TypeId × Value → H) (W : World) (base : Nat) (args : Array Value) (ds gs : List (DataW H)) (before : List MemPlace)
    (hval : ∀ (j : Nat) t v, Tryz.f8.params[j]? = some t → args[j]? = some v → Value.okWide Tryz.prog W .any base t v)
    (hW : DataW.Whole enc Tryz.prog Tryz.f8.params.toList Rows.rationalTextsSpec.vars false W args.toList ds gs before) (hL : laidMetH Tryz.prog Rows.rationalTextsRow.laid W) (hS : W.ShapedOpen Tryz.prog) :
    Calls Tryz.prog 8 args W fun e W' => ∃ v, e = .returned v ∧ Rows.rationalTextsSpec.post enc Tryz.prog Tryz.f8 false true false false W args v W' := by
  have hW' := hW
  obtain ⟨p, q, hA0, hV, rfl, hfz, hnd⟩ := hW
  have hA : DataW.TrodAll enc Tryz.prog W 0 (fun _ => true) true Tryz.f8.params.toList args.toList ds p := hA0
  rw [Tryz.params8] at hA hval
  obtain ⟨v0, vs0, d0, ds0, p0, q0, hargs, rfl, rfl, h0, r0⟩ := trodAll_cons hA
  obtain ⟨v1, vs1, d1, ds1, p1, q1, rfl, rfl, rfl, h1, r1⟩ := trodAll_cons r0
  obtain ⟨rfl, rfl, rfl⟩ := trodAll_nil r1
  obtain rfl : args = #[v0, v1] := by cases args; simp_all
  obtain ⟨rfl, rfl⟩ := trodVars_none hV
  obtain ⟨g0, s0, k0, t0, rfl, rfl, rfl, z0, y0⟩ := rat_open (hval 0 25 v0 rfl rfl) h0
  obtain ⟨s1, rfl, rfl, rfl, z1⟩ := open_string Tryz.underlying9 (hval 1 9 v1 rfl rfl) h1
  clear hA0
  simp only [List.append_nil] at hW'
  refine (texts02_law g0 s0 k0 t0 s1 W z0 y0 z1 (zero0 hS) (tabPow hL)).mono fun e W' ⟨he, hb⟩ => ?_
  subst he
  refine ⟨_, rfl, _, _, _, [], [], [], hW', ?_, ?_, ?_, hb.frame _, fun h => by cases h⟩
  · exact trodAll_cons_mk (p := []) (shut_bool Tryz.underlying4 true) trodAll_mk0
  · exact (trodAll_cons_mk (p := []) (rat_shut z0 y0) (trodAll_cons_mk (p := []) (shut_string Tryz.underlying9 z1) trodAll_mk0))
  · rfl

theorem reads (os : Os) {H : Type} (enc : TypeId × Value → H) : ∃ places, DataW.whole enc Tryz.prog ((laidWorld os).forCall (fun _ _ => 0) ⟨#[], #[.agg #[.bool false, .string ⟨#[]⟩, .bool false, .string ⟨#[]⟩], .string ⟨#[]⟩], []⟩).memory Tryz.f8.params.toList Rows.rationalTextsSpec.vars false [.agg #[.bool false, .string ⟨#[]⟩, .bool false, .string ⟨#[]⟩], .string ⟨#[]⟩] 8 = some ([.agg [.agg [.lit (.bool false), .lit (.string [])], .agg [.lit (.bool false), .lit (.string [])]], .lit (.string [])], [], places) :=
  ⟨[], by kernel_rfl⟩

theorem lifted (os : Os) (started : os.Started) (H : Type) (enc : TypeId × Value → H) (F : Stop.Interp) :
    ReturnsInHanded {} Tryz.checked os 8 .any ((OpenSpec.ofChange Rows.rationalTextsSpec).preRow enc Tryz.prog Tryz.f8 Rows.rationalTextsRow.domain false Rows.rationalTextsRow.laid) (((OpenSpec.ofChange Rows.rationalTextsSpec).at F).post enc Tryz.prog Tryz.f8 false true false false) := by
  obtain ⟨places, hx⟩ := reads os enc
  refine returnsInHanded_of_row (C := Tryz.checked) (s := OpenSpec.ofChange Rows.rationalTextsSpec) ownNone started (by kernel_rfl) Tryz.func8
    (witness_row_at (enc := enc) (C := Tryz.checked) false (laidWorld os) #[.agg #[.bool false, .string ⟨#[]⟩, .bool false, .string ⟨#[]⟩], .string ⟨#[]⟩] rfl (by kernel_rfl) (by kernel_rfl) (by kernel_rfl)
      (OpenSpec.preRow_of_cond 8 hx (by kernel_rfl) (fun k hk => by cases hk) (by kernel_rfl) (laid_met os _))) ?_
  intro W base args ds gs before hval hW _ _ _ hL hS _
  exact contract H enc W base args ds gs before hval hW hL hS

theorem said : Rows.RationalTextsSaid :=
  OpenClaim.holds_of_cond 8 Tryz.f8 rfl rfl rfl rfl rfl rfl rfl ⟨rfl, rfl, rfl, rfl, rfl⟩ rfl rfl rfl rfl rfl (by kernel_rfl) Tryz.func8 (by kernel_rfl)
    (of_decide_eq_true (by kernel_rfl)) (by unfold Func.isWrapper; first | (rw [if_pos (by decide +kernel)]; kernel_rfl) | (rw [if_neg (by decide +kernel)]; exact ⟨rfl, rfl⟩))
    (fun os started H enc _ F => by rw [OpenClaim.pre_eq_preRow]; exact lifted os started H enc F)

theorem plain (f : FuncId) (fn : Func) (hf : Tryz.pinned.checked.prog.funcNamed "groove/groovelaw02.RationalTexts" = some f) (hfn : Tryz.pinned.checked.prog.funcs[f]? = some fn) :
    false = Tryz.pinned.checked.prog.looks [] ∧ ∀ (j : Nat) t, fn.params[j]? = some t → Tryz.pinned.checked.prog.wantsStandIn t = false := by
  obtain rfl : f = 8 := Option.some.inj ((show Tryz.prog.funcNamed "groove/groovelaw02.RationalTexts" = some 8 by kernel_rfl).symm.trans hf) |>.symm
  obtain rfl : fn = Tryz.f8 := (Option.some.inj (Tryz.func8.symm.trans hfn)).symm
  refine ⟨by kernel_rfl, fun j t ht => ?_⟩
  rw [Tryz.params8] at ht
  have hm := Array.mem_of_getElem? ht
  have hm : t = 25 ∨ t = 9 := by simpa using hm
  rcases hm with rfl | rfl
  · exact noStandR
  · exact noStand.2.1

/-- RationalTexts's card. -/
theorem card : Rows.RationalTextsCardSaid :=
  Claim7.holds_tied_plain_at .later [] _ _ _ _ said (fun _ h => by cases h) (by kernel_rfl) (fun _ h => by cases h) rationalTexts_row_tie rfl ⟨rfl, rfl⟩ (by kernel_rfl) rfl plain (by kernel_rfl)
end Go.Proofs.YtabmhckgdncjlaaGreatDoor.rationalTexts
