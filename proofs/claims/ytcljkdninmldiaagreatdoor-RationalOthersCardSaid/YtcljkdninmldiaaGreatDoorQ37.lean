/- What groovelaw02.awake returns. Condition: the table of powers of ten and the block 0 are as they were laid. -/
import Derived.Test.YtcljkdninmldiaaGreatDoorQ36

namespace Go.Proofs.YtcljkdninmldiaaGreatDoor
open Go.RowKit
set_option linter.unusedSimpArgs false
set_option linter.unusedVariables false
attribute [local go_sem ↓] eqlInt guardInt2 eqlRat guardRat2

theorem pq_a : pq [45, 51, 47, 50] = some (Rat.divInt (-3) 2) := by decide
theorem pq_b : pq [54, 47, 52] = none := by decide
theorem prQ_a : prQ (Rat.divInt (-3) 2) = [45, 51, 47, 50] := by
  have h1 : prZ (-3) = [45, 51] := print_pz (by decide)
  have h2 : prZ 2 = [50] := print_pz (by decide)
  have h3 : (Rat.divInt (-3) 2).num = -3 := by decide
  have h4 : (Rat.divInt (-3) 2).den = 2 := by decide
  unfold prQ
  rw [if_neg (by rw [h4]; decide), h3, h4, h1, show ((2 : Nat) : Int) = 2 from rfl, h2]
  rfl
theorem floor_a : (Rat.divInt (-3) 2).floor = -2 := by decide
theorem same_a : Rat.divInt 6 (-4) = Rat.divInt (-3) 2 := by decide
theorem rat_one {q : Rat} (h : RatBd q 1) : IsRat (ratV q) q 1 := isRat_ratV h (by omega)
theorem zero_same : sameR false ⟨#[]⟩ false ⟨#[]⟩ (sg (Rat.divInt 0 0).num) (mg (Rat.divInt 0 0).num) (sg ((Rat.divInt 0 0).den : Int)) (mg ((Rat.divInt 0 0).den : Int)) = false := by
  have h := sameR_iff 0 0 (Rat.divInt 0 0)
  rw [sg_zero, mg_zero] at h
  exact Bool.eq_false_iff.2 (fun e => absurd (h.1 e).2 (by decide))
/-- A variable that holds a number. -/
def RQ (W : World) (p : Nat) (q : Rat) : Prop := RIn W p (sg q.num) (mg q.num) (sg (q.den : Int)) (mg (q.den : Int))
theorem RQ.keep {W W' : World} {p : Nat} {q : Rat} (h : RQ W p q) (hb : Below W.heap.size W W') : RQ W' p q := RIn.keep h hb
theorem RQ.new (W : World) (q : Rat) : RQ (W.alloc (.cells #[.bool (sg q.num), .string (mg q.num), .bool (sg (q.den : Int)), .string (mg (q.den : Int))] 25)) W.heap.size q := RIn.new rfl
set_option maxRecDepth 100000 in
set_option maxHeartbeats 6400000 in
theorem awaker_any (w : World) (h0 : Zero0 w) (htab : Lib.TabIs Tryz.prog w "internal/strconv.uint64pow10" .u64 Lib.pow10Tab) : Calls Tryz.prog 5 #[] w fun e w' => e = .returned (.bool true) ∧ Below w.heap.size w w' := by
  have H0 := Lib.hid h0
  have Ht := Lib.hid htab
  clear h0 htab
  obtain ⟨qa, Eqa⟩ : ∃ q, Hid (Rat.divInt (1) 3 = q) := ⟨_, Lib.hid rfl⟩
  have Iqa := Lib.hid (show IsRat (ratV qa) qa 1 from rat_one (by rw [← Eqa.out]; constructor <;> decide))
  obtain ⟨qb, Eqb⟩ : ∃ q, Hid (Rat.divInt (2) 5 = q) := ⟨_, Lib.hid rfl⟩
  have Iqb := Lib.hid (show IsRat (ratV qb) qb 1 from rat_one (by rw [← Eqb.out]; constructor <;> decide))
  obtain ⟨qc, Eqc⟩ : ∃ q, Hid (Rat.divInt (3) 10 = q) := ⟨_, Lib.hid rfl⟩
  have Iqc := Lib.hid (show IsRat (ratV qc) qc 1 from rat_one (by rw [← Eqc.out]; constructor <;> decide))
  obtain ⟨qd, Eqd⟩ : ∃ q, Hid (Rat.divInt (-1) 2 = q) := ⟨_, Lib.hid rfl⟩
  have Iqd := Lib.hid (show IsRat (ratV qd) qd 1 from rat_one (by rw [← Eqd.out]; constructor <;> decide))
  obtain ⟨qe, Eqe⟩ : ∃ q, Hid (Rat.divInt (5) 1 = q) := ⟨_, Lib.hid rfl⟩
  have Iqe := Lib.hid (show IsRat (ratV qe) qe 1 from rat_one (by rw [← Eqe.out]; constructor <;> decide))
  obtain ⟨qf, Eqf⟩ : ∃ q, Hid (Rat.divInt (-3) 2 = q) := ⟨_, Lib.hid rfl⟩
  have Iqf := Lib.hid (show IsRat (ratV qf) qf 1 from rat_one (by rw [← Eqf.out]; constructor <;> decide))
  obtain ⟨q0, Eq0⟩ : ∃ q, Hid (Rat.divInt (0) 1 = q) := ⟨_, Lib.hid rfl⟩
  have Iq0 := Lib.hid (show IsRat (ratV q0) q0 1 from rat_one (by rw [← Eq0.out]; constructor <;> decide))
  have B0 := Below.refl w.heap.size w
  go_enter Tryz.func5, Tryz.ntmps5
  go_wp2_with fail
  refine (lratio_any (1) 3 qa _ (by omega) (by omega) (by omega) (by omega) (by omega) Eqa.out).mono ?_
  rintro e W1 ⟨rfl, b1⟩
  have B1 := below_more B0 (Nat.le_refl _) b1
  clear b1 B0
  go_wp2_with fail
  refine (lratio_any (2) 5 qb _ (by omega) (by omega) (by omega) (by omega) (by omega) Eqb.out).mono ?_
  rintro e W2 ⟨rfl, b2⟩
  have B2 := below_more B1 (Nat.le_refl _) b2
  clear b2 B1
  go_wp2_with fail
  refine (simplest_any _ _ qa qb 1 _ Iqa.out Iqb.out (by omega) (by omega)).mono ?_
  rintro e W3 ⟨v, n, hs, rfl, b3⟩
  rw [← Eqa.out, ← Eqb.out] at hs
  obtain ⟨hv, rfl⟩ := simRes_a hs
  clear hs
  rw [Eqa.out] at hv
  subst hv
  have B3 := below_more B2 (Nat.le_refl _) b3
  clear b3 B2
  have hbl := below1 W3 (.cells #[.bool (sg qa.num), .string (mg qa.num), .bool (sg (qa.den : Int)), .string (mg (qa.den : Int))] 25)
  have B4 := below_more B3 (Nat.le_refl _) hbl
  have K2 := RQ.new W3 qa
  clear hbl B3
  unfold ratV
  go_upto_region 2 with fail
  generalize W3.alloc (.cells #[.bool (sg qa.num), .string (mg qa.num), .bool (sg (qa.den : Int)), .string (mg (qa.den : Int))] 25) = V2 at *
  generalize W3.heap.size = p2 at *
  go_wp2_with fail
  refine (lratio_any (3) 10 qc _ (by omega) (by omega) (by omega) (by omega) (by omega) Eqc.out).mono ?_
  rintro e W4 ⟨rfl, b4⟩
  have B5 := below_more B4 (Nat.le_refl _) b4
  have K2 := K2.keep b4
  clear b4 B4
  go_wp2_with fail
  refine (lratio_any (2) 5 qb _ (by omega) (by omega) (by omega) (by omega) (by omega) Eqb.out).mono ?_
  rintro e W5 ⟨rfl, b5⟩
  have B6 := below_more B5 (Nat.le_refl _) b5
  have K2 := K2.keep b5
  clear b5 B5
  go_wp2_with fail
  refine (simplest_any _ _ qc qb 1 _ Iqc.out Iqb.out (by omega) (by omega)).mono ?_
  rintro e W6 ⟨v, n, hs, rfl, b6⟩
  rw [← Eqc.out, ← Eqb.out] at hs
  obtain ⟨hv, rfl⟩ := simRes_b hs
  clear hs
  rw [Eqa.out] at hv
  subst hv
  have B7 := below_more B6 (Nat.le_refl _) b6
  have K2 := K2.keep b6
  clear b6 B6
  have hbl := below1 W6 (.cells #[.bool (sg qa.num), .string (mg qa.num), .bool (sg (qa.den : Int)), .string (mg (qa.den : Int))] 25)
  have B8 := below_more B7 (Nat.le_refl _) hbl
  have K2 := K2.keep hbl
  have K3 := RQ.new W6 qa
  clear hbl B7
  unfold ratV
  go_upto_region 3 with fail
  generalize W6.alloc (.cells #[.bool (sg qa.num), .string (mg qa.num), .bool (sg (qa.den : Int)), .string (mg (qa.den : Int))] 25) = V3 at *
  generalize W6.heap.size = p3 at *
  go_wp2_with fail
  refine (lratio_any (-1) 2 qd _ (by omega) (by omega) (by omega) (by omega) (by omega) Eqd.out).mono ?_
  rintro e W7 ⟨rfl, b7⟩
  have B9 := below_more B8 (Nat.le_refl _) b7
  have K2 := K2.keep b7
  have K3 := K3.keep b7
  clear b7 B8
  go_wp2_with fail
  refine (lratio_any (5) 1 qe _ (by omega) (by omega) (by omega) (by omega) (by omega) Eqe.out).mono ?_
  rintro e W8 ⟨rfl, b8⟩
  have B10 := below_more B9 (Nat.le_refl _) b8
  have K2 := K2.keep b8
  have K3 := K3.keep b8
  clear b8 B9
  go_wp2_with fail
  refine (simplest_any _ _ qd qe 1 _ Iqd.out Iqe.out (by omega) (by omega)).mono ?_
  rintro e W9 ⟨v, n, hs, rfl, b9⟩
  rw [← Eqd.out, ← Eqe.out] at hs
  obtain ⟨hv, rfl⟩ := simRes_c hs
  clear hs
  rw [show (0 : Rat) = q0 from (by decide : (0 : Rat) = Rat.divInt 0 1).trans Eq0.out] at hv
  subst hv
  have B11 := below_more B10 (Nat.le_refl _) b9
  have K2 := K2.keep b9
  have K3 := K3.keep b9
  clear b9 B10
  have hbl := below1 W9 (.cells #[.bool (sg q0.num), .string (mg q0.num), .bool (sg (q0.den : Int)), .string (mg (q0.den : Int))] 25)
  have B12 := below_more B11 (Nat.le_refl _) hbl
  have K2 := K2.keep hbl
  have K3 := K3.keep hbl
  have K4 := RQ.new W9 q0
  clear hbl B11
  unfold ratV
  go_upto_region 4 with fail
  generalize W9.alloc (.cells #[.bool (sg q0.num), .string (mg q0.num), .bool (sg (q0.den : Int)), .string (mg (q0.den : Int))] 25) = V4 at *
  generalize W9.heap.size = p4 at *
  have Hpa := Lib.hid (show pq [45, 51, 47, 50] = some qf from pq_a.trans (congrArg some Eqf.out))
  go_wp2_with fail
  have hp := rparse_any [45, 51, 47, 50] V4 (by decide) (H0.out.keep B12)
  rw [Hpa.out] at hp
  refine hp.mono ?_
  clear hp
  rintro e W10 ⟨rfl, b10⟩
  have B13 := below_more B12 (Nat.le_refl _) b10
  have K2 := K2.keep b10
  have K3 := K3.keep b10
  have K4 := K4.keep b10
  clear b10 B12
  have hbl := below1 W10 (.cells #[.bool (sg qf.num), .string (mg qf.num), .bool (sg (qf.den : Int)), .string (mg (qf.den : Int))] 25)
  have B14 := below_more B13 (Nat.le_refl _) hbl
  have K2 := K2.keep hbl
  have K3 := K3.keep hbl
  have K4 := K4.keep hbl
  have K5 := RQ.new W10 qf
  clear hbl B13
  unfold ratV
  go_upto_region 5 with fail
  generalize W10.alloc (.cells #[.bool (sg qf.num), .string (mg qf.num), .bool (sg (qf.den : Int)), .string (mg (qf.den : Int))] 25) = V5 at *
  generalize W10.heap.size = p5 at *
  have Hpb := Lib.hid pq_b
  go_wp2_with fail
  have hp := rparse_any [54, 47, 52] V5 (by decide) (H0.out.keep B14)
  rw [Hpb.out] at hp
  refine hp.mono ?_
  clear hp
  rintro e W11 ⟨rfl, b11⟩
  have BB := below_more B14 (Nat.le_refl _) b11
  have hbl := below1 W11 (.cells #[.bool false, .string ⟨#[]⟩, .bool false, .string ⟨#[]⟩] 25)
  have BC := below_more BB (Nat.le_refl _) hbl
  have K2 := (K2.keep b11).keep hbl
  have K3 := (K3.keep b11).keep hbl
  have K4 := (K4.keep b11).keep hbl
  have K5 := (K5.keep b11).keep hbl
  clear hbl BB b11 B14
  go_upto_region 6 with fail
  generalize W11.alloc (.cells #[.bool false, .string ⟨#[]⟩, .bool false, .string ⟨#[]⟩] 25) = V6 at *
  generalize W11.heap.size = p6 at *
  have Kall : RQ V6.drew p2 qa ∧ RQ V6.drew p3 qa ∧ RQ V6.drew p4 q0 ∧ RQ V6.drew p5 qf := ⟨K2, K3, K4, K5⟩
  have B20 := BC.drew
  have sa := sameR_self (sg qa.num) (sg (qa.den : Int)) (mg qa.num) (mg (qa.den : Int))
  have s0 := sameR_self (sg q0.num) (sg (q0.den : Int)) (mg q0.num) (mg (q0.den : Int))
  have sf := sameR_self (sg qf.num) (sg (qf.den : Int)) (mg qf.num) (mg (qf.den : Int))
  have Esf := Lib.hid sf
  have Ef2 := Lib.hid (same_a.trans Eqf.out)
  have Efl := Lib.hid (show qf.floor = -2 by rw [← Eqf.out]; exact floor_a)
  have Epr := Lib.hid (show prQ qf = [45, 51, 47, 50] by rw [← Eqf.out]; exact prQ_a)
  have Iz := Lib.hid (show IsRat (.agg #[.bool false, .string ⟨#[]⟩, .bool false, .string ⟨#[]⟩]) (Rat.divInt 0 0) 1 from ⟨_, _, _, _, 0, 0, rfl, zero_int, zero_int, rfl⟩)
  have Ez := Lib.hid (show sameR false ⟨#[]⟩ false ⟨#[]⟩ (sg (Rat.divInt 0 0).num) (mg (Rat.divInt 0 0).num) (sg ((Rat.divInt 0 0).den : Int)) (mg ((Rat.divInt 0 0).den : Int)) = false from zero_same)
  go_region_held3 (fun W => W.cell? ⟨p2, 0, none⟩ = some (.bool (sg qa.num)) ∧ W.cell? ⟨p2, 1, none⟩ = some (.string (mg qa.num)) ∧ W.cell? ⟨p2, 2, none⟩ = some (.bool (sg (qa.den : Int))) ∧ W.cell? ⟨p2, 3, none⟩ = some (.string (mg (qa.den : Int))) ∧ W.cell? ⟨p3, 0, none⟩ = some (.bool (sg qa.num)) ∧ W.cell? ⟨p3, 1, none⟩ = some (.string (mg qa.num)) ∧ W.cell? ⟨p3, 2, none⟩ = some (.bool (sg (qa.den : Int))) ∧ W.cell? ⟨p3, 3, none⟩ = some (.string (mg (qa.den : Int))) ∧ W.cell? ⟨p4, 0, none⟩ = some (.bool (sg q0.num)) ∧ W.cell? ⟨p4, 1, none⟩ = some (.string (mg q0.num)) ∧ W.cell? ⟨p4, 2, none⟩ = some (.bool (sg (q0.den : Int))) ∧ W.cell? ⟨p4, 3, none⟩ = some (.string (mg (q0.den : Int))) ∧ W.cell? ⟨p5, 0, none⟩ = some (.bool (sg qf.num)) ∧ W.cell? ⟨p5, 1, none⟩ = some (.string (mg qf.num)) ∧ W.cell? ⟨p5, 2, none⟩ = some (.bool (sg (qf.den : Int))) ∧ W.cell? ⟨p5, 3, none⟩ = some (.string (mg (qf.den : Int))))
    (first | exact ⟨Kall.1.1, Kall.1.2.1, Kall.1.2.2.1, Kall.1.2.2.2, Kall.2.1.1, Kall.2.1.2.1, Kall.2.1.2.2.1, Kall.2.1.2.2.2, Kall.2.2.1.1, Kall.2.2.1.2.1, Kall.2.2.1.2.2.1, Kall.2.2.1.2.2.2, Kall.2.2.2.1, Kall.2.2.2.2.1, Kall.2.2.2.2.2.1, Kall.2.2.2.2.2.2⟩)
    (first
      | (go_at_call 15; (first
          | (with_reducible refine (lratio_any 1 3 qa _ (by omega) (by omega) (by omega) (by omega) (by omega) Eqa.out).mono ?_)
          | (with_reducible refine (lratio_any 0 1 q0 _ (by omega) (by omega) (by omega) (by omega) (by omega) Eq0.out).mono ?_)
          | (with_reducible refine (lratio_any 6 (-4) qf _ (by omega) (by omega) (by omega) (by omega) (by omega) Ef2.out).mono ?_)); rintro e X ⟨rfl, bX⟩; unfold ratV; have B20 := below_more B20 (Nat.le_refl _) bX; have Kall := And.intro (Kall.1.keep bX) (And.intro (Kall.2.1.keep bX) (And.intro (Kall.2.2.1.keep bX) (Kall.2.2.2.keep bX))))
      | (go_at_call 16; refine (rfloor_any _ qf (-2) 1 _ Iqf.out Efl.out).mono ?_; rintro e X ⟨rfl, bX⟩; have B20 := below_more B20 (Nat.le_refl _) bX; have Kall := And.intro (Kall.1.keep bX) (And.intro (Kall.2.1.keep bX) (And.intro (Kall.2.2.1.keep bX) (Kall.2.2.2.keep bX))))
      | (go_at_call 17; refine (iof_any (-2) _ (by omega) (by omega)).mono ?_; rintro e X ⟨rfl, bX⟩; have B20 := below_more B20 (Nat.le_refl _) bX; have Kall := And.intro (Kall.1.keep bX) (And.intro (Kall.2.1.keep bX) (And.intro (Kall.2.2.1.keep bX) (Kall.2.2.2.keep bX))))
      | (go_at_call 12; refine (rprint_any _ qf _ 1 _ Iqf.out (by omega) (tab_keep Ht.out B20) Epr.out).mono ?_; rintro e X ⟨rfl, bX⟩; have B20 := below_more B20 (Nat.le_refl _) bX; have Kall := And.intro (Kall.1.keep bX) (And.intro (Kall.2.1.keep bX) (And.intro (Kall.2.2.1.keep bX) (Kall.2.2.2.keep bX))))
      | (go_at_call 18; (first
          | refine (check_ok _ _ _ _ qf 1 _ Iqf.out Esf.out).mono ?_
          | refine (check_no _ _ _ _ (Rat.divInt 0 0) 1 _ Iz.out Ez.out).mono ?_); rintro e X ⟨rfl, bX⟩; have B20 := below_more B20 (Nat.le_refl _) bX; have Kall := And.intro (Kall.1.keep bX) (And.intro (Kall.2.1.keep bX) (And.intro (Kall.2.2.1.keep bX) (Kall.2.2.2.keep bX)))))
  all_goals
    go_wp2
    go_ret
    exact ⟨rfl, B20⟩
end Go.Proofs.YtcljkdninmldiaaGreatDoor
