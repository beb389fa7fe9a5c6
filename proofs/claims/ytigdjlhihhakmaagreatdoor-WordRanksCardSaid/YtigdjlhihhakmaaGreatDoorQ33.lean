/- What the reference implementation's Div returns. Condition: at most 10^7 bytes. -/
import Derived.Test.YtigdjlhihhakmaaGreatDoorQ32

namespace Go.Proofs.YtigdjlhihhakmaaGreatDoor
open Go.RowKit
set_option linter.unusedSimpArgs false
set_option linter.unusedVariables false

set_option maxRecDepth 100000 in
set_option maxHeartbeats 6400000 in
theorem rdiv01_any (g1 g2 : Bool) (l1 l2 : List UInt8) (z1 z2 : Int) (w : World) (hl1 : l1.length ≤ 10000000) (hl2 : l2.length ≤ 10000000) (hz1 : zv g1 ⟨l1.toArray⟩ = z1) (hz2 : zv g2 ⟨l2.toArray⟩ = z2) (h0 : z2 ≠ 0) :
    Calls Tryz.prog 36 #[.agg #[.bool g1, .string ⟨l1.toArray⟩], .agg #[.bool g2, .string ⟨l2.toArray⟩]] w fun e w' => e = .returned (.tuple #[.agg #[.bool (sg (qD z1 z2)), .string (mg (qD z1 z2))], .agg #[.bool (sg (rD z1 z2)), .string (mg (rD z1 z2))], .int .i64 0]) ∧ Below w.heap.size w w' := by
  have Hz1 := Lib.hid hz1
  have Hz2 := Lib.hid hz2
  clear hz1 hz2
  obtain ⟨W0, hW0⟩ : ∃ W0, W0 = (((w.alloc (.cells #[.bool g1, .string ⟨l1.toArray⟩] 23)).alloc (.cells #[.bool g2, .string ⟨l2.toArray⟩] 23)).alloc (.cells #[.bool false, .string ⟨#[]⟩] 23)).alloc (.cells #[.bool false, .string ⟨#[]⟩] 23) := ⟨_, rfl⟩
  have B0 : Below w.heap.size w W0 := by rw [hW0]; exact (below3 w _ _ _).alloc (by simp only [World.size_alloc]; omega) _
  have X0 : Bx4 W0 w.heap.size g1 g2 ⟨l1.toArray⟩ ⟨l2.toArray⟩ := by rw [hW0]; exact Bx4.start w _ _ _ _ _
  have HW := Lib.hid hW0
  clear hW0
  go_enter Tryz.func36, Tryz.ntmps36
  go_upto_region 1 with fail
  rw [← HW.out]
  go_cut [13] (fun s13 wx => Bx4 wx w.heap.size (sg z1) (sg z2) (mg z1) (mg z2) ∧ Below w.heap.size w wx)
  case first =>
    have KB : Bx4 W0.drew w.heap.size g1 g2 ⟨l1.toArray⟩ ⟨l2.toArray⟩ ∧ Below w.heap.size w W0.drew := ⟨X0, B0.drew⟩
    obtain ⟨⟨⟨x1, x2, x3, x4⟩, ⟨y1, y2, y3, y4⟩, -⟩, -⟩ := id X0
    go_region_with (first
      | (go_at_call 58; (first | (with_reducible refine (rcan_eq (by omega) Hz1.out).mono ?_) | (with_reducible refine (rcan_eq (by omega) Hz2.out).mono ?_)); rintro e X ⟨rfl, bX⟩; have KB := And.intro (KB.1.keep bX) (below_more KB.2 (Nat.le_refl _) bX); obtain ⟨⟨⟨x1, x2, x3, x4⟩, ⟨y1, y2, y3, y4⟩, -⟩, -⟩ := id KB.1))
    all_goals go_wp2_with fail
    all_goals go_meet
    all_goals
      have hne : w.heap.size ≠ w.heap.size + 1 := by omega
      have F4 := fun (a b c d : Value) => (((KB.1.2.far (a := ⟨w.heap.size, 0, none⟩) (by dsimp only; omega) a).far (a := ⟨w.heap.size, 1, none⟩) (by dsimp only; omega) b).far (a := ⟨w.heap.size + 1, 0, none⟩) (by dsimp only; omega) c).far (a := ⟨w.heap.size + 1, 1, none⟩) (by dsimp only; omega) d
      exact ⟨⟨⟨((KB.1.1.1.set (g' := sg z1) (s' := mg z1)).far (by dsimp only; omega) _).far (by dsimp only; omega) _, ((KB.1.1.2.1.far (by dsimp only; omega) _).far (by dsimp only; omega) _).set (g' := sg z2) (s' := mg z2), (((KB.1.1.2.2.far (by dsimp only; omega) _).far (by dsimp only; omega) _).far (by dsimp only; omega) _).far (by dsimp only; omega) _⟩, F4 _ _ _ _⟩, (((KB.2.setCell (Nat.le_refl _) _).setCell (Nat.le_refl _) _).setCell (Nat.le_succ _) _).setCell (Nat.le_succ _) _⟩
  case rest =>
    obtain ⟨KX, B⟩ := hcut
    clear X0 B0 HW
    obtain ⟨N1, E1⟩ : ∃ N, Hid (z1.natAbs = N) := ⟨_, Lib.hid rfl⟩
    obtain ⟨N2, E2⟩ : ∃ N, Hid (z2.natAbs = N) := ⟨_, Lib.hid rfl⟩
    obtain ⟨G1, e1⟩ : ∃ G, Hid (sg z1 = G) := ⟨_, Lib.hid rfl⟩
    obtain ⟨G2, e2⟩ : ∃ G, Hid (sg z2 = G) := ⟨_, Lib.hid rfl⟩
    have V1 := Lib.hid (show (if G1 then -(N1 : Int) else (N1 : Int)) = z1 by rw [← e1.out, ← E1.out]; exact sg_abs z1)
    have V2 := Lib.hid (show (if G2 then -(N2 : Int) else (N2 : Int)) = z2 by rw [← e2.out, ← E2.out]; exact sg_abs z2)
    have L1 : (bytesOf N1).length ≤ 10000000 := by rw [← E1.out, ← Hz1.out, natAbs_zv]; rw [← trim_bytes]; exact Nat.le_trans (stz_len _) hl1
    have L2 : (bytesOf N2).length ≤ 10000000 := by rw [← E2.out, ← Hz2.out, natAbs_zv]; rw [← trim_bytes]; exact Nat.le_trans (stz_len _) hl2
    rw [mg_nat E1.out, mg_nat E2.out, e1.out, e2.out] at KX
    obtain ⟨b1, Hb1⟩ : ∃ b, Hid (bytesOf N1 = b) := ⟨_, Lib.hid rfl⟩
    obtain ⟨b2, Hb2⟩ : ∃ b, Hid (bytesOf N2 = b) := ⟨_, Lib.hid rfl⟩
    rw [Hb1.out, Hb2.out] at KX
    rw [Hb1.out] at L1
    rw [Hb2.out] at L2
    have hN2 : N2 ≠ 0 := by rw [← E2.out]; omega
    have hc2 : (b2 == []) = false := by
      rw [beq_eq_false_iff_ne, ← Hb2.out]
      intro e
      exact hN2 (bytesOf_nil.1 e)
    have hp9 : w.heap.size + 1 + 1 + 1 < wc.heap.size := World.block_lt_of_cell? wc ⟨w.heap.size + 1 + 1 + 1, 0, none⟩ KX.2.1
    obtain ⟨⟨⟨x1, x2, x3, x4⟩, ⟨y1, y2, y3, y4⟩, -⟩, -⟩ := id KX
    go_upto_region 5 with fail
    obtain ⟨u, hu⟩ : ∃ u, wc.heap.size = u := ⟨_, rfl⟩
    obtain ⟨W5, hW5⟩ : ∃ W5, (wc.alloc (.cells #[.bool false, .string ⟨#[]⟩] 23)).alloc (.cells #[.bool false, .string ⟨#[]⟩] 23) = W5 := ⟨_, rfl⟩
    have hal : ∀ (g : Bool) (s : ByteArray), Box2 (wc.alloc (.cells #[.bool g, .string s] 23)) wc.heap.size g s := fun g s => Box2.new _ _ _ _
    have DV : Dv W5 w.heap.size u (u + 1) G1 G2 ⟨b1.toArray⟩ ⟨b2.toArray⟩ 0 0 ∧ Below w.heap.size w W5 := by
      rw [← hW5, ← hu]
      refine ⟨⟨(KX.keep (below1 _ _)).keep (below1 _ _), ?_, ?_, by omega, by omega⟩, (B.alloc B.size _).alloc (by rw [World.size_alloc]; have := B.size; omega) _⟩
      · rw [sg_zero9, mg_zero9]
        exact (Box2.new wc 23 false ⟨#[]⟩).keep (below1 _ _)
      · rw [sg_zero9, mg_zero9, ← World.size_alloc wc (.cells #[.bool false, .string ⟨#[]⟩] 23)]
        exact Box2.new _ _ _ _
    rw [hW5, hu]
    rw [hu] at hp9
    clear hal KX B x1 x2 x3 x4 y1 y2 y3 y4
    obtain ⟨Q, HQ⟩ : ∃ Q, Hid (N1 / N2 = Q) := ⟨_, Lib.hid rfl⟩
    obtain ⟨R, HR⟩ : ∃ R, Hid (N1 % N2 = R) := ⟨_, Lib.hid rfl⟩
    obtain ⟨⟨⟨⟨⟨x1, x2, x3, x4⟩, ⟨y1, y2, y3, y4⟩, -⟩, -⟩, ⟨q1, q2, q3, q4⟩, ⟨r1, r2, r3, r4⟩, -⟩, B⟩ := id DV
    obtain ⟨fl, Hfl⟩ : ∃ fl, Hid ((decide (b1.length < 8) && decide (b2.length < 8)) = fl) := ⟨_, Lib.hid rfl⟩
    go_cut [31] (fun s31 wx => s31 = .bool fl ∧ wx = W5)
    case first =>
      by_cases hs1 : b1.length < 8
      · have hd1 : decide ((b1.length : Int) < 8) = true := decide_eq_true (by omega)
        by_cases hs2 : b2.length < 8
        · have hd2 : decide ((b2.length : Int) < 8) = true := decide_eq_true (by omega)
          have hfl : fl = true := by rw [← Hfl.out]; simp [hs1, hs2]
          subst hfl
          go_wp2_with fail
          go_meet
          first | exact ⟨rfl, rfl⟩ | rfl
        · have hd2 : ¬ (b2.length : Int) < 8 := by omega
          have hfl : fl = false := by rw [← Hfl.out]; simp [hs2]
          subst hfl
          go_wp2_with fail
          go_meet
          first | exact ⟨rfl, rfl⟩ | rfl
      · have hd1 : ¬ (b1.length : Int) < 8 := by omega
        have hfl : fl = false := by rw [← Hfl.out]; simp [hs1]
        subst hfl
        go_wp2_with fail
        go_meet
        first | exact ⟨rfl, rfl⟩ | rfl
    case rest =>
    obtain ⟨rfl, hwx⟩ := hcut
    subst hwx
    go_upto_if 31 with fail
    go_cut [9, 10, 11, 12] (fun s9 s10 s11 s12 wx => Dv wx w.heap.size u (u + 1) G1 G2 ⟨b1.toArray⟩ ⟨b2.toArray⟩ (Q : Int) (R : Int) ∧ Below w.heap.size w wx)
    case first =>
      cases fl with
      | true =>
        have hs : b1.length < 8 ∧ b2.length < 8 := by have h := Hfl.out; simpa using h
        obtain ⟨hs1, hs2⟩ := hs
        have hd1 : decide ((b1.length : Int) < 8) = true := decide_eq_true (by omega)
        have hd2 : decide ((b2.length : Int) < 8) = true := decide_eq_true (by omega)
        have hB1 := small_lt (N := N1) (by rw [Hb1.out]; exact hs1)
        have hB2 := small_lt (N := N2) (by rw [Hb2.out]; exact hs2)
        have hQb : Q ≤ N1 := by rw [← HQ.out]; exact Nat.div_le_self _ _
        have hRb : R < N2 := by rw [← HR.out]; exact Nat.mod_lt _ (by omega)
        have hq1 : Int.tdiv (N1 : Int) (N2 : Int) = (Q : Int) := by rw [← HQ.out]; rfl
        have hr1 : Int.tmod (N1 : Int) (N2 : Int) = (R : Int) := by rw [← HR.out]; rfl
        have hn0 : ¬ (N2 : Int) = 0 := by omega
        have hn1 : ((N2 : Int) == 0) = false := by rw [beq_eq_false_iff_ne]; omega
        have hwq : IntKind.i64.wrap (Q : Int) = (Q : Int) := IntWalk.i64_in _ (by omega)
        have hwr : IntKind.i64.wrap (R : Int) = (R : Int) := IntWalk.i64_in _ (by omega)
        go_upto_region 6 with fail
        have KB : Dv wc.drew w.heap.size u (u + 1) G1 G2 ⟨b1.toArray⟩ ⟨b2.toArray⟩ 0 0 ∧ Below w.heap.size w wc.drew := ⟨DV.1.keep (Below.refl _ _).drew, DV.2.drew⟩
        clear DV
        go_region_with (first
          | (go_at_call 72; (first | (with_reducible refine (rsml_b Hb1.out hs1).mono ?_) | (with_reducible refine (rsml_b Hb2.out hs2).mono ?_)); rintro e X ⟨rfl, bX⟩; have KB := And.intro (KB.1.keep bX) (below_more KB.2 (Nat.le_refl _) bX); obtain ⟨⟨⟨⟨⟨x1, x2, x3, x4⟩, ⟨y1, y2, y3, y4⟩, -⟩, -⟩, ⟨q1, q2, q3, q4⟩, ⟨r1, r2, r3, r4⟩, -⟩, B⟩ := id KB))
        all_goals go_upto_region 7 with fail
        all_goals have KB := And.intro (KB.1.keep (Below.refl _ _).drew) KB.2.drew
        all_goals
          go_region_with (first
            | (go_at_call 27; (first | (with_reducible refine (rof01_any (Q : Int) _ (by omega) (by omega)).mono ?_) | (with_reducible refine (rof01_any (R : Int) _ (by omega) (by omega)).mono ?_)); rintro e X ⟨rfl, bX⟩; have KB := And.intro (KB.1.keep bX) (below_more KB.2 (Nat.le_refl _) bX); obtain ⟨⟨⟨⟨⟨x1, x2, x3, x4⟩, ⟨y1, y2, y3, y4⟩, -⟩, -⟩, ⟨q1, q2, q3, q4⟩, ⟨r1, r2, r3, r4⟩, -⟩, B⟩ := id KB))
        all_goals go_wp2_with fail
        all_goals go_meet
        all_goals
          exact ⟨(KB.1.setq (Q : Int)).setr (R : Int), (((KB.2.setCell (by dsimp only; omega) _).setCell (by dsimp only; omega) _).setCell (by dsimp only; omega) _).setCell (by dsimp only; omega) _⟩
      | false =>
        obtain ⟨bq, Hbq⟩ : ∃ b, Hid (bytesOf Q = b) := ⟨_, Lib.hid rfl⟩
        obtain ⟨br, Hbr⟩ : ∃ b, Hid (bytesOf R = b) := ⟨_, Lib.hid rfl⟩
        have KB := DV
        clear DV
        all_goals
          go_wp2_with fail
          refine (rdivM_b Hb1.out Hb2.out L1 L2 hN2 HQ.out HR.out Hbq.out Hbr.out).mono ?_
          rintro e X ⟨rfl, bX⟩
          have KB := And.intro (KB.1.keep bX) (below_more KB.2 (Nat.le_refl _) bX)
          obtain ⟨⟨⟨⟨⟨x1, x2, x3, x4⟩, ⟨y1, y2, y3, y4⟩, -⟩, -⟩, ⟨q1, q2, q3, q4⟩, ⟨r1, r2, r3, r4⟩, -⟩, B⟩ := id KB
          go_wp2_with fail
          go_meet
          have h := (KB.1.setq (Q : Int)).setr (R : Int)
          rw [(nat_int Q).1, (nat_int Q).2, (nat_int R).1, (nat_int R).2, Hbq.out, Hbr.out] at h
          exact ⟨h, (((KB.2.setCell (by dsimp only; omega) _).setCell (by dsimp only; omega) _).setCell (by dsimp only; omega) _).setCell (by dsimp only; omega) _⟩
    case rest =>
      have KB := hcut
      obtain ⟨⟨⟨⟨⟨x1, x2, x3, x4⟩, ⟨y1, y2, y3, y4⟩, ⟨o1, o2, o3, o4⟩⟩, ⟨p1, p2, p3, p4⟩⟩, ⟨q1, q2, q3, q4⟩, ⟨r1, r2, r3, r4⟩, -⟩, B⟩ := id KB
      have lQ : (bytesOf Q).length ≤ 10000000 := by rw [← HQ.out]; have := bytesOf_mono (Nat.div_le_self N1 N2); rw [Hb1.out] at this; omega
      have lR : (bytesOf R).length ≤ 10000000 := by rw [← HR.out]; have := bytesOf_mono (Nat.mod_le N1 N2); rw [Hb1.out] at this; omega
      have lQ1 : (bytesOf (-(Q : Int)).natAbs).length ≤ 10000000 := by rw [Int.natAbs_neg, Int.natAbs_natCast]; exact lQ
      have lQ0 : (bytesOf (Q : Int).natAbs).length ≤ 10000000 := by rw [Int.natAbs_natCast]; exact lQ
      have l1 : (bytesOf (1 : Int).natAbs).length ≤ 10000000 := by
        have := bytesOf_len (n := 1) (k := 1) (by omega)
        show (bytesOf 1).length ≤ 10000000
        omega
      obtain ⟨zq, Hzq⟩ : ∃ z, Hid (qD z1 z2 = z) := ⟨_, Lib.hid rfl⟩
      obtain ⟨zr, Hzr⟩ : ∃ z, Hid (rD z1 z2 = z) := ⟨_, Lib.hid rfl⟩
      obtain ⟨rr, Hrr⟩ : ∃ z, Hid ((if G2 then -zr else zr) = z) := ⟨_, Lib.hid rfl⟩
      go_upto_if 62 with fail
      go_cut [9, 10, 11, 12] (fun s9 s10 s11 s12 wx => Dv wx w.heap.size u (u + 1) G1 G2 ⟨b1.toArray⟩ ⟨b2.toArray⟩ zq rr ∧ Below w.heap.size w wx)
      case first =>
        have HS := Lib.hid (show G1 = G2 → zq = (Q : Int) ∧ rr = (R : Int) by
          intro hg
          have h := div_same (z1 := z1) (z2 := z2) (by rw [e1.out, e2.out]; exact hg)
          rw [Hzq.out, Hzr.out, E1.out, E2.out, HQ.out, HR.out, e2.out] at h
          refine ⟨h.1, ?_⟩
          rw [← Hrr.out, h.2]
          cases G2 <;> simp)
        have HD := Lib.hid (show G1 ≠ G2 → R = 0 → zq = -(Q : Int) ∧ rr = (R : Int) by
          intro hg hR0
          have hd := div_diff (z1 := z1) (z2 := z2) (by rw [e1.out, e2.out]; exact hg)
          rw [Hzq.out, Hzr.out, E1.out, E2.out, HQ.out, HR.out, e2.out] at hd
          refine ⟨(hd.1 hR0).1, ?_⟩
          rw [← Hrr.out, (hd.1 hR0).2, hR0]
          cases G2 <;> simp)
        have HE := Lib.hid (show G1 ≠ G2 → R ≠ 0 → -(Q : Int) - 1 = zq ∧ (N2 : Int) - (R : Int) = rr by
          intro hg hR0
          have hRN : R < N2 := by rw [← HR.out]; exact Nat.mod_lt _ (by omega)
          have hd := div_diff (z1 := z1) (z2 := z2) (by rw [e1.out, e2.out]; exact hg)
          rw [Hzq.out, Hzr.out, E1.out, E2.out, HQ.out, HR.out, e2.out] at hd
          refine ⟨(hd.2 hR0).1.symm, ?_⟩
          rw [← Hrr.out, (hd.2 hR0).2]
          cases G2 <;> simp <;> omega)
        obtain ⟨br, Hbr⟩ : ∃ b, Hid (bytesOf R = b) := ⟨_, Lib.hid rfl⟩
        have hRcase : (R = 0 ∧ mg (R : Int) = ⟨#[]⟩) ∨ (R ≠ 0 ∧ (br == []) = false) := by
          by_cases h : R = 0
          · exact Or.inl ⟨h, by rw [h]; exact mg_zero9⟩
          · refine Or.inr ⟨h, ?_⟩
            rw [beq_eq_false_iff_ne, ← Hbr.out]
            exact fun e => h (bytesOf_nil.1 e)
        rcases Bool.eq_false_or_eq_true G1 with hGa | hGa <;> rcases Bool.eq_false_or_eq_true G2 with hGb | hGb <;> subst hGa <;> subst hGb
        · have Hqv := Lib.hid (HS.out (by first | rfl | trivial))
          go_wp2_with fail
          go_meet
          rw [Hqv.out.1, Hqv.out.2]
          exact KB
        · rcases hRcase with ⟨hR0, hmr⟩ | ⟨hR0, hbn⟩
          · have Hqv := Lib.hid (HD.out (by decide) hR0)
            rw [hmr] at r2
            go_wp2_with fail
            refine (rneg_mg lQ0 rfl).mono ?_
            rintro e X ⟨rfl, bX⟩
            have KB := And.intro (KB.1.keep bX) (below_more KB.2 (Nat.le_refl _) bX)
            obtain ⟨⟨⟨⟨⟨x1, x2, x3, x4⟩, ⟨y1, y2, y3, y4⟩, ⟨o1, o2, o3, o4⟩⟩, ⟨p1, p2, p3, p4⟩⟩, ⟨q1, q2, q3, q4⟩, ⟨r1, r2, r3, r4⟩, -⟩, B⟩ := id KB
            rw [hmr] at r2
            go_wp2_with fail
            go_meet
            rw [Hqv.out.1, Hqv.out.2]
            exact ⟨KB.1.setq _, (KB.2.setCell (by dsimp only; omega) _).setCell (by dsimp only; omega) _⟩
          · have Hqv := Lib.hid (HE.out (by decide) hR0)
            go_wp2_with fail
            refine (rneg_mg lQ0 rfl).mono ?_
            rintro e X ⟨rfl, bX⟩
            have KB := And.intro (KB.1.keep bX) (below_more KB.2 (Nat.le_refl _) bX)
            obtain ⟨⟨⟨⟨⟨x1, x2, x3, x4⟩, ⟨y1, y2, y3, y4⟩, ⟨o1, o2, o3, o4⟩⟩, ⟨p1, p2, p3, p4⟩⟩, ⟨q1, q2, q3, q4⟩, ⟨r1, r2, r3, r4⟩, -⟩, B⟩ := id KB
            rw [(nat_int R).2, Hbr.out] at r2
            go_upto_region 13 with fail
            generalize hW8 : (X.setCell ⟨u, 0, none⟩ (.bool (sg (-(Q : Int))))).setCell ⟨u, 1, none⟩ (.string (mg (-(Q : Int)))) = W8
            have KB : Dv W8.drew w.heap.size u (u + 1) true false ⟨b1.toArray⟩ ⟨b2.toArray⟩ (-(Q : Int)) (R : Int) ∧ Below w.heap.size w W8.drew := by
              rw [← hW8]
              exact ⟨KB.1.setq (-(Q : Int)), ((KB.2.setCell (p := ⟨u, 0, none⟩) (by show w.heap.size ≤ u; omega) _).setCell (p := ⟨u, 1, none⟩) (by show w.heap.size ≤ u; omega) _).drew⟩
            obtain ⟨⟨⟨⟨⟨x1, x2, x3, x4⟩, ⟨y1, y2, y3, y4⟩, ⟨o1, o2, o3, o4⟩⟩, ⟨p1, p2, p3, p4⟩⟩, ⟨q1, q2, q3, q4⟩, ⟨r1, r2, r3, r4⟩, -⟩, B⟩ := id KB
            go_region_with
              (first
                | (go_at_call 27; refine (rof01_any 1 _ (by omega) (by omega)).mono ?_; rintro e X ⟨rfl, bX⟩; have KB := And.intro (KB.1.keep bX) (below_more KB.2 (Nat.le_refl _) bX); obtain ⟨⟨⟨⟨⟨x1, x2, x3, x4⟩, ⟨y1, y2, y3, y4⟩, ⟨o1, o2, o3, o4⟩⟩, ⟨p1, p2, p3, p4⟩⟩, ⟨q1, q2, q3, q4⟩, ⟨r1, r2, r3, r4⟩, -⟩, B⟩ := id KB)
                | (go_at_call 75; refine (rsub_mg lQ1 l1 Hqv.out.1).mono ?_; rintro e X ⟨rfl, bX⟩; have KB := And.intro (KB.1.keep bX) (below_more KB.2 (Nat.le_refl _) bX); obtain ⟨⟨⟨⟨⟨x1, x2, x3, x4⟩, ⟨y1, y2, y3, y4⟩, ⟨o1, o2, o3, o4⟩⟩, ⟨p1, p2, p3, p4⟩⟩, ⟨q1, q2, q3, q4⟩, ⟨r1, r2, r3, r4⟩, -⟩, B⟩ := id KB))
            all_goals
              have KB := And.intro (KB.1.setq zq) ((KB.2.setCell (p := ⟨u, 0, none⟩) (by show w.heap.size ≤ u; omega) (.bool (sg zq))).setCell (p := ⟨u, 1, none⟩) (by show w.heap.size ≤ u; omega) (.string (mg zq)))
              obtain ⟨⟨⟨⟨⟨x1, x2, x3, x4⟩, ⟨y1, y2, y3, y4⟩, ⟨o1, o2, o3, o4⟩⟩, ⟨p1, p2, p3, p4⟩⟩, ⟨q1, q2, q3, q4⟩, ⟨r1, r2, r3, r4⟩, -⟩, B⟩ := id KB
              rw [(nat_int R).2, Hbr.out] at r2
              go_wp2_with fail
              refine (rsub_nb Hb2.out Hbr.out L2 lR Hqv.out.2).mono ?_
              rintro e X ⟨rfl, bX⟩
              have KB := And.intro (KB.1.keep bX) (below_more KB.2 (Nat.le_refl _) bX)
              obtain ⟨⟨⟨⟨⟨x1, x2, x3, x4⟩, ⟨y1, y2, y3, y4⟩, ⟨o1, o2, o3, o4⟩⟩, ⟨p1, p2, p3, p4⟩⟩, ⟨q1, q2, q3, q4⟩, ⟨r1, r2, r3, r4⟩, -⟩, B⟩ := id KB
              go_wp2_with fail
              go_meet
              exact ⟨KB.1.setr _, (KB.2.setCell (by dsimp only; omega) _).setCell (by dsimp only; omega) _⟩
        · rcases hRcase with ⟨hR0, hmr⟩ | ⟨hR0, hbn⟩
          · have Hqv := Lib.hid (HD.out (by decide) hR0)
            rw [hmr] at r2
            go_wp2_with fail
            refine (rneg_mg lQ0 rfl).mono ?_
            rintro e X ⟨rfl, bX⟩
            have KB := And.intro (KB.1.keep bX) (below_more KB.2 (Nat.le_refl _) bX)
            obtain ⟨⟨⟨⟨⟨x1, x2, x3, x4⟩, ⟨y1, y2, y3, y4⟩, ⟨o1, o2, o3, o4⟩⟩, ⟨p1, p2, p3, p4⟩⟩, ⟨q1, q2, q3, q4⟩, ⟨r1, r2, r3, r4⟩, -⟩, B⟩ := id KB
            rw [hmr] at r2
            go_wp2_with fail
            go_meet
            rw [Hqv.out.1, Hqv.out.2]
            exact ⟨KB.1.setq _, (KB.2.setCell (by dsimp only; omega) _).setCell (by dsimp only; omega) _⟩
          · have Hqv := Lib.hid (HE.out (by decide) hR0)
            go_wp2_with fail
            refine (rneg_mg lQ0 rfl).mono ?_
            rintro e X ⟨rfl, bX⟩
            have KB := And.intro (KB.1.keep bX) (below_more KB.2 (Nat.le_refl _) bX)
            obtain ⟨⟨⟨⟨⟨x1, x2, x3, x4⟩, ⟨y1, y2, y3, y4⟩, ⟨o1, o2, o3, o4⟩⟩, ⟨p1, p2, p3, p4⟩⟩, ⟨q1, q2, q3, q4⟩, ⟨r1, r2, r3, r4⟩, -⟩, B⟩ := id KB
            rw [(nat_int R).2, Hbr.out] at r2
            go_upto_region 13 with fail
            generalize hW8 : (X.setCell ⟨u, 0, none⟩ (.bool (sg (-(Q : Int))))).setCell ⟨u, 1, none⟩ (.string (mg (-(Q : Int)))) = W8
            have KB : Dv W8.drew w.heap.size u (u + 1) false true ⟨b1.toArray⟩ ⟨b2.toArray⟩ (-(Q : Int)) (R : Int) ∧ Below w.heap.size w W8.drew := by
              rw [← hW8]
              exact ⟨KB.1.setq (-(Q : Int)), ((KB.2.setCell (p := ⟨u, 0, none⟩) (by show w.heap.size ≤ u; omega) _).setCell (p := ⟨u, 1, none⟩) (by show w.heap.size ≤ u; omega) _).drew⟩
            obtain ⟨⟨⟨⟨⟨x1, x2, x3, x4⟩, ⟨y1, y2, y3, y4⟩, ⟨o1, o2, o3, o4⟩⟩, ⟨p1, p2, p3, p4⟩⟩, ⟨q1, q2, q3, q4⟩, ⟨r1, r2, r3, r4⟩, -⟩, B⟩ := id KB
            go_region_with
              (first
                | (go_at_call 27; refine (rof01_any 1 _ (by omega) (by omega)).mono ?_; rintro e X ⟨rfl, bX⟩; have KB := And.intro (KB.1.keep bX) (below_more KB.2 (Nat.le_refl _) bX); obtain ⟨⟨⟨⟨⟨x1, x2, x3, x4⟩, ⟨y1, y2, y3, y4⟩, ⟨o1, o2, o3, o4⟩⟩, ⟨p1, p2, p3, p4⟩⟩, ⟨q1, q2, q3, q4⟩, ⟨r1, r2, r3, r4⟩, -⟩, B⟩ := id KB)
                | (go_at_call 75; refine (rsub_mg lQ1 l1 Hqv.out.1).mono ?_; rintro e X ⟨rfl, bX⟩; have KB := And.intro (KB.1.keep bX) (below_more KB.2 (Nat.le_refl _) bX); obtain ⟨⟨⟨⟨⟨x1, x2, x3, x4⟩, ⟨y1, y2, y3, y4⟩, ⟨o1, o2, o3, o4⟩⟩, ⟨p1, p2, p3, p4⟩⟩, ⟨q1, q2, q3, q4⟩, ⟨r1, r2, r3, r4⟩, -⟩, B⟩ := id KB))
            all_goals
              have KB := And.intro (KB.1.setq zq) ((KB.2.setCell (p := ⟨u, 0, none⟩) (by show w.heap.size ≤ u; omega) (.bool (sg zq))).setCell (p := ⟨u, 1, none⟩) (by show w.heap.size ≤ u; omega) (.string (mg zq)))
              obtain ⟨⟨⟨⟨⟨x1, x2, x3, x4⟩, ⟨y1, y2, y3, y4⟩, ⟨o1, o2, o3, o4⟩⟩, ⟨p1, p2, p3, p4⟩⟩, ⟨q1, q2, q3, q4⟩, ⟨r1, r2, r3, r4⟩, -⟩, B⟩ := id KB
              rw [(nat_int R).2, Hbr.out] at r2
              go_wp2_with fail
              refine (rsub_nb Hb2.out Hbr.out L2 lR Hqv.out.2).mono ?_
              rintro e X ⟨rfl, bX⟩
              have KB := And.intro (KB.1.keep bX) (below_more KB.2 (Nat.le_refl _) bX)
              obtain ⟨⟨⟨⟨⟨x1, x2, x3, x4⟩, ⟨y1, y2, y3, y4⟩, ⟨o1, o2, o3, o4⟩⟩, ⟨p1, p2, p3, p4⟩⟩, ⟨q1, q2, q3, q4⟩, ⟨r1, r2, r3, r4⟩, -⟩, B⟩ := id KB
              go_wp2_with fail
              go_meet
              exact ⟨KB.1.setr _, (KB.2.setCell (by dsimp only; omega) _).setCell (by dsimp only; omega) _⟩
        · have Hqv := Lib.hid (HS.out (by first | rfl | trivial))
          go_wp2_with fail
          go_meet
          rw [Hqv.out.1, Hqv.out.2]
          exact KB
      case rest =>
        have KB := hcut
        obtain ⟨⟨⟨⟨⟨x1, x2, x3, x4⟩, ⟨y1, y2, y3, y4⟩, ⟨o1, o2, o3, o4⟩⟩, ⟨p1, p2, p3, p4⟩⟩, ⟨q1, q2, q3, q4⟩, ⟨r1, r2, r3, r4⟩, -⟩, B⟩ := id KB
        have lrr : (bytesOf rr.natAbs).length ≤ 10000000 := by
          have h1 : zr.natAbs ≤ N2 := by
            rw [← Hzr.out]
            have h := rD_abs (z1 := z1) (z2 := z2) h0
            rw [E2.out] at h
            omega
          have h2 : rr.natAbs = zr.natAbs := by rw [← Hrr.out]; cases G2 <;> simp
          rw [h2]
          have h3 := bytesOf_mono h1
          rw [Hb2.out] at h3
          omega
        have HZR := Lib.hid (show (G2 = true → -rr = zr) ∧ (G2 = false → rr = zr) by
          constructor
          · rintro rfl; rw [← Hrr.out]; simp
          · rintro rfl; rw [← Hrr.out]; simp)
        rcases Bool.eq_false_or_eq_true G2 with hGb | hGb <;> subst hGb
        · go_wp2_with fail
          refine (rneg_mg lrr (HZR.out.1 (by first | rfl | trivial))).mono ?_
          rintro e X ⟨rfl, bX⟩
          have KB := And.intro (KB.1.keep bX) (below_more KB.2 (Nat.le_refl _) bX)
          obtain ⟨⟨⟨⟨⟨x1, x2, x3, x4⟩, ⟨y1, y2, y3, y4⟩, ⟨o1, o2, o3, o4⟩⟩, ⟨p1, p2, p3, p4⟩⟩, ⟨q1, q2, q3, q4⟩, ⟨r1, r2, r3, r4⟩, -⟩, B⟩ := id KB
          go_upto_region 17 with fail
          generalize hW8 : (X.setCell ⟨u + 1, 0, none⟩ (.bool (sg zr))).setCell ⟨u + 1, 1, none⟩ (.string (mg zr)) = W8
          have KB : Dv W8 w.heap.size u (u + 1) G1 true ⟨b1.toArray⟩ ⟨b2.toArray⟩ zq zr ∧ Below w.heap.size w W8 := by
            rw [← hW8]
            exact ⟨KB.1.setr zr, (KB.2.setCell (p := ⟨u + 1, 0, none⟩) (by show w.heap.size ≤ u + 1; omega) _).setCell (p := ⟨u + 1, 1, none⟩) (by show w.heap.size ≤ u + 1; omega) _⟩
          obtain ⟨⟨⟨⟨⟨x1, x2, x3, x4⟩, ⟨y1, y2, y3, y4⟩, ⟨o1, o2, o3, o4⟩⟩, ⟨p1, p2, p3, p4⟩⟩, ⟨q1, q2, q3, q4⟩, ⟨r1, r2, r3, r4⟩, -⟩, B⟩ := id KB
          go_big_region
          all_goals
            go_wp2_with fail
            exact bodyPost_ret (v := .tuple #[.agg #[.bool (sg zq), .string (mg zq)], .agg #[.bool (sg zr), .string (mg zr)], .int .i64 0]) (by simp [results, Tryz.results36, go_sem, o1, o2, o3, o4, p1, p2, p3, p4]) rfl ⟨by rw [Hzq.out, Hzr.out], (by first | exact ((((KB.2.drew.setCell (by dsimp only; omega) _).setCell (by dsimp only; omega) _).setCell (by dsimp only; omega) _).setCell (by dsimp only; omega) _) | exact ((((KB.2.setCell (by dsimp only; omega) _).setCell (by dsimp only; omega) _).setCell (by dsimp only; omega) _).setCell (by dsimp only; omega) _) | exact ((((KB.2.setCell (by dsimp only; omega) _).setCell (by dsimp only; omega) _).setCell (by dsimp only; omega) _).setCell (by dsimp only; omega) _).drew)⟩
        · have hrz := HZR.out.2 (by first | rfl | trivial)
          subst hrz
          go_upto_region 17 with fail
          obtain ⟨⟨⟨⟨⟨x1, x2, x3, x4⟩, ⟨y1, y2, y3, y4⟩, ⟨o1, o2, o3, o4⟩⟩, ⟨p1, p2, p3, p4⟩⟩, ⟨q1, q2, q3, q4⟩, ⟨r1, r2, r3, r4⟩, -⟩, B⟩ := id KB
          go_big_region
          all_goals
            go_wp2_with fail
            exact bodyPost_ret (v := .tuple #[.agg #[.bool (sg zq), .string (mg zq)], .agg #[.bool (sg rr), .string (mg rr)], .int .i64 0]) (by simp [results, Tryz.results36, go_sem, o1, o2, o3, o4, p1, p2, p3, p4]) rfl ⟨by rw [Hzq.out, Hzr.out], (by first | exact ((((KB.2.drew.setCell (by dsimp only; omega) _).setCell (by dsimp only; omega) _).setCell (by dsimp only; omega) _).setCell (by dsimp only; omega) _) | exact ((((KB.2.setCell (by dsimp only; omega) _).setCell (by dsimp only; omega) _).setCell (by dsimp only; omega) _).setCell (by dsimp only; omega) _) | exact ((((KB.2.setCell (by dsimp only; omega) _).setCell (by dsimp only; omega) _).setCell (by dsimp only; omega) _).setCell (by dsimp only; omega) _).drew)⟩
end Go.Proofs.YtigdjlhihhakmaaGreatDoor
