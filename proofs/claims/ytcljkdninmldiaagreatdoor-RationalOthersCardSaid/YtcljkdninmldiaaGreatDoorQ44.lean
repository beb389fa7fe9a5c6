/- What the reference implementation's Quo of layer 2 returns. Condition: at most 10^6 bytes. What the reference implementation's Add of layer 2 returns. Condition: at most 10^6 bytes. What the reference implementation's Sub and Compare of layer 2 return. Condition: at most 900000 bytes. -/
import Derived.Test.YtcljkdninmldiaaGreatDoorQ40

namespace Go.Proofs.YtcljkdninmldiaaGreatDoor
open Go.RowKit
set_option linter.unusedSimpArgs false
set_option linter.unusedVariables false

set_option maxRecDepth 100000 in
set_option maxHeartbeats 12800000 in
theorem rquo02_some (v1 v2 : Value) (p q r : Rat) (L : Nat) (w : World) (h1 : AR v1 p L) (h2 : AR v2 q L) (hL : L ≤ 1000000) (hr : p / q = r) (h0 : q ≠ 0) :
    Calls Tryz.prog 61 #[v1, v2] w (RatGood w r) := by
  have H1 := Lib.hid h1
  have H2 := Lib.hid h2
  have P := Lib.hid h1.bd
  have Q := Lib.hid h2.bd
  obtain ⟨a, Ha⟩ : ∃ a, Hid (p.num * (q.den : Int) = a) := ⟨_, Lib.hid rfl⟩
  obtain ⟨b, Hb⟩ : ∃ b, Hid ((p.den : Int) * q.num = b) := ⟨_, Lib.hid rfl⟩
  have Aa := Lib.hid (ai_mg (mul_b8 P.out.1 (den_b8 Q.out) Ha.out))
  have Ab := Lib.hid (ai_mg (mul_b8 (den_b8 P.out) Q.out.1 Hb.out))
  have N0 := Lib.hid (show q.num ≠ 0 by rw [ne_eq, Rat.num_eq_zero]; exact h0)
  have B0 := Lib.hid (show b ≠ 0 by rw [← Hb.out]; exact Int.mul_ne_zero den_ne N0.out)
  have Hq := Lib.hid (rat_quo8 hr Ha.out Hb.out)
  obtain ⟨c, Hc⟩ : ∃ c : Int, Hid (cmpZ q.num 0 = c) := ⟨_, Lib.hid rfl⟩
  have Hc3 := Lib.hid (show c = -1 ∨ c = 1 by have h := N0.out; rw [← Hc.out]; unfold cmpZ; split <;> (try split) <;> omega)
  clear hr h0
  obtain ⟨g1, s1, g2, s2, _, _, rfl, -, -, -⟩ := h1
  obtain ⟨g3, s3, g4, s4, _, _, rfl, -, -, -⟩ := h2
  obtain ⟨W0, hW0⟩ : ∃ W0, W0 = ((w.alloc (.cells #[.bool g1, .string s1, .bool g2, .string s2] 25)).alloc (.cells #[.bool g3, .string s3, .bool g4, .string s4] 25)).alloc (.cells #[.bool false, .string ⟨#[]⟩, .bool false, .string ⟨#[]⟩] 25) := ⟨_, rfl⟩
  have K : Dw w W0 w.heap.size g1 s1 g2 s2 g3 s3 g4 s4 := by rw [hW0]; exact Dw.start w _ _ _ _ _ _ _ _
  have HW := Lib.hid hW0
  clear hW0
  go_enter Tryz.func61, Tryz.ntmps61
  go_upto_region 1 with fail
  rw [← HW.out]
  go_cut [13] (fun s9 wx => Dw w wx w.heap.size (sg p.num) (mg p.num) (sg (p.den : Int)) (mg (p.den : Int)) (sg q.num) (mg q.num) (sg (q.den : Int)) (mg (q.den : Int)))
  case first =>
    have KB := K.drew
    clear K
    obtain ⟨⟨⟨x1, x2, x3, x4⟩, x5, x6, x7, x8⟩, ⟨⟨y1, y2, y3, y4⟩, y5, y6, y7, y8⟩, -⟩ := id KB
    go_region_with (first
      | (go_at_call 21; (first | (with_reducible refine (rcan02_any _ p L _ H1.out (by omega)).mono ?_) | (with_reducible refine (rcan02_any _ q L _ H2.out (by omega)).mono ?_)); rintro e X ⟨rfl, bX⟩; unfold ratV; have KB := KB.keep bX; obtain ⟨⟨⟨x1, x2, x3, x4⟩, x5, x6, x7, x8⟩, ⟨⟨y1, y2, y3, y4⟩, y5, y6, y7, y8⟩, -⟩ := id KB))
    all_goals go_wp2_with fail
    all_goals go_meet
    all_goals first
      | exact (KB.put1 _ _ _ _).put2 _ _ _ _
      | exact (KB.put2 _ _ _ _).put1 _ _ _ _
  case rest =>
    have K9 := hcut
    clear K H1 H2 HW
    have K := K9
    clear K9
    obtain ⟨x1, x2, x3, x4, y1, y2, y3, y4⟩ := id K.flat
    go_wp2_with fail
    refine (rsign_any (ar_num Q.out) (by omega) Hc.out).mono ?_
    rintro e X ⟨rfl, bX⟩
    have K := K.keep bX
    clear bX x1 x2 x3 x4 y1 y2 y3 y4
    rcases Hc3.out with rfl | rfl
    all_goals
      go_upto_region 4 with fail
      have KB := K.drew
      obtain ⟨-, -, ⟨⟨r1, r2, r3, r4⟩, r5, r6, r7, r8⟩, -⟩ := id KB
      go_region_held3 (fun W => W.cell? ⟨w.heap.size, 0, none⟩ = some (.bool (sg p.num)) ∧ W.cell? ⟨w.heap.size, 1, none⟩ = some (.string (mg p.num)) ∧ W.cell? ⟨w.heap.size, 2, none⟩ = some (.bool (sg (p.den : Int))) ∧ W.cell? ⟨w.heap.size, 3, none⟩ = some (.string (mg (p.den : Int))) ∧ W.cell? ⟨w.heap.size + 1, 0, none⟩ = some (.bool (sg q.num)) ∧ W.cell? ⟨w.heap.size + 1, 1, none⟩ = some (.string (mg q.num)) ∧ W.cell? ⟨w.heap.size + 1, 2, none⟩ = some (.bool (sg (q.den : Int))) ∧ W.cell? ⟨w.heap.size + 1, 3, none⟩ = some (.string (mg (q.den : Int)))) (first | (with_reducible exact KB.flat) | (with_reducible exact Dw.flat4 KB _ _ _ _) | exact KB.flat | exact Dw.flat4 KB _ _ _ _)
        (first
          | (go_at_call 52; (first | (with_reducible refine (ai_mul (ar_num P.out) (ar_den Q.out) (by omega) Ha.out).mono ?_) | (with_reducible refine (ai_mul (ar_den P.out) (ar_num Q.out) (by omega) Hb.out).mono ?_)); rintro e X ⟨rfl, bX⟩; (try unfold ratV); have KB := KB.keep bX; obtain ⟨-, -, ⟨⟨r1, r2, r3, r4⟩, r5, r6, r7, r8⟩, -⟩ := id KB)
          | (go_at_call 37; (refine (rlow02_any _ _ a b r _ _ Aa.out Ab.out (by omega) B0.out Hq.out).mono ?_); rintro e X ⟨rfl, bX⟩; (try unfold ratV); have KB := KB.keep bX; obtain ⟨-, -, ⟨⟨r1, r2, r3, r4⟩, r5, r6, r7, r8⟩, -⟩ := id KB))
      all_goals
        go_wp2_with fail
        exact bodyPost_ret (v := .tuple #[ratV r, .int .i64 0]) (by simp [results, Tryz.results61, go_sem, r1, r2, r3, r4, r5, r6, r7, r8, ratV]) rfl ⟨rfl, below4s KB.2.2.2.2.1 _ (by omega) _ _ _ _⟩
set_option maxRecDepth 100000 in
set_option maxHeartbeats 12800000 in
theorem rquo02_none (v1 v2 : Value) (p q : Rat) (L : Nat) (w : World) (h1 : AR v1 p L) (h2 : AR v2 q L) (hL : L ≤ 1000000) (h0 : q = 0) :
    Calls Tryz.prog 61 #[v1, v2] w (RatFail w 9) := by
  have H1 := Lib.hid h1
  have H2 := Lib.hid h2
  have P := Lib.hid h1.bd
  have Q := Lib.hid h2.bd
  have Hc : Hid (cmpZ q.num 0 = 0) := by show _ = _; rw [h0]; rfl
  clear h0
  obtain ⟨g1, s1, g2, s2, _, _, rfl, -, -, -⟩ := h1
  obtain ⟨g3, s3, g4, s4, _, _, rfl, -, -, -⟩ := h2
  obtain ⟨W0, hW0⟩ : ∃ W0, W0 = ((w.alloc (.cells #[.bool g1, .string s1, .bool g2, .string s2] 25)).alloc (.cells #[.bool g3, .string s3, .bool g4, .string s4] 25)).alloc (.cells #[.bool false, .string ⟨#[]⟩, .bool false, .string ⟨#[]⟩] 25) := ⟨_, rfl⟩
  have K : Dw w W0 w.heap.size g1 s1 g2 s2 g3 s3 g4 s4 := by rw [hW0]; exact Dw.start w _ _ _ _ _ _ _ _
  have HW := Lib.hid hW0
  clear hW0
  go_enter Tryz.func61, Tryz.ntmps61
  go_upto_region 1 with fail
  rw [← HW.out]
  go_cut [13] (fun s9 wx => Dw w wx w.heap.size (sg p.num) (mg p.num) (sg (p.den : Int)) (mg (p.den : Int)) (sg q.num) (mg q.num) (sg (q.den : Int)) (mg (q.den : Int)))
  case first =>
    have KB := K.drew
    clear K
    obtain ⟨⟨⟨x1, x2, x3, x4⟩, x5, x6, x7, x8⟩, ⟨⟨y1, y2, y3, y4⟩, y5, y6, y7, y8⟩, -⟩ := id KB
    go_region_with (first
      | (go_at_call 21; (first | (with_reducible refine (rcan02_any _ p L _ H1.out (by omega)).mono ?_) | (with_reducible refine (rcan02_any _ q L _ H2.out (by omega)).mono ?_)); rintro e X ⟨rfl, bX⟩; unfold ratV; have KB := KB.keep bX; obtain ⟨⟨⟨x1, x2, x3, x4⟩, x5, x6, x7, x8⟩, ⟨⟨y1, y2, y3, y4⟩, y5, y6, y7, y8⟩, -⟩ := id KB))
    all_goals go_wp2_with fail
    all_goals go_meet
    all_goals first
      | exact (KB.put1 _ _ _ _).put2 _ _ _ _
      | exact (KB.put2 _ _ _ _).put1 _ _ _ _
  case rest =>
    have K9 := hcut
    clear K H1 H2 HW
    have K := K9
    clear K9
    obtain ⟨x1, x2, x3, x4, y1, y2, y3, y4⟩ := id K.flat
    go_wp2_with fail
    refine (rsign_any (ar_num Q.out) (by omega) Hc.out).mono ?_
    rintro e X ⟨rfl, bX⟩
    have K := K.keep bX
    clear bX x1 x2 x3 x4 y1 y2 y3 y4
    obtain ⟨-, -, ⟨⟨r1, r2, r3, r4⟩, r5, r6, r7, r8⟩, -⟩ := id K
    go_wp2_with fail
    exact bodyPost_ret (v := .tuple #[.agg #[.bool false, .string ⟨#[]⟩, .bool false, .string ⟨#[]⟩], .int .i64 9]) (by simp [results, Tryz.results61, go_sem, r1, r2, r3, r4, r5, r6, r7, r8]) rfl ⟨rfl, below4s K.2.2.2.2.1 _ (by omega) _ _ _ _⟩
end Go.Proofs.YtcljkdninmldiaaGreatDoor

namespace Go.Proofs.YtcljkdninmldiaaGreatDoor
open Go.RowKit
set_option linter.unusedSimpArgs false
set_option linter.unusedVariables false

section
variable {w W : World} {k u : Nat} {g1 g2 g3 g4 g : Bool} {s1 s2 s3 s4 s : ByteArray}
theorem Dt.flat (h : Dt w W k u g1 s1 g2 s2 g3 s3 g4 s4 g s) : W.cell? ⟨k, 0, none⟩ = some (.bool g1) ∧ W.cell? ⟨k, 1, none⟩ = some (.string s1) ∧ W.cell? ⟨k, 2, none⟩ = some (.bool g2) ∧ W.cell? ⟨k, 3, none⟩ = some (.string s2) ∧ W.cell? ⟨k + 1, 0, none⟩ = some (.bool g3) ∧ W.cell? ⟨k + 1, 1, none⟩ = some (.string s3) ∧ W.cell? ⟨k + 1, 2, none⟩ = some (.bool g4) ∧ W.cell? ⟨k + 1, 3, none⟩ = some (.string s4) ∧ W.cell? ⟨u, 0, none⟩ = some (.bool g) ∧ W.cell? ⟨u, 1, none⟩ = some (.string s) := by
  obtain ⟨a1, a2, a3, a4, a5, a6, a7, a8⟩ := h.1.flat
  exact ⟨a1, a2, a3, a4, a5, a6, a7, a8, h.2.1.1, h.2.1.2.1⟩
theorem Dt.flat4 (h : Dt w W k u g1 s1 g2 s2 g3 s3 g4 s4 g s) (u1 u2 u3 u4 : Value) : ((((W.setCell ⟨k + 1 + 1, 0, none⟩ u1).setCell ⟨k + 1 + 1, 1, none⟩ u2).setCell ⟨k + 1 + 1, 2, none⟩ u3).setCell ⟨k + 1 + 1, 3, none⟩ u4).cell? ⟨k, 0, none⟩ = some (.bool g1) ∧ ((((W.setCell ⟨k + 1 + 1, 0, none⟩ u1).setCell ⟨k + 1 + 1, 1, none⟩ u2).setCell ⟨k + 1 + 1, 2, none⟩ u3).setCell ⟨k + 1 + 1, 3, none⟩ u4).cell? ⟨k, 1, none⟩ = some (.string s1) ∧ ((((W.setCell ⟨k + 1 + 1, 0, none⟩ u1).setCell ⟨k + 1 + 1, 1, none⟩ u2).setCell ⟨k + 1 + 1, 2, none⟩ u3).setCell ⟨k + 1 + 1, 3, none⟩ u4).cell? ⟨k, 2, none⟩ = some (.bool g2) ∧ ((((W.setCell ⟨k + 1 + 1, 0, none⟩ u1).setCell ⟨k + 1 + 1, 1, none⟩ u2).setCell ⟨k + 1 + 1, 2, none⟩ u3).setCell ⟨k + 1 + 1, 3, none⟩ u4).cell? ⟨k, 3, none⟩ = some (.string s2) ∧ ((((W.setCell ⟨k + 1 + 1, 0, none⟩ u1).setCell ⟨k + 1 + 1, 1, none⟩ u2).setCell ⟨k + 1 + 1, 2, none⟩ u3).setCell ⟨k + 1 + 1, 3, none⟩ u4).cell? ⟨k + 1, 0, none⟩ = some (.bool g3) ∧ ((((W.setCell ⟨k + 1 + 1, 0, none⟩ u1).setCell ⟨k + 1 + 1, 1, none⟩ u2).setCell ⟨k + 1 + 1, 2, none⟩ u3).setCell ⟨k + 1 + 1, 3, none⟩ u4).cell? ⟨k + 1, 1, none⟩ = some (.string s3) ∧ ((((W.setCell ⟨k + 1 + 1, 0, none⟩ u1).setCell ⟨k + 1 + 1, 1, none⟩ u2).setCell ⟨k + 1 + 1, 2, none⟩ u3).setCell ⟨k + 1 + 1, 3, none⟩ u4).cell? ⟨k + 1, 2, none⟩ = some (.bool g4) ∧ ((((W.setCell ⟨k + 1 + 1, 0, none⟩ u1).setCell ⟨k + 1 + 1, 1, none⟩ u2).setCell ⟨k + 1 + 1, 2, none⟩ u3).setCell ⟨k + 1 + 1, 3, none⟩ u4).cell? ⟨k + 1, 3, none⟩ = some (.string s4) ∧ ((((W.setCell ⟨k + 1 + 1, 0, none⟩ u1).setCell ⟨k + 1 + 1, 1, none⟩ u2).setCell ⟨k + 1 + 1, 2, none⟩ u3).setCell ⟨k + 1 + 1, 3, none⟩ u4).cell? ⟨u, 0, none⟩ = some (.bool g) ∧ ((((W.setCell ⟨k + 1 + 1, 0, none⟩ u1).setCell ⟨k + 1 + 1, 1, none⟩ u2).setCell ⟨k + 1 + 1, 2, none⟩ u3).setCell ⟨k + 1 + 1, 3, none⟩ u4).cell? ⟨u, 1, none⟩ = some (.string s) := by
  obtain ⟨a1, a2, a3, a4, a5, a6, a7, a8⟩ := h.1.flat4 u1 u2 u3 u4
  have hu := h.2.2
  have b := (((h.2.1.far (a := ⟨k + 1 + 1, 0, none⟩) (by dsimp only; omega) u1).far (a := ⟨k + 1 + 1, 1, none⟩) (by dsimp only; omega) u2).far (a := ⟨k + 1 + 1, 2, none⟩) (by dsimp only; omega) u3).far (a := ⟨k + 1 + 1, 3, none⟩) (by dsimp only; omega) u4
  exact ⟨a1, a2, a3, a4, a5, a6, a7, a8, b.1, b.2.1⟩
end
set_option maxRecDepth 100000 in
set_option maxHeartbeats 12800000 in
theorem radd02_any (v1 v2 : Value) (p q r : Rat) (L : Nat) (w : World) (h1 : AR v1 p L) (h2 : AR v2 q L) (hL : L ≤ 1000000) (hr : p + q = r) :
    Calls Tryz.prog 62 #[v1, v2] w (RatOut w r) := by
  have H1 := Lib.hid h1
  have H2 := Lib.hid h2
  have P := Lib.hid h1.bd
  have Q := Lib.hid h2.bd
  obtain ⟨a, Ha⟩ : ∃ a, Hid (p.num * (q.den : Int) = a) := ⟨_, Lib.hid rfl⟩
  obtain ⟨b, Hb⟩ : ∃ b, Hid (q.num * (p.den : Int) = b) := ⟨_, Lib.hid rfl⟩
  obtain ⟨n, Hn⟩ : ∃ n, Hid (a + b = n) := ⟨_, Lib.hid rfl⟩
  obtain ⟨d, Hd⟩ : ∃ d, Hid ((p.den : Int) * (q.den : Int) = d) := ⟨_, Lib.hid rfl⟩
  have Ba := Lib.hid (mul_b8 P.out.1 (den_b8 Q.out) Ha.out)
  have Bb := Lib.hid (mul_b8 Q.out.1 (den_b8 P.out) Hb.out)
  have Aa := Lib.hid (ai_mg Ba.out)
  have Ab := Lib.hid (ai_mg Bb.out)
  have An := Lib.hid (ai_mg (add_b8 Ba.out Bb.out Hn.out))
  have Ad := Lib.hid ((ai_mg (mul_b8 (den_b8 P.out) (den_b8 Q.out) Hd.out)).wider (Nat.le_succ _))
  have D0 := Lib.hid (show d ≠ 0 by rw [← Hd.out]; exact Int.mul_ne_zero den_ne den_ne)
  have Hq := Lib.hid (rat_add8 hr Ha.out Hb.out Hn.out Hd.out)
  clear hr
  obtain ⟨g1, s1, g2, s2, _, _, rfl, -, -, -⟩ := h1
  obtain ⟨g3, s3, g4, s4, _, _, rfl, -, -, -⟩ := h2
  obtain ⟨W0, hW0⟩ : ∃ W0, W0 = ((w.alloc (.cells #[.bool g1, .string s1, .bool g2, .string s2] 25)).alloc (.cells #[.bool g3, .string s3, .bool g4, .string s4] 25)).alloc (.cells #[.bool false, .string ⟨#[]⟩, .bool false, .string ⟨#[]⟩] 25) := ⟨_, rfl⟩
  have K : Dw w W0 w.heap.size g1 s1 g2 s2 g3 s3 g4 s4 := by rw [hW0]; exact Dw.start w _ _ _ _ _ _ _ _
  have HW := Lib.hid hW0
  clear hW0
  go_enter Tryz.func62, Tryz.ntmps62
  go_upto_region 1 with fail
  rw [← HW.out]
  go_cut [13] (fun s9 wx => Dw w wx w.heap.size (sg p.num) (mg p.num) (sg (p.den : Int)) (mg (p.den : Int)) (sg q.num) (mg q.num) (sg (q.den : Int)) (mg (q.den : Int)))
  case first =>
    have KB := K.drew
    clear K
    obtain ⟨⟨⟨x1, x2, x3, x4⟩, x5, x6, x7, x8⟩, ⟨⟨y1, y2, y3, y4⟩, y5, y6, y7, y8⟩, -⟩ := id KB
    go_region_with (first
      | (go_at_call 21; (first | (with_reducible refine (rcan02_any _ p L _ H1.out (by omega)).mono ?_) | (with_reducible refine (rcan02_any _ q L _ H2.out (by omega)).mono ?_)); rintro e X ⟨rfl, bX⟩; unfold ratV; have KB := KB.keep bX; obtain ⟨⟨⟨x1, x2, x3, x4⟩, x5, x6, x7, x8⟩, ⟨⟨y1, y2, y3, y4⟩, y5, y6, y7, y8⟩, -⟩ := id KB))
    all_goals go_wp2_with fail
    all_goals go_meet
    all_goals first
      | exact (KB.put1 _ _ _ _).put2 _ _ _ _
      | exact (KB.put2 _ _ _ _).put1 _ _ _ _
  case rest =>
    have K9 := hcut
    clear K H1 H2 HW
    have K := K9
    clear K9
    go_upto_region 2 with fail
    go_cut [5] (fun s5 wx => ∃ u : Nat, s5 = .pointer (some ⟨u, 0, none⟩) ∧ Dt w wx w.heap.size u (sg p.num) (mg p.num) (sg (p.den : Int)) (mg (p.den : Int)) (sg q.num) (mg q.num) (sg (q.den : Int)) (mg (q.den : Int)) (sg n) (mg n))
    case first =>
      have KB := K.drew
      have hsz := KB.2.2.2.1
      go_region_held3 (fun W => W.cell? ⟨w.heap.size, 0, none⟩ = some (.bool (sg p.num)) ∧ W.cell? ⟨w.heap.size, 1, none⟩ = some (.string (mg p.num)) ∧ W.cell? ⟨w.heap.size, 2, none⟩ = some (.bool (sg (p.den : Int))) ∧ W.cell? ⟨w.heap.size, 3, none⟩ = some (.string (mg (p.den : Int))) ∧ W.cell? ⟨w.heap.size + 1, 0, none⟩ = some (.bool (sg q.num)) ∧ W.cell? ⟨w.heap.size + 1, 1, none⟩ = some (.string (mg q.num)) ∧ W.cell? ⟨w.heap.size + 1, 2, none⟩ = some (.bool (sg (q.den : Int))) ∧ W.cell? ⟨w.heap.size + 1, 3, none⟩ = some (.string (mg (q.den : Int)))) (first | (with_reducible exact KB.flat) | (with_reducible exact (Dw.alloc KB _).flat) | (with_reducible exact (Dw.drew (Dw.alloc K _)).flat) | go_keep | exact KB.flat | exact (Dw.alloc KB _).flat | exact (Dt.set KT _ _).1.flat)
        (first
          | (go_at_call 52; (first | (with_reducible refine (ai_mul (ar_num P.out) (ar_den Q.out) (by omega) Ha.out).mono ?_) | (with_reducible refine (ai_mul (ar_num Q.out) (ar_den P.out) (by omega) Hb.out).mono ?_)); rintro e X ⟨rfl, bX⟩; (first | (with_reducible have KT1 := Dt.keep KT bX; have KB1 := Dw.keep KB bX; have KT := KT1; have KB := KB1) | (with_reducible have KB1 := Dw.keep KB bX; have KB := KB1) | (have KT := Dt.keep (Dt.new KB) bX; (try simp only [World.size_drew] at KT); have KB := KT.1)); (try obtain ⟨-, ⟨v1, v2, v3, v4⟩, huv⟩ := id KT); have hsz := KB.2.2.2.1)
          | (go_at_call 95; (refine (ai_add Aa.out Ab.out (by omega) Hn.out).mono ?_); rintro e X ⟨rfl, bX⟩; (first | (with_reducible have KT1 := Dt.keep KT bX; have KB1 := Dw.keep KB bX; have KT := KT1; have KB := KB1) | (with_reducible have KB1 := Dw.keep KB bX; have KB := KB1) | (have KT := Dt.keep (Dt.new KB) bX; (try simp only [World.size_drew] at KT); have KB := KT.1)); (try obtain ⟨-, ⟨v1, v2, v3, v4⟩, huv⟩ := id KT); have hsz := KB.2.2.2.1))
      all_goals go_wp2_with fail
      all_goals go_meet
      all_goals refine ⟨_, rfl, ?_⟩
      all_goals first
        | exact Dt.new KB
        | exact Dt.set KT _ _
    case rest =>
      obtain ⟨u, rfl, KT⟩ := hcut
      clear K
      go_upto_region 3 with fail
      have KB : Dt w wc.drew w.heap.size u (sg p.num) (mg p.num) (sg (p.den : Int)) (mg (p.den : Int)) (sg q.num) (mg q.num) (sg (q.den : Int)) (mg (q.den : Int)) (sg n) (mg n) := KT.keep (Below.refl _ _).drew
      clear KT
      obtain ⟨⟨-, -, ⟨⟨r1, r2, r3, r4⟩, r5, r6, r7, r8⟩, -⟩, ⟨v1, v2, v3, v4⟩, huv⟩ := id KB
      go_region_held3 (fun W => W.cell? ⟨w.heap.size, 0, none⟩ = some (.bool (sg p.num)) ∧ W.cell? ⟨w.heap.size, 1, none⟩ = some (.string (mg p.num)) ∧ W.cell? ⟨w.heap.size, 2, none⟩ = some (.bool (sg (p.den : Int))) ∧ W.cell? ⟨w.heap.size, 3, none⟩ = some (.string (mg (p.den : Int))) ∧ W.cell? ⟨w.heap.size + 1, 0, none⟩ = some (.bool (sg q.num)) ∧ W.cell? ⟨w.heap.size + 1, 1, none⟩ = some (.string (mg q.num)) ∧ W.cell? ⟨w.heap.size + 1, 2, none⟩ = some (.bool (sg (q.den : Int))) ∧ W.cell? ⟨w.heap.size + 1, 3, none⟩ = some (.string (mg (q.den : Int))) ∧ W.cell? ⟨u, 0, none⟩ = some (.bool (sg n)) ∧ W.cell? ⟨u, 1, none⟩ = some (.string (mg n))) (first | (with_reducible exact Dt.flat KB) | (with_reducible exact Dt.flat4 KB _ _ _ _) | exact Dt.flat KB | exact Dt.flat4 KB _ _ _ _)
        (first
          | (go_at_call 52; (refine (ai_mul (ar_den P.out) (ar_den Q.out) (by omega) Hd.out).mono ?_); rintro e X ⟨rfl, bX⟩; have KB := KB.keep bX; obtain ⟨⟨-, -, ⟨⟨r1, r2, r3, r4⟩, r5, r6, r7, r8⟩, -⟩, -⟩ := id KB)
          | (go_at_call 37; (refine (rlow02_any _ _ n d r _ _ An.out Ad.out (by omega) D0.out Hq.out).mono ?_); rintro e X ⟨rfl, bX⟩; unfold ratV; have KB := KB.keep bX; obtain ⟨⟨-, -, ⟨⟨r1, r2, r3, r4⟩, r5, r6, r7, r8⟩, -⟩, -⟩ := id KB))
      all_goals
        go_wp2_with fail
        exact bodyPost_ret (v := ratV r) (by simp [results, Tryz.results62, go_sem, r1, r2, r3, r4, r5, r6, r7, r8, ratV]) rfl ⟨rfl, below4s KB.1.2.2.2.2.1 _ (by omega) _ _ _ _⟩
end Go.Proofs.YtcljkdninmldiaaGreatDoor

namespace Go.Proofs.YtcljkdninmldiaaGreatDoor
open Go.RowKit
set_option linter.unusedSimpArgs false
set_option linter.unusedVariables false

set_option maxRecDepth 100000 in
set_option maxHeartbeats 12800000 in
theorem rsub02_any (v1 v2 : Value) (p q r : Rat) (L : Nat) (w : World) (h1 : AR v1 p L) (h2 : AR v2 q L) (hL : L ≤ 900000) (hr : p - q = r) :
    Calls Tryz.prog 58 #[v1, v2] w (RatOut w r) := by
  have H1 := Lib.hid h1
  have H2 := Lib.hid h2
  have P := Lib.hid h1.bd
  have Q := Lib.hid h2.bd
  obtain ⟨n, Hn⟩ : ∃ n, Hid (-q = n) := ⟨_, Lib.hid rfl⟩
  have N := Lib.hid (show Rb8 n (L + 1) by
    rw [← Hn.out]
    exact ⟨by show (-q.num).natAbs < _; rw [Int.natAbs_neg]; exact Q.out.1, Q.out.2⟩)
  have An := Lib.hid (ar_ratV N.out)
  have A1 := Lib.hid (h1.wider (Nat.le_succ L))
  have Hr := Lib.hid (show p + n = r by rw [← Hn.out, ← hr, Rat.sub_eq_add_neg])
  clear hr
  obtain ⟨g1, s1, g2, s2, _, _, rfl, -, -, -⟩ := h1
  obtain ⟨g3, s3, g4, s4, _, _, rfl, -, -, -⟩ := h2
  obtain ⟨W0, hW0⟩ : ∃ W0, W0 = ((w.alloc (.cells #[.bool g1, .string s1, .bool g2, .string s2] 25)).alloc (.cells #[.bool g3, .string s3, .bool g4, .string s4] 25)).alloc (.cells #[.bool false, .string ⟨#[]⟩, .bool false, .string ⟨#[]⟩] 25) := ⟨_, rfl⟩
  have K : Dw w W0 w.heap.size g1 s1 g2 s2 g3 s3 g4 s4 := by rw [hW0]; exact Dw.start w _ _ _ _ _ _ _ _
  have HW := Lib.hid hW0
  clear hW0
  go_enter Tryz.func58, Tryz.ntmps58
  go_upto_region 1 with fail
  rw [← HW.out]
  have KB := K.drew
  clear K
  obtain ⟨-, -, ⟨⟨r1, r2, r3, r4⟩, r5, r6, r7, r8⟩, -⟩ := id KB
  go_region_held3 (fun W => W.cell? ⟨w.heap.size, 0, none⟩ = some (.bool g1) ∧ W.cell? ⟨w.heap.size, 1, none⟩ = some (.string s1) ∧ W.cell? ⟨w.heap.size, 2, none⟩ = some (.bool g2) ∧ W.cell? ⟨w.heap.size, 3, none⟩ = some (.string s2) ∧ W.cell? ⟨w.heap.size + 1, 0, none⟩ = some (.bool g3) ∧ W.cell? ⟨w.heap.size + 1, 1, none⟩ = some (.string s3) ∧ W.cell? ⟨w.heap.size + 1, 2, none⟩ = some (.bool g4) ∧ W.cell? ⟨w.heap.size + 1, 3, none⟩ = some (.string s4)) (first | (with_reducible exact KB.flat) | (with_reducible exact Dw.flat4 KB _ _ _ _) | exact KB.flat | exact Dw.flat4 KB _ _ _ _)
    (first
      | (go_at_call 32; (refine (rneg02_any _ q n L _ H2.out (by omega) Hn.out).mono ?_); rintro e X ⟨rfl, bX⟩; (try unfold ratV); have KB := KB.keep bX; obtain ⟨-, -, ⟨⟨r1, r2, r3, r4⟩, r5, r6, r7, r8⟩, -⟩ := id KB)
      | (go_at_call 62; (refine (radd02_any _ _ p n r _ _ A1.out An.out (by omega) Hr.out).mono ?_); rintro e X ⟨rfl, bX⟩; (try unfold ratV); have KB := KB.keep bX; obtain ⟨-, -, ⟨⟨r1, r2, r3, r4⟩, r5, r6, r7, r8⟩, -⟩ := id KB))
  all_goals
    go_wp2_with fail
    exact bodyPost_ret (v := ratV r) (by simp [results, Tryz.results58, go_sem, r1, r2, r3, r4, r5, r6, r7, r8, ratV]) rfl ⟨rfl, below4s KB.2.2.2.2.1 _ (by omega) _ _ _ _⟩
theorem fieldNum (a b : Bool) (s t : ByteArray) (w : World) : (Instr.field 25 (.agg #[.bool a, .string s, .bool b, .string t]) 0).run Tryz.prog w = .ok (.agg #[.bool a, .string s]) w := by kernel_rfl
attribute [local go_sem] fieldNum
theorem rat_pos_num {r : Rat} : 0 < r ↔ 0 < r.num := by
  have h := divInt_pos_iff (a := r.num) (b := (r.den : Int)) (by have := r.den_pos; omega)
  rw [Rat.num_divInt_den] at h
  exact h
theorem cmpQ_sub {p q r : Rat} (h : p - q = r) : cmpZ r.num 0 = cmpQ p q := by
  have h1 : q < p ↔ 0 < r.num := by rw [Rat.lt_iff_sub_pos, h]; exact rat_pos_num
  have h2 : p < q ↔ r.num < 0 := by
    have e : q - p = -r := by rw [← h]; grind
    rw [Rat.lt_iff_sub_pos, e, rat_pos_num]
    show 0 < -r.num ↔ _
    omega
  unfold cmpZ cmpQ
  by_cases a : p < q
  · rw [if_pos a, if_pos (h2.1 a)]
  · rw [if_neg a, if_neg (fun x => a (h2.2 x))]
    by_cases b : q < p
    · rw [if_pos b, if_pos (h1.1 b)]
    · rw [if_neg b, if_neg (fun x => b (h1.2 x))]
set_option maxRecDepth 100000 in
set_option maxHeartbeats 6400000 in
theorem rcmp02_any (v1 v2 : Value) (p q : Rat) (c : Int) (L : Nat) (w : World) (h1 : AR v1 p L) (h2 : AR v2 q L) (hL : L ≤ 900000) (hc : cmpQ p q = c) :
    Calls Tryz.prog 28 #[v1, v2] w fun e w' => e = .returned (.int .i64 c) ∧ Below w.heap.size w w' := by
  have H1 := Lib.hid h1
  have H2 := Lib.hid h2
  obtain ⟨r, Hr⟩ : ∃ r, Hid (p - q = r) := ⟨_, Lib.hid rfl⟩
  have Hc := Lib.hid (show cmpZ r.num 0 = c by rw [cmpQ_sub Hr.out]; exact hc)
  obtain ⟨M, Br⟩ : ∃ M, Hid (r.num.natAbs < 256 ^ M ∧ M ≤ 10000000) := ⟨(L + 1) + (L + 1) + 2, by
    have P := h1.bd
    have Q := h2.bd
    have e : Rat.divInt (p.num * (q.den : Int) + -q.num * (p.den : Int)) ((p.den : Int) * (q.den : Int)) = r := by
      refine rat_add8 (q := -q) ?_ rfl rfl rfl rfl
      rw [← Hr.out, Rat.sub_eq_add_neg]
    rw [← e]
    have a := add_b8 (mul_b8 P.1 (den_b8 Q) rfl) (mul_b8 (x := -q.num) (by rw [Int.natAbs_neg]; exact Q.1) (den_b8 P) rfl) rfl
    have b := wid_b8 (mul_b8 (den_b8 P) (den_b8 Q) rfl) (Nat.le_succ _)
    exact ⟨(rb8_divInt a b).1, by omega⟩⟩
  clear hc
  obtain ⟨g1, s1, g2, s2, _, _, rfl, -, -, -⟩ := h1
  obtain ⟨g3, s3, g4, s4, _, _, rfl, -, -, -⟩ := h2
  have X0 := (BR.new w 25 g1 g2 s1 s2).keep (below1 _ (.cells #[.bool g3, .string s3, .bool g4, .string s4] 25))
  have Y0 := BR.new (w.alloc (.cells #[.bool g1, .string s1, .bool g2, .string s2] 25)) 25 g3 g4 s3 s4
  rw [World.size_alloc] at Y0
  have B0 := below2 w (.cells #[.bool g1, .string s1, .bool g2, .string s2] 25) (.cells #[.bool g3, .string s3, .bool g4, .string s4] 25)
  go_enter Tryz.func28, Tryz.ntmps28
  go_upto_region 1 with fail
  generalize (w.alloc (.cells #[.bool g1, .string s1, .bool g2, .string s2] 25)).alloc (.cells #[.bool g3, .string s3, .bool g4, .string s4] 25) = W0 at *
  obtain ⟨⟨x1, x2, x3, x4⟩, -⟩ := X0
  obtain ⟨⟨y1, y2, y3, y4⟩, -⟩ := Y0
  go_wp2_with fail
  refine (rsub02_any _ _ p q r L _ H1.out H2.out hL Hr.out).mono ?_
  rintro e X1 ⟨rfl, b1⟩
  unfold ratV
  go_wp2_with fail
  refine (rsign_any (ai_mg Br.out.1) Br.out.2 Hc.out).mono ?_
  rintro e X2 ⟨rfl, b2⟩
  go_wp2_with fail
  go_ret
  exact ⟨rfl, below_more (below_more B0 (Nat.le_refl _) b1) (Nat.le_refl _) b2⟩
end Go.Proofs.YtcljkdninmldiaaGreatDoor
