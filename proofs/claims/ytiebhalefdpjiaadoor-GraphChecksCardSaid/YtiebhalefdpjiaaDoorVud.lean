/- GraphChecks returns true, whatever the graphs. Condition: the edges can be read. -/
import Derived.Test.YtiebhalefdpjiaaDoorVuc
import Derived.Test.YtiebhalefdpjiaaDoorVr
import Derived.Deep.RegionHeld3
namespace Go.Proofs.YtiebhalefdpjiaaDoor
open Go.RowKit Go.Shelf
set_option linter.unusedSimpArgs false
set_option linter.unusedVariables false

theorem makeR_lenU {L S : Int} {es : List E3} : (makeR L S es).2.2.1.length ≤ es.length := by
  unfold makeR
  split
  · exact mkE_len es
  · exact Nat.zero_le _
theorem sameG_self (L S : Int) (es : List E3) : sameG L S es L S es = true := decide_eq_true ⟨rfl, rfl, rfl⟩
set_option maxRecDepth 100000 in
set_option maxHeartbeats 6400000 in
theorem gchecks_any (L S L' S' : Int) (es fs : List E3) (v1 v2 : Value) (w : World) (hrd1 : EdgesRd w v1 es) (hrd2 : EdgesRd w v2 fs) (hn : es.length ≤ 9223372036854775807) (hm : fs.length ≤ 9223372036854775807) :
    Calls Tryd.prog 3 #[grV L S v1, grV L' S' v2] w fun e w' => e = .returned (.bool true) ∧ Below w.heap.size w w' := by
  have b0 := below_more (below1 w (.cells #[.int .i64 L, .int .i64 S, v1] 24)) (Nat.le_refl _) (below1 _ (.cells #[.int .i64 L', .int .i64 S', v2] 24))
  have HA := Lib.hid (hrd1.keep b0)
  have HB := Lib.hid (hrd2.keep b0)
  have B0 := Lib.hid b0
  have G1 := Lib.hid ((BoxG.new w L S v1 24).keep (below1 _ (.cells #[.int .i64 L', .int .i64 S', v2] 24)))
  have G2 := Lib.hid (BoxG.new (w.alloc (.cells #[.int .i64 L, .int .i64 S, v1] 24)) L' S' v2 24)
  obtain ⟨a1, c1, rfl⟩ := hrd1.form
  obtain ⟨a2, c2, rfl⟩ := hrd2.form
  have HG1 := Lib.hid (fun W => great_any L S a1 es.length c1 W)
  have HG2 := Lib.hid (fun W => great_any L' S' a2 fs.length c2 W)
  have HAW := Lib.hid (fun W => awake_any W)
  clear hrd1 hrd2 b0
  obtain ⟨W0, hW0⟩ : ∃ W0, (w.alloc (.cells #[.int .i64 L, .int .i64 S, .slice a1 es.length c1] 24)).alloc (.cells #[.int .i64 L', .int .i64 S', .slice a2 fs.length c2] 24) = W0 := ⟨_, rfl⟩
  rw [hW0] at HA HB G1 G2 B0
  rw [World.size_alloc] at G2
  have HW := Lib.hid hW0
  clear hW0
  obtain ⟨g1, g2, g3⟩ := id G1.out
  obtain ⟨g4, g5, g6⟩ := id G2.out
  cases hga : greatB S es.length with
  | true =>
    have HGA := Lib.hid hga
    clear hga
    go_enter Tryd.func3, Tryd.ntmps3
    go_upto_region 1 with fail
    rw [HW.out]
    clear HW
    go_wp2_with (first
      | (go_at_call 9; (with_reducible refine (HG1.out _).mono ?_); rintro e0 W1 ⟨rfl, b1⟩; (rw [HGA.out]); (have B1 := Lib.hid (below_more B0.out (by have := B0.out.size; omega) b1)); (clear b1))
      | (go_at_call 10; (with_reducible refine (HAW.out _).mono ?_); rintro e0 W12 ⟨rfl, b12⟩; (have B12 := Lib.hid (below_more B1.out (Nat.le_refl _) b12)); (clear b12)))
    go_ret
    exact ⟨rfl, B12.out⟩
  | false =>
    have HGA := Lib.hid hga
    have hle : es.length ≤ 30 := by
      have h := of_decide_eq_false (show decide (30 < es.length ∨ (10 < S ∧ S ≤ 64)) = false from hga)
      omega
    clear hga
    cases hgb : greatB S' fs.length with
    | true =>
      have HGB := Lib.hid hgb
      clear hgb
      go_enter Tryd.func3, Tryd.ntmps3
      go_upto_region 1 with fail
      rw [HW.out]
      clear HW
      go_wp2_with (first
        | (go_at_call 9; (with_reducible refine (HG1.out _).mono ?_); rintro e0 W1 ⟨rfl, b1⟩; (rw [HGA.out]); (have B1 := Lib.hid b1); (clear b1 g1 g2 g3 g4 g5 g6); (obtain ⟨g4, g5, g6⟩ := G2.out.keep B1.out))
        | (go_at_call 9; (with_reducible refine (HG2.out _).mono ?_); rintro e0 W2 ⟨rfl, b2⟩; (rw [HGB.out]); (have B2 := Lib.hid (below_more B1.out (Nat.le_refl _) b2)); (clear b2))
        | (go_at_call 10; (with_reducible refine (HAW.out _).mono ?_); rintro e0 W12 ⟨rfl, b12⟩; (have B12 := Lib.hid (below_more B2.out (Nat.le_refl _) b12)); (clear b12)))
      go_ret
      exact ⟨rfl, below_more B0.out (Nat.le_refl _) B12.out⟩
    | false =>
      have HGB := Lib.hid hgb
      have hlf : fs.length ≤ 30 := by
        have h := of_decide_eq_false (show decide (30 < fs.length ∨ (10 < S' ∧ S' ≤ 64)) = false from hgb)
        omega
      clear hgb
      have HMA := Lib.hid (fun W h => make_any L S fs (.slice a2 fs.length c2) W h (by omega))
      have HMR := Lib.hid (fun W h => rmake_any L S fs (.slice a2 fs.length c2) W h (by omega))
      have hml := makeR_lenU (L := L) (S := S) (es := fs)
      obtain ⟨⟨xl, xs, xm, xe⟩, hx⟩ : ∃ r, makeR L S fs = r := ⟨_, rfl⟩
      simp only [hx] at HMA HMR hml
      clear hx
      go_enter Tryd.func3, Tryd.ntmps3
      go_upto_region 1 with fail
      rw [HW.out]
      clear HW
      go_upto_region 5 with (first
        | (go_at_call 9; (with_reducible refine (HG1.out _).mono ?_); rintro e0 W1 ⟨rfl, b1⟩; (rw [HGA.out]); (have B1 := Lib.hid b1); (clear b1 g1 g2 g3 g4 g5 g6); (obtain ⟨g4, g5, g6⟩ := G2.out.keep B1.out))
        | (go_at_call 9; (with_reducible refine (HG2.out _).mono ?_); rintro e0 W2 ⟨rfl, b2⟩; (rw [HGB.out]); (have B2 := Lib.hid (below_more B1.out (Nat.le_refl _) b2)); (clear b2 g4 g5 g6); (obtain ⟨g1, g2, g3⟩ := G1.out.keep B2.out); (obtain ⟨g4, g5, g6⟩ := G2.out.keep B2.out))
        | (go_at_call 11; (with_reducible refine (HMA.out _ (HB.out.keep B2.out)).mono ?_); rintro e0 W3 ⟨v3, rfl, e3, b3⟩; (dsimp only at e3); (obtain ⟨a3, c3, rfl⟩ := e3.slice); (have bm := below1 W3 (.cells #[.int .i64 xl, .int .i64 xs, .slice a3 xm.length c3] 24)); (have B3 := Lib.hid (below_more (below_more B2.out (Nat.le_refl _) b3) (Nat.le_refl _) bm)); (have X3 := Lib.hid (BoxG.new W3 xl xs (.slice a3 xm.length c3) 24)); (have E3 := Lib.hid (EdgesAt.keep e3 bm)); (clear b3 e3 bm g1 g2 g3 g4 g5 g6); (obtain ⟨g1, g2, g3⟩ := G1.out.keep B3.out); (obtain ⟨g4, g5, g6⟩ := G2.out.keep B3.out))
        | (go_at_call 12; (with_reducible refine (HMR.out _ (HB.out.keep B3.out)).mono ?_); rintro e0 W4 ⟨v4, rfl, e4, b4⟩; (dsimp only at e4); (obtain ⟨a4, c4, rfl⟩ := e4.slice); (have bm := below1 W4 (.cells #[.int .i64 xl, .int .i64 xs, .slice a4 xm.length c4] 24)); (have B4 := Lib.hid (below_more (below_more B3.out (Nat.le_refl _) b4) (Nat.le_refl _) bm)); (have X4 := Lib.hid ((X3.out.keep b4).keep bm)); (have X5 := Lib.hid (BoxG.new W4 xl xs (.slice a4 xm.length c4) 24)); (have E4 := Lib.hid (EdgesAt.rd ((EdgesAt.keep E3.out b4).keep bm))); (have E5 := Lib.hid (EdgesAt.rd (EdgesAt.keep e4 bm))); (clear b4 e4 bm g1 g2 g3 g4 g5 g6)))
      obtain ⟨p3, hp3⟩ : ∃ p, W3.heap.size = p := ⟨_, rfl⟩
      obtain ⟨p4, hp4⟩ : ∃ p, W4.heap.size = p := ⟨_, rfl⟩
      rw [hp3] at X4 ⊢
      rw [hp4] at X5 ⊢
      obtain ⟨W9, hW9⟩ : ∃ W9, W4.alloc (.cells #[.int .i64 xl, .int .i64 xs, .slice a4 xm.length c4] 24) = W9 := ⟨_, rfl⟩
      rw [hW9] at X4 X5 E4 E5 B4 ⊢
      clear hW9 hp3 hp4
      have hmx : Tryd.prog.follows .mixedOrders = true := by kernel_rfl
      obtain ⟨z, hz⟩ : ∃ z, chkG L S es = z := ⟨_, rfl⟩
      have HC1 := Lib.hid (fun W (b : Below W9.heap.size W9 W) => hz ▸ gcheck_any L S es (.slice a1 es.length c1) W (HA.out.keep (below_more B4.out (Nat.le_refl _) b)) hn)
      have HC2 := Lib.hid (fun W (b : Below W9.heap.size W9 W) => hz ▸ rcheck_any L S es (.slice a1 es.length c1) W (HA.out.keep (below_more B4.out (Nat.le_refl _) b)) hn)
      obtain ⟨q, hq⟩ : ∃ q, sameG L S es L' S' fs = q := ⟨_, rfl⟩
      have HS1 := Lib.hid (fun W (b : Below W9.heap.size W9 W) => hq ▸ same_any L S L' S' es fs (.slice a1 es.length c1) (.slice a2 fs.length c2) W (HA.out.keep (below_more B4.out (Nat.le_refl _) b)) (HB.out.keep (below_more B4.out (Nat.le_refl _) b)) hn hm)
      have HS2 := Lib.hid (fun W (b : Below W9.heap.size W9 W) => hq ▸ rsame_any L S L' S' es fs (.slice a1 es.length c1) (.slice a2 fs.length c2) W (HA.out.keep (below_more B4.out (Nat.le_refl _) b)) (HB.out.keep (below_more B4.out (Nat.le_refl _) b)) (by omega) (by omega))
      have HS3 := Lib.hid (fun W (b : Below W9.heap.size W9 W) => (sameG_self xl xs xm) ▸ rsame_any xl xs xl xs xm xm (.slice a3 xm.length c3) (.slice a4 xm.length c4) W (E4.out.keep b) (E5.out.keep b) (by omega) (by omega))
      have KX := Lib.hid (fun W (b : Below W9.heap.size W9 W) => show W.cell? ⟨w.heap.size, 0, none⟩ = some (.int .i64 L) ∧ W.cell? ⟨w.heap.size, 1, none⟩ = some (.int .i64 S) ∧ W.cell? ⟨w.heap.size, 2, none⟩ = some (.slice a1 es.length c1) ∧
          W.cell? ⟨w.heap.size + 1, 0, none⟩ = some (.int .i64 L') ∧ W.cell? ⟨w.heap.size + 1, 1, none⟩ = some (.int .i64 S') ∧ W.cell? ⟨w.heap.size + 1, 2, none⟩ = some (.slice a2 fs.length c2) ∧
          W.cell? ⟨p3, 0, none⟩ = some (.int .i64 xl) ∧ W.cell? ⟨p3, 1, none⟩ = some (.int .i64 xs) ∧ W.cell? ⟨p3, 2, none⟩ = some (.slice a3 xm.length c3) ∧
          W.cell? ⟨p4, 0, none⟩ = some (.int .i64 xl) ∧ W.cell? ⟨p4, 1, none⟩ = some (.int .i64 xs) ∧ W.cell? ⟨p4, 2, none⟩ = some (.slice a4 xm.length c4) from by
        obtain ⟨g1, g2, g3⟩ := G1.out.keep (below_more B4.out (Nat.le_refl _) b)
        obtain ⟨g4, g5, g6⟩ := G2.out.keep (below_more B4.out (Nat.le_refl _) b)
        obtain ⟨g7, g8, g9⟩ := X4.out.keep b
        obtain ⟨g10, g11, g12⟩ := X5.out.keep b
        exact ⟨g1, g2, g3, g4, g5, g6, g7, g8, g9, g10, g11, g12⟩)
      have BF := Lib.hid (below_more B0.out (Nat.le_refl _) (show Below W0.heap.size W0 W9 from B4.out))
      have BB := (Below.refl W9.heap.size W9).drew
      simp only [grV] at HC1 HC2 HS1 HS2 HS3
      clear hz hq HMA HMR hle hlf hml X3 E3 B1 B2 B3 B4 B0
      go_region_held3 (fun W => W.cell? ⟨w.heap.size, 0, none⟩ = some (.int .i64 L) ∧ W.cell? ⟨w.heap.size, 1, none⟩ = some (.int .i64 S) ∧ W.cell? ⟨w.heap.size, 2, none⟩ = some (.slice a1 es.length c1) ∧
          W.cell? ⟨w.heap.size + 1, 0, none⟩ = some (.int .i64 L') ∧ W.cell? ⟨w.heap.size + 1, 1, none⟩ = some (.int .i64 S') ∧ W.cell? ⟨w.heap.size + 1, 2, none⟩ = some (.slice a2 fs.length c2) ∧
          W.cell? ⟨p3, 0, none⟩ = some (.int .i64 xl) ∧ W.cell? ⟨p3, 1, none⟩ = some (.int .i64 xs) ∧ W.cell? ⟨p3, 2, none⟩ = some (.slice a3 xm.length c3) ∧
          W.cell? ⟨p4, 0, none⟩ = some (.int .i64 xl) ∧ W.cell? ⟨p4, 1, none⟩ = some (.int .i64 xs) ∧ W.cell? ⟨p4, 2, none⟩ = some (.slice a4 xm.length c4)) (first | exact KX.out _ BB | exact KX.out _ (Below.refl _ _) | exact KX.out _ (by assumption) | go_keep)
        (first
          | (go_at_call 13; (with_reducible refine (HC1.out _ BB).mono ?_); rintro e Z1 ⟨rfl, bz⟩; (have BB := below_more BB (Nat.le_refl _) bz))
          | (go_at_call 14; (with_reducible refine (HC2.out _ BB).mono ?_); rintro e Z2 ⟨rfl, bz⟩; (have BB := below_more BB (Nat.le_refl _) bz))
          | (go_at_call 15; (with_reducible refine (HS1.out _ BB).mono ?_); rintro e Z3 ⟨rfl, bz⟩; (have BB := below_more BB (Nat.le_refl _) bz))
          | (go_at_call 16; (with_reducible refine (HS2.out _ BB).mono ?_); rintro e Z4 ⟨rfl, bz⟩; (have BB := below_more BB (Nat.le_refl _) bz))
          | (go_at_call 16; (with_reducible refine (HS3.out _ BB).mono ?_); rintro e Z5 ⟨rfl, bz⟩; (have BB := below_more BB (Nat.le_refl _) bz))
          | (go_at_call 10; (with_reducible refine (HAW.out _).mono ?_); rintro e Z6 ⟨rfl, bz⟩; (have BB := below_more BB (Nat.le_refl _) bz)))
      all_goals
        go_wp2
        go_ret
        exact ⟨rfl, below_more BF.out (Nat.le_refl _) BB⟩
end Go.Proofs.YtiebhalefdpjiaaDoor
