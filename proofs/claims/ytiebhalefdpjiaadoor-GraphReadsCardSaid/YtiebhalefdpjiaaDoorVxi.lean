/- GraphReads returns true, whatever the graph, the numbers and the list. Condition: the edges and the list can be read. -/
import Derived.Test.YtiebhalefdpjiaaDoorVxh
import Derived.Test.YtiebhalefdpjiaaDoorVxe
import Derived.Test.YtiebhalefdpjiaaDoorVxf
import Derived.Test.YtiebhalefdpjiaaDoorVur
import Derived.Test.YtiebhalefdpjiaaDoorVr
import Derived.Deep.RegionHeld3
namespace Go.Proofs.YtiebhalefdpjiaaDoor
open Go.RowKit
set_option linter.unusedSimpArgs false
set_option linter.unusedVariables false

theorem sameG_selfI (L S : Int) (es : List E3) : sameG L S es L S es = true := decide_eq_true ⟨rfl, rfl, rfl⟩
theorem outR_len {La S s : Int} {es : List E3} : (outR La S es s).1.length ≤ es.length := by
  unfold outR
  split
  · split
    · rw [List.length_map]; exact lvF_len
    · exact Nat.zero_le _
  · exact Nat.zero_le _
theorem stepR_len {La S lab : Int} {es : List E3} {set : List Int} : (stepR La S es set lab).1.length ≤ 1000 := by
  unfold stepR
  split
  · rename_i h0
    split
    · split
      · have h1 := mems_len S.toNat (stepF es set lab)
        have h2 := (chkG_zero h0).s2
        show (mems S.toNat (stepF es set lab)).length ≤ 1000
        omega
      · exact Nat.zero_le _
    · exact Nat.zero_le _
  · exact Nat.zero_le _
theorem keepR_len {L S : Int} {es : List E3} {st : List Int} : (keepR L S es st).2.2.1.length ≤ es.length := by
  unfold keepR
  split
  · split
    · exact partE_len _ _
    · exact Nat.zero_le _
  · exact Nat.zero_le _
set_option maxRecDepth 100000 in
set_option maxHeartbeats 6400000 in
theorem greads_any (La S s lab : Int) (es : List E3) (v vs : Value) (set : List Int) (w : World) (hrd : EdgesRd w v es) (hn : es.length ≤ 9223372036854775807) (hst : IntsRd w vs set) (hl : set.length ≤ 9223372036854775807) :
    Calls Tryd.prog 4 #[grV La S v, .int .i64 s, .int .i64 lab, vs] w fun e w' => e = .returned (.bool true) ∧ Below w.heap.size w w' := by
  have B := Lib.hid (below1 w (.cells #[.int .i64 La, .int .i64 S, v] 24))
  have G := Lib.hid (BoxG.new w La S v 24)
  have HRD := Lib.hid hrd
  have HST := Lib.hid hst
  have HAW := Lib.hid (fun W => awake_any W)
  have HO1 := Lib.hid (fun W h => out_any La S s es v W h hn)
  have HO2 := Lib.hid (fun W h => rout_any La S s es v W h hn)
  have HT1 := Lib.hid (fun W h h' => step_any La S lab es v vs set W h hn h' hl)
  have HT2 := Lib.hid (fun W h h' => rstep_any La S lab es v vs set W h hn h' hl)
  have HD1 := Lib.hid (fun W h => deterministic_any La S es v W h hn)
  have HD2 := Lib.hid (fun W h => rdeterministic_any La S es v W h hn)
  have HK1 := Lib.hid (fun W h h' => keep_any La S es v vs set W h hn h' hl)
  have HK2 := Lib.hid (fun W h h' => rkeep_any La S es v vs set W h hn h' hl)
  have l1 := outR_len (La := La) (S := S) (s := s) (es := es)
  have l2 := stepR_len (La := La) (S := S) (lab := lab) (es := es) (set := set)
  have l3 := keepR_len (L := La) (S := S) (es := es) (st := set)
  obtain ⟨⟨ol, oe⟩, h1⟩ : ∃ r, outR La S es s = r := ⟨_, rfl⟩
  obtain ⟨⟨tl, te⟩, h2⟩ : ∃ r, stepR La S es set lab = r := ⟨_, rfl⟩
  obtain ⟨⟨db, de⟩, h3⟩ : ∃ r, detR La S es = r := ⟨_, rfl⟩
  obtain ⟨⟨xl, xs, xm, xe⟩, h4⟩ : ∃ r, keepR La S es set = r := ⟨_, rfl⟩
  simp only [h1] at HO1 HO2 l1
  simp only [h2] at HT1 HT2 l2
  simp only [h3] at HD1 HD2
  simp only [h4] at HK1 HK2 l3
  obtain ⟨a, c, rfl⟩ := hrd.form
  obtain ⟨ai, ci, rfl⟩ := hst.form
  have HGR := Lib.hid (fun W => great_any La S a es.length c W)
  clear hrd hst h1 h2 h3 h4
  cases hga : greatB S es.length with
  | true =>
    have HGA := Lib.hid hga
    clear hga
    go_enter Tryd.func4, Tryd.ntmps4
    go_wp2_with (first
      | (go_at_call 9; (with_reducible refine (HGR.out _).mono ?_); rintro e0 W1 ⟨rfl, b1⟩; (rw [HGA.out]); (have B1 := Lib.hid (below_more B.out (Nat.le_refl _) b1)); (clear b1))
      | (go_at_call 10; (with_reducible refine (HAW.out _).mono ?_); rintro e0 W12 ⟨rfl, b12⟩; (have B12 := Lib.hid (below_more B1.out (Nat.le_refl _) b12)); (clear b12)))
    go_ret
    exact ⟨rfl, B12.out⟩
  | false =>
    have HGA := Lib.hid hga
    have hle : es.length ≤ 30 := by
      have h := of_decide_eq_false (show decide (30 < es.length ∨ (10 < S ∧ S ≤ 64)) = false from hga)
      omega
    clear hga
    by_cases hs : 12 < set.length
    · have d1 : decide ((12 : Int) < (set.length : Int)) = true := decide_eq_true (by omega)
      have d2 : decide (12 < set.length) = true := decide_eq_true hs
      clear hs
      go_enter Tryd.func4, Tryd.ntmps4
      go_wp2_with (first
        | (go_at_call 9; (with_reducible refine (HGR.out _).mono ?_); rintro e0 W1 ⟨rfl, b1⟩; (rw [HGA.out]); (have B1 := Lib.hid (below_more B.out (Nat.le_refl _) b1)); (clear b1))
        | (go_at_call 10; (with_reducible refine (HAW.out _).mono ?_); rintro e0 W12 ⟨rfl, b12⟩; (have B12 := Lib.hid (below_more B1.out (Nat.le_refl _) b12)); (clear b12)))
      go_ret
      exact ⟨rfl, B12.out⟩
    · have d1 : decide ((12 : Int) < (set.length : Int)) = false := decide_eq_false (by omega)
      have d2 : decide (12 < set.length) = false := decide_eq_false hs
      have hl1 : ol.length ≤ 30 := Nat.le_trans l1 hle
      have hl2 : tl.length ≤ 1000 := l2
      have hl3 : xm.length ≤ 30 := Nat.le_trans l3 hle
      clear hs l1 l2 l3
      obtain ⟨g1, g2, g3⟩ := id G.out
      go_enter Tryd.func4, Tryd.ntmps4
      go_upto_region 11 with (first
        | (go_at_call 9; (with_reducible refine (HGR.out _).mono ?_); rintro e0 W1 ⟨rfl, b1⟩; (rw [HGA.out]); (have G := Lib.hid (G.out.keep b1)); (have B := Lib.hid (below_more B.out (Nat.le_refl _) b1)); (clear b1); (clear g1 g2 g3); (obtain ⟨g1, g2, g3⟩ := id G.out))
        | (go_at_call 17; (with_reducible refine (HO1.out _ (HRD.out.keep B.out)).mono ?_); rintro e0 W2 ⟨u2, rfl, i2, b2⟩; (dsimp only at i2); (obtain ⟨a2, c2, rfl⟩ := i2.slice); (have G := Lib.hid (G.out.keep b2)); (have B := Lib.hid (below_more B.out (Nat.le_refl _) b2)); (have I2 := Lib.hid (IntsAt.rd i2)); (clear b2 i2); (clear g1 g2 g3); (obtain ⟨g1, g2, g3⟩ := id G.out))
        | (go_at_call 18; (with_reducible refine (HO2.out _ (HRD.out.keep B.out)).mono ?_); rintro e0 W3 ⟨u3, rfl, i3, b3⟩; (dsimp only at i3); (obtain ⟨a3, c3, rfl⟩ := i3.slice); (have G := Lib.hid (G.out.keep b3)); (have I2 := Lib.hid (I2.out.keep b3)); (have B := Lib.hid (below_more B.out (Nat.le_refl _) b3)); (have I3 := Lib.hid (IntsAt.rd i3)); (clear b3 i3); (clear g1 g2 g3); (obtain ⟨g1, g2, g3⟩ := id G.out))
        | (go_at_call 19; (with_reducible refine (HT1.out _ (HRD.out.keep B.out) (HST.out.keep B.out)).mono ?_); rintro e0 W4 ⟨u4, rfl, i4, b4⟩; (dsimp only at i4); (obtain ⟨a4, c4, rfl⟩ := i4.slice); (have G := Lib.hid (G.out.keep b4)); (have I2 := Lib.hid (I2.out.keep b4)); (have I3 := Lib.hid (I3.out.keep b4)); (have B := Lib.hid (below_more B.out (Nat.le_refl _) b4)); (have I4 := Lib.hid (IntsAt.rd i4)); (clear b4 i4); (clear g1 g2 g3); (obtain ⟨g1, g2, g3⟩ := id G.out))
        | (go_at_call 20; (with_reducible refine (HT2.out _ (HRD.out.keep B.out) (HST.out.keep B.out)).mono ?_); rintro e0 W5 ⟨u5, rfl, i5, b5⟩; (dsimp only at i5); (obtain ⟨a5, c5, rfl⟩ := i5.slice); (have G := Lib.hid (G.out.keep b5)); (have I2 := Lib.hid (I2.out.keep b5)); (have I3 := Lib.hid (I3.out.keep b5)); (have I4 := Lib.hid (I4.out.keep b5)); (have B := Lib.hid (below_more B.out (Nat.le_refl _) b5)); (have I5 := Lib.hid (IntsAt.rd i5)); (clear b5 i5); (clear g1 g2 g3); (obtain ⟨g1, g2, g3⟩ := id G.out))
        | (go_at_call 21; (with_reducible refine (HD1.out _ (HRD.out.keep B.out)).mono ?_); rintro e0 W6 ⟨rfl, b6⟩;  (have G := Lib.hid (G.out.keep b6)); (have I2 := Lib.hid (I2.out.keep b6)); (have I3 := Lib.hid (I3.out.keep b6)); (have I4 := Lib.hid (I4.out.keep b6)); (have I5 := Lib.hid (I5.out.keep b6)); (have B := Lib.hid (below_more B.out (Nat.le_refl _) b6)); (clear b6); (clear g1 g2 g3); (obtain ⟨g1, g2, g3⟩ := id G.out))
        | (go_at_call 22; (with_reducible refine (HD2.out _ (HRD.out.keep B.out)).mono ?_); rintro e0 W7 ⟨rfl, b7⟩;  (have G := Lib.hid (G.out.keep b7)); (have I2 := Lib.hid (I2.out.keep b7)); (have I3 := Lib.hid (I3.out.keep b7)); (have I4 := Lib.hid (I4.out.keep b7)); (have I5 := Lib.hid (I5.out.keep b7)); (have B := Lib.hid (below_more B.out (Nat.le_refl _) b7)); (clear b7); (clear g1 g2 g3); (obtain ⟨g1, g2, g3⟩ := id G.out))
        | (go_at_call 23; (with_reducible refine (HK1.out _ (HRD.out.keep B.out) (HST.out.keep B.out)).mono ?_); rintro e0 W8 ⟨v8, rfl, e8, b8⟩; (dsimp only at e8); (obtain ⟨a8, c8, rfl⟩ := e8.slice); (have bm := below_more b8 (Nat.le_refl _) (below1 W8 (.cells #[.int .i64 xl, .int .i64 xs, .slice a8 xm.length c8] 24))); (have G := Lib.hid (G.out.keep bm)); (have I2 := Lib.hid (I2.out.keep bm)); (have I3 := Lib.hid (I3.out.keep bm)); (have I4 := Lib.hid (I4.out.keep bm)); (have I5 := Lib.hid (I5.out.keep bm)); (have B := Lib.hid (below_more B.out (Nat.le_refl _) bm)); (have X8 := Lib.hid (BoxG.new W8 xl xs (.slice a8 xm.length c8) 24)); (have E8 := Lib.hid (EdgesAt.rd (EdgesAt.keep e8 (below1 W8 (.cells #[.int .i64 xl, .int .i64 xs, .slice a8 xm.length c8] 24))))); (clear b8 bm e8); (clear g1 g2 g3); (obtain ⟨g1, g2, g3⟩ := id G.out))
        | (go_at_call 24; (with_reducible refine (HK2.out _ (HRD.out.keep B.out) (HST.out.keep B.out)).mono ?_); rintro e0 W9 ⟨v9, rfl, e9, b9⟩; (dsimp only at e9); (obtain ⟨a9, c9, rfl⟩ := e9.slice); (have bm := below_more b9 (Nat.le_refl _) (below1 W9 (.cells #[.int .i64 xl, .int .i64 xs, .slice a9 xm.length c9] 24))); (have G := Lib.hid (G.out.keep bm)); (have I2 := Lib.hid (I2.out.keep bm)); (have I3 := Lib.hid (I3.out.keep bm)); (have I4 := Lib.hid (I4.out.keep bm)); (have I5 := Lib.hid (I5.out.keep bm)); (have X8 := Lib.hid (X8.out.keep bm)); (have E8 := Lib.hid (E8.out.keep bm)); (have B := Lib.hid (below_more B.out (Nat.le_refl _) bm)); (have X9 := Lib.hid (BoxG.new W9 xl xs (.slice a9 xm.length c9) 24)); (have E9 := Lib.hid (EdgesAt.rd (EdgesAt.keep e9 (below1 W9 (.cells #[.int .i64 xl, .int .i64 xs, .slice a9 xm.length c9] 24))))); (clear b9 bm e9); (clear g1 g2 g3); (obtain ⟨g1, g2, g3⟩ := id G.out)))
      obtain ⟨p3, hp3⟩ : ∃ p, W8.heap.size = p := ⟨_, rfl⟩
      obtain ⟨p4, hp4⟩ : ∃ p, W9.heap.size = p := ⟨_, rfl⟩
      rw [hp3] at X8 ⊢
      rw [hp4] at X9 ⊢
      obtain ⟨Z9, hZ9⟩ : ∃ Z9, W9.alloc (.cells #[.int .i64 xl, .int .i64 xs, .slice a9 xm.length c9] 24) = Z9 := ⟨_, rfl⟩
      rw [hZ9] at X8 X9 E8 E9 I2 I3 I4 I5 B ⊢
      clear hZ9 hp3 hp4 g1 g2 g3 G
      have hmx : Tryd.prog.follows .mixedOrders = true := by kernel_rfl
      have dO : decide (ol = ol) = true := decide_eq_true rfl
      have dT : decide (tl = tl) = true := decide_eq_true rfl
      have HQ1 := Lib.hid (fun W (b : Below Z9.heap.size Z9 W) => dO ▸ intsEq_any (I2.out.keep b) (I3.out.keep b) (by omega) (by omega))
      have HQ2 := Lib.hid (fun W (b : Below Z9.heap.size Z9 W) => dT ▸ intsEq_any (I4.out.keep b) (I5.out.keep b) (by omega) (by omega))
      have HS3 := Lib.hid (fun W (b : Below Z9.heap.size Z9 W) => (sameG_selfI xl xs xm) ▸ rsame_any xl xs xl xs xm xm (.slice a8 xm.length c8) (.slice a9 xm.length c9) W (E8.out.keep b) (E9.out.keep b) (by omega) (by omega))
      have KX := Lib.hid (fun W (b : Below Z9.heap.size Z9 W) => show W.cell? ⟨p3, 0, none⟩ = some (.int .i64 xl) ∧ W.cell? ⟨p3, 1, none⟩ = some (.int .i64 xs) ∧ W.cell? ⟨p3, 2, none⟩ = some (.slice a8 xm.length c8) ∧
          W.cell? ⟨p4, 0, none⟩ = some (.int .i64 xl) ∧ W.cell? ⟨p4, 1, none⟩ = some (.int .i64 xs) ∧ W.cell? ⟨p4, 2, none⟩ = some (.slice a9 xm.length c9) from by
        obtain ⟨g7, g8, g9⟩ := X8.out.keep b
        obtain ⟨g10, g11, g12⟩ := X9.out.keep b
        exact ⟨g7, g8, g9, g10, g11, g12⟩)
      have B9 := Lib.hid (Below.refl Z9.heap.size Z9)
      simp only [grV] at HS3
      clear HO1 HO2 HT1 HT2 HD1 HD2 HK1 HK2 HGR hle hl1 hl2 hl3 dO dT hmx
      go_wp2_with (first
        | (go_at_call 25; (with_reducible refine (HQ1.out _ B9.out).mono ?_); rintro e Z1 ⟨rfl, bz⟩; (have B9 := Lib.hid (below_more B9.out (Nat.le_refl _) bz)); (clear bz))
        | (go_at_call 25; (with_reducible refine (HQ2.out _ B9.out).mono ?_); rintro e Z2 ⟨rfl, bz⟩; (have B9 := Lib.hid (below_more B9.out (Nat.le_refl _) bz)); (clear bz); (obtain ⟨g7, g8, g9, g10, g11, g12⟩ := KX.out _ B9.out))
        | (go_at_call 16; (with_reducible refine (HS3.out _ B9.out).mono ?_); rintro e Z5 ⟨rfl, bz⟩; (have B9 := Lib.hid (below_more B9.out (Nat.le_refl _) bz)); (clear bz))
        | (go_at_call 10; (with_reducible refine (HAW.out _).mono ?_); rintro e Z6 ⟨rfl, bz⟩; (have B9 := Lib.hid (below_more B9.out (Nat.le_refl _) bz)); (clear bz)))
      go_ret
      exact ⟨rfl, below_more B.out (Nat.le_refl _) B9.out⟩
end Go.Proofs.YtiebhalefdpjiaaDoor
