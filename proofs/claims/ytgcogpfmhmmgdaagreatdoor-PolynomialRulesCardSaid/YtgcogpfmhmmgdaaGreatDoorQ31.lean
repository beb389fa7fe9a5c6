/- What polynomial.At returns: the value of a polynomial. Condition: at most 65 coefficients behind which there are zeros alone, integers of at most 10^4 digits to the base 2^32. What polynomial.combine returns: sums and differences. Condition: at most 10^5 coefficients, of at most 10^6 digits to the base 2^32. What polynomial.terms yields: the exponents with coefficients that are not 0, the greatest one first. Condition: at most 10^6 coefficients. -/
import Derived.Test.YtgcogpfmhmmgdaaGreatDoorQ24
import Derived.Test.YtgcogpfmhmmgdaaGreatDoorQ30
import Derived.Test.YtgcogpfmhmmgdaaGreatDoorQ15
import Derived.Deep.RegionHeld3
import Derived.Test.YtgcogpfmhmmgdaaGreatDoorQ19
import Derived.Test.YtgcogpfmhmmgdaaGreatDoorQ20
import Derived.RangeFuncNested
import Derived.RangeFuncBound
import Derived.RangeFuncCalls
import Derived.RangeFuncLeaves
import Derived.RangeFuncOne
import Derived.Shelf.Abstract
import Derived.Shelf.RegionOpen
import Derived.WalkKit
import Derived.OwnWalkIn
import Derived.TacticsInMore
import Derived.LoopNIn
import Derived.LoopIn

namespace Go.Proofs.YtgcogpfmhmmgdaaGreatDoor
open Go.RowKit
set_option linter.unusedSimpArgs false
set_option linter.unusedVariables false

/-- What At has: the number's variable, the scale's, the result's. -/
def AW (w : World) (p6 p7 p8 : Nat) (X D s : Int) (W : World) : Prop := Below w.heap.size w W ∧ RIn W p6 (sg X) (mg X) (sg D) (mg D) ∧ Vr W p8 s ∧ ResRat W (w.heap.size + 1) ∧ w.heap.size + 1 < p6 ∧ p6 < p7 ∧ p7 < p8
theorem AW.keep {w W Z : World} {p6 p7 p8 : Nat} {X D s : Int} (h : AW w p6 p7 p8 X D s W) (hb : Below W.heap.size W Z) : AW w p6 p7 p8 X D s Z :=
  ⟨below_more h.1 (Nat.le_refl _) hb, h.2.1.keep hb, h.2.2.1.keep hb, h.2.2.2.1.keep hb, h.2.2.2.2⟩
theorem AW.drew {w W : World} {p6 p7 p8 : Nat} {X D s : Int} (h : AW w p6 p7 p8 X D s W) : AW w p6 p7 p8 X D s W.drew := h.keep (Below.refl _ _).drew
theorem AW.farN {w W : World} {p6 p7 p8 : Nat} {X D s y : Int} (h : AW w p6 p7 p8 X D s W) : AW w p6 p7 p8 X D s (stI W p7 y) := by
  obtain ⟨h1, h2, h3, h4, h5, h6, h7⟩ := h
  exact ⟨h1.trans (stI_below (by omega)), (h2.set _ (by dsimp only; omega) _).set _ (by dsimp only; omega) _, h3.far (by omega), h4.far (by omega), h5, h6, h7⟩
theorem AW.setS {w W : World} {p6 p7 p8 : Nat} {X D s y : Int} (h : AW w p6 p7 p8 X D s W) : AW w p6 p7 p8 X D y (stI W p8 y) := by
  obtain ⟨h1, h2, h3, h4, h5, h6, h7⟩ := h
  exact ⟨h1.trans (stI_below (by omega)), (h2.set _ (by dsimp only; omega) _).set _ (by dsimp only; omega) _, h3.set, h4.far (by omega), h5, h6, h7⟩
theorem at_pow {k j : Nat} (h : j ≤ 65) : j * (4294967296 ^ k) ^ j < 4294967296 ^ (65 * k + 1) := by
  rw [← Nat.pow_mul, Nat.pow_succ]
  have h1 : 4294967296 ^ (k * j) ≤ 4294967296 ^ (65 * k) := Nat.pow_le_pow_right (by omega) (by rw [Nat.mul_comm]; exact Nat.mul_le_mul_right k h)
  have h2 : 0 < 4294967296 ^ (65 * k) := Nat.pow_pos (by omega)
  exact Nat.lt_of_le_of_lt (Nat.mul_le_mul (Nat.le_trans h (show 65 ≤ 65 from Nat.le_refl _)) h1) (by rw [Nat.mul_comm]; exact Nat.mul_lt_mul_of_pos_left (by omega) h2)
theorem at_pow1 {k j : Nat} (h : j ≤ 65) : (4294967296 ^ k) ^ j < 4294967296 ^ (65 * k + 1) := by
  rw [← Nat.pow_mul]
  exact Nat.pow_lt_pow_right (by omega) (by have := Nat.mul_le_mul_left k h; omega)
theorem mg_zeroP : mg 0 = ⟨#[]⟩ := by unfold mg; rw [show (0 : Int).natAbs = 0 by rfl, bytesOf_zero]
theorem four_far {W : World} {b p7 p6 : Nat} {x1 x2 x3 x4 : Value} (h : W.cell? ⟨p7, 0, none⟩ = some x1 ∧ W.cell? ⟨p7, 1, none⟩ = some x2 ∧ W.cell? ⟨p6, 2, none⟩ = some x3 ∧ W.cell? ⟨p6, 3, none⟩ = some x4) (h7 : b ≠ p7) (h6 : b ≠ p6) (u1 u2 u3 u4 : Value) :
    ((((W.setCell ⟨b, 0, none⟩ u1).setCell ⟨b, 1, none⟩ u2).setCell ⟨b, 2, none⟩ u3).setCell ⟨b, 3, none⟩ u4).cell? ⟨p7, 0, none⟩ = some x1 ∧ ((((W.setCell ⟨b, 0, none⟩ u1).setCell ⟨b, 1, none⟩ u2).setCell ⟨b, 2, none⟩ u3).setCell ⟨b, 3, none⟩ u4).cell? ⟨p7, 1, none⟩ = some x2 ∧ ((((W.setCell ⟨b, 0, none⟩ u1).setCell ⟨b, 1, none⟩ u2).setCell ⟨b, 2, none⟩ u3).setCell ⟨b, 3, none⟩ u4).cell? ⟨p6, 2, none⟩ = some x3 ∧ ((((W.setCell ⟨b, 0, none⟩ u1).setCell ⟨b, 1, none⟩ u2).setCell ⟨b, 2, none⟩ u3).setCell ⟨b, 3, none⟩ u4).cell? ⟨p6, 3, none⟩ = some x4 := by
  obtain ⟨a1, a2, a3, a4⟩ := h
  refine ⟨?_, ?_, ?_, ?_⟩ <;> (rw [World.cell?_setCell_far _ _ _ _ (by dsimp only; assumption), World.cell?_setCell_far _ _ _ _ (by dsimp only; assumption), World.cell?_setCell_far _ _ _ _ (by dsimp only; assumption), World.cell?_setCell_far _ _ _ _ (by dsimp only; assumption)]; assumption)
theorem bd_mulP {a b : Int} {k m : Nat} (h1 : a.natAbs < 4294967296 ^ k) (h2 : b.natAbs < 4294967296 ^ m) : (a * b).natAbs < 4294967296 ^ (k + m) := by
  rw [Int.natAbs_mul, Nat.pow_add]
  exact Nat.mul_lt_mul'' h1 h2
theorem hzR_len0 (L : List Int) (X D : Int) : (hzR L X D 0) = (0, 1) := rfl
set_option maxRecDepth 100000 in
set_option maxHeartbeats 12800000 in
theorem at_any (v vr : Value) (PL : List Int) (q : Rat) (k : Nat) (w : World) (h : PolyAt w v PL k) (hr : IsRat vr q k) (hq : RatBd q k) (hL : PL.length ≤ 1000) (hdeg : (trm PL).length ≤ 65) (hk1 : 1 ≤ k) (hk : k ≤ 10000) :
    Calls Tryz.prog 23 #[v, vr] w fun e w' => e = .returned (.tuple #[ratV (evL q PL), .int .i64 0]) ∧ Below w.heap.size w w' := by
  have H := Lib.hid h
  have HR := Lib.hid hr
  have HQB := Lib.hid hq
  have HPB := Lib.hid h.pb
  obtain ⟨n, hn⟩ : ∃ n, (trm PL).length = n := ⟨_, rfl⟩
  have HN := Lib.hid hn
  have hdz : degZ PL = (n : Int) - 1 := by unfold degZ; rw [hn]
  have HLg := Lib.hid (show decide (64 < degZ PL) = false from decide_eq_false (by omega))
  have HDZ := Lib.hid hdz
  have hnl : n ≤ PL.length := by have := trm_len PL; omega
  rw [hn] at hdeg
  obtain ⟨A, c, g, s, rfl, hcap, hcell⟩ := h
  have HC := Lib.hid hcell
  obtain ⟨na, sa, nb, sb, -, -, rfl, -⟩ := hr
  clear hcell hcap hq hn hdz
  have P0 := ResRat.new (w.alloc (.cells #[.bool na, .string sa, .bool nb, .string sb] 33))
  rw [World.size_alloc] at P0
  have B0 := below2 w (.cells #[.bool na, .string sa, .bool nb, .string sb] 33) (.cells #[.bool false, .string ⟨#[]⟩, .bool false, .string ⟨#[]⟩] 33)
  have R0 := (RIn.new (W := w) (t := 33) (g1 := na) (s1 := sa) (g2 := nb) (s2 := sb) rfl).keep (below1 _ (.cells #[.bool false, .string ⟨#[]⟩, .bool false, .string ⟨#[]⟩] 33))
  go_enter Tryz.func23, Tryz.ntmps23
  go_wp2_with fail
  refine (large_any _ PL k _ (H.out.keep B0) (by omega)).mono ?_
  rw [HLg.out]
  rintro e W1 ⟨rfl, b1⟩
  have B1 := below_more B0 (Nat.le_refl _) b1
  have P1 := P0.keep b1
  obtain ⟨t1, t2, t3, t4⟩ := R0.keep b1
  clear B0 P0 R0 b1
  go_wp2_with fail
  refine (radd_any _ _ q 0 q k _ HR.out ⟨false, ⟨#[]⟩, false, ⟨#[]⟩, 0, 0, rfl, zero_at (by omega), zero_at (by omega), by simp⟩ (by omega) (Rat.add_zero q)).mono ?_
  rintro e W2 ⟨rfl, b2⟩
  have B2 := below_more B1 (Nat.le_refl _) b2
  have P2 := P1.keep b2
  clear B1 P1 b2 t1 t2 t3 t4
  unfold ratV
  go_upto_region 4 with fail
  obtain ⟨X, hX⟩ : ∃ X, q.num = X := ⟨_, rfl⟩
  obtain ⟨D, hD⟩ : ∃ D, (q.den : Int) = D := ⟨_, rfl⟩
  rw [hX, hD]
  have R3 := RIn.new (W := W2) (t := 33) (g1 := sg X) (s1 := mg X) (g2 := sg D) (s2 := mg D) rfl
  have b3 := below1 W2 (.cells #[.bool (sg X), .string (mg X), .bool (sg D), .string (mg D)] 33)
  have B3 := below_more B2 (Nat.le_refl _) b3
  have P3 := P2.keep b3
  have p2l := P2.lt
  obtain ⟨W3, hW3⟩ : ∃ W3, W2.alloc (.cells #[.bool (sg X), .string (mg X), .bool (sg D), .string (mg D)] 33) = W3 := ⟨_, rfl⟩
  rw [hW3] at R3 B3 P3 ⊢
  obtain ⟨p6, hp6⟩ : ∃ p6, W2.heap.size = p6 := ⟨_, rfl⟩
  rw [hp6] at R3 p2l ⊢
  clear hW3 hp6 b3 B2 P2
  have HXD := Lib.hid (And.intro hX hD)
  clear hX hD
  go_wp2_with fail
  refine (iof_any 1 _ (by omega) (by omega)).mono ?_
  rintro e W4 ⟨rfl, b4⟩
  have R4 := R3.keep b4
  have B4 := below_more B3 (Nat.le_refl _) b4
  have P4 := P3.keep b4
  have r4l := R4.lt
  clear R3 B3 P3 b4
  go_wp2_with fail
  have b5a := below2 W4 (.cells #[.bool false, .string ⟨#[]⟩] 27) (.cells #[.bool (sg 1), .string (mg 1)] 27)
  have V5a : Vr (W4.alloc (.cells #[.bool false, .string ⟨#[]⟩] 27)) W4.heap.size 0 := by
    have := Vr.new W4 0 27
    rwa [show sg 0 = false by decide, mg_zeroP] at this
  have V5 := V5a.keep (below1 _ (.cells #[.bool (sg 1), .string (mg 1)] 27))
  have S5 := Vr.new (W4.alloc (.cells #[.bool false, .string ⟨#[]⟩] 27)) 1 27
  rw [World.size_alloc] at S5
  have A5 : AW w p6 W4.heap.size (W4.heap.size + 1) X D 1 ((W4.alloc (.cells #[.bool false, .string ⟨#[]⟩] 27)).alloc (.cells #[.bool (sg 1), .string (mg 1)] 27)) :=
    ⟨below_more B4 (Nat.le_refl _) b5a, R4.keep b5a, S5, P4.keep b5a, by omega, r4l, by omega⟩
  clear V5a S5 b5a R4 B4 P4
  obtain ⟨W5, hW5⟩ : ∃ W5, (W4.alloc (.cells #[.bool false, .string ⟨#[]⟩] 27)).alloc (.cells #[.bool (sg 1), .string (mg 1)] 27) = W5 := ⟨_, rfl⟩
  rw [hW5] at V5 A5 ⊢
  obtain ⟨p7, hp7⟩ : ∃ p7, W4.heap.size = p7 := ⟨_, rfl⟩
  rw [hp7] at V5 A5 ⊢
  clear hW5 hp7 r4l p2l
  have HDg := Lib.hid (fun W (b : Below w.heap.size w W) => deg_any _ PL k W (H.out.keep b) (by omega))
  simp only [HDZ.out] at HDg
  refine (HDg.out _ A5.1).mono ?_
  rintro e W6 ⟨rfl, b6⟩
  have V6 := V5.keep b6
  have A6 := A5.keep b6
  clear V5 A5 b6
  go_wp2_with fail
  obtain ⟨p8, hp8⟩ : ∃ p8, p7 + 1 = p8 := ⟨_, rfl⟩
  rw [hp8] at A6 ⊢
  clear hp8
  have IX := Lib.hid (show IsInt (.agg #[.bool (sg X), .string (mg X)]) X (65 * k + 1) from isInt_mg (by rw [← HXD.out.1]; exact Nat.lt_of_lt_of_le HQB.out.1 (Nat.pow_le_pow_right (by omega) (by omega))) (by omega))
  have ID := Lib.hid (show IsInt (.agg #[.bool (sg D), .string (mg D)]) D (65 * k + 1) from isInt_mg (by rw [← HXD.out.2, Int.natAbs_natCast]; exact Nat.lt_of_lt_of_le HQB.out.2 (Nat.pow_le_pow_right (by omega) (by omega))) (by omega))
  have HBd := Lib.hid (hzR_bd (trm PL) X D (4294967296 ^ k) (by rw [← HXD.out.1]; exact Nat.le_of_lt HQB.out.1) (by rw [← HXD.out.2, Int.natAbs_natCast]; exact Nat.le_of_lt HQB.out.2) (fun i => by rw [co_trm]; exact Nat.le_of_lt (HPB.out i)))
  have HI1 := Lib.hid (fun j (hj : j ≤ 65) => show IsInt (.agg #[.bool (sg (hzR (trm PL) X D j).1), .string (mg (hzR (trm PL) X D j).1)]) (hzR (trm PL) X D j).1 (65 * k + 1) from isInt_mg (Nat.lt_of_le_of_lt (HBd.out j).1 (at_pow hj)) (by omega))
  have HI2 := Lib.hid (fun j (hj : j ≤ 65) => show IsInt (.agg #[.bool (sg (hzR (trm PL) X D j).2), .string (mg (hzR (trm PL) X D j).2)]) (hzR (trm PL) X D j).2 (65 * k + 1) from isInt_mg (Nat.lt_of_le_of_lt (HBd.out j).2 (at_pow1 hj)) (by omega))
  have HI3 := Lib.hid (fun j (hj : j ≤ 65) => (Nat.lt_of_le_of_lt (HBd.out j).1 (at_pow (k := k) hj)))
  go_loopg [9] n (fun r s9 wx => ∃ j : Nat, j + r = n ∧ s9 = .int .i64 ((r : Int) - 1) ∧ AW w p6 p7 p8 X D (hzR (trm PL) X D j).2 wx ∧ Vr wx p7 (hzR (trm PL) X D j).1)
  case atStart => exact ⟨0, by omega, rfl, A6, V6⟩
  case round =>
    clear A6 V6
    obtain ⟨j, hjr, rfl, A, V⟩ := hrel
    rcases gk with _ | r
    · obtain rfl : j = n := by omega
      have hdp := q.den_pos
      have hQ : Rat.divInt (hzR (trm PL) X D j).1 ((q.den ^ (j - 1) : Nat) : Int) = evL q PL := by
        have := hzR_end (trm PL) X q.den hdp
        rw [HN.out, show Rat.divInt X (q.den : Int) = q by rw [← HXD.out.1]; exact Rat.num_divInt_den q, evL_trm, HXD.out.2] at this
        exact this
      have HLo := Lib.hid (fun W => plow_any (hzR (trm PL) X D j).1 q.den ((j : Int) - 1) (j - 1) (65 * k + 1) W hdp (by omega) (HI3.out j hdeg) (Nat.lt_of_lt_of_le HQB.out.2 (Nat.pow_le_pow_right (by omega) (by omega)))
        (Nat.lt_of_le_of_lt (Nat.pow_le_pow_left (Nat.le_of_lt HQB.out.2) _) (at_pow1 (by omega))) (by omega) (by omega))
      rw [hQ, HXD.out.2] at HLo
      obtain ⟨E, hE⟩ : ∃ E, evL q PL = E := ⟨_, rfl⟩
      obtain ⟨a0, ha0⟩ : ∃ a, (hzR (trm PL) X D j).1 = a := ⟨_, rfl⟩
      obtain ⟨s0, hs0⟩ : ∃ a, (hzR (trm PL) X D j).2 = a := ⟨_, rfl⟩
      rw [hs0] at A
      rw [ha0] at V
      rw [hE, ha0] at HLo
      have HEv := Lib.hid hE
      have AD := A.drew
      have KX := Lib.hid (fun W (b : Below wr.drew.heap.size wr.drew W) => show W.cell? ⟨p7, 0, none⟩ = some (.bool (sg a0)) ∧ W.cell? ⟨p7, 1, none⟩ = some (.string (mg a0)) ∧ W.cell? ⟨p6, 2, none⟩ = some (.bool (sg D)) ∧ W.cell? ⟨p6, 3, none⟩ = some (.string (mg D)) from
        ⟨cell_keep (Wp := wr.drew) V.1.1 b, cell_keep (Wp := wr.drew) V.1.2 b, cell_keep (Wp := wr.drew) A.2.1.2.2.1 b, cell_keep (Wp := wr.drew) A.2.1.2.2.2 b⟩)
      have KA := Lib.hid (fun W (b : Below wr.drew.heap.size wr.drew W) => AD.keep b)
      have hn7 : w.heap.size + 1 ≠ p7 := by have := A.2.2.2.2; omega
      have hn6 : w.heap.size + 1 ≠ p6 := by have := A.2.2.2.2; omega
      have hneg : ¬ (0 : Int) ≤ ((0 : Nat) : Int) - 1 := by omega
      clear hQ hE ha0 hs0 A V AD hdp
      go_upto_region 10 with fail
      go_region_held3 (fun W => W.cell? ⟨p7, 0, none⟩ = some (.bool (sg a0)) ∧ W.cell? ⟨p7, 1, none⟩ = some (.string (mg a0)) ∧ W.cell? ⟨p6, 2, none⟩ = some (.bool (sg D)) ∧ W.cell? ⟨p6, 3, none⟩ = some (.string (mg D))) (first | exact KX.out _ (Below.refl _ _) | exact KX.out _ (by assumption) | exact four_far (KX.out _ (by assumption)) hn7 hn6 _ _ _ _ | go_keep)
        (first
          | (go_at_call 10; refine (HDg.out _ (KA.out _ (Below.refl _ _)).1).mono ?_; rintro e Z1 ⟨rfl, bz1⟩; (have hz1 := bz1))
          | (go_at_call 58; (with_reducible refine (HLo.out _).mono ?_); rintro e Z2 ⟨rfl, bz2⟩; (unfold ratV); (have bz3 := below_more bz1 (Nat.le_refl _) bz2); (have A2 := KA.out _ bz3); (obtain ⟨⟨r1, r2, r3, r4⟩, r5, r6, r7, r8⟩ := A2.2.2.2.1)))
      all_goals
        go_wp2
        exact bodyPost_ret (v := .tuple #[ratV E, .int .i64 0]) (by simp [results, Tryz.results23, go_sem, r1, r2, r3, r4, ratV]) rfl ⟨by rw [HEv.out], below4s A2.1 _ (by omega) _ _ _ _⟩
    · obtain ⟨aa, rfl, c0, c1, hI⟩ := HC.out r (by omega)
      have hrl : (r : Int) < (PL.length : Int) := by omega
      have hr0 : (0 : Int) ≤ (r : Int) := by omega
      have hr1 : ((r + 1 : Nat) : Int) - 1 = (r : Int) := by omega
      rw [hr1]
      have hco : co (trm PL) ((trm PL).length - 1 - j) = co PL r := by rw [co_trm, HN.out, show n - 1 - j = r by omega]
      have Ia := HI1.out j (by omega)
      have Is := HI2.out j (by omega)
      have Ia' := HI1.out (j + 1) (by omega)
      have hst : hzR (trm PL) X D (j + 1) = ((hzR (trm PL) X D j).1 * X + co PL r * (hzR (trm PL) X D j).2, (hzR (trm PL) X D j).2 * D) := by rw [hzR, hco]
      obtain ⟨a0, ha0⟩ : ∃ a, (hzR (trm PL) X D j).1 = a := ⟨_, rfl⟩
      obtain ⟨s0, hs0⟩ : ∃ a, (hzR (trm PL) X D j).2 = a := ⟨_, rfl⟩
      rw [ha0] at Ia hst V
      rw [hs0] at Is hst A
      obtain ⟨z1, hz1⟩ : ∃ z, a0 * X = z := ⟨_, rfl⟩
      obtain ⟨z2, hz2⟩ : ∃ z, co PL r * s0 = z := ⟨_, rfl⟩
      obtain ⟨a1, ha1⟩ : ∃ z, z1 + z2 = z := ⟨_, rfl⟩
      obtain ⟨s1, hs1⟩ : ∃ z, s0 * D = z := ⟨_, rfl⟩
      rw [hz1, hz2, ha1, hs1] at hst
      have HST := Lib.hid hst
      have HM1 := Lib.hid (fun W => imul_eq (w := W) Ia IX.out hz1)
      have HM2 := Lib.hid (fun W => imul_eq (w := W) hI Is hz2)
      have d1 := bd_mulP (show a0.natAbs < 4294967296 ^ (65 * k + 1) from by obtain ⟨_, _, _, _, _, h1, h2⟩ := Ia; exact h1) (show X.natAbs < 4294967296 ^ (65 * k + 1) from by obtain ⟨_, _, _, _, _, h1, h2⟩ := IX.out; exact h1)
      have d2 := bd_mulP (HPB.out r) (show s0.natAbs < 4294967296 ^ (65 * k + 1) from by obtain ⟨_, _, _, _, _, h1, h2⟩ := Is; exact h1)
      rw [hz1] at d1
      rw [hz2] at d2
      have HA := Lib.hid (fun W => iadd_eq (w := W) (isInt_mg d1 (by omega)) (isInt_mg d2 (by omega)) ha1)
      have HM3 := Lib.hid (fun W => imul_eq (w := W) Is ID.out hs1)
      have HC0 := Lib.hid (fun W (b : Below w.heap.size w W) => cell_keep c0 b)
      have HC1 := Lib.hid (fun W (b : Below w.heap.size w W) => cell_keep c1 b)
      clear c0 c1 hI hco Ia Is Ia' hst ha0 hs0 hz1 hz2 ha1 hs1 d1 d2 hr1
      go_upto_region 8 with fail
      have KB := A.drew
      have IVN : VW p7 a0 a1 (Array.getD (Array.replicate 12 false) 0 false = false) (Array.getD (Array.replicate 12 false) 11 false = true) wr.drew := ⟨⟨a0, V.1, V.2⟩, fun _ => V.1, fun h => absurd h (by decide)⟩
      clear A V
      have hmx : Tryz.prog.follows .mixedOrders = true := by kernel_rfl
      refine region_inv' (J := (fun L act wx => ∃ u24 u25 u26 u27 u28 u29 u30 u31 u32 u33 u34, act = { tmps := #[.slice (some aa) PL.length c, .agg #[.bool na, .string sa, .bool nb, .string sb], undef, .pointer (some ⟨w.heap.size, 0, none⟩), .pointer (some ⟨w.heap.size + 1, 0, none⟩), .int .i64 0, .pointer (some ⟨p6, 0, none⟩), .pointer (some ⟨p7, 0, none⟩), .pointer (some ⟨p8, 0, none⟩), .int .i64 (r : Int), .slice (some aa) PL.length c, .bool false, undef, .agg #[.bool na, .string sa, .bool nb, .string sb], .agg #[.bool false, .string ⟨#[]⟩, .bool false, .string ⟨#[]⟩], .agg #[.bool (sg X), .string (mg X), .bool (sg D), .string (mg D)], .agg #[.bool false, .string ⟨#[]⟩], .agg #[.bool (sg 1), .string (mg 1)], .slice (some aa) PL.length c, .int .i64 ((n : Int) - 1), .int .i64 (r : Int), .bool true, u22, u23, u24, u25, u26, u27, u28, u29, u30, u31, u32, u33, u34, u35, u36, u37, u38, undef, undef, undef, undef, undef, undef], defers := [] } ∧ AW w p6 p7 p8 X D s0 wx ∧
      (L.getD 0 false = true → u24 = .agg #[.bool (sg a0), .string (mg a0)]) ∧ (L.getD 1 false = true → u25 = .pointer (some ⟨p6, 0, none⟩)) ∧ (L.getD 2 false = true → u26 = .agg #[.bool (sg X), .string (mg X)]) ∧ (L.getD 3 false = true → u27 = .agg #[.bool (sg z1), .string (mg z1)]) ∧ (L.getD 4 false = true → u28 = .slice (some aa) PL.length c) ∧ (L.getD 5 false = true → u29 = .int .i64 (r : Int)) ∧ (L.getD 6 false = true → u30 = .pointer (some (aa.add (r * 2)))) ∧ (L.getD 7 false = true → u31 = .agg #[.bool (g r), .string (s r)]) ∧ (L.getD 8 false = true → u32 = .agg #[.bool (sg s0), .string (mg s0)]) ∧ (L.getD 9 false = true → u33 = .agg #[.bool (sg z2), .string (mg z2)]) ∧ (L.getD 10 false = true → u34 = .agg #[.bool (sg a1), .string (mg a1)]) ∧ VW (p7) (a0) (a1) (L.getD 0 false = false) (L.getD 11 false = true) wx)) hmx (by kernel_rfl) ?_ ?_ ?_
      · exact ⟨_, _, _, _, _, _, _, _, _, _, _, rfl, KB, fun h => absurd h (by decide), fun h => absurd h (by decide), fun h => absurd h (by decide), fun h => absurd h (by decide), fun h => absurd h (by decide), fun h => absurd h (by decide), fun h => absurd h (by decide), fun h => absurd h (by decide), fun h => absurd h (by decide), fun h => absurd h (by decide), fun h => absurd h (by decide), IVN⟩
      · intro i hi L a wx hl hw ⟨u24, u25, u26, u27, u28, u29, u30, u31, u32, u33, u34, ha, lo, c0, c1, c2, c3, c4, c5, c6, c7, c8, c9, c10, VN⟩
        subst ha
        clear KB
        have hi' : i = 0 ∨ i = 1 ∨ i = 2 ∨ i = 3 ∨ i = 4 ∨ i = 5 ∨ i = 6 ∨ i = 7 ∨ i = 8 ∨ i = 9 ∨ i = 10 ∨ i = 11 := by
          have : i < 12 := hi
          omega
        rcases hi' with rfl | rfl | rfl | rfl | rfl | rfl | rfl | rfl | rfl | rfl | rfl | rfl
        · refine stepJ (i := 0) rfl (fun K hK => ?_)
          obtain ⟨x1, x2⟩ := VN.2.1 hl
          go_simp
          refine hK.out _ _ ⟨_, u25, u26, u27, u28, u29, u30, u31, u32, u33, u34, rfl, lo, fun _ => rfl, fun h => c1 (fl (by decide) h), fun h => c2 (fl (by decide) h), fun h => c3 (fl (by decide) h), fun h => c4 (fl (by decide) h), fun h => c5 (fl (by decide) h), fun h => c6 (fl (by decide) h), fun h => c7 (fl (by decide) h), fun h => c8 (fl (by decide) h), fun h => c9 (fl (by decide) h), fun h => c10 (fl (by decide) h), (VN.imp (fun _ => hl) (fl (by decide)))⟩
        · refine stepJ (i := 1) rfl (fun K hK => ?_)
          go_simp
          refine hK.out _ _ ⟨u24, _, u26, u27, u28, u29, u30, u31, u32, u33, u34, rfl, lo, fun h => c0 (fl (by decide) h), fun _ => rfl, fun h => c2 (fl (by decide) h), fun h => c3 (fl (by decide) h), fun h => c4 (fl (by decide) h), fun h => c5 (fl (by decide) h), fun h => c6 (fl (by decide) h), fun h => c7 (fl (by decide) h), fun h => c8 (fl (by decide) h), fun h => c9 (fl (by decide) h), fun h => c10 (fl (by decide) h), (VN.imp (flF (by decide)) (fl (by decide)))⟩
        · refine stepJ (i := 2) rfl (fun K hK => ?_)
          obtain rfl := c1 (hw 1 (by kernel_rfl))
          obtain ⟨x1, x2, -, -⟩ := lo.2.1
          go_simp
          refine hK.out _ _ ⟨u24, _, _, u27, u28, u29, u30, u31, u32, u33, u34, rfl, lo, fun h => c0 (fl (by decide) h), fun _ => rfl, fun _ => rfl, fun h => c3 (fl (by decide) h), fun h => c4 (fl (by decide) h), fun h => c5 (fl (by decide) h), fun h => c6 (fl (by decide) h), fun h => c7 (fl (by decide) h), fun h => c8 (fl (by decide) h), fun h => c9 (fl (by decide) h), fun h => c10 (fl (by decide) h), (VN.imp (flF (by decide)) (fl (by decide)))⟩
        · refine stepJ (i := 3) rfl (fun K hK => ?_)
          obtain rfl := c0 (hw 0 (by kernel_rfl))
          obtain rfl := c2 (hw 2 (by kernel_rfl))
          go_simp
          go_at_call 42
          refine (HM1.out _).mono ?_
          rintro e W2 ⟨rfl, b2⟩
          go_wp2_with fail
          refine hK.out _ _ ⟨_, u25, _, _, u28, u29, u30, u31, u32, u33, u34, rfl, lo.keep b2, fun _ => rfl, fun h => c1 (fl (by decide) h), fun _ => rfl, fun _ => rfl, fun h => c4 (fl (by decide) h), fun h => c5 (fl (by decide) h), fun h => c6 (fl (by decide) h), fun h => c7 (fl (by decide) h), fun h => c8 (fl (by decide) h), fun h => c9 (fl (by decide) h), fun h => c10 (fl (by decide) h), (VN.imp (flF (by decide)) (fl (by decide))).keep b2⟩
        · refine stepJ (i := 4) rfl (fun K hK => ?_)
          go_simp
          refine hK.out _ _ ⟨u24, u25, u26, u27, _, u29, u30, u31, u32, u33, u34, rfl, lo, fun h => c0 (fl (by decide) h), fun h => c1 (fl (by decide) h), fun h => c2 (fl (by decide) h), fun h => c3 (fl (by decide) h), fun _ => rfl, fun h => c5 (fl (by decide) h), fun h => c6 (fl (by decide) h), fun h => c7 (fl (by decide) h), fun h => c8 (fl (by decide) h), fun h => c9 (fl (by decide) h), fun h => c10 (fl (by decide) h), (VN.imp (flF (by decide)) (fl (by decide)))⟩
        · refine stepJ (i := 5) rfl (fun K hK => ?_)
          go_simp
          refine hK.out _ _ ⟨u24, u25, u26, u27, u28, _, u30, u31, u32, u33, u34, rfl, lo, fun h => c0 (fl (by decide) h), fun h => c1 (fl (by decide) h), fun h => c2 (fl (by decide) h), fun h => c3 (fl (by decide) h), fun h => c4 (fl (by decide) h), fun _ => rfl, fun h => c6 (fl (by decide) h), fun h => c7 (fl (by decide) h), fun h => c8 (fl (by decide) h), fun h => c9 (fl (by decide) h), fun h => c10 (fl (by decide) h), (VN.imp (flF (by decide)) (fl (by decide)))⟩
        · refine stepJ (i := 6) rfl (fun K hK => ?_)
          obtain rfl := c4 (hw 4 (by kernel_rfl))
          obtain rfl := c5 (hw 5 (by kernel_rfl))
          go_simp
          refine hK.out _ _ ⟨u24, u25, u26, u27, _, _, _, u31, u32, u33, u34, rfl, lo, fun h => c0 (fl (by decide) h), fun h => c1 (fl (by decide) h), fun h => c2 (fl (by decide) h), fun h => c3 (fl (by decide) h), fun _ => rfl, fun _ => rfl, fun _ => rfl, fun h => c7 (fl (by decide) h), fun h => c8 (fl (by decide) h), fun h => c9 (fl (by decide) h), fun h => c10 (fl (by decide) h), (VN.imp (flF (by decide)) (fl (by decide)))⟩
        · refine stepJ (i := 7) rfl (fun K hK => ?_)
          obtain rfl := c6 (hw 6 (by kernel_rfl))
          have x1 := HC0.out _ lo.1
          have x2 := HC1.out _ lo.1
          go_simp
          refine hK.out _ _ ⟨u24, u25, u26, u27, u28, u29, _, _, u32, u33, u34, rfl, lo, fun h => c0 (fl (by decide) h), fun h => c1 (fl (by decide) h), fun h => c2 (fl (by decide) h), fun h => c3 (fl (by decide) h), fun h => c4 (fl (by decide) h), fun h => c5 (fl (by decide) h), fun _ => rfl, fun _ => rfl, fun h => c8 (fl (by decide) h), fun h => c9 (fl (by decide) h), fun h => c10 (fl (by decide) h), (VN.imp (flF (by decide)) (fl (by decide)))⟩
        · refine stepJ (i := 8) rfl (fun K hK => ?_)
          obtain ⟨x1, x2⟩ := lo.2.2.1.1
          go_simp
          refine hK.out _ _ ⟨u24, u25, u26, u27, u28, u29, u30, u31, _, u33, u34, rfl, lo, fun h => c0 (fl (by decide) h), fun h => c1 (fl (by decide) h), fun h => c2 (fl (by decide) h), fun h => c3 (fl (by decide) h), fun h => c4 (fl (by decide) h), fun h => c5 (fl (by decide) h), fun h => c6 (fl (by decide) h), fun h => c7 (fl (by decide) h), fun _ => rfl, fun h => c9 (fl (by decide) h), fun h => c10 (fl (by decide) h), (VN.imp (flF (by decide)) (fl (by decide)))⟩
        · refine stepJ (i := 9) rfl (fun K hK => ?_)
          obtain rfl := c7 (hw 7 (by kernel_rfl))
          obtain rfl := c8 (hw 8 (by kernel_rfl))
          go_simp
          go_at_call 42
          refine (HM2.out _).mono ?_
          rintro e W2 ⟨rfl, b2⟩
          go_wp2_with fail
          refine hK.out _ _ ⟨u24, u25, u26, u27, u28, u29, u30, _, _, _, u34, rfl, lo.keep b2, fun h => c0 (fl (by decide) h), fun h => c1 (fl (by decide) h), fun h => c2 (fl (by decide) h), fun h => c3 (fl (by decide) h), fun h => c4 (fl (by decide) h), fun h => c5 (fl (by decide) h), fun h => c6 (fl (by decide) h), fun _ => rfl, fun _ => rfl, fun _ => rfl, fun h => c10 (fl (by decide) h), (VN.imp (flF (by decide)) (fl (by decide))).keep b2⟩
        · refine stepJ (i := 10) rfl (fun K hK => ?_)
          obtain rfl := c3 (hw 3 (by kernel_rfl))
          obtain rfl := c9 (hw 9 (by kernel_rfl))
          go_simp
          go_at_call 37
          refine (HA.out _).mono ?_
          rintro e W2 ⟨rfl, b2⟩
          go_wp2_with fail
          refine hK.out _ _ ⟨u24, u25, u26, _, u28, u29, u30, u31, u32, _, _, rfl, lo.keep b2, fun h => c0 (fl (by decide) h), fun h => c1 (fl (by decide) h), fun h => c2 (fl (by decide) h), fun _ => rfl, fun h => c4 (fl (by decide) h), fun h => c5 (fl (by decide) h), fun h => c6 (fl (by decide) h), fun h => c7 (fl (by decide) h), fun h => c8 (fl (by decide) h), fun _ => rfl, fun _ => rfl, (VN.imp (flF (by decide)) (fl (by decide))).keep b2⟩
        · refine stepJ (i := 11) rfl (fun K hK => ?_)
          obtain rfl := c10 (hw 10 (by kernel_rfl))
          obtain ⟨z9, ⟨y1, y2⟩, y3, y4⟩ := id VN.1
          go_simp
          refine hK.out _ _ ⟨u24, u25, u26, u27, u28, u29, u30, u31, u32, u33, _, rfl, lo.farN, fun h => c0 (fl (by decide) h), fun h => c1 (fl (by decide) h), fun h => c2 (fl (by decide) h), fun h => c3 (fl (by decide) h), fun h => c4 (fl (by decide) h), fun h => c5 (fl (by decide) h), fun h => c6 (fl (by decide) h), fun h => c7 (fl (by decide) h), fun h => c8 (fl (by decide) h), fun h => c9 (fl (by decide) h), fun _ => rfl, VN.put (fun h => absurd ((hw 0 (by kernel_rfl)).symm.trans (flF (by decide) h)) (by decide))⟩
      · rintro L a wx hall ⟨u24, u25, u26, u27, u28, u29, u30, u31, u32, u33, u34, rfl, lo, c0, c1, c2, c3, c4, c5, c6, c7, c8, c9, c10, VN⟩
        obtain rfl := c0 (hall 0 (by decide))
        obtain rfl := c1 (hall 1 (by decide))
        obtain rfl := c2 (hall 2 (by decide))
        obtain rfl := c3 (hall 3 (by decide))
        obtain rfl := c4 (hall 4 (by decide))
        obtain rfl := c5 (hall 5 (by decide))
        obtain rfl := c6 (hall 6 (by decide))
        obtain rfl := c7 (hall 7 (by decide))
        obtain rfl := c8 (hall 8 (by decide))
        obtain rfl := c9 (hall 9 (by decide))
        obtain rfl := c10 (hall 10 (by decide))
        have WVN := VN.2.2 (hall 11 (by decide))
        have XVN := VN.1
        clear hall c0 c1 c2 c3 c4 c5 c6 c7 c8 c9 c10
        have V7 : Vr wx p7 a1 := ⟨WVN, by obtain ⟨z', -, hf⟩ := XVN; exact hf⟩
        have A7 := lo
        clear lo KB IVN WVN XVN
        obtain ⟨y1, y2⟩ := A7.2.2.1.1
        obtain ⟨-, -, y3, y4⟩ := A7.2.1
        go_wp2_with fail
        refine (HM3.out _).mono ?_
        rintro e W8 ⟨rfl, b8⟩
        have A8 := A7.keep b8
        have V8 := V7.keep b8
        have hne : p8 ≠ p7 := by have := A8.2.2.2.2; omega
        clear A7 V7 b8 y1 y2 y3 y4
        obtain ⟨⟨y1, y2⟩, y3, y4⟩ := A8.2.2.1
        have A9 := A8.setS (y := s1)
        have V9 := V8.far (q := p8) (y := s1) hne
        unfold stI at A9 V9
        clear A8 V8
        go_wp2_with fail
        go_roundg r
        case measure => omega
        case rel => exact ⟨j + 1, by omega, by go_num, by rw [HST.out]; exact A9, by rw [HST.out]; exact V9⟩
end Go.Proofs.YtgcogpfmhmmgdaaGreatDoor

namespace Go.Proofs.YtgcogpfmhmmgdaaGreatDoor
open Go.RowKit
set_option linter.unusedSimpArgs false
set_option linter.unusedVariables false

theorem pb_nil : PB [] 1 := fun i => by rw [co_nil]; decide
theorem deg_nil : degZ [] = -1 := rfl
set_option maxRecDepth 100000 in
set_option maxHeartbeats 6400000 in
theorem comb_add (v1 v2 : Value) (L M C : List Int) (k kk : Nat) (w : World) (h1 : PolyAt w v1 L k) (h2 : PolyAt w v2 M k) (hL : L.length ≤ 100000) (hM : M.length ≤ 100000) (hk : k ≤ 1000000) (hC : trm C = C) (hco : ∀ i, co C i = co L i + co M i) (hb : PB C kk) (hkk : kk ≤ 10000000) :
    Calls Tryz.prog 36 #[v1, v2, .func (.func 37) #[] #[]] w (PolyOut w C) := by
  have H1 := Lib.hid h1
  have H2 := Lib.hid h2
  have HC := Lib.hid hC
  have HO := Lib.hid hco
  have HB := Lib.hid hb
  obtain ⟨n, hn⟩ : ∃ n, n = max (trm L).length (trm M).length := ⟨_, rfl⟩
  have tl := trm_len L
  have tm := trm_len M
  have hn1 : n ≤ 100000 := by omega
  have HZ := Lib.hid (show ∀ i, n ≤ i → co C i = 0 by
    intro i hi
    rw [hco i, trm_above L (by omega), trm_above M (by omega)]
    rfl)
  have HX := Lib.hid (show max (degZ L) (degZ M) = (n : Int) - 1 by unfold degZ; omega)
  obtain ⟨A1, c1, g1, s1, rfl, -, -⟩ := h1
  obtain ⟨A2, c2, g2, s2, rfl, -, -⟩ := h2
  clear hC hco hb hn tl tm
  go_enter Tryz.func36, Tryz.ntmps36
  go_wp2_with fail
  refine (deg_any _ L k _ H1.out (by omega)).mono ?_
  rintro e W1 ⟨rfl, b1⟩
  go_wp2_with fail
  refine (deg_any _ M k _ (H2.out.keep b1) (by omega)).mono ?_
  rintro e W2 ⟨rfl, b2⟩
  have b := below_more b1 (Nat.le_refl _) b2
  clear b1 b2
  go_wp2_with fail
  rw [HX.out]
  refine (blank_any _ n _ (by omega) (by omega) (by omega)).mono ?_
  rintro e W3 (⟨h0, rfl, rfl⟩ | ⟨h0, rfl, rfl⟩)
  · have HN := Lib.hid (show C = [] by
      rw [← HC.out, trm_nil_iff]
      intro i
      exact HZ.out i (by omega))
    clear h0 HZ HO HB HC HX
    go_wp2_with fail
    go_loopg [18] 0 (fun q s18 wx => s18 = .int .i64 0 ∧ wx = W3)
    case atStart => exact ⟨rfl, rfl⟩
    case round =>
      obtain ⟨rfl, hwx⟩ := hrel
      subst hwx
      go_wp2_with fail
      refine (deg_any _ [] 1 _ (PolyC.at (base := 0) (.inl ⟨rfl, rfl⟩) (by omega) pb_nil) (by simp)).mono ?_
      rintro e W4 ⟨rfl, b4⟩
      have b5 := below_more b (Nat.le_refl _) b4
      rw [deg_nil]
      go_wp2
      go_ret
      exact ⟨_, rfl, .inl ⟨rfl, HN.out⟩, b5⟩
  · have P := PRow.made W2 n
    have b3 := below_more b (Nat.le_refl _) (below1 W2 (.cells (madeCells #[.bool false, .string ⟨#[]⟩] (n * 2)) 27))
    have hbase : w.heap.size ≤ W2.heap.size := b.size
    generalize W2.alloc (.cells (madeCells #[.bool false, .string ⟨#[]⟩] (n * 2)) 27) = W3 at *
    generalize W2.heap.size = b0 at *
    obtain ⟨L', hL'⟩ : ∃ L' : List Int, L' = (List.range n).map (co C) := ⟨_, rfl⟩
    have HL := Lib.hid (show L'.length = n by rw [hL']; simp)
    have HE := Lib.hid (show ∀ i, co L' i = co C i by
      intro i
      rcases Nat.lt_or_ge i n with hi | hi
      · rw [hL']; unfold co; simp [hi]
      · rw [HZ.out i hi]; exact co_ge (by rw [HL.out]; exact hi))
    have HT := Lib.hid (show trm L' = C by rw [← HC.out]; exact trm_eq HE.out)
    have HPB := Lib.hid (show PB L' kk by intro i; rw [HE.out i]; exact HB.out i)
    clear hL' h0 HX b
    go_wp2_with fail
    go_loopg [18] n (fun q s18 wx => ∃ (j : Nat) (g : Nat → Bool) (s : Nat → ByteArray), j + q = n ∧ s18 = .int .i64 (j : Int) ∧ PRow wx b0 n g s ∧ Below w.heap.size w wx ∧ Hid (∀ i, (i < j → g i = sg (co C i) ∧ s i = mg (co C i)) ∧ (j ≤ i → g i = false ∧ s i = ⟨#[]⟩)))
    case atStart => exact ⟨0, _, _, by omega, rfl, P, b3, fun i => ⟨fun h => by omega, fun _ => ⟨rfl, rfl⟩⟩⟩
    case round =>
      clear P b3
      obtain ⟨j, g, s, hj, rfl, P, B, HG⟩ := hrel
      rcases gk with _ | q
      · obtain rfl : j = n := by omega
        have hjj : ¬ (j : Int) < (j : Int) := by omega
        have hin : PolyAt wr (.slice (some ⟨b0, 0, none⟩) j j) L' kk := by
          have h := PolyC.at (base := 0) (W := wr) (v := .slice (some ⟨b0, 0, none⟩) L'.length j) (L := L') (.inr ⟨b0, j, j, rfl, by rw [HL.out]; omega, by rw [HL.out]; omega, Nat.zero_le _, g, s, P, fun i hi => by rw [HE.out i]; exact (HG.out i).1 (by rw [HL.out] at hi; omega)⟩) hkk HPB.out
          rwa [HL.out] at h
        go_wp2_with fail
        refine (deg_any _ L' kk _ hin (by rw [HL.out]; omega)).mono ?_
        rintro e W4 ⟨rfl, b4⟩
        have P4 := P.keep b4
        have B4 := below_more B (Nat.le_refl _) b4
        have hCl : C.length ≤ j := by rw [← HT.out]; have := trm_len L'; rw [HL.out] at this; exact this
        clear hin P B b4
        rcases Nat.eq_zero_or_pos C.length with hz | hz
        · have HN := Lib.hid (List.eq_nil_of_length_eq_zero hz)
          have hd : degZ L' = -1 := by unfold degZ; rw [HT.out, hz]; rfl
          rw [hd]
          clear hz hd hCl
          go_wp2
          go_ret
          exact ⟨_, rfl, .inl ⟨rfl, HN.out⟩, B4⟩
        · obtain ⟨m, hm⟩ : ∃ m, m = C.length - 1 := ⟨_, rfl⟩
          have hd : degZ L' = (m : Int) := by unfold degZ; rw [HT.out]; omega
          have HM := Lib.hid (show m + 1 = C.length by omega)
          have i1 : ¬ (m : Int) < 0 := by omega
          have i2 : (m : Int) + 1 ≤ (j : Int) := by omega
          have i3 : (0 : Int) ≤ (m : Int) + 1 := by omega
          rw [hd]
          clear hz hd hm
          go_wp2
          go_ret
          exact ⟨_, rfl, .inr ⟨b0, j, j, by rw [← HM.out]; rfl, hCl, hCl, hbase, g, s, P4, fun i hi => (HG.out i).1 (by omega)⟩, B4⟩
      · have hjn : (j : Int) < (n : Int) := by omega
        have hj0 : (0 : Int) ≤ (j : Int) := by omega
        have HJ := Lib.hid hj
        obtain ⟨z, Hz⟩ : ∃ z : Int, Hid (co C j = z) := ⟨_, Lib.hid rfl⟩
        have Hz2 := Lib.hid (show co L j + co M j = z by rw [← Hz.out]; exact (HO.out j).symm)
        obtain ⟨p1, p2, p3, p4⟩ := P.cell (show j < n by omega)
        clear hj
        go_wp2_with fail
        refine (coef_any _ L k j _ (H1.out.keep B) (by omega) (by omega) (by omega)).mono ?_
        rintro e W4 ⟨g4, s4, rfl, I4, b4⟩
        have J4 := Lib.hid I4
        have B4 := below_more B (Nat.le_refl _) b4
        have P4 := P.keep b4
        clear I4 B P b4 p1 p2 p3 p4
        go_wp2_with fail
        refine (coef_any _ M k j _ (H2.out.keep B4) (by omega) (by omega) (by omega)).mono ?_
        rintro e W5 ⟨g5, s5, rfl, I5, b5⟩
        have J5 := Lib.hid I5
        have B5 := below_more B4 (Nat.le_refl _) b5
        have P5 := P4.keep b5
        clear I5 B4 P4 b5
        go_wp2_with fail
        refine (iadd_eq J4.out J5.out Hz2.out).mono ?_
        rintro e W6 ⟨rfl, b6⟩
        have B6 := below_more B5 (Nat.le_refl _) b6
        have P6 := P5.keep b6
        have PS := Lib.hid (P6.set j (sg z) (mg z))
        obtain ⟨p1, p2, p3, p4⟩ := P6.cell (show j < n by have := HJ.out; omega)
        have BS := Lib.hid ((B6.setCell (p := ⟨b0, j * 2, none⟩) hbase (.bool (sg z))).setCell (p := ⟨b0, j * 2 + 1, none⟩) hbase (.string (mg z)))
        have HG2 := Lib.hid (show ∀ i, (i < j + 1 → upd2 g j (sg z) i = sg (co C i) ∧ upd2 s j (mg z) i = mg (co C i)) ∧ (j + 1 ≤ i → upd2 g j (sg z) i = false ∧ upd2 s j (mg z) i = ⟨#[]⟩) by
          intro i
          unfold upd2
          by_cases e : i = j
          · subst e
            rw [if_pos rfl, if_pos rfl, Hz.out]
            exact ⟨fun _ => ⟨rfl, rfl⟩, fun h => by omega⟩
          · rw [if_neg e, if_neg e]
            exact ⟨fun h => (HG.out i).1 (by omega), fun h => (HG.out i).2 (by omega)⟩)
        clear B5 P5 B6 P6 b6 HG
        go_wp2_with fail
        go_roundg q
        case measure => omega
        case rel => exact ⟨j + 1, _, _, by have := HJ.out; omega, by go_num, PS.out, BS.out, HG2⟩
set_option maxRecDepth 100000 in
set_option maxHeartbeats 6400000 in
theorem comb_sub (v1 v2 : Value) (L M C : List Int) (k kk : Nat) (w : World) (h1 : PolyAt w v1 L k) (h2 : PolyAt w v2 M k) (hL : L.length ≤ 100000) (hM : M.length ≤ 100000) (hk : k ≤ 1000000) (hC : trm C = C) (hco : ∀ i, co C i = co L i - co M i) (hb : PB C kk) (hkk : kk ≤ 10000000) :
    Calls Tryz.prog 36 #[v1, v2, .func (.func 39) #[] #[]] w (PolyOut w C) := by
  have H1 := Lib.hid h1
  have H2 := Lib.hid h2
  have HC := Lib.hid hC
  have HO := Lib.hid hco
  have HB := Lib.hid hb
  obtain ⟨n, hn⟩ : ∃ n, n = max (trm L).length (trm M).length := ⟨_, rfl⟩
  have tl := trm_len L
  have tm := trm_len M
  have hn1 : n ≤ 100000 := by omega
  have HZ := Lib.hid (show ∀ i, n ≤ i → co C i = 0 by
    intro i hi
    rw [hco i, trm_above L (by omega), trm_above M (by omega)]
    rfl)
  have HX := Lib.hid (show max (degZ L) (degZ M) = (n : Int) - 1 by unfold degZ; omega)
  obtain ⟨A1, c1, g1, s1, rfl, -, -⟩ := h1
  obtain ⟨A2, c2, g2, s2, rfl, -, -⟩ := h2
  clear hC hco hb hn tl tm
  go_enter Tryz.func36, Tryz.ntmps36
  go_wp2_with fail
  refine (deg_any _ L k _ H1.out (by omega)).mono ?_
  rintro e W1 ⟨rfl, b1⟩
  go_wp2_with fail
  refine (deg_any _ M k _ (H2.out.keep b1) (by omega)).mono ?_
  rintro e W2 ⟨rfl, b2⟩
  have b := below_more b1 (Nat.le_refl _) b2
  clear b1 b2
  go_wp2_with fail
  rw [HX.out]
  refine (blank_any _ n _ (by omega) (by omega) (by omega)).mono ?_
  rintro e W3 (⟨h0, rfl, rfl⟩ | ⟨h0, rfl, rfl⟩)
  · have HN := Lib.hid (show C = [] by
      rw [← HC.out, trm_nil_iff]
      intro i
      exact HZ.out i (by omega))
    clear h0 HZ HO HB HC HX
    go_wp2_with fail
    go_loopg [18] 0 (fun q s18 wx => s18 = .int .i64 0 ∧ wx = W3)
    case atStart => exact ⟨rfl, rfl⟩
    case round =>
      obtain ⟨rfl, hwx⟩ := hrel
      subst hwx
      go_wp2_with fail
      refine (deg_any _ [] 1 _ (PolyC.at (base := 0) (.inl ⟨rfl, rfl⟩) (by omega) pb_nil) (by simp)).mono ?_
      rintro e W4 ⟨rfl, b4⟩
      have b5 := below_more b (Nat.le_refl _) b4
      rw [deg_nil]
      go_wp2
      go_ret
      exact ⟨_, rfl, .inl ⟨rfl, HN.out⟩, b5⟩
  · have P := PRow.made W2 n
    have b3 := below_more b (Nat.le_refl _) (below1 W2 (.cells (madeCells #[.bool false, .string ⟨#[]⟩] (n * 2)) 27))
    have hbase : w.heap.size ≤ W2.heap.size := b.size
    generalize W2.alloc (.cells (madeCells #[.bool false, .string ⟨#[]⟩] (n * 2)) 27) = W3 at *
    generalize W2.heap.size = b0 at *
    obtain ⟨L', hL'⟩ : ∃ L' : List Int, L' = (List.range n).map (co C) := ⟨_, rfl⟩
    have HL := Lib.hid (show L'.length = n by rw [hL']; simp)
    have HE := Lib.hid (show ∀ i, co L' i = co C i by
      intro i
      rcases Nat.lt_or_ge i n with hi | hi
      · rw [hL']; unfold co; simp [hi]
      · rw [HZ.out i hi]; exact co_ge (by rw [HL.out]; exact hi))
    have HT := Lib.hid (show trm L' = C by rw [← HC.out]; exact trm_eq HE.out)
    have HPB := Lib.hid (show PB L' kk by intro i; rw [HE.out i]; exact HB.out i)
    clear hL' h0 HX b
    go_wp2_with fail
    go_loopg [18] n (fun q s18 wx => ∃ (j : Nat) (g : Nat → Bool) (s : Nat → ByteArray), j + q = n ∧ s18 = .int .i64 (j : Int) ∧ PRow wx b0 n g s ∧ Below w.heap.size w wx ∧ Hid (∀ i, (i < j → g i = sg (co C i) ∧ s i = mg (co C i)) ∧ (j ≤ i → g i = false ∧ s i = ⟨#[]⟩)))
    case atStart => exact ⟨0, _, _, by omega, rfl, P, b3, fun i => ⟨fun h => by omega, fun _ => ⟨rfl, rfl⟩⟩⟩
    case round =>
      clear P b3
      obtain ⟨j, g, s, hj, rfl, P, B, HG⟩ := hrel
      rcases gk with _ | q
      · obtain rfl : j = n := by omega
        have hjj : ¬ (j : Int) < (j : Int) := by omega
        have hin : PolyAt wr (.slice (some ⟨b0, 0, none⟩) j j) L' kk := by
          have h := PolyC.at (base := 0) (W := wr) (v := .slice (some ⟨b0, 0, none⟩) L'.length j) (L := L') (.inr ⟨b0, j, j, rfl, by rw [HL.out]; omega, by rw [HL.out]; omega, Nat.zero_le _, g, s, P, fun i hi => by rw [HE.out i]; exact (HG.out i).1 (by rw [HL.out] at hi; omega)⟩) hkk HPB.out
          rwa [HL.out] at h
        go_wp2_with fail
        refine (deg_any _ L' kk _ hin (by rw [HL.out]; omega)).mono ?_
        rintro e W4 ⟨rfl, b4⟩
        have P4 := P.keep b4
        have B4 := below_more B (Nat.le_refl _) b4
        have hCl : C.length ≤ j := by rw [← HT.out]; have := trm_len L'; rw [HL.out] at this; exact this
        clear hin P B b4
        rcases Nat.eq_zero_or_pos C.length with hz | hz
        · have HN := Lib.hid (List.eq_nil_of_length_eq_zero hz)
          have hd : degZ L' = -1 := by unfold degZ; rw [HT.out, hz]; rfl
          rw [hd]
          clear hz hd hCl
          go_wp2
          go_ret
          exact ⟨_, rfl, .inl ⟨rfl, HN.out⟩, B4⟩
        · obtain ⟨m, hm⟩ : ∃ m, m = C.length - 1 := ⟨_, rfl⟩
          have hd : degZ L' = (m : Int) := by unfold degZ; rw [HT.out]; omega
          have HM := Lib.hid (show m + 1 = C.length by omega)
          have i1 : ¬ (m : Int) < 0 := by omega
          have i2 : (m : Int) + 1 ≤ (j : Int) := by omega
          have i3 : (0 : Int) ≤ (m : Int) + 1 := by omega
          rw [hd]
          clear hz hd hm
          go_wp2
          go_ret
          exact ⟨_, rfl, .inr ⟨b0, j, j, by rw [← HM.out]; rfl, hCl, hCl, hbase, g, s, P4, fun i hi => (HG.out i).1 (by omega)⟩, B4⟩
      · have hjn : (j : Int) < (n : Int) := by omega
        have hj0 : (0 : Int) ≤ (j : Int) := by omega
        have HJ := Lib.hid hj
        obtain ⟨z, Hz⟩ : ∃ z : Int, Hid (co C j = z) := ⟨_, Lib.hid rfl⟩
        have Hz2 := Lib.hid (show co L j - co M j = z by rw [← Hz.out]; exact (HO.out j).symm)
        obtain ⟨p1, p2, p3, p4⟩ := P.cell (show j < n by omega)
        clear hj
        go_wp2_with fail
        refine (coef_any _ L k j _ (H1.out.keep B) (by omega) (by omega) (by omega)).mono ?_
        rintro e W4 ⟨g4, s4, rfl, I4, b4⟩
        have J4 := Lib.hid I4
        have B4 := below_more B (Nat.le_refl _) b4
        have P4 := P.keep b4
        clear I4 B P b4 p1 p2 p3 p4
        go_wp2_with fail
        refine (coef_any _ M k j _ (H2.out.keep B4) (by omega) (by omega) (by omega)).mono ?_
        rintro e W5 ⟨g5, s5, rfl, I5, b5⟩
        have J5 := Lib.hid I5
        have B5 := below_more B4 (Nat.le_refl _) b5
        have P5 := P4.keep b5
        clear I5 B4 P4 b5
        go_wp2_with fail
        refine (isub_eq J4.out J5.out Hz2.out).mono ?_
        rintro e W6 ⟨rfl, b6⟩
        have B6 := below_more B5 (Nat.le_refl _) b6
        have P6 := P5.keep b6
        have PS := Lib.hid (P6.set j (sg z) (mg z))
        obtain ⟨p1, p2, p3, p4⟩ := P6.cell (show j < n by have := HJ.out; omega)
        have BS := Lib.hid ((B6.setCell (p := ⟨b0, j * 2, none⟩) hbase (.bool (sg z))).setCell (p := ⟨b0, j * 2 + 1, none⟩) hbase (.string (mg z)))
        have HG2 := Lib.hid (show ∀ i, (i < j + 1 → upd2 g j (sg z) i = sg (co C i) ∧ upd2 s j (mg z) i = mg (co C i)) ∧ (j + 1 ≤ i → upd2 g j (sg z) i = false ∧ upd2 s j (mg z) i = ⟨#[]⟩) by
          intro i
          unfold upd2
          by_cases e : i = j
          · subst e
            rw [if_pos rfl, if_pos rfl, Hz.out]
            exact ⟨fun _ => ⟨rfl, rfl⟩, fun h => by omega⟩
          · rw [if_neg e, if_neg e]
            exact ⟨fun h => (HG.out i).1 (by omega), fun h => (HG.out i).2 (by omega)⟩)
        clear B5 P5 B6 P6 b6 HG
        go_wp2_with fail
        go_roundg q
        case measure => omega
        case rel => exact ⟨j + 1, _, _, by have := HJ.out; omega, by go_num, PS.out, BS.out, HG2⟩
theorem padd_any (v1 v2 : Value) (L M C : List Int) (k kk : Nat) (w : World) (h1 : PolyAt w v1 L k) (h2 : PolyAt w v2 M k) (hL : L.length ≤ 100000) (hM : M.length ≤ 100000) (hk : k ≤ 1000000) (hC : trm C = C) (hco : ∀ i, co C i = co L i + co M i) (hb : PB C kk) (hkk : kk ≤ 10000000) :
    Calls Tryz.prog 12 #[v1, v2] w (PolyOut w C) := by
  have H := Lib.hid (comb_add v1 v2 L M C k kk w h1 h2 hL hM hk hC hco hb hkk)
  obtain ⟨A1, c1, g1, s1, rfl, -, -⟩ := h1
  obtain ⟨A2, c2, g2, s2, rfl, -, -⟩ := h2
  clear hC hco hb
  go_enter Tryz.func12, Tryz.ntmps12
  go_wp2_with fail
  refine H.out.mono ?_
  rintro e W1 ⟨v, rfl, hP, b1⟩
  have HP := Lib.hid hP
  clear hP
  go_wp2
  go_ret
  exact ⟨v, rfl, HP.out, b1⟩
theorem psub_any (v1 v2 : Value) (L M C : List Int) (k kk : Nat) (w : World) (h1 : PolyAt w v1 L k) (h2 : PolyAt w v2 M k) (hL : L.length ≤ 100000) (hM : M.length ≤ 100000) (hk : k ≤ 1000000) (hC : trm C = C) (hco : ∀ i, co C i = co L i - co M i) (hb : PB C kk) (hkk : kk ≤ 10000000) :
    Calls Tryz.prog 14 #[v1, v2] w (PolyOut w C) := by
  have H := Lib.hid (comb_sub v1 v2 L M C k kk w h1 h2 hL hM hk hC hco hb hkk)
  obtain ⟨A1, c1, g1, s1, rfl, -, -⟩ := h1
  obtain ⟨A2, c2, g2, s2, rfl, -, -⟩ := h2
  clear hC hco hb
  go_enter Tryz.func14, Tryz.ntmps14
  go_wp2_with fail
  refine H.out.mono ?_
  rintro e W1 ⟨v, rfl, hP, b1⟩
  have HP := Lib.hid hP
  clear hP
  go_wp2
  go_ret
  exact ⟨v, rfl, HP.out, b1⟩
theorem pcan_any (v1 : Value) (L C : List Int) (k : Nat) (w : World) (h1 : PolyAt w v1 L k) (hL : L.length ≤ 100000) (hk : k ≤ 1000000) (hC : trm L = C) (hk1 : 1 ≤ k) :
    Calls Tryz.prog 8 #[v1] w (PolyOut w C) := by
  have hb : PB C k := fun i => by rw [← hC, co_trm]; exact h1.pb i
  have H := Lib.hid (padd_any v1 (.slice none 0 0) L [] C k k w h1 (PolyC.at (base := 0) (.inl ⟨rfl, rfl⟩) (by omega) (fun i => by rw [co_nil]; exact Nat.pow_pos (by omega))) hL (by simp) hk (by rw [← hC]; exact trm_trm L) (fun i => by rw [← hC, co_trm, co_nil]; omega) hb (by omega))
  obtain ⟨A1, c1, g1, s1, rfl, -, -⟩ := h1
  clear hC hb
  go_enter Tryz.func8, Tryz.ntmps8
  go_wp2_with fail
  refine H.out.mono ?_
  rintro e W1 ⟨v, rfl, hP, b1⟩
  have HP := Lib.hid hP
  clear hP
  go_wp2
  go_ret
  exact ⟨v, rfl, HP.out, b1⟩
end Go.Proofs.YtgcogpfmhmmgdaaGreatDoor

namespace Go.Proofs.YtgcogpfmhmmgdaaGreatDoor
open Go.RowKit Go.Shelf
attribute [local go_sem] Oper.semAt_some
set_option linter.unusedSimpArgs false
set_option linter.unusedVariables false

/-- An exponent with a coefficient that is not 0. -/
abbrev Tm (L : List Int) : Type := { x : Nat // co L x ≠ 0 }
/-- The exponents of the terms below n, the greatest one first. -/
def tmx (L : List Int) : Nat → List (Tm L)
  | 0 => []
  | n + 1 => if h : co L n = 0 then tmx L n else ⟨n, h⟩ :: tmx L n
theorem tmx_len (L : List Int) (n : Nat) : (tmx L n).length ≤ n := by
  induction n with
  | zero => exact Nat.le_refl _
  | succ n ih =>
    unfold tmx
    split
    · omega
    · rw [List.length_cons]; omega
theorem tmx_mem (L : List Int) (n i : Nat) (h : co L i ≠ 0) : i < n → (⟨i, h⟩ : Tm L) ∈ tmx L n := by
  induction n with
  | zero => intro h1; omega
  | succ n ih =>
    intro h1
    unfold tmx
    by_cases e : i = n
    · subst e
      rw [dif_neg h]
      exact List.mem_cons_self
    · split
      · exact ih (by omega)
      · exact List.mem_cons_of_mem _ (ih (by omega))
theorem Tm.lt {L : List Int} (x : Tm L) : x.1 < (trm L).length := by
  rcases Nat.lt_or_ge x.1 (trm L).length with h | h
  · exact h
  · exact absurd (trm_above L h) x.2
theorem below_grown {W W1 : World} (h : Below W.heap.size W W1) : W.grownBy W1 none := ⟨h.os, h.tape, h.output, h.size, fun k hk _ => h.block k hk⟩
theorem addr_block (a : Addr) (n : Nat) : (a.add n).block = a.block := by unfold Addr.add; split <;> rfl
/-- The cells of a slice of integers, in blocks below n₀. -/
def PCells (W : World) (n₀ : Nat) (A : Option Addr) (L : List Int) (g : Nat → Bool) (s : Nat → ByteArray) (k : Nat) : Prop :=
  ∀ i, i < L.length → ∃ a, A = some a ∧ a.block < n₀ ∧ W.cell? (a.add (i * 2)) = some (.bool (g i)) ∧ W.cell? ⟨(a.add (i * 2)).block, (a.add (i * 2)).off + 1, none⟩ = some (.string (s i)) ∧ IsInt (.agg #[.bool (g i), .string (s i)]) (co L i) k
theorem PCells.keep {W W1 : World} {n₀ : Nat} {A : Option Addr} {L : List Int} {g : Nat → Bool} {s : Nat → ByteArray} {k : Nat} (h : PCells W n₀ A L g s k) (hb : Below n₀ W W1) : PCells W1 n₀ A L g s k := fun i hi => by
  obtain ⟨a, h1, h2, h3, h4, h5⟩ := h i hi
  exact ⟨a, h1, h2, (hb.cell (by rw [addr_block]; exact h2)).trans h3, (hb.cell (by show (a.add _).block < _; rw [addr_block]; exact h2)).trans h4, h5⟩
theorem PolyAt.cells {W : World} {v : Value} {L : List Int} {k : Nat} (h : PolyAt W v L k) : ∃ A c g s, v = .slice A L.length c ∧ PCells W W.heap.size A L g s k := by
  obtain ⟨A, c, g, s, h1, h2, h3⟩ := h
  refine ⟨A, c, g, s, h1, fun i hi => ?_⟩
  obtain ⟨a, ha, c0, c1, hI⟩ := h3 i hi
  exact ⟨a, ha, by have := World.block_lt_of_cell? _ _ c0; rwa [addr_block] at this, c0, c1, hI⟩
/-- What a round keeps: what lay below n₀, and the block Bs. -/
def Kt (n₀ Bs : Nat) (W W1 : World) : Prop := Below n₀ W W1 ∧ W1.heap[Bs]? = W.heap[Bs]?
theorem Kt.refl (n₀ Bs : Nat) (W : World) : Kt n₀ Bs W W := ⟨Below.refl _ _, rfl⟩
theorem Kt.trans {n₀ Bs : Nat} {A B C : World} (h : Kt n₀ Bs A B) (k : Kt n₀ Bs B C) : Kt n₀ Bs A C := ⟨h.1.trans k.1, k.2.trans h.2⟩
theorem Kt.of_below {n₀ Bs : Nat} {W W1 : World} (h : Below W.heap.size W W1) (h0 : n₀ ≤ W.heap.size) (h1 : Bs < W.heap.size) : Kt n₀ Bs W W1 := ⟨h.mono h0, h.block _ h1⟩
theorem Kt.turn {n₀ Bs : Nat} {w : World} (hn : n₀ ≤ w.heap.size) (hB : Bs < w.heap.size) (W : World) (l : Nat) (o o' : Obj) (hl : w.heap.size ≤ l) (h : W.heap[l]? = some o) (h1 : o.isCells = false) (h2 : o.isWalk = false) : Kt n₀ Bs W (W.putObj l o') :=
  ⟨belowK_b hn W l o o' hl h h1 h2, World.putObj_heap_other (by omega)⟩
theorem Kt.set {n₀ Bs : Nat} {W W1 : World} (h : Kt n₀ Bs W W1) {a : Addr} (ha : n₀ ≤ a.block) (hb : Bs ≠ a.block) (u : Value) : Kt n₀ Bs W (W1.setCell a u) := ⟨h.1.setCell ha u, by rw [← h.2]; simp [World.setCell, Array.getElem?_modify, Ne.symm hb]⟩
theorem terms_any (A : Option Addr) (n c : Nat) (w : World) :
    Calls Tryz.prog 46 #[.slice A n c] w fun e w' =>
      e = .returned (.func (.func 83) #[] #[.pointer (some ⟨w.heap.size, 0, none⟩)]) ∧ w' = w.alloc (.cells #[.slice A n c] 22) := by
  go_enter Tryz.func46, Tryz.ntmps46
  go_wp2
  go_ret
  exact ⟨rfl, rfl⟩
set_option maxRecDepth 100000 in
set_option maxHeartbeats 3200000 in
theorem terms1_in (n l Bs n₀ c k : Nat) (A : Option Addr) (L : List Int) (g : Nat → Bool) (s : Nat → ByteArray) (J Jx : List (Tm L) → World → Prop) (hn : 1 ≤ n) (hL : L.length ≤ 1000000)
    (W : World) (hJ : AbidesFrom W.heap.size J)
    (hY : ∀ (pre : List (Tm L)) (x : Tm L) (W1 : World), J pre W1 → pre.length < L.length → YieldAt Fence.wide (n - 1) Tryz.prog l #[.int .i64 (x.1 : Int), .agg #[.bool (g x.1), .string (s x.1)]] W1 fun e W' =>
      (e = .returned (.bool true) ∧ J (pre ++ [x]) W' ∧ Kt n₀ Bs W1 W') ∨ (e = .returned (.bool false) ∧ Jx (pre ++ [x]) W'))
    (hBs : W.cell? ⟨Bs, 0, none⟩ = some (.slice A L.length c)) (hBn : Bs < W.heap.size) (hWn : n₀ ≤ W.heap.size) (hc : PCells W n₀ A L g s k) (h0 : J [] W) :
    CallsIn Fence.wide n Tryz.prog 83 #[.func (.yield l) #[] #[], .pointer (some ⟨Bs, 0, none⟩)] W fun e W' => (∃ v, e = .returned v) ∧
      ((∃ ys, ys = tmx L L.length ∧ J ys W') ∨ (∃ pre, True ∧ Jx pre W')) := by
  have HY := Lib.hid hY
  have HC := Lib.hid hc
  have HJ := Lib.hid hJ
  clear hY hc hJ
  refine callsIn_of_wp Tryz.func83 rfl trivial ?_ rfl
  simp only [Tryz.ntmps83, List.size_toArray, List.length_cons, List.length_nil, Nat.reduceAdd, Nat.reduceSub, Array.replicate_succ, Array.replicate_zero, List.push_toArray, List.append_toArray, List.nil_append, List.cons_append]
  gi_wp2
  gi_loopw [3] (fun i wr => ∃ (q : Nat) (pre : List (Tm L)), i = .int .i64 ((q : Int) - 1) ∧ q ≤ L.length ∧ Hid (pre ++ tmx L q = tmx L L.length) ∧ J pre wr ∧ Kt n₀ Bs W wr) (fun i _ => (intOf i + 1).toNat)
  case atStart => exact ⟨L.length, [], rfl, Nat.le_refl _, rfl, h0, Kt.refl _ _ _⟩
  case round =>
    clear h0
    obtain ⟨q, pre, rfl, hq, HE, hJs, hB⟩ := hrel
    have x0 := (World.cell?_of_block (a := ⟨Bs, 0, none⟩) hB.2).trans hBs
    have hs0 := hB.1.size
    rcases q with _ | q
    · gi_wp2
      go_end0
      exact ⟨⟨_, rfl⟩, .inl ⟨pre, by have := HE.out; rwa [tmx, List.append_nil] at this, hJs⟩⟩
    · obtain ⟨a, rfl, hab, c0, c1, hI⟩ := HC.out q (by omega)
      have x1 := (hB.1.cell (p := a.add (q * 2)) (by rw [addr_block]; exact hab)).trans c0
      have x2 := (hB.1.cell (p := ⟨(a.add (q * 2)).block, (a.add (q * 2)).off + 1, none⟩) (by show (a.add _).block < _; rw [addr_block]; exact hab)).trans c1
      have HI := Lib.hid hI
      obtain ⟨m, Hm⟩ : ∃ m : Int, Hid (((nbits (co L q).natAbs : Nat) : Int) = m) := ⟨_, Lib.hid rfl⟩
      have hq1 : ((q + 1 : Nat) : Int) - 1 = (q : Int) := by omega
      have hq0 : (0 : Int) ≤ (q : Int) := by omega
      have hql : (q : Int) < (L.length : Int) := by omega
      have HQ := Lib.hid hq
      clear hI hq
      rw [hq1]
      by_cases hm : m = 0
      · have HE2 := Lib.hid (show pre ++ tmx L q = tmx L L.length by
          have h := HE.out
          rw [tmx, dif_pos (nbits_zero.1 (Hm.out.trans hm))] at h
          exact h)
        subst hm
        clear HE
        gi_wp2_with (refine ⟨trivial, ?_⟩; gi_at_call 34; refine (callsIn_wide.2 (ibits_any _ _ k _ HI.out)).mono ?_; rw [Hm.out]; rintro e W1 ⟨rfl, b1⟩; (have hJ1 := HJ.out pre _ _ none hJs (below_grown b1) (fun r e => by cases e)); (have B1 := hB.trans (Kt.of_below b1 (by omega) (by omega))))
        refine ⟨fun _ h => (by cases h), ?_⟩
        gi_wp2
        go_roundw
        case rel => exact ⟨q, pre, by go_num, by have := HQ.out; omega, HE2, hJ1, B1⟩
        case measure => simp [intOf]
      · have hz : co L q ≠ 0 := fun h => hm (by rw [← Hm.out]; exact nbits_zero.2 h)
        have HE2 := Lib.hid (show (pre ++ [⟨q, hz⟩]) ++ tmx L q = tmx L L.length by
          have h := HE.out
          rw [tmx, dif_neg hz] at h
          rw [List.append_assoc]
          exact h)
        have hlen : pre.length < L.length := by
          have h1 := congrArg List.length HE2.out
          have h2 := tmx_len L L.length
          simp only [List.length_append, List.length_singleton] at h1
          omega
        have hm0 : 0 < m := by have := Hm.out; omega
        have Hz := Lib.hid hz
        clear HE hm
        gi_wp2_with (refine ⟨trivial, ?_⟩; gi_at_call 34; refine (callsIn_wide.2 (ibits_any _ _ k _ HI.out)).mono ?_; rw [Hm.out]; rintro e W1 ⟨rfl, b1⟩; (have hJ1 := HJ.out pre _ _ none hJs (below_grown b1) (fun r e => by cases e)); (have B1 := hB.trans (Kt.of_below b1 (by omega) (by omega))); (have y0 := cell_keep x0 b1); (have y1 := cell_keep x1 b1); (have y2 := cell_keep x2 b1); (clear x0 x1 x2); (obtain ⟨fn, tmps, assign, body, hy, hR⟩ := HY.out pre ⟨q, Hz.out⟩ W1 hJ1 hlen))
        refine hR.mono ?_
        rintro e W3 (⟨rfl, hJ3, hk3⟩ | ⟨rfl, hJx3⟩)
        · gi_wp2
          go_roundw
          case rel => exact ⟨q, pre ++ [⟨q, Hz.out⟩], by go_num, by have := HQ.out; omega, HE2, hJ3, B1.trans hk3⟩
          case measure => simp [intOf]
        · gi_wp2
          refine bodyPost_ret (results_none rfl _ _ _) rfl ?_
          exact ⟨⟨_, rfl⟩, .inr ⟨_, trivial, hJx3⟩⟩
/-- The contract of the iterator. -/
theorem terms_stops (n Bs n₀ c k : Nat) (A : Option Addr) (L : List Int) (g : Nat → Bool) (s : Nat → ByteArray) (w : World) (hn : 1 ≤ n) (hL : L.length ≤ 1000000) (hBs : w.cell? ⟨Bs, 0, none⟩ = some (.slice A L.length c)) (hwn : n₀ ≤ w.heap.size) (hc : PCells w n₀ A L g s k) :
    SeqStopsK Fence.wide n Tryz.prog 83 #[.pointer (some ⟨Bs, 0, none⟩)] (fun x : Tm L => #[Value.int .i64 (x.1 : Int), .agg #[.bool (g x.1), .string (s x.1)]]) (Kt n₀ Bs) (fun ys => ys = tmx L L.length) (fun _ => True) L.length w :=
  fun l J Jx W hW hJ hJx hY h0 => by
    have hBl : Bs < w.heap.size := World.block_lt_of_cell? w ⟨Bs, 0, none⟩ hBs
    have hs := hW.size
    exact terms1_in n l Bs n₀ c k A L g s J Jx hn hL W hJ hY ((hW.cell (p := ⟨Bs, 0, none⟩) hBl).trans hBs) (by omega) (Nat.le_trans hwn hs) (hc.keep (hW.mono hwn)) h0
end Go.Proofs.YtgcogpfmhmmgdaaGreatDoor
