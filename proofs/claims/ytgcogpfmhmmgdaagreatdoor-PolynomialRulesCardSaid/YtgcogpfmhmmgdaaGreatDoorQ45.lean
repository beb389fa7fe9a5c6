/- What the reference implementation's Mul and Sub return. Condition: at most 10^8 bytes. -/
import Derived.Test.YtgcogpfmhmmgdaaGreatDoorQ44

namespace Go.Proofs.YtgcogpfmhmmgdaaGreatDoor
open Go.RowKit
set_option linter.unusedSimpArgs false
set_option linter.unusedVariables false

theorem radd_eq {g1 g2 : Bool} {l1 l2 : List UInt8} {z1 z2 z : Int} {w : World} (hl1 : l1.length ≤ 100000000) (hl2 : l2.length ≤ 100000000) (hz1 : zv g1 ⟨l1.toArray⟩ = z1) (hz2 : zv g2 ⟨l2.toArray⟩ = z2) (e : z1 + z2 = z) :
    Calls Tryz.prog 33 #[.agg #[.bool g1, .string ⟨l1.toArray⟩], .agg #[.bool g2, .string ⟨l2.toArray⟩]] w (IntOut w z) := e ▸ radd01_any g1 g2 l1 l2 z1 z2 w hl1 hl2 hz1 hz2
theorem rneg_eq {g : Bool} {l : List UInt8} {z y : Int} {w : World} (hl : l.length ≤ 1000000000) (hz : zv g ⟨l.toArray⟩ = z) (e : -z = y) : Calls Tryz.prog 78 #[.agg #[.bool g, .string ⟨l.toArray⟩]] w (IntOut w y) := e ▸ rneg_int g l z w hl hz
theorem mg_list (z : Int) : mg z = ⟨(bytesOf z.natAbs).toArray⟩ := rfl
theorem zv_list {z : Int} {b : List UInt8} (h : bytesOf z.natAbs = b) : zv (sg z) ⟨b.toArray⟩ = z := by subst h; exact zv_mg z
theorem mul_nat {z1 z2 : Int} : (z1 * z2).natAbs = z1.natAbs * z2.natAbs := Int.natAbs_mul _ _
theorem bytes_len {g : Bool} {l : List UInt8} {z : Int} (hz : zv g ⟨l.toArray⟩ = z) : (bytesOf z.natAbs).length ≤ l.length := by
  rw [← hz, natAbs_zv, ← trim_bytes]; exact stz_len _
set_option maxRecDepth 100000 in
set_option maxHeartbeats 6400000 in
theorem rmul01_any (g1 g2 : Bool) (l1 l2 : List UInt8) (z1 z2 : Int) (w : World) (hl1 : l1.length ≤ 100000000) (hl2 : l2.length ≤ 100000000) (hz1 : zv g1 ⟨l1.toArray⟩ = z1) (hz2 : zv g2 ⟨l2.toArray⟩ = z2) :
    Calls Tryz.prog 44 #[.agg #[.bool g1, .string ⟨l1.toArray⟩], .agg #[.bool g2, .string ⟨l2.toArray⟩]] w (IntOut w (z1 * z2)) := by
  have Hz1 := Lib.hid hz1
  have Hz2 := Lib.hid hz2
  clear hz1 hz2
  obtain ⟨W0, hW0⟩ : ∃ W0, W0 = ((w.alloc (.cells #[.bool g1, .string ⟨l1.toArray⟩] 27)).alloc (.cells #[.bool g2, .string ⟨l2.toArray⟩] 27)).alloc (.cells #[.bool false, .string ⟨#[]⟩] 27) := ⟨_, rfl⟩
  have B0 : Below w.heap.size w W0 := by rw [hW0]; exact below3 w _ _ _
  have X0 : Bx3 W0 w.heap.size g1 g2 ⟨l1.toArray⟩ ⟨l2.toArray⟩ := by rw [hW0]; exact Bx3.start w _ _ _ _ _
  have HW := Lib.hid hW0
  clear hW0
  go_enter Tryz.func44, Tryz.ntmps44
  go_upto_region 1 with fail
  rw [← HW.out]
  go_cut [5] (fun s5 wx => Bx3 wx w.heap.size (sg z1) (sg z2) (mg z1) (mg z2) ∧ Below w.heap.size w wx)
  case first =>
    have KB : Bx3 W0.drew w.heap.size g1 g2 ⟨l1.toArray⟩ ⟨l2.toArray⟩ ∧ Below w.heap.size w W0.drew := ⟨X0, B0.drew⟩
    obtain ⟨⟨x1, x2, x3, x4⟩, ⟨y1, y2, y3, y4⟩, -⟩ := id X0
    go_region_with (first
      | (go_at_call 65; (first | (with_reducible refine (rcan_eq (by omega) Hz1.out).mono ?_) | (with_reducible refine (rcan_eq (by omega) Hz2.out).mono ?_)); rintro e X ⟨rfl, bX⟩; have KB := And.intro (KB.1.keep bX) (below_more KB.2 (Nat.le_refl _) bX); obtain ⟨⟨x1, x2, x3, x4⟩, ⟨y1, y2, y3, y4⟩, -⟩ := id KB.1))
    all_goals go_wp2_with fail
    all_goals go_meet
    all_goals
      have hne : w.heap.size ≠ w.heap.size + 1 := by omega
      first
        | exact ⟨⟨((KB.1.1.set (g' := sg z1) (s' := mg z1)).far (by dsimp only; omega) _).far (by dsimp only; omega) _, ((KB.1.2.1.far (by dsimp only; omega) _).far (by dsimp only; omega) _).set (g' := sg z2) (s' := mg z2), (((KB.1.2.2.far (by dsimp only; omega) _).far (by dsimp only; omega) _).far (by dsimp only; omega) _).far (by dsimp only; omega) _⟩, (((KB.2.setCell (Nat.le_refl _) _).setCell (Nat.le_refl _) _).setCell (Nat.le_succ _) _).setCell (Nat.le_succ _) _⟩
        | exact ⟨⟨((KB.1.1.far (by dsimp only; omega) _).far (by dsimp only; omega) _).set (g' := sg z1) (s' := mg z1), ((KB.1.2.1.set (g' := sg z2) (s' := mg z2)).far (by dsimp only; omega) _).far (by dsimp only; omega) _, (((KB.1.2.2.far (by dsimp only; omega) _).far (by dsimp only; omega) _).far (by dsimp only; omega) _).far (by dsimp only; omega) _⟩, (((KB.2.setCell (Nat.le_succ _) _).setCell (Nat.le_succ _) _).setCell (Nat.le_refl _) _).setCell (Nat.le_refl _) _⟩
  case rest =>
    obtain ⟨KX, B⟩ := hcut
    clear X0 B0 HW
    obtain ⟨N1, E1⟩ : ∃ N, Hid (z1.natAbs = N) := ⟨_, Lib.hid rfl⟩
    obtain ⟨N2, E2⟩ : ∃ N, Hid (z2.natAbs = N) := ⟨_, Lib.hid rfl⟩
    obtain ⟨G1, e1⟩ : ∃ G, Hid (sg z1 = G) := ⟨_, Lib.hid rfl⟩
    obtain ⟨G2, e2⟩ : ∃ G, Hid (sg z2 = G) := ⟨_, Lib.hid rfl⟩
    have V1 := Lib.hid (show (if G1 then -(N1 : Int) else (N1 : Int)) = z1 by rw [← e1.out, ← E1.out]; exact sg_abs z1)
    have V2 := Lib.hid (show (if G2 then -(N2 : Int) else (N2 : Int)) = z2 by rw [← e2.out, ← E2.out]; exact sg_abs z2)
    have L1 : (bytesOf N1).length ≤ 100000000 := by rw [← E1.out, ← Hz1.out, natAbs_zv]; rw [← trim_bytes]; exact Nat.le_trans (stz_len _) hl1
    have L2 : (bytesOf N2).length ≤ 100000000 := by rw [← E2.out, ← Hz2.out, natAbs_zv]; rw [← trim_bytes]; exact Nat.le_trans (stz_len _) hl2
    rw [mg_nat E1.out, mg_nat E2.out, e1.out, e2.out] at KX
    obtain ⟨b1, Hb1⟩ : ∃ b, Hid (bytesOf N1 = b) := ⟨_, Lib.hid rfl⟩
    obtain ⟨b2, Hb2⟩ : ∃ b, Hid (bytesOf N2 = b) := ⟨_, Lib.hid rfl⟩
    rw [Hb1.out, Hb2.out] at KX
    rw [Hb1.out] at L1
    rw [Hb2.out] at L2
    by_cases h0 : z1 = 0 ∨ z2 = 0
    · have HM := Lib.hid (show sg (z1 * z2) = false ∧ mg (z1 * z2) = ⟨#[]⟩ by
        rcases h0 with rfl | rfl
        · rw [Int.zero_mul]; exact ⟨sg_zero9, mg_zero9⟩
        · rw [Int.mul_zero]; exact ⟨sg_zero9, mg_zero9⟩)
      have hc : b1 = [] ∨ ((b1 == []) = false ∧ b2 = []) := by
        rcases h0 with rfl | rfl
        · exact Or.inl (by rw [← Hb1.out, ← E1.out]; exact bytesOf_zero)
        · have : b2 = [] := by rw [← Hb2.out, ← E2.out]; exact bytesOf_zero
          cases b1 with
          | nil => exact Or.inl rfl
          | cons c t => exact Or.inr ⟨rfl, this⟩
      clear h0
      have KB : Bx3 wc w.heap.size G1 G2 ⟨b1.toArray⟩ ⟨b2.toArray⟩ ∧ Below w.heap.size w wc := ⟨KX, B⟩
      rcases hc with rfl | ⟨hc, rfl⟩
      all_goals
        obtain ⟨x1, x2, y1, y2⟩ := KX.flat
        obtain ⟨r1, r2, r3, r4⟩ := KB.1.2.2
        go_wp2
        exact bodyPost_ret (v := .agg #[.bool false, .string ⟨#[]⟩]) (by simp [results, Tryz.results44, go_sem, r1, r2, r3, r4]) rfl ⟨by rw [HM.out.1, HM.out.2], (by first | exact KB.2 | exact (KB.2.setCell (by dsimp only; omega) _).setCell (by dsimp only; omega) _)⟩
    · have hn1 : z1 ≠ 0 := fun e => h0 (Or.inl e)
      have hn2 : z2 ≠ 0 := fun e => h0 (Or.inr e)
      have hc1 : (b1 == []) = false := by
        rw [beq_eq_false_iff_ne, ← Hb1.out]
        intro e
        have := bytesOf_nil.1 e
        have := E1.out
        omega
      have hc2 : (b2 == []) = false := by
        rw [beq_eq_false_iff_ne, ← Hb2.out]
        intro e
        have := bytesOf_nil.1 e
        have := E2.out
        omega
      clear h0
      by_cases hs : b1.length + b2.length < 8
      · have hs1 : b1.length < 8 := by omega
        have hs2 : b2.length < 8 := by omega
        obtain ⟨x, Hx⟩ : ∃ x, Hid (z1 * z2 = x) := ⟨_, Lib.hid rfl⟩
        have hxb : -9223372036854775808 < x ∧ x < 9223372036854775808 := by
          have a1 := vB_lt b1
          have a2 := vB_lt b2
          rw [← Hb1.out, vB_bytesOf, Hb1.out] at a1
          rw [← Hb2.out, vB_bytesOf, Hb2.out] at a2
          have a3 : N1 * N2 ≤ 256 ^ b1.length * 256 ^ b2.length := Nat.mul_le_mul (by omega) (by omega)
          rw [← Nat.pow_add] at a3
          have a4 : 256 ^ (b1.length + b2.length) ≤ 256 ^ 7 := Nat.pow_le_pow_right (by omega) (by omega)
          have a5 : N1 * N2 ≤ 72057594037927936 := Nat.le_trans a3 a4
          have a6 : x.natAbs = N1 * N2 := by rw [← Hx.out, mul_nat, E1.out, E2.out]
          omega
        have hw : IntKind.i64.wrap (z1 * z2) = x := by rw [Hx.out]; exact IntWalk.i64_in _ (by omega)
        clear hn1 hn2
        obtain ⟨x1, x2, y1, y2⟩ := KX.flat
        go_upto_region 5 with fail
        clear x1 x2 y1 y2
        have KB : Bx3 wc.drew w.heap.size G1 G2 ⟨b1.toArray⟩ ⟨b2.toArray⟩ ∧ Below w.heap.size w wc.drew := ⟨KX, B.drew⟩
        clear KX B
        obtain ⟨x1, x2, y1, y2⟩ := KB.1.flat
        go_region_held3 (fun W => W.cell? ⟨w.heap.size, 0, none⟩ = some (.bool G1) ∧ W.cell? ⟨w.heap.size, 1, none⟩ = some (.string ⟨b1.toArray⟩) ∧ W.cell? ⟨w.heap.size + 1, 0, none⟩ = some (.bool G2) ∧ W.cell? ⟨w.heap.size + 1, 1, none⟩ = some (.string ⟨b2.toArray⟩)) (first | (with_reducible exact Bx3.flat KB.1) | (with_reducible exact Bx3.flats KB.1) | exact Bx3.flat KB.1)
          (first
            | (go_at_call 66; (first | (with_reducible refine (rval_b Hb1.out hs1 V1.out).mono ?_) | (with_reducible refine (rval_b Hb2.out hs2 V2.out).mono ?_)); rintro e X ⟨rfl, bX⟩; have KB := And.intro (KB.1.keep bX) (below_more KB.2 (Nat.le_refl _) bX))
            | (go_at_call 45; refine (rof01_any (x) _ (by omega) (by omega)).mono ?_; rintro e X ⟨rfl, bX⟩; have KB := And.intro (KB.1.keep bX) (below_more KB.2 (Nat.le_refl _) bX); obtain ⟨r1, r2, r3, r4⟩ := KB.1.2.2))
        all_goals
          obtain ⟨r1, r2, r3, r4⟩ := KB.1.2.2
          go_wp2
          exact bodyPost_ret (v := .agg #[.bool (sg x), .string (mg x)]) (by simp [results, Tryz.results44, go_sem, r1, r2, r3, r4]) rfl ⟨by rw [Hx.out], (KB.2.setCell (by dsimp only; omega) _).setCell (by dsimp only; omega) _⟩
      · obtain ⟨N, HN⟩ : ∃ N, Hid (N1 * N2 = N) := ⟨_, Lib.hid rfl⟩
        have HM := Lib.hid (show sg (z1 * z2) = (G1 != G2) ∧ mg (z1 * z2) = ⟨(bytesOf N).toArray⟩ from ⟨by rw [mul_sg hn1 hn2, e1.out, e2.out], mg_nat (by rw [mul_nat, E1.out, E2.out, HN.out])⟩)
        obtain ⟨bN, HbN⟩ : ∃ b, Hid (bytesOf N = b) := ⟨_, Lib.hid rfl⟩
        rw [HbN.out] at HM
        have hs9 : ¬ (b1.length : Int) + (b2.length : Int) < 8 := by omega
        clear hn1 hn2
        obtain ⟨x1, x2, y1, y2⟩ := KX.flat
        go_upto_region 6 with fail
        clear x1 x2 y1 y2
        have KB : Bx3 wc.drew w.heap.size G1 G2 ⟨b1.toArray⟩ ⟨b2.toArray⟩ ∧ Below w.heap.size w wc.drew := ⟨KX, B.drew⟩
        clear KX B
        obtain ⟨x1, x2, y1, y2⟩ := KB.1.flat
        go_region_held3 (fun W => W.cell? ⟨w.heap.size, 0, none⟩ = some (.bool G1) ∧ W.cell? ⟨w.heap.size, 1, none⟩ = some (.string ⟨b1.toArray⟩) ∧ W.cell? ⟨w.heap.size + 1, 0, none⟩ = some (.bool G2) ∧ W.cell? ⟨w.heap.size + 1, 1, none⟩ = some (.string ⟨b2.toArray⟩)) (first | (with_reducible exact Bx3.flat KB.1) | (with_reducible exact Bx3.flats KB.1) | exact Bx3.flat KB.1)
          (first
            | (go_at_call 81; refine (rmul_b Hb1.out Hb2.out L1 L2 HN.out HbN.out).mono ?_; rintro e X ⟨rfl, bX⟩; have KB := And.intro (KB.1.keep bX) (below_more KB.2 (Nat.le_refl _) bX); obtain ⟨r1, r2, r3, r4⟩ := KB.1.2.2))
        all_goals
          obtain ⟨r1, r2, r3, r4⟩ := KB.1.2.2
          go_wp2
          exact bodyPost_ret (v := .agg #[.bool (G1 != G2), .string ⟨bN.toArray⟩]) (by simp [results, Tryz.results44, go_sem, r1, r2, r3, r4]; cases G1 <;> cases G2 <;> rfl) rfl ⟨by rw [HM.out.1, HM.out.2], (KB.2.setCell (by dsimp only; omega) _).setCell (by dsimp only; omega) _⟩
set_option maxRecDepth 100000 in
set_option maxHeartbeats 6400000 in
theorem rsub01_any (g1 g2 : Bool) (l1 l2 : List UInt8) (z1 z2 : Int) (w : World) (hl1 : l1.length ≤ 100000000) (hl2 : l2.length ≤ 100000000) (hz1 : zv g1 ⟨l1.toArray⟩ = z1) (hz2 : zv g2 ⟨l2.toArray⟩ = z2) :
    Calls Tryz.prog 40 #[.agg #[.bool g1, .string ⟨l1.toArray⟩], .agg #[.bool g2, .string ⟨l2.toArray⟩]] w (IntOut w (z1 - z2)) := by
  have Hz1 := Lib.hid hz1
  have Hz2 := Lib.hid hz2
  obtain ⟨y, Hy⟩ : ∃ y, Hid (-z2 = y) := ⟨_, Lib.hid rfl⟩
  obtain ⟨b, Hb⟩ : ∃ b, Hid (bytesOf y.natAbs = b) := ⟨_, Lib.hid rfl⟩
  have Hx := Lib.hid (show z1 + y = z1 - z2 by rw [← Hy.out]; omega)
  have hbl : b.length ≤ 100000000 := by
    rw [← Hb.out, ← Hy.out, Int.natAbs_neg]
    exact Nat.le_trans (bytes_len hz2) hl2
  have Hm := Lib.hid (show mg y = ⟨b.toArray⟩ by rw [mg_list, Hb.out])
  have Hzv := Lib.hid (zv_list Hb.out)
  clear hz1 hz2
  generalize z1 - z2 = x at *
  obtain ⟨W0, hW0⟩ : ∃ W0, W0 = ((w.alloc (.cells #[.bool g1, .string ⟨l1.toArray⟩] 27)).alloc (.cells #[.bool g2, .string ⟨l2.toArray⟩] 27)).alloc (.cells #[.bool false, .string ⟨#[]⟩] 27) := ⟨_, rfl⟩
  have B0 : Below w.heap.size w W0 := by rw [hW0]; exact below3 w _ _ _
  have X0 : Bx3 W0 w.heap.size g1 g2 ⟨l1.toArray⟩ ⟨l2.toArray⟩ := by rw [hW0]; exact Bx3.start w _ _ _ _ _
  have HW := Lib.hid hW0
  clear hW0
  go_enter Tryz.func40, Tryz.ntmps40
  go_upto_region 1 with fail
  rw [← HW.out]
  have KB : Bx3 W0.drew w.heap.size g1 g2 ⟨l1.toArray⟩ ⟨l2.toArray⟩ ∧ Below w.heap.size w W0.drew := ⟨X0, B0.drew⟩
  obtain ⟨x1, x2, y1, y2⟩ := KB.1.flat
  go_region_held3 (fun W => W.cell? ⟨w.heap.size, 0, none⟩ = some (.bool g1) ∧ W.cell? ⟨w.heap.size, 1, none⟩ = some (.string ⟨l1.toArray⟩) ∧ W.cell? ⟨w.heap.size + 1, 0, none⟩ = some (.bool g2) ∧ W.cell? ⟨w.heap.size + 1, 1, none⟩ = some (.string ⟨l2.toArray⟩)) (first | (with_reducible exact Bx3.flat KB.1) | (with_reducible exact Bx3.flats KB.1) | exact Bx3.flat KB.1)
    (first
      | (go_at_call 78; refine (rneg_eq (by omega) Hz2.out Hy.out).mono ?_; rintro e X ⟨rfl, bX⟩; rw [Hm.out]; have KB := And.intro (KB.1.keep bX) (below_more KB.2 (Nat.le_refl _) bX))
      | (go_at_call 33; refine (radd_eq hl1 hbl Hz1.out Hzv.out Hx.out).mono ?_; rintro e X ⟨rfl, bX⟩; have KB := And.intro (KB.1.keep bX) (below_more KB.2 (Nat.le_refl _) bX); obtain ⟨r1, r2, r3, r4⟩ := KB.1.2.2))
  all_goals
    obtain ⟨r1, r2, r3, r4⟩ := KB.1.2.2
    go_wp2
    exact bodyPost_ret (v := .agg #[.bool (sg x), .string (mg x)]) (by simp [results, Tryz.results40, go_sem, r1, r2, r3, r4]) rfl ⟨rfl, (KB.2.setCell (by dsimp only; omega) _).setCell (by dsimp only; omega) _⟩
end Go.Proofs.YtgcogpfmhmmgdaaGreatDoor
