/- What the reference implementation's Add, Sub and Mul return. Condition: at most 10^8 bytes. -/
import Derived.Test.YtgcogpfmhmmgdaaGreatDoorQ41
import Derived.Test.YtgcogpfmhmmgdaaGreatDoorQ42
import Derived.Test.YtgcogpfmhmmgdaaGreatDoorQ43
import Derived.Deep.RegionHeld3

namespace Go.Proofs.YtgcogpfmhmmgdaaGreatDoor
open Go.RowKit
set_option linter.unusedSimpArgs false
set_option linter.unusedVariables false

theorem bytesOf_mono {M N : Nat} (h : M ≤ N) : (bytesOf M).length ≤ (bytesOf N).length := by
  apply bytesOf_len
  have := vB_lt (bytesOf N)
  rw [vB_bytesOf] at this
  omega
theorem raddN {N1 N2 N : Nat} {w : World} (h1 : (bytesOf N1).length ≤ 100000000) (h2 : (bytesOf N2).length ≤ 100000000) (e : N1 + N2 = N) :
    Calls Tryz.prog 67 #[.string ⟨(bytesOf N1).toArray⟩, .string ⟨(bytesOf N2).toArray⟩] w fun e w' => e = .returned (.string ⟨(bytesOf N).toArray⟩) ∧ Below w.heap.size w w' := by
  have h := raddMag_any (bytesOf N1) (bytesOf N2) w h1 h2
  rw [vB_bytesOf, vB_bytesOf, e] at h
  exact h
theorem rsubN {N1 N2 N : Nat} {w : World} (h1 : (bytesOf N1).length ≤ 100000000) (h2 : N2 ≤ N1) (e : N1 - N2 = N) :
    Calls Tryz.prog 69 #[.string ⟨(bytesOf N1).toArray⟩, .string ⟨(bytesOf N2).toArray⟩] w fun e w' => e = .returned (.string ⟨(bytesOf N).toArray⟩) ∧ Below w.heap.size w w' := by
  have h := rsubMag_any (bytesOf N1) (bytesOf N2) w h1 (bytesOf_mono h2) (by rw [vB_bytesOf, vB_bytesOf]; exact h2)
  rw [vB_bytesOf, vB_bytesOf, e] at h
  exact h
theorem rmulN {N1 N2 N : Nat} {w : World} (h1 : (bytesOf N1).length ≤ 100000000) (h2 : (bytesOf N2).length ≤ 100000000) (e : N1 * N2 = N) :
    Calls Tryz.prog 81 #[.string ⟨(bytesOf N1).toArray⟩, .string ⟨(bytesOf N2).toArray⟩] w fun e w' => e = .returned (.string ⟨(bytesOf N).toArray⟩) ∧ Below w.heap.size w w' := by
  have h := rmulMag_any (bytesOf N1) (bytesOf N2) w h1 h2
  rw [vB_bytesOf, vB_bytesOf, e] at h
  exact h
/-- A number of few bytes: its value by value. -/
theorem rvalN {g : Bool} {N : Nat} {z : Int} {w : World} (h : (bytesOf N).length < 8) (e : (if g then -(N : Int) else (N : Int)) = z) :
    Calls Tryz.prog 66 #[.agg #[.bool g, .string ⟨(bytesOf N).toArray⟩]] w fun e w' => e = .returned (.int .i64 z) ∧ Below w.heap.size w w' := by
  refine rvalue_any g (bytesOf N) z w (by omega) ?_ ?_
  · have h1 := vB_lt (bytesOf N)
    have h2 : 256 ^ (bytesOf N).length ≤ 256 ^ 7 := Nat.pow_le_pow_right (by omega) (by omega)
    have h3 : vB (bytesOf N) < 72057594037927936 := Nat.lt_of_lt_of_le h1 h2
    omega
  · rw [← e, ← value_small, vB_bytesOf]
theorem small_lt {N : Nat} (h : (bytesOf N).length < 8) : N < 72057594037927936 := by
  have h1 := vB_lt (bytesOf N)
  rw [vB_bytesOf] at h1
  have h2 : 256 ^ (bytesOf N).length ≤ 256 ^ 7 := Nat.pow_le_pow_right (by omega) (by omega)
  exact Nat.lt_of_lt_of_le h1 h2
theorem sg_abs (z : Int) : (if sg z then -(z.natAbs : Int) else (z.natAbs : Int)) = z := by
  unfold sg
  by_cases h : z < 0
  · rw [decide_eq_true h]; simp; omega
  · rw [decide_eq_false h]; simp; omega
theorem mg_nat {z : Int} {N : Nat} (h : z.natAbs = N) : mg z = ⟨(bytesOf N).toArray⟩ := by unfold mg; rw [h]
theorem sum_same {z1 z2 : Int} (h : sg z1 = sg z2) : sg (z1 + z2) = sg z1 ∧ (z1 + z2).natAbs = z1.natAbs + z2.natAbs := by
  unfold sg at *
  by_cases h1 : z1 < 0 <;> by_cases h2 : z2 < 0 <;> simp [h1, h2] at h ⊢ <;> omega
theorem sum_eq {z1 z2 : Int} (h : sg z1 ≠ sg z2) (e : z1.natAbs = z2.natAbs) : z1 + z2 = 0 := by
  unfold sg at *
  by_cases h1 : z1 < 0 <;> by_cases h2 : z2 < 0 <;> simp [h1, h2] at h ⊢ <;> omega
theorem sum_gt {z1 z2 : Int} (h : sg z1 ≠ sg z2) (e : z2.natAbs < z1.natAbs) : sg (z1 + z2) = sg z1 ∧ (z1 + z2).natAbs = z1.natAbs - z2.natAbs := by
  unfold sg at *
  by_cases h1 : z1 < 0 <;> by_cases h2 : z2 < 0 <;> simp [h1, h2] at h ⊢ <;> omega
theorem sg_zero9 : sg 0 = false := by decide
theorem mg_zero9 : mg 0 = ⟨#[]⟩ := by unfold mg; rw [show (0 : Int).natAbs = 0 by rfl, bytesOf_zero]
theorem mul_sg {z1 z2 : Int} (h1 : z1 ≠ 0) (h2 : z2 ≠ 0) : sg (z1 * z2) = (sg z1 != sg z2) := by
  unfold sg
  rcases Int.lt_or_gt_of_ne h1 with a | a <;> rcases Int.lt_or_gt_of_ne h2 with b | b
  · rw [decide_eq_true a, decide_eq_true b, decide_eq_false (by have := Int.mul_pos_of_neg_of_neg a b; omega)]; rfl
  · rw [decide_eq_true a, decide_eq_false (by omega : ¬ z2 < 0), decide_eq_true (Int.mul_neg_of_neg_of_pos a b)]; rfl
  · rw [decide_eq_false (by omega : ¬ z1 < 0), decide_eq_true b, decide_eq_true (Int.mul_neg_of_pos_of_neg a b)]; rfl
  · rw [decide_eq_false (by omega : ¬ z1 < 0), decide_eq_false (by omega : ¬ z2 < 0), decide_eq_false (by have := Int.mul_pos a b; omega)]; rfl
/-- Two integers and the result's box. -/
def Bx3 (W : World) (p : Nat) (g1 g2 : Bool) (s1 s2 : ByteArray) : Prop := Box2 W p g1 s1 ∧ Box2 W (p + 1) g2 s2 ∧ Box2 W (p + 1 + 1) false ⟨#[]⟩
theorem Bx3.keep {W W1 : World} {p : Nat} {g1 g2 : Bool} {s1 s2 : ByteArray} (h : Bx3 W p g1 g2 s1 s2) (hb : Below W.heap.size W W1) : Bx3 W1 p g1 g2 s1 s2 := ⟨h.1.keep hb, h.2.1.keep hb, h.2.2.keep hb⟩
theorem Box2.far {W : World} {p : Nat} {g : Bool} {s : ByteArray} {a : Addr} (h : Box2 W p g s) (ha : p ≠ a.block) (u : Value) : Box2 (W.setCell a u) p g s := by
  obtain ⟨h1, h2, h3, h4⟩ := h
  refine ⟨?_, ?_, ?_, ?_⟩
  · rw [World.cell?_setCell_far _ _ _ _ (by dsimp only; omega)]; exact h1
  · rw [World.cell?_setCell_far _ _ _ _ (by dsimp only; omega)]; exact h2
  · simp [go_sem, h3]
  · simp [go_sem, h4]
theorem Box2.set {W : World} {p : Nat} {g g' : Bool} {s s' : ByteArray} (h : Box2 W p g s) : Box2 ((W.setCell ⟨p, 0, none⟩ (.bool g')).setCell ⟨p, 1, none⟩ (.string s')) p g' s' := by
  obtain ⟨h1, h2, h3, h4⟩ := h
  refine ⟨?_, ?_, ?_, ?_⟩ <;> simp [go_sem, h1, h2, h3, h4]
theorem Bx3.flat {W : World} {p : Nat} {g1 g2 : Bool} {s1 s2 : ByteArray} (h : Bx3 W p g1 g2 s1 s2) : W.cell? ⟨p, 0, none⟩ = some (.bool g1) ∧ W.cell? ⟨p, 1, none⟩ = some (.string s1) ∧ W.cell? ⟨p + 1, 0, none⟩ = some (.bool g2) ∧ W.cell? ⟨p + 1, 1, none⟩ = some (.string s2) := ⟨h.1.1, h.1.2.1, h.2.1.1, h.2.1.2.1⟩
theorem Bx3.flats {W : World} {p : Nat} {g1 g2 : Bool} {s1 s2 : ByteArray} {u v : Value} (h : Bx3 W p g1 g2 s1 s2) :
    ((W.setCell ⟨p + 1 + 1, 0, none⟩ u).setCell ⟨p + 1 + 1, 1, none⟩ v).cell? ⟨p, 0, none⟩ = some (.bool g1) ∧ ((W.setCell ⟨p + 1 + 1, 0, none⟩ u).setCell ⟨p + 1 + 1, 1, none⟩ v).cell? ⟨p, 1, none⟩ = some (.string s1) ∧
    ((W.setCell ⟨p + 1 + 1, 0, none⟩ u).setCell ⟨p + 1 + 1, 1, none⟩ v).cell? ⟨p + 1, 0, none⟩ = some (.bool g2) ∧ ((W.setCell ⟨p + 1 + 1, 0, none⟩ u).setCell ⟨p + 1 + 1, 1, none⟩ v).cell? ⟨p + 1, 1, none⟩ = some (.string s2) := by
  obtain ⟨h1, h2, -⟩ := h
  have a := (h1.far (a := ⟨p + 1 + 1, 0, none⟩) (by dsimp only; omega) u).far (a := ⟨p + 1 + 1, 1, none⟩) (by dsimp only; omega) v
  have b := (h2.far (a := ⟨p + 1 + 1, 0, none⟩) (by dsimp only; omega) u).far (a := ⟨p + 1 + 1, 1, none⟩) (by dsimp only; omega) v
  exact ⟨a.1, a.2.1, b.1, b.2.1⟩
theorem Bx3.start (w : World) (t : TypeId) (g1 g2 : Bool) (s1 s2 : ByteArray) : Bx3 (((w.alloc (.cells #[.bool g1, .string s1] t)).alloc (.cells #[.bool g2, .string s2] t)).alloc (.cells #[.bool false, .string ⟨#[]⟩] t)) w.heap.size g1 g2 s1 s2 := by
  refine ⟨⟨?_, ?_, ?_, ?_⟩, ⟨?_, ?_, ?_, ?_⟩, ⟨?_, ?_, ?_, ?_⟩⟩ <;> simp [go_sem]
theorem rval_b {g : Bool} {N : Nat} {b : List UInt8} {z : Int} {w : World} (hb : bytesOf N = b) (h : b.length < 8) (e : (if g then -(N : Int) else (N : Int)) = z) :
    Calls Tryz.prog 66 #[.agg #[.bool g, .string ⟨b.toArray⟩]] w fun e w' => e = .returned (.int .i64 z) ∧ Below w.heap.size w w' := by
  subst hb
  exact rvalN h e
theorem radd_b {N1 N2 N : Nat} {b1 b2 b : List UInt8} {w : World} (e1 : bytesOf N1 = b1) (e2 : bytesOf N2 = b2) (h1 : b1.length ≤ 100000000) (h2 : b2.length ≤ 100000000) (e : N1 + N2 = N) (e3 : bytesOf N = b) :
    Calls Tryz.prog 67 #[.string ⟨b1.toArray⟩, .string ⟨b2.toArray⟩] w fun e w' => e = .returned (.string ⟨b.toArray⟩) ∧ Below w.heap.size w w' := by
  subst e1 e2 e3
  exact raddN h1 h2 e
theorem rsub_b {N1 N2 N : Nat} {b1 b2 b : List UInt8} {w : World} (e1 : bytesOf N1 = b1) (e2 : bytesOf N2 = b2) (h1 : b1.length ≤ 100000000) (h2 : N2 ≤ N1) (e : N1 - N2 = N) (e3 : bytesOf N = b) :
    Calls Tryz.prog 69 #[.string ⟨b1.toArray⟩, .string ⟨b2.toArray⟩] w fun e w' => e = .returned (.string ⟨b.toArray⟩) ∧ Below w.heap.size w w' := by
  subst e1 e2 e3
  exact rsubN h1 h2 e
theorem rmul_b {N1 N2 N : Nat} {b1 b2 b : List UInt8} {w : World} (e1 : bytesOf N1 = b1) (e2 : bytesOf N2 = b2) (h1 : b1.length ≤ 100000000) (h2 : b2.length ≤ 100000000) (e : N1 * N2 = N) (e3 : bytesOf N = b) :
    Calls Tryz.prog 81 #[.string ⟨b1.toArray⟩, .string ⟨b2.toArray⟩] w fun e w' => e = .returned (.string ⟨b.toArray⟩) ∧ Below w.heap.size w w' := by
  subst e1 e2 e3
  exact rmulN h1 h2 e
theorem rcmp_b {N1 N2 : Nat} {b1 b2 : List UInt8} {c : Int} {w : World} (e1 : bytesOf N1 = b1) (e2 : bytesOf N2 = b2) (e : cmpN N1 N2 = c) :
    Calls Tryz.prog 68 #[.string ⟨b1.toArray⟩, .string ⟨b2.toArray⟩] w fun e w' => e = .returned (.int .i64 c) ∧ w' = w := by
  subst e1 e2 e
  exact rcmpMag_any _ _ _
set_option maxRecDepth 100000 in
set_option maxHeartbeats 6400000 in
theorem radd01_any (g1 g2 : Bool) (l1 l2 : List UInt8) (z1 z2 : Int) (w : World) (hl1 : l1.length ≤ 100000000) (hl2 : l2.length ≤ 100000000) (hz1 : zv g1 ⟨l1.toArray⟩ = z1) (hz2 : zv g2 ⟨l2.toArray⟩ = z2) :
    Calls Tryz.prog 33 #[.agg #[.bool g1, .string ⟨l1.toArray⟩], .agg #[.bool g2, .string ⟨l2.toArray⟩]] w (IntOut w (z1 + z2)) := by
  have Hz1 := Lib.hid hz1
  have Hz2 := Lib.hid hz2
  clear hz1 hz2
  obtain ⟨W0, hW0⟩ : ∃ W0, W0 = ((w.alloc (.cells #[.bool g1, .string ⟨l1.toArray⟩] 27)).alloc (.cells #[.bool g2, .string ⟨l2.toArray⟩] 27)).alloc (.cells #[.bool false, .string ⟨#[]⟩] 27) := ⟨_, rfl⟩
  have B0 : Below w.heap.size w W0 := by rw [hW0]; exact below3 w _ _ _
  have X0 : Bx3 W0 w.heap.size g1 g2 ⟨l1.toArray⟩ ⟨l2.toArray⟩ := by rw [hW0]; exact Bx3.start w _ _ _ _ _
  have HW := Lib.hid hW0
  clear hW0
  go_enter Tryz.func33, Tryz.ntmps33
  go_upto_region 1 with fail
  rw [← HW.out]
  go_cut [6] (fun s6 wx => Bx3 wx w.heap.size (sg z1) (sg z2) (mg z1) (mg z2) ∧ Below w.heap.size w wx)
  case first =>
    have KB : Bx3 W0.drew w.heap.size g1 g2 ⟨l1.toArray⟩ ⟨l2.toArray⟩ ∧ Below w.heap.size w W0.drew := ⟨X0, B0.drew⟩
    obtain ⟨⟨x1, x2, x3, x4⟩, ⟨y1, y2, y3, y4⟩, -⟩ := id X0
    go_region_with (first
      | (go_at_call 65; (first | (with_reducible refine (rcan_eq (by omega) Hz1.out).mono ?_) | (with_reducible refine (rcan_eq (by omega) Hz2.out).mono ?_)); rintro e X ⟨rfl, bX⟩; have KB := And.intro (KB.1.keep bX) (below_more KB.2 (Nat.le_refl _) bX); obtain ⟨⟨x1, x2, x3, x4⟩, ⟨y1, y2, y3, y4⟩, -⟩ := id KB.1))
    all_goals go_wp2_with fail
    all_goals go_meet
    all_goals
      have hne : w.heap.size ≠ w.heap.size + 1 := by omega
      first
        | exact ⟨⟨((KB.1.1.set (g' := sg z1) (s' := mg z1)).far (by dsimp only; omega) _).far (by dsimp only; omega) _, ((KB.1.2.1.far (by dsimp only; omega) _).far (by dsimp only; omega) _).set (g' := sg z2) (s' := mg z2), (((KB.1.2.2.far (by dsimp only; omega) _).far (by dsimp only; omega) _).far (by dsimp only; omega) _).far (by dsimp only; omega) _⟩, (((KB.2.setCell (Nat.le_refl _) _).setCell (Nat.le_refl _) _).setCell (Nat.le_succ _) _).setCell (Nat.le_succ _) _⟩
        | exact ⟨⟨((KB.1.1.far (by dsimp only; omega) _).far (by dsimp only; omega) _).set (g' := sg z1) (s' := mg z1), ((KB.1.2.1.set (g' := sg z2) (s' := mg z2)).far (by dsimp only; omega) _).far (by dsimp only; omega) _, (((KB.1.2.2.far (by dsimp only; omega) _).far (by dsimp only; omega) _).far (by dsimp only; omega) _).far (by dsimp only; omega) _⟩, (((KB.2.setCell (Nat.le_succ _) _).setCell (Nat.le_succ _) _).setCell (Nat.le_refl _) _).setCell (Nat.le_refl _) _⟩
  case rest =>
    obtain ⟨KX, B⟩ := hcut
    clear X0 B0 HW
    obtain ⟨N1, E1⟩ : ∃ N, Hid (z1.natAbs = N) := ⟨_, Lib.hid rfl⟩
    obtain ⟨N2, E2⟩ : ∃ N, Hid (z2.natAbs = N) := ⟨_, Lib.hid rfl⟩
    obtain ⟨G1, e1⟩ : ∃ G, Hid (sg z1 = G) := ⟨_, Lib.hid rfl⟩
    obtain ⟨G2, e2⟩ : ∃ G, Hid (sg z2 = G) := ⟨_, Lib.hid rfl⟩
    have V1 := Lib.hid (show (if G1 then -(N1 : Int) else (N1 : Int)) = z1 by rw [← e1.out, ← E1.out]; exact sg_abs z1)
    have V2 := Lib.hid (show (if G2 then -(N2 : Int) else (N2 : Int)) = z2 by rw [← e2.out, ← E2.out]; exact sg_abs z2)
    have L1 : (bytesOf N1).length ≤ 100000000 := by rw [← E1.out, ← Hz1.out, natAbs_zv]; rw [← trim_bytes]; exact Nat.le_trans (stz_len _) hl1
    have L2 : (bytesOf N2).length ≤ 100000000 := by rw [← E2.out, ← Hz2.out, natAbs_zv]; rw [← trim_bytes]; exact Nat.le_trans (stz_len _) hl2
    rw [mg_nat E1.out, mg_nat E2.out, e1.out, e2.out] at KX
    obtain ⟨b1, Hb1⟩ : ∃ b, Hid (bytesOf N1 = b) := ⟨_, Lib.hid rfl⟩
    obtain ⟨b2, Hb2⟩ : ∃ b, Hid (bytesOf N2 = b) := ⟨_, Lib.hid rfl⟩
    rw [Hb1.out, Hb2.out] at KX
    rw [Hb1.out] at L1
    rw [Hb2.out] at L2
    by_cases hs : b1.length < 8 ∧ b2.length < 8
    · obtain ⟨hs1, hs2⟩ := hs
      have hd1 : decide ((b1.length : Int) < 8) = true := decide_eq_true (by omega)
      have hd2 : decide ((b2.length : Int) < 8) = true := decide_eq_true (by omega)
      have hB1 := small_lt (N := N1) (by rw [Hb1.out]; exact hs1)
      have hB2 := small_lt (N := N2) (by rw [Hb2.out]; exact hs2)
      have hz1 : -72057594037927936 < z1 ∧ z1 < 72057594037927936 := by have := E1.out; omega
      have hz2 : -72057594037927936 < z2 ∧ z2 < 72057594037927936 := by have := E2.out; omega
      have hw : IntKind.i64.wrap (z1 + z2) = z1 + z2 := IntWalk.i64_in _ (by omega)
      clear hB1 hB2
      obtain ⟨x1, x2, y1, y2⟩ := KX.flat
      go_upto_region 3 with fail
      clear x1 x2 y1 y2
      have KB : Bx3 wc.drew w.heap.size G1 G2 ⟨b1.toArray⟩ ⟨b2.toArray⟩ ∧ Below w.heap.size w wc.drew := ⟨KX, B.drew⟩
      clear KX B
      obtain ⟨x1, x2, y1, y2⟩ := KB.1.flat
      go_region_held3 (fun W => W.cell? ⟨w.heap.size, 0, none⟩ = some (.bool G1) ∧ W.cell? ⟨w.heap.size, 1, none⟩ = some (.string ⟨b1.toArray⟩) ∧ W.cell? ⟨w.heap.size + 1, 0, none⟩ = some (.bool G2) ∧ W.cell? ⟨w.heap.size + 1, 1, none⟩ = some (.string ⟨b2.toArray⟩)) (first | (with_reducible exact Bx3.flat KB.1) | (with_reducible exact Bx3.flats KB.1) | exact Bx3.flat KB.1)
        (first
          | (go_at_call 66; (first | (with_reducible refine (rval_b Hb1.out hs1 V1.out).mono ?_) | (with_reducible refine (rval_b Hb2.out hs2 V2.out).mono ?_)); rintro e X ⟨rfl, bX⟩; have KB := And.intro (KB.1.keep bX) (below_more KB.2 (Nat.le_refl _) bX))
          | (go_at_call 45; refine (rof01_any (z1 + z2) _ (by omega) (by omega)).mono ?_; rintro e X ⟨rfl, bX⟩; have KB := And.intro (KB.1.keep bX) (below_more KB.2 (Nat.le_refl _) bX); obtain ⟨r1, r2, r3, r4⟩ := KB.1.2.2))
      all_goals
        obtain ⟨r1, r2, r3, r4⟩ := KB.1.2.2
        go_wp2
        exact bodyPost_ret (v := .agg #[.bool (sg (z1 + z2)), .string (mg (z1 + z2))]) (by simp [results, Tryz.results33, go_sem, r1, r2, r3, r4]) rfl ⟨rfl, (KB.2.setCell (by dsimp only; omega) _).setCell (by dsimp only; omega) _⟩
    · have hs' : ((b1.length : Int) < 8) = False ∨ (((b1.length : Int) < 8) = True ∧ ((b2.length : Int) < 8) = False) := by
        by_cases h : b1.length < 8
        · exact Or.inr ⟨eq_true (by omega), eq_false (by omega)⟩
        · exact Or.inl (eq_false (by omega))
      clear hs
      by_cases hg : G1 = G2
      · have hq : (G1 == G2) = true := beq_iff_eq.2 hg
        obtain ⟨N, HN⟩ : ∃ N, Hid (N1 + N2 = N) := ⟨_, Lib.hid rfl⟩
        have HS := Lib.hid (sum_same (z1 := z1) (z2 := z2) (by rw [e1.out, e2.out]; exact hg))
        have HM := Lib.hid (show sg (z1 + z2) = G1 ∧ mg (z1 + z2) = ⟨(bytesOf N).toArray⟩ from ⟨HS.out.1.trans e1.out, mg_nat (by rw [HS.out.2, E1.out, E2.out, HN.out])⟩)
        obtain ⟨bN, HbN⟩ : ∃ b, Hid (bytesOf N = b) := ⟨_, Lib.hid rfl⟩
        rw [HbN.out] at HM
        clear hg HS
        rcases hs' with hd1 | ⟨hd1, hd2⟩
        all_goals
          obtain ⟨x1, x2, y1, y2⟩ := KX.flat
          go_upto_region 5 with fail
          clear x1 x2 y1 y2
          have KB : Bx3 wc.drew w.heap.size G1 G2 ⟨b1.toArray⟩ ⟨b2.toArray⟩ ∧ Below w.heap.size w wc.drew := ⟨KX, B.drew⟩
          clear KX B
          obtain ⟨x1, x2, y1, y2⟩ := KB.1.flat
          go_region_held3 (fun W => W.cell? ⟨w.heap.size, 0, none⟩ = some (.bool G1) ∧ W.cell? ⟨w.heap.size, 1, none⟩ = some (.string ⟨b1.toArray⟩) ∧ W.cell? ⟨w.heap.size + 1, 0, none⟩ = some (.bool G2) ∧ W.cell? ⟨w.heap.size + 1, 1, none⟩ = some (.string ⟨b2.toArray⟩)) (first | (with_reducible exact Bx3.flat KB.1) | (with_reducible exact Bx3.flats KB.1) | exact Bx3.flat KB.1)
            (first
              | (go_at_call 67; refine (radd_b Hb1.out Hb2.out L1 L2 HN.out HbN.out).mono ?_; rintro e X ⟨rfl, bX⟩; have KB := And.intro (KB.1.keep bX) (below_more KB.2 (Nat.le_refl _) bX); obtain ⟨r1, r2, r3, r4⟩ := KB.1.2.2))
          all_goals
            obtain ⟨r1, r2, r3, r4⟩ := KB.1.2.2
            go_wp2
            exact bodyPost_ret (v := .agg #[.bool G1, .string ⟨bN.toArray⟩]) (by simp [results, Tryz.results33, go_sem, r1, r2, r3, r4]) rfl ⟨by rw [HM.out.1, HM.out.2], (KB.2.setCell (by dsimp only; omega) _).setCell (by dsimp only; omega) _⟩
      · have hq : (G1 == G2) = false := beq_eq_false_iff_ne.2 hg
        have hg2 : sg z1 ≠ sg z2 := by rw [e1.out, e2.out]; exact hg
        clear hg
        rcases Nat.lt_trichotomy N1 N2 with ht | ht | ht
        · have hc : cmpN N1 N2 = -1 := by unfold cmpN; rw [if_pos ht]
          obtain ⟨N, HN⟩ : ∃ N, Hid (N2 - N1 = N) := ⟨_, Lib.hid rfl⟩
          have HS := sum_gt (z1 := z2) (z2 := z1) (fun e => hg2 e.symm) (by rw [E1.out, E2.out]; exact ht)
          have HM := Lib.hid (show sg (z1 + z2) = G2 ∧ mg (z1 + z2) = ⟨(bytesOf N).toArray⟩ by rw [Int.add_comm z1 z2]; exact ⟨HS.1.trans e2.out, mg_nat (by rw [HS.2, E1.out, E2.out, HN.out])⟩)
          obtain ⟨bN, HbN⟩ : ∃ b, Hid (bytesOf N = b) := ⟨_, Lib.hid rfl⟩
          rw [HbN.out] at HM
          clear HS
          rcases hs' with hd1 | ⟨hd1, hd2⟩
          all_goals
            obtain ⟨x1, x2, y1, y2⟩ := KX.flat
            go_wp2_with fail
            refine (rcmp_b Hb1.out Hb2.out hc).mono ?_
            rintro e W2 ⟨rfl, h9⟩
            obtain rfl := h9.symm
            obtain ⟨x1, x2, y1, y2⟩ := KX.flat
            go_upto_region 11 with fail
            clear x1 x2 y1 y2
            have KB : Bx3 wc.drew w.heap.size G1 G2 ⟨b1.toArray⟩ ⟨b2.toArray⟩ ∧ Below w.heap.size w wc.drew := ⟨KX, B.drew⟩
            clear KX B
            obtain ⟨x1, x2, y1, y2⟩ := KB.1.flat
            go_region_held3 (fun W => W.cell? ⟨w.heap.size, 0, none⟩ = some (.bool G1) ∧ W.cell? ⟨w.heap.size, 1, none⟩ = some (.string ⟨b1.toArray⟩) ∧ W.cell? ⟨w.heap.size + 1, 0, none⟩ = some (.bool G2) ∧ W.cell? ⟨w.heap.size + 1, 1, none⟩ = some (.string ⟨b2.toArray⟩)) (first | (with_reducible exact Bx3.flat KB.1) | (with_reducible exact Bx3.flats KB.1) | exact Bx3.flat KB.1)
              (first
                | (go_at_call 69; refine (rsub_b Hb2.out Hb1.out L2 (Nat.le_of_lt ht) HN.out HbN.out).mono ?_; rintro e X ⟨rfl, bX⟩; have KB := And.intro (KB.1.keep bX) (below_more KB.2 (Nat.le_refl _) bX); obtain ⟨r1, r2, r3, r4⟩ := KB.1.2.2))
            all_goals
              obtain ⟨r1, r2, r3, r4⟩ := KB.1.2.2
              go_wp2
              exact bodyPost_ret (v := .agg #[.bool G2, .string ⟨bN.toArray⟩]) (by simp [results, Tryz.results33, go_sem, r1, r2, r3, r4]) rfl ⟨by rw [HM.out.1, HM.out.2], (KB.2.setCell (by dsimp only; omega) _).setCell (by dsimp only; omega) _⟩
        · have hc : cmpN N1 N2 = 0 := by unfold cmpN; rw [if_neg (by omega), if_neg (by omega)]
          have HS := sum_eq hg2 (by rw [E1.out, E2.out]; exact ht)
          have HM := Lib.hid (show sg (z1 + z2) = false ∧ mg (z1 + z2) = ⟨#[]⟩ by rw [HS]; exact ⟨sg_zero9, mg_zero9⟩)
          clear HS
          rcases hs' with hd1 | ⟨hd1, hd2⟩
          all_goals
            obtain ⟨x1, x2, y1, y2⟩ := KX.flat
            go_wp2_with fail
            refine (rcmp_b Hb1.out Hb2.out hc).mono ?_
            rintro e W2 ⟨rfl, h9⟩
            obtain rfl := h9.symm
            have KB : Bx3 wc w.heap.size G1 G2 ⟨b1.toArray⟩ ⟨b2.toArray⟩ ∧ Below w.heap.size w wc := ⟨KX, B⟩
            all_goals
              obtain ⟨r1, r2, r3, r4⟩ := KB.1.2.2
              go_wp2
              exact bodyPost_ret (v := .agg #[.bool false, .string ⟨#[]⟩]) (by simp [results, Tryz.results33, go_sem, r1, r2, r3, r4]) rfl ⟨by rw [HM.out.1, HM.out.2], (KB.2.setCell (by dsimp only; omega) _).setCell (by dsimp only; omega) _⟩
        · have hc : cmpN N1 N2 = 1 := by unfold cmpN; rw [if_neg (by omega), if_pos ht]
          obtain ⟨N, HN⟩ : ∃ N, Hid (N1 - N2 = N) := ⟨_, Lib.hid rfl⟩
          have HS := sum_gt hg2 (by rw [E1.out, E2.out]; exact ht)
          have HM := Lib.hid (show sg (z1 + z2) = G1 ∧ mg (z1 + z2) = ⟨(bytesOf N).toArray⟩ from ⟨HS.1.trans e1.out, mg_nat (by rw [HS.2, E1.out, E2.out, HN.out])⟩)
          obtain ⟨bN, HbN⟩ : ∃ b, Hid (bytesOf N = b) := ⟨_, Lib.hid rfl⟩
          rw [HbN.out] at HM
          clear HS
          rcases hs' with hd1 | ⟨hd1, hd2⟩
          all_goals
            obtain ⟨x1, x2, y1, y2⟩ := KX.flat
            go_wp2_with fail
            refine (rcmp_b Hb1.out Hb2.out hc).mono ?_
            rintro e W2 ⟨rfl, h9⟩
            obtain rfl := h9.symm
            obtain ⟨x1, x2, y1, y2⟩ := KX.flat
            go_upto_region 10 with fail
            clear x1 x2 y1 y2
            have KB : Bx3 wc.drew w.heap.size G1 G2 ⟨b1.toArray⟩ ⟨b2.toArray⟩ ∧ Below w.heap.size w wc.drew := ⟨KX, B.drew⟩
            clear KX B
            obtain ⟨x1, x2, y1, y2⟩ := KB.1.flat
            go_region_held3 (fun W => W.cell? ⟨w.heap.size, 0, none⟩ = some (.bool G1) ∧ W.cell? ⟨w.heap.size, 1, none⟩ = some (.string ⟨b1.toArray⟩) ∧ W.cell? ⟨w.heap.size + 1, 0, none⟩ = some (.bool G2) ∧ W.cell? ⟨w.heap.size + 1, 1, none⟩ = some (.string ⟨b2.toArray⟩)) (first | (with_reducible exact Bx3.flat KB.1) | (with_reducible exact Bx3.flats KB.1) | exact Bx3.flat KB.1)
              (first
                | (go_at_call 69; refine (rsub_b Hb1.out Hb2.out L1 (Nat.le_of_lt ht) HN.out HbN.out).mono ?_; rintro e X ⟨rfl, bX⟩; have KB := And.intro (KB.1.keep bX) (below_more KB.2 (Nat.le_refl _) bX); obtain ⟨r1, r2, r3, r4⟩ := KB.1.2.2))
            all_goals
              obtain ⟨r1, r2, r3, r4⟩ := KB.1.2.2
              go_wp2
              exact bodyPost_ret (v := .agg #[.bool G1, .string ⟨bN.toArray⟩]) (by simp [results, Tryz.results33, go_sem, r1, r2, r3, r4]) rfl ⟨by rw [HM.out.1, HM.out.2], (KB.2.setCell (by dsimp only; omega) _).setCell (by dsimp only; omega) _⟩
end Go.Proofs.YtgcogpfmhmmgdaaGreatDoor
