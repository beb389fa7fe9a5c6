/- What integer.Div returns: the quotient rounded down, and the rest. Condition: the divisor is not 0. -/
import Derived.Test.YtgcogpfmhmmgdaaGreatDoorQ10
import Derived.Test.YtgcogpfmhmmgdaaGreatDoorQ11
import Derived.Deep.DeepCutAuto
import Derived.Deep.Cut

namespace Go.Proofs.YtgcogpfmhmmgdaaGreatDoor
open Go.RowKit

/-- The quotient and the rest of the absolute values, rounded so that the quotient of the integers goes down. -/
def dq (s : Bool) (N M : Nat) : Nat := if s = true ∧ N % M ≠ 0 then N / M + 1 else N / M
def dr (s : Bool) (N M : Nat) : Nat := if s = true ∧ N % M ≠ 0 then M - N % M else N % M
/-- The quotient and the rest of two integers. -/
def qD (z1 z2 : Int) : Int := if (sg z1 != sg z2) then -(dq true z1.natAbs z2.natAbs : Int) else (dq false z1.natAbs z2.natAbs : Int)
def rD (z1 z2 : Int) : Int := if sg z2 then -(dr (sg z1 != sg z2) z1.natAbs z2.natAbs : Int) else (dr (sg z1 != sg z2) z1.natAbs z2.natAbs : Int)

theorem sg_zv (ng : Bool) (s : ByteArray) (h : vB s.data.toList ≠ 0) : sg (zv ng s) = ng := by
  unfold sg zv; cases ng <;> simp <;> omega
theorem qD_eq (na nb : Bool) (sa sb : ByteArray) (hb : vB sb.data.toList ≠ 0) :
    qD (zv na sa) (zv nb sb) = if (na != nb) then -((dq (na != nb) (vB sa.data.toList) (vB sb.data.toList) : Nat) : Int) else ((dq (na != nb) (vB sa.data.toList) (vB sb.data.toList) : Nat) : Int) := by
  unfold qD
  rw [natAbs_zv, natAbs_zv, sg_zv nb sb hb]
  by_cases ha : vB sa.data.toList = 0
  · rw [ha]
    have h0 : ∀ s, dq s 0 (vB sb.data.toList) = 0 := fun s => by unfold dq; simp
    rw [h0, h0, h0]; simp
  · rw [sg_zv na sa ha]
    cases na <;> cases nb <;> rfl
theorem rD_eq (na nb : Bool) (sa sb : ByteArray) (hb : vB sb.data.toList ≠ 0) :
    rD (zv na sa) (zv nb sb) = if nb then -((dr (na != nb) (vB sa.data.toList) (vB sb.data.toList) : Nat) : Int) else ((dr (na != nb) (vB sa.data.toList) (vB sb.data.toList) : Nat) : Int) := by
  unfold rD
  rw [natAbs_zv, natAbs_zv, sg_zv nb sb hb]
  by_cases ha : vB sa.data.toList = 0
  · rw [ha]
    have h0 : ∀ s, dr s 0 (vB sb.data.toList) = 0 := fun s => by unfold dr; simp
    rw [h0, h0]
  · rw [sg_zv na sa ha]
theorem nat_pos {w : World} {A : Option Addr} {n c N : Nat} (h : IsNat w A n c N) : (n = 0 ↔ N = 0) := by
  obtain ⟨_, _, f, _, _, tf, hv⟩ := h
  constructor
  · rintro rfl; exact hv.symm
  · intro h0
    rcases Nat.eq_zero_or_pos n with h1 | h1
    · exact h1
    · have := val_ge h1 (tf h1)
      have hp : 0 < 4294967296 ^ (n - 1) := Nat.pow_pos (by omega)
      omega

theorem dq_lt {N k : Nat} (s : Bool) (M : Nat) (h : N < 4294967296 ^ k) : dq s N M < 4294967296 ^ (k + 1) := by
  have h1 : N / M ≤ N := Nat.div_le_self N M
  have h2 : dq s N M ≤ N + 1 := by unfold dq; split <;> omega
  rw [Nat.pow_succ]; omega
theorem dr_le (s : Bool) (N : Nat) {M : Nat} (h : M ≠ 0) : dr s N M ≤ M := by
  have := Nat.mod_lt N (show M > 0 by omega)
  unfold dr; split <;> omega

set_option maxRecDepth 100000 in
set_option maxHeartbeats 3200000 in
theorem idiv_all (v1 v2 : Value) (z1 z2 : Int) (k1 k2 : Nat) (w : World) (h1 : IsInt v1 z1 k1) (h2 : IsInt v2 z2 k2) (h0 : z2 ≠ 0) :
    Calls Tryz.prog 90 #[v1, v2] w fun e w' => e = .returned (.tuple #[.agg #[.bool (sg (qD z1 z2)), .string (mg (qD z1 z2))], .agg #[.bool (sg (rD z1 z2)), .string (mg (rD z1 z2))], .int .i64 0]) ∧ Below w.heap.size w w' := by
  obtain ⟨na, sa, rfl, hz1, hs1, hk1, hkk1⟩ := h1
  obtain ⟨nb, sb, rfl, hz2, hs2, hk2, hkk2⟩ := h2
  have g1 : vB sa.data.toList < 4294967296 ^ k1 := by rw [← natAbs_zv na sa, hz1]; exact hk1
  have g2 : vB sb.data.toList < 4294967296 ^ k2 := by rw [← natAbs_zv nb sb, hz2]; exact hk2
  have hM0 : vB sb.data.toList ≠ 0 := by rw [← natAbs_zv nb sb, hz2]; omega
  have HQ : Hid (qD z1 z2 = if (na != nb) then -((dq (na != nb) (vB sa.data.toList) (vB sb.data.toList) : Nat) : Int) else ((dq (na != nb) (vB sa.data.toList) (vB sb.data.toList) : Nat) : Int)) := by
    rw [← hz1, ← hz2]; exact qD_eq na nb sa sb hM0
  have HR : Hid (rD z1 z2 = if nb then -((dr (na != nb) (vB sa.data.toList) (vB sb.data.toList) : Nat) : Int) else ((dr (na != nb) (vB sa.data.toList) (vB sb.data.toList) : Nat) : Int)) := by
    rw [← hz1, ← hz2]; exact rD_eq na nb sa sb hM0
  have G1 : Hid (vB sa.data.toList < 4294967296 ^ k1) := g1
  have G2 : Hid (vB sb.data.toList < 4294967296 ^ k2) := g2
  clear hz1 hz2 hk1 hk2 g1 g2 h0
  generalize hNg : vB sa.data.toList = N at *
  generalize hMg : vB sb.data.toList = M at *
  have HNg := Lib.hid hNg
  have HMg := Lib.hid hMg
  clear hNg hMg
  go_enter Tryz.func90, Tryz.ntmps90
  go_upto_region 1 with fail
  go_cut [7, 8] (fun s7 s8 wx => ∃ A1 n1 c1 A2 n2 c2, s7 = .slice A1 n1 c1 ∧ s8 = .slice A2 n2 c2 ∧ IsNat wx A1 n1 c1 N ∧ IsNat wx A2 n2 c2 M ∧ Below w.heap.size w wx ∧ Boxes2 wx w.heap.size na nb sa sb ∧ ResCell wx (w.heap.size + 1 + 1) ∧ ResCell wx (w.heap.size + 1 + 1 + 1))
  case first =>
    have S00 := boxes2 w 27 na nb sa sb
    have hb := (below3 w (.cells #[.bool na, .string sa] 27) (.cells #[.bool nb, .string sb] 27) (.cells #[.bool false, .string ⟨#[]⟩] 27)).alloc (by rw [World.size_alloc, World.size_alloc, World.size_alloc]; omega) (.cells #[.bool false, .string ⟨#[]⟩] 27)
    have r5 := (ResCell.new ((w.alloc (.cells #[.bool na, .string sa] 27)).alloc (.cells #[.bool nb, .string sb] 27)) 27).keep (below1 _ (.cells #[.bool false, .string ⟨#[]⟩] 27))
    have r6 := ResCell.new (((w.alloc (.cells #[.bool na, .string sa] 27)).alloc (.cells #[.bool nb, .string sb] 27)).alloc (.cells #[.bool false, .string ⟨#[]⟩] 27)) 27
    rw [World.size_alloc, World.size_alloc] at r5
    rw [World.size_alloc, World.size_alloc, World.size_alloc] at r6
    go_region_held3 (fun W => W.cell? ⟨w.heap.size, 0, none⟩ = some (.bool na) ∧ W.cell? ⟨w.heap.size, 1, none⟩ = some (.string sa) ∧ W.cell? ⟨w.heap.size + 1, 0, none⟩ = some (.bool nb) ∧ W.cell? ⟨w.heap.size + 1, 1, none⟩ = some (.string sb)) (first | exact keep4 (by assumption) (by assumption) | exact keep4aa S00 | go_keep)
      (first
        | (go_at_call_of 73 (Value.agg #[Value.bool na, Value.string sa]); refine (magnitude_any na sa _ (by omega)).mono ?_; rintro e W1 ⟨A1, n1, c1, rfl, i1, b1⟩; rw [HNg.out] at i1)
        | (go_at_call_of 73 (Value.agg #[Value.bool nb, Value.string sb]); refine (magnitude_any nb sb _ (by omega)).mono ?_; rintro e W2 ⟨A2, n2, c2, rfl, i2, b2⟩; rw [HMg.out] at i2))
    rename_i hS
    go_wp2_with fail
    go_meet
    exact ⟨A1, n1, c1, A2, n2, c2, rfl, rfl, i1.below (Nat.le_refl _) b2, i2, below_more (below_more hb.drew (Nat.le_refl _) b1) (Nat.le_refl _) b2, hS, (r5.drew.keep b1).keep b2, (r6.drew.keep b1).keep b2⟩
  case rest =>
    obtain ⟨A1, n1, c1, A2, n2, c2, rfl, rfl, i1, i2, hb, hS, r5, r6⟩ := hcut
    have l1 : n1 ≤ 10000000 := by have := i1.len G1.out; omega
    have l2 : n2 ≤ 10000000 := by have := i2.len G2.out; omega
    have hp2 : ((n2 : Int) == 0) = false := beq_eq_false_iff_ne.2 (fun e => hM0 ((nat_pos i2).1 (by omega)))
    have Hdiv : Hid (∀ W : World, IsNat W A1 n1 c1 N → IsNat W A2 n2 c2 M → Calls Tryz.prog 112 #[.slice A1 n1 c1, .slice A2 n2 c2] W (DivdOut W (N / M) (N % M))) := fun W x1 x2 => by
      by_cases hlt : N < M
      · exact divide_lt A1 A2 n1 n2 c1 c2 N M W x1 x2 hlt
      · by_cases h9 : M < 4294967296
        · exact divide_one A1 A2 n1 n2 c1 c2 N M W x1 x2 l1 hlt hM0 h9
        · exact divide_more A1 A2 n1 n2 c1 c2 N M W x1 x2 (by omega) hlt (by omega)
    obtain ⟨q1, q2, q3, q4⟩ := hS
    go_wp2_with fail
    refine (Hdiv.out _ i1 i2).mono ?_
    rintro e W1 ⟨A3, n3, c3, A4, n4, c4, rfl, i3, i4, b1⟩
    have hb1 := below_more hb (Nat.le_refl _) b1
    have y1 := cell_keep q1 b1
    have y2 := cell_keep q2 b1
    have y3 := cell_keep q3 b1
    have y4 := cell_keep q4 b1
    have R5 := r5.keep b1
    have R6 := r6.keep b1
    have i2' := i2.below (Nat.le_refl _) b1
    clear r5 r6 q1 q2 q3 q4
    have l3 : n3 ≤ 10000000 := by have := i3.len (Nat.lt_of_le_of_lt (Nat.div_le_self N M) G1.out); omega
    have l4 : n4 ≤ 10000000 := by have := i4.len (Nat.lt_trans (Nat.mod_lt N (by omega)) G2.out); omega
    go_upto_region 5 with fail

    go_cut [35] (fun s wx => ∃ bb : Bool, s = .bool bb ∧ Hid (bb = ((na != nb) && decide (0 < n4))) ∧ wx = W1)
    case first =>
      by_cases hnn : na = nb
      · subst hnn
        go_wp2_with fail
        go_meet
        exact ⟨_, rfl, by show _ = _; simp, rfl⟩
      · have hnn' : (!na == nb) = true := by cases na <;> cases nb <;> simp_all
        have hnn2 : (na != nb) = true := by cases na <;> cases nb <;> simp_all
        go_wp2_with fail
        go_meet
        exact ⟨_, rfl, by show _ = _; simp [hnn2], rfl⟩
    case rest =>
      obtain ⟨bb, rfl, hbb, rfl⟩ := hcut
      go_upto_if 35 with fail
      go_cut [9, 10] (fun s9 s10 wx => ∃ A5 n5 c5 A6 n6 c6, s9 = .slice A5 n5 c5 ∧ s10 = .slice A6 n6 c6 ∧ IsNat wx A5 n5 c5 (dq (na != nb) N M) ∧ IsNat wx A6 n6 c6 (dr (na != nb) N M) ∧ Below w.heap.size w wx ∧ Boxes2 wx w.heap.size na nb sa sb ∧ ResCell wx (w.heap.size + 1 + 1) ∧ ResCell wx (w.heap.size + 1 + 1 + 1))
      case first =>
        cases bb with
        | false =>
          have hno : ¬ ((na != nb) = true ∧ N % M ≠ 0) := by
            rintro ⟨e1, e2⟩
            have := hbb.out
            rw [e1] at this
            have h4 : ¬ n4 = 0 := fun e => e2 ((nat_pos i4).1 e)
            have h5 : 0 < n4 := by omega
            simp [h5] at this
          have eq1 : dq (na != nb) N M = N / M := by unfold dq; rw [if_neg hno]
          have eq2 : dr (na != nb) N M = N % M := by unfold dr; rw [if_neg hno]
          go_wp2_with fail
          go_meet
          rw [eq1, eq2]
          exact ⟨A3, n3, c3, A4, n4, c4, rfl, rfl, i3, i4, hb1, ⟨y1, y2, y3, y4⟩, R5, R6⟩
        | true =>
          have hyes : (na != nb) = true ∧ N % M ≠ 0 := by
            have h := hbb.out.symm
            rw [Bool.and_eq_true, decide_eq_true_eq] at h
            exact ⟨h.1, fun e => by have := (nat_pos i4).2 e; omega⟩
          have eq1 : dq (na != nb) N M = N / M + 1 := by unfold dq; rw [if_pos hyes]
          have eq2 : dr (na != nb) N M = M - N % M := by unfold dr; rw [if_pos hyes]
          have hone := one_nat wc 93
          have hal := below1 wc (.cells #[.int .u32 1] 93)
          go_wp2_with fail
          refine (add_any _ _ _ _ _ _ _ _ _ (i3.below (Nat.le_refl _) hal) hone (by omega) (by omega)).mono ?_
          rintro e W2 ⟨A5, n5, c5, rfl, i5, b2⟩
          have b2' := below_more hal (Nat.le_refl _) b2
          go_wp2_with fail
          refine (subtract_any _ _ _ _ _ _ _ _ _ (i2'.below (Nat.le_refl _) b2') (i4.below (Nat.le_refl _) b2') (by omega) (by omega) (Nat.le_of_lt (Nat.mod_lt N (by omega)))).mono ?_
          rintro e W3 ⟨A6, n6, c6, rfl, i6, b3⟩
          have b3' := below_more b2' (Nat.le_refl _) b3
          go_wp2_with fail
          go_meet
          rw [eq1, eq2]
          exact ⟨A5, n5, c5, A6, n6, c6, rfl, rfl, i5.below (Nat.le_refl _) b3, i6, below_more hb1 (Nat.le_refl _) b3', ⟨cell_keep y1 b3', cell_keep y2 b3', cell_keep y3 b3', cell_keep y4 b3'⟩, R5.keep b3', R6.keep b3'⟩
      case rest =>
        obtain ⟨A5, n5, c5, A6, n6, c6, rfl, rfl, i5, i6, hb2, hS, P5, P6⟩ := hcut
        clear y1 y2 y3 y4 R5 R6 i2' i3 i4 hb1
        have l5 : n5 ≤ 1000000000 := by have := i5.len (dq_lt (na != nb) M G1.out); omega
        have l6 : n6 ≤ 1000000000 := by have := i6.len (Nat.lt_of_le_of_lt (dr_le (na != nb) N hM0) G2.out); omega
        have e1 : w.heap.size + 1 + 1 ≠ w.heap.size := by omega
        have e2 : w.heap.size + 1 + 1 ≠ w.heap.size + 1 := by omega
        have e3 : w.heap.size + 1 + 1 + 1 ≠ w.heap.size := by omega
        have e4 : w.heap.size + 1 + 1 + 1 ≠ w.heap.size + 1 := by omega
        have e5 : w.heap.size + 1 + 1 ≠ w.heap.size + 1 + 1 + 1 := by omega
        have e6 : w.heap.size + 1 + 1 + 1 ≠ w.heap.size + 1 + 1 := by omega
        have I5 : IsNat wc.drew A5 n5 c5 (dq (na != nb) N M) := i5
        have I6 : IsNat wc.drew A6 n6 c6 (dr (na != nb) N M) := i6
        clear i5 i6
        go_upto_region 7 with fail
        go_region_held3 (fun W => W.cell? ⟨w.heap.size, 0, none⟩ = some (.bool na) ∧ W.cell? ⟨w.heap.size, 1, none⟩ = some (.string sa) ∧ W.cell? ⟨w.heap.size + 1, 0, none⟩ = some (.bool nb) ∧ W.cell? ⟨w.heap.size + 1, 1, none⟩ = some (.string sb)) (first | exact keep4 (by assumption) (by assumption) | exact hS | go_keep)
          (first
            | (go_at_call_of 74 (Value.slice A5 n5 c5); refine (signed_any (na != nb) A5 n5 c5 _ _ I5 (by omega)).mono ?_; rintro e W2 ⟨rfl, b2⟩; rw [ivN_eq (na != nb) _ (qD z1 z2) HQ.out])
            | (go_at_call_of 74 (Value.slice A6 n6 c6); refine (signed_any nb A6 n6 c6 _ _ (I6.below (Nat.le_refl _) b2) (by omega)).mono ?_; rintro e W3 ⟨rfl, b3⟩; obtain ⟨r1, r2, r3, r4⟩ := ((P5.drew.keep b2).keep b3); obtain ⟨q1, q2, q3, q4⟩ := ((P6.drew.keep b2).keep b3); rw [ivN_eq nb _ (rD z1 z2) HR.out]))
        all_goals
          go_wp2
          exact bodyPost_ret (v := .tuple #[.agg #[.bool (sg (qD z1 z2)), .string (mg (qD z1 z2))], .agg #[.bool (sg (rD z1 z2)), .string (mg (rD z1 z2))], .int .i64 0]) (by simp [results, Tryz.results90, go_sem, r1, r2, q1, q2]) rfl ⟨rfl, below_more2 (below_more2 (below_more hb2.drew (Nat.le_refl _) b2) (Nat.le_refl _) b3 (by show w.heap.size ≤ w.heap.size + 1 + 1; omega) (by show w.heap.size ≤ w.heap.size + 1 + 1; omega)) (Nat.le_refl _) (Below.refl _ _) (by show w.heap.size ≤ w.heap.size + 1 + 1 + 1; omega) (by show w.heap.size ≤ w.heap.size + 1 + 1 + 1; omega)⟩
theorem idiv_any (v1 v2 : Value) (z1 z2 : Int) (k1 k2 : Nat) (w : World) (h1 : IsInt v1 z1 k1) (h2 : IsInt v2 z2 k2) (h0 : z2 ≠ 0) (_hs : z1.natAbs < z2.natAbs ∨ z2.natAbs < 4294967296) :
    Calls Tryz.prog 90 #[v1, v2] w fun e w' => e = .returned (.tuple #[.agg #[.bool (sg (qD z1 z2)), .string (mg (qD z1 z2))], .agg #[.bool (sg (rD z1 z2)), .string (mg (rD z1 z2))], .int .i64 0]) ∧ Below w.heap.size w w' := idiv_all v1 v2 z1 z2 k1 k2 w h1 h2 h0
end Go.Proofs.YtgcogpfmhmmgdaaGreatDoor
