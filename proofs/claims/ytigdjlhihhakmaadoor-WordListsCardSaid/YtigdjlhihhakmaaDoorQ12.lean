/- What word.rank (words of at most 15 letters) and word.Rank return. Condition: a string's length. What integer.Mul returns: the product. Condition: at most 10000000 digits each. -/
import Derived.Test.YtigdjlhihhakmaaDoorQ11
import Derived.Test.YtigdjlhihhakmaaDoorQ09
import Derived.Deep.RegionHeld3
import Derived.Deep.DeepCutAuto

namespace Go.Proofs.YtigdjlhihhakmaaDoor
open Go.RowKit
set_option linter.unusedSimpArgs false

/-- An integer and an error's number. -/
def NumOut (w : World) (z c : Int) (e : Ending) (w' : World) : Prop := e = .returned (.tuple #[.agg #[.bool (sg z), .string (mg z)], .int .i64 c]) ∧ Below w.heap.size w w'
theorem sg0 : sg 0 = false := by decide
theorem mg0 : mg 0 = ⟨#[]⟩ := by unfold mg; rw [show (0 : Int).natAbs = 0 by rfl, bytesOf_zero]
set_option maxRecDepth 100000 in
set_option maxHeartbeats 1600000 in
theorem rank_short (q : Nat) (l : List UInt8) (w : World) (q1 : 1 ≤ q) (q2 : q ≤ 16) (hl : l.length ≤ 15) (hW : Wof q l) :
    Calls Tryd.prog 54 #[.int .i64 (q : Int), .string ⟨l.toArray⟩] w (IntOut w (rk q l)) := by
  have hk := rk_lt hW
  have hp := pow15 (n := l.length) q2 hl
  have HS := Lib.hid (fun W => shortRank_any q l W q1 q2 hl hW)
  obtain ⟨z, hz⟩ : ∃ z : Int, (rk q l : Int) = z := ⟨_, rfl⟩
  have hz0 : 0 ≤ z := by omega
  have hz1 : z < 1152921504606846976 := by omega
  simp only [hz] at HS
  rw [hz]
  clear hk hp hz hW
  have HO := Lib.hid (fun W => iof_any z W (by omega) (by omega))
  have hr := ResCell.new w 43
  have hb := below1 w (.cells #[.bool false, .string ⟨#[]⟩] 43)
  go_enter Tryd.func54, Tryd.ntmps54
  go_wp2_with (first
    | (go_at_call 86; (with_reducible refine (HS.out _).mono ?_); rintro e W1 ⟨rfl, b1⟩)
    | (go_at_call 34; (with_reducible refine (HO.out _).mono ?_); rintro e W2 ⟨rfl, b2⟩; (obtain ⟨r1, r2, r3, r4⟩ := (hr.keep b1).keep b2)))
  exact bodyPost_ret (v := .agg #[.bool (sg z), .string (mg z)]) (by simp [results, Tryd.results54, go_sem, r1, r2]) rfl ⟨rfl, below_more2 (below_more hb (Nat.le_refl _) b1) (Nat.le_refl _) b2 (Nat.le_refl _) (Nat.le_refl _)⟩

/-- The rank, or the error. -/
def rankW (q : Int) (l : List UInt8) : Int := if chk q l = 0 then (rk q.toNat l : Int) else 0
set_option maxRecDepth 100000 in
set_option maxHeartbeats 1600000 in
theorem rank_good (q : Nat) (l : List UInt8) (w : World) (q1 : 1 ≤ q) (q2 : q ≤ 16) (hl : l.length ≤ 65536) (hW : Wof q l) (hR : ∀ W, Calls Tryd.prog 54 #[.int .i64 (q : Int), .string ⟨l.toArray⟩] W (IntOut W (rk q l))) :
    Calls Tryd.prog 31 #[.int .i64 (q : Int), .string ⟨l.toArray⟩] w (NumOut w (rk q l) 0) := by
  have HR := Lib.hid hR
  have HC := Lib.hid (chk_of q1 q2 hl hW)
  have HH := Lib.hid (fun W => check_any (q : Int) l W (by omega))
  simp only [HC.out] at HH
  obtain ⟨z, hz⟩ : ∃ z : Int, (rk q l : Int) = z := ⟨_, rfl⟩
  simp only [hz] at HR
  rw [hz]
  clear hR hW hz
  have hr := ResCell.new w 43
  have hb := below1 w (.cells #[.bool false, .string ⟨#[]⟩] 43)
  go_enter Tryd.func31, Tryd.ntmps31
  go_wp2_with (first
    | (go_at_call 17; (with_reducible refine (HH.out _).mono ?_); rintro e W1 ⟨rfl, b1⟩)
    | (go_at_call 54; (with_reducible refine (HR.out _).mono ?_); rintro e W2 ⟨rfl, b2⟩; (obtain ⟨r1, r2, r3, r4⟩ := (hr.keep b1).keep b2)))
  exact bodyPost_ret (v := .tuple #[.agg #[.bool (sg z), .string (mg z)], .int .i64 0]) (by simp [results, Tryd.results31, go_sem, r1, r2]) rfl ⟨rfl, below_more2 (below_more hb (Nat.le_refl _) b1) (Nat.le_refl _) b2 (Nat.le_refl _) (Nat.le_refl _)⟩
set_option maxRecDepth 100000 in
set_option maxHeartbeats 1600000 in
theorem rank_fail (q : Int) (l : List UInt8) (w : World) (hl : l.length ≤ 9223372036854775807) (h0 : chk q l ≠ 0) :
    Calls Tryd.prog 31 #[.int .i64 q, .string ⟨l.toArray⟩] w (NumOut w 0 (chk q l)) := by
  have HH := Lib.hid (fun W => check_any q l W hl)
  obtain ⟨c, hc⟩ : ∃ c, chk q l = c := ⟨_, rfl⟩
  simp only [hc] at HH
  rw [hc] at h0 ⊢
  have h1 : (c == 0) = false := by rw [beq_eq_false_iff_ne]; exact h0
  clear hc h0
  have hr := ResCell.new w 43
  have hb := below1 w (.cells #[.bool false, .string ⟨#[]⟩] 43)
  go_enter Tryd.func31, Tryd.ntmps31
  go_wp2_with (first
    | (go_at_call 17; (with_reducible refine (HH.out _).mono ?_); rintro e W1 ⟨rfl, b1⟩; (obtain ⟨r1, r2, r3, r4⟩ := hr.keep b1)))
  exact bodyPost_ret (v := .tuple #[.agg #[.bool false, .string ⟨#[]⟩], .int .i64 c]) (by simp [results, Tryd.results31, go_sem, r1, r2]) rfl ⟨by rw [sg0, mg0], below_more2 hb (Nat.le_refl _) b1 (Nat.le_refl _) (Nat.le_refl _)⟩
end Go.Proofs.YtigdjlhihhakmaaDoor

namespace Go.Proofs.YtigdjlhihhakmaaDoor
open Go.RowKit

set_option maxRecDepth 100000 in
set_option maxHeartbeats 3200000 in
theorem imul_any (v1 v2 : Value) (z1 z2 : Int) (k1 k2 : Nat) (w : World) (h1 : IsInt v1 z1 k1) (h2 : IsInt v2 z2 k2) :
    Calls Tryd.prog 87 #[v1, v2] w (IntOut w (z1 * z2)) := by
  obtain ⟨na, sa, rfl, hz1, hs1, hk1, hkk1⟩ := h1
  obtain ⟨nb, sb, rfl, hz2, hs2, hk2, hkk2⟩ := h2
  have g1 : vB sa.data.toList < 4294967296 ^ k1 := by rw [← natAbs_zv na sa, hz1]; exact hk1
  have g2 : vB sb.data.toList < 4294967296 ^ k2 := by rw [← natAbs_zv nb sb, hz2]; exact hk2
  have G1 : Hid (vB sa.data.toList < 4294967296 ^ k1) := g1
  have G2 : Hid (vB sb.data.toList < 4294967296 ^ k2) := g2
  have G3 : Hid (vB sa.data.toList * vB sb.data.toList < 4294967296 ^ (k1 + k2)) := prod_bound g1 g2
  have Hs : Hid (z1 * z2 = if (na != nb) then -((vB sa.data.toList * vB sb.data.toList : Nat) : Int) else ((vB sa.data.toList * vB sb.data.toList : Nat) : Int)) := by rw [← hz1, ← hz2]; exact zv_mul na nb sa sb
  clear hz1 hz2 hk1 hk2 g1 g2
  have hr := (ResCell.new ((w.alloc (.cells #[.bool na, .string sa] 43)).alloc (.cells #[.bool nb, .string sb] 43)) 43).drew
  rw [World.size_alloc, World.size_alloc] at hr
  have hb := below3 w (.cells #[.bool na, .string sa] 43) (.cells #[.bool nb, .string sb] 43) (.cells #[.bool false, .string ⟨#[]⟩] 43)
  have e1 : w.heap.size + 1 + 1 ≠ w.heap.size := by omega
  go_enter Tryd.func87, Tryd.ntmps87
  go_upto_region 1 with fail
  go_region_held3 (fun W => W.cell? ⟨w.heap.size, 0, none⟩ = some (.bool na) ∧ W.cell? ⟨w.heap.size, 1, none⟩ = some (.string sa) ∧ W.cell? ⟨w.heap.size + 1, 0, none⟩ = some (.bool nb) ∧ W.cell? ⟨w.heap.size + 1, 1, none⟩ = some (.string sb)) (first | exact keep4 (by assumption) (by assumption) | go_keep)
    (first
      | (go_at_call_of 59 (Value.agg #[Value.bool na, Value.string sa]); refine (magnitude_any na sa _ (by omega)).mono ?_; rintro e W1 ⟨A1, n1, c1, rfl, i1, b1⟩; have l1 := i1.len G1.out)
      | (go_at_call_of 59 (Value.agg #[Value.bool nb, Value.string sb]); refine (magnitude_any nb sb _ (by omega)).mono ?_; rintro e W2 ⟨A2, n2, c2, rfl, i2, b2⟩; have l2 := i2.len G2.out)
      | (go_at_call 106; refine (mul_any A1 A2 n1 n2 c1 c2 _ _ _ (i1.below (Nat.le_refl _) b2) i2 (by omega) (by omega)).mono ?_; rintro e W3 ⟨A3, n3, c3, rfl, i3, b3⟩; have l3 := i3.len G3.out)
      | (go_at_call 60; refine (signed_any (na != nb) A3 n3 c3 _ _ i3 (by omega)).mono ?_; rintro e W4 ⟨rfl, b4⟩; obtain ⟨r1, r2, r3, r4⟩ := (((hr.keep b1).keep b2).keep b3).keep b4; rw [ivN_eq (na != nb) _ (z1 * z2) Hs.out]))
  all_goals
    go_wp2
    exact bodyPost_ret (v := .agg #[.bool (sg (z1 * z2)), .string (mg (z1 * z2))]) (by simp [results, Tryd.results87, go_sem, r1, r2]) rfl ⟨rfl, below_more2 (below_more (below_more (below_more hb.drew (Nat.le_refl _) b1) (Nat.le_refl _) b2) (Nat.le_refl _) b3) (Nat.le_refl _) b4 (by show w.heap.size ≤ w.heap.size + 1 + 1; omega) (by show w.heap.size ≤ w.heap.size + 1 + 1; omega)⟩
end Go.Proofs.YtigdjlhihhakmaaDoor
