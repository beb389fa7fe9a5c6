/- What word.rank (words of at most 15 letters) and word.Rank return. Condition: a string's length. -/
import Derived.Test.YtigdjlhihhakmaaDoorWe
namespace Go.Proofs.YtigdjlhihhakmaaDoor
open Go.RowKit
set_option linter.unusedSimpArgs false

/-- An integer and an error's number. -/
def NumOut (w : World) (z c : Int) (e : Ending) (w' : World) : Prop := e = .returned (.tuple #[.agg #[.bool (sg z), .string (mg z)], .int .i64 c]) ∧ Below w.heap.size w w'
theorem sg0 : sg 0 = false := by decide
theorem mg0 : mg 0 = ⟨#[]⟩ := by unfold mg; rw [show (0 : Int).natAbs = 0 by rfl, bytesOf_zero]
set_option maxRecDepth 100000 in
set_option maxHeartbeats 1600000 in
theorem rank_short (q : Nat) (l : List UInt8) (w : World) (q1 : 1 ≤ q) (q2 : q ≤ 16) (hl : l.length ≤ 15) (hW : Wof q l) :
    Calls Tryd.prog 54 #[.int .i64 (q : Int), .string ⟨l.toArray⟩] w (IntOut w (rk q l)) := by
  have hk := rk_lt hW
  have hp := pow15 (n := l.length) q2 hl
  have HS := Lib.hid (fun W => shortRank_any q l W q1 q2 hl hW)
  obtain ⟨z, hz⟩ : ∃ z : Int, (rk q l : Int) = z := ⟨_, rfl⟩
  have hz0 : 0 ≤ z := by omega
  have hz1 : z < 1152921504606846976 := by omega
  simp only [hz] at HS
  rw [hz]
  clear hk hp hz hW
  have HO := Lib.hid (fun W => iof_any z W (by omega) (by omega))
  have hr := ResCell.new w 43
  have hb := below1 w (.cells #[.bool false, .string ⟨#[]⟩] 43)
  go_enter Tryd.func54, Tryd.ntmps54
  go_wp2_with (first
    | (go_at_call 86; (with_reducible refine (HS.out _).mono ?_); rintro e W1 ⟨rfl, b1⟩)
    | (go_at_call 34; (with_reducible refine (HO.out _).mono ?_); rintro e W2 ⟨rfl, b2⟩; (obtain ⟨r1, r2, r3, r4⟩ := (hr.keep b1).keep b2)))
  exact bodyPost_ret (v := .agg #[.bool (sg z), .string (mg z)]) (by simp [results, Tryd.results54, go_sem, r1, r2]) rfl ⟨rfl, below_more2 (below_more hb (Nat.le_refl _) b1) (Nat.le_refl _) b2 (Nat.le_refl _) (Nat.le_refl _)⟩

/-- The rank, or the error. -/
def rankW (q : Int) (l : List UInt8) : Int := if chk q l = 0 then (rk q.toNat l : Int) else 0
set_option maxRecDepth 100000 in
set_option maxHeartbeats 1600000 in
theorem rank_good (q : Nat) (l : List UInt8) (w : World) (q1 : 1 ≤ q) (q2 : q ≤ 16) (hl : l.length ≤ 65536) (hW : Wof q l) (hR : ∀ W, Calls Tryd.prog 54 #[.int .i64 (q : Int), .string ⟨l.toArray⟩] W (IntOut W (rk q l))) :
    Calls Tryd.prog 31 #[.int .i64 (q : Int), .string ⟨l.toArray⟩] w (NumOut w (rk q l) 0) := by
  have HR := Lib.hid hR
  have HC := Lib.hid (chk_of q1 q2 hl hW)
  have HH := Lib.hid (fun W => check_any (q : Int) l W (by omega))
  simp only [HC.out] at HH
  obtain ⟨z, hz⟩ : ∃ z : Int, (rk q l : Int) = z := ⟨_, rfl⟩
  simp only [hz] at HR
  rw [hz]
  clear hR hW hz
  have hr := ResCell.new w 43
  have hb := below1 w (.cells #[.bool false, .string ⟨#[]⟩] 43)
  go_enter Tryd.func31, Tryd.ntmps31
  go_wp2_with (first
    | (go_at_call 17; (with_reducible refine (HH.out _).mono ?_); rintro e W1 ⟨rfl, b1⟩)
    | (go_at_call 54; (with_reducible refine (HR.out _).mono ?_); rintro e W2 ⟨rfl, b2⟩; (obtain ⟨r1, r2, r3, r4⟩ := (hr.keep b1).keep b2)))
  exact bodyPost_ret (v := .tuple #[.agg #[.bool (sg z), .string (mg z)], .int .i64 0]) (by simp [results, Tryd.results31, go_sem, r1, r2]) rfl ⟨rfl, below_more2 (below_more hb (Nat.le_refl _) b1) (Nat.le_refl _) b2 (Nat.le_refl _) (Nat.le_refl _)⟩
set_option maxRecDepth 100000 in
set_option maxHeartbeats 1600000 in
theorem rank_fail (q : Int) (l : List UInt8) (w : World) (hl : l.length ≤ 9223372036854775807) (h0 : chk q l ≠ 0) :
    Calls Tryd.prog 31 #[.int .i64 q, .string ⟨l.toArray⟩] w (NumOut w 0 (chk q l)) := by
  have HH := Lib.hid (fun W => check_any q l W hl)
  obtain ⟨c, hc⟩ : ∃ c, chk q l = c := ⟨_, rfl⟩
  simp only [hc] at HH
  rw [hc] at h0 ⊢
  have h1 : (c == 0) = false := by rw [beq_eq_false_iff_ne]; exact h0
  clear hc h0
  have hr := ResCell.new w 43
  have hb := below1 w (.cells #[.bool false, .string ⟨#[]⟩] 43)
  go_enter Tryd.func31, Tryd.ntmps31
  go_wp2_with (first
    | (go_at_call 17; (with_reducible refine (HH.out _).mono ?_); rintro e W1 ⟨rfl, b1⟩; (obtain ⟨r1, r2, r3, r4⟩ := hr.keep b1)))
  exact bodyPost_ret (v := .tuple #[.agg #[.bool false, .string ⟨#[]⟩], .int .i64 c]) (by simp [results, Tryd.results31, go_sem, r1, r2]) rfl ⟨by rw [sg0, mg0], below_more2 hb (Nat.le_refl _) b1 (Nat.le_refl _) (Nat.le_refl _)⟩
end Go.Proofs.YtigdjlhihhakmaaDoor
