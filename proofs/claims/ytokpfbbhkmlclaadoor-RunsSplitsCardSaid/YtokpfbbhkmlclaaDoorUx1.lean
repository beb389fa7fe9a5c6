/- RunsCharges returns true for every input. -/
import Derived.Test.YtokpfbbhkmlclaaDoorUw
import Derived.Test.YtokpfbbhkmlclaaDoorUn
namespace Go.Proofs.YtokpfbbhkmlclaaDoor
open Go.RowKit
set_option linter.unusedSimpArgs false
set_option linter.unusedVariables false

/-- What a law examines: up to 60 letters, or too many. -/
theorem small_or (n : Nat) (h : n ≤ 9223372036854775807) : (n ≤ 60 ∨ (65536 < n ∧ n ≤ 65544)) ∨ ((60 < n ∧ n ≤ 65536) ∨ (65544 < n ∧ n ≤ 9223372036854775807)) := by omega
set_option maxRecDepth 100000 in
set_option maxHeartbeats 6400000 in
theorem runsCharges_any (l : List UInt8) (w : World) (hl : l.length ≤ 9223372036854775807) :
    Calls Tryd.prog 5 #[.string ⟨l.toArray⟩] w fun e w' => e = .returned (.bool true) ∧ Below w.heap.size w w' := by
  rcases small_or l.length hl with hs | hg
  · have hs2 : l.length ≤ 1000 ∨ (65536 < l.length ∧ l.length ≤ 9223372036854775807) := by omega
    have HG := Lib.hid (fun W => refGreat_small l W hs)
    have H1 := Lib.hid (fun W => charges_any l W hs2)
    have H2 := Lib.hid (fun W => refCharges_any l W hs2)
    have H3 := Lib.hid (fun W => disparity_any l W hs2)
    have H4 := Lib.hid (fun W => refDisparity_any l W hs2)
    have H5 := Lib.hid (fun W => range_any l W hs2)
    have H6 := Lib.hid (fun W => refRange_any l W hs2)
    have hLl : (chgR l).1.length ≤ 1001 := by
      unfold chgR
      split
      · next h0 =>
        obtain ⟨m, hm, m1, m2, hl2, hW⟩ := chk_zero h0
        rw [chgs_len]; omega
      · exact Nat.zero_le _
    obtain ⟨⟨L, E⟩, h1⟩ : ∃ r, chgR l = r := ⟨_, rfl⟩
    obtain ⟨⟨D, F⟩, h2⟩ : ∃ r, dspR l = r := ⟨_, rfl⟩
    obtain ⟨⟨X, Y, G⟩, h3⟩ : ∃ r, rngR l = r := ⟨_, rfl⟩
    rw [h1] at H1 H2 hLl
    rw [h2] at H3 H4
    rw [h3] at H5 H6
    have hL2 : L.length ≤ 1000000 := Nat.le_trans hLl (by decide)
    clear h1 h2 h3 hs hs2
    have e1 : (E == E) = true := by simp
    have e2 : (D == D) = true := by simp
    have e3 : (F == F) = true := by simp
    have e4 : (X == X) = true := by simp
    have e5 : (Y == Y) = true := by simp
    have e6 : (G == G) = true := by simp
    go_enter Tryd.func5, Tryd.ntmps5
    go_wp2_with (first
      | (go_at_call 10; (with_reducible refine (HG.out _).mono ?_); rintro e W0 ⟨rfl, hW⟩; (rw [hW]); (clear hW))
      | (go_at_call 24; (with_reducible refine (H1.out _).mono ?_); rintro e W1 ⟨v1, rfl, i1, b1⟩; (obtain ⟨a1, c1, rfl⟩ := i1.slice))
      | (go_at_call 25; (with_reducible refine (H2.out _).mono ?_); rintro e W2 ⟨v2, rfl, i2, b2⟩; (obtain ⟨a2, c2, rfl⟩ := i2.slice))
      | (go_at_call 26; (with_reducible refine (H3.out _).mono ?_); rintro e W3 ⟨rfl, b3⟩)
      | (go_at_call 27; (with_reducible refine (H4.out _).mono ?_); rintro e W4 ⟨rfl, b4⟩)
      | (go_at_call 28; (with_reducible refine (H5.out _).mono ?_); rintro e W5 ⟨rfl, b5⟩)
      | (go_at_call 29; (with_reducible refine (H6.out _).mono ?_); rintro e W6 ⟨rfl, b6⟩)
      | (go_at_call 30; (refine (intsEq_any (((((i1.keep b2).keep b3).keep b4).keep b5).keep b6) ((((i2.keep b3).keep b4).keep b5).keep b6) hL2).mono ?_); rintro e W7 ⟨rfl, b7⟩)
      | (go_at_call 12; (with_reducible refine (awake_any _).mono ?_); rintro e W8 ⟨rfl, b8⟩))
    go_ret
    exact ⟨rfl, below_more (below_more (below_more (below_more (below_more (below_more (below_more b1 (Nat.le_refl _) b2) (Nat.le_refl _) b3) (Nat.le_refl _) b4) (Nat.le_refl _) b5) (Nat.le_refl _) b6) (Nat.le_refl _) b7) (Nat.le_refl _) b8⟩
  · have HG := Lib.hid (fun W => refGreat_great l W hg)
    clear hg
    go_enter Tryd.func5, Tryd.ntmps5
    go_wp2_with (first
      | (go_at_call 10; (with_reducible refine (HG.out _).mono ?_); rintro e W0 ⟨rfl, hW⟩; (rw [hW]); (clear hW))
      | (go_at_call 12; (with_reducible refine (awake_any _).mono ?_); rintro e W8 ⟨rfl, b8⟩))
    go_ret
    exact ⟨rfl, b8⟩
end Go.Proofs.YtokpfbbhkmlclaaDoor
