/- RunsLevels returns true for every input. -/
import Derived.Test.YtokpfbbhkmlclaaDoorUx1
import Derived.Test.YtokpfbbhkmlclaaDoorUo
namespace Go.Proofs.YtokpfbbhkmlclaaDoor
open Go.RowKit
set_option linter.unusedSimpArgs false
set_option linter.unusedVariables false

set_option maxRecDepth 100000 in
set_option maxHeartbeats 6400000 in
theorem runsLevels_any (s : Int) (l : List UInt8) (w : World) (hl : l.length ≤ 9223372036854775807) :
    Calls Tryd.prog 4 #[.int .i64 s, .string ⟨l.toArray⟩] w fun e w' => e = .returned (.bool true) ∧ Below w.heap.size w w' := by
  rcases small_or l.length hl with hs | hg
  · have hs2 : l.length ≤ 1000 ∨ (65536 < l.length ∧ l.length ≤ 9223372036854775807) := by omega
    have HG := Lib.hid (fun W => refGreat_small l W hs)
    have H1 := Lib.hid (fun W => levels_any s l W hs2)
    have H2 := Lib.hid (fun W => refLevels_any s l W hs2)
    have H3 := Lib.hid (fun W => transitions_any s l W hs2)
    have H4 := Lib.hid (fun W => refTransitions_any s l W hs2)
    obtain ⟨⟨A, E⟩, h1⟩ : ∃ r, levR s l = r := ⟨_, rfl⟩
    obtain ⟨⟨X, G⟩, h2⟩ : ∃ r, trsR s l = r := ⟨_, rfl⟩
    rw [h1] at H1
    simp only [h1] at H2
    rw [h2] at H3
    simp only [h2] at H4
    clear h1 h2 hs hs2
    have e1 : (E == E) = true := by simp
    have e2 : (G == G) = true := by simp
    have e3 : (A == A) = true := by simp
    have e4 : (X == X) = true := by simp
    go_enter Tryd.func4, Tryd.ntmps4
    go_wp2_with (first
      | (go_at_call 10; (with_reducible refine (HG.out _).mono ?_); rintro e W0 ⟨rfl, hW⟩; (rw [hW]); (clear hW))
      | (go_at_call 20; (with_reducible refine (H1.out _).mono ?_); rintro e W1 ⟨rfl, b1⟩)
      | (go_at_call 21; (with_reducible refine (H2.out _).mono ?_); rintro e W2 ⟨rfl, hW⟩; (rw [hW]); (clear hW))
      | (go_at_call 22; (with_reducible refine (H3.out _).mono ?_); rintro e W3 ⟨rfl, b3⟩)
      | (go_at_call 23; (with_reducible refine (H4.out _).mono ?_); rintro e W4 ⟨rfl, hW⟩; (rw [hW]); (clear hW))
      | (go_at_call 12; (with_reducible refine (awake_any _).mono ?_); rintro e W8 ⟨rfl, b8⟩))
    go_ret
    exact ⟨rfl, below_more (below_more b1 (Nat.le_refl _) b3) (Nat.le_refl _) b8⟩
  · have HG := Lib.hid (fun W => refGreat_great l W hg)
    clear hg
    go_enter Tryd.func4, Tryd.ntmps4
    go_wp2_with (first
      | (go_at_call 10; (with_reducible refine (HG.out _).mono ?_); rintro e W0 ⟨rfl, hW⟩; (rw [hW]); (clear hW))
      | (go_at_call 12; (with_reducible refine (awake_any _).mono ?_); rintro e W8 ⟨rfl, b8⟩))
    go_ret
    exact ⟨rfl, b8⟩
end Go.Proofs.YtokpfbbhkmlclaaDoor
