/- RunsReversed returns true for every input. -/
import Derived.Test.YtokpfbbhkmlclaaDoorUx1
import Derived.Test.YtokpfbbhkmlclaaDoorUv
namespace Go.Proofs.YtokpfbbhkmlclaaDoor
open Go.RowKit
set_option linter.unusedSimpArgs false
set_option linter.unusedVariables false

theorem wof_rev {q : Nat} {l : List UInt8} (h : Wof q l) : Wof q l.reverse := fun c hc => h c (List.mem_reverse.1 hc)
set_option maxRecDepth 100000 in
set_option maxHeartbeats 6400000 in
theorem runsReversed_any (l : List UInt8) (w : World) (hl : l.length ≤ 9223372036854775807) :
    Calls Tryd.prog 9 #[.string ⟨l.toArray⟩] w fun e w' => e = .returned (.bool true) ∧ Below w.heap.size w w' := by
  rcases small_or l.length hl with hs | hg
  · have HG := Lib.hid (fun W => refGreat_small l W hs)
    have HK := Lib.hid (fun W => refCheck_any 2 l W hl)
    by_cases h0 : chk 2 l = 0
    · obtain ⟨m, hm, m1, m2, hl2, hW⟩ := chk_zero h0
      obtain rfl : m = 2 := by omega
      have hl3 : l.length ≤ 60 := by omega
      have hr0 : chk 2 l.reverse = 0 := chk_of (m := 2) (by omega) (by omega) (by rw [List.length_reverse]; omega) (wof_rev hW)
      simp only [h0] at HK
      have HV := Lib.hid (fun W => reverse_any l W (by omega))
      have H1 := Lib.hid (fun W => range_any l W (Or.inl (by omega)))
      have H2 := Lib.hid (fun W => range_any l.reverse W (Or.inl (by rw [List.length_reverse]; omega)))
      have H3 := Lib.hid (fun W => disparity_any l W (Or.inl (by omega)))
      have H4 := Lib.hid (fun W => disparity_any l.reverse W (Or.inl (by rw [List.length_reverse]; omega)))
      rw [show rngR l = (loC l, hiC l, 0) by unfold rngR; rw [if_pos h0]] at H1
      rw [show rngR l.reverse = (chg l - hiC l, chg l - loC l, 0) by unfold rngR; rw [if_pos hr0, loC_rev, hiC_rev]] at H2
      rw [show dspR l = (chg l, 0) by unfold dspR; rw [if_pos h0]] at H3
      rw [show dspR l.reverse = (chg l, 0) by unfold dspR; rw [if_pos hr0, chg_rev]] at H4
      have p1 := loC_bound hW
      have p2 := hiC_bound hW
      have p3 := loC_le (last_mem_chgs l)
      have p4 := le_hiC (last_mem_chgs l)
      obtain ⟨R, hR⟩ : ∃ R, l.reverse = R := ⟨_, rfl⟩
      rw [hR] at H2 H4
      simp only [hR] at HV
      obtain ⟨a, ha⟩ : ∃ a, loC l = a := ⟨_, rfl⟩
      obtain ⟨b, hb⟩ : ∃ a, hiC l = a := ⟨_, rfl⟩
      obtain ⟨c, hc⟩ : ∃ a, chg l = a := ⟨_, rfl⟩
      rw [ha, hb] at H1
      rw [ha, hb, hc] at H2
      rw [hc] at H3 H4 p3 p4
      rw [ha] at p1 p3
      rw [hb] at p2 p4
      clear h0 hm m1 m2 hl2 hW hr0 hR ha hb hc hs
      have e1 : (c == c) = true := by simp
      have q1 : a ≤ 0 := p1.2
      have q2 : 0 ≤ b := p2.1
      have d1 : decide (0 < a) = false := decide_eq_false (by omega)
      have d2 : decide (b < 0) = false := decide_eq_false (by omega)
      have d3 : decide (c < a) = false := decide_eq_false (by omega)
      have d4 : decide (b < c) = false := decide_eq_false (by omega)
      have w1 : IntKind.i64.wrap (b - a) = b - a := by rw [IntKind.wrap_i64]; omega
      have w2 : IntKind.i64.wrap (c - a - (c - b)) = c - a - (c - b) := by rw [IntKind.wrap_i64]; omega
      have e2 : (b - a == c - a - (c - b)) = true := by rw [beq_iff_eq]; omega
      go_enter Tryd.func9, Tryd.ntmps9
      go_wp2_with (first
        | (go_at_call 10; (with_reducible refine (HG.out _).mono ?_); rintro e W0 ⟨rfl, hW⟩; (rw [hW]); (clear hW))
        | (go_at_call 31; (with_reducible refine (HK.out _).mono ?_); rintro e W0 ⟨rfl, hW⟩; (rw [hW]); (clear hW))
        | (go_at_call 33; (with_reducible refine (HV.out _).mono ?_); (first | (rintro e W2 ⟨rfl, b2⟩; (have B2 := below_more b1 (Nat.le_refl _) b2); (clear b1 b2)) | (rintro e W5 ⟨rfl, b5⟩; (have B5 := below_more B4 (Nat.le_refl _) b5))))
        | (go_at_call 28; first
            | ((with_reducible refine (H1.out _).mono ?_); rintro e W1 ⟨rfl, b1⟩)
            | ((with_reducible refine (H2.out _).mono ?_); rintro e W3 ⟨rfl, b3⟩; (have B3 := below_more B2 (Nat.le_refl _) b3)))
        | (go_at_call 26; first
            | ((with_reducible refine (H3.out _).mono ?_); rintro e W4 ⟨rfl, b4⟩; (have B4 := below_more B3 (Nat.le_refl _) b4))
            | ((with_reducible refine (H4.out _).mono ?_); rintro e W6 ⟨rfl, b6⟩; (have B6 := below_more B5 (Nat.le_refl _) b6)))
        | (go_at_call 12; (with_reducible refine (awake_any _).mono ?_); rintro e W8 ⟨rfl, b8⟩))
      go_ret
      exact ⟨rfl, below_more B6 (Nat.le_refl _) b8⟩
    · obtain ⟨c, hc⟩ : ∃ c, chk 2 l = c := ⟨_, rfl⟩
      simp only [hc] at HK
      rw [hc] at h0
      have h1 : (c == 0) = false := by rw [beq_eq_false_iff_ne]; exact h0
      clear hc h0 hs
      go_enter Tryd.func9, Tryd.ntmps9
      go_wp2_with (first
        | (go_at_call 10; (with_reducible refine (HG.out _).mono ?_); rintro e W0 ⟨rfl, hW⟩; (rw [hW]); (clear hW))
        | (go_at_call 31; (with_reducible refine (HK.out _).mono ?_); rintro e W0 ⟨rfl, hW⟩; (rw [hW]); (clear hW))
        | (go_at_call 12; (with_reducible refine (awake_any _).mono ?_); rintro e W8 ⟨rfl, b8⟩))
      go_ret
      exact ⟨rfl, b8⟩
  · have HG := Lib.hid (fun W => refGreat_great l W hg)
    clear hg
    go_enter Tryd.func9, Tryd.ntmps9
    go_wp2_with (first
      | (go_at_call 10; (with_reducible refine (HG.out _).mono ?_); rintro e W0 ⟨rfl, hW⟩; (rw [hW]); (clear hW))
      | (go_at_call 12; (with_reducible refine (awake_any _).mono ?_); rintro e W8 ⟨rfl, b8⟩))
    go_ret
    exact ⟨rfl, b8⟩
end Go.Proofs.YtokpfbbhkmlclaaDoor
