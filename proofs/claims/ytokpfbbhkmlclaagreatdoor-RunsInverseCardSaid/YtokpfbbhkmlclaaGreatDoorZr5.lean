/- RunsInverse returns true for every input. -/
import Derived.Test.YtokpfbbhkmlclaaGreatDoorZr4
import Derived.Test.YtokpfbbhkmlclaaGreatDoorUw
import Derived.Test.YtokpfbbhkmlclaaGreatDoorUj
import Derived.Test.YtokpfbbhkmlclaaGreatDoorUd
namespace Go.Proofs.YtokpfbbhkmlclaaGreatDoor
open Go.RowKit
set_option linter.unusedSimpArgs false
set_option linter.unusedVariables false

theorem levR_good {s : Nat} {l : List UInt8} (hs : s < 2) (h0 : chk 2 l = 0) : levR (s : Int) l = (levs s l, 0) := by
  unfold levR
  rw [if_pos (by unfold chkV; rw [if_pos h0, if_pos (by omega)]), Int.toNat_natCast]
theorem trsR_good {s : Nat} {l : List UInt8} (hs : s < 2) (h0 : chk 2 l = 0) : trsR (s : Int) l = (trs s l, 0) := by
  unfold trsR
  rw [if_pos (by unfold chkV; rw [if_pos h0, if_pos (by omega)]), Int.toNat_natCast]
theorem four_new (W : World) : Four (W.alloc (.cells #[.string ⟨#[48]⟩, .string ⟨#[49]⟩, .string ⟨#[49]⟩, .string ⟨#[48]⟩] 9)) W.heap.size := by
  refine ⟨?_, ?_, ?_, ?_⟩ <;> simp [go_sem]
set_option maxRecDepth 100000 in
set_option maxHeartbeats 6400000 in
theorem runsInverse_any (q : Nat) (l : List UInt8) (w : World) (hq : q < 256) (hl : l.length ≤ 9223372036854775807) :
    Calls Tryz.prog 3 #[.int .u8 (q : Int), .string ⟨l.toArray⟩] w fun e w' => e = .returned (.bool true) ∧ Below w.heap.size w w' := by
  rcases small_or l.length hl with hs | hg
  · have HG := Lib.hid (fun W => refGreat_small l W hs)
    have HK := Lib.hid (fun W => refCheck_any 2 l W hl)
    by_cases h0 : chk 2 l = 0
    · obtain ⟨m, hm, m1, m2, hl2, hW⟩ := chk_zero h0
      obtain rfl : m = 2 := by omega
      have hl3 : l.length ≤ 60 := by omega
      simp only [h0] at HK
      have t1 : Int.tmod (q : Int) 2 = ((q % 2 : Nat) : Int) := by rw [Int.tmod_eq_emod_of_nonneg (by omega)]; rfl
      obtain ⟨s, hsq⟩ : ∃ s, q % 2 = s := ⟨_, rfl⟩
      have hs2 : s < 2 := by omega
      rw [hsq] at t1
      have hA := levs_len l s
      have hAw := levs_wof l s
      have hC := trs_len l s
      have hCw := trs_wof l s
      have hca : chk 2 (levs s l) = 0 := chk_of (m := 2) (by omega) (by omega) (by omega) hAw
      have hcc : chk 2 (trs s l) = 0 := chk_of (m := 2) (by omega) (by omega) (by omega) hCw
      have H1 := Lib.hid (fun W => levels_any (s : Int) l W (Or.inl (by omega)))
      have H2 := Lib.hid (fun W => transitions_any (s : Int) (levs s l) W (Or.inl (by omega)))
      have H3 := Lib.hid (fun W => transitions_any (s : Int) l W (Or.inl (by omega)))
      have H4 := Lib.hid (fun W => levels_any (s : Int) (trs s l) W (Or.inl (by omega)))
      have H5 := Lib.hid (fun W => levels_any (1 - (s : Int)) l W (Or.inl (by omega)))
      rw [levR_good hs2 h0] at H1
      rw [trsR_good hs2 hca, trs_levs hW s hs2] at H2
      rw [trsR_good hs2 h0] at H3
      rw [levR_good hs2 hcc, levs_trs hW s hs2] at H4
      rw [show (1 : Int) - (s : Int) = ((1 - s : Nat) : Int) by omega, levR_good (by omega) h0, levs_other s hs2, show ((1 - s : Nat) : Int) = (1 : Int) - (s : Int) by omega] at H5
      have HN := Lib.hid (fun g c W h4 => newReplacer_any g c W h4)
      have HR := Lib.hid (fun b h c W hr => replaceAll_any b h c (levs s l) W hr (by omega) hAw)
      obtain ⟨A, hAA⟩ : ∃ A, levs s l = A := ⟨_, rfl⟩
      obtain ⟨C, hCC⟩ : ∃ C, trs s l = C := ⟨_, rfl⟩
      rw [hAA] at H1 H2 H5
      simp only [hAA] at HR
      rw [hCC] at H3 H4
      obtain ⟨M, hMM⟩ : ∃ M, A.map flipB = M := ⟨_, rfl⟩
      rw [hMM] at H5
      simp only [hMM] at HR
      have e1 : (l == l) = true := by simp
      have e2 : (M == M) = true := by simp
      have w0 : IntKind.u8.wrap (s : Int) = (s : Int) := by simp [IntKind.wrap, IntKind.bits, IntKind.signed]; omega
      clear hMM hAA hCC hca hcc hA hAw hC hCw h0 hm m1 m2 hl2 hW hs hsq
      go_enter Tryz.func3, Tryz.ntmps3
      go_wp2_with (first
        | (go_at_call 4; (with_reducible refine (HG.out _).mono ?_); rintro e W0 ⟨rfl, hW⟩; (rw [hW]); (clear hW))
        | (go_at_call 5; (with_reducible refine (HK.out _).mono ?_); rintro e W0 ⟨rfl, hW⟩; (rw [hW]); (clear hW))
        | (go_at_call 7; first
            | ((with_reducible refine (H1.out _).mono ?_); rintro e W1 ⟨rfl, b1⟩)
            | ((with_reducible refine (H4.out _).mono ?_); rintro e W4 ⟨rfl, b4⟩)
            | ((with_reducible refine (H5.out _).mono ?_); rintro e W5 ⟨rfl, b5⟩; (have B5 := below_more (below_more (below_more (below_more b1 (Nat.le_refl _) b2) (Nat.le_refl _) b3) (Nat.le_refl _) b4) (Nat.le_refl _) b5)))
        | (go_at_call 8; first
            | ((with_reducible refine (H2.out _).mono ?_); rintro e W2 ⟨rfl, b2⟩)
            | ((with_reducible refine (H3.out _).mono ?_); rintro e W3 ⟨rfl, b3⟩))
        | (go_at_call 9; (refine (HN.out _ _ _ (four_new W5)).mono ?_); rintro e W6 ⟨b, h, c', rfl, hrep, hbb, b6⟩; (have B6 := below_more (B5.alloc B5.size _) (Nat.le_refl _) b6); (have hBb : w.heap.size ≤ b := Nat.le_trans (Nat.le_trans B5.size (by rw [World.size_alloc]; exact Nat.le_succ _)) hbb); (have HREP := Lib.hid hrep); (clear hrep hbb))
        | (go_at_call 10; (refine (HR.out _ _ _ _ HREP.out).mono ?_); rintro e W7 ⟨rfl, b7⟩; (have B7 := B6.trans (b7.mono hBb)))
        | (go_at_call 6; (with_reducible refine (awake_any _).mono ?_); rintro e W8 ⟨rfl, b8⟩))
      go_ret
      exact ⟨rfl, below_more B7 (Nat.le_refl _) b8⟩
    · obtain ⟨c, hc⟩ : ∃ c, chk 2 l = c := ⟨_, rfl⟩
      simp only [hc] at HK
      rw [hc] at h0
      have h1 : (c == 0) = false := by rw [beq_eq_false_iff_ne]; exact h0
      clear hc h0 hs
      go_enter Tryz.func3, Tryz.ntmps3
      go_wp2_with (first
        | (go_at_call 4; (with_reducible refine (HG.out _).mono ?_); rintro e W0 ⟨rfl, hW⟩; (rw [hW]); (clear hW))
        | (go_at_call 5; (with_reducible refine (HK.out _).mono ?_); rintro e W0 ⟨rfl, hW⟩; (rw [hW]); (clear hW))
        | (go_at_call 6; (with_reducible refine (awake_any _).mono ?_); rintro e W8 ⟨rfl, b8⟩))
      go_ret
      exact ⟨rfl, b8⟩
  · have HG := Lib.hid (fun W => refGreat_great l W hg)
    clear hg
    go_enter Tryz.func3, Tryz.ntmps3
    go_wp2_with (first
      | (go_at_call 4; (with_reducible refine (HG.out _).mono ?_); rintro e W0 ⟨rfl, hW⟩; (rw [hW]); (clear hW))
      | (go_at_call 6; (with_reducible refine (awake_any _).mono ?_); rintro e W8 ⟨rfl, b8⟩))
    go_ret
    exact ⟨rfl, b8⟩
end Go.Proofs.YtokpfbbhkmlclaaGreatDoor
