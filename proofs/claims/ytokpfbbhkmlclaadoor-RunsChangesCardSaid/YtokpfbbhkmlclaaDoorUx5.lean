/- RunsChanges returns true for every input. -/
import Derived.Test.YtokpfbbhkmlclaaDoorUx1
namespace Go.Proofs.YtokpfbbhkmlclaaDoor
open Go.RowKit
set_option linter.unusedSimpArgs false
set_option linter.unusedVariables false

set_option maxRecDepth 100000 in
set_option maxHeartbeats 6400000 in
theorem runsChanges_any (q : Nat) (l : List UInt8) (w : World) (hq : q < 256) (hl : l.length ≤ 9223372036854775807) :
    Calls Tryd.prog 7 #[.int .u8 (q : Int), .string ⟨l.toArray⟩] w fun e w' => e = .returned (.bool true) ∧ Below w.heap.size w w' := by
  rcases small_or l.length hl with hs | hg
  · have HG := Lib.hid (fun W => refGreat_small l W hs)
    have HK := Lib.hid (fun W => refCheck_any 2 l W hl)
    by_cases h0 : chk 2 l = 0
    · obtain ⟨m, hm, m1, m2, hl2, hW⟩ := chk_zero h0
      obtain rfl : m = 2 := by omega
      have hl3 : l.length ≤ 60 := by omega
      simp only [h0] at HK
      have t1 : Int.tmod (q : Int) 2 = ((q % 2 : Nat) : Int) := by rw [Int.tmod_eq_emod_of_nonneg (by omega)]; rfl
      obtain ⟨s, hsq⟩ : ∃ s, q % 2 = s := ⟨_, rfl⟩
      have hs2 : s < 2 := by omega
      rw [hsq] at t1
      have hv0 : chkV (s : Int) l = 0 := by unfold chkV; rw [if_pos h0, if_pos (by omega)]
      have HL := Lib.hid (fun W => levels_any (s : Int) l W (Or.inl (by omega)))
      rw [show levR (s : Int) l = (levs s l, 0) by unfold levR; rw [if_pos hv0, Int.toNat_natCast]] at HL
      have hA := levs_len l s
      have hAw := levs_wof l s
      have hR := runs_levs hW hs2
      obtain ⟨A, hAA⟩ : ∃ A, levs s l = A := ⟨_, rfl⟩
      rw [hAA] at HL hA hAw hR
      have hcut : ∀ w, (Instr.slice 9 (.string ⟨#[48, 49, 50, 51, 52, 53, 54, 55, 56, 57, 97, 98, 99, 100, 101, 102]⟩) (some (.int .i64 (s : Int))) (some (.int .i64 ((s : Int) + 1))) none).run Tryd.prog w = .ok (.string ⟨[lt s].toArray⟩) w :=
        run_cut_at lets [lt s] s (s + 1) _ _ rfl (by omega) (by omega) (by show s + 1 ≤ 16; omega) (by
          have h1 : s < lets.length := by show s < 16; omega
          rw [show s + 1 - s = 1 by omega, List.drop_eq_getElem_cons h1, List.take_succ_cons, List.take_zero, lt_at h1])
      have hW16 : Wof 16 ([lt s] ++ A) := fun c hc => by
        rcases List.mem_append.1 hc with h | h
        · rw [List.mem_singleton] at h
          rw [h, dgt_lt s (by omega)]; omega
        · have := hAw c h; omega
      have hPl : ([lt s] ++ A).length = l.length + 1 := by rw [List.length_append, List.length_singleton, hA]; omega
      have hs1 : ∀ w, (Op.stringOp .add ⟨[lt s].toArray⟩ ⟨A.toArray⟩).run Tryd.prog w = .ok (.string ⟨([lt s] ++ A).toArray⟩) w := fun w => run_string_add_lists w [lt s] A (by simp) (by omega)
      have HS := Lib.hid (fun W => split_good ([lt s] ++ A) W (by omega) (chk_of (m := 16) (by omega) (by omega) (by omega) hW16))
      obtain ⟨P, hP⟩ : ∃ P, [lt s] ++ A = P := ⟨_, rfl⟩
      rw [hP] at hs1 HS hR hPl
      obtain ⟨z, hz⟩ : ∃ z, lt s = z := ⟨_, rfl⟩
      rw [hz] at hcut hs1
      have HC := Lib.hid (fun W => Tryd.strings_Count_one ⟨l.toArray⟩ 49 W)
      obtain ⟨n, hn⟩ : ∃ n, l.count 49 = n := ⟨_, rfl⟩
      have hcn : Lib.countByte (⟨l.toArray⟩ : ByteArray).data.toList 49 = n := hn
      simp only [hcn] at HC
      have hnl : n ≤ l.length := by rw [← hn]; exact List.count_le_length
      rw [hn] at hR
      obtain ⟨rs, hrs⟩ : ∃ rs, rns P = rs := ⟨_, rfl⟩
      rw [hrs] at HS hR
      have e1 : ((rs.length : Int) == 1 + (n : Int)) = true := by rw [beq_iff_eq]; omega
      clear hrs hcn hn hP hz hW16 hAw hAA hv0 h0 hm m1 m2 hl2 hW hs hsq hR
      have w0 : IntKind.u8.wrap (s : Int) = (s : Int) := by simp [IntKind.wrap, IntKind.bits, IntKind.signed]; omega
      go_enter Tryd.func7, Tryd.ntmps7
      go_wp2_with (first
        | (go_at_call 10; (with_reducible refine (HG.out _).mono ?_); rintro e W0 ⟨rfl, hW⟩; (rw [hW]); (clear hW))
        | (go_at_call 31; (with_reducible refine (HK.out _).mono ?_); rintro e W0 ⟨rfl, hW⟩; (rw [hW]); (clear hW))
        | (go_at_call 20; (with_reducible refine (HL.out _).mono ?_); rintro e W1 ⟨rfl, b1⟩)
        | (go_at_call 13; (with_reducible refine (HS.out _).mono ?_); rintro e W2 ⟨a2, c2, rfl, i2, b2⟩)
        | (go_at_call 32; (with_reducible refine (HC.out _).mono ?_); rintro e W3 ⟨rfl, hW⟩; (rw [hW]); (clear hW))
        | (go_at_call 12; (with_reducible refine (awake_any _).mono ?_); rintro e W8 ⟨rfl, b8⟩))
      go_ret
      exact ⟨rfl, below_more (below_more b1 (Nat.le_refl _) b2) (Nat.le_refl _) b8⟩
    · obtain ⟨c, hc⟩ : ∃ c, chk 2 l = c := ⟨_, rfl⟩
      simp only [hc] at HK
      rw [hc] at h0
      have h1 : (c == 0) = false := by rw [beq_eq_false_iff_ne]; exact h0
      clear hc h0 hs
      go_enter Tryd.func7, Tryd.ntmps7
      go_wp2_with (first
        | (go_at_call 10; (with_reducible refine (HG.out _).mono ?_); rintro e W0 ⟨rfl, hW⟩; (rw [hW]); (clear hW))
        | (go_at_call 31; (with_reducible refine (HK.out _).mono ?_); rintro e W0 ⟨rfl, hW⟩; (rw [hW]); (clear hW))
        | (go_at_call 12; (with_reducible refine (awake_any _).mono ?_); rintro e W8 ⟨rfl, b8⟩))
      go_ret
      exact ⟨rfl, b8⟩
  · have HG := Lib.hid (fun W => refGreat_great l W hg)
    clear hg
    go_enter Tryd.func7, Tryd.ntmps7
    go_wp2_with (first
      | (go_at_call 10; (with_reducible refine (HG.out _).mono ?_); rintro e W0 ⟨rfl, hW⟩; (rw [hW]); (clear hW))
      | (go_at_call 12; (with_reducible refine (awake_any _).mono ?_); rintro e W8 ⟨rfl, b8⟩))
    go_ret
    exact ⟨rfl, b8⟩
end Go.Proofs.YtokpfbbhkmlclaaDoor
