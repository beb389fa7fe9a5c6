/- What the reference implementation's Levels and Transitions return. Condition: at most 1000 letters, or an error of Check. -/
import Derived.Test.YtokpfbbhkmlclaaDoorUm
namespace Go.Proofs.YtokpfbbhkmlclaaDoor
open Go.RowKit
set_option linter.unusedSimpArgs false
set_option linter.unusedVariables false

theorem chk2_of {l : List UInt8} (h1 : l.length ≤ 65536) (h2 : Wof 2 l) : chk 2 l = 0 := chk_of (m := 2) (by omega) (by omega) h1 h2
theorem levs_next {l : List UInt8} {i : Nat} {c : UInt8} (h : l[i]? = some c) (s : Nat) : levs s (l.take (i + 1)) = levs s (l.take i) ++ [lt ((lvl s (l.take i) + dgt c) % 2)] ∧ lvl s (l.take (i + 1)) = (lvl s (l.take i) + dgt c) % 2 := by
  rw [List.take_add_one, h]
  exact ⟨levs_snoc _ _ _, lvl_snoc _ _ _⟩
theorem trs_next {l : List UInt8} {i : Nat} {c : UInt8} (h : l[i]? = some c) (s : Nat) : trs s (l.take (i + 1)) = trs s (l.take i) ++ [lt ((lastD s (l.take i) + dgt c) % 2)] ∧ lastD s (l.take (i + 1)) = dgt c := by
  rw [List.take_add_one, h]
  exact ⟨trs_snoc _ _ _, lastD_snoc _ _ _⟩
theorem cut0 (w : World) : (Instr.slice 9 (.string ⟨#[48, 49, 50, 51, 52, 53, 54, 55, 56, 57, 97, 98, 99, 100, 101, 102]⟩) (some (.int .i64 0)) (some (.int .i64 1)) none).run Tryd.prog w = .ok (.string ⟨#[48]⟩) w := run_cut_at lets [48] 0 1 0 1 rfl rfl (by decide) (by decide) rfl w
theorem cut1 (w : World) : (Instr.slice 9 (.string ⟨#[48, 49, 50, 51, 52, 53, 54, 55, 56, 57, 97, 98, 99, 100, 101, 102]⟩) (some (.int .i64 1)) (some (.int .i64 2)) none).run Tryd.prog w = .ok (.string ⟨#[49]⟩) w := run_cut_at lets [49] 1 2 1 2 rfl rfl (by decide) (by decide) rfl w
set_option maxRecDepth 100000 in
set_option maxHeartbeats 6400000 in
theorem refLevels_any (s : Int) (l : List UInt8) (w : World) (hl : l.length ≤ 1000 ∨ (65536 < l.length ∧ l.length ≤ 9223372036854775807)) :
    Calls Tryd.prog 21 #[.int .i64 s, .string ⟨l.toArray⟩] w fun e w' => e = .returned (.tuple #[.string ⟨(levR s l).1.toArray⟩, .int .i64 (levR s l).2]) ∧ w' = w := by
  have HC := Lib.hid (fun W => refCheck_any 2 l W (by omega))
  by_cases h0 : chk 2 l = 0
  · obtain ⟨m, hm, m1, m2, hl2, hW⟩ := chk_zero h0
    obtain rfl : m = 2 := by omega
    have hl3 : l.length ≤ 1000 := by omega
    have HZ := Lib.hid h0
    simp only [h0] at HC
    have HW := Lib.hid hW
    clear hW hl h0 hm
    rcases (show (0 ≤ s ∧ s ≤ 1) ∨ s < 0 ∨ 1 < s by omega) with hs | hs | hs
    · obtain ⟨n, rfl⟩ : ∃ n : Nat, s = (n : Int) := ⟨s.toNat, by omega⟩
      have hn : n < 2 := by omega
      have HX := Lib.hid (show levR n l = (levs n l, 0) by unfold levR; rw [if_pos (by unfold chkV; rw [if_pos HZ.out, if_pos (by omega)]), Int.toNat_natCast])
      rw [HX.out]
      obtain ⟨R, hR⟩ : ∃ R, levs n l = R := ⟨_, rfl⟩
      have HR := Lib.hid hR
      rw [hR]
      clear hR HX hs
      have e0 : ((n : Int) != 0 && (n : Int) != 1) = false := by
        rcases (show n = 0 ∨ n = 1 by omega) with rfl | rfl <;> rfl
      go_enter Tryd.func21, Tryd.ntmps21
      rcases (show n = 0 ∨ n = 1 by omega) with rfl | rfl
      · go_wp2_with (go_at_call 31; (with_reducible refine (HC.out _).mono ?_); rintro e W1 ⟨rfl, hW⟩; (rw [hW]); (clear hW))
        go_loopg [0, 7, 8] l.length (fun q s0 s7 s8 wx => wx = w ∧ ∃ (i x : Nat) (U : List UInt8), i + q = l.length ∧ s8 = .int .i64 (i : Int) ∧ s0 = .int .i64 (x : Int) ∧ x < 2 ∧ s7 = .string ⟨U.toArray⟩ ∧ U.length = i ∧ Hid (lvl 0 (l.take i) = x) ∧ Hid (levs 0 (l.take i) = U))
        case atStart => exact ⟨rfl, 0, 0, [], by omega, rfl, rfl, by decide, rfl, rfl, Lib.hid rfl, Lib.hid rfl⟩
        case round =>
          obtain ⟨rfl, i, x, U, hin, rfl, rfl, hx2, rfl, hUl, Hx, HU⟩ := hrel
          rcases gk with _ | q
          · obtain rfl : i = l.length := by omega
            have e : U = R := by rw [← HR.out, ← HU.out, List.take_length]
            subst e
            clear Hx HU HR
            go_wp2
            exact bodyPost_ret (v := .tuple #[.string ⟨U.toArray⟩, .int .i64 0]) (by simp [results, Tryd.results21, go_sem]) rfl ⟨rfl, rfl⟩
          · have hil : i < l.length := by omega
            obtain ⟨c, hci⟩ : ∃ c, l[i]? = some c := ⟨_, List.getElem?_eq_getElem hil⟩
            have hix := run_at_bytes l i c hci (i : Int) rfl
            have hc2 : dgt c < 2 := HW.out c (List.mem_of_getElem? hci)
            have hnx := levs_next hci 0
            rw [Hx.out, HU.out] at hnx
            clear hci HU Hx
            obtain ⟨V0, hV0⟩ : ∃ V, U ++ [(48 : UInt8)] = V := ⟨_, rfl⟩
            obtain ⟨V1, hV1⟩ : ∃ V, U ++ [(49 : UInt8)] = V := ⟨_, rfl⟩
            have hs0 : ∀ w, (Op.stringOp .add ⟨U.toArray⟩ ⟨#[48]⟩).run Tryd.prog w = .ok (.string ⟨V0.toArray⟩) w := fun w => by
              rw [← hV0]; exact run_string_add_lists w U [48] (by omega) (by simp)
            have hs1 : ∀ w, (Op.stringOp .add ⟨U.toArray⟩ ⟨#[49]⟩).run Tryd.prog w = .ok (.string ⟨V1.toArray⟩) w := fun w => by
              rw [← hV1]; exact run_string_add_lists w U [49] (by omega) (by simp)
            have hl0 : V0.length = i + 1 := by rw [← hV0]; simp [hUl]
            have hl1 : V1.length = i + 1 := by rw [← hV1]; simp [hUl]
            have d48 : dgt 48 = 0 := by decide
            have d49 : dgt 49 = 1 := by decide
            have k0 := cut0
            have k1 := cut1
            have HD := Lib.hid (fun c W hh => refNumber_any c W hh)
            rcases wof2 hc2 with rfl | rfl <;> rcases (show x = 0 ∨ x = 1 by omega) with rfl | rfl
            · have HN := Lib.hid (show levs 0 (l.take (i + 1)) = V0 by rw [hnx.1, d48, ← hV0]; rfl)
              have HS := Lib.hid (show lvl 0 (l.take (i + 1)) = 0 by rw [hnx.2, d48])
              clear hnx hV0 hV1
              go_wp2
              go_roundg q
              case measure => omega
              case rel => exact ⟨rfl, i + 1, 0, V0, by omega, by go_num, rfl, by decide, rfl, hl0, HS, HN⟩
            · have HN := Lib.hid (show levs 0 (l.take (i + 1)) = V1 by rw [hnx.1, d48, ← hV1]; rfl)
              have HS := Lib.hid (show lvl 0 (l.take (i + 1)) = 1 by rw [hnx.2, d48])
              clear hnx hV0 hV1
              go_wp2
              go_roundg q
              case measure => omega
              case rel => exact ⟨rfl, i + 1, 1, V1, by omega, by go_num, rfl, by decide, rfl, hl1, HS, HN⟩
            · have HN := Lib.hid (show levs 0 (l.take (i + 1)) = V1 by rw [hnx.1, d49, ← hV1]; rfl)
              have HS := Lib.hid (show lvl 0 (l.take (i + 1)) = 1 by rw [hnx.2, d49])
              clear hnx hV0 hV1
              go_wp2
              go_roundg q
              case measure => omega
              case rel => exact ⟨rfl, i + 1, 1, V1, by omega, by go_num, rfl, by decide, rfl, hl1, HS, HN⟩
            · have HN := Lib.hid (show levs 0 (l.take (i + 1)) = V0 by rw [hnx.1, d49, ← hV0]; rfl)
              have HS := Lib.hid (show lvl 0 (l.take (i + 1)) = 0 by rw [hnx.2, d49])
              clear hnx hV0 hV1
              go_wp2
              go_roundg q
              case measure => omega
              case rel => exact ⟨rfl, i + 1, 0, V0, by omega, by go_num, rfl, by decide, rfl, hl0, HS, HN⟩
      · go_wp2_with (go_at_call 31; (with_reducible refine (HC.out _).mono ?_); rintro e W1 ⟨rfl, hW⟩; (rw [hW]); (clear hW))
        go_loopg [0, 7, 8] l.length (fun q s0 s7 s8 wx => wx = w ∧ ∃ (i x : Nat) (U : List UInt8), i + q = l.length ∧ s8 = .int .i64 (i : Int) ∧ s0 = .int .i64 (x : Int) ∧ x < 2 ∧ s7 = .string ⟨U.toArray⟩ ∧ U.length = i ∧ Hid (lvl 1 (l.take i) = x) ∧ Hid (levs 1 (l.take i) = U))
        case atStart => exact ⟨rfl, 0, 1, [], by omega, rfl, rfl, by decide, rfl, rfl, Lib.hid rfl, Lib.hid rfl⟩
        case round =>
          obtain ⟨rfl, i, x, U, hin, rfl, rfl, hx2, rfl, hUl, Hx, HU⟩ := hrel
          rcases gk with _ | q
          · obtain rfl : i = l.length := by omega
            have e : U = R := by rw [← HR.out, ← HU.out, List.take_length]
            subst e
            clear Hx HU HR
            go_wp2
            exact bodyPost_ret (v := .tuple #[.string ⟨U.toArray⟩, .int .i64 0]) (by simp [results, Tryd.results21, go_sem]) rfl ⟨rfl, rfl⟩
          · have hil : i < l.length := by omega
            obtain ⟨c, hci⟩ : ∃ c, l[i]? = some c := ⟨_, List.getElem?_eq_getElem hil⟩
            have hix := run_at_bytes l i c hci (i : Int) rfl
            have hc2 : dgt c < 2 := HW.out c (List.mem_of_getElem? hci)
            have hnx := levs_next hci 1
            rw [Hx.out, HU.out] at hnx
            clear hci HU Hx
            obtain ⟨V0, hV0⟩ : ∃ V, U ++ [(48 : UInt8)] = V := ⟨_, rfl⟩
            obtain ⟨V1, hV1⟩ : ∃ V, U ++ [(49 : UInt8)] = V := ⟨_, rfl⟩
            have hs0 : ∀ w, (Op.stringOp .add ⟨U.toArray⟩ ⟨#[48]⟩).run Tryd.prog w = .ok (.string ⟨V0.toArray⟩) w := fun w => by
              rw [← hV0]; exact run_string_add_lists w U [48] (by omega) (by simp)
            have hs1 : ∀ w, (Op.stringOp .add ⟨U.toArray⟩ ⟨#[49]⟩).run Tryd.prog w = .ok (.string ⟨V1.toArray⟩) w := fun w => by
              rw [← hV1]; exact run_string_add_lists w U [49] (by omega) (by simp)
            have hl0 : V0.length = i + 1 := by rw [← hV0]; simp [hUl]
            have hl1 : V1.length = i + 1 := by rw [← hV1]; simp [hUl]
            have d48 : dgt 48 = 0 := by decide
            have d49 : dgt 49 = 1 := by decide
            have k0 := cut0
            have k1 := cut1
            have HD := Lib.hid (fun c W hh => refNumber_any c W hh)
            rcases wof2 hc2 with rfl | rfl <;> rcases (show x = 0 ∨ x = 1 by omega) with rfl | rfl
            · have HN := Lib.hid (show levs 1 (l.take (i + 1)) = V0 by rw [hnx.1, d48, ← hV0]; rfl)
              have HS := Lib.hid (show lvl 1 (l.take (i + 1)) = 0 by rw [hnx.2, d48])
              clear hnx hV0 hV1
              go_wp2
              go_roundg q
              case measure => omega
              case rel => exact ⟨rfl, i + 1, 0, V0, by omega, by go_num, rfl, by decide, rfl, hl0, HS, HN⟩
            · have HN := Lib.hid (show levs 1 (l.take (i + 1)) = V1 by rw [hnx.1, d48, ← hV1]; rfl)
              have HS := Lib.hid (show lvl 1 (l.take (i + 1)) = 1 by rw [hnx.2, d48])
              clear hnx hV0 hV1
              go_wp2
              go_roundg q
              case measure => omega
              case rel => exact ⟨rfl, i + 1, 1, V1, by omega, by go_num, rfl, by decide, rfl, hl1, HS, HN⟩
            · have HN := Lib.hid (show levs 1 (l.take (i + 1)) = V1 by rw [hnx.1, d49, ← hV1]; rfl)
              have HS := Lib.hid (show lvl 1 (l.take (i + 1)) = 1 by rw [hnx.2, d49])
              clear hnx hV0 hV1
              go_wp2
              go_roundg q
              case measure => omega
              case rel => exact ⟨rfl, i + 1, 1, V1, by omega, by go_num, rfl, by decide, rfl, hl1, HS, HN⟩
            · have HN := Lib.hid (show levs 1 (l.take (i + 1)) = V0 by rw [hnx.1, d49, ← hV0]; rfl)
              have HS := Lib.hid (show lvl 1 (l.take (i + 1)) = 0 by rw [hnx.2, d49])
              clear hnx hV0 hV1
              go_wp2
              go_roundg q
              case measure => omega
              case rel => exact ⟨rfl, i + 1, 0, V0, by omega, by go_num, rfl, by decide, rfl, hl0, HS, HN⟩
    all_goals
      have HX := Lib.hid (show levR s l = ([], 2) by unfold levR; rw [show chkV s l = 2 by unfold chkV; rw [if_pos HZ.out, if_neg (by omega)]]; rfl)
      rw [HX.out]
      have e1 : (s != 0) = true := by rw [bne_iff_ne]; omega
      have e2 : (s != 1) = true := by rw [bne_iff_ne]; omega
      go_enter Tryd.func21, Tryd.ntmps21
      go_wp2_with (go_at_call 31; (with_reducible refine (HC.out _).mono ?_); rintro e W1 ⟨rfl, hW⟩; (rw [hW]); (clear hW))
      exact bodyPost_ret (v := .tuple #[.string ⟨#[]⟩, .int .i64 2]) (by simp [results, Tryd.results21, go_sem]) rfl ⟨rfl, rfl⟩
  · obtain ⟨c, hc⟩ : ∃ c, chk 2 l = c := ⟨_, rfl⟩
    have HX := Lib.hid (show levR s l = ([], c) by unfold levR; rw [show chkV s l = c by unfold chkV; rw [if_neg h0, hc], if_neg (by rw [← hc]; exact h0)])
    rw [HX.out]
    simp only [hc] at HC
    rw [hc] at h0
    have h1 : (c == 0) = false := by rw [beq_eq_false_iff_ne]; exact h0
    clear hc h0
    go_enter Tryd.func21, Tryd.ntmps21
    go_wp2_with (go_at_call 31; (with_reducible refine (HC.out _).mono ?_); rintro e W1 ⟨rfl, hW⟩; (rw [hW]); (clear hW))
    exact bodyPost_ret (v := .tuple #[.string ⟨#[]⟩, .int .i64 c]) (by simp [results, Tryd.results21, go_sem]) rfl ⟨rfl, rfl⟩
set_option maxRecDepth 100000 in
set_option maxHeartbeats 6400000 in
theorem refTransitions_any (s : Int) (l : List UInt8) (w : World) (hl : l.length ≤ 1000 ∨ (65536 < l.length ∧ l.length ≤ 9223372036854775807)) :
    Calls Tryd.prog 23 #[.int .i64 s, .string ⟨l.toArray⟩] w fun e w' => e = .returned (.tuple #[.string ⟨(trsR s l).1.toArray⟩, .int .i64 (trsR s l).2]) ∧ w' = w := by
  have HC := Lib.hid (fun W => refCheck_any 2 l W (by omega))
  by_cases h0 : chk 2 l = 0
  · obtain ⟨m, hm, m1, m2, hl2, hW⟩ := chk_zero h0
    obtain rfl : m = 2 := by omega
    have hl3 : l.length ≤ 1000 := by omega
    have HZ := Lib.hid h0
    simp only [h0] at HC
    have HW := Lib.hid hW
    clear hW hl h0 hm
    rcases (show (0 ≤ s ∧ s ≤ 1) ∨ s < 0 ∨ 1 < s by omega) with hs | hs | hs
    · obtain ⟨n, rfl⟩ : ∃ n : Nat, s = (n : Int) := ⟨s.toNat, by omega⟩
      have hn : n < 2 := by omega
      have HX := Lib.hid (show trsR n l = (trs n l, 0) by unfold trsR; rw [if_pos (by unfold chkV; rw [if_pos HZ.out, if_pos (by omega)]), Int.toNat_natCast])
      rw [HX.out]
      obtain ⟨R, hR⟩ : ∃ R, trs n l = R := ⟨_, rfl⟩
      have HR := Lib.hid hR
      rw [hR]
      clear hR HX hs
      have e0 : ((n : Int) != 0 && (n : Int) != 1) = false := by
        rcases (show n = 0 ∨ n = 1 by omega) with rfl | rfl <;> rfl
      go_enter Tryd.func23, Tryd.ntmps23
      rcases (show n = 0 ∨ n = 1 by omega) with rfl | rfl
      · go_wp2_with (go_at_call 31; (with_reducible refine (HC.out _).mono ?_); rintro e W1 ⟨rfl, hW⟩; (rw [hW]); (clear hW))
        go_loopg [0, 7, 8] l.length (fun q s0 s7 s8 wx => wx = w ∧ ∃ (i x : Nat) (U : List UInt8), i + q = l.length ∧ s8 = .int .i64 (i : Int) ∧ s0 = .int .i64 (x : Int) ∧ x < 2 ∧ s7 = .string ⟨U.toArray⟩ ∧ U.length = i ∧ Hid (lastD 0 (l.take i) = x) ∧ Hid (trs 0 (l.take i) = U))
        case atStart => exact ⟨rfl, 0, 0, [], by omega, rfl, rfl, by decide, rfl, rfl, Lib.hid rfl, Lib.hid rfl⟩
        case round =>
          obtain ⟨rfl, i, x, U, hin, rfl, rfl, hx2, rfl, hUl, Hx, HU⟩ := hrel
          rcases gk with _ | q
          · obtain rfl : i = l.length := by omega
            have e : U = R := by rw [← HR.out, ← HU.out, List.take_length]
            subst e
            clear Hx HU HR
            go_wp2
            exact bodyPost_ret (v := .tuple #[.string ⟨U.toArray⟩, .int .i64 0]) (by simp [results, Tryd.results23, go_sem]) rfl ⟨rfl, rfl⟩
          · have hil : i < l.length := by omega
            obtain ⟨c, hci⟩ : ∃ c, l[i]? = some c := ⟨_, List.getElem?_eq_getElem hil⟩
            have hix := run_at_bytes l i c hci (i : Int) rfl
            have hc2 : dgt c < 2 := HW.out c (List.mem_of_getElem? hci)
            have hnx := trs_next hci 0
            rw [Hx.out, HU.out] at hnx
            clear hci HU Hx
            obtain ⟨V0, hV0⟩ : ∃ V, U ++ [(48 : UInt8)] = V := ⟨_, rfl⟩
            obtain ⟨V1, hV1⟩ : ∃ V, U ++ [(49 : UInt8)] = V := ⟨_, rfl⟩
            have hs0 : ∀ w, (Op.stringOp .add ⟨U.toArray⟩ ⟨#[48]⟩).run Tryd.prog w = .ok (.string ⟨V0.toArray⟩) w := fun w => by
              rw [← hV0]; exact run_string_add_lists w U [48] (by omega) (by simp)
            have hs1 : ∀ w, (Op.stringOp .add ⟨U.toArray⟩ ⟨#[49]⟩).run Tryd.prog w = .ok (.string ⟨V1.toArray⟩) w := fun w => by
              rw [← hV1]; exact run_string_add_lists w U [49] (by omega) (by simp)
            have hl0 : V0.length = i + 1 := by rw [← hV0]; simp [hUl]
            have hl1 : V1.length = i + 1 := by rw [← hV1]; simp [hUl]
            have d48 : dgt 48 = 0 := by decide
            have d49 : dgt 49 = 1 := by decide
            have k0 := cut0
            have k1 := cut1
            have HD := Lib.hid (fun c W hh => refNumber_any c W hh)
            rcases wof2 hc2 with rfl | rfl <;> rcases (show x = 0 ∨ x = 1 by omega) with rfl | rfl
            · have HN := Lib.hid (show trs 0 (l.take (i + 1)) = V0 by rw [hnx.1, d48, ← hV0]; rfl)
              have HS := Lib.hid (show lastD 0 (l.take (i + 1)) = 0 by rw [hnx.2, d48])
              clear hnx hV0 hV1
              go_wp2_with (go_at_call 38; (refine (HD.out 48 _ (by decide)).mono ?_); rintro e W1 ⟨rfl, hW⟩; (rw [hW]); (clear hW); (rw [d48]))
              go_roundg q
              case measure => omega
              case rel => exact ⟨rfl, i + 1, 0, V0, by omega, by go_num, rfl, by decide, rfl, hl0, HS, HN⟩
            · have HN := Lib.hid (show trs 0 (l.take (i + 1)) = V1 by rw [hnx.1, d48, ← hV1]; rfl)
              have HS := Lib.hid (show lastD 0 (l.take (i + 1)) = 0 by rw [hnx.2, d48])
              clear hnx hV0 hV1
              go_wp2_with (go_at_call 38; (refine (HD.out 48 _ (by decide)).mono ?_); rintro e W1 ⟨rfl, hW⟩; (rw [hW]); (clear hW); (rw [d48]))
              go_roundg q
              case measure => omega
              case rel => exact ⟨rfl, i + 1, 0, V1, by omega, by go_num, rfl, by decide, rfl, hl1, HS, HN⟩
            · have HN := Lib.hid (show trs 0 (l.take (i + 1)) = V1 by rw [hnx.1, d49, ← hV1]; rfl)
              have HS := Lib.hid (show lastD 0 (l.take (i + 1)) = 1 by rw [hnx.2, d49])
              clear hnx hV0 hV1
              go_wp2_with (go_at_call 38; (refine (HD.out 49 _ (by decide)).mono ?_); rintro e W1 ⟨rfl, hW⟩; (rw [hW]); (clear hW); (rw [d49]))
              go_roundg q
              case measure => omega
              case rel => exact ⟨rfl, i + 1, 1, V1, by omega, by go_num, rfl, by decide, rfl, hl1, HS, HN⟩
            · have HN := Lib.hid (show trs 0 (l.take (i + 1)) = V0 by rw [hnx.1, d49, ← hV0]; rfl)
              have HS := Lib.hid (show lastD 0 (l.take (i + 1)) = 1 by rw [hnx.2, d49])
              clear hnx hV0 hV1
              go_wp2_with (go_at_call 38; (refine (HD.out 49 _ (by decide)).mono ?_); rintro e W1 ⟨rfl, hW⟩; (rw [hW]); (clear hW); (rw [d49]))
              go_roundg q
              case measure => omega
              case rel => exact ⟨rfl, i + 1, 1, V0, by omega, by go_num, rfl, by decide, rfl, hl0, HS, HN⟩
      · go_wp2_with (go_at_call 31; (with_reducible refine (HC.out _).mono ?_); rintro e W1 ⟨rfl, hW⟩; (rw [hW]); (clear hW))
        go_loopg [0, 7, 8] l.length (fun q s0 s7 s8 wx => wx = w ∧ ∃ (i x : Nat) (U : List UInt8), i + q = l.length ∧ s8 = .int .i64 (i : Int) ∧ s0 = .int .i64 (x : Int) ∧ x < 2 ∧ s7 = .string ⟨U.toArray⟩ ∧ U.length = i ∧ Hid (lastD 1 (l.take i) = x) ∧ Hid (trs 1 (l.take i) = U))
        case atStart => exact ⟨rfl, 0, 1, [], by omega, rfl, rfl, by decide, rfl, rfl, Lib.hid rfl, Lib.hid rfl⟩
        case round =>
          obtain ⟨rfl, i, x, U, hin, rfl, rfl, hx2, rfl, hUl, Hx, HU⟩ := hrel
          rcases gk with _ | q
          · obtain rfl : i = l.length := by omega
            have e : U = R := by rw [← HR.out, ← HU.out, List.take_length]
            subst e
            clear Hx HU HR
            go_wp2
            exact bodyPost_ret (v := .tuple #[.string ⟨U.toArray⟩, .int .i64 0]) (by simp [results, Tryd.results23, go_sem]) rfl ⟨rfl, rfl⟩
          · have hil : i < l.length := by omega
            obtain ⟨c, hci⟩ : ∃ c, l[i]? = some c := ⟨_, List.getElem?_eq_getElem hil⟩
            have hix := run_at_bytes l i c hci (i : Int) rfl
            have hc2 : dgt c < 2 := HW.out c (List.mem_of_getElem? hci)
            have hnx := trs_next hci 1
            rw [Hx.out, HU.out] at hnx
            clear hci HU Hx
            obtain ⟨V0, hV0⟩ : ∃ V, U ++ [(48 : UInt8)] = V := ⟨_, rfl⟩
            obtain ⟨V1, hV1⟩ : ∃ V, U ++ [(49 : UInt8)] = V := ⟨_, rfl⟩
            have hs0 : ∀ w, (Op.stringOp .add ⟨U.toArray⟩ ⟨#[48]⟩).run Tryd.prog w = .ok (.string ⟨V0.toArray⟩) w := fun w => by
              rw [← hV0]; exact run_string_add_lists w U [48] (by omega) (by simp)
            have hs1 : ∀ w, (Op.stringOp .add ⟨U.toArray⟩ ⟨#[49]⟩).run Tryd.prog w = .ok (.string ⟨V1.toArray⟩) w := fun w => by
              rw [← hV1]; exact run_string_add_lists w U [49] (by omega) (by simp)
            have hl0 : V0.length = i + 1 := by rw [← hV0]; simp [hUl]
            have hl1 : V1.length = i + 1 := by rw [← hV1]; simp [hUl]
            have d48 : dgt 48 = 0 := by decide
            have d49 : dgt 49 = 1 := by decide
            have k0 := cut0
            have k1 := cut1
            have HD := Lib.hid (fun c W hh => refNumber_any c W hh)
            rcases wof2 hc2 with rfl | rfl <;> rcases (show x = 0 ∨ x = 1 by omega) with rfl | rfl
            · have HN := Lib.hid (show trs 1 (l.take (i + 1)) = V0 by rw [hnx.1, d48, ← hV0]; rfl)
              have HS := Lib.hid (show lastD 1 (l.take (i + 1)) = 0 by rw [hnx.2, d48])
              clear hnx hV0 hV1
              go_wp2_with (go_at_call 38; (refine (HD.out 48 _ (by decide)).mono ?_); rintro e W1 ⟨rfl, hW⟩; (rw [hW]); (clear hW); (rw [d48]))
              go_roundg q
              case measure => omega
              case rel => exact ⟨rfl, i + 1, 0, V0, by omega, by go_num, rfl, by decide, rfl, hl0, HS, HN⟩
            · have HN := Lib.hid (show trs 1 (l.take (i + 1)) = V1 by rw [hnx.1, d48, ← hV1]; rfl)
              have HS := Lib.hid (show lastD 1 (l.take (i + 1)) = 0 by rw [hnx.2, d48])
              clear hnx hV0 hV1
              go_wp2_with (go_at_call 38; (refine (HD.out 48 _ (by decide)).mono ?_); rintro e W1 ⟨rfl, hW⟩; (rw [hW]); (clear hW); (rw [d48]))
              go_roundg q
              case measure => omega
              case rel => exact ⟨rfl, i + 1, 0, V1, by omega, by go_num, rfl, by decide, rfl, hl1, HS, HN⟩
            · have HN := Lib.hid (show trs 1 (l.take (i + 1)) = V1 by rw [hnx.1, d49, ← hV1]; rfl)
              have HS := Lib.hid (show lastD 1 (l.take (i + 1)) = 1 by rw [hnx.2, d49])
              clear hnx hV0 hV1
              go_wp2_with (go_at_call 38; (refine (HD.out 49 _ (by decide)).mono ?_); rintro e W1 ⟨rfl, hW⟩; (rw [hW]); (clear hW); (rw [d49]))
              go_roundg q
              case measure => omega
              case rel => exact ⟨rfl, i + 1, 1, V1, by omega, by go_num, rfl, by decide, rfl, hl1, HS, HN⟩
            · have HN := Lib.hid (show trs 1 (l.take (i + 1)) = V0 by rw [hnx.1, d49, ← hV0]; rfl)
              have HS := Lib.hid (show lastD 1 (l.take (i + 1)) = 1 by rw [hnx.2, d49])
              clear hnx hV0 hV1
              go_wp2_with (go_at_call 38; (refine (HD.out 49 _ (by decide)).mono ?_); rintro e W1 ⟨rfl, hW⟩; (rw [hW]); (clear hW); (rw [d49]))
              go_roundg q
              case measure => omega
              case rel => exact ⟨rfl, i + 1, 1, V0, by omega, by go_num, rfl, by decide, rfl, hl0, HS, HN⟩
    all_goals
      have HX := Lib.hid (show trsR s l = ([], 2) by unfold trsR; rw [show chkV s l = 2 by unfold chkV; rw [if_pos HZ.out, if_neg (by omega)]]; rfl)
      rw [HX.out]
      have e1 : (s != 0) = true := by rw [bne_iff_ne]; omega
      have e2 : (s != 1) = true := by rw [bne_iff_ne]; omega
      go_enter Tryd.func23, Tryd.ntmps23
      go_wp2_with (go_at_call 31; (with_reducible refine (HC.out _).mono ?_); rintro e W1 ⟨rfl, hW⟩; (rw [hW]); (clear hW))
      exact bodyPost_ret (v := .tuple #[.string ⟨#[]⟩, .int .i64 2]) (by simp [results, Tryd.results23, go_sem]) rfl ⟨rfl, rfl⟩
  · obtain ⟨c, hc⟩ : ∃ c, chk 2 l = c := ⟨_, rfl⟩
    have HX := Lib.hid (show trsR s l = ([], c) by unfold trsR; rw [show chkV s l = c by unfold chkV; rw [if_neg h0, hc], if_neg (by rw [← hc]; exact h0)])
    rw [HX.out]
    simp only [hc] at HC
    rw [hc] at h0
    have h1 : (c == 0) = false := by rw [beq_eq_false_iff_ne]; exact h0
    clear hc h0
    go_enter Tryd.func23, Tryd.ntmps23
    go_wp2_with (go_at_call 31; (with_reducible refine (HC.out _).mono ?_); rintro e W1 ⟨rfl, hW⟩; (rw [hW]); (clear hW))
    exact bodyPost_ret (v := .tuple #[.string ⟨#[]⟩, .int .i64 c]) (by simp [results, Tryd.results23, go_sem]) rfl ⟨rfl, rfl⟩
end Go.Proofs.YtokpfbbhkmlclaaDoor
