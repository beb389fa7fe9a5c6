/- WordBorders returns true for every string. -/
import Derived.Test.YtigdjlhihhakmaaDoorWq
namespace Go.Proofs.YtigdjlhihhakmaaDoor
open Go.RowKit
set_option linter.unusedSimpArgs false
set_option linter.unusedVariables false

theorem has_suf (l : List UInt8) (n : Nat) (h : n ≤ l.length) : Lib.hasSuffix l (l.take n) = decide (Suf l l n) := by
  unfold Lib.hasSuffix
  rw [Bool.eq_iff_iff, List.isSuffixOf_iff_suffix, decide_eq_true_iff]
  exact ⟨fun e => ⟨h, e⟩, fun e => e.2⟩
theorem below_drewN {B : Nat} {w W : World} (h : Below B w W) (q : Nat) : Below B w (W.drewN q) := ⟨h.os, h.tape, h.output, h.size, h.block⟩
set_option maxRecDepth 100000 in
set_option maxHeartbeats 6400000 in
theorem wordBorders_any (l : List UInt8) (w : World) (hl : l.length ≤ 9223372036854775807) :
    Calls Tryd.prog 7 #[.string ⟨l.toArray⟩] w fun e w' => e = .returned (.bool true) ∧ Below w.heap.size w w' := by
  by_cases h40 : 40 < l.length
  · go_enter Tryd.func7, Tryd.ntmps7
    go_wp2_with (go_at_call 12; (with_reducible refine (awake_any _).mono ?_); rintro e W1 ⟨rfl, hb⟩)
    go_ret
    exact ⟨rfl, hb⟩
  · have hl40 : l.length ≤ 40 := by omega
    have hbl := bord_le l
    obtain ⟨b, Hb⟩ : ∃ b : Nat, Hid (bord l = b) := ⟨_, Lib.hid rfl⟩
    obtain ⟨p, Hp⟩ : ∃ p : Nat, Hid (per l = p) := ⟨_, Lib.hid rfl⟩
    have hpp : (l.length : Int) - (b : Int) = (p : Int) := by rw [← Hp.out, ← Hb.out]; unfold per; omega
    rw [Hb.out] at hbl
    have HB1 := Lib.hid (fun W => border_any l W (by omega))
    have HP1 := Lib.hid (fun W => period_any l W (by omega))
    simp only [Hb.out] at HB1
    simp only [Hp.out] at HP1
    have hpb : ((p : Int) == (p : Int)) = true := by simp
    have hz : l.length = 0 ∨ (0 < l.length ∧ ((b : Int) == (l.length : Int)) = false) := by
      rcases Nat.eq_zero_or_pos l.length with h | h
      · exact Or.inl h
      · exact Or.inr ⟨h, by rw [beq_eq_false_iff_ne]; omega⟩
    have hd1 : decide ((40 : Int) < (l.length : Int)) = false := decide_eq_false (by omega)
    have hd2 : decide (l.length < b) = false := decide_eq_false (by omega)
    have hd3 : decide ((b : Int) < 0) = false := decide_eq_false (by omega)
    have hd4 : decide ((l.length : Int) < (b : Int)) = false := decide_eq_false (by omega)
    clear h40
    rcases hz with h0 | ⟨h0, h1⟩
    · have hl0 := List.eq_nil_of_length_eq_zero h0
      subst hl0
      have hb0 : b = 0 := Hb.out.symm
      have hp0 : p = 0 := Hp.out.symm
      subst hb0 hp0
      clear hbl hpp h0 hl hl40 hpb hd1 hd2 hd3 hd4
      go_enter Tryd.func7, Tryd.ntmps7
      go_wp2_with (first | (go_at_call 25; (with_reducible refine (HB1.out _).mono ?_); rintro e W1 ⟨rfl, b1⟩) | (go_at_call 27; (with_reducible refine (HP1.out _).mono ?_); rintro e W2 ⟨rfl, b2⟩))
      go_loopg [5] 0 (fun q s5 wx => q = 0 ∧ wx = W2 ∧ s5 = .int .i64 1)
      case atStart => exact ⟨rfl, rfl, rfl⟩
      case round =>
        obtain ⟨rfl, rfl, rfl⟩ := hrel
        go_wp2_with fail
        go_loopg [7] 0 (fun q s7 wx => q = 0 ∧ wx = wr ∧ s7 = .int .i64 1)
        case atStart => exact ⟨rfl, rfl, rfl⟩
        case round =>
          obtain ⟨rfl, rfl, rfl⟩ := hrel
          go_wp2_with (go_at_call 12; (with_reducible refine (awake_any _).mono ?_); rintro e W3 ⟨rfl, b3⟩)
          go_ret
          exact ⟨rfl, below_more (below_more b1 (Nat.le_refl _) b2) (Nat.le_refl _) b3⟩
    · go_enter Tryd.func7, Tryd.ntmps7
      go_wp2_with (first | (go_at_call 25; (with_reducible refine (HB1.out _).mono ?_); rintro e W1 ⟨rfl, b1⟩) | (go_at_call 27; (with_reducible refine (HP1.out _).mono ?_); rintro e W2 ⟨rfl, b2⟩))
      have B2 := below_more b1 (Nat.le_refl _) b2
      clear b1 b2 hpb hpp h1
      go_loopg [5] (l.length - 1) (fun q s5 wx => Below w.heap.size w wx ∧ ∃ n : Nat, n + q = l.length ∧ 1 ≤ n ∧ s5 = .int .i64 (n : Int))
      case atStart => exact ⟨B2, 1, by omega, by omega, rfl⟩
      case round =>
        obtain ⟨B3, n, hn, hn1, rfl⟩ := hrel
        clear B2
        rcases gk with _ | g
        · obtain rfl : n = l.length := by omega
          go_wp2_with fail
          go_loopg [7] l.length (fun q s7 wx => Below w.heap.size w wx ∧ ∃ n : Nat, n + q = l.length + 1 ∧ 1 ≤ n ∧ s7 = .int .i64 (n : Int))
          case atStart => exact ⟨B3, 1, by omega, by omega, rfl⟩
          case round =>
            obtain ⟨B4, n, hn, hn1, rfl⟩ := hrel
            clear B3
            rcases gk with _ | g
            · obtain rfl : n = l.length + 1 := by omega
              go_wp2_with (go_at_call 12; (with_reducible refine (awake_any _).mono ?_); rintro e W5 ⟨rfl, b5⟩)
              go_ret
              exact ⟨rfl, below_more B4 (Nat.le_refl _) b5⟩
            · have hnl : n ≤ l.length := by omega
              have hc1 := run_drop_at l (l.drop n) n (n : Int) rfl hnl rfl
              have hc2 := run_take_at l (l.take (l.length - n)) (l.length - n) ((l.length : Int) - (n : Int)) (by omega) (by omega) rfl
              have hw3 : IntKind.i64.wrap ((l.length : Int) - (n : Int)) = (l.length : Int) - (n : Int) := by rw [IntKind.wrap_i64]; omega
              have hsame := per_same hnl
              obtain ⟨U, hU⟩ : ∃ U, l.drop n = U := ⟨_, rfl⟩
              obtain ⟨V, hV⟩ : ∃ V, l.take (l.length - n) = V := ⟨_, rfl⟩
              rw [hU] at hc1 hsame
              rw [hV] at hc2 hsame
              have HL := Lib.hid (fun h : Per l n => per_least hn1 h (by intro e; rw [e] at h0; exact absurd h0 (by simp)))
              have HP := Lib.hid (per_is l)
              clear hU hV
              by_cases hs : U = V
              · have hpn : p ≤ n := by have := HL.out (hsame.1 hs); rw [Hp.out] at this; exact this
                subst hs
                clear hsame
                have hee : (U == U) = true := by simp
                go_wp2_with fail
                go_quiet (fail)
                go_wp2_with fail
                go_roundg g
                case measure => omega
                case rel => exact ⟨below_drewN B4 _, n + 1, by omega, by omega, by go_num⟩
              · have hpn : n ≠ p := fun e => hs (hsame.2 (by have := HP.out; rw [Hp.out] at this; rwa [e]))
                have hne : (U == V) = false := by rw [beq_eq_false_iff_ne]; exact hs
                have hne2 : ((n : Int) == (p : Int)) = false := by rw [beq_eq_false_iff_ne]; omega
                clear hsame hs hpn
                go_wp2_with fail
                go_quiet (fail)
                go_wp2_with fail
                go_roundg g
                case measure => omega
                case rel => exact ⟨below_drewN B4 _, n + 1, by omega, by omega, by go_num⟩
        · have hnl : n < l.length := by omega
          have hc1 := run_take_at l (l.take n) n (n : Int) rfl (by omega) rfl
          have HS := Lib.hid (fun W => Tryd.strings_HasSuffix ⟨l.toArray⟩ ⟨(l.take n).toArray⟩ W hl)
          have HH := Lib.hid (has_suf l n (by omega))
          by_cases hs : Suf l l n
          · have hnb : n ≤ b := by have := le_bord hnl hs; rw [Hb.out] at this; exact this
            have HT := Lib.hid (show Lib.hasSuffix l (l.take n) = true by rw [HH.out]; exact decide_eq_true hs)
            clear hs
            go_wp2_with (go_at_call 40; (with_reducible refine (HS.out _).mono ?_); rintro e W5 ⟨rfl, rfl⟩; (dsimp only []); (rw [HT.out]))
            go_roundg g
            case measure => omega
            case rel => exact ⟨B3, n + 1, by omega, by omega, by go_num⟩
          · have hnb : n ≠ b := fun e => hs (by have := bord_suf l; rw [Hb.out] at this; rwa [e])
            have hne2 : ((n : Int) == (b : Int)) = false := by rw [beq_eq_false_iff_ne]; omega
            have HT := Lib.hid (show Lib.hasSuffix l (l.take n) = false by rw [HH.out]; exact decide_eq_false hs)
            clear hs hnb
            go_wp2_with (go_at_call 40; (with_reducible refine (HS.out _).mono ?_); rintro e W5 ⟨rfl, rfl⟩; (dsimp only []); (rw [HT.out]))
            go_roundg g
            case measure => omega
            case rel => exact ⟨B3, n + 1, by omega, by omega, by go_num⟩
end Go.Proofs.YtigdjlhihhakmaaDoor
