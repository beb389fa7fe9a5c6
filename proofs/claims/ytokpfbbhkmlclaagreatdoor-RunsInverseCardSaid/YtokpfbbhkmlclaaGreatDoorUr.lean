/- What runs.Longest returns. Condition: at most 1000 letters, or an error of Check. -/
import Derived.Test.YtokpfbbhkmlclaaGreatDoorUl
namespace Go.Proofs.YtokpfbbhkmlclaaGreatDoor
open Go.RowKit
set_option linter.unusedSimpArgs false
set_option linter.unusedVariables false

theorem isLetter_any (z : Int) (w : World) : Calls Tryz.prog 32 #[.int .i64 z] w fun e w' => e = .returned (.bool (decide (0 ≤ z ∧ z < 16))) ∧ w' = w := by
  rcases (show z < 0 ∨ (0 ≤ z ∧ z < 16) ∨ 16 ≤ z by omega) with h | ⟨h1, h2⟩ | h
  · have e : decide (0 ≤ z ∧ z < 16) = false := decide_eq_false (by omega)
    have d1 : decide (0 ≤ z) = false := decide_eq_false (by omega)
    rw [e]; clear e
    go_enter Tryz.func32, Tryz.ntmps32
    go_wp2
    go_ret
    exact ⟨rfl, rfl⟩
  · have e : decide (0 ≤ z ∧ z < 16) = true := decide_eq_true ⟨h1, h2⟩
    have d1 : decide (0 ≤ z) = true := decide_eq_true (by omega)
    have d2 : decide (z < 16) = true := decide_eq_true (by omega)
    rw [e]; clear e
    go_enter Tryz.func32, Tryz.ntmps32
    go_wp2
    go_ret
    exact ⟨rfl, rfl⟩
  · have e : decide (0 ≤ z ∧ z < 16) = false := decide_eq_false (by omega)
    have d1 : decide (0 ≤ z) = true := decide_eq_true (by omega)
    have d2 : decide (z < 16) = false := decide_eq_false (by omega)
    rw [e]; clear e
    go_enter Tryz.func32, Tryz.ntmps32
    go_wp2
    go_ret
    exact ⟨rfl, rfl⟩
/-- What Longest returns. -/
def lonR (l : List UInt8) (z : Int) : Int × Int := if chk 16 l = 0 then (if 0 ≤ z ∧ z < 16 then (lngR z (rns l), 0) else (0, 2)) else (0, chk 16 l)
theorem split_good (l : List UInt8) (w : World) (hl : l.length ≤ 1000) (h0 : chk 16 l = 0) :
    Calls Tryz.prog 12 #[.string ⟨l.toArray⟩] w fun e w' => ∃ a c, e = .returned (.tuple #[.slice a (rns l).length c, .int .i64 0]) ∧ RunsAt w' w.heap.size (.slice a (rns l).length c) (rns l) ∧ Below w.heap.size w w' := by
  refine (split_any l w (Or.inl hl)).mono ?_
  rintro e w' ⟨v, rfl, h1, h2⟩
  rw [splitR_zero h0] at h1 ⊢
  obtain ⟨a, c, rfl⟩ := h1.slice
  exact ⟨a, c, rfl, h1, h2⟩
theorem split_bad (l : List UInt8) (w : World) (hl : l.length ≤ 1000 ∨ (65536 < l.length ∧ l.length ≤ 9223372036854775807)) {c : Int} (h : chk 16 l = c) (h0 : c ≠ 0) :
    Calls Tryz.prog 12 #[.string ⟨l.toArray⟩] w fun e w' => (∃ a k, e = .returned (.tuple #[.slice a 0 k, .int .i64 c])) ∧ Below w.heap.size w w' := by
  refine (split_any l w hl).mono ?_
  rintro e w' ⟨v, rfl, h1, h2⟩
  rw [splitR_err h h0] at h1 ⊢
  obtain ⟨a, k, rfl⟩ := h1.slice
  exact ⟨⟨a, k, rfl⟩, h2⟩
theorem lngR_nonneg (d : Int) (rs : List (Int × Int)) : 0 ≤ lngR d rs := by
  suffices ∀ (rs : List (Int × Int)) (a : Int), 0 ≤ a → 0 ≤ rs.foldl (fun m p => if p.1 = d then max m p.2 else m) a from this rs 0 (Int.le_refl _)
  intro rs
  induction rs with
  | nil => exact fun a h => h
  | cons p rs ih =>
    intro a h
    rw [List.foldl_cons]
    apply ih
    split <;> omega
set_option maxRecDepth 100000 in
set_option maxHeartbeats 6400000 in
theorem longest_any (l : List UInt8) (z : Int) (w : World) (hl : l.length ≤ 1000 ∨ (65536 < l.length ∧ l.length ≤ 9223372036854775807)) :
    Calls Tryz.prog 16 #[.string ⟨l.toArray⟩, .int .i64 z] w (NumOut w (lonR l z)) := by
  have HL := Lib.hid (fun W => isLetter_any z W)
  by_cases h0 : chk 16 l = 0
  · obtain ⟨m, hm, m1, m2, hl2, hW⟩ := chk_zero h0
    have hl3 : l.length ≤ 1000 := by omega
    have HC := Lib.hid (fun W => split_good l W hl3 h0)
    have hrl := rns_len l
    have HW := Lib.hid (rns_wf l (by obtain rfl : m = 16 := by omega
                                     exact hW))
    rcases (show z < 0 ∨ 16 ≤ z ∨ (0 ≤ z ∧ z < 16) by omega) with hz | hz | ⟨hz1, hz2⟩
    case inr.inr =>
      have HX := Lib.hid (show lonR l z = (lngR z (rns l), 0) by unfold lonR; rw [if_pos h0, if_pos ⟨hz1, hz2⟩])
      rw [HX.out]
      have ed : decide (0 ≤ z ∧ z < 16) = true := decide_eq_true ⟨hz1, hz2⟩
      simp only [ed] at HL
      have d1 : decide (z < 0) = false := decide_eq_false (by omega)
      have d2 : decide (15 < z) = false := decide_eq_false (by omega)
      have HA := Lib.hid (fun i p (h : (rns l)[i]? = some p) => lngR_next (d := z) h)
      have HN := Lib.hid (fun i => lngR_nonneg z ((rns l).take i))
      have HE := Lib.hid (show lngR z ((rns l).take (rns l).length) = lngR z (rns l) by rw [List.take_length])
      obtain ⟨R, hR⟩ : ∃ R, lngR z (rns l) = R := ⟨_, rfl⟩
      rw [hR] at HE ⊢
      obtain ⟨Z, hZ⟩ : ∃ Z, rns l = Z := ⟨_, rfl⟩
      rw [hZ] at hrl HA HN HE HC HW
      clear hZ hR hl h0 HX hm m1 m2 hl2 ed hW
      go_enter Tryz.func16, Tryz.ntmps16
      go_wp2_with (first
        | (go_at_call 12; (with_reducible refine (HC.out _).mono ?_); rintro e W1 ⟨a, c, rfl, hI, b1⟩)
        | (go_at_call 32; (with_reducible refine (HL.out _).mono ?_); rintro e W2 ⟨rfl, hW⟩; (rw [hW]); (clear hW)))
      have HI := Lib.hid hI
      clear hI
      go_loopg [8, 24] Z.length (fun q s8 s24 wx => ∃ (i : Nat) (x : Int), i + q = Z.length ∧ s24 = .int .i64 (i : Int) ∧ s8 = .int .i64 x ∧ Hid (lngR z (Z.take i) = x) ∧ Below W1.heap.size W1 wx)
      case atStart => exact ⟨0, 0, by omega, rfl, rfl, Lib.hid rfl, Below.refl _ _⟩
      case round =>
        obtain ⟨i, x, hin, rfl, rfl, Hx, hb⟩ := hrel
        rcases gk with _ | q
        · obtain rfl : i = Z.length := by omega
          have e1 : x = R := by rw [← HE.out, ← Hx.out]
          subst e1
          clear Hx HE
          go_wp2
          exact bodyPost_ret (v := .tuple #[.int .i64 x, .int .i64 0]) (by simp [results, Tryz.results16, go_sem]) rfl ⟨rfl, below_more b1 (Nat.le_refl _) hb⟩
        · have hil : i < Z.length := by omega
          obtain ⟨p, hp⟩ : ∃ p, Z[i]? = some p := ⟨_, List.getElem?_eq_getElem hil⟩
          obtain ⟨g, rfl⟩ := HI.out.addr (by omega)
          obtain ⟨k1, k2⟩ := (HI.out.keep hb).cell hp
          have n1 := HA.out i p hp
          have hpw := HW.out p (List.mem_of_getElem? hp)
          have hx0 := HN.out i
          rw [Hx.out] at n1 hx0
          obtain ⟨u, y⟩ := p
          dsimp only at k1 k2 n1 hpw
          have j2 : (i : Int) < (Z.length : Int) := by omega
          clear hp
          by_cases hu : u = z
          · subst hu
            rw [if_pos rfl] at n1
            have ee : (u == u) = true := by simp
            rcases (show x < y ∨ y ≤ x by omega) with h | h
            · have N1 := Lib.hid (n1.trans (show max x y = y by omega))
              have mx : max x y = y := by omega
              have d3 : decide (x < y) = true := decide_eq_true h
              clear n1 Hx
              go_wp2
              go_roundg q
              case measure => omega
              case rel => exact ⟨i + 1, y, by omega, by go_num, rfl, N1, hb.alloc hb.size _⟩
            · have N1 := Lib.hid (n1.trans (show max x y = x by omega))
              have mx : max x y = x := by omega
              have d3 : decide (x < y) = false := decide_eq_false (by omega)
              clear n1 Hx
              go_wp2
              go_roundg q
              case measure => omega
              case rel => exact ⟨i + 1, x, by omega, by go_num, rfl, N1, hb.alloc hb.size _⟩
          · rw [if_neg hu] at n1
            have N1 := Lib.hid n1
            have ee : (u == z) = false := by rw [beq_eq_false_iff_ne]; exact hu
            clear n1 Hx hu
            go_wp2
            go_roundg q
            case measure => omega
            case rel => exact ⟨i + 1, x, by omega, by go_num, rfl, N1, hb.alloc hb.size _⟩
    all_goals
      have HX := Lib.hid (show lonR l z = (0, 2) by unfold lonR; rw [if_pos h0, if_neg (by omega)])
      rw [HX.out]
      have ed : decide (0 ≤ z ∧ z < 16) = false := decide_eq_false (by omega)
      simp only [ed] at HL
      first
        | have d1 : decide (z < 0) = true := decide_eq_true (by omega)
        | have d1 : decide (z < 0) = false := decide_eq_false (by omega)
      first
        | have d2 : decide (15 < z) = true := decide_eq_true (by omega)
        | have d2 : decide (15 < z) = false := decide_eq_false (by omega)
      clear hl h0 HX hm m1 m2 hl2 ed hW
      go_enter Tryz.func16, Tryz.ntmps16
      go_wp2_with (first
        | (go_at_call 12; (with_reducible refine (HC.out _).mono ?_); rintro e W1 ⟨a, c, rfl, hI, b1⟩)
        | (go_at_call 32; (with_reducible refine (HL.out _).mono ?_); rintro e W2 ⟨rfl, hW⟩; (rw [hW]); (clear hW)))
      exact bodyPost_ret (v := .tuple #[.int .i64 0, .int .i64 2]) (by simp [results, Tryz.results16, go_sem]) rfl ⟨rfl, b1⟩
  · obtain ⟨c, hc⟩ : ∃ c, chk 16 l = c := ⟨_, rfl⟩
    have HX := Lib.hid (show lonR l z = (0, c) by unfold lonR; rw [if_neg h0, hc])
    rw [HX.out]
    rw [hc] at h0
    have HC := Lib.hid (fun W => split_bad l W hl hc h0)
    have h1 : (c == 0) = false := by rw [beq_eq_false_iff_ne]; exact h0
    clear hc h0
    go_enter Tryz.func16, Tryz.ntmps16
    go_wp2_with (go_at_call 12; (with_reducible refine (HC.out _).mono ?_); rintro e W1 ⟨⟨a, k, rfl⟩, b1⟩)
    exact bodyPost_ret (v := .tuple #[.int .i64 0, .int .i64 c]) (by simp [results, Tryz.results16, go_sem]) rfl ⟨rfl, b1⟩
end Go.Proofs.YtokpfbbhkmlclaaGreatDoor
