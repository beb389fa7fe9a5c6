/- WordFound returns true for every input. -/
import Derived.Test.YtigdjlhihhakmaaDoorWs
import Derived.Test.YtigdjlhihhakmaaDoorWq
namespace Go.Proofs.YtigdjlhihhakmaaDoor
open Go.RowKit
set_option linter.unusedSimpArgs false
set_option linter.unusedVariables false

theorem NumsAt.slice {W : World} {B : Nat} {v : Value} {l : List Nat} (h : NumsAt W B v l) : ∃ a c, v = .slice a l.length c := by
  rcases h.2 with ⟨h1, h2⟩ | ⟨g, cap, cur, h1, _⟩
  · exact ⟨none, 0, by rw [h1, h2]⟩
  · exact ⟨_, _, h1⟩
theorem inc_bound : ∀ (n : Nat) {l : List Nat}, l.Pairwise (· < ·) → (∀ x ∈ l, x < n) → l.length ≤ n := by
  intro n
  induction n with
  | zero =>
    intro l _ h
    cases l with
    | nil => exact Nat.le_refl _
    | cons a l => exact absurd (h a List.mem_cons_self) (by omega)
  | succ n ih =>
    intro l hs h
    rcases List.eq_nil_or_concat l with rfl | ⟨m, a, rfl⟩
    · exact Nat.zero_le _
    · rw [List.concat_eq_append] at hs h ⊢
      rw [List.pairwise_append] at hs
      have h1 := ih hs.1 (fun x hx => by
        have := hs.2.2 x hx a (List.mem_singleton.2 rfl)
        have := h a (by simp)
        omega)
      rw [List.length_append, List.length_singleton]
      omega
theorem occ_len (w u : List UInt8) : ((occ w u).length : Int) ≤ max 0 ((w.length : Int) - (u.length : Int) + 1) := by
  by_cases h : u.length ≤ w.length
  · have := inc_bound (w.length - u.length + 1) (occ_sorted w u) (fun x hx => by have := occ_le hx; omega)
    omega
  · have : (occ w u).length ≤ 0 := inc_bound 0 (occ_sorted w u) (fun x hx => by have := occ_le hx; omega)
    omega
theorem has_pre (w u : List UInt8) (i : Nat) (hi : i ≤ w.length) : Lib.hasPrefix (w.drop i) u = decide (i ∈ occ w u) := by
  unfold Lib.hasPrefix
  rw [Bool.eq_iff_iff, List.isPrefixOf_iff_prefix, decide_eq_true_iff, mem_occ]
  constructor
  · intro h
    have := h.length_le
    rw [List.length_drop] at this
    exact ⟨by omega, h⟩
  · exact fun h => h.2
set_option maxRecDepth 100000 in
set_option maxHeartbeats 6400000 in
theorem wordFound_main (l u : List UInt8) (w : World) (hl : l.length ≤ 40) (hu : u.length ≤ 40) :
    Calls Tryd.prog 6 #[.string ⟨l.toArray⟩, .string ⟨u.toArray⟩] w fun e w' => e = .returned (.bool true) ∧ Below w.heap.size w w' := by
  have hd1 : decide ((40 : Int) < (l.length : Int)) = false := decide_eq_false (by omega)
  have hd2 : decide ((40 : Int) < (u.length : Int)) = false := decide_eq_false (by omega)
  have HF1 := Lib.hid (fun W => find_any l u W (by omega) (by omega))
  obtain ⟨P, hP⟩ : ∃ P, l ++ u = P := ⟨_, rfl⟩
  have hs1 : ∀ w, (Op.stringOp .add ⟨l.toArray⟩ ⟨u.toArray⟩).run Tryd.prog w = .ok (.string ⟨P.toArray⟩) w := fun w => by rw [← hP]; exact run_string_add_lists w l u (by omega) (by omega)
  have HF2 := Lib.hid (fun W => find_any P u W (by rw [← hP, List.length_append]; omega) (by omega))
  have HM := Lib.hid (show l.length ∈ occ P u by rw [mem_occ, ← hP, List.length_append, List.drop_left]; exact ⟨by omega, List.prefix_refl _⟩)
  have HS := Lib.hid (occ_sorted l u)
  have HP := Lib.hid (fun i (hi : i ≤ l.length) => has_pre l u i hi)
  have hlen := occ_len l u
  have hlb := inc_bound (l.length + 1) (occ_sorted l u) (fun x hx => by have := occ_le hx; omega)
  have hlc := inc_bound (P.length + 1) (occ_sorted P u) (fun x hx => by have := occ_le hx; omega)
  have hPl : P.length ≤ 80 := by rw [← hP, List.length_append]; omega
  obtain ⟨L, hL⟩ : ∃ L, occ l u = L := ⟨_, rfl⟩
  obtain ⟨M, hM⟩ : ∃ M, occ P u = M := ⟨_, rfl⟩
  simp only [hL] at HF1 HP
  simp only [hM] at HF2
  rw [hL] at HS hlen hlb
  rw [hM] at HM hlc
  have hd3 : decide ((L.length : Int) ≤ max 0 ((l.length : Int) - (u.length : Int) + 1)) = true := decide_eq_true hlen
  have hee : ((L.length : Int) == (L.length : Int)) = true := by simp
  clear hL hM hP
  go_enter Tryd.func6, Tryd.ntmps6
  go_wp2_with (go_at_call 23; (with_reducible refine (HF1.out _).mono ?_); rintro e W1 ⟨v, rfl, hN, b1⟩; (obtain ⟨a, c, rfl⟩ := NumsAt.slice hN))
  have HN := Lib.hid (show NumsAt W1 w.heap.size (.slice a L.length c) L from hN)
  clear hN
  go_loopg [23] (l.length + 1) (fun q s23 wx => Below w.heap.size w wx ∧ Hid (NumsAt wx w.heap.size (.slice a L.length c) L) ∧ ∃ i : Nat, i + q = l.length + 1 ∧ s23 = .int .i64 (i : Int))
  case atStart => exact ⟨b1, HN, 0, by omega, rfl⟩
  case round =>
    obtain ⟨B2, HN2, i, hi, rfl⟩ := hrel
    clear b1 HN
    rcases gk with _ | g
    · obtain rfl : i = l.length + 1 := by omega
      have hwr : l.length + 1 ≤ 1000 := by omega
      go_wp2_with (first
        | (go_at_call 23; (with_reducible refine (HF2.out _).mono ?_); rintro e W3 ⟨v, rfl, hM3, b3⟩; (obtain ⟨a3, c3, rfl⟩ := NumsAt.slice hM3); (have B3 := below_more B2 (Nat.le_refl _) b3); (have HN3 := Lib.hid (HN2.out.keep b3)); (have HM3 := Lib.hid (show NumsAt W3 wr.heap.size (.slice a3 M.length c3) M from hM3)); (clear hM3))
        | (go_at_call 37; (with_reducible refine (isSorted_any HN3.out (by omega) HS.out).mono ?_); rintro e W4 ⟨rfl, b4⟩; (have B4 := below_more B3 (Nat.le_refl _) b4); (have HN4 := Lib.hid (HN3.out.keep b4)); (have HM4 := Lib.hid (HM3.out.keep b4)))
        | (go_at_call 39; (with_reducible refine (clone_any HN4.out (by omega)).mono ?_); rintro e W5 ⟨v5, rfl, h5, b5⟩; (have B5 := below_more B4 (Nat.le_refl _) b5); (have HM5 := Lib.hid (HM4.out.keep b5)); (have HC5 := Lib.hid h5); (clear h5))
        | (go_at_call 38; (with_reducible refine (compact_any HC5.out (by omega) HS.out).mono ?_); rintro e W6 ⟨⟨a6, c6, rfl⟩, b6⟩; (have B6 := below_more B5 (Nat.le_refl _) b6); (have HM6 := Lib.hid (HM5.out.keep b6)))
        | (go_at_call 35; (with_reducible refine (contains_any HM6.out (by omega) l.length).mono ?_); rintro e W7 ⟨rfl, rfl⟩; (rw [decide_eq_true HM.out]))
        | (go_at_call 12; (with_reducible refine (awake_any _).mono ?_); rintro e W8 ⟨rfl, b8⟩))
      go_ret
      exact ⟨rfl, below_more B6 (Nat.le_refl _) b8⟩
    · have hil : i ≤ l.length := by omega
      have hc1 := run_drop_at l (l.drop i) i (i : Int) rfl hil rfl
      have HPi := Lib.hid (HP.out i hil)
      have HH := Lib.hid (fun W => Tryd.strings_HasPrefix ⟨(l.drop i).toArray⟩ ⟨u.toArray⟩ W)
      obtain ⟨T, hT⟩ : ∃ T, decide (i ∈ L) = T := ⟨_, rfl⟩
      rw [hT] at HPi
      obtain ⟨U, hU⟩ : ∃ U, l.drop i = U := ⟨_, rfl⟩
      rw [hU] at hc1 HPi HH
      have hh : ∀ W, Calls Tryd.prog 36 #[.string ⟨U.toArray⟩, .string ⟨u.toArray⟩] W fun e w' => e = .returned (.bool T) ∧ w' = W := fun W => by
        have := HH.out W
        rwa [show Lib.hasPrefix (⟨U.toArray⟩ : ByteArray).data.toList (⟨u.toArray⟩ : ByteArray).data.toList = T from HPi.out] at this
      have HHH := Lib.hid hh
      have hcc : ∀ q, Calls Tryd.prog 35 #[.slice a L.length c, .int .i64 (i : Int)] (wr.drewN q) fun e W' => e = .returned (.bool T) ∧ W' = wr.drewN q := fun q => by
        have := contains_any (HN2.out.keep (below_drewM (Below.refl wr.heap.size wr) q)) (by omega) i
        rwa [hT] at this
      have HCC := Lib.hid hcc
      clear hU hT hh hcc
      cases T
      all_goals
        go_wp2_with fail
        go_quiet (first
          | (go_at_call 35; refine Calls.quiet_of_same (HCC.out _))
          | (go_at_call 36; refine Calls.quiet_of_same (HHH.out _)))
        go_wp2_with fail
        go_roundg g
        case measure => omega
        case rel => exact ⟨below_drewM B2 _, Lib.hid (HN2.out.keep (below_drewM (Below.refl wr.heap.size wr) _)), i + 1, by omega, by go_num⟩
set_option maxRecDepth 100000 in
set_option maxHeartbeats 6400000 in
theorem wordFound_any (l u : List UInt8) (w : World) (hl : l.length ≤ 9223372036854775807) (hu : u.length ≤ 9223372036854775807) :
    Calls Tryd.prog 6 #[.string ⟨l.toArray⟩, .string ⟨u.toArray⟩] w fun e w' => e = .returned (.bool true) ∧ Below w.heap.size w w' := by
  rcases (show 40 < l.length ∨ (l.length ≤ 40 ∧ 40 < u.length) ∨ (l.length ≤ 40 ∧ u.length ≤ 40) by omega) with a | ⟨a, b⟩ | ⟨a, b⟩
  case inr.inr => exact wordFound_main l u w a b
  all_goals
    go_enter Tryd.func6, Tryd.ntmps6
    go_wp2_with (go_at_call 12; (with_reducible refine (awake_any _).mono ?_); rintro e W7 ⟨rfl, b7⟩)
    go_ret
    exact ⟨rfl, b7⟩
end Go.Proofs.YtigdjlhihhakmaaDoor
