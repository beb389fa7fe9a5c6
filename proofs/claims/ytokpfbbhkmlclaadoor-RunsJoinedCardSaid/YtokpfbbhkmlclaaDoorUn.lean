/- What the reference implementation's Great, Disparity, Range, Levels and Transitions return. Condition: at most 1000 letters, or an error of Check. -/
import Derived.Test.YtokpfbbhkmlclaaDoorUm
namespace Go.Proofs.YtokpfbbhkmlclaaDoor
open Go.RowKit
set_option linter.unusedSimpArgs false
set_option linter.unusedVariables false

theorem refGreat_small (l : List UInt8) (w : World) (hl : l.length ≤ 60 ∨ (65536 < l.length ∧ l.length ≤ 65544)) :
    Calls Tryd.prog 10 #[.string ⟨l.toArray⟩] w fun e w' => e = .returned (.bool false) ∧ w' = w := by
  rcases hl with h | ⟨h1, h2⟩
  · have d1 : decide ((65544 : Int) < (l.length : Int)) = false := decide_eq_false (by omega)
    have d2 : decide ((60 : Int) < (l.length : Int)) = false := decide_eq_false (by omega)
    go_enter Tryd.func10, Tryd.ntmps10
    go_wp2
    go_ret
    exact ⟨rfl, rfl⟩
  · have d1 : decide ((65544 : Int) < (l.length : Int)) = false := decide_eq_false (by omega)
    have d2 : decide ((l.length : Int) ≤ 65536) = false := decide_eq_false (by omega)
    have d3 : decide ((60 : Int) < (l.length : Int)) = true := decide_eq_true (by omega)
    go_enter Tryd.func10, Tryd.ntmps10
    go_wp2
    go_ret
    exact ⟨rfl, rfl⟩
theorem refGreat_great (l : List UInt8) (w : World) (hl : (60 < l.length ∧ l.length ≤ 65536) ∨ (65544 < l.length ∧ l.length ≤ 9223372036854775807)) :
    Calls Tryd.prog 10 #[.string ⟨l.toArray⟩] w fun e w' => e = .returned (.bool true) ∧ w' = w := by
  rcases hl with ⟨h1, h2⟩ | ⟨h1, h2⟩
  · have d1 : decide ((65544 : Int) < (l.length : Int)) = false := decide_eq_false (by omega)
    have d2 : decide ((l.length : Int) ≤ 65536) = true := decide_eq_true (by omega)
    have d3 : decide ((60 : Int) < (l.length : Int)) = true := decide_eq_true (by omega)
    go_enter Tryd.func10, Tryd.ntmps10
    go_wp2
    go_ret
    exact ⟨rfl, rfl⟩
  · have d1 : decide ((65544 : Int) < (l.length : Int)) = true := decide_eq_true (by omega)
    have d2 : decide ((l.length : Int) ≤ 65536) = false := decide_eq_false (by omega)
    have d3 : decide ((60 : Int) < (l.length : Int)) = true := decide_eq_true (by omega)
    go_enter Tryd.func10, Tryd.ntmps10
    go_wp2
    go_ret
    exact ⟨rfl, rfl⟩
theorem refCharges_good (l : List UInt8) (w : World) (hl : l.length ≤ 1000) (h0 : chk 2 l = 0) :
    Calls Tryd.prog 25 #[.string ⟨l.toArray⟩] w fun e w' => ∃ g c, e = .returned (.tuple #[.slice (some ⟨g, 0, none⟩) (l.length + 1) c, .int .i64 0]) ∧ IntsAt w' w.heap.size (.slice (some ⟨g, 0, none⟩) (chgs l).length c) (chgs l) ∧ Below w.heap.size w w' := by
  refine (refCharges_any l w (Or.inl hl)).mono ?_
  rintro e w' ⟨v, rfl, h1, h2⟩
  rw [chgR_zero h0] at h1
  obtain ⟨g, c, rfl⟩ := h1.row (by rw [chgs_len]; omega)
  rw [chgR_zero h0]
  exact ⟨g, c, by rw [chgs_len], h1, h2⟩
theorem refCharges_bad (l : List UInt8) (w : World) (hl : l.length ≤ 1000 ∨ (65536 < l.length ∧ l.length ≤ 9223372036854775807)) {c : Int} (h : chk 2 l = c) (h0 : c ≠ 0) :
    Calls Tryd.prog 25 #[.string ⟨l.toArray⟩] w fun e w' => (∃ a k, e = .returned (.tuple #[.slice a 0 k, .int .i64 c])) ∧ Below w.heap.size w w' := by
  refine (refCharges_any l w hl).mono ?_
  rintro e w' ⟨v, rfl, h1, h2⟩
  rw [chgR_err h h0] at h1 ⊢
  obtain ⟨a, k, rfl⟩ := h1.slice
  exact ⟨⟨a, k, rfl⟩, h2⟩
set_option maxRecDepth 100000 in
set_option maxHeartbeats 3200000 in
theorem refDisparity_any (l : List UInt8) (w : World) (hl : l.length ≤ 1000 ∨ (65536 < l.length ∧ l.length ≤ 9223372036854775807)) :
    Calls Tryd.prog 27 #[.string ⟨l.toArray⟩] w (NumOut w (dspR l)) := by
  by_cases h0 : chk 2 l = 0
  · obtain ⟨m, hm, m1, m2, hl2, hW⟩ := chk_zero h0
    have hl3 : l.length ≤ 1000 := by omega
    have HX := Lib.hid (show dspR l = (chg l, 0) by unfold dspR; rw [if_pos h0])
    rw [HX.out]
    have HC := Lib.hid (fun W => refCharges_good l W hl3 h0)
    clear hW hl h0 HX hm m1 m2 hl2
    go_enter Tryd.func27, Tryd.ntmps27
    go_wp2_with (go_at_call 25; (with_reducible refine (HC.out _).mono ?_); rintro e W1 ⟨g, c, rfl, hI, b1⟩; (have hcell := cell_last hI); (have j2 : (l.length : Int) < (l.length : Int) + 1 := by omega))
    exact bodyPost_ret (v := .tuple #[.int .i64 (chg l), .int .i64 0]) (by simp [results, Tryd.results27, go_sem]) rfl ⟨rfl, b1⟩
  · obtain ⟨c, hc⟩ : ∃ c, chk 2 l = c := ⟨_, rfl⟩
    have HX := Lib.hid (show dspR l = (0, c) by unfold dspR; rw [if_neg h0, hc])
    rw [HX.out]
    rw [hc] at h0
    have HC := Lib.hid (fun W => refCharges_bad l W hl hc h0)
    have h1 : (c == 0) = false := by rw [beq_eq_false_iff_ne]; exact h0
    clear hc h0
    go_enter Tryd.func27, Tryd.ntmps27
    go_wp2_with (go_at_call 25; (with_reducible refine (HC.out _).mono ?_); rintro e W1 ⟨⟨a, k, rfl⟩, b1⟩)
    exact bodyPost_ret (v := .tuple #[.int .i64 0, .int .i64 c]) (by simp [results, Tryd.results27, go_sem]) rfl ⟨rfl, b1⟩
theorem fold_next {α : Type} (f : Int → α → Int) (a : Int) {L : List α} {i : Nat} {x : α} (h : L[i]? = some x) : (L.take (i + 1)).foldl f a = f ((L.take i).foldl f a) x := by
  rw [List.take_add_one, h, List.foldl_append]; rfl
set_option maxRecDepth 100000 in
set_option maxHeartbeats 6400000 in
theorem refRange_any (l : List UInt8) (w : World) (hl : l.length ≤ 1000 ∨ (65536 < l.length ∧ l.length ≤ 9223372036854775807)) :
    Calls Tryd.prog 29 #[.string ⟨l.toArray⟩] w (TwoOut w (rngR l)) := by
  by_cases h0 : chk 2 l = 0
  · obtain ⟨m, hm, m1, m2, hl2, hW⟩ := chk_zero h0
    have hl3 : l.length ≤ 1000 := by omega
    have HX := Lib.hid (show rngR l = (loC l, hiC l, 0) by unfold rngR; rw [if_pos h0])
    rw [HX.out]
    have HC := Lib.hid (fun W => refCharges_good l W hl3 h0)
    have hcl := chgs_len l
    have HA := Lib.hid (fun i x (h : (chgs l)[i]? = some x) => fold_next min 0 h)
    have HB := Lib.hid (fun i x (h : (chgs l)[i]? = some x) => fold_next max 0 h)
    have HL := Lib.hid (show ((chgs l).take (chgs l).length).foldl min 0 = loC l by rw [List.take_length]; rfl)
    have HH := Lib.hid (show ((chgs l).take (chgs l).length).foldl max 0 = hiC l by rw [List.take_length]; rfl)
    obtain ⟨lo, hlo⟩ : ∃ x, loC l = x := ⟨_, rfl⟩
    obtain ⟨hi, hhi⟩ : ∃ x, hiC l = x := ⟨_, rfl⟩
    rw [hlo] at HL ⊢
    rw [hhi] at HH ⊢
    clear hlo hhi
    obtain ⟨Z, hZ⟩ : ∃ Z, chgs l = Z := ⟨_, rfl⟩
    rw [hZ] at hcl HL HH HC HA HB
    clear hZ
    clear hW hl h0 HX hm m1 m2 hl2
    go_enter Tryd.func29, Tryd.ntmps29
    go_wp2_with (go_at_call 25; (with_reducible refine (HC.out _).mono ?_); rintro e W1 ⟨g, c, rfl, hI, b1⟩)
    have HI := Lib.hid hI
    clear hI
    go_loopg [7, 8, 9] (l.length + 1) (fun q s7 s8 s9 wx => wx = W1 ∧ ∃ (i : Nat) (x y : Int), i + q = l.length + 1 ∧ s9 = .int .i64 (i : Int) ∧ s7 = .int .i64 x ∧ s8 = .int .i64 y ∧ x ≤ 0 ∧ 0 ≤ y ∧ Hid ((Z.take i).foldl min 0 = x) ∧ Hid ((Z.take i).foldl max 0 = y))
    case atStart => exact ⟨rfl, 0, 0, 0, by omega, rfl, rfl, rfl, Int.le_refl _, Int.le_refl _, Lib.hid rfl, Lib.hid rfl⟩
    case round =>
      obtain ⟨rfl, i, x, y, hin, rfl, rfl, rfl, hx, hy, Hx, Hy⟩ := hrel
      rcases gk with _ | q
      · obtain rfl : i = l.length + 1 := by omega
        have e1 : x = lo := by rw [← HL.out, ← Hx.out, hcl]
        have e2 : y = hi := by rw [← HH.out, ← Hy.out, hcl]
        subst e1 e2
        clear Hx Hy HL HH
        go_wp2
        exact bodyPost_ret (v := .tuple #[.int .i64 x, .int .i64 y, .int .i64 0]) (by simp [results, Tryd.results29, go_sem]) rfl ⟨rfl, b1⟩
      · have hil : i < Z.length := by omega
        obtain ⟨z, hz⟩ : ∃ z, Z[i]? = some z := ⟨_, List.getElem?_eq_getElem hil⟩
        have hcell := HI.out.cell hz
        have n1 := HA.out i z hz
        have n2 := HB.out i z hz
        rw [Hx.out] at n1
        rw [Hy.out] at n2
        have j2 : (i : Int) < (l.length : Int) + 1 := by omega
        clear hz
        rcases (show z < x ∨ (x ≤ z ∧ z ≤ y) ∨ y < z by omega) with h | ⟨h, h2⟩ | h
        · have N1 := Lib.hid (n1.trans (show min x z = z by omega))
          have N2 := Lib.hid (n2.trans (show max y z = y by omega))
          have d1 : decide (z < x) = true := decide_eq_true h
          have d2 : decide (y < z) = false := decide_eq_false (by omega)
          clear n1 n2 Hx Hy
          go_wp2
          go_roundg q
          case measure => omega
          case rel => exact ⟨rfl, i + 1, z, y, by omega, by go_num, rfl, rfl, by omega, hy, N1, N2⟩
        · have N1 := Lib.hid (n1.trans (show min x z = x by omega))
          have N2 := Lib.hid (n2.trans (show max y z = y by omega))
          have d1 : decide (z < x) = false := decide_eq_false (by omega)
          have d2 : decide (y < z) = false := decide_eq_false (by omega)
          clear n1 n2 Hx Hy
          go_wp2
          go_roundg q
          case measure => omega
          case rel => exact ⟨rfl, i + 1, x, y, by omega, by go_num, rfl, rfl, hx, hy, N1, N2⟩
        · have N1 := Lib.hid (n1.trans (show min x z = x by omega))
          have N2 := Lib.hid (n2.trans (show max y z = z by omega))
          have d1 : decide (z < x) = false := decide_eq_false (by omega)
          have d2 : decide (y < z) = true := decide_eq_true h
          clear n1 n2 Hx Hy
          go_wp2
          go_roundg q
          case measure => omega
          case rel => exact ⟨rfl, i + 1, x, z, by omega, by go_num, rfl, rfl, hx, by omega, N1, N2⟩
  · obtain ⟨c, hc⟩ : ∃ c, chk 2 l = c := ⟨_, rfl⟩
    have HX := Lib.hid (show rngR l = (0, 0, c) by unfold rngR; rw [if_neg h0, hc])
    rw [HX.out]
    rw [hc] at h0
    have HC := Lib.hid (fun W => refCharges_bad l W hl hc h0)
    have h1 : (c == 0) = false := by rw [beq_eq_false_iff_ne]; exact h0
    clear hc h0
    go_enter Tryd.func29, Tryd.ntmps29
    go_wp2_with (go_at_call 25; (with_reducible refine (HC.out _).mono ?_); rintro e W1 ⟨⟨a, k, rfl⟩, b1⟩)
    exact bodyPost_ret (v := .tuple #[.int .i64 0, .int .i64 0, .int .i64 c]) (by simp [results, Tryd.results29, go_sem]) rfl ⟨rfl, b1⟩
end Go.Proofs.YtokpfbbhkmlclaaDoor
