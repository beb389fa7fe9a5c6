/- RunsAdded returns true for every input. -/
import Derived.Test.YtokpfbbhkmlclaaDoorUx1
namespace Go.Proofs.YtokpfbbhkmlclaaDoor
open Go.RowKit
set_option linter.unusedSimpArgs false
set_option linter.unusedVariables false

theorem added_first {l u : List UInt8} {i : Nat} (h : i ≤ l.length) : chg ((l ++ u).take i) = chg (l.take i) := by rw [List.take_append_of_le_length h]
theorem added_second {l u : List UInt8} (k : Nat) : chg ((l ++ u).take (l.length + k)) = chg (u.take k) + chg l := by
  rw [List.take_append, List.take_of_length_le (by omega), chg_append, show l.length + k - l.length = k by omega]; omega
theorem chg_step {l : List UInt8} {i : Nat} (h : Wof 2 l) (hi : i < l.length) : chg (l.take (i + 1)) = chg (l.take i) + 1 ∨ chg (l.take (i + 1)) = chg (l.take i) - 1 := by
  have hc := List.getElem?_eq_getElem hi
  have h2 := h _ (List.mem_of_getElem? hc)
  rw [chg_next hc]
  rcases wof2 h2 with e | e <;> rw [e] <;> unfold ch1
  · rw [show dgt 48 = 0 by decide]; omega
  · rw [show dgt 49 = 1 by decide]; omega
theorem below_trans3 {w W1 W2 W3 : World} (a : Below w.heap.size w W1) (b : Below W1.heap.size W1 W2) (c : Below W2.heap.size W2 W3) : Below w.heap.size w W3 := below_more (below_more a (Nat.le_refl _) b) (Nat.le_refl _) c
set_option maxRecDepth 100000 in
set_option maxHeartbeats 12800000 in
theorem runsAdded_main (l u : List UInt8) (w : World) (hl : l.length ≤ 60) (hu : u.length ≤ 60) (hW : Wof 2 l) (hU : Wof 2 u) :
    Calls Tryd.prog 8 #[.string ⟨l.toArray⟩, .string ⟨u.toArray⟩] w fun e w' => e = .returned (.bool true) ∧ Below w.heap.size w w' := by
  have HG1 := Lib.hid (fun W => refGreat_small l W (Or.inl hl))
  have HG2 := Lib.hid (fun W => refGreat_small u W (Or.inl hu))
  have k1 : chk 2 l = 0 := chk_of (m := 2) (by omega) (by omega) (by omega) hW
  have k2 : chk 2 u = 0 := chk_of (m := 2) (by omega) (by omega) (by omega) hU
  have hW3 : Wof 2 (l ++ u) := Wof.append.2 ⟨hW, hU⟩
  have hPl0 : (l ++ u).length = l.length + u.length := List.length_append
  have k3 : chk 2 (l ++ u) = 0 := chk_of (m := 2) (by omega) (by omega) (by omega) hW3
  have HK1 := Lib.hid (fun W => refCheck_any 2 l W (by omega))
  have HK2 := Lib.hid (fun W => refCheck_any 2 u W (by omega))
  simp only [k1] at HK1
  simp only [k2] at HK2
  have H1 := Lib.hid (fun W => charges_good l W (by omega) k1)
  have H2 := Lib.hid (fun W => charges_good u W (by omega) k2)
  have H3 := Lib.hid (fun W => charges_good (l ++ u) W (by omega) k3)
  have H4 := Lib.hid (fun W => disparity_any l W (Or.inl (by omega)))
  rw [show dspR l = (chg l, 0) by unfold dspR; rw [if_pos k1]] at H4
  have hs1 : ∀ w, (Op.stringOp .add ⟨l.toArray⟩ ⟨u.toArray⟩).run Tryd.prog w = .ok (.string ⟨(l ++ u).toArray⟩) w := fun w => run_string_add_lists w l u (by omega) (by omega)
  have HF := Lib.hid (fun i (h : i ≤ l.length) => added_first (u := u) h)
  have HS := Lib.hid (added_second (l := l) (u := u))
  have HP := Lib.hid (fun i (hi : i < (l ++ u).length) => chg_step hW3 hi)
  have HB := Lib.hid (fun i => chg_bound (hW3.takeU i))
  have HB2 := Lib.hid (fun i => chg_bound (hU.takeU i))
  have HB3 := Lib.hid (chg_bound hW)
  obtain ⟨P, hP⟩ : ∃ P, l ++ u = P := ⟨_, rfl⟩
  rw [hP] at hPl0 H3 HP hs1
  simp only [hP] at HF HS HB hs1
  obtain ⟨d, hd⟩ : ∃ d, chg l = d := ⟨_, rfl⟩
  rw [hd] at H4
  simp only [hd] at HS HB3
  clear k1 k2 k3 hW hU hW3 hP hd
  go_enter Tryd.func8, Tryd.ntmps8
  go_wp2_with (first
    | (go_at_call 10; first
        | ((with_reducible refine (HG1.out _).mono ?_); rintro e W0 ⟨rfl, hW⟩; (rw [hW]); (clear hW))
        | ((with_reducible refine (HG2.out _).mono ?_); rintro e W0 ⟨rfl, hW⟩; (rw [hW]); (clear hW)))
    | (go_at_call 31; first
        | ((with_reducible refine (HK1.out _).mono ?_); rintro e W0 ⟨rfl, hW⟩; (rw [hW]); (clear hW))
        | ((with_reducible refine (HK2.out _).mono ?_); rintro e W0 ⟨rfl, hW⟩; (rw [hW]); (clear hW)))
    | (go_at_call 24; first
        | ((with_reducible refine (H1.out _).mono ?_); rintro e W1 ⟨g1, c1, rfl, i1, b1⟩)
        | ((with_reducible refine (H2.out _).mono ?_); rintro e W2 ⟨g2, c2, rfl, i2, b2⟩)
        | ((with_reducible refine (H3.out _).mono ?_); rintro e W3 ⟨g3, c3, rfl, i3, b3⟩; (rw [hPl0])))
    | (go_at_call 26; (with_reducible refine (H4.out _).mono ?_); rintro e W4 ⟨rfl, b4⟩))
  have I1 := Lib.hid (((i1.keep b2).keep b3).keep b4)
  have I2 := Lib.hid ((i2.keep b3).keep b4)
  have I3 := Lib.hid (i3.keep b4)
  have B4 := below_more (below_trans3 b1 b2 b3) (Nat.le_refl _) b4
  clear i1 i2 i3 b1 b2 b3 b4
  go_loopg [89] (l.length + u.length + 1) (fun q s89 wx => wx = W4 ∧ ∃ i : Nat, i + q = l.length + u.length + 1 ∧ s89 = .int .i64 (i : Int))
  case atStart => exact ⟨rfl, 0, by omega, rfl⟩
  case round =>
    obtain ⟨rfl, i, hin, rfl⟩ := hrel
    rcases gk with _ | q
    · obtain rfl : i = l.length + u.length + 1 := by omega
      have j9 : decide (((l.length + u.length + 1 : Nat) : Int) < (l.length : Int) + (u.length : Int) + 1) = false := decide_eq_false (by omega)
      go_wp2_with (go_at_call 12; (with_reducible refine (awake_any _).mono ?_); rintro e W8 ⟨rfl, b8⟩)
      go_ret
      exact ⟨rfl, below_more B4 (Nat.le_refl _) b8⟩
    · have hiP : i ≤ P.length := by omega
      have x1 := I3.out.cell (chgs_at hiP)
      have bx := HB.out i
      rw [List.length_take] at bx
      have j2 : (i : Int) < (l.length : Int) + (u.length : Int) + 1 := by omega
      have hx0 : ∀ j, i = j + 1 → ∃ y, wr.cell? ⟨g3, j, none⟩ = some (.int .i64 y) ∧ (chg (P.take i) = y + 1 ∨ chg (P.take i) = y - 1) ∧ -(P.length : Int) ≤ y ∧ y ≤ P.length := fun j hj => by
        have := HP.out j (by omega)
        have by' := HB.out j
        rw [List.length_take] at by'
        exact ⟨chg (P.take j), I3.out.cell (chgs_at (by omega)), by rw [hj]; exact this, by omega, by omega⟩
      rcases Nat.lt_or_ge i l.length with hil | hil
      · have hx := HF.out i (by omega)
        have x2 := I1.out.cell (chgs_at (l := l) (i := i) (by omega))
        rw [← hx] at x2
        obtain ⟨x, hxx⟩ : ∃ x, chg (P.take i) = x := ⟨_, rfl⟩
        rw [hxx] at x1 x2 bx
        simp only [hxx] at hx0
        have e1 : (x != x) = false := by simp
        have d1 : decide ((i : Int) < (l.length : Int) + 1) = true := decide_eq_true (by omega)
        have d2 : decide ((l.length : Int) ≤ (i : Int)) = false := decide_eq_false (by omega)
        have j3 : (i : Int) < (l.length : Int) + 1 := by omega
        clear hx hxx
        rcases Nat.eq_zero_or_pos i with hi0 | hpos
        · have d3 : decide ((0 : Int) < (i : Int)) = false := decide_eq_false (by omega)
          have d4 : decide (0 < i) = false := decide_eq_false (by omega)
          clear hi0 hx0
          go_wp2
          go_roundg q
          case measure => omega
          case rel => exact ⟨rfl, i + 1, by omega, by go_num⟩
        · obtain ⟨j, hij⟩ : ∃ j, i = j + 1 := ⟨i - 1, by omega⟩
          obtain ⟨y, y1, hy, by1, by2⟩ := hx0 j hij
          have hj : (i : Int) - 1 = (j : Int) := by omega
          have j5 : (j : Int) < (l.length : Int) + (u.length : Int) + 1 := by omega
          have d3 : decide ((0 : Int) < (i : Int)) = true := decide_eq_true (by omega)
          have d4 : decide (0 < i) = true := decide_eq_true (by omega)
          have w1 : IntKind.i64.wrap (x - y) = x - y := by rw [IntKind.wrap_i64]; omega
          clear hx0 hij
          rcases hy with hy | hy
          · have e3 : (x - y != 1) = false := by rw [bne_eq_false_iff_eq]; omega
            clear hy
            go_wp2
            go_roundg q
            case measure => omega
            case rel => exact ⟨rfl, i + 1, by omega, by go_num⟩
          · have e3 : (x - y != 1) = true := by rw [bne_iff_ne]; omega
            have e4 : (x - y != -1) = false := by rw [bne_eq_false_iff_eq]; omega
            clear hy
            go_wp2
            go_roundg q
            case measure => omega
            case rel => exact ⟨rfl, i + 1, by omega, by go_num⟩
      · obtain ⟨k, hk⟩ : ∃ k, i = l.length + k := ⟨i - l.length, by omega⟩
        have hx : chg (P.take i) = chg (u.take k) + d := by rw [hk]; exact HS.out k
        have x2 := I2.out.cell (chgs_at (l := u) (i := k) (by omega))
        have bm := HB2.out k
        have bd := HB3.out
        rw [List.length_take] at bm
        have x3 : k = 0 → wr.cell? ⟨g1, i, none⟩ = some (.int .i64 (chg (P.take i))) := fun h => by
          have := I1.out.cell (chgs_at (l := l) (i := i) (by omega))
          rw [← HF.out i (by omega)] at this
          exact this
        obtain ⟨x, hxx⟩ : ∃ x, chg (P.take i) = x := ⟨_, rfl⟩
        obtain ⟨m, hmm⟩ : ∃ m, chg (u.take k) = m := ⟨_, rfl⟩
        rw [hxx, hmm] at hx
        rw [hxx] at x1 bx
        simp only [hxx] at hx0 x3
        rw [hmm] at x2 bm
        have e1 : (x != x) = false := by simp
        have e5 : (x != m + d) = false := by rw [hx]; simp
        have w3 : IntKind.i64.wrap (m + d) = m + d := by rw [IntKind.wrap_i64]; omega
        have hk2 : (i : Int) - (l.length : Int) = (k : Int) := by omega
        have d2 : decide ((l.length : Int) ≤ (i : Int)) = true := decide_eq_true (by omega)
        have j4 : (k : Int) < (u.length : Int) + 1 := by omega
        have hli : l.length ≤ i := by omega
        rcases Nat.eq_zero_or_pos k with hk0 | hk0
        · have x4 := x3 hk0
          have d1 : decide ((i : Int) < (l.length : Int) + 1) = true := decide_eq_true (by omega)
          have j3 : (i : Int) < (l.length : Int) + 1 := by omega
          have hil2 : i ≤ l.length := by omega
          clear hx hxx hmm x3 hk hk0
          rcases Nat.eq_zero_or_pos i with hi0 | hpos
          · have d3 : decide ((0 : Int) < (i : Int)) = false := decide_eq_false (by omega)
            have d4 : decide (0 < i) = false := decide_eq_false (by omega)
            clear hi0 hx0
            go_wp2
            go_roundg q
            case measure => omega
            case rel => exact ⟨rfl, i + 1, by omega, by go_num⟩
          · obtain ⟨j, hij⟩ : ∃ j, i = j + 1 := ⟨i - 1, by omega⟩
            obtain ⟨y, y1, hy, by1, by2⟩ := hx0 j hij
            have hj : (i : Int) - 1 = (j : Int) := by omega
            have j5 : (j : Int) < (l.length : Int) + (u.length : Int) + 1 := by omega
            have d3 : decide ((0 : Int) < (i : Int)) = true := decide_eq_true (by omega)
            have d4 : decide (0 < i) = true := decide_eq_true (by omega)
            have w1 : IntKind.i64.wrap (x - y) = x - y := by rw [IntKind.wrap_i64]; omega
            clear hx0 hij
            rcases hy with hy | hy
            · have e3 : (x - y != 1) = false := by rw [bne_eq_false_iff_eq]; omega
              clear hy
              go_wp2
              go_roundg q
              case measure => omega
              case rel => exact ⟨rfl, i + 1, by omega, by go_num⟩
            · have e3 : (x - y != 1) = true := by rw [bne_iff_ne]; omega
              have e4 : (x - y != -1) = false := by rw [bne_eq_false_iff_eq]; omega
              clear hy
              go_wp2
              go_roundg q
              case measure => omega
              case rel => exact ⟨rfl, i + 1, by omega, by go_num⟩
        · have d1 : decide ((i : Int) < (l.length : Int) + 1) = false := decide_eq_false (by omega)
          have hpos : 0 < i := by omega
          clear hx hxx hmm x3 hk hk0
          obtain ⟨j, hij⟩ : ∃ j, i = j + 1 := ⟨i - 1, by omega⟩
          obtain ⟨y, y1, hy, by1, by2⟩ := hx0 j hij
          have hj : (i : Int) - 1 = (j : Int) := by omega
          have j5 : (j : Int) < (l.length : Int) + (u.length : Int) + 1 := by omega
          have d3 : decide ((0 : Int) < (i : Int)) = true := decide_eq_true (by omega)
          have d4 : decide (0 < i) = true := decide_eq_true (by omega)
          have w1 : IntKind.i64.wrap (x - y) = x - y := by rw [IntKind.wrap_i64]; omega
          clear hx0 hij
          rcases hy with hy | hy
          · have e3 : (x - y != 1) = false := by rw [bne_eq_false_iff_eq]; omega
            clear hy
            go_wp2
            go_roundg q
            case measure => omega
            case rel => exact ⟨rfl, i + 1, by omega, by go_num⟩
          · have e3 : (x - y != 1) = true := by rw [bne_iff_ne]; omega
            have e4 : (x - y != -1) = false := by rw [bne_eq_false_iff_eq]; omega
            clear hy
            go_wp2
            go_roundg q
            case measure => omega
            case rel => exact ⟨rfl, i + 1, by omega, by go_num⟩
set_option maxRecDepth 100000 in
set_option maxHeartbeats 6400000 in
theorem runsAdded_any (l u : List UInt8) (w : World) (hl : l.length ≤ 9223372036854775807) (hu : u.length ≤ 9223372036854775807) :
    Calls Tryd.prog 8 #[.string ⟨l.toArray⟩, .string ⟨u.toArray⟩] w fun e w' => e = .returned (.bool true) ∧ Below w.heap.size w w' := by
  have HK1 := Lib.hid (fun W => refCheck_any 2 l W hl)
  have HK2 := Lib.hid (fun W => refCheck_any 2 u W hu)
  rcases small_or l.length hl with hs | hg
  · rcases small_or u.length hu with hs2 | hg2
    · by_cases h0 : chk 2 l = 0
      · by_cases h2 : chk 2 u = 0
        · obtain ⟨m, hm, m1, m2, hl2, hW⟩ := chk_zero h0
          obtain rfl : m = 2 := by omega
          obtain ⟨n, hn, n1, n2, hu2, hU⟩ := chk_zero h2
          obtain rfl : n = 2 := by omega
          exact runsAdded_main l u w (by omega) (by omega) hW hU
        · have HG1 := Lib.hid (fun W => refGreat_small l W hs)
          have HG2 := Lib.hid (fun W => refGreat_small u W hs2)
          simp only [h0] at HK1
          obtain ⟨c, hc⟩ : ∃ c, chk 2 u = c := ⟨_, rfl⟩
          simp only [hc] at HK2
          rw [hc] at h2
          have h1 : (c == 0) = false := by rw [beq_eq_false_iff_ne]; exact h2
          clear hc h2 h0 hs hs2
          go_enter Tryd.func8, Tryd.ntmps8
          go_wp2_with (first
            | (go_at_call 10; first
                | ((with_reducible refine (HG1.out _).mono ?_); rintro e W0 ⟨rfl, hW⟩; (rw [hW]); (clear hW))
                | ((with_reducible refine (HG2.out _).mono ?_); rintro e W0 ⟨rfl, hW⟩; (rw [hW]); (clear hW)))
            | (go_at_call 31; first
                | ((with_reducible refine (HK1.out _).mono ?_); rintro e W0 ⟨rfl, hW⟩; (rw [hW]); (clear hW))
                | ((with_reducible refine (HK2.out _).mono ?_); rintro e W0 ⟨rfl, hW⟩; (rw [hW]); (clear hW)))
            | (go_at_call 12; (with_reducible refine (awake_any _).mono ?_); rintro e W8 ⟨rfl, b8⟩))
          go_ret
          exact ⟨rfl, b8⟩
      · have HG1 := Lib.hid (fun W => refGreat_small l W hs)
        have HG2 := Lib.hid (fun W => refGreat_small u W hs2)
        obtain ⟨c, hc⟩ : ∃ c, chk 2 l = c := ⟨_, rfl⟩
        simp only [hc] at HK1
        rw [hc] at h0
        have h1 : (c == 0) = false := by rw [beq_eq_false_iff_ne]; exact h0
        have h3 : (c != 0) = true := by rw [bne_iff_ne]; exact h0
        clear hc h0 hs hs2 HK2
        go_enter Tryd.func8, Tryd.ntmps8
        go_wp2_with (first
          | (go_at_call 10; first
              | ((with_reducible refine (HG1.out _).mono ?_); rintro e W0 ⟨rfl, hW⟩; (rw [hW]); (clear hW))
              | ((with_reducible refine (HG2.out _).mono ?_); rintro e W0 ⟨rfl, hW⟩; (rw [hW]); (clear hW)))
          | (go_at_call 31; (with_reducible refine (HK1.out _).mono ?_); rintro e W0 ⟨rfl, hW⟩; (rw [hW]); (clear hW))
          | (go_at_call 12; (with_reducible refine (awake_any _).mono ?_); rintro e W8 ⟨rfl, b8⟩))
        go_ret
        exact ⟨rfl, b8⟩
    · have HG1 := Lib.hid (fun W => refGreat_small l W hs)
      have HG2 := Lib.hid (fun W => refGreat_great u W hg2)
      clear hs hg2
      go_enter Tryd.func8, Tryd.ntmps8
      go_wp2_with (first
        | (go_at_call 10; first
            | ((with_reducible refine (HG1.out _).mono ?_); rintro e W0 ⟨rfl, hW⟩; (rw [hW]); (clear hW))
            | ((with_reducible refine (HG2.out _).mono ?_); rintro e W0 ⟨rfl, hW⟩; (rw [hW]); (clear hW)))
        | (go_at_call 12; (with_reducible refine (awake_any _).mono ?_); rintro e W8 ⟨rfl, b8⟩))
      go_ret
      exact ⟨rfl, b8⟩
  · have HG1 := Lib.hid (fun W => refGreat_great l W hg)
    clear hg
    go_enter Tryd.func8, Tryd.ntmps8
    go_wp2_with (first
      | (go_at_call 10; (with_reducible refine (HG1.out _).mono ?_); rintro e W0 ⟨rfl, hW⟩; (rw [hW]); (clear hW))
      | (go_at_call 12; (with_reducible refine (awake_any _).mono ?_); rintro e W8 ⟨rfl, b8⟩))
    go_ret
    exact ⟨rfl, b8⟩
end Go.Proofs.YtokpfbbhkmlclaaDoor
