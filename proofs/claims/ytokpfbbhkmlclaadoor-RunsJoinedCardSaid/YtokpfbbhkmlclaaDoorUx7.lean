/- RunsJoined returns true for every input. -/
import Derived.Test.YtokpfbbhkmlclaaDoorUx6
namespace Go.Proofs.YtokpfbbhkmlclaaDoor
open Go.RowKit
set_option linter.unusedSimpArgs false
set_option linter.unusedVariables false

theorem fits_rns {l : List UInt8} (hl : l.length ≤ 60) (hW : Wof 16 l) : Fits (rns l) ∧ joinR (rns l) = (l, 0) := by
  have h1 := rns_len l
  have h2 := rns_wf l hW
  have h3 := (chkG_rns hW).2 65536 (by omega)
  refine ⟨⟨by omega, fun p hp => by have := h2 p hp; omega, fun _ => ⟨fun p hp => by have := h2 p hp; omega, by rw [joinL_rns hW]; omega⟩⟩, ?_⟩
  unfold joinR
  rw [if_pos h3, joinL_rns hW]
/-- What follows the first part of the law: the word is split, joined, and its longest run is counted. -/
theorem wof16 {l : List UInt8} (h0 : chk 16 l = 0) : Wof 16 l ∧ l.length ≤ 65536 := by
  obtain ⟨m, hm, m1, m2, hl2, hW⟩ := chk_zero h0
  obtain rfl : m = 16 := by omega
  exact ⟨hW, hl2⟩
set_option maxRecDepth 100000 in
set_option maxHeartbeats 12800000 in
theorem runsJoined_good (l : List UInt8) (v : Value) (rs : List (Int × Int)) (q : Nat) (w : World) (hq : q < 256) (hs : l.length ≤ 60 ∨ (65536 < l.length ∧ l.length ≤ 65544)) (hrd : RunsRd w v rs) (hrl : rs.length ≤ 9223372036854775807) (hI : ∀ p ∈ rs, -9223372036854775808 ≤ p.1 ∧ p.1 ≤ 9223372036854775807 ∧ -9223372036854775808 ≤ p.2 ∧ p.2 ≤ 9223372036854775807) (hgl : glist rs = false) (h0j : chkG none 65536 rs = 0) :
    Calls Tryd.prog 6 #[.string ⟨l.toArray⟩, v, .int .u8 (q : Int)] w fun e w' => e = .returned (.bool true) ∧ Below w.heap.size w w' := by
  have HRD := Lib.hid hrd
  have HL := Lib.hid (refGreatList_any rs v w hrd hrl)
  obtain ⟨A, c0, rfl, -⟩ := hrd
  have HG := Lib.hid (fun W => refGreat_small l W hs)
  rw [hgl] at HL
  have hfit := fits_of hgl hI
  have H3 := Lib.hid (fun W h => join_any rs (.slice A rs.length c0) W h hfit)
  obtain ⟨hj1, hj2, hj3⟩ := rns_joined rs [] none 65536 rfl h0j
  rw [List.nil_append, rns_nil, List.nil_append] at hj1
  have hj4 := joined_small hgl h0j
  rw [show joinR rs = (joinL rs, 0) by unfold joinR; rw [if_pos h0j]] at H3
  have HJ := Lib.hid (fun W => split_good (joinL rs) W (by omega) (chk_of (m := 16) (by omega) (by omega) (by omega) hj3))
  rw [hj1] at HJ
  have hL2 : rs.length ≤ 1000000 := by have := hfit.1; omega
  obtain ⟨X, hX⟩ : ∃ X, joinL rs = X := ⟨_, rfl⟩
  rw [hX] at H3 HJ
  clear hX hj1 hj2 hj3 hj4 h0j
  by_cases h0 : chk 16 l = 0
  · obtain ⟨hW, hl65⟩ := wof16 h0
    have hl3 : l.length ≤ 60 := by omega
    obtain ⟨hf2, hjr⟩ := fits_rns hl3 hW
    have t1 : Int.tmod (q : Int) 16 = ((q % 16 : Nat) : Int) := by rw [Int.tmod_eq_emod_of_nonneg (by omega)]; rfl
    obtain ⟨d, hd⟩ : ∃ d, q % 16 = d := ⟨_, rfl⟩
    have hd16 : d < 16 := by omega
    rw [hd] at t1
    have H4 := Lib.hid (fun W => split_good l W (by omega) h0)
    have H5 := Lib.hid (fun a c W (h : RunsRd W (.slice a (rns l).length c) (rns l)) => join_any (rns l) (.slice a (rns l).length c) W h hf2)
    rw [hjr] at H5
    have H6 := Lib.hid (fun W => longest_any l (d : Int) W (Or.inl (by omega)))
    rw [show lonR l (d : Int) = (lngR (d : Int) (rns l), 0) by unfold lonR; rw [if_pos h0, if_pos (by omega)]] at H6
    have HA := Lib.hid (fun i p (h : (rns l)[i]? = some p) => lngR_next (d := (d : Int)) h)
    have HN := Lib.hid (fun i => lngR_nonneg (d : Int) ((rns l).take i))
    have HE := Lib.hid (show lngR (d : Int) ((rns l).take (rns l).length) = lngR (d : Int) (rns l) by rw [List.take_length])
    have HWF := Lib.hid (rns_wf l hW)
    have hZl := rns_len l
    obtain ⟨M, hM⟩ : ∃ M, lngR (d : Int) (rns l) = M := ⟨_, rfl⟩
    rw [hM] at HE H6
    obtain ⟨Z, hZ⟩ : ∃ Z, rns l = Z := ⟨_, rfl⟩
    rw [hZ] at HA HN HE HWF hZl H4 H5
    have e1 : (l == l) = true := by simp
    have e2 : (M == M) = true := by simp
    clear hZ hM h0 hW hl65 hf2 hjr hd hgl hI hfit hs
    go_enter Tryd.func6, Tryd.ntmps6
    go_wp2_with (first
        | (go_at_call 10; (with_reducible refine (HG.out _).mono ?_); rintro e W0 ⟨rfl, hW⟩; (rw [hW]); (clear hW))
        | (go_at_call 11; (with_reducible refine (HL.out).mono ?_); rintro e W0 ⟨rfl, hW⟩; (rw [hW]); (clear hW))
        | (go_at_call 15; first
            | ((with_reducible refine (H3.out _ HRD.out).mono ?_); rintro e W1 ⟨rfl, b1⟩; (have HRD1 := Lib.hid (HRD.out.keep b1)))
            | ((with_reducible refine (H5.out _ _ _ I4.out.rd).mono ?_); rintro e W5 ⟨rfl, b5⟩; (have B5 := below_more B4 (Nat.le_refl _) b5); (have I5 := Lib.hid (I4.out.keep b5))))
        | (go_at_call 13; first
            | ((with_reducible refine (HJ.out _).mono ?_); rintro e W2 ⟨a2, c2, rfl, i2, b2⟩; (have B2 := below_more b1 (Nat.le_refl _) b2); (have HRD2 := Lib.hid (HRD1.out.keep b2)); (have I2 := Lib.hid i2))
            | ((with_reducible refine (H4.out _).mono ?_); rintro e W4 ⟨a4, c4, rfl, i4, b4⟩; (have B4 := below_more B3 (Nat.le_refl _) b4); (have I4 := Lib.hid i4)))
        | (go_at_call 19; (refine (same_any rs _ _ _ I2.out.rd HRD2.out hL2).mono ?_); rintro e W3 ⟨rfl, b3⟩; (have B3 := below_more B2 (Nat.le_refl _) b3))
        )
    go_loopg [15, 67] Z.length (fun g s15 s67 wx => ∃ (i : Nat) (x : Int), i + g = Z.length ∧ s67 = .int .i64 (i : Int) ∧ s15 = .int .i64 x ∧ Hid (lngR (d : Int) (Z.take i) = x) ∧ Below W5.heap.size W5 wx)
    case atStart => exact ⟨0, 0, by omega, rfl, rfl, Lib.hid rfl, Below.refl _ _⟩
    case round =>
      obtain ⟨i, x, hin, rfl, rfl, Hx, hb⟩ := hrel
      rcases gk with _ | g
      · obtain rfl : i = Z.length := by omega
        have e9 : x = M := by rw [← HE.out, ← Hx.out]
        subst e9
        clear Hx HE
        have hB6 := below_more B5 (Nat.le_refl _) hb
        go_wp2_with (first
          | (go_at_call 17; (with_reducible refine (H6.out _).mono ?_); rintro e W6 ⟨rfl, b6⟩)
          | (go_at_call 12; (with_reducible refine (awake_any _).mono ?_); rintro e W8 ⟨rfl, b8⟩))
        go_ret
        exact ⟨rfl, below_more (below_more hB6 (Nat.le_refl _) b6) (Nat.le_refl _) b8⟩
      · have hil : i < Z.length := by omega
        obtain ⟨p, hp⟩ : ∃ p, Z[i]? = some p := ⟨_, List.getElem?_eq_getElem hil⟩
        obtain ⟨g5, rfl⟩ := I5.out.addr (by omega)
        obtain ⟨k1, k2⟩ := (I5.out.keep hb).cell hp
        have n1 := HA.out i p hp
        have hpw := HWF.out p (List.mem_of_getElem? hp)
        have hx0 := HN.out i
        rw [Hx.out] at n1 hx0
        obtain ⟨u, y⟩ := p
        dsimp only at k1 k2 n1 hpw
        have j2 : (i : Int) < (Z.length : Int) := by omega
        clear hp
        by_cases hu : u = (d : Int)
        · rw [if_pos hu] at n1
          have ee : (u == (d : Int)) = true := by rw [beq_iff_eq]; exact hu
          rcases (show x < y ∨ y ≤ x by omega) with h | h
          · have N1 := Lib.hid (n1.trans (show max x y = y by omega))
            have mx : max x y = y := by omega
            clear n1 Hx hu
            go_wp2
            go_roundg g
            case measure => omega
            case rel => exact ⟨i + 1, y, by omega, by go_num, rfl, N1, hb.alloc hb.size _⟩
          · have N1 := Lib.hid (n1.trans (show max x y = x by omega))
            have mx : max x y = x := by omega
            clear n1 Hx hu
            go_wp2
            go_roundg g
            case measure => omega
            case rel => exact ⟨i + 1, x, by omega, by go_num, rfl, N1, hb.alloc hb.size _⟩
        · rw [if_neg hu] at n1
          have N1 := Lib.hid n1
          have ee : (u == (d : Int)) = false := by rw [beq_eq_false_iff_ne]; exact hu
          clear n1 Hx hu
          go_wp2
          go_roundg g
          case measure => omega
          case rel => exact ⟨i + 1, x, by omega, by go_num, rfl, N1, hb.alloc hb.size _⟩
  · obtain ⟨c9, hc9⟩ : ∃ c, chk 16 l = c := ⟨_, rfl⟩
    rw [hc9] at h0
    have H4 := Lib.hid (fun W => split_bad l W (by omega) hc9 h0)
    have h1 : (c9 == 0) = false := by rw [beq_eq_false_iff_ne]; exact h0
    clear hc9 h0 hgl hI hfit hs
    go_enter Tryd.func6, Tryd.ntmps6
    go_wp2_with (first
        | (go_at_call 10; (with_reducible refine (HG.out _).mono ?_); rintro e W0 ⟨rfl, hW⟩; (rw [hW]); (clear hW))
        | (go_at_call 11; (with_reducible refine (HL.out).mono ?_); rintro e W0 ⟨rfl, hW⟩; (rw [hW]); (clear hW))
        | (go_at_call 15; first
            | ((with_reducible refine (H3.out _ HRD.out).mono ?_); rintro e W1 ⟨rfl, b1⟩; (have HRD1 := Lib.hid (HRD.out.keep b1)))
            | fail)
        | (go_at_call 13; first
            | ((with_reducible refine (HJ.out _).mono ?_); rintro e W2 ⟨a2, c2, rfl, i2, b2⟩; (have B2 := below_more b1 (Nat.le_refl _) b2); (have HRD2 := Lib.hid (HRD1.out.keep b2)); (have I2 := Lib.hid i2))
            | ((with_reducible refine (H4.out _).mono ?_); rintro e W4 ⟨⟨a4, k4, rfl⟩, b4⟩; (have B4 := below_more B3 (Nat.le_refl _) b4)))
        | (go_at_call 19; (refine (same_any rs _ _ _ I2.out.rd HRD2.out hL2).mono ?_); rintro e W3 ⟨rfl, b3⟩; (have B3 := below_more B2 (Nat.le_refl _) b3))
        | (go_at_call 12; (with_reducible refine (awake_any _).mono ?_); rintro e W8 ⟨rfl, b8⟩))
    go_ret
    exact ⟨rfl, below_more B4 (Nat.le_refl _) b8⟩
set_option maxRecDepth 100000 in
set_option maxHeartbeats 12800000 in
theorem runsJoined_bad (l : List UInt8) (v : Value) (rs : List (Int × Int)) (q : Nat) (w : World) (hq : q < 256) (hs : l.length ≤ 60 ∨ (65536 < l.length ∧ l.length ≤ 65544)) (hrd : RunsRd w v rs) (hrl : rs.length ≤ 9223372036854775807) (hI : ∀ p ∈ rs, -9223372036854775808 ≤ p.1 ∧ p.1 ≤ 9223372036854775807 ∧ -9223372036854775808 ≤ p.2 ∧ p.2 ≤ 9223372036854775807) (hgl : glist rs = false) (h0j : chkG none 65536 rs ≠ 0) :
    Calls Tryd.prog 6 #[.string ⟨l.toArray⟩, v, .int .u8 (q : Int)] w fun e w' => e = .returned (.bool true) ∧ Below w.heap.size w w' := by
  have HRD := Lib.hid hrd
  have HL := Lib.hid (refGreatList_any rs v w hrd hrl)
  obtain ⟨A, c0, rfl, -⟩ := hrd
  have HG := Lib.hid (fun W => refGreat_small l W hs)
  rw [hgl] at HL
  have hfit := fits_of hgl hI
  have H3 := Lib.hid (fun W h => join_any rs (.slice A rs.length c0) W h hfit)
  obtain ⟨c, hc⟩ : ∃ c, chkG none 65536 rs = c := ⟨_, rfl⟩
  rw [show joinR rs = ([], c) by unfold joinR; rw [if_neg h0j, hc]] at H3
  have hcn : (c == 0) = false := by rw [beq_eq_false_iff_ne, ← hc]; exact h0j
  clear hc h0j
  by_cases h0 : chk 16 l = 0
  · obtain ⟨hW, hl65⟩ := wof16 h0
    have hl3 : l.length ≤ 60 := by omega
    obtain ⟨hf2, hjr⟩ := fits_rns hl3 hW
    have t1 : Int.tmod (q : Int) 16 = ((q % 16 : Nat) : Int) := by rw [Int.tmod_eq_emod_of_nonneg (by omega)]; rfl
    obtain ⟨d, hd⟩ : ∃ d, q % 16 = d := ⟨_, rfl⟩
    have hd16 : d < 16 := by omega
    rw [hd] at t1
    have H4 := Lib.hid (fun W => split_good l W (by omega) h0)
    have H5 := Lib.hid (fun a c W (h : RunsRd W (.slice a (rns l).length c) (rns l)) => join_any (rns l) (.slice a (rns l).length c) W h hf2)
    rw [hjr] at H5
    have H6 := Lib.hid (fun W => longest_any l (d : Int) W (Or.inl (by omega)))
    rw [show lonR l (d : Int) = (lngR (d : Int) (rns l), 0) by unfold lonR; rw [if_pos h0, if_pos (by omega)]] at H6
    have HA := Lib.hid (fun i p (h : (rns l)[i]? = some p) => lngR_next (d := (d : Int)) h)
    have HN := Lib.hid (fun i => lngR_nonneg (d : Int) ((rns l).take i))
    have HE := Lib.hid (show lngR (d : Int) ((rns l).take (rns l).length) = lngR (d : Int) (rns l) by rw [List.take_length])
    have HWF := Lib.hid (rns_wf l hW)
    have hZl := rns_len l
    obtain ⟨M, hM⟩ : ∃ M, lngR (d : Int) (rns l) = M := ⟨_, rfl⟩
    rw [hM] at HE H6
    obtain ⟨Z, hZ⟩ : ∃ Z, rns l = Z := ⟨_, rfl⟩
    rw [hZ] at HA HN HE HWF hZl H4 H5
    have e1 : (l == l) = true := by simp
    have e2 : (M == M) = true := by simp
    clear hZ hM h0 hW hl65 hf2 hjr hd hgl hI hfit hs
    go_enter Tryd.func6, Tryd.ntmps6
    go_wp2_with (first
        | (go_at_call 10; (with_reducible refine (HG.out _).mono ?_); rintro e W0 ⟨rfl, hW⟩; (rw [hW]); (clear hW))
        | (go_at_call 11; (with_reducible refine (HL.out).mono ?_); rintro e W0 ⟨rfl, hW⟩; (rw [hW]); (clear hW))
        | (go_at_call 15; first
            | ((with_reducible refine (H3.out _ HRD.out).mono ?_); rintro e W3 ⟨rfl, B3⟩)
            | ((with_reducible refine (H5.out _ _ _ I4.out.rd).mono ?_); rintro e W5 ⟨rfl, b5⟩; (have B5 := below_more B4 (Nat.le_refl _) b5); (have I5 := Lib.hid (I4.out.keep b5))))
        | (go_at_call 13; ((with_reducible refine (H4.out _).mono ?_); rintro e W4 ⟨a4, c4, rfl, i4, b4⟩; (have B4 := below_more B3 (Nat.le_refl _) b4); (have I4 := Lib.hid i4)))
        )
    go_loopg [15, 67] Z.length (fun g s15 s67 wx => ∃ (i : Nat) (x : Int), i + g = Z.length ∧ s67 = .int .i64 (i : Int) ∧ s15 = .int .i64 x ∧ Hid (lngR (d : Int) (Z.take i) = x) ∧ Below W5.heap.size W5 wx)
    case atStart => exact ⟨0, 0, by omega, rfl, rfl, Lib.hid rfl, Below.refl _ _⟩
    case round =>
      obtain ⟨i, x, hin, rfl, rfl, Hx, hb⟩ := hrel
      rcases gk with _ | g
      · obtain rfl : i = Z.length := by omega
        have e9 : x = M := by rw [← HE.out, ← Hx.out]
        subst e9
        clear Hx HE
        have hB6 := below_more B5 (Nat.le_refl _) hb
        go_wp2_with (first
          | (go_at_call 17; (with_reducible refine (H6.out _).mono ?_); rintro e W6 ⟨rfl, b6⟩)
          | (go_at_call 12; (with_reducible refine (awake_any _).mono ?_); rintro e W8 ⟨rfl, b8⟩))
        go_ret
        exact ⟨rfl, below_more (below_more hB6 (Nat.le_refl _) b6) (Nat.le_refl _) b8⟩
      · have hil : i < Z.length := by omega
        obtain ⟨p, hp⟩ : ∃ p, Z[i]? = some p := ⟨_, List.getElem?_eq_getElem hil⟩
        obtain ⟨g5, rfl⟩ := I5.out.addr (by omega)
        obtain ⟨k1, k2⟩ := (I5.out.keep hb).cell hp
        have n1 := HA.out i p hp
        have hpw := HWF.out p (List.mem_of_getElem? hp)
        have hx0 := HN.out i
        rw [Hx.out] at n1 hx0
        obtain ⟨u, y⟩ := p
        dsimp only at k1 k2 n1 hpw
        have j2 : (i : Int) < (Z.length : Int) := by omega
        clear hp
        by_cases hu : u = (d : Int)
        · rw [if_pos hu] at n1
          have ee : (u == (d : Int)) = true := by rw [beq_iff_eq]; exact hu
          rcases (show x < y ∨ y ≤ x by omega) with h | h
          · have N1 := Lib.hid (n1.trans (show max x y = y by omega))
            have mx : max x y = y := by omega
            clear n1 Hx hu
            go_wp2
            go_roundg g
            case measure => omega
            case rel => exact ⟨i + 1, y, by omega, by go_num, rfl, N1, hb.alloc hb.size _⟩
          · have N1 := Lib.hid (n1.trans (show max x y = x by omega))
            have mx : max x y = x := by omega
            clear n1 Hx hu
            go_wp2
            go_roundg g
            case measure => omega
            case rel => exact ⟨i + 1, x, by omega, by go_num, rfl, N1, hb.alloc hb.size _⟩
        · rw [if_neg hu] at n1
          have N1 := Lib.hid n1
          have ee : (u == (d : Int)) = false := by rw [beq_eq_false_iff_ne]; exact hu
          clear n1 Hx hu
          go_wp2
          go_roundg g
          case measure => omega
          case rel => exact ⟨i + 1, x, by omega, by go_num, rfl, N1, hb.alloc hb.size _⟩
  · obtain ⟨c9, hc9⟩ : ∃ c, chk 16 l = c := ⟨_, rfl⟩
    rw [hc9] at h0
    have H4 := Lib.hid (fun W => split_bad l W (by omega) hc9 h0)
    have h1 : (c9 == 0) = false := by rw [beq_eq_false_iff_ne]; exact h0
    clear hc9 h0 hgl hI hfit hs
    go_enter Tryd.func6, Tryd.ntmps6
    go_wp2_with (first
        | (go_at_call 10; (with_reducible refine (HG.out _).mono ?_); rintro e W0 ⟨rfl, hW⟩; (rw [hW]); (clear hW))
        | (go_at_call 11; (with_reducible refine (HL.out).mono ?_); rintro e W0 ⟨rfl, hW⟩; (rw [hW]); (clear hW))
        | (go_at_call 15; first
            | ((with_reducible refine (H3.out _ HRD.out).mono ?_); rintro e W3 ⟨rfl, B3⟩)
            | fail)
        | (go_at_call 13; ((with_reducible refine (H4.out _).mono ?_); rintro e W4 ⟨⟨a4, k4, rfl⟩, b4⟩; (have B4 := below_more B3 (Nat.le_refl _) b4)))
        | (go_at_call 12; (with_reducible refine (awake_any _).mono ?_); rintro e W8 ⟨rfl, b8⟩))
    go_ret
    exact ⟨rfl, below_more B4 (Nat.le_refl _) b8⟩
set_option maxRecDepth 100000 in
set_option maxHeartbeats 6400000 in
theorem runsJoined_any (l : List UInt8) (v : Value) (rs : List (Int × Int)) (q : Nat) (w : World) (hq : q < 256) (hl : l.length ≤ 9223372036854775807) (ha : ArgR w v rs) :
    Calls Tryd.prog 6 #[.string ⟨l.toArray⟩, v, .int .u8 (q : Int)] w fun e w' => e = .returned (.bool true) ∧ Below w.heap.size w w' := by
  obtain ⟨hrd, hrl, hI⟩ := ha
  rcases small_or l.length hl with hs | hg
  · by_cases hgl : glist rs = false
    · by_cases h0 : chkG none 65536 rs = 0
      · exact runsJoined_good l v rs q w hq hs hrd hrl hI hgl h0
      · exact runsJoined_bad l v rs q w hq hs hrd hrl hI hgl h0
    · have HG := Lib.hid (fun W => refGreat_small l W hs)
      have HL := Lib.hid (refGreatList_any rs v w hrd hrl)
      obtain ⟨A, c0, rfl, -⟩ := hrd
      rw [Bool.not_eq_false] at hgl
      rw [hgl] at HL
      clear hs hgl hI
      go_enter Tryd.func6, Tryd.ntmps6
      go_wp2_with (first
        | (go_at_call 10; (with_reducible refine (HG.out _).mono ?_); rintro e W0 ⟨rfl, hW⟩; (rw [hW]); (clear hW))
        | (go_at_call 11; (with_reducible refine (HL.out).mono ?_); rintro e W0 ⟨rfl, hW⟩; (rw [hW]); (clear hW))
        | (go_at_call 12; (with_reducible refine (awake_any _).mono ?_); rintro e W8 ⟨rfl, b8⟩))
      go_ret
      exact ⟨rfl, b8⟩
  · have HG := Lib.hid (fun W => refGreat_great l W hg)
    obtain ⟨A, c0, rfl, -⟩ := hrd
    clear hg hI
    go_enter Tryd.func6, Tryd.ntmps6
    go_wp2_with (first
      | (go_at_call 10; (with_reducible refine (HG.out _).mono ?_); rintro e W0 ⟨rfl, hW⟩; (rw [hW]); (clear hW))
      | (go_at_call 12; (with_reducible refine (awake_any _).mono ?_); rintro e W8 ⟨rfl, b8⟩))
    go_ret
    exact ⟨rfl, b8⟩
end Go.Proofs.YtokpfbbhkmlclaaDoor
