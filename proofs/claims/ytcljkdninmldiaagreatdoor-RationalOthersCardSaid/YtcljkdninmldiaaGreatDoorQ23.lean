/- What the reference implementation's Gcd returns. Condition: at most 10^7 bytes. The reference implementation of layer 1, as layer 2 calls it: integers of up to L bytes. Condition: at most 10^7 bytes. What integer.decimalGroups returns: the digits to the base 10^9, the least one first. -/
import Derived.Test.YtcljkdninmldiaaGreatDoorQ21
import Derived.Test.YtcljkdninmldiaaGreatDoorQ22
import Derived.Test.YtcljkdninmldiaaGreatDoorQ16
import Derived.Test.YtcljkdninmldiaaGreatDoorQ07
import Derived.Maps.AppendAt
import Derived.OwnWalk

namespace Go.Proofs.YtcljkdninmldiaaGreatDoor
open Go.RowKit
set_option linter.unusedSimpArgs false
set_option linter.unusedVariables false

theorem rtrim_b {l b : List UInt8} {w : World} (hl : l.length ≤ 1000000000) (h : Lib.trimLeftB l 0 = b) :
    Calls Tryz.prog 85 #[.string ⟨l.toArray⟩] w fun e w' => e = .returned (.string ⟨b.toArray⟩) ∧ w' = w := h ▸ rtrim_any l w hl
theorem trim_zv {g : Bool} {l : List UInt8} {z : Int} {N : Nat} (hz : zv g ⟨l.toArray⟩ = z) (h : z.natAbs = N) : Lib.trimLeftB l 0 = bytesOf N := by
  rw [trim_bytes, ← h, ← hz, natAbs_zv]
theorem rgcd_step {X Y G : Nat} (h : Nat.gcd X Y = G) : Nat.gcd Y (X % Y) = G := by rw [← h, Nat.gcd_comm X Y, Nat.gcd_rec Y X, Nat.gcd_comm]
theorem bytes_case (N : Nat) : (N = 0 ∧ bytesOf N = []) ∨ (N ≠ 0 ∧ (bytesOf N == []) = false) := by
  by_cases h : N = 0
  · exact Or.inl ⟨h, bytesOf_nil.2 h⟩
  · refine Or.inr ⟨h, ?_⟩
    rw [beq_eq_false_iff_ne]
    exact fun e => h (bytesOf_nil.1 e)
set_option maxRecDepth 100000 in
set_option maxHeartbeats 6400000 in
theorem rgcd01_any (g1 g2 : Bool) (l1 l2 : List UInt8) (z1 z2 : Int) (w : World) (hl1 : l1.length ≤ 10000000) (hl2 : l2.length ≤ 10000000) (hz1 : zv g1 ⟨l1.toArray⟩ = z1) (hz2 : zv g2 ⟨l2.toArray⟩ = z2) :
    Calls Tryz.prog 68 #[.agg #[.bool g1, .string ⟨l1.toArray⟩], .agg #[.bool g2, .string ⟨l2.toArray⟩]] w (IntOut w ((Nat.gcd z1.natAbs z2.natAbs : Nat) : Int)) := by
  obtain ⟨N1, E1⟩ : ∃ N, Hid (z1.natAbs = N) := ⟨_, Lib.hid rfl⟩
  obtain ⟨N2, E2⟩ : ∃ N, Hid (z2.natAbs = N) := ⟨_, Lib.hid rfl⟩
  rw [E1.out, E2.out]
  obtain ⟨G, HG⟩ : ∃ G, Hid (Nat.gcd N1 N2 = G) := ⟨_, Lib.hid rfl⟩
  rw [HG.out]
  have L1 := Lib.hid (show (bytesOf N1).length ≤ 10000000 by rw [← E1.out, ← hz1, natAbs_zv]; rw [← trim_bytes]; exact Nat.le_trans (stz_len _) hl1)
  have L2 := Lib.hid (show (bytesOf N2).length ≤ 10000000 by rw [← E2.out, ← hz2, natAbs_zv]; rw [← trim_bytes]; exact Nat.le_trans (stz_len _) hl2)
  have T1 := Lib.hid (trim_zv hz1 E1.out)
  have T2 := Lib.hid (trim_zv hz2 E2.out)
  clear hz1 hz2 E1 E2
  obtain ⟨W0, hW0⟩ : ∃ W0, W0 = ((w.alloc (.cells #[.bool g1, .string ⟨l1.toArray⟩] 23)).alloc (.cells #[.bool g2, .string ⟨l2.toArray⟩] 23)).alloc (.cells #[.bool false, .string ⟨#[]⟩] 23) := ⟨_, rfl⟩
  have B0 : Below w.heap.size w W0 := by rw [hW0]; exact below3 w _ _ _
  have X0 : Bx3 W0 w.heap.size g1 g2 ⟨l1.toArray⟩ ⟨l2.toArray⟩ := by rw [hW0]; exact Bx3.start w _ _ _ _ _
  have HW := Lib.hid hW0
  clear hW0
  go_enter Tryz.func68, Tryz.ntmps68
  go_upto_region 1 with fail
  rw [← HW.out]
  go_cut [5, 6] (fun s5 s6 wx => s5 = .string ⟨(bytesOf N1).toArray⟩ ∧ s6 = .string ⟨(bytesOf N2).toArray⟩ ∧ Box2 wx (w.heap.size + 1 + 1) false ⟨#[]⟩ ∧ Below w.heap.size w wx)
  case first =>
    have KB : Bx3 W0.drew w.heap.size g1 g2 ⟨l1.toArray⟩ ⟨l2.toArray⟩ ∧ Below w.heap.size w W0.drew := ⟨X0, B0.drew⟩
    obtain ⟨⟨x1, x2, x3, x4⟩, ⟨y1, y2, y3, y4⟩, -⟩ := id X0
    go_region_with (first
      | (go_at_call 85; (first | (with_reducible refine (rtrim_b (by omega) T1.out).mono ?_) | (with_reducible refine (rtrim_b (by omega) T2.out).mono ?_)); rintro e X ⟨rfl, rfl⟩))
    all_goals go_wp2_with fail
    all_goals go_meet
    all_goals exact ⟨rfl, rfl, KB.1.2.2, KB.2⟩
  case rest =>
    obtain ⟨rfl, rfl, KX, B⟩ := hcut
    clear X0 B0 HW T1 T2
    go_wp2_with fail
    go_loopg [5, 6] N2 (fun q s5 s6 wx => ∃ X Y : Nat, Y = q ∧ s5 = .string ⟨(bytesOf X).toArray⟩ ∧ s6 = .string ⟨(bytesOf Y).toArray⟩ ∧ Hid (Nat.gcd X Y = G) ∧ Hid ((bytesOf X).length ≤ 10000000) ∧ Hid ((bytesOf Y).length ≤ 10000000) ∧ Box2 wx (w.heap.size + 1 + 1) false ⟨#[]⟩ ∧ Below w.heap.size w wx)
    case atStart => exact ⟨N1, N2, rfl, rfl, rfl, HG, L1, L2, KX, B⟩
    case round =>
      clear KX B
      obtain ⟨X, Y, hY, rfl, rfl, HG2, LX, LY, KX, B⟩ := hrel
      obtain ⟨bx, Hbx⟩ : ∃ b, Hid (bytesOf X = b) := ⟨_, Lib.hid rfl⟩
      obtain ⟨by', Hby⟩ : ∃ b, Hid (bytesOf Y = b) := ⟨_, Lib.hid rfl⟩
      have hcs := bytes_case Y
      rw [Hbx.out] at LX ⊢
      rw [Hby.out] at LY hcs ⊢
      obtain ⟨r1, r2, r3, r4⟩ := id KX
      rcases hcs with ⟨h0, hb⟩ | ⟨h0, hb⟩
      · subst hb
        have HR := Lib.hid (show sg (G : Int) = false ∧ mg (G : Int) = ⟨bx.toArray⟩ by
          have h := HG2.out
          rw [h0, Nat.gcd_zero_right] at h
          rw [← h, ← Hbx.out]
          exact nat_int X)
        clear h0 hY HG HG2 L1 L2
        go_wp2_with fail
        exact bodyPost_ret (v := .agg #[.bool false, .string ⟨bx.toArray⟩]) (by simp [results, Tryz.results68, go_sem, r1, r2, r3, r4]) rfl ⟨by rw [HR.out.1, HR.out.2], (B.setCell (by dsimp only; omega) _).setCell (by dsimp only; omega) _⟩
      · by_cases hlen : 7 < bx.length ∨ 7 < by'.length
        · obtain ⟨R, HR⟩ : ∃ R, Hid (X % Y = R) := ⟨_, Lib.hid rfl⟩
          obtain ⟨br, Hbr⟩ : ∃ b, Hid (bytesOf R = b) := ⟨_, Lib.hid rfl⟩
          have HY := Lib.hid (show R < gk by rw [← hY, ← HR.out]; exact Nat.mod_lt _ (by omega))
          have HG3 := Lib.hid (show Nat.gcd Y R = G by rw [← HR.out]; exact rgcd_step HG2.out)
          have LR := Lib.hid (show (bytesOf R).length ≤ 10000000 by
            have h1 := bytesOf_mono (Nat.mod_le X Y)
            rw [HR.out, Hbx.out] at h1
            have := LX.out
            omega)
          have H0 := Lib.hid h0
          have hc : decide ((7 : Int) < (bx.length : Int)) = true ∨ (¬ (7 : Int) < (bx.length : Int) ∧ decide ((7 : Int) < (by'.length : Int)) = true) := by
            by_cases h7 : 7 < bx.length
            · exact Or.inl (decide_eq_true (by omega))
            · exact Or.inr ⟨by omega, decide_eq_true (by omega)⟩
          clear hlen h0 HG HG2 L1 L2 hY
          rcases hc with hd1 | ⟨hd1, hd2⟩
          all_goals
            go_wp2_with fail
            refine (rdivM_b Hbx.out Hby.out LX.out LY.out H0.out rfl HR.out rfl Hbr.out).mono ?_
            rintro e X1 ⟨rfl, bX⟩
            go_wp2_with fail
            go_roundg R
            case measure => exact HY.out
            case rel => exact ⟨Y, R, rfl, by rw [Hby.out], by rw [Hbr.out], HG3, by rw [Hby.out]; exact LY, LR, KX.keep bX, below_more B (Nat.le_refl _) bX⟩
        · have hd1 : ¬ (7 : Int) < (bx.length : Int) := by omega
          have hd2 : ¬ (7 : Int) < (by'.length : Int) := by omega
          have S1 := Lib.hid (small_lt (N := X) (by rw [Hbx.out]; omega))
          have S2 := Lib.hid (small_lt (N := Y) (by rw [Hby.out]; omega))
          have K1 := Lib.hid (show bx.length < 8 by omega)
          have K2 := Lib.hid (show by'.length < 8 by omega)
          clear hlen h0 HG L1 L2 hY
          go_wp2_with fail
          refine (rsml_b Hbx.out K1.out).mono ?_
          rintro e W1 ⟨rfl, bX1⟩
          have KX := KX.keep bX1
          have B := below_more B (Nat.le_refl _) bX1
          clear bX1
          go_wp2_with fail
          refine (rsml_b Hby.out K2.out).mono ?_
          rintro e W2 ⟨rfl, bX2⟩
          have KX := KX.keep bX2
          have B := below_more B (Nat.le_refl _) bX2
          clear bX2 r1 r2 r3 r4
          go_wp2_with fail
          go_loopg [9, 10] Y (fun q s9 s10 wx => ∃ M N : Nat, N = q ∧ s9 = .int .i64 (M : Int) ∧ s10 = .int .i64 (N : Int) ∧ Hid (Nat.gcd M N = G) ∧ Hid (M < 72057594037927936) ∧ Hid (N < 72057594037927936) ∧ Box2 wx (w.heap.size + 1 + 1) false ⟨#[]⟩ ∧ Below w.heap.size w wx)
          case atStart => exact ⟨X, Y, rfl, rfl, rfl, HG2, S1, S2, KX, B⟩
          case round =>
            clear KX B HG2 S1 S2 K1 K2
            obtain ⟨M, N, hN, rfl, rfl, HG2, LM, LN, KX, B⟩ := hrel
            rcases Nat.eq_zero_or_pos N with h0 | h0
            · subst h0
              have HR := Lib.hid (show M = G by rw [← HG2.out, Nat.gcd_zero_right])
              have hM := LM.out
              clear hN
              go_wp2_with fail
              refine (rof01_any (M : Int) _ (by omega) (by omega)).mono ?_
              rintro e W3 ⟨rfl, bX⟩
              have KX := KX.keep bX
              have B := below_more B (Nat.le_refl _) bX
              obtain ⟨r1, r2, r3, r4⟩ := id KX
              go_wp2_with fail
              exact bodyPost_ret (v := .agg #[.bool (sg (M : Int)), .string (mg (M : Int))]) (by simp [results, Tryz.results68, go_sem, r1, r2, r3, r4]) rfl ⟨by rw [HR.out], (B.setCell (by dsimp only; omega) _).setCell (by dsimp only; omega) _⟩
            · obtain ⟨R, HR⟩ : ∃ R, Hid (M % N = R) := ⟨_, Lib.hid rfl⟩
              have HY := Lib.hid (show R < gk by rw [← hN, ← HR.out]; exact Nat.mod_lt _ h0)
              have HG3 := Lib.hid (show Nat.gcd N R = G by rw [← HR.out]; exact rgcd_step HG2.out)
              have LR := Lib.hid (show R < 72057594037927936 by have := LN.out; have := HY.out; omega)
              have hr1 : Int.tmod (M : Int) (N : Int) = (R : Int) := by rw [← HR.out]; rfl
              have hr2 : IntKind.i64.wrap (R : Int) = (R : Int) := IntWalk.i64_in _ (by have := LR.out; omega)
              have hn0 : ¬ (N : Int) = 0 := by omega
              have hn1 : 0 < (N : Int) := by omega
              have hn2 : ((N : Int) == 0) = false := by rw [beq_eq_false_iff_ne]; omega
              clear HG2 hN
              go_upto_region 9 with fail
              have KX := KX.keep (Below.refl _ _).drew
              have B := B.drew
              go_big_region
              all_goals
                go_wp2_with fail
                go_roundg R
                case measure => exact HY.out
                case rel => exact ⟨N, R, rfl, rfl, rfl, HG3, LN, LR, KX, B⟩
end Go.Proofs.YtcljkdninmldiaaGreatDoor

namespace Go.Proofs.YtcljkdninmldiaaGreatDoor
open Go.RowKit
set_option linter.unusedSimpArgs false
set_option linter.unusedVariables false

/-- An integer of at most L bytes. -/
def AI (v : Value) (z : Int) (L : Nat) : Prop := ∃ g, ∃ l : List UInt8, v = .agg #[.bool g, .string ⟨l.toArray⟩] ∧ zv g ⟨l.toArray⟩ = z ∧ l.length ≤ L
theorem AI.bd {v : Value} {z : Int} {L : Nat} (h : AI v z L) : z.natAbs < 256 ^ L := by
  obtain ⟨g, l, rfl, rfl, h⟩ := h
  rw [natAbs_zv]
  exact Nat.lt_of_lt_of_le (vB_lt l) (Nat.pow_le_pow_right (by omega) h)
theorem AI.wider {v : Value} {z : Int} {L M : Nat} (h : AI v z L) (hl : L ≤ M) : AI v z M := by
  obtain ⟨g, l, h1, h2, h3⟩ := h
  exact ⟨g, l, h1, h2, by omega⟩
theorem ai_mg {z : Int} {L : Nat} (h : z.natAbs < 256 ^ L) : AI (.agg #[.bool (sg z), .string (mg z)]) z L := ⟨sg z, bytesOf z.natAbs, rfl, zv_mg z, bytesOf_len h⟩
theorem ai_zero : AI (.agg #[.bool false, .string ⟨#[]⟩]) 0 0 := ⟨false, [], rfl, rfl, Nat.le_refl _⟩
theorem ai_arg (g : Bool) (s : ByteArray) {L : Nat} (h : s.size ≤ L) : AI (.agg #[.bool g, .string s]) (zv g s) L := ⟨g, s.data.toList, rfl, rfl, h⟩
theorem ai_add {v1 v2 : Value} {z1 z2 z : Int} {L : Nat} {w : World} (h1 : AI v1 z1 L) (h2 : AI v2 z2 L) (hL : L ≤ 10000000) (e : z1 + z2 = z) : Calls Tryz.prog 95 #[v1, v2] w (IntOut w z) := by
  obtain ⟨g1, l1, rfl, a1, b1⟩ := h1
  obtain ⟨g2, l2, rfl, a2, b2⟩ := h2
  exact e ▸ radd01_any g1 g2 l1 l2 z1 z2 w (by omega) (by omega) a1 a2
theorem ai_mul {v1 v2 : Value} {z1 z2 z : Int} {L : Nat} {w : World} (h1 : AI v1 z1 L) (h2 : AI v2 z2 L) (hL : L ≤ 10000000) (e : z1 * z2 = z) : Calls Tryz.prog 52 #[v1, v2] w (IntOut w z) := by
  obtain ⟨g1, l1, rfl, a1, b1⟩ := h1
  obtain ⟨g2, l2, rfl, a2, b2⟩ := h2
  exact e ▸ rmul01_any g1 g2 l1 l2 z1 z2 w (by omega) (by omega) a1 a2
theorem ai_neg {v1 : Value} {z1 z : Int} {L : Nat} {w : World} (h1 : AI v1 z1 L) (hL : L ≤ 10000000) (e : -z1 = z) : Calls Tryz.prog 59 #[v1] w (IntOut w z) := by
  obtain ⟨g1, l1, rfl, a1, b1⟩ := h1
  exact rneg_eq (by omega) a1 e
theorem ai_cmp {v1 v2 : Value} {z1 z2 z : Int} {L : Nat} {w : World} (h1 : AI v1 z1 L) (h2 : AI v2 z2 L) (hL : L ≤ 10000000) (e : cmpZ z1 z2 = z) : Calls Tryz.prog 67 #[v1, v2] w fun e w' => e = .returned (.int .i64 z) ∧ Below w.heap.size w w' := by
  obtain ⟨g1, l1, rfl, a1, b1⟩ := h1
  obtain ⟨g2, l2, rfl, a2, b2⟩ := h2
  exact e ▸ rcompare_any g1 g2 l1 l2 z1 z2 w (by omega) (by omega) a1 a2
theorem ai_gcd {v1 v2 : Value} {z1 z2 z : Int} {L : Nat} {w : World} (h1 : AI v1 z1 L) (h2 : AI v2 z2 L) (hL : L ≤ 10000000) (e : ((Nat.gcd z1.natAbs z2.natAbs : Nat) : Int) = z) : Calls Tryz.prog 68 #[v1, v2] w (IntOut w z) := by
  obtain ⟨g1, l1, rfl, a1, b1⟩ := h1
  obtain ⟨g2, l2, rfl, a2, b2⟩ := h2
  exact e ▸ rgcd01_any g1 g2 l1 l2 z1 z2 w (by omega) (by omega) a1 a2
theorem ai_div {v1 v2 : Value} {z1 z2 q r : Int} {L : Nat} {w : World} (h1 : AI v1 z1 L) (h2 : AI v2 z2 L) (hL : L ≤ 10000000) (h0 : z2 ≠ 0) (eq : qD z1 z2 = q) (er : rD z1 z2 = r) :
    Calls Tryz.prog 69 #[v1, v2] w fun e w' => e = .returned (.tuple #[.agg #[.bool (sg q), .string (mg q)], .agg #[.bool (sg r), .string (mg r)], .int .i64 0]) ∧ Below w.heap.size w w' := by
  obtain ⟨g1, l1, rfl, a1, b1⟩ := h1
  obtain ⟨g2, l2, rfl, a2, b2⟩ := h2
  subst eq er
  exact rdiv01_any g1 g2 l1 l2 z1 z2 w (by omega) (by omega) a1 a2 h0
set_option maxRecDepth 100000 in
theorem rsign_any {v : Value} {z c : Int} {L : Nat} {w : World} (h : AI v z L) (hL : L ≤ 10000000) (e : cmpZ z 0 = c) :
    Calls Tryz.prog 36 #[v] w fun e w' => e = .returned (.int .i64 c) ∧ Below w.heap.size w w' := by
  have HA := Lib.hid h
  have HE := Lib.hid e
  obtain ⟨g, l, rfl, -, -⟩ := h
  have B0 := below1 w (.cells #[.bool g, .string ⟨l.toArray⟩] 23)
  clear e
  go_enter Tryz.func36, Tryz.ntmps36
  go_wp2_with fail
  refine (ai_cmp HA.out (ai_zero.wider (Nat.zero_le _)) hL HE.out).mono ?_
  rintro e W1 ⟨rfl, b1⟩
  go_wp2_with fail
  go_ret
  exact ⟨rfl, below_more B0 (Nat.le_refl _) b1⟩
set_option maxRecDepth 100000 in
theorem rone_any (w : World) : Calls Tryz.prog 39 #[] w (IntOut w 1) := by
  have X0 := Box2.new w 23 false ⟨#[]⟩
  have B0 := below1 w (.cells #[.bool false, .string ⟨#[]⟩] 23)
  go_enter Tryz.func39, Tryz.ntmps39
  go_wp2_with fail
  refine (rof01_any 1 _ (by omega) (by omega)).mono ?_
  rintro e W1 ⟨rfl, b1⟩
  obtain ⟨r1, r2, r3, r4⟩ := X0.keep b1
  have B1 := below_more B0 (Nat.le_refl _) b1
  go_wp2_with fail
  exact bodyPost_ret (v := .agg #[.bool (sg 1), .string (mg 1)]) (by simp [results, Tryz.results39, go_sem, r1, r2, r3, r4]) rfl ⟨rfl, (B1.setCell (Nat.le_refl _) _).setCell (Nat.le_refl _) _⟩
end Go.Proofs.YtcljkdninmldiaaGreatDoor

namespace Go.Proofs.YtcljkdninmldiaaGreatDoor
open Go.RowKit

/-- The digits of N to the base 10^9, the least one first. -/
def gs (N : Nat) : List Nat := if h : N = 0 then [] else N % 1000000000 :: gs (N / 1000000000)
termination_by N
decreasing_by exact Nat.div_lt_self (by omega) (by omega)
theorem gs_zero : gs 0 = [] := by rw [gs]; rfl
theorem gs_pos {N : Nat} (h : N ≠ 0) : gs N = N % 1000000000 :: gs (N / 1000000000) := by rw [gs, dif_neg h]
theorem gs_len {N k : Nat} (h : N < 1000000000 ^ k) : (gs N).length ≤ k := by
  induction k generalizing N with
  | zero => have : N = 0 := by simp at h; exact h
            subst this; rw [gs_zero]; exact Nat.le_refl _
  | succ k ih =>
    by_cases h0 : N = 0
    · subst h0; rw [gs_zero]; exact Nat.zero_le _
    · rw [gs_pos h0, List.length_cons]
      have := ih (Nat.div_lt_of_lt_mul (by rw [Nat.pow_succ, Nat.mul_comm] at h; exact h))
      omega
theorem gs_room {N k : Nat} (h : N < 4294967296 ^ k) : (gs N).length ≤ 2 * k := by
  apply gs_len
  refine Nat.lt_of_lt_of_le h ?_
  rw [Nat.pow_mul]
  exact Nat.pow_le_pow_left (by omega) _
def gvs (l : List Nat) : List Value := l.map fun (d : Nat) => .int .u32 (d : Int)
theorem gvs_len (l : List Nat) : (gvs l).length = l.length := by unfold gvs; exact List.length_map _
theorem gvs_snoc (l : List Nat) (d : Nat) : gvs (l ++ [d]) = gvs l ++ [.int .u32 (d : Int)] := by unfold gvs; rw [List.map_append]; rfl

/-- A number keeps where another block grows. -/
theorem isNat_grown {w w' : World} {a : Addr} {n c N : Nat} {row : Option Nat} (h : IsNat w (some a) n c N) (hg : w.grownBy w' row) (hr : some a.block ≠ row) : IsNat w' (some a) n c N := by
  obtain ⟨h1, h2, f, ⟨b, off, hA, hcell⟩, h4⟩ := h
  refine ⟨h1, h2, f, ⟨b, off, hA, fun i hi => hg.cell (hcell i hi) ?_⟩, h4⟩
  have := hA (by omega)
  injection this with this
  subst this
  exact hr
theorem grown_of_below {w w' : World} (h : Below w.heap.size w w') (row : Option Nat) : w.grownBy w' row := ⟨h.os, h.tape, h.output, h.size, fun k hk _ => h.block k hk⟩
theorem nat_none {w : World} {A : Option Addr} {n c N : Nat} (h : IsNat w A n c N) : (n = 0 ↔ N = 0) := by
  obtain ⟨_, _, f, _, _, tf, hv⟩ := h
  constructor
  · rintro rfl; exact hv.symm
  · intro h0
    rcases Nat.eq_zero_or_pos n with h1 | h1
    · exact h1
    · have := val_ge h1 (tf h1)
      have hp : 0 < 4294967296 ^ (n - 1) := Nat.pow_pos (by omega)
      omega

def GrOut (w : World) (N : Nat) (e : Ending) (w' : World) : Prop := ∃ v, e = .returned v ∧ w'.ownsRow w.heap.size 63 1 v (gs N).length (gvs (gs N)) ∧ Below w.heap.size w w'

set_option maxHeartbeats 1600000 in
theorem groups_any (A : Option Addr) (n c N k : Nat) (w : World) (hA : IsNat w A n c N) (hN : N < 4294967296 ^ k) (hk : k ≤ 10000000) :
    Calls Tryz.prog 71 #[.slice A n c] w (GrOut w N) := by
  have hn := hA.len hN
  have hroom := gs_room hN
  have Hk : Hid (N < 4294967296 ^ k) := hN
  obtain ⟨i0, hi, hz0, hz1, hz2⟩ := info_parts Tryz.infoU32
  clear hN
  go_enter Tryz.func71, Tryz.ntmps71
  go_wp2_with fail
  go_loopg [0, 3] (gs N).length (fun g s0 s3 wx => ∃ A1 n1 c1 M xs, g = (gs M).length ∧ s0 = .slice A1 n1 c1 ∧ IsNat wx A1 n1 c1 M ∧ M < 4294967296 ^ k ∧ Hid (xs ++ gs M = gs N) ∧ wx.ownsRow w.heap.size 63 1 s3 xs.length (gvs xs) ∧ (∀ b, s3.ownBlock = some b → ∀ a, A1 = some a → some a.block ≠ some b) ∧ Below w.heap.size w wx)
  case atStart => exact ⟨A, n, c, N, [], rfl, rfl, hA, Hk.out, rfl, World.ownsRow_nil _ _ _ _, fun b hb => by simp [Value.ownBlock] at hb, Below.refl _ _⟩
  case round =>
    obtain ⟨A1, n1, c1, M, xs, rfl, rfl, i1, hM, HX, hown, hne, hb⟩ := hrel
    have HM : Hid (M < 4294967296 ^ k) := hM
    have hn1 : n1 ≤ 10000000 := by have := i1.len hM; omega
    by_cases h0 : M = 0
    · subst h0
      obtain rfl := (nat_none i1).2 rfl
      have hx := HX.out
      rw [gs_zero, List.append_nil] at hx
      subst hx
      clear hM hne i1
      go_wp2
      go_ret
      exact ⟨_, rfl, hown, hb⟩
    · have hn0 : 0 < n1 := by have := mt (nat_none i1).1 h0; omega
      have hlen : xs.length + (gs M).length = (gs N).length := by rw [← HX.out, List.length_append]
      have hg := gs_pos h0
      have hg1 : (gs M).length = (gs (M / 1000000000)).length + 1 := by rw [hg, List.length_cons]
      have HX2 : Hid ((xs ++ [M % 1000000000]) ++ gs (M / 1000000000) = gs N) := by
        show _ = _
        rw [← HX.out, hg, List.append_assoc]; rfl
      have HM2 : Hid (M / 1000000000 < 4294967296 ^ k) := Nat.lt_of_le_of_lt (Nat.div_le_self _ _) HM.out
      have HG1 := Lib.hid hg1
      have Hlen : Hid (xs.length + (gs M).length = (gs N).length) := hlen
      have hr := Nat.mod_lt M (show 1000000000 > 0 by omega)
      have hlt := hown.lt
      have hbs := hb.size
      have hxl : xs.length ≤ 20000000 := by omega
      clear hM hg hg1 hlen
      go_wp2_with fail
      refine (divSmall_new A1 n1 c1 M 1000000000 _ (by obtain ⟨_, _, f, a1, a2, _, a3⟩ := i1; exact ⟨f, a1, a2, a3⟩) (by omega) (by omega) (by omega)).mono ?_
      rintro e W1 ⟨n2, c2, rfl, i2, b2⟩
      have hown1 : W1.ownsRow w.heap.size 63 1 u3 xs.length (gvs xs) := hown.kept (grown_of_below b2 none) (by cases hv : u3.ownBlock <;> simp)
      have hb1 := below_more hb (Nat.le_refl _) b2
      have hs2 := b2.size
      have hs3 := hb1.size
      clear i1 hne hown hb
      generalize M % 1000000000 = r at *
      generalize hQ : M / 1000000000 = Q at *
      go_wp2_with (first | (at_builtin; refine wpList_append_own_at _ rfl _ _ 60 rfl w.heap.size 63 i0 (.int .u32 0) 1 4 Tryz.underlying60 hi hz0 hz1 hz2 rfl (by decide) _ _ _ rfl (hown1.alloc _) ⟨W1.heap.size, 0, none⟩ 1 1 [.int .u32 (r : Int)] rfl rfl ?c1 ?c2 ?c3 ?c4 ?c5 ?_))
      case c1 => exact cell_one_new _ _ _
      case c2 => intro u hu; simp at hu; subst hu; rfl
      case c3 => unfold maxLen; omega
      case c4 => omega
      case c5 => rw [World.size_alloc]; omega
      · intro v' W2 hown2 hgrow _ hv'
        have hlt1 := hown1.lt
        have hA2 : some wr.heap.size ≠ u3.ownBlock := fun e => by have := (hlt _ e.symm).2; omega
        have i3 : IsNat (W1.alloc (.cells #[.int .u32 (r : Int)] 63)) (some ⟨wr.heap.size, 0, none⟩) n2 c2 Q := i2.below (Nat.le_refl _) (below1 _ _)
        have i4 : IsNat W2 (some ⟨wr.heap.size, 0, none⟩) n2 c2 Q := isNat_grown i3 hgrow hA2
        have hne2 : ∀ b, v'.ownBlock = some b → ∀ a, (some ⟨wr.heap.size, 0, none⟩ : Option Addr) = some a → some a.block ≠ some b := by
          intro b hb' a ha
          injection ha with ha
          subst ha
          rcases hv' with h | h
          · rw [← hb', h]; exact hA2
          · rw [← hb', h]; intro e; injection e with e; have : wr.heap.size = W1.heap.size + 1 := e; omega
        have hb2 : Below w.heap.size w W2 := ((hb1.alloc (Nat.le_trans (Nat.le_refl _) hs3) _).grown hgrow (by rw [World.size_alloc]; omega) (fun k hk => (hlt1 k hk).1))
        rw [← gvs_snoc] at hown2
        have hl : xs.length + 1 = (xs ++ [r]).length := by simp
        rw [hl] at hown2
        clear hown1 hgrow hv' hlt hlt1 i2 i3 b2 hb1 hs2 hs3 hl
        go_wp2
        go_roundg (gs Q).length
        case measure => have := HG1.out; omega
        case rel => exact ⟨some ⟨wr.heap.size, 0, none⟩, n2, c2, Q, xs ++ [r], rfl, rfl, i4, HM2.out, HX2, hown2, hne2, hb2⟩
end Go.Proofs.YtcljkdninmldiaaGreatDoor
