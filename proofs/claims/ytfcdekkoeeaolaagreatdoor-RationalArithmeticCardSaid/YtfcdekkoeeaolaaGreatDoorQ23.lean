/- What the reference implementation's Gcd returns. Condition: at most 10^7 bytes. What integer.Power returns: the power, or the error's number and zero. What the reference implementation's Bits returns. Condition: at most 10^9 bytes. -/
import Derived.Test.YtfcdekkoeeaolaaGreatDoorQ21
import Derived.Test.YtfcdekkoeeaolaaGreatDoorQ19
import Derived.Test.YtfcdekkoeeaolaaGreatDoorQ09
import Derived.Test.YtfcdekkoeeaolaaGreatDoorQ10

namespace Go.Proofs.YtfcdekkoeeaolaaGreatDoor
open Go.RowKit
set_option linter.unusedSimpArgs false
set_option linter.unusedVariables false

theorem rtrim_b {l b : List UInt8} {w : World} (hl : l.length ≤ 1000000000) (h : Lib.trimLeftB l 0 = b) :
    Calls Tryz.prog 85 #[.string ⟨l.toArray⟩] w fun e w' => e = .returned (.string ⟨b.toArray⟩) ∧ w' = w := h ▸ rtrim_any l w hl
theorem trim_zv {g : Bool} {l : List UInt8} {z : Int} {N : Nat} (hz : zv g ⟨l.toArray⟩ = z) (h : z.natAbs = N) : Lib.trimLeftB l 0 = bytesOf N := by
  rw [trim_bytes, ← h, ← hz, natAbs_zv]
theorem rgcd_step {X Y G : Nat} (h : Nat.gcd X Y = G) : Nat.gcd Y (X % Y) = G := by rw [← h, Nat.gcd_comm X Y, Nat.gcd_rec Y X, Nat.gcd_comm]
theorem bytes_case (N : Nat) : (N = 0 ∧ bytesOf N = []) ∨ (N ≠ 0 ∧ (bytesOf N == []) = false) := by
  by_cases h : N = 0
  · exact Or.inl ⟨h, bytesOf_nil.2 h⟩
  · refine Or.inr ⟨h, ?_⟩
    rw [beq_eq_false_iff_ne]
    exact fun e => h (bytesOf_nil.1 e)
set_option maxRecDepth 100000 in
set_option maxHeartbeats 6400000 in
theorem rgcd01_any (g1 g2 : Bool) (l1 l2 : List UInt8) (z1 z2 : Int) (w : World) (hl1 : l1.length ≤ 10000000) (hl2 : l2.length ≤ 10000000) (hz1 : zv g1 ⟨l1.toArray⟩ = z1) (hz2 : zv g2 ⟨l2.toArray⟩ = z2) :
    Calls Tryz.prog 23 #[.agg #[.bool g1, .string ⟨l1.toArray⟩], .agg #[.bool g2, .string ⟨l2.toArray⟩]] w (IntOut w ((Nat.gcd z1.natAbs z2.natAbs : Nat) : Int)) := by
  obtain ⟨N1, E1⟩ : ∃ N, Hid (z1.natAbs = N) := ⟨_, Lib.hid rfl⟩
  obtain ⟨N2, E2⟩ : ∃ N, Hid (z2.natAbs = N) := ⟨_, Lib.hid rfl⟩
  rw [E1.out, E2.out]
  obtain ⟨G, HG⟩ : ∃ G, Hid (Nat.gcd N1 N2 = G) := ⟨_, Lib.hid rfl⟩
  rw [HG.out]
  have L1 := Lib.hid (show (bytesOf N1).length ≤ 10000000 by rw [← E1.out, ← hz1, natAbs_zv]; rw [← trim_bytes]; exact Nat.le_trans (stz_len _) hl1)
  have L2 := Lib.hid (show (bytesOf N2).length ≤ 10000000 by rw [← E2.out, ← hz2, natAbs_zv]; rw [← trim_bytes]; exact Nat.le_trans (stz_len _) hl2)
  have T1 := Lib.hid (trim_zv hz1 E1.out)
  have T2 := Lib.hid (trim_zv hz2 E2.out)
  clear hz1 hz2 E1 E2
  obtain ⟨W0, hW0⟩ : ∃ W0, W0 = ((w.alloc (.cells #[.bool g1, .string ⟨l1.toArray⟩] 23)).alloc (.cells #[.bool g2, .string ⟨l2.toArray⟩] 23)).alloc (.cells #[.bool false, .string ⟨#[]⟩] 23) := ⟨_, rfl⟩
  have B0 : Below w.heap.size w W0 := by rw [hW0]; exact below3 w _ _ _
  have X0 : Bx3 W0 w.heap.size g1 g2 ⟨l1.toArray⟩ ⟨l2.toArray⟩ := by rw [hW0]; exact Bx3.start w _ _ _ _ _
  have HW := Lib.hid hW0
  clear hW0
  go_enter Tryz.func23, Tryz.ntmps23
  go_upto_region 1 with fail
  rw [← HW.out]
  go_cut [5, 6] (fun s5 s6 wx => s5 = .string ⟨(bytesOf N1).toArray⟩ ∧ s6 = .string ⟨(bytesOf N2).toArray⟩ ∧ Box2 wx (w.heap.size + 1 + 1) false ⟨#[]⟩ ∧ Below w.heap.size w wx)
  case first =>
    have KB : Bx3 W0.drew w.heap.size g1 g2 ⟨l1.toArray⟩ ⟨l2.toArray⟩ ∧ Below w.heap.size w W0.drew := ⟨X0, B0.drew⟩
    obtain ⟨⟨x1, x2, x3, x4⟩, ⟨y1, y2, y3, y4⟩, -⟩ := id X0
    go_region_with (first
      | (go_at_call 85; (first | (with_reducible refine (rtrim_b (by omega) T1.out).mono ?_) | (with_reducible refine (rtrim_b (by omega) T2.out).mono ?_)); rintro e X ⟨rfl, rfl⟩))
    all_goals go_wp2_with fail
    all_goals go_meet
    all_goals exact ⟨rfl, rfl, KB.1.2.2, KB.2⟩
  case rest =>
    obtain ⟨rfl, rfl, KX, B⟩ := hcut
    clear X0 B0 HW T1 T2
    go_wp2_with fail
    go_loopg [5, 6] N2 (fun q s5 s6 wx => ∃ X Y : Nat, Y = q ∧ s5 = .string ⟨(bytesOf X).toArray⟩ ∧ s6 = .string ⟨(bytesOf Y).toArray⟩ ∧ Hid (Nat.gcd X Y = G) ∧ Hid ((bytesOf X).length ≤ 10000000) ∧ Hid ((bytesOf Y).length ≤ 10000000) ∧ Box2 wx (w.heap.size + 1 + 1) false ⟨#[]⟩ ∧ Below w.heap.size w wx)
    case atStart => exact ⟨N1, N2, rfl, rfl, rfl, HG, L1, L2, KX, B⟩
    case round =>
      clear KX B
      obtain ⟨X, Y, hY, rfl, rfl, HG2, LX, LY, KX, B⟩ := hrel
      obtain ⟨bx, Hbx⟩ : ∃ b, Hid (bytesOf X = b) := ⟨_, Lib.hid rfl⟩
      obtain ⟨by', Hby⟩ : ∃ b, Hid (bytesOf Y = b) := ⟨_, Lib.hid rfl⟩
      have hcs := bytes_case Y
      rw [Hbx.out] at LX ⊢
      rw [Hby.out] at LY hcs ⊢
      obtain ⟨r1, r2, r3, r4⟩ := id KX
      rcases hcs with ⟨h0, hb⟩ | ⟨h0, hb⟩
      · subst hb
        have HR := Lib.hid (show sg (G : Int) = false ∧ mg (G : Int) = ⟨bx.toArray⟩ by
          have h := HG2.out
          rw [h0, Nat.gcd_zero_right] at h
          rw [← h, ← Hbx.out]
          exact nat_int X)
        clear h0 hY HG HG2 L1 L2
        go_wp2_with fail
        exact bodyPost_ret (v := .agg #[.bool false, .string ⟨bx.toArray⟩]) (by simp [results, Tryz.results23, go_sem, r1, r2, r3, r4]) rfl ⟨by rw [HR.out.1, HR.out.2], (B.setCell (by dsimp only; omega) _).setCell (by dsimp only; omega) _⟩
      · by_cases hlen : 7 < bx.length ∨ 7 < by'.length
        · obtain ⟨R, HR⟩ : ∃ R, Hid (X % Y = R) := ⟨_, Lib.hid rfl⟩
          obtain ⟨br, Hbr⟩ : ∃ b, Hid (bytesOf R = b) := ⟨_, Lib.hid rfl⟩
          have HY := Lib.hid (show R < gk by rw [← hY, ← HR.out]; exact Nat.mod_lt _ (by omega))
          have HG3 := Lib.hid (show Nat.gcd Y R = G by rw [← HR.out]; exact rgcd_step HG2.out)
          have LR := Lib.hid (show (bytesOf R).length ≤ 10000000 by
            have h1 := bytesOf_mono (Nat.mod_le X Y)
            rw [HR.out, Hbx.out] at h1
            have := LX.out
            omega)
          have H0 := Lib.hid h0
          have hc : decide ((7 : Int) < (bx.length : Int)) = true ∨ (¬ (7 : Int) < (bx.length : Int) ∧ decide ((7 : Int) < (by'.length : Int)) = true) := by
            by_cases h7 : 7 < bx.length
            · exact Or.inl (decide_eq_true (by omega))
            · exact Or.inr ⟨by omega, decide_eq_true (by omega)⟩
          clear hlen h0 HG HG2 L1 L2 hY
          rcases hc with hd1 | ⟨hd1, hd2⟩
          all_goals
            go_wp2_with fail
            refine (rdivM_b Hbx.out Hby.out LX.out LY.out H0.out rfl HR.out rfl Hbr.out).mono ?_
            rintro e X1 ⟨rfl, bX⟩
            go_wp2_with fail
            go_roundg R
            case measure => exact HY.out
            case rel => exact ⟨Y, R, rfl, by rw [Hby.out], by rw [Hbr.out], HG3, by rw [Hby.out]; exact LY, LR, KX.keep bX, below_more B (Nat.le_refl _) bX⟩
        · have hd1 : ¬ (7 : Int) < (bx.length : Int) := by omega
          have hd2 : ¬ (7 : Int) < (by'.length : Int) := by omega
          have S1 := Lib.hid (small_lt (N := X) (by rw [Hbx.out]; omega))
          have S2 := Lib.hid (small_lt (N := Y) (by rw [Hby.out]; omega))
          have K1 := Lib.hid (show bx.length < 8 by omega)
          have K2 := Lib.hid (show by'.length < 8 by omega)
          clear hlen h0 HG L1 L2 hY
          go_wp2_with fail
          refine (rsml_b Hbx.out K1.out).mono ?_
          rintro e W1 ⟨rfl, bX1⟩
          have KX := KX.keep bX1
          have B := below_more B (Nat.le_refl _) bX1
          clear bX1
          go_wp2_with fail
          refine (rsml_b Hby.out K2.out).mono ?_
          rintro e W2 ⟨rfl, bX2⟩
          have KX := KX.keep bX2
          have B := below_more B (Nat.le_refl _) bX2
          clear bX2 r1 r2 r3 r4
          go_wp2_with fail
          go_loopg [9, 10] Y (fun q s9 s10 wx => ∃ M N : Nat, N = q ∧ s9 = .int .i64 (M : Int) ∧ s10 = .int .i64 (N : Int) ∧ Hid (Nat.gcd M N = G) ∧ Hid (M < 72057594037927936) ∧ Hid (N < 72057594037927936) ∧ Box2 wx (w.heap.size + 1 + 1) false ⟨#[]⟩ ∧ Below w.heap.size w wx)
          case atStart => exact ⟨X, Y, rfl, rfl, rfl, HG2, S1, S2, KX, B⟩
          case round =>
            clear KX B HG2 S1 S2 K1 K2
            obtain ⟨M, N, hN, rfl, rfl, HG2, LM, LN, KX, B⟩ := hrel
            rcases Nat.eq_zero_or_pos N with h0 | h0
            · subst h0
              have HR := Lib.hid (show M = G by rw [← HG2.out, Nat.gcd_zero_right])
              have hM := LM.out
              clear hN
              go_wp2_with fail
              refine (rof01_any (M : Int) _ (by omega) (by omega)).mono ?_
              rintro e W3 ⟨rfl, bX⟩
              have KX := KX.keep bX
              have B := below_more B (Nat.le_refl _) bX
              obtain ⟨r1, r2, r3, r4⟩ := id KX
              go_wp2_with fail
              exact bodyPost_ret (v := .agg #[.bool (sg (M : Int)), .string (mg (M : Int))]) (by simp [results, Tryz.results23, go_sem, r1, r2, r3, r4]) rfl ⟨by rw [HR.out], (B.setCell (by dsimp only; omega) _).setCell (by dsimp only; omega) _⟩
            · obtain ⟨R, HR⟩ : ∃ R, Hid (M % N = R) := ⟨_, Lib.hid rfl⟩
              have HY := Lib.hid (show R < gk by rw [← hN, ← HR.out]; exact Nat.mod_lt _ h0)
              have HG3 := Lib.hid (show Nat.gcd N R = G by rw [← HR.out]; exact rgcd_step HG2.out)
              have LR := Lib.hid (show R < 72057594037927936 by have := LN.out; have := HY.out; omega)
              have hr1 : Int.tmod (M : Int) (N : Int) = (R : Int) := by rw [← HR.out]; rfl
              have hr2 : IntKind.i64.wrap (R : Int) = (R : Int) := IntWalk.i64_in _ (by have := LR.out; omega)
              have hn0 : ¬ (N : Int) = 0 := by omega
              have hn1 : 0 < (N : Int) := by omega
              have hn2 : ((N : Int) == 0) = false := by rw [beq_eq_false_iff_ne]; omega
              clear HG2 hN
              go_upto_region 9 with fail
              have KX := KX.keep (Below.refl _ _).drew
              have B := B.drew
              go_big_region
              all_goals
                go_wp2_with fail
                go_roundg R
                case measure => exact HY.out
                case rel => exact ⟨N, R, rfl, rfl, rfl, HG3, LN, LR, KX, B⟩
end Go.Proofs.YtfcdekkoeeaolaaGreatDoor

namespace Go.Proofs.YtfcdekkoeeaolaaGreatDoor
open Go.RowKit

theorem neg_pow_m (x : Int) (m : Nat) : (-x) ^ m = if m % 2 = 1 then -(x ^ m) else x ^ m := by
  induction m with
  | zero => simp
  | succ m ih =>
    rw [Int.pow_succ, Int.pow_succ, ih]
    rcases Nat.mod_two_eq_zero_or_one m with h | h
    · rw [if_neg (by omega), if_pos (by omega), Int.mul_neg]
    · rw [if_pos h, if_neg (by omega), Int.neg_mul_neg]
theorem zv_pow (na : Bool) (s : ByteArray) (m : Nat) : zv na s ^ m = if (na && (((m % 2 : Nat) : Int) == 1)) then -((vB s.data.toList ^ m : Nat) : Int) else ((vB s.data.toList ^ m : Nat) : Int) := by
  unfold zv
  cases na
  · simp [Int.natCast_pow]
  · rw [if_pos rfl, neg_pow_m, Int.natCast_pow]
    rcases Nat.mod_two_eq_zero_or_one m with h | h
    · rw [h, if_neg (by omega)]; rfl
    · rw [h, if_pos rfl]; rfl
theorem pow_room {N m : Nat} (hm : m ≤ 4096) (hl : m * nbits N ≤ 65536) : ∃ kk, N < 4294967296 ^ kk ∧ kk * m + 1 ≤ 10000000 := by
  refine ⟨nbits N / 32 + 1, ?_, ?_⟩
  · refine Nat.lt_of_lt_of_le (nbits_lt N) ?_
    rw [show (4294967296 : Nat) = 2 ^ 32 from rfl, ← Nat.pow_mul]
    exact Nat.pow_le_pow_right (by omega) (by omega)
  · have h1 : nbits N / 32 * m ≤ nbits N * m := Nat.mul_le_mul_right _ (Nat.div_le_self _ _)
    rw [Nat.mul_comm (nbits N) m] at h1
    rw [Nat.add_mul]
    omega

theorem nbits_le {N k : Nat} (h : N < 4294967296 ^ k) : nbits N ≤ 32 * k := by
  rcases Nat.eq_zero_or_pos N with h0 | h0
  · subst h0; exact Nat.zero_le _
  · have h1 := nbits_ge (N := N) (by omega)
    rw [show (4294967296 : Nat) = 2 ^ 32 from rfl, ← Nat.pow_mul] at h
    have := (Nat.pow_lt_pow_iff_right (a := 2) (by omega)).1 (Nat.lt_of_le_of_lt h1 h)
    omega

/-- What a call returns that fails. -/
def FailOut (w : World) (x : Int) (e : Ending) (w' : World) : Prop := e = .returned (.tuple #[.agg #[.bool false, .string ⟨#[]⟩], .int .i64 x]) ∧ Below w.heap.size w w'
/-- What a call returns that does not fail. -/
def GoodOut (w : World) (z : Int) (e : Ending) (w' : World) : Prop := e = .returned (.tuple #[.agg #[.bool (sg z), .string (mg z)], .int .i64 0]) ∧ Below w.heap.size w w'

set_option maxRecDepth 100000 in
set_option maxHeartbeats 3200000 in
theorem ipow_range (na : Bool) (sa : ByteArray) (m : Int) (w : World) (hm : m < 0 ∨ 4096 < m) :
    Calls Tryz.prog 20 #[.agg #[.bool na, .string sa], .int .i64 m] w (FailOut w 2) := by
  have hr := ResCell.new (w.alloc (.cells #[.bool na, .string sa] 23)) 23
  rw [World.size_alloc] at hr
  obtain ⟨r1, r2, r3, r4⟩ := hr
  have hb := below2 w (.cells #[.bool na, .string sa] 23) (.cells #[.bool false, .string ⟨#[]⟩] 23)
  rcases hm with hm | hm
  all_goals
    go_enter Tryz.func20, Tryz.ntmps20
    go_wp2
    exact bodyPost_ret (v := .tuple #[.agg #[.bool false, .string ⟨#[]⟩], .int .i64 2]) (by simp [results, Tryz.results20, go_sem, r1, r2]) rfl ⟨rfl, hb⟩

set_option maxRecDepth 100000 in
set_option maxHeartbeats 3200000 in
theorem ipow_any (v : Value) (z : Int) (k m : Nat) (w : World) (h : IsInt v z k) (hm : m ≤ 4096) (hl : m * nbits z.natAbs ≤ 65536) :
    Calls Tryz.prog 20 #[v, .int .i64 (m : Int)] w (GoodOut w (z ^ m)) := by
  have Hi : Hid (IsInt v z k) := h
  obtain ⟨na, sa, rfl, hz, hs, hk, hkk⟩ := h
  have hN : vB sa.data.toList = z.natAbs := by rw [← natAbs_zv na sa, hz]
  have HN := Lib.hid hN
  have Hp : Hid (z ^ m = if (na && (((m % 2 : Nat) : Int) == 1)) then -((z.natAbs ^ m : Nat) : Int) else ((z.natAbs ^ m : Nat) : Int)) := by
    rw [← hz]; exact (zv_pow na sa m).trans (by rw [hN, hz])
  have Hk : Hid (z.natAbs < 4294967296 ^ k) := hk
  have hroom := pow_room hm hl
  have Hkk : Hid (∃ kk, z.natAbs < 4294967296 ^ kk ∧ kk * m + 1 ≤ 10000000) := hroom
  have hmul : IntKind.i64.wrap ((m : Int) * (nbits z.natAbs : Int)) = ((m * nbits z.natAbs : Nat) : Int) := by rw [IntKind.wrap_i64, Int.natCast_mul]; rw [← Int.natCast_mul]; omega
  clear hz hk hN hroom
  generalize m * nbits z.natAbs = t at *
  obtain ⟨nb, hnb⟩ : ∃ nb, nb = nbits z.natAbs := ⟨_, rfl⟩
  have Hb : Hid (nbits z.natAbs = nb) := hnb.symm
  rw [← hnb] at hmul
  clear hnb
  have q1 : (m : Int).tmod 2 = ((m % 2 : Nat) : Int) := Int.tmod_eq_emod_of_nonneg (by omega)
  have q2 : IntKind.i64.wrap ((m % 2 : Nat) : Int) = ((m % 2 : Nat) : Int) := by rw [IntKind.wrap_i64]; omega
  generalize m % 2 = r at *
  have hr := ResCell.new (w.alloc (.cells #[.bool na, .string sa] 23)) 23
  rw [World.size_alloc] at hr
  have hb := below2 w (.cells #[.bool na, .string sa] 23) (.cells #[.bool false, .string ⟨#[]⟩] 23)
  have c1 : ((w.alloc (.cells #[.bool na, .string sa] 23)).alloc (.cells #[.bool false, .string ⟨#[]⟩] 23)).cell? ⟨w.heap.size, 0, none⟩ = some (.bool na) := by simp [go_sem]
  have c2 : ((w.alloc (.cells #[.bool na, .string sa] 23)).alloc (.cells #[.bool false, .string ⟨#[]⟩] 23)).cell? ⟨w.heap.size, 1, none⟩ = some (.string sa) := by simp [go_sem]
  go_enter Tryz.func20, Tryz.ntmps20
  go_wp2_with fail
  refine (ibits_any _ z k _ Hi.out).mono ?_
  rintro e W1 ⟨rfl, b1⟩
  rw [Hb.out]
  have y1 := cell_keep c1 b1
  have y2 := cell_keep c2 b1
  have HR := hr.keep b1
  clear c1 c2 hr
  have hb1 := below_more hb (Nat.le_refl _) b1
  cases na
  all_goals
    go_wp2_with fail
    refine (magnitude_any _ sa _ (by omega)).mono ?_
    rintro e W2 ⟨A, n, c, rfl, i2, b2⟩
    rw [HN.out] at i2
    have l2 : n ≤ 10000000 := by have := i2.len Hk.out; omega
    obtain ⟨kk, hkk1, hkk2⟩ := Hkk.out
    have Hkk3 : Hid (z.natAbs ^ m < 4294967296 ^ (kk * m + 1)) := pow_bound hkk1 (Nat.le_refl _)
    go_wp2_with fail
    refine (power_any A n c z.natAbs m kk _ i2 (by omega) hkk1 hkk2 l2).mono ?_
    rintro e W3 ⟨A3, n3, c3, rfl, i3, b3⟩
    have l3 : n3 ≤ 1000000000 := by have := i3.len Hkk3.out; omega
    go_wp2_with fail
    refine (signed_any _ A3 n3 c3 _ _ i3 l3).mono ?_
    rintro e W4 ⟨rfl, b4⟩
    first | rw [ivN_eq false _ (z ^ m) Hp.out] | rw [ivN_eq (((r : Nat) : Int) == 1) _ (z ^ m) Hp.out]
    obtain ⟨r1, r2, r3, r4⟩ := ((HR.keep b2).keep b3).keep b4
    go_wp2
    exact bodyPost_ret (v := .tuple #[.agg #[.bool (sg (z ^ m)), .string (mg (z ^ m))], .int .i64 0]) (by simp [results, Tryz.results20, go_sem, r1, r2]) rfl ⟨rfl, below_more2 (below_more (below_more hb1 (Nat.le_refl _) b2) (Nat.le_refl _) b3) (Nat.le_refl _) b4 (by show w.heap.size ≤ w.heap.size + 1; omega) (by show w.heap.size ≤ w.heap.size + 1; omega)⟩

/-- The power would be too great. -/
theorem ipow_limit (v : Value) (z : Int) (k m : Nat) (w : World) (h : IsInt v z k) (hm : m ≤ 4096) (hl : 65536 < m * nbits z.natAbs) :
    Calls Tryz.prog 20 #[v, .int .i64 (m : Int)] w (FailOut w 4) := by
  have Hi : Hid (IsInt v z k) := h
  obtain ⟨na, sa, rfl, hz, hs, hk, hkk⟩ := h
  have hnb := nbits_le hk
  have hmul : IntKind.i64.wrap ((m : Int) * (nbits z.natAbs : Int)) = ((m * nbits z.natAbs : Nat) : Int) := by
    have : m * nbits z.natAbs ≤ 4096 * nbits z.natAbs := Nat.mul_le_mul_right _ hm
    rw [IntKind.wrap_i64, ← Int.natCast_mul]; omega
  clear hz hk
  generalize m * nbits z.natAbs = t at *
  obtain ⟨nb, hnb⟩ : ∃ nb, nb = nbits z.natAbs := ⟨_, rfl⟩
  have Hb : Hid (nbits z.natAbs = nb) := hnb.symm
  rw [← hnb] at hmul
  clear hnb
  have hr := ResCell.new (w.alloc (.cells #[.bool na, .string sa] 23)) 23
  rw [World.size_alloc] at hr
  have hb := below2 w (.cells #[.bool na, .string sa] 23) (.cells #[.bool false, .string ⟨#[]⟩] 23)
  go_enter Tryz.func20, Tryz.ntmps20
  go_wp2_with fail
  refine (ibits_any _ z k _ Hi.out).mono ?_
  rintro e W1 ⟨rfl, b1⟩
  rw [Hb.out]
  obtain ⟨r1, r2, r3, r4⟩ := hr.keep b1
  go_wp2
  exact bodyPost_ret (v := .tuple #[.agg #[.bool false, .string ⟨#[]⟩], .int .i64 4]) (by simp [results, Tryz.results20, go_sem, r1, r2]) rfl ⟨rfl, below_more2 hb (Nat.le_refl _) b1 (by show w.heap.size ≤ w.heap.size + 1; omega) (by show w.heap.size ≤ w.heap.size + 1; omega)⟩
end Go.Proofs.YtfcdekkoeeaolaaGreatDoor

namespace Go.Proofs.YtfcdekkoeeaolaaGreatDoor
open Go.RowKit
set_option linter.unusedSimpArgs false
set_option linter.unusedVariables false

theorem nbits_half {d : Nat} (h : 0 < d) : nbits d = nbits (d / 2) + 1 := by
  unfold nbits
  rw [if_neg (by omega)]
  rcases Nat.lt_or_ge d 2 with h2 | h2
  · have : d = 1 := by omega
    subst this
    rfl
  · rw [if_neg (by omega), Nat.log2_def d, if_pos h2]
set_option maxRecDepth 100000 in
theorem rbits_any (g : Bool) (l : List UInt8) (z : Int) (w : World) (hl : l.length ≤ 1000000000) (hz : zv g ⟨l.toArray⟩ = z) :
    Calls Tryz.prog 75 #[.agg #[.bool g, .string ⟨l.toArray⟩]] w fun e w' => e = .returned (.int .i64 (nbits z.natAbs : Int)) ∧ Below w.heap.size w w' := by
  have Hz := Lib.hid hz
  clear hz
  have B0 := below1 w (.cells #[.bool g, .string ⟨l.toArray⟩] 23)
  obtain ⟨T, HT⟩ : ∃ T, Hid (Lib.trimLeftB l 0 = T) := ⟨_, Lib.hid rfl⟩
  have HN := Lib.hid (show z.natAbs = vB T by rw [← Hz.out, ← HT.out, vB_trim]; exact natAbs_zv g ⟨l.toArray⟩)
  have Hh := Lib.hid (show T.head? ≠ some 0 by rw [← HT.out]; exact head_trim l)
  have HL := Lib.hid (show T.length ≤ 1000000000 by
    rw [← HT.out, trim_bytes]
    have h1 := vB_lt l
    exact Nat.le_trans (bytesOf_len h1) hl)
  go_enter Tryz.func75, Tryz.ntmps75
  go_wp2_with fail
  refine (rtrim_any l _ hl).mono ?_
  rintro e W1 ⟨rfl, rfl⟩
  rw [HT.out]
  cases T with
  | nil =>
    go_wp2
    go_ret
    exact ⟨by rw [HN.out]; rfl, B0⟩
  | cons b t =>
    have hb : b ≠ 0 := by
      have := Hh.out
      simpa using this
    have hix := run_index_bytes (b :: t) 0 b rfl 0 (by simp)
    have hb' := b.toNat_lt
    have hb0 : 0 < b.toNat := by
      rcases Nat.eq_zero_or_pos b.toNat with h | h
      · exact absurd (UInt8.toNat_inj.1 (by simpa using h)) hb
      · exact h
    have ht : t.length + 1 ≤ 1000000000 := HL.out
    have Hn := Lib.hid (nbits_bytes b t hb)
    clear hb
    have w1 : IntKind.i64.wrap ((t.length : Int) + 1 - 1) = (t.length : Int) := by rw [IntWalk.i64_in _ (by omega)]; omega
    have w2 : IntKind.i64.wrap (8 * (t.length : Int)) = ((8 * t.length : Nat) : Int) := by rw [IntWalk.i64_in _ (by omega)]; omega
    go_wp2_with fail
    clear w1 w2
    go_loopg [4, 5] b.toNat (fun q s4 s5 wx => wx = w.alloc (.cells #[.bool g, .string ⟨l.toArray⟩] 23) ∧ ∃ c d : Nat, s4 = .int .i64 (c : Int) ∧ s5 = .int .i64 (d : Int) ∧ d ≤ q ∧ d < 256 ∧ c ≤ 8 * t.length + 8 ∧ Hid (c + nbits d = 8 * t.length + nbits b.toNat))
    case atStart => exact ⟨rfl, 8 * t.length, b.toNat, rfl, rfl, Nat.le_refl _, by omega, by omega, rfl⟩
    case round =>
      obtain ⟨rfl, c, d, rfl, rfl, hd, hd2, hc, HC⟩ := hrel
      rcases Nat.eq_zero_or_pos d with h0 | h0
      · subst h0
        have HR := Lib.hid (show (c : Int) = (nbits z.natAbs : Int) by
          have := HC.out
          rw [HN.out, Hn.out]
          have e0 : nbits 0 = 0 := rfl
          omega)
        go_wp2
        go_ret
        exact ⟨by rw [← HR.out]; rfl, B0⟩
      · obtain ⟨q, rfl⟩ : ∃ q, gk = q + 1 := ⟨gk - 1, by omega⟩
        have y1 : (d : Int).tdiv 2 = ((d / 2 : Nat) : Int) := by rw [Int.tdiv_eq_ediv_of_nonneg (by omega)]; omega
        have HC2 := Lib.hid (show c + 1 + nbits (d / 2) = 8 * t.length + nbits b.toNat by have := HC.out; have := nbits_half h0; omega)
        have Hq := Lib.hid (show d / 2 ≤ q ∧ d / 2 < 256 by omega)
        have Hc := Lib.hid (show c + 1 ≤ 8 * t.length + 8 by
          have := HC.out
          have h1 := nbits_half h0
          have h2 : nbits b.toNat ≤ 8 := by
            unfold nbits
            split
            · omega
            · rename_i h3
              have := (Nat.log2_lt h3).2 (show b.toNat < 2 ^ 8 by omega)
              omega
          omega)
        have y2 : IntKind.i64.wrap ((d / 2 : Nat) : Int) = ((d / 2 : Nat) : Int) := IntWalk.i64_in _ (by omega)
        clear HC hd
        go_wp2
        go_roundg q
        case measure => omega
        case rel => exact ⟨rfl, c + 1, d / 2, rfl, rfl, Hq.out.1, Hq.out.2, Hc.out, HC2⟩
end Go.Proofs.YtfcdekkoeeaolaaGreatDoor
