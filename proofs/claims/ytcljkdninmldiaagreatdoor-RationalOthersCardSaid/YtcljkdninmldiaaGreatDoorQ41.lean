/- What the reference implementation's Power returns where it succeeds. Condition: at most 10^6 bytes. What the reference implementation's Power of layer 2 returns. Condition: at most 900000 bytes. What the reference implementation's Print returns: the text of the value. Condition: at most 10^6 bytes. -/
import Derived.Test.YtcljkdninmldiaaGreatDoorQ40
import Derived.Test.YtcljkdninmldiaaGreatDoorQ35
import Derived.Test.YtcljkdninmldiaaGreatDoorQ34
import Derived.Test.YtcljkdninmldiaaGreatDoorQ10
import Derived.Test.YtcljkdninmldiaaGreatDoorQ36
import Derived.Test.YtcljkdninmldiaaGreatDoorQ04
import Derived.Maps.AppendAt
import Derived.OwnWalk
import Derived.Laws.IdiomStrings

namespace Go.Proofs.YtcljkdninmldiaaGreatDoor
open Go.RowKit
set_option linter.unusedSimpArgs false
set_option linter.unusedVariables false

/-- A variable whose integer has come up, or not yet. -/
def SlI (B : Nat) (x : Int) (F : Prop) (u : Value) (W : World) : Prop := ∃ p, u = .pointer (some ⟨p, 0, none⟩) ∧ B < p ∧ (∃ g s, Box2 W p g s) ∧ (F → Box2 W p (sg x) (mg x))
theorem SlI.keep {B : Nat} {x : Int} {F : Prop} {u : Value} {W W' : World} (h : SlI B x F u W) (hb : Below W.heap.size W W') : SlI B x F u W' := by
  obtain ⟨p, h1, h2, ⟨g, s, h3⟩, h4⟩ := h
  exact ⟨p, h1, h2, ⟨g, s, h3.keep hb⟩, fun f => (h4 f).keep hb⟩
theorem SlI.imp {B : Nat} {x : Int} {F F' : Prop} {u : Value} {W : World} (h : SlI B x F u W) (hf : F' → F) : SlI B x F' u W := by
  obtain ⟨p, h1, h2, h3, h4⟩ := h
  exact ⟨p, h1, h2, h3, fun f => h4 (hf f)⟩
theorem SlI.new {B : Nat} {x : Int} {F : Prop} {W : World} {t : TypeId} {g : Bool} {s : ByteArray} (hF : ¬F) (hb : B < W.heap.size) : SlI B x F (.pointer (some ⟨W.heap.size, 0, none⟩)) (W.alloc (.cells #[.bool g, .string s] t)) :=
  ⟨_, rfl, hb, ⟨g, s, Box2.new _ _ _ _⟩, fun f => absurd f hF⟩
theorem SlI.ne_new {B : Nat} {x : Int} {F : Prop} {u : Value} {W : World} (h : SlI B x F u W) : u ≠ .pointer (some ⟨W.heap.size, 0, none⟩) := by
  obtain ⟨p, rfl, _, ⟨g, s, h3⟩, _⟩ := h
  have := World.block_lt_of_cell? W ⟨p, 0, none⟩ h3.1
  dsimp only at this
  intro e
  injection e with e
  injection e with e
  injection e with e
  omega
theorem SlI.far {B q : Nat} {x : Int} {F : Prop} {u : Value} {W : World} (h : SlI B x F u W) (hne : u ≠ .pointer (some ⟨q, 0, none⟩)) (v1 v2 : Value) : SlI B x F u ((W.setCell ⟨q, 0, none⟩ v1).setCell ⟨q, 1, none⟩ v2) := by
  obtain ⟨p, rfl, h2, ⟨g, s, h3⟩, h4⟩ := h
  have hpq : p ≠ q := fun e => hne (by rw [e])
  exact ⟨p, rfl, h2, ⟨g, s, (h3.far hpq _).far hpq _⟩, fun f => ((h4 f).far hpq _).far hpq _⟩
theorem SlI.put {B p : Nat} {x : Int} {F F' : Prop} {W : World} (h : SlI B x F (.pointer (some ⟨p, 0, none⟩)) W) : SlI B x F' (.pointer (some ⟨p, 0, none⟩)) ((W.setCell ⟨p, 0, none⟩ (.bool (sg x))).setCell ⟨p, 1, none⟩ (.string (mg x))) := by
  obtain ⟨p', e, h2, ⟨g, s, h3⟩, _⟩ := h
  injection e with e
  injection e with e
  injection e with e
  subst e
  exact ⟨p, rfl, h2, ⟨_, _, h3.set⟩, fun _ => h3.set⟩
theorem Pw.far2 {w W : World} {p q : Nat} {g : Bool} {s : ByteArray} (h : Pw w W p g s) (hq : p + 1 < q) (v1 v2 : Value) : Pw w ((W.setCell ⟨q, 0, none⟩ v1).setCell ⟨q, 1, none⟩ v2) p g s := (h.far hq _).far hq _

set_option maxRecDepth 100000 in
set_option maxHeartbeats 12800000 in
theorem rpow01_any (g : Bool) (l : List UInt8) (z : Int) (m : Nat) (w : World) (hl1 : l.length ≤ 1000000) (hz : zv g ⟨l.toArray⟩ = z) (hm : m ≤ 4096) (hl : m * nbits z.natAbs ≤ 65536) :
    Calls Tryz.prog 22 #[.agg #[.bool g, .string ⟨l.toArray⟩], .int .i64 (m : Int)] w (GoodOut w (z ^ m)) := by
  obtain ⟨nb, Hnb⟩ : ∃ n : Nat, Hid (nbits z.natAbs = n) := ⟨_, Lib.hid rfl⟩
  have HL := Lib.hid hl
  have Hz := Lib.hid hz
  have Hl := Lib.hid hl1
  obtain ⟨R, HR⟩ : ∃ R, Hid (z ^ m = R) := ⟨_, Lib.hid rfl⟩
  rw [HR.out]
  rw [Hnb.out] at hl
  clear hz
  obtain ⟨P, hP⟩ : ∃ P : Nat, nb * m = P := ⟨_, rfl⟩
  have hPl : P ≤ 65536 := by rw [← hP, Nat.mul_comm]; exact hl
  have hwr : IntKind.i64.wrap ((nb : Int) * (m : Int)) = (P : Int) := by
    rw [show (nb : Int) * (m : Int) = ((nb * m : Nat) : Int) by rw [Int.natCast_mul], hP]
    exact IntWalk.i64_in _ (by omega)
  have hd1 : ¬ (m : Int) < 0 := by omega
  have hd2 : ¬ 4096 < (m : Int) := by omega
  have hd3 : ¬ 65536 < (P : Int) := by omega
  obtain ⟨W0, hW0⟩ : ∃ W0, W0 = (w.alloc (.cells #[.bool g, .string ⟨l.toArray⟩] 23)).alloc (.cells #[.bool false, .string ⟨#[]⟩] 23) := ⟨_, rfl⟩
  have K : Pw w W0 w.heap.size g ⟨l.toArray⟩ := by rw [hW0]; exact Pw.start w _ _ _
  have HW := Lib.hid hW0
  clear hW0 hl hP hl1
  go_enter Tryz.func22, Tryz.ntmps22
  go_upto_region 1 with fail
  rw [← HW.out]
  obtain ⟨⟨x1, x2, x3, x4⟩, ⟨r1, r2, r3, r4⟩, -⟩ := id K
  go_wp2_with fail
  refine (rbits_b (by have := Hl.out; omega) Hz.out (by rw [Hnb.out])).mono ?_
  rintro e X ⟨rfl, bX⟩
  have K := K.keep bX
  clear bX x1 x2 x3 x4 r1 r2 r3 r4 HW
  go_upto_region 5 with fail
  clear hwr hd1 hd2 hPl
  have KB := K.drew
  clear K
  have hmx : Tryz.prog.follows .mixedOrders = true := by kernel_rfl
  generalize decide (65536 < (P : Int)) = D0 at hd3 ⊢
  refine region_inv' (J := (fun L a wx => ∃ u6 u7 u21 u22 u23, a = { tmps := #[.agg #[.bool g, .string ⟨l.toArray⟩], .int .i64 (m : Int), .pointer (some ⟨w.heap.size, 0, none⟩), undef, .pointer (some ⟨w.heap.size + 1, 0, none⟩), .int .i64 0, u6, u7, .int .i64 (m : Int), .bool false, .bool false, .int .i64 (m : Int), .bool false, .bool false, undef, .agg #[.bool g, .string ⟨l.toArray⟩], .int .i64 (nb : Int), .int .i64 (m : Int), .int .i64 (P : Int), .bool D0, undef, u21, u22, u23, undef, undef, undef, undef, undef, undef, undef, undef, undef, undef, undef, undef, undef, undef, undef, undef], defers := [] } ∧ Pw w wx w.heap.size g ⟨l.toArray⟩ ∧
      (L.getD 0 false = true → u21 = .agg #[.bool (sg 1), .string (mg 1)]) ∧ (L.getD 1 false = true → u22 = .agg #[.bool g, .string ⟨l.toArray⟩]) ∧ (L.getD 2 false = true → u23 = .agg #[.bool (sg z), .string (mg z)]) ∧ (L.getD 3 false = true → SlI (w.heap.size + 1) 1 (L.getD 5 false = true) u6 wx) ∧ (L.getD 4 false = true → SlI (w.heap.size + 1) z (L.getD 6 false = true) u7 wx) ∧ (L.getD 3 false = true → L.getD 4 false = true → u6 ≠ u7) ∧ (L.getD 5 false = true → L.getD 3 false = true) ∧ (L.getD 6 false = true → L.getD 4 false = true))) hmx (by kernel_rfl) ?_ ?_ ?_
  · exact ⟨undef, undef, undef, undef, undef, rfl, KB, fun h => absurd h (by decide), fun h => absurd h (by decide), fun h => absurd h (by decide), fun h => absurd h (by decide), fun h => absurd h (by decide), fun h _ => absurd h (by decide), fun h => absurd h (by decide), fun h => absurd h (by decide)⟩
  · intro i hi L a wx hl hw ⟨u6, u7, u21, u22, u23, ha, lo, c0, c1, c2, s3, s4, d34, k5, k6⟩
    subst ha
    obtain ⟨⟨x1, x2, x3, x4⟩, -⟩ := id lo
    clear KB
    have hi' : i = 0 ∨ i = 1 ∨ i = 2 ∨ i = 3 ∨ i = 4 ∨ i = 5 ∨ i = 6 := by
      have : i < 7 := hi
      omega
    rcases hi' with rfl | rfl | rfl | rfl | rfl | rfl | rfl
    · refine stepJ (i := 0) rfl (fun K hK => ?_)
      go_simp
      go_at_call 50
      refine (rof01_any 1 _ (by omega) (by omega)).mono ?_
      rintro e W2 ⟨rfl, b2⟩
      go_wp2_with fail
      refine hK.out _ _ ⟨u6, u7, _, u22, u23, rfl, lo.keep b2, fun _ => rfl, fun h => c1 (fl (by decide) h), fun h => c2 (fl (by decide) h), fun h => ((s3 (fl (by decide) h)).imp (fl (by decide))).keep b2, fun h => ((s4 (fl (by decide) h)).imp (fl (by decide))).keep b2, fun h h' => d34 (fl (by decide) h) (fl (by decide) h'), fun h => getD_set_true (k5 (fl (by decide) h)), fun h => getD_set_true (k6 (fl (by decide) h))⟩
    · refine stepJ (i := 1) rfl (fun K hK => ?_)
      go_simp
      refine hK.out _ _ ⟨u6, u7, u21, _, u23, rfl, lo, fun h => c0 (fl (by decide) h), fun _ => rfl, fun h => c2 (fl (by decide) h), fun h => ((s3 (fl (by decide) h)).imp (fl (by decide))), fun h => ((s4 (fl (by decide) h)).imp (fl (by decide))), fun h h' => d34 (fl (by decide) h) (fl (by decide) h'), fun h => getD_set_true (k5 (fl (by decide) h)), fun h => getD_set_true (k6 (fl (by decide) h))⟩
    · refine stepJ (i := 2) rfl (fun K hK => ?_)
      obtain rfl := c1 (hw 1 (by kernel_rfl))
      go_simp
      go_at_call 51
      refine (rcan_eq (by have := Hl.out; omega) Hz.out).mono ?_
      rintro e W2 ⟨rfl, b2⟩
      go_wp2_with fail
      refine hK.out _ _ ⟨u6, u7, u21, _, _, rfl, lo.keep b2, fun h => c0 (fl (by decide) h), fun _ => rfl, fun _ => rfl, fun h => ((s3 (fl (by decide) h)).imp (fl (by decide))).keep b2, fun h => ((s4 (fl (by decide) h)).imp (fl (by decide))).keep b2, fun h h' => d34 (fl (by decide) h) (fl (by decide) h'), fun h => getD_set_true (k5 (fl (by decide) h)), fun h => getD_set_true (k6 (fl (by decide) h))⟩
    · refine stepJ (i := 3) rfl (fun K hK => ?_)
      go_simp
      refine hK.out _ _ ⟨_, u7, u21, u22, u23, rfl, lo.alloc _, fun h => c0 (fl (by decide) h), fun h => c1 (fl (by decide) h), fun h => c2 (fl (by decide) h), fun _ => SlI.new (fun h => absurd ((k5 (fl (by decide) h)).symm.trans hl) (by decide)) lo.2.2.1, fun h => ((s4 (fl (by decide) h)).imp (fl (by decide))).keep (below1 wx _), fun _ h' => Ne.symm (s4 (fl (by decide) h')).ne_new, fun h => getD_set_true (k5 (fl (by decide) h)), fun h => getD_set_true (k6 (fl (by decide) h))⟩
    · refine stepJ (i := 4) rfl (fun K hK => ?_)
      go_simp
      refine hK.out _ _ ⟨u6, _, u21, u22, u23, rfl, lo.alloc _, fun h => c0 (fl (by decide) h), fun h => c1 (fl (by decide) h), fun h => c2 (fl (by decide) h), fun h => ((s3 (fl (by decide) h)).imp (fl (by decide))).keep (below1 wx _), fun _ => SlI.new (fun h => absurd ((k6 (fl (by decide) h)).symm.trans hl) (by decide)) lo.2.2.1, fun h _ => (s3 (fl (by decide) h)).ne_new, fun h => getD_set_true (k5 (fl (by decide) h)), fun h => getD_set_true (k6 (fl (by decide) h))⟩
    · refine stepJ (i := 5) rfl (fun K hK => ?_)
      obtain rfl := c0 (hw 0 (by kernel_rfl))
      obtain ⟨pp, rfl, hpp, ⟨g9, t9, ⟨y1, y2, y3, y4⟩⟩, _⟩ := id (s3 (hw 3 (by kernel_rfl)))
      go_simp
      refine hK.out _ _ ⟨_, u7, _, u22, u23, rfl, lo.far2 hpp _ _, fun _ => rfl, fun h => c1 (fl (by decide) h), fun h => c2 (fl (by decide) h), fun _ => (s3 (hw 3 (by kernel_rfl))).put, fun h => ((s4 (fl (by decide) h)).imp (fl (by decide))).far (Ne.symm (d34 (hw 3 (by kernel_rfl)) (fl (by decide) h))) _ _, fun h h' => d34 (fl (by decide) h) (fl (by decide) h'), fun _ => getD_set_true (hw 3 (by kernel_rfl)), fun h => getD_set_true (k6 (fl (by decide) h))⟩
    · refine stepJ (i := 6) rfl (fun K hK => ?_)
      obtain rfl := c2 (hw 2 (by kernel_rfl))
      obtain ⟨pp, rfl, hpp, ⟨g9, t9, ⟨y1, y2, y3, y4⟩⟩, _⟩ := id (s4 (hw 4 (by kernel_rfl)))
      go_simp
      refine hK.out _ _ ⟨u6, _, u21, u22, _, rfl, lo.far2 hpp _ _, fun h => c0 (fl (by decide) h), fun h => c1 (fl (by decide) h), fun _ => rfl, fun h => ((s3 (fl (by decide) h)).imp (fl (by decide))).far (d34 (fl (by decide) h) (hw 4 (by kernel_rfl))) _ _, fun _ => (s4 (hw 4 (by kernel_rfl))).put, fun h h' => d34 (fl (by decide) h) (fl (by decide) h'), fun h => getD_set_true (k5 (fl (by decide) h)), fun _ => getD_set_true (hw 4 (by kernel_rfl))⟩
  · rintro L a wx hall ⟨u6, u7, u21, u22, u23, rfl, lo, c0, c1, c2, s3, s4, d34, k5, k6⟩
    obtain ⟨u, rfl, hu, -, U⟩ := s3 (hall 3 (by decide))
    obtain ⟨v, rfl, hv, -, V⟩ := s4 (hall 4 (by decide))
    have hn : u ≠ v := fun e => d34 (hall 3 (by decide)) (hall 4 (by decide)) (by rw [e])
    have T : Tw w wx w.heap.size u v g ⟨l.toArray⟩ 1 z := ⟨lo, ⟨U (hall 5 (by decide)), hu⟩, ⟨V (hall 6 (by decide)), hv⟩, hn⟩
    clear s3 s4 d34 k5 k6 c0 c1 c2 hall U V lo KB hn
    dsimp only
    go_wp2_with fail
    have T0 := T
    clear T
    go_loopg [1] m (fun q s1 wx => ∃ (n e f : Nat) (x y : Int), n = q ∧ s1 = .int .i64 (n : Int) ∧ Hid (e + f * n = m ∧ n ≤ m) ∧ Hid (n = 0 ∨ f ≤ m) ∧ Hid (z ^ e = x) ∧ Hid (z ^ f = y) ∧ Tw w wx w.heap.size u v g ⟨l.toArray⟩ x y)
    case atStart => exact ⟨m, 0, 1, 1, z, rfl, rfl, by show _ ∧ _; omega, by show _ ∨ _; omega, by show _ = _; rw [Int.pow_zero], by show _ = _; rw [Int.pow_one], T0⟩
    case round =>
      clear T0 hu hv
      obtain ⟨n, e, f, x, y, hq, rfl, HE, HF, Hx, Hy, T⟩ := hrel
      obtain ⟨⟨⟨x1, x2, x3, x4⟩, ⟨r1, r2, r3, r4⟩, hp, B, -⟩, ⟨⟨u1, u2, u3, u4⟩, hpu⟩, ⟨⟨v1, v2, v3, v4⟩, hpv⟩, huv⟩ := id T
      rcases Nat.eq_zero_or_pos n with h0 | h0
      · subst h0
        have HX := Lib.hid (show x = R by
          rw [← Hx.out, ← HR.out]
          have := HE.out.1
          rw [show e = m by omega])
        clear hq
        go_wp2_with fail
        exact bodyPost_ret (v := .tuple #[.agg #[.bool (sg x), .string (mg x)], .int .i64 0]) (by simp [results, Tryz.results22, go_sem, r1, r2, r3, r4]) rfl ⟨by rw [HX.out], (B.setCell (by dsimp only; omega) _).setCell (by dsimp only; omega) _⟩
      · obtain ⟨k, hk⟩ : ∃ k, n / 2 = k := ⟨_, rfl⟩
        have hnp : 0 < (n : Int) := by omega
        have hkq : k < gk := by omega
        have e2 : (n : Int).tdiv 2 = (k : Int) := by rw [Int.tdiv_eq_ediv_of_nonneg (by omega)]; omega
        have e3 : IntKind.i64.wrap (k : Int) = (k : Int) := IntWalk.i64_in _ (by have := HE.out.2; omega)
        have Lx := Lib.hid (pow_bytes HL.out (show e ≤ m by have := HE.out.1; omega) Hx.out)
        have Ly := Lib.hid (pow_bytes HL.out (show f ≤ m by rcases HF.out with h | h <;> omega) Hy.out)
        have hz1 : IntKind.i64.wrap 1 = 1 := by decide
        have hz0 : IntKind.i64.wrap 0 = 0 := by decide
        rcases (show n % 2 = 1 ∨ n % 2 = 0 by omega) with hodd | hev
        · have e1 : (n : Int).tmod 2 = 1 := by rw [Int.tmod_eq_emod_of_nonneg (by omega)]; omega
          obtain ⟨x2', Hx2⟩ : ∃ r, Hid (x * y = r) := ⟨_, Lib.hid rfl⟩
          have Hxp := Lib.hid (show z ^ (e + f) = x2' by rw [Int.pow_add, Hx.out, Hy.out, Hx2.out])
          rcases Nat.eq_zero_or_pos k with hk0 | hk0
          · have HE2 := Lib.hid (show e + f + f * k = m ∧ k ≤ m by
              have := HE.out.1
              have : n = 1 := by omega
              subst this
              subst hk0
              omega)
            subst hk0
            clear hk hodd hq
            go_wp2_with fail
            refine (rmul_mg Lx.out Ly.out Hx2.out).mono ?_
            rintro e9 W3 ⟨rfl, b3⟩
            have T := T.keep b3
            clear x1 x2 x3 x4 r1 r2 r3 r4 hp B u1 u2 u3 u4 hpu v1 v2 v3 v4 hpv huv
            obtain ⟨⟨⟨x1, x2, x3, x4⟩, ⟨r1, r2, r3, r4⟩, hp, B, -⟩, ⟨⟨u1, u2, u3, u4⟩, hpu⟩, ⟨⟨v1, v2, v3, v4⟩, hpv⟩, huv⟩ := id T
            have T2 := T.setu x2'
            go_upto_region 9 with fail
            generalize (W3.setCell ⟨u, 0, none⟩ (.bool (sg x2'))).setCell ⟨u, 1, none⟩ (.string (mg x2')) = W4 at *
            clear T b3
            go_wp2_with fail
            go_roundg 0
            case measure => omega
            case rel => exact ⟨0, e + f, f, x2', y, rfl, rfl, HE2, Or.inl rfl, Hxp, Hy, T2⟩
          · obtain ⟨y2', Hy2⟩ : ∃ r, Hid (y * y = r) := ⟨_, Lib.hid rfl⟩
            have Hyp := Lib.hid (show z ^ (f + f) = y2' by rw [Int.pow_add, Hy.out, Hy2.out])
            have HE2 := Lib.hid (show e + f + (f + f) * k = m ∧ k ≤ m by
              refine ⟨?_, by have := HE.out.2; omega⟩
              have h := HE.out.1
              have h2 : n = 2 * k + 1 := by omega
              rw [h2, Nat.mul_add, Nat.mul_one, ← Nat.mul_assoc, Nat.mul_two, Nat.add_mul] at h
              rw [Nat.add_mul]
              omega)
            have HF2 := Lib.hid (show k = 0 ∨ f + f ≤ m by
              right
              have h := HE2.out.1
              have h3 : (f + f) * 1 ≤ (f + f) * k := Nat.mul_le_mul_left _ hk0
              omega)
            have hkp : decide (0 < (k : Int)) = true := decide_eq_true (by omega)
            clear hk hodd hq
            go_wp2_with fail
            refine (rmul_mg Lx.out Ly.out Hx2.out).mono ?_
            rintro e9 W3 ⟨rfl, b3⟩
            have T := T.keep b3
            clear x1 x2 x3 x4 r1 r2 r3 r4 hp B u1 u2 u3 u4 hpu v1 v2 v3 v4 hpv huv
            obtain ⟨⟨⟨x1, x2, x3, x4⟩, ⟨r1, r2, r3, r4⟩, hp, B, -⟩, ⟨⟨u1, u2, u3, u4⟩, hpu⟩, ⟨⟨v1, v2, v3, v4⟩, hpv⟩, huv⟩ := id T
            have T2 := T.setu x2'
            go_upto_region 9 with fail
            generalize (W3.setCell ⟨u, 0, none⟩ (.bool (sg x2'))).setCell ⟨u, 1, none⟩ (.string (mg x2')) = W4 at *
            clear T b3
            have T := T2
            clear T2
            clear x1 x2 x3 x4 r1 r2 r3 r4 hp B u1 u2 u3 u4 hpu v1 v2 v3 v4 hpv huv
            obtain ⟨⟨⟨x1, x2, x3, x4⟩, ⟨r1, r2, r3, r4⟩, hp, B, -⟩, ⟨⟨u1, u2, u3, u4⟩, hpu⟩, ⟨⟨v1, v2, v3, v4⟩, hpv⟩, huv⟩ := id T
            go_wp2_with fail
            refine (rmul_mg Ly.out Ly.out Hy2.out).mono ?_
            rintro e9 W5 ⟨rfl, b3⟩
            have T := T.keep b3
            clear x1 x2 x3 x4 r1 r2 r3 r4 hp B u1 u2 u3 u4 hpu v1 v2 v3 v4 hpv huv
            obtain ⟨⟨⟨x1, x2, x3, x4⟩, ⟨r1, r2, r3, r4⟩, hp, B, -⟩, ⟨⟨u1, u2, u3, u4⟩, hpu⟩, ⟨⟨v1, v2, v3, v4⟩, hpv⟩, huv⟩ := id T
            go_wp2_with fail
            go_roundg k
            case measure => omega
            case rel => exact ⟨k, e + f, f + f, x2', y2', rfl, rfl, HE2, HF2, Hxp, Hyp, T.setv y2'⟩
        · have e1 : (n : Int).tmod 2 = 0 := by rw [Int.tmod_eq_emod_of_nonneg (by omega)]; omega
          have hk0 : 0 < k := by omega
          obtain ⟨y2', Hy2⟩ : ∃ r, Hid (y * y = r) := ⟨_, Lib.hid rfl⟩
          have Hyp := Lib.hid (show z ^ (f + f) = y2' by rw [Int.pow_add, Hy.out, Hy2.out])
          have HE2 := Lib.hid (show e + (f + f) * k = m ∧ k ≤ m by
            refine ⟨?_, by have := HE.out.2; omega⟩
            have h := HE.out.1
            have h2 : n = 2 * k := by omega
            rw [h2, ← Nat.mul_assoc, Nat.mul_two] at h
            exact h)
          have HF2 := Lib.hid (show k = 0 ∨ f + f ≤ m by
            right
            have h := HE2.out.1
            have h3 : (f + f) * 1 ≤ (f + f) * k := Nat.mul_le_mul_left _ hk0
            omega)
          have hkp : decide (0 < (k : Int)) = true := decide_eq_true (by omega)
          clear hk hev hq
          go_wp2_with fail
          refine (rmul_mg Ly.out Ly.out Hy2.out).mono ?_
          rintro e9 W5 ⟨rfl, b3⟩
          have T := T.keep b3
          clear x1 x2 x3 x4 r1 r2 r3 r4 hp B u1 u2 u3 u4 hpu v1 v2 v3 v4 hpv huv
          obtain ⟨⟨⟨x1, x2, x3, x4⟩, ⟨r1, r2, r3, r4⟩, hp, B, -⟩, ⟨⟨u1, u2, u3, u4⟩, hpu⟩, ⟨⟨v1, v2, v3, v4⟩, hpv⟩, huv⟩ := id T
          go_wp2_with fail
          go_roundg k
          case measure => omega
          case rel => exact ⟨k, e, f + f, x, y2', rfl, rfl, HE2, HF2, Hx, Hyp, T.setv y2'⟩
end Go.Proofs.YtcljkdninmldiaaGreatDoor

namespace Go.Proofs.YtcljkdninmldiaaGreatDoor
open Go.RowKit
set_option linter.unusedSimpArgs false
set_option linter.unusedVariables false

theorem ai_pow {v : Value} {z y : Int} {L m : Nat} {w : World} (h : AI v z L) (hL : L ≤ 1000000) (hm : m ≤ 4096) (hl : m * nbits z.natAbs ≤ 65536) (e : z ^ m = y) : Calls Tryz.prog 22 #[v, .int .i64 (m : Int)] w (GoodOut w y) := by
  obtain ⟨g, l, rfl, a, b⟩ := h
  exact e ▸ rpow01_any g l z m w (by omega) a hm hl
theorem ai_powr {v : Value} {z m : Int} {L : Nat} {w : World} (h : AI v z L) (hm : m < 0 ∨ 4096 < m) : Calls Tryz.prog 22 #[v, .int .i64 m] w (FailOut w 2) := by
  obtain ⟨g, l, rfl, a, b⟩ := h
  exact rpow_range g l m w hm
set_option maxRecDepth 100000 in
set_option maxHeartbeats 6400000 in
theorem rpw02_any (v : Value) (q r : Rat) (L m : Nat) (w : World) (h : AR v q L) (hL : L ≤ 900000) (hm : m ≤ 4096) (hb1 : m * nbits q.num.natAbs ≤ 65536) (hb2 : m * nbits q.den ≤ 65536) (hr : q ^ m = r) :
    Calls Tryz.prog 7 #[v, .int .i64 (m : Int)] w (RatGood w r) := by
  have H := Lib.hid h
  have Q := Lib.hid h.bd
  have H1 := Lib.hid hb1
  have H2 := Lib.hid (show m * nbits ((q.den : Int)).natAbs ≤ 65536 by rw [Int.natAbs_natCast]; exact hb2)
  obtain ⟨a, Ha⟩ : ∃ a : Int, Hid (q.num ^ m = a) := ⟨_, Lib.hid rfl⟩
  obtain ⟨b, Hb⟩ : ∃ b : Int, Hid ((q.den : Int) ^ m = b) := ⟨_, Lib.hid rfl⟩
  have HR := Lib.hid (show ratV r = .agg #[.bool (sg a), .string (mg a), .bool (sg b), .string (mg b)] by
    subst hr
    unfold ratV
    rw [pw_num, pw_den, Ha.out, Hb.out])
  obtain ⟨g1, s1, g2, s2, _, _, rfl, -, -, -⟩ := h
  clear hr hb1 hb2
  obtain ⟨W0, hW0⟩ : ∃ W0, W0 = (w.alloc (.cells #[.bool g1, .string s1, .bool g2, .string s2] 25)).alloc (.cells #[.bool false, .string ⟨#[]⟩, .bool false, .string ⟨#[]⟩] 25) := ⟨_, rfl⟩
  have K : Cw w W0 w.heap.size g1 g2 s1 s2 := by rw [hW0]; exact Cw.start w _ _ _ _
  have HW := Lib.hid hW0
  clear hW0
  go_enter Tryz.func7, Tryz.ntmps7
  go_upto_region 1 with fail
  rw [← HW.out]
  obtain ⟨⟨⟨x1, x2, x3, x4⟩, x5, x6, x7, x8⟩, -⟩ := id K
  go_wp2_with fail
  refine (rcan02_any _ q L _ H.out (by omega)).mono ?_
  rintro e X ⟨rfl, bX⟩
  unfold ratV
  have K := K.keep bX
  have K2 := K.put (sg q.num) (sg (q.den : Int)) (mg q.num) (mg (q.den : Int))
  clear bX x1 x2 x3 x4 x5 x6 x7 x8 HW
  obtain ⟨⟨⟨x1, x2, x3, x4⟩, x5, x6, x7, x8⟩, -⟩ := id K
  go_upto_region 2 with fail
  generalize (((X.setCell ⟨w.heap.size, 0, none⟩ (.bool (sg q.num))).setCell ⟨w.heap.size, 1, none⟩ (.string (mg q.num))).setCell ⟨w.heap.size, 2, none⟩ (.bool (sg (q.den : Int)))).setCell ⟨w.heap.size, 3, none⟩ (.string (mg (q.den : Int))) = X2 at *
  clear K x1 x2 x3 x4 x5 x6 x7 x8
  obtain ⟨⟨⟨x1, x2, x3, x4⟩, -⟩, -⟩ := id K2
  go_wp2_with fail
  refine (ai_pow (ar_num Q.out) (by omega) hm H1.out Ha.out).mono ?_
  rintro e X3 ⟨rfl, b3⟩
  have K := K2.keep b3
  have U := Box2.new X3 23 (sg a) (mg a)
  have hu := K.2.2.1
  have K := K.keep (below1 X3 (.cells #[.bool (sg a), .string (mg a)] 23))
  clear b3 x1 x2 x3 x4 K2
  go_upto_region 5 with fail
  generalize X3.alloc (.cells #[.bool (sg a), .string (mg a)] 23) = X4 at *
  generalize X3.heap.size = u at *
  obtain ⟨⟨⟨x1, x2, x3, x4⟩, -⟩, -⟩ := id K
  go_wp2_with fail
  refine (ai_pow (ar_den Q.out) (by omega) hm H2.out Hb.out).mono ?_
  rintro e X5 ⟨rfl, b5⟩
  have K := K.keep b5
  have U := U.keep b5
  have V := Box2.new X5 23 (sg b) (mg b)
  have hv : u < X5.heap.size := World.block_lt_of_cell? X5 ⟨u, 0, none⟩ U.1
  have U := U.keep (below1 X5 (.cells #[.bool (sg b), .string (mg b)] 23))
  have hw := K.2.2.1
  have K := K.keep (below1 X5 (.cells #[.bool (sg b), .string (mg b)] 23))
  clear b5 x1 x2 x3 x4
  go_upto_region 8 with fail
  generalize X5.alloc (.cells #[.bool (sg b), .string (mg b)] 23) = X6 at *
  generalize X5.heap.size = v at *
  obtain ⟨u1, u2, -⟩ := id U
  obtain ⟨v1, v2, -⟩ := id V
  obtain ⟨-, ⟨⟨r1, r2, r3, r4⟩, r5, r6, r7, r8⟩, -, B, -⟩ := id K
  go_wp2_with fail
  exact bodyPost_ret (v := .tuple #[.agg #[.bool (sg a), .string (mg a), .bool (sg b), .string (mg b)], .int .i64 0]) (by simp [results, Tryz.results7, go_sem, r1, r2, r3, r4, r5, r6, r7, r8]) rfl ⟨by rw [HR.out], below4s B _ (by omega) _ _ _ _⟩
set_option maxRecDepth 100000 in
set_option maxHeartbeats 6400000 in
theorem rpw02_range (v : Value) (q : Rat) (L : Nat) (m : Int) (w : World) (h : AR v q L) (hL : L ≤ 900000) (hm : m < 0 ∨ 4096 < m) :
    Calls Tryz.prog 7 #[v, .int .i64 m] w (RatFail w 2) := by
  have H := Lib.hid h
  have Q := Lib.hid h.bd
  have Hm := Lib.hid hm
  obtain ⟨g1, s1, g2, s2, _, _, rfl, -, -, -⟩ := h
  clear hm
  obtain ⟨W0, hW0⟩ : ∃ W0, W0 = (w.alloc (.cells #[.bool g1, .string s1, .bool g2, .string s2] 25)).alloc (.cells #[.bool false, .string ⟨#[]⟩, .bool false, .string ⟨#[]⟩] 25) := ⟨_, rfl⟩
  have K : Cw w W0 w.heap.size g1 g2 s1 s2 := by rw [hW0]; exact Cw.start w _ _ _ _
  have HW := Lib.hid hW0
  clear hW0
  go_enter Tryz.func7, Tryz.ntmps7
  go_upto_region 1 with fail
  rw [← HW.out]
  obtain ⟨⟨⟨x1, x2, x3, x4⟩, x5, x6, x7, x8⟩, -⟩ := id K
  go_wp2_with fail
  refine (rcan02_any _ q L _ H.out (by omega)).mono ?_
  rintro e X ⟨rfl, bX⟩
  unfold ratV
  have K := K.keep bX
  have K2 := K.put (sg q.num) (sg (q.den : Int)) (mg q.num) (mg (q.den : Int))
  clear bX x1 x2 x3 x4 x5 x6 x7 x8 HW
  obtain ⟨⟨⟨x1, x2, x3, x4⟩, x5, x6, x7, x8⟩, -⟩ := id K
  go_upto_region 2 with fail
  generalize (((X.setCell ⟨w.heap.size, 0, none⟩ (.bool (sg q.num))).setCell ⟨w.heap.size, 1, none⟩ (.string (mg q.num))).setCell ⟨w.heap.size, 2, none⟩ (.bool (sg (q.den : Int)))).setCell ⟨w.heap.size, 3, none⟩ (.string (mg (q.den : Int))) = X2 at *
  clear K x1 x2 x3 x4 x5 x6 x7 x8
  obtain ⟨⟨⟨x1, x2, x3, x4⟩, -⟩, -⟩ := id K2
  go_wp2_with fail
  refine (ai_powr (ar_num Q.out) Hm.out).mono ?_
  rintro e X3 ⟨rfl, b3⟩
  have K := K2.keep b3
  have hu := K.2.2.1
  have K := K.keep (below1 X3 (.cells #[.bool false, .string ⟨#[]⟩] 23))
  clear b3 x1 x2 x3 x4 K2
  go_upto_region 4 with fail
  generalize X3.alloc (.cells #[.bool false, .string ⟨#[]⟩] 23) = X4 at *
  obtain ⟨-, ⟨⟨r1, r2, r3, r4⟩, r5, r6, r7, r8⟩, -, B, -⟩ := id K
  go_wp2_with fail
  exact bodyPost_ret (v := .tuple #[.agg #[.bool false, .string ⟨#[]⟩, .bool false, .string ⟨#[]⟩], .int .i64 2]) (by simp [results, Tryz.results7, go_sem, r1, r2, r3, r4, r5, r6, r7, r8]) rfl ⟨rfl, below4s B _ (by omega) _ _ _ _⟩
end Go.Proofs.YtcljkdninmldiaaGreatDoor

namespace Go.Proofs.YtcljkdninmldiaaGreatDoor
open Go.RowKit
set_option linter.unusedSimpArgs false
set_option linter.unusedVariables false

/-- The bytes of a list, and zeros behind them. -/
def brow (Q : List UInt8) : Nat → Value := fun p => .int .u8 (((Q.getD p 0).toNat : Nat) : Int)
theorem brow_at {Q : List UInt8} {k : Nat} {c : UInt8} (h : Q[k]? = some c) : brow Q k = .int .u8 (c.toNat : Int) := by
  unfold brow; rw [List.getD_eq_getElem?_getD, h]; rfl
theorem getD_app_lt {Q R : List UInt8} {j : Nat} (h : j < Q.length) : (Q ++ R).getD j 0 = Q.getD j 0 := by
  rw [List.getD_eq_getElem?_getD, List.getD_eq_getElem?_getD, List.getElem?_append_left h]
theorem getD_app_ge {Q R : List UInt8} {j : Nat} (h : Q.length ≤ j) : (Q ++ R).getD j 0 = R.getD (j - Q.length) 0 := by
  rw [List.getD_eq_getElem?_getD, List.getD_eq_getElem?_getD, List.getElem?_append_right h]
/-- A byte takes the place of the first one that has not been replaced yet. -/
theorem brow_set {w : World} {b n k : Nat} {t : TypeId} {Q L : List UInt8} (h : w.rowIs b t n (brow (Q ++ L.drop k))) (hk : Q.length = k) (hL : k < L.length) (c : UInt8) {x : Int} (hx : x = (c.toNat : Int)) :
    (w.setCell ⟨b, k, none⟩ (.int .u8 x)).rowIs b t n (brow ((Q ++ [c]) ++ L.drop (k + 1))) :=
  (h.set k _).congr fun j _ => by
    subst hx hk
    unfold brow
    by_cases e : j = Q.length
    · subst e
      rw [if_pos rfl, getD_app_lt (by simp), getD_app_ge (Nat.le_refl _), Nat.sub_self]; rfl
    · rw [if_neg e]
      rcases Nat.lt_or_ge j Q.length with h1 | h1
      · rw [getD_app_lt h1, getD_app_lt (by simp; omega), getD_app_lt h1]
      · rw [getD_app_ge h1, getD_app_ge (by simp; omega)]
        rw [List.getD_eq_getElem?_getD, List.getD_eq_getElem?_getD, List.getElem?_drop, List.getElem?_drop]
        have e1 : Q.length + (j - Q.length) = j := by omega
        have e2 : Q.length + 1 + (j - (Q ++ [c]).length) = j := by rw [List.length_append, List.length_singleton]; omega
        rw [e1, e2]
/-- One step of the division by 10. -/
theorem dstep10 {L Q : List UInt8} {k r : Nat} {c : UInt8} (h : vB (L.take k) = 10 * vB Q + r) (hc : L[k]? = some c) (hr : r < 10) :
    (r * 256 + c.toNat) / 10 < 256 ∧ (r * 256 + c.toNat) % 10 < 10 ∧ vB (L.take (k + 1)) = 10 * vB (Q ++ [UInt8.ofNat ((r * 256 + c.toNat) / 10)]) + (r * 256 + c.toNat) % 10 := by
  have hc8 := c.toNat_lt
  have h1 : (r * 256 + c.toNat) / 10 < 256 := by omega
  refine ⟨h1, by omega, ?_⟩
  rw [vB_take_succ hc, vB_snoc, toNat_of8 h1, h]
  omega
theorem zeros_take {L : List UInt8} {k : Nat} (h : vB (L.take k) = 0) : vB (L.take k) = 10 * vB (L.take k) + 0 := by rw [h]
/-- The digits in the order in which they come out, the least one first. -/
def dlow : List UInt8 → Nat
  | [] => 0
  | c :: D => (c.toNat - 48) + 10 * dlow D
theorem dlow_snoc (D : List UInt8) (c : UInt8) : dlow (D ++ [c]) = dlow D + (c.toNat - 48) * 10 ^ D.length := by
  induction D with
  | nil => simp [dlow]
  | cons b D ih =>
    have h : 10 * ((c.toNat - 48) * 10 ^ D.length) = (c.toNat - 48) * (10 ^ D.length * 10) := by rw [Nat.mul_comm (10 ^ D.length), Nat.mul_left_comm]
    rw [List.cons_append, dlow, dlow, ih, List.length_cons, Nat.pow_succ, Nat.mul_add, h]
    omega
theorem dv_rev (D : List UInt8) : dv D.reverse = dlow D := by
  induction D with
  | nil => rfl
  | cons c D ih => rw [List.reverse_cons, dv_snoc, ih, dlow]; omega
/-- Bytes in a block whose end nobody asks for. -/
def BRow (W : World) (b n : Nat) (f : Nat → Value) : Prop := b < W.heap.size ∧ ∀ i, i < n → W.cell? ⟨b, i, none⟩ = some (f i) ∧ W.frozen? ⟨b, i, none⟩ = false
theorem BRow.congr {W : World} {b n : Nat} {f g : Nat → Value} (h : BRow W b n f) (e : ∀ i, i < n → f i = g i) : BRow W b n g := ⟨h.1, fun i hi => by rw [← e i hi]; exact h.2 i hi⟩
theorem BRow.set {W : World} {b n : Nat} {f : Nat → Value} (h : BRow W b n f) {k : Nat} (hk : k < n) (v : Value) : BRow (W.setCell ⟨b, k, none⟩ v) b n (fun j => if j = k then v else f j) := by
  refine ⟨by rw [World.size_setCell]; exact h.1, fun i hi => ?_⟩
  obtain ⟨h1, h2⟩ := h.2 i hi
  by_cases e : i = k
  · subst e
    exact ⟨by simp [go_sem, h1], by simp [go_sem, h2]⟩
  · exact ⟨by simp [go_sem, h1, e], by simp [go_sem, h2]⟩
theorem BRow.keep {W W1 : World} {b n : Nat} {f : Nat → Value} (h : BRow W b n f) (hb : Below W.heap.size W W1) : BRow W1 b n f := ⟨Nat.lt_of_lt_of_le h.1 hb.size, fun i hi => ⟨cell_keep (h.2 i hi).1 hb, (hb.frozen (p := ⟨b, i, none⟩) h.1).trans (h.2 i hi).2⟩⟩
theorem BRow.drew {W : World} {b n : Nat} {f : Nat → Value} (h : BRow W b n f) : BRow W.drew b n f := h
theorem BRow.made (W : World) (l : List UInt8) (cap : Nat) (e : TypeId) (r : Nat × Nat) (hr : l.length ≤ r.1) : BRow (W.alloc (.cells (bytesRow ⟨l.toArray⟩ cap) e r)) W.heap.size l.length (brow l) := by
  refine ⟨by simp, fun i hi => ?_⟩
  have hb : (W.alloc (.cells (bytesRow ⟨l.toArray⟩ cap) e r)).heap[W.heap.size]? = some (.cells (bytesRow ⟨l.toArray⟩ cap) e r) := by
    show (W.heap.push _)[W.heap.size]? = _
    simp
  constructor
  · have hc : (bytesRow ⟨l.toArray⟩ cap)[i]? = some (brow l i) := by
      unfold bytesRow
      rw [Array.getElem?_append_left (by simpa using hi)]
      rw [brow_at (List.getElem?_eq_getElem hi)]
      simp [hi]
    simp only [World.cell?, hb, hc]
    rw [if_neg (by simp)]
  · simp only [World.frozen?, hb]
    simp
    omega
theorem grown_set (W : World) (b i : Nat) (v : Value) : W.grownBy (W.setCell ⟨b, i, none⟩ v) (some b) :=
  ⟨rfl, rfl, rfl, by rw [World.size_setCell]; exact Nat.le_refl _, fun k hk hne => by
    have hb : b ≠ k := fun e => hne (by rw [e])
    simp [World.setCell, Array.getElem?_modify, hb]⟩
theorem BRow.grown {W W1 : World} {b n : Nat} {f : Nat → Value} {row : Option Nat} (h : BRow W b n f) (hg : W.grownBy W1 row) (hne : some b ≠ row) : BRow W1 b n f :=
  ⟨Nat.lt_of_lt_of_le h.1 hg.size, fun i hi => ⟨(World.cell?_of_block (a := ⟨b, i, none⟩) (hg.block b h.1 hne)).trans (h.2 i hi).1, (World.frozen?_of_block (a := ⟨b, i, none⟩) (hg.block b h.1 hne)).trans (h.2 i hi).2⟩⟩
theorem cell_grown {W W1 : World} {p : Addr} {v : Value} {row : Option Nat} (h : W.cell? p = some v) (hg : W.grownBy W1 row) (hne : some p.block ≠ row) : W1.cell? p = some v :=
  (World.cell?_of_block (hg.block _ (World.block_lt_of_cell? _ _ h) hne)).trans h
def bvs (D : List UInt8) : List Value := D.map fun c => .int .u8 (c.toNat : Int)
theorem bvs_len (D : List UInt8) : (bvs D).length = D.length := List.length_map _
theorem bvs_snoc (D : List UInt8) (c : UInt8) : bvs (D ++ [c]) = bvs D ++ [.int .u8 (c.toNat : Int)] := by unfold bvs; rw [List.map_append]; rfl
/-- A slice that owns bytes: its row, cell by cell. -/
theorem own_row {W : World} {base : Nat} {e : TypeId} {v : Value} {D : List UInt8} (h : W.ownsRow base e 1 v D.length (bvs D)) (hD : D ≠ []) :
    ∃ g cap, v = .slice (some ⟨g, 0, none⟩) D.length cap ∧ base ≤ g ∧ BRow W g D.length (brow D) := by
  rcases h.2 with ⟨_, h0⟩ | ⟨g, cap, cur, rfl, hb, hg, h1, h2, h3, h4⟩
  · exact absurd (List.eq_nil_of_length_eq_zero h0) hD
  · refine ⟨g, cap, rfl, hb, (Array.getElem?_eq_some_iff.1 hg).1, fun i hi => ⟨?_, ?_⟩⟩
    · have hc : (bvs D)[i]? = some (brow D i) := by
        rw [brow_at (List.getElem?_eq_getElem hi)]
        unfold bvs
        rw [List.getElem?_map, List.getElem?_eq_getElem hi]; rfl
      have := h.cells (g := g) rfl i _ hc
      rwa [show (⟨g, 0, none⟩ : Addr).add i = ⟨g, i, none⟩ by unfold Addr.add; split <;> simp_all] at this
    · simp only [World.frozen?, hg]
      simp
/-- The row, turned round as far as i from both ends. -/
def rrow (D : List UInt8) (i : Nat) : Nat → Value := fun p => if p < i ∨ D.length < p + i + 1 then brow D (D.length - 1 - p) else brow D p
theorem rrow_zero (D : List UInt8) {p : Nat} (hp : p < D.length) : brow D p = rrow D 0 p := by
  unfold rrow; rw [if_neg (by omega)]
theorem rrow_step {W : World} {g i k : Nat} {D : List UInt8} (h : BRow W g D.length (rrow D i)) (hk : i + k + 1 = D.length) (hik : i < k) :
    BRow ((W.setCell ⟨g, i, none⟩ (brow D k)).setCell ⟨g, k, none⟩ (brow D i)) g D.length (rrow D (i + 1)) :=
  ((h.set (k := i) (by omega) (brow D k)).set (k := k) (by omega) (brow D i)).congr fun j hj => by
    unfold rrow
    by_cases e1 : j = k
    · rw [if_pos e1, if_pos (by omega)]; congr 1; omega
    · rw [if_neg e1]
      by_cases e2 : j = i
      · rw [if_pos e2, if_pos (by omega)]; congr 1; omega
      · rw [if_neg e2]
        by_cases e3 : j < i ∨ D.length < j + i + 1
        · rw [if_pos e3, if_pos (by omega)]
        · rw [if_neg e3, if_neg (by omega)]
theorem rrow_end {D : List UInt8} {i k : Nat} (hk : i + k + 1 = D.length) (hik : ¬ i < k) {p : Nat} (hp : p < D.length) : rrow D i p = brow D.reverse p := by
  have hr : brow D.reverse p = brow D (D.length - 1 - p) := by
    unfold brow
    rw [List.getD_eq_getElem?_getD, List.getD_eq_getElem?_getD, List.getElem?_reverse hp]
  rw [hr]
  unfold rrow
  split
  · rfl
  · congr 1; omega
theorem brow_cells {W : World} {g n : Nat} {T : List UInt8} (h : BRow W g n (brow T)) (hT : T.length = n) (i : Nat) (u : UInt8) (hu : T[i]? = some u) : W.cell? ⟨g, 0 + i, none⟩ = some (.int .u8 (u.toNat : Int)) := by
  have hi : i < T.length := by
    rcases Nat.lt_or_ge i T.length with h1 | h1
    · exact h1
    · rw [List.getElem?_eq_none h1] at hu; cases hu
  rw [Nat.zero_add, (h.2 i (by omega)).1, brow_at hu]
theorem zero_more {Q : List UInt8} {a : Nat} (h : vB (Q.take a) = 0) (hc : Q[a]? = some 0) : vB (Q.take (a + 1)) = 0 := by rw [vB_take_succ hc, h]; rfl
theorem vB_pos {Q : List UInt8} {a : Nat} {c : UInt8} (hc : Q[a]? = some c) (h0 : c ≠ 0) : vB Q ≠ 0 := by
  have h1 := vB_take_le Q (a + 1)
  rw [vB_take_succ hc] at h1
  have : c.toNat ≠ 0 := fun e => h0 (UInt8.toNat_inj.1 (by simpa using e))
  omega
/-- The text of a number, out of its digits. -/
theorem text_of {D' : List UInt8} {c : UInt8} {z : Int} {N : Nat} (ha : (D' ++ [c]).all digB = true) (hc : c.toNat ≠ 48) (hN : dlow (D' ++ [c]) = N) :
    ((N : Int) = z → prZ z = (D' ++ [c]).reverse) ∧ (-(N : Int) = z → prZ z = (D' ++ [c] ++ [45]).reverse) := by
  have hall : ((D' ++ [c]).reverse).all digB = true := by rw [List.all_reverse]; exact ha
  have hdec : isDec (D' ++ [c]).reverse = true := by
    rw [List.reverse_append] at hall ⊢
    show isDec (c :: D'.reverse) = true
    rw [isDec_cons]
    have h9 : (c :: D'.reverse).all digB = true := hall
    rw [h9]
    simp [hc]
  have hne : (D' ++ [c]).reverse ≠ [48] := by
    rw [List.reverse_append]
    intro e
    have : c :: D'.reverse = [48] := e
    injection this with e1 e2
    exact hc (by rw [e1]; rfl)
  have hdv : dv (D' ++ [c]).reverse = N := by rw [dv_rev, hN]
  constructor
  · intro e
    exact print_pz (by rw [pz_plus hdec, hdv, e])
  · intro e
    have hrv : (D' ++ [c] ++ [45]).reverse = 45 :: (D' ++ [c]).reverse := by rw [List.reverse_append]; rfl
    rw [hrv]
    exact print_pz (by show pz (45 :: (D' ++ [c]).reverse) = _; rw [pz_minus hdec hne, hdv, e])
theorem dg_all {D : List UInt8} {r : Nat} (h : D.all digB = true) (hr : r < 10) : (D ++ [UInt8.ofNat (48 + r)]).all digB = true := by
  rw [List.all_append, h]
  have := toNat_of8 (n := 48 + r) (by omega)
  simp [digB, this]
  omega
theorem u8w1 (t : Nat) : IntKind.u8.wrap (t : Int) = ((t % 256 : Nat) : Int) := by simp [IntKind.wrap, IntKind.bits, IntKind.signed]
theorem brow_set2 {w : World} {b n k : Nat} {Q L : List UInt8} (h : BRow w b n (brow (Q ++ L.drop k))) (hk : Q.length = k) (hL : k < L.length) (hn : k < n) (c : UInt8) {x : Int} (hx : x = (c.toNat : Int)) :
    BRow (w.setCell ⟨b, k, none⟩ (.int .u8 x)) b n (brow ((Q ++ [c]) ++ L.drop (k + 1))) :=
  (h.set hn _).congr fun j _ => by
    subst hx hk
    unfold brow
    by_cases e : j = Q.length
    · subst e
      rw [if_pos rfl, getD_app_lt (by simp), getD_app_ge (Nat.le_refl _), Nat.sub_self]; rfl
    · rw [if_neg e]
      rcases Nat.lt_or_ge j Q.length with h1 | h1
      · rw [getD_app_lt h1, getD_app_lt (by simp; omega), getD_app_lt h1]
      · rw [getD_app_ge h1, getD_app_ge (by simp; omega)]
        rw [List.getD_eq_getElem?_getD, List.getD_eq_getElem?_getD, List.getElem?_drop, List.getElem?_drop]
        have e1 : Q.length + (j - Q.length) = j := by omega
        have e2 : Q.length + 1 + (j - (Q ++ [c]).length) = j := by rw [List.length_append, List.length_singleton]; omega
        rw [e1, e2]
theorem own_ne {W : World} {b : Nat} {e : TypeId} {v : Value} {n : Nat} {xs : List Value} (h : W.ownsRow (b + 1) e 1 v n xs) : v.ownBlock = none ∨ v.ownBlock ≠ some b := by
  cases hv : v.ownBlock with
  | none => exact Or.inl rfl
  | some k =>
    have := (h.lt k hv).1
    exact Or.inr (fun e => by injection e with e; omega)
theorem sg_abs1 (z : Int) : (if sg z then -(z.natAbs : Int) else (z.natAbs : Int)) = z := by
  unfold sg
  by_cases h : z < 0
  · rw [decide_eq_true h]; simp; omega
  · rw [decide_eq_false h]; simp; omega
theorem rcan_p1 {g : Bool} {l : List UInt8} {z : Int} {w : World} (hl : l.length ≤ 1000000000) (hz : zv g ⟨l.toArray⟩ = z) :
    Calls Tryz.prog 51 #[.agg #[.bool g, .string ⟨l.toArray⟩]] w (IntOut w z) := hz ▸ rcanonical_any g l w hl
theorem bytesRow_size (l : List UInt8) (cap : Nat) : l.length ≤ (bytesRow ⟨l.toArray⟩ cap).size := by
  unfold bytesRow
  rw [Array.size_append]
  simp
set_option maxRecDepth 100000 in
set_option maxHeartbeats 6400000 in
theorem rprint01_any (g : Bool) (l : List UInt8) (z : Int) (w : World) (hl : l.length ≤ 1000000) (hz : zv g ⟨l.toArray⟩ = z) :
    Calls Tryz.prog 40 #[.agg #[.bool g, .string ⟨l.toArray⟩]] w fun e w' => e = .returned (.string ⟨(prZ z).toArray⟩) ∧ Below w.heap.size w w' := by
  have Hz := Lib.hid hz
  have hL9 : (bytesOf z.natAbs).length ≤ 1000000 := by
    rw [← hz, natAbs_zv, ← trim_bytes]
    exact Nat.le_trans (stz_len _) hl
  clear hz
  have B0 := below1 w (.cells #[.bool g, .string ⟨l.toArray⟩] 23)
  have x1 : (w.alloc (.cells #[.bool g, .string ⟨l.toArray⟩] 23)).cell? ⟨w.heap.size, 0, none⟩ = some (.bool g) := by simp [go_sem]
  have x2 : (w.alloc (.cells #[.bool g, .string ⟨l.toArray⟩] 23)).cell? ⟨w.heap.size, 1, none⟩ = some (.string ⟨l.toArray⟩) := by simp [go_sem]
  have x3 : (w.alloc (.cells #[.bool g, .string ⟨l.toArray⟩] 23)).frozen? ⟨w.heap.size, 0, none⟩ = false := by simp [go_sem]
  have x4 : (w.alloc (.cells #[.bool g, .string ⟨l.toArray⟩] 23)).frozen? ⟨w.heap.size, 1, none⟩ = false := by simp [go_sem]
  go_enter Tryz.func40, Tryz.ntmps40
  go_wp2_with fail
  refine (rcan_p1 (by omega) Hz.out).mono ?_
  rintro e W1 ⟨rfl, b1⟩
  have y1 := cell_keep x1 b1
  have y2 := cell_keep x2 b1
  have y3 := frozen_keep x1 x3 b1
  have y4 := frozen_keep x2 x4 b1
  have B1 := below_more B0 (Nat.le_refl _) b1
  clear x1 x2 x3 x4 B0 b1
  have HB := Lib.hid (fun (u v : Value) => (B1.setCell (p := ⟨w.heap.size, 0, none⟩) (Nat.le_refl _) u).setCell (p := ⟨w.heap.size, 1, none⟩) (Nat.le_refl _) v)
  have hsz : w.heap.size < W1.heap.size := World.block_lt_of_cell? W1 ⟨w.heap.size, 0, none⟩ y1
  by_cases hz0 : z = 0
  · subst hz0
    have h1 : sg 0 = false := by decide
    have h2 : mg 0 = ⟨#[]⟩ := by unfold mg; rw [show (0 : Int).natAbs = 0 by rfl, bytesOf_zero]
    rw [h1, h2]
    have HP := Lib.hid (show prZ 0 = [48] from rfl)
    clear h1 h2
    go_wp2
    go_ret
    exact ⟨by rw [HP.out]; rfl, HB.out _ _⟩
  · obtain ⟨N, HN⟩ : ∃ N, Hid (z.natAbs = N) := ⟨_, Lib.hid rfl⟩
    have hN0 : N ≠ 0 := by rw [← HN.out]; omega
    have hm : mg z = ⟨(bytesOf N).toArray⟩ := by unfold mg; rw [HN.out]
    have hne : bytesOf N ≠ [] := fun e => hN0 (bytesOf_nil.1 e)
    have hv := Lib.hid (vB_bytesOf N)
    rw [HN.out] at hL9
    have hhead := Lib.hid (show (bytesOf N).head? ≠ some 0 by have h := head_trim (bytesOf N); rwa [trim_bytes, vB_bytesOf] at h)
    rw [hm]
    obtain ⟨G, HG⟩ : ∃ G, Hid (sg z = G) := ⟨_, Lib.hid rfl⟩
    rw [HG.out]
    generalize bytesOf N = L at *
    have hLe : (L == []) = false := beq_eq_false_iff_ne.2 hne
    have hcv := fun W => run_bytes_of_string (P := Tryz.prog) W 9 77 5 ⟨L.toArray⟩ Tryz.underlying9 Tryz.underlying77 Tryz.underlying5
    have hst : ∀ (W : World) (cap : Nat), BRow (W.alloc (.cells (bytesRow ⟨L.toArray⟩ cap) 5 ((bytesRow ⟨L.toArray⟩ cap).size, (bytesRow ⟨L.toArray⟩ cap).size + 1))) W.heap.size L.length (brow L) := fun W cap => BRow.made W L cap _ _ (bytesRow_size L cap)
    have Hst := Lib.hid hst
    have HY := Lib.hid y1
    clear hm hz0 hst
    obtain ⟨n, hn⟩ : ∃ n, L.length = n := ⟨_, rfl⟩
    have Hn := Lib.hid hn
    have hn6 : n ≤ 1000000 := by omega
    obtain ⟨bk, Hbk⟩ : ∃ b, Hid (W1.heap.size = b) := ⟨_, Lib.hid rfl⟩
    obtain ⟨W2, HW2⟩ : ∃ W2, Hid ((W1.setCell ⟨w.heap.size, 0, none⟩ (.bool G)).setCell ⟨w.heap.size, 1, none⟩ (.string ⟨L.toArray⟩) = W2) := ⟨_, Lib.hid rfl⟩
    have BW2 := HB.out (.bool G) (.string ⟨L.toArray⟩)
    rw [HW2.out] at BW2
    have hw2 : W2.heap.size = bk := by rw [← HW2.out, World.size_setCell, World.size_setCell]; exact Hbk.out
    have c2 : W2.cell? ⟨w.heap.size, 0, none⟩ = some (.bool G) := by rw [← HW2.out]; simp [go_sem, y1]
    have c3 : W2.cell? ⟨w.heap.size, 1, none⟩ = some (.string ⟨L.toArray⟩) := by rw [← HW2.out]; simp [go_sem, y1, y2]
    have hbk : w.heap.size < bk := by rw [← Hbk.out]; exact hsz
    obtain ⟨i0, hi, hz0, hz1, hz2⟩ := info_parts Tryz.infoU8
    clear hsz hL9 hne
    go_upto_region 2 with fail
    rw [HW2.out]
    clear y1 y2 y3 y4 B1 HB
    go_wp2_with fail
    have R0 := Hst.out W2 (grownCap W2 n 0 5)
    rw [hw2, Hn.out] at R0
    have C0 := cell_alloc_keep c2 (.cells (bytesRow ⟨L.toArray⟩ (grownCap W2 n 0 5)) 5 ((bytesRow ⟨L.toArray⟩ (grownCap W2 n 0 5)).size, (bytesRow ⟨L.toArray⟩ (grownCap W2 n 0 5)).size + 1))
    have B2 : Below w.heap.size w ((W2.alloc (.cells (bytesRow ⟨L.toArray⟩ (grownCap W2 n 0 5)) 5 ((bytesRow ⟨L.toArray⟩ (grownCap W2 n 0 5)).size, (bytesRow ⟨L.toArray⟩ (grownCap W2 n 0 5)).size + 1))).drew) := (BW2.alloc BW2.size _).drew
    clear hcv c2 c3 BW2 Hst
    go_loopg [3, 5] N (fun q s3 s5 wx => ∃ (D Lc : List UInt8) (a : Nat), s5 = .int .i64 (a : Int) ∧ a ≤ n ∧ Lc.length = n ∧ Hid (vB Lc = q ∧ vB (Lc.take a) = 0 ∧ (a < n → ∃ c, Lc[a]? = some c ∧ c ≠ 0) ∧ D.all digB = true ∧ N = q * 10 ^ D.length + dlow D ∧ (q = 0 → ∃ D' c, D = D' ++ [c] ∧ c.toNat ≠ 48) ∧ D.length ≤ 3000000) ∧ BRow wx bk n (brow Lc) ∧ wx.cell? ⟨w.heap.size, 0, none⟩ = some (.bool G) ∧ wx.ownsRow (bk + 1) 5 1 s3 D.length (bvs D) ∧ Below w.heap.size w wx ∧ bk < wx.heap.size)
    case atStart =>
      refine ⟨[], L, 0, rfl, Nat.zero_le _, Hn.out, ⟨hv.out, rfl, fun h => ?_, rfl, by simp [dlow], fun e => absurd e hN0, by simp⟩, R0.drew, C0, World.ownsRow_nil _ _ _ _, B2, R0.1⟩
      cases L with
      | nil => simp at hLe
      | cons c t => exact ⟨c, rfl, fun e => hhead.out (by rw [e]; rfl)⟩
    case round =>
      clear R0 C0 B2
      obtain ⟨D, Lc, a, rfl, han, hLc, HI, hrow, hc, hown, hbl, hbs⟩ := hrel
      by_cases ha : a < n
      · obtain ⟨c0, hc0, hc00⟩ := HI.out.2.2.1 ha
        have hq0 : gk ≠ 0 := by rw [← HI.out.1]; exact vB_pos hc0 hc00
        clear hc0 hc00
        obtain ⟨M, hM⟩ : ∃ M, M = gk := ⟨_, rfl⟩
        subst hM
        have HQ0 := Lib.hid hq0
        clear hq0
        go_wp2_with fail
        go_loopg [6, 7] (n - a) (fun q2 s6 s7 wx => ∃ (i r : Nat) (Q : List UInt8), i + q2 = n ∧ a ≤ i ∧ s7 = .int .i64 (i : Int) ∧ s6 = .int .i64 (r : Int) ∧ r < 10 ∧ Q.length = i ∧ Hid (vB (Lc.take i) = 10 * vB Q + r ∧ vB (Q.take a) = 0) ∧ BRow wx bk n (brow (Q ++ Lc.drop i)) ∧ wx.cell? ⟨w.heap.size, 0, none⟩ = some (.bool G) ∧ wx.ownsRow (bk + 1) 5 1 u3 D.length (bvs D) ∧ Below w.heap.size w wx ∧ bk < wx.heap.size)
        case atStart =>
          refine ⟨a, 0, Lc.take a, by omega, Nat.le_refl _, rfl, rfl, by omega, by rw [List.length_take]; omega, ⟨by rw [HI.out.2.1], by rw [List.take_take, Nat.min_self]; exact HI.out.2.1⟩, by rw [List.take_append_drop]; exact hrow, hc, hown, hbl, hbs⟩
        case round =>
          clear hrow hc hown hbl hbs
          obtain ⟨i, r, Q, hi2, hai, rfl, rfl, hr, hQ, HJ, hrow, hc, hown, hbl, hbs⟩ := hrel
          rcases gk with _ | q2
          · obtain rfl : i = n := by omega
            have hdr : Lc.drop i = [] := List.drop_eq_nil_of_le (by omega)
            rw [hdr, List.append_nil] at hrow
            obtain ⟨d, Hdd⟩ : ∃ d, Hid (UInt8.ofNat (48 + r) = d) := ⟨_, Lib.hid rfl⟩
            have hd48 : d.toNat = 48 + r := by rw [← Hdd.out]; exact toNat_of8 (by omega)
            have hM : M = 10 * vB Q + r := by
              have h := HJ.out.1
              rw [List.take_of_length_le (by omega), HI.out.1] at h
              exact h
            have hDl : D.length < 3000000 := by
              have h1 := HI.out.2.2.2.2.1
              have h2 : 1 * 10 ^ D.length ≤ M * 10 ^ D.length := Nat.mul_le_mul_right _ (by have := HQ0.out; omega)
              have h3 : N < 256 ^ i := by rw [← hv.out, ← Hn.out]; exact vB_lt L
              have h4 : (256 : Nat) ^ i ≤ 1000 ^ i := Nat.pow_le_pow_left (by omega) _
              have h5 : (1000 : Nat) ^ i = 10 ^ (3 * i) := by rw [show (1000 : Nat) = 10 ^ 3 by rfl, ← Nat.pow_mul]
              have h6 : 10 ^ D.length < 10 ^ (3 * i) := by omega
              have h7 := (Nat.pow_lt_pow_iff_right (show 1 < 10 by omega)).1 h6
              omega
            have HI2 := Lib.hid (show D ++ [d] = D ++ [d] ∧ (D ++ [d]).all digB = true ∧ N = vB Q * 10 ^ (D ++ [d]).length + dlow (D ++ [d]) ∧ (vB Q = 0 → ∃ D' c, D ++ [d] = D' ++ [c] ∧ c.toNat ≠ 48) ∧ (D ++ [d]).length ≤ 3000000 ∧ vB Q < M by
              obtain ⟨i1, i2, i3, i4, i5, i6, i7⟩ := HI.out
              refine ⟨rfl, by rw [← Hdd.out]; exact dg_all i4 hr, ?_, fun h0 => ⟨D, d, rfl, ?_⟩, by rw [List.length_append, List.length_singleton]; omega, ?_⟩
              · rw [dlow_snoc, hd48, List.length_append, List.length_singleton, Nat.pow_succ, i5, hM, Nat.add_mul]
                have e1 : 10 * vB Q * 10 ^ D.length = vB Q * (10 ^ D.length * 10) := by rw [Nat.mul_comm 10, Nat.mul_assoc, Nat.mul_comm 10]
                rw [e1, show 48 + r - 48 = r by omega]
                omega
              · have := HQ0.out
                rw [h0] at hM
                omega
              · have := HQ0.out
                omega)
            have hv48 := Lib.hid (show (48 + (r : Int)) = (d.toNat : Int) by rw [hd48]; omega)
            have hd48 := Lib.hid hd48
            have hlt := hown.lt
            have HZQ := Lib.hid HJ.out.2
            clear HJ HI hdr hM hi2 Hdd
            go_wp2_with (first | (at_builtin; refine wpList_append_own_at _ rfl _ _ 77 rfl (bk + 1) 5 i0 (.int .u8 0) 1 1 Tryz.underlying77 hi hz0 hz1 hz2 rfl (by decide) _ _ _ rfl (hown.alloc _) ⟨wr.heap.size, 0, none⟩ 1 1 [.int .u8 (48 + (r : Int))] rfl rfl ?c1 ?c2 ?c3 ?c4 ?c5 ?_))
            case c2 => rfl
            case c3 => unfold maxLen; omega
            case c4 => omega
            case c5 => omega
            · intro v' W4 hown2 hgrow _ hv'
              have hne : some bk ≠ u3.ownBlock := fun e => by have := (hlt _ e.symm).1; omega
              have hne2 : some w.heap.size ≠ u3.ownBlock := fun e => by have := (hlt _ e.symm).1; omega
              have hrow4 := (hrow.keep (below1 wr (.cells #[.int .u8 (48 + (r : Int))] 5))).grown hgrow hne
              have hc4 : W4.cell? ⟨w.heap.size, 0, none⟩ = some (.bool G) := cell_grown (cell_alloc_keep hc (.cells #[.int .u8 (48 + (r : Int))] 5)) hgrow hne2
              have hlt1 := (hown.alloc (.cells #[.int .u8 (48 + (r : Int))] 5)).lt
              have hbl4 : Below w.heap.size w W4 := ((hbl.alloc hbl.size _).grown hgrow (by rw [World.size_alloc]; have := hbl.size; omega) (fun k hk => by have := (hlt1 k hk).1; omega))
              have hbs4 : bk < W4.heap.size := hrow4.1
              rw [hv48.out, ← bvs_snoc] at hown2
              have hl : D.length + 1 = (D ++ [d]).length := by simp
              rw [hl] at hown2
              clear hrow hc hown hgrow hv' hlt hlt1 hbl hne hne2 hbs hl
              go_wp2_with fail
              go_loopg [5] (i - a) (fun q3 s5 wx => ∃ b : Nat, b + q3 = i ∧ s5 = .int .i64 (b : Int) ∧ Hid (vB (Q.take b) = 0) ∧ wx = W4)
              case atStart => exact ⟨a, by omega, rfl, HZQ, rfl⟩
              case round =>
                obtain ⟨b, hb, rfl, HB0, hwx⟩ := hrel
                subst hwx
                rcases gk with _ | q3
                · obtain rfl : b = i := by omega
                  clear hb
                  go_wp2_with fail
                  go_roundg (vB Q)
                  case measure => exact HI2.out.2.2.2.2.2
                  case rel => exact ⟨D ++ [d], Q, b, rfl, Nat.le_refl _, hQ, ⟨rfl, HB0.out, fun h => absurd h (by omega), HI2.out.2.1, HI2.out.2.2.1, HI2.out.2.2.2.1, HI2.out.2.2.2.2.1⟩, hrow4, hc4, hown2, hbl4, hbs4⟩
                · have Hb := Lib.hid hb
                  have hbi : b < i := by omega
                  obtain ⟨c, hcc⟩ : ∃ c, Q[b]? = some c := ⟨_, List.getElem?_eq_getElem (by omega)⟩
                  have hcell : wr.cell? ⟨bk, b, none⟩ = some (.int .u8 (c.toNat : Int)) := by rw [(hrow4.2 b hbi).1, brow_at hcc]
                  by_cases h0 : c = 0
                  · subst h0
                    have HB1 := Lib.hid (zero_more HB0.out hcc)
                    clear hb hcc
                    go_wp2_with fail
                    go_roundg q3
                    case measure => omega
                    case rel => exact ⟨b + 1, by have := Hb.out; omega, by go_num, HB1, rfl⟩
                  · have hcn : ((c.toNat : Int) == 0) = false := by
                      rw [beq_eq_false_iff_ne]
                      intro e
                      exact h0 (UInt8.toNat_inj.1 (by simpa using (by omega : c.toNat = 0)))
                    have HX := Lib.hid (show ∃ c, Q[b]? = some c ∧ c ≠ 0 from ⟨c, hcc, h0⟩)
                    clear hb hcc h0
                    go_wp2_with fail
                    go_roundg (vB Q)
                    case measure => exact HI2.out.2.2.2.2.2
                    case rel => exact ⟨D ++ [d], Q, b, rfl, Nat.le_of_lt hbi, hQ, ⟨rfl, HB0.out, fun _ => HX.out, HI2.out.2.1, HI2.out.2.2.1, HI2.out.2.2.2.1, HI2.out.2.2.2.2.1⟩, hrow4, hc4, hown2, hbl4, hbs4⟩
          · have Hi2 := Lib.hid hi2
            have hin : i < n := by omega
            obtain ⟨c, hcc⟩ : ∃ c, Lc[i]? = some c := ⟨_, List.getElem?_eq_getElem (by omega)⟩
            obtain ⟨hx1, hx2, hx3⟩ := dstep10 HJ.out.1 hcc hr
            have HX3 := Lib.hid hx3
            have hcell : wr.cell? ⟨bk, i, none⟩ = some (.int .u8 (c.toNat : Int)) := by
              rw [(hrow.2 i hin).1]
              unfold brow
              rw [getD_app_ge (by omega), hQ, Nat.sub_self, List.getD_eq_getElem?_getD, List.getElem?_drop, Nat.add_zero, hcc]; rfl
            have hf := (hrow.2 i hin).2
            have hc8 := c.toNat_lt
            have HZ := Lib.hid (show vB ((Q ++ [UInt8.ofNat ((r * 256 + c.toNat) / 10)]).take a) = 0 by rw [List.take_append_of_le_length (by omega)]; exact HJ.out.2)
            have w1 : IntKind.i64.wrap ((r : Int) * 256) = (r : Int) * 256 := IntWalk.i64_in _ (by omega)
            obtain ⟨x, Hx⟩ : ∃ x, Hid (r * 256 + c.toNat = x) := ⟨_, Lib.hid rfl⟩
            have ho : bits .or .i64 ((r : Int) * 256) ((c.toNat : Nat) : Int) = (x : Int) := by rw [← Hx.out]; exact i64_or_256 r c.toNat (by omega) (by omega)
            rw [Hx.out] at hx1 hx2 HX3 HZ
            obtain ⟨y, Hy⟩ : ∃ y, Hid (x / 10 = y) := ⟨_, Lib.hid rfl⟩
            obtain ⟨r2, Hr2⟩ : ∃ y, Hid (x % 10 = y) := ⟨_, Lib.hid rfl⟩
            have hq1 : Int.tdiv (x : Int) 10 = (y : Int) := by rw [← Hy.out]; rfl
            have hq2 : (x : Int) / 10 = (y : Int) := by rw [← Hy.out]; omega
            have hm1 : Int.tmod (x : Int) 10 = (r2 : Int) := by rw [← Hr2.out]; rfl
            have hm2 : (x : Int) % 10 = (r2 : Int) := by rw [← Hr2.out]; omega
            rw [Hy.out] at hx1 HX3 HZ
            rw [Hr2.out] at hx2 HX3
            have hwy : IntKind.u8.wrap (y : Int) = (y : Int) := by
              have h := u8w1 y
              rw [h, Nat.mod_eq_of_lt hx1]
            have HR := Lib.hid (show BRow (wr.setCell ⟨bk, i, none⟩ (.int .u8 (y : Int))) bk n (brow ((Q ++ [UInt8.ofNat y]) ++ Lc.drop (i + 1))) from brow_set2 hrow hQ (by omega) hin (UInt8.ofNat y) (by rw [toNat_of8 hx1]))
            have HO := Lib.hid (hown.kept (grown_set wr bk i (.int .u8 (y : Int))) (own_ne hown))
            have HC := Lib.hid (show (wr.setCell ⟨bk, i, none⟩ (.int .u8 (y : Int))).cell? ⟨w.heap.size, 0, none⟩ = some (.bool G) by rw [World.cell?_setCell_far _ _ _ _ (by dsimp only; omega)]; exact hc)
            clear hrow hown hc hi2 hcc hx3
            go_wp2_with fail
            go_roundg q2
            case measure => omega
            case rel => exact ⟨i + 1, r2, Q ++ [UInt8.ofNat y], by have := Hi2.out; omega, by omega, by go_num, rfl, hx2, by rw [List.length_append, hQ]; rfl, ⟨HX3.out, HZ.out⟩, HR.out, HC.out, HO.out, hbl.setCell (Nat.le_of_lt hbk) _, by rw [World.size_setCell]; exact hbs⟩
      · obtain rfl : a = n := by omega
        obtain ⟨D', c, hDD, hc48⟩ := HI.out.2.2.2.2.2.1 (by
          have h1 := HI.out.1
          have h2 := HI.out.2.1
          rw [List.take_of_length_le (by omega)] at h2
          omega)
        have hq0 : gk = 0 := by
          have h1 := HI.out.1
          have h2 := HI.out.2.1
          rw [List.take_of_length_le (by omega)] at h2
          omega
        have hND : dlow D = N := by
          have h := HI.out.2.2.2.2.1
          rw [hq0] at h
          omega
        have hDl := HI.out.2.2.2.2.2.2
        have HTX := Lib.hid (text_of (z := z) (N := N) (by rw [← hDD]; exact HI.out.2.2.2.1) hc48 (by rw [← hDD]; exact hND))
        rw [← hDD] at HTX
        have hD0 : D ≠ [] := by rw [hDD]; simp
        have hVz := Lib.hid (sg_abs1 z)
        rw [HG.out, HN.out] at hVz
        have hbs9 := hbs
        clear HI hDD hc48 hND hrow hn hbs
        cases G with
        | false =>
          have HT := Lib.hid (HTX.out.1 (by have h := hVz.out; simpa using h))
          obtain ⟨g0, cap, hu3, hbase, hrow2⟩ := own_row hown hD0
          subst hu3
          clear hown
          obtain ⟨m, hm⟩ : ∃ m, (D).length = m := ⟨_, rfl⟩
          rw [hm] at hrow2
          have hm0 : 0 < m := by rw [← hm]; exact List.length_pos_iff.2 hD0
          have hm9 : m ≤ 3000001 := by
            have h9 := hm
            first
              | omega
              | (rw [List.length_append, List.length_singleton] at h9; omega)
          have Hm := Lib.hid hm
          rw [hm]
          clear hm
          go_wp2_with fail
          go_loopg [8, 9] m (fun q s8 s9 wx => ∃ i k : Nat, i + k + 1 = m ∧ q = k + 1 ∧ i ≤ k + 1 ∧ s8 = .int .i64 (i : Int) ∧ s9 = .int .i64 (k : Int) ∧ BRow wx g0 m (rrow (D) i) ∧ Below w.heap.size w wx)
          case atStart => exact ⟨0, m - 1, by omega, by omega, by omega, rfl, by congr 1 <;> omega, hrow2.congr (fun p hp => rrow_zero _ (by rw [Hm.out]; exact hp)), hbl⟩
          case round =>
            clear hrow2 hbl
            obtain ⟨i, k, hik1, rfl, hik2, rfl, rfl, hrow2, hbl⟩ := hrel
            by_cases hik : i < k
            · obtain ⟨k, rfl⟩ : ∃ k', k = k' + 1 := ⟨k - 1, by omega⟩
              obtain ⟨x, hx⟩ : ∃ x : Nat, brow (D) i = .int .u8 (x : Int) := ⟨_, rfl⟩
              obtain ⟨y, hy⟩ : ∃ x : Nat, brow (D) (k + 1) = .int .u8 (x : Int) := ⟨_, rfl⟩
              have hc1 : wr.cell? ⟨g0, i, none⟩ = some (.int .u8 (x : Int)) := by
                rw [(hrow2.2 i (by omega)).1, rrow, if_neg (by rw [Hm.out]; omega), hx]
              have hc2 : wr.cell? ⟨g0, k + 1, none⟩ = some (.int .u8 (y : Int)) := by
                rw [(hrow2.2 (k + 1) (by omega)).1, rrow, if_neg (by rw [Hm.out]; omega), hy]
              have hf1 := (hrow2.2 i (by omega)).2
              have hf2 := (hrow2.2 (k + 1) (by omega)).2
              have HS := Lib.hid (show BRow ((wr.setCell ⟨g0, i, none⟩ (.int .u8 (y : Int))).setCell ⟨g0, k + 1, none⟩ (.int .u8 (x : Int))) g0 m (rrow (D) (i + 1)) by
                have h := rrow_step (W := wr) (g := g0) (i := i) (k := k + 1) (D := D) (by rw [Hm.out]; exact hrow2) (by rw [Hm.out]; omega) hik
                rw [hx, hy, Hm.out] at h
                exact h)
              have Hik := Lib.hid hik1
              have hne9 : i ≠ k + 1 := by omega
              have hle1 : i < m := by omega
              have hle2 : k + 1 < m := by omega
              clear hik1 hx hy hrow2
              go_upto_region 23 with fail
              go_big_region
              all_goals
                go_wp2_with fail
                go_roundg (k + 1)
                case measure => omega
                case rel => exact ⟨i + 1, k, by have := Hik.out; omega, rfl, by omega, by go_num, by go_num, HS.out.drew, ((hbl.setCell (by dsimp only; omega) _).setCell (by dsimp only; omega) _).drew⟩
            · have hcells : BRow wr g0 m (brow (D).reverse) := hrow2.congr (fun p hp => rrow_end (by rw [Hm.out]; exact hik1) hik (by rw [Hm.out]; exact hp))
              have hcv := run_string_of wr g0 0 cap (D).reverse (fun i u hu => brow_cells hcells (by rw [List.length_reverse, Hm.out]) i u hu)
              rw [List.length_reverse, Hm.out] at hcv
              obtain ⟨T, HT9⟩ : ∃ T, Hid ((D).reverse = T) := ⟨_, Lib.hid rfl⟩
              rw [HT9.out] at hcv
              clear hik1 hrow2 hcells
              go_wp2_with fail
              go_ret
              exact ⟨by rw [HT.out, HT9.out]; rfl, hbl⟩
        | true =>
          have HT := Lib.hid (HTX.out.2 (by have h := hVz.out; simpa using h))
          have hlt := hown.lt
          go_wp2_with (first | (at_builtin; refine wpList_append_own_at _ rfl _ _ 77 rfl (bk + 1) 5 i0 (.int .u8 0) 1 1 Tryz.underlying77 hi hz0 hz1 hz2 rfl (by decide) _ _ _ rfl (hown.alloc _) ⟨wr.heap.size, 0, none⟩ 1 1 [.int .u8 45] rfl rfl ?d1 ?d2 ?d3 ?d4 ?d5 ?_))
          case d2 => rfl
          case d3 => unfold maxLen; omega
          case d4 => omega
          case d5 => have := hbl.size; first | omega | exact Nat.le_of_lt hbs9
          · intro v' W4 hown2 hgrow _ hv'
            have hlt1 := (hown.alloc (.cells #[.int .u8 45] 5)).lt
            have hbl := ((hbl.alloc hbl.size _).grown hgrow (by rw [World.size_alloc]; have := hbl.size; omega) (fun k hk => by have := (hlt1 k hk).1; omega))
            rw [show ([.int .u8 45] : List Value) = [.int .u8 (((45 : UInt8).toNat : Nat) : Int)] from rfl, ← bvs_snoc] at hown2
            have hl : D.length + 1 = (D ++ [45]).length := by simp
            rw [hl] at hown2
            have hD0 : D ++ [45] ≠ [] := by simp
            obtain ⟨g0, cap, hu3, hbase, hrow2⟩ := own_row hown2 hD0
            subst hu3
            clear hown hown2 hgrow hv' hlt hlt1 hl
            obtain ⟨m, hm⟩ : ∃ m, (D ++ [45]).length = m := ⟨_, rfl⟩
            rw [hm] at hrow2
            have hm0 : 0 < m := by rw [← hm]; exact List.length_pos_iff.2 hD0
            have hm9 : m ≤ 3000001 := by
              have h9 := hm
              first
                | omega
                | (rw [List.length_append, List.length_singleton] at h9; omega)
            have Hm := Lib.hid hm
            rw [hm]
            clear hm
            go_wp2_with fail
            go_loopg [8, 9] m (fun q s8 s9 wx => ∃ i k : Nat, i + k + 1 = m ∧ q = k + 1 ∧ i ≤ k + 1 ∧ s8 = .int .i64 (i : Int) ∧ s9 = .int .i64 (k : Int) ∧ BRow wx g0 m (rrow (D ++ [45]) i) ∧ Below w.heap.size w wx)
            case atStart => exact ⟨0, m - 1, by omega, by omega, by omega, rfl, by congr 1 <;> omega, hrow2.congr (fun p hp => rrow_zero _ (by rw [Hm.out]; exact hp)), hbl⟩
            case round =>
              clear hrow2 hbl
              obtain ⟨i, k, hik1, rfl, hik2, rfl, rfl, hrow2, hbl⟩ := hrel
              by_cases hik : i < k
              · obtain ⟨k, rfl⟩ : ∃ k', k = k' + 1 := ⟨k - 1, by omega⟩
                obtain ⟨x, hx⟩ : ∃ x : Nat, brow (D ++ [45]) i = .int .u8 (x : Int) := ⟨_, rfl⟩
                obtain ⟨y, hy⟩ : ∃ x : Nat, brow (D ++ [45]) (k + 1) = .int .u8 (x : Int) := ⟨_, rfl⟩
                have hc1 : wr.cell? ⟨g0, i, none⟩ = some (.int .u8 (x : Int)) := by
                  rw [(hrow2.2 i (by omega)).1, rrow, if_neg (by rw [Hm.out]; omega), hx]
                have hc2 : wr.cell? ⟨g0, k + 1, none⟩ = some (.int .u8 (y : Int)) := by
                  rw [(hrow2.2 (k + 1) (by omega)).1, rrow, if_neg (by rw [Hm.out]; omega), hy]
                have hf1 := (hrow2.2 i (by omega)).2
                have hf2 := (hrow2.2 (k + 1) (by omega)).2
                have HS := Lib.hid (show BRow ((wr.setCell ⟨g0, i, none⟩ (.int .u8 (y : Int))).setCell ⟨g0, k + 1, none⟩ (.int .u8 (x : Int))) g0 m (rrow (D ++ [45]) (i + 1)) by
                  have h := rrow_step (W := wr) (g := g0) (i := i) (k := k + 1) (D := D ++ [45]) (by rw [Hm.out]; exact hrow2) (by rw [Hm.out]; omega) hik
                  rw [hx, hy, Hm.out] at h
                  exact h)
                have Hik := Lib.hid hik1
                have hne9 : i ≠ k + 1 := by omega
                have hle1 : i < m := by omega
                have hle2 : k + 1 < m := by omega
                clear hik1 hx hy hrow2
                go_upto_region 23 with fail
                go_big_region
                all_goals
                  go_wp2_with fail
                  go_roundg (k + 1)
                  case measure => omega
                  case rel => exact ⟨i + 1, k, by have := Hik.out; omega, rfl, by omega, by go_num, by go_num, HS.out.drew, ((hbl.setCell (by dsimp only; omega) _).setCell (by dsimp only; omega) _).drew⟩
              · have hcells : BRow wr g0 m (brow (D ++ [45]).reverse) := hrow2.congr (fun p hp => rrow_end (by rw [Hm.out]; exact hik1) hik (by rw [Hm.out]; exact hp))
                have hcv := run_string_of wr g0 0 cap (D ++ [45]).reverse (fun i u hu => brow_cells hcells (by rw [List.length_reverse, Hm.out]) i u hu)
                rw [List.length_reverse, Hm.out] at hcv
                obtain ⟨T, HT9⟩ : ∃ T, Hid ((D ++ [45]).reverse = T) := ⟨_, Lib.hid rfl⟩
                rw [HT9.out] at hcv
                clear hik1 hrow2 hcells
                go_wp2_with fail
                go_ret
                exact ⟨by rw [HT.out, HT9.out]; rfl, hbl⟩
end Go.Proofs.YtcljkdninmldiaaGreatDoor
