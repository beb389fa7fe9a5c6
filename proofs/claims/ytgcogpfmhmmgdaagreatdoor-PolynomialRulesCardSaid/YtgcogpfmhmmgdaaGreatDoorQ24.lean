/- What polynomial.lowest returns: a number in lowest terms. Condition: integers of at most 10^6 digits to the base 2^32, at most 10^5 rounds. Sizes of integers. No condition. What rational.Of, isZero, upright, canonical and New return. Condition: the integers have at most 10^7 digits to the base 2^32. -/
import Derived.Test.YtgcogpfmhmmgdaaGreatDoorQ22
import Derived.Test.YtgcogpfmhmmgdaaGreatDoorQ23
import Derived.Test.YtgcogpfmhmmgdaaGreatDoorQ16
import Derived.Test.YtgcogpfmhmmgdaaGreatDoorQ14
import Derived.Test.YtgcogpfmhmmgdaaGreatDoorQ08
import Derived.Test.YtgcogpfmhmmgdaaGreatDoorQ09
import Derived.Deep.RegionHeld3
import Derived.Deep.DeepCutAuto

namespace Go.Proofs.YtgcogpfmhmmgdaaGreatDoor
open Go.RowKit
set_option linter.unusedSimpArgs false
set_option linter.unusedVariables false

/-- An integer's variable that may be written. -/
def Vr (W : World) (p : Nat) (z : Int) : Prop := BVar W p z ∧ BFr W p
theorem Vr.keep {W X : World} {p : Nat} {z : Int} (h : Vr W p z) (b : Below W.heap.size W X) : Vr X p z := by
  obtain ⟨a, c, d⟩ := bfr_keep ⟨h.1.1, h.1.2, h.2⟩ b
  exact ⟨⟨a, c⟩, d⟩
theorem Vr.far {W : World} {p q : Nat} {y z : Int} (h : Vr W p z) (hne : q ≠ p) : Vr (stI W q y) p z := by
  obtain ⟨a, c, d⟩ := stI_far_cells (y := y) ⟨h.1.1, h.1.2, h.2⟩ hne
  exact ⟨⟨a, c⟩, d⟩
theorem Vr.set {W : World} {p : Nat} {y z : Int} (h : Vr W p z) : Vr (stI W p y) p y := stI_same ⟨h.1.1, h.1.2, h.2⟩
theorem Vr.new (W : World) (z : Int) (t : TypeId) : Vr (W.alloc (.cells #[.bool (sg z), .string (mg z)] t)) W.heap.size z := by
  refine ⟨BVar.new W z t, ?_, ?_⟩ <;> simp [go_sem]
theorem Vr.lt {W : World} {p : Nat} {z : Int} (h : Vr W p z) : p < W.heap.size := h.1.lt
theorem ResRat.far {W : World} {b q : Nat} {y : Int} (h : ResRat W b) (hne : b ≠ q) : ResRat (stI W q y) b := by
  obtain ⟨h1, h2, h3, h4, h5⟩ := h
  refine ⟨(h1.set _ (by exact hne) _).set _ (by exact hne) _, ?_, ?_, ?_, ?_⟩ <;> (unfold stI; simp only [World.frozen?_setCell]; assumption)
theorem ResRat.lt {W : World} {b : Nat} (h : ResRat W b) : b < W.heap.size := h.1.lt
/-- What lowest has: its parameters' boxes and its result's. -/
def LW (w : World) (n b : Int) (W : World) : Prop := (Below w.heap.size w W ∧ w.heap.size + 3 ≤ W.heap.size) ∧ Vr W w.heap.size n ∧ Vr W (w.heap.size + 1) b ∧ ResRat W (w.heap.size + 1 + 1)
theorem LW.keep {w W X : World} {n b : Int} (h : LW w n b W) (hb : Below W.heap.size W X) : LW w n b X := ⟨⟨below_more h.1.1 (Nat.le_refl _) hb, Nat.le_trans h.1.2 hb.size⟩, h.2.1.keep hb, h.2.2.1.keep hb, h.2.2.2.keep hb⟩
theorem LW.drew {w W : World} {n b : Int} (h : LW w n b W) : LW w n b W.drew := h.keep (Below.refl _ _).drew
theorem LW.alloc {w W : World} {n b : Int} (h : LW w n b W) (o : Obj) : LW w n b (W.alloc o) := h.keep (below1 W o)
theorem LW.far {w W : World} {n b y : Int} {q : Nat} (h : LW w n b W) (hq : w.heap.size + 3 ≤ q) : LW w n b (stI W q y) :=
  ⟨⟨h.1.1.trans (stI_below (by omega)), by unfold stI; rw [World.size_setCell, World.size_setCell]; exact h.1.2⟩, h.2.1.far (by omega), h.2.2.1.far (by omega), h.2.2.2.far (by omega)⟩
theorem LW.setN {w W : World} {n b y : Int} (h : LW w n b W) : LW w y b (stI W w.heap.size y) :=
  ⟨⟨h.1.1.trans (stI_below (Nat.le_refl _)), by unfold stI; rw [World.size_setCell, World.size_setCell]; exact h.1.2⟩, h.2.1.set, h.2.2.1.far (by omega), h.2.2.2.far (by omega)⟩
theorem LW.cells {w W : World} {n b : Int} (h : LW w n b W) : W.cell? ⟨w.heap.size + 1, 0, none⟩ = some (.bool (sg b)) ∧ W.cell? ⟨w.heap.size + 1, 1, none⟩ = some (.string (mg b)) := h.2.2.1.1
theorem LW.start (w : World) (n b : Int) : LW w n b (((w.alloc (.cells #[.bool (sg n), .string (mg n)] 27)).alloc (.cells #[.bool (sg b), .string (mg b)] 27)).alloc (.cells #[.bool false, .string ⟨#[]⟩, .bool false, .string ⟨#[]⟩] 33)) := by
  have v1 := ((Vr.new w n 27).keep (below1 _ (.cells #[.bool (sg b), .string (mg b)] 27))).keep (below1 _ (.cells #[.bool false, .string ⟨#[]⟩, .bool false, .string ⟨#[]⟩] 33))
  have v2 := (Vr.new (w.alloc (.cells #[.bool (sg n), .string (mg n)] 27)) b 27).keep (below1 _ (.cells #[.bool false, .string ⟨#[]⟩, .bool false, .string ⟨#[]⟩] 33))
  have v3 := ResRat.new ((w.alloc (.cells #[.bool (sg n), .string (mg n)] 27)).alloc (.cells #[.bool (sg b), .string (mg b)] 27))
  rw [World.size_alloc] at v2
  rw [World.size_alloc, World.size_alloc] at v3
  exact ⟨⟨below3 w _ _ _, by rw [World.size_alloc, World.size_alloc, World.size_alloc]; omega⟩, v1, v2, v3⟩
/-- .. and the variables of the denominator and of what may be common. -/
def LS (w : World) (p q : Nat) (n b d c : Int) (W : World) : Prop := LW w n b W ∧ Vr W p d ∧ Vr W q c
theorem LS.keep {w W X : World} {p q : Nat} {n b d c : Int} (h : LS w p q n b d c W) (hb : Below W.heap.size W X) : LS w p q n b d c X := ⟨h.1.keep hb, h.2.1.keep hb, h.2.2.keep hb⟩
theorem LS.setC {w W : World} {p q : Nat} {n b d c y : Int} (h : LS w p q n b d c W) (hq : w.heap.size + 3 ≤ q) (hne : p ≠ q) : LS w p q n b d y (stI W q y) := ⟨h.1.far hq, h.2.1.far (Ne.symm hne), h.2.2.set⟩
theorem LS.setD {w W : World} {p q : Nat} {n b d c y : Int} (h : LS w p q n b d c W) (hp : w.heap.size + 3 ≤ p) (hne : p ≠ q) : LS w p q n b y c (stI W p y) := ⟨h.1.far hp, h.2.1.set, h.2.2.far hne⟩
theorem LS.setN {w W : World} {p q : Nat} {n b d c y : Int} (h : LS w p q n b d c W) (hp : w.heap.size + 3 ≤ p) (hq : w.heap.size + 3 ≤ q) : LS w p q y b d c (stI W w.heap.size y) := ⟨h.1.setN, h.2.1.far (by omega), h.2.2.far (by omega)⟩
set_option maxRecDepth 100000 in
set_option maxHeartbeats 12800000 in
theorem plow_any (N : Int) (b0 : Nat) (count : Int) (k K : Nat) (w : World) (hb : 0 < b0) (hck : count = (k : Int) ∨ (k = 0 ∧ count < 0)) (hN : N.natAbs < 4294967296 ^ K) (hbK : b0 < 4294967296 ^ K) (hpK : b0 ^ k < 4294967296 ^ K) (hK : K ≤ 1000000) (hk : k ≤ 100000) :
    Calls Tryz.prog 58 #[.agg #[.bool (sg N), .string (mg N)], .agg #[.bool (sg (b0 : Int)), .string (mg (b0 : Int))], .int .i64 count] w (RatOut w (Rat.divInt N ((b0 ^ k : Nat) : Int))) := by
  obtain ⟨b, hbb⟩ : ∃ b : Int, (b0 : Int) = b := ⟨_, rfl⟩
  obtain ⟨Q, hQ⟩ : ∃ Q, Rat.divInt N ((b0 ^ k : Nat) : Int) = Q := ⟨_, rfl⟩
  have HQ := Lib.hid hQ
  have HB := Lib.hid hbb
  have HBp := Lib.hid hb
  have Ib := Lib.hid (show IsInt (.agg #[.bool (sg b), .string (mg b)]) b K from isInt_mg (by rw [← hbb, Int.natAbs_natCast]; exact hbK) (by omega))
  have HBK := Lib.hid hbK
  have HPK := Lib.hid hpK
  have HNK := Lib.hid hN
  rw [hQ, hbb]
  clear hbb hQ hb hbK hpK hN
  obtain ⟨W0, hW0⟩ : ∃ W0, W0 = ((w.alloc (.cells #[.bool (sg N), .string (mg N)] 27)).alloc (.cells #[.bool (sg b), .string (mg b)] 27)).alloc (.cells #[.bool false, .string ⟨#[]⟩, .bool false, .string ⟨#[]⟩] 33) := ⟨_, rfl⟩
  have K0 : LW w N b W0 := by rw [hW0]; exact LW.start w N b
  have HW := Lib.hid hW0
  clear hW0
  go_enter Tryz.func58, Tryz.ntmps58
  go_upto_region 1 with fail
  rw [← HW.out]
  have KB := K0.drew
  clear K0
  have hmx : Tryz.prog.follows .mixedOrders = true := by kernel_rfl
  refine region_inv' (J := (fun L act wx => ∃ u12 u13 u7 u8, act = { tmps := #[.agg #[.bool (sg N), .string (mg N)], .agg #[.bool (sg b), .string (mg b)], .int .i64 count, .pointer (some ⟨w.heap.size, 0, none⟩), .pointer (some ⟨w.heap.size + 1, 0, none⟩), undef, .pointer (some ⟨w.heap.size + 1 + 1, 0, none⟩), u7, u8, undef, undef, undef, u12, u13, undef, undef, undef, undef, undef, undef, undef, undef, undef, undef, undef, undef, undef, undef, undef, undef, undef, undef, undef, undef, undef, undef, undef, undef, undef, undef, undef], defers := [] } ∧ LW w N b wx ∧
      (L.getD 0 false = true → u12 = .agg #[.bool (sg 1), .string (mg 1)]) ∧ (L.getD 1 false = true → u13 = .agg #[.bool (sg b), .string (mg b)]) ∧ (L.getD 2 false = true → SlW (w.heap.size + 3) (1) (L.getD 4 false = true) u7 wx) ∧ (L.getD 3 false = true → SlW (w.heap.size + 3) (b) (L.getD 5 false = true) u8 wx) ∧ (L.getD 2 false = true → L.getD 3 false = true → u7 ≠ u8) ∧ (L.getD 4 false = true → L.getD 2 false = true) ∧ (L.getD 5 false = true → L.getD 3 false = true))) hmx (by kernel_rfl) ?_ ?_ ?_
  · exact ⟨undef, undef, undef, undef, rfl, KB, fun h => absurd h (by decide), fun h => absurd h (by decide), fun h => absurd h (by decide), fun h => absurd h (by decide), fun h _ => absurd h (by decide), fun h => absurd h (by decide), fun h => absurd h (by decide)⟩
  · intro i hi L a wx hl hw ⟨u12, u13, u7, u8, ha, lo, c0, c1, s2, s3, d2_3, k4, k5⟩
    subst ha
    obtain ⟨x1, x2⟩ := lo.cells
    clear KB
    have hi' : i = 0 ∨ i = 1 ∨ i = 2 ∨ i = 3 ∨ i = 4 ∨ i = 5 := by
      have : i < 6 := hi
      omega
    rcases hi' with rfl | rfl | rfl | rfl | rfl | rfl
    · refine stepJ (i := 0) rfl (fun K hK => ?_)
      go_simp
      go_at_call 43
      refine (iof_any 1 _ (by omega) (by omega)).mono ?_
      rintro e W2 ⟨rfl, b2⟩
      go_wp2_with fail
      refine hK.out _ _ ⟨_, u13, u7, u8, rfl, lo.keep b2, fun _ => rfl, fun h => c1 (fl (by decide) h), fun h => ((s2 (fl (by decide) h)).imp (fl (by decide))).keep b2, fun h => ((s3 (fl (by decide) h)).imp (fl (by decide))).keep b2, fun h h' => d2_3 (fl (by decide) h) (fl (by decide) h'), fun h => getD_set_true (k4 (fl (by decide) h)), fun h => getD_set_true (k5 (fl (by decide) h))⟩
    · refine stepJ (i := 1) rfl (fun K hK => ?_)
      go_simp
      refine hK.out _ _ ⟨u12, _, u7, u8, rfl, lo, fun h => c0 (fl (by decide) h), fun _ => rfl, fun h => ((s2 (fl (by decide) h)).imp (fl (by decide))), fun h => ((s3 (fl (by decide) h)).imp (fl (by decide))), fun h h' => d2_3 (fl (by decide) h) (fl (by decide) h'), fun h => getD_set_true (k4 (fl (by decide) h)), fun h => getD_set_true (k5 (fl (by decide) h))⟩
    · refine stepJ (i := 2) rfl (fun K hK => ?_)
      go_simp
      refine hK.out _ _ ⟨u12, u13, _, u8, rfl, lo.alloc _, fun h => c0 (fl (by decide) h), fun h => c1 (fl (by decide) h), fun _ => SlW.new (fun h => absurd ((k4 (fl (by decide) h)).symm.trans hl) (by decide)) lo.1.2, fun h => ((s3 (fl (by decide) h)).imp (fl (by decide))).keep (below1 wx _), fun _ h' => Ne.symm (s3 (fl (by decide) h')).ne_new, fun h => getD_set_true (k4 (fl (by decide) h)), fun h => getD_set_true (k5 (fl (by decide) h))⟩
    · refine stepJ (i := 3) rfl (fun K hK => ?_)
      go_simp
      refine hK.out _ _ ⟨u12, u13, u7, _, rfl, lo.alloc _, fun h => c0 (fl (by decide) h), fun h => c1 (fl (by decide) h), fun h => ((s2 (fl (by decide) h)).imp (fl (by decide))).keep (below1 wx _), fun _ => SlW.new (fun h => absurd ((k5 (fl (by decide) h)).symm.trans hl) (by decide)) lo.1.2, fun h _ => (s2 (fl (by decide) h)).ne_new, fun h => getD_set_true (k4 (fl (by decide) h)), fun h => getD_set_true (k5 (fl (by decide) h))⟩
    · refine stepJ (i := 4) rfl (fun K hK => ?_)
      obtain rfl := c0 (hw 0 (by kernel_rfl))
      obtain ⟨pp, rfl, hpp, ⟨g9, t9, y1, y2, y3, y4⟩, _⟩ := id (s2 (hw 2 (by kernel_rfl)))
      go_simp
      refine hK.out _ _ ⟨_, u13, _, u8, rfl, lo.far hpp, fun _ => rfl, fun h => c1 (fl (by decide) h), fun _ => (s2 (hw 2 (by kernel_rfl))).put, fun h => ((s3 (fl (by decide) h)).imp (fl (by decide))).far (Ne.symm (d2_3 (hw 2 (by kernel_rfl)) (fl (by decide) h))), fun h h' => d2_3 (fl (by decide) h) (fl (by decide) h'), fun _ => getD_set_true (hw 2 (by kernel_rfl)), fun h => getD_set_true (k5 (fl (by decide) h))⟩
    · refine stepJ (i := 5) rfl (fun K hK => ?_)
      obtain rfl := c1 (hw 1 (by kernel_rfl))
      obtain ⟨pp, rfl, hpp, ⟨g9, t9, y1, y2, y3, y4⟩, _⟩ := id (s3 (hw 3 (by kernel_rfl)))
      go_simp
      refine hK.out _ _ ⟨u12, _, u7, _, rfl, lo.far hpp, fun h => c0 (fl (by decide) h), fun _ => rfl, fun h => ((s2 (fl (by decide) h)).imp (fl (by decide))).far (d2_3 (fl (by decide) h) (hw 3 (by kernel_rfl))), fun _ => (s3 (hw 3 (by kernel_rfl))).put, fun h h' => d2_3 (fl (by decide) h) (fl (by decide) h'), fun h => getD_set_true (k4 (fl (by decide) h)), fun _ => getD_set_true (hw 3 (by kernel_rfl))⟩
  · rintro L a wx hall ⟨u12, u13, u7, u8, rfl, lo, c0, c1, s2, s3, d2_3, k4, k5⟩
    obtain rfl := c0 (hall 0 (by decide))
    obtain rfl := c1 (hall 1 (by decide))
    obtain ⟨p2, rfl, hp2, ⟨g2, z2, -, -, F2⟩, H2⟩ := s2 (hall 2 (by decide))
    have V2 := H2 (hall 4 (by decide))
    obtain ⟨p3, rfl, hp3, ⟨g3, z3, -, -, F3⟩, H3⟩ := s3 (hall 3 (by decide))
    have V3 := H3 (hall 5 (by decide))
    have n2_3 : p2 ≠ p3 := fun e => d2_3 (hall 2 (by decide)) (hall 3 (by decide)) (by rw [e])
    clear hall c0 c1 s2 H2 s3 H3 d2_3 k4 k5
    have S0 : LS w p2 p3 N b 1 b wx := ⟨lo, ⟨V2, F2⟩, ⟨V3, F3⟩⟩
    clear lo V2 V3 F2 F3 KB HW
    go_wp2_with fail
    go_loopg [15] k (fun r s15 wx => ∃ (j : Nat) (n : Int) (d c : Nat), j + r = k ∧ s15 = .int .i64 (j : Int) ∧ Hid (LwI b0 N j n d c) ∧ LS w p2 p3 n b (d : Int) (c : Int) wx)
    case atStart => exact ⟨0, N, 1, b0, by omega, rfl, Lib.hid (lwI_start HBp.out N), by rw [HB.out]; exact S0⟩
    case round =>
      clear S0
      obtain ⟨j, n, d, c, hjr, rfl, HI, S⟩ := hrel
      rcases gk with _ | r
      · obtain rfl : j = k := by omega
        have hlt : ¬ (j : Int) < count := by omega
        obtain ⟨e1, e2⟩ := lwI_end HBp.out HI.out
        rw [HQ.out] at e1 e2
        subst e1 e2
        obtain ⟨t1, t2⟩ := S.1.2.1.1
        obtain ⟨y1, y2⟩ := S.2.1.1
        obtain ⟨⟨r1, r2, r3, r4⟩, r5, r6, r7, r8⟩ := S.1.2.2.2
        go_wp2
        exact bodyPost_ret (v := ratV Q) (by simp [results, Tryz.results58, go_sem, r1, r2, r3, r4, ratV]) rfl ⟨rfl, below4s S.1.1.1 _ (by omega) _ _ _ _⟩
      · have hlt : (j : Int) < count := by omega
        obtain ⟨g, hg⟩ : ∃ g, Nat.gcd n.natAbs c = g := ⟨_, rfl⟩
        obtain ⟨HI2, gp, gn, gb⟩ := lwI_step HBp.out HI.out g hg
        have hcb : c ≤ b0 := Nat.le_of_dvd HBp.out HI.out.dv
        have hgb : g ≤ b0 := Nat.le_of_dvd HBp.out gb
        have hdk : d ≤ b0 ^ k := Nat.le_trans HI.out.dl (Nat.pow_le_pow_right HBp.out (by omega))
        have In := Lib.hid (show IsInt (.agg #[.bool (sg n), .string (mg n)]) n K from isInt_mg (Nat.lt_of_le_of_lt HI.out.le HNK.out) (by omega))
        have Ic := Lib.hid (show IsInt (.agg #[.bool (sg (c : Int)), .string (mg (c : Int))]) (c : Int) K from isInt_mg (by rw [Int.natAbs_natCast]; exact Nat.lt_of_le_of_lt hcb HBK.out) (by omega))
        have Ig := Lib.hid (show IsInt (.agg #[.bool (sg (g : Int)), .string (mg (g : Int))]) (g : Int) K from isInt_mg (by rw [Int.natAbs_natCast]; exact Nat.lt_of_le_of_lt hgb HBK.out) (by omega))
        have Id := Lib.hid (show IsInt (.agg #[.bool (sg (d : Int)), .string (mg (d : Int))]) (d : Int) K from isInt_mg (by rw [Int.natAbs_natCast]; exact Nat.lt_of_le_of_lt hdk HPK.out) (by omega))
        have Iq := Lib.hid (show IsInt (.agg #[.bool (sg ((b0 / g : Nat) : Int)), .string (mg ((b0 / g : Nat) : Int))]) ((b0 / g : Nat) : Int) K from isInt_mg (by rw [Int.natAbs_natCast]; exact Nat.lt_of_le_of_lt (Nat.div_le_self _ _) HBK.out) (by omega))
        have HG := Lib.hid (fun W => gcd_eq (w := W) (g := (g : Int)) In.out Ic.out (by rw [Int.natAbs_natCast, hg]))
        have gbz : (g : Int) ∣ b := by rw [← HB.out]; exact Int.natCast_dvd_natCast.2 gb
        have gpz : (0 : Int) < (g : Int) := by omega
        have HD1 := Lib.hid (fun W => ediv_eq (w := W) (q := ((b0 / g : Nat) : Int)) Ib.out Ig.out (by omega) (by rw [(qD_exact gpz gbz).1, ← HB.out, Int.natCast_ediv]) (qD_exact gpz gbz).2)
        have HD2 := Lib.hid (fun W => ediv_eq (w := W) In.out Ig.out (by omega) (qD_exact gpz gn).1 (qD_exact gpz gn).2)
        have HM := Lib.hid (fun W => imul_any _ _ _ _ K K W Id.out Iq.out)
        rw [← Int.natCast_mul] at HM
        have HI3 := Lib.hid HI2
        obtain ⟨n2, hn2⟩ : ∃ n2, n / (g : Int) = n2 := ⟨_, rfl⟩
        obtain ⟨f, hf⟩ : ∃ f, b0 / g = f := ⟨_, rfl⟩
        obtain ⟨d2, hd2⟩ : ∃ d2, d * f = d2 := ⟨_, rfl⟩
        rw [hf, hd2, hn2] at HI3
        simp only [hf, hd2] at HM
        simp only [hf] at HD1
        simp only [hn2] at HD2
        obtain ⟨dz, hdz⟩ : ∃ z : Int, (d : Int) = z := ⟨_, rfl⟩
        obtain ⟨cz, hcz⟩ : ∃ z : Int, (c : Int) = z := ⟨_, rfl⟩
        obtain ⟨gz, hgz⟩ : ∃ z : Int, (g : Int) = z := ⟨_, rfl⟩
        obtain ⟨fz, hfz⟩ : ∃ z : Int, (f : Int) = z := ⟨_, rfl⟩
        obtain ⟨d2z, hd2z⟩ : ∃ z : Int, (d2 : Int) = z := ⟨_, rfl⟩
        simp only [hcz, hgz] at HG
        simp only [hgz, hfz] at HD1
        simp only [hgz] at HD2
        simp only [hdz, hfz, hd2z] at HM
        rw [hdz, hcz] at S
        have HE := Lib.hid (And.intro hgz hd2z)
        have Hp2 := Lib.hid hp2
        have Hp3 := Lib.hid hp3
        have Hn := Lib.hid n2_3
        clear HI2 HI gp gn gb hcb hgb hdk In Ic Ig Id Iq gbz gpz hn2 hf hd2 hdz hcz hgz hfz hd2z hg hp2 hp3 n2_3
        obtain ⟨a1, a2⟩ := S.1.2.1.1
        obtain ⟨c1, c2⟩ := S.2.2.1
        obtain ⟨c3, c4⟩ := S.2.2.2
        go_wp2_with fail
        refine (HG.out _).mono ?_
        rintro e W1 ⟨rfl, b1⟩
        have S1 := (S.keep b1)
        clear S a1 a2 c1 c2 c3 c4 b1
        obtain ⟨c1, c2⟩ := S1.2.2.1
        obtain ⟨c3, c4⟩ := S1.2.2.2
        go_upto_region 5 with fail
        have S2 := S1.setC (y := gz) Hp3.out Hn.out
        clear S1 c1 c2 c3 c4
        obtain ⟨W2, hW2⟩ : ∃ W2, stI W1 p3 gz = W2 := ⟨_, rfl⟩
        rw [hW2] at S2
        unfold stI at hW2
        rw [hW2]
        clear hW2
        obtain ⟨e1, e2⟩ := S2.1.cells
        obtain ⟨c1, c2⟩ := S2.2.2.1
        go_wp2_with fail
        refine (HD1.out _).mono ?_
        rintro e W3 ⟨rfl, b3⟩
        have S3 := (S2.keep b3)
        clear S2 e1 e2 c1 c2 b3
        go_upto_region 6 with fail
        have hbl := below2 W3 (.cells #[.bool (sg fz), .string (mg fz)] 27) (.cells #[.bool (sg 0), .string (mg 0)] 27)
        have F4 := (Vr.new W3 fz 27).keep (below1 _ (.cells #[.bool (sg 0), .string (mg 0)] 27))
        have S4 := S3.keep hbl
        have hf3 := S3.1.1.2
        clear S3 hbl
        obtain ⟨W4, hW4⟩ : ∃ W4, (W3.alloc (.cells #[.bool (sg fz), .string (mg fz)] 27)).alloc (.cells #[.bool (sg 0), .string (mg 0)] 27) = W4 := ⟨_, rfl⟩
        rw [hW4] at S4 F4 ⊢
        clear hW4
        obtain ⟨p4, hp4⟩ : ∃ p4, W3.heap.size = p4 := ⟨_, rfl⟩
        rw [hp4] at F4 hf3 ⊢
        clear hp4
        obtain ⟨a1, a2⟩ := S4.1.2.1.1
        obtain ⟨a3, a4⟩ := S4.1.2.1.2
        obtain ⟨c1, c2⟩ := S4.2.2.1
        go_wp2_with fail
        refine (HD2.out _).mono ?_
        rintro e W5 ⟨rfl, b5⟩
        have S5 := S4.keep b5
        have F5 := F4.keep b5
        clear S4 F4 a1 a2 a3 a4 c1 c2 b5
        obtain ⟨a1, a2⟩ := S5.1.2.1.1
        obtain ⟨a3, a4⟩ := S5.1.2.1.2
        go_upto_region 7 with fail
        have S6 := S5.setN (y := n2) Hp2.out Hp3.out
        have F6 := F5.far (q := w.heap.size) (y := n2) (by omega)
        clear S5 F5 a1 a2 a3 a4
        obtain ⟨W6, hW6⟩ : ∃ W6, stI W5 w.heap.size n2 = W6 := ⟨_, rfl⟩
        rw [hW6] at S6 F6
        unfold stI at hW6
        rw [hW6]
        clear hW6
        obtain ⟨c1, c2⟩ := S6.2.1.1
        obtain ⟨f1, f2⟩ := F6.1
        go_wp2_with fail
        refine (HM.out _).mono ?_
        rintro e W7 ⟨rfl, b7⟩
        have S7 := S6.keep b7
        clear S6 F6 c1 c2 f1 f2 b7
        obtain ⟨c1, c2⟩ := S7.2.1.1
        obtain ⟨c3, c4⟩ := S7.2.1.2
        have S8 := S7.setD (y := d2z) Hp2.out Hn.out
        unfold stI at S8
        clear S7
        go_wp2_with fail
        go_roundg r
        case measure => omega
        case rel => exact ⟨j + 1, n2, d2, g, by omega, by go_num, HI3, by rw [HE.out.1, HE.out.2]; exact S8⟩
end Go.Proofs.YtgcogpfmhmmgdaaGreatDoor

namespace Go.Proofs.YtgcogpfmhmmgdaaGreatDoor
open Go.RowKit
set_option linter.unusedSimpArgs false

theorem IsInt.wider {v : Value} {z : Int} {k k' : Nat} (h : IsInt v z k) (hk : k ≤ k') (hk' : k' ≤ 10000000) : IsInt v z k' := by
  obtain ⟨g, s, h1, h2, h3, h4, _⟩ := h
  exact ⟨g, s, h1, h2, h3, Nat.lt_of_lt_of_le h4 (Nat.pow_le_pow_right (by omega) hk), hk'⟩
theorem IsInt.le {v : Value} {z : Int} {k : Nat} (h : IsInt v z k) : k ≤ 10000000 := by
  obtain ⟨_, _, _, _, _, _, h5⟩ := h
  exact h5
theorem IsInt.bd {v : Value} {z : Int} {k : Nat} (h : IsInt v z k) : z.natAbs < 4294967296 ^ k := by
  obtain ⟨_, _, _, _, _, h4, _⟩ := h
  exact h4
theorem one_int : IsInt (.agg #[.bool (sg 1), .string (mg 1)]) 1 1 := isInt_mg (by decide) (by omega)
end Go.Proofs.YtgcogpfmhmmgdaaGreatDoor

namespace Go.Proofs.YtgcogpfmhmmgdaaGreatDoor
open Go.RowKit
set_option linter.unusedSimpArgs false

theorem divInt_one (z : Int) : Rat.divInt z 1 = (z : Rat) := by rw [Rat.divInt_eq_div, Rat.intCast_one]; grind

set_option maxRecDepth 100000 in
set_option maxHeartbeats 3200000 in
theorem rof_any (v : Value) (z : Int) (k : Nat) (w : World) (h : IsInt v z k) : Calls Tryz.prog 119 #[v] w (RatOut w (z : Rat)) := by
  have Hv := Lib.hid h
  obtain ⟨na, sa, rfl, _⟩ := h
  have Up := Lib.hid (show IsUp (.agg #[.bool na, .string sa, .bool (sg 1), .string (mg 1)]) (z : Rat) (max k 1) from ⟨na, sa, _, _, z, 1, rfl, Hv.out.wider (by omega) (by have := Hv.out.le; omega), one_int.wider (by omega) (by have := Hv.out.le; omega), by omega, divInt_one z⟩)
  have P0 := ResRat.new (w.alloc (.cells #[.bool na, .string sa] 27))
  rw [World.size_alloc] at P0
  have B0 := below2 w (.cells #[.bool na, .string sa] 27) (.cells #[.bool false, .string ⟨#[]⟩, .bool false, .string ⟨#[]⟩] 33)
  go_enter Tryz.func119, Tryz.ntmps119
  go_upto_region 1 with fail
  go_region_held3 (fun W => W.cell? ⟨w.heap.size, 0, none⟩ = some (.bool na) ∧ W.cell? ⟨w.heap.size, 1, none⟩ = some (.string sa)) (first | exact keep2 (by assumption) (by assumption) | (constructor <;> (simp [go_sem]; done)) | go_keep)
    (first
      | (go_at_call 43; refine (iof_any 1 _ (by omega) (by omega)).mono ?_; rintro e W1 ⟨rfl, b1⟩)
      | (go_at_call 94; refine (lowest_any _ (z : Rat) (max k 1) _ Up.out).mono ?_; rintro e W2 ⟨rfl, b2⟩; obtain ⟨⟨r1, r2, r3, r4⟩, r5, r6, r7, r8⟩ := (P0.drew.keep b1).keep b2; unfold ratV))
  all_goals
    go_wp2
    exact bodyPost_ret (v := ratV (z : Rat)) (by simp [results, Tryz.results119, go_sem, r1, r2, r3, r4, ratV]) rfl ⟨rfl, below4s (below_more (below_more B0.drew (Nat.le_refl _) b1) (Nat.le_refl _) b2) _ (by omega) _ _ _ _⟩

def UpOut (w : World) (q : Rat) (k : Nat) (e : Ending) (w' : World) : Prop := ∃ v, e = .returned v ∧ IsUp v q k ∧ Below w.heap.size w w'
theorem IsUp.wider {v : Value} {q : Rat} {k k' : Nat} (h : IsUp v q k) (hk : k ≤ k') (hk' : k' ≤ 10000000) : IsUp v q k' := by
  obtain ⟨na, sa, nb, sb, n, d, h1, h2, h3, h4, h5⟩ := h
  exact ⟨na, sa, nb, sb, n, d, h1, h2.wider hk hk', h3.wider hk hk', h4, h5⟩
theorem cmpZ_pos0 {d : Int} (h : 0 < d) : cmpZ d 0 = 1 := by unfold cmpZ; rw [if_neg (by omega), if_pos h]
theorem cmpZ_neg0 {d : Int} (h : d < 0) : cmpZ d 0 = -1 := by unfold cmpZ; rw [if_pos h]
theorem ratBd_int0 : RatBd ((0 : Int) : Rat) 1 := by constructor <;> decide

set_option maxRecDepth 100000 in
set_option maxHeartbeats 3200000 in
theorem upright_any (v : Value) (q : Rat) (k : Nat) (w : World) (h : IsRat v q k) : Calls Tryz.prog 92 #[v] w (UpOut w q (max k 1)) := by
  obtain ⟨na, sa, nb, sb, n, d, rfl, hn, hd, hq⟩ := h
  have In := Lib.hid hn
  have Id := Lib.hid hd
  have hk := hn.le
  have S0 : RIn ((w.alloc (.cells #[.bool na, .string sa, .bool nb, .string sb] 33)).alloc (.cells #[.bool false, .string ⟨#[]⟩, .bool false, .string ⟨#[]⟩] 33)) w.heap.size na sa nb sb := by
    refine ⟨?_, ?_, ?_, ?_⟩ <;> simp [go_sem]
  have P0 := ResRat.new (w.alloc (.cells #[.bool na, .string sa, .bool nb, .string sb] 33))
  rw [World.size_alloc] at P0
  have B0 := below2 w (.cells #[.bool na, .string sa, .bool nb, .string sb] 33) (.cells #[.bool false, .string ⟨#[]⟩, .bool false, .string ⟨#[]⟩] 33)
  obtain ⟨c, Ec⟩ : ∃ c : Int, Hid (cmpZ d 0 = c) := ⟨_, Lib.hid rfl⟩
  clear hn hd
  go_enter Tryz.func92, Tryz.ntmps92
  go_wp2_with fail
  refine (icmp_eq Id.out zero_int Ec.out).mono ?_
  rintro e W1 ⟨rfl, b1⟩
  have S1 := S0.keep b1
  have P1 := P0.keep b1
  have B1 := below_more B0 (Nat.le_refl _) b1
  clear S0 P0 B0 b1
  rcases Int.lt_trichotomy d 0 with h0 | h0 | h0
  · have hc : c = -1 := by rw [← Ec.out]; exact cmpZ_neg0 h0
    have Hq := Lib.hid (show 0 < -d ∧ Rat.divInt (-n) (-d) = q from ⟨by omega, by rw [Rat.neg_divInt_neg]; exact hq⟩)
    clear hq h0 Ec
    subst hc
    obtain ⟨zn, En⟩ : ∃ z, Hid (-n = z) := ⟨_, Lib.hid rfl⟩
    obtain ⟨zd, Ed⟩ : ∃ z, Hid (-d = z) := ⟨_, Lib.hid rfl⟩
    have Hf := Lib.hid (show IsUp (.agg #[.bool (sg zn), .string (mg zn), .bool (sg zd), .string (mg zd)]) q (max k 1) from
      ⟨_, _, _, _, zn, zd, rfl, (isInt_mg (db_neg In.out.bd En.out) hk).wider (by omega) (by omega), (isInt_mg (db_neg Id.out.bd Ed.out) hk).wider (by omega) (by omega), by rw [← Ed.out]; exact Hq.out.1, by rw [← Ed.out, ← En.out]; exact Hq.out.2⟩)
    go_upto_region 5 with fail
    have S2 : RIn W1.drew w.heap.size na sa nb sb := S1
    go_region_held3 (fun W => W.cell? ⟨w.heap.size, 0, none⟩ = some (.bool na) ∧ W.cell? ⟨w.heap.size, 1, none⟩ = some (.string sa) ∧ W.cell? ⟨w.heap.size, 2, none⟩ = some (.bool nb) ∧ W.cell? ⟨w.heap.size, 3, none⟩ = some (.string sb)) (first | exact S1 | exact S2 | exact RIn.keep S2 (by assumption) | exact RIn.keep S3 (by assumption) | go_keep)
      (first
        | (go_at_call 48; (first | (with_reducible refine (ineg_eq In.out En.out).mono ?_); rintro e W2 ⟨rfl, b2⟩; have S3 := S2.keep b2; have P2 := P1.drew.keep b2 | (with_reducible refine (ineg_eq Id.out Ed.out).mono ?_); rintro e W3 ⟨rfl, b3⟩; obtain ⟨⟨r1, r2, r3, r4⟩, r5, r6, r7, r8⟩ := P2.keep b3)))
    all_goals
      go_wp2
      exact bodyPost_ret (v := .agg #[.bool (sg zn), .string (mg zn), .bool (sg zd), .string (mg zd)]) (by simp [results, Tryz.results92, go_sem, r1, r2, r3, r4]) rfl ⟨_, rfl, Hf.out, below4s (below_more (below_more B1.drew (Nat.le_refl _) b2) (Nat.le_refl _) b3) _ (by omega) _ _ _ _⟩
  · subst h0
    have hc : c = 0 := by rw [← Ec.out]; rfl
    have Hq := Lib.hid (show q = ((0 : Int) : Rat) by rw [← hq]; simp)
    clear hq Ec
    subst hc
    go_wp2_with fail
    refine (rof_any _ 0 1 _ zero_int).mono ?_
    rintro e W2 ⟨rfl, b2⟩
    obtain ⟨⟨r1, r2, r3, r4⟩, r5, r6, r7, r8⟩ := P1.keep b2
    unfold ratV
    go_wp2
    exact bodyPost_ret (v := ratV ((0 : Int) : Rat)) (by simp [results, Tryz.results92, go_sem, r1, r2, r3, r4, ratV]) rfl ⟨_, rfl, by rw [Hq.out]; exact (isUp_ratV ratBd_int0 (by omega)).wider (by omega) (by omega), below4s (below_more B1 (Nat.le_refl _) b2) _ (by omega) _ _ _ _⟩
  · have hc : c = 1 := by rw [← Ec.out]; exact cmpZ_pos0 h0
    have Hq := Lib.hid (show 0 < d ∧ Rat.divInt n d = q from ⟨h0, hq⟩)
    clear hq h0 Ec
    subst hc
    obtain ⟨⟨r1, r2, r3, r4⟩, r5, r6, r7, r8⟩ := id P1
    obtain ⟨t1, t2, t3, t4⟩ := id S1
    go_wp2_with fail
    exact bodyPost_ret (v := .agg #[.bool na, .string sa, .bool nb, .string sb]) (by simp [results, Tryz.results92, go_sem, r1, r2, r3, r4]) rfl ⟨_, rfl, ⟨na, sa, nb, sb, n, d, rfl, In.out.wider (by omega) (by omega), Id.out.wider (by omega) (by omega), Hq.out.1, Hq.out.2⟩, below4s B1 _ (by omega) _ _ _ _⟩

end Go.Proofs.YtgcogpfmhmmgdaaGreatDoor
