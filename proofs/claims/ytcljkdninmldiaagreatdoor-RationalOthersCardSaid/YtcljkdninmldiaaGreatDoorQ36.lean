/- What rational.Simplest returns. Condition: the integers have at most 10^6 digits to the base 2^32. The run of the two continued fractions at the numbers of the chapter's examples. Plain facts; no condition. What integer.isDecimal, integer.fromDecimal and integer.Parse return. Condition: the text has at most 65536 bytes (Parse), else ErrLimit. The decimal text of an integer and its digits: what Print writes, Parse reads; what Parse reads, Print writes. What rational.Print returns. Condition: the integers have at most 10^7 digits to the base 2^32. What rational.Parse returns. Condition: the text has at most 65536 bytes; the block 0 holds an integer (what strings.Cut asks). What groovelaw02.ratio returns. Condition: int64, the denominator is not 0. -/
import Derived.Test.YtcljkdninmldiaaGreatDoorQ35
import Derived.Test.YtcljkdninmldiaaGreatDoorQ17
import Derived.Test.YtcljkdninmldiaaGreatDoorQ07
import Derived.Test.YtcljkdninmldiaaGreatDoorQ34
import Derived.Test.YtcljkdninmldiaaGreatDoorQ24
import Derived.Test.YtcljkdninmldiaaGreatDoorQ01

namespace Go.Proofs.YtcljkdninmldiaaGreatDoor
open Go.RowKit
set_option linter.unusedSimpArgs false
set_option linter.unusedVariables false

/-- A variable whose number has come up, or not yet. -/
def HoldsUp (V : Value → Prop) (W : World) (p : Nat) : Prop := ∃ g1 s1 g2 s2, V (.agg #[.bool g1, .string s1, .bool g2, .string s2]) ∧ RIn W p g1 s1 g2 s2
def Sl (base : Nat) (V : Value → Prop) (F : Prop) (u : Value) (W : World) : Prop := ∃ p, u = .pointer (some ⟨p, 0, none⟩) ∧ base ≤ p ∧ (∃ g1 s1 g2 s2, FR W p g1 s1 g2 s2) ∧ (F → HoldsUp V W p)
theorem Sl.keep {base : Nat} {V : Value → Prop} {F : Prop} {u : Value} {W W' : World} (h : Sl base V F u W) (hb : Below W.heap.size W W') : Sl base V F u W' := by
  obtain ⟨p, h1, h2, ⟨g1, s1, g2, s2, h3⟩, h4⟩ := h
  refine ⟨p, h1, h2, ⟨g1, s1, g2, s2, h3.keep hb⟩, fun f => ?_⟩
  obtain ⟨a1, b1, a2, b2, h5, h6⟩ := h4 f
  exact ⟨a1, b1, a2, b2, h5, h6.keep hb⟩
theorem Sl.imp {base : Nat} {V : Value → Prop} {F F' : Prop} {u : Value} {W : World} (h : Sl base V F u W) (hf : F' → F) : Sl base V F' u W := by
  obtain ⟨p, h1, h2, h3, h4⟩ := h
  exact ⟨p, h1, h2, h3, fun f => h4 (hf f)⟩
theorem Sl.new {base : Nat} {V : Value → Prop} {F : Prop} {W : World} (hF : ¬F) (hb : base ≤ W.heap.size) : Sl base V F (.pointer (some ⟨W.heap.size, 0, none⟩)) (W.alloc (.cells #[.bool false, .string ⟨#[]⟩, .bool false, .string ⟨#[]⟩] 25)) := by
  refine ⟨_, rfl, hb, ⟨false, ⟨#[]⟩, false, ⟨#[]⟩, RIn.new rfl, ?_, ?_, ?_, ?_⟩, fun f => absurd f hF⟩ <;> simp [go_sem]
theorem Sl.ne_new {base : Nat} {V : Value → Prop} {F : Prop} {u : Value} {W : World} (h : Sl base V F u W) : u ≠ .pointer (some ⟨W.heap.size, 0, none⟩) := by
  obtain ⟨p, rfl, _, ⟨g1, s1, g2, s2, h3⟩, _⟩ := h
  have := h3.1.lt
  intro e
  injection e with e
  injection e with e
  injection e with e
  omega
theorem Sl.far {base q : Nat} {V : Value → Prop} {F : Prop} {u : Value} {W : World} (h : Sl base V F u W) (hne : u ≠ .pointer (some ⟨q, 0, none⟩)) (g1 g2 : Bool) (s1 s2 : ByteArray) : Sl base V F u (st4 W q g1 s1 g2 s2) := by
  obtain ⟨p, rfl, h2, ⟨a1, b1, a2, b2, h3⟩, h4⟩ := h
  have hpq : p ≠ q := fun e => hne (by rw [e])
  refine ⟨p, rfl, h2, ⟨a1, b1, a2, b2, h3.far hpq _ _ _ _⟩, fun f => ?_⟩
  obtain ⟨c1, d1, c2, d2, h5, h6⟩ := h4 f
  exact ⟨c1, d1, c2, d2, h5, (st4_far (by exact hpq)).trans h6.1, (st4_far (by exact hpq)).trans h6.2.1, (st4_far (by exact hpq)).trans h6.2.2.1, (st4_far (by exact hpq)).trans h6.2.2.2⟩
theorem Sl.put {base p : Nat} {V : Value → Prop} {F F' : Prop} {W : World} (h : Sl base V F (.pointer (some ⟨p, 0, none⟩)) W) {g1 g2 : Bool} {s1 s2 : ByteArray} (hu : V (.agg #[.bool g1, .string s1, .bool g2, .string s2])) : Sl base V F' (.pointer (some ⟨p, 0, none⟩)) (st4 W p g1 s1 g2 s2) := by
  obtain ⟨p', e, h2, ⟨a1, b1, a2, b2, h3⟩, _⟩ := h
  injection e with e
  injection e with e
  injection e with e
  subst e
  exact ⟨p, rfl, h2, ⟨_, _, _, _, h3.st4 g1 g2 s1 s2⟩, fun _ => ⟨_, _, _, _, hu, (h3.st4 g1 g2 s1 s2).1⟩⟩
theorem RIn.low {B p : Nat} {W W' : World} {g1 g2 : Bool} {s1 s2 : ByteArray} (h : RIn W p g1 s1 g2 s2) (hb : Below B W W') (hp : p < B) : RIn W' p g1 s1 g2 s2 :=
  ⟨(hb.cell hp).trans h.1, (hb.cell hp).trans h.2.1, (hb.cell hp).trans h.2.2.1, (hb.cell hp).trans h.2.2.2⟩
/-- What lies below all that the region makes. -/
def Lo (w : World) (na nb nc nd : Bool) (sa sb sc sd : ByteArray) (W : World) : Prop := RIn2 W w.heap.size (w.heap.size + 1) na sa nb sb nc sc nd sd ∧ ResRat W (w.heap.size + 1 + 1) ∧ Below w.heap.size w W ∧ w.heap.size + 1 + 1 + 1 ≤ W.heap.size
theorem Lo.keep {w W W' : World} {na nb nc nd : Bool} {sa sb sc sd : ByteArray} (h : Lo w na nb nc nd sa sb sc sd W) (hb : Below (w.heap.size + 1 + 1 + 1) W W') : Lo w na nb nc nd sa sb sc sd W' := by
  obtain ⟨h1, h2, h3, h4⟩ := h
  refine ⟨.mk (h1.fst.low hb (by omega)) (h1.snd.low hb (by omega)), ⟨h2.1.low hb (by omega), ?_, ?_, ?_, ?_⟩, h3.trans (hb.mono (by omega)), by have := hb.size; omega⟩
  · exact (hb.frozen (by dsimp only; omega)).trans h2.2.1
  · exact (hb.frozen (by dsimp only; omega)).trans h2.2.2.1
  · exact (hb.frozen (by dsimp only; omega)).trans h2.2.2.2.1
  · exact (hb.frozen (by dsimp only; omega)).trans h2.2.2.2.2
theorem isUp_neg {v : Value} {q : Rat} {k : Nat} (h : IsUp v q k) (hk : k + 1 ≤ 10000000) : IsUp (ratV (-q)) (-q) (k + 1) := by
  obtain ⟨_, _, _, _, n, d, _, h2, h3, _, rfl⟩ := h
  have hb := ratBd_divInt h2.bd h3.bd
  refine isUp_ratV ⟨?_, hb.2⟩ hk
  show (-(Rat.divInt n d).num).natAbs < _
  rw [Int.natAbs_neg]
  exact hb.1
theorem isUp_zero {K : Nat} (h1 : 1 ≤ K) (h2 : K ≤ 10000000) : IsUp (ratV 0) 0 K := (isUp_ratV (k := 1) (by constructor <;> decide) (by omega)).wider h1 h2

/-- What Simplest returns, with the error's number. -/
def SimRes (p q : Rat) (v : Value) (n : Int) : Prop :=
  (q < p ∧ v = .agg #[.bool false, .string ⟨#[]⟩, .bool false, .string ⟨#[]⟩] ∧ n = 10) ∨
  (p ≤ q ∧ n = 0 ∧ ((0 < p ∧ ∃ rn rd, SimOf p q rn rd ∧ v = raw rn rd) ∨ (q < 0 ∧ ∃ rn rd, SimOf (-q) (-p) rn rd ∧ v = ratV (-(Rat.divInt rn rd))) ∨ (p ≤ 0 ∧ 0 ≤ q ∧ v = ratV 0)))
theorem cmpQ_gt {p q : Rat} : 0 < cmpQ p q ↔ q < p := by
  unfold cmpQ
  constructor
  · intro h
    split at h
    · omega
    · split at h
      · assumption
      · omega
  · intro h
    rw [if_neg (Rat.not_lt.2 (Rat.le_of_lt h)), if_pos h]
    omega
theorem cmpQ_lt {p q : Rat} : cmpQ p q < 0 ↔ p < q := by
  unfold cmpQ
  constructor
  · intro h
    split at h
    · assumption
    · split at h <;> omega
  · intro h
    rw [if_pos h]
    omega

set_option maxRecDepth 100000 in
set_option maxHeartbeats 6400000 in
theorem simplest_any (v1 v2 : Value) (p q : Rat) (k : Nat) (w : World) (h1 : IsRat v1 p k) (h2 : IsRat v2 q k) (hk1 : 1 ≤ k) (hk : k ≤ 900000) :
    Calls Tryz.prog 8 #[v1, v2] w fun e w' => ∃ v n, SimRes p q v n ∧ e = .returned (.tuple #[v, .int .i64 n]) ∧ Below w.heap.size w w' := by
  have H1 := Lib.hid h1
  have H2 := Lib.hid h2
  obtain ⟨na, sa, nb, sb, -, -, rfl, -⟩ := h1
  obtain ⟨nc, sc, nd, sd, -, -, rfl, -⟩ := h2
  have S0 : RIn2 (((w.alloc (.cells #[.bool na, .string sa, .bool nb, .string sb] 25)).alloc (.cells #[.bool nc, .string sc, .bool nd, .string sd] 25)).alloc (.cells #[.bool false, .string ⟨#[]⟩, .bool false, .string ⟨#[]⟩] 25)) w.heap.size (w.heap.size + 1) na sa nb sb nc sc nd sd := by
    refine ⟨?_, ?_, ?_, ?_, ?_, ?_, ?_, ?_⟩ <;> simp [go_sem]
  have P0 := ResRat.new ((w.alloc (.cells #[.bool na, .string sa, .bool nb, .string sb] 25)).alloc (.cells #[.bool nc, .string sc, .bool nd, .string sd] 25))
  rw [World.size_alloc, World.size_alloc] at P0
  have B0 := below3 w (.cells #[.bool na, .string sa, .bool nb, .string sb] 25) (.cells #[.bool nc, .string sc, .bool nd, .string sd] 25) (.cells #[.bool false, .string ⟨#[]⟩, .bool false, .string ⟨#[]⟩] 25)
  obtain ⟨n1, En⟩ : ∃ n1, Hid (cmpQ p q = n1) := ⟨_, Lib.hid rfl⟩
  go_enter Tryz.func8, Tryz.ntmps8
  go_wp2_with fail
  refine (rcmp_any _ _ p q k _ H1.out H2.out (by omega)).mono ?_
  rw [En.out]
  rintro e W1 ⟨rfl, b1⟩
  have S1 := S0.keep b1
  have P1 := P0.keep b1
  have B1 := below_more B0 (Nat.le_refl _) b1
  clear S0 P0 B0 b1
  by_cases hn : 0 < n1
  · have Hn := Lib.hid (cmpQ_gt.1 (by rw [En.out]; exact hn))
    obtain ⟨⟨r1, r2, r3, r4⟩, r5, r6, r7, r8⟩ := P1
    go_wp2
    exact bodyPost_ret (v := .tuple #[.agg #[.bool false, .string ⟨#[]⟩, .bool false, .string ⟨#[]⟩], .int .i64 10]) (by simp [results, Tryz.results8, go_sem, r1, r2, r3, r4]) rfl ⟨_, 10, .inl ⟨Hn.out, rfl, rfl⟩, rfl, below4s B1 _ (by omega) _ _ _ _⟩
  · have Hn := Lib.hid (Rat.not_lt.1 fun h => hn (by have := cmpQ_gt.2 h; rw [En.out] at this; exact this))
    go_upto_region 3 with fail
    have HB := Lib.hid (show Lo w na nb nc nd sa sb sc sd W1.drew from ⟨S1, P1.drew, B1.drew, by have := P1.1.lt; show _ ≤ W1.heap.size; omega⟩)
    have hmx : Tryz.prog.follows .mixedOrders = true := by kernel_rfl
    generalize decide (0 < n1) = D0
    refine region_inv' (J := (fun L a wx => ∃ u6 u7 u8 u14 u15 u16 u17 u18 u19, a = { tmps := #[.agg #[.bool na, .string sa, .bool nb, .string sb], .agg #[.bool nc, .string sc, .bool nd, .string sd], .pointer (some ⟨w.heap.size, 0, none⟩), .pointer (some ⟨w.heap.size + 1, 0, none⟩), .pointer (some ⟨w.heap.size + 1 + 1, 0, none⟩), .int .i64 0, u6, u7, u8, .agg #[.bool na, .string sa, .bool nb, .string sb], .agg #[.bool nc, .string sc, .bool nd, .string sd], .int .i64 n1, .bool D0, undef, u14, u15, u16, u17, u18, u19, undef, undef, undef, undef, undef, undef, undef, undef, undef, undef, undef, undef, undef, undef, undef, undef, undef, undef], defers := [] } ∧ Lo w na nb nc nd sa sb sc sd wx ∧
      (L.getD 0 false = true → u14 = .agg #[.bool na, .string sa, .bool nb, .string sb]) ∧ (L.getD 1 false = true → IsUp u15 p k) ∧ (L.getD 2 false = true → u16 = .agg #[.bool nc, .string sc, .bool nd, .string sd]) ∧ (L.getD 3 false = true → IsUp u17 q k) ∧ (L.getD 4 false = true → u18 = .agg #[.bool false, .string ⟨#[]⟩]) ∧ (L.getD 5 false = true → u19 = ratV 0) ∧
      (L.getD 6 false = true → Sl (w.heap.size + 1 + 1 + 1) (fun v => IsUp v p k) (L.getD 9 false = true) u6 wx) ∧ (L.getD 7 false = true → Sl (w.heap.size + 1 + 1 + 1) (fun v => IsUp v q k) (L.getD 10 false = true) u7 wx) ∧ (L.getD 8 false = true → Sl (w.heap.size + 1 + 1 + 1) (fun v => v = ratV 0) (L.getD 11 false = true) u8 wx) ∧
      (L.getD 6 false = true → L.getD 7 false = true → u6 ≠ u7) ∧ (L.getD 6 false = true → L.getD 8 false = true → u6 ≠ u8) ∧ (L.getD 7 false = true → L.getD 8 false = true → u7 ≠ u8) ∧ (L.getD 9 false = true → L.getD 6 false = true) ∧ (L.getD 10 false = true → L.getD 7 false = true) ∧ (L.getD 11 false = true → L.getD 8 false = true))) hmx (by kernel_rfl) ?_ ?_ ?_
    · exact ⟨undef, undef, undef, undef, undef, undef, undef, undef, undef, rfl, HB.out, (fun h => absurd h (by decide)), (fun h => absurd h (by decide)), (fun h => absurd h (by decide)), (fun h => absurd h (by decide)), (fun h => absurd h (by decide)), (fun h => absurd h (by decide)), (fun h => absurd h (by decide)), (fun h => absurd h (by decide)), (fun h => absurd h (by decide)), (fun h => absurd h (by decide)), (fun h => absurd h (by decide)), (fun h => absurd h (by decide)), (fun h => absurd h (by decide)), (fun h => absurd h (by decide)), (fun h => absurd h (by decide))⟩
    · intro i hi L a wx hl hw ⟨u6, u7, u8, u14, u15, u16, u17, u18, u19, ha, lo, c0, c1, c2, c3, c4, c5, s6, s7, s8, d67, d68, d78, k9, k10, k11⟩
      subst ha
      obtain ⟨⟨q1, q2, q3, q4, q5, q6, q7, q8⟩, -⟩ := id lo
      clear HB S1 P1 B1
      have hi' : i = 0 ∨ i = 1 ∨ i = 2 ∨ i = 3 ∨ i = 4 ∨ i = 5 ∨ i = 6 ∨ i = 7 ∨ i = 8 ∨ i = 9 ∨ i = 10 ∨ i = 11 := by
        have : i < 12 := hi
        omega
      rcases hi' with rfl | rfl | rfl | rfl | rfl | rfl | rfl | rfl | rfl | rfl | rfl | rfl
      · refine stepJ (i := 0) rfl (fun K hK => ?_)
        go_simp
        refine hK.out _ _ ⟨u6, u7, u8, _, u15, u16, u17, u18, u19, rfl, lo, fun _ => rfl, fun h => c1 (fl (by decide) h), fun h => c2 (fl (by decide) h), fun h => c3 (fl (by decide) h), fun h => c4 (fl (by decide) h), fun h => c5 (fl (by decide) h), fun h => ((s6 (fl (by decide) h)).imp (fl (by decide))), fun h => ((s7 (fl (by decide) h)).imp (fl (by decide))), fun h => ((s8 (fl (by decide) h)).imp (fl (by decide))), fun h h' => d67 (fl (by decide) h) (fl (by decide) h'), fun h h' => d68 (fl (by decide) h) (fl (by decide) h'), fun h h' => d78 (fl (by decide) h) (fl (by decide) h'), fun h => getD_set_true (k9 (fl (by decide) h)), fun h => getD_set_true (k10 (fl (by decide) h)), fun h => getD_set_true (k11 (fl (by decide) h))⟩
      · refine stepJ (i := 1) rfl (fun K hK => ?_)
        obtain rfl := c0 (hw 0 (by kernel_rfl))
        go_simp
        go_at_call 24
        refine (upright_any _ p k _ H1.out).mono ?_
        rintro e W2 ⟨v2, rfl, hup, b2⟩
        go_wp2_with fail
        refine hK.out _ _ ⟨u6, u7, u8, _, v2, u16, u17, u18, u19, rfl, lo.keep (b2.mono lo.2.2.2), fun _ => rfl, fun _ => hup.wider (by omega) (by omega), fun h => c2 (fl (by decide) h), fun h => c3 (fl (by decide) h), fun h => c4 (fl (by decide) h), fun h => c5 (fl (by decide) h), fun h => ((s6 (fl (by decide) h)).imp (fl (by decide))).keep b2, fun h => ((s7 (fl (by decide) h)).imp (fl (by decide))).keep b2, fun h => ((s8 (fl (by decide) h)).imp (fl (by decide))).keep b2, fun h h' => d67 (fl (by decide) h) (fl (by decide) h'), fun h h' => d68 (fl (by decide) h) (fl (by decide) h'), fun h h' => d78 (fl (by decide) h) (fl (by decide) h'), fun h => getD_set_true (k9 (fl (by decide) h)), fun h => getD_set_true (k10 (fl (by decide) h)), fun h => getD_set_true (k11 (fl (by decide) h))⟩
      · refine stepJ (i := 2) rfl (fun K hK => ?_)
        go_simp
        refine hK.out _ _ ⟨u6, u7, u8, u14, u15, _, u17, u18, u19, rfl, lo, fun h => c0 (fl (by decide) h), fun h => c1 (fl (by decide) h), fun _ => rfl, fun h => c3 (fl (by decide) h), fun h => c4 (fl (by decide) h), fun h => c5 (fl (by decide) h), fun h => ((s6 (fl (by decide) h)).imp (fl (by decide))), fun h => ((s7 (fl (by decide) h)).imp (fl (by decide))), fun h => ((s8 (fl (by decide) h)).imp (fl (by decide))), fun h h' => d67 (fl (by decide) h) (fl (by decide) h'), fun h h' => d68 (fl (by decide) h) (fl (by decide) h'), fun h h' => d78 (fl (by decide) h) (fl (by decide) h'), fun h => getD_set_true (k9 (fl (by decide) h)), fun h => getD_set_true (k10 (fl (by decide) h)), fun h => getD_set_true (k11 (fl (by decide) h))⟩
      · refine stepJ (i := 3) rfl (fun K hK => ?_)
        obtain rfl := c2 (hw 2 (by kernel_rfl))
        go_simp
        go_at_call 24
        refine (upright_any _ q k _ H2.out).mono ?_
        rintro e W2 ⟨v2, rfl, hup, b2⟩
        go_wp2_with fail
        refine hK.out _ _ ⟨u6, u7, u8, u14, u15, _, v2, u18, u19, rfl, lo.keep (b2.mono lo.2.2.2), fun h => c0 (fl (by decide) h), fun h => c1 (fl (by decide) h), fun _ => rfl, fun _ => hup.wider (by omega) (by omega), fun h => c4 (fl (by decide) h), fun h => c5 (fl (by decide) h), fun h => ((s6 (fl (by decide) h)).imp (fl (by decide))).keep b2, fun h => ((s7 (fl (by decide) h)).imp (fl (by decide))).keep b2, fun h => ((s8 (fl (by decide) h)).imp (fl (by decide))).keep b2, fun h h' => d67 (fl (by decide) h) (fl (by decide) h'), fun h h' => d68 (fl (by decide) h) (fl (by decide) h'), fun h h' => d78 (fl (by decide) h) (fl (by decide) h'), fun h => getD_set_true (k9 (fl (by decide) h)), fun h => getD_set_true (k10 (fl (by decide) h)), fun h => getD_set_true (k11 (fl (by decide) h))⟩
      · refine stepJ (i := 4) rfl (fun K hK => ?_)
        go_simp
        refine hK.out _ _ ⟨u6, u7, u8, u14, u15, u16, u17, _, u19, rfl, lo, fun h => c0 (fl (by decide) h), fun h => c1 (fl (by decide) h), fun h => c2 (fl (by decide) h), fun h => c3 (fl (by decide) h), fun _ => rfl, fun h => c5 (fl (by decide) h), fun h => ((s6 (fl (by decide) h)).imp (fl (by decide))), fun h => ((s7 (fl (by decide) h)).imp (fl (by decide))), fun h => ((s8 (fl (by decide) h)).imp (fl (by decide))), fun h h' => d67 (fl (by decide) h) (fl (by decide) h'), fun h h' => d68 (fl (by decide) h) (fl (by decide) h'), fun h h' => d78 (fl (by decide) h) (fl (by decide) h'), fun h => getD_set_true (k9 (fl (by decide) h)), fun h => getD_set_true (k10 (fl (by decide) h)), fun h => getD_set_true (k11 (fl (by decide) h))⟩
      · refine stepJ (i := 5) rfl (fun K hK => ?_)
        obtain rfl := c4 (hw 4 (by kernel_rfl))
        go_simp
        go_at_call 25
        refine (rof_any _ 0 1 _ zero_int).mono ?_
        rintro e W2 ⟨rfl, b2⟩
        go_wp2_with fail
        refine hK.out _ _ ⟨u6, u7, u8, u14, u15, u16, u17, _, _, rfl, lo.keep (b2.mono lo.2.2.2), fun h => c0 (fl (by decide) h), fun h => c1 (fl (by decide) h), fun h => c2 (fl (by decide) h), fun h => c3 (fl (by decide) h), fun _ => rfl, fun _ => rfl, fun h => ((s6 (fl (by decide) h)).imp (fl (by decide))).keep b2, fun h => ((s7 (fl (by decide) h)).imp (fl (by decide))).keep b2, fun h => ((s8 (fl (by decide) h)).imp (fl (by decide))).keep b2, fun h h' => d67 (fl (by decide) h) (fl (by decide) h'), fun h h' => d68 (fl (by decide) h) (fl (by decide) h'), fun h h' => d78 (fl (by decide) h) (fl (by decide) h'), fun h => getD_set_true (k9 (fl (by decide) h)), fun h => getD_set_true (k10 (fl (by decide) h)), fun h => getD_set_true (k11 (fl (by decide) h))⟩
      · refine stepJ (i := 6) rfl (fun K hK => ?_)
        go_simp
        refine hK.out _ _ ⟨_, u7, u8, u14, u15, u16, u17, u18, u19, rfl, lo.keep ((below1 wx _).mono lo.2.2.2), fun h => c0 (fl (by decide) h), fun h => c1 (fl (by decide) h), fun h => c2 (fl (by decide) h), fun h => c3 (fl (by decide) h), fun h => c4 (fl (by decide) h), fun h => c5 (fl (by decide) h), fun _ => Sl.new (fun h => absurd ((k9 (fl (by decide) h)).symm.trans hl) (by decide)) lo.2.2.2, fun h => ((s7 (fl (by decide) h)).imp (fl (by decide))).keep (below1 wx _), fun h => ((s8 (fl (by decide) h)).imp (fl (by decide))).keep (below1 wx _), fun _ h' => Ne.symm (s7 (fl (by decide) h')).ne_new, fun _ h' => Ne.symm (s8 (fl (by decide) h')).ne_new, fun h h' => d78 (fl (by decide) h) (fl (by decide) h'), fun h => getD_set_true (k9 (fl (by decide) h)), fun h => getD_set_true (k10 (fl (by decide) h)), fun h => getD_set_true (k11 (fl (by decide) h))⟩
      · refine stepJ (i := 7) rfl (fun K hK => ?_)
        go_simp
        refine hK.out _ _ ⟨u6, _, u8, u14, u15, u16, u17, u18, u19, rfl, lo.keep ((below1 wx _).mono lo.2.2.2), fun h => c0 (fl (by decide) h), fun h => c1 (fl (by decide) h), fun h => c2 (fl (by decide) h), fun h => c3 (fl (by decide) h), fun h => c4 (fl (by decide) h), fun h => c5 (fl (by decide) h), fun h => ((s6 (fl (by decide) h)).imp (fl (by decide))).keep (below1 wx _), fun _ => Sl.new (fun h => absurd ((k10 (fl (by decide) h)).symm.trans hl) (by decide)) lo.2.2.2, fun h => ((s8 (fl (by decide) h)).imp (fl (by decide))).keep (below1 wx _), fun h _ => (s6 (fl (by decide) h)).ne_new, fun h h' => d68 (fl (by decide) h) (fl (by decide) h'), fun _ h' => Ne.symm (s8 (fl (by decide) h')).ne_new, fun h => getD_set_true (k9 (fl (by decide) h)), fun h => getD_set_true (k10 (fl (by decide) h)), fun h => getD_set_true (k11 (fl (by decide) h))⟩
      · refine stepJ (i := 8) rfl (fun K hK => ?_)
        go_simp
        refine hK.out _ _ ⟨u6, u7, _, u14, u15, u16, u17, u18, u19, rfl, lo.keep ((below1 wx _).mono lo.2.2.2), fun h => c0 (fl (by decide) h), fun h => c1 (fl (by decide) h), fun h => c2 (fl (by decide) h), fun h => c3 (fl (by decide) h), fun h => c4 (fl (by decide) h), fun h => c5 (fl (by decide) h), fun h => ((s6 (fl (by decide) h)).imp (fl (by decide))).keep (below1 wx _), fun h => ((s7 (fl (by decide) h)).imp (fl (by decide))).keep (below1 wx _), fun _ => Sl.new (fun h => absurd ((k11 (fl (by decide) h)).symm.trans hl) (by decide)) lo.2.2.2, fun h h' => d67 (fl (by decide) h) (fl (by decide) h'), fun h _ => (s6 (fl (by decide) h)).ne_new, fun h _ => (s7 (fl (by decide) h)).ne_new, fun h => getD_set_true (k9 (fl (by decide) h)), fun h => getD_set_true (k10 (fl (by decide) h)), fun h => getD_set_true (k11 (fl (by decide) h))⟩
      · refine stepJ (i := 9) rfl (fun K hK => ?_)
        obtain ⟨pp, rfl, hpp, ⟨a1, b1, a2, b2, ⟨⟨y1, y2, y3, y4⟩, y5, y6, y7, y8⟩⟩, _⟩ := id (s6 (hw 6 (by kernel_rfl)))
        have hup := c1 (hw 1 (by kernel_rfl))
        obtain ⟨g1, t1, g2, t2, -, -, rfl, -⟩ := id hup
        go_simp
        refine hK.out _ _ ⟨_, u7, u8, u14, _, u16, u17, u18, u19, rfl, lo.keep (st4_below (Below.refl _ _) pp hpp _ _ _ _), fun h => c0 (fl (by decide) h), fun _ => hup, fun h => c2 (fl (by decide) h), fun h => c3 (fl (by decide) h), fun h => c4 (fl (by decide) h), fun h => c5 (fl (by decide) h), fun _ => (s6 (hw 6 (by kernel_rfl))).put hup, fun h => ((s7 (fl (by decide) h)).imp (fl (by decide))).far (Ne.symm (d67 (hw 6 (by kernel_rfl)) (fl (by decide) h))) _ _ _ _, fun h => ((s8 (fl (by decide) h)).imp (fl (by decide))).far (Ne.symm (d68 (hw 6 (by kernel_rfl)) (fl (by decide) h))) _ _ _ _, fun h h' => d67 (fl (by decide) h) (fl (by decide) h'), fun h h' => d68 (fl (by decide) h) (fl (by decide) h'), fun h h' => d78 (fl (by decide) h) (fl (by decide) h'), fun _ => getD_set_true (hw 6 (by kernel_rfl)), fun h => getD_set_true (k10 (fl (by decide) h)), fun h => getD_set_true (k11 (fl (by decide) h))⟩
      · refine stepJ (i := 10) rfl (fun K hK => ?_)
        obtain ⟨pp, rfl, hpp, ⟨a1, b1, a2, b2, ⟨⟨y1, y2, y3, y4⟩, y5, y6, y7, y8⟩⟩, _⟩ := id (s7 (hw 7 (by kernel_rfl)))
        have hup := c3 (hw 3 (by kernel_rfl))
        obtain ⟨g1, t1, g2, t2, -, -, rfl, -⟩ := id hup
        go_simp
        refine hK.out _ _ ⟨u6, _, u8, u14, u15, u16, _, u18, u19, rfl, lo.keep (st4_below (Below.refl _ _) pp hpp _ _ _ _), fun h => c0 (fl (by decide) h), fun h => c1 (fl (by decide) h), fun h => c2 (fl (by decide) h), fun _ => hup, fun h => c4 (fl (by decide) h), fun h => c5 (fl (by decide) h), fun h => ((s6 (fl (by decide) h)).imp (fl (by decide))).far (d67 (fl (by decide) h) (hw 7 (by kernel_rfl))) _ _ _ _, fun _ => (s7 (hw 7 (by kernel_rfl))).put hup, fun h => ((s8 (fl (by decide) h)).imp (fl (by decide))).far (Ne.symm (d78 (hw 7 (by kernel_rfl)) (fl (by decide) h))) _ _ _ _, fun h h' => d67 (fl (by decide) h) (fl (by decide) h'), fun h h' => d68 (fl (by decide) h) (fl (by decide) h'), fun h h' => d78 (fl (by decide) h) (fl (by decide) h'), fun h => getD_set_true (k9 (fl (by decide) h)), fun _ => getD_set_true (hw 7 (by kernel_rfl)), fun h => getD_set_true (k11 (fl (by decide) h))⟩
      · refine stepJ (i := 11) rfl (fun K hK => ?_)
        obtain ⟨pp, rfl, hpp, ⟨a1, b1, a2, b2, ⟨⟨y1, y2, y3, y4⟩, y5, y6, y7, y8⟩⟩, _⟩ := id (s8 (hw 8 (by kernel_rfl)))
        obtain rfl := c5 (hw 5 (by kernel_rfl))
        have hup : (fun v => v = ratV 0) (.agg #[.bool (sg (0 : Rat).num), .string (mg (0 : Rat).num), .bool (sg ((0 : Rat).den : Int)), .string (mg ((0 : Rat).den : Int))]) := rfl
        unfold ratV
        go_simp
        refine hK.out _ _ ⟨u6, u7, _, u14, u15, u16, u17, u18, _, rfl, lo.keep (st4_below (Below.refl _ _) pp hpp _ _ _ _), fun h => c0 (fl (by decide) h), fun h => c1 (fl (by decide) h), fun h => c2 (fl (by decide) h), fun h => c3 (fl (by decide) h), fun h => c4 (fl (by decide) h), fun _ => rfl, fun h => ((s6 (fl (by decide) h)).imp (fl (by decide))).far (d68 (fl (by decide) h) (hw 8 (by kernel_rfl))) _ _ _ _, fun h => ((s7 (fl (by decide) h)).imp (fl (by decide))).far (d78 (fl (by decide) h) (hw 8 (by kernel_rfl))) _ _ _ _, fun _ => (s8 (hw 8 (by kernel_rfl))).put hup, fun h h' => d67 (fl (by decide) h) (fl (by decide) h'), fun h h' => d68 (fl (by decide) h) (fl (by decide) h'), fun h h' => d78 (fl (by decide) h) (fl (by decide) h'), fun h => getD_set_true (k9 (fl (by decide) h)), fun h => getD_set_true (k10 (fl (by decide) h)), fun _ => getD_set_true (hw 8 (by kernel_rfl))⟩
    · rintro L a wx hall ⟨u6, u7, u8, u14, u15, u16, u17, u18, u19, rfl, lo, c0, c1, c2, c3, c4, c5, s6, s7, s8, d67, d68, d78, k9, k10, k11⟩
      obtain ⟨p6, rfl, x6, _, h6⟩ := s6 (hall 6 (by decide))
      obtain ⟨p7, rfl, x7, _, h7⟩ := s7 (hall 7 (by decide))
      obtain ⟨p8, rfl, x8, _, h8⟩ := s8 (hall 8 (by decide))
      obtain ⟨g1, t1, g2, t2, U6, R6⟩ := h6 (hall 9 (by decide))
      obtain ⟨g3, t3, g4, t4, U7, R7⟩ := h7 (hall 10 (by decide))
      obtain ⟨g5, t5, g6, t6, U8, R8⟩ := h8 (hall 11 (by decide))
      have K6 := Lib.hid (show IsUp _ p k from U6)
      have K7 := Lib.hid (show IsUp _ q k from U7)
      have K8 := Lib.hid (show IsRat (.agg #[.bool g5, .string t5, .bool g6, .string t6]) 0 k from (show _ = ratV 0 from U8) ▸ (isUp_zero hk1 (by omega)).rat)
      have E8 := Lib.hid (show Value.agg #[.bool g5, .string t5, .bool g6, .string t6] = ratV 0 from U8)
      obtain ⟨-, P2, B2, -⟩ := lo
      clear HB S1 P1 B1 s6 s7 s8 d67 d68 d78 k9 k10 k11 c0 c1 c2 c3 c4 c5 hall h6 h7 h8 U6 U7 U8
      obtain ⟨n2, En2⟩ : ∃ n2, Hid (cmpQ p 0 = n2) := ⟨_, Lib.hid rfl⟩
      obtain ⟨n3, En3⟩ : ∃ n3, Hid (cmpQ q 0 = n3) := ⟨_, Lib.hid rfl⟩
      dsimp only
      obtain ⟨e1, e2, e3, e4⟩ := id R6
      obtain ⟨e5, e6, e7, e8⟩ := id R8
      go_wp2_with fail
      refine (rcmp_any _ _ p 0 k _ K6.out.rat K8.out (by omega)).mono ?_
      rw [En2.out]
      rintro e W3 ⟨rfl, b3⟩
      have R6' := R6.keep b3
      have R7' := R7.keep b3
      have R8' := R8.keep b3
      have P3 := P2.keep b3
      have B3 := below_more B2 (Nat.le_refl _) b3
      clear e1 e2 e3 e4 e5 e6 e7 e8 R6 R7 R8 P2 B2 b3
      by_cases hn2 : 0 < n2
      · have Hp := Lib.hid (cmpQ_gt.1 (by rw [En2.out]; exact hn2))
        obtain ⟨e1, e2, e3, e4⟩ := id R6'
        obtain ⟨e5, e6, e7, e8⟩ := id R7'
        go_wp2_with fail
        refine (spos_up _ _ p q k _ K6.out K7.out Hp.out Hn.out (by omega)).mono ?_
        rintro e W4 ⟨rn, rd, hs, hr, rfl, b4⟩
        obtain ⟨⟨r1, r2, r3, r4⟩, r5, r6, r7, r8⟩ := P3.keep b4
        unfold raw
        go_wp2
        exact bodyPost_ret (v := .tuple #[raw rn rd, .int .i64 0]) (by simp [results, Tryz.results8, go_sem, r1, r2, r3, r4, raw]) rfl ⟨_, 0, .inr ⟨Hn.out, rfl, .inl ⟨Hp.out, rn, rd, hs, rfl⟩⟩, rfl, below4s (below_more B3 (Nat.le_refl _) b4) _ (by omega) _ _ _ _⟩
      · have Hp := Lib.hid (Rat.not_lt.1 fun h => hn2 (by have := cmpQ_gt.2 h; rw [En2.out] at this; exact this))
        obtain ⟨e1, e2, e3, e4⟩ := id R7'
        obtain ⟨e5, e6, e7, e8⟩ := id R8'
        go_wp2_with fail
        refine (rcmp_any _ _ q 0 k _ K7.out.rat K8.out (by omega)).mono ?_
        rw [En3.out]
        rintro e W4 ⟨rfl, b4⟩
        have R6 := R6'.keep b4
        have R7 := R7'.keep b4
        have R8 := R8'.keep b4
        have P4 := P3.keep b4
        have B4 := below_more B3 (Nat.le_refl _) b4
        clear e1 e2 e3 e4 e5 e6 e7 e8 R6' R7' R8' P3 B3 b4
        by_cases hn3 : n3 < 0
        · have Hq := Lib.hid (cmpQ_lt.1 (by rw [En3.out]; exact hn3))
          have Un := Lib.hid (isUp_neg K7.out (by omega))
          have Um := Lib.hid (isUp_neg K6.out (by omega))
          have Hnq := Lib.hid (show (0 : Rat) < -q by have := Hq.out; grind)
          have Hnp := Lib.hid (Rat.neg_le_neg Hn.out)
          have S4 : RIn2 W4.drew p7 p6 g3 t3 g4 t4 g1 t1 g2 t2 := .mk R7 R6
          have P5 := P4.drew
          have hn7 : p7 ≠ w.heap.size + 1 + 1 := by omega
          have hn6 : p6 ≠ w.heap.size + 1 + 1 := by omega
          have B5 := B4.drew
          go_upto_region 7 with fail
          go_region_held3 (fun W => W.cell? ⟨p7, 0, none⟩ = some (.bool g3) ∧ W.cell? ⟨p7, 1, none⟩ = some (.string t3) ∧ W.cell? ⟨p7, 2, none⟩ = some (.bool g4) ∧ W.cell? ⟨p7, 3, none⟩ = some (.string t4) ∧ W.cell? ⟨p6, 0, none⟩ = some (.bool g1) ∧ W.cell? ⟨p6, 1, none⟩ = some (.string t1) ∧ W.cell? ⟨p6, 2, none⟩ = some (.bool g2) ∧ W.cell? ⟨p6, 3, none⟩ = some (.string t2)) ((show RIn2 _ p7 p6 g3 t3 g4 t4 g1 t1 g2 t2; first | with_reducible exact S4 | with_reducible exact S5 | with_reducible exact S6 | with_reducible exact S7 | with_reducible exact S8 | exact (((S8.set _ _ hn7 hn6).set _ _ hn7 hn6).set _ _ hn7 hn6).set _ _ hn7 hn6 | exact .mk R7 R6))
            (first
              | (go_at_call_of 27 (Value.agg #[Value.bool g3, Value.string t3, Value.bool g4, Value.string t4]); refine (rneg_any _ q (-q) k _ K7.out.rat (by omega) rfl).mono ?_; rintro e W5 ⟨rfl, b5⟩; have S5 := S4.keep b5; have P6 := P5.keep b5; have B6 := below_more B5 (Nat.le_refl _) b5)
              | (go_at_call_of 27 (Value.agg #[Value.bool g1, Value.string t1, Value.bool g2, Value.string t2]); refine (rneg_any _ p (-p) k _ K6.out.rat (by omega) rfl).mono ?_; rintro e W6 ⟨rfl, b6⟩; have S6 := S5.keep b6; have P7 := P6.keep b6; have B7 := below_more B6 (Nat.le_refl _) b6)
              | (go_at_call 26; refine (spos_up _ _ (-q) (-p) (k + 1) _ Un.out Um.out Hnq.out Hnp.out (by omega)).mono ?_; rintro e W7 ⟨rn, rd, hs, hr, rfl, b7⟩; obtain ⟨z, Ez⟩ : ∃ z, Hid (-(Rat.divInt rn rd) = z) := ⟨_, Lib.hid rfl⟩; have S7 := S6.keep b7; have P8 := P7.keep b7; have B8 := below_more B7 (Nat.le_refl _) b7)
              | (go_at_call 27; refine (rneg_any _ (Rat.divInt rn rd) z (k + 1) _ hr (by omega) Ez.out).mono ?_; rintro e W8 ⟨rfl, b8⟩; have S8 := S7.keep b8; unfold ratV; obtain ⟨⟨r1, r2, r3, r4⟩, r5, r6, r7, r8⟩ := P8.keep b8))
          all_goals
            go_wp2
            exact bodyPost_ret (v := .tuple #[ratV z, .int .i64 0]) (by simp [results, Tryz.results8, go_sem, r1, r2, r3, r4, ratV]) rfl ⟨_, 0, .inr ⟨Hn.out, rfl, .inr (.inl ⟨Hq.out, rn, rd, hs, by rw [Ez.out]⟩)⟩, rfl, below4s (below_more B8 (Nat.le_refl _) b8) _ (by omega) _ _ _ _⟩
        · have Hq := Lib.hid (Rat.not_lt.1 fun h => hn3 (by have := cmpQ_lt.2 h; rw [En3.out] at this; exact this))
          obtain ⟨e5, e6, e7, e8⟩ := id R8
          obtain ⟨⟨r1, r2, r3, r4⟩, r5, r6, r7, r8⟩ := P4
          go_wp2
          exact bodyPost_ret (v := .tuple #[.agg #[.bool g5, .string t5, .bool g6, .string t6], .int .i64 0]) (by simp [results, Tryz.results8, go_sem, r1, r2, r3, r4]) rfl ⟨_, 0, .inr ⟨Hn.out, rfl, .inr (.inr ⟨Hp.out, Hq.out, E8.out⟩)⟩, rfl, below4s B4 _ (by omega) _ _ _ _⟩
end Go.Proofs.YtcljkdninmldiaaGreatDoor

namespace Go.Proofs.YtcljkdninmldiaaGreatDoor
open Go.RowKit

theorem Sim.inv {a b c d ln ld nn nd rn rd : Int} (h : Sim a b c d ln ld nn nd rn rd) :
    (a % b = 0 ∧ rn = a / b * nn + ln ∧ rd = a / b * nd + ld) ∨ (a % b ≠ 0 ∧ a / b ≠ c / d ∧ rn = (a / b + 1) * nn + ln ∧ rd = (a / b + 1) * nd + ld) ∨
    (a % b ≠ 0 ∧ a / b = c / d ∧ Sim d (c % d) b (a % b) nn nd (a / b * nn + ln) (a / b * nd + ld) rn rd) := by
  cases h with
  | whole h => exact .inl ⟨h, rfl, rfl⟩
  | above h h2 => exact .inr (.inl ⟨h, h2, rfl, rfl⟩)
  | more h h2 k => exact .inr (.inr ⟨h, h2, k⟩)
theorem quo_mul {x y m : Int} (hm : 0 < m) : x * m / (y * m) = x / y := Int.mul_ediv_mul_of_pos_left _ _ hm
theorem rem_mul {x y m : Int} (hm : 0 < m) : x * m % (y * m) = x % y * m := by
  rw [Int.mul_comm x m, Int.mul_comm y m, Int.mul_emod_mul_of_pos _ _ hm, Int.mul_comm]
theorem sim_third {x y z u : Int} (hxy : x / y = 0 ∧ x % y = x ∧ y / x = 3 ∧ 0 < x) (hzu : z / u = 0 ∧ z % u = z ∧ u / z = 2 ∧ u % z = 1) {m j rn rd : Int} (hm : 0 < m) (hj : 0 < j)
    (h : Sim (x * m) (y * m) (z * j) (u * j) 0 1 1 0 rn rd) : rn = 1 ∧ rd = 3 := by
  obtain ⟨a1, a2, a3, a4⟩ := hxy
  obtain ⟨b1, b2, b3, b4⟩ := hzu
  have hx : 0 < x * m := Int.mul_pos a4 hm
  rcases h.inv with ⟨h1, _⟩ | ⟨_, h2, _⟩ | ⟨_, _, h3⟩
  · rw [rem_mul hm, a2] at h1; omega
  · rw [quo_mul hm, quo_mul hj, a1, b1] at h2; omega
  · rw [rem_mul hm, rem_mul hj, quo_mul hm, a1, a2, b2] at h3
    rcases h3.inv with ⟨h1, _⟩ | ⟨_, h2, h4, h5⟩ | ⟨_, h2, _⟩
    · rw [rem_mul hj, b4] at h1; omega
    · rw [quo_mul hj, b3] at h4 h5
      omega
    · rw [quo_mul hj, quo_mul hm, b3, a3] at h2; omega
theorem divInt_cross {a b n d : Int} (hb : 0 < b) (hd : 0 < d) (h : Rat.divInt a b = Rat.divInt n d) : a * d = n * b := (Rat.divInt_eq_divInt_iff (by omega) (by omega)).1 h
theorem simOf_a {rn rd : Int} (h : SimOf (Rat.divInt 1 3) (Rat.divInt 2 5) rn rd) : rn = 1 ∧ rd = 3 := by
  obtain ⟨a, b, c, d, hb, hd, e1, e2, hs⟩ := h
  have f1 := divInt_cross hb (by omega) e1
  have f2 := divInt_cross hd (by omega) e2
  obtain ⟨j, hj⟩ : ∃ j, c = 2 * j := ⟨c / 2, by omega⟩
  have g1 : b = 3 * a := by omega
  have g2 : d = 5 * j := by omega
  rw [g1, g2, hj] at hs
  have hs' : Sim (1 * a) (3 * a) (2 * j) (5 * j) 0 1 1 0 rn rd := by rw [Int.one_mul]; exact hs
  exact sim_third (by decide) (by decide) (by omega) (by omega) hs'
theorem simOf_b {rn rd : Int} (h : SimOf (Rat.divInt 3 10) (Rat.divInt 2 5) rn rd) : rn = 1 ∧ rd = 3 := by
  obtain ⟨a, b, c, d, hb, hd, e1, e2, hs⟩ := h
  have f1 := divInt_cross hb (by omega) e1
  have f2 := divInt_cross hd (by omega) e2
  obtain ⟨m, hm⟩ : ∃ m, a = 3 * m := ⟨a / 3, by omega⟩
  obtain ⟨j, hj⟩ : ∃ j, c = 2 * j := ⟨c / 2, by omega⟩
  have g1 : b = 10 * m := by omega
  have g2 : d = 5 * j := by omega
  rw [g1, g2, hm, hj] at hs
  exact sim_third (by decide) (by decide) (by omega) (by omega) hs
theorem third_num : (Rat.divInt 1 3).num = 1 ∧ (Rat.divInt 1 3).den = 3 := by constructor <;> decide
theorem simRes_a {v : Value} {n : Int} (h : SimRes (Rat.divInt 1 3) (Rat.divInt 2 5) v n) : v = ratV (Rat.divInt 1 3) ∧ n = 0 := by
  rcases h with ⟨h, _⟩ | ⟨_, hn, ⟨_, rn, rd, h1, rfl⟩ | ⟨h1, _⟩ | ⟨h1, _⟩⟩
  · exact absurd ((divInt_lt_iff (by omega) (by omega)).1 h) (by omega)
  · obtain ⟨rfl, rfl⟩ := simOf_a h1
    exact ⟨by unfold raw ratV; rw [third_num.1, third_num.2]; rfl, hn⟩
  · exact absurd h1 (by decide)
  · exact absurd h1 (by decide)
theorem simRes_b {v : Value} {n : Int} (h : SimRes (Rat.divInt 3 10) (Rat.divInt 2 5) v n) : v = ratV (Rat.divInt 1 3) ∧ n = 0 := by
  rcases h with ⟨h, _⟩ | ⟨_, hn, ⟨_, rn, rd, h1, rfl⟩ | ⟨h1, _⟩ | ⟨h1, _⟩⟩
  · exact absurd ((divInt_lt_iff (by omega) (by omega)).1 h) (by omega)
  · obtain ⟨rfl, rfl⟩ := simOf_b h1
    exact ⟨by unfold raw ratV; rw [third_num.1, third_num.2]; rfl, hn⟩
  · exact absurd h1 (by decide)
  · exact absurd h1 (by decide)
theorem simRes_c {v : Value} {n : Int} (h : SimRes (Rat.divInt (-1) 2) (Rat.divInt 5 1) v n) : v = ratV 0 ∧ n = 0 := by
  rcases h with ⟨h, _⟩ | ⟨_, hn, ⟨h1, _⟩ | ⟨h1, _⟩ | ⟨_, _, h1⟩⟩
  · exact absurd ((divInt_lt_iff (by omega) (by omega)).1 h) (by omega)
  · exact absurd h1 (by decide)
  · exact absurd h1 (by decide)
  · exact ⟨h1, hn⟩
end Go.Proofs.YtcljkdninmldiaaGreatDoor

namespace Go.Proofs.YtcljkdninmldiaaGreatDoor
open Go.RowKit

/-! What integer.isDecimal and integer.fromDecimal return: whether a text is a number's digits; the number. Condition: the text's length. -/
def digB (c : UInt8) : Bool := decide (48 ≤ c.toNat) && decide (c.toNat ≤ 57)
/-- The digits of a number from 0 on, without zeros in front. -/
def isDec : List UInt8 → Bool
  | [] => false
  | b :: t => !(decide (t ≠ []) && decide (b.toNat = 48)) && (b :: t).all digB
theorem all_take_succ {l : List UInt8} {k : Nat} {c : UInt8} (h : (l.take k).all digB = true) (hc : l[k]? = some c) (hd : digB c = true) : (l.take (k + 1)).all digB = true := by
  rw [List.take_add_one, hc, List.all_append, h]; simp [hd]
theorem not_all {l : List UInt8} {k : Nat} {c : UInt8} (hc : l[k]? = some c) (hd : digB c = false) : l.all digB = false := by
  rw [Bool.eq_false_iff]
  intro h
  have := List.all_eq_true.1 h c (List.mem_of_getElem? hc)
  rw [hd] at this; cases this
theorem isDec_no {l : List UInt8} (h : l.all digB = false) : isDec l = false := by
  cases l with
  | nil => rfl
  | cons b t => show (!(decide (t ≠ []) && decide (b.toNat = 48)) && (b :: t).all digB) = false; rw [h, Bool.and_false]

set_option maxHeartbeats 1600000 in
theorem isDecimal_any (l : List UInt8) (w : World) (hl : l.length ≤ 10000000000) :
    Calls Tryz.prog 65 #[.string ⟨l.toArray⟩] w fun e w' => e = .returned (.bool (isDec l)) ∧ w = w' := by
  cases l with
  | nil =>
    go_enter Tryz.func65, Tryz.ntmps65
    go_wp2
    go_ret
    exact ⟨rfl, rfl⟩
  | cons b t =>
    have hix := run_index_bytes (b :: t) 0 b rfl 0 (by simp)
    have hb' := b.toNat_lt
    have hlen : t.length + 1 ≤ 10000000000 := hl
    clear hl
    by_cases ht : t ≠ [] ∧ b.toNat = 48
    · obtain ⟨h1, h2⟩ := ht
      have hpos : 0 < t.length := List.length_pos_iff.2 h1
      have H1 : Hid (isDec (b :: t) = false) := by show _ = _; unfold isDec; simp [h1, h2]
      clear h1
      go_enter Tryz.func65, Tryz.ntmps65
      go_wp2
      go_ret
      exact ⟨by rw [H1.out]; rfl, rfl⟩
    · have H1 : Hid (isDec (b :: t) = (b :: t).all digB) := by
        show _ = _
        unfold isDec
        by_cases a1 : t = []
        · simp [a1]
        · have a2 : b.toNat ≠ 48 := fun e => ht ⟨a1, e⟩
          simp [a1, a2]
      have ht2 : t.length = 0 ∨ (0 < t.length ∧ ((b.toNat : Int) == 48) = false) := by
        rcases Nat.eq_zero_or_pos t.length with a1 | a1
        · exact Or.inl a1
        · have a2 : b.toNat ≠ 48 := fun e => ht ⟨List.length_pos_iff.1 a1, e⟩
          exact Or.inr ⟨a1, by rw [beq_eq_false_iff_ne]; omega⟩
      clear ht
      rcases ht2 with ht2 | ⟨ht2, ht3⟩
      all_goals
        go_enter Tryz.func65, Tryz.ntmps65
        go_wp2_with fail
        generalize hL : b :: t = L at *
        have hLl : L.length = t.length + 1 := by rw [← hL]; rfl
        have HL : Hid (b :: t = L) := hL
        clear hL hix
        go_loopg [18] L.length (fun q i wx => wx = w ∧ ∃ k : Nat, k + q = L.length ∧ i = .int .i64 k ∧ Hid ((L.take k).all digB = true))
        case atStart => exact ⟨rfl, 0, by omega, rfl, by show _ = _; simp⟩
        case round =>
          obtain ⟨rfl, k, hk, rfl, HA⟩ := hrel
          rcases gk with _ | q
          · obtain rfl : k = L.length := by omega
            have HB : Hid (L.all digB = true) := by have := HA.out; rwa [List.take_length] at this
            clear hk HA
            go_wp2
            go_ret
            exact ⟨by rw [HL.out, H1.out, HB.out]; rfl, rfl⟩
          · obtain ⟨c, hc⟩ : ∃ c, L[k]? = some c := ⟨_, List.getElem?_eq_getElem (by omega)⟩
            have hix := run_index_bytes L k c hc (k : Int) rfl
            have hc' := c.toNat_lt
            have Hc : Hid (L[k]? = some c) := hc
            clear hc
            rcases (show c.toNat < 48 ∨ 57 < c.toNat ∨ (48 ≤ c.toNat ∧ c.toNat ≤ 57) by omega) with h1 | h1 | ⟨h1, h2⟩
            · have HB : Hid (L.all digB = false) := not_all Hc.out (by unfold digB; simp; omega)
              go_wp2
              go_ret
              exact ⟨by rw [HL.out, H1.out, HB.out]; rfl, rfl⟩
            · have HB : Hid (L.all digB = false) := not_all Hc.out (by unfold digB; simp; omega)
              go_wp2
              go_ret
              exact ⟨by rw [HL.out, H1.out, HB.out]; rfl, rfl⟩
            · have HB : Hid ((L.take (k + 1)).all digB = true) := all_take_succ HA.out Hc.out (by unfold digB; simp; omega)
              go_wp2
              go_roundg q
              case measure => omega
              case rel => exact ⟨rfl, k + 1, by omega, by go_num, HB⟩

/-! What integer.fromDecimal returns: the number with some decimal digits. Condition: digits, at most 10^9 of them. -/
/-- The number with some decimal digits. -/
def dv (l : List UInt8) : Nat := l.foldl (fun a c => 10 * a + (c.toNat - 48)) 0
theorem dv_acc (l : List UInt8) (a : Nat) : l.foldl (fun a c => 10 * a + (c.toNat - 48)) a = a * 10 ^ l.length + dv l := by
  induction l generalizing a with
  | nil => simp [dv]
  | cons c l ih =>
    unfold dv
    rw [List.foldl_cons, List.foldl_cons, ih, ih (10 * 0 + _), List.length_cons, Nat.pow_succ, Nat.add_mul, Nat.mul_zero, Nat.zero_add]
    rw [show 10 * a * 10 ^ l.length = a * (10 ^ l.length * 10) by rw [Nat.mul_comm 10 a, Nat.mul_assoc, Nat.mul_comm 10]]
    omega
theorem dv_append (l m : List UInt8) : dv (l ++ m) = dv l * 10 ^ m.length + dv m := by
  conv => lhs; unfold dv
  rw [List.foldl_append, dv_acc]; rfl
theorem dv_snoc (l : List UInt8) (c : UInt8) : dv (l ++ [c]) = 10 * dv l + (c.toNat - 48) := by
  rw [dv_append]; simp [dv]; omega
theorem dv_cons (c : UInt8) (l : List UInt8) : dv (c :: l) = (c.toNat - 48) * 10 ^ l.length + dv l := by
  have := dv_append [c] l
  simpa [dv] using this
theorem dv_lt {l : List UInt8} (h : l.all digB = true) : dv l < 10 ^ l.length := by
  induction l with
  | nil => simp [dv]
  | cons c l ih =>
    rw [List.all_cons, Bool.and_eq_true] at h
    have h1 := ih h.2
    have h2 : c.toNat - 48 ≤ 9 := by have := h.1; simp [digB] at this; omega
    have h3 := Nat.mul_le_mul_right (10 ^ l.length) h2
    rw [dv_cons, List.length_cons, Nat.pow_succ]
    omega
theorem all_take {l : List UInt8} (h : l.all digB = true) (k : Nat) : (l.take k).all digB = true := by
  rw [List.all_eq_true] at h ⊢
  exact fun x hx => h x (List.mem_of_mem_take hx)
theorem all_drop {l : List UInt8} (h : l.all digB = true) (k : Nat) : (l.drop k).all digB = true := by
  rw [List.all_eq_true] at h ⊢
  exact fun x hx => h x (List.mem_of_mem_drop hx)
theorem dv_big {l : List UInt8} (h : l.all digB = true) : dv l < 4294967296 ^ l.length := Nat.lt_of_lt_of_le (dv_lt h) (Nat.pow_le_pow_left (by omega) _)
theorem run_cut_bytes (l g : List UInt8) (a b : Nat) (za zb : Int) (hz : za = (a : Int)) (hy : zb = (b : Int)) (h1 : a ≤ b) (h2 : b ≤ l.length) (hg : (l.drop a).take (b - a) = g) (w : World) :
    (Instr.slice 9 (.string ⟨l.toArray⟩) (some (.int .i64 za)) (some (.int .i64 zb)) none).run Tryz.prog w = .ok (.string ⟨g.toArray⟩) w := by
  subst hz; subst hy
  rw [run_slice_string w 9 ⟨l.toArray⟩ .i64 .i64 a b Tryz.underlying9 (by omega) (by omega) (by simp [ByteArray.size]; omega), Int.toNat_natCast, Int.toNat_natCast, ByteArray.extract_mk, hg]
theorem dig_at {l : List UInt8} {k : Nat} {c : UInt8} (h : l.all digB = true) (hc : l[k]? = some c) : 48 ≤ c.toNat ∧ c.toNat ≤ 57 := by
  have := List.all_eq_true.1 h c (List.mem_of_getElem? hc)
  simp [digB] at this; omega

set_option maxRecDepth 100000 in
set_option maxHeartbeats 3200000 in
theorem fromDecimal_any (l : List UInt8) (w : World) (hl : l.length ≤ 1000000000) (hd : l.all digB = true) :
    Calls Tryz.prog 66 #[.string ⟨l.toArray⟩] w (NatOut w (dv l)) := by
  have Hd : Hid (l.all digB = true) := hd
  clear hd
  go_enter Tryz.func66, Tryz.ntmps66
  go_wp2_with fail
  go_loopg [3, 4] ((l.length + 8) / 9) (fun q s3 s4 wx => ∃ (j s : Nat) (A : Option Addr) (n c : Nat), j + q = (l.length + 8) / 9 ∧ s = 9 * j ∧ s4 = .int .i64 (s : Int) ∧ s3 = .slice A n c ∧ IsNat wx A n c (dv (l.take s)) ∧ Below w.heap.size w wx)
  case atStart => exact ⟨0, 0, none, 0, 0, by omega, rfl, rfl, rfl, by simpa [dv] using zero_nat w, Below.refl _ _⟩
  case round =>
    obtain ⟨j, s, A, n, c, hj, hs, rfl, rfl, iN, hb⟩ := hrel
    rcases gk with _ | q
    · have hsl : l.length ≤ s := by omega
      rw [List.take_of_length_le hsl] at iN
      go_wp2
      go_ret
      exact ⟨_, _, _, rfl, iN, hb⟩
    · have hsl : s < l.length := by omega
      obtain ⟨m, hm0, hm9, hm⟩ : ∃ m, 0 < m ∧ m ≤ 9 ∧ ((s + 9 ≤ l.length ∧ m = 9) ∨ (l.length < s + 9 ∧ s + m = l.length)) := by
        rcases Nat.lt_or_ge l.length (s + 9) with a1 | a1
        · exact ⟨l.length - s, by omega, by omega, Or.inr ⟨a1, by omega⟩⟩
        · exact ⟨9, by omega, by omega, Or.inl ⟨a1, rfl⟩⟩
      obtain ⟨g, hg⟩ : ∃ g, (l.drop s).take m = g := ⟨_, rfl⟩
      have hgl : g.length = m := by rw [← hg, List.length_take, List.length_drop]; omega
      have Hga : Hid (g.all digB = true) := by show _ = _; rw [← hg]; exact all_take (all_drop Hd.out s) m
      have Hst : Hid (l.take (s + 9) = l.take s ++ g) := by
        show _ = _
        rw [List.take_add, ← hg]
        congr 1
        rcases hm with ⟨_, a2⟩ | ⟨a1, a2⟩
        · rw [a2]
        · rw [List.take_of_length_le (by rw [List.length_drop]; omega), List.take_of_length_le (by rw [List.length_drop]; omega)]
      have hn : n ≤ 1000000000 := by
        have h1 := iN.len (dv_big (all_take Hd.out s))
        rw [List.length_take] at h1
        omega
      have Hj : Hid (j + (q + 1) = (l.length + 8) / 9) := hj
      have Hs : Hid (s = 9 * j) := hs
      have h10 : 10 ^ m ≤ 10 ^ 9 := Nat.pow_le_pow_right (by omega) hm9
      have Hpm : Hid ((10 : Nat) ^ m ≤ 1000000000) := h10
      clear hj hs h10
      have hsl' : ∀ w, (Instr.slice 9 (.string ⟨l.toArray⟩) (some (.int .i64 (s : Int))) (some (.int .i64 (min ((s : Int) + 9) (l.length : Int)))) none).run Tryz.prog w = .ok (.string ⟨g.toArray⟩) w := by
        rcases hm with ⟨hm1, hm2⟩ | ⟨hm1, hm2⟩
        · exact run_cut_bytes l g s (s + 9) (s : Int) _ rfl (by omega) (by omega) (by omega) (by rw [← hg, hm2]; congr 1; omega)
        · exact run_cut_bytes l g s l.length (s : Int) _ rfl (by omega) (by omega) (by omega) (by rw [← hg]; congr 1; omega)
      clear hm
      clear hg
      go_wp2_with fail
      clear hsl'
      go_loopg [6, 7, 25] m (fun r s6 s7 s25 wx => wx = wr ∧ ∃ (k p v : Nat), k + r = m ∧ Hid (10 ^ k = p) ∧ Hid (dv (g.take k) = v) ∧ v < p ∧ p ≤ 1000000000 ∧ s25 = .int .i64 (k : Int) ∧ s6 = .int .u32 (p : Int) ∧ s7 = .int .u32 (v : Int))
      case atStart => exact ⟨rfl, 0, 1, 0, by omega, rfl, by show _ = _; simp [dv], by omega, by omega, rfl, rfl, rfl⟩
      case round =>
        obtain ⟨rfl, k, p, v, hk, Hp, Hv, hvp, hp, rfl, rfl, rfl⟩ := hrel
        rcases gk with _ | r
        · obtain rfl : k = m := by omega
          have Hgv : Hid (dv (l.take s) * p + v = dv (l.take (s + 9))) := by
            show _ = _
            have e1 := Hv.out
            rw [List.take_of_length_le (by omega)] at e1
            rw [Hst.out, dv_append, hgl, Hp.out, e1]
          clear hk
          go_wp2_with fail
          refine (mulAdd_any A n c (dv (l.take s)) p v _ iN (by omega) (by omega) (by omega)).mono ?_
          rintro e W1 ⟨A2, n2, c2, rfl, i2, b2⟩
          rw [Hgv.out] at i2
          have hb2 := below_more hb (Nat.le_refl _) b2
          go_wp2_with fail
          go_roundg q
          case measure => omega
          case rel => exact ⟨j + 1, s + 9, A2, n2, c2, by have := Hj.out; omega, by have := Hs.out; omega, by go_num, rfl, i2, hb2⟩
        · obtain ⟨x, hx⟩ : ∃ x, g[k]? = some x := ⟨_, List.getElem?_eq_getElem (by omega)⟩
          have hix := run_index_bytes g k x hx (k : Int) rfl
          obtain ⟨hx1, hx2⟩ := dig_at Hga.out hx
          have Hp2 : Hid (10 ^ (k + 1) = p * 10) := by show _ = _; rw [Nat.pow_succ, Hp.out]
          have Hv2 : Hid (dv (g.take (k + 1)) = 10 * v + (x.toNat - 48)) := by
            show _ = _
            rw [List.take_add_one, hx]
            show dv (g.take k ++ [x]) = _
            rw [dv_snoc, Hv.out]
          have hp10 : p * 10 ≤ 1000000000 := by
            rw [← Hp2.out]
            exact Nat.le_trans (Nat.pow_le_pow_right (by omega) (by omega)) Hpm.out
          clear hx
          go_wp2
          go_roundg r
          case measure => omega
          case rel => exact ⟨rfl, k + 1, p * 10, 10 * v + (x.toNat - 48), by omega, Hp2, Hv2, by omega, hp10, by go_num, by go_num, congrArg (Value.int _) (by omega)⟩

/-! What integer.Parse returns: the integer with a text, or ErrSyntax, or ErrLimit. -/
def cutD (l : List UInt8) : List UInt8 := Lib.trimPrefix l [45]
def cutN (l : List UInt8) : Bool := Lib.hasPrefix l [45]
/-- The integer with a text. -/
def pz (l : List UInt8) : Option Int :=
  if isDec (cutD l) = false ∨ (cutN l = true ∧ cutD l = [48]) then none else some (if cutN l then -(dv (cutD l) : Int) else (dv (cutD l) : Int))
theorem cut_any (l : List UInt8) (w : World) :
    Calls Tryz.prog 64 #[.string ⟨l.toArray⟩, .string ⟨#[45]⟩] w fun e w' => e = .returned (.tuple #[.string ⟨(cutD l).toArray⟩, .bool (cutN l)]) ∧ w' = w := Tryz.strings_CutPrefix ⟨l.toArray⟩ ⟨#[45]⟩ w
theorem cutD_len (l : List UInt8) : (cutD l).length ≤ l.length := by
  unfold cutD Lib.trimPrefix
  split
  · rw [List.length_drop]; omega
  · exact Nat.le_refl _
theorem isDec_all {l : List UInt8} (h : isDec l = true) : l.all digB = true := by
  cases e : l.all digB with
  | true => rfl
  | false => rw [isDec_no e] at h; cases h

def ParseOut (w : World) (r : Option Int) (e : Ending) (w' : World) : Prop :=
  match r with
  | some z => GoodOut w z e w'
  | none => FailOut w 3 e w'

set_option maxRecDepth 100000 in
set_option maxHeartbeats 3200000 in
theorem parse_limit (s : ByteArray) (w : World) (hs : 65536 < s.size) (hs2 : s.size ≤ 9223372036854775807) :
    Calls Tryz.prog 34 #[.string s] w (FailOut w 4) := by
  have hr := ResCell.new w 23
  obtain ⟨r1, r2, r3, r4⟩ := hr
  have hb := below1 w (.cells #[.bool false, .string ⟨#[]⟩] 23)
  go_enter Tryz.func34, Tryz.ntmps34
  go_wp2_with fail
  exact bodyPost_ret (v := .tuple #[.agg #[.bool false, .string ⟨#[]⟩], .int .i64 4]) (by simp [results, Tryz.results34, go_sem, r1, r2]) rfl ⟨rfl, hb⟩

set_option maxRecDepth 100000 in
set_option maxHeartbeats 3200000 in
theorem parse_any (l : List UInt8) (w : World) (hl : l.length ≤ 65536) :
    Calls Tryz.prog 34 #[.string ⟨l.toArray⟩] w (ParseOut w (pz l)) := by
  have hdl := cutD_len l
  obtain ⟨d, hd⟩ : ∃ d, cutD l = d := ⟨_, rfl⟩
  obtain ⟨g, hg⟩ : ∃ g, cutN l = g := ⟨_, rfl⟩
  have Hd : Hid (cutD l = d) := hd
  have Hg : Hid (cutN l = g) := hg
  have Hpz : Hid (pz l = if isDec d = false ∨ (g = true ∧ d = [48]) then none else some (if g then -(dv d : Int) else (dv d : Int))) := by show _ = _; unfold pz; rw [hd, hg]
  rw [hd] at hdl
  clear hd hg
  have hr := ResCell.new w 23
  have hb := below1 w (.cells #[.bool false, .string ⟨#[]⟩] 23)
  go_enter Tryz.func34, Tryz.ntmps34
  go_wp2_with fail
  refine (cut_any l _).mono ?_
  rintro e W1 ⟨rfl, rfl⟩
  rw [Hd.out, Hg.out]
  go_wp2_with fail
  refine (isDecimal_any d _ (by omega)).mono ?_
  rintro e W1 ⟨rfl, rfl⟩
  by_cases hi : isDec d = false
  · have HP : Hid (pz l = none) := by show _ = _; rw [Hpz.out, if_pos (Or.inl hi)]
    rw [hi]
    obtain ⟨r1, r2, r3, r4⟩ := hr
    go_wp2_with fail
    exact bodyPost_ret (v := .tuple #[.agg #[.bool false, .string ⟨#[]⟩], .int .i64 3]) (by simp [results, Tryz.results34, go_sem, r1, r2]) rfl (by rw [HP.out]; exact ⟨rfl, hb⟩)
  · have hi2 : isDec d = true := by simpa using hi
    have Hall := Lib.hid (isDec_all hi2)
    rw [hi2]
    by_cases hz : g = true ∧ d = [48]
    · obtain ⟨rfl, rfl⟩ := hz
      have HP : Hid (pz l = none) := by show _ = _; rw [Hpz.out, if_pos (Or.inr ⟨rfl, rfl⟩)]
      obtain ⟨r1, r2, r3, r4⟩ := hr
      clear hi hi2
      go_wp2_with fail
      exact bodyPost_ret (v := .tuple #[.agg #[.bool false, .string ⟨#[]⟩], .int .i64 3]) (by simp [results, Tryz.results34, go_sem, r1, r2]) rfl (by rw [HP.out]; exact ⟨rfl, hb⟩)
    · obtain ⟨z, hzz⟩ : ∃ z : Int, z = if g then -(dv d : Int) else (dv d : Int) := ⟨_, rfl⟩
      have HP : Hid (pz l = some z) := by show _ = _; rw [Hpz.out, if_neg (by rw [hi2]; simpa using hz), hzz]
      have Hz : Hid (z = if g then -(dv d : Int) else (dv d : Int)) := hzz
      have hz2 : g = false ∨ (g = true ∧ (d == [48]) = false) := by
        cases g with
        | false => exact Or.inl rfl
        | true => exact Or.inr ⟨rfl, by rw [beq_eq_false_iff_ne]; exact fun e => hz ⟨rfl, e⟩⟩
      clear hi hi2 hz hzz Hpz
      rcases hz2 with rfl | ⟨rfl, hz2⟩
      all_goals
        go_wp2_with fail
        refine (fromDecimal_any d _ (by omega) Hall.out).mono ?_
        rintro e W2 ⟨A, n, c, rfl, i2, b2⟩
        have l2 : n ≤ 1000000000 := by have := i2.len (dv_big Hall.out); omega
        have HR := hr.keep b2
        go_wp2_with fail
        refine (signed_any _ A n c _ _ i2 l2).mono ?_
        rintro e W3 ⟨rfl, b3⟩
        first | rw [ivN_eq true _ z Hz.out] | rw [ivN_eq false _ z Hz.out]
        obtain ⟨r1, r2, r3, r4⟩ := HR.keep b3
        go_wp2_with fail
        exact bodyPost_ret (v := .tuple #[.agg #[.bool (sg z), .string (mg z)], .int .i64 0]) (by simp [results, Tryz.results34, go_sem, r1, r2]) rfl (by rw [HP.out]; exact ⟨rfl, below_more2 (below_more hb (Nat.le_refl _) b2) (Nat.le_refl _) b3 (Nat.le_refl _) (Nat.le_refl _)⟩)
end Go.Proofs.YtcljkdninmldiaaGreatDoor

namespace Go.Proofs.YtcljkdninmldiaaGreatDoor
open Go.RowKit

theorem isDec_cons (b : UInt8) (t : List UInt8) : isDec (b :: t) = (!(decide (t ≠ []) && decide (b.toNat = 48)) && (b :: t).all digB) := rfl
theorem dig_of {c : Nat} (h : c < 10) : (UInt8.ofNat (48 + c)).toNat = 48 + c := by
  rw [UInt8.toNat_ofNat']; omega
theorem dec_facts (u : Nat) : dv (Lib.decDigits u) = u ∧ (Lib.decDigits u).all digB = true ∧ (0 < u → ∃ b t, Lib.decDigits u = b :: t ∧ b.toNat ≠ 48) := by
  induction u using Nat.strongRecOn with
  | _ u ih =>
    by_cases h : u < 10
    · rw [Lib.decDigits_one h]
      refine ⟨by simp [dv]; omega, by simp [digB]; omega, fun h0 => ⟨_, [], rfl, by rw [dig_of h]; omega⟩⟩
    · rw [Lib.decDigits, dif_neg h]
      obtain ⟨h1, h2, h3⟩ := ih (u / 10) (by omega)
      have hm : u % 10 < 10 := Nat.mod_lt _ (by omega)
      obtain ⟨b, t, h4, h5⟩ := h3 (by omega)
      refine ⟨?_, ?_, fun _ => ⟨b, t ++ [UInt8.ofNat (48 + u % 10)], by rw [h4]; rfl, h5⟩⟩
      · rw [dv_snoc, h1, dig_of hm]; omega
      · rw [List.all_append, h2]; simp [digB]; omega
theorem rep_facts (n : Nat) : dv (Lib.repeatL [48] n) = 0 ∧ (Lib.repeatL [48] n).all digB = true := by
  induction n with
  | zero => exact ⟨rfl, rfl⟩
  | succ n ih =>
    have e : Lib.repeatL [48] (n + 1) = (48 : UInt8) :: Lib.repeatL [48] n := rfl
    rw [e]
    exact ⟨by rw [dv_cons, ih.1]; simp, by rw [List.all_cons, ih.2]; rfl⟩
theorem pad_facts (d : Nat) : dv (pad9 d) = d ∧ (pad9 d).all digB = true := by
  unfold pad9
  refine ⟨by rw [dv_append, (rep_facts _).1, (dec_facts d).1]; simp, by rw [List.all_append, (rep_facts _).2, (dec_facts d).2.1]; rfl⟩
theorem pr_facts (N : Nat) : dv (prS (gs N)) = N ∧ (prS (gs N)).all digB = true ∧ (0 < N → ∃ b t, prS (gs N) = b :: t ∧ b.toNat ≠ 48) := by
  induction N using Nat.strongRecOn with
  | _ N ih =>
    by_cases h0 : N = 0
    · subst h0; rw [gs_zero]; exact ⟨rfl, rfl, fun h => absurd h (by omega)⟩
    · have hr := Nat.mod_lt N (show 1000000000 > 0 by omega)
      obtain ⟨h1, h2, h3⟩ := ih (N / 1000000000) (Nat.div_lt_self (by omega) (by omega))
      rw [gs_pos h0, prS]
      by_cases hq : N / 1000000000 = 0
      · rw [hq, gs_zero, if_pos rfl]
        have hN : N % 1000000000 = N := by omega
        rw [hN]
        exact dec_facts N |>.imp_right (fun h => h) |> fun h => by simpa [prS] using h
      · have hg : gs (N / 1000000000) ≠ [] := by rw [gs_pos hq]; simp
        rw [if_neg hg]
        obtain ⟨b, t, h4, h5⟩ := h3 (by omega)
        refine ⟨?_, ?_, fun _ => ⟨b, t ++ pad9 (N % 1000000000), by rw [h4]; rfl, h5⟩⟩
        · rw [dv_append, h1, (pad_facts _).1, pad9_len hr]; omega
        · rw [List.all_append, h2, (pad_facts _).2]; rfl
theorem isDec_pr {N : Nat} (h : 0 < N) : isDec (prS (gs N)) = true := by
  obtain ⟨_, h2, h3⟩ := pr_facts N
  obtain ⟨b, t, h4, h5⟩ := h3 h
  rw [h4] at h2 ⊢
  rw [isDec_cons, h2]; simp [h5]
theorem dv_same : ∀ {l m : List UInt8}, l.length = m.length → l.all digB = true → m.all digB = true → dv l = dv m → l = m
  | [], [], _, _, _, _ => rfl
  | b :: l, c :: m, hl, h1, h2, h => by
    rw [List.all_cons, Bool.and_eq_true] at h1 h2
    have e : l.length = m.length := by simpa using hl
    have a1 := dv_lt h1.2
    have a2 := dv_lt h2.2
    rw [dv_cons, dv_cons, e] at h
    rw [e] at a1
    have b1 := h1.1
    have b2 := h2.1
    simp [digB] at b1 b2
    have hp : 0 < 10 ^ m.length := Nat.pow_pos (by omega)
    have q1 : ((b.toNat - 48) * 10 ^ m.length + dv l) / 10 ^ m.length = b.toNat - 48 := by
      rw [Nat.mul_comm, Nat.mul_add_div hp, Nat.div_eq_of_lt a1, Nat.add_zero]
    have q2 : ((c.toNat - 48) * 10 ^ m.length + dv m) / 10 ^ m.length = c.toNat - 48 := by
      rw [Nat.mul_comm, Nat.mul_add_div hp, Nat.div_eq_of_lt a2, Nat.add_zero]
    have q3 : b.toNat - 48 = c.toNat - 48 := by rw [← q1, ← q2, h]
    have q4 : dv l = dv m := by rw [q3] at h; omega
    have q5 : b = c := UInt8.toNat_inj.1 (by omega)
    rw [q5, dv_same e h1.2 h2.2 q4]
theorem dv_low {b : UInt8} {t : List UInt8} (h : (b :: t).all digB = true) (hb : b.toNat ≠ 48) : 10 ^ t.length ≤ dv (b :: t) := by
  rw [List.all_cons, Bool.and_eq_true] at h
  have b1 := h.1
  simp [digB] at b1
  have := Nat.mul_le_mul_right (10 ^ t.length) (show 1 ≤ b.toNat - 48 by omega)
  rw [dv_cons]; omega
theorem dec_cases {l : List UInt8} (h : isDec l = true) : l = [48] ∨ ∃ b t, l = b :: t ∧ b.toNat ≠ 48 ∧ l.all digB = true := by
  have ha := isDec_all h
  cases l with
  | nil => cases h
  | cons b t =>
    by_cases hb : b.toNat = 48
    · refine Or.inl ?_
      rw [isDec_cons, ha] at h
      simp [hb] at h
      rw [h, show b = 48 from UInt8.toNat_inj.1 (by rw [hb]; rfl)]
    · exact Or.inr ⟨b, t, rfl, hb, ha⟩
theorem dec_zero {l : List UInt8} (h : isDec l = true) (h0 : dv l = 0) : l = [48] := by
  rcases dec_cases h with h1 | ⟨b, t, rfl, hb, ha⟩
  · exact h1
  · have := dv_low ha hb
    have : 0 < 10 ^ t.length := Nat.pow_pos (by omega)
    omega
theorem dec_text {l : List UInt8} (h : isDec l = true) (h0 : 0 < dv l) : prS (gs (dv l)) = l := by
  rcases dec_cases h with rfl | ⟨b, t, rfl, hb, ha⟩
  · exact absurd h0 (by simp [dv])
  · obtain ⟨p1, p2, p3⟩ := pr_facts (dv (b :: t))
    obtain ⟨c, m, p4, p5⟩ := p3 h0
    rw [p4] at p1 p2 ⊢
    have a1 := dv_low ha hb
    have a2 := dv_lt ha
    have a3 := dv_low p2 p5
    have a4 := dv_lt p2
    rw [p1] at a3 a4
    rw [List.length_cons] at a2 a4
    have l1 : m.length < t.length + 1 := (Nat.pow_lt_pow_iff_right (by omega : 1 < 10)).1 (Nat.lt_of_le_of_lt a3 a2)
    have l2 : t.length < m.length + 1 := (Nat.pow_lt_pow_iff_right (by omega : 1 < 10)).1 (Nat.lt_of_le_of_lt a1 a4)
    exact dv_same (by rw [List.length_cons, List.length_cons]; omega) p2 ha p1
theorem cut_minus (l : List UInt8) : cutD (45 :: l) = l ∧ cutN (45 :: l) = true := ⟨rfl, rfl⟩
theorem cut_digit {b : UInt8} {l : List UInt8} (h : digB b = true) : cutD (b :: l) = b :: l ∧ cutN (b :: l) = false := by
  have hb : (45 == b) = false := by
    rw [beq_eq_false_iff_ne]; rintro rfl; simp [digB] at h
  have hN : cutN (b :: l) = false := by
    unfold cutN Lib.hasPrefix
    simp [List.isPrefixOf, hb]
  exact ⟨by unfold cutD Lib.trimPrefix; rw [if_neg (by show ¬ cutN (b :: l) = true; rw [hN]; simp)], hN⟩
theorem pz_minus {l : List UInt8} (h : isDec l = true) (h0 : l ≠ [48]) : pz (45 :: l) = some (-(dv l : Int)) := by
  unfold pz
  rw [(cut_minus l).1, (cut_minus l).2, if_neg (by simp [h, h0]), if_pos rfl]
theorem pz_plus {l : List UInt8} (h : isDec l = true) : pz l = some (dv l : Int) := by
  have ha := isDec_all h
  cases l with
  | nil => cases h
  | cons b t =>
    rw [List.all_cons, Bool.and_eq_true] at ha
    unfold pz
    rw [(cut_digit ha.1).1, (cut_digit ha.1).2, if_neg (by simp [h])]; simp
theorem prZ_neg {N : Nat} (h : 0 < N) : prZ (-(N : Int)) = 45 :: prS (gs N) := by
  unfold prZ sgnT sg
  rw [if_neg (by omega), if_pos (by simp; omega), Int.natAbs_neg, Int.natAbs_natCast]; rfl
theorem prZ_pos {N : Nat} (h : 0 < N) : prZ (N : Int) = prS (gs N) := by
  unfold prZ sgnT sg
  rw [if_neg (by omega), if_neg (by simp), Int.natAbs_natCast]; rfl
theorem int_cases (z : Int) : z = 0 ∨ (∃ N : Nat, 0 < N ∧ z = -(N : Int)) ∨ (∃ N : Nat, 0 < N ∧ z = (N : Int)) := by
  rcases Int.lt_trichotomy z 0 with h | h | h
  · exact Or.inr (Or.inl ⟨z.natAbs, by omega, by omega⟩)
  · exact Or.inl h
  · exact Or.inr (Or.inr ⟨z.natAbs, by omega, by omega⟩)
/-- What is printed is read. -/
theorem pz_print (z : Int) : pz (prZ z) = some z := by
  rcases int_cases z with rfl | ⟨N, h, rfl⟩ | ⟨N, h, rfl⟩
  · rfl
  · rw [prZ_neg h, pz_minus (isDec_pr h) (fun e => by have := (pr_facts N).1; rw [e] at this; simp [dv] at this; omega), (pr_facts N).1]
  · rw [prZ_pos h, pz_plus (isDec_pr h), (pr_facts N).1]
theorem isDec_snoc {l : List UInt8} (h : isDec l = true) (h0 : l ≠ [48]) : isDec (l ++ [48]) = true := by
  rcases dec_cases h with h1 | ⟨b, t, rfl, hb, ha⟩
  · exact absurd h1 h0
  · show isDec (b :: (t ++ [48])) = true
    rw [isDec_cons, show b :: (t ++ [48]) = (b :: t) ++ [48] from rfl, List.all_append, ha]
    simp [hb]; rfl
/-- A zero behind the digits: ten times the number; but 00 is no text. -/
theorem pz_ten (z : Int) : pz (prZ z ++ [48]) = if z = 0 then none else some (z * 10) := by
  rcases int_cases z with rfl | ⟨N, h, rfl⟩ | ⟨N, h, rfl⟩
  · rfl
  · have hne : prS (gs N) ≠ [48] := fun e => by have := (pr_facts N).1; rw [e] at this; simp [dv] at this; omega
    have h1 := isDec_snoc (isDec_pr h) hne
    rw [if_neg (by omega), prZ_neg h, List.cons_append, pz_minus h1 (fun e => by have := congrArg List.length e; have h2 := (pr_facts N).2.2 h; obtain ⟨b, t, e2, _⟩ := h2; rw [e2] at this; simp at this), dv_snoc, (pr_facts N).1]
    congr 1; simp; omega
  · have hne : prS (gs N) ≠ [48] := fun e => by have := (pr_facts N).1; rw [e] at this; simp [dv] at this; omega
    rw [if_neg (by omega), prZ_pos h, pz_plus (isDec_snoc (isDec_pr h) hne), dv_snoc, (pr_facts N).1]
    congr 1; simp; omega
/-- What is read is printed. -/
theorem print_pz {l : List UInt8} {z : Int} (h : pz l = some z) : prZ z = l := by
  unfold pz at h
  split at h
  · cases h
  · rename_i hn
    have hd : isDec (cutD l) = true := by
      cases e : isDec (cutD l) with
      | true => rfl
      | false => exact absurd (Or.inl e) hn
    have hz := Option.some.inj h
    by_cases hN : cutN l = true
    · rw [if_pos hN] at hz
      have hl : l = 45 :: cutD l := by
        cases l with
        | nil => simp [cutN, Lib.hasPrefix, List.isPrefixOf] at hN
        | cons b t =>
          have : (45 == b) = true := by simpa [cutN, Lib.hasPrefix, List.isPrefixOf] using hN
          obtain rfl : 45 = b := by simpa using this
          rfl
      have h48 : cutD l ≠ [48] := fun e => hn (Or.inr ⟨hN, e⟩)
      have hp : 0 < dv (cutD l) := Nat.pos_of_ne_zero fun e => h48 (dec_zero hd e)
      rw [← hz, prZ_neg hp, dec_text hd hp, ← hl]
    · rw [if_neg hN] at hz
      have hl : cutD l = l := by unfold cutD Lib.trimPrefix; exact if_neg hN
      rw [hl] at hd hz
      by_cases h0 : dv l = 0
      · rw [dec_zero hd h0, ← hz, h0]; rfl
      · rw [← hz, prZ_pos (by omega), dec_text hd (by omega)]
/-- A printed integer begins with a minus where it is below 0. -/
theorem prefix_pr (z : Int) : Lib.hasPrefix (prZ z) [45] = sg z := by
  rcases int_cases z with rfl | ⟨N, h, rfl⟩ | ⟨N, h, rfl⟩
  · rfl
  · rw [prZ_neg h]; unfold sg; simp [Lib.hasPrefix, List.isPrefixOf]; omega
  · obtain ⟨b, t, e, _⟩ := (pr_facts N).2.2 h
    have ha := (pr_facts N).2.1
    rw [prZ_pos h]
    rw [e, List.all_cons, Bool.and_eq_true] at ha
    rw [e]
    show cutN (b :: t) = _
    rw [(cut_digit ha.1).2]; unfold sg; simp
theorem prZ_len {z : Int} {k : Nat} (h : z.natAbs < 4294967296 ^ k) : (prZ z).length ≤ 18 * k + 2 := by
  have h1 := prS_len (gs_lt (N := z.natAbs))
  have h2 := gs_room h
  unfold prZ sgnT
  split
  · simp
  · rw [List.length_append]; split <;> simp <;> omega
end Go.Proofs.YtcljkdninmldiaaGreatDoor

namespace Go.Proofs.YtcljkdninmldiaaGreatDoor
open Go.RowKit
set_option linter.unusedSimpArgs false
attribute [local go_sem ↓] eqlInt guardInt2

/-- The text of a number. -/
def prQ (q : Rat) : List UInt8 := if q.den = 1 then prZ q.num else prZ q.num ++ 47 :: prZ (q.den : Int)
theorem same_one (d : Int) : (sg d == sg 1 && (mg d).toList == (mg 1).toList) = decide (d = 1) := by
  rcases Bool.eq_false_or_eq_true (sg d == sg 1 && (mg d).toList == (mg 1).toList) with h | h
  · rw [h]
    rw [Bool.and_eq_true, beq_iff_eq, beq_iff_eq] at h
    exact (decide_eq_true (mg_inj h.1 h.2)).symm
  · rw [h]
    symm
    refine decide_eq_false fun e => ?_
    rw [e] at h
    simp at h
theorem cat3 (a b : List UInt8) : (ByteArray.mk a.toArray ++ ByteArray.mk #[47]) ++ ByteArray.mk b.toArray = ByteArray.mk (a ++ 47 :: b).toArray := by
  apply ByteArray.ext
  simp
set_option maxRecDepth 100000 in
theorem rprint_any (v : Value) (q : Rat) (T : List UInt8) (k : Nat) (w : World) (h : IsRat v q k) (hk : k ≤ 9000000) (htab : Lib.TabIs Tryz.prog w "internal/strconv.uint64pow10" .u64 Lib.pow10Tab) (e : prQ q = T) :
    Calls Tryz.prog 12 #[v] w fun e w' => e = .returned (.string ⟨T.toArray⟩) ∧ Below w.heap.size w w' := by
  have H1 := Lib.hid h
  have Ht := Lib.hid htab
  have He := Lib.hid e
  have Hb := Lib.hid (show RatBd q (k + 1) by
    obtain ⟨_, _, _, _, n, d, _, h2, h3, rfl⟩ := h
    exact ratBd_divInt h2.bd h3.bd)
  clear htab e
  obtain ⟨na, sa, nb, sb, -, -, rfl, -⟩ := h
  have In := Lib.hid (show IsInt (.agg #[.bool (sg q.num), .string (mg q.num)]) q.num (k + 1) from isInt_mg Hb.out.1 (by omega))
  have Id := Lib.hid (show IsInt (.agg #[.bool (sg (q.den : Int)), .string (mg (q.den : Int))]) (q.den : Int) (k + 1) from isInt_mg (show (q.den : Int).natAbs < _ by rw [Int.natAbs_natCast]; exact Hb.out.2) (by omega))
  have B0 := below1 w (.cells #[.bool na, .string sa, .bool nb, .string sb] 25)
  obtain ⟨T1, E1⟩ : ∃ T1, Hid (prZ q.num = T1) := ⟨_, Lib.hid rfl⟩
  obtain ⟨T2, E2⟩ : ∃ T2, Hid (prZ (q.den : Int) = T2) := ⟨_, Lib.hid rfl⟩
  have P1 : T1.length ≤ 200000000 := by have := prZ_len In.out.bd; rw [E1.out] at this; omega
  have P2 : T2.length ≤ 200000000 := by have := prZ_len Id.out.bd; rw [E2.out] at this; omega
  have HT1 := Lib.hid (show q.den = 1 → T1 = T by intro h; rw [← E1.out, ← He.out]; unfold prQ; rw [if_pos h])
  have HT2 := Lib.hid (show ¬ q.den = 1 → T1 ++ 47 :: T2 = T by intro h; rw [← E1.out, ← E2.out, ← He.out]; unfold prQ; rw [if_neg h])
  obtain ⟨d, Ed⟩ : ∃ d, Hid ((q.den : Int) = d) := ⟨_, Lib.hid rfl⟩
  obtain ⟨c, Ec⟩ : ∃ c, Hid (decide (d = 1) = c) := ⟨_, Lib.hid rfl⟩
  have Hs := Lib.hid (same_one d)
  have Hd1 := Lib.hid (show q.den = 1 ↔ d = 1 by rw [← Ed.out]; omega)
  go_enter Tryz.func12, Tryz.ntmps12
  go_wp2_with fail
  refine (rcanon_any _ q k _ H1.out).mono ?_
  rintro e W1 ⟨rfl, b1⟩
  have hbl := below1 W1 (.cells #[.bool (sg q.num), .string (mg q.num), .bool (sg (q.den : Int)), .string (mg (q.den : Int))] 25)
  have S1 : RIn (W1.alloc (.cells #[.bool (sg q.num), .string (mg q.num), .bool (sg (q.den : Int)), .string (mg (q.den : Int))] 25)) W1.heap.size (sg q.num) (mg q.num) (sg (q.den : Int)) (mg (q.den : Int)) := RIn.new rfl
  have B1 := below_more (below_more B0 (Nat.le_refl _) b1) (Nat.le_refl _) hbl
  clear B0 b1 hbl
  unfold ratV
  rw [Ed.out] at Id E2
  go_upto_region 2 with fail
  generalize W1.alloc (.cells #[.bool (sg q.num), .string (mg q.num), .bool (sg (q.den : Int)), .string (mg (q.den : Int))] 25) = W2 at *
  rw [Ed.out] at S1
  rw [Ed.out]
  generalize W1.heap.size = p3 at *
  obtain ⟨t1, t2, t3, t4⟩ := id S1
  go_wp2_with fail
  refine (print_is In.out (tab_keep Ht.out B1) E1.out).mono ?_
  rintro e W3 ⟨rfl, b3⟩
  have S2 := S1.keep b3
  have B2 := below_more B1 (Nat.le_refl _) b3
  clear S1 B1 b3 t1 t2 t3 t4
  go_upto_region 3 with fail
  have S3 : RIn W3.drew p3 (sg q.num) (mg q.num) (sg d) (mg d) := S2
  go_region_held3 (fun W => W.cell? ⟨p3, 0, none⟩ = some (.bool (sg q.num)) ∧ W.cell? ⟨p3, 1, none⟩ = some (.string (mg q.num)) ∧ W.cell? ⟨p3, 2, none⟩ = some (.bool (sg d)) ∧ W.cell? ⟨p3, 3, none⟩ = some (.string (mg d))) (first | exact S2 | exact S3 | exact RIn.keep S3 (by assumption) | go_keep)
    (first
      | (go_at_call 17; refine (iof_any 1 _ (by omega) (by omega)).mono ?_; rintro e W4 ⟨rfl, b4⟩; have S4 := S3.keep b4; have B4 := below_more B2.drew (Nat.le_refl _) b4))
  all_goals
    rw [Hs.out, Ec.out]
    cases c
    · obtain ⟨t1, t2, t3, t4⟩ := id S4
      go_wp2_with fail
      refine (print_is Id.out (tab_keep Ht.out B4) E2.out).mono ?_
      rintro e W5 ⟨rfl, b5⟩
      have hT := HT2.out (fun h => of_decide_eq_false Ec.out (Hd1.out.1 h))
      have hc := cat3 T1 T2
      rw [hT] at hc
      go_wp2_with fail
      go_ret
      exact ⟨rfl, below_more B4 (Nat.le_refl _) b5⟩
    · have hT := HT1.out (Hd1.out.2 (of_decide_eq_true Ec.out))
      go_wp2
      go_ret
      exact ⟨by subst hT; rfl, B4⟩
end Go.Proofs.YtcljkdninmldiaaGreatDoor

namespace Go.Proofs.YtcljkdninmldiaaGreatDoor
open Go.RowKit
set_option linter.unusedSimpArgs false
attribute [local go_sem ↓] eqlInt guardInt2

/-- The number with a text. -/
def pq (l : List UInt8) : Option Rat :=
  match pz (Lib.cut l [47]).1 with
  | none => none
  | some n => if (Lib.cut l [47]).2.2 = false then some (n : Rat) else
    match pz (Lib.cut l [47]).2.1 with
    | none => none
    | some d => if d = 1 ∨ ¬ (n = (Rat.divInt n d).num ∧ d = ((Rat.divInt n d).den : Int)) then none else some (Rat.divInt n d)
def ParseRat (w : World) (r : Option Rat) (e : Ending) (w' : World) : Prop :=
  match r with
  | some q => RatGood w q e w'
  | none => RatFail w 3 e w'
/-- What strings.Cut asks of memory. -/
def Zero0 (w : World) : Prop := ∃ m, w.cell? ⟨0, 0, none⟩ = some (.int .i64 m)
theorem Zero0.keep {w w' : World} (h : Zero0 w) (hb : Below w.heap.size w w') : Zero0 w' := by
  obtain ⟨m, h⟩ := h
  exact ⟨m, cell_keep h hb⟩
theorem cut_slash (l : List UInt8) (w : World) (h0 : Zero0 w) (hl : l.length ≤ 65536) {a b : List UInt8} {c : Bool} (e : Lib.cut l [47] = (a, b, c)) :
    Calls Tryz.prog 33 #[.string ⟨l.toArray⟩, .string ⟨#[47]⟩] w fun e w' => e = .returned (.tuple #[.string ⟨a.toArray⟩, .string ⟨b.toArray⟩, .bool c]) ∧ Below w.heap.size w w' := by
  obtain ⟨m, h0⟩ := h0
  have h := Tryz.strings_Cut ⟨l.toArray⟩ ⟨#[47]⟩ m w (by simp [ByteArray.size]; omega) h0
  refine h.mono ?_
  rintro e' w' ⟨rfl, n, rfl⟩
  have e9 : Lib.cut (ByteArray.mk l.toArray).data.toList (ByteArray.mk #[47]).data.toList = (a, b, c) := e
  rw [e9]
  refine ⟨rfl, ?_⟩
  clear h h0 e9
  induction n with
  | zero => exact Below.refl _ _
  | succ n ih => exact ih.drew
theorem cut_len {l a b : List UInt8} {c : Bool} (e : Lib.cut l [47] = (a, b, c)) : a.length ≤ l.length ∧ b.length ≤ l.length := by
  unfold Lib.cut at e
  split at e <;> (injection e with e1 e2; injection e2 with e2 e3; subst e1 e2)
  · exact ⟨by rw [List.length_take]; omega, by rw [List.length_drop]; omega⟩
  · exact ⟨Nat.le_refl _, by simp⟩
theorem ip_some {l : List UInt8} {z : Int} {w : World} (hl : l.length ≤ 65536) (h : pz l = some z) : Calls Tryz.prog 34 #[.string ⟨l.toArray⟩] w (GoodOut w z) := by
  have := parse_any l w hl
  rw [h] at this
  exact this
theorem ip_none {l : List UInt8} {w : World} (hl : l.length ≤ 65536) (h : pz l = none) : Calls Tryz.prog 34 #[.string ⟨l.toArray⟩] w (FailOut w 3) := by
  have := parse_any l w hl
  rw [h] at this
  exact this
theorem pz_bd {l : List UInt8} {z : Int} {k : Nat} (h : pz l = some z) (hl : l.length ≤ k) : z.natAbs < 4294967296 ^ k := by
  unfold pz at h
  split at h
  · cases h
  · rename_i hn
    have hd : isDec (cutD l) = true := by
      cases e : isDec (cutD l) with
      | true => rfl
      | false => exact absurd (Or.inl e) hn
    injection h with hz
    have h1 := dv_big (isDec_all hd)
    have h2 := cutD_len l
    have h3 : z.natAbs = dv (cutD l) := by rw [← hz]; split <;> simp
    rw [h3]
    exact Nat.lt_of_lt_of_le h1 (Nat.pow_le_pow_right (by omega) (by omega))

theorem check_ok (na nb : Bool) (sa sb : ByteArray) (q : Rat) (k : Nat) (w : World) (h1 : IsRat (.agg #[.bool na, .string sa, .bool nb, .string sb]) q k) (hc : sameR na sa nb sb (sg q.num) (mg q.num) (sg (q.den : Int)) (mg (q.den : Int)) = true) :
    Calls Tryz.prog 18 #[.agg #[.bool na, .string sa, .bool nb, .string sb]] w fun e w' => e = .returned (.int .i64 0) ∧ Below w.heap.size w w' := rcheck_any na nb sa sb q true k w h1 hc
theorem check_no (na nb : Bool) (sa sb : ByteArray) (q : Rat) (k : Nat) (w : World) (h1 : IsRat (.agg #[.bool na, .string sa, .bool nb, .string sb]) q k) (hc : sameR na sa nb sb (sg q.num) (mg q.num) (sg (q.den : Int)) (mg (q.den : Int)) = false) :
    Calls Tryz.prog 18 #[.agg #[.bool na, .string sa, .bool nb, .string sb]] w fun e w' => e = .returned (.int .i64 1) ∧ Below w.heap.size w w' := rcheck_any na nb sa sb q false k w h1 hc
theorem sameR_iff (n d : Int) (q : Rat) : sameR (sg n) (mg n) (sg d) (mg d) (sg q.num) (mg q.num) (sg (q.den : Int)) (mg (q.den : Int)) = true ↔ n = q.num ∧ d = (q.den : Int) := by
  unfold sameR
  rw [Bool.and_eq_true, Bool.and_eq_true, Bool.and_eq_true, beq_iff_eq, beq_iff_eq, beq_iff_eq, beq_iff_eq]
  constructor
  · rintro ⟨⟨h1, h2⟩, h3, h4⟩
    exact ⟨mg_inj h1 h2, mg_inj h3 h4⟩
  · rintro ⟨h1, h2⟩
    rw [← h1, ← h2]
    exact ⟨⟨rfl, rfl⟩, rfl, rfl⟩

set_option maxRecDepth 100000 in
set_option maxHeartbeats 3200000 in
theorem rparse_any (l : List UInt8) (w : World) (hl : l.length ≤ 65536) (h0 : Zero0 w) : Calls Tryz.prog 10 #[.string ⟨l.toArray⟩] w (ParseRat w (pq l)) := by
  obtain ⟨K, hK1, hK2⟩ : ∃ K : Nat, 65536 ≤ K ∧ K ≤ 70000 := ⟨65536, by omega, by omega⟩
  obtain ⟨a, b, c, ec⟩ : ∃ a b c, Lib.cut l [47] = (a, b, c) := ⟨_, _, _, rfl⟩
  have Hc := Lib.hid ec
  obtain ⟨la, lb⟩ := cut_len ec
  have Hpq := Lib.hid (show pq l = match pz a with
    | none => none
    | some n => if c = false then some (n : Rat) else
      match pz b with
      | none => none
      | some d => if d = 1 ∨ ¬ (n = (Rat.divInt n d).num ∧ d = ((Rat.divInt n d).den : Int)) then none else some (Rat.divInt n d) by unfold pq; rw [ec])
  clear ec
  have H0 := Lib.hid h0
  clear h0
  have hll : (⟨l.toArray⟩ : ByteArray).size = l.length := by simp [ByteArray.size]
  have P0 := ResRat.new w
  have B0 := below1 w (.cells #[.bool false, .string ⟨#[]⟩, .bool false, .string ⟨#[]⟩] 25)
  go_enter Tryz.func10, Tryz.ntmps10
  go_wp2_with fail
  refine (cut_slash l _ (H0.out.keep B0) hl Hc.out).mono ?_
  rintro e W1 ⟨rfl, b1⟩
  have P1 := P0.keep b1
  have B1 := below_more B0 (Nat.le_refl _) b1
  clear P0 B0 b1
  cases ha : pz a with
  | none =>
    have Ha := Lib.hid ha
    rw [ha] at Hpq
    clear ha
    go_wp2_with fail
    refine (ip_none (by omega) Ha.out).mono ?_
    rintro e W2 ⟨rfl, b2⟩
    have hbl := below1 W2 (.cells #[.bool false, .string ⟨#[]⟩] 23)
    have P2 := (P1.keep b2).keep hbl
    have B2 := below_more (below_more B1 (Nat.le_refl _) b2) (Nat.le_refl _) hbl
    clear P1 B1 hbl b2
    go_upto_region 5 with fail
    generalize W2.alloc (.cells #[.bool false, .string ⟨#[]⟩] 23) = W3 at *
    generalize W2.heap.size = p7 at *
    obtain ⟨⟨r1, r2, r3, r4⟩, r5, r6, r7, r8⟩ := P2
    go_wp2
    exact bodyPost_ret (v := .tuple #[.agg #[.bool false, .string ⟨#[]⟩, .bool false, .string ⟨#[]⟩], .int .i64 3]) (by simp [results, Tryz.results10, go_sem, r1, r2, r3, r4]) rfl (by rw [Hpq.out]; exact ⟨rfl, below4s B2 _ (by omega) _ _ _ _⟩)
  | some n =>
    have Ha := Lib.hid ha
    rw [ha] at Hpq
    have In := Lib.hid (isInt_mg (k := K) (pz_bd ha (by omega)) (by omega))
    clear ha
    go_wp2_with fail
    refine (ip_some (by omega) Ha.out).mono ?_
    rintro e W2 ⟨rfl, b2⟩
    have hbl := below1 W2 (.cells #[.bool (sg n), .string (mg n)] 23)
    have P2 := (P1.keep b2).keep hbl
    have B2 := below_more (below_more B1 (Nat.le_refl _) b2) (Nat.le_refl _) hbl
    have I2 : IC (W2.alloc (.cells #[.bool (sg n), .string (mg n)] 23)) W2.heap.size n := by constructor <;> simp [go_sem]
    clear P1 B1 hbl b2
    go_upto_region 5 with fail
    generalize W2.alloc (.cells #[.bool (sg n), .string (mg n)] 23) = W3 at *
    generalize W2.heap.size = p7 at *
    cases c with
    | false =>
      obtain ⟨y1, y2⟩ := id I2
      go_wp2_with fail
      refine (rof_any _ n K _ In.out).mono ?_
      rintro e W4 ⟨rfl, b4⟩
      obtain ⟨⟨r1, r2, r3, r4⟩, r5, r6, r7, r8⟩ := P2.keep b4
      unfold ratV
      go_wp2
      exact bodyPost_ret (v := .tuple #[ratV (n : Rat), .int .i64 0]) (by simp [results, Tryz.results10, go_sem, r1, r2, r3, r4, ratV]) rfl (by rw [Hpq.out]; exact ⟨rfl, below4s (below_more B2 (Nat.le_refl _) b4) _ (by omega) _ _ _ _⟩)
    | true =>
      cases hb : pz b with
      | none =>
        have Hb := Lib.hid hb
        rw [hb] at Hpq
        clear hb
        obtain ⟨y1, y2⟩ := id I2
        go_wp2_with fail
        refine (ip_none (by omega) Hb.out).mono ?_
        rintro e W4 ⟨rfl, b4⟩
        have hbl := below1 W4 (.cells #[.bool false, .string ⟨#[]⟩] 23)
        have P3 := (P2.keep b4).keep hbl
        have I3 := (I2.keep b4).keep hbl
        have B3 := below_more (below_more B2 (Nat.le_refl _) b4) (Nat.le_refl _) hbl
        have J3 : IC (W4.alloc (.cells #[.bool false, .string ⟨#[]⟩] 23)) W4.heap.size 0 := by constructor <;> simp [go_sem, sg_zero, mg_zero]
        clear P2 B2 hbl b4 I2 y1 y2
        go_upto_region 10 with fail
        generalize W4.alloc (.cells #[.bool false, .string ⟨#[]⟩] 23) = W5 at *
        generalize W4.heap.size = p9 at *
        obtain ⟨y1, y2⟩ := id I3
        obtain ⟨y3, y4⟩ := id J3
        go_upto_region 11 with fail
        have hbl := below1 W5 (.cells #[.bool (sg n), .string (mg n), .bool (sg 0), .string (mg 0)] 25)
        have B4 := below_more B3 (Nat.le_refl _) hbl
        have P4 := P3.keep hbl
        clear P3 B3 hbl y1 y2 y3 y4 I3 J3
        generalize W5.alloc (.cells #[.bool (sg n), .string (mg n), .bool (sg 0), .string (mg 0)] 25) = W6 at *
        generalize W5.heap.size = p10 at *
        go_big_region
        obtain ⟨⟨r1, r2, r3, r4⟩, r5, r6, r7, r8⟩ := P4.drew
        have B5 := B4.drew
        clear P4 B4
        generalize W6.drew = W7 at *
        go_wp2
        exact bodyPost_ret (v := .tuple #[.agg #[.bool false, .string ⟨#[]⟩, .bool false, .string ⟨#[]⟩], .int .i64 3]) (by simp [results, Tryz.results10, go_sem, r1, r2, r3, r4]) rfl (by rw [Hpq.out]; exact ⟨rfl, below4s B5 _ (by omega) _ _ _ _⟩)
      | some d =>
        have Hb := Lib.hid hb
        rw [hb] at Hpq
        have Id := Lib.hid (isInt_mg (k := K) (pz_bd hb (by omega)) (by omega))
        clear hb
        obtain ⟨y1, y2⟩ := id I2
        go_wp2_with fail
        refine (ip_some (by omega) Hb.out).mono ?_
        rintro e W4 ⟨rfl, b4⟩
        have hbl := below1 W4 (.cells #[.bool (sg d), .string (mg d)] 23)
        have P3 := (P2.keep b4).keep hbl
        have I3 := (I2.keep b4).keep hbl
        have B3 := below_more (below_more B2 (Nat.le_refl _) b4) (Nat.le_refl _) hbl
        have J3 : IC (W4.alloc (.cells #[.bool (sg d), .string (mg d)] 23)) W4.heap.size d := by constructor <;> simp [go_sem]
        clear P2 B2 hbl b4 I2 y1 y2
        go_upto_region 10 with fail
        generalize W4.alloc (.cells #[.bool (sg d), .string (mg d)] 23) = W5 at *
        generalize W4.heap.size = p9 at *
        obtain ⟨y1, y2⟩ := id I3
        obtain ⟨y3, y4⟩ := id J3
        go_upto_region 11 with fail
        have hbl := below1 W5 (.cells #[.bool (sg n), .string (mg n), .bool (sg d), .string (mg d)] 25)
        have B4 := (below_more B3 (Nat.le_refl _) hbl).drew
        have P4 := (P3.keep hbl).drew
        have J4 := J3.keep hbl
        have K4 : RIn (W5.alloc (.cells #[.bool (sg n), .string (mg n), .bool (sg d), .string (mg d)] 25)) W5.heap.size (sg n) (mg n) (sg d) (mg d) := RIn.new rfl
        clear P3 B3 hbl y1 y2 y3 y4 I3 J3
        generalize W5.alloc (.cells #[.bool (sg n), .string (mg n), .bool (sg d), .string (mg d)] 25) = W6 at *
        generalize W5.heap.size = p10 at *
        obtain ⟨D, ED⟩ : ∃ D, Hid (decide (d = 1) = D) := ⟨_, Lib.hid rfl⟩
        obtain ⟨C, EC⟩ : ∃ C, Hid (sameR (sg n) (mg n) (sg d) (mg d) (sg (Rat.divInt n d).num) (mg (Rat.divInt n d).num) (sg ((Rat.divInt n d).den : Int)) (mg ((Rat.divInt n d).den : Int)) = C) := ⟨_, Lib.hid rfl⟩
        have Hs := Lib.hid (same_one d)
        cases D with
        | true =>
          have J6 : IC W6.drew p9 d := J4
          have EQ : (sg d == sg 1 && (mg d).toList == (mg 1).toList) = true := Hs.out.trans ED.out
          refine wp_region_held_drew (S := (fun W => W.cell? ⟨p10, 0, none⟩ = some (.bool (sg n)) ∧ W.cell? ⟨p10, 1, none⟩ = some (.string (mg n)) ∧ W.cell? ⟨p10, 2, none⟩ = some (.bool (sg d)) ∧ W.cell? ⟨p10, 3, none⟩ = some (.string (mg d)) ∧ W.cell? ⟨p9, 0, none⟩ = some (.bool (sg d)) ∧ W.cell? ⟨p9, 1, none⟩ = some (.string (mg d)))) (by kernel_rfl) ?_ (fun hHeld => ?_)
          · exact ⟨K4.1, K4.2.1, K4.2.2.1, K4.2.2.2, J4.1, J4.2⟩
          refine wpAnyH_take (i := 0) (oi := { dst := some 41, op := Op.move (Operand.tmp 8), type := 29, pos := "text.go:35", after := #[], guard := none }) (v := ?_) rfl (by kernel_rfl) (by kernel_rfl) (by kernel_rfl) (fun _ _ _ h => h) (Or.inl ⟨by rfl, ?_⟩) (by assumption) ?_
          rotate_left
          · intro w hSw
            (try dsimp only at hSw)
            go_simp
            all_goals with_reducible rfl
          (try simp only [Act.put, List.setIfInBounds_toArray, List.set_cons_zero, List.set_cons_succ])
          refine wpAnyH_take (i := 1) (oi := { dst := some 42, op := Op.binOp BinOp.neq 29 (Operand.tmp 41) (Operand.const (Value.int IntKind.i64 0)) 29, type := 4, pos := "text.go:35", after := #[{ on := 0, ground := Ground.data }], guard := none }) (v := ?_) rfl (by kernel_rfl) (by kernel_rfl) (by kernel_rfl) (fun _ _ _ h => h) (Or.inl ⟨by rfl, ?_⟩) (by assumption) ?_
          rotate_left
          · intro w hSw
            (try dsimp only at hSw)
            go_simp
            all_goals with_reducible rfl
          (try simp only [Act.put, List.setIfInBounds_toArray, List.set_cons_zero, List.set_cons_succ])
          refine wpAnyH_take (i := 2) (oi := { dst := some 43, op := Op.move (Operand.tmp 42), type := 4, pos := "text.go:35", after := #[{ on := 1, ground := Ground.data }], guard := none }) (v := ?_) rfl (by kernel_rfl) (by kernel_rfl) (by kernel_rfl) (fun _ _ _ h => h) (Or.inl ⟨by rfl, ?_⟩) (by assumption) ?_
          rotate_left
          · intro w hSw
            (try dsimp only at hSw)
            go_simp
            all_goals with_reducible rfl
          (try simp only [Act.put, List.setIfInBounds_toArray, List.set_cons_zero, List.set_cons_succ])
          refine wpAnyH_take (i := 3) (oi := { dst := some 44, op := Op.load 23 (Operand.tmp 9), type := 23, pos := "text.go:35", after := #[{ on := 2, ground := Ground.guard }], guard := some (2, false) }) (v := ?_) rfl (by kernel_rfl) (by kernel_rfl) (by kernel_rfl) (fun _ _ _ h => h) (Or.inl ⟨by rfl, ?_⟩) (by assumption) ?_
          rotate_left
          · intro w hSw
            (try dsimp only at hSw)
            go_simp
            all_goals with_reducible rfl
          (try simp only [Act.put, List.setIfInBounds_toArray, List.set_cons_zero, List.set_cons_succ])
          refine wpAnyH_ready (rs := [4]) (by kernel_rfl) (by simp) ?_
          refine AllReadyH.cons (o := { dst := some 45, op := Go.Op.call { callee := Callee.value (Operand.func 17), args := #[Operand.const (Value.int IntKind.i64 1)], argTypes := #[3] }, type := 23, pos := "text.go:35", after := #[{ on := 2, ground := Ground.chain }, { on := 2, ground := Ground.guard }], guard := some (2, false) }) rfl (fun K hK => ?_) AllReadyH.nil
          go_simp
          go_at_call 17; refine (iof_any 1 _ (by omega) (by omega)).mono ?_; rintro e W7 ⟨rfl, b7⟩; have K7 := (show RIn W6.drew p10 (sg n) (mg n) (sg d) (mg d) from K4).keep b7; have J7 := J6.keep b7; have P7 := P4.keep b7; have B7 := below_more B4 (Nat.le_refl _) b7
          go_wp2_with fail
          refine hK.out _ _ ?_ (fun hHeld => ?_)
          · (try dsimp only)
            exact ⟨K7.1, K7.2.1, K7.2.2.1, K7.2.2.2, J7.1, J7.2⟩
          clear hK K
          (try simp only [Act.put, List.setIfInBounds_toArray, List.set_cons_zero, List.set_cons_succ])
          refine wpAnyH_take (i := 5) (oi := { dst := some 46, op := Op.binOp BinOp.eql 23 (Operand.tmp 44) (Operand.tmp 45) 23, type := 4, pos := "text.go:35", after := #[{ on := 3, ground := Ground.data }, { on := 4, ground := Ground.data }, { on := 2, ground := Ground.guard }], guard := some (2, false) }) (v := ?_) rfl (by kernel_rfl) (by kernel_rfl) (by kernel_rfl) (fun _ _ _ h => h) (Or.inl ⟨by rfl, ?_⟩) (by assumption) ?_
          rotate_left
          · intro w hSw
            (try dsimp only at hSw)
            go_simp
            all_goals with_reducible rfl
          (try simp only [Act.put, List.setIfInBounds_toArray, List.set_cons_zero, List.set_cons_succ])
          refine wpAnyH_take (i := 6) (oi := { dst := some 47, op := Op.pick (Operand.tmp 43) (Operand.const (Value.bool true)) (Operand.tmp 46), type := 4, pos := "text.go:35", after := #[{ on := 2, ground := Ground.data }, { on := 5, ground := Ground.data }], guard := none }) (v := ?_) rfl (by kernel_rfl) (by kernel_rfl) (by kernel_rfl) (fun _ _ _ h => h) (Or.inl ⟨by rfl, ?_⟩) (by assumption) ?_
          rotate_left
          · intro w hSw
            (try dsimp only at hSw)
            go_simp
            all_goals with_reducible rfl
          (try simp only [Act.put, List.setIfInBounds_toArray, List.set_cons_zero, List.set_cons_succ])
          refine wpAnyH_take (i := 7) (oi := { dst := some 48, op := Op.move (Operand.tmp 47), type := 4, pos := "text.go:35", after := #[{ on := 6, ground := Ground.data }, { on := 4, ground := Ground.chain }], guard := none }) (v := ?_) rfl (by kernel_rfl) (by kernel_rfl) (by kernel_rfl) (fun _ _ _ h => h) (Or.inl ⟨by rfl, ?_⟩) (by assumption) ?_
          rotate_left
          · intro w hSw
            (try dsimp only at hSw)
            go_simp
            all_goals with_reducible rfl
          (try simp only [Act.put, List.setIfInBounds_toArray, List.set_cons_zero, List.set_cons_succ])
          refine wpAnyH_take (i := 8) (oi := { dst := some 49, op := Op.load 25 (Operand.tmp 10), type := 25, pos := "text.go:35", after := #[{ on := 7, ground := Ground.guard }], guard := some (7, false) }) (v := undef) rfl (by kernel_rfl) (by kernel_rfl) (by kernel_rfl) (fun _ _ _ h => h) (Or.inr ⟨by rfl, rfl⟩) (by assumption) ?_
          (try simp only [Act.put, List.setIfInBounds_toArray, List.set_cons_zero, List.set_cons_succ])
          refine wpAnyH_take (i := 9) (oi := { dst := some 50, op := Go.Op.call { callee := Callee.value (Operand.func 18), args := #[Operand.tmp 49], argTypes := #[25] }, type := 29, pos := "text.go:35", after := #[{ on := 8, ground := Ground.data }, { on := 7, ground := Ground.chain }, { on := 7, ground := Ground.guard }], guard := some (7, false) }) (v := undef) rfl (by kernel_rfl) (by kernel_rfl) (by kernel_rfl) (fun _ _ _ h => h) (Or.inr ⟨by rfl, rfl⟩) (by assumption) ?_
          (try simp only [Act.put, List.setIfInBounds_toArray, List.set_cons_zero, List.set_cons_succ])
          refine wpAnyH_take (i := 10) (oi := { dst := some 51, op := Op.binOp BinOp.neq 29 (Operand.tmp 50) (Operand.const (Value.int IntKind.i64 0)) 29, type := 4, pos := "text.go:35", after := #[{ on := 9, ground := Ground.data }, { on := 7, ground := Ground.guard }], guard := some (7, false) }) (v := undef) rfl (by kernel_rfl) (by kernel_rfl) (by kernel_rfl) (fun _ _ _ h => h) (Or.inr ⟨by rfl, rfl⟩) (by assumption) ?_
          (try simp only [Act.put, List.setIfInBounds_toArray, List.set_cons_zero, List.set_cons_succ])
          refine wpAnyH_take (i := 11) (oi := { dst := some 52, op := Op.pick (Operand.tmp 48) (Operand.const (Value.bool true)) (Operand.tmp 51), type := 4, pos := "text.go:35", after := #[{ on := 7, ground := Ground.data }, { on := 10, ground := Ground.data }], guard := none }) (v := ?_) rfl (by kernel_rfl) (by kernel_rfl) (by kernel_rfl) (fun _ _ _ h => h) (Or.inl ⟨by rfl, ?_⟩) (by assumption) ?_
          rotate_left
          · intro w hSw
            (try dsimp only at hSw)
            go_simp
            all_goals with_reducible rfl
          (try simp only [Act.put, List.setIfInBounds_toArray, List.set_cons_zero, List.set_cons_succ])
          refine wpAnyH_done (by kernel_rfl) ?_ _
          obtain ⟨⟨r1, r2, r3, r4⟩, r5, r6, r7, r8⟩ := P7
          have hno : d = 1 ∨ ¬ (n = (Rat.divInt n d).num ∧ d = ((Rat.divInt n d).den : Int)) := Or.inl (of_decide_eq_true ED.out)
          go_wp2
          exact bodyPost_ret (v := .tuple #[.agg #[.bool false, .string ⟨#[]⟩, .bool false, .string ⟨#[]⟩], .int .i64 3]) (by simp [results, Tryz.results10, go_sem, r1, r2, r3, r4]) rfl (by rw [Hpq.out]; simp only [Bool.true_eq_false, if_false, if_pos hno]; exact ⟨rfl, below4s B7 _ (by omega) _ _ _ _⟩)
        | false =>
          have IR := Lib.hid (show IsRat (.agg #[.bool (sg n), .string (mg n), .bool (sg d), .string (mg d)]) (Rat.divInt n d) K from ⟨_, _, _, _, n, d, rfl, In.out, Id.out, rfl⟩)
          have S6 : RIn2 W6.drew p10 p10 (sg n) (mg n) (sg d) (mg d) (sg n) (mg n) (sg d) (mg d) := .mk K4 K4
          have J6 : IC W6.drew p9 d := J4
          have EQ : (sg d == sg 1 && (mg d).toList == (mg 1).toList) = false := Hs.out.trans ED.out
          cases C with
          | false =>
            go_region_held3 (fun W => W.cell? ⟨p10, 0, none⟩ = some (.bool (sg n)) ∧ W.cell? ⟨p10, 1, none⟩ = some (.string (mg n)) ∧ W.cell? ⟨p10, 2, none⟩ = some (.bool (sg d)) ∧ W.cell? ⟨p10, 3, none⟩ = some (.string (mg d)) ∧ W.cell? ⟨p9, 0, none⟩ = some (.bool (sg d)) ∧ W.cell? ⟨p9, 1, none⟩ = some (.string (mg d)))
              (first | exact ⟨K4.1, K4.2.1, K4.2.2.1, K4.2.2.2, J4.1, J4.2⟩ | exact ⟨K7.1, K7.2.1, K7.2.2.1, K7.2.2.2, J7.1, J7.2⟩ | exact ⟨K8.1, K8.2.1, K8.2.2.1, K8.2.2.2, J8.1, J8.2⟩)
              (first
                | (go_at_call 17; refine (iof_any 1 _ (by omega) (by omega)).mono ?_; rintro e W7 ⟨rfl, b7⟩; have K7 := (show RIn W6.drew p10 (sg n) (mg n) (sg d) (mg d) from K4).keep b7; have J7 := J6.keep b7; have P7 := P4.keep b7; have B7 := below_more B4 (Nat.le_refl _) b7)
                | (go_at_call 18; refine (check_no _ _ _ _ (Rat.divInt n d) K _ IR.out EC.out).mono ?_; rintro e W8 ⟨rfl, b8⟩; have K8 := K7.keep b8; have J8 := J7.keep b8; have P8 := P7.keep b8; have B8 := below_more B7 (Nat.le_refl _) b8))
            all_goals
              obtain ⟨⟨r1, r2, r3, r4⟩, r5, r6, r7, r8⟩ := P8
              have hno : d = 1 ∨ ¬ (n = (Rat.divInt n d).num ∧ d = ((Rat.divInt n d).den : Int)) := Or.inr fun h => by have h9 := (sameR_iff n d _).2 h; rw [EC.out] at h9; cases h9
              go_wp2
              exact bodyPost_ret (v := .tuple #[.agg #[.bool false, .string ⟨#[]⟩, .bool false, .string ⟨#[]⟩], .int .i64 3]) (by simp [results, Tryz.results10, go_sem, r1, r2, r3, r4]) rfl (by rw [Hpq.out]; simp only [Bool.true_eq_false, if_false, if_pos hno]; exact ⟨rfl, below4s B8 _ (by omega) _ _ _ _⟩)
          | true =>
            go_region_held3 (fun W => W.cell? ⟨p10, 0, none⟩ = some (.bool (sg n)) ∧ W.cell? ⟨p10, 1, none⟩ = some (.string (mg n)) ∧ W.cell? ⟨p10, 2, none⟩ = some (.bool (sg d)) ∧ W.cell? ⟨p10, 3, none⟩ = some (.string (mg d)) ∧ W.cell? ⟨p9, 0, none⟩ = some (.bool (sg d)) ∧ W.cell? ⟨p9, 1, none⟩ = some (.string (mg d)))
              (first | exact ⟨K4.1, K4.2.1, K4.2.2.1, K4.2.2.2, J4.1, J4.2⟩ | exact ⟨K7.1, K7.2.1, K7.2.2.1, K7.2.2.2, J7.1, J7.2⟩ | exact ⟨K8.1, K8.2.1, K8.2.2.1, K8.2.2.2, J8.1, J8.2⟩)
              (first
                | (go_at_call 17; refine (iof_any 1 _ (by omega) (by omega)).mono ?_; rintro e W7 ⟨rfl, b7⟩; have K7 := (show RIn W6.drew p10 (sg n) (mg n) (sg d) (mg d) from K4).keep b7; have J7 := J6.keep b7; have P7 := P4.keep b7; have B7 := below_more B4 (Nat.le_refl _) b7)
                | (go_at_call 18; refine (check_ok _ _ _ _ (Rat.divInt n d) K _ IR.out EC.out).mono ?_; rintro e W8 ⟨rfl, b8⟩; have K8 := K7.keep b8; have J8 := J7.keep b8; have P8 := P7.keep b8; have B8 := below_more B7 (Nat.le_refl _) b8))
            all_goals
              obtain ⟨⟨r1, r2, r3, r4⟩, r5, r6, r7, r8⟩ := P8
              obtain ⟨x1, x2, x3, x4⟩ := id K8
              have h9 := (sameR_iff n d _).1 EC.out
              have hno : ¬ (d = 1 ∨ ¬ (n = (Rat.divInt n d).num ∧ d = ((Rat.divInt n d).den : Int))) := fun h => h.elim (of_decide_eq_false ED.out) (fun h => h h9)
              have hV := Lib.hid (show Value.agg #[.bool (sg n), .string (mg n), .bool (sg d), .string (mg d)] = ratV (Rat.divInt n d) by unfold ratV; rw [← h9.1, ← h9.2])
              clear h9
              go_wp2
              exact bodyPost_ret (v := .tuple #[.agg #[.bool (sg n), .string (mg n), .bool (sg d), .string (mg d)], .int .i64 0]) (by simp [results, Tryz.results10, go_sem, r1, r2, r3, r4]) rfl (by rw [Hpq.out]; simp only [Bool.true_eq_false, if_false, if_neg hno]; exact ⟨by rw [hV.out], below4s B8 _ (by omega) _ _ _ _⟩)
end Go.Proofs.YtcljkdninmldiaaGreatDoor

namespace Go.Proofs.YtcljkdninmldiaaGreatDoor
open Go.RowKit
set_option linter.unusedSimpArgs false

set_option maxRecDepth 100000 in
theorem lratio_any (n d : Int) (r : Rat) (w : World) (hn : -9223372036854775808 ≤ n) (hn' : n ≤ 9223372036854775807) (hd : -9223372036854775808 ≤ d) (hd' : d ≤ 9223372036854775807) (h0 : d ≠ 0) (hr : Rat.divInt n d = r) :
    Calls Tryz.prog 15 #[.int .i64 n, .int .i64 d] w (RatOut w r) := by
  have P0 := ResRat.new w
  have B0 := below1 w (.cells #[.bool false, .string ⟨#[]⟩, .bool false, .string ⟨#[]⟩] 25)
  go_enter Tryz.func15, Tryz.ntmps15
  go_wp2_with fail
  refine (ratio_any n d r _ hn hn' hd hd' h0 hr).mono ?_
  rintro e W1 ⟨rfl, b1⟩
  have hbl := below1 W1 (.cells #[.bool (sg r.num), .string (mg r.num), .bool (sg (r.den : Int)), .string (mg (r.den : Int))] 25)
  have P1 := (P0.keep b1).keep hbl
  have S1 : RIn (W1.alloc (.cells #[.bool (sg r.num), .string (mg r.num), .bool (sg (r.den : Int)), .string (mg (r.den : Int))] 25)) W1.heap.size (sg r.num) (mg r.num) (sg (r.den : Int)) (mg (r.den : Int)) := RIn.new rfl
  have B1 := below_more (below_more B0 (Nat.le_refl _) b1) (Nat.le_refl _) hbl
  clear P0 B0 b1 hbl
  unfold ratV
  go_upto_region 2 with fail
  generalize W1.alloc (.cells #[.bool (sg r.num), .string (mg r.num), .bool (sg (r.den : Int)), .string (mg (r.den : Int))] 25) = W2 at *
  generalize W1.heap.size = p3 at *
  obtain ⟨t1, t2, t3, t4⟩ := id S1
  obtain ⟨⟨r1, r2, r3, r4⟩, r5, r6, r7, r8⟩ := P1
  go_wp2
  exact bodyPost_ret (v := ratV r) (by simp [results, Tryz.results15, go_sem, r1, r2, r3, r4, ratV]) rfl ⟨rfl, below4s B1 _ (by omega) _ _ _ _⟩
end Go.Proofs.YtcljkdninmldiaaGreatDoor
