/- What rational.Simplest returns. Condition: the integers have at most 10^6 digits to the base 2^32. The run of the two continued fractions at the numbers of the chapter's examples. Plain facts; no condition. What integer.isDecimal, integer.fromDecimal and integer.Parse return. Condition: the text has at most 65536 bytes (Parse), else ErrLimit. -/
import Derived.Test.YtabmhckgdncjlaaGreatDoorQ33
import Derived.Test.YtabmhckgdncjlaaGreatDoorQ09
import Derived.Test.YtabmhckgdncjlaaGreatDoorQ08
import Derived.Test.YtabmhckgdncjlaaGreatDoorQ30

namespace Go.Proofs.YtabmhckgdncjlaaGreatDoor
open Go.RowKit
set_option linter.unusedSimpArgs false
set_option linter.unusedVariables false

/-- A variable whose number has come up, or not yet. -/
def HoldsUp (V : Value → Prop) (W : World) (p : Nat) : Prop := ∃ g1 s1 g2 s2, V (.agg #[.bool g1, .string s1, .bool g2, .string s2]) ∧ RIn W p g1 s1 g2 s2
def Sl (base : Nat) (V : Value → Prop) (F : Prop) (u : Value) (W : World) : Prop := ∃ p, u = .pointer (some ⟨p, 0, none⟩) ∧ base ≤ p ∧ (∃ g1 s1 g2 s2, FR W p g1 s1 g2 s2) ∧ (F → HoldsUp V W p)
theorem Sl.keep {base : Nat} {V : Value → Prop} {F : Prop} {u : Value} {W W' : World} (h : Sl base V F u W) (hb : Below W.heap.size W W') : Sl base V F u W' := by
  obtain ⟨p, h1, h2, ⟨g1, s1, g2, s2, h3⟩, h4⟩ := h
  refine ⟨p, h1, h2, ⟨g1, s1, g2, s2, h3.keep hb⟩, fun f => ?_⟩
  obtain ⟨a1, b1, a2, b2, h5, h6⟩ := h4 f
  exact ⟨a1, b1, a2, b2, h5, h6.keep hb⟩
theorem Sl.imp {base : Nat} {V : Value → Prop} {F F' : Prop} {u : Value} {W : World} (h : Sl base V F u W) (hf : F' → F) : Sl base V F' u W := by
  obtain ⟨p, h1, h2, h3, h4⟩ := h
  exact ⟨p, h1, h2, h3, fun f => h4 (hf f)⟩
theorem Sl.new {base : Nat} {V : Value → Prop} {F : Prop} {W : World} (hF : ¬F) (hb : base ≤ W.heap.size) : Sl base V F (.pointer (some ⟨W.heap.size, 0, none⟩)) (W.alloc (.cells #[.bool false, .string ⟨#[]⟩, .bool false, .string ⟨#[]⟩] 25)) := by
  refine ⟨_, rfl, hb, ⟨false, ⟨#[]⟩, false, ⟨#[]⟩, RIn.new rfl, ?_, ?_, ?_, ?_⟩, fun f => absurd f hF⟩ <;> simp [go_sem]
theorem Sl.ne_new {base : Nat} {V : Value → Prop} {F : Prop} {u : Value} {W : World} (h : Sl base V F u W) : u ≠ .pointer (some ⟨W.heap.size, 0, none⟩) := by
  obtain ⟨p, rfl, _, ⟨g1, s1, g2, s2, h3⟩, _⟩ := h
  have := h3.1.lt
  intro e
  injection e with e
  injection e with e
  injection e with e
  omega
theorem Sl.far {base q : Nat} {V : Value → Prop} {F : Prop} {u : Value} {W : World} (h : Sl base V F u W) (hne : u ≠ .pointer (some ⟨q, 0, none⟩)) (g1 g2 : Bool) (s1 s2 : ByteArray) : Sl base V F u (st4 W q g1 s1 g2 s2) := by
  obtain ⟨p, rfl, h2, ⟨a1, b1, a2, b2, h3⟩, h4⟩ := h
  have hpq : p ≠ q := fun e => hne (by rw [e])
  refine ⟨p, rfl, h2, ⟨a1, b1, a2, b2, h3.far hpq _ _ _ _⟩, fun f => ?_⟩
  obtain ⟨c1, d1, c2, d2, h5, h6⟩ := h4 f
  exact ⟨c1, d1, c2, d2, h5, (st4_far (by exact hpq)).trans h6.1, (st4_far (by exact hpq)).trans h6.2.1, (st4_far (by exact hpq)).trans h6.2.2.1, (st4_far (by exact hpq)).trans h6.2.2.2⟩
theorem Sl.put {base p : Nat} {V : Value → Prop} {F F' : Prop} {W : World} (h : Sl base V F (.pointer (some ⟨p, 0, none⟩)) W) {g1 g2 : Bool} {s1 s2 : ByteArray} (hu : V (.agg #[.bool g1, .string s1, .bool g2, .string s2])) : Sl base V F' (.pointer (some ⟨p, 0, none⟩)) (st4 W p g1 s1 g2 s2) := by
  obtain ⟨p', e, h2, ⟨a1, b1, a2, b2, h3⟩, _⟩ := h
  injection e with e
  injection e with e
  injection e with e
  subst e
  exact ⟨p, rfl, h2, ⟨_, _, _, _, h3.st4 g1 g2 s1 s2⟩, fun _ => ⟨_, _, _, _, hu, (h3.st4 g1 g2 s1 s2).1⟩⟩
theorem RIn.low {B p : Nat} {W W' : World} {g1 g2 : Bool} {s1 s2 : ByteArray} (h : RIn W p g1 s1 g2 s2) (hb : Below B W W') (hp : p < B) : RIn W' p g1 s1 g2 s2 :=
  ⟨(hb.cell hp).trans h.1, (hb.cell hp).trans h.2.1, (hb.cell hp).trans h.2.2.1, (hb.cell hp).trans h.2.2.2⟩
/-- What lies below all that the region makes. -/
def Lo (w : World) (na nb nc nd : Bool) (sa sb sc sd : ByteArray) (W : World) : Prop := RIn2 W w.heap.size (w.heap.size + 1) na sa nb sb nc sc nd sd ∧ ResRat W (w.heap.size + 1 + 1) ∧ Below w.heap.size w W ∧ w.heap.size + 1 + 1 + 1 ≤ W.heap.size
theorem Lo.keep {w W W' : World} {na nb nc nd : Bool} {sa sb sc sd : ByteArray} (h : Lo w na nb nc nd sa sb sc sd W) (hb : Below (w.heap.size + 1 + 1 + 1) W W') : Lo w na nb nc nd sa sb sc sd W' := by
  obtain ⟨h1, h2, h3, h4⟩ := h
  refine ⟨.mk (h1.fst.low hb (by omega)) (h1.snd.low hb (by omega)), ⟨h2.1.low hb (by omega), ?_, ?_, ?_, ?_⟩, h3.trans (hb.mono (by omega)), by have := hb.size; omega⟩
  · exact (hb.frozen (by dsimp only; omega)).trans h2.2.1
  · exact (hb.frozen (by dsimp only; omega)).trans h2.2.2.1
  · exact (hb.frozen (by dsimp only; omega)).trans h2.2.2.2.1
  · exact (hb.frozen (by dsimp only; omega)).trans h2.2.2.2.2
theorem isUp_neg {v : Value} {q : Rat} {k : Nat} (h : IsUp v q k) (hk : k + 1 ≤ 10000000) : IsUp (ratV (-q)) (-q) (k + 1) := by
  obtain ⟨_, _, _, _, n, d, _, h2, h3, _, rfl⟩ := h
  have hb := ratBd_divInt h2.bd h3.bd
  refine isUp_ratV ⟨?_, hb.2⟩ hk
  show (-(Rat.divInt n d).num).natAbs < _
  rw [Int.natAbs_neg]
  exact hb.1
theorem isUp_zero {K : Nat} (h1 : 1 ≤ K) (h2 : K ≤ 10000000) : IsUp (ratV 0) 0 K := (isUp_ratV (k := 1) (by constructor <;> decide) (by omega)).wider h1 h2

/-- What Simplest returns, with the error's number. -/
def SimRes (p q : Rat) (v : Value) (n : Int) : Prop :=
  (q < p ∧ v = .agg #[.bool false, .string ⟨#[]⟩, .bool false, .string ⟨#[]⟩] ∧ n = 10) ∨
  (p ≤ q ∧ n = 0 ∧ ((0 < p ∧ ∃ rn rd, SimOf p q rn rd ∧ v = raw rn rd) ∨ (q < 0 ∧ ∃ rn rd, SimOf (-q) (-p) rn rd ∧ v = ratV (-(Rat.divInt rn rd))) ∨ (p ≤ 0 ∧ 0 ≤ q ∧ v = ratV 0)))
theorem cmpQ_gt {p q : Rat} : 0 < cmpQ p q ↔ q < p := by
  unfold cmpQ
  constructor
  · intro h
    split at h
    · omega
    · split at h
      · assumption
      · omega
  · intro h
    rw [if_neg (Rat.not_lt.2 (Rat.le_of_lt h)), if_pos h]
    omega
theorem cmpQ_lt {p q : Rat} : cmpQ p q < 0 ↔ p < q := by
  unfold cmpQ
  constructor
  · intro h
    split at h
    · assumption
    · split at h <;> omega
  · intro h
    rw [if_pos h]
    omega

set_option maxRecDepth 100000 in
set_option maxHeartbeats 6400000 in
theorem simplest_any (v1 v2 : Value) (p q : Rat) (k : Nat) (w : World) (h1 : IsRat v1 p k) (h2 : IsRat v2 q k) (hk1 : 1 ≤ k) (hk : k ≤ 900000) :
    Calls Tryz.prog 31 #[v1, v2] w fun e w' => ∃ v n, SimRes p q v n ∧ e = .returned (.tuple #[v, .int .i64 n]) ∧ Below w.heap.size w w' := by
  have H1 := Lib.hid h1
  have H2 := Lib.hid h2
  obtain ⟨na, sa, nb, sb, -, -, rfl, -⟩ := h1
  obtain ⟨nc, sc, nd, sd, -, -, rfl, -⟩ := h2
  have S0 : RIn2 (((w.alloc (.cells #[.bool na, .string sa, .bool nb, .string sb] 25)).alloc (.cells #[.bool nc, .string sc, .bool nd, .string sd] 25)).alloc (.cells #[.bool false, .string ⟨#[]⟩, .bool false, .string ⟨#[]⟩] 25)) w.heap.size (w.heap.size + 1) na sa nb sb nc sc nd sd := by
    refine ⟨?_, ?_, ?_, ?_, ?_, ?_, ?_, ?_⟩ <;> simp [go_sem]
  have P0 := ResRat.new ((w.alloc (.cells #[.bool na, .string sa, .bool nb, .string sb] 25)).alloc (.cells #[.bool nc, .string sc, .bool nd, .string sd] 25))
  rw [World.size_alloc, World.size_alloc] at P0
  have B0 := below3 w (.cells #[.bool na, .string sa, .bool nb, .string sb] 25) (.cells #[.bool nc, .string sc, .bool nd, .string sd] 25) (.cells #[.bool false, .string ⟨#[]⟩, .bool false, .string ⟨#[]⟩] 25)
  obtain ⟨n1, En⟩ : ∃ n1, Hid (cmpQ p q = n1) := ⟨_, Lib.hid rfl⟩
  go_enter Tryz.func31, Tryz.ntmps31
  go_wp2_with fail
  refine (rcmp_any _ _ p q k _ H1.out H2.out (by omega)).mono ?_
  rw [En.out]
  rintro e W1 ⟨rfl, b1⟩
  have S1 := S0.keep b1
  have P1 := P0.keep b1
  have B1 := below_more B0 (Nat.le_refl _) b1
  clear S0 P0 B0 b1
  by_cases hn : 0 < n1
  · have Hn := Lib.hid (cmpQ_gt.1 (by rw [En.out]; exact hn))
    obtain ⟨⟨r1, r2, r3, r4⟩, r5, r6, r7, r8⟩ := P1
    go_wp2
    exact bodyPost_ret (v := .tuple #[.agg #[.bool false, .string ⟨#[]⟩, .bool false, .string ⟨#[]⟩], .int .i64 10]) (by simp [results, Tryz.results31, go_sem, r1, r2, r3, r4]) rfl ⟨_, 10, .inl ⟨Hn.out, rfl, rfl⟩, rfl, below4s B1 _ (by omega) _ _ _ _⟩
  · have Hn := Lib.hid (Rat.not_lt.1 fun h => hn (by have := cmpQ_gt.2 h; rw [En.out] at this; exact this))
    go_upto_region 3 with fail
    have HB := Lib.hid (show Lo w na nb nc nd sa sb sc sd W1.drew from ⟨S1, P1.drew, B1.drew, by have := P1.1.lt; show _ ≤ W1.heap.size; omega⟩)
    have hmx : Tryz.prog.follows .mixedOrders = true := by kernel_rfl
    generalize decide (0 < n1) = D0
    refine region_inv' (J := (fun L a wx => ∃ u6 u7 u8 u14 u15 u16 u17 u18 u19, a = { tmps := #[.agg #[.bool na, .string sa, .bool nb, .string sb], .agg #[.bool nc, .string sc, .bool nd, .string sd], .pointer (some ⟨w.heap.size, 0, none⟩), .pointer (some ⟨w.heap.size + 1, 0, none⟩), .pointer (some ⟨w.heap.size + 1 + 1, 0, none⟩), .int .i64 0, u6, u7, u8, .agg #[.bool na, .string sa, .bool nb, .string sb], .agg #[.bool nc, .string sc, .bool nd, .string sd], .int .i64 n1, .bool D0, undef, u14, u15, u16, u17, u18, u19, undef, undef, undef, undef, undef, undef, undef, undef, undef, undef, undef, undef, undef, undef, undef, undef, undef, undef], defers := [] } ∧ Lo w na nb nc nd sa sb sc sd wx ∧
      (L.getD 0 false = true → u14 = .agg #[.bool na, .string sa, .bool nb, .string sb]) ∧ (L.getD 1 false = true → IsUp u15 p k) ∧ (L.getD 2 false = true → u16 = .agg #[.bool nc, .string sc, .bool nd, .string sd]) ∧ (L.getD 3 false = true → IsUp u17 q k) ∧ (L.getD 4 false = true → u18 = .agg #[.bool false, .string ⟨#[]⟩]) ∧ (L.getD 5 false = true → u19 = ratV 0) ∧
      (L.getD 6 false = true → Sl (w.heap.size + 1 + 1 + 1) (fun v => IsUp v p k) (L.getD 9 false = true) u6 wx) ∧ (L.getD 7 false = true → Sl (w.heap.size + 1 + 1 + 1) (fun v => IsUp v q k) (L.getD 10 false = true) u7 wx) ∧ (L.getD 8 false = true → Sl (w.heap.size + 1 + 1 + 1) (fun v => v = ratV 0) (L.getD 11 false = true) u8 wx) ∧
      (L.getD 6 false = true → L.getD 7 false = true → u6 ≠ u7) ∧ (L.getD 6 false = true → L.getD 8 false = true → u6 ≠ u8) ∧ (L.getD 7 false = true → L.getD 8 false = true → u7 ≠ u8) ∧ (L.getD 9 false = true → L.getD 6 false = true) ∧ (L.getD 10 false = true → L.getD 7 false = true) ∧ (L.getD 11 false = true → L.getD 8 false = true))) hmx (by kernel_rfl) ?_ ?_ ?_
    · exact ⟨undef, undef, undef, undef, undef, undef, undef, undef, undef, rfl, HB.out, (fun h => absurd h (by decide)), (fun h => absurd h (by decide)), (fun h => absurd h (by decide)), (fun h => absurd h (by decide)), (fun h => absurd h (by decide)), (fun h => absurd h (by decide)), (fun h => absurd h (by decide)), (fun h => absurd h (by decide)), (fun h => absurd h (by decide)), (fun h => absurd h (by decide)), (fun h => absurd h (by decide)), (fun h => absurd h (by decide)), (fun h => absurd h (by decide)), (fun h => absurd h (by decide)), (fun h => absurd h (by decide))⟩
    · intro i hi L a wx hl hw ⟨u6, u7, u8, u14, u15, u16, u17, u18, u19, ha, lo, c0, c1, c2, c3, c4, c5, s6, s7, s8, d67, d68, d78, k9, k10, k11⟩
      subst ha
      obtain ⟨⟨q1, q2, q3, q4, q5, q6, q7, q8⟩, -⟩ := id lo
      clear HB S1 P1 B1
      have hi' : i = 0 ∨ i = 1 ∨ i = 2 ∨ i = 3 ∨ i = 4 ∨ i = 5 ∨ i = 6 ∨ i = 7 ∨ i = 8 ∨ i = 9 ∨ i = 10 ∨ i = 11 := by
        have : i < 12 := hi
        omega
      rcases hi' with rfl | rfl | rfl | rfl | rfl | rfl | rfl | rfl | rfl | rfl | rfl | rfl
      · refine stepJ (i := 0) rfl (fun K hK => ?_)
        go_simp
        refine hK.out _ _ ⟨u6, u7, u8, _, u15, u16, u17, u18, u19, rfl, lo, fun _ => rfl, fun h => c1 (fl (by decide) h), fun h => c2 (fl (by decide) h), fun h => c3 (fl (by decide) h), fun h => c4 (fl (by decide) h), fun h => c5 (fl (by decide) h), fun h => ((s6 (fl (by decide) h)).imp (fl (by decide))), fun h => ((s7 (fl (by decide) h)).imp (fl (by decide))), fun h => ((s8 (fl (by decide) h)).imp (fl (by decide))), fun h h' => d67 (fl (by decide) h) (fl (by decide) h'), fun h h' => d68 (fl (by decide) h) (fl (by decide) h'), fun h h' => d78 (fl (by decide) h) (fl (by decide) h'), fun h => getD_set_true (k9 (fl (by decide) h)), fun h => getD_set_true (k10 (fl (by decide) h)), fun h => getD_set_true (k11 (fl (by decide) h))⟩
      · refine stepJ (i := 1) rfl (fun K hK => ?_)
        obtain rfl := c0 (hw 0 (by kernel_rfl))
        go_simp
        go_at_call 38
        refine (upright_any _ p k _ H1.out).mono ?_
        rintro e W2 ⟨v2, rfl, hup, b2⟩
        go_wp2_with fail
        refine hK.out _ _ ⟨u6, u7, u8, _, v2, u16, u17, u18, u19, rfl, lo.keep (b2.mono lo.2.2.2), fun _ => rfl, fun _ => hup.wider (by omega) (by omega), fun h => c2 (fl (by decide) h), fun h => c3 (fl (by decide) h), fun h => c4 (fl (by decide) h), fun h => c5 (fl (by decide) h), fun h => ((s6 (fl (by decide) h)).imp (fl (by decide))).keep b2, fun h => ((s7 (fl (by decide) h)).imp (fl (by decide))).keep b2, fun h => ((s8 (fl (by decide) h)).imp (fl (by decide))).keep b2, fun h h' => d67 (fl (by decide) h) (fl (by decide) h'), fun h h' => d68 (fl (by decide) h) (fl (by decide) h'), fun h h' => d78 (fl (by decide) h) (fl (by decide) h'), fun h => getD_set_true (k9 (fl (by decide) h)), fun h => getD_set_true (k10 (fl (by decide) h)), fun h => getD_set_true (k11 (fl (by decide) h))⟩
      · refine stepJ (i := 2) rfl (fun K hK => ?_)
        go_simp
        refine hK.out _ _ ⟨u6, u7, u8, u14, u15, _, u17, u18, u19, rfl, lo, fun h => c0 (fl (by decide) h), fun h => c1 (fl (by decide) h), fun _ => rfl, fun h => c3 (fl (by decide) h), fun h => c4 (fl (by decide) h), fun h => c5 (fl (by decide) h), fun h => ((s6 (fl (by decide) h)).imp (fl (by decide))), fun h => ((s7 (fl (by decide) h)).imp (fl (by decide))), fun h => ((s8 (fl (by decide) h)).imp (fl (by decide))), fun h h' => d67 (fl (by decide) h) (fl (by decide) h'), fun h h' => d68 (fl (by decide) h) (fl (by decide) h'), fun h h' => d78 (fl (by decide) h) (fl (by decide) h'), fun h => getD_set_true (k9 (fl (by decide) h)), fun h => getD_set_true (k10 (fl (by decide) h)), fun h => getD_set_true (k11 (fl (by decide) h))⟩
      · refine stepJ (i := 3) rfl (fun K hK => ?_)
        obtain rfl := c2 (hw 2 (by kernel_rfl))
        go_simp
        go_at_call 38
        refine (upright_any _ q k _ H2.out).mono ?_
        rintro e W2 ⟨v2, rfl, hup, b2⟩
        go_wp2_with fail
        refine hK.out _ _ ⟨u6, u7, u8, u14, u15, _, v2, u18, u19, rfl, lo.keep (b2.mono lo.2.2.2), fun h => c0 (fl (by decide) h), fun h => c1 (fl (by decide) h), fun _ => rfl, fun _ => hup.wider (by omega) (by omega), fun h => c4 (fl (by decide) h), fun h => c5 (fl (by decide) h), fun h => ((s6 (fl (by decide) h)).imp (fl (by decide))).keep b2, fun h => ((s7 (fl (by decide) h)).imp (fl (by decide))).keep b2, fun h => ((s8 (fl (by decide) h)).imp (fl (by decide))).keep b2, fun h h' => d67 (fl (by decide) h) (fl (by decide) h'), fun h h' => d68 (fl (by decide) h) (fl (by decide) h'), fun h h' => d78 (fl (by decide) h) (fl (by decide) h'), fun h => getD_set_true (k9 (fl (by decide) h)), fun h => getD_set_true (k10 (fl (by decide) h)), fun h => getD_set_true (k11 (fl (by decide) h))⟩
      · refine stepJ (i := 4) rfl (fun K hK => ?_)
        go_simp
        refine hK.out _ _ ⟨u6, u7, u8, u14, u15, u16, u17, _, u19, rfl, lo, fun h => c0 (fl (by decide) h), fun h => c1 (fl (by decide) h), fun h => c2 (fl (by decide) h), fun h => c3 (fl (by decide) h), fun _ => rfl, fun h => c5 (fl (by decide) h), fun h => ((s6 (fl (by decide) h)).imp (fl (by decide))), fun h => ((s7 (fl (by decide) h)).imp (fl (by decide))), fun h => ((s8 (fl (by decide) h)).imp (fl (by decide))), fun h h' => d67 (fl (by decide) h) (fl (by decide) h'), fun h h' => d68 (fl (by decide) h) (fl (by decide) h'), fun h h' => d78 (fl (by decide) h) (fl (by decide) h'), fun h => getD_set_true (k9 (fl (by decide) h)), fun h => getD_set_true (k10 (fl (by decide) h)), fun h => getD_set_true (k11 (fl (by decide) h))⟩
      · refine stepJ (i := 5) rfl (fun K hK => ?_)
        obtain rfl := c4 (hw 4 (by kernel_rfl))
        go_simp
        go_at_call 21
        refine (rof_any _ 0 1 _ zero_int).mono ?_
        rintro e W2 ⟨rfl, b2⟩
        go_wp2_with fail
        refine hK.out _ _ ⟨u6, u7, u8, u14, u15, u16, u17, _, _, rfl, lo.keep (b2.mono lo.2.2.2), fun h => c0 (fl (by decide) h), fun h => c1 (fl (by decide) h), fun h => c2 (fl (by decide) h), fun h => c3 (fl (by decide) h), fun _ => rfl, fun _ => rfl, fun h => ((s6 (fl (by decide) h)).imp (fl (by decide))).keep b2, fun h => ((s7 (fl (by decide) h)).imp (fl (by decide))).keep b2, fun h => ((s8 (fl (by decide) h)).imp (fl (by decide))).keep b2, fun h h' => d67 (fl (by decide) h) (fl (by decide) h'), fun h h' => d68 (fl (by decide) h) (fl (by decide) h'), fun h h' => d78 (fl (by decide) h) (fl (by decide) h'), fun h => getD_set_true (k9 (fl (by decide) h)), fun h => getD_set_true (k10 (fl (by decide) h)), fun h => getD_set_true (k11 (fl (by decide) h))⟩
      · refine stepJ (i := 6) rfl (fun K hK => ?_)
        go_simp
        refine hK.out _ _ ⟨_, u7, u8, u14, u15, u16, u17, u18, u19, rfl, lo.keep ((below1 wx _).mono lo.2.2.2), fun h => c0 (fl (by decide) h), fun h => c1 (fl (by decide) h), fun h => c2 (fl (by decide) h), fun h => c3 (fl (by decide) h), fun h => c4 (fl (by decide) h), fun h => c5 (fl (by decide) h), fun _ => Sl.new (fun h => absurd ((k9 (fl (by decide) h)).symm.trans hl) (by decide)) lo.2.2.2, fun h => ((s7 (fl (by decide) h)).imp (fl (by decide))).keep (below1 wx _), fun h => ((s8 (fl (by decide) h)).imp (fl (by decide))).keep (below1 wx _), fun _ h' => Ne.symm (s7 (fl (by decide) h')).ne_new, fun _ h' => Ne.symm (s8 (fl (by decide) h')).ne_new, fun h h' => d78 (fl (by decide) h) (fl (by decide) h'), fun h => getD_set_true (k9 (fl (by decide) h)), fun h => getD_set_true (k10 (fl (by decide) h)), fun h => getD_set_true (k11 (fl (by decide) h))⟩
      · refine stepJ (i := 7) rfl (fun K hK => ?_)
        go_simp
        refine hK.out _ _ ⟨u6, _, u8, u14, u15, u16, u17, u18, u19, rfl, lo.keep ((below1 wx _).mono lo.2.2.2), fun h => c0 (fl (by decide) h), fun h => c1 (fl (by decide) h), fun h => c2 (fl (by decide) h), fun h => c3 (fl (by decide) h), fun h => c4 (fl (by decide) h), fun h => c5 (fl (by decide) h), fun h => ((s6 (fl (by decide) h)).imp (fl (by decide))).keep (below1 wx _), fun _ => Sl.new (fun h => absurd ((k10 (fl (by decide) h)).symm.trans hl) (by decide)) lo.2.2.2, fun h => ((s8 (fl (by decide) h)).imp (fl (by decide))).keep (below1 wx _), fun h _ => (s6 (fl (by decide) h)).ne_new, fun h h' => d68 (fl (by decide) h) (fl (by decide) h'), fun _ h' => Ne.symm (s8 (fl (by decide) h')).ne_new, fun h => getD_set_true (k9 (fl (by decide) h)), fun h => getD_set_true (k10 (fl (by decide) h)), fun h => getD_set_true (k11 (fl (by decide) h))⟩
      · refine stepJ (i := 8) rfl (fun K hK => ?_)
        go_simp
        refine hK.out _ _ ⟨u6, u7, _, u14, u15, u16, u17, u18, u19, rfl, lo.keep ((below1 wx _).mono lo.2.2.2), fun h => c0 (fl (by decide) h), fun h => c1 (fl (by decide) h), fun h => c2 (fl (by decide) h), fun h => c3 (fl (by decide) h), fun h => c4 (fl (by decide) h), fun h => c5 (fl (by decide) h), fun h => ((s6 (fl (by decide) h)).imp (fl (by decide))).keep (below1 wx _), fun h => ((s7 (fl (by decide) h)).imp (fl (by decide))).keep (below1 wx _), fun _ => Sl.new (fun h => absurd ((k11 (fl (by decide) h)).symm.trans hl) (by decide)) lo.2.2.2, fun h h' => d67 (fl (by decide) h) (fl (by decide) h'), fun h _ => (s6 (fl (by decide) h)).ne_new, fun h _ => (s7 (fl (by decide) h)).ne_new, fun h => getD_set_true (k9 (fl (by decide) h)), fun h => getD_set_true (k10 (fl (by decide) h)), fun h => getD_set_true (k11 (fl (by decide) h))⟩
      · refine stepJ (i := 9) rfl (fun K hK => ?_)
        obtain ⟨pp, rfl, hpp, ⟨a1, b1, a2, b2, ⟨⟨y1, y2, y3, y4⟩, y5, y6, y7, y8⟩⟩, _⟩ := id (s6 (hw 6 (by kernel_rfl)))
        have hup := c1 (hw 1 (by kernel_rfl))
        obtain ⟨g1, t1, g2, t2, -, -, rfl, -⟩ := id hup
        go_simp
        refine hK.out _ _ ⟨_, u7, u8, u14, _, u16, u17, u18, u19, rfl, lo.keep (st4_below (Below.refl _ _) pp hpp _ _ _ _), fun h => c0 (fl (by decide) h), fun _ => hup, fun h => c2 (fl (by decide) h), fun h => c3 (fl (by decide) h), fun h => c4 (fl (by decide) h), fun h => c5 (fl (by decide) h), fun _ => (s6 (hw 6 (by kernel_rfl))).put hup, fun h => ((s7 (fl (by decide) h)).imp (fl (by decide))).far (Ne.symm (d67 (hw 6 (by kernel_rfl)) (fl (by decide) h))) _ _ _ _, fun h => ((s8 (fl (by decide) h)).imp (fl (by decide))).far (Ne.symm (d68 (hw 6 (by kernel_rfl)) (fl (by decide) h))) _ _ _ _, fun h h' => d67 (fl (by decide) h) (fl (by decide) h'), fun h h' => d68 (fl (by decide) h) (fl (by decide) h'), fun h h' => d78 (fl (by decide) h) (fl (by decide) h'), fun _ => getD_set_true (hw 6 (by kernel_rfl)), fun h => getD_set_true (k10 (fl (by decide) h)), fun h => getD_set_true (k11 (fl (by decide) h))⟩
      · refine stepJ (i := 10) rfl (fun K hK => ?_)
        obtain ⟨pp, rfl, hpp, ⟨a1, b1, a2, b2, ⟨⟨y1, y2, y3, y4⟩, y5, y6, y7, y8⟩⟩, _⟩ := id (s7 (hw 7 (by kernel_rfl)))
        have hup := c3 (hw 3 (by kernel_rfl))
        obtain ⟨g1, t1, g2, t2, -, -, rfl, -⟩ := id hup
        go_simp
        refine hK.out _ _ ⟨u6, _, u8, u14, u15, u16, _, u18, u19, rfl, lo.keep (st4_below (Below.refl _ _) pp hpp _ _ _ _), fun h => c0 (fl (by decide) h), fun h => c1 (fl (by decide) h), fun h => c2 (fl (by decide) h), fun _ => hup, fun h => c4 (fl (by decide) h), fun h => c5 (fl (by decide) h), fun h => ((s6 (fl (by decide) h)).imp (fl (by decide))).far (d67 (fl (by decide) h) (hw 7 (by kernel_rfl))) _ _ _ _, fun _ => (s7 (hw 7 (by kernel_rfl))).put hup, fun h => ((s8 (fl (by decide) h)).imp (fl (by decide))).far (Ne.symm (d78 (hw 7 (by kernel_rfl)) (fl (by decide) h))) _ _ _ _, fun h h' => d67 (fl (by decide) h) (fl (by decide) h'), fun h h' => d68 (fl (by decide) h) (fl (by decide) h'), fun h h' => d78 (fl (by decide) h) (fl (by decide) h'), fun h => getD_set_true (k9 (fl (by decide) h)), fun _ => getD_set_true (hw 7 (by kernel_rfl)), fun h => getD_set_true (k11 (fl (by decide) h))⟩
      · refine stepJ (i := 11) rfl (fun K hK => ?_)
        obtain ⟨pp, rfl, hpp, ⟨a1, b1, a2, b2, ⟨⟨y1, y2, y3, y4⟩, y5, y6, y7, y8⟩⟩, _⟩ := id (s8 (hw 8 (by kernel_rfl)))
        obtain rfl := c5 (hw 5 (by kernel_rfl))
        have hup : (fun v => v = ratV 0) (.agg #[.bool (sg (0 : Rat).num), .string (mg (0 : Rat).num), .bool (sg ((0 : Rat).den : Int)), .string (mg ((0 : Rat).den : Int))]) := rfl
        unfold ratV
        go_simp
        refine hK.out _ _ ⟨u6, u7, _, u14, u15, u16, u17, u18, _, rfl, lo.keep (st4_below (Below.refl _ _) pp hpp _ _ _ _), fun h => c0 (fl (by decide) h), fun h => c1 (fl (by decide) h), fun h => c2 (fl (by decide) h), fun h => c3 (fl (by decide) h), fun h => c4 (fl (by decide) h), fun _ => rfl, fun h => ((s6 (fl (by decide) h)).imp (fl (by decide))).far (d68 (fl (by decide) h) (hw 8 (by kernel_rfl))) _ _ _ _, fun h => ((s7 (fl (by decide) h)).imp (fl (by decide))).far (d78 (fl (by decide) h) (hw 8 (by kernel_rfl))) _ _ _ _, fun _ => (s8 (hw 8 (by kernel_rfl))).put hup, fun h h' => d67 (fl (by decide) h) (fl (by decide) h'), fun h h' => d68 (fl (by decide) h) (fl (by decide) h'), fun h h' => d78 (fl (by decide) h) (fl (by decide) h'), fun h => getD_set_true (k9 (fl (by decide) h)), fun h => getD_set_true (k10 (fl (by decide) h)), fun _ => getD_set_true (hw 8 (by kernel_rfl))⟩
    · rintro L a wx hall ⟨u6, u7, u8, u14, u15, u16, u17, u18, u19, rfl, lo, c0, c1, c2, c3, c4, c5, s6, s7, s8, d67, d68, d78, k9, k10, k11⟩
      obtain ⟨p6, rfl, x6, _, h6⟩ := s6 (hall 6 (by decide))
      obtain ⟨p7, rfl, x7, _, h7⟩ := s7 (hall 7 (by decide))
      obtain ⟨p8, rfl, x8, _, h8⟩ := s8 (hall 8 (by decide))
      obtain ⟨g1, t1, g2, t2, U6, R6⟩ := h6 (hall 9 (by decide))
      obtain ⟨g3, t3, g4, t4, U7, R7⟩ := h7 (hall 10 (by decide))
      obtain ⟨g5, t5, g6, t6, U8, R8⟩ := h8 (hall 11 (by decide))
      have K6 := Lib.hid (show IsUp _ p k from U6)
      have K7 := Lib.hid (show IsUp _ q k from U7)
      have K8 := Lib.hid (show IsRat (.agg #[.bool g5, .string t5, .bool g6, .string t6]) 0 k from (show _ = ratV 0 from U8) ▸ (isUp_zero hk1 (by omega)).rat)
      have E8 := Lib.hid (show Value.agg #[.bool g5, .string t5, .bool g6, .string t6] = ratV 0 from U8)
      obtain ⟨-, P2, B2, -⟩ := lo
      clear HB S1 P1 B1 s6 s7 s8 d67 d68 d78 k9 k10 k11 c0 c1 c2 c3 c4 c5 hall h6 h7 h8 U6 U7 U8
      obtain ⟨n2, En2⟩ : ∃ n2, Hid (cmpQ p 0 = n2) := ⟨_, Lib.hid rfl⟩
      obtain ⟨n3, En3⟩ : ∃ n3, Hid (cmpQ q 0 = n3) := ⟨_, Lib.hid rfl⟩
      dsimp only
      obtain ⟨e1, e2, e3, e4⟩ := id R6
      obtain ⟨e5, e6, e7, e8⟩ := id R8
      go_wp2_with fail
      refine (rcmp_any _ _ p 0 k _ K6.out.rat K8.out (by omega)).mono ?_
      rw [En2.out]
      rintro e W3 ⟨rfl, b3⟩
      have R6' := R6.keep b3
      have R7' := R7.keep b3
      have R8' := R8.keep b3
      have P3 := P2.keep b3
      have B3 := below_more B2 (Nat.le_refl _) b3
      clear e1 e2 e3 e4 e5 e6 e7 e8 R6 R7 R8 P2 B2 b3
      by_cases hn2 : 0 < n2
      · have Hp := Lib.hid (cmpQ_gt.1 (by rw [En2.out]; exact hn2))
        obtain ⟨e1, e2, e3, e4⟩ := id R6'
        obtain ⟨e5, e6, e7, e8⟩ := id R7'
        go_wp2_with fail
        refine (spos_up _ _ p q k _ K6.out K7.out Hp.out Hn.out (by omega)).mono ?_
        rintro e W4 ⟨rn, rd, hs, hr, rfl, b4⟩
        obtain ⟨⟨r1, r2, r3, r4⟩, r5, r6, r7, r8⟩ := P3.keep b4
        unfold raw
        go_wp2
        exact bodyPost_ret (v := .tuple #[raw rn rd, .int .i64 0]) (by simp [results, Tryz.results31, go_sem, r1, r2, r3, r4, raw]) rfl ⟨_, 0, .inr ⟨Hn.out, rfl, .inl ⟨Hp.out, rn, rd, hs, rfl⟩⟩, rfl, below4s (below_more B3 (Nat.le_refl _) b4) _ (by omega) _ _ _ _⟩
      · have Hp := Lib.hid (Rat.not_lt.1 fun h => hn2 (by have := cmpQ_gt.2 h; rw [En2.out] at this; exact this))
        obtain ⟨e1, e2, e3, e4⟩ := id R7'
        obtain ⟨e5, e6, e7, e8⟩ := id R8'
        go_wp2_with fail
        refine (rcmp_any _ _ q 0 k _ K7.out.rat K8.out (by omega)).mono ?_
        rw [En3.out]
        rintro e W4 ⟨rfl, b4⟩
        have R6 := R6'.keep b4
        have R7 := R7'.keep b4
        have R8 := R8'.keep b4
        have P4 := P3.keep b4
        have B4 := below_more B3 (Nat.le_refl _) b4
        clear e1 e2 e3 e4 e5 e6 e7 e8 R6' R7' R8' P3 B3 b4
        by_cases hn3 : n3 < 0
        · have Hq := Lib.hid (cmpQ_lt.1 (by rw [En3.out]; exact hn3))
          have Un := Lib.hid (isUp_neg K7.out (by omega))
          have Um := Lib.hid (isUp_neg K6.out (by omega))
          have Hnq := Lib.hid (show (0 : Rat) < -q by have := Hq.out; grind)
          have Hnp := Lib.hid (Rat.neg_le_neg Hn.out)
          have S4 : RIn2 W4.drew p7 p6 g3 t3 g4 t4 g1 t1 g2 t2 := .mk R7 R6
          have P5 := P4.drew
          have hn7 : p7 ≠ w.heap.size + 1 + 1 := by omega
          have hn6 : p6 ≠ w.heap.size + 1 + 1 := by omega
          have B5 := B4.drew
          go_upto_region 7 with fail
          go_region_held3 (fun W => W.cell? ⟨p7, 0, none⟩ = some (.bool g3) ∧ W.cell? ⟨p7, 1, none⟩ = some (.string t3) ∧ W.cell? ⟨p7, 2, none⟩ = some (.bool g4) ∧ W.cell? ⟨p7, 3, none⟩ = some (.string t4) ∧ W.cell? ⟨p6, 0, none⟩ = some (.bool g1) ∧ W.cell? ⟨p6, 1, none⟩ = some (.string t1) ∧ W.cell? ⟨p6, 2, none⟩ = some (.bool g2) ∧ W.cell? ⟨p6, 3, none⟩ = some (.string t2)) ((show RIn2 _ p7 p6 g3 t3 g4 t4 g1 t1 g2 t2; first | with_reducible exact S4 | with_reducible exact S5 | with_reducible exact S6 | with_reducible exact S7 | with_reducible exact S8 | exact (((S8.set _ _ hn7 hn6).set _ _ hn7 hn6).set _ _ hn7 hn6).set _ _ hn7 hn6 | exact .mk R7 R6))
            (first
              | (go_at_call_of 16 (Value.agg #[Value.bool g3, Value.string t3, Value.bool g4, Value.string t4]); refine (rneg_any _ q (-q) k _ K7.out.rat (by omega) rfl).mono ?_; rintro e W5 ⟨rfl, b5⟩; have S5 := S4.keep b5; have P6 := P5.keep b5; have B6 := below_more B5 (Nat.le_refl _) b5)
              | (go_at_call_of 16 (Value.agg #[Value.bool g1, Value.string t1, Value.bool g2, Value.string t2]); refine (rneg_any _ p (-p) k _ K6.out.rat (by omega) rfl).mono ?_; rintro e W6 ⟨rfl, b6⟩; have S6 := S5.keep b6; have P7 := P6.keep b6; have B7 := below_more B6 (Nat.le_refl _) b6)
              | (go_at_call 54; refine (spos_up _ _ (-q) (-p) (k + 1) _ Un.out Um.out Hnq.out Hnp.out (by omega)).mono ?_; rintro e W7 ⟨rn, rd, hs, hr, rfl, b7⟩; obtain ⟨z, Ez⟩ : ∃ z, Hid (-(Rat.divInt rn rd) = z) := ⟨_, Lib.hid rfl⟩; have S7 := S6.keep b7; have P8 := P7.keep b7; have B8 := below_more B7 (Nat.le_refl _) b7)
              | (go_at_call 16; refine (rneg_any _ (Rat.divInt rn rd) z (k + 1) _ hr (by omega) Ez.out).mono ?_; rintro e W8 ⟨rfl, b8⟩; have S8 := S7.keep b8; unfold ratV; obtain ⟨⟨r1, r2, r3, r4⟩, r5, r6, r7, r8⟩ := P8.keep b8))
          all_goals
            go_wp2
            exact bodyPost_ret (v := .tuple #[ratV z, .int .i64 0]) (by simp [results, Tryz.results31, go_sem, r1, r2, r3, r4, ratV]) rfl ⟨_, 0, .inr ⟨Hn.out, rfl, .inr (.inl ⟨Hq.out, rn, rd, hs, by rw [Ez.out]⟩)⟩, rfl, below4s (below_more B8 (Nat.le_refl _) b8) _ (by omega) _ _ _ _⟩
        · have Hq := Lib.hid (Rat.not_lt.1 fun h => hn3 (by have := cmpQ_lt.2 h; rw [En3.out] at this; exact this))
          obtain ⟨e5, e6, e7, e8⟩ := id R8
          obtain ⟨⟨r1, r2, r3, r4⟩, r5, r6, r7, r8⟩ := P4
          go_wp2
          exact bodyPost_ret (v := .tuple #[.agg #[.bool g5, .string t5, .bool g6, .string t6], .int .i64 0]) (by simp [results, Tryz.results31, go_sem, r1, r2, r3, r4]) rfl ⟨_, 0, .inr ⟨Hn.out, rfl, .inr (.inr ⟨Hp.out, Hq.out, E8.out⟩)⟩, rfl, below4s B4 _ (by omega) _ _ _ _⟩
end Go.Proofs.YtabmhckgdncjlaaGreatDoor

namespace Go.Proofs.YtabmhckgdncjlaaGreatDoor
open Go.RowKit

theorem Sim.inv {a b c d ln ld nn nd rn rd : Int} (h : Sim a b c d ln ld nn nd rn rd) :
    (a % b = 0 ∧ rn = a / b * nn + ln ∧ rd = a / b * nd + ld) ∨ (a % b ≠ 0 ∧ a / b ≠ c / d ∧ rn = (a / b + 1) * nn + ln ∧ rd = (a / b + 1) * nd + ld) ∨
    (a % b ≠ 0 ∧ a / b = c / d ∧ Sim d (c % d) b (a % b) nn nd (a / b * nn + ln) (a / b * nd + ld) rn rd) := by
  cases h with
  | whole h => exact .inl ⟨h, rfl, rfl⟩
  | above h h2 => exact .inr (.inl ⟨h, h2, rfl, rfl⟩)
  | more h h2 k => exact .inr (.inr ⟨h, h2, k⟩)
theorem quo_mul {x y m : Int} (hm : 0 < m) : x * m / (y * m) = x / y := Int.mul_ediv_mul_of_pos_left _ _ hm
theorem rem_mul {x y m : Int} (hm : 0 < m) : x * m % (y * m) = x % y * m := by
  rw [Int.mul_comm x m, Int.mul_comm y m, Int.mul_emod_mul_of_pos _ _ hm, Int.mul_comm]
theorem sim_third {x y z u : Int} (hxy : x / y = 0 ∧ x % y = x ∧ y / x = 3 ∧ 0 < x) (hzu : z / u = 0 ∧ z % u = z ∧ u / z = 2 ∧ u % z = 1) {m j rn rd : Int} (hm : 0 < m) (hj : 0 < j)
    (h : Sim (x * m) (y * m) (z * j) (u * j) 0 1 1 0 rn rd) : rn = 1 ∧ rd = 3 := by
  obtain ⟨a1, a2, a3, a4⟩ := hxy
  obtain ⟨b1, b2, b3, b4⟩ := hzu
  have hx : 0 < x * m := Int.mul_pos a4 hm
  rcases h.inv with ⟨h1, _⟩ | ⟨_, h2, _⟩ | ⟨_, _, h3⟩
  · rw [rem_mul hm, a2] at h1; omega
  · rw [quo_mul hm, quo_mul hj, a1, b1] at h2; omega
  · rw [rem_mul hm, rem_mul hj, quo_mul hm, a1, a2, b2] at h3
    rcases h3.inv with ⟨h1, _⟩ | ⟨_, h2, h4, h5⟩ | ⟨_, h2, _⟩
    · rw [rem_mul hj, b4] at h1; omega
    · rw [quo_mul hj, b3] at h4 h5
      omega
    · rw [quo_mul hj, quo_mul hm, b3, a3] at h2; omega
theorem divInt_cross {a b n d : Int} (hb : 0 < b) (hd : 0 < d) (h : Rat.divInt a b = Rat.divInt n d) : a * d = n * b := (Rat.divInt_eq_divInt_iff (by omega) (by omega)).1 h
theorem simOf_a {rn rd : Int} (h : SimOf (Rat.divInt 1 3) (Rat.divInt 2 5) rn rd) : rn = 1 ∧ rd = 3 := by
  obtain ⟨a, b, c, d, hb, hd, e1, e2, hs⟩ := h
  have f1 := divInt_cross hb (by omega) e1
  have f2 := divInt_cross hd (by omega) e2
  obtain ⟨j, hj⟩ : ∃ j, c = 2 * j := ⟨c / 2, by omega⟩
  have g1 : b = 3 * a := by omega
  have g2 : d = 5 * j := by omega
  rw [g1, g2, hj] at hs
  have hs' : Sim (1 * a) (3 * a) (2 * j) (5 * j) 0 1 1 0 rn rd := by rw [Int.one_mul]; exact hs
  exact sim_third (by decide) (by decide) (by omega) (by omega) hs'
theorem simOf_b {rn rd : Int} (h : SimOf (Rat.divInt 3 10) (Rat.divInt 2 5) rn rd) : rn = 1 ∧ rd = 3 := by
  obtain ⟨a, b, c, d, hb, hd, e1, e2, hs⟩ := h
  have f1 := divInt_cross hb (by omega) e1
  have f2 := divInt_cross hd (by omega) e2
  obtain ⟨m, hm⟩ : ∃ m, a = 3 * m := ⟨a / 3, by omega⟩
  obtain ⟨j, hj⟩ : ∃ j, c = 2 * j := ⟨c / 2, by omega⟩
  have g1 : b = 10 * m := by omega
  have g2 : d = 5 * j := by omega
  rw [g1, g2, hm, hj] at hs
  exact sim_third (by decide) (by decide) (by omega) (by omega) hs
theorem third_num : (Rat.divInt 1 3).num = 1 ∧ (Rat.divInt 1 3).den = 3 := by constructor <;> decide
theorem simRes_a {v : Value} {n : Int} (h : SimRes (Rat.divInt 1 3) (Rat.divInt 2 5) v n) : v = ratV (Rat.divInt 1 3) ∧ n = 0 := by
  rcases h with ⟨h, _⟩ | ⟨_, hn, ⟨_, rn, rd, h1, rfl⟩ | ⟨h1, _⟩ | ⟨h1, _⟩⟩
  · exact absurd ((divInt_lt_iff (by omega) (by omega)).1 h) (by omega)
  · obtain ⟨rfl, rfl⟩ := simOf_a h1
    exact ⟨by unfold raw ratV; rw [third_num.1, third_num.2]; rfl, hn⟩
  · exact absurd h1 (by decide)
  · exact absurd h1 (by decide)
theorem simRes_b {v : Value} {n : Int} (h : SimRes (Rat.divInt 3 10) (Rat.divInt 2 5) v n) : v = ratV (Rat.divInt 1 3) ∧ n = 0 := by
  rcases h with ⟨h, _⟩ | ⟨_, hn, ⟨_, rn, rd, h1, rfl⟩ | ⟨h1, _⟩ | ⟨h1, _⟩⟩
  · exact absurd ((divInt_lt_iff (by omega) (by omega)).1 h) (by omega)
  · obtain ⟨rfl, rfl⟩ := simOf_b h1
    exact ⟨by unfold raw ratV; rw [third_num.1, third_num.2]; rfl, hn⟩
  · exact absurd h1 (by decide)
  · exact absurd h1 (by decide)
theorem simRes_c {v : Value} {n : Int} (h : SimRes (Rat.divInt (-1) 2) (Rat.divInt 5 1) v n) : v = ratV 0 ∧ n = 0 := by
  rcases h with ⟨h, _⟩ | ⟨_, hn, ⟨h1, _⟩ | ⟨h1, _⟩ | ⟨_, _, h1⟩⟩
  · exact absurd ((divInt_lt_iff (by omega) (by omega)).1 h) (by omega)
  · exact absurd h1 (by decide)
  · exact absurd h1 (by decide)
  · exact ⟨h1, hn⟩
end Go.Proofs.YtabmhckgdncjlaaGreatDoor

namespace Go.Proofs.YtabmhckgdncjlaaGreatDoor
open Go.RowKit

/-! What integer.isDecimal and integer.fromDecimal return: whether a text is a number's digits; the number. Condition: the text's length. -/
def digB (c : UInt8) : Bool := decide (48 ≤ c.toNat) && decide (c.toNat ≤ 57)
/-- The digits of a number from 0 on, without zeros in front. -/
def isDec : List UInt8 → Bool
  | [] => false
  | b :: t => !(decide (t ≠ []) && decide (b.toNat = 48)) && (b :: t).all digB
theorem all_take_succ {l : List UInt8} {k : Nat} {c : UInt8} (h : (l.take k).all digB = true) (hc : l[k]? = some c) (hd : digB c = true) : (l.take (k + 1)).all digB = true := by
  rw [List.take_add_one, hc, List.all_append, h]; simp [hd]
theorem not_all {l : List UInt8} {k : Nat} {c : UInt8} (hc : l[k]? = some c) (hd : digB c = false) : l.all digB = false := by
  rw [Bool.eq_false_iff]
  intro h
  have := List.all_eq_true.1 h c (List.mem_of_getElem? hc)
  rw [hd] at this; cases this
theorem isDec_no {l : List UInt8} (h : l.all digB = false) : isDec l = false := by
  cases l with
  | nil => rfl
  | cons b t => show (!(decide (t ≠ []) && decide (b.toNat = 48)) && (b :: t).all digB) = false; rw [h, Bool.and_false]

set_option maxHeartbeats 1600000 in
theorem isDecimal_any (l : List UInt8) (w : World) (hl : l.length ≤ 10000000000) :
    Calls Tryz.prog 74 #[.string ⟨l.toArray⟩] w fun e w' => e = .returned (.bool (isDec l)) ∧ w = w' := by
  cases l with
  | nil =>
    go_enter Tryz.func74, Tryz.ntmps74
    go_wp2
    go_ret
    exact ⟨rfl, rfl⟩
  | cons b t =>
    have hix := run_index_bytes (b :: t) 0 b rfl 0 (by simp)
    have hb' := b.toNat_lt
    have hlen : t.length + 1 ≤ 10000000000 := hl
    clear hl
    by_cases ht : t ≠ [] ∧ b.toNat = 48
    · obtain ⟨h1, h2⟩ := ht
      have hpos : 0 < t.length := List.length_pos_iff.2 h1
      have H1 : Hid (isDec (b :: t) = false) := by show _ = _; unfold isDec; simp [h1, h2]
      clear h1
      go_enter Tryz.func74, Tryz.ntmps74
      go_wp2
      go_ret
      exact ⟨by rw [H1.out]; rfl, rfl⟩
    · have H1 : Hid (isDec (b :: t) = (b :: t).all digB) := by
        show _ = _
        unfold isDec
        by_cases a1 : t = []
        · simp [a1]
        · have a2 : b.toNat ≠ 48 := fun e => ht ⟨a1, e⟩
          simp [a1, a2]
      have ht2 : t.length = 0 ∨ (0 < t.length ∧ ((b.toNat : Int) == 48) = false) := by
        rcases Nat.eq_zero_or_pos t.length with a1 | a1
        · exact Or.inl a1
        · have a2 : b.toNat ≠ 48 := fun e => ht ⟨List.length_pos_iff.1 a1, e⟩
          exact Or.inr ⟨a1, by rw [beq_eq_false_iff_ne]; omega⟩
      clear ht
      rcases ht2 with ht2 | ⟨ht2, ht3⟩
      all_goals
        go_enter Tryz.func74, Tryz.ntmps74
        go_wp2_with fail
        generalize hL : b :: t = L at *
        have hLl : L.length = t.length + 1 := by rw [← hL]; rfl
        have HL : Hid (b :: t = L) := hL
        clear hL hix
        go_loopg [18] L.length (fun q i wx => wx = w ∧ ∃ k : Nat, k + q = L.length ∧ i = .int .i64 k ∧ Hid ((L.take k).all digB = true))
        case atStart => exact ⟨rfl, 0, by omega, rfl, by show _ = _; simp⟩
        case round =>
          obtain ⟨rfl, k, hk, rfl, HA⟩ := hrel
          rcases gk with _ | q
          · obtain rfl : k = L.length := by omega
            have HB : Hid (L.all digB = true) := by have := HA.out; rwa [List.take_length] at this
            clear hk HA
            go_wp2
            go_ret
            exact ⟨by rw [HL.out, H1.out, HB.out]; rfl, rfl⟩
          · obtain ⟨c, hc⟩ : ∃ c, L[k]? = some c := ⟨_, List.getElem?_eq_getElem (by omega)⟩
            have hix := run_index_bytes L k c hc (k : Int) rfl
            have hc' := c.toNat_lt
            have Hc : Hid (L[k]? = some c) := hc
            clear hc
            rcases (show c.toNat < 48 ∨ 57 < c.toNat ∨ (48 ≤ c.toNat ∧ c.toNat ≤ 57) by omega) with h1 | h1 | ⟨h1, h2⟩
            · have HB : Hid (L.all digB = false) := not_all Hc.out (by unfold digB; simp; omega)
              go_wp2
              go_ret
              exact ⟨by rw [HL.out, H1.out, HB.out]; rfl, rfl⟩
            · have HB : Hid (L.all digB = false) := not_all Hc.out (by unfold digB; simp; omega)
              go_wp2
              go_ret
              exact ⟨by rw [HL.out, H1.out, HB.out]; rfl, rfl⟩
            · have HB : Hid ((L.take (k + 1)).all digB = true) := all_take_succ HA.out Hc.out (by unfold digB; simp; omega)
              go_wp2
              go_roundg q
              case measure => omega
              case rel => exact ⟨rfl, k + 1, by omega, by go_num, HB⟩

/-! What integer.fromDecimal returns: the number with some decimal digits. Condition: digits, at most 10^9 of them. -/
/-- The number with some decimal digits. -/
def dv (l : List UInt8) : Nat := l.foldl (fun a c => 10 * a + (c.toNat - 48)) 0
theorem dv_acc (l : List UInt8) (a : Nat) : l.foldl (fun a c => 10 * a + (c.toNat - 48)) a = a * 10 ^ l.length + dv l := by
  induction l generalizing a with
  | nil => simp [dv]
  | cons c l ih =>
    unfold dv
    rw [List.foldl_cons, List.foldl_cons, ih, ih (10 * 0 + _), List.length_cons, Nat.pow_succ, Nat.add_mul, Nat.mul_zero, Nat.zero_add]
    rw [show 10 * a * 10 ^ l.length = a * (10 ^ l.length * 10) by rw [Nat.mul_comm 10 a, Nat.mul_assoc, Nat.mul_comm 10]]
    omega
theorem dv_append (l m : List UInt8) : dv (l ++ m) = dv l * 10 ^ m.length + dv m := by
  conv => lhs; unfold dv
  rw [List.foldl_append, dv_acc]; rfl
theorem dv_snoc (l : List UInt8) (c : UInt8) : dv (l ++ [c]) = 10 * dv l + (c.toNat - 48) := by
  rw [dv_append]; simp [dv]; omega
theorem dv_cons (c : UInt8) (l : List UInt8) : dv (c :: l) = (c.toNat - 48) * 10 ^ l.length + dv l := by
  have := dv_append [c] l
  simpa [dv] using this
theorem dv_lt {l : List UInt8} (h : l.all digB = true) : dv l < 10 ^ l.length := by
  induction l with
  | nil => simp [dv]
  | cons c l ih =>
    rw [List.all_cons, Bool.and_eq_true] at h
    have h1 := ih h.2
    have h2 : c.toNat - 48 ≤ 9 := by have := h.1; simp [digB] at this; omega
    have h3 := Nat.mul_le_mul_right (10 ^ l.length) h2
    rw [dv_cons, List.length_cons, Nat.pow_succ]
    omega
theorem all_take {l : List UInt8} (h : l.all digB = true) (k : Nat) : (l.take k).all digB = true := by
  rw [List.all_eq_true] at h ⊢
  exact fun x hx => h x (List.mem_of_mem_take hx)
theorem all_drop {l : List UInt8} (h : l.all digB = true) (k : Nat) : (l.drop k).all digB = true := by
  rw [List.all_eq_true] at h ⊢
  exact fun x hx => h x (List.mem_of_mem_drop hx)
theorem dv_big {l : List UInt8} (h : l.all digB = true) : dv l < 4294967296 ^ l.length := Nat.lt_of_lt_of_le (dv_lt h) (Nat.pow_le_pow_left (by omega) _)
theorem run_cut_bytes (l g : List UInt8) (a b : Nat) (za zb : Int) (hz : za = (a : Int)) (hy : zb = (b : Int)) (h1 : a ≤ b) (h2 : b ≤ l.length) (hg : (l.drop a).take (b - a) = g) (w : World) :
    (Instr.slice 9 (.string ⟨l.toArray⟩) (some (.int .i64 za)) (some (.int .i64 zb)) none).run Tryz.prog w = .ok (.string ⟨g.toArray⟩) w := by
  subst hz; subst hy
  rw [run_slice_string w 9 ⟨l.toArray⟩ .i64 .i64 a b Tryz.underlying9 (by omega) (by omega) (by simp [ByteArray.size]; omega), Int.toNat_natCast, Int.toNat_natCast, ByteArray.extract_mk, hg]
theorem dig_at {l : List UInt8} {k : Nat} {c : UInt8} (h : l.all digB = true) (hc : l[k]? = some c) : 48 ≤ c.toNat ∧ c.toNat ≤ 57 := by
  have := List.all_eq_true.1 h c (List.mem_of_getElem? hc)
  simp [digB] at this; omega

set_option maxRecDepth 100000 in
set_option maxHeartbeats 3200000 in
theorem fromDecimal_any (l : List UInt8) (w : World) (hl : l.length ≤ 1000000000) (hd : l.all digB = true) :
    Calls Tryz.prog 75 #[.string ⟨l.toArray⟩] w (NatOut w (dv l)) := by
  have Hd : Hid (l.all digB = true) := hd
  clear hd
  go_enter Tryz.func75, Tryz.ntmps75
  go_wp2_with fail
  go_loopg [3, 4] ((l.length + 8) / 9) (fun q s3 s4 wx => ∃ (j s : Nat) (A : Option Addr) (n c : Nat), j + q = (l.length + 8) / 9 ∧ s = 9 * j ∧ s4 = .int .i64 (s : Int) ∧ s3 = .slice A n c ∧ IsNat wx A n c (dv (l.take s)) ∧ Below w.heap.size w wx)
  case atStart => exact ⟨0, 0, none, 0, 0, by omega, rfl, rfl, rfl, by simpa [dv] using zero_nat w, Below.refl _ _⟩
  case round =>
    obtain ⟨j, s, A, n, c, hj, hs, rfl, rfl, iN, hb⟩ := hrel
    rcases gk with _ | q
    · have hsl : l.length ≤ s := by omega
      rw [List.take_of_length_le hsl] at iN
      go_wp2
      go_ret
      exact ⟨_, _, _, rfl, iN, hb⟩
    · have hsl : s < l.length := by omega
      obtain ⟨m, hm0, hm9, hm⟩ : ∃ m, 0 < m ∧ m ≤ 9 ∧ ((s + 9 ≤ l.length ∧ m = 9) ∨ (l.length < s + 9 ∧ s + m = l.length)) := by
        rcases Nat.lt_or_ge l.length (s + 9) with a1 | a1
        · exact ⟨l.length - s, by omega, by omega, Or.inr ⟨a1, by omega⟩⟩
        · exact ⟨9, by omega, by omega, Or.inl ⟨a1, rfl⟩⟩
      obtain ⟨g, hg⟩ : ∃ g, (l.drop s).take m = g := ⟨_, rfl⟩
      have hgl : g.length = m := by rw [← hg, List.length_take, List.length_drop]; omega
      have Hga : Hid (g.all digB = true) := by show _ = _; rw [← hg]; exact all_take (all_drop Hd.out s) m
      have Hst : Hid (l.take (s + 9) = l.take s ++ g) := by
        show _ = _
        rw [List.take_add, ← hg]
        congr 1
        rcases hm with ⟨_, a2⟩ | ⟨a1, a2⟩
        · rw [a2]
        · rw [List.take_of_length_le (by rw [List.length_drop]; omega), List.take_of_length_le (by rw [List.length_drop]; omega)]
      have hn : n ≤ 1000000000 := by
        have h1 := iN.len (dv_big (all_take Hd.out s))
        rw [List.length_take] at h1
        omega
      have Hj : Hid (j + (q + 1) = (l.length + 8) / 9) := hj
      have Hs : Hid (s = 9 * j) := hs
      have h10 : 10 ^ m ≤ 10 ^ 9 := Nat.pow_le_pow_right (by omega) hm9
      have Hpm : Hid ((10 : Nat) ^ m ≤ 1000000000) := h10
      clear hj hs h10
      have hsl' : ∀ w, (Instr.slice 9 (.string ⟨l.toArray⟩) (some (.int .i64 (s : Int))) (some (.int .i64 (min ((s : Int) + 9) (l.length : Int)))) none).run Tryz.prog w = .ok (.string ⟨g.toArray⟩) w := by
        rcases hm with ⟨hm1, hm2⟩ | ⟨hm1, hm2⟩
        · exact run_cut_bytes l g s (s + 9) (s : Int) _ rfl (by omega) (by omega) (by omega) (by rw [← hg, hm2]; congr 1; omega)
        · exact run_cut_bytes l g s l.length (s : Int) _ rfl (by omega) (by omega) (by omega) (by rw [← hg]; congr 1; omega)
      clear hm
      clear hg
      go_wp2_with fail
      clear hsl'
      go_loopg [6, 7, 25] m (fun r s6 s7 s25 wx => wx = wr ∧ ∃ (k p v : Nat), k + r = m ∧ Hid (10 ^ k = p) ∧ Hid (dv (g.take k) = v) ∧ v < p ∧ p ≤ 1000000000 ∧ s25 = .int .i64 (k : Int) ∧ s6 = .int .u32 (p : Int) ∧ s7 = .int .u32 (v : Int))
      case atStart => exact ⟨rfl, 0, 1, 0, by omega, rfl, by show _ = _; simp [dv], by omega, by omega, rfl, rfl, rfl⟩
      case round =>
        obtain ⟨rfl, k, p, v, hk, Hp, Hv, hvp, hp, rfl, rfl, rfl⟩ := hrel
        rcases gk with _ | r
        · obtain rfl : k = m := by omega
          have Hgv : Hid (dv (l.take s) * p + v = dv (l.take (s + 9))) := by
            show _ = _
            have e1 := Hv.out
            rw [List.take_of_length_le (by omega)] at e1
            rw [Hst.out, dv_append, hgl, Hp.out, e1]
          clear hk
          go_wp2_with fail
          refine (mulAdd_any A n c (dv (l.take s)) p v _ iN (by omega) (by omega) (by omega)).mono ?_
          rintro e W1 ⟨A2, n2, c2, rfl, i2, b2⟩
          rw [Hgv.out] at i2
          have hb2 := below_more hb (Nat.le_refl _) b2
          go_wp2_with fail
          go_roundg q
          case measure => omega
          case rel => exact ⟨j + 1, s + 9, A2, n2, c2, by have := Hj.out; omega, by have := Hs.out; omega, by go_num, rfl, i2, hb2⟩
        · obtain ⟨x, hx⟩ : ∃ x, g[k]? = some x := ⟨_, List.getElem?_eq_getElem (by omega)⟩
          have hix := run_index_bytes g k x hx (k : Int) rfl
          obtain ⟨hx1, hx2⟩ := dig_at Hga.out hx
          have Hp2 : Hid (10 ^ (k + 1) = p * 10) := by show _ = _; rw [Nat.pow_succ, Hp.out]
          have Hv2 : Hid (dv (g.take (k + 1)) = 10 * v + (x.toNat - 48)) := by
            show _ = _
            rw [List.take_add_one, hx]
            show dv (g.take k ++ [x]) = _
            rw [dv_snoc, Hv.out]
          have hp10 : p * 10 ≤ 1000000000 := by
            rw [← Hp2.out]
            exact Nat.le_trans (Nat.pow_le_pow_right (by omega) (by omega)) Hpm.out
          clear hx
          go_wp2
          go_roundg r
          case measure => omega
          case rel => exact ⟨rfl, k + 1, p * 10, 10 * v + (x.toNat - 48), by omega, Hp2, Hv2, by omega, hp10, by go_num, by go_num, congrArg (Value.int _) (by omega)⟩

/-! What integer.Parse returns: the integer with a text, or ErrSyntax, or ErrLimit. -/
def cutD (l : List UInt8) : List UInt8 := Lib.trimPrefix l [45]
def cutN (l : List UInt8) : Bool := Lib.hasPrefix l [45]
/-- The integer with a text. -/
def pz (l : List UInt8) : Option Int :=
  if isDec (cutD l) = false ∨ (cutN l = true ∧ cutD l = [48]) then none else some (if cutN l then -(dv (cutD l) : Int) else (dv (cutD l) : Int))
theorem cut_any (l : List UInt8) (w : World) :
    Calls Tryz.prog 73 #[.string ⟨l.toArray⟩, .string ⟨#[45]⟩] w fun e w' => e = .returned (.tuple #[.string ⟨(cutD l).toArray⟩, .bool (cutN l)]) ∧ w' = w := Tryz.strings_CutPrefix ⟨l.toArray⟩ ⟨#[45]⟩ w
theorem cutD_len (l : List UInt8) : (cutD l).length ≤ l.length := by
  unfold cutD Lib.trimPrefix
  split
  · rw [List.length_drop]; omega
  · exact Nat.le_refl _
theorem isDec_all {l : List UInt8} (h : isDec l = true) : l.all digB = true := by
  cases e : l.all digB with
  | true => rfl
  | false => rw [isDec_no e] at h; cases h

def ParseOut (w : World) (r : Option Int) (e : Ending) (w' : World) : Prop :=
  match r with
  | some z => GoodOut w z e w'
  | none => FailOut w 3 e w'

set_option maxRecDepth 100000 in
set_option maxHeartbeats 3200000 in
theorem parse_limit (s : ByteArray) (w : World) (hs : 65536 < s.size) (hs2 : s.size ≤ 9223372036854775807) :
    Calls Tryz.prog 53 #[.string s] w (FailOut w 4) := by
  have hr := ResCell.new w 23
  obtain ⟨r1, r2, r3, r4⟩ := hr
  have hb := below1 w (.cells #[.bool false, .string ⟨#[]⟩] 23)
  go_enter Tryz.func53, Tryz.ntmps53
  go_wp2_with fail
  exact bodyPost_ret (v := .tuple #[.agg #[.bool false, .string ⟨#[]⟩], .int .i64 4]) (by simp [results, Tryz.results53, go_sem, r1, r2]) rfl ⟨rfl, hb⟩

set_option maxRecDepth 100000 in
set_option maxHeartbeats 3200000 in
theorem parse_any (l : List UInt8) (w : World) (hl : l.length ≤ 65536) :
    Calls Tryz.prog 53 #[.string ⟨l.toArray⟩] w (ParseOut w (pz l)) := by
  have hdl := cutD_len l
  obtain ⟨d, hd⟩ : ∃ d, cutD l = d := ⟨_, rfl⟩
  obtain ⟨g, hg⟩ : ∃ g, cutN l = g := ⟨_, rfl⟩
  have Hd : Hid (cutD l = d) := hd
  have Hg : Hid (cutN l = g) := hg
  have Hpz : Hid (pz l = if isDec d = false ∨ (g = true ∧ d = [48]) then none else some (if g then -(dv d : Int) else (dv d : Int))) := by show _ = _; unfold pz; rw [hd, hg]
  rw [hd] at hdl
  clear hd hg
  have hr := ResCell.new w 23
  have hb := below1 w (.cells #[.bool false, .string ⟨#[]⟩] 23)
  go_enter Tryz.func53, Tryz.ntmps53
  go_wp2_with fail
  refine (cut_any l _).mono ?_
  rintro e W1 ⟨rfl, rfl⟩
  rw [Hd.out, Hg.out]
  go_wp2_with fail
  refine (isDecimal_any d _ (by omega)).mono ?_
  rintro e W1 ⟨rfl, rfl⟩
  by_cases hi : isDec d = false
  · have HP : Hid (pz l = none) := by show _ = _; rw [Hpz.out, if_pos (Or.inl hi)]
    rw [hi]
    obtain ⟨r1, r2, r3, r4⟩ := hr
    go_wp2_with fail
    exact bodyPost_ret (v := .tuple #[.agg #[.bool false, .string ⟨#[]⟩], .int .i64 3]) (by simp [results, Tryz.results53, go_sem, r1, r2]) rfl (by rw [HP.out]; exact ⟨rfl, hb⟩)
  · have hi2 : isDec d = true := by simpa using hi
    have Hall := Lib.hid (isDec_all hi2)
    rw [hi2]
    by_cases hz : g = true ∧ d = [48]
    · obtain ⟨rfl, rfl⟩ := hz
      have HP : Hid (pz l = none) := by show _ = _; rw [Hpz.out, if_pos (Or.inr ⟨rfl, rfl⟩)]
      obtain ⟨r1, r2, r3, r4⟩ := hr
      clear hi hi2
      go_wp2_with fail
      exact bodyPost_ret (v := .tuple #[.agg #[.bool false, .string ⟨#[]⟩], .int .i64 3]) (by simp [results, Tryz.results53, go_sem, r1, r2]) rfl (by rw [HP.out]; exact ⟨rfl, hb⟩)
    · obtain ⟨z, hzz⟩ : ∃ z : Int, z = if g then -(dv d : Int) else (dv d : Int) := ⟨_, rfl⟩
      have HP : Hid (pz l = some z) := by show _ = _; rw [Hpz.out, if_neg (by rw [hi2]; simpa using hz), hzz]
      have Hz : Hid (z = if g then -(dv d : Int) else (dv d : Int)) := hzz
      have hz2 : g = false ∨ (g = true ∧ (d == [48]) = false) := by
        cases g with
        | false => exact Or.inl rfl
        | true => exact Or.inr ⟨rfl, by rw [beq_eq_false_iff_ne]; exact fun e => hz ⟨rfl, e⟩⟩
      clear hi hi2 hz hzz Hpz
      rcases hz2 with rfl | ⟨rfl, hz2⟩
      all_goals
        go_wp2_with fail
        refine (fromDecimal_any d _ (by omega) Hall.out).mono ?_
        rintro e W2 ⟨A, n, c, rfl, i2, b2⟩
        have l2 : n ≤ 1000000000 := by have := i2.len (dv_big Hall.out); omega
        have HR := hr.keep b2
        go_wp2_with fail
        refine (signed_any _ A n c _ _ i2 l2).mono ?_
        rintro e W3 ⟨rfl, b3⟩
        first | rw [ivN_eq true _ z Hz.out] | rw [ivN_eq false _ z Hz.out]
        obtain ⟨r1, r2, r3, r4⟩ := HR.keep b3
        go_wp2_with fail
        exact bodyPost_ret (v := .tuple #[.agg #[.bool (sg z), .string (mg z)], .int .i64 0]) (by simp [results, Tryz.results53, go_sem, r1, r2]) rfl (by rw [HP.out]; exact ⟨rfl, below_more2 (below_more hb (Nat.le_refl _) b2) (Nat.le_refl _) b3 (Nat.le_refl _) (Nat.le_refl _)⟩)
end Go.Proofs.YtabmhckgdncjlaaGreatDoor
