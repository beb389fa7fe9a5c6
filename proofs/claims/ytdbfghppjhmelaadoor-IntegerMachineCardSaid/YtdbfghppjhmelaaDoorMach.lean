/- What IntegerMachine returns: true. Condition: its own table. -/
import Derived.Test.YtdbfghppjhmelaaDoorLaw
import Derived.Test.YtdbfghppjhmelaaDoorDivu
import Derived.Test.YtdbfghppjhmelaaDoorIdiv0
import Derived.Deep.QuietTactic
import Derived.BigQuiet
namespace Go.Proofs.YtdbfghppjhmelaaDoor
open Go.RowKit
set_option linter.unusedSimpArgs false

theorem TwoInts.keep {W W1 : World} {p q : Nat} {x y : Int} (h : TwoInts W p q x y) (hb : Below W.heap.size W W1) : TwoInts W1 p q x y := ⟨cell_keep h.1 hb, cell_keep h.2.1 hb, cell_keep h.2.2.1 hb, cell_keep h.2.2.2 hb⟩
theorem small_bd {z : Int} (h1 : -9223372036854775808 ≤ z) (h2 : z ≤ 9223372036854775807) : z.natAbs < 4294967296 ^ 2 := by
  have : (4294967296 : Nat) ^ 2 = 18446744073709551616 := by decide
  omega
theorem iof_eq {z z' : Int} {w : World} (h0 : -9223372036854775808 ≤ z) (h1 : z ≤ 9223372036854775807) (e : z = z') : Calls Tryd.prog 23 #[.int .i64 z] w (IntOut w z') := e ▸ iof_any z w h0 h1
theorem small_eq {v : Value} {z : Int} {k : Nat} {w : World} (h : IsInt v z k) (hf : fitsInt z) :
    Calls Tryd.prog 24 #[v] w fun e w' => e = .returned (.tuple #[.int .i64 z, .bool true]) ∧ Below w.heap.size w w' :=
  (small_any v z k w h).mono fun e w' ⟨he, hb⟩ => ⟨by rw [he, if_pos hf], hb⟩
theorem idiv_eq {v1 v2 : Value} {z1 z2 q r : Int} {k1 k2 : Nat} {w : World} (h1 : IsInt v1 z1 k1) (h2 : IsInt v2 z2 k2) (h0 : z2 ≠ 0) (hs : z1.natAbs < z2.natAbs ∨ z2.natAbs < 4294967296) (eq : qD z1 z2 = q) (er : rD z1 z2 = r) :
    Calls Tryd.prog 25 #[v1, v2] w fun e w' => e = .returned (.tuple #[.agg #[.bool (sg q), .string (mg q)], .agg #[.bool (sg r), .string (mg r)], .int .i64 0]) ∧ Below w.heap.size w w' := eq ▸ er ▸ idiv_any v1 v2 z1 z2 k1 k2 w h1 h2 h0 hs
theorem cmpZ_lt_b (x y : Int) : decide (cmpZ x y < 0) = decide (x < y) := by
  apply decide_eq_decide.2
  unfold cmpZ; split <;> (try split) <;> omega
theorem cmpZ_gt_b (x y : Int) : decide (0 < cmpZ x y) = decide (y < x) := by
  apply decide_eq_decide.2
  unfold cmpZ; split <;> (try split) <;> omega
theorem mul_range {x y : Int} (hx1 : -2147483648 ≤ x) (hx2 : x ≤ 2147483647) (hy1 : -2147483648 ≤ y) (hy2 : y ≤ 2147483647) : -9223372036854775808 ≤ x * y ∧ x * y ≤ 9223372036854775807 := by
  have h : (x * y).natAbs ≤ 2147483648 * 2147483648 := by rw [Int.natAbs_mul]; exact Nat.mul_le_mul (by omega) (by omega)
  omega

set_option maxRecDepth 100000 in
set_option maxHeartbeats 3200000 in
theorem mach_any (x y : Int) (w : World) (hx1 : -2147483648 ≤ x) (hx2 : x ≤ 2147483647) (hy1 : -2147483648 ≤ y) (hy2 : y ≤ 2147483647) (htab : Lib.TabIs Tryd.prog w "internal/strconv.uint64pow10" .u64 Lib.pow10Tab) :
    Calls Tryd.prog 5 #[.int .i32 x, .int .i32 y] w fun e w' => e = .returned (.bool true) ∧ Below w.heap.size w w' := by
  have Htab := Lib.hid htab
  clear htab
  have Jx := Lib.hid (isInt_mg (z := x) (small_bd (by omega) (by omega)) (by omega))
  have Jy := Lib.hid (isInt_mg (z := y) (small_bd (by omega) (by omega)) (by omega))
  have Fx : Hid (fitsInt x) := ⟨by omega, by omega⟩
  obtain ⟨zs, Es⟩ : ∃ z, Hid (x + y = z) := ⟨_, Lib.hid rfl⟩
  obtain ⟨zd, Ed⟩ : ∃ z, Hid (x - y = z) := ⟨_, Lib.hid rfl⟩
  obtain ⟨zp, Ep⟩ : ∃ z, Hid (x * y = z) := ⟨_, Lib.hid rfl⟩
  obtain ⟨c, Ec⟩ : ∃ z, Hid (cmpZ x y = z) := ⟨_, Lib.hid rfl⟩
  have Hm := Lib.hid (mul_range hx1 hx2 hy1 hy2)
  have Rp : Hid (-9223372036854775808 ≤ zp ∧ zp ≤ 9223372036854775807) := by show _ ∧ _; rw [← Ep.out]; exact Hm.out
  have k1 : decide (c < 0) = decide (x < y) := by rw [← Ec.out]; exact cmpZ_lt_b x y
  have k2 : decide (0 < c) = decide (y < x) := by rw [← Ec.out]; exact cmpZ_gt_b x y
  have wp : IntKind.i64.wrap (x * y) = zp := by rw [← Ep.out]; exact IntWalk.i64_in _ Hm.out
  go_enter Tryd.func5, Tryd.ntmps5
  go_wp2_with fail
  refine (iof_any x _ (by omega) (by omega)).mono ?_
  rintro e W1 ⟨rfl, b1⟩
  have B := b1
  clear b1
  go_wp2_with fail
  refine (iof_any y _ (by omega) (by omega)).mono ?_
  rintro e W2 ⟨rfl, b2⟩
  have B := below_more B (Nat.le_refl _) b2
  clear b2
  go_wp2_with fail
  refine (small_eq Jx.out Fx.out).mono ?_
  rintro e W3 ⟨rfl, b3⟩
  have P : TwoInts W3 W2.heap.size (W2.heap.size + 1) x y := TwoInts.keep (by refine ⟨?_, ?_, ?_, ?_⟩ <;> simp [go_sem]) b3
  have B := below_more (below_more B (Nat.le_refl _) (below2 W2 _ _)) (Nat.le_refl _) b3
  clear b3
  generalize W2.heap.size + 1 = q at *
  generalize W2.heap.size = p at *
  obtain ⟨t1, t2, t3, t4⟩ := id P
  go_wp2_with fail
  refine (iadd_eq Jx.out Jy.out Es.out).mono ?_
  rintro e W1 ⟨rfl, b1⟩
  clear t1 t2 t3 t4
  have P := P.keep b1
  have B := below_more B (Nat.le_refl _) b1
  clear b1
  obtain ⟨t1, t2, t3, t4⟩ := id P
  go_wp2_with fail
  refine (iof_eq (by omega) (by omega) Es.out).mono ?_
  rintro e W1 ⟨rfl, b1⟩
  clear t1 t2 t3 t4
  have P := P.keep b1
  have B := below_more B (Nat.le_refl _) b1
  clear b1
  obtain ⟨t1, t2, t3, t4⟩ := id P
  go_wp2_with fail
  refine (isub_eq Jx.out Jy.out Ed.out).mono ?_
  rintro e W1 ⟨rfl, b1⟩
  clear t1 t2 t3 t4
  have P := P.keep b1
  have B := below_more B (Nat.le_refl _) b1
  clear b1
  obtain ⟨t1, t2, t3, t4⟩ := id P
  go_wp2_with fail
  refine (iof_eq (by omega) (by omega) Ed.out).mono ?_
  rintro e W1 ⟨rfl, b1⟩
  clear t1 t2 t3 t4
  have P := P.keep b1
  have B := below_more B (Nat.le_refl _) b1
  clear b1
  obtain ⟨t1, t2, t3, t4⟩ := id P
  go_wp2_with fail
  refine (imul_eq Jx.out Jy.out Ep.out).mono ?_
  rintro e W1 ⟨rfl, b1⟩
  clear t1 t2 t3 t4
  have P := P.keep b1
  have B := below_more B (Nat.le_refl _) b1
  clear b1
  obtain ⟨t1, t2, t3, t4⟩ := id P
  go_wp2_with fail
  refine (iof_eq Rp.out.1 Rp.out.2 rfl).mono ?_
  rintro e W1 ⟨rfl, b1⟩
  clear t1 t2 t3 t4
  have P := P.keep b1
  have B := below_more B (Nat.le_refl _) b1
  clear b1
  obtain ⟨t1, t2, t3, t4⟩ := id P
  go_wp2_with fail
  refine (icmp_eq Jx.out Jy.out Ec.out).mono ?_
  rintro e W1 ⟨rfl, b1⟩
  clear t1 t2 t3 t4
  have P := P.keep b1
  have B := below_more B (Nat.le_refl _) b1
  clear b1
  obtain ⟨t1, t2, t3, t4⟩ := id P
  go_wp2_with fail
  refine (icmp_eq Jx.out Jy.out Ec.out).mono ?_
  rintro e W1 ⟨rfl, b1⟩
  clear t1 t2 t3 t4
  have P := P.keep b1
  have B := below_more B (Nat.le_refl _) b1
  clear b1
  obtain ⟨t1, t2, t3, t4⟩ := id P
  by_cases hy0 : y = 0
  · subst hy0
    go_wp2_with fail
    refine (idiv_zero _ _ x 2 2 _ Jx.out Jy.out).mono ?_
    rintro e W4 ⟨rfl, b4⟩
    have B4 := below_more (below_more B (Nat.le_refl _) b4) (Nat.le_refl _) (below2 W4 (.cells #[.bool false, .string ⟨#[]⟩] 23) (.cells #[.bool false, .string ⟨#[]⟩] 23))
    clear b4 t1 t2 t3 t4 P B
    go_wp2_with fail
    refine (awake_any _ (tab_keep Htab.out B4)).mono ?_
    rintro e W5 ⟨rfl, b5⟩
    go_wp2
    go_ret
    exact ⟨rfl, below_more B4 (Nat.le_refl _) b5⟩
  · obtain ⟨qt, e1⟩ : ∃ z, x.tdiv y = z := ⟨_, rfl⟩
    obtain ⟨rt, e2⟩ : ∃ z, x.tmod y = z := ⟨_, rfl⟩
    obtain ⟨qd, Eq⟩ : ∃ z, Hid (qD x y = z) := ⟨_, Lib.hid rfl⟩
    obtain ⟨rd, Er⟩ : ∃ z, Hid (rD x y = z) := ⟨_, Lib.hid rfl⟩
    have Hq0 := qD_mach (a := x) hy0
    rw [Eq.out, Er.out, e1, e2] at Hq0
    have Hq := Lib.hid Hq0
    clear Hq0
    have n1 : qt.natAbs ≤ 2147483648 := by
      rw [← e1, Int.natAbs_tdiv]
      exact Nat.le_trans (Nat.div_le_self _ _) (by omega)
    have n2 : rt.natAbs < 2147483649 := by
      rw [← e2, Int.natAbs_tmod]
      exact Nat.lt_of_lt_of_le (Nat.mod_lt _ (by omega)) (by omega)
    have q1 : -2147483648 ≤ qt := by omega
    have q2 : qt ≤ 2147483648 := by omega
    have r1 : -2147483648 ≤ rt := by omega
    have r2 : rt ≤ 2147483648 := by omega
    have w1 : IntKind.i64.wrap qt = qt := IntWalk.i64_in _ (by omega)
    have w2 : IntKind.i64.wrap rt = rt := IntWalk.i64_in _ (by omega)
    have HY := Lib.hid hy0
    clear n1 n2
    go_wp2_with fail
    go_quiet (fail)
    have P : TwoInts (W1.drewN nq) p q x y := P
    have B : Below w.heap.size w (W1.drewN nq) := ⟨B.os, B.tape, B.output, B.size, B.block⟩
    clear w1 w2 t1 t2 t3 t4 e1 e2
    generalize W1.drewN nq = Wq at *
    have hz : rt = 0 ∨ (rt < 0 ∧ y < 0) ∨ (rt < 0 ∧ ¬ y < 0) ∨ (¬ rt < 0 ∧ rt ≠ 0 ∧ y < 0) ∨ (¬ rt < 0 ∧ rt ≠ 0 ∧ ¬ y < 0) := by omega
    have d1 : -2147483649 ≤ qd := by rw [Hq.out.1]; split <;> omega
    have d2 : qd ≤ 2147483648 := by rw [Hq.out.1]; split <;> omega
    have d3 : -4294967296 ≤ rd := by rw [Hq.out.2]; split <;> omega
    have d4 : rd ≤ 4294967296 := by rw [Hq.out.2]; split <;> omega
    obtain ⟨bb, Eb⟩ : ∃ b, Hid ((decide (rt ≠ 0) && (decide (rt < 0) != decide (y < 0))) = b) := ⟨_, Lib.hid rfl⟩
    have Gq : Hid (qd = (if bb = true then qt - 1 else qt) ∧ rd = (if bb = true then rt + y else rt)) := by
      show _ ∧ _
      rw [Hq.out.1, Hq.out.2, ← Eb.out]
      constructor <;> (congr 1; simp)
    go_upto_region 10 with fail
    go_cut [117] (fun s wx => s = .bool bb ∧ wx = Wq)
    case first =>
      rcases hz with hz | ⟨h1, h2⟩ | ⟨h1, h2⟩ | ⟨h1, h3, h2⟩ | ⟨h1, h3, h2⟩
      · have g1 : bb = false := by rw [← Eb.out, hz]; rfl
        subst hz
        subst g1
        go_wp2_with fail
        go_meet
        try exact ⟨rfl, rfl⟩
      · have k3 : decide (rt < 0) = true := decide_eq_true h1
        have h3 : rt ≠ 0 := by omega
        have k4 : decide (y < 0) = true := decide_eq_true h2
        have g1 : bb = false := by rw [← Eb.out, k3, k4, decide_eq_true h3]; rfl
        have h4 : ¬ rt = 0 := h3
        have h5 : (rt != 0) = true := by simp [h4]
        clear h1 h2 h3
        subst g1
        go_wp2_with fail
        go_meet
        try exact ⟨rfl, rfl⟩
      · have k3 : decide (rt < 0) = true := decide_eq_true h1
        have h3 : rt ≠ 0 := by omega
        have k4 : decide (y < 0) = false := decide_eq_false h2
        have g1 : bb = true := by rw [← Eb.out, k3, k4, decide_eq_true h3]; rfl
        have h4 : ¬ rt = 0 := h3
        have h5 : (rt != 0) = true := by simp [h4]
        clear h1 h2 h3
        subst g1
        go_wp2_with fail
        go_meet
        try exact ⟨rfl, rfl⟩
      · have k3 : decide (rt < 0) = false := decide_eq_false h1
        have k4 : decide (y < 0) = true := decide_eq_true h2
        have g1 : bb = true := by rw [← Eb.out, k3, k4, decide_eq_true h3]; rfl
        have h4 : ¬ rt = 0 := h3
        have h5 : (rt != 0) = true := by simp [h4]
        clear h1 h2 h3
        subst g1
        go_wp2_with fail
        go_meet
        try exact ⟨rfl, rfl⟩
      · have k3 : decide (rt < 0) = false := decide_eq_false h1
        have k4 : decide (y < 0) = false := decide_eq_false h2
        have g1 : bb = false := by rw [← Eb.out, k3, k4, decide_eq_true h3]; rfl
        have h4 : ¬ rt = 0 := h3
        have h5 : (rt != 0) = true := by simp [h4]
        clear h1 h2 h3
        subst g1
        go_wp2_with fail
        go_meet
        try exact ⟨rfl, rfl⟩
    case rest =>
    obtain ⟨rfl, hw⟩ := hcut
    subst hw
    generalize wc = Wq at *
    clear hz k1 k2 wp Hq Eb
    go_upto_if 117 with fail
    go_cut [14, 15] (fun s14 s15 wx => s14 = .int .i64 qd ∧ s15 = .int .i64 rd ∧ wx = Wq)
    case first =>
      clear d1 d2 d3 d4
      cases bb
      · have g1 : qd = qt := Gq.out.1
        have g2 : rd = rt := Gq.out.2
        subst g1 g2
        go_wp2_with fail
        go_meet
        try exact ⟨rfl, rfl, rfl⟩
      · have g1 : qd = qt - 1 := Gq.out.1
        have g2 : rd = rt + y := Gq.out.2
        subst g1 g2
        go_wp2_with fail
        go_meet
        try exact ⟨rfl, rfl, rfl⟩
    case rest =>
      obtain ⟨rfl, rfl, hw⟩ := hcut
      subst hw
      obtain ⟨t1, t2, t3, t4⟩ := id P
      clear q1 q2 r1 r2 Gq
      go_wp2_with fail
      refine (idiv_eq Jx.out Jy.out HY.out (Or.inr (by omega)) Eq.out Er.out).mono ?_
      rintro e W4 ⟨rfl, b4⟩
      have B4 := below_more (below_more B (Nat.le_refl _) b4) (Nat.le_refl _) (below2 W4 (.cells #[.bool (sg qd), .string (mg qd)] 23) (.cells #[.bool (sg rd), .string (mg rd)] 23))
      have P4 : TwoInts ((W4.alloc (.cells #[.bool (sg qd), .string (mg qd)] 23)).alloc (.cells #[.bool (sg rd), .string (mg rd)] 23)) W4.heap.size (W4.heap.size + 1) qd rd := by refine ⟨?_, ?_, ?_, ?_⟩ <;> simp [go_sem]
      clear t1 t2 t3 t4 P B b4
      go_upto_region 13 with fail
      have P5 := P4
      obtain ⟨t1, t2, t3, t4⟩ := P4
      generalize (W4.alloc (.cells #[.bool (sg qd), .string (mg qd)] 23)).alloc (.cells #[.bool (sg rd), .string (mg rd)] 23) = W5 at *
      generalize W4.heap.size + 1 = p17 at *
      generalize W4.heap.size = p16 at *
      have P6 : TwoInts W5.drew p16 p17 qd rd := P5
      have B4 := B4.drew
      go_region_held3 (fun W => W.cell? ⟨p16, 0, none⟩ = some (.bool (sg qd)) ∧ W.cell? ⟨p16, 1, none⟩ = some (.string (mg qd)) ∧ W.cell? ⟨p17, 0, none⟩ = some (.bool (sg rd)) ∧ W.cell? ⟨p17, 1, none⟩ = some (.string (mg rd))) ((first | exact TwoInts.keep (by assumption) (by assumption) | exact (show TwoInts _ p16 p17 qd rd from by assumption) | go_keep))
        (first
          | (go_at_call 23; refine (iof_any _ _ (by omega) (by omega)).mono ?_; rintro e X ⟨rfl, bX⟩; have PX := TwoInts.keep (p := p16) (q := p17) (x := qd) (y := rd) (by assumption) bX; have B4 := below_more B4 (Nat.le_refl _) bX)
          | (go_at_call 12; refine (awake_any _ (tab_keep Htab.out B4)).mono ?_; rintro e X ⟨rfl, bX⟩; have PX := TwoInts.keep (p := p16) (q := p17) (x := qd) (y := rd) (by assumption) bX; have B4 := below_more B4 (Nat.le_refl _) bX))
      all_goals
        go_wp2
        go_ret
        exact ⟨rfl, B4⟩
end Go.Proofs.YtdbfghppjhmelaaDoor
