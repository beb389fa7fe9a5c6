/- What IntegerRoots returns: true. Condition: its own table. -/
import Derived.Test.YtdbfghppjhmelaaDoorCells
import Derived.Test.YtdbfghppjhmelaaDoorIroot
namespace Go.Proofs.YtdbfghppjhmelaaDoor
open Go.RowKit
set_option linter.unusedSimpArgs false

theorem great1 (sa : ByteArray) : greatB 1 (fun _ => sa) = decide (60 < sa.size) := by simp [greatB, List.range_succ]
theorem ipow_eq {v : Value} {z y : Int} {k m : Nat} {w : World} (h : IsInt v z k) (hm : m ≤ 16) (hk : k ≤ 120) (e : z ^ m = y) : Calls Tryd.prog 28 #[v, .int .i64 (m : Int)] w (GoodOut w y) := by
  have hb : z.natAbs < 4294967296 ^ k := by
    obtain ⟨_, _, _, _, _, h1, _⟩ := h
    exact h1
  have h1 := nbits_le hb
  have h2 : m * nbits z.natAbs ≤ 16 * (32 * 120) := Nat.mul_le_mul hm (by omega)
  exact e ▸ ipow_any v z k m w h (by omega) (by omega)
theorem cells_one {W : World} {p : Nat} {g : Bool} {s : ByteArray} {u1 u2 : Value} (h1 : W.cell? ⟨p, 0, none⟩ = some u1) (h2 : W.cell? ⟨p, 1, none⟩ = some u2) : Cells [(p, g, s)] ((W.setCell ⟨p, 0, none⟩ (.bool g)).setCell ⟨p, 1, none⟩ (.string s)) :=
  Cells.cons (one_set h1 h2).1 (one_set h1 h2).2 (Cells.nil _)
theorem root_one {X m R R2 : Nat} (hm : 1 ≤ m) (h1 : IsRoot X m R) (h2 : IsRoot X m R2) : R = R2 := by
  obtain ⟨a1, a2⟩ := h1
  obtain ⟨b1, b2⟩ := h2
  have c1 : R ^ m < (R2 + 1) ^ m := Nat.lt_of_le_of_lt a1 b2
  have c2 : R2 ^ m < (R + 1) ^ m := Nat.lt_of_le_of_lt b1 a2
  have d1 := (Nat.pow_lt_pow_iff_left (by omega : m ≠ 0)).1 c1
  have d2 := (Nat.pow_lt_pow_iff_left (by omega : m ≠ 0)).1 c2
  omega
theorem root_pow {X m : Nat} (hm : 1 ≤ m) : IsRoot (X ^ m) m X := ⟨Nat.le_refl _, (Nat.pow_lt_pow_iff_left (by omega : m ≠ 0)).2 (by omega)⟩
theorem rts_le {X m R : Nat} (hm : 1 ≤ m) (h : IsRoot X m R) : R ≤ X := by
  have h1 : R ^ 1 ≤ R ^ m := by
    rcases Nat.eq_zero_or_pos R with h0 | h0
    · subst h0; simp
    · exact Nat.pow_le_pow_right h0 hm
  rw [Nat.pow_one] at h1
  exact Nat.le_trans h1 h.1
theorem iroot_eq {v : Value} {z y : Int} {k m R : Nat} {w : World} (h : IsInt v z k) (hk : k ≤ 1000) (h0 : 0 ≤ z) (hm1 : 1 ≤ m) (hm : m ≤ 4096) (hr : IsRoot z.natAbs m R) (e : (R : Int) = y) : Calls Tryd.prog 27 #[v, .int .i64 (m : Int)] w (GoodOut w y) :=
  (iroot_any v z k m w h hk h0 hm1 hm).mono fun _ _ ⟨R2, h2, h3⟩ => by
    rw [root_one hm1 h2 hr, e] at h3
    exact h3
theorem pow_bd {z y : Int} {k m : Nat} (h : z.natAbs < 4294967296 ^ k) (hm : 1 ≤ m) (e : z ^ m = y) : y.natAbs < 4294967296 ^ (k * m) := by
  rw [← e, Int.natAbs_pow, Nat.pow_mul]
  exact (Nat.pow_lt_pow_iff_left (by omega : m ≠ 0)).2 h

set_option maxRecDepth 100000 in
set_option maxHeartbeats 6400000 in
theorem roots_any (na : Bool) (sa : ByteArray) (m n : Nat) (w : World) (ha : sa.size ≤ 9223372036854775807) (hm : m ≤ 255) (hn : n ≤ 255) (htab : Lib.TabIs Tryd.prog w "internal/strconv.uint64pow10" .u64 Lib.pow10Tab) :
    Calls Tryd.prog 8 #[.agg #[.bool na, .string sa], .int .u8 (m : Int), .int .u8 (n : Int)] w fun e w' => e = .returned (.bool true) ∧ Below w.heap.size w w' := by
  have Htab := Lib.hid htab
  clear htab
  go_enter Tryd.func8, Tryd.ntmps8
  go_wp2_with fail
  refine (greats_any (w.heap.size + 1) 0 1 1 (fun _ => na) (fun _ => sa) _ ?_ (by omega) (fun _ _ => ha)).mono ?_
  · intro i hi
    obtain rfl : i = 0 := by omega
    simp [go_sem]
  rintro e W1 ⟨rfl, b1⟩
  rw [great1]
  have S1 : Cells [(w.heap.size, na, sa)] W1 := Cells.keep b1 (Cells.cons (by simp [go_sem]) (by simp [go_sem]) (Cells.nil _))
  have B1 : Below w.heap.size w W1 := below_more (below2 w _ _) (Nat.le_refl _) b1
  clear b1
  by_cases hg : decide (60 < sa.size) = true
  · rw [hg]
    clear S1
    go_wp2_with fail
    refine (awake_any _ (tab_keep Htab.out B1)).mono ?_
    rintro e W2 ⟨rfl, b2⟩
    go_wp2
    go_ret
    exact ⟨rfl, below_more B1 (Nat.le_refl _) b2⟩
  · rw [Bool.not_eq_true] at hg
    rw [hg]
    have h60 : sa.size ≤ 60 := by simpa using hg
    have Ia := Lib.hid (arg_int na sa h60)
    have Da := Lib.hid (bd_arg na sa h60)
    clear h60 hg ha
    generalize zv na sa = za at *
    obtain ⟨i, Hi⟩ : ∃ i, Hid (i = 1 + m % 8) := ⟨_, Lib.hid rfl⟩
    obtain ⟨k, Hk⟩ : ∃ i, Hid (i = 1 + n % 8) := ⟨_, Lib.hid rfl⟩
    have hi1 : 1 ≤ i := by have := Hi.out; omega
    have hi2 : i ≤ 8 := by have := Hi.out; omega
    have hk1 : 1 ≤ k := by have := Hk.out; omega
    have hk2 : k ≤ 8 := by have := Hk.out; omega
    have E1 := Lib.hid (show 1 + (m : Int) % 8 = (i : Int) by have := Hi.out; omega)
    have E2 := Lib.hid (show 1 + (n : Int) % 8 = (k : Int) by have := Hk.out; omega)
    have E3 := Lib.hid (show (i : Int) + (k : Int) = ((i + k : Nat) : Int) by omega)
    obtain ⟨zx, Ex⟩ : ∃ z, Hid (za ^ i = z) := ⟨_, Lib.hid rfl⟩
    obtain ⟨zy, Ey⟩ : ∃ z, Hid (za ^ k = z) := ⟨_, Lib.hid rfl⟩
    obtain ⟨zz, Ez⟩ : ∃ z, Hid (za ^ (i + k) = z) := ⟨_, Lib.hid rfl⟩
    have Em := Lib.hid (show zx * zy = zz by rw [← Ex.out, ← Ey.out, ← Ez.out, Int.pow_add])
    have Jx := Lib.hid (isInt_mg (pow_bd Da.out hi1 Ex.out) (by have : 15 * i ≤ 15 * 8 := Nat.mul_le_mul_left _ hi2; omega))
    have Jy := Lib.hid (isInt_mg (pow_bd Da.out hk1 Ey.out) (by have : 15 * k ≤ 15 * 8 := Nat.mul_le_mul_left _ hk2; omega))
    have hbl := below1 W1 (.cells #[.bool false, .string ⟨#[]⟩] 23)
    have S' : Cells [(W1.heap.size, false, ⟨#[]⟩), (w.heap.size, na, sa)] (W1.alloc (.cells #[.bool false, .string ⟨#[]⟩] 23)) := Cells.cons (by simp [go_sem]) (by simp [go_sem]) (S1.keep hbl)
    have B' := below_more B1 (Nat.le_refl _) hbl
    clear S1 B1 hbl
    go_upto_region 5 with fail
    rw [E1.out, E2.out]
    generalize W1.alloc (.cells #[.bool false, .string ⟨#[]⟩] 23) = W2 at *
    generalize W1.heap.size = p9 at *
    have S : Cells [(p9, false, ⟨#[]⟩), (w.heap.size, na, sa)] W2 := S'
    have B := B'
    clear S' B' hm hn
    obtain ⟨t1, t2, t3, t4⟩ := flat2 S
    by_cases hz : za < 0
    · have Ec := Lib.hid (show cmpZ za 0 = -1 from if_pos hz)
      have HZ := Lib.hid hz
      clear hz
      go_wp2_with fail
      refine (iroot_range _ za 15 (i : Int) _ Ia.out (Or.inl HZ.out)).mono ?_
      rintro e W1 ⟨rfl, b1⟩
      have hbl := below1 W1 (.cells #[.bool false, .string ⟨#[]⟩] 23)
      have S' : Cells [(W1.heap.size, false, ⟨#[]⟩), (p9, false, ⟨#[]⟩), (w.heap.size, na, sa)] (W1.alloc (.cells #[.bool false, .string ⟨#[]⟩] 23)) := Cells.cons (by simp [go_sem]) (by simp [go_sem]) ((S.keep b1).keep hbl)
      have B' := below_more (below_more B (Nat.le_refl _) b1) (Nat.le_refl _) hbl
      clear S B b1 hbl t1 t2 t3 t4
      go_upto_region 6 with fail
      generalize W1.alloc (.cells #[.bool false, .string ⟨#[]⟩] 23) = W2 at *
      generalize W1.heap.size = p10 at *
      have S : Cells [(p10, false, ⟨#[]⟩), (p9, false, ⟨#[]⟩), (w.heap.size, na, sa)] W2 := S'
      have B := B'
      clear S' B'
      obtain ⟨t1, t2, t3, t4, t5, t6⟩ := flat3 S
      go_wp2_with fail
      refine (ipow_eq Ia.out (by omega) (by omega) Ex.out).mono ?_
      rintro e W1 ⟨rfl, b1⟩
      have hbl := below1 W1 (.cells #[.bool (sg zx), .string (mg zx)] 23)
      have S' : Cells [(W1.heap.size, (sg zx), (mg zx)), (p10, false, ⟨#[]⟩), (p9, false, ⟨#[]⟩), (w.heap.size, na, sa)] (W1.alloc (.cells #[.bool (sg zx), .string (mg zx)] 23)) := Cells.cons (by simp [go_sem]) (by simp [go_sem]) ((S.keep b1).keep hbl)
      have B' := below_more (below_more B (Nat.le_refl _) b1) (Nat.le_refl _) hbl
      clear S B b1 hbl t1 t2 t3 t4 t5 t6
      go_upto_region 7 with fail
      generalize W1.alloc (.cells #[.bool (sg zx), .string (mg zx)] 23) = W2 at *
      generalize W1.heap.size = p12 at *
      have S : Cells [(p12, (sg zx), (mg zx)), (p10, false, ⟨#[]⟩), (p9, false, ⟨#[]⟩), (w.heap.size, na, sa)] W2 := S'
      have B := B'
      clear S' B'
      obtain ⟨t1, t2, t3, t4, t5, t6, t7, t8⟩ := flat4 S
      go_wp2_with fail
      refine (ipow_eq Ia.out (by omega) (by omega) Ey.out).mono ?_
      rintro e W1 ⟨rfl, b1⟩
      have hbl := below1 W1 (.cells #[.bool (sg zy), .string (mg zy)] 23)
      have S' : Cells [(W1.heap.size, (sg zy), (mg zy)), (p12, (sg zx), (mg zx)), (p10, false, ⟨#[]⟩), (p9, false, ⟨#[]⟩), (w.heap.size, na, sa)] (W1.alloc (.cells #[.bool (sg zy), .string (mg zy)] 23)) := Cells.cons (by simp [go_sem]) (by simp [go_sem]) ((S.keep b1).keep hbl)
      have B' := below_more (below_more B (Nat.le_refl _) b1) (Nat.le_refl _) hbl
      clear S B b1 hbl t1 t2 t3 t4 t5 t6 t7 t8
      go_upto_region 8 with fail
      generalize W1.alloc (.cells #[.bool (sg zy), .string (mg zy)] 23) = W2 at *
      generalize W1.heap.size = p14 at *
      have S : Cells [(p14, (sg zy), (mg zy)), (p12, (sg zx), (mg zx)), (p10, false, ⟨#[]⟩), (p9, false, ⟨#[]⟩), (w.heap.size, na, sa)] W2 := S'
      have B := B'
      clear S' B'
      obtain ⟨t1, t2, t3, t4, t5, t6, t7, t8, t9, t10⟩ := flat5 S
      go_wp2_with fail
      rw [E3.out]
      refine (ipow_eq (m := i + k) Ia.out (by omega) (by omega) Ez.out).mono ?_
      rintro e W1 ⟨rfl, b1⟩
      have hbl := below1 W1 (.cells #[.bool (sg zz), .string (mg zz)] 23)
      have S' : Cells [(W1.heap.size, (sg zz), (mg zz)), (p14, (sg zy), (mg zy)), (p12, (sg zx), (mg zx)), (p10, false, ⟨#[]⟩), (p9, false, ⟨#[]⟩), (w.heap.size, na, sa)] (W1.alloc (.cells #[.bool (sg zz), .string (mg zz)] 23)) := Cells.cons (by simp [go_sem]) (by simp [go_sem]) ((S.keep b1).keep hbl)
      have B' := below_more (below_more B (Nat.le_refl _) b1) (Nat.le_refl _) hbl
      clear S B b1 hbl t1 t2 t3 t4 t5 t6 t7 t8 t9 t10
      go_upto_region 9 with fail
      generalize W1.alloc (.cells #[.bool (sg zz), .string (mg zz)] 23) = W2 at *
      generalize W1.heap.size = p16 at *
      have S : Cells [(p16, (sg zz), (mg zz)), (p14, (sg zy), (mg zy)), (p12, (sg zx), (mg zx)), (p10, false, ⟨#[]⟩), (p9, false, ⟨#[]⟩), (w.heap.size, na, sa)] W2 := S'
      have B := B'
      clear S' B'
      obtain ⟨t1, t2, t3, t4, t5, t6, t7, t8, t9, t10, t11, t12⟩ := flat6 S
      have S0 : Cells [(p16, (sg zz), (mg zz)), (p14, (sg zy), (mg zy)), (p12, (sg zx), (mg zx)), (p10, false, ⟨#[]⟩), (p9, false, ⟨#[]⟩), (w.heap.size, na, sa)] W2.drew := S
      have B0 := B.drew
      go_region_held3 (fun W => W.cell? ⟨p16, 0, none⟩ = some (.bool (sg zz)) ∧ W.cell? ⟨p16, 1, none⟩ = some (.string (mg zz)) ∧ W.cell? ⟨p14, 0, none⟩ = some (.bool (sg zy)) ∧ W.cell? ⟨p14, 1, none⟩ = some (.string (mg zy)) ∧ W.cell? ⟨p12, 0, none⟩ = some (.bool (sg zx)) ∧ W.cell? ⟨p12, 1, none⟩ = some (.string (mg zx)) ∧ W.cell? ⟨p10, 0, none⟩ = some (.bool false) ∧ W.cell? ⟨p10, 1, none⟩ = some (.string ⟨#[]⟩) ∧ W.cell? ⟨p9, 0, none⟩ = some (.bool false) ∧ W.cell? ⟨p9, 1, none⟩ = some (.string ⟨#[]⟩) ∧ W.cell? ⟨w.heap.size, 0, none⟩ = some (.bool na) ∧ W.cell? ⟨w.heap.size, 1, none⟩ = some (.string sa)) ((first | exact flat6 (Cells.keep (by assumption) (by assumption)) | exact flat6 (by assumption) | go_keep))
        (first | (go_at_call 18; (with_reducible refine (imul_eq Jx.out Jy.out Em.out).mono ?_); rintro e X ⟨rfl, bX⟩; have SX := Cells.keep bX (by assumption); have BX := below_more B0 (Nat.le_refl _) bX))
      all_goals clear S B S0 B0 bX t1 t2 t3 t4 t5 t6 t7 t8 t9 t10 t11 t12
      all_goals have S := SX
      all_goals have B := BX
      all_goals clear SX BX
      all_goals obtain ⟨t1, t2, t3, t4, t5, t6, t7, t8, t9, t10, t11, t12⟩ := flat6 S
      all_goals
        go_wp2_with fail
        refine (icmp_eq Ia.out zero_int Ec.out).mono ?_
        rintro e W3 ⟨rfl, b3⟩
        have S := S.keep b3
        have B := below_more B (Nat.le_refl _) b3
        clear b3 t1 t2 t3 t4 t5 t6 t7 t8 t9 t10 t11 t12
        obtain ⟨t1, t2, t3, t4, t5, t6, t7, t8, t9, t10, t11, t12⟩ := flat6 S
        go_wp2_with fail
        refine (awake_any _ (tab_keep Htab.out B)).mono ?_
        rintro e W4 ⟨rfl, b4⟩
        go_wp2
        go_ret
        exact ⟨rfl, below_more B (Nat.le_refl _) b4⟩
    · obtain ⟨c, Ec⟩ : ∃ z, Hid (cmpZ za 0 = z) := ⟨_, Lib.hid rfl⟩
      have hc : ¬ c < 0 := by rw [← Ec.out]; exact fun h => hz (cmpZ_neg_iff.1 h)
      have HZ := Lib.hid (show 0 ≤ za by omega)
      clear hz
      go_wp2_with fail
      refine (iroot_any _ za 15 i _ Ia.out (by omega) HZ.out hi1 (by omega)).mono ?_
      rintro e W1 ⟨R, hR, rfl, b1⟩
      have hbl := below1 W1 (.cells #[.bool (sg (R : Int)), .string (mg (R : Int))] 23)
      have S' : Cells [(W1.heap.size, (sg (R : Int)), (mg (R : Int))), (p9, false, ⟨#[]⟩), (w.heap.size, na, sa)] (W1.alloc (.cells #[.bool (sg (R : Int)), .string (mg (R : Int))] 23)) := Cells.cons (by simp [go_sem]) (by simp [go_sem]) ((S.keep b1).keep hbl)
      have B' := below_more (below_more B (Nat.le_refl _) b1) (Nat.le_refl _) hbl
      clear S B b1 hbl t1 t2 t3 t4
      go_upto_region 6 with fail
      generalize W1.alloc (.cells #[.bool (sg (R : Int)), .string (mg (R : Int))] 23) = W2 at *
      generalize W1.heap.size = p10 at *
      have S : Cells [(p10, (sg (R : Int)), (mg (R : Int))), (p9, false, ⟨#[]⟩), (w.heap.size, na, sa)] W2 := S'
      have B := B'
      clear S' B'
      obtain ⟨t1, t2, t3, t4, t5, t6⟩ := flat3 S
      have HR := Lib.hid hR
      clear hR
      obtain ⟨zr, Er⟩ : ∃ z, Hid ((R : Int) = z) := ⟨_, Lib.hid rfl⟩
      rw [Er.out] at S t1 t2
      have hRle := rts_le hi1 HR.out
      have Dr := Lib.hid (show zr.natAbs < 4294967296 ^ 15 by rw [← Er.out, Int.natAbs_natCast]; exact Nat.lt_of_le_of_lt hRle Da.out)
      have Jr := Lib.hid (isInt_mg Dr.out (by omega))
      clear hRle
      go_wp2_with fail
      refine (ipow_eq Ia.out (by omega) (by omega) Ex.out).mono ?_
      rintro e W1 ⟨rfl, b1⟩
      have hbl := below1 W1 (.cells #[.bool (sg zx), .string (mg zx)] 23)
      have S' : Cells [(W1.heap.size, (sg zx), (mg zx)), (p10, (sg zr), (mg zr)), (p9, false, ⟨#[]⟩), (w.heap.size, na, sa)] (W1.alloc (.cells #[.bool (sg zx), .string (mg zx)] 23)) := Cells.cons (by simp [go_sem]) (by simp [go_sem]) ((S.keep b1).keep hbl)
      have B' := below_more (below_more B (Nat.le_refl _) b1) (Nat.le_refl _) hbl
      clear S B b1 hbl t1 t2 t3 t4 t5 t6
      go_upto_region 7 with fail
      generalize W1.alloc (.cells #[.bool (sg zx), .string (mg zx)] 23) = W2 at *
      generalize W1.heap.size = p12 at *
      have S : Cells [(p12, (sg zx), (mg zx)), (p10, (sg zr), (mg zr)), (p9, false, ⟨#[]⟩), (w.heap.size, na, sa)] W2 := S'
      have B := B'
      clear S' B'
      obtain ⟨t1, t2, t3, t4, t5, t6, t7, t8⟩ := flat4 S
      go_wp2_with fail
      refine (ipow_eq Ia.out (by omega) (by omega) Ey.out).mono ?_
      rintro e W1 ⟨rfl, b1⟩
      have hbl := below1 W1 (.cells #[.bool (sg zy), .string (mg zy)] 23)
      have S' : Cells [(W1.heap.size, (sg zy), (mg zy)), (p12, (sg zx), (mg zx)), (p10, (sg zr), (mg zr)), (p9, false, ⟨#[]⟩), (w.heap.size, na, sa)] (W1.alloc (.cells #[.bool (sg zy), .string (mg zy)] 23)) := Cells.cons (by simp [go_sem]) (by simp [go_sem]) ((S.keep b1).keep hbl)
      have B' := below_more (below_more B (Nat.le_refl _) b1) (Nat.le_refl _) hbl
      clear S B b1 hbl t1 t2 t3 t4 t5 t6 t7 t8
      go_upto_region 8 with fail
      generalize W1.alloc (.cells #[.bool (sg zy), .string (mg zy)] 23) = W2 at *
      generalize W1.heap.size = p14 at *
      have S : Cells [(p14, (sg zy), (mg zy)), (p12, (sg zx), (mg zx)), (p10, (sg zr), (mg zr)), (p9, false, ⟨#[]⟩), (w.heap.size, na, sa)] W2 := S'
      have B := B'
      clear S' B'
      obtain ⟨t1, t2, t3, t4, t5, t6, t7, t8, t9, t10⟩ := flat5 S
      go_wp2_with fail
      rw [E3.out]
      refine (ipow_eq (m := i + k) Ia.out (by omega) (by omega) Ez.out).mono ?_
      rintro e W1 ⟨rfl, b1⟩
      have hbl := below1 W1 (.cells #[.bool (sg zz), .string (mg zz)] 23)
      have S' : Cells [(W1.heap.size, (sg zz), (mg zz)), (p14, (sg zy), (mg zy)), (p12, (sg zx), (mg zx)), (p10, (sg zr), (mg zr)), (p9, false, ⟨#[]⟩), (w.heap.size, na, sa)] (W1.alloc (.cells #[.bool (sg zz), .string (mg zz)] 23)) := Cells.cons (by simp [go_sem]) (by simp [go_sem]) ((S.keep b1).keep hbl)
      have B' := below_more (below_more B (Nat.le_refl _) b1) (Nat.le_refl _) hbl
      clear S B b1 hbl t1 t2 t3 t4 t5 t6 t7 t8 t9 t10
      go_upto_region 9 with fail
      generalize W1.alloc (.cells #[.bool (sg zz), .string (mg zz)] 23) = W2 at *
      generalize W1.heap.size = p16 at *
      have S : Cells [(p16, (sg zz), (mg zz)), (p14, (sg zy), (mg zy)), (p12, (sg zx), (mg zx)), (p10, (sg zr), (mg zr)), (p9, false, ⟨#[]⟩), (w.heap.size, na, sa)] W2 := S'
      have B := B'
      clear S' B'
      obtain ⟨t1, t2, t3, t4, t5, t6, t7, t8, t9, t10, t11, t12⟩ := flat6 S
      have S0 : Cells [(p16, (sg zz), (mg zz)), (p14, (sg zy), (mg zy)), (p12, (sg zx), (mg zx)), (p10, (sg zr), (mg zr)), (p9, false, ⟨#[]⟩), (w.heap.size, na, sa)] W2.drew := S
      have B0 := B.drew
      go_region_held3 (fun W => W.cell? ⟨p16, 0, none⟩ = some (.bool (sg zz)) ∧ W.cell? ⟨p16, 1, none⟩ = some (.string (mg zz)) ∧ W.cell? ⟨p14, 0, none⟩ = some (.bool (sg zy)) ∧ W.cell? ⟨p14, 1, none⟩ = some (.string (mg zy)) ∧ W.cell? ⟨p12, 0, none⟩ = some (.bool (sg zx)) ∧ W.cell? ⟨p12, 1, none⟩ = some (.string (mg zx)) ∧ W.cell? ⟨p10, 0, none⟩ = some (.bool (sg zr)) ∧ W.cell? ⟨p10, 1, none⟩ = some (.string (mg zr)) ∧ W.cell? ⟨p9, 0, none⟩ = some (.bool false) ∧ W.cell? ⟨p9, 1, none⟩ = some (.string ⟨#[]⟩) ∧ W.cell? ⟨w.heap.size, 0, none⟩ = some (.bool na) ∧ W.cell? ⟨w.heap.size, 1, none⟩ = some (.string sa)) ((first | exact flat6 (Cells.keep (by assumption) (by assumption)) | exact flat6 (by assumption) | go_keep))
        (first | (go_at_call 18; (with_reducible refine (imul_eq Jx.out Jy.out Em.out).mono ?_); rintro e X ⟨rfl, bX⟩; have SX := Cells.keep bX (by assumption); have BX := below_more B0 (Nat.le_refl _) bX))
      all_goals clear S B S0 B0 bX t1 t2 t3 t4 t5 t6 t7 t8 t9 t10 t11 t12
      all_goals have S := SX
      all_goals have B := BX
      all_goals clear SX BX
      all_goals obtain ⟨t1, t2, t3, t4, t5, t6, t7, t8, t9, t10, t11, t12⟩ := flat6 S
      obtain ⟨zl, El⟩ : ∃ z, Hid (zr ^ i = z) := ⟨_, Lib.hid rfl⟩
      obtain ⟨z1, E1'⟩ : ∃ z, Hid (zr + 1 = z) := ⟨_, Lib.hid rfl⟩
      obtain ⟨zh, Eh⟩ : ∃ z, Hid (z1 ^ i = z) := ⟨_, Lib.hid rfl⟩
      have J1 := Lib.hid (isInt_mg (db_add Dr.out (show (1 : Int).natAbs < 4294967296 ^ 1 by decide) E1'.out) (by omega))
      have Jo := Lib.hid (isInt_mg (show (1 : Int).natAbs < 4294967296 ^ 1 by decide) (by omega))
      go_wp2_with fail
      refine (icmp_eq Ia.out zero_int Ec.out).mono ?_
      rintro e W3 ⟨rfl, b3⟩
      have S := S.keep b3
      have B := below_more B (Nat.le_refl _) b3
      clear b3 t1 t2 t3 t4 t5 t6 t7 t8 t9 t10 t11 t12
      obtain ⟨t1, t2, t3, t4, t5, t6, t7, t8, t9, t10, t11, t12⟩ := flat6 S
      go_wp2_with fail
      refine (ipow_eq Jr.out (by omega) (by omega) El.out).mono ?_
      rintro e W1 ⟨rfl, b1⟩
      have hbl := below1 W1 (.cells #[.bool (sg zl), .string (mg zl)] 23)
      have S' : Cells [(W1.heap.size, (sg zl), (mg zl)), (p16, (sg zz), (mg zz)), (p14, (sg zy), (mg zy)), (p12, (sg zx), (mg zx)), (p10, (sg zr), (mg zr)), (p9, false, ⟨#[]⟩), (w.heap.size, na, sa)] (W1.alloc (.cells #[.bool (sg zl), .string (mg zl)] 23)) := Cells.cons (by simp [go_sem]) (by simp [go_sem]) ((S.keep b1).keep hbl)
      have B' := below_more (below_more B (Nat.le_refl _) b1) (Nat.le_refl _) hbl
      clear S B b1 hbl t1 t2 t3 t4 t5 t6 t7 t8 t9 t10 t11 t12
      go_upto_region 14 with fail
      generalize W1.alloc (.cells #[.bool (sg zl), .string (mg zl)] 23) = W2 at *
      generalize W1.heap.size = p18 at *
      have S : Cells [(p18, (sg zl), (mg zl)), (p16, (sg zz), (mg zz)), (p14, (sg zy), (mg zy)), (p12, (sg zx), (mg zx)), (p10, (sg zr), (mg zr)), (p9, false, ⟨#[]⟩), (w.heap.size, na, sa)] W2 := S'
      have B := B'
      clear S' B'
      obtain ⟨t1, t2, t3, t4, t5, t6, t7, t8, t9, t10, t11, t12, t13, t14⟩ := flat7 S
      have x10 : p10 < W2.heap.size := S.lt (x := (p10, (sg zr), (mg zr))) (by simp)
      go_cut [15, 19] (fun s15 s19 wx => s15 = .int .i64 0 ∧ ∃ p19 : Nat, s19 = .pointer (some ⟨p19, 0, none⟩) ∧ W2.heap.size ≤ p19 ∧ Cells [(p19, (sg zh), (mg zh))] wx ∧ Below W2.heap.size W2 wx)
      case first =>
        obtain ⟨r1, r2⟩ : W2.cell? ⟨p10, 0, none⟩ = some (.bool (sg zr)) ∧ W2.cell? ⟨p10, 1, none⟩ = some (.string (mg zr)) := S (p10, (sg zr), (mg zr)) (by simp)
        have S00 : TwoC W2 p10 (sg zr) (mg zr) := ⟨r1, r2⟩
        have S0 : TwoC W2.drew p10 (sg zr) (mg zr) := ⟨r1, r2⟩
        have B0 : Below W2.heap.size W2 W2.drew := (Below.refl _ _).drew
        clear S B r1 r2 t1 t2 t3 t4 t5 t6 t7 t8 t9 t10 t11 t12 t13 t14
        go_region_held3 (fun W => W.cell? ⟨p10, 0, none⟩ = some (.bool (sg zr)) ∧ W.cell? ⟨p10, 1, none⟩ = some (.string (mg zr))) ((show TwoC _ p10 (sg zr) (mg zr); repeat (first | with_reducible exact SX3 | with_reducible exact SX2 | with_reducible exact SX1 | with_reducible exact S0 | with_reducible exact S00 | with_reducible refine TwoC.drew ?_ | with_reducible refine TwoC.alloc ?_ _ | ((with_reducible refine TwoC.set ?_ ?_ _); rotate_left; (dsimp only; omega)))))
          (first
            | (go_at_call 23; (with_reducible refine (iof_any 1 _ (by decide) (by decide)).mono ?_); rintro e X1 ⟨rfl, b1⟩; have SX1 : TwoC X1 p10 (sg zr) (mg zr) := TwoC.keep b1 (by (repeat (first | with_reducible exact SX2 | with_reducible exact SX1 | with_reducible exact S0 | with_reducible exact S00 | with_reducible refine TwoC.drew ?_ | with_reducible refine TwoC.alloc ?_ _))); obtain ⟨c1, f1⟩ := bcell b1; have u1 : p10 < X1.heap.size := World.block_lt_of_cell? X1 ⟨p10, 0, none⟩ SX1.1; have y1 := b1.size; (try simp only [World.size_alloc, World.size_drew] at y1); (try have v1a : W2.heap.size < X1.heap.size := (by omega)); (try have v1b : X1.heap.size < X1.heap.size := (by omega)); (try have v1c : X1.heap.size < X1.heap.size := (by omega)))
            | (go_at_call 17; (with_reducible refine (iadd_eq Jr.out Jo.out E1'.out).mono ?_); rintro e X2 ⟨rfl, b2⟩; have SX2 : TwoC X2 p10 (sg zr) (mg zr) := TwoC.keep b2 (by (repeat (first | with_reducible exact SX2 | with_reducible exact SX1 | with_reducible exact S0 | with_reducible exact S00 | with_reducible refine TwoC.drew ?_ | with_reducible refine TwoC.alloc ?_ _))); obtain ⟨c2, f2⟩ := bcell b2; have u2 : p10 < X2.heap.size := World.block_lt_of_cell? X2 ⟨p10, 0, none⟩ SX2.1; have y2 := b2.size; (try simp only [World.size_alloc, World.size_drew] at y2); (try have v2a : W2.heap.size < X2.heap.size := (by omega)); (try have v2b : X1.heap.size < X2.heap.size := (by omega)); (try have v2c : X1.heap.size < X2.heap.size := (by omega)))
            | (go_at_call 28; (with_reducible refine (ipow_eq J1.out (by omega) (by omega) Eh.out).mono ?_); rintro e X3 ⟨rfl, b3⟩; have SX3 : TwoC X3 p10 (sg zr) (mg zr) := TwoC.keep b3 (by (repeat (first | with_reducible exact SX2 | with_reducible exact SX1 | with_reducible exact S0 | with_reducible exact S00 | with_reducible refine TwoC.drew ?_ | with_reducible refine TwoC.alloc ?_ _))); obtain ⟨c3, f3⟩ := bcell b3; have u3 : p10 < X3.heap.size := World.block_lt_of_cell? X3 ⟨p10, 0, none⟩ SX3.1; have y3 := b3.size; (try simp only [World.size_alloc, World.size_drew] at y3); (try have v3a : W2.heap.size < X3.heap.size := (by omega)); (try have v3b : X2.heap.size < X3.heap.size := (by omega)); (try have v3c : X1.heap.size < X3.heap.size := (by omega)))
          )
        all_goals go_wp2_with fail
        all_goals go_meet
        all_goals refine ⟨rfl, _, rfl, by omega, ?_, ?_⟩
        all_goals try (repeat (first | with_reducible exact B0 | with_reducible exact (Below.refl _ _) | with_reducible refine Below.drew ?_ | with_reducible refine below_more ?_ (Nat.le_refl _) b3 | with_reducible refine below_more ?_ (Nat.le_refl _) b2 | with_reducible refine below_more ?_ (Nat.le_refl _) b1 | ((with_reducible refine Below.alloc ?_ ?_ _); rotate_left; ((try simp only [World.size_alloc, World.size_setCell, World.size_drew]); omega)) | ((with_reducible refine Below.setCell ?_ ?_ _); rotate_left; (dsimp only; omega))))
        all_goals first | (exact Cells.cons (by simp [go_sem]) (by simp [go_sem]) (Cells.nil _)) | (refine cells_one (u1 := .bool false) (u2 := .string ⟨#[]⟩) ?_ ?_ <;> simp [go_sem, *])
      case rest =>
        obtain ⟨rfl, p19, rfl, hp19, S19, b5⟩ := hcut
        have S5 := S.keep b5
        have S6 : Cells [(p19, (sg zh), (mg zh)), (p18, (sg zl), (mg zl)), (p12, (sg zx), (mg zx)), (p10, (sg zr), (mg zr)), (w.heap.size, na, sa)] wc := by
          intro x hx
          rcases List.mem_cons.1 hx with rfl | hx
          · exact S19 _ (by simp)
          · exact S5 x (by simp at hx ⊢; rcases hx with rfl | rfl | rfl | rfl <;> simp)
        have B6 := below_more B (Nat.le_refl _) b5
        clear S S5 S19 B b5 x10 hp19 t1 t2 t3 t4 t5 t6 t7 t8 t9 t10 t11 t12 t13 t14
        have S := S6
        have B := B6
        clear S6 B6
        have HBk : Hid (IsRoot zx.natAbs i za.natAbs) := by show IsRoot _ _ _; rw [← Ex.out, Int.natAbs_pow]; exact root_pow hi1
        have HZx := Lib.hid (show 0 ≤ zx by rw [← Ex.out]; exact Int.pow_nonneg HZ.out)
        have HZa := Lib.hid (show ((za.natAbs : Nat) : Int) = za by have := HZ.out; omega)
        have h15 : 15 * i ≤ 1000 := by omega
        have Ja := Lib.hid (isInt_mg Da.out (by omega))
        have Jl := Lib.hid (isInt_mg (pow_bd Dr.out hi1 El.out) (by omega))
        have Jh := Lib.hid (isInt_mg (pow_bd (db_add Dr.out (show (1 : Int).natAbs < 4294967296 ^ 1 by decide) E1'.out) hi1 Eh.out) (by omega))
        obtain ⟨c2, Ec2⟩ : ∃ z, Hid (cmpZ zl za = z) := ⟨_, Lib.hid rfl⟩
        have HR1 := Lib.hid HR.out.1
        have HR2 := Lib.hid HR.out.2
        have HZn := Lib.hid (show za = ((za.natAbs : Nat) : Int) by have := HZ.out; omega)
        have hc2 : c2 ≤ 0 := by
          rw [← Ec2.out]
          refine cmpZ_le.2 ?_
          rw [← El.out, ← Er.out, HZn.out, ← Int.natCast_pow]
          exact Int.ofNat_le.2 HR1.out
        have Ec3 := Lib.hid (show cmpZ za zh = -1 from if_pos (by
          rw [← Eh.out, ← E1'.out, ← Er.out, HZn.out, show ((R : Int) + 1) = ((R + 1 : Nat) : Int) by omega, ← Int.natCast_pow]
          exact Int.ofNat_lt.2 HR2.out))
        have Ec4 := Lib.hid (cmpZ_self za)
        have hsg : Hid (sg zr = false) := by show _ = _; rw [← Er.out]; exact decide_eq_false (by omega)
        obtain ⟨t1, t2, t3, t4, t5, t6, t7, t8, t9, t10⟩ := flat5 S
        go_wp2_with fail
        refine (iroot_eq Jx.out h15 HZx.out hi1 (by omega) HBk.out HZa.out).mono ?_
        rintro e W1 ⟨rfl, b1⟩
        have hbl := below1 W1 (.cells #[.bool (sg za), .string (mg za)] 23)
        have S' : Cells [(W1.heap.size, (sg za), (mg za)), (p19, (sg zh), (mg zh)), (p18, (sg zl), (mg zl)), (p12, (sg zx), (mg zx)), (p10, (sg zr), (mg zr)), (w.heap.size, na, sa)] (W1.alloc (.cells #[.bool (sg za), .string (mg za)] 23)) := Cells.cons (by simp [go_sem]) (by simp [go_sem]) ((S.keep b1).keep hbl)
        have B' := below_more (below_more B (Nat.le_refl _) b1) (Nat.le_refl _) hbl
        clear S B b1 hbl t1 t2 t3 t4 t5 t6 t7 t8 t9 t10
        go_upto_region 16 with fail
        generalize W1.alloc (.cells #[.bool (sg za), .string (mg za)] 23) = W2 at *
        generalize W1.heap.size = p20 at *
        have S : Cells [(p20, (sg za), (mg za)), (p19, (sg zh), (mg zh)), (p18, (sg zl), (mg zl)), (p12, (sg zx), (mg zx)), (p10, (sg zr), (mg zr)), (w.heap.size, na, sa)] W2 := S'
        have B := B'
        clear S' B'
        obtain ⟨t1, t2, t3, t4, t5, t6, t7, t8, t9, t10, t11, t12⟩ := flat6 S
        rw [hsg.out] at t9
        go_wp2_with fail
        refine (icmp_eq Jl.out Ia.out Ec2.out).mono ?_
        rintro e W3 ⟨rfl, b3⟩
        have S := S.keep b3
        have B := below_more B (Nat.le_refl _) b3
        clear b3 t1 t2 t3 t4 t5 t6 t7 t8 t9 t10 t11 t12
        obtain ⟨t1, t2, t3, t4, t5, t6, t7, t8, t9, t10, t11, t12⟩ := flat6 S
        go_wp2_with fail
        refine (icmp_eq Ia.out Jh.out Ec3.out).mono ?_
        rintro e W3 ⟨rfl, b3⟩
        have S := S.keep b3
        have B := below_more B (Nat.le_refl _) b3
        clear b3 t1 t2 t3 t4 t5 t6 t7 t8 t9 t10 t11 t12
        obtain ⟨t1, t2, t3, t4, t5, t6, t7, t8, t9, t10, t11, t12⟩ := flat6 S
        go_wp2_with fail
        refine (icmp_eq Ja.out Ia.out Ec4.out).mono ?_
        rintro e W3 ⟨rfl, b3⟩
        have S := S.keep b3
        have B := below_more B (Nat.le_refl _) b3
        clear b3 t1 t2 t3 t4 t5 t6 t7 t8 t9 t10 t11 t12
        obtain ⟨t1, t2, t3, t4, t5, t6, t7, t8, t9, t10, t11, t12⟩ := flat6 S
        go_wp2_with fail
        refine (awake_any _ (tab_keep Htab.out B)).mono ?_
        rintro e W4 ⟨rfl, b4⟩
        go_wp2
        go_ret
        exact ⟨rfl, below_more B (Nat.le_refl _) b4⟩
end Go.Proofs.YtdbfghppjhmelaaDoor
