/- What IntegerDivisors returns: true. Condition: its own table. -/
import Derived.Test.YtmogadgfjcakfaaDoorCells
import Derived.Test.YtmogadgfjcakfaaDoorDve
namespace Go.Proofs.YtmogadgfjcakfaaDoor
open Go.RowKit
set_option linter.unusedSimpArgs false

theorem gcd_scale (a b c : Int) : ((Nat.gcd (a * c).natAbs (b * c).natAbs : Nat) : Int) = ((Nat.gcd a.natAbs b.natAbs : Nat) : Int) * ((c.natAbs : Nat) : Int) := by
  rw [Int.natAbs_mul, Int.natAbs_mul, Nat.gcd_mul_right, Int.natCast_mul]
theorem gcd_quots {a b g p q : Int} (e : ((Nat.gcd a.natAbs b.natAbs : Nat) : Int) = g) (hg : g ≠ 0) (hp : p * g = a) (hq : q * g = b) : ((Nat.gcd p.natAbs q.natAbs : Nat) : Int) = 1 := by
  have h := gcd_scale p q g
  rw [hp, hq, e] at h
  have hn : (0 : Int) < g := by omega
  have hg2 : ((g.natAbs : Nat) : Int) = g := by omega
  rw [hg2] at h
  generalize ((Nat.gcd p.natAbs q.natAbs : Nat) : Int) = t at *
  have h1 : 1 * g = t * g := by omega
  exact (Int.eq_of_mul_eq_mul_right (by omega) h1).symm

set_option maxRecDepth 100000 in
set_option maxHeartbeats 6400000 in
theorem gcds_any (na nb nc : Bool) (sa sb sc : ByteArray) (w : World) (ha : sa.size ≤ 9223372036854775807) (hb : sb.size ≤ 9223372036854775807) (hc : sc.size ≤ 9223372036854775807) (htab : Lib.TabIs Tryd.prog w "internal/strconv.uint64pow10" .u64 Lib.pow10Tab) :
    Calls Tryd.prog 4 #[.agg #[.bool na, .string sa], .agg #[.bool nb, .string sb], .agg #[.bool nc, .string sc]] w fun e w' => e = .returned (.bool true) ∧ Below w.heap.size w w' := by
  have Htab := Lib.hid htab
  clear htab
  go_enter Tryd.func4, Tryd.ntmps4
  go_wp2_with fail
  refine (greats_any (w.heap.size + 1 + 1 + 1) 0 3 3 (threeB na nb nc) (three sa sb sc) _ ?_ (by omega) ?_).mono ?_
  · intro i hi
    have : i = 0 ∨ i = 1 ∨ i = 2 := by omega
    rcases this with rfl | rfl | rfl <;> simp [go_sem, three, threeB]
  · intro i hi
    unfold three
    split
    · exact ha
    · split
      · exact hb
      · exact hc
  rintro e W1 ⟨rfl, b1⟩
  rw [great3]
  have S1 : Cells [(w.heap.size, na, sa), (w.heap.size + 1, nb, sb), (w.heap.size + 1 + 1, nc, sc)] W1 := Cells.keep b1 (Cells.cons (by simp [go_sem]) (by simp [go_sem]) (Cells.cons (by simp [go_sem]) (by simp [go_sem]) (Cells.cons (by simp [go_sem]) (by simp [go_sem]) (Cells.nil _))))
  have B1 : Below w.heap.size w W1 := below_more (below4 w _ _ _ _) (Nat.le_refl _) b1
  clear b1
  by_cases hg : (decide (60 < sa.size) || (decide (60 < sb.size) || decide (60 < sc.size))) = true
  · rw [hg]
    clear S1
    go_wp2_with fail
    refine (awake_any _ (tab_keep Htab.out B1)).mono ?_
    rintro e W2 ⟨rfl, b2⟩
    go_wp2
    go_ret
    exact ⟨rfl, below_more B1 (Nat.le_refl _) b2⟩
  rw [Bool.not_eq_true] at hg
  rw [hg]
  have h60 : sa.size ≤ 60 ∧ sb.size ≤ 60 ∧ sc.size ≤ 60 := by simpa using hg
  have Ia := Lib.hid (arg_int na sa h60.1)
  have Ib := Lib.hid (arg_int nb sb h60.2.1)
  have Ic := Lib.hid (arg_int nc sc h60.2.2)
  have Da := Lib.hid (bd_arg na sa h60.1)
  have Db := Lib.hid (bd_arg nb sb h60.2.1)
  have Dc := Lib.hid (bd_arg nc sc h60.2.2)
  clear h60 hg ha hb hc
  generalize zv na sa = za at *
  generalize zv nb sb = zb at *
  generalize zv nc sc = zc at *
  obtain ⟨zg, Eg⟩ : ∃ z : Int, Hid (((Nat.gcd za.natAbs zb.natAbs : Nat) : Int) = z) := ⟨_, Lib.hid rfl⟩
  have Eg2 := Lib.hid (show ((Nat.gcd zb.natAbs za.natAbs : Nat) : Int) = zg by rw [Nat.gcd_comm]; exact Eg.out)
  have Dg := Lib.hid (gcd_bd Da.out Db.out Eg.out)
  have Jg := Lib.hid (isInt_mg Dg.out (by omega))
  have Ng := Lib.hid (show sg zg = false by unfold sg; rw [← Eg.out]; exact decide_eq_false (by omega))
  obtain ⟨c0, Ec⟩ : ∃ z, Hid (cmpZ zc 0 = z) := ⟨_, Lib.hid rfl⟩
  obtain ⟨zs, Es⟩ : ∃ z : Int, Hid (((zc.natAbs : Nat) : Int) = z) := ⟨_, Lib.hid rfl⟩
  have Ds := Lib.hid (show zs.natAbs < 4294967296 ^ 15 by rw [← Es.out]; exact Dc.out)
  obtain ⟨zx, Ex⟩ : ∃ z, Hid (za * zc = z) := ⟨_, Lib.hid rfl⟩
  obtain ⟨zy, Ey⟩ : ∃ z, Hid (zb * zc = z) := ⟨_, Lib.hid rfl⟩
  obtain ⟨zt, Et⟩ : ∃ z, Hid (zg * zs = z) := ⟨_, Lib.hid rfl⟩
  have Et2 := Lib.hid (show ((Nat.gcd zx.natAbs zy.natAbs : Nat) : Int) = zt by rw [← Ex.out, ← Ey.out, gcd_scale, Eg.out, Es.out]; exact Et.out)
  have Jx := Lib.hid (isInt_mg (db_mul Da.out Dc.out Ex.out) (by omega))
  have Jy := Lib.hid (isInt_mg (db_mul Db.out Dc.out Ey.out) (by omega))
  go_upto_region 4 with fail
  have S2 : Cells [(W1.heap.size, false, ⟨#[]⟩), (w.heap.size, na, sa), (w.heap.size + 1, nb, sb), (w.heap.size + 1 + 1, nc, sc)] (W1.alloc (.cells #[.bool false, .string ⟨#[]⟩] 23)) := Cells.cons (by simp [go_sem]) (by simp [go_sem]) (S1.keep (below1 W1 _))
  have B2 := below_more B1 (Nat.le_refl _) (below1 W1 (.cells #[.bool false, .string ⟨#[]⟩] 23))
  clear S1 B1
  generalize W1.alloc (.cells #[.bool false, .string ⟨#[]⟩] 23) = V1 at *
  generalize W1.heap.size = p7 at *
  obtain ⟨t1, t2, t3, t4, t5, t6, t7, t8⟩ := flat4 S2
  go_wp2_with fail
  refine (gcd_eq Ia.out Ib.out Eg.out).mono ?_
  rintro e W2 ⟨rfl, b2⟩
  go_upto_region 5 with fail
  have S3 : Cells [(W2.heap.size, (sg zg), (mg zg)), (p7, false, ⟨#[]⟩), (w.heap.size, na, sa), (w.heap.size + 1, nb, sb), (w.heap.size + 1 + 1, nc, sc)] (W2.alloc (.cells #[.bool (sg zg), .string (mg zg)] 23)) := Cells.cons (by simp [go_sem]) (by simp [go_sem]) ((S2.keep b2).keep (below1 W2 _))
  have B3 := below_more (below_more B2 (Nat.le_refl _) b2) (Nat.le_refl _) (below1 W2 (.cells #[.bool (sg zg), .string (mg zg)] 23))
  clear S2 B2 b2 t1 t2 t3 t4 t5 t6 t7 t8
  generalize W2.alloc (.cells #[.bool (sg zg), .string (mg zg)] 23) = V2 at *
  generalize W2.heap.size = p8 at *
  obtain ⟨t1, t2, t3, t4, t5, t6, t7, t8, t9, t10⟩ := flat5 S3
  go_upto_region 6 with fail
  have hbl := below1 V2 (.cells #[.bool nc, .string sc] 23)
  have S4 := S3.keep hbl
  have V9 := Var.new V2 23 nc sc
  have B4 := below_more B3 (Nat.le_refl _) hbl
  have x9 : w.heap.size ≤ V2.heap.size := B3.size
  have x8 := S3.lt (x := (p8, (sg zg), (mg zg))) (by simp)
  have x7 := S3.lt (x := (p7, false, ⟨#[]⟩)) (by simp)
  have xc := S3.lt (x := (w.heap.size + 1 + 1, nc, sc)) (by simp)
  dsimp only at x8 x7 xc
  clear S3 B3 hbl t1 t2 t3 t4 t5 t6 t7 t8 t9 t10
  generalize V2.alloc (.cells #[.bool nc, .string sc] 23) = V3 at *
  generalize V2.heap.size = p9 at *
  obtain ⟨t1, t2, t3, t4, t5, t6, t7, t8, t9, t10⟩ := flat5 S4
  go_wp2_with fail
  refine (icmp_eq Ic.out zero_int Ec.out).mono ?_
  rintro e W3 ⟨rfl, b3⟩
  have S5 := S4.keep b3
  have V10 := V9.keep b3
  have B5 := below_more B4 (Nat.le_refl _) b3
  clear S4 V9 B4 b3 t1 t2 t3 t4 t5 t6 t7 t8 t9 t10
  go_upto_if 30 with fail
  go_cut [32] (fun _ wx => ∃ g9 s9, Var wx p9 g9 s9 ∧ IsInt (.agg #[.bool g9, .string s9]) zs 15 ∧ Cells [(p8, (sg zg), (mg zg)), (p7, false, ⟨#[]⟩), (w.heap.size, na, sa), (w.heap.size + 1, nb, sb), (w.heap.size + 1 + 1, nc, sc)] wx ∧ Below w.heap.size w wx)
  case first =>
    obtain ⟨t1, t2, t3, t4, t5, t6, t7, t8, t9, t10⟩ := flat5 S5
    by_cases hz : zc < 0
    · have hcn : c0 < 0 := by rw [← Ec.out]; exact cmpZ_neg_iff.2 hz
      have d1 : decide (c0 < 0) = true := decide_eq_true hcn
      have En := Lib.hid (show -zc = zs by rw [← Es.out]; omega)
      have Js := Lib.hid (isInt_mg Ds.out (by omega))
      clear hz
      go_wp2_with fail
      refine (ineg_eq Ic.out En.out).mono ?_
      rintro e W4 ⟨rfl, b4⟩
      obtain ⟨v1, v2, v3, v4⟩ := V10.keep b4
      have V11 := V10.keep b4
      have S6 := S5.keep b4
      have B6 := below_more B5 (Nat.le_refl _) b4
      go_wp2_with fail
      go_meet
      exact ⟨sg zs, mg zs, V11.set, Js.out, (S6.set (a := ⟨p9, 0, none⟩) (by intro x hx; simp at hx; rcases hx with rfl | rfl | rfl | rfl | rfl <;> dsimp only <;> omega) (.bool (sg zs))).set (a := ⟨p9, 1, none⟩) (by intro x hx; simp at hx; rcases hx with rfl | rfl | rfl | rfl | rfl <;> dsimp only <;> omega) (.string (mg zs)), (B6.setCell (by exact x9) _).setCell (by exact x9) _⟩
    · have hcn : ¬ c0 < 0 := by rw [← Ec.out]; exact fun h => hz (cmpZ_neg_iff.1 h)
      have d1 : decide (c0 < 0) = false := decide_eq_false hcn
      have En : zc = zs := by rw [← Es.out]; omega
      go_wp2_with fail
      go_meet
      exact ⟨nc, sc, V10, by rw [← En]; exact Ic.out, S5, B5⟩
  case rest =>
    obtain ⟨g9, s9, V11, I9, S6, B6⟩ := hcut
    have I9 := Lib.hid I9
    clear S5 V10 B5
    have S7 : Cells [(p9, g9, s9), (p8, (sg zg), (mg zg)), (p7, false, ⟨#[]⟩), (w.heap.size, na, sa), (w.heap.size + 1, nb, sb), (w.heap.size + 1 + 1, nc, sc)] wc := Cells.cons V11.1 V11.2.1 S6
    clear V11 S6
    have hng := Ng.out
    have S7 := hng ▸ S7
    have Jg := Lib.hid (show IsInt (.agg #[.bool false, .string (mg zg)]) zg 15 from hng ▸ Jg.out)
    go_upto_region 8 with fail
    have S8 : Cells [(p9, g9, s9), (p8, false, (mg zg)), (p7, false, ⟨#[]⟩), (w.heap.size, na, sa), (w.heap.size + 1, nb, sb), (w.heap.size + 1 + 1, nc, sc)] wc.drew := S7
    have B8 := B6.drew
    go_region_held3 (fun W => W.cell? ⟨p9, 0, none⟩ = some (.bool g9) ∧ W.cell? ⟨p9, 1, none⟩ = some (.string s9) ∧ W.cell? ⟨p8, 0, none⟩ = some (.bool false) ∧ W.cell? ⟨p8, 1, none⟩ = some (.string (mg zg)) ∧ W.cell? ⟨p7, 0, none⟩ = some (.bool false) ∧ W.cell? ⟨p7, 1, none⟩ = some (.string ⟨#[]⟩) ∧ W.cell? ⟨w.heap.size, 0, none⟩ = some (.bool na) ∧ W.cell? ⟨w.heap.size, 1, none⟩ = some (.string sa) ∧ W.cell? ⟨w.heap.size + 1, 0, none⟩ = some (.bool nb) ∧ W.cell? ⟨w.heap.size + 1, 1, none⟩ = some (.string sb) ∧ W.cell? ⟨w.heap.size + 1 + 1, 0, none⟩ = some (.bool nc) ∧ W.cell? ⟨w.heap.size + 1 + 1, 1, none⟩ = some (.string sc)) ((first | exact flat6 (Cells.keep (by assumption) (by assumption)) | exact flat6 (by assumption) | go_keep))
      (first
        | (go_at_call 11; (first | (with_reducible refine (gcd_eq Ib.out Ia.out Eg2.out).mono ?_) | (with_reducible refine (gcd_eq Jx.out Jy.out Et2.out).mono ?_)); rintro e X ⟨rfl, bX⟩; have SX := Cells.keep bX (by assumption); have B8 := below_more B8 (Nat.le_refl _) bX)
        | (go_at_call 14; (first | (with_reducible refine (imul_eq Ia.out Ic.out Ex.out).mono ?_) | (with_reducible refine (imul_eq Ib.out Ic.out Ey.out).mono ?_) | (with_reducible refine (imul_eq Jg.out I9.out Et.out).mono ?_)); rintro e X ⟨rfl, bX⟩; have SX := Cells.keep bX (by assumption); have B8 := below_more B8 (Nat.le_refl _) bX))
    have S9 := SX
    have B9 := B8
    clear S7 S8 B6 B8 SX bX
    have Hzz := Lib.hid (show zg = 0 → za = 0 ∧ zb = 0 from fun h => by
      have h1 := Eg.out
      rw [h] at h1
      have h2 : Nat.gcd za.natAbs zb.natAbs = 0 := by omega
      have h3 := Nat.gcd_eq_zero_iff.1 h2
      omega)
    by_cases hz : zg = 0
    · obtain ⟨e1, e2⟩ := Hzz.out hz
      have E1 := Lib.hid (show cmpZ za 0 = 0 by rw [e1]; rfl)
      have E2 := Lib.hid (show cmpZ zb 0 = 0 by rw [e2]; rfl)
      have hm : (mg zg).toList.isEmpty = true := by rw [hz, mg_zero, ByteArray.toList_mk]; rfl
      clear e1 e2 hz
      have S9 := S9.sub (M := [(p7, false, ⟨#[]⟩), (p9, g9, s9), (p8, false, (mg zg)), (w.heap.size, na, sa), (w.heap.size + 1, nb, sb), (w.heap.size + 1 + 1, nc, sc)]) (by simp)
      obtain ⟨t1, t2, t3, t4, t5, t6, t7, t8, t9, t10, t11, t12⟩ := flat6 S9
      go_wp2_with fail
      refine (icmp_eq Ia.out zero_int E1.out).mono ?_
      rintro e Y1 ⟨rfl, c1⟩
      have S10 := S9.keep c1
      have B10 := below_more B9 (Nat.le_refl _) c1
      clear t1 t2 t3 t4 t5 t6 t7 t8 t9 t10 t11 t12
      obtain ⟨t1, t2, t3, t4, t5, t6, t7, t8, t9, t10, t11, t12⟩ := flat6 S10
      go_wp2_with fail
      refine (icmp_eq Ib.out zero_int E2.out).mono ?_
      rintro e Y2 ⟨rfl, c2⟩
      have B11 := below_more B10 (Nat.le_refl _) c2
      go_wp2_with fail
      refine (awake_any _ (tab_keep Htab.out B11)).mono ?_
      rintro e Y3 ⟨rfl, c3⟩
      go_wp2
      go_ret
      exact ⟨rfl, below_more B11 (Nat.le_refl _) c3⟩
    · obtain ⟨t1, t2, t3, t4, t5, t6, t7, t8, t9, t10, t11, t12⟩ := flat6 S9
      have H0 := Lib.hid hz
      have hpos : 0 < zg := by have := Eg.out; omega
      obtain ⟨zp, Ep⟩ : ∃ z, Hid (qD za zg = z) := ⟨_, Lib.hid rfl⟩
      obtain ⟨zq, Eq⟩ : ∃ z, Hid (qD zb zg = z) := ⟨_, Lib.hid rfl⟩
      have dva : zg ∣ za := by rw [← Eg.out]; exact Int.ofNat_dvd_left.2 (Nat.gcd_dvd_left _ _)
      have dvb : zg ∣ zb := by rw [← Eg.out]; exact Int.ofNat_dvd_left.2 (Nat.gcd_dvd_right _ _)
      have Rp := Lib.hid (show rD za zg = 0 from (qD_exact hpos dva).2)
      have Rq := Lib.hid (show rD zb zg = 0 from (qD_exact hpos dvb).2)
      have Eone := Lib.hid (show ((Nat.gcd zp.natAbs zq.natAbs : Nat) : Int) = 1 from gcd_quots Eg.out hz (by rw [← Ep.out, (qD_exact hpos dva).1]; exact Int.ediv_mul_cancel dva) (by rw [← Eq.out, (qD_exact hpos dvb).1]; exact Int.ediv_mul_cancel dvb))
      have Jp := Lib.hid (isInt_mg (qD_bd Da.out Ep.out) (by omega))
      have Jq := Lib.hid (isInt_mg (qD_bd Db.out Eq.out) (by omega))
      have hm : ((mg zg).toList == ([] : List UInt8)) = false := by
        rw [beq_eq_false_iff_ne]
        intro h
        have h1 : mg zg = ⟨#[]⟩ := by
          have := toList_eq (mg zg) ⟨#[]⟩
          rw [h] at this
          simpa using this
        have h2 := zv_mg zg
        rw [h1] at h2
        exact hz (by rw [← h2]; cases sg zg <;> rfl)
      clear hz hpos dva dvb Hzz
      go_wp2_with fail
      refine (ediv_eq Ia.out Jg.out H0.out Ep.out Rp.out).mono ?_
      rintro e Y1 ⟨rfl, c1⟩
      have hbl := below2 Y1 (.cells #[.bool (sg zp), .string (mg zp)] 23) (.cells #[.bool (sg 0), .string (mg 0)] 23)
      have S10 : Cells [(Y1.heap.size, (sg zp), (mg zp)), (Y1.heap.size + 1, (sg 0), (mg 0)), (p8, false, (mg zg)), (p7, false, ⟨#[]⟩), (w.heap.size + 1, nb, sb)] ((Y1.alloc (.cells #[.bool (sg zp), .string (mg zp)] 23)).alloc (.cells #[.bool (sg 0), .string (mg 0)] 23)) :=
        Cells.cons (by simp [go_sem]) (by simp [go_sem]) (Cells.cons (by simp [go_sem]) (by simp [go_sem]) (((S9.keep c1).keep hbl).sub (by simp)))
      have B10 := below_more (below_more B9 (Nat.le_refl _) c1) (Nat.le_refl _) hbl
      clear t1 t2 t3 t4 t5 t6 t7 t8 t9 t10 t11 t12 c1 hbl B9 S9
      go_upto_region 13 with fail
      generalize ((Y1.alloc (.cells #[.bool (sg zp), .string (mg zp)] 23)).alloc (.cells #[.bool (sg 0), .string (mg 0)] 23)) = Y2 at *
      generalize Y1.heap.size = p10 at *
      obtain ⟨t1, t2, t3, t4, t5, t6, t7, t8, t9, t10⟩ := flat5 S10
      go_wp2_with fail
      refine (ediv_eq Ib.out Jg.out H0.out Eq.out Rq.out).mono ?_
      rintro e Y3 ⟨rfl, c3⟩
      have hbl := below2 Y3 (.cells #[.bool (sg zq), .string (mg zq)] 23) (.cells #[.bool (sg 0), .string (mg 0)] 23)
      have S11 : Cells [(Y3.heap.size, (sg zq), (mg zq)), (Y3.heap.size + 1, (sg 0), (mg 0)), (p10, (sg zp), (mg zp)), (p10 + 1, (sg 0), (mg 0)), (p7, false, ⟨#[]⟩)] ((Y3.alloc (.cells #[.bool (sg zq), .string (mg zq)] 23)).alloc (.cells #[.bool (sg 0), .string (mg 0)] 23)) :=
        Cells.cons (by simp [go_sem]) (by simp [go_sem]) (Cells.cons (by simp [go_sem]) (by simp [go_sem]) (((S10.keep c3).keep hbl).sub (by simp)))
      have B11 := below_more (below_more B10 (Nat.le_refl _) c3) (Nat.le_refl _) hbl
      clear t1 t2 t3 t4 t5 t6 t7 t8 t9 t10 c3 hbl B10 S10
      go_upto_region 14 with fail
      generalize ((Y3.alloc (.cells #[.bool (sg zq), .string (mg zq)] 23)).alloc (.cells #[.bool (sg 0), .string (mg 0)] 23)) = Y4 at *
      generalize Y3.heap.size = p13 at *
      rw [sg_zero, mg_zero] at S11
      obtain ⟨t1, t2, t3, t4, t5, t6, t7, t8, t9, t10⟩ := flat5 S11
      go_wp2_with fail
      refine (gcd_eq Jp.out Jq.out Eone.out).mono ?_
      rintro e Y5 ⟨rfl, c5⟩
      have B12 := below_more B11 (Nat.le_refl _) c5
      go_wp2_with fail
      refine (iof_any 1 _ (by omega) (by omega)).mono ?_
      rintro e Y6 ⟨rfl, c6⟩
      have B13 := below_more B12 (Nat.le_refl _) c6
      go_wp2_with fail
      refine (awake_any _ (tab_keep Htab.out B13)).mono ?_
      rintro e Y7 ⟨rfl, c7⟩
      go_wp2
      go_ret
      exact ⟨rfl, below_more B13 (Nat.le_refl _) c7⟩
end Go.Proofs.YtmogadgfjcakfaaDoor
