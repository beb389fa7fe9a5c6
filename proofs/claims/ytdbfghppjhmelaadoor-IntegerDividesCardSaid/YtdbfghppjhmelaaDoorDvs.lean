/- What IntegerDivides returns: true. Condition: its own table. -/
import Derived.Test.YtdbfghppjhmelaaDoorCells
import Derived.Test.YtdbfghppjhmelaaDoorDivu
import Derived.Test.YtdbfghppjhmelaaDoorIdiv0
namespace Go.Proofs.YtdbfghppjhmelaaDoor
open Go.RowKit
set_option linter.unusedSimpArgs false

theorem ediv_eq {v1 v2 : Value} {z1 z2 q r : Int} {k1 k2 : Nat} {w : World} (h1 : IsInt v1 z1 k1) (h2 : IsInt v2 z2 k2) (h0 : z2 ≠ 0) (eq : qD z1 z2 = q) (er : rD z1 z2 = r) :
    Calls Tryd.prog 25 #[v1, v2] w fun e w' => e = .returned (.tuple #[.agg #[.bool (sg q), .string (mg q)], .agg #[.bool (sg r), .string (mg r)], .int .i64 0]) ∧ Below w.heap.size w w' := eq ▸ er ▸ idiv_all v1 v2 z1 z2 k1 k2 w h1 h2 h0
theorem cmpZ_ge' {a b : Int} (h : b ≤ a) : 0 ≤ cmpZ a b := by unfold cmpZ; split <;> (try split) <;> omega
theorem qD_bd {a b q : Int} {k : Nat} (h : a.natAbs < 4294967296 ^ k) (e : qD a b = q) : q.natAbs < 4294967296 ^ (k + 1) := by
  have h1 : ∀ s, dq s a.natAbs b.natAbs < 4294967296 ^ (k + 1) := fun s => dq_lt s _ h
  rw [← e]
  unfold qD
  split
  · rw [Int.natAbs_neg, Int.natAbs_natCast]; exact h1 _
  · rw [Int.natAbs_natCast]; exact h1 _
theorem ezero_eq {v1 v2 : Value} {z1 z2 : Int} {k1 k2 : Nat} {w : World} (h1 : IsInt v1 z1 k1) (h2 : IsInt v2 z2 k2) (h0 : z2 = 0) :
    Calls Tryd.prog 25 #[v1, v2] w fun e w' => e = .returned (.tuple #[.agg #[.bool false, .string ⟨#[]⟩], .agg #[.bool false, .string ⟨#[]⟩], .int .i64 9]) ∧ Below w.heap.size w w' := idiv_zero v1 v2 z1 k1 k2 w h1 (h0 ▸ h2)

set_option maxRecDepth 100000 in
set_option maxHeartbeats 3200000 in
theorem dvs_any (na nb : Bool) (sa sb : ByteArray) (w : World) (ha : sa.size ≤ 9223372036854775807) (hb : sb.size ≤ 9223372036854775807) (htab : Lib.TabIs Tryd.prog w "internal/strconv.uint64pow10" .u64 Lib.pow10Tab) :
    Calls Tryd.prog 6 #[.agg #[.bool na, .string sa], .agg #[.bool nb, .string sb]] w fun e w' => e = .returned (.bool true) ∧ Below w.heap.size w w' := by
  have Htab := Lib.hid htab
  clear htab
  go_enter Tryd.func6, Tryd.ntmps6
  go_wp2_with fail
  refine (greats_any (w.heap.size + 1 + 1) 0 2 2 (twoG na nb) (twoS sa sb) _ ?_ (by omega) ?_).mono ?_
  · intro i hi
    have : i = 0 ∨ i = 1 := by omega
    rcases this with rfl | rfl <;> simp [go_sem, twoS, twoG]
  · intro i hi
    unfold twoS
    split
    · exact ha
    · exact hb
  rintro e W1 ⟨rfl, b1⟩
  rw [great2]
  have S1 : Cells [(w.heap.size, na, sa), (w.heap.size + 1, nb, sb)] W1 := Cells.keep b1 (Cells.cons (by simp [go_sem]) (by simp [go_sem]) (Cells.cons (by simp [go_sem]) (by simp [go_sem]) (Cells.nil _)))
  have B1 : Below w.heap.size w W1 := below_more (below3 w _ _ _) (Nat.le_refl _) b1
  clear b1
  by_cases hg : (decide (60 < sa.size) || decide (60 < sb.size)) = true
  · rw [hg]
    clear S1
    go_wp2_with fail
    refine (awake_any _ (tab_keep Htab.out B1)).mono ?_
    rintro e W2 ⟨rfl, b2⟩
    go_wp2
    go_ret
    exact ⟨rfl, below_more B1 (Nat.le_refl _) b2⟩
  · rw [Bool.not_eq_true] at hg
    rw [hg]
    have h60 : sa.size ≤ 60 ∧ sb.size ≤ 60 := by simpa using hg
    have Ia := Lib.hid (arg_int na sa h60.1)
    have Ib := Lib.hid (arg_int nb sb h60.2)
    have Da := Lib.hid (bd_arg na sa h60.1)
    have Db := Lib.hid (bd_arg nb sb h60.2)
    clear h60 hg ha hb
    generalize zv na sa = za at *
    generalize zv nb sb = zb at *
    have x1 : w.heap.size + 1 < W1.heap.size := S1.lt (x := (w.heap.size + 1, nb, sb)) (by simp)
    obtain ⟨t1, t2, t3, t4⟩ := flat2 S1
    by_cases h0 : zb = 0
    · have Ec := Lib.hid (show cmpZ zb 0 = 0 by rw [h0]; rfl)
      have H0 := Lib.hid h0
      clear h0
      go_wp2_with fail
      refine (ezero_eq Ia.out Ib.out H0.out).mono ?_
      rintro e W2 ⟨rfl, b2⟩
      have hbl := below3 W2 (.cells #[.bool false, .string ⟨#[]⟩] 23) (.cells #[.bool false, .string ⟨#[]⟩] 23) (.cells #[.bool false, .string ⟨#[]⟩] 23)
      have S3 : Cells [(w.heap.size, na, sa), (w.heap.size + 1, nb, sb), (W2.heap.size, false, ⟨#[]⟩), (W2.heap.size + 1, false, ⟨#[]⟩), (W2.heap.size + 1 + 1, false, ⟨#[]⟩)] (((W2.alloc (.cells #[.bool false, .string ⟨#[]⟩] 23)).alloc (.cells #[.bool false, .string ⟨#[]⟩] 23)).alloc (.cells #[.bool false, .string ⟨#[]⟩] 23)) := by
        have s := (S1.keep b2).keep hbl
        obtain ⟨u1, u2, u3, u4⟩ := flat2 s
        refine Cells.cons u1 u2 (Cells.cons u3 u4 (Cells.cons ?_ ?_ (Cells.cons ?_ ?_ (Cells.cons ?_ ?_ (Cells.nil _))))) <;> simp [go_sem]
      have B3 := below_more (below_more B1 (Nat.le_refl _) b2) (Nat.le_refl _) hbl
      have S2 := S1.keep b2
      have y1 : w.heap.size + 1 < W2.heap.size := S2.lt (x := (w.heap.size + 1, nb, sb)) (by simp)
      have y0 : w.heap.size < W2.heap.size := by omega
      clear S1 B1 b2 hbl t1 t2 t3 t4
      obtain ⟨t1, t2, t3, t4⟩ := flat2 S2
      go_wp2_with fail
      refine (icmp_eq Ib.out zero_int Ec.out).mono ?_
      rintro e W3 ⟨rfl, b3⟩
      have S4 := S3.keep b3
      have B4 := below_more B3 (Nat.le_refl _) b3
      clear S3 S2 b3 B3 t1 t2 t3 t4 y0 y1
      generalize W2.heap.size + 1 + 1 = p8 at *
      generalize W2.heap.size + 1 = p6 at *
      generalize W2.heap.size = p5 at *
      obtain ⟨t1, t2, t3, t4, t5, t6, t7, t8, t9, t10⟩ := flat5 S4
      go_wp2_with fail
      refine (awake_any _ (tab_keep Htab.out B4)).mono ?_
      rintro e W4 ⟨rfl, b4⟩
      go_wp2
      go_ret
      exact ⟨rfl, below_more B4 (Nat.le_refl _) b4⟩
    · obtain ⟨q, Eq⟩ : ∃ z, Hid (qD za zb = z) := ⟨_, Lib.hid rfl⟩
      obtain ⟨r, Er⟩ : ∃ z, Hid (rD za zb = z) := ⟨_, Lib.hid rfl⟩
      have Hsp := Lib.hid (qD_spec (a := za) h0)
      rw [Eq.out, Er.out] at Hsp
      have H0 := Lib.hid h0
      clear h0
      go_wp2_with fail
      refine (ediv_eq Ia.out Ib.out H0.out Eq.out Er.out).mono ?_
      rintro e W2 ⟨rfl, b2⟩
      have hbl := below3 W2 (.cells #[.bool (sg q), .string (mg q)] 23) (.cells #[.bool (sg r), .string (mg r)] 23) (.cells #[.bool false, .string ⟨#[]⟩] 23)
      have S3 : Cells [(w.heap.size, na, sa), (w.heap.size + 1, nb, sb), (W2.heap.size, (sg q), (mg q)), (W2.heap.size + 1 + 1, false, ⟨#[]⟩)] (((W2.alloc (.cells #[.bool (sg q), .string (mg q)] 23)).alloc (.cells #[.bool (sg r), .string (mg r)] 23)).alloc (.cells #[.bool false, .string ⟨#[]⟩] 23)) := by
        have s := (S1.keep b2).keep hbl
        obtain ⟨u1, u2, u3, u4⟩ := flat2 s
        refine Cells.cons u1 u2 (Cells.cons u3 u4 (Cells.cons ?_ ?_ (Cells.cons ?_ ?_ (Cells.nil _)))) <;> simp [go_sem]
      have V6 : Var (((W2.alloc (.cells #[.bool (sg q), .string (mg q)] 23)).alloc (.cells #[.bool (sg r), .string (mg r)] 23)).alloc (.cells #[.bool false, .string ⟨#[]⟩] 23)) (W2.heap.size + 1) (sg r) (mg r) := by
        refine ⟨?_, ?_, ?_, ?_⟩ <;> simp [go_sem]
      have B3 := below_more (below_more B1 (Nat.le_refl _) b2) (Nat.le_refl _) hbl
      have S2 := S1.keep b2
      have y1 : w.heap.size + 1 < W2.heap.size := S2.lt (x := (w.heap.size + 1, nb, sb)) (by simp)
      have y2 : W2.heap.size + 1 + 1 < (((W2.alloc (.cells #[.bool (sg q), .string (mg q)] 23)).alloc (.cells #[.bool (sg r), .string (mg r)] 23)).alloc (.cells #[.bool false, .string ⟨#[]⟩] 23)).heap.size := by simp only [World.size_alloc]; omega
      obtain ⟨c, Ec⟩ : ∃ z, Hid (cmpZ zb 0 = z) := ⟨_, Lib.hid rfl⟩
      clear S1 B1 b2 hbl t1 t2 t3 t4 S2
      go_upto_region 7 with fail
      generalize ((W2.alloc (.cells #[.bool (sg q), .string (mg q)] 23)).alloc (.cells #[.bool (sg r), .string (mg r)] 23)).alloc (.cells #[.bool false, .string ⟨#[]⟩] 23) = W3 at *
      obtain ⟨p5, h5⟩ : ∃ p, p = W2.heap.size := ⟨_, rfl⟩
      rw [← h5] at S3 V6 y1 y2
      rw [← h5]
      clear h5
      go_cut [9, 10] (fun s9 s10 wx => s9 = .int .i64 c ∧ ∃ p10 : Nat, s10 = .pointer (some ⟨p10, 0, none⟩) ∧ W3.heap.size ≤ p10 ∧ Var wx p10 nb sb ∧ Below W3.heap.size W3 wx)
      case first =>
        have S00 : Cells [(w.heap.size + 1, nb, sb), (p5 + 1 + 1, false, ⟨#[]⟩)] W3 := S3.sub (by simp)
        have S0 : Cells [(w.heap.size + 1, nb, sb), (p5 + 1 + 1, false, ⟨#[]⟩)] W3.drew := S00
        obtain ⟨t1, t2, t3, t4⟩ := flat2 S00
        have x4 : w.heap.size + 1 < W3.heap.size := by omega
        have B0 : Below W3.heap.size W3 W3.drew := (Below.refl _ _).drew
        go_region_held3 (fun W => W.cell? ⟨w.heap.size + 1, 0, none⟩ = some (.bool nb) ∧ W.cell? ⟨w.heap.size + 1, 1, none⟩ = some (.string sb) ∧ W.cell? ⟨p5 + 1 + 1, 0, none⟩ = some (.bool false) ∧ W.cell? ⟨p5 + 1 + 1, 1, none⟩ = some (.string ⟨#[]⟩)) ((refine flat2 (g1 := nb) (s1 := sb) (g2 := false) (s2 := ⟨#[]⟩) ?_; repeat (first | with_reducible exact S2 | with_reducible exact S0 | with_reducible exact S00 | with_reducible refine Cells.drew ?_ | with_reducible refine Cells.alloc ?_ _ | ((with_reducible refine Cells.set ?_ ?_ _); rotate_left; (intro x hx; simp at hx; rcases hx with rfl | rfl <;> dsimp only <;> omega)))))
          (first
            | (go_at_call 22; refine (icmp_eq Ib.out zero_int Ec.out).mono ?_; rintro e W4 ⟨rfl, b4⟩; have S2 : Cells [(w.heap.size + 1, nb, sb), (p5 + 1 + 1, false, ⟨#[]⟩)] W4 := Cells.keep b4 (by (repeat (first | with_reducible exact S0 | with_reducible exact S00 | with_reducible refine Cells.drew ?_ | with_reducible refine Cells.alloc ?_ _))); obtain ⟨c4, f4⟩ := bcell b4; have u4 : w.heap.size + 1 < W4.heap.size := S2.lt (x := (w.heap.size + 1, nb, sb)) (by simp); have u5 : p5 + 1 + 1 < W4.heap.size := S2.lt (x := (p5 + 1 + 1, false, ⟨#[]⟩)) (by simp); have z4 := b4.size; (try simp only [World.size_alloc, World.size_drew] at z4); (try have v4a : W3.heap.size < W4.heap.size := (by omega))))
        all_goals go_wp2_with fail
        all_goals go_meet
        · exact ⟨rfl, _, rfl, by omega, Var.new W4 _ nb sb, (below_more B0 (Nat.le_refl _) b4).alloc (by omega) _⟩
        · refine ⟨rfl, _, rfl, Nat.le_refl _, Var.set (g := false) (s := ⟨#[]⟩) ⟨?_, ?_, ?_, ?_⟩, ?_⟩
          · simp [go_sem, *]
          · simp [go_sem, *]
          · simp [go_sem, *]
          · simp [go_sem, *]
          · exact ((below_more ((Below.refl _ _).alloc (Nat.le_refl _) _).drew (Nat.le_refl _) b4).setCell (Nat.le_refl _) _).setCell (Nat.le_refl _) _
      case rest =>
        obtain ⟨rfl, p10, rfl, hp10, V10, b5⟩ := hcut
        have S5 := S3.keep b5
        have V5 := V6.keep b5
        have B5 := below_more B3 (Nat.le_refl _) b5
        have hpx : p5 + 1 + 1 < p10 := by omega
        have hc0 : (c != 0) = true := by
          rw [← Ec.out]
          have := H0.out
          unfold cmpZ
          split
          · rfl
          · split
            · rfl
            · omega
        obtain ⟨rr, Err⟩ : ∃ z, Hid ((if zb < 0 then -r else r) = z) := ⟨_, Lib.hid rfl⟩
        obtain ⟨zz, Ezz⟩ : ∃ z, Hid (((zb.natAbs : Nat) : Int) = z) := ⟨_, Lib.hid rfl⟩
        have Drr := Lib.hid (show rr.natAbs < 4294967296 ^ 15 by
          have h1 := Hsp.out
          have h2 := Db.out
          have h3 := H0.out
          have h4 : rr.natAbs < zb.natAbs := by
            rw [← Err.out]
            split <;> omega
          omega)
        have Dr := Lib.hid (show r.natAbs < 4294967296 ^ 15 by
          have h1 := Hsp.out
          have h2 := Db.out
          have h3 := H0.out
          have h4 : r.natAbs < zb.natAbs := by omega
          omega)
        have Dzz := Lib.hid (show zz.natAbs < 4294967296 ^ 15 by rw [← Ezz.out]; exact Db.out)
        clear S3 V6 B3 b5
        go_upto_if 55 with fail
        go_cut [9] (fun s9 wx => s9 = .int .i64 c ∧ ∃ g6 s6 g10 s10, Var wx (p5 + 1) g6 s6 ∧ Var wx p10 g10 s10 ∧ IsInt (.agg #[.bool g6, .string s6]) rr 15 ∧ IsInt (.agg #[.bool g10, .string s10]) zz 15 ∧ Cells [(w.heap.size, na, sa), (w.heap.size + 1, nb, sb), (p5, (sg q), (mg q)), (p5 + 1 + 1, false, ⟨#[]⟩)] wx ∧ Below w.heap.size w wx)
        case first =>
          obtain ⟨t1, t2, t3, t4, t5, t6, t7, t8⟩ := flat4 S5
          by_cases hz : zb < 0
          · have hcn : c < 0 := by rw [← Ec.out]; exact cmpZ_neg_iff.2 hz
            have d1 : decide (c < 0) = true := decide_eq_true hcn
            have En1 := Lib.hid (show -zb = zz by rw [← Ezz.out]; omega)
            have En2 := Lib.hid (show -r = rr by rw [← Err.out, if_pos hz])
            have Jr := Lib.hid (isInt_mg Dr.out (by omega))
            have Jrr := Lib.hid (isInt_mg Drr.out (by omega))
            have Jzz := Lib.hid (isInt_mg Dzz.out (by omega))
            obtain ⟨v1, v2, v3, v4⟩ := id V5
            obtain ⟨v5, v6, v7, v8⟩ := id V10
            clear hz
            have V5d : Var wc.drew (p5 + 1) (sg r) (mg r) := V5
            have V10d : Var wc.drew p10 nb sb := V10
            have S5d : Cells [(w.heap.size, na, sa), (w.heap.size + 1, nb, sb), (p5, (sg q), (mg q)), (p5 + 1 + 1, false, ⟨#[]⟩)] wc.drew := S5
            have B5d := B5.drew
            go_wp2_with fail
            go_region_with (first
              | (go_at_call 20; (first | (with_reducible refine (ineg_eq Ib.out En1.out).mono ?_) | (with_reducible refine (ineg_eq Jr.out En2.out).mono ?_)); rintro e X ⟨rfl, bX⟩; have V5d := Var.keep (p := p5 + 1) (g := sg r) (s := mg r) bX (by assumption); have V10d := Var.keep (p := p10) (g := nb) (s := sb) bX (by assumption); have S5d := Cells.keep bX (by assumption); have B5d := below_more B5d (Nat.le_refl _) bX; obtain ⟨v1, v2, v3, v4⟩ := id V5d; obtain ⟨v5, v6, v7, v8⟩ := id V10d; obtain ⟨t1, t2, t3, t4, t5, t6, t7, t8⟩ := flat4 S5d))
            all_goals go_wp2_with fail
            all_goals go_meet
            all_goals (have T5 := ((((S5d.set (a := ⟨p10, 0, none⟩) (by intro x hx; simp at hx; rcases hx with rfl | rfl | rfl | rfl <;> dsimp only <;> omega) (.bool (sg zz))).set (a := ⟨p10, 1, none⟩) (by intro x hx; simp at hx; rcases hx with rfl | rfl | rfl | rfl <;> dsimp only <;> omega) (.string (mg zz))).set (a := ⟨p5 + 1, 0, none⟩) (by intro x hx; simp at hx; rcases hx with rfl | rfl | rfl | rfl <;> dsimp only <;> omega) (.bool (sg rr))).set (a := ⟨p5 + 1, 1, none⟩) (by intro x hx; simp at hx; rcases hx with rfl | rfl | rfl | rfl <;> dsimp only <;> omega) (.string (mg rr))))
            all_goals exact ⟨rfl, sg rr, mg rr, sg zz, mg zz, (V5d.far2 (by dsimp only; omega) (by dsimp only; omega)).set, (V10d.set).far2 (by dsimp only; omega) (by dsimp only; omega), Jrr.out, Jzz.out, T5, (((B5d.setCell (by dsimp only; omega) _).setCell (by dsimp only; omega) _).setCell (by dsimp only; omega) _).setCell (by dsimp only; omega) _⟩
          · have hcn : ¬ c < 0 := by rw [← Ec.out]; exact fun h => hz (cmpZ_neg_iff.1 h)
            have d1 : decide (c < 0) = false := decide_eq_false hcn
            have e1 : r = rr := by rw [← Err.out, if_neg hz]
            have e2 : zb = zz := by rw [← Ezz.out]; omega
            have Jrr : Hid (IsInt (.agg #[.bool (sg r), .string (mg r)]) rr 15) := e1 ▸ isInt_mg Dr.out (by omega)
            have Jzz : Hid (IsInt (.agg #[.bool nb, .string sb]) zz 15) := e2 ▸ Ib.out
            clear hz e1 e2
            go_wp2_with fail
            go_meet
            exact ⟨rfl, _, _, _, _, V5, V10, Jrr.out, Jzz.out, S5, B5⟩
        case rest =>
          obtain ⟨rfl, g6, s6, g10, s10, V6, V11, I6, I10, S6, B6⟩ := hcut
          have I6 := Lib.hid I6
          have I10 := Lib.hid I10
          clear S5 V5 V10 B5
          obtain ⟨t1, t2, t3, t4, t5, t6, t7, t8⟩ := flat4 S6
          go_wp2_with fail
          refine (ediv_eq Ia.out Ib.out H0.out Eq.out Er.out).mono ?_
          rintro e W8 ⟨rfl, b8⟩
          have hbl := below2 W8 (.cells #[.bool (sg q), .string (mg q)] 23) (.cells #[.bool (sg r), .string (mg r)] 23)
          have S9 : Cells [(w.heap.size, na, sa), (w.heap.size + 1, nb, sb), (p5, (sg q), (mg q)), (p5 + 1, g6, s6), (p5 + 1 + 1, false, ⟨#[]⟩), (p10, g10, s10), (W8.heap.size + 1, (sg r), (mg r))] ((W8.alloc (.cells #[.bool (sg q), .string (mg q)] 23)).alloc (.cells #[.bool (sg r), .string (mg r)] 23)) := by
            obtain ⟨u1, u2, u3, u4, u5, u6, u7, u8⟩ := flat4 ((S6.keep b8).keep hbl)
            have w6 := (V6.keep b8).keep hbl
            have w10 := (V11.keep b8).keep hbl
            refine Cells.cons u1 u2 (Cells.cons u3 u4 (Cells.cons u5 u6 (Cells.cons w6.1 w6.2.1 (Cells.cons u7 u8 (Cells.cons w10.1 w10.2.1 (Cells.cons ?_ ?_ (Cells.nil _))))))) <;> simp [go_sem]
          have B9 := (below_more (below_more B6 (Nat.le_refl _) b8) (Nat.le_refl _) hbl).drew
          have S9d : Cells [(w.heap.size, na, sa), (w.heap.size + 1, nb, sb), (p5, (sg q), (mg q)), (p5 + 1, g6, s6), (p5 + 1 + 1, false, ⟨#[]⟩), (p10, g10, s10), (W8.heap.size + 1, (sg r), (mg r))] ((W8.alloc (.cells #[.bool (sg q), .string (mg q)] 23)).alloc (.cells #[.bool (sg r), .string (mg r)] 23)).drew := S9
          obtain ⟨c1, Ec1⟩ : ∃ z, Hid (cmpZ rr 0 = z) := ⟨_, Lib.hid rfl⟩
          have hc1 : 0 ≤ c1 := by
            rw [← Ec1.out]
            refine cmpZ_ge' ?_
            have h1 := Hsp.out
            have h3 := H0.out
            rw [← Err.out]
            split <;> omega
          have d2 : decide (0 ≤ c1) = true := decide_eq_true hc1
          have Ec2 := Lib.hid (show cmpZ rr zz = -1 from if_pos (by
            have h1 := Hsp.out
            have h3 := H0.out
            rw [← Err.out, ← Ezz.out]
            split <;> omega))
          obtain ⟨zm, Em⟩ : ∃ z, Hid (q * zb = z) := ⟨_, Lib.hid rfl⟩
          have Ea := Lib.hid (show zm + r = za by rw [← Em.out]; exact Hsp.out.1)
          have Ec3 := Lib.hid (cmpZ_self za)
          have Jr := Lib.hid (isInt_mg Dr.out (by omega))
          have Ja := Lib.hid (isInt_mg Da.out (by omega))
          have Dq := Lib.hid (qD_bd Da.out Eq.out)
          have Jq := Lib.hid (isInt_mg Dq.out (by omega))
          have Jm := Lib.hid (isInt_mg (db_mul Dq.out Db.out Em.out) (by omega))
          clear S6 V6 V11 B6 b8 hbl t1 t2 t3 t4 t5 t6 t7 t8
          go_upto_region 11 with fail
          generalize (W8.alloc (.cells #[.bool (sg q), .string (mg q)] 23)).alloc (.cells #[.bool (sg r), .string (mg r)] 23) = W9 at *
          generalize W8.heap.size + 1 = p12 at *
          go_region_held3 (fun W => W.cell? ⟨w.heap.size, 0, none⟩ = some (.bool na) ∧ W.cell? ⟨w.heap.size, 1, none⟩ = some (.string sa) ∧ W.cell? ⟨w.heap.size + 1, 0, none⟩ = some (.bool nb) ∧ W.cell? ⟨w.heap.size + 1, 1, none⟩ = some (.string sb) ∧ W.cell? ⟨p5, 0, none⟩ = some (.bool (sg q)) ∧ W.cell? ⟨p5, 1, none⟩ = some (.string (mg q)) ∧ W.cell? ⟨p5 + 1, 0, none⟩ = some (.bool g6) ∧ W.cell? ⟨p5 + 1, 1, none⟩ = some (.string s6) ∧ W.cell? ⟨p5 + 1 + 1, 0, none⟩ = some (.bool false) ∧ W.cell? ⟨p5 + 1 + 1, 1, none⟩ = some (.string ⟨#[]⟩) ∧ W.cell? ⟨p10, 0, none⟩ = some (.bool g10) ∧ W.cell? ⟨p10, 1, none⟩ = some (.string s10) ∧ W.cell? ⟨p12, 0, none⟩ = some (.bool (sg r)) ∧ W.cell? ⟨p12, 1, none⟩ = some (.string (mg r))) ((first | exact flat7 (Cells.keep (by assumption) (by assumption)) | exact flat7 (by assumption) | go_keep))
            (first
              | (go_at_call 22; (first | (with_reducible refine (icmp_eq I6.out zero_int Ec1.out).mono ?_) | (with_reducible refine (icmp_eq I6.out I10.out Ec2.out).mono ?_) | (with_reducible refine (icmp_eq Ja.out Ia.out Ec3.out).mono ?_)); rintro e X ⟨rfl, bX⟩; have SX := Cells.keep bX (by assumption); have B9 := below_more B9 (Nat.le_refl _) bX)
              | (go_at_call 18; (with_reducible refine (imul_eq Jq.out Ib.out Em.out).mono ?_); rintro e X ⟨rfl, bX⟩; have SX := Cells.keep bX (by assumption); have B9 := below_more B9 (Nat.le_refl _) bX)
              | (go_at_call 17; (with_reducible refine (iadd_eq Jm.out Jr.out Ea.out).mono ?_); rintro e X ⟨rfl, bX⟩; have SX := Cells.keep bX (by assumption); have B9 := below_more B9 (Nat.le_refl _) bX)
              | (go_at_call 12; refine (awake_any _ (tab_keep Htab.out B9)).mono ?_; rintro e X ⟨rfl, bX⟩; have SX := Cells.keep bX (by assumption); have B9 := below_more B9 (Nat.le_refl _) bX))
          all_goals
            go_wp2
            go_ret
            exact ⟨rfl, B9⟩
end Go.Proofs.YtdbfghppjhmelaaDoor
