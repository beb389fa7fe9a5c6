/- What IntegerRing returns: true. Condition: its own table, and what is in memory. -/
import Derived.Test.YtdbfghppjhmelaaDoorLaw
import Derived.Test.YtdbfghppjhmelaaDoorAwk
import Derived.Outline
namespace Go.Proofs.YtdbfghppjhmelaaDoor
open Go.RowKit
set_option linter.unusedSimpArgs false

/-- Three integers in their boxes. -/
def Six (na nb nc : Bool) (sa sb sc : ByteArray) (B : Nat) (W : World) : Prop := W.cell? ⟨B, 0, none⟩ = some (.bool na) ∧ W.cell? ⟨B, 1, none⟩ = some (.string sa) ∧ W.cell? ⟨B + 1, 0, none⟩ = some (.bool nb) ∧ W.cell? ⟨B + 1, 1, none⟩ = some (.string sb) ∧ W.cell? ⟨B + 1 + 1, 0, none⟩ = some (.bool nc) ∧ W.cell? ⟨B + 1 + 1, 1, none⟩ = some (.string sc)
theorem Six.keep {na nb nc : Bool} {sa sb sc : ByteArray} {B : Nat} {W W1 : World} (hb : Below W.heap.size W W1) (h : Six na nb nc sa sb sc B W) : Six na nb nc sa sb sc B W1 :=
  ⟨cell_keep h.1 hb, cell_keep h.2.1 hb, cell_keep h.2.2.1 hb, cell_keep h.2.2.2.1 hb, cell_keep h.2.2.2.2.1 hb, cell_keep h.2.2.2.2.2 hb⟩
theorem Six.alloc {na nb nc : Bool} {sa sb sc : ByteArray} {B : Nat} {W : World} (h : Six na nb nc sa sb sc B W) (o : Obj) : Six na nb nc sa sb sc B (W.alloc o) := h.keep ((Below.refl _ _).alloc (Nat.le_refl _) _)
theorem Six.drew {na nb nc : Bool} {sa sb sc : ByteArray} {B : Nat} {W : World} (h : Six na nb nc sa sb sc B W) : Six na nb nc sa sb sc B W.drew := h
theorem Six.set {na nb nc : Bool} {sa sb sc : ByteArray} {B : Nat} {W : World} {p : Addr} (h : Six na nb nc sa sb sc B W) (hp : B + 1 + 1 < p.block) (u : Value) : Six na nb nc sa sb sc B (W.setCell p u) := by
  refine ⟨?_, ?_, ?_, ?_, ?_, ?_⟩ <;> rw [World.cell?_setCell_far _ _ _ _ (by dsimp only; omega)]
  · exact h.1
  · exact h.2.1
  · exact h.2.2.1
  · exact h.2.2.2.1
  · exact h.2.2.2.2.1
  · exact h.2.2.2.2.2

/-- The five integers that the law has at hand. -/
def Ten (na nb nc : Bool) (sa sb sc : ByteArray) (zs zp : Int) (B p7 p8 : Nat) (W : World) : Prop := Six na nb nc sa sb sc B W ∧ TwoInts W p7 p8 zs zp
theorem Ten.keep {na nb nc : Bool} {sa sb sc : ByteArray} {zs zp : Int} {B p7 p8 : Nat} {W W1 : World} (hb : Below W.heap.size W W1) (h : Ten na nb nc sa sb sc zs zp B p7 p8 W) : Ten na nb nc sa sb sc zs zp B p7 p8 W1 :=
  ⟨h.1.keep hb, cell_keep h.2.1 hb, cell_keep h.2.2.1 hb, cell_keep h.2.2.2.1 hb, cell_keep h.2.2.2.2 hb⟩
theorem Ten.flat {na nb nc : Bool} {sa sb sc : ByteArray} {zs zp : Int} {B p7 p8 : Nat} {W : World} (h : Ten na nb nc sa sb sc zs zp B p7 p8 W) : W.cell? ⟨B, 0, none⟩ = some (.bool na) ∧ W.cell? ⟨B, 1, none⟩ = some (.string sa) ∧ W.cell? ⟨B + 1, 0, none⟩ = some (.bool nb) ∧ W.cell? ⟨B + 1, 1, none⟩ = some (.string sb) ∧ W.cell? ⟨B + 1 + 1, 0, none⟩ = some (.bool nc) ∧ W.cell? ⟨B + 1 + 1, 1, none⟩ = some (.string sc) ∧ W.cell? ⟨p7, 0, none⟩ = some (.bool (sg zs)) ∧ W.cell? ⟨p7, 1, none⟩ = some (.string (mg zs)) ∧ W.cell? ⟨p8, 0, none⟩ = some (.bool (sg zp)) ∧ W.cell? ⟨p8, 1, none⟩ = some (.string (mg zp)) := by
  obtain ⟨⟨t1, t2, t3, t4, t5, t6⟩, ⟨t7, t8, t9, t10⟩⟩ := h
  exact ⟨t1, t2, t3, t4, t5, t6, t7, t8, t9, t10⟩
/-- The integers that are checked. -/
def fv (zs zp zd zn za : Int) : Nat → Int := fun i => if i = 0 then zs else if i = 1 then zp else if i = 2 then zd else if i = 3 then zn else za
def Five (W : World) (q : Nat) (f : Nat → Int) : Prop := ∀ i, i < 5 → W.cell? ⟨q, i * 2, none⟩ = some (.bool (sg (f i))) ∧ W.cell? ⟨q, i * 2 + 1, none⟩ = some (.string (mg (f i)))

theorem below4 (w : World) (o1 o2 o3 o4 : Obj) : Below w.heap.size w ((((w.alloc o1).alloc o2).alloc o3).alloc o4) := (below3 w o1 o2 o3).alloc (by simp only [World.size_alloc]; omega) _

set_option maxRecDepth 100000 in
set_option maxHeartbeats 3200000 in
theorem ring_any (na nb nc : Bool) (sa sb sc : ByteArray) (w : World) (ha : sa.size ≤ 9223372036854775807) (hb : sb.size ≤ 9223372036854775807) (hc : sc.size ≤ 9223372036854775807) (htab : Lib.TabIs Tryd.prog w "internal/strconv.uint64pow10" .u64 Lib.pow10Tab) :
    Calls Tryd.prog 4 #[.agg #[.bool na, .string sa], .agg #[.bool nb, .string sb], .agg #[.bool nc, .string sc]] w fun e w' => e = .returned (.bool true) ∧ Below w.heap.size w w' := by
  have Htab := Lib.hid htab
  clear htab
  go_enter Tryd.func4, Tryd.ntmps4
  go_wp2_with fail
  refine (greats_any (w.heap.size + 1 + 1 + 1) 0 3 3 (threeB na nb nc) (three sa sb sc) _ ?_ (by omega) ?_).mono ?_
  · intro i hi
    have : i = 0 ∨ i = 1 ∨ i = 2 := by omega
    rcases this with rfl | rfl | rfl <;> simp [go_sem, three, threeB]
  · intro i hi
    unfold three
    split
    · exact ha
    · split
      · exact hb
      · exact hc
  rintro e W1 ⟨rfl, b1⟩
  rw [great3]
  by_cases hg : (decide (60 < sa.size) || (decide (60 < sb.size) || decide (60 < sc.size))) = true
  · rw [hg]
    have S1 : Six na nb nc sa sb sc w.heap.size W1 := Six.keep b1 (by refine ⟨?_, ?_, ?_, ?_, ?_, ?_⟩ <;> simp [go_sem])
    have B1 : Below w.heap.size w W1 := below_more (below4 w _ _ _ _) (Nat.le_refl _) b1
    clear b1
    go_wp2_with fail
    refine (awake_any _ (tab_keep Htab.out B1)).mono ?_
    rintro e W2 ⟨rfl, b2⟩
    go_wp2
    go_ret
    exact ⟨rfl, below_more B1 (Nat.le_refl _) b2⟩
  · rw [Bool.not_eq_true] at hg
    rw [hg]
    have h60 : sa.size ≤ 60 ∧ sb.size ≤ 60 ∧ sc.size ≤ 60 := by simpa using hg
    have Ia := Lib.hid (arg_int na sa h60.1)
    have Ib := Lib.hid (arg_int nb sb h60.2.1)
    have Ic := Lib.hid (arg_int nc sc h60.2.2)
    have Da := Lib.hid (bd_arg na sa h60.1)
    have Db := Lib.hid (bd_arg nb sb h60.2.1)
    have Dc := Lib.hid (bd_arg nc sc h60.2.2)
    clear h60 hg ha hb hc
    generalize zv na sa = za at *
    generalize zv nb sb = zb at *
    generalize zv nc sc = zc at *
    have E0 := Lib.hid (Int.add_zero za)
    obtain ⟨zs, Es⟩ : ∃ z, Hid (za + zb = z) := ⟨_, Lib.hid rfl⟩
    obtain ⟨zp, Ep⟩ : ∃ z, Hid (za * zb = z) := ⟨_, Lib.hid rfl⟩
    obtain ⟨zd, Ed⟩ : ∃ z, Hid (za - zb = z) := ⟨_, Lib.hid rfl⟩
    obtain ⟨zn, En⟩ : ∃ z, Hid (-za = z) := ⟨_, Lib.hid rfl⟩
    have S1 : Six na nb nc sa sb sc w.heap.size W1 := Six.keep b1 (by refine ⟨?_, ?_, ?_, ?_, ?_, ?_⟩ <;> simp [go_sem])
    have B1 : Below w.heap.size w W1 := below_more (below4 w _ _ _ _) (Nat.le_refl _) b1
    clear b1
    have x1 : w.heap.size + 1 + 1 < W1.heap.size := World.block_lt_of_cell? W1 ⟨w.heap.size + 1 + 1, 0, none⟩ S1.2.2.2.2.1
    go_upto_region 3 with fail
    go_cut [7, 8] (fun s7 s8 wx => ∃ p7 p8 : Nat, s7 = .pointer (some ⟨p7, 0, none⟩) ∧ s8 = .pointer (some ⟨p8, 0, none⟩) ∧ Six na nb nc sa sb sc w.heap.size wx ∧ TwoInts wx p7 p8 zs zp ∧ Below w.heap.size w wx)
    case first =>
      have S0 : Six na nb nc sa sb sc w.heap.size W1.drew := S1
      go_region_held3 (fun W => W.cell? ⟨w.heap.size, 0, none⟩ = some (.bool na) ∧ W.cell? ⟨w.heap.size, 1, none⟩ = some (.string sa) ∧ W.cell? ⟨w.heap.size + 1, 0, none⟩ = some (.bool nb) ∧ W.cell? ⟨w.heap.size + 1, 1, none⟩ = some (.string sb) ∧ W.cell? ⟨w.heap.size + 1 + 1, 0, none⟩ = some (.bool nc) ∧ W.cell? ⟨w.heap.size + 1 + 1, 1, none⟩ = some (.string sc)) ((show Six na nb nc sa sb sc w.heap.size _; repeat (first | with_reducible exact S3 | with_reducible exact S2 | with_reducible exact S0 | with_reducible exact S1 | with_reducible refine Six.drew ?_ | with_reducible refine Six.alloc ?_ _ | ((with_reducible refine Six.set ?_ ?_ _); rotate_left; (dsimp only; omega)))))
        (first
          | (go_at_call 17; refine (iadd_eq Ia.out Ib.out Es.out).mono ?_; rintro e W2 ⟨rfl, b2⟩; have S2 : Six na nb nc sa sb sc w.heap.size W2 := Six.keep b2 (by (repeat (first | with_reducible exact S3 | with_reducible exact S2 | with_reducible exact S0 | with_reducible exact S1 | with_reducible refine Six.drew ?_ | with_reducible refine Six.alloc ?_ _))); obtain ⟨c2, f2⟩ := bcell b2; have u4 : w.heap.size + 1 + 1 < W2.heap.size := World.block_lt_of_cell? W2 ⟨w.heap.size + 1 + 1, 0, none⟩ S2.2.2.2.2.1; have y2 := b2.size; (try simp only [World.size_alloc, World.size_drew] at y2); (try have v2a : W1.heap.size < W2.heap.size := (by omega)); (try have v2b : W1.heap.size + 1 < W2.heap.size := (by omega)); (try have v2c : W3.heap.size < W2.heap.size := (by omega)); (try have v2d : W3.heap.size + 1 < W2.heap.size := (by omega)))
          | (go_at_call 18; refine (imul_eq Ia.out Ib.out Ep.out).mono ?_; rintro e W3 ⟨rfl, b3⟩; have S3 : Six na nb nc sa sb sc w.heap.size W3 := Six.keep b3 (by (repeat (first | with_reducible exact S2 | with_reducible exact S0 | with_reducible exact S1 | with_reducible refine Six.drew ?_ | with_reducible refine Six.alloc ?_ _))); obtain ⟨c3, f3⟩ := bcell b3; have u5 : w.heap.size + 1 + 1 < W3.heap.size := World.block_lt_of_cell? W3 ⟨w.heap.size + 1 + 1, 0, none⟩ S3.2.2.2.2.1; have y3 := b3.size; (try simp only [World.size_alloc, World.size_drew] at y3); (try have v3a : W1.heap.size < W3.heap.size := (by omega)); (try have v3b : W1.heap.size + 1 < W3.heap.size := (by omega)); (try have v3c : W2.heap.size < W3.heap.size := (by omega)); (try have v3d : W2.heap.size + 1 < W3.heap.size := (by omega))))
      all_goals go_wp2_with fail
      all_goals go_meet
      all_goals refine ⟨_, _, rfl, rfl, ?_, ?_, ?_⟩
      all_goals try (repeat (first | with_reducible exact S3 | with_reducible exact S2 | with_reducible exact S0 | with_reducible exact S1 | with_reducible refine Six.drew ?_ | with_reducible refine Six.alloc ?_ _ | ((with_reducible refine Six.set ?_ ?_ _); rotate_left; (dsimp only; omega))))
      all_goals try (repeat (first | with_reducible exact B1 | with_reducible refine Below.drew ?_ | with_reducible refine below_more ?_ (Nat.le_refl _) b3 | with_reducible refine below_more ?_ (Nat.le_refl _) b2 | ((with_reducible refine Below.alloc ?_ ?_ _); rotate_left; ((try simp only [World.size_alloc, World.size_setCell, World.size_drew]); omega)) | ((with_reducible refine Below.setCell ?_ ?_ _); rotate_left; (dsimp only; omega))))
      all_goals try (unfold TwoInts; refine ⟨?_, ?_, ?_, ?_⟩ <;> simp [go_sem, *] <;> done)
      all_goals (refine two_set (by omega) (u1 := .bool false) (u2 := .string ⟨#[]⟩) (u3 := .bool false) (u4 := .string ⟨#[]⟩) ?_ ?_ ?_ ?_)
      all_goals (simp [go_sem, *])
    case rest =>
      obtain ⟨p7, p8, rfl, rfl, S2, I7, B2⟩ := hcut
      have T0 : Ten na nb nc sa sb sc zs zp w.heap.size p7 p8 wc := ⟨S2, I7⟩
      clear S1 B1 x1 W1 S2 I7
      go_wp2_with fail
      go_cut [33, 34, 35] (fun s33 s34 s35 wx => ∃ q : Nat, s33 = .slice (some ⟨q, 0, none⟩) 5 5 ∧ s34 = .int .i64 5 ∧ s35 = .int .i64 0 ∧ Ten na nb nc sa sb sc zs zp w.heap.size p7 p8 wx ∧ Five wx q (fv zs zp zd zn za) ∧ Below w.heap.size w wx)
      case first =>
        have T1 : Ten na nb nc sa sb sc zs zp w.heap.size p7 p8 wc.drew := T0
        obtain ⟨⟨t1, t2, t3, t4, t5, t6⟩, ⟨t7, t8, t9, t10⟩⟩ := T0
        go_region_held3 (fun W => W.cell? ⟨w.heap.size, 0, none⟩ = some (.bool na) ∧ W.cell? ⟨w.heap.size, 1, none⟩ = some (.string sa) ∧ W.cell? ⟨w.heap.size + 1, 0, none⟩ = some (.bool nb) ∧ W.cell? ⟨w.heap.size + 1, 1, none⟩ = some (.string sb) ∧ W.cell? ⟨w.heap.size + 1 + 1, 0, none⟩ = some (.bool nc) ∧ W.cell? ⟨w.heap.size + 1 + 1, 1, none⟩ = some (.string sc) ∧ W.cell? ⟨p7, 0, none⟩ = some (.bool (sg zs)) ∧ W.cell? ⟨p7, 1, none⟩ = some (.string (mg zs)) ∧ W.cell? ⟨p8, 0, none⟩ = some (.bool (sg zp)) ∧ W.cell? ⟨p8, 1, none⟩ = some (.string (mg zp))) ((first | exact Ten.flat (Ten.keep (by assumption) T1) | exact Ten.flat T1 | exact Ten.flat (Ten.keep (by assumption) (by assumption)) | exact Ten.flat (by assumption) | go_keep))
          (first
            | (go_at_call 19; refine (isub_eq Ia.out Ib.out Ed.out).mono ?_; rintro e W2 ⟨rfl, b2⟩; have T2 := Ten.keep b2 (by assumption))
            | (go_at_call 20; refine (ineg_eq Ia.out En.out).mono ?_; rintro e W3 ⟨rfl, b3⟩; have T3 := Ten.keep b3 (by assumption))
            | (go_at_call 17; refine (iadd_eq Ia.out zero_int E0.out).mono ?_; rintro e W4 ⟨rfl, b4⟩; have T4 := Ten.keep b4 (by assumption)))
        all_goals go_wp2_with fail
        all_goals go_meet
        all_goals refine ⟨_, rfl, rfl, rfl, ?_, ?_, ?_⟩
        · exact Ten.keep ((Below.refl _ _).alloc (Nat.le_refl _) _) T4
        · intro i hi
          have : i = 0 ∨ i = 1 ∨ i = 2 ∨ i = 3 ∨ i = 4 := by omega
          rcases this with rfl | rfl | rfl | rfl | rfl <;> simp [go_sem, fv]
        · exact below_more (below_more (below_more (below_more B2.drew (Nat.le_refl _) b2) (Nat.le_refl _) b3) (Nat.le_refl _) b4) (Nat.le_refl _) ((Below.refl _ _).alloc (Nat.le_refl _) _)
      case rest =>
        obtain ⟨q, rfl, rfl, rfl, T5, F5, B5⟩ := hcut
        clear T0 B2
        have F := Lib.hid F5
        clear F5
        go_wp2_with fail
        go_loopg [35] 5 (fun g s35 wx => g ≤ 5 ∧ s35 = .int .i64 ((5 - g : Nat) : Int) ∧ Below wc.heap.size wc wx)
        case atStart => exact ⟨Nat.le_refl _, rfl, Below.refl _ _⟩
        case round =>
          obtain ⟨hg, rfl, hb⟩ := hrel
          rcases gk with _ | g
          · clear F
            obtain ⟨zt, Et⟩ : ∃ z, Hid (zs + zc = z) := ⟨_, Lib.hid rfl⟩
            obtain ⟨zu, Eu⟩ : ∃ z, Hid (zb + zc = z) := ⟨_, Lib.hid rfl⟩
            obtain ⟨zq, Eq⟩ : ∃ z, Hid (zp * zc = z) := ⟨_, Lib.hid rfl⟩
            obtain ⟨zm, Em⟩ : ∃ z, Hid (zb * zc = z) := ⟨_, Lib.hid rfl⟩
            obtain ⟨zl, El⟩ : ∃ z, Hid (za * zu = z) := ⟨_, Lib.hid rfl⟩
            obtain ⟨zr, Er⟩ : ∃ z, Hid (za * zc = z) := ⟨_, Lib.hid rfl⟩
            obtain ⟨zo, Eo⟩ : ∃ z, Hid (-zs = z) := ⟨_, Lib.hid rfl⟩
            have e1 := Lib.hid (show zb + za = zs by rw [← Es.out, Int.add_comm])
            have e2 := Lib.hid (show zb * za = zp by rw [← Ep.out, Int.mul_comm])
            have e3 := Lib.hid (show za + zu = zt by rw [← Et.out, ← Es.out, ← Eu.out, Int.add_assoc])
            have e4 := Lib.hid (show za * zm = zq by rw [← Eq.out, ← Ep.out, ← Em.out, Int.mul_assoc])
            have e5 := Lib.hid (show zp + zr = zl by rw [← El.out, ← Ep.out, ← Er.out, ← Eu.out, Int.mul_add])
            have e6 := Lib.hid (show zs - zb = za by rw [← Es.out]; omega)
            have e7 := Lib.hid (show zs + zo = 0 by rw [← Eo.out]; omega)
            have Js := Lib.hid (isInt_mg (db_add Da.out Db.out Es.out) (by omega))
            have Jp := Lib.hid (isInt_mg (db_mul Da.out Db.out Ep.out) (by omega))
            have Ju := Lib.hid (isInt_mg (db_add Db.out Dc.out Eu.out) (by omega))
            have Jm := Lib.hid (isInt_mg (db_mul Db.out Dc.out Em.out) (by omega))
            have Jr := Lib.hid (isInt_mg (db_mul Da.out Dc.out Er.out) (by omega))
            have Jo := Lib.hid (isInt_mg (db_neg (db_add Da.out Db.out Es.out) Eo.out) (by omega))
            have Ja := Lib.hid (isInt_mg Da.out (by omega))
            have Ec := Lib.hid (cmpZ_self za)
            have B6 : Below w.heap.size w wr := below_more B5 (Nat.le_refl _) hb
            have T6 : Ten na nb nc sa sb sc zs zp w.heap.size p7 p8 wr.drew := Ten.keep hb.drew T5
            obtain ⟨⟨t1, t2, t3, t4, t5, t6⟩, ⟨t7, t8, t9, t10⟩⟩ := T6
            have T6 : Ten na nb nc sa sb sc zs zp w.heap.size p7 p8 wr.drew := Ten.keep hb.drew T5
            clear hb T5 B5
            have z0 := sg_zero
            have z1 := mg_zero
            go_upto_region 10 with fail
            dsimp only [List.append]
            have B6 := B6.drew
            go_region_held3 (fun W => W.cell? ⟨w.heap.size, 0, none⟩ = some (.bool na) ∧ W.cell? ⟨w.heap.size, 1, none⟩ = some (.string sa) ∧ W.cell? ⟨w.heap.size + 1, 0, none⟩ = some (.bool nb) ∧ W.cell? ⟨w.heap.size + 1, 1, none⟩ = some (.string sb) ∧ W.cell? ⟨w.heap.size + 1 + 1, 0, none⟩ = some (.bool nc) ∧ W.cell? ⟨w.heap.size + 1 + 1, 1, none⟩ = some (.string sc) ∧ W.cell? ⟨p7, 0, none⟩ = some (.bool (sg zs)) ∧ W.cell? ⟨p7, 1, none⟩ = some (.string (mg zs)) ∧ W.cell? ⟨p8, 0, none⟩ = some (.bool (sg zp)) ∧ W.cell? ⟨p8, 1, none⟩ = some (.string (mg zp))) ((first | exact Ten.flat (Ten.keep (by assumption) (by assumption)) | exact Ten.flat (by assumption) | go_keep))
              (first
                | (go_at_call 17; (first | (with_reducible refine (iadd_eq Ib.out Ia.out e1.out).mono ?_) | (with_reducible refine (iadd_eq Js.out Ic.out Et.out).mono ?_) | (with_reducible refine (iadd_eq Ib.out Ic.out Eu.out).mono ?_) | (with_reducible refine (iadd_eq Ia.out Ju.out e3.out).mono ?_) | (with_reducible refine (iadd_eq Jp.out Jr.out e5.out).mono ?_)  ); rintro e X ⟨rfl, bX⟩; have TX := Ten.keep bX (by assumption); have B6 := below_more B6 (Nat.le_refl _) bX)
                | (go_at_call 17; (with_reducible refine (iadd_eq Js.out Jo.out e7.out).mono ?_); rintro e X ⟨rfl, bX⟩; rw [sg_zero, mg_zero]; have TX := Ten.keep bX (by assumption); have B6 := below_more B6 (Nat.le_refl _) bX)
                | (go_at_call 18; (first | (with_reducible refine (imul_eq Ib.out Ia.out e2.out).mono ?_) | (with_reducible refine (imul_eq Jp.out Ic.out Eq.out).mono ?_) | (with_reducible refine (imul_eq Ib.out Ic.out Em.out).mono ?_) | (with_reducible refine (imul_eq Ia.out Jm.out e4.out).mono ?_) | (with_reducible refine (imul_eq Ia.out Ju.out El.out).mono ?_) | (with_reducible refine (imul_eq Ia.out Ic.out Er.out).mono ?_)); rintro e X ⟨rfl, bX⟩; have TX := Ten.keep bX (by assumption); have B6 := below_more B6 (Nat.le_refl _) bX)
                | (go_at_call 19; (with_reducible refine (isub_eq Js.out Ib.out e6.out).mono ?_); rintro e X ⟨rfl, bX⟩; have TX := Ten.keep bX (by assumption); have B6 := below_more B6 (Nat.le_refl _) bX)
                | (go_at_call 20; (with_reducible refine (ineg_eq Js.out Eo.out).mono ?_); rintro e X ⟨rfl, bX⟩; have TX := Ten.keep bX (by assumption); have B6 := below_more B6 (Nat.le_refl _) bX)
                | (go_at_call 22; (with_reducible refine (icmp_eq Ja.out Ia.out Ec.out).mono ?_); rintro e X ⟨rfl, bX⟩; have TX := Ten.keep bX (by assumption); have B6 := below_more B6 (Nat.le_refl _) bX)
                | (go_at_call 12; refine (awake_any _ (tab_keep Htab.out B6)).mono ?_; rintro e X ⟨rfl, bX⟩; have TX := Ten.keep bX (by assumption); have B6 := below_more B6 (Nat.le_refl _) bX))
            all_goals
              go_wp2
              go_ret
              exact ⟨rfl, B6⟩
          · obtain ⟨i, hi⟩ : ∃ i, i = 5 - (g + 1) := ⟨_, rfl⟩
            rw [← hi]
            have hin : i < 5 := by omega
            have HI : Hid (i + 1 = 5 - g ∧ g + 1 ≤ 5) := by show _ ∧ _; omega
            obtain ⟨h1, h2⟩ := F.out i hin
            generalize fv zs zp zd zn za i = zi at *
            have x1 : wr.cell? ⟨q, i * 2, none⟩ = some (.bool (sg zi)) := (hb.cell (World.block_lt_of_cell? _ _ h1)).trans h1
            have x2 : wr.cell? ⟨q, i * 2 + 1, none⟩ = some (.string (mg zi)) := (hb.cell (World.block_lt_of_cell? _ _ h2)).trans h2
            clear hi h1 h2 hg
            have hb1 := below1 wr (.cells #[.bool (sg zi), .string (mg zi)] 23)
            go_wp2_with fail
            refine (check_int (sg zi) (mg zi) _).mono ?_
            rintro e W1 ⟨rfl, b1⟩
            rw [check_canon]
            have hb2 := hb.trans (below_more hb1 (Nat.le_refl _) b1 |>.mono hb.size)
            clear hb hb1 b1 x1 x2
            go_wp2
            go_roundg g
            case measure => omega
            case rel => exact ⟨by have := HI.out.2; omega, by rw [← HI.out.1]; rfl, hb2⟩
end Go.Proofs.YtdbfghppjhmelaaDoor
