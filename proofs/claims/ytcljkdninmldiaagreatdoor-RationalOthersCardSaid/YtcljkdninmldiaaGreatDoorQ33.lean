/- What rational.Compare returns: -1, 0 or 1, by the values. Condition: the integers have at most 4*10^6 digits to the base 2^32. -/
import Derived.Test.YtcljkdninmldiaaGreatDoorQ31

namespace Go.Proofs.YtcljkdninmldiaaGreatDoor
open Go.RowKit
set_option linter.unusedSimpArgs false

theorem RIn.alloc {W : World} {p : Nat} {g1 g2 : Bool} {s1 s2 : ByteArray} (h : RIn W p g1 s1 g2 s2) (o : Obj) : RIn (W.alloc o) p g1 s1 g2 s2 := h.keep ((Below.refl _ _).alloc (Nat.le_refl _) _)
/-- Four cells that are there. -/
def Four (W : World) (q : Nat) : Prop := ∃ u1 u2 u3 u4, W.cell? ⟨q, 0, none⟩ = some u1 ∧ W.cell? ⟨q, 1, none⟩ = some u2 ∧ W.cell? ⟨q, 2, none⟩ = some u3 ∧ W.cell? ⟨q, 3, none⟩ = some u4
theorem Four.set {W : World} {q : Nat} (h : Four W q) (a : Addr) (ha : q ≠ a.block) (u : Value) : Four (W.setCell a u) q := by
  obtain ⟨u1, u2, u3, u4, h1, h2, h3, h4⟩ := h
  refine ⟨u1, u2, u3, u4, ?_, ?_, ?_, ?_⟩ <;> rw [World.cell?_setCell_far _ _ _ _ (by dsimp only; exact fun e => ha e.symm)] <;> assumption
theorem Four.keep {W W1 : World} {q : Nat} (h : Four W q) (hb : Below W.heap.size W W1) : Four W1 q := by
  obtain ⟨u1, u2, u3, u4, h1, h2, h3, h4⟩ := h
  exact ⟨u1, u2, u3, u4, cell_keep h1 hb, cell_keep h2 hb, cell_keep h3 hb, cell_keep h4 hb⟩
theorem Four.alloc {W : World} {q : Nat} (h : Four W q) (o : Obj) : Four (W.alloc o) q := h.keep ((Below.refl _ _).alloc (Nat.le_refl _) _)
theorem Four.drew {W : World} {q : Nat} (h : Four W q) : Four W.drew q := h
theorem Four.new {W : World} {q : Nat} {u1 u2 u3 u4 : Value} {t : TypeId} (h : q = W.heap.size) : Four (W.alloc (.cells #[u1, u2, u3, u4] t)) q := by
  subst h
  refine ⟨u1, u2, u3, u4, ?_, ?_, ?_, ?_⟩ <;> simp [go_sem]
theorem RIn.new {W : World} {q : Nat} {g1 g2 : Bool} {s1 s2 : ByteArray} {t : TypeId} (h : q = W.heap.size) : RIn (W.alloc (.cells #[.bool g1, .string s1, .bool g2, .string s2] t)) q g1 s1 g2 s2 := by
  subst h
  refine ⟨?_, ?_, ?_, ?_⟩ <;> simp [go_sem]
theorem RIn.made {W : World} {p : Nat} (h : Four W p) (g1 g2 : Bool) (s1 s2 : ByteArray) :
    RIn ((((W.setCell ⟨p, 0, none⟩ (.bool g1)).setCell ⟨p, 1, none⟩ (.string s1)).setCell ⟨p, 2, none⟩ (.bool g2)).setCell ⟨p, 3, none⟩ (.string s2)) p g1 s1 g2 s2 := by
  obtain ⟨u1, u2, u3, u4, h1, h2, h3, h4⟩ := h
  have n : ∀ i j : Nat, i ≠ j → (⟨p, i, none⟩ : Addr) ≠ ⟨p, j, none⟩ := fun i j hij e => hij (by injection e)
  exact ⟨set_other (set_other (set_other (set_same h1) (n 1 0 (by omega))) (n 2 0 (by omega))) (n 3 0 (by omega)),
    set_other (set_other (set_same (set_other h2 (n 0 1 (by omega)))) (n 2 1 (by omega))) (n 3 1 (by omega)),
    set_other (set_same (set_other (set_other h3 (n 0 2 (by omega))) (n 1 2 (by omega)))) (n 3 2 (by omega)),
    set_same (set_other (set_other (set_other h4 (n 0 3 (by omega))) (n 1 3 (by omega))) (n 2 3 (by omega)))⟩
theorem below_al {w w1 : World} (h : Below w.heap.size w w1) (o : Obj) : Below w.heap.size w (w1.alloc o) := h.alloc h.size _
theorem below_st {w w1 : World} (h : Below w.heap.size w w1) (b i : Nat) (hb : w.heap.size ≤ b) (u : Value) : Below w.heap.size w (w1.setCell ⟨b, i, none⟩ u) := h.setCell hb _
/-- Two rational numbers in boxes. -/
def RIn2 (W : World) (p q : Nat) (g1 : Bool) (s1 : ByteArray) (g2 : Bool) (s2 : ByteArray) (g3 : Bool) (s3 : ByteArray) (g4 : Bool) (s4 : ByteArray) : Prop :=
  W.cell? ⟨p, 0, none⟩ = some (.bool g1) ∧ W.cell? ⟨p, 1, none⟩ = some (.string s1) ∧ W.cell? ⟨p, 2, none⟩ = some (.bool g2) ∧ W.cell? ⟨p, 3, none⟩ = some (.string s2) ∧
  W.cell? ⟨q, 0, none⟩ = some (.bool g3) ∧ W.cell? ⟨q, 1, none⟩ = some (.string s3) ∧ W.cell? ⟨q, 2, none⟩ = some (.bool g4) ∧ W.cell? ⟨q, 3, none⟩ = some (.string s4)
theorem RIn2.mk {W : World} {p q : Nat} {g1 g2 g3 g4 : Bool} {s1 s2 s3 s4 : ByteArray} (h : RIn W p g1 s1 g2 s2) (k : RIn W q g3 s3 g4 s4) : RIn2 W p q g1 s1 g2 s2 g3 s3 g4 s4 := ⟨h.1, h.2.1, h.2.2.1, h.2.2.2, k⟩
theorem RIn2.fst {W : World} {p q : Nat} {g1 g2 g3 g4 : Bool} {s1 s2 s3 s4 : ByteArray} (h : RIn2 W p q g1 s1 g2 s2 g3 s3 g4 s4) : RIn W p g1 s1 g2 s2 := ⟨h.1, h.2.1, h.2.2.1, h.2.2.2.1⟩
theorem RIn2.snd {W : World} {p q : Nat} {g1 g2 g3 g4 : Bool} {s1 s2 s3 s4 : ByteArray} (h : RIn2 W p q g1 s1 g2 s2 g3 s3 g4 s4) : RIn W q g3 s3 g4 s4 := h.2.2.2.2
theorem RIn2.keep {W W1 : World} {p q : Nat} {g1 g2 g3 g4 : Bool} {s1 s2 s3 s4 : ByteArray} (h : RIn2 W p q g1 s1 g2 s2 g3 s3 g4 s4) (hb : Below W.heap.size W W1) : RIn2 W1 p q g1 s1 g2 s2 g3 s3 g4 s4 := .mk (h.fst.keep hb) (h.snd.keep hb)
theorem RIn2.alloc {W : World} {p q : Nat} {g1 g2 g3 g4 : Bool} {s1 s2 s3 s4 : ByteArray} (h : RIn2 W p q g1 s1 g2 s2 g3 s3 g4 s4) (o : Obj) : RIn2 (W.alloc o) p q g1 s1 g2 s2 g3 s3 g4 s4 := h.keep ((Below.refl _ _).alloc (Nat.le_refl _) _)
theorem RIn2.drew {W : World} {p q : Nat} {g1 g2 g3 g4 : Bool} {s1 s2 s3 s4 : ByteArray} (h : RIn2 W p q g1 s1 g2 s2 g3 s3 g4 s4) : RIn2 W.drew p q g1 s1 g2 s2 g3 s3 g4 s4 := h
theorem RIn2.set {W : World} {p q : Nat} {g1 g2 g3 g4 : Bool} {s1 s2 s3 s4 : ByteArray} (h : RIn2 W p q g1 s1 g2 s2 g3 s3 g4 s4) (a : Addr) (u : Value) (h1 : p ≠ a.block) (h2 : q ≠ a.block) : RIn2 (W.setCell a u) p q g1 s1 g2 s2 g3 s3 g4 s4 := .mk (h.fst.set a h1 u) (h.snd.set a h2 u)

set_option maxRecDepth 100000 in
set_option maxHeartbeats 6400000 in
theorem rcmp_any (v1 v2 : Value) (p q : Rat) (k : Nat) (w : World) (h1 : IsRat v1 p k) (h2 : IsRat v2 q k) (hk : k ≤ 4000000) :
    Calls Tryz.prog 23 #[v1, v2] w fun e w' => e = .returned (.int .i64 (cmpQ p q)) ∧ Below w.heap.size w w' := by
  have H1 := Lib.hid h1
  have H2 := Lib.hid h2
  obtain ⟨na, sa, nb, sb, -, -, rfl, -⟩ := h1
  obtain ⟨nc, sc, nd, sd, -, -, rfl, -⟩ := h2
  go_enter Tryz.func23, Tryz.ntmps23
  go_upto_region 1 with fail
  go_cut [5, 6] (fun s5 s6 wx => ∃ p5 p6 g1 t1 g2 t2 g3 t3 g4 t4, s5 = .pointer (some ⟨p5, 0, none⟩) ∧ s6 = .pointer (some ⟨p6, 0, none⟩) ∧ RIn2 wx p5 p6 g1 t1 g2 t2 g3 t3 g4 t4 ∧ IsUp (.agg #[.bool g1, .string t1, .bool g2, .string t2]) p (max k 1) ∧ IsUp (.agg #[.bool g3, .string t3, .bool g4, .string t4]) q (max k 1) ∧ Below w.heap.size w wx)
  case first =>
    have hb := below2 w (.cells #[.bool na, .string sa, .bool nb, .string sb] 25) (.cells #[.bool nc, .string sc, .bool nd, .string sd] 25)
    have S00 : RIn2 ((w.alloc (.cells #[.bool na, .string sa, .bool nb, .string sb] 25)).alloc (.cells #[.bool nc, .string sc, .bool nd, .string sd] 25)) w.heap.size (w.heap.size + 1) na sa nb sb nc sc nd sd := by
      refine ⟨?_, ?_, ?_, ?_, ?_, ?_, ?_, ?_⟩ <;> simp [go_sem]
    have hs0 : ((w.alloc (.cells #[.bool na, .string sa, .bool nb, .string sb] 25)).alloc (.cells #[.bool nc, .string sc, .bool nd, .string sd] 25)).heap.size = w.heap.size + 1 + 1 := by simp only [World.size_alloc]
    generalize ((w.alloc (.cells #[.bool na, .string sa, .bool nb, .string sb] 25)).alloc (.cells #[.bool nc, .string sc, .bool nd, .string sd] 25)) = W0 at *
    have hbd := hb.drew
    have S0 : RIn2 W0.drew w.heap.size (w.heap.size + 1) na sa nb sb nc sc nd sd := S00
    go_region_held3 (fun W => W.cell? ⟨w.heap.size, 0, none⟩ = some (.bool na) ∧ W.cell? ⟨w.heap.size, 1, none⟩ = some (.string sa) ∧ W.cell? ⟨w.heap.size, 2, none⟩ = some (.bool nb) ∧ W.cell? ⟨w.heap.size, 3, none⟩ = some (.string sb) ∧ W.cell? ⟨w.heap.size + 1, 0, none⟩ = some (.bool nc) ∧ W.cell? ⟨w.heap.size + 1, 1, none⟩ = some (.string sc) ∧ W.cell? ⟨w.heap.size + 1, 2, none⟩ = some (.bool nd) ∧ W.cell? ⟨w.heap.size + 1, 3, none⟩ = some (.string sd)) ((show RIn2 _ w.heap.size (w.heap.size + 1) na sa nb sb nc sc nd sd; repeat (first | with_reducible exact S2 | with_reducible exact S1 | with_reducible exact S0 | with_reducible exact S00 | with_reducible refine RIn2.drew ?_ | with_reducible refine RIn2.alloc ?_ _ | ((with_reducible refine RIn2.set ?_ _ _ ?_ ?_); rotate_left; (dsimp only; omega); (dsimp only; omega)))))
      (first
        | (go_at_call_of 24 (Value.agg #[Value.bool na, Value.string sa, Value.bool nb, Value.string sb]); refine (upright_any _ p k _ H1.out).mono ?_; rintro e W1 ⟨_, rfl, hup, b1⟩; have HU1 := Lib.hid hup; obtain ⟨g1, t1, g2, t2, -, -, rfl, -⟩ := hup; have S1 : RIn2 W1 w.heap.size (w.heap.size + 1) na sa nb sb nc sc nd sd := RIn2.keep (by (repeat (first | with_reducible exact S2 | with_reducible exact S0 | with_reducible exact S00 | with_reducible refine RIn2.drew ?_ | with_reducible refine RIn2.alloc ?_ _))) b1; obtain ⟨c1, f1⟩ := bcell b1; have y1 := b1.size; (try simp only [World.size_alloc, World.size_drew] at y1); (have u1 : w.heap.size + 1 < W1.heap.size := (by omega)); (try have u2 : w.heap.size + 1 + 1 < W1.heap.size := (by omega)); (try have u3 : w.heap.size + 1 + 1 + 1 < W1.heap.size := (by omega)))
        | (go_at_call_of 24 (Value.agg #[Value.bool nc, Value.string sc, Value.bool nd, Value.string sd]); refine (upright_any _ q k _ H2.out).mono ?_; rintro e W2 ⟨_, rfl, hup, b2⟩; have HU2 := Lib.hid hup; obtain ⟨g3, t3, g4, t4, -, -, rfl, -⟩ := hup; have S2 : RIn2 W2 w.heap.size (w.heap.size + 1) na sa nb sb nc sc nd sd := RIn2.keep (by (repeat (first | with_reducible exact S1 | with_reducible exact S0 | with_reducible exact S00 | with_reducible refine RIn2.drew ?_ | with_reducible refine RIn2.alloc ?_ _))) b2; obtain ⟨c2, f2⟩ := bcell b2; have y2 := b2.size; (try simp only [World.size_alloc, World.size_drew] at y2); (have u4 : w.heap.size + 1 < W2.heap.size := (by omega)); (try have u5 : w.heap.size + 1 + 1 < W2.heap.size := (by omega)); (try have u6 : w.heap.size + 1 + 1 + 1 < W2.heap.size := (by omega)); (try have u7 : W1.heap.size < W2.heap.size := (by omega)); (try have u8 : W1.heap.size + 1 < W2.heap.size := (by omega))))
    all_goals go_wp2_with fail
    all_goals go_meet
    all_goals have z1 : w.heap.size ≤ W1.heap.size := by omega
    all_goals have z2 : w.heap.size ≤ W2.heap.size := by omega
    all_goals have z3 : w.heap.size ≤ w.heap.size + 1 + 1 := by omega
    all_goals have z4 : w.heap.size ≤ w.heap.size + 1 + 1 + 1 := by omega
    all_goals have z5 := Nat.le_succ_of_le z1
    all_goals have z6 := Nat.le_succ_of_le z2
    all_goals refine ⟨_, _, g1, t1, g2, t2, g3, t3, g4, t4, rfl, rfl, ?_, HU1.out, HU2.out, ?_⟩
    all_goals clear HU1 HU2 H1 H2
    all_goals (first | (with_reducible refine RIn2.mk ?_ ?_) | skip)
    all_goals (repeat (first
      | (with_reducible refine RIn.new ?_; (first | rfl | (simp only [World.size_alloc, World.size_setCell, World.size_drew]; done) | (simp only [World.size_alloc, World.size_setCell, World.size_drew]; omega) | omega))
      | with_reducible refine RIn.made ?_ _ _ _ _
      | ((with_reducible refine RIn.set ?_ _ ?_ _); rotate_left; (dsimp only; omega))
      | with_reducible refine RIn.alloc ?_ _
      | (with_reducible refine Four.new ?_; (first | rfl | (simp only [World.size_alloc, World.size_setCell, World.size_drew]; done) | (simp only [World.size_alloc, World.size_setCell, World.size_drew]; omega) | omega))
      | ((with_reducible refine Four.set ?_ _ ?_ _); rotate_left; (dsimp only; omega))
      | with_reducible refine Four.alloc ?_ _
      | with_reducible refine Four.keep ?_ b2
      | with_reducible refine Four.keep ?_ b1))
    all_goals (repeat (first | (with_reducible refine below_st ?_ _ _ ?_ _; rotate_left; (first | with_reducible exact z1 | with_reducible exact z2 | with_reducible exact z3 | with_reducible exact z4 | with_reducible exact z5 | with_reducible exact z6)) | with_reducible refine below_al ?_ _ | with_reducible refine below_more ?_ (Nat.le_refl _) b2 | with_reducible refine below_more ?_ (Nat.le_refl _) b1 | with_reducible exact hbd))
    all_goals (first
      | (show Below _ _ _; first | exact (below_al hb _).drew | exact (below_al (below_al hb _) _).drew)
      | (refine Four.drew ?_; repeat (first | (with_reducible refine Four.new ?_; (first | rfl | (simp only [World.size_alloc, World.size_setCell, World.size_drew]; done) | (simp only [World.size_alloc, World.size_setCell, World.size_drew]; omega) | omega)) | with_reducible refine Four.alloc ?_ _)))
  case rest =>
    obtain ⟨p5, p6, g1, t1, g2, t2, g3, t3, g4, t4, rfl, rfl, hS, U1, U2, hB⟩ := hcut
    obtain ⟨_, _, _, _, n1, d1, e1, i1, i2, i3, i4⟩ := U1
    obtain ⟨_, _, _, _, n2, d2, e2, j1, j2, j3, j4⟩ := U2
    injection e1 with e1
    injection e2 with e2
    simp only [Array.mk.injEq, List.cons.injEq, Value.bool.injEq, Value.string.injEq, and_true] at e1 e2
    obtain ⟨rfl, rfl, rfl, rfl⟩ := e1
    obtain ⟨rfl, rfl, rfl, rfl⟩ := e2
    obtain ⟨x, Ex⟩ : ∃ x, Hid (n1 * d2 = x) := ⟨_, Lib.hid rfl⟩
    obtain ⟨y, Ey⟩ : ∃ x, Hid (n2 * d1 = x) := ⟨_, Lib.hid rfl⟩
    have Ec := Lib.hid (show cmpZ x y = cmpQ p q by rw [← Ex.out, ← Ey.out, ← i4, ← j4]; exact cmpQ_eq i3 j3)
    have Jx := Lib.hid (isInt_mg (db_mul i1.bd j2.bd Ex.out) (by omega))
    have Jy := Lib.hid (isInt_mg (db_mul j1.bd i2.bd Ey.out) (by omega))
    have I1 := Lib.hid i1
    have I2 := Lib.hid i2
    have J1 := Lib.hid j1
    have J2 := Lib.hid j2
    clear i1 i2 i3 i4 j1 j2 j3 j4
    have S0 : RIn2 wc.drew p5 p6 g1 t1 g2 t2 g3 t3 g4 t4 := hS
    go_upto_region 2 with fail
    go_region_held3 (fun W => W.cell? ⟨p5, 0, none⟩ = some (.bool g1) ∧ W.cell? ⟨p5, 1, none⟩ = some (.string t1) ∧ W.cell? ⟨p5, 2, none⟩ = some (.bool g2) ∧ W.cell? ⟨p5, 3, none⟩ = some (.string t2) ∧ W.cell? ⟨p6, 0, none⟩ = some (.bool g3) ∧ W.cell? ⟨p6, 1, none⟩ = some (.string t3) ∧ W.cell? ⟨p6, 2, none⟩ = some (.bool g4) ∧ W.cell? ⟨p6, 3, none⟩ = some (.string t4)) (first | exact S0 | exact hS | exact RIn2.keep S0 (by assumption) | exact RIn2.keep S1 (by assumption) | exact RIn2.keep S2 (by assumption) | go_keep)
      (first
        | (go_at_call 54; first
            | ((with_reducible refine (imul_eq I1.out J2.out Ex.out).mono ?_); rintro e W1 ⟨rfl, b1⟩; have S1 := S0.keep b1)
            | ((with_reducible refine (imul_eq J1.out I2.out Ey.out).mono ?_); rintro e W2 ⟨rfl, b2⟩; have S2 := S1.keep b2))
        | (go_at_call 53; (with_reducible refine (icmp_eq Jx.out Jy.out Ec.out).mono ?_); rintro e W3 ⟨rfl, b3⟩))
    all_goals
      go_wp2
      go_ret
      exact ⟨rfl, below_more (below_more (below_more hB.drew (Nat.le_refl _) b1) (Nat.le_refl _) b2) (Nat.le_refl _) b3⟩
end Go.Proofs.YtcljkdninmldiaaGreatDoor
