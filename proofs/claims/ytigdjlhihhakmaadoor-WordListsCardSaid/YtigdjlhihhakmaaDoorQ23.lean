/- Integers in variables that a region makes, in any order of its operations. No condition. What word.unrank and word.Unrank return for words of at most 30 letters. Condition: so many letters, or an error. What word.checkLength, word.isShortList and word.All return. Condition: a length of at most 24, or more than 65536. -/
import Derived.Test.YtigdjlhihhakmaaDoorQ21
import Derived.Test.YtigdjlhihhakmaaDoorQ15
import Derived.Test.YtigdjlhihhakmaaDoorQ22
import Derived.Maps.AppendAt

namespace Go.Proofs.YtigdjlhihhakmaaDoor
open Go.RowKit

/-- A variable of an integer in memory: what its cells hold, and that they may be written. -/
def BFr (W : World) (p : Nat) : Prop := W.frozen? ⟨p, 0, none⟩ = false ∧ W.frozen? ⟨p, 1, none⟩ = false
theorem BVar.lt {W : World} {p : Nat} {z : Int} (h : BVar W p z) : p < W.heap.size := World.block_lt_of_cell? W ⟨p, 0, none⟩ h.1
/-- A variable whose integer has come up, or not yet. -/
def SlW (B : Nat) (x : Int) (F : Prop) (u : Value) (W : World) : Prop := ∃ p, u = .pointer (some ⟨p, 0, none⟩) ∧ B ≤ p ∧ (∃ g s, W.cell? ⟨p, 0, none⟩ = some (.bool g) ∧ W.cell? ⟨p, 1, none⟩ = some (.string s) ∧ BFr W p) ∧ (F → BVar W p x)
theorem bfr_keep {W W' : World} {p : Nat} {g : Bool} {s : ByteArray} (h : W.cell? ⟨p, 0, none⟩ = some (.bool g) ∧ W.cell? ⟨p, 1, none⟩ = some (.string s) ∧ BFr W p) (hb : Below W.heap.size W W') :
    W'.cell? ⟨p, 0, none⟩ = some (.bool g) ∧ W'.cell? ⟨p, 1, none⟩ = some (.string s) ∧ BFr W' p :=
  ⟨cell_keep h.1 hb, cell_keep h.2.1 hb, frozen_keep h.1 h.2.2.1 hb, frozen_keep h.2.1 h.2.2.2 hb⟩
theorem SlW.keep {B : Nat} {x : Int} {F : Prop} {u : Value} {W W' : World} (h : SlW B x F u W) (hb : Below W.heap.size W W') : SlW B x F u W' := by
  obtain ⟨p, h1, h2, ⟨g, s, h3⟩, h4⟩ := h
  exact ⟨p, h1, h2, ⟨g, s, bfr_keep h3 hb⟩, fun f => (h4 f).keep hb⟩
theorem SlW.imp {B : Nat} {x : Int} {F F' : Prop} {u : Value} {W : World} (h : SlW B x F u W) (hf : F' → F) : SlW B x F' u W := by
  obtain ⟨p, h1, h2, h3, h4⟩ := h
  exact ⟨p, h1, h2, h3, fun f => h4 (hf f)⟩
theorem SlW.new {B : Nat} {x : Int} {F : Prop} {W : World} {t : TypeId} {g : Bool} {s : ByteArray} (hF : ¬F) (hb : B ≤ W.heap.size) : SlW B x F (.pointer (some ⟨W.heap.size, 0, none⟩)) (W.alloc (.cells #[.bool g, .string s] t)) := by
  refine ⟨_, rfl, hb, ⟨g, s, cell_two0 _ _ _ _, cell_two1 _ _ _ _, ?_, ?_⟩, fun f => absurd f hF⟩ <;> simp [go_sem]
theorem SlW.ne_new {B : Nat} {x : Int} {F : Prop} {u : Value} {W : World} (h : SlW B x F u W) : u ≠ .pointer (some ⟨W.heap.size, 0, none⟩) := by
  obtain ⟨p, rfl, _, ⟨g, s, h3⟩, _⟩ := h
  have := World.block_lt_of_cell? W ⟨p, 0, none⟩ h3.1
  dsimp only at this
  intro e
  injection e with e
  injection e with e
  injection e with e
  omega
/-- An integer stored in a variable. -/
def stI (W : World) (q : Nat) (y : Int) : World := (W.setCell ⟨q, 0, none⟩ (.bool (sg y))).setCell ⟨q, 1, none⟩ (.string (mg y))
theorem stI_below {B q : Nat} {W : World} {y : Int} (h : B ≤ q) : Below B W (stI W q y) := ((Below.refl B W).setCell (p := ⟨q, 0, none⟩) h _).setCell (p := ⟨q, 1, none⟩) h _
theorem stI_far {W : World} {p q : Nat} {y z : Int} (h : BVar W p z) (hne : q ≠ p) : BVar (stI W q y) p z := bvar_far h hne
theorem stI_far_cells {W : World} {p q : Nat} {y : Int} {a b : Value} (h : W.cell? ⟨p, 0, none⟩ = some a ∧ W.cell? ⟨p, 1, none⟩ = some b ∧ BFr W p) (hne : q ≠ p) :
    (stI W q y).cell? ⟨p, 0, none⟩ = some a ∧ (stI W q y).cell? ⟨p, 1, none⟩ = some b ∧ BFr (stI W q y) p := by
  unfold stI BFr
  rw [World.cell?_setCell_far _ _ _ _ (by exact hne), World.cell?_setCell_far _ _ _ _ (by exact hne), World.cell?_setCell_far _ _ _ _ (by exact hne), World.cell?_setCell_far _ _ _ _ (by exact hne), World.frozen?_setCell, World.frozen?_setCell, World.frozen?_setCell, World.frozen?_setCell]
  exact h
theorem stI_same {W : World} {q : Nat} {y : Int} {a b : Value} (h : W.cell? ⟨q, 0, none⟩ = some a ∧ W.cell? ⟨q, 1, none⟩ = some b ∧ BFr W q) : BVar (stI W q y) q y ∧ BFr (stI W q y) q := by
  obtain ⟨h1, h2, h3, h4⟩ := h
  unfold stI BVar BFr
  refine ⟨⟨?_, ?_⟩, ?_, ?_⟩ <;> simp [go_sem, h1, h2, h3, h4]
theorem SlW.far {B q : Nat} {x y : Int} {F : Prop} {u : Value} {W : World} (h : SlW B x F u W) (hne : u ≠ .pointer (some ⟨q, 0, none⟩)) : SlW B x F u (stI W q y) := by
  obtain ⟨p, rfl, h2, ⟨g, s, h3⟩, h4⟩ := h
  have hpq : q ≠ p := fun e => hne (by rw [e])
  exact ⟨p, rfl, h2, ⟨g, s, stI_far_cells h3 hpq⟩, fun f => stI_far (h4 f) hpq⟩
theorem SlW.put {B p : Nat} {x : Int} {F F' : Prop} {W : World} (h : SlW B x F (.pointer (some ⟨p, 0, none⟩)) W) : SlW B x F' (.pointer (some ⟨p, 0, none⟩)) (stI W p x) := by
  obtain ⟨p', e, h2, ⟨g, s, h3⟩, _⟩ := h
  injection e with e
  injection e with e
  injection e with e
  subst e
  obtain ⟨k1, k2⟩ := stI_same (y := x) h3
  exact ⟨p, rfl, h2, ⟨_, _, k1.1, k1.2, k2⟩, fun _ => k1⟩
theorem AS.far {w W : World} {p q : Nat} {z y : Int} (h : AS w p z W) (hq : w.heap.size ≤ q) (hne : q ≠ p) : AS w p z (stI W q y) :=
  ⟨⟨h.1.1.trans (stI_below hq), by have := (stI_below (B := q) (W := W) (q := q) (y := y) (Nat.le_refl _)).size; exact Nat.le_trans h.1.2 this⟩, stI_far h.2 hne⟩
theorem AS.lt {w W : World} {p : Nat} {z : Int} (h : AS w p z W) : p < W.heap.size := World.block_lt_of_cell? W ⟨p, 0, none⟩ h.2.1
end Go.Proofs.YtigdjlhihhakmaaDoor

namespace Go.Proofs.YtigdjlhihhakmaaDoor
open Go.RowKit
set_option linter.unusedSimpArgs false
set_option linter.unusedVariables false

theorem AS.box (w : World) (z : Int) : AS w w.heap.size z (w.alloc (.cells #[.bool (sg z), .string (mg z)] 43)) := ⟨⟨below1 w _, by rw [World.size_alloc]; omega⟩, cell_two0 _ _ _ _, cell_two1 _ _ _ _⟩
/-- A string that is returned. -/
def StrOut (w : World) (l : List UInt8) (e : Ending) (w' : World) : Prop := e = .returned (.string ⟨l.toArray⟩) ∧ Below w.heap.size w w'
set_option maxRecDepth 100000 in
set_option maxHeartbeats 3200000 in
theorem unrank_short (q n z : Nat) (w : World) (q1 : 1 ≤ q) (q2 : q ≤ 16) (hn : n ≤ 15) (hz : z < q ^ n) :
    Calls Tryd.prog 58 #[.int .i64 (q : Int), .int .i64 (n : Int), .agg #[.bool (sg (z : Int)), .string (mg (z : Int))]] w (StrOut w (unrk q n z)) := by
  have hz2 : z < 1152921504606846976 := Nat.lt_of_lt_of_le hz (pow15 q2 hn)
  have I := isInt_lt (k := 2) q2 hz (by omega) (by omega)
  have HS := Lib.hid (fun W => small_any _ _ 2 W I)
  simp only [if_pos (show fitsInt (z : Int) from ⟨by omega, by omega⟩)] at HS
  have HU := Lib.hid (fun W => shortUnrank_any q n z W q1 q2 hn hz2)
  obtain ⟨R, hR⟩ : ∃ R, unrk q n z = R := ⟨_, rfl⟩
  obtain ⟨x, hx⟩ : ∃ x : Int, (z : Int) = x := ⟨_, rfl⟩
  simp only [hR] at HU
  simp only [hx] at HS HU
  rw [hR, hx]
  clear hx hR hz I hz2
  have K := AS.box w x
  obtain ⟨x1, x2⟩ := K.cells
  go_enter Tryd.func58, Tryd.ntmps58
  go_wp2_with (first
    | (go_at_call 92; (with_reducible refine (HS.out _).mono ?_); rintro e W1 ⟨rfl, b1⟩)
    | (go_at_call 93; (with_reducible refine (HU.out _).mono ?_); rintro e W2 ⟨rfl, b2⟩))
  go_ret
  exact ⟨rfl, below_more (K.keep b1).below (Nat.le_refl _) b2⟩
theorem qD_nat (a b : Nat) : qD (a : Int) (b : Int) = ((a / b : Nat) : Int) := by
  unfold qD
  have h1 : sg (a : Int) = false := by unfold sg; exact decide_eq_false (by omega)
  have h2 : sg (b : Int) = false := by unfold sg; exact decide_eq_false (by omega)
  rw [h1, h2, Int.natAbs_natCast, Int.natAbs_natCast]; simp [dq]
theorem rD_nat (a b : Nat) : rD (a : Int) (b : Int) = ((a % b : Nat) : Int) := by
  unfold rD
  have h1 : sg (a : Int) = false := by unfold sg; exact decide_eq_false (by omega)
  have h2 : sg (b : Int) = false := by unfold sg; exact decide_eq_false (by omega)
  rw [h1, h2, Int.natAbs_natCast, Int.natAbs_natCast]; simp [dr]
/-- What two calls leave: two variables of integers. -/
def A2 (w : World) (p q : Nat) (x y : Int) (W : World) : Prop := Below w.heap.size w W ∧ BVar W p x ∧ BVar W q y
theorem A2.keep {w W X : World} {p q : Nat} {x y : Int} (h : A2 w p q x y W) (b : Below W.heap.size W X) : A2 w p q x y X := ⟨below_more h.1 (Nat.le_refl _) b, h.2.1.keep b, h.2.2.keep b⟩
theorem A2.drew {w W : World} {p q : Nat} {x y : Int} (h : A2 w p q x y W) : A2 w p q x y W.drew := h.keep (Below.refl _ _).drew
theorem A2.cells {w W : World} {p q : Nat} {x y : Int} (h : A2 w p q x y W) : W.cell? ⟨p, 0, none⟩ = some (.bool (sg x)) ∧ W.cell? ⟨p, 1, none⟩ = some (.string (mg x)) ∧ W.cell? ⟨q, 0, none⟩ = some (.bool (sg y)) ∧ W.cell? ⟨q, 1, none⟩ = some (.string (mg y)) := ⟨h.2.1.1, h.2.1.2, h.2.2.1, h.2.2.2⟩
set_option maxRecDepth 100000 in
set_option maxHeartbeats 12800000 in
theorem unrank_mid (q n a : Nat) (w : World) (q1 : 1 ≤ q) (q2 : q ≤ 16) (hn0 : 15 < n) (hn : n ≤ 30) (hz : a < q ^ n) :
    Calls Tryd.prog 58 #[.int .i64 (q : Int), .int .i64 (n : Int), .agg #[.bool (sg (a : Int)), .string (mg (a : Int))]] w (StrOut w (unrk q n a)) := by
  have hq : Int.tdiv (n : Int) 2 = ((n / 2 : Nat) : Int) := by rw [Int.tdiv_eq_ediv_of_nonneg (by omega)]; rfl
  obtain ⟨h, hh⟩ : ∃ h, n / 2 = h := ⟨_, rfl⟩
  rw [hh] at hq
  obtain ⟨n2, hn2⟩ : ∃ n2, n - h = n2 := ⟨_, rfl⟩
  have hsum : h + n2 = n := by omega
  have hh15 : h ≤ 15 := by omega
  have hn15 : n2 ≤ 15 := by omega
  have HP := Lib.hid (power_any q q1 q2 n2 (by omega))
  have hp0 : 0 < q ^ n2 := Nat.pow_pos (by omega)
  have I1 := isInt_lt (k := 4) q2 hz (by omega) (by omega)
  have I2 := isInt_pow (n := n2) (k := 2) q2 (by omega) (by omega) (by omega) (by omega)
  have HD := Lib.hid (fun W => idiv_all _ _ _ _ 4 2 W I1 I2 (by omega))
  simp only [qD_nat, rD_nat] at HD
  have ha1 : a / q ^ n2 < q ^ h := Nat.div_lt_of_lt_mul (by rw [← Nat.pow_add, Nat.add_comm, hsum]; exact hz)
  have ha2 : a % q ^ n2 < q ^ n2 := Nat.mod_lt _ hp0
  have HU1 := Lib.hid (fun W => unrank_short q h _ W q1 q2 hh15 ha1)
  have HU2 := Lib.hid (fun W => unrank_short q n2 _ W q1 q2 hn15 ha2)
  have hadd := unrk_add q h n2 a
  rw [hsum] at hadd
  have l1 := unrk_len q h (a / q ^ n2)
  have l2 := unrk_len q n2 (a % q ^ n2)
  rw [hadd]
  obtain ⟨U, hU⟩ : ∃ U, unrk q h (a / q ^ n2) = U := ⟨_, rfl⟩
  obtain ⟨V, hV⟩ : ∃ V, unrk q n2 (a % q ^ n2) = V := ⟨_, rfl⟩
  obtain ⟨x, hx⟩ : ∃ x : Int, ((a / q ^ n2 : Nat) : Int) = x := ⟨_, rfl⟩
  obtain ⟨y, hy⟩ : ∃ y : Int, ((a % q ^ n2 : Nat) : Int) = y := ⟨_, rfl⟩
  obtain ⟨p, hp⟩ : ∃ p : Int, ((q ^ n2 : Nat) : Int) = p := ⟨_, rfl⟩
  obtain ⟨z, hzz⟩ : ∃ z : Int, (a : Int) = z := ⟨_, rfl⟩
  simp only [hU, hx] at HU1
  simp only [hV, hy] at HU2
  simp only [hx, hy, hp, hzz] at HD
  simp only [hp] at HP
  rw [hU, hV, hzz]
  rw [hU] at l1
  rw [hV] at l2
  obtain ⟨T, hT⟩ : ∃ T, U ++ V = T := ⟨_, rfl⟩
  have hs1 : ∀ w, (Op.stringOp .add ⟨U.toArray⟩ ⟨V.toArray⟩).run Tryd.prog w = .ok (.string ⟨T.toArray⟩) w := fun w => by
    rw [← hT]; exact run_string_add_lists w U V (by omega) (by omega)
  have hw1 : IntKind.i64.wrap ((n : Int) - (h : Int)) = (n2 : Int) := by rw [IntKind.wrap_i64]; omega
  have hw2 : IntKind.i64.wrap (n2 : Int) = (n2 : Int) := by rw [IntKind.wrap_i64]; omega
  have hw3 : IntKind.i64.wrap (h : Int) = (h : Int) := by rw [IntKind.wrap_i64]; omega
  have hsub : (n : Int) - (h : Int) = (n2 : Int) := by omega
  rw [hT]
  have HTL := Lib.hid (show T.length = n by rw [← hT, List.length_append]; omega)
  clear hU hV hx hy hp hzz hT hadd I1 I2 ha1 ha2 hp0 hz l1 l2 hh hn2
  have K := AS.box w z
  have hmx : Tryd.prog.follows .mixedOrders = true := by kernel_rfl
  go_enter Tryd.func58, Tryd.ntmps58
  go_upto_region 5 with fail
  have KB := K.drew
  clear K
  generalize decide ((n : Int) ≤ 15) = D0
  refine region_inv' (J := (fun L a wx => ∃ u27 u28 u29 u30 u31 u32 u33 u26 u34 u35 u36 u10 u11 u12, a = { tmps := #[.int .i64 (q : Int), .int .i64 (n : Int), .agg #[.bool (sg z), .string (mg z)], undef, undef, .pointer (some ⟨w.heap.size, 0, none⟩), .string ⟨#[]⟩, undef, undef, .int .i64 (h : Int), u10, u11, u12, .int .i64 (n : Int), .bool D0, undef, undef, undef, undef, undef, undef, undef, undef, undef, .int .i64 (n : Int), .int .i64 (h : Int), u26, u27, u28, u29, u30, u31, u32, u33, u34, u35, u36, undef, undef, undef, undef, undef, undef, undef, undef, undef, undef, undef], defers := [] } ∧ AS w w.heap.size z wx ∧
      (L.getD 0 false = true → u27 = .agg #[.bool (sg z), .string (mg z)]) ∧ (L.getD 1 false = true → u28 = .int .i64 (q : Int)) ∧ (L.getD 2 false = true → u29 = .int .i64 (n : Int)) ∧ (L.getD 3 false = true → u30 = .int .i64 (h : Int)) ∧ (L.getD 4 false = true → u31 = .int .i64 (n2 : Int)) ∧ (L.getD 5 false = true → u32 = .agg #[.bool (sg p), .string (mg p)]) ∧ (L.getD 6 false = true → u33 = .tuple #[.agg #[.bool (sg x), .string (mg x)], .agg #[.bool (sg y), .string (mg y)], .int .i64 0]) ∧ (L.getD 7 false = true → u26 = .tuple #[.agg #[.bool (sg x), .string (mg x)], .agg #[.bool (sg y), .string (mg y)], .int .i64 0]) ∧ (L.getD 8 false = true → u34 = .agg #[.bool (sg x), .string (mg x)]) ∧ (L.getD 9 false = true → u35 = .agg #[.bool (sg y), .string (mg y)]) ∧ (L.getD 10 false = true → u36 = .int .i64 0) ∧ (L.getD 15 false = true → u12 = .int .i64 0) ∧ (L.getD 11 false = true → SlW (w.heap.size + 1) (x) (L.getD 13 false = true) u10 wx) ∧ (L.getD 12 false = true → SlW (w.heap.size + 1) (y) (L.getD 14 false = true) u11 wx) ∧ (L.getD 11 false = true → L.getD 12 false = true → u10 ≠ u11) ∧ (L.getD 13 false = true → L.getD 11 false = true) ∧ (L.getD 14 false = true → L.getD 12 false = true))) hmx (by kernel_rfl) ?_ ?_ ?_
  · exact ⟨undef, undef, undef, undef, undef, undef, undef, undef, undef, undef, undef, undef, undef, undef, rfl, KB, fun h => absurd h (by decide), fun h => absurd h (by decide), fun h => absurd h (by decide), fun h => absurd h (by decide), fun h => absurd h (by decide), fun h => absurd h (by decide), fun h => absurd h (by decide), fun h => absurd h (by decide), fun h => absurd h (by decide), fun h => absurd h (by decide), fun h => absurd h (by decide), fun h => absurd h (by decide), fun h => absurd h (by decide), fun h => absurd h (by decide), fun h _ => absurd h (by decide), fun h => absurd h (by decide), fun h => absurd h (by decide)⟩
  · intro i hi L a wx hl hw ⟨u27, u28, u29, u30, u31, u32, u33, u26, u34, u35, u36, u10, u11, u12, ha, lo, c0, c1, c2, c3, c4, c5, c6, c7, c8, c9, c10, c15, s11, s12, d11_12, k13, k14⟩
    subst ha
    obtain ⟨x1, x2⟩ := lo.cells
    clear KB
    have hi' : i = 0 ∨ i = 1 ∨ i = 2 ∨ i = 3 ∨ i = 4 ∨ i = 5 ∨ i = 6 ∨ i = 7 ∨ i = 8 ∨ i = 9 ∨ i = 10 ∨ i = 11 ∨ i = 12 ∨ i = 13 ∨ i = 14 ∨ i = 15 := by
      have : i < 16 := hi
      omega
    rcases hi' with rfl | rfl | rfl | rfl | rfl | rfl | rfl | rfl | rfl | rfl | rfl | rfl | rfl | rfl | rfl | rfl
    · refine stepJ (i := 0) rfl (fun K hK => ?_)
      go_simp
      refine hK.out _ _ ⟨_, u28, u29, u30, u31, u32, u33, u26, u34, u35, u36, u10, u11, u12, rfl, lo, fun _ => rfl, fun h => c1 (fl (by decide) h), fun h => c2 (fl (by decide) h), fun h => c3 (fl (by decide) h), fun h => c4 (fl (by decide) h), fun h => c5 (fl (by decide) h), fun h => c6 (fl (by decide) h), fun h => c7 (fl (by decide) h), fun h => c8 (fl (by decide) h), fun h => c9 (fl (by decide) h), fun h => c10 (fl (by decide) h), fun h => c15 (fl (by decide) h), fun h => ((s11 (fl (by decide) h)).imp (fl (by decide))), fun h => ((s12 (fl (by decide) h)).imp (fl (by decide))), fun h h' => d11_12 (fl (by decide) h) (fl (by decide) h'), fun h => getD_set_true (k13 (fl (by decide) h)), fun h => getD_set_true (k14 (fl (by decide) h))⟩
    · refine stepJ (i := 1) rfl (fun K hK => ?_)
      go_simp
      refine hK.out _ _ ⟨u27, _, u29, u30, u31, u32, u33, u26, u34, u35, u36, u10, u11, u12, rfl, lo, fun h => c0 (fl (by decide) h), fun _ => rfl, fun h => c2 (fl (by decide) h), fun h => c3 (fl (by decide) h), fun h => c4 (fl (by decide) h), fun h => c5 (fl (by decide) h), fun h => c6 (fl (by decide) h), fun h => c7 (fl (by decide) h), fun h => c8 (fl (by decide) h), fun h => c9 (fl (by decide) h), fun h => c10 (fl (by decide) h), fun h => c15 (fl (by decide) h), fun h => ((s11 (fl (by decide) h)).imp (fl (by decide))), fun h => ((s12 (fl (by decide) h)).imp (fl (by decide))), fun h h' => d11_12 (fl (by decide) h) (fl (by decide) h'), fun h => getD_set_true (k13 (fl (by decide) h)), fun h => getD_set_true (k14 (fl (by decide) h))⟩
    · refine stepJ (i := 2) rfl (fun K hK => ?_)
      go_simp
      refine hK.out _ _ ⟨u27, u28, _, u30, u31, u32, u33, u26, u34, u35, u36, u10, u11, u12, rfl, lo, fun h => c0 (fl (by decide) h), fun h => c1 (fl (by decide) h), fun _ => rfl, fun h => c3 (fl (by decide) h), fun h => c4 (fl (by decide) h), fun h => c5 (fl (by decide) h), fun h => c6 (fl (by decide) h), fun h => c7 (fl (by decide) h), fun h => c8 (fl (by decide) h), fun h => c9 (fl (by decide) h), fun h => c10 (fl (by decide) h), fun h => c15 (fl (by decide) h), fun h => ((s11 (fl (by decide) h)).imp (fl (by decide))), fun h => ((s12 (fl (by decide) h)).imp (fl (by decide))), fun h h' => d11_12 (fl (by decide) h) (fl (by decide) h'), fun h => getD_set_true (k13 (fl (by decide) h)), fun h => getD_set_true (k14 (fl (by decide) h))⟩
    · refine stepJ (i := 3) rfl (fun K hK => ?_)
      go_simp
      refine hK.out _ _ ⟨u27, u28, u29, _, u31, u32, u33, u26, u34, u35, u36, u10, u11, u12, rfl, lo, fun h => c0 (fl (by decide) h), fun h => c1 (fl (by decide) h), fun h => c2 (fl (by decide) h), fun _ => rfl, fun h => c4 (fl (by decide) h), fun h => c5 (fl (by decide) h), fun h => c6 (fl (by decide) h), fun h => c7 (fl (by decide) h), fun h => c8 (fl (by decide) h), fun h => c9 (fl (by decide) h), fun h => c10 (fl (by decide) h), fun h => c15 (fl (by decide) h), fun h => ((s11 (fl (by decide) h)).imp (fl (by decide))), fun h => ((s12 (fl (by decide) h)).imp (fl (by decide))), fun h h' => d11_12 (fl (by decide) h) (fl (by decide) h'), fun h => getD_set_true (k13 (fl (by decide) h)), fun h => getD_set_true (k14 (fl (by decide) h))⟩
    · refine stepJ (i := 4) rfl (fun K hK => ?_)
      obtain rfl := c2 (hw 2 (by kernel_rfl))
      obtain rfl := c3 (hw 3 (by kernel_rfl))
      go_simp
      refine hK.out _ _ ⟨u27, u28, _, _, _, u32, u33, u26, u34, u35, u36, u10, u11, u12, rfl, lo, fun h => c0 (fl (by decide) h), fun h => c1 (fl (by decide) h), fun _ => rfl, fun _ => rfl, fun _ => rfl, fun h => c5 (fl (by decide) h), fun h => c6 (fl (by decide) h), fun h => c7 (fl (by decide) h), fun h => c8 (fl (by decide) h), fun h => c9 (fl (by decide) h), fun h => c10 (fl (by decide) h), fun h => c15 (fl (by decide) h), fun h => ((s11 (fl (by decide) h)).imp (fl (by decide))), fun h => ((s12 (fl (by decide) h)).imp (fl (by decide))), fun h h' => d11_12 (fl (by decide) h) (fl (by decide) h'), fun h => getD_set_true (k13 (fl (by decide) h)), fun h => getD_set_true (k14 (fl (by decide) h))⟩
    · refine stepJ (i := 5) rfl (fun K hK => ?_)
      obtain rfl := c1 (hw 1 (by kernel_rfl))
      obtain rfl := c4 (hw 4 (by kernel_rfl))
      go_simp
      go_at_call 57
      refine (HP.out _).mono ?_
      rintro e W2 ⟨rfl, b2⟩
      go_wp2_with fail
      refine hK.out _ _ ⟨u27, _, u29, u30, _, _, u33, u26, u34, u35, u36, u10, u11, u12, rfl, lo.keep b2, fun h => c0 (fl (by decide) h), fun _ => rfl, fun h => c2 (fl (by decide) h), fun h => c3 (fl (by decide) h), fun _ => rfl, fun _ => rfl, fun h => c6 (fl (by decide) h), fun h => c7 (fl (by decide) h), fun h => c8 (fl (by decide) h), fun h => c9 (fl (by decide) h), fun h => c10 (fl (by decide) h), fun h => c15 (fl (by decide) h), fun h => ((s11 (fl (by decide) h)).imp (fl (by decide))).keep b2, fun h => ((s12 (fl (by decide) h)).imp (fl (by decide))).keep b2, fun h h' => d11_12 (fl (by decide) h) (fl (by decide) h'), fun h => getD_set_true (k13 (fl (by decide) h)), fun h => getD_set_true (k14 (fl (by decide) h))⟩
    · refine stepJ (i := 6) rfl (fun K hK => ?_)
      obtain rfl := c0 (hw 0 (by kernel_rfl))
      obtain rfl := c5 (hw 5 (by kernel_rfl))
      go_simp
      go_at_call 94
      refine (HD.out _).mono ?_
      rintro e W2 ⟨rfl, b2⟩
      go_wp2_with fail
      refine hK.out _ _ ⟨_, u28, u29, u30, u31, _, _, u26, u34, u35, u36, u10, u11, u12, rfl, lo.keep b2, fun _ => rfl, fun h => c1 (fl (by decide) h), fun h => c2 (fl (by decide) h), fun h => c3 (fl (by decide) h), fun h => c4 (fl (by decide) h), fun _ => rfl, fun _ => rfl, fun h => c7 (fl (by decide) h), fun h => c8 (fl (by decide) h), fun h => c9 (fl (by decide) h), fun h => c10 (fl (by decide) h), fun h => c15 (fl (by decide) h), fun h => ((s11 (fl (by decide) h)).imp (fl (by decide))).keep b2, fun h => ((s12 (fl (by decide) h)).imp (fl (by decide))).keep b2, fun h h' => d11_12 (fl (by decide) h) (fl (by decide) h'), fun h => getD_set_true (k13 (fl (by decide) h)), fun h => getD_set_true (k14 (fl (by decide) h))⟩
    · refine stepJ (i := 7) rfl (fun K hK => ?_)
      obtain rfl := c6 (hw 6 (by kernel_rfl))
      go_simp
      refine hK.out _ _ ⟨u27, u28, u29, u30, u31, u32, _, _, u34, u35, u36, u10, u11, u12, rfl, lo, fun h => c0 (fl (by decide) h), fun h => c1 (fl (by decide) h), fun h => c2 (fl (by decide) h), fun h => c3 (fl (by decide) h), fun h => c4 (fl (by decide) h), fun h => c5 (fl (by decide) h), fun _ => rfl, fun _ => rfl, fun h => c8 (fl (by decide) h), fun h => c9 (fl (by decide) h), fun h => c10 (fl (by decide) h), fun h => c15 (fl (by decide) h), fun h => ((s11 (fl (by decide) h)).imp (fl (by decide))), fun h => ((s12 (fl (by decide) h)).imp (fl (by decide))), fun h h' => d11_12 (fl (by decide) h) (fl (by decide) h'), fun h => getD_set_true (k13 (fl (by decide) h)), fun h => getD_set_true (k14 (fl (by decide) h))⟩
    · refine stepJ (i := 8) rfl (fun K hK => ?_)
      obtain rfl := c7 (hw 7 (by kernel_rfl))
      go_simp
      refine hK.out _ _ ⟨u27, u28, u29, u30, u31, u32, u33, _, _, u35, u36, u10, u11, u12, rfl, lo, fun h => c0 (fl (by decide) h), fun h => c1 (fl (by decide) h), fun h => c2 (fl (by decide) h), fun h => c3 (fl (by decide) h), fun h => c4 (fl (by decide) h), fun h => c5 (fl (by decide) h), fun h => c6 (fl (by decide) h), fun _ => rfl, fun _ => rfl, fun h => c9 (fl (by decide) h), fun h => c10 (fl (by decide) h), fun h => c15 (fl (by decide) h), fun h => ((s11 (fl (by decide) h)).imp (fl (by decide))), fun h => ((s12 (fl (by decide) h)).imp (fl (by decide))), fun h h' => d11_12 (fl (by decide) h) (fl (by decide) h'), fun h => getD_set_true (k13 (fl (by decide) h)), fun h => getD_set_true (k14 (fl (by decide) h))⟩
    · refine stepJ (i := 9) rfl (fun K hK => ?_)
      obtain rfl := c7 (hw 7 (by kernel_rfl))
      go_simp
      refine hK.out _ _ ⟨u27, u28, u29, u30, u31, u32, u33, _, u34, _, u36, u10, u11, u12, rfl, lo, fun h => c0 (fl (by decide) h), fun h => c1 (fl (by decide) h), fun h => c2 (fl (by decide) h), fun h => c3 (fl (by decide) h), fun h => c4 (fl (by decide) h), fun h => c5 (fl (by decide) h), fun h => c6 (fl (by decide) h), fun _ => rfl, fun h => c8 (fl (by decide) h), fun _ => rfl, fun h => c10 (fl (by decide) h), fun h => c15 (fl (by decide) h), fun h => ((s11 (fl (by decide) h)).imp (fl (by decide))), fun h => ((s12 (fl (by decide) h)).imp (fl (by decide))), fun h h' => d11_12 (fl (by decide) h) (fl (by decide) h'), fun h => getD_set_true (k13 (fl (by decide) h)), fun h => getD_set_true (k14 (fl (by decide) h))⟩
    · refine stepJ (i := 10) rfl (fun K hK => ?_)
      obtain rfl := c7 (hw 7 (by kernel_rfl))
      go_simp
      refine hK.out _ _ ⟨u27, u28, u29, u30, u31, u32, u33, _, u34, u35, _, u10, u11, u12, rfl, lo, fun h => c0 (fl (by decide) h), fun h => c1 (fl (by decide) h), fun h => c2 (fl (by decide) h), fun h => c3 (fl (by decide) h), fun h => c4 (fl (by decide) h), fun h => c5 (fl (by decide) h), fun h => c6 (fl (by decide) h), fun _ => rfl, fun h => c8 (fl (by decide) h), fun h => c9 (fl (by decide) h), fun _ => rfl, fun h => c15 (fl (by decide) h), fun h => ((s11 (fl (by decide) h)).imp (fl (by decide))), fun h => ((s12 (fl (by decide) h)).imp (fl (by decide))), fun h h' => d11_12 (fl (by decide) h) (fl (by decide) h'), fun h => getD_set_true (k13 (fl (by decide) h)), fun h => getD_set_true (k14 (fl (by decide) h))⟩
    · refine stepJ (i := 11) rfl (fun K hK => ?_)
      go_simp
      refine hK.out _ _ ⟨u27, u28, u29, u30, u31, u32, u33, u26, u34, u35, u36, _, u11, u12, rfl, lo.alloc _, fun h => c0 (fl (by decide) h), fun h => c1 (fl (by decide) h), fun h => c2 (fl (by decide) h), fun h => c3 (fl (by decide) h), fun h => c4 (fl (by decide) h), fun h => c5 (fl (by decide) h), fun h => c6 (fl (by decide) h), fun h => c7 (fl (by decide) h), fun h => c8 (fl (by decide) h), fun h => c9 (fl (by decide) h), fun h => c10 (fl (by decide) h), fun h => c15 (fl (by decide) h), fun _ => SlW.new (fun h => absurd ((k13 (fl (by decide) h)).symm.trans hl) (by decide)  ) lo.lt, fun h => ((s12 (fl (by decide) h)).imp (fl (by decide))).keep (below1 wx _), fun _ h' => Ne.symm (s12 (fl (by decide) h')).ne_new, fun h => getD_set_true (k13 (fl (by decide) h)), fun h => getD_set_true (k14 (fl (by decide) h))⟩
    · refine stepJ (i := 12) rfl (fun K hK => ?_)
      go_simp
      refine hK.out _ _ ⟨u27, u28, u29, u30, u31, u32, u33, u26, u34, u35, u36, u10, _, u12, rfl, lo.alloc _, fun h => c0 (fl (by decide) h), fun h => c1 (fl (by decide) h), fun h => c2 (fl (by decide) h), fun h => c3 (fl (by decide) h), fun h => c4 (fl (by decide) h), fun h => c5 (fl (by decide) h), fun h => c6 (fl (by decide) h), fun h => c7 (fl (by decide) h), fun h => c8 (fl (by decide) h), fun h => c9 (fl (by decide) h), fun h => c10 (fl (by decide) h), fun h => c15 (fl (by decide) h), fun h => ((s11 (fl (by decide) h)).imp (fl (by decide))).keep (below1 wx _), fun _ => SlW.new (fun h => absurd ((k14 (fl (by decide) h)).symm.trans hl) (by decide)  ) lo.lt, fun h _ => (s11 (fl (by decide) h)).ne_new, fun h => getD_set_true (k13 (fl (by decide) h)), fun h => getD_set_true (k14 (fl (by decide) h))⟩
    · refine stepJ (i := 13) rfl (fun K hK => ?_)
      obtain rfl := c8 (hw 8 (by kernel_rfl))
      obtain ⟨pp, rfl, hpp, ⟨g9, t9, y1, y2, y3, y4⟩, _⟩ := id (s11 (hw 11 (by kernel_rfl)))
      go_simp
      refine hK.out _ _ ⟨u27, u28, u29, u30, u31, u32, u33, u26, _, u35, u36, _, u11, u12, rfl, lo.far (Nat.le_of_succ_le hpp) (Nat.ne_of_gt hpp), fun h => c0 (fl (by decide) h), fun h => c1 (fl (by decide) h), fun h => c2 (fl (by decide) h), fun h => c3 (fl (by decide) h), fun h => c4 (fl (by decide) h), fun h => c5 (fl (by decide) h), fun h => c6 (fl (by decide) h), fun h => c7 (fl (by decide) h), fun _ => rfl, fun h => c9 (fl (by decide) h), fun h => c10 (fl (by decide) h), fun h => c15 (fl (by decide) h), fun _ => (s11 (hw 11 (by kernel_rfl))).put, fun h => ((s12 (fl (by decide) h)).imp (fl (by decide))).far (Ne.symm (d11_12 (hw 11 (by kernel_rfl)) (fl (by decide) h))), fun h h' => d11_12 (fl (by decide) h) (fl (by decide) h'), fun _ => getD_set_true (hw 11 (by kernel_rfl)), fun h => getD_set_true (k14 (fl (by decide) h))⟩
    · refine stepJ (i := 14) rfl (fun K hK => ?_)
      obtain rfl := c9 (hw 9 (by kernel_rfl))
      obtain ⟨pp, rfl, hpp, ⟨g9, t9, y1, y2, y3, y4⟩, _⟩ := id (s12 (hw 12 (by kernel_rfl)))
      go_simp
      refine hK.out _ _ ⟨u27, u28, u29, u30, u31, u32, u33, u26, u34, _, u36, u10, _, u12, rfl, lo.far (Nat.le_of_succ_le hpp) (Nat.ne_of_gt hpp), fun h => c0 (fl (by decide) h), fun h => c1 (fl (by decide) h), fun h => c2 (fl (by decide) h), fun h => c3 (fl (by decide) h), fun h => c4 (fl (by decide) h), fun h => c5 (fl (by decide) h), fun h => c6 (fl (by decide) h), fun h => c7 (fl (by decide) h), fun h => c8 (fl (by decide) h), fun _ => rfl, fun h => c10 (fl (by decide) h), fun h => c15 (fl (by decide) h), fun h => ((s11 (fl (by decide) h)).imp (fl (by decide))).far (d11_12 (fl (by decide) h) (hw 12 (by kernel_rfl))), fun _ => (s12 (hw 12 (by kernel_rfl))).put, fun h h' => d11_12 (fl (by decide) h) (fl (by decide) h'), fun h => getD_set_true (k13 (fl (by decide) h)), fun _ => getD_set_true (hw 12 (by kernel_rfl))⟩
    · refine stepJ (i := 15) rfl (fun K hK => ?_)
      obtain rfl := c10 (hw 10 (by kernel_rfl))
      go_simp
      refine hK.out _ _ ⟨u27, u28, u29, u30, u31, u32, u33, u26, u34, u35, _, u10, u11, _, rfl, lo, fun h => c0 (fl (by decide) h), fun h => c1 (fl (by decide) h), fun h => c2 (fl (by decide) h), fun h => c3 (fl (by decide) h), fun h => c4 (fl (by decide) h), fun h => c5 (fl (by decide) h), fun h => c6 (fl (by decide) h), fun h => c7 (fl (by decide) h), fun h => c8 (fl (by decide) h), fun h => c9 (fl (by decide) h), fun _ => rfl, fun _ => rfl, fun h => ((s11 (fl (by decide) h)).imp (fl (by decide))), fun h => ((s12 (fl (by decide) h)).imp (fl (by decide))), fun h h' => d11_12 (fl (by decide) h) (fl (by decide) h'), fun h => getD_set_true (k13 (fl (by decide) h)), fun h => getD_set_true (k14 (fl (by decide) h))⟩
  · rintro L a wx hall ⟨u27, u28, u29, u30, u31, u32, u33, u26, u34, u35, u36, u10, u11, u12, rfl, lo, c0, c1, c2, c3, c4, c5, c6, c7, c8, c9, c10, c15, s11, s12, d11_12, k13, k14⟩
    obtain rfl := c0 (hall 0 (by decide))
    obtain rfl := c1 (hall 1 (by decide))
    obtain rfl := c2 (hall 2 (by decide))
    obtain rfl := c3 (hall 3 (by decide))
    obtain rfl := c4 (hall 4 (by decide))
    obtain rfl := c5 (hall 5 (by decide))
    obtain rfl := c6 (hall 6 (by decide))
    obtain rfl := c7 (hall 7 (by decide))
    obtain rfl := c8 (hall 8 (by decide))
    obtain rfl := c9 (hall 9 (by decide))
    obtain rfl := c10 (hall 10 (by decide))
    obtain rfl := c15 (hall 15 (by decide))
    obtain ⟨p11, rfl, hp11, -, H11⟩ := s11 (hall 11 (by decide))
    have V11 := H11 (hall 13 (by decide))
    obtain ⟨p12, rfl, hp12, -, H12⟩ := s12 (hall 12 (by decide))
    have V12 := H12 (hall 14 (by decide))
    have n11_12 : p11 ≠ p12 := fun e => d11_12 (hall 11 (by decide)) (hall 12 (by decide)) (by rw [e])
    clear hall c0 c1 c2 c3 c4 c5 c6 c7 c8 c9 c10 c15 s11 H11 s12 H12 d11_12 k13 k14
    dsimp only
    go_upto_region 6 with fail
    have A := Lib.hid (show A2 w p11 p12 x y wx.drew from ⟨lo.drew.below, V11.keep (Below.refl _ _).drew, V12.keep (Below.refl _ _).drew⟩)
    clear lo V11 V12 KB n11_12 hp11 hp12
    go_region_held3 (fun W => W.cell? ⟨p11, 0, none⟩ = some (.bool (sg x)) ∧ W.cell? ⟨p11, 1, none⟩ = some (.string (mg x)) ∧ W.cell? ⟨p12, 0, none⟩ = some (.bool (sg y)) ∧ W.cell? ⟨p12, 1, none⟩ = some (.string (mg y)))
      (with_reducible exact A.out.cells)
      (first
        | (go_at_call 58; first
          | ((with_reducible refine (HU1.out _).mono ?_); rintro e X ⟨rfl, bX⟩; (have A := Lib.hid (A.out.keep bX)))
          | ((with_reducible refine (HU2.out _).mono ?_); rintro e X ⟨rfl, bX⟩; (have A := Lib.hid (A.out.keep bX)))))
    all_goals
      go_wp2
      go_ret
      exact ⟨rfl, A.out.1⟩
end Go.Proofs.YtigdjlhihhakmaaDoor

namespace Go.Proofs.YtigdjlhihhakmaaDoor
open Go.RowKit
set_option linter.unusedSimpArgs false
set_option linter.unusedVariables false

theorem Tryd.infoStr : (Tryd.prog.info? 9).map (fun i => (i.zero, i.size, i.bytes)) = some (some (.string ⟨#[]⟩), 1, 16) := by kernel_rfl
def strs (l : List (List UInt8)) : List Value := l.map fun s => .string ⟨s.toArray⟩
theorem strs_len (l : List (List UInt8)) : (strs l).length = l.length := List.length_map _
theorem strs_snoc (l : List (List UInt8)) (s : List UInt8) : strs (l ++ [s]) = strs l ++ [.string ⟨s.toArray⟩] := by unfold strs; rw [List.map_append]; rfl
/-- A list of strings in memory. -/
def StrsAt (W : World) (B : Nat) (v : Value) (l : List (List UInt8)) : Prop := W.ownsRow B 9 1 v l.length (strs l)
theorem StrsAt.keep {W W' : World} {B : Nat} {v : Value} {l : List (List UInt8)} (h : StrsAt W B v l) (hb : Below W.heap.size W W') : StrsAt W' B v l := World.ownsRow.kept h (grown_none hb) (by cases v.ownBlock <;> simp)
theorem StrsAt.slice {W : World} {B : Nat} {v : Value} {l : List (List UInt8)} (h : StrsAt W B v l) : ∃ a c, v = .slice a l.length c := by
  rcases h.2 with ⟨h1, h2⟩ | ⟨g, cap, cur, h1, _⟩
  · exact ⟨none, 0, by rw [h1, h2]⟩
  · exact ⟨_, _, h1⟩
/-- What is wrong with a length. -/
def chkL (q n : Int) : Int := if 1 ≤ q ∧ q ≤ 16 then (if n < 0 then 2 else if 65536 < n then 4 else 0) else 12
set_option maxRecDepth 100000 in
set_option maxHeartbeats 1600000 in
theorem checkLength_any (q n : Int) (w : World) :
    Calls Tryd.prog 42 #[.int .i64 q, .int .i64 n] w fun e w' => e = .returned (.int .i64 (chkL q n)) ∧ w' = w := by
  have HA := Lib.hid (fun W => isAlphabet_any q W)
  by_cases hq : 1 ≤ q ∧ q ≤ 16
  · have ea : (decide (1 ≤ q) && decide (q ≤ 16)) = true := by rw [decide_eq_true hq.1, decide_eq_true hq.2]; rfl
    simp only [ea] at HA
    rcases (show n < 0 ∨ (0 ≤ n ∧ 65536 < n) ∨ (0 ≤ n ∧ n ≤ 65536) by omega) with h | ⟨h, h2⟩ | ⟨h, h2⟩
    · have HC := Lib.hid (show chkL q n = 2 by unfold chkL; rw [if_pos hq, if_pos h])
      clear ea hq
      go_enter Tryd.func42, Tryd.ntmps42
      go_wp2_with (go_at_call 48; (with_reducible refine (HA.out _).mono ?_); rintro e W1 ⟨rfl, rfl⟩)
      go_ret
      exact ⟨by rw [HC.out]; rfl, rfl⟩
    · have HC := Lib.hid (show chkL q n = 4 by unfold chkL; rw [if_pos hq, if_neg (by omega), if_pos h2])
      clear ea hq
      go_enter Tryd.func42, Tryd.ntmps42
      go_wp2_with (go_at_call 48; (with_reducible refine (HA.out _).mono ?_); rintro e W1 ⟨rfl, rfl⟩)
      go_ret
      exact ⟨by rw [HC.out]; rfl, rfl⟩
    · have HC := Lib.hid (show chkL q n = 0 by unfold chkL; rw [if_pos hq, if_neg (by omega), if_neg (by omega)])
      clear ea hq
      go_enter Tryd.func42, Tryd.ntmps42
      go_wp2_with (go_at_call 48; (with_reducible refine (HA.out _).mono ?_); rintro e W1 ⟨rfl, rfl⟩)
      go_ret
      exact ⟨by rw [HC.out]; rfl, rfl⟩
  · have ea : (decide (1 ≤ q) && decide (q ≤ 16)) = false := by
      rw [Bool.and_eq_false_iff]
      by_cases h : 1 ≤ q
      · exact Or.inr (decide_eq_false (fun h2 => hq ⟨h, h2⟩))
      · exact Or.inl (decide_eq_false h)
    have HC := Lib.hid (show chkL q n = 12 by unfold chkL; rw [if_neg hq])
    simp only [ea] at HA
    clear ea hq
    go_enter Tryd.func42, Tryd.ntmps42
    go_wp2_with (go_at_call 48; (with_reducible refine (HA.out _).mono ?_); rintro e W1 ⟨rfl, rfl⟩)
    go_ret
    exact ⟨by rw [HC.out]; rfl, rfl⟩
set_option maxRecDepth 100000 in
set_option maxHeartbeats 1600000 in
theorem isShortList_any (q n : Nat) (w : World) (q1 : 1 ≤ q) (q2 : q ≤ 16) (hn : n ≤ 1000) :
    Calls Tryd.prog 43 #[.int .i64 (q : Int), .int .i64 (n : Int)] w fun e w' => e = .returned (.bool (decide (q ^ n ≤ 4096))) ∧ w' = w := by
  go_enter Tryd.func43, Tryd.ntmps43
  go_wp2_with fail
  go_loopg [5, 7] n (fun g s5 s7 wx => wx = w ∧ ∃ i m : Nat, i + g = n ∧ s7 = .int .i64 (i : Int) ∧ s5 = .int .i64 (m : Int) ∧ m ≤ 4096 ∧ Hid (q ^ i = m))
  case atStart => exact ⟨rfl, 0, 1, by omega, rfl, rfl, by omega, rfl⟩
  case round =>
    obtain ⟨rfl, i, m, hi, rfl, rfl, hm, Hm⟩ := hrel
    rcases gk with _ | g
    · obtain rfl : i = n := by omega
      have HD := Lib.hid (show decide (q ^ i ≤ 4096) = true by rw [Hm.out]; exact decide_eq_true hm)
      clear Hm
      go_wp2
      go_ret
      exact ⟨by rw [HD.out]; rfl, rfl⟩
    · obtain ⟨t, ht⟩ : ∃ t : Nat, m * q = t := ⟨_, rfl⟩
      have htb : t ≤ 65536 := by rw [← ht]; exact Nat.le_trans (Nat.mul_le_mul hm q2) (by decide)
      have hmul : (m : Int) * (q : Int) = (t : Int) := by rw [← ht, Int.natCast_mul]
      have Ht := Lib.hid (show q ^ (i + 1) = t by rw [Nat.pow_succ, Hm.out, ht])
      clear ht
      by_cases h4 : t ≤ 4096
      · go_wp2
        go_roundg g
        case measure => omega
        case rel => exact ⟨rfl, i + 1, t, by omega, by go_num, rfl, h4, Ht⟩
      · have HD := Lib.hid (show decide (q ^ n ≤ 4096) = false by
          rw [decide_eq_false_iff_not]
          have := Nat.pow_le_pow_right q1 (show i + 1 ≤ n by omega)
          rw [Ht.out] at this
          omega)
        clear Hm
        go_wp2
        go_ret
        exact ⟨by rw [HD.out]; rfl, rfl⟩

/-- All words of a length, in their order. -/
def wordsTo (q n m : Nat) : List (List UInt8) := (List.range m).map (unrk q n)
theorem wordsTo_len (q n m : Nat) : (wordsTo q n m).length = m := by unfold wordsTo; rw [List.length_map, List.length_range]
theorem wordsTo_succ (q n m : Nat) : wordsTo q n (m + 1) = wordsTo q n m ++ [unrk q n m] := by unfold wordsTo; rw [List.range_succ, List.map_append]; rfl
theorem unrk_zero (q n : Nat) (q1 : 1 ≤ q) : unrk q n 0 = List.replicate n 48 := by
  induction n with
  | zero => rfl
  | succ n ih => rw [unrk, Nat.zero_div, Nat.zero_mod, ih, List.replicate_succ']; rfl
theorem nxt_unrk {q n i : Nat} (q1 : 1 ≤ q) (q2 : q ≤ 16) (hi : i < q ^ n) : nxt q (unrk q n i) = if i + 1 < q ^ n then some (unrk q n (i + 1)) else none := by
  have hw := unrk_word q1 q2 n i
  have hk := rk_unrk q1 q2 n i hi
  have hl := unrk_len q n i
  cases h : nxt q (unrk q n i) with
  | none =>
    have := nxt_none q1 q2 h
    rw [hk, hl] at this
    rw [if_neg (by omega)]
  | some v =>
    obtain ⟨h1, h2, h3⟩ := nxt_some q1 q2 hw h
    have h4 := rk_lt h1
    rw [hl] at h2
    rw [h2, h3, hk] at h4
    have h5 := unrk_rk q2 n v h2 h1
    rw [h3, hk] at h5
    rw [if_pos h4, h5]
/-- What All returns. -/
def allR (q n : Int) : List (List UInt8) × Int :=
  if chkL q n = 0 then (if q.toNat ^ n.toNat ≤ 4096 then (wordsTo q.toNat n.toNat (q.toNat ^ n.toNat), 0) else ([], 4)) else ([], chkL q n)
def AllOut (w : World) (r : List (List UInt8) × Int) (e : Ending) (w' : World) : Prop := ∃ v, e = .returned (.tuple #[v, .int .i64 r.2]) ∧ StrsAt w' w.heap.size v r.1 ∧ Below w.heap.size w w'
theorem chkL_zero {q n : Int} (h : chkL q n = 0) : ∃ m k : Nat, q = (m : Int) ∧ n = (k : Int) ∧ 1 ≤ m ∧ m ≤ 16 ∧ k ≤ 65536 := by
  unfold chkL at h
  split at h
  · next h1 =>
    split at h
    · cases h
    · split at h
      · cases h
      · exact ⟨q.toNat, n.toNat, by omega, by omega, by omega, by omega, by omega⟩
  · cases h
theorem strs_nil (W : World) (B : Nat) : StrsAt W B (.slice none 0 0) [] := World.ownsRow_nil _ _ _ _
set_option maxRecDepth 100000 in
set_option maxHeartbeats 3200000 in
theorem all_err (q n : Int) (w : World) (h : chkL q n ≠ 0) :
    Calls Tryd.prog 13 #[.int .i64 q, .int .i64 n] w (AllOut w (allR q n)) := by
  have HX := Lib.hid (show allR q n = ([], chkL q n) by unfold allR; rw [if_neg h])
  rw [HX.out]
  have HC := Lib.hid (fun W => checkLength_any q n W)
  obtain ⟨c, hc⟩ : ∃ c, chkL q n = c := ⟨_, rfl⟩
  simp only [hc] at HC
  rw [hc] at h ⊢
  have h1 : (c == 0) = false := by rw [beq_eq_false_iff_ne]; exact h
  clear hc h HX
  go_enter Tryd.func13, Tryd.ntmps13
  go_wp2_with (go_at_call 42; (with_reducible refine (HC.out _).mono ?_); rintro e W1 ⟨rfl, rfl⟩)
  exact bodyPost_ret (v := .tuple #[.slice none 0 0, .int .i64 c]) (by simp [results, Tryd.results13, go_sem]) rfl ⟨_, rfl, strs_nil _ _, Below.refl _ _⟩
set_option maxRecDepth 100000 in
set_option maxHeartbeats 3200000 in
theorem all_many (q n : Nat) (w : World) (q1 : 1 ≤ q) (q2 : q ≤ 16) (hn : n ≤ 1000) (h0 : chkL (q : Int) (n : Int) = 0) (h : 4096 < q ^ n) :
    Calls Tryd.prog 13 #[.int .i64 (q : Int), .int .i64 (n : Int)] w (AllOut w (allR (q : Int) (n : Int))) := by
  have HX := Lib.hid (show allR (q : Int) (n : Int) = ([], 4) by unfold allR; rw [if_pos h0, Int.toNat_natCast, Int.toNat_natCast, if_neg (by omega)])
  rw [HX.out]
  have HC := Lib.hid (fun W => checkLength_any (q : Int) (n : Int) W)
  simp only [h0] at HC
  have HS := Lib.hid (fun W => isShortList_any q n W q1 q2 hn)
  simp only [decide_eq_false (Nat.not_le.2 h)] at HS
  clear h0 h HX
  go_enter Tryd.func13, Tryd.ntmps13
  go_wp2_with (first | (go_at_call 42; (with_reducible refine (HC.out _).mono ?_); rintro e W1 ⟨rfl, rfl⟩) | (go_at_call 43; (with_reducible refine (HS.out _).mono ?_); rintro e W1 ⟨rfl, rfl⟩))
  exact bodyPost_ret (v := .tuple #[.slice none 0 0, .int .i64 4]) (by simp [results, Tryd.results13, go_sem]) rfl ⟨_, rfl, strs_nil _ _, Below.refl _ _⟩
set_option maxRecDepth 100000 in
set_option maxHeartbeats 6400000 in
theorem all_few (q n : Nat) (w : World) (q1 : 1 ≤ q) (q2 : q ≤ 16) (hn : n ≤ 1000) (h0 : chkL (q : Int) (n : Int) = 0) (h : q ^ n ≤ 4096) :
    Calls Tryd.prog 13 #[.int .i64 (q : Int), .int .i64 (n : Int)] w (AllOut w (allR (q : Int) (n : Int))) := by
  have HX := Lib.hid (show allR (q : Int) (n : Int) = (wordsTo q n (q ^ n), 0) by unfold allR; rw [if_pos h0, Int.toNat_natCast, Int.toNat_natCast, if_pos h])
  rw [HX.out]
  obtain ⟨i0, hi, hz0, hz1, hz2⟩ := info_parts Tryd.infoStr
  have HC := Lib.hid (fun W => checkLength_any (q : Int) (n : Int) W)
  simp only [h0] at HC
  have HS := Lib.hid (fun W => isShortList_any q n W q1 q2 hn)
  simp only [decide_eq_true h] at HS
  have HL := Lib.hid (fun W => least_any n W (by omega))
  simp only [← unrk_zero q n q1] at HL
  have hpos : 0 < q ^ n := Nat.pow_pos q1
  have HU := Lib.hid (fun i W => successor_any q (unrk q n i) W q1 q2 (by rw [unrk_len]; omega) (unrk_word q1 q2 n i))
  have HN := Lib.hid (fun i (hi : i < q ^ n) => nxt_unrk q1 q2 hi)
  obtain ⟨M, hM⟩ : ∃ M, q ^ n = M := ⟨_, rfl⟩
  rw [hM] at h hpos HN ⊢
  clear h0 HX hM
  go_enter Tryd.func13, Tryd.ntmps13
  go_wp2_with (first | (go_at_call 42; (with_reducible refine (HC.out _).mono ?_); rintro e W1 ⟨rfl, hW⟩; (rw [hW]); (clear hW)) | (go_at_call 43; (with_reducible refine (HS.out _).mono ?_); rintro e W1 ⟨rfl, hW⟩; (rw [hW]); (clear hW)) | (go_at_call 44; (with_reducible refine (HL.out _).mono ?_); rintro e W1 ⟨rfl, b1⟩))
  go_loopg [7, 8, 9] M (fun g s7 s8 s9 wx => ∃ i : Nat, i + g = M ∧ s8 = .string ⟨((if i < M then some (unrk q n i) else none).getD []).toArray⟩ ∧ s9 = .bool (if i < M then some (unrk q n i) else none).isSome ∧ wx.ownsRow w.heap.size 9 1 s7 (wordsTo q n i).length (strs (wordsTo q n i)) ∧ Below w.heap.size w wx)
  case atStart => exact ⟨0, by omega, by rw [if_pos hpos]; rfl, by rw [if_pos hpos]; rfl, World.ownsRow_nil _ _ _ _, b1⟩
  case round =>
    obtain ⟨i, hiM, rfl, rfl, hown, hb⟩ := hrel
    rcases gk with _ | g
    · obtain rfl : i = M := by omega
      rw [if_neg (by omega)]
      have hown2 : StrsAt wr w.heap.size u7 (wordsTo q n i) := hown
      obtain ⟨a, c, rfl⟩ := hown2.slice
      clear hown
      dsimp only [Option.isSome, Option.getD]
      go_wp2
      exact bodyPost_ret (v := .tuple #[.slice a (wordsTo q n i).length c, .int .i64 0]) (by simp [results, Tryd.results13, go_sem]) rfl ⟨_, rfl, hown2, hb⟩
    · rw [if_pos (by omega)]
      dsimp only [Option.isSome, Option.getD]
      have hlt := hown.lt
      have hwl := wordsTo_len q n i
      have HWS := Lib.hid (wordsTo_succ q n i)
      obtain ⟨O, hO⟩ : ∃ O, (if i + 1 < M then some (unrk q n (i + 1)) else none) = O := ⟨_, rfl⟩
      have HNi := Lib.hid (HN.out i (by omega))
      rw [hO] at HNi
      have HO := Lib.hid hO
      clear hO
      obtain ⟨U, hU⟩ : ∃ U, unrk q n i = U := ⟨_, rfl⟩
      have HUi := Lib.hid (HU.out i)
      simp only [hU] at HUi
      rw [hU] at HWS HNi ⊢
      have hbs := hb.size
      clear hU
      go_wp2_with (first
        | (go_at_call 45; (with_reducible refine (HUi.out _).mono ?_); rintro e W3 ⟨rfl, b3⟩; (rw [HNi.out]))
        | (at_builtin; refine wpList_append_own_at _ rfl _ _ 25 rfl w.heap.size 9 i0 (.string ⟨#[]⟩) 1 16 Tryd.underlying25 hi hz0 hz1 hz2 rfl (by decide) _ _ _ rfl (hown.alloc _) ⟨wr.heap.size, 0, none⟩ 1 1 [.string ⟨U.toArray⟩] rfl rfl (cell_one_new _ _ _) (by intro u hu; simp at hu; subst hu; rfl) (by unfold maxLen; omega) (by omega) (by rw [World.size_alloc]; omega) ?_; intro v' W2 hown2 hgrow _ hv'; (have hb2 : Below w.heap.size w W2 := (hb.alloc hbs _).grown hgrow (by rw [World.size_alloc]; omega) (fun k hk => (hlt k hk).1))))
      have hown3 : W3.ownsRow w.heap.size 9 1 v' (wordsTo q n (i + 1)).length (strs (wordsTo q n (i + 1))) := by
        rw [HWS.out, strs_snoc, List.length_append, List.length_singleton]
        exact hown2.kept (grown_none b3) (by cases v'.ownBlock <;> simp)
      have hb3 := below_more hb2 (Nat.le_refl _) b3
      clear hown hown2 hgrow hlt hv' hb hb2

      go_roundg g
      case measure => omega
      case rel => exact ⟨i + 1, by omega, by rw [HO.out], by rw [HO.out], hown3, hb3⟩
end Go.Proofs.YtigdjlhihhakmaaDoor
