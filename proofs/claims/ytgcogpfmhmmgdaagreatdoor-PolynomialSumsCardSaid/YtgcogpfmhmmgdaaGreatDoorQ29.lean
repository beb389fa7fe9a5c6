/- Integers in variables that a region makes, reads and writes, in any order of its operations (for seats without the texts of words). No condition. The greatest common divisor of two polynomials, as a run of steps: plain facts. No condition. What polynomial.commonDivisor returns: what a run of steps finds. Condition: a run with bounds. -/
import Derived.Test.YtgcogpfmhmmgdaaGreatDoorQ08
import Derived.Test.YtgcogpfmhmmgdaaGreatDoorQ28
import Derived.Deep.RegionHeld3

namespace Go.Proofs.YtgcogpfmhmmgdaaGreatDoor
open Go.RowKit
set_option linter.unusedSimpArgs false
set_option linter.unusedVariables false

theorem cell_two0 (W : World) (x y : Value) (t : TypeId) : (W.alloc (.cells #[x, y] t)).cell? ⟨W.heap.size, 0, none⟩ = some x := by simp [go_sem]
theorem cell_two1 (W : World) (x y : Value) (t : TypeId) : (W.alloc (.cells #[x, y] t)).cell? ⟨W.heap.size, 1, none⟩ = some y := by simp [go_sem]
/-- The variable of an integer. -/
def BVar (W : World) (p : Nat) (z : Int) : Prop := W.cell? ⟨p, 0, none⟩ = some (.bool (sg z)) ∧ W.cell? ⟨p, 1, none⟩ = some (.string (mg z))
theorem BVar.keep {W W' : World} {p : Nat} {z : Int} (h : BVar W p z) (b : Below W.heap.size W W') : BVar W' p z := ⟨cell_keep h.1 b, cell_keep h.2 b⟩
theorem BVar.new (W : World) (z : Int) (t : TypeId) : BVar (W.alloc (.cells #[.bool (sg z), .string (mg z)] t)) W.heap.size z := by
  constructor <;> simp [go_sem]
theorem bvar_far {W : World} {p r : Nat} {y : Int} {u v : Value} (h : W.cell? ⟨p, 0, none⟩ = some (.bool (sg y)) ∧ W.cell? ⟨p, 1, none⟩ = some (.string (mg y))) (hne : r ≠ p) :
    ((W.setCell ⟨r, 0, none⟩ u).setCell ⟨r, 1, none⟩ v).cell? ⟨p, 0, none⟩ = some (.bool (sg y)) ∧ ((W.setCell ⟨r, 0, none⟩ u).setCell ⟨r, 1, none⟩ v).cell? ⟨p, 1, none⟩ = some (.string (mg y)) := by
  rw [World.cell?_setCell_far _ _ _ _ (by exact hne), World.cell?_setCell_far _ _ _ _ (by exact hne), World.cell?_setCell_far _ _ _ _ (by exact hne), World.cell?_setCell_far _ _ _ _ (by exact hne)]
  exact h
/-- A variable of an integer in memory: what its cells hold, and that they may be written. -/
def BFr (W : World) (p : Nat) : Prop := W.frozen? ⟨p, 0, none⟩ = false ∧ W.frozen? ⟨p, 1, none⟩ = false
theorem BVar.lt {W : World} {p : Nat} {z : Int} (h : BVar W p z) : p < W.heap.size := World.block_lt_of_cell? W ⟨p, 0, none⟩ h.1
/-- A variable whose integer has come up, or not yet. -/
def SlW (B : Nat) (x : Int) (F : Prop) (u : Value) (W : World) : Prop := ∃ p, u = .pointer (some ⟨p, 0, none⟩) ∧ B ≤ p ∧ (∃ g s, W.cell? ⟨p, 0, none⟩ = some (.bool g) ∧ W.cell? ⟨p, 1, none⟩ = some (.string s) ∧ BFr W p) ∧ (F → BVar W p x)
theorem bfr_keep {W W' : World} {p : Nat} {g : Bool} {s : ByteArray} (h : W.cell? ⟨p, 0, none⟩ = some (.bool g) ∧ W.cell? ⟨p, 1, none⟩ = some (.string s) ∧ BFr W p) (hb : Below W.heap.size W W') :
    W'.cell? ⟨p, 0, none⟩ = some (.bool g) ∧ W'.cell? ⟨p, 1, none⟩ = some (.string s) ∧ BFr W' p :=
  ⟨cell_keep h.1 hb, cell_keep h.2.1 hb, frozen_keep h.1 h.2.2.1 hb, frozen_keep h.2.1 h.2.2.2 hb⟩
theorem SlW.keep {B : Nat} {x : Int} {F : Prop} {u : Value} {W W' : World} (h : SlW B x F u W) (hb : Below W.heap.size W W') : SlW B x F u W' := by
  obtain ⟨p, h1, h2, ⟨g, s, h3⟩, h4⟩ := h
  exact ⟨p, h1, h2, ⟨g, s, bfr_keep h3 hb⟩, fun f => (h4 f).keep hb⟩
theorem SlW.imp {B : Nat} {x : Int} {F F' : Prop} {u : Value} {W : World} (h : SlW B x F u W) (hf : F' → F) : SlW B x F' u W := by
  obtain ⟨p, h1, h2, h3, h4⟩ := h
  exact ⟨p, h1, h2, h3, fun f => h4 (hf f)⟩
theorem SlW.new {B : Nat} {x : Int} {F : Prop} {W : World} {t : TypeId} {g : Bool} {s : ByteArray} (hF : ¬F) (hb : B ≤ W.heap.size) : SlW B x F (.pointer (some ⟨W.heap.size, 0, none⟩)) (W.alloc (.cells #[.bool g, .string s] t)) := by
  refine ⟨_, rfl, hb, ⟨g, s, cell_two0 _ _ _ _, cell_two1 _ _ _ _, ?_, ?_⟩, fun f => absurd f hF⟩ <;> simp [go_sem]
theorem SlW.ne_new {B : Nat} {x : Int} {F : Prop} {u : Value} {W : World} (h : SlW B x F u W) : u ≠ .pointer (some ⟨W.heap.size, 0, none⟩) := by
  obtain ⟨p, rfl, _, ⟨g, s, h3⟩, _⟩ := h
  have := World.block_lt_of_cell? W ⟨p, 0, none⟩ h3.1
  dsimp only at this
  intro e
  injection e with e
  injection e with e
  injection e with e
  omega
/-- An integer stored in a variable. -/
def stI (W : World) (q : Nat) (y : Int) : World := (W.setCell ⟨q, 0, none⟩ (.bool (sg y))).setCell ⟨q, 1, none⟩ (.string (mg y))
theorem stI_below {B q : Nat} {W : World} {y : Int} (h : B ≤ q) : Below B W (stI W q y) := ((Below.refl B W).setCell (p := ⟨q, 0, none⟩) h _).setCell (p := ⟨q, 1, none⟩) h _
theorem stI_far {W : World} {p q : Nat} {y z : Int} (h : BVar W p z) (hne : q ≠ p) : BVar (stI W q y) p z := bvar_far h hne
theorem stI_far_cells {W : World} {p q : Nat} {y : Int} {a b : Value} (h : W.cell? ⟨p, 0, none⟩ = some a ∧ W.cell? ⟨p, 1, none⟩ = some b ∧ BFr W p) (hne : q ≠ p) :
    (stI W q y).cell? ⟨p, 0, none⟩ = some a ∧ (stI W q y).cell? ⟨p, 1, none⟩ = some b ∧ BFr (stI W q y) p := by
  unfold stI BFr
  rw [World.cell?_setCell_far _ _ _ _ (by exact hne), World.cell?_setCell_far _ _ _ _ (by exact hne), World.cell?_setCell_far _ _ _ _ (by exact hne), World.cell?_setCell_far _ _ _ _ (by exact hne), World.frozen?_setCell, World.frozen?_setCell, World.frozen?_setCell, World.frozen?_setCell]
  exact h
theorem stI_same {W : World} {q : Nat} {y : Int} {a b : Value} (h : W.cell? ⟨q, 0, none⟩ = some a ∧ W.cell? ⟨q, 1, none⟩ = some b ∧ BFr W q) : BVar (stI W q y) q y ∧ BFr (stI W q y) q := by
  obtain ⟨h1, h2, h3, h4⟩ := h
  unfold stI BVar BFr
  refine ⟨⟨?_, ?_⟩, ?_, ?_⟩ <;> simp [go_sem, h1, h2, h3, h4]
theorem SlW.far {B q : Nat} {x y : Int} {F : Prop} {u : Value} {W : World} (h : SlW B x F u W) (hne : u ≠ .pointer (some ⟨q, 0, none⟩)) : SlW B x F u (stI W q y) := by
  obtain ⟨p, rfl, h2, ⟨g, s, h3⟩, h4⟩ := h
  have hpq : q ≠ p := fun e => hne (by rw [e])
  exact ⟨p, rfl, h2, ⟨g, s, stI_far_cells h3 hpq⟩, fun f => stI_far (h4 f) hpq⟩
theorem SlW.put {B p : Nat} {x : Int} {F F' : Prop} {W : World} (h : SlW B x F (.pointer (some ⟨p, 0, none⟩)) W) : SlW B x F' (.pointer (some ⟨p, 0, none⟩)) (stI W p x) := by
  obtain ⟨p', e, h2, ⟨g, s, h3⟩, _⟩ := h
  injection e with e
  injection e with e
  injection e with e
  subst e
  obtain ⟨k1, k2⟩ := stI_same (y := x) h3
  exact ⟨p, rfl, h2, ⟨_, _, k1.1, k1.2, k2⟩, fun _ => k1⟩
theorem flF {L : Array Bool} {i j : Nat} (h : i ≠ j) (hf : (L.setIfInBounds i true).getD j false = false) : L.getD j false = false := by
  simp only [Array.getD_eq_getD_getElem?, Array.getElem?_setIfInBounds_ne h] at hf ⊢
  exact hf
/-- A variable that a region reads and writes. -/
def VW (p : Nat) (z z2 : Int) (F0 F1 : Prop) (W : World) : Prop := (∃ z', BVar W p z' ∧ BFr W p) ∧ (F0 → BVar W p z) ∧ (F1 → BVar W p z2)
theorem VW.keep {p : Nat} {z z2 : Int} {F0 F1 : Prop} {W W' : World} (h : VW p z z2 F0 F1 W) (hb : Below W.heap.size W W') : VW p z z2 F0 F1 W' := by
  obtain ⟨⟨z', h1, h2⟩, h3, h4⟩ := h
  exact ⟨⟨z', h1.keep hb, frozen_keep h1.1 h2.1 hb, frozen_keep h1.2 h2.2 hb⟩, fun f => (h3 f).keep hb, fun f => (h4 f).keep hb⟩
theorem VW.imp {p : Nat} {z z2 : Int} {F0 F1 G0 G1 : Prop} {W : World} (h : VW p z z2 F0 F1 W) (h0 : G0 → F0) (h1 : G1 → F1) : VW p z z2 G0 G1 W :=
  ⟨h.1, fun g => h.2.1 (h0 g), fun g => h.2.2 (h1 g)⟩
theorem VW.far {p q : Nat} {z z2 y : Int} {F0 F1 : Prop} {W : World} (h : VW p z z2 F0 F1 W) (hne : p ≠ q) : VW p z z2 F0 F1 (stI W q y) := by
  obtain ⟨⟨z', h1, h2⟩, h3, h4⟩ := h
  have k := stI_far_cells (y := y) ⟨h1.1, h1.2, h2⟩ (Ne.symm hne)
  exact ⟨⟨z', ⟨k.1, k.2.1⟩, k.2.2⟩, fun f => stI_far (h3 f) (Ne.symm hne), fun f => stI_far (h4 f) (Ne.symm hne)⟩
theorem VW.put {p : Nat} {z z2 : Int} {F0 F1 G0 G1 : Prop} {W : World} (h : VW p z z2 F0 F1 W) (h0 : ¬ G0) : VW p z z2 G0 G1 (stI W p z2) := by
  obtain ⟨⟨z', h1, h2⟩, h3, h4⟩ := h
  have k := stI_same (y := z2) ⟨h1.1, h1.2, h2⟩
  exact ⟨⟨z2, k⟩, fun f => absurd f h0, fun _ => k.1⟩
end Go.Proofs.YtgcogpfmhmmgdaaGreatDoor

namespace Go.Proofs.YtgcogpfmhmmgdaaGreatDoor
open Go.RowKit

theorem qD_zero' (d : Int) : qD 0 d = 0 := by
  unfold qD dq
  simp
/-- A polynomial divided by a number. -/
def exqL (L : List Int) (d : Int) : List Int := (List.range (trm L).length).map fun i => qD (co L i) d
theorem exqL_len (L : List Int) (d : Int) : (exqL L d).length = (trm L).length := by unfold exqL; rw [List.length_map, List.length_range]
theorem co_exqL (L : List Int) (d : Int) (i : Nat) : co (exqL L d) i = qD (co L i) d := by
  rcases Nat.lt_or_ge i (trm L).length with h | h
  · unfold exqL
    show (List.map _ _).getD i 0 = _
    rw [List.getD_eq_getElem?_getD, List.getElem?_map, List.getElem?_range h]; rfl
  · rw [co_ge (by rw [exqL_len]; exact h), trm_above L h, qD_zero']
/-- The primitive part. -/
def primL (L : List Int) : List Int := exqL L (cont L)
/-- A run of the steps by which a common divisor is found: each one divides, and takes out a number that is known to divide. -/
inductive CdRun (k : Nat) : Nat → List Int → List Int → Int → Int → List Int → List Int → Prop
  | stop {x y : List Int} {l h : Int} (hy : (trm y).length ≤ 1) (lx : x.length ≤ 100000) (ly : y.length ≤ 100000) (bx : PB x k) (by' : PB y k) : CdRun k 0 x y l h x y
  | step {m n g : Nat} {x y R X Y : List Int} {l h c d h' : Int} (hy : (trm y).length = n + 2) (hx : (trm x).length = n + 2 + g) (hn : n + 2 + g ≤ 200)
      (lx : x.length ≤ 100000) (ly : y.length ≤ 100000) (bx : PB x k) (by' : PB y k) (bl : l.natAbs < 4294967296 ^ k) (bh : h.natAbs < 4294967296 ^ k)
      (hc : co y (n + 1) = c) (hR : (divR y (n + 1) c (g + 1) [] (trm x)).2 = R) (lR : R.length ≤ 100000) (bR : PB R k)
      (hp : ∀ j, j ≤ g → (h ^ j).natAbs < 4294967296 ^ k) (hd : l * h ^ g = d) (bd : d.natAbs < 4294967296 ^ k) (d0 : trm R ≠ [] → d ≠ 0)
      (hq : ∀ j, j ≤ g → (c ^ j).natAbs < 4294967296 ^ k) (hh : (if g = 0 then h else qD (c ^ g) (h ^ (g - 1))) = h') (h0 : g ≠ 0 → h ^ (g - 1) ≠ 0)
      (next : CdRun k m y (exqL R d) c h' X Y) : CdRun k (m + 1) x y l h X Y
theorem CdRun.bounds {k m : Nat} {x y X Y : List Int} {l h : Int} (r : CdRun k m x y l h X Y) : (x.length ≤ 100000 ∧ y.length ≤ 100000) ∧ PB x k ∧ PB y k := by
  cases r with
  | stop hy lx ly bx by' => exact ⟨⟨lx, ly⟩, bx, by'⟩
  | step hy hx hn lx ly bx by' => exact ⟨⟨lx, ly⟩, bx, by'⟩
theorem CdRun.inv {k m : Nat} {x y X Y : List Int} {l h : Int} (r : CdRun k (m + 1) x y l h X Y) : ∃ (n g : Nat) (R : List Int) (c d h' : Int),
    ((trm y).length = n + 2 ∧ (trm x).length = n + 2 + g ∧ n + 2 + g ≤ 200) ∧ (l.natAbs < 4294967296 ^ k ∧ h.natAbs < 4294967296 ^ k) ∧ (co y (n + 1) = c ∧ (divR y (n + 1) c (g + 1) [] (trm x)).2 = R) ∧ (R.length ≤ 100000 ∧ PB R k) ∧
    (∀ j, j ≤ g → (h ^ j).natAbs < 4294967296 ^ k) ∧ (l * h ^ g = d ∧ d.natAbs < 4294967296 ^ k ∧ (trm R ≠ [] → d ≠ 0)) ∧ (∀ j, j ≤ g → (c ^ j).natAbs < 4294967296 ^ k) ∧ (if g = 0 then h else qD (c ^ g) (h ^ (g - 1))) = h' ∧ (g ≠ 0 → h ^ (g - 1) ≠ 0) ∧ CdRun k m y (exqL R d) c h' X Y := by
  cases r with
  | step hy hx hn lx ly bx by' bl bh hc hR lR bR hp hd bd d0 hq hh h0 next => exact ⟨_, _, _, _, _, _, ⟨hy, hx, hn⟩, ⟨bl, bh⟩, ⟨hc, hR⟩, ⟨lR, bR⟩, hp, ⟨hd, bd, d0⟩, hq, hh, h0, next⟩
theorem lead_of {L : List Int} {n : Nat} (h : (trm L).length = n + 1) : lead L = co L n := by
  unfold lead
  rw [if_neg (fun e => by rw [e] at h; cases h), h]; rfl
/-- What is found. -/
def cdL (X Y : List Int) : List Int := if (trm Y).length = 1 then primL Y else primL X
theorem pb_all {L : List Int} {k : Nat} (h : ∀ z ∈ L, z.natAbs < 4294967296 ^ k) : PB L k := fun i => by
  rcases Nat.lt_or_ge i L.length with hi | hi
  · have := co_get hi
    exact h _ (List.mem_of_getElem? this)
  · rw [co_ge hi]; exact Nat.pow_pos (by decide)
theorem PolyC.far {W : World} {base : Nat} {v : Value} {L : List Int} (h : PolyC W base v L) {a : Addr} (ha : ∀ b n c, v = .slice (some ⟨b, 0, none⟩) n c → b ≠ a.block) (u : Value) : PolyC (W.setCell a u) base v L := by
  rcases h with ⟨rfl, rfl⟩ | ⟨b, n, c, rfl, h1, h2, h3, g, s, h4, h5⟩
  · exact Or.inl ⟨rfl, rfl⟩
  · exact Or.inr ⟨b, n, c, rfl, h1, h2, h3, g, s, h4.far (ha b _ _ rfl) u, h5⟩
/-- A polynomial that lies apart from two variables. -/
def PF (p r : Nat) (W : World) (v : Value) (L : List Int) : Prop := (∃ base, PolyC W base v L) ∧ ∀ b n c, v = .slice (some ⟨b, 0, none⟩) n c → b ≠ p ∧ b ≠ r
theorem PF.keep {p r : Nat} {W W' : World} {v : Value} {L : List Int} (h : PF p r W v L) (hb : Below W.heap.size W W') : PF p r W' v L := by
  obtain ⟨⟨base, h1⟩, h2⟩ := h
  exact ⟨⟨base, h1.keep hb⟩, h2⟩
theorem PF.farp {p r o : Nat} {W : World} {v : Value} {L : List Int} (h : PF p r W v L) (u : Value) : PF p r (W.setCell ⟨p, o, none⟩ u) v L := by
  obtain ⟨⟨base, h1⟩, h2⟩ := h
  exact ⟨⟨base, h1.far (fun b n c e => (h2 b n c e).1) u⟩, h2⟩
theorem PF.farr {p r o : Nat} {W : World} {v : Value} {L : List Int} (h : PF p r W v L) (u : Value) : PF p r (W.setCell ⟨r, o, none⟩ u) v L := by
  obtain ⟨⟨base, h1⟩, h2⟩ := h
  exact ⟨⟨base, h1.far (fun b n c e => (h2 b n c e).2) u⟩, h2⟩
theorem PF.at {p r k : Nat} {W : World} {v : Value} {L : List Int} (h : PF p r W v L) (hk : k ≤ 10000000) (hb : PB L k) : PolyAt W v L k := by
  obtain ⟨⟨base, h1⟩, h2⟩ := h
  exact h1.at hk hb
theorem PF.new {p r base : Nat} {W : World} {v : Value} {L : List Int} (h : PolyC W base v L) (hp : p < base) (hr : r < base) : PF p r W v L := by
  refine ⟨⟨base, h⟩, fun b n c e => ?_⟩
  rcases h with ⟨rfl, rfl⟩ | ⟨b', n', c', rfl, h1, h2, h3, -⟩
  · cases e
  · injection e with e1 e2 e3
    injection e1 with e1
    injection e1 with e1
    subst e1
    exact ⟨by omega, by omega⟩
theorem PF.old {p r base : Nat} {W : World} {v : Value} {L : List Int} (h : PolyC W base v L) (hp : W.heap.size ≤ p) (hr : W.heap.size ≤ r) : PF p r W v L := by
  refine ⟨⟨base, h⟩, fun b n c e => ?_⟩
  rcases h with ⟨rfl, rfl⟩ | ⟨b', n', c', rfl, h1, h2, h3, g, s, h4, h5⟩
  · cases e
  · have := h4.lt
    injection e with e1 e2 e3
    injection e1 with e1
    injection e1 with e1
    subst e1
    exact ⟨by omega, by omega⟩
/-- What the loop keeps: two polynomials, and the variables of two numbers. -/
def CB (w : World) (p r : Nat) (vx vy : Value) (x y : List Int) (gl : Bool) (sl : ByteArray) (h : Int) (W : World) : Prop :=
  (Below w.heap.size w W ∧ w.heap.size ≤ p ∧ w.heap.size ≤ r ∧ p ≠ r ∧ p < W.heap.size ∧ r < W.heap.size) ∧ (PF p r W vx x ∧ PF p r W vy y) ∧ IVarF W p gl sl ∧ IVarF W r (sg h) (mg h)
theorem CB.keep {w W X : World} {p r : Nat} {vx vy : Value} {x y : List Int} {gl : Bool} {sl : ByteArray} {h : Int} (c : CB w p r vx vy x y gl sl h W) (b : Below W.heap.size W X) : CB w p r vx vy x y gl sl h X := by
  obtain ⟨⟨c1, c2, c3, c4, c5, c6⟩, ⟨c7, c8⟩, c9, c10⟩ := c
  exact ⟨⟨below_more c1 (Nat.le_refl _) b, c2, c3, c4, Nat.lt_of_lt_of_le c5 b.size, Nat.lt_of_lt_of_le c6 b.size⟩, ⟨c7.keep b, c8.keep b⟩, c9.keep b, c10.keep b⟩
theorem CB.drew {w W : World} {p r : Nat} {vx vy : Value} {x y : List Int} {gl : Bool} {sl : ByteArray} {h : Int} (c : CB w p r vx vy x y gl sl h W) : CB w p r vx vy x y gl sl h W.drew := c.keep (Below.refl _ _).drew
theorem CB.cells {w W : World} {p r : Nat} {vx vy : Value} {x y : List Int} {gl : Bool} {sl : ByteArray} {h : Int} (c : CB w p r vx vy x y gl sl h W) :
    W.cell? ⟨p, 0, none⟩ = some (.bool gl) ∧ W.cell? ⟨p, 1, none⟩ = some (.string sl) ∧ W.cell? ⟨r, 0, none⟩ = some (.bool (sg h)) ∧ W.cell? ⟨r, 1, none⟩ = some (.string (mg h)) := ⟨c.2.2.1.1.1, c.2.2.1.1.2, c.2.2.2.1.1, c.2.2.2.1.2⟩
theorem CB.fr {w W : World} {p r : Nat} {vx vy : Value} {x y : List Int} {gl : Bool} {sl : ByteArray} {h : Int} (c : CB w p r vx vy x y gl sl h W) :
    W.frozen? ⟨p, 0, none⟩ = false ∧ W.frozen? ⟨p, 1, none⟩ = false := ⟨c.2.2.1.2.1, c.2.2.1.2.2⟩
/-- A number stored in the first variable. -/
theorem CB.put {w W : World} {p r : Nat} {vx vy : Value} {x y : List Int} {gl : Bool} {sl : ByteArray} {h : Int} (c : CB w p r vx vy x y gl sl h W) (g' : Bool) (s' : ByteArray) :
    CB w p r vx vy x y g' s' h ((W.setCell ⟨p, 0, none⟩ (.bool g')).setCell ⟨p, 1, none⟩ (.string s')) := by
  obtain ⟨⟨c1, c2, c3, c4, c5, c6⟩, ⟨c7, c8⟩, c9, c10⟩ := c
  refine ⟨⟨(c1.setCell (p := ⟨p, 0, none⟩) c2 _).setCell (p := ⟨p, 1, none⟩) c2 _, c2, c3, c4, by rw [World.size_setCell, World.size_setCell]; exact c5, by rw [World.size_setCell, World.size_setCell]; exact c6⟩, ⟨(c7.farp _).farp _, (c8.farp _).farp _⟩, c9.set g' s', ?_⟩
  refine ⟨(c10.1.far (by exact Ne.symm c4) _).far (by exact Ne.symm c4) _, ?_, ?_⟩
  · rw [World.frozen?_setCell, World.frozen?_setCell]; exact c10.2.1
  · rw [World.frozen?_setCell, World.frozen?_setCell]; exact c10.2.2
/-- Without the second variable. -/
def CL (w : World) (p r : Nat) (vx vy : Value) (x y : List Int) (gl : Bool) (sl : ByteArray) (W : World) : Prop :=
  (Below w.heap.size w W ∧ w.heap.size ≤ p ∧ w.heap.size ≤ r ∧ p ≠ r ∧ p < W.heap.size ∧ r < W.heap.size) ∧ (PF p r W vx x ∧ PF p r W vy y) ∧ IVarF W p gl sl
theorem CL.keep {w W X : World} {p r : Nat} {vx vy : Value} {x y : List Int} {gl : Bool} {sl : ByteArray} (c : CL w p r vx vy x y gl sl W) (b : Below W.heap.size W X) : CL w p r vx vy x y gl sl X := by
  obtain ⟨⟨c1, c2, c3, c4, c5, c6⟩, ⟨c7, c8⟩, c9⟩ := c
  exact ⟨⟨below_more c1 (Nat.le_refl _) b, c2, c3, c4, Nat.lt_of_lt_of_le c5 b.size, Nat.lt_of_lt_of_le c6 b.size⟩, ⟨c7.keep b, c8.keep b⟩, c9.keep b⟩
theorem CL.drew {w W : World} {p r : Nat} {vx vy : Value} {x y : List Int} {gl : Bool} {sl : ByteArray} (c : CL w p r vx vy x y gl sl W) : CL w p r vx vy x y gl sl W.drew := c.keep (Below.refl _ _).drew
theorem CL.lead {w W : World} {p r : Nat} {vx vy : Value} {x y : List Int} {gl : Bool} {sl : ByteArray} (c : CL w p r vx vy x y gl sl W) : W.cell? ⟨p, 0, none⟩ = some (.bool gl) ∧ W.cell? ⟨p, 1, none⟩ = some (.string sl) := c.2.2.1
theorem CL.far {w W : World} {p r : Nat} {vx vy : Value} {x y : List Int} {gl : Bool} {sl : ByteArray} {z : Int} (c : CL w p r vx vy x y gl sl W) : CL w p r vx vy x y gl sl (stI W r z) := by
  obtain ⟨⟨c1, c2, c3, c4, c5, c6⟩, ⟨c7, c8⟩, c9⟩ := c
  have hs : W.heap.size ≤ (stI W r z).heap.size := (stI_below (B := r) (W := W) (q := r) (y := z) (Nat.le_refl _)).size
  refine ⟨⟨c1.trans (stI_below c3), c2, c3, c4, Nat.lt_of_lt_of_le c5 hs, Nat.lt_of_lt_of_le c6 hs⟩, ⟨(c7.farr _).farr _, (c8.farr _).farr _⟩, (c9.1.far (by exact c4) _).far (by exact c4) _, ?_, ?_⟩
  · exact ((World.frozen?_setCell _ _ _ _).trans (World.frozen?_setCell _ _ _ _)).trans c9.2.1
  · exact ((World.frozen?_setCell _ _ _ _).trans (World.frozen?_setCell _ _ _ _)).trans c9.2.2
theorem CB.cl {w W : World} {p r : Nat} {vx vy : Value} {x y : List Int} {gl : Bool} {sl : ByteArray} {h : Int} (c : CB w p r vx vy x y gl sl h W) : CL w p r vx vy x y gl sl W := ⟨c.1, c.2.1, c.2.2.1⟩
end Go.Proofs.YtgcogpfmhmmgdaaGreatDoor

namespace Go.Proofs.YtgcogpfmhmmgdaaGreatDoor
open Go.RowKit Go.Shelf
set_option linter.unusedSimpArgs false
set_option linter.unusedVariables false

theorem prim_out (v : Value) (L : List Int) (k : Nat) (w : World) (h : PolyAt w v L k) (hL : L.length ≤ 100000) (hk : k ≤ 1000000) : Calls Tryz.prog 64 #[v] w (PolyOut w (primL L)) :=
  prim_any v L (primL L) k w h hL hk (exqL_len _ _) (fun i => co_exqL L (cont L) i)
set_option maxRecDepth 100000 in
set_option maxHeartbeats 12800000 in
theorem cd_any (v1 v2 : Value) (L M X Y : List Int) (k m : Nat) (w : World) (h1 : PolyAt w v1 L k) (h2 : PolyAt w v2 M k) (hL : L.length ≤ 100000) (hM : M.length ≤ 100000) (hk : k ≤ 1000) (hk1 : 1 ≤ k)
    (hge : ¬ degZ (primL L) < degZ (primL M)) (run : CdRun k m (primL L) (primL M) 1 1 X Y) :
    Calls Tryz.prog 63 #[v1, v2] w (PolyOut w (cdL X Y)) := by
  have H1 := Lib.hid h1
  have H2 := Lib.hid h2
  have HR := Lib.hid run
  obtain ⟨⟨l1, l2⟩, pb1, pb2⟩ := run.bounds
  have HP1 := Lib.hid pb1
  have HP2 := Lib.hid pb2
  have HD := Lib.hid (decide_eq_false hge)
  obtain ⟨a, ha⟩ : ∃ a, primL L = a := ⟨_, rfl⟩
  obtain ⟨b, hb⟩ : ∃ b, primL M = b := ⟨_, rfl⟩
  have HL1 := Lib.hid (fun W v h => prim_out v L k W h hL (by omega))
  have HL2 := Lib.hid (fun W v h => prim_out v M k W h hM (by omega))
  simp only [ha, hb] at HR HP1 HP2 HD HL1 HL2
  rw [ha] at l1
  rw [hb] at l2
  have hmx : Tryz.prog.follows .mixedOrders = true := by kernel_rfl
  have HO := Lib.hid (fun W => iof_any 1 W (by decide) (by decide))
  clear h1 h2 run pb1 pb2 ha hb hge
  go_enter Tryz.func63, Tryz.ntmps63
  go_wp2_with fail
  refine (HL1.out _ _ H1.out).mono ?_
  rintro e W1 ⟨u1, rfl, PA, b1⟩
  go_wp2_with fail
  refine (HL2.out _ _ (H2.out.keep b1)).mono ?_
  rintro e W2 ⟨u2, rfl, PM, b2⟩
  have PA2 := Lib.hid (PA.keep b2)
  have PM2 := Lib.hid (PM.wider b1.size)
  have B2 := below_more b1 (Nat.le_refl _) b2
  clear PA PM b1 b2
  go_wp2_with fail
  refine (deg_any _ a k _ (PA2.out.at (by omega) HP1.out) (by omega)).mono ?_
  rintro e W3 ⟨rfl, b3⟩
  have PA2 := Lib.hid (PA2.out.keep b3)
  have PM2 := Lib.hid (PM2.out.keep b3)
  have B3 := below_more B2 (Nat.le_refl _) b3
  clear B2 b3
  go_wp2_with fail
  refine (deg_any _ b k _ (PM2.out.at (by omega) HP2.out) (by omega)).mono ?_
  rintro e W4 ⟨rfl, b4⟩
  have PA2 := Lib.hid (PA2.out.keep b4)
  have PM2 := Lib.hid (PM2.out.keep b4)
  have B4 := below_more B3 (Nat.le_refl _) b4
  clear B3 b4
  have hd := HD.out
  go_wp2_with fail
  refine (HO.out _).mono ?_
  rintro e W5 ⟨rfl, b5⟩
  go_wp2_with fail
  refine (HO.out _).mono ?_
  rintro e W6 ⟨rfl, b6⟩
  go_wp2_with fail
  have B6 := below_more (below_more B4 (Nat.le_refl _) b5) (Nat.le_refl _) b6
  have ba := below1 W6 (.cells #[.bool (sg 1), .string (mg 1)] 27)
  have bb := below1 (W6.alloc (.cells #[.bool (sg 1), .string (mg 1)] 27)) (.cells #[.bool (sg 1), .string (mg 1)] 27)
  have K0 := Lib.hid (show CB w W6.heap.size (W6.heap.size + 1) u1 u2 a b (sg 1) (mg 1) 1 _ from
    ⟨⟨below_more (below_more B6 (Nat.le_refl _) ba) (Nat.le_refl _) bb, B6.size, Nat.le_succ_of_le B6.size, Nat.ne_of_lt (Nat.lt_succ_self _), by rw [World.size_alloc, World.size_alloc]; omega, by rw [World.size_alloc, World.size_alloc]; omega⟩,
     ⟨((PF.old ((PA2.out.keep b5).keep b6) (Nat.le_refl _) (Nat.le_succ _)).keep ba).keep bb, ((PF.old ((PM2.out.keep b5).keep b6) (Nat.le_refl _) (Nat.le_succ _)).keep ba).keep bb⟩,
     (IVarF.new W6 (sg 1) (mg 1) 27).keep bb, by have := IVarF.new (W6.alloc (.cells #[.bool (sg 1), .string (mg 1)] 27)) (sg 1) (mg 1) 27; rwa [World.size_alloc] at this⟩)
  have hB1 : (1 : Int).natAbs < 4294967296 ^ k := by
    have : 4294967296 ^ 1 ≤ 4294967296 ^ k := Nat.pow_le_pow_right (by omega) hk1
    show 1 < _
    omega
  have HI1 := Lib.hid (isInt_mg hB1 (by omega))
  clear PA2 PM2 B4 b5 b6 B6 ba bb HL1 HL2 H1 H2 HD HO l1 l2 HP1 HP2 hd hB1
  generalize (W6.alloc (.cells #[.bool (sg 1), .string (mg 1)] 27)).alloc (.cells #[.bool (sg 1), .string (mg 1)] 27) = W8 at *
  have K0 := K0
  generalize W6.heap.size + 1 = r at *
  generalize W6.heap.size = p at *
  go_loopg [5, 6] m (fun q s5 s6 wx => ∃ (x y : List Int) (l h : Int) (gl : Bool) (sl : ByteArray), Hid (CdRun k q x y l h X Y) ∧ Hid (IsInt (.agg #[.bool gl, .string sl]) l k) ∧ CB w p r s5 s6 x y gl sl h wx)
  case atStart => exact ⟨a, b, 1, 1, sg 1, mg 1, HR, HI1, K0.out⟩
  case round =>
    obtain ⟨x, y, l, h, gl, sl, HR, HI, KB⟩ := hrel
    clear K0 HI1
    obtain ⟨⟨lx, ly⟩, bx, by'⟩ := HR.out.bounds
    have HBx := Lib.hid bx
    have HBy := Lib.hid by'
    clear bx by'
    rcases gk with _ | q
    · obtain ⟨e1, e2, hy⟩ : x = X ∧ y = Y ∧ (trm y).length ≤ 1 := by
        cases HR.out with
        | stop hy => exact ⟨rfl, rfl, hy⟩
      subst e1 e2
      have KH := Lib.hid KB
      clear HR HI KB
      have hdeg : ¬ 0 < degZ y := by unfold degZ; omega
      go_wp2_with fail
      refine (deg_any _ y k _ (KH.out.2.1.2.at (by omega) HBy.out) (by omega)).mono ?_
      rintro e V1 ⟨rfl, c1⟩
      have KH := Lib.hid (KH.out.keep c1)
      clear c1
      go_wp2_with fail
      refine (deg_any _ y k _ (KH.out.2.1.2.at (by omega) HBy.out) (by omega)).mono ?_
      rintro e V2 ⟨rfl, c2⟩
      have KH := Lib.hid (KH.out.keep c2)
      clear c2
      by_cases h1 : (trm y).length = 1
      · have hz : (degZ y == 0) = true := by unfold degZ; rw [h1]; rfl
        have HX := Lib.hid (show cdL x y = primL y by unfold cdL; rw [if_pos h1])
        clear h1 hy hdeg
        go_wp2_with fail
        refine (prim_out _ y k _ (KH.out.2.1.2.at (by omega) HBy.out) ly (by omega)).mono ?_
        rintro e V3 ⟨u3, rfl, PC, c3⟩
        go_wp2_with fail
        exact bodyPost_ret (v := u3) (by simp [results, Tryz.results63, go_sem]) rfl ⟨u3, rfl, by rw [HX.out]; exact PC.wider KH.out.1.1.size, below_more KH.out.1.1 (Nat.le_refl _) c3⟩
      · have hz : (degZ y == 0) = false := by rw [beq_eq_false_iff_ne]; unfold degZ; omega
        have HX := Lib.hid (show cdL x y = primL x by unfold cdL; rw [if_neg h1])
        clear h1 hy hdeg
        go_wp2_with fail
        refine (prim_out _ x k _ (KH.out.2.1.1.at (by omega) HBx.out) lx (by omega)).mono ?_
        rintro e V3 ⟨u3, rfl, PC, c3⟩
        go_wp2_with fail
        exact bodyPost_ret (v := u3) (by simp [results, Tryz.results63, go_sem]) rfl ⟨u3, rfl, by rw [HX.out]; exact PC.wider KH.out.1.1.size, below_more KH.out.1.1 (Nat.le_refl _) c3⟩
    · obtain ⟨n, g, R, c, d, h', ⟨hy, hx, hn⟩, ⟨bl, bh⟩, ⟨hc, hR⟩, ⟨lR, bR⟩, hp, ⟨hd, bd, d0⟩, hq, hh, h0, next⟩ := HR.out.inv
      obtain ⟨dy, hdy, hpos, hdy2⟩ : ∃ dy : Int, degZ y = dy ∧ 0 < dy ∧ dy = (n : Int) + 1 := ⟨_, rfl, by unfold degZ; rw [hy]; omega, by unfold degZ; rw [hy]; omega⟩
      obtain ⟨dx, hdx, hgap, hdx2⟩ : ∃ dx : Int, degZ x = dx ∧ dx - dy = (g : Int) ∧ dx ≤ 200 := ⟨_, rfl, by unfold degZ; rw [hx]; omega, by unfold degZ; rw [hx]; omega⟩
      have HDy := Lib.hid hdy
      have HDx := Lib.hid hdx
      have hg200 : g ≤ 200 := by omega
      have hdy3 : dy ≤ 200 := by omega
      have Hn := Lib.hid hn
      clear hdy hdx hdy2
      have HRn := Lib.hid next
      have HBR := Lib.hid bR
      have HLd := Lib.hid (lead_of hy)
      have Hyx := Lib.hid (And.intro hy (And.intro hx (And.intro hc hR)))
      have IH := isInt_mg bh (show k ≤ 10000000 by omega)
      have HPw := Lib.hid (fun W => ppow_any _ h k g k W IH (by omega) hp (by omega))
      have IHg := isInt_mg (hp g (Nat.le_refl _)) (show k ≤ 10000000 by omega)
      have HMl := Lib.hid (fun W => imul_any _ _ _ _ k k W HI.out IHg)
      simp only [hd] at HMl
      have Id := isInt_mg bd (show k ≤ 10000000 by omega)
      have HEx := Lib.hid (fun W v (hv : PolyAt W v R k) => exq_any v _ R (exqL R d) d k W hv Id lR (by omega) d0 (exqL_len _ _) (fun i => co_exqL R d i))
      have HQ := Lib.hid hq
      have HPj := Lib.hid hp
      have HH := Lib.hid hh
      have H0 := Lib.hid h0
      have HLr := Lib.hid lR
      obtain ⟨hgz, hhg⟩ : ∃ hgz : Int, h ^ g = hgz := ⟨_, rfl⟩
      simp only [hhg] at HPw HMl
      have KH := Lib.hid KB
      clear KB HR next bR hy hx hc hR IH IHg Id bl bh hd bd d0 hp hq hh h0 lR hhg
      go_wp2_with fail
      refine (deg_any _ y k _ (KH.out.2.1.2.at (by omega) HBy.out) (by omega)).mono ?_
      rw [HDy.out]
      rintro e V1 ⟨rfl, c1⟩
      have KH := Lib.hid (KH.out.keep c1)
      clear c1
      go_wp2_with fail
      refine (deg_any _ x k _ (KH.out.2.1.1.at (by omega) HBx.out) (by omega)).mono ?_
      rw [HDx.out]
      rintro e V2 ⟨rfl, c2⟩
      have KH := Lib.hid (KH.out.keep c2)
      clear c2
      go_wp2_with fail
      refine (deg_any _ y k _ (KH.out.2.1.2.at (by omega) HBy.out) (by omega)).mono ?_
      rw [HDy.out]
      rintro e V3 ⟨rfl, c3⟩
      have KH := Lib.hid (KH.out.keep c3)
      clear c3
      have hw1 : IntKind.i64.wrap (dx - dy) = (g : Int) := by rw [IntKind.wrap_i64]; omega
      go_wp2_with fail
      refine (pdivide_any _ _ x y (divR y (n + 1) c (g + 1) [] (trm x)).1 R (n + 1) k c _ (KH.out.2.1.1.at (by omega) HBx.out) (KH.out.2.1.2.at (by omega) HBy.out) lx ly (by rw [Hyx.out.2.1]; exact Hn.out) Hyx.out.1 (by have := Hn.out; omega) hk hk1 Hyx.out.2.2.1 (by rw [Hyx.out.2.1, show n + 2 + g - (n + 1) = g + 1 by omega]; exact Prod.ext rfl Hyx.out.2.2.2)).mono ?_
      rintro e V4 ⟨vq, vr, rfl, -, PR, c4⟩
      have KR := Lib.hid (PF.new (p := p) (r := r) PR KH.out.1.2.2.2.2.1 KH.out.1.2.2.2.2.2)
      have KH := Lib.hid (KH.out.keep c4)
      clear c4 PR
      go_upto_region 8 with fail
      have KH := Lib.hid KH.out.drew
      have KR := Lib.hid (KR.out.keep (Below.refl _ _).drew)
      go_region_held3 (fun W => W.cell? ⟨p, 0, none⟩ = some (.bool gl) ∧ W.cell? ⟨p, 1, none⟩ = some (.string sl) ∧ W.cell? ⟨r, 0, none⟩ = some (.bool (sg h)) ∧ W.cell? ⟨r, 1, none⟩ = some (.string (mg h)))
        (with_reducible exact KH.out.cells)
        (first
          | (go_at_call 98; (with_reducible refine (HPw.out _).mono ?_); rintro e Z1 ⟨rfl, bZ1⟩; (have KH := Lib.hid (KH.out.keep bZ1)); (have KR := Lib.hid (KR.out.keep bZ1)))
          | (go_at_call 42; (with_reducible refine (HMl.out _).mono ?_); rintro e Z2 ⟨rfl, bZ2⟩; (have KH := Lib.hid (KH.out.keep bZ2)); (have KR := Lib.hid (KR.out.keep bZ2)))
          | (go_at_call 97; (with_reducible refine (HEx.out _ _ (KR.out.at (by omega) HBR.out)).mono ?_); rintro e Z3 ⟨u9, rfl, P9, bZ3⟩; (have K9 := Lib.hid (PF.new (p := p) (r := r) P9 KH.out.1.2.2.2.2.1 KH.out.1.2.2.2.2.2)); (have KH := Lib.hid (KH.out.keep bZ3))))
      have KC := Lib.hid (show CB w p r u6 u9 y (exqL R d) gl sl h Z3 from ⟨KH.out.1, ⟨KH.out.2.1.2, K9.out⟩, KH.out.2.2⟩)
      clear KH K9 KR bZ1 bZ2 bZ3
      go_wp2_with fail
      refine (lead_any _ y k _ (KC.out.2.1.1.at (by omega) HBy.out) (by omega) (by omega)).mono ?_
      rw [HLd.out, Hyx.out.2.2.1]
      rintro e Z4 ⟨gc, sc, rfl, IC, bZ4⟩
      have KC := Lib.hid (KC.out.keep bZ4)
      have HIC := Lib.hid IC
      obtain ⟨x1, x2, -, -⟩ := KC.out.cells
      obtain ⟨f1, f2⟩ := KC.out.fr
      have KP := Lib.hid (KC.out.put gc sc)
      clear bZ4 IC
      by_cases hg0 : g = 0
      · have HHh := Lib.hid (show h = h' by rw [← HH.out, if_pos hg0])
        have hng : ¬ (0 : Int) < (g : Int) := by omega
        clear HH hg0
        go_wp2_with fail
        go_roundg q
        case measure => omega
        case rel => exact ⟨y, exqL R d, c, h', gc, sc, HRn, HIC, by rw [← HHh.out]; exact KP.out⟩
      · have hgp : (0 : Int) < (g : Int) := by omega
        obtain ⟨g1, hg1⟩ : ∃ g1, g = g1 + 1 := ⟨g - 1, by omega⟩
        have hg2 : (g : Int) - 1 = (g1 : Int) := by omega
        have hw2 : IntKind.i64.wrap ((g : Int) - 1) = (g1 : Int) := by rw [IntKind.wrap_i64]; omega
        have hw3 : IntKind.i64.wrap (g1 : Int) = (g1 : Int) := by rw [IntKind.wrap_i64]; omega
        have hge : g - 1 = g1 := by omega
        have HHq := Lib.hid (show qD (c ^ g) (h ^ g1) = h' by rw [← HH.out, if_neg hg0, hge])
        have HN0 := Lib.hid (show h ^ g1 ≠ 0 by have := H0.out hg0; rwa [hge] at this)
        have IHb : IsInt (.agg #[.bool (sg h), .string (mg h)]) h k := isInt_mg (by have := HPj.out 1 (by omega); rwa [Int.pow_one] at this) (by omega)
        have HP1 := Lib.hid (fun W => ppow_any _ c k g k W HIC.out (by omega) HQ.out (by omega))
        have HP2 := Lib.hid (fun W => ppow_any _ h k g1 k W IHb (by omega) (fun j hj => HPj.out j (by omega)) (by omega))
        have HDv := Lib.hid (fun W => idiv_all _ _ _ _ k k W (isInt_mg (HQ.out g (Nat.le_refl _)) (show k ≤ 10000000 by omega)) (isInt_mg (HPj.out g1 (by omega)) (show k ≤ 10000000 by omega)) HN0.out)
        simp only [HHq.out] at HDv
        obtain ⟨cz, hcz⟩ : ∃ cz : Int, c ^ g = cz := ⟨_, rfl⟩
        obtain ⟨hz, hhz⟩ : ∃ hz : Int, h ^ g1 = hz := ⟨_, rfl⟩
        simp only [hcz, hhz] at HP1 HP2 HDv
        obtain ⟨rz, hrz⟩ : ∃ rz : Int, rD cz hz = rz := ⟨_, rfl⟩
        simp only [hrz] at HDv
        have hlate : Tryz.prog.follows .lateStoresUnsure = Tryz.prog.follows .lateStoresUnsure := rfl
        clear HH H0 HN0 IHb hcz hhz hrz hlate hg1 hge hg0
        go_upto_region 11 with fail
        simp only [decide_eq_true (show 0 < g by omega)]
        have KQ := KP.out.drew
        have KB := KQ.cl
        have IVH : VW r h h' (Array.getD (Array.replicate 13 false) 3 false = false) (Array.getD (Array.replicate 13 false) 12 false = true) ((Z4.setCell ⟨p, 0, none⟩ (.bool gc)).setCell ⟨p, 1, none⟩ (.string sc)).drew := ⟨⟨h, KQ.2.2.2.1, KQ.2.2.2.2⟩, fun _ => KQ.2.2.2.1, fun h => absurd h (by decide)⟩
        clear KQ KP KC x1 x2 f1 f2
        generalize (Z4.setCell ⟨p, 0, none⟩ (.bool gc)).setCell ⟨p, 1, none⟩ (.string sc) = Z5 at *
        refine region_inv' (J := (fun L act wx => ∃ u52 u53 u54 u55 u56 u57 u58 u59 u51 u60 u61 u62, act = { tmps := #[v1, v2, undef, undef, .slice none 0 0, u6, u9, .pointer (some ⟨p, 0, none⟩), .pointer (some ⟨r, 0, none⟩), .int .i64 (g : Int), vq, vr, v1, u1, v2, u2, u1, .int .i64 (degZ a), u2, .int .i64 (degZ b), .bool false, undef, undef, .agg #[.bool (sg 1), .string (mg 1)], .agg #[.bool (sg 1), .string (mg 1)], u6, .int .i64 dy, .bool true, u5, .int .i64 dx, u6, .int .i64 dy, .int .i64 (g : Int), .tuple #[vq, vr], u5, u6, .tuple #[vq, vr], vq, vr, u6, vr, .agg #[.bool gl, .string sl], .agg #[.bool (sg h), .string (mg h)], .int .i64 (g : Int), .agg #[.bool (sg hgz), .string (mg hgz)], .agg #[.bool (sg d), .string (mg d)], u9, u6, .agg #[.bool gc, .string sc], .int .i64 (g : Int), .bool true, u51, u52, u53, u54, u55, u56, u57, u58, u59, u60, u61, u62, undef, undef, undef, undef, undef, undef, undef], defers := [] } ∧ CL w p r u6 u9 y (exqL R d) gc sc wx ∧
      (L.getD 0 false = true → u52 = .agg #[.bool gc, .string sc]) ∧ (L.getD 1 false = true → u53 = .int .i64 (g : Int)) ∧ (L.getD 2 false = true → u54 = .agg #[.bool (sg cz), .string (mg cz)]) ∧ (L.getD 3 false = true → u55 = .agg #[.bool (sg h), .string (mg h)]) ∧ (L.getD 4 false = true → u56 = .int .i64 (g : Int)) ∧ (L.getD 5 false = true → u57 = .int .i64 (g1 : Int)) ∧ (L.getD 6 false = true → u58 = .agg #[.bool (sg hz), .string (mg hz)]) ∧ (L.getD 7 false = true → u59 = .tuple #[.agg #[.bool (sg h'), .string (mg h')], .agg #[.bool (sg rz), .string (mg rz)], .int .i64 0]) ∧ (L.getD 8 false = true → u51 = .tuple #[.agg #[.bool (sg h'), .string (mg h')], .agg #[.bool (sg rz), .string (mg rz)], .int .i64 0]) ∧ (L.getD 9 false = true → u60 = .agg #[.bool (sg h'), .string (mg h')]) ∧ (L.getD 10 false = true → u61 = .agg #[.bool (sg rz), .string (mg rz)]) ∧ (L.getD 11 false = true → u62 = .int .i64 0) ∧ VW (r) (h) (h') (L.getD 3 false = false) (L.getD 12 false = true) wx)) hmx (by kernel_rfl) ?_ ?_ ?_
        · exact ⟨_, _, _, _, _, _, _, _, _, _, _, _, rfl, KB, fun h => absurd h (by decide), fun h => absurd h (by decide), fun h => absurd h (by decide), fun h => absurd h (by decide), fun h => absurd h (by decide), fun h => absurd h (by decide), fun h => absurd h (by decide), fun h => absurd h (by decide), fun h => absurd h (by decide), fun h => absurd h (by decide), fun h => absurd h (by decide), fun h => absurd h (by decide), IVH⟩
        · intro i hi L a wx hl hw ⟨u52, u53, u54, u55, u56, u57, u58, u59, u51, u60, u61, u62, ha, lo, c0, c1, c2, c3, c4, c5, c6, c7, c8, c9, c10, c11, VH⟩
          subst ha
          clear KB
          have hi' : i = 0 ∨ i = 1 ∨ i = 2 ∨ i = 3 ∨ i = 4 ∨ i = 5 ∨ i = 6 ∨ i = 7 ∨ i = 8 ∨ i = 9 ∨ i = 10 ∨ i = 11 ∨ i = 12 := by
            have : i < 13 := hi
            omega
          rcases hi' with rfl | rfl | rfl | rfl | rfl | rfl | rfl | rfl | rfl | rfl | rfl | rfl | rfl
          · refine stepJ (i := 0) rfl (fun K hK => ?_)
            obtain ⟨x1, x2⟩ := lo.lead
            go_simp
            refine hK.out _ _ ⟨_, u53, u54, u55, u56, u57, u58, u59, u51, u60, u61, u62, rfl, lo, fun _ => rfl, fun h => c1 (fl (by decide) h), fun h => c2 (fl (by decide) h), fun h => c3 (fl (by decide) h), fun h => c4 (fl (by decide) h), fun h => c5 (fl (by decide) h), fun h => c6 (fl (by decide) h), fun h => c7 (fl (by decide) h), fun h => c8 (fl (by decide) h), fun h => c9 (fl (by decide) h), fun h => c10 (fl (by decide) h), fun h => c11 (fl (by decide) h), (VH.imp (flF (by decide)) (fl (by decide)))⟩
          · refine stepJ (i := 1) rfl (fun K hK => ?_)
            go_simp
            refine hK.out _ _ ⟨u52, _, u54, u55, u56, u57, u58, u59, u51, u60, u61, u62, rfl, lo, fun h => c0 (fl (by decide) h), fun _ => rfl, fun h => c2 (fl (by decide) h), fun h => c3 (fl (by decide) h), fun h => c4 (fl (by decide) h), fun h => c5 (fl (by decide) h), fun h => c6 (fl (by decide) h), fun h => c7 (fl (by decide) h), fun h => c8 (fl (by decide) h), fun h => c9 (fl (by decide) h), fun h => c10 (fl (by decide) h), fun h => c11 (fl (by decide) h), (VH.imp (flF (by decide)) (fl (by decide)))⟩
          · refine stepJ (i := 2) rfl (fun K hK => ?_)
            obtain rfl := c0 (hw 0 (by kernel_rfl))
            obtain rfl := c1 (hw 1 (by kernel_rfl))
            go_simp
            go_at_call 98
            refine (HP1.out _).mono ?_
            rintro e W2 ⟨rfl, b2⟩
            go_wp2_with fail
            refine hK.out _ _ ⟨_, _, _, u55, u56, u57, u58, u59, u51, u60, u61, u62, rfl, lo.keep b2, fun _ => rfl, fun _ => rfl, fun _ => rfl, fun h => c3 (fl (by decide) h), fun h => c4 (fl (by decide) h), fun h => c5 (fl (by decide) h), fun h => c6 (fl (by decide) h), fun h => c7 (fl (by decide) h), fun h => c8 (fl (by decide) h), fun h => c9 (fl (by decide) h), fun h => c10 (fl (by decide) h), fun h => c11 (fl (by decide) h), (VH.imp (flF (by decide)) (fl (by decide))).keep b2⟩
          · refine stepJ (i := 3) rfl (fun K hK => ?_)
            obtain ⟨x1, x2⟩ := VH.2.1 hl
            go_simp
            refine hK.out _ _ ⟨u52, u53, u54, _, u56, u57, u58, u59, u51, u60, u61, u62, rfl, lo, fun h => c0 (fl (by decide) h), fun h => c1 (fl (by decide) h), fun h => c2 (fl (by decide) h), fun _ => rfl, fun h => c4 (fl (by decide) h), fun h => c5 (fl (by decide) h), fun h => c6 (fl (by decide) h), fun h => c7 (fl (by decide) h), fun h => c8 (fl (by decide) h), fun h => c9 (fl (by decide) h), fun h => c10 (fl (by decide) h), fun h => c11 (fl (by decide) h), (VH.imp (fun _ => hl) (fl (by decide)))⟩
          · refine stepJ (i := 4) rfl (fun K hK => ?_)
            go_simp
            refine hK.out _ _ ⟨u52, u53, u54, u55, _, u57, u58, u59, u51, u60, u61, u62, rfl, lo, fun h => c0 (fl (by decide) h), fun h => c1 (fl (by decide) h), fun h => c2 (fl (by decide) h), fun h => c3 (fl (by decide) h), fun _ => rfl, fun h => c5 (fl (by decide) h), fun h => c6 (fl (by decide) h), fun h => c7 (fl (by decide) h), fun h => c8 (fl (by decide) h), fun h => c9 (fl (by decide) h), fun h => c10 (fl (by decide) h), fun h => c11 (fl (by decide) h), (VH.imp (flF (by decide)) (fl (by decide)))⟩
          · refine stepJ (i := 5) rfl (fun K hK => ?_)
            obtain rfl := c4 (hw 4 (by kernel_rfl))
            go_simp
            refine hK.out _ _ ⟨u52, u53, u54, u55, _, _, u58, u59, u51, u60, u61, u62, rfl, lo, fun h => c0 (fl (by decide) h), fun h => c1 (fl (by decide) h), fun h => c2 (fl (by decide) h), fun h => c3 (fl (by decide) h), fun _ => rfl, fun _ => rfl, fun h => c6 (fl (by decide) h), fun h => c7 (fl (by decide) h), fun h => c8 (fl (by decide) h), fun h => c9 (fl (by decide) h), fun h => c10 (fl (by decide) h), fun h => c11 (fl (by decide) h), (VH.imp (flF (by decide)) (fl (by decide)))⟩
          · refine stepJ (i := 6) rfl (fun K hK => ?_)
            obtain rfl := c3 (hw 3 (by kernel_rfl))
            obtain rfl := c5 (hw 5 (by kernel_rfl))
            go_simp
            go_at_call 98
            refine (HP2.out _).mono ?_
            rintro e W2 ⟨rfl, b2⟩
            go_wp2_with fail
            refine hK.out _ _ ⟨u52, u53, u54, _, u56, _, _, u59, u51, u60, u61, u62, rfl, lo.keep b2, fun h => c0 (fl (by decide) h), fun h => c1 (fl (by decide) h), fun h => c2 (fl (by decide) h), fun _ => rfl, fun h => c4 (fl (by decide) h), fun _ => rfl, fun _ => rfl, fun h => c7 (fl (by decide) h), fun h => c8 (fl (by decide) h), fun h => c9 (fl (by decide) h), fun h => c10 (fl (by decide) h), fun h => c11 (fl (by decide) h), (VH.imp (flF (by decide)) (fl (by decide))).keep b2⟩
          · refine stepJ (i := 7) rfl (fun K hK => ?_)
            obtain rfl := c2 (hw 2 (by kernel_rfl))
            obtain rfl := c6 (hw 6 (by kernel_rfl))
            go_simp
            go_at_call 90
            refine (HDv.out _).mono ?_
            rintro e W2 ⟨rfl, b2⟩
            go_wp2_with fail
            refine hK.out _ _ ⟨u52, u53, _, u55, u56, u57, _, _, u51, u60, u61, u62, rfl, lo.keep b2, fun h => c0 (fl (by decide) h), fun h => c1 (fl (by decide) h), fun _ => rfl, fun h => c3 (fl (by decide) h), fun h => c4 (fl (by decide) h), fun h => c5 (fl (by decide) h), fun _ => rfl, fun _ => rfl, fun h => c8 (fl (by decide) h), fun h => c9 (fl (by decide) h), fun h => c10 (fl (by decide) h), fun h => c11 (fl (by decide) h), (VH.imp (flF (by decide)) (fl (by decide))).keep b2⟩
          · refine stepJ (i := 8) rfl (fun K hK => ?_)
            obtain rfl := c7 (hw 7 (by kernel_rfl))
            go_simp
            refine hK.out _ _ ⟨u52, u53, u54, u55, u56, u57, u58, _, _, u60, u61, u62, rfl, lo, fun h => c0 (fl (by decide) h), fun h => c1 (fl (by decide) h), fun h => c2 (fl (by decide) h), fun h => c3 (fl (by decide) h), fun h => c4 (fl (by decide) h), fun h => c5 (fl (by decide) h), fun h => c6 (fl (by decide) h), fun _ => rfl, fun _ => rfl, fun h => c9 (fl (by decide) h), fun h => c10 (fl (by decide) h), fun h => c11 (fl (by decide) h), (VH.imp (flF (by decide)) (fl (by decide)))⟩
          · refine stepJ (i := 9) rfl (fun K hK => ?_)
            obtain rfl := c8 (hw 8 (by kernel_rfl))
            go_simp
            refine hK.out _ _ ⟨u52, u53, u54, u55, u56, u57, u58, u59, _, _, u61, u62, rfl, lo, fun h => c0 (fl (by decide) h), fun h => c1 (fl (by decide) h), fun h => c2 (fl (by decide) h), fun h => c3 (fl (by decide) h), fun h => c4 (fl (by decide) h), fun h => c5 (fl (by decide) h), fun h => c6 (fl (by decide) h), fun h => c7 (fl (by decide) h), fun _ => rfl, fun _ => rfl, fun h => c10 (fl (by decide) h), fun h => c11 (fl (by decide) h), (VH.imp (flF (by decide)) (fl (by decide)))⟩
          · refine stepJ (i := 10) rfl (fun K hK => ?_)
            obtain rfl := c8 (hw 8 (by kernel_rfl))
            go_simp
            refine hK.out _ _ ⟨u52, u53, u54, u55, u56, u57, u58, u59, _, u60, _, u62, rfl, lo, fun h => c0 (fl (by decide) h), fun h => c1 (fl (by decide) h), fun h => c2 (fl (by decide) h), fun h => c3 (fl (by decide) h), fun h => c4 (fl (by decide) h), fun h => c5 (fl (by decide) h), fun h => c6 (fl (by decide) h), fun h => c7 (fl (by decide) h), fun _ => rfl, fun h => c9 (fl (by decide) h), fun _ => rfl, fun h => c11 (fl (by decide) h), (VH.imp (flF (by decide)) (fl (by decide)))⟩
          · refine stepJ (i := 11) rfl (fun K hK => ?_)
            obtain rfl := c8 (hw 8 (by kernel_rfl))
            go_simp
            refine hK.out _ _ ⟨u52, u53, u54, u55, u56, u57, u58, u59, _, u60, u61, _, rfl, lo, fun h => c0 (fl (by decide) h), fun h => c1 (fl (by decide) h), fun h => c2 (fl (by decide) h), fun h => c3 (fl (by decide) h), fun h => c4 (fl (by decide) h), fun h => c5 (fl (by decide) h), fun h => c6 (fl (by decide) h), fun h => c7 (fl (by decide) h), fun _ => rfl, fun h => c9 (fl (by decide) h), fun h => c10 (fl (by decide) h), fun _ => rfl, (VH.imp (flF (by decide)) (fl (by decide)))⟩
          · refine stepJ (i := 12) rfl (fun K hK => ?_)
            obtain rfl := c9 (hw 9 (by kernel_rfl))
            obtain ⟨z9, ⟨y1, y2⟩, y3, y4⟩ := id VH.1
            go_simp
            refine hK.out _ _ ⟨u52, u53, u54, u55, u56, u57, u58, u59, u51, _, u61, u62, rfl, lo.far, fun h => c0 (fl (by decide) h), fun h => c1 (fl (by decide) h), fun h => c2 (fl (by decide) h), fun h => c3 (fl (by decide) h), fun h => c4 (fl (by decide) h), fun h => c5 (fl (by decide) h), fun h => c6 (fl (by decide) h), fun h => c7 (fl (by decide) h), fun h => c8 (fl (by decide) h), fun _ => rfl, fun h => c10 (fl (by decide) h), fun h => c11 (fl (by decide) h), VH.put (fun h => absurd ((hw 3 (by kernel_rfl)).symm.trans (flF (by decide) h)) (by decide))⟩
        · rintro L a wx hall ⟨u52, u53, u54, u55, u56, u57, u58, u59, u51, u60, u61, u62, rfl, lo, c0, c1, c2, c3, c4, c5, c6, c7, c8, c9, c10, c11, VH⟩
          obtain rfl := c0 (hall 0 (by decide))
          obtain rfl := c1 (hall 1 (by decide))
          obtain rfl := c2 (hall 2 (by decide))
          obtain rfl := c3 (hall 3 (by decide))
          obtain rfl := c4 (hall 4 (by decide))
          obtain rfl := c5 (hall 5 (by decide))
          obtain rfl := c6 (hall 6 (by decide))
          obtain rfl := c7 (hall 7 (by decide))
          obtain rfl := c8 (hall 8 (by decide))
          obtain rfl := c9 (hall 9 (by decide))
          obtain rfl := c10 (hall 10 (by decide))
          obtain rfl := c11 (hall 11 (by decide))
          have WVH := VH.2.2 (hall 12 (by decide))
          have XVH := VH.1
          clear hall c0 c1 c2 c3 c4 c5 c6 c7 c8 c9 c10 c11
          have KN := Lib.hid (show CB w p r u6 u9 y (exqL R d) gc sc h' wx from ⟨lo.1, lo.2.1, lo.2.2, WVH, by obtain ⟨z', -, hf⟩ := XVH; exact hf⟩)
          clear lo KB IVH WVH XVH
          go_wp2
          go_roundg q
          case measure => omega
          case rel => exact ⟨y, exqL R d, c, h', gc, sc, HRn, HIC, KN.out⟩
end Go.Proofs.YtgcogpfmhmmgdaaGreatDoor
