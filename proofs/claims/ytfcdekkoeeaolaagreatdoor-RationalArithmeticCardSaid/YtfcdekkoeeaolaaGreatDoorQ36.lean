/- Three integers in their boxes, and the order of integers. No condition. Integers in cells, a list of them. No condition. Variables in blocks, as one statement over a list. No condition. -/
import Derived.Test.YtfcdekkoeeaolaaGreatDoorQ34
import Derived.Outline
import Derived.Test.YtfcdekkoeeaolaaGreatDoorQ07

namespace Go.Proofs.YtfcdekkoeeaolaaGreatDoor
open Go.RowKit
/-- Three integers in their boxes. -/
def Six (na nb nc : Bool) (sa sb sc : ByteArray) (B : Nat) (W : World) : Prop := W.cell? ⟨B, 0, none⟩ = some (.bool na) ∧ W.cell? ⟨B, 1, none⟩ = some (.string sa) ∧ W.cell? ⟨B + 1, 0, none⟩ = some (.bool nb) ∧ W.cell? ⟨B + 1, 1, none⟩ = some (.string sb) ∧ W.cell? ⟨B + 1 + 1, 0, none⟩ = some (.bool nc) ∧ W.cell? ⟨B + 1 + 1, 1, none⟩ = some (.string sc)
theorem Six.keep {na nb nc : Bool} {sa sb sc : ByteArray} {B : Nat} {W W1 : World} (hb : Below W.heap.size W W1) (h : Six na nb nc sa sb sc B W) : Six na nb nc sa sb sc B W1 :=
  ⟨cell_keep h.1 hb, cell_keep h.2.1 hb, cell_keep h.2.2.1 hb, cell_keep h.2.2.2.1 hb, cell_keep h.2.2.2.2.1 hb, cell_keep h.2.2.2.2.2 hb⟩
theorem Six.alloc {na nb nc : Bool} {sa sb sc : ByteArray} {B : Nat} {W : World} (h : Six na nb nc sa sb sc B W) (o : Obj) : Six na nb nc sa sb sc B (W.alloc o) := h.keep ((Below.refl _ _).alloc (Nat.le_refl _) _)
theorem Six.drew {na nb nc : Bool} {sa sb sc : ByteArray} {B : Nat} {W : World} (h : Six na nb nc sa sb sc B W) : Six na nb nc sa sb sc B W.drew := h
theorem Six.set {na nb nc : Bool} {sa sb sc : ByteArray} {B : Nat} {W : World} {p : Addr} (h : Six na nb nc sa sb sc B W) (hp : B + 1 + 1 < p.block) (u : Value) : Six na nb nc sa sb sc B (W.setCell p u) := by
  refine ⟨?_, ?_, ?_, ?_, ?_, ?_⟩ <;> rw [World.cell?_setCell_far _ _ _ _ (by dsimp only; omega)]
  · exact h.1
  · exact h.2.1
  · exact h.2.2.1
  · exact h.2.2.2.1
  · exact h.2.2.2.2.1
  · exact h.2.2.2.2.2

theorem below4 (w : World) (o1 o2 o3 o4 : Obj) : Below w.heap.size w ((((w.alloc o1).alloc o2).alloc o3).alloc o4) := (below3 w o1 o2 o3).alloc (by simp only [World.size_alloc]; omega) _

/-- The three integers, and a fourth one. -/
def Eight (na nb nc : Bool) (sa sb sc : ByteArray) (B p : Nat) (g : Bool) (s : ByteArray) (W : World) : Prop := Six na nb nc sa sb sc B W ∧ (W.cell? ⟨p, 0, none⟩ = some (.bool g) ∧ W.cell? ⟨p, 1, none⟩ = some (.string s))
theorem Eight.keep {na nb nc : Bool} {sa sb sc : ByteArray} {B p : Nat} {g : Bool} {s : ByteArray} {W W1 : World} (hb : Below W.heap.size W W1) (h : Eight na nb nc sa sb sc B p g s W) : Eight na nb nc sa sb sc B p g s W1 := ⟨h.1.keep hb, cell_keep h.2.1 hb, cell_keep h.2.2 hb⟩
theorem Eight.flat {na nb nc : Bool} {sa sb sc : ByteArray} {B p : Nat} {g : Bool} {s : ByteArray} {W : World} (h : Eight na nb nc sa sb sc B p g s W) : W.cell? ⟨B, 0, none⟩ = some (.bool na) ∧ W.cell? ⟨B, 1, none⟩ = some (.string sa) ∧ W.cell? ⟨B + 1, 0, none⟩ = some (.bool nb) ∧ W.cell? ⟨B + 1, 1, none⟩ = some (.string sb) ∧ W.cell? ⟨B + 1 + 1, 0, none⟩ = some (.bool nc) ∧ W.cell? ⟨B + 1 + 1, 1, none⟩ = some (.string sc) ∧ W.cell? ⟨p, 0, none⟩ = some (.bool g) ∧ W.cell? ⟨p, 1, none⟩ = some (.string s) := by
  obtain ⟨⟨t1, t2, t3, t4, t5, t6⟩, ⟨t7, t8⟩⟩ := h
  exact ⟨t1, t2, t3, t4, t5, t6, t7, t8⟩
theorem Eight.alloc {na nb nc : Bool} {sa sb sc : ByteArray} {B p : Nat} {g : Bool} {s : ByteArray} {W : World} (h : Eight na nb nc sa sb sc B p g s W) (o : Obj) : Eight na nb nc sa sb sc B p g s (W.alloc o) := h.keep ((Below.refl _ _).alloc (Nat.le_refl _) _)
theorem Eight.set {na nb nc : Bool} {sa sb sc : ByteArray} {B p : Nat} {g : Bool} {s : ByteArray} {W : World} {a : Addr} (h : Eight na nb nc sa sb sc B p g s W) (ha : B + 1 + 1 < a.block) (hp : p < a.block) (u : Value) : Eight na nb nc sa sb sc B p g s (W.setCell a u) :=
  ⟨h.1.set ha u, by rw [World.cell?_setCell_far _ _ _ _ (by dsimp only; omega)]; exact h.2.1, by rw [World.cell?_setCell_far _ _ _ _ (by dsimp only; omega)]; exact h.2.2⟩
theorem one_set {W : World} {p : Nat} {v1 v2 u1 u2 : Value} (h1 : W.cell? ⟨p, 0, none⟩ = some u1) (h2 : W.cell? ⟨p, 1, none⟩ = some u2) :
    ((W.setCell ⟨p, 0, none⟩ v1).setCell ⟨p, 1, none⟩ v2).cell? ⟨p, 0, none⟩ = some v1 ∧ ((W.setCell ⟨p, 0, none⟩ v1).setCell ⟨p, 1, none⟩ v2).cell? ⟨p, 1, none⟩ = some v2 := by
  have n1 : (⟨p, 0, none⟩ : Addr) ≠ ⟨p, 1, none⟩ := by simp
  exact ⟨set_other (set_same h1) n1.symm, set_same (set_other h2 n1)⟩
/-- A variable of the type api.Int, and that it can be written. -/
def Var (W : World) (p : Nat) (g : Bool) (s : ByteArray) : Prop := W.cell? ⟨p, 0, none⟩ = some (.bool g) ∧ W.cell? ⟨p, 1, none⟩ = some (.string s) ∧ W.frozen? ⟨p, 0, none⟩ = false ∧ W.frozen? ⟨p, 1, none⟩ = false
theorem Var.keep {W W1 : World} {p : Nat} {g : Bool} {s : ByteArray} (hb : Below W.heap.size W W1) (h : Var W p g s) : Var W1 p g s :=
  ⟨cell_keep h.1 hb, cell_keep h.2.1 hb, frozen_keep h.1 h.2.2.1 hb, frozen_keep h.2.1 h.2.2.2 hb⟩
theorem Var.set {W : World} {p : Nat} {g g' : Bool} {s s' : ByteArray} (h : Var W p g s) : Var ((W.setCell ⟨p, 0, none⟩ (.bool g')).setCell ⟨p, 1, none⟩ (.string s')) p g' s' :=
  ⟨(one_set h.1 h.2.1).1, (one_set h.1 h.2.1).2, by simp only [World.frozen?_setCell]; exact h.2.2.1, by simp only [World.frozen?_setCell]; exact h.2.2.2⟩
theorem Var.far {W : World} {p : Nat} {g : Bool} {s : ByteArray} {a : Addr} (h : Var W p g s) (ha : a.block ≠ p) (u : Value) : Var (W.setCell a u) p g s :=
  ⟨by rw [World.cell?_setCell_far _ _ _ _ (by dsimp only; exact ha)]; exact h.1, by rw [World.cell?_setCell_far _ _ _ _ (by dsimp only; exact ha)]; exact h.2.1, by rw [World.frozen?_setCell]; exact h.2.2.1, by rw [World.frozen?_setCell]; exact h.2.2.2⟩
theorem Var.far2 {W : World} {p : Nat} {g : Bool} {s : ByteArray} {a b : Addr} {u v : Value} (h : Var W p g s) (ha : a.block ≠ p) (hb : b.block ≠ p) : Var ((W.setCell a u).setCell b v) p g s := (h.far ha u).far hb v
theorem Var.new (W : World) (t : TypeId) (g : Bool) (s : ByteArray) : Var (W.alloc (.cells #[.bool g, .string s] t)) W.heap.size g s := by
  refine ⟨?_, ?_, ?_, ?_⟩ <;> simp [go_sem]
/-- Two such variables. -/
def TwoVars (W : World) (p q : Nat) (g1 : Bool) (s1 : ByteArray) (g2 : Bool) (s2 : ByteArray) : Prop := Var W p g1 s1 ∧ Var W q g2 s2
def TwoC (W : World) (p : Nat) (g : Bool) (s : ByteArray) : Prop := W.cell? ⟨p, 0, none⟩ = some (.bool g) ∧ W.cell? ⟨p, 1, none⟩ = some (.string s)
theorem TwoC.keep {W W1 : World} {p : Nat} {g : Bool} {s : ByteArray} (hb : Below W.heap.size W W1) (h : TwoC W p g s) : TwoC W1 p g s := ⟨cell_keep h.1 hb, cell_keep h.2 hb⟩
theorem TwoC.alloc {W : World} {p : Nat} {g : Bool} {s : ByteArray} (h : TwoC W p g s) (o : Obj) : TwoC (W.alloc o) p g s := h.keep ((Below.refl _ _).alloc (Nat.le_refl _) _)
theorem TwoC.drew {W : World} {p : Nat} {g : Bool} {s : ByteArray} (h : TwoC W p g s) : TwoC W.drew p g s := h
theorem TwoC.set {W : World} {p : Nat} {g : Bool} {s : ByteArray} {a : Addr} (h : TwoC W p g s) (ha : p < a.block) (u : Value) : TwoC (W.setCell a u) p g s :=
  ⟨by rw [World.cell?_setCell_far _ _ _ _ (by dsimp only; omega)]; exact h.1, by rw [World.cell?_setCell_far _ _ _ _ (by dsimp only; omega)]; exact h.2⟩
theorem vars_set {W : World} {p q : Nat} {g1 g2 h1 h2 : Bool} {s1 s2 r1 r2 : ByteArray} (hne : p ≠ q) (hp : Var W p h1 r1) (hq : Var W q h2 r2) :
    TwoVars ((((W.setCell ⟨p, 0, none⟩ (.bool g1)).setCell ⟨p, 1, none⟩ (.string s1)).setCell ⟨q, 0, none⟩ (.bool g2)).setCell ⟨q, 1, none⟩ (.string s2)) p q g1 s1 g2 s2 :=
  ⟨hp.set.far2 (by dsimp only; omega) (by dsimp only; omega), (hq.far2 (by dsimp only; omega) (by dsimp only; omega)).set⟩
theorem cmpZ_range (a b : Int) : -1 ≤ cmpZ a b ∧ cmpZ a b ≤ 1 := by unfold cmpZ; split <;> (try split) <;> omega
theorem cmpZ_flip (a b : Int) : cmpZ b a = - cmpZ a b := by unfold cmpZ; split <;> split <;> (try split) <;> omega
theorem cmpZ_congr {a b c d : Int} (h1 : a < b ↔ c < d) (h2 : b < a ↔ d < c) : cmpZ a b = cmpZ c d := by
  unfold cmpZ
  simp only [h1, h2]
theorem cmpZ_le {a b : Int} : cmpZ a b ≤ 0 ↔ a ≤ b := by unfold cmpZ; split <;> (try split) <;> omega
theorem cmpZ_neg_iff {a b : Int} : cmpZ a b < 0 ↔ a < b := by unfold cmpZ; split <;> (try split) <;> omega

end Go.Proofs.YtfcdekkoeeaolaaGreatDoor

namespace Go.Proofs.YtfcdekkoeeaolaaGreatDoor
open Go.RowKit

def Cel (W : World) (x : Nat × Bool × ByteArray) : Prop := W.cell? ⟨x.1, 0, none⟩ = some (.bool x.2.1) ∧ W.cell? ⟨x.1, 1, none⟩ = some (.string x.2.2)
/-- These integers lie in these blocks. -/
def Cells (L : List (Nat × Bool × ByteArray)) (W : World) : Prop := ∀ x ∈ L, Cel W x
theorem Cells.keep {L : List (Nat × Bool × ByteArray)} {W W1 : World} (hb : Below W.heap.size W W1) (h : Cells L W) : Cells L W1 := fun x hx => ⟨cell_keep (h x hx).1 hb, cell_keep (h x hx).2 hb⟩
theorem Cells.alloc {L : List (Nat × Bool × ByteArray)} {W : World} (h : Cells L W) (o : Obj) : Cells L (W.alloc o) := h.keep ((Below.refl _ _).alloc (Nat.le_refl _) _)
theorem Cells.drew {L : List (Nat × Bool × ByteArray)} {W : World} (h : Cells L W) : Cells L W.drew := h
theorem Cells.set {L : List (Nat × Bool × ByteArray)} {W : World} {a : Addr} (h : Cells L W) (ha : ∀ x ∈ L, x.1 ≠ a.block) (u : Value) : Cells L (W.setCell a u) := fun x hx =>
  ⟨by rw [World.cell?_setCell_far _ _ _ _ (by dsimp only; exact fun e => ha x hx e.symm)]; exact (h x hx).1, by rw [World.cell?_setCell_far _ _ _ _ (by dsimp only; exact fun e => ha x hx e.symm)]; exact (h x hx).2⟩
theorem Cells.nil (W : World) : Cells [] W := fun x hx => by cases hx
theorem Cells.cons {L : List (Nat × Bool × ByteArray)} {W : World} {p : Nat} {g : Bool} {s : ByteArray} (h1 : W.cell? ⟨p, 0, none⟩ = some (.bool g)) (h2 : W.cell? ⟨p, 1, none⟩ = some (.string s)) (h : Cells L W) : Cells ((p, g, s) :: L) W := fun x hx => by
  rcases List.mem_cons.1 hx with rfl | hx
  · exact ⟨h1, h2⟩
  · exact h x hx
theorem Cells.var {L : List (Nat × Bool × ByteArray)} {W : World} {p : Nat} {g : Bool} {s : ByteArray} (h1 : Var W p g s) (h : Cells L W) : Cells ((p, g, s) :: L) W := h.cons h1.1 h1.2.1
theorem Cells.sub {L M : List (Nat × Bool × ByteArray)} {W : World} (h : Cells L W) (hs : ∀ x ∈ M, x ∈ L) : Cells M W := fun x hx => h x (hs x hx)
theorem Cells.lt {L : List (Nat × Bool × ByteArray)} {W : World} (h : Cells L W) {x : Nat × Bool × ByteArray} (hx : x ∈ L) : x.1 < W.heap.size := World.block_lt_of_cell? W ⟨x.1, 0, none⟩ (h x hx).1
theorem flat2 {W : World} {p1 p2 : Nat} {g1 g2 : Bool} {s1 s2 : ByteArray} (h : Cells [(p1, g1, s1), (p2, g2, s2)] W) :
    W.cell? ⟨p1, 0, none⟩ = some (.bool g1) ∧ W.cell? ⟨p1, 1, none⟩ = some (.string s1) ∧ W.cell? ⟨p2, 0, none⟩ = some (.bool g2) ∧ W.cell? ⟨p2, 1, none⟩ = some (.string s2) :=
  ⟨(h (p1, g1, s1) (by simp)).1, (h (p1, g1, s1) (by simp)).2, (h (p2, g2, s2) (by simp)).1, (h (p2, g2, s2) (by simp)).2⟩
theorem flat3 {W : World} {p1 p2 p3 : Nat} {g1 g2 g3 : Bool} {s1 s2 s3 : ByteArray} (h : Cells [(p1, g1, s1), (p2, g2, s2), (p3, g3, s3)] W) :
    W.cell? ⟨p1, 0, none⟩ = some (.bool g1) ∧ W.cell? ⟨p1, 1, none⟩ = some (.string s1) ∧ W.cell? ⟨p2, 0, none⟩ = some (.bool g2) ∧ W.cell? ⟨p2, 1, none⟩ = some (.string s2) ∧ W.cell? ⟨p3, 0, none⟩ = some (.bool g3) ∧ W.cell? ⟨p3, 1, none⟩ = some (.string s3) :=
  ⟨(h (p1, g1, s1) (by simp)).1, (h (p1, g1, s1) (by simp)).2, flat2 (h.sub (by simp))⟩
theorem flat4 {W : World} {p1 p2 p3 p4 : Nat} {g1 g2 g3 g4 : Bool} {s1 s2 s3 s4 : ByteArray} (h : Cells [(p1, g1, s1), (p2, g2, s2), (p3, g3, s3), (p4, g4, s4)] W) :
    W.cell? ⟨p1, 0, none⟩ = some (.bool g1) ∧ W.cell? ⟨p1, 1, none⟩ = some (.string s1) ∧ W.cell? ⟨p2, 0, none⟩ = some (.bool g2) ∧ W.cell? ⟨p2, 1, none⟩ = some (.string s2) ∧ W.cell? ⟨p3, 0, none⟩ = some (.bool g3) ∧ W.cell? ⟨p3, 1, none⟩ = some (.string s3) ∧
      W.cell? ⟨p4, 0, none⟩ = some (.bool g4) ∧ W.cell? ⟨p4, 1, none⟩ = some (.string s4) :=
  ⟨(h (p1, g1, s1) (by simp)).1, (h (p1, g1, s1) (by simp)).2, flat3 (h.sub (by simp))⟩
theorem flat5 {W : World} {p1 p2 p3 p4 p5 : Nat} {g1 g2 g3 g4 g5 : Bool} {s1 s2 s3 s4 s5 : ByteArray} (h : Cells [(p1, g1, s1), (p2, g2, s2), (p3, g3, s3), (p4, g4, s4), (p5, g5, s5)] W) :
    W.cell? ⟨p1, 0, none⟩ = some (.bool g1) ∧ W.cell? ⟨p1, 1, none⟩ = some (.string s1) ∧ W.cell? ⟨p2, 0, none⟩ = some (.bool g2) ∧ W.cell? ⟨p2, 1, none⟩ = some (.string s2) ∧ W.cell? ⟨p3, 0, none⟩ = some (.bool g3) ∧ W.cell? ⟨p3, 1, none⟩ = some (.string s3) ∧
      W.cell? ⟨p4, 0, none⟩ = some (.bool g4) ∧ W.cell? ⟨p4, 1, none⟩ = some (.string s4) ∧ W.cell? ⟨p5, 0, none⟩ = some (.bool g5) ∧ W.cell? ⟨p5, 1, none⟩ = some (.string s5) :=
  ⟨(h (p1, g1, s1) (by simp)).1, (h (p1, g1, s1) (by simp)).2, flat4 (h.sub (by simp))⟩
theorem flat6 {W : World} {p1 p2 p3 p4 p5 p6 : Nat} {g1 g2 g3 g4 g5 g6 : Bool} {s1 s2 s3 s4 s5 s6 : ByteArray} (h : Cells [(p1, g1, s1), (p2, g2, s2), (p3, g3, s3), (p4, g4, s4), (p5, g5, s5), (p6, g6, s6)] W) :
    W.cell? ⟨p1, 0, none⟩ = some (.bool g1) ∧ W.cell? ⟨p1, 1, none⟩ = some (.string s1) ∧ W.cell? ⟨p2, 0, none⟩ = some (.bool g2) ∧ W.cell? ⟨p2, 1, none⟩ = some (.string s2) ∧ W.cell? ⟨p3, 0, none⟩ = some (.bool g3) ∧ W.cell? ⟨p3, 1, none⟩ = some (.string s3) ∧
      W.cell? ⟨p4, 0, none⟩ = some (.bool g4) ∧ W.cell? ⟨p4, 1, none⟩ = some (.string s4) ∧ W.cell? ⟨p5, 0, none⟩ = some (.bool g5) ∧ W.cell? ⟨p5, 1, none⟩ = some (.string s5) ∧ W.cell? ⟨p6, 0, none⟩ = some (.bool g6) ∧ W.cell? ⟨p6, 1, none⟩ = some (.string s6) :=
  ⟨(h (p1, g1, s1) (by simp)).1, (h (p1, g1, s1) (by simp)).2, flat5 (h.sub (by simp))⟩
theorem flat7 {W : World} {p1 p2 p3 p4 p5 p6 p7 : Nat} {g1 g2 g3 g4 g5 g6 g7 : Bool} {s1 s2 s3 s4 s5 s6 s7 : ByteArray} (h : Cells [(p1, g1, s1), (p2, g2, s2), (p3, g3, s3), (p4, g4, s4), (p5, g5, s5), (p6, g6, s6), (p7, g7, s7)] W) :
    W.cell? ⟨p1, 0, none⟩ = some (.bool g1) ∧ W.cell? ⟨p1, 1, none⟩ = some (.string s1) ∧ W.cell? ⟨p2, 0, none⟩ = some (.bool g2) ∧ W.cell? ⟨p2, 1, none⟩ = some (.string s2) ∧ W.cell? ⟨p3, 0, none⟩ = some (.bool g3) ∧ W.cell? ⟨p3, 1, none⟩ = some (.string s3) ∧
      W.cell? ⟨p4, 0, none⟩ = some (.bool g4) ∧ W.cell? ⟨p4, 1, none⟩ = some (.string s4) ∧ W.cell? ⟨p5, 0, none⟩ = some (.bool g5) ∧ W.cell? ⟨p5, 1, none⟩ = some (.string s5) ∧ W.cell? ⟨p6, 0, none⟩ = some (.bool g6) ∧ W.cell? ⟨p6, 1, none⟩ = some (.string s6) ∧
      W.cell? ⟨p7, 0, none⟩ = some (.bool g7) ∧ W.cell? ⟨p7, 1, none⟩ = some (.string s7) :=
  ⟨(h (p1, g1, s1) (by simp)).1, (h (p1, g1, s1) (by simp)).2, flat6 (h.sub (by simp))⟩
/-- Whether one of two integers is great. -/
def twoS (sa sb : ByteArray) : Nat → ByteArray := fun i => if i = 0 then sa else sb
def twoG (na nb : Bool) : Nat → Bool := fun i => if i = 0 then na else nb
theorem great2 (sa sb : ByteArray) : greatB 2 (twoS sa sb) = (decide (60 < sa.size) || decide (60 < sb.size)) := by
  simp [greatB, twoS, List.range_succ]
end Go.Proofs.YtfcdekkoeeaolaaGreatDoor

namespace Go.Proofs.YtfcdekkoeeaolaaGreatDoor
open Go.RowKit
set_option linter.unusedSimpArgs false

/-- What lies in some blocks: the values from the first cell of each on. -/
def Vars (L : List (Nat × List Value)) (W : World) : Prop := ∀ x ∈ L, x.1 < W.heap.size ∧ ∀ i v, x.2[i]? = some v → W.cell? ⟨x.1, i, none⟩ = some v
theorem Vars.keep {L : List (Nat × List Value)} {W W1 : World} (hb : Below W.heap.size W W1) (h : Vars L W) : Vars L W1 := fun x hx => ⟨Nat.lt_of_lt_of_le (h x hx).1 hb.size, fun i v e => cell_keep ((h x hx).2 i v e) hb⟩
theorem Vars.nil (W : World) : Vars [] W := fun x hx => by cases hx
theorem Vars.drew {L : List (Nat × List Value)} {W : World} (h : Vars L W) : Vars L W.drew := h
theorem Vars.alloc {L : List (Nat × List Value)} {W : World} (h : Vars L W) (o : Obj) : Vars L (W.alloc o) := h.keep ((Below.refl _ _).alloc (Nat.le_refl _) _)
theorem Vars.set {L : List (Nat × List Value)} {W : World} (h : Vars L W) (a : Addr) (ha : ∀ x ∈ L, x.1 ≠ a.block) (u : Value) : Vars L (W.setCell a u) := fun x hx =>
  ⟨by rw [World.size_setCell]; exact (h x hx).1, fun i v e => by rw [World.cell?_setCell_far _ _ _ _ (by dsimp only; exact fun e => ha x hx e.symm)]; exact (h x hx).2 i v e⟩
theorem Vars.set4 {L : List (Nat × List Value)} {W : World} {p : Nat} (h : Vars L W) (hp : ∀ x ∈ L, x.1 ≠ p) (u1 u2 u3 u4 : Value) : Vars L ((((W.setCell ⟨p, 0, none⟩ u1).setCell ⟨p, 1, none⟩ u2).setCell ⟨p, 2, none⟩ u3).setCell ⟨p, 3, none⟩ u4) :=
  (((h.set _ hp _).set _ hp _).set _ hp _).set _ hp _
theorem Vars.new {L : List (Nat × List Value)} {W : World} (h : Vars L W) (vs : List Value) (t : TypeId) : Vars ((W.heap.size, vs) :: L) (W.alloc (.cells vs.toArray t)) := by
  intro x hx
  rcases List.mem_cons.1 hx with rfl | hx
  · refine ⟨by rw [World.size_alloc]; exact Nat.lt_succ_self _, fun i v e => ?_⟩
    simp only [World.cell?_alloc_mark]; simpa using e
  · exact h.alloc _ x hx
theorem Vars.at {L : List (Nat × List Value)} {W : World} (h : Vars L W) (k i : Nat) {p : Nat} {v : Value} (e : (L[k]?.bind fun x => x.2[i]?.map fun v => (x.1, v)) = some (p, v)) : W.cell? ⟨p, i, none⟩ = some v := by
  rcases hx : L[k]? with _ | x
  · rw [hx] at e; cases e
  · rw [hx] at e
    simp only [Option.bind_some] at e
    rcases hv : x.2[i]? with _ | u
    · rw [hv] at e; cases e
    · rw [hv] at e
      simp only [Option.map_some, Option.some.injEq, Prod.mk.injEq] at e
      obtain ⟨rfl, rfl⟩ := e
      exact (h x (List.mem_of_getElem? hx)).2 i u hv
theorem Vars.cons {W : World} {p : Nat} {v0 : Value} {vs : List Value} {L : List (Nat × List Value)} (h : ∀ i v, (v0 :: vs)[i]? = some v → W.cell? ⟨p, i, none⟩ = some v) (hL : Vars L W) : Vars ((p, v0 :: vs) :: L) W := by
  intro x hx
  rcases List.mem_cons.1 hx with rfl | hx
  · exact ⟨World.block_lt_of_cell? W ⟨p, 0, none⟩ (h 0 v0 rfl), h⟩
  · exact hL x hx
theorem Vars.one {W : World} {p : Nat} {v0 : Value} {vs : List Value} (h : ∀ i v, (v0 :: vs)[i]? = some v → W.cell? ⟨p, i, none⟩ = some v) : Vars [(p, v0 :: vs)] W := Vars.cons h (Vars.nil _)
theorem Vars.tail {L : List (Nat × List Value)} {x : Nat × List Value} {W : World} (h : Vars (x :: L) W) : Vars L W := fun y hy => h y (List.mem_cons_of_mem _ hy)
theorem Vars.far {L : List (Nat × List Value)} {W : World} (h : Vars L W) {p : Nat} (hp : W.heap.size ≤ p) : ∀ x ∈ L, x.1 ≠ p := fun x hx e => by
  have := (h x hx).1
  omega
theorem four_cells {W : World} {p : Nat} {a b c d : Value} (h0 : W.cell? ⟨p, 0, none⟩ = some a) (h1 : W.cell? ⟨p, 1, none⟩ = some b) (h2 : W.cell? ⟨p, 2, none⟩ = some c) (h3 : W.cell? ⟨p, 3, none⟩ = some d) :
    ∀ i v, [a, b, c, d][i]? = some v → W.cell? ⟨p, i, none⟩ = some v := by
  intro i v e
  rcases i with _ | _ | _ | _ | i
  · simp at e; subst e; exact h0
  · simp at e; subst e; exact h1
  · simp at e; subst e; exact h2
  · simp at e; subst e; exact h3
  · simp at e

theorem two_cells {W : World} {p : Nat} {a b : Value} (h0 : W.cell? ⟨p, 0, none⟩ = some a) (h1 : W.cell? ⟨p, 1, none⟩ = some b) : ∀ i v, [a, b][i]? = some v → W.cell? ⟨p, i, none⟩ = some v := by
  intro i v e
  rcases i with _ | _ | i
  · simp at e; subst e; exact h0
  · simp at e; subst e; exact h1
  · simp at e
end Go.Proofs.YtfcdekkoeeaolaaGreatDoor
