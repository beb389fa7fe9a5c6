/- Three integers in their boxes, and the order of integers. No condition. Integers in cells, a list of them. No condition. Plain words for the reference implementation of layer 1: leading zeros, bytes as numbers. No condition. -/
import Derived.Test.YtfcdekkoeeaolaaGreatDoorQ21
import Derived.Outline
import Derived.Test.YtfcdekkoeeaolaaGreatDoorQ09
import Derived.Test.YtfcdekkoeeaolaaGreatDoorQ18
import Derived.Test.YtfcdekkoeeaolaaGreatDoorQ10
import Derived.Laws.BitsAllLaws

namespace Go.Proofs.YtfcdekkoeeaolaaGreatDoor
open Go.RowKit
/-- Three integers in their boxes. -/
def Six (na nb nc : Bool) (sa sb sc : ByteArray) (B : Nat) (W : World) : Prop := W.cell? ⟨B, 0, none⟩ = some (.bool na) ∧ W.cell? ⟨B, 1, none⟩ = some (.string sa) ∧ W.cell? ⟨B + 1, 0, none⟩ = some (.bool nb) ∧ W.cell? ⟨B + 1, 1, none⟩ = some (.string sb) ∧ W.cell? ⟨B + 1 + 1, 0, none⟩ = some (.bool nc) ∧ W.cell? ⟨B + 1 + 1, 1, none⟩ = some (.string sc)
theorem Six.keep {na nb nc : Bool} {sa sb sc : ByteArray} {B : Nat} {W W1 : World} (hb : Below W.heap.size W W1) (h : Six na nb nc sa sb sc B W) : Six na nb nc sa sb sc B W1 :=
  ⟨cell_keep h.1 hb, cell_keep h.2.1 hb, cell_keep h.2.2.1 hb, cell_keep h.2.2.2.1 hb, cell_keep h.2.2.2.2.1 hb, cell_keep h.2.2.2.2.2 hb⟩
theorem Six.alloc {na nb nc : Bool} {sa sb sc : ByteArray} {B : Nat} {W : World} (h : Six na nb nc sa sb sc B W) (o : Obj) : Six na nb nc sa sb sc B (W.alloc o) := h.keep ((Below.refl _ _).alloc (Nat.le_refl _) _)
theorem Six.drew {na nb nc : Bool} {sa sb sc : ByteArray} {B : Nat} {W : World} (h : Six na nb nc sa sb sc B W) : Six na nb nc sa sb sc B W.drew := h
theorem Six.set {na nb nc : Bool} {sa sb sc : ByteArray} {B : Nat} {W : World} {p : Addr} (h : Six na nb nc sa sb sc B W) (hp : B + 1 + 1 < p.block) (u : Value) : Six na nb nc sa sb sc B (W.setCell p u) := by
  refine ⟨?_, ?_, ?_, ?_, ?_, ?_⟩ <;> rw [World.cell?_setCell_far _ _ _ _ (by dsimp only; omega)]
  · exact h.1
  · exact h.2.1
  · exact h.2.2.1
  · exact h.2.2.2.1
  · exact h.2.2.2.2.1
  · exact h.2.2.2.2.2

theorem below4 (w : World) (o1 o2 o3 o4 : Obj) : Below w.heap.size w ((((w.alloc o1).alloc o2).alloc o3).alloc o4) := (below3 w o1 o2 o3).alloc (by simp only [World.size_alloc]; omega) _

/-- The three integers, and a fourth one. -/
def Eight (na nb nc : Bool) (sa sb sc : ByteArray) (B p : Nat) (g : Bool) (s : ByteArray) (W : World) : Prop := Six na nb nc sa sb sc B W ∧ (W.cell? ⟨p, 0, none⟩ = some (.bool g) ∧ W.cell? ⟨p, 1, none⟩ = some (.string s))
theorem Eight.keep {na nb nc : Bool} {sa sb sc : ByteArray} {B p : Nat} {g : Bool} {s : ByteArray} {W W1 : World} (hb : Below W.heap.size W W1) (h : Eight na nb nc sa sb sc B p g s W) : Eight na nb nc sa sb sc B p g s W1 := ⟨h.1.keep hb, cell_keep h.2.1 hb, cell_keep h.2.2 hb⟩
theorem Eight.flat {na nb nc : Bool} {sa sb sc : ByteArray} {B p : Nat} {g : Bool} {s : ByteArray} {W : World} (h : Eight na nb nc sa sb sc B p g s W) : W.cell? ⟨B, 0, none⟩ = some (.bool na) ∧ W.cell? ⟨B, 1, none⟩ = some (.string sa) ∧ W.cell? ⟨B + 1, 0, none⟩ = some (.bool nb) ∧ W.cell? ⟨B + 1, 1, none⟩ = some (.string sb) ∧ W.cell? ⟨B + 1 + 1, 0, none⟩ = some (.bool nc) ∧ W.cell? ⟨B + 1 + 1, 1, none⟩ = some (.string sc) ∧ W.cell? ⟨p, 0, none⟩ = some (.bool g) ∧ W.cell? ⟨p, 1, none⟩ = some (.string s) := by
  obtain ⟨⟨t1, t2, t3, t4, t5, t6⟩, ⟨t7, t8⟩⟩ := h
  exact ⟨t1, t2, t3, t4, t5, t6, t7, t8⟩
theorem Eight.alloc {na nb nc : Bool} {sa sb sc : ByteArray} {B p : Nat} {g : Bool} {s : ByteArray} {W : World} (h : Eight na nb nc sa sb sc B p g s W) (o : Obj) : Eight na nb nc sa sb sc B p g s (W.alloc o) := h.keep ((Below.refl _ _).alloc (Nat.le_refl _) _)
theorem Eight.set {na nb nc : Bool} {sa sb sc : ByteArray} {B p : Nat} {g : Bool} {s : ByteArray} {W : World} {a : Addr} (h : Eight na nb nc sa sb sc B p g s W) (ha : B + 1 + 1 < a.block) (hp : p < a.block) (u : Value) : Eight na nb nc sa sb sc B p g s (W.setCell a u) :=
  ⟨h.1.set ha u, by rw [World.cell?_setCell_far _ _ _ _ (by dsimp only; omega)]; exact h.2.1, by rw [World.cell?_setCell_far _ _ _ _ (by dsimp only; omega)]; exact h.2.2⟩
theorem one_set {W : World} {p : Nat} {v1 v2 u1 u2 : Value} (h1 : W.cell? ⟨p, 0, none⟩ = some u1) (h2 : W.cell? ⟨p, 1, none⟩ = some u2) :
    ((W.setCell ⟨p, 0, none⟩ v1).setCell ⟨p, 1, none⟩ v2).cell? ⟨p, 0, none⟩ = some v1 ∧ ((W.setCell ⟨p, 0, none⟩ v1).setCell ⟨p, 1, none⟩ v2).cell? ⟨p, 1, none⟩ = some v2 := by
  have n1 : (⟨p, 0, none⟩ : Addr) ≠ ⟨p, 1, none⟩ := by simp
  exact ⟨set_other (set_same h1) n1.symm, set_same (set_other h2 n1)⟩
/-- A variable of the type api.Int, and that it can be written. -/
def Var (W : World) (p : Nat) (g : Bool) (s : ByteArray) : Prop := W.cell? ⟨p, 0, none⟩ = some (.bool g) ∧ W.cell? ⟨p, 1, none⟩ = some (.string s) ∧ W.frozen? ⟨p, 0, none⟩ = false ∧ W.frozen? ⟨p, 1, none⟩ = false
theorem Var.keep {W W1 : World} {p : Nat} {g : Bool} {s : ByteArray} (hb : Below W.heap.size W W1) (h : Var W p g s) : Var W1 p g s :=
  ⟨cell_keep h.1 hb, cell_keep h.2.1 hb, frozen_keep h.1 h.2.2.1 hb, frozen_keep h.2.1 h.2.2.2 hb⟩
theorem Var.set {W : World} {p : Nat} {g g' : Bool} {s s' : ByteArray} (h : Var W p g s) : Var ((W.setCell ⟨p, 0, none⟩ (.bool g')).setCell ⟨p, 1, none⟩ (.string s')) p g' s' :=
  ⟨(one_set h.1 h.2.1).1, (one_set h.1 h.2.1).2, by simp only [World.frozen?_setCell]; exact h.2.2.1, by simp only [World.frozen?_setCell]; exact h.2.2.2⟩
theorem Var.far {W : World} {p : Nat} {g : Bool} {s : ByteArray} {a : Addr} (h : Var W p g s) (ha : a.block ≠ p) (u : Value) : Var (W.setCell a u) p g s :=
  ⟨by rw [World.cell?_setCell_far _ _ _ _ (by dsimp only; exact ha)]; exact h.1, by rw [World.cell?_setCell_far _ _ _ _ (by dsimp only; exact ha)]; exact h.2.1, by rw [World.frozen?_setCell]; exact h.2.2.1, by rw [World.frozen?_setCell]; exact h.2.2.2⟩
theorem Var.far2 {W : World} {p : Nat} {g : Bool} {s : ByteArray} {a b : Addr} {u v : Value} (h : Var W p g s) (ha : a.block ≠ p) (hb : b.block ≠ p) : Var ((W.setCell a u).setCell b v) p g s := (h.far ha u).far hb v
theorem Var.new (W : World) (t : TypeId) (g : Bool) (s : ByteArray) : Var (W.alloc (.cells #[.bool g, .string s] t)) W.heap.size g s := by
  refine ⟨?_, ?_, ?_, ?_⟩ <;> simp [go_sem]
/-- Two such variables. -/
def TwoVars (W : World) (p q : Nat) (g1 : Bool) (s1 : ByteArray) (g2 : Bool) (s2 : ByteArray) : Prop := Var W p g1 s1 ∧ Var W q g2 s2
def TwoC (W : World) (p : Nat) (g : Bool) (s : ByteArray) : Prop := W.cell? ⟨p, 0, none⟩ = some (.bool g) ∧ W.cell? ⟨p, 1, none⟩ = some (.string s)
theorem TwoC.keep {W W1 : World} {p : Nat} {g : Bool} {s : ByteArray} (hb : Below W.heap.size W W1) (h : TwoC W p g s) : TwoC W1 p g s := ⟨cell_keep h.1 hb, cell_keep h.2 hb⟩
theorem TwoC.alloc {W : World} {p : Nat} {g : Bool} {s : ByteArray} (h : TwoC W p g s) (o : Obj) : TwoC (W.alloc o) p g s := h.keep ((Below.refl _ _).alloc (Nat.le_refl _) _)
theorem TwoC.drew {W : World} {p : Nat} {g : Bool} {s : ByteArray} (h : TwoC W p g s) : TwoC W.drew p g s := h
theorem TwoC.set {W : World} {p : Nat} {g : Bool} {s : ByteArray} {a : Addr} (h : TwoC W p g s) (ha : p < a.block) (u : Value) : TwoC (W.setCell a u) p g s :=
  ⟨by rw [World.cell?_setCell_far _ _ _ _ (by dsimp only; omega)]; exact h.1, by rw [World.cell?_setCell_far _ _ _ _ (by dsimp only; omega)]; exact h.2⟩
theorem vars_set {W : World} {p q : Nat} {g1 g2 h1 h2 : Bool} {s1 s2 r1 r2 : ByteArray} (hne : p ≠ q) (hp : Var W p h1 r1) (hq : Var W q h2 r2) :
    TwoVars ((((W.setCell ⟨p, 0, none⟩ (.bool g1)).setCell ⟨p, 1, none⟩ (.string s1)).setCell ⟨q, 0, none⟩ (.bool g2)).setCell ⟨q, 1, none⟩ (.string s2)) p q g1 s1 g2 s2 :=
  ⟨hp.set.far2 (by dsimp only; omega) (by dsimp only; omega), (hq.far2 (by dsimp only; omega) (by dsimp only; omega)).set⟩
theorem cmpZ_range (a b : Int) : -1 ≤ cmpZ a b ∧ cmpZ a b ≤ 1 := by unfold cmpZ; split <;> (try split) <;> omega
theorem cmpZ_flip (a b : Int) : cmpZ b a = - cmpZ a b := by unfold cmpZ; split <;> split <;> (try split) <;> omega
theorem cmpZ_congr {a b c d : Int} (h1 : a < b ↔ c < d) (h2 : b < a ↔ d < c) : cmpZ a b = cmpZ c d := by
  unfold cmpZ
  simp only [h1, h2]
theorem cmpZ_le {a b : Int} : cmpZ a b ≤ 0 ↔ a ≤ b := by unfold cmpZ; split <;> (try split) <;> omega
theorem cmpZ_neg_iff {a b : Int} : cmpZ a b < 0 ↔ a < b := by unfold cmpZ; split <;> (try split) <;> omega

end Go.Proofs.YtfcdekkoeeaolaaGreatDoor

namespace Go.Proofs.YtfcdekkoeeaolaaGreatDoor
open Go.RowKit

def Cel (W : World) (x : Nat × Bool × ByteArray) : Prop := W.cell? ⟨x.1, 0, none⟩ = some (.bool x.2.1) ∧ W.cell? ⟨x.1, 1, none⟩ = some (.string x.2.2)
/-- These integers lie in these blocks. -/
def Cells (L : List (Nat × Bool × ByteArray)) (W : World) : Prop := ∀ x ∈ L, Cel W x
theorem Cells.keep {L : List (Nat × Bool × ByteArray)} {W W1 : World} (hb : Below W.heap.size W W1) (h : Cells L W) : Cells L W1 := fun x hx => ⟨cell_keep (h x hx).1 hb, cell_keep (h x hx).2 hb⟩
theorem Cells.alloc {L : List (Nat × Bool × ByteArray)} {W : World} (h : Cells L W) (o : Obj) : Cells L (W.alloc o) := h.keep ((Below.refl _ _).alloc (Nat.le_refl _) _)
theorem Cells.drew {L : List (Nat × Bool × ByteArray)} {W : World} (h : Cells L W) : Cells L W.drew := h
theorem Cells.set {L : List (Nat × Bool × ByteArray)} {W : World} {a : Addr} (h : Cells L W) (ha : ∀ x ∈ L, x.1 ≠ a.block) (u : Value) : Cells L (W.setCell a u) := fun x hx =>
  ⟨by rw [World.cell?_setCell_far _ _ _ _ (by dsimp only; exact fun e => ha x hx e.symm)]; exact (h x hx).1, by rw [World.cell?_setCell_far _ _ _ _ (by dsimp only; exact fun e => ha x hx e.symm)]; exact (h x hx).2⟩
theorem Cells.nil (W : World) : Cells [] W := fun x hx => by cases hx
theorem Cells.cons {L : List (Nat × Bool × ByteArray)} {W : World} {p : Nat} {g : Bool} {s : ByteArray} (h1 : W.cell? ⟨p, 0, none⟩ = some (.bool g)) (h2 : W.cell? ⟨p, 1, none⟩ = some (.string s)) (h : Cells L W) : Cells ((p, g, s) :: L) W := fun x hx => by
  rcases List.mem_cons.1 hx with rfl | hx
  · exact ⟨h1, h2⟩
  · exact h x hx
theorem Cells.var {L : List (Nat × Bool × ByteArray)} {W : World} {p : Nat} {g : Bool} {s : ByteArray} (h1 : Var W p g s) (h : Cells L W) : Cells ((p, g, s) :: L) W := h.cons h1.1 h1.2.1
theorem Cells.sub {L M : List (Nat × Bool × ByteArray)} {W : World} (h : Cells L W) (hs : ∀ x ∈ M, x ∈ L) : Cells M W := fun x hx => h x (hs x hx)
theorem Cells.lt {L : List (Nat × Bool × ByteArray)} {W : World} (h : Cells L W) {x : Nat × Bool × ByteArray} (hx : x ∈ L) : x.1 < W.heap.size := World.block_lt_of_cell? W ⟨x.1, 0, none⟩ (h x hx).1
theorem flat2 {W : World} {p1 p2 : Nat} {g1 g2 : Bool} {s1 s2 : ByteArray} (h : Cells [(p1, g1, s1), (p2, g2, s2)] W) :
    W.cell? ⟨p1, 0, none⟩ = some (.bool g1) ∧ W.cell? ⟨p1, 1, none⟩ = some (.string s1) ∧ W.cell? ⟨p2, 0, none⟩ = some (.bool g2) ∧ W.cell? ⟨p2, 1, none⟩ = some (.string s2) :=
  ⟨(h (p1, g1, s1) (by simp)).1, (h (p1, g1, s1) (by simp)).2, (h (p2, g2, s2) (by simp)).1, (h (p2, g2, s2) (by simp)).2⟩
theorem flat3 {W : World} {p1 p2 p3 : Nat} {g1 g2 g3 : Bool} {s1 s2 s3 : ByteArray} (h : Cells [(p1, g1, s1), (p2, g2, s2), (p3, g3, s3)] W) :
    W.cell? ⟨p1, 0, none⟩ = some (.bool g1) ∧ W.cell? ⟨p1, 1, none⟩ = some (.string s1) ∧ W.cell? ⟨p2, 0, none⟩ = some (.bool g2) ∧ W.cell? ⟨p2, 1, none⟩ = some (.string s2) ∧ W.cell? ⟨p3, 0, none⟩ = some (.bool g3) ∧ W.cell? ⟨p3, 1, none⟩ = some (.string s3) :=
  ⟨(h (p1, g1, s1) (by simp)).1, (h (p1, g1, s1) (by simp)).2, flat2 (h.sub (by simp))⟩
theorem flat4 {W : World} {p1 p2 p3 p4 : Nat} {g1 g2 g3 g4 : Bool} {s1 s2 s3 s4 : ByteArray} (h : Cells [(p1, g1, s1), (p2, g2, s2), (p3, g3, s3), (p4, g4, s4)] W) :
    W.cell? ⟨p1, 0, none⟩ = some (.bool g1) ∧ W.cell? ⟨p1, 1, none⟩ = some (.string s1) ∧ W.cell? ⟨p2, 0, none⟩ = some (.bool g2) ∧ W.cell? ⟨p2, 1, none⟩ = some (.string s2) ∧ W.cell? ⟨p3, 0, none⟩ = some (.bool g3) ∧ W.cell? ⟨p3, 1, none⟩ = some (.string s3) ∧
      W.cell? ⟨p4, 0, none⟩ = some (.bool g4) ∧ W.cell? ⟨p4, 1, none⟩ = some (.string s4) :=
  ⟨(h (p1, g1, s1) (by simp)).1, (h (p1, g1, s1) (by simp)).2, flat3 (h.sub (by simp))⟩
theorem flat5 {W : World} {p1 p2 p3 p4 p5 : Nat} {g1 g2 g3 g4 g5 : Bool} {s1 s2 s3 s4 s5 : ByteArray} (h : Cells [(p1, g1, s1), (p2, g2, s2), (p3, g3, s3), (p4, g4, s4), (p5, g5, s5)] W) :
    W.cell? ⟨p1, 0, none⟩ = some (.bool g1) ∧ W.cell? ⟨p1, 1, none⟩ = some (.string s1) ∧ W.cell? ⟨p2, 0, none⟩ = some (.bool g2) ∧ W.cell? ⟨p2, 1, none⟩ = some (.string s2) ∧ W.cell? ⟨p3, 0, none⟩ = some (.bool g3) ∧ W.cell? ⟨p3, 1, none⟩ = some (.string s3) ∧
      W.cell? ⟨p4, 0, none⟩ = some (.bool g4) ∧ W.cell? ⟨p4, 1, none⟩ = some (.string s4) ∧ W.cell? ⟨p5, 0, none⟩ = some (.bool g5) ∧ W.cell? ⟨p5, 1, none⟩ = some (.string s5) :=
  ⟨(h (p1, g1, s1) (by simp)).1, (h (p1, g1, s1) (by simp)).2, flat4 (h.sub (by simp))⟩
theorem flat6 {W : World} {p1 p2 p3 p4 p5 p6 : Nat} {g1 g2 g3 g4 g5 g6 : Bool} {s1 s2 s3 s4 s5 s6 : ByteArray} (h : Cells [(p1, g1, s1), (p2, g2, s2), (p3, g3, s3), (p4, g4, s4), (p5, g5, s5), (p6, g6, s6)] W) :
    W.cell? ⟨p1, 0, none⟩ = some (.bool g1) ∧ W.cell? ⟨p1, 1, none⟩ = some (.string s1) ∧ W.cell? ⟨p2, 0, none⟩ = some (.bool g2) ∧ W.cell? ⟨p2, 1, none⟩ = some (.string s2) ∧ W.cell? ⟨p3, 0, none⟩ = some (.bool g3) ∧ W.cell? ⟨p3, 1, none⟩ = some (.string s3) ∧
      W.cell? ⟨p4, 0, none⟩ = some (.bool g4) ∧ W.cell? ⟨p4, 1, none⟩ = some (.string s4) ∧ W.cell? ⟨p5, 0, none⟩ = some (.bool g5) ∧ W.cell? ⟨p5, 1, none⟩ = some (.string s5) ∧ W.cell? ⟨p6, 0, none⟩ = some (.bool g6) ∧ W.cell? ⟨p6, 1, none⟩ = some (.string s6) :=
  ⟨(h (p1, g1, s1) (by simp)).1, (h (p1, g1, s1) (by simp)).2, flat5 (h.sub (by simp))⟩
theorem flat7 {W : World} {p1 p2 p3 p4 p5 p6 p7 : Nat} {g1 g2 g3 g4 g5 g6 g7 : Bool} {s1 s2 s3 s4 s5 s6 s7 : ByteArray} (h : Cells [(p1, g1, s1), (p2, g2, s2), (p3, g3, s3), (p4, g4, s4), (p5, g5, s5), (p6, g6, s6), (p7, g7, s7)] W) :
    W.cell? ⟨p1, 0, none⟩ = some (.bool g1) ∧ W.cell? ⟨p1, 1, none⟩ = some (.string s1) ∧ W.cell? ⟨p2, 0, none⟩ = some (.bool g2) ∧ W.cell? ⟨p2, 1, none⟩ = some (.string s2) ∧ W.cell? ⟨p3, 0, none⟩ = some (.bool g3) ∧ W.cell? ⟨p3, 1, none⟩ = some (.string s3) ∧
      W.cell? ⟨p4, 0, none⟩ = some (.bool g4) ∧ W.cell? ⟨p4, 1, none⟩ = some (.string s4) ∧ W.cell? ⟨p5, 0, none⟩ = some (.bool g5) ∧ W.cell? ⟨p5, 1, none⟩ = some (.string s5) ∧ W.cell? ⟨p6, 0, none⟩ = some (.bool g6) ∧ W.cell? ⟨p6, 1, none⟩ = some (.string s6) ∧
      W.cell? ⟨p7, 0, none⟩ = some (.bool g7) ∧ W.cell? ⟨p7, 1, none⟩ = some (.string s7) :=
  ⟨(h (p1, g1, s1) (by simp)).1, (h (p1, g1, s1) (by simp)).2, flat6 (h.sub (by simp))⟩
/-- Whether one of two integers is great. -/
def twoS (sa sb : ByteArray) : Nat → ByteArray := fun i => if i = 0 then sa else sb
def twoG (na nb : Bool) : Nat → Bool := fun i => if i = 0 then na else nb
theorem great2 (sa sb : ByteArray) : greatB 2 (twoS sa sb) = (decide (60 < sa.size) || decide (60 < sb.size)) := by
  simp [greatB, twoS, List.range_succ]
end Go.Proofs.YtfcdekkoeeaolaaGreatDoor

namespace Go.Proofs.YtfcdekkoeeaolaaGreatDoor
open Go.RowKit

theorem trim_cons0 (l : List UInt8) : Lib.trimLeftB (0 :: l) 0 = Lib.trimLeftB l 0 := by simp [Lib.trimLeftB]
theorem trim_consN {b : UInt8} (l : List UInt8) (h : b ≠ 0) : Lib.trimLeftB (b :: l) 0 = b :: l := by simp [Lib.trimLeftB, h]
theorem trim_nil : Lib.trimLeftB [] 0 = [] := by rfl
theorem sg_zv9 (ng : Bool) (s : ByteArray) (h : vB s.data.toList ≠ 0) : sg (zv ng s) = ng := by
  unfold sg zv; cases ng <;> simp <;> omega
/-- A first byte that is not 0: the integer is canonical. -/
theorem canon_first {g : Bool} {b : UInt8} {l : List UInt8} (h : b ≠ 0) : sg (zv g ⟨(b :: l).toArray⟩) = g ∧ mg (zv g ⟨(b :: l).toArray⟩) = ⟨(b :: l).toArray⟩ := by
  have h1 : vB (⟨(b :: l).toArray⟩ : ByteArray).data.toList ≠ 0 := by
    show vB (b :: l) ≠ 0
    have := vB_ge (l := l) h
    have hp : 0 < 256 ^ l.length := Nat.pow_pos (by omega)
    omega
  refine ⟨sg_zv9 g _ h1, ?_⟩
  unfold mg
  rw [natAbs_zv]
  show (⟨(bytesOf (vB (b :: l))).toArray⟩ : ByteArray) = _
  rw [bytesOf_vB _ (by simpa using h)]
/-- What is left without leading zeros, and the sign. -/
theorem canon_trim (g : Bool) (l : List UInt8) : mg (zv g ⟨l.toArray⟩) = ⟨(Lib.trimLeftB l 0).toArray⟩ ∧ sg (zv g ⟨l.toArray⟩) = (g && !(Lib.trimLeftB l 0 == [])) := by
  have e : (zv g ⟨l.toArray⟩).natAbs = vB l := natAbs_zv g ⟨l.toArray⟩
  refine ⟨by unfold mg; rw [e, trim_bytes], ?_⟩
  rw [trim_bytes]
  by_cases h : vB l = 0
  · rw [h, bytesOf_zero]
    unfold sg zv
    have h2 : vB (⟨l.toArray⟩ : ByteArray).data.toList = 0 := h
    rw [h2]
    cases g <;> simp
  · have h2 : vB (⟨l.toArray⟩ : ByteArray).data.toList ≠ 0 := h
    rw [sg_zv9 g _ h2]
    have h3 : (bytesOf (vB l) == []) = false := by
      rw [beq_eq_false_iff_ne]
      intro e2
      exact h (bytesOf_nil.1 e2)
    rw [h3]; simp
theorem vB_take_succ {l : List UInt8} {k : Nat} {c : UInt8} (h : l[k]? = some c) : vB (l.take (k + 1)) = vB (l.take k) * 256 + c.toNat := by
  rw [List.take_add_one, h]
  exact vB_snoc _ _
theorem vB_app (a b : List UInt8) : vB (a ++ b) = vB a * 256 ^ b.length + vB b := by
  unfold vB
  rw [List.foldl_append]
  exact foldl_acc b _
theorem vB_take_le (l : List UInt8) (k : Nat) : vB (l.take k) ≤ vB l := by
  have h := vB_app (l.take k) (l.drop k)
  rw [List.take_append_drop] at h
  have h1 : vB (l.take k) * 1 ≤ vB (l.take k) * 256 ^ (l.drop k).length := Nat.mul_le_mul_left _ (Nat.pow_pos (by omega))
  omega
theorem or_256 (a b : Nat) (h : b < 256) : a * 256 ||| b = a * 256 + b := by
  have := Nat.two_pow_add_eq_or_of_lt (i := 8) (b := b) (by simpa using h) a
  rw [show (2 : Nat) ^ 8 = 256 from rfl, Nat.mul_comm] at this
  exact this.symm
theorem i64_or_nat (a b : Nat) (ha : a < 9223372036854775808) (hb : b < 9223372036854775808) : bits .or .i64 (a : Int) (b : Int) = ((a ||| b : Nat) : Int) := by
  have hx : a ||| b < 2 ^ 63 := Nat.or_lt_two_pow (by omega) (by omega)
  show IntKind.i64.wrap ((BitVec.ofInt 64 (a : Int) ||| BitVec.ofInt 64 (b : Int)).toNat : Int) = _
  rw [BitVec.toNat_or, ofInt_u64 a (by omega), ofInt_u64 b (by omega)]
  exact IntWalk.i64_in _ (by omega)
theorem i64_or_256 (a b : Nat) (ha : a * 256 + b < 9223372036854775808) (hb : b < 256) : bits .or .i64 ((a : Int) * 256) (b : Int) = ((a * 256 + b : Nat) : Int) := by
  obtain ⟨x, hx⟩ : ∃ x, x = a * 256 := ⟨_, rfl⟩
  have h := i64_or_nat x b (by omega) (by omega)
  have e1 : (x : Int) = (a : Int) * 256 := by rw [hx, Int.natCast_mul]; rfl
  have e2 : x ||| b = a * 256 + b := by rw [hx]; exact or_256 a b hb
  rw [e1, e2] at h
  exact h
/-- The order of canonical bytes. -/
theorem cmpN_len9 {A B : Nat} (h : (bytesOf A).length < (bytesOf B).length) : cmpN A B = -1 ∧ cmpN B A = 1 := by
  have hB := head_trim (bytesOf B)
  rw [trim_bytes, vB_bytesOf] at hB
  have a1 := vB_lt (bytesOf A)
  rw [vB_bytesOf] at a1
  have h2 := vB_len hB (by omega)
  rw [vB_bytesOf] at h2
  have h3 : (256 : Nat) ^ (bytesOf A).length ≤ 256 ^ ((bytesOf B).length - 1) := Nat.pow_le_pow_right (by omega) (by omega)
  have h4 : A < B := by omega
  unfold cmpN
  constructor
  · rw [if_pos h4]
  · rw [if_neg (by omega), if_pos h4]
end Go.Proofs.YtfcdekkoeeaolaaGreatDoor
