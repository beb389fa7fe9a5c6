/- Three integers in their boxes, and the order of integers. No condition. Integers in cells, a list of them. No condition. Plain words for the reference implementation of layer 1: leading zeros, bytes as numbers. No condition. What the reference implementation's trim and Canonical return. Condition: at most 10^9 bytes. What the reference implementation's small and value return, and its compareMag. Condition: at most 7 bytes (small, value). What the reference implementation's compareMag, Compare, Neg, Check and Bits return. Condition: at most 10^9 bytes. What the reference implementation's Bits returns. Condition: at most 10^9 bytes. What the reference implementation's mag returns: the bytes of a number. Condition: a number from 0 on, below 2^63. What the reference implementation's Of returns. Condition: int64. What the reference implementation's Compare returns. Condition: at most 10^9 bytes. What the reference implementation's Small returns. Condition: at most 10^9 bytes. What IntegerBasics returns: true. Condition: its own table. IntegerBasics returns true for every input: the law's row, and its card, tied to the program's text. Conditions: those of the row: its tables read as listed (the card ties them to the program's text). -/
import Derived.Test.YtmdkkeklihfdgaaGreatDoorLaw
import Derived.Outline
import Derived.Test.YtmdkkeklihfdgaaGreatDoorIcmp
import Derived.Test.YtmdkkeklihfdgaaGreatDoorIchk
import Derived.Test.YtmdkkeklihfdgaaGreatDoorIbits
import Derived.Laws.BitsAllLaws
import Derived.Deep.LoopGhost
import Derived.Test.YtmdkkeklihfdgaaGreatDoorSigl
import Derived.Deep.OwnRows
import Derived.Test.YtmdkkeklihfdgaaGreatDoorIof
import Derived.Deep.DeepCutAuto
import Derived.Deep.RegionWith
import Derived.Test.YtmdkkeklihfdgaaGreatDoorAwkp
import Derived.Test.YtmdkkeklihfdgaaGreatDoorSmall
import Derived.Test.YtmdkkeklihfdgaaGreatDoorCard

namespace Go.Proofs.YtmdkkeklihfdgaaGreatDoor
open Go.RowKit
/-- Three integers in their boxes. -/
def Six (na nb nc : Bool) (sa sb sc : ByteArray) (B : Nat) (W : World) : Prop := W.cell? ⟨B, 0, none⟩ = some (.bool na) ∧ W.cell? ⟨B, 1, none⟩ = some (.string sa) ∧ W.cell? ⟨B + 1, 0, none⟩ = some (.bool nb) ∧ W.cell? ⟨B + 1, 1, none⟩ = some (.string sb) ∧ W.cell? ⟨B + 1 + 1, 0, none⟩ = some (.bool nc) ∧ W.cell? ⟨B + 1 + 1, 1, none⟩ = some (.string sc)
theorem Six.keep {na nb nc : Bool} {sa sb sc : ByteArray} {B : Nat} {W W1 : World} (hb : Below W.heap.size W W1) (h : Six na nb nc sa sb sc B W) : Six na nb nc sa sb sc B W1 :=
  ⟨cell_keep h.1 hb, cell_keep h.2.1 hb, cell_keep h.2.2.1 hb, cell_keep h.2.2.2.1 hb, cell_keep h.2.2.2.2.1 hb, cell_keep h.2.2.2.2.2 hb⟩
theorem Six.alloc {na nb nc : Bool} {sa sb sc : ByteArray} {B : Nat} {W : World} (h : Six na nb nc sa sb sc B W) (o : Obj) : Six na nb nc sa sb sc B (W.alloc o) := h.keep ((Below.refl _ _).alloc (Nat.le_refl _) _)
theorem Six.drew {na nb nc : Bool} {sa sb sc : ByteArray} {B : Nat} {W : World} (h : Six na nb nc sa sb sc B W) : Six na nb nc sa sb sc B W.drew := h
theorem Six.set {na nb nc : Bool} {sa sb sc : ByteArray} {B : Nat} {W : World} {p : Addr} (h : Six na nb nc sa sb sc B W) (hp : B + 1 + 1 < p.block) (u : Value) : Six na nb nc sa sb sc B (W.setCell p u) := by
  refine ⟨?_, ?_, ?_, ?_, ?_, ?_⟩ <;> rw [World.cell?_setCell_far _ _ _ _ (by dsimp only; omega)]
  · exact h.1
  · exact h.2.1
  · exact h.2.2.1
  · exact h.2.2.2.1
  · exact h.2.2.2.2.1
  · exact h.2.2.2.2.2

theorem below4 (w : World) (o1 o2 o3 o4 : Obj) : Below w.heap.size w ((((w.alloc o1).alloc o2).alloc o3).alloc o4) := (below3 w o1 o2 o3).alloc (by simp only [World.size_alloc]; omega) _

/-- The three integers, and a fourth one. -/
def Eight (na nb nc : Bool) (sa sb sc : ByteArray) (B p : Nat) (g : Bool) (s : ByteArray) (W : World) : Prop := Six na nb nc sa sb sc B W ∧ (W.cell? ⟨p, 0, none⟩ = some (.bool g) ∧ W.cell? ⟨p, 1, none⟩ = some (.string s))
theorem Eight.keep {na nb nc : Bool} {sa sb sc : ByteArray} {B p : Nat} {g : Bool} {s : ByteArray} {W W1 : World} (hb : Below W.heap.size W W1) (h : Eight na nb nc sa sb sc B p g s W) : Eight na nb nc sa sb sc B p g s W1 := ⟨h.1.keep hb, cell_keep h.2.1 hb, cell_keep h.2.2 hb⟩
theorem Eight.flat {na nb nc : Bool} {sa sb sc : ByteArray} {B p : Nat} {g : Bool} {s : ByteArray} {W : World} (h : Eight na nb nc sa sb sc B p g s W) : W.cell? ⟨B, 0, none⟩ = some (.bool na) ∧ W.cell? ⟨B, 1, none⟩ = some (.string sa) ∧ W.cell? ⟨B + 1, 0, none⟩ = some (.bool nb) ∧ W.cell? ⟨B + 1, 1, none⟩ = some (.string sb) ∧ W.cell? ⟨B + 1 + 1, 0, none⟩ = some (.bool nc) ∧ W.cell? ⟨B + 1 + 1, 1, none⟩ = some (.string sc) ∧ W.cell? ⟨p, 0, none⟩ = some (.bool g) ∧ W.cell? ⟨p, 1, none⟩ = some (.string s) := by
  obtain ⟨⟨t1, t2, t3, t4, t5, t6⟩, ⟨t7, t8⟩⟩ := h
  exact ⟨t1, t2, t3, t4, t5, t6, t7, t8⟩
theorem Eight.alloc {na nb nc : Bool} {sa sb sc : ByteArray} {B p : Nat} {g : Bool} {s : ByteArray} {W : World} (h : Eight na nb nc sa sb sc B p g s W) (o : Obj) : Eight na nb nc sa sb sc B p g s (W.alloc o) := h.keep ((Below.refl _ _).alloc (Nat.le_refl _) _)
theorem Eight.set {na nb nc : Bool} {sa sb sc : ByteArray} {B p : Nat} {g : Bool} {s : ByteArray} {W : World} {a : Addr} (h : Eight na nb nc sa sb sc B p g s W) (ha : B + 1 + 1 < a.block) (hp : p < a.block) (u : Value) : Eight na nb nc sa sb sc B p g s (W.setCell a u) :=
  ⟨h.1.set ha u, by rw [World.cell?_setCell_far _ _ _ _ (by dsimp only; omega)]; exact h.2.1, by rw [World.cell?_setCell_far _ _ _ _ (by dsimp only; omega)]; exact h.2.2⟩
theorem one_set {W : World} {p : Nat} {v1 v2 u1 u2 : Value} (h1 : W.cell? ⟨p, 0, none⟩ = some u1) (h2 : W.cell? ⟨p, 1, none⟩ = some u2) :
    ((W.setCell ⟨p, 0, none⟩ v1).setCell ⟨p, 1, none⟩ v2).cell? ⟨p, 0, none⟩ = some v1 ∧ ((W.setCell ⟨p, 0, none⟩ v1).setCell ⟨p, 1, none⟩ v2).cell? ⟨p, 1, none⟩ = some v2 := by
  have n1 : (⟨p, 0, none⟩ : Addr) ≠ ⟨p, 1, none⟩ := by simp
  exact ⟨set_other (set_same h1) n1.symm, set_same (set_other h2 n1)⟩
/-- A variable of the type api.Int, and that it can be written. -/
def Var (W : World) (p : Nat) (g : Bool) (s : ByteArray) : Prop := W.cell? ⟨p, 0, none⟩ = some (.bool g) ∧ W.cell? ⟨p, 1, none⟩ = some (.string s) ∧ W.frozen? ⟨p, 0, none⟩ = false ∧ W.frozen? ⟨p, 1, none⟩ = false
theorem Var.keep {W W1 : World} {p : Nat} {g : Bool} {s : ByteArray} (hb : Below W.heap.size W W1) (h : Var W p g s) : Var W1 p g s :=
  ⟨cell_keep h.1 hb, cell_keep h.2.1 hb, frozen_keep h.1 h.2.2.1 hb, frozen_keep h.2.1 h.2.2.2 hb⟩
theorem Var.set {W : World} {p : Nat} {g g' : Bool} {s s' : ByteArray} (h : Var W p g s) : Var ((W.setCell ⟨p, 0, none⟩ (.bool g')).setCell ⟨p, 1, none⟩ (.string s')) p g' s' :=
  ⟨(one_set h.1 h.2.1).1, (one_set h.1 h.2.1).2, by simp only [World.frozen?_setCell]; exact h.2.2.1, by simp only [World.frozen?_setCell]; exact h.2.2.2⟩
theorem Var.far {W : World} {p : Nat} {g : Bool} {s : ByteArray} {a : Addr} (h : Var W p g s) (ha : a.block ≠ p) (u : Value) : Var (W.setCell a u) p g s :=
  ⟨by rw [World.cell?_setCell_far _ _ _ _ (by dsimp only; exact ha)]; exact h.1, by rw [World.cell?_setCell_far _ _ _ _ (by dsimp only; exact ha)]; exact h.2.1, by rw [World.frozen?_setCell]; exact h.2.2.1, by rw [World.frozen?_setCell]; exact h.2.2.2⟩
theorem Var.far2 {W : World} {p : Nat} {g : Bool} {s : ByteArray} {a b : Addr} {u v : Value} (h : Var W p g s) (ha : a.block ≠ p) (hb : b.block ≠ p) : Var ((W.setCell a u).setCell b v) p g s := (h.far ha u).far hb v
theorem Var.new (W : World) (t : TypeId) (g : Bool) (s : ByteArray) : Var (W.alloc (.cells #[.bool g, .string s] t)) W.heap.size g s := by
  refine ⟨?_, ?_, ?_, ?_⟩ <;> simp [go_sem]
/-- Two such variables. -/
def TwoVars (W : World) (p q : Nat) (g1 : Bool) (s1 : ByteArray) (g2 : Bool) (s2 : ByteArray) : Prop := Var W p g1 s1 ∧ Var W q g2 s2
def TwoC (W : World) (p : Nat) (g : Bool) (s : ByteArray) : Prop := W.cell? ⟨p, 0, none⟩ = some (.bool g) ∧ W.cell? ⟨p, 1, none⟩ = some (.string s)
theorem TwoC.keep {W W1 : World} {p : Nat} {g : Bool} {s : ByteArray} (hb : Below W.heap.size W W1) (h : TwoC W p g s) : TwoC W1 p g s := ⟨cell_keep h.1 hb, cell_keep h.2 hb⟩
theorem TwoC.alloc {W : World} {p : Nat} {g : Bool} {s : ByteArray} (h : TwoC W p g s) (o : Obj) : TwoC (W.alloc o) p g s := h.keep ((Below.refl _ _).alloc (Nat.le_refl _) _)
theorem TwoC.drew {W : World} {p : Nat} {g : Bool} {s : ByteArray} (h : TwoC W p g s) : TwoC W.drew p g s := h
theorem TwoC.set {W : World} {p : Nat} {g : Bool} {s : ByteArray} {a : Addr} (h : TwoC W p g s) (ha : p < a.block) (u : Value) : TwoC (W.setCell a u) p g s :=
  ⟨by rw [World.cell?_setCell_far _ _ _ _ (by dsimp only; omega)]; exact h.1, by rw [World.cell?_setCell_far _ _ _ _ (by dsimp only; omega)]; exact h.2⟩
theorem vars_set {W : World} {p q : Nat} {g1 g2 h1 h2 : Bool} {s1 s2 r1 r2 : ByteArray} (hne : p ≠ q) (hp : Var W p h1 r1) (hq : Var W q h2 r2) :
    TwoVars ((((W.setCell ⟨p, 0, none⟩ (.bool g1)).setCell ⟨p, 1, none⟩ (.string s1)).setCell ⟨q, 0, none⟩ (.bool g2)).setCell ⟨q, 1, none⟩ (.string s2)) p q g1 s1 g2 s2 :=
  ⟨hp.set.far2 (by dsimp only; omega) (by dsimp only; omega), (hq.far2 (by dsimp only; omega) (by dsimp only; omega)).set⟩
theorem cmpZ_range (a b : Int) : -1 ≤ cmpZ a b ∧ cmpZ a b ≤ 1 := by unfold cmpZ; split <;> (try split) <;> omega
theorem cmpZ_flip (a b : Int) : cmpZ b a = - cmpZ a b := by unfold cmpZ; split <;> split <;> (try split) <;> omega
theorem cmpZ_congr {a b c d : Int} (h1 : a < b ↔ c < d) (h2 : b < a ↔ d < c) : cmpZ a b = cmpZ c d := by
  unfold cmpZ
  simp only [h1, h2]
theorem cmpZ_le {a b : Int} : cmpZ a b ≤ 0 ↔ a ≤ b := by unfold cmpZ; split <;> (try split) <;> omega
theorem cmpZ_neg_iff {a b : Int} : cmpZ a b < 0 ↔ a < b := by unfold cmpZ; split <;> (try split) <;> omega

end Go.Proofs.YtmdkkeklihfdgaaGreatDoor

namespace Go.Proofs.YtmdkkeklihfdgaaGreatDoor
open Go.RowKit

def Cel (W : World) (x : Nat × Bool × ByteArray) : Prop := W.cell? ⟨x.1, 0, none⟩ = some (.bool x.2.1) ∧ W.cell? ⟨x.1, 1, none⟩ = some (.string x.2.2)
/-- These integers lie in these blocks. -/
def Cells (L : List (Nat × Bool × ByteArray)) (W : World) : Prop := ∀ x ∈ L, Cel W x
theorem Cells.keep {L : List (Nat × Bool × ByteArray)} {W W1 : World} (hb : Below W.heap.size W W1) (h : Cells L W) : Cells L W1 := fun x hx => ⟨cell_keep (h x hx).1 hb, cell_keep (h x hx).2 hb⟩
theorem Cells.alloc {L : List (Nat × Bool × ByteArray)} {W : World} (h : Cells L W) (o : Obj) : Cells L (W.alloc o) := h.keep ((Below.refl _ _).alloc (Nat.le_refl _) _)
theorem Cells.drew {L : List (Nat × Bool × ByteArray)} {W : World} (h : Cells L W) : Cells L W.drew := h
theorem Cells.set {L : List (Nat × Bool × ByteArray)} {W : World} {a : Addr} (h : Cells L W) (ha : ∀ x ∈ L, x.1 ≠ a.block) (u : Value) : Cells L (W.setCell a u) := fun x hx =>
  ⟨by rw [World.cell?_setCell_far _ _ _ _ (by dsimp only; exact fun e => ha x hx e.symm)]; exact (h x hx).1, by rw [World.cell?_setCell_far _ _ _ _ (by dsimp only; exact fun e => ha x hx e.symm)]; exact (h x hx).2⟩
theorem Cells.nil (W : World) : Cells [] W := fun x hx => by cases hx
theorem Cells.cons {L : List (Nat × Bool × ByteArray)} {W : World} {p : Nat} {g : Bool} {s : ByteArray} (h1 : W.cell? ⟨p, 0, none⟩ = some (.bool g)) (h2 : W.cell? ⟨p, 1, none⟩ = some (.string s)) (h : Cells L W) : Cells ((p, g, s) :: L) W := fun x hx => by
  rcases List.mem_cons.1 hx with rfl | hx
  · exact ⟨h1, h2⟩
  · exact h x hx
theorem Cells.var {L : List (Nat × Bool × ByteArray)} {W : World} {p : Nat} {g : Bool} {s : ByteArray} (h1 : Var W p g s) (h : Cells L W) : Cells ((p, g, s) :: L) W := h.cons h1.1 h1.2.1
theorem Cells.sub {L M : List (Nat × Bool × ByteArray)} {W : World} (h : Cells L W) (hs : ∀ x ∈ M, x ∈ L) : Cells M W := fun x hx => h x (hs x hx)
theorem Cells.lt {L : List (Nat × Bool × ByteArray)} {W : World} (h : Cells L W) {x : Nat × Bool × ByteArray} (hx : x ∈ L) : x.1 < W.heap.size := World.block_lt_of_cell? W ⟨x.1, 0, none⟩ (h x hx).1
theorem flat2 {W : World} {p1 p2 : Nat} {g1 g2 : Bool} {s1 s2 : ByteArray} (h : Cells [(p1, g1, s1), (p2, g2, s2)] W) :
    W.cell? ⟨p1, 0, none⟩ = some (.bool g1) ∧ W.cell? ⟨p1, 1, none⟩ = some (.string s1) ∧ W.cell? ⟨p2, 0, none⟩ = some (.bool g2) ∧ W.cell? ⟨p2, 1, none⟩ = some (.string s2) :=
  ⟨(h (p1, g1, s1) (by simp)).1, (h (p1, g1, s1) (by simp)).2, (h (p2, g2, s2) (by simp)).1, (h (p2, g2, s2) (by simp)).2⟩
theorem flat3 {W : World} {p1 p2 p3 : Nat} {g1 g2 g3 : Bool} {s1 s2 s3 : ByteArray} (h : Cells [(p1, g1, s1), (p2, g2, s2), (p3, g3, s3)] W) :
    W.cell? ⟨p1, 0, none⟩ = some (.bool g1) ∧ W.cell? ⟨p1, 1, none⟩ = some (.string s1) ∧ W.cell? ⟨p2, 0, none⟩ = some (.bool g2) ∧ W.cell? ⟨p2, 1, none⟩ = some (.string s2) ∧ W.cell? ⟨p3, 0, none⟩ = some (.bool g3) ∧ W.cell? ⟨p3, 1, none⟩ = some (.string s3) :=
  ⟨(h (p1, g1, s1) (by simp)).1, (h (p1, g1, s1) (by simp)).2, flat2 (h.sub (by simp))⟩
theorem flat4 {W : World} {p1 p2 p3 p4 : Nat} {g1 g2 g3 g4 : Bool} {s1 s2 s3 s4 : ByteArray} (h : Cells [(p1, g1, s1), (p2, g2, s2), (p3, g3, s3), (p4, g4, s4)] W) :
    W.cell? ⟨p1, 0, none⟩ = some (.bool g1) ∧ W.cell? ⟨p1, 1, none⟩ = some (.string s1) ∧ W.cell? ⟨p2, 0, none⟩ = some (.bool g2) ∧ W.cell? ⟨p2, 1, none⟩ = some (.string s2) ∧ W.cell? ⟨p3, 0, none⟩ = some (.bool g3) ∧ W.cell? ⟨p3, 1, none⟩ = some (.string s3) ∧
      W.cell? ⟨p4, 0, none⟩ = some (.bool g4) ∧ W.cell? ⟨p4, 1, none⟩ = some (.string s4) :=
  ⟨(h (p1, g1, s1) (by simp)).1, (h (p1, g1, s1) (by simp)).2, flat3 (h.sub (by simp))⟩
theorem flat5 {W : World} {p1 p2 p3 p4 p5 : Nat} {g1 g2 g3 g4 g5 : Bool} {s1 s2 s3 s4 s5 : ByteArray} (h : Cells [(p1, g1, s1), (p2, g2, s2), (p3, g3, s3), (p4, g4, s4), (p5, g5, s5)] W) :
    W.cell? ⟨p1, 0, none⟩ = some (.bool g1) ∧ W.cell? ⟨p1, 1, none⟩ = some (.string s1) ∧ W.cell? ⟨p2, 0, none⟩ = some (.bool g2) ∧ W.cell? ⟨p2, 1, none⟩ = some (.string s2) ∧ W.cell? ⟨p3, 0, none⟩ = some (.bool g3) ∧ W.cell? ⟨p3, 1, none⟩ = some (.string s3) ∧
      W.cell? ⟨p4, 0, none⟩ = some (.bool g4) ∧ W.cell? ⟨p4, 1, none⟩ = some (.string s4) ∧ W.cell? ⟨p5, 0, none⟩ = some (.bool g5) ∧ W.cell? ⟨p5, 1, none⟩ = some (.string s5) :=
  ⟨(h (p1, g1, s1) (by simp)).1, (h (p1, g1, s1) (by simp)).2, flat4 (h.sub (by simp))⟩
theorem flat6 {W : World} {p1 p2 p3 p4 p5 p6 : Nat} {g1 g2 g3 g4 g5 g6 : Bool} {s1 s2 s3 s4 s5 s6 : ByteArray} (h : Cells [(p1, g1, s1), (p2, g2, s2), (p3, g3, s3), (p4, g4, s4), (p5, g5, s5), (p6, g6, s6)] W) :
    W.cell? ⟨p1, 0, none⟩ = some (.bool g1) ∧ W.cell? ⟨p1, 1, none⟩ = some (.string s1) ∧ W.cell? ⟨p2, 0, none⟩ = some (.bool g2) ∧ W.cell? ⟨p2, 1, none⟩ = some (.string s2) ∧ W.cell? ⟨p3, 0, none⟩ = some (.bool g3) ∧ W.cell? ⟨p3, 1, none⟩ = some (.string s3) ∧
      W.cell? ⟨p4, 0, none⟩ = some (.bool g4) ∧ W.cell? ⟨p4, 1, none⟩ = some (.string s4) ∧ W.cell? ⟨p5, 0, none⟩ = some (.bool g5) ∧ W.cell? ⟨p5, 1, none⟩ = some (.string s5) ∧ W.cell? ⟨p6, 0, none⟩ = some (.bool g6) ∧ W.cell? ⟨p6, 1, none⟩ = some (.string s6) :=
  ⟨(h (p1, g1, s1) (by simp)).1, (h (p1, g1, s1) (by simp)).2, flat5 (h.sub (by simp))⟩
theorem flat7 {W : World} {p1 p2 p3 p4 p5 p6 p7 : Nat} {g1 g2 g3 g4 g5 g6 g7 : Bool} {s1 s2 s3 s4 s5 s6 s7 : ByteArray} (h : Cells [(p1, g1, s1), (p2, g2, s2), (p3, g3, s3), (p4, g4, s4), (p5, g5, s5), (p6, g6, s6), (p7, g7, s7)] W) :
    W.cell? ⟨p1, 0, none⟩ = some (.bool g1) ∧ W.cell? ⟨p1, 1, none⟩ = some (.string s1) ∧ W.cell? ⟨p2, 0, none⟩ = some (.bool g2) ∧ W.cell? ⟨p2, 1, none⟩ = some (.string s2) ∧ W.cell? ⟨p3, 0, none⟩ = some (.bool g3) ∧ W.cell? ⟨p3, 1, none⟩ = some (.string s3) ∧
      W.cell? ⟨p4, 0, none⟩ = some (.bool g4) ∧ W.cell? ⟨p4, 1, none⟩ = some (.string s4) ∧ W.cell? ⟨p5, 0, none⟩ = some (.bool g5) ∧ W.cell? ⟨p5, 1, none⟩ = some (.string s5) ∧ W.cell? ⟨p6, 0, none⟩ = some (.bool g6) ∧ W.cell? ⟨p6, 1, none⟩ = some (.string s6) ∧
      W.cell? ⟨p7, 0, none⟩ = some (.bool g7) ∧ W.cell? ⟨p7, 1, none⟩ = some (.string s7) :=
  ⟨(h (p1, g1, s1) (by simp)).1, (h (p1, g1, s1) (by simp)).2, flat6 (h.sub (by simp))⟩
/-- Whether one of two integers is great. -/
def twoS (sa sb : ByteArray) : Nat → ByteArray := fun i => if i = 0 then sa else sb
def twoG (na nb : Bool) : Nat → Bool := fun i => if i = 0 then na else nb
theorem great2 (sa sb : ByteArray) : greatB 2 (twoS sa sb) = (decide (60 < sa.size) || decide (60 < sb.size)) := by
  simp [greatB, twoS, List.range_succ]
end Go.Proofs.YtmdkkeklihfdgaaGreatDoor

namespace Go.Proofs.YtmdkkeklihfdgaaGreatDoor
open Go.RowKit

theorem trim_cons0 (l : List UInt8) : Lib.trimLeftB (0 :: l) 0 = Lib.trimLeftB l 0 := by simp [Lib.trimLeftB]
theorem trim_consN {b : UInt8} (l : List UInt8) (h : b ≠ 0) : Lib.trimLeftB (b :: l) 0 = b :: l := by simp [Lib.trimLeftB, h]
theorem trim_nil : Lib.trimLeftB [] 0 = [] := by rfl
theorem sg_zv9 (ng : Bool) (s : ByteArray) (h : vB s.data.toList ≠ 0) : sg (zv ng s) = ng := by
  unfold sg zv; cases ng <;> simp <;> omega
/-- A first byte that is not 0: the integer is canonical. -/
theorem canon_first {g : Bool} {b : UInt8} {l : List UInt8} (h : b ≠ 0) : sg (zv g ⟨(b :: l).toArray⟩) = g ∧ mg (zv g ⟨(b :: l).toArray⟩) = ⟨(b :: l).toArray⟩ := by
  have h1 : vB (⟨(b :: l).toArray⟩ : ByteArray).data.toList ≠ 0 := by
    show vB (b :: l) ≠ 0
    have := vB_ge (l := l) h
    have hp : 0 < 256 ^ l.length := Nat.pow_pos (by omega)
    omega
  refine ⟨sg_zv9 g _ h1, ?_⟩
  unfold mg
  rw [natAbs_zv]
  show (⟨(bytesOf (vB (b :: l))).toArray⟩ : ByteArray) = _
  rw [bytesOf_vB _ (by simpa using h)]
/-- What is left without leading zeros, and the sign. -/
theorem canon_trim (g : Bool) (l : List UInt8) : mg (zv g ⟨l.toArray⟩) = ⟨(Lib.trimLeftB l 0).toArray⟩ ∧ sg (zv g ⟨l.toArray⟩) = (g && !(Lib.trimLeftB l 0 == [])) := by
  have e : (zv g ⟨l.toArray⟩).natAbs = vB l := natAbs_zv g ⟨l.toArray⟩
  refine ⟨by unfold mg; rw [e, trim_bytes], ?_⟩
  rw [trim_bytes]
  by_cases h : vB l = 0
  · rw [h, bytesOf_zero]
    unfold sg zv
    have h2 : vB (⟨l.toArray⟩ : ByteArray).data.toList = 0 := h
    rw [h2]
    cases g <;> simp
  · have h2 : vB (⟨l.toArray⟩ : ByteArray).data.toList ≠ 0 := h
    rw [sg_zv9 g _ h2]
    have h3 : (bytesOf (vB l) == []) = false := by
      rw [beq_eq_false_iff_ne]
      intro e2
      exact h (bytesOf_nil.1 e2)
    rw [h3]; simp
theorem vB_take_succ {l : List UInt8} {k : Nat} {c : UInt8} (h : l[k]? = some c) : vB (l.take (k + 1)) = vB (l.take k) * 256 + c.toNat := by
  rw [List.take_add_one, h]
  exact vB_snoc _ _
theorem vB_app (a b : List UInt8) : vB (a ++ b) = vB a * 256 ^ b.length + vB b := by
  unfold vB
  rw [List.foldl_append]
  exact foldl_acc b _
theorem vB_take_le (l : List UInt8) (k : Nat) : vB (l.take k) ≤ vB l := by
  have h := vB_app (l.take k) (l.drop k)
  rw [List.take_append_drop] at h
  have h1 : vB (l.take k) * 1 ≤ vB (l.take k) * 256 ^ (l.drop k).length := Nat.mul_le_mul_left _ (Nat.pow_pos (by omega))
  omega
theorem or_256 (a b : Nat) (h : b < 256) : a * 256 ||| b = a * 256 + b := by
  have := Nat.two_pow_add_eq_or_of_lt (i := 8) (b := b) (by simpa using h) a
  rw [show (2 : Nat) ^ 8 = 256 from rfl, Nat.mul_comm] at this
  exact this.symm
theorem i64_or_nat (a b : Nat) (ha : a < 9223372036854775808) (hb : b < 9223372036854775808) : bits .or .i64 (a : Int) (b : Int) = ((a ||| b : Nat) : Int) := by
  have hx : a ||| b < 2 ^ 63 := Nat.or_lt_two_pow (by omega) (by omega)
  show IntKind.i64.wrap ((BitVec.ofInt 64 (a : Int) ||| BitVec.ofInt 64 (b : Int)).toNat : Int) = _
  rw [BitVec.toNat_or, ofInt_u64 a (by omega), ofInt_u64 b (by omega)]
  exact IntWalk.i64_in _ (by omega)
theorem i64_or_256 (a b : Nat) (ha : a * 256 + b < 9223372036854775808) (hb : b < 256) : bits .or .i64 ((a : Int) * 256) (b : Int) = ((a * 256 + b : Nat) : Int) := by
  obtain ⟨x, hx⟩ : ∃ x, x = a * 256 := ⟨_, rfl⟩
  have h := i64_or_nat x b (by omega) (by omega)
  have e1 : (x : Int) = (a : Int) * 256 := by rw [hx, Int.natCast_mul]; rfl
  have e2 : x ||| b = a * 256 + b := by rw [hx]; exact or_256 a b hb
  rw [e1, e2] at h
  exact h
/-- The order of canonical bytes. -/
theorem cmpN_len9 {A B : Nat} (h : (bytesOf A).length < (bytesOf B).length) : cmpN A B = -1 ∧ cmpN B A = 1 := by
  have hB := head_trim (bytesOf B)
  rw [trim_bytes, vB_bytesOf] at hB
  have a1 := vB_lt (bytesOf A)
  rw [vB_bytesOf] at a1
  have h2 := vB_len hB (by omega)
  rw [vB_bytesOf] at h2
  have h3 : (256 : Nat) ^ (bytesOf A).length ≤ 256 ^ ((bytesOf B).length - 1) := Nat.pow_le_pow_right (by omega) (by omega)
  have h4 : A < B := by omega
  unfold cmpN
  constructor
  · rw [if_pos h4]
  · rw [if_neg (by omega), if_pos h4]
end Go.Proofs.YtmdkkeklihfdgaaGreatDoor

namespace Go.Proofs.YtmdkkeklihfdgaaGreatDoor
open Go.RowKit
set_option linter.unusedSimpArgs false
set_option linter.unusedVariables false

theorem run_tail_bytes (b : UInt8) (m : List UInt8) (w : World) :
    (Instr.slice 9 (.string ⟨(b :: m).toArray⟩) (some (.int .i64 1)) none none).run Tryz.prog w = .ok (.string ⟨m.toArray⟩) w := by
  rw [run_slice_string_l w 9 ⟨(b :: m).toArray⟩ Tryz.underlying9 .i64 1 (by omega) (by simp [ByteArray.size]; omega)]
  congr 2
  apply ByteArray.ext
  simp [ByteArray.size]
set_option maxRecDepth 100000 in
theorem rtrim_any (l : List UInt8) (w : World) (hl : l.length ≤ 1000000000) :
    Calls Tryz.prog 36 #[.string ⟨l.toArray⟩] w fun e w' => e = .returned (.string ⟨(Lib.trimLeftB l 0).toArray⟩) ∧ w' = w := by
  go_enter Tryz.func36, Tryz.ntmps36
  go_wp2_with fail
  go_loopg [0] l.length (fun g s0 wx => wx = w ∧ ∃ m : List UInt8, m.length = g ∧ s0 = .string ⟨m.toArray⟩ ∧ Hid (Lib.trimLeftB m 0 = Lib.trimLeftB l 0))
  case atStart => exact ⟨rfl, l, rfl, rfl, rfl⟩
  case round =>
    obtain ⟨rfl, m, hm, rfl, HM⟩ := hrel
    cases m with
    | nil =>
      have hg : gk = 0 := by rw [← hm]; rfl
      subst hg
      go_wp2
      go_ret
      exact ⟨by rw [← HM.out]; rfl, rfl⟩
    | cons b m =>
      have hix := run_index_bytes (b :: m) 0 b rfl 0 (by simp)
      have htl := run_tail_bytes b m
      have hb' := b.toNat_lt
      have hml : m.length + 1 = gk := hm
      by_cases hb : b = 0
      · subst hb
        have HM2 : Hid (Lib.trimLeftB m 0 = Lib.trimLeftB l 0) := by show _ = _; rw [← HM.out, trim_cons0]
        obtain ⟨g, rfl⟩ : ∃ g, gk = g + 1 := ⟨gk - 1, by omega⟩
        clear HM
        go_wp2
        go_roundg g
        case measure => omega
        case rel => exact ⟨rfl, m, by omega, rfl, HM2⟩
      · have hz : ((b.toNat : Int) == 0) = false := by
          rw [beq_eq_false_iff_ne]
          intro e
          exact hb (UInt8.toNat_inj.1 (by simpa using (by omega : b.toNat = 0)))
        have HM2 : Hid (Lib.trimLeftB l 0 = b :: m) := by show _ = _; rw [← HM.out, trim_consN m hb]
        clear HM
        go_wp2
        go_ret
        exact ⟨by rw [HM2.out]; rfl, rfl⟩
set_option maxRecDepth 100000 in
theorem rcanonical_any (g : Bool) (l : List UInt8) (w : World) (hl : l.length ≤ 1000000000) :
    Calls Tryz.prog 25 #[.agg #[.bool g, .string ⟨l.toArray⟩]] w (IntOut w (zv g ⟨l.toArray⟩)) := by
  have h := canon_trim g l
  have H1 := Lib.hid h.1
  have H2 := Lib.hid h.2
  clear h
  have hcase : (∃ b m, l = b :: m ∧ b ≠ 0) ∨ (l = [] ∨ ∃ m, l = 0 :: m) := by
    cases l with
    | nil => exact Or.inr (Or.inl rfl)
    | cons b m =>
      by_cases hb : b = 0
      · exact Or.inr (Or.inr ⟨m, by rw [hb]⟩)
      · exact Or.inl ⟨b, m, rfl, hb⟩
  rcases hcase with ⟨b, m, rfl, hb⟩ | hcase
  · have hix := run_index_bytes (b :: m) 0 b rfl 0 (by simp)
    have hb' := b.toNat_lt
    have hz : ((b.toNat : Int) != 0) = true := by
      rw [bne_iff_ne]
      intro e
      exact hb (UInt8.toNat_inj.1 (by simpa using (by omega : b.toNat = 0)))
    have H := canon_first (g := g) (l := m) hb
    have H3 := Lib.hid H.1
    have H4 := Lib.hid H.2
    clear H
    go_enter Tryz.func25, Tryz.ntmps25
    go_wp2
    exact bodyPost_ret (v := .agg #[.bool g, .string ⟨(b :: m).toArray⟩]) (by simp [results, Tryz.results25, go_sem]) rfl ⟨by rw [H3.out, H4.out], below2 w _ _⟩
  · obtain ⟨T, HT⟩ : ∃ T, Hid (Lib.trimLeftB l 0 = T) := ⟨_, Lib.hid rfl⟩
    rw [HT.out] at H1 H2
    have hc : T = [] ∨ ∃ c t, T = c :: t := by cases T with
      | nil => exact Or.inl rfl
      | cons c t => exact Or.inr ⟨c, t, rfl⟩
    rcases hcase with rfl | ⟨m, rfl⟩
    · have hT : T = [] := by rw [← HT.out]; rfl
      subst hT
      go_enter Tryz.func25, Tryz.ntmps25
      go_wp2_with fail
      refine (rtrim_any [] _ (by simp)).mono ?_
      rintro e W1 ⟨rfl, rfl⟩
      rw [HT.out]
      cases g
      all_goals
        go_wp2
        exact bodyPost_ret (v := .agg #[.bool false, .string ⟨#[]⟩]) (by simp [results, Tryz.results25, go_sem]) rfl ⟨by rw [H1.out, H2.out]; rfl, below2 w _ _⟩
    · have hix := run_index_bytes (0 :: m) 0 0 rfl 0 (by simp)
      go_enter Tryz.func25, Tryz.ntmps25
      go_wp2_with fail
      refine (rtrim_any (0 :: m) _ hl).mono ?_
      rintro e W1 ⟨rfl, rfl⟩
      rw [HT.out]
      rcases hc with rfl | ⟨c, t, rfl⟩
      · cases g
        all_goals
          go_wp2
          exact bodyPost_ret (v := .agg #[.bool false, .string ⟨#[]⟩]) (by simp [results, Tryz.results25, go_sem]) rfl ⟨by rw [H1.out, H2.out]; rfl, below2 w _ _⟩
      · cases g
        · go_wp2
          exact bodyPost_ret (v := .agg #[.bool false, .string ⟨(c :: t).toArray⟩]) (by simp [results, Tryz.results25, go_sem]) rfl ⟨by rw [H1.out, H2.out]; rfl, below2 w _ _⟩
        · go_wp2
          exact bodyPost_ret (v := .agg #[.bool true, .string ⟨(c :: t).toArray⟩]) (by simp [results, Tryz.results25, go_sem]) rfl ⟨by rw [H1.out, H2.out]; rfl, below2 w _ _⟩
end Go.Proofs.YtmdkkeklihfdgaaGreatDoor

namespace Go.Proofs.YtmdkkeklihfdgaaGreatDoor
open Go.RowKit
set_option linter.unusedSimpArgs false

set_option maxRecDepth 100000 in
theorem rsmall_any (l : List UInt8) (w : World) (hl : l.length ≤ 8) (hv : vB l < 9223372036854775808) :
    Calls Tryz.prog 49 #[.string ⟨l.toArray⟩] w fun e w' => e = .returned (.int .i64 (vB l : Int)) ∧ w' = w := by
  have Hv := Lib.hid hv
  clear hv
  go_enter Tryz.func49, Tryz.ntmps49
  go_wp2_with fail
  go_loopg [3, 4] l.length (fun g s3 s4 wx => wx = w ∧ ∃ k N : Nat, k + g = l.length ∧ s4 = .int .i64 (k : Int) ∧ s3 = .int .i64 (N : Int) ∧ Hid (vB (l.take k) = N))
  case atStart => exact ⟨rfl, 0, 0, by omega, rfl, rfl, rfl⟩
  case round =>
    obtain ⟨rfl, k, N, hk, rfl, rfl, HN⟩ := hrel
    rcases gk with _ | q
    · have Hr : Hid (vB l = N) := by show _ = _; rw [← HN.out, List.take_of_length_le (by omega)]
      go_wp2
      go_ret
      exact ⟨by rw [Hr.out]; rfl, rfl⟩
    · obtain ⟨c, hc⟩ : ∃ c, l[k]? = some c := ⟨_, List.getElem?_eq_getElem (by omega)⟩
      have hix := run_index_bytes l k c hc (k : Int) rfl
      have hc' := c.toNat_lt
      have Hn : Hid (vB (l.take (k + 1)) = N * 256 + c.toNat) := by show _ = _; rw [vB_take_succ hc, HN.out]
      have hb2 : N * 256 + c.toNat < 9223372036854775808 := by
        have h1 := vB_take_le l (k + 1)
        rw [Hn.out] at h1
        exact Nat.lt_of_le_of_lt h1 Hv.out
      have w1 : IntKind.i64.wrap ((N : Int) * 256) = (N : Int) * 256 := IntWalk.i64_in _ (by omega)
      have ho : bits .or .i64 ((N : Int) * 256) ((c.toNat : Nat) : Int) = ((N * 256 + c.toNat : Nat) : Int) := i64_or_256 N c.toNat hb2 (by omega)
      clear hb2 hc
      go_wp2
      go_roundg q
      case measure => omega
      case rel => exact ⟨rfl, k + 1, N * 256 + c.toNat, by omega, rfl, by rw [Int.natCast_add, Int.natCast_mul]; rfl, Hn⟩

theorem value_small {g : Bool} {l : List UInt8} : (if g then -(vB l : Int) else (vB l : Int)) = zv g ⟨l.toArray⟩ := rfl
set_option maxRecDepth 100000 in
theorem rvalue_any (g : Bool) (l : List UInt8) (z : Int) (w : World) (hl : l.length ≤ 8) (h3 : vB l < 9223372036854775808) (hz : zv g ⟨l.toArray⟩ = z) :
    Calls Tryz.prog 26 #[.agg #[.bool g, .string ⟨l.toArray⟩]] w fun e w' => e = .returned (.int .i64 z) ∧ Below w.heap.size w w' := by
  have B0 := below1 w (.cells #[.bool g, .string ⟨l.toArray⟩] 23)
  have Hs := Lib.hid (rsmall_any l · hl h3)
  cases g with
  | false =>
    have Hz := Lib.hid (show (vB l : Int) = z from hz)
    clear hz
    go_enter Tryz.func26, Tryz.ntmps26
    go_wp2_with fail
    refine (Hs.out _).mono ?_
    rintro e W1 ⟨rfl, rfl⟩
    go_wp2
    go_ret
    exact ⟨by rw [← Hz.out]; rfl, B0⟩
  | true =>
    have Hz := Lib.hid (show -(vB l : Int) = z from hz)
    have hw : IntKind.i64.wrap (-(vB l : Int)) = -(vB l : Int) := IntWalk.i64_in _ (by omega)
    clear hz
    go_enter Tryz.func26, Tryz.ntmps26
    go_wp2_with fail
    refine (Hs.out _).mono ?_
    rintro e W1 ⟨rfl, rfl⟩
    go_wp2
    go_ret
    exact ⟨by rw [← Hz.out]; rfl, B0⟩
theorem cmpS_cases {A B : Nat} (h : (bytesOf A).length = (bytesOf B).length) : Op.bytesLess (bytesOf A) (bytesOf B) = decide (A < B) := by
  rw [bytesLess_eq_len _ _ h, vB_bytesOf, vB_bytesOf]
end Go.Proofs.YtmdkkeklihfdgaaGreatDoor

namespace Go.Proofs.YtmdkkeklihfdgaaGreatDoor
open Go.RowKit
set_option linter.unusedSimpArgs false
set_option linter.unusedVariables false

theorem rcmpMag_any (A B : Nat) (w : World) :
    Calls Tryz.prog 34 #[.string ⟨(bytesOf A).toArray⟩, .string ⟨(bytesOf B).toArray⟩] w fun e w' => e = .returned (.int .i64 (cmpN A B)) ∧ w' = w := by
  have h1 := Lib.hid (fun h => (cmpN_len9 (A := A) (B := B) h).1)
  have h2 := Lib.hid (fun h => (cmpN_len9 (A := B) (B := A) h).2)
  have h3 := Lib.hid (fun h : (bytesOf A).length = (bytesOf B).length => bytesLess_eq_len _ _ h)
  have h4 := Lib.hid (fun h : (bytesOf B).length = (bytesOf A).length => bytesLess_eq_len _ _ h)
  have hl : (bytesOf A).length < (bytesOf B).length ∨ (bytesOf B).length < (bytesOf A).length ∨ (bytesOf A).length = (bytesOf B).length := by omega
  have vA := Lib.hid (vB_bytesOf A)
  have vb := Lib.hid (vB_bytesOf B)
  have h7 := Lib.hid (fun h : A = B => congrArg bytesOf h)
  have h8 := Lib.hid (fun (h : bytesOf A = bytesOf B) => (show A = B by rw [← vB_bytesOf A, h, vB_bytesOf]))
  generalize bytesOf A = a at *
  generalize bytesOf B = b at *
  rcases hl with hl | hl | hl
  · have h5 := Lib.hid (h1.out hl)
    have h6 : ((a.length : Int) == (b.length : Int)) = false := by rw [beq_eq_false_iff_ne]; omega
    clear h1 h2 h3 h4 h7 h8
    go_enter Tryz.func34, Tryz.ntmps34
    go_wp2
    go_ret
    exact ⟨by rw [h5.out]; rfl, rfl⟩
  · have h5 := Lib.hid (h2.out hl)
    have h6 : ((a.length : Int) == (b.length : Int)) = false := by rw [beq_eq_false_iff_ne]; omega
    clear h1 h2 h3 h4 h7 h8
    go_enter Tryz.func34, Tryz.ntmps34
    go_wp2
    go_ret
    exact ⟨by rw [h5.out]; rfl, rfl⟩
  · have k1 := h3.out hl
    have k2 := h4.out hl.symm
    rw [vA.out, vb.out] at k1
    rw [vA.out, vb.out] at k2
    clear h1 h2 h3 h4 vA vb
    rcases Nat.lt_trichotomy A B with h | h | h
    · clear h7 h8
      rw [decide_eq_true h] at k1
      have h5 := Lib.hid (show cmpN A B = -1 by unfold cmpN; rw [if_pos h])
      clear h
      go_enter Tryz.func34, Tryz.ntmps34
      go_wp2
      go_ret
      exact ⟨by rw [h5.out]; rfl, rfl⟩
    · have eab : (a == b) = true := by rw [h7.out h]; exact beq_self_eq_true _
      clear h7 h8
      subst h
      rw [decide_eq_false (Nat.lt_irrefl _)] at k1 k2
      have h5 := Lib.hid (show cmpN A A = 0 by unfold cmpN; rw [if_neg (Nat.lt_irrefl _), if_neg (Nat.lt_irrefl _)])
      go_enter Tryz.func34, Tryz.ntmps34
      go_wp2
      go_ret
      exact ⟨by rw [h5.out]; rfl, rfl⟩
    · rw [decide_eq_false (show ¬ A < B by omega)] at k1
      rw [decide_eq_true h] at k2
      have eab : (a == b) = false := by
        rw [beq_eq_false_iff_ne]
        intro e
        have := h8.out e
        omega
      clear h7 h8
      have h5 := Lib.hid (show cmpN A B = 1 by unfold cmpN; rw [if_neg (by omega), if_pos h])
      clear h
      go_enter Tryz.func34, Tryz.ntmps34
      go_wp2
      go_ret
      exact ⟨by rw [h5.out]; rfl, rfl⟩
/-- An integer's box behind a call, and the result's. -/
def Box2 (W : World) (p : Nat) (g : Bool) (s : ByteArray) : Prop :=
  W.cell? ⟨p, 0, none⟩ = some (.bool g) ∧ W.cell? ⟨p, 1, none⟩ = some (.string s) ∧ W.frozen? ⟨p, 0, none⟩ = false ∧ W.frozen? ⟨p, 1, none⟩ = false
theorem Box2.keep {W W1 : World} {p : Nat} {g : Bool} {s : ByteArray} (h : Box2 W p g s) (hb : Below W.heap.size W W1) : Box2 W1 p g s := by
  obtain ⟨h1, h2, h3, h4⟩ := h
  have hp := World.block_lt_of_cell? W ⟨p, 0, none⟩ h1
  exact ⟨cell_keep h1 hb, cell_keep h2 hb, (hb.frozen (p := ⟨p, 0, none⟩) hp).trans h3, (hb.frozen (p := ⟨p, 1, none⟩) hp).trans h4⟩
theorem sg_neg_cases (z : Int) : (sg z = true ∧ sg (-z) = false) ∨ (z = 0) ∨ (sg z = false ∧ sg (-z) = true ∧ ∃ c t, bytesOf z.natAbs = c :: t) := by
  unfold sg
  rcases Int.lt_trichotomy z 0 with h | h | h
  · exact Or.inl ⟨decide_eq_true h, decide_eq_false (by omega)⟩
  · exact Or.inr (Or.inl h)
  · refine Or.inr (Or.inr ⟨decide_eq_false (by omega), decide_eq_true (by omega), ?_⟩)
    cases e : bytesOf z.natAbs with
    | nil => have := bytesOf_nil.1 e; omega
    | cons c t => exact ⟨c, t, rfl⟩
theorem mg_neg (z : Int) : mg (-z) = mg z := by unfold mg; rw [Int.natAbs_neg]
set_option maxRecDepth 100000 in
theorem rneg_int (g : Bool) (l : List UInt8) (z : Int) (w : World) (hl : l.length ≤ 1000000000) (hz : zv g ⟨l.toArray⟩ = z) :
    Calls Tryz.prog 13 #[.agg #[.bool g, .string ⟨l.toArray⟩]] w (IntOut w (-z)) := by
  have Hz := Lib.hid hz
  clear hz
  have B0 := below2 w (.cells #[.bool g, .string ⟨l.toArray⟩] 23) (.cells #[.bool false, .string ⟨#[]⟩] 23)
  have X0 : Box2 ((w.alloc (.cells #[.bool g, .string ⟨l.toArray⟩] 23)).alloc (.cells #[.bool false, .string ⟨#[]⟩] 23)) w.heap.size g ⟨l.toArray⟩ := by
    refine ⟨?_, ?_, ?_, ?_⟩ <;> simp [go_sem]
  have Y0 : Box2 ((w.alloc (.cells #[.bool g, .string ⟨l.toArray⟩] 23)).alloc (.cells #[.bool false, .string ⟨#[]⟩] 23)) (w.heap.size + 1) false ⟨#[]⟩ := by
    refine ⟨?_, ?_, ?_, ?_⟩ <;> simp [go_sem]
  go_enter Tryz.func13, Tryz.ntmps13
  go_wp2_with fail
  refine (rcanonical_any g l _ hl).mono ?_
  rw [Hz.out]
  rintro e W1 ⟨rfl, b1⟩
  obtain ⟨x1, x2, x3, x4⟩ := X0.keep b1
  obtain ⟨y1, y2, y3, y4⟩ := Y0.keep b1
  have B1 := below_more B0 (Nat.le_refl _) b1
  clear X0 Y0 B0 b1
  have Bs : ∀ (a b c d : Value), Below w.heap.size w ((((W1.setCell ⟨w.heap.size, 0, none⟩ a).setCell ⟨w.heap.size, 1, none⟩ b).setCell ⟨w.heap.size + 1, 0, none⟩ c).setCell ⟨w.heap.size + 1, 1, none⟩ d) := fun a b c d =>
    (((B1.setCell (by dsimp only; omega) _).setCell (by dsimp only; omega) _).setCell (by dsimp only; omega) _).setCell (by dsimp only; omega) _
  have HB := Lib.hid Bs
  clear Bs
  have hm : mg z = ⟨(bytesOf z.natAbs).toArray⟩ := rfl
  have Hn := Lib.hid (mg_neg z)
  rcases sg_neg_cases z with ⟨h1, h2⟩ | h0 | ⟨h1, h2, c, t, h3⟩
  · have H2 := Lib.hid h2
    rw [h1]
    generalize mg z = M at *
    clear hm h1 h2
    go_wp2
    exact bodyPost_ret (v := .agg #[.bool false, .string M]) (by simp [results, Tryz.results13, go_sem, x1, x2, x3, x4, y1, y2, y3, y4]) rfl ⟨by rw [Hn.out, H2.out], HB.out _ _ _ _⟩
  · subst h0
    clear hm
    have h1 : sg 0 = false := by decide
    have h2 : mg 0 = ⟨#[]⟩ := by unfold mg; rw [show (0 : Int).natAbs = 0 by rfl, bytesOf_zero]
    rw [h1, h2]
    have H2 := Lib.hid h2
    clear h1 h2
    go_wp2
    exact bodyPost_ret (v := .agg #[.bool false, .string ⟨#[]⟩]) (by simp [results, Tryz.results13, go_sem, x1, x2, x3, x4, y1, y2, y3, y4]) rfl ⟨by rw [show -(0 : Int) = 0 from rfl, H2.out]; rfl, HB.out _ _ _ _⟩
  · rw [h3] at hm
    have H2 := Lib.hid h2
    have Hm := Lib.hid hm
    rw [h1, hm]
    clear hm h1 h2 h3
    go_wp2
    exact bodyPost_ret (v := .agg #[.bool true, .string ⟨(c :: t).toArray⟩]) (by simp [results, Tryz.results13, go_sem, x1, x2, x3, x4, y1, y2, y3, y4]) rfl ⟨by rw [Hn.out, H2.out, Hm.out], HB.out _ _ _ _⟩
set_option maxRecDepth 100000 in
set_option maxHeartbeats 3200000 in
theorem rcheck01_any (g : Bool) (l : List UInt8) (w : World) (hl : l.length ≤ 1000000000) :
    Calls Tryz.prog 11 #[.agg #[.bool g, .string ⟨l.toArray⟩]] w fun e w' => e = .returned (.int .i64 (checkN g ⟨l.toArray⟩)) ∧ Below w.heap.size w w' := by
  have hb := below1 w (.cells #[.bool g, .string ⟨l.toArray⟩] 23)
  rw [check_val g ⟨l.toArray⟩, show (⟨l.toArray⟩ : ByteArray).toList = l by simp]
  obtain ⟨q, hq⟩ : ∃ q, q = (!g == sg (zv g ⟨l.toArray⟩) || !l == (mg (zv g ⟨l.toArray⟩)).toList) := ⟨_, rfl⟩
  rw [← hq]
  have Hq := Lib.hid hq
  clear hq
  go_enter Tryz.func11, Tryz.ntmps11
  go_upto_region 1 with fail
  go_region_held3 (fun W => W.cell? ⟨w.heap.size, 0, none⟩ = some (.bool g) ∧ W.cell? ⟨w.heap.size, 1, none⟩ = some (.string ⟨l.toArray⟩)) (first | exact keep2 (by assumption) (by assumption) | (simp [go_sem]; done) | go_keep)
    (first | (go_at_call 25; refine (rcanonical_any g l _ hl).mono ?_; rintro e W1 ⟨rfl, b1⟩))
  all_goals
    rw [← Hq.out]
    cases q
    · go_wp2
      go_ret
      exact ⟨rfl, below_more hb.drew (Nat.le_refl _) b1⟩
    · go_wp2
      go_ret
      exact ⟨rfl, below_more hb.drew (Nat.le_refl _) b1⟩
end Go.Proofs.YtmdkkeklihfdgaaGreatDoor

namespace Go.Proofs.YtmdkkeklihfdgaaGreatDoor
open Go.RowKit
set_option linter.unusedSimpArgs false
set_option linter.unusedVariables false

theorem nbits_half {d : Nat} (h : 0 < d) : nbits d = nbits (d / 2) + 1 := by
  unfold nbits
  rw [if_neg (by omega)]
  rcases Nat.lt_or_ge d 2 with h2 | h2
  · have : d = 1 := by omega
    subst this
    rfl
  · rw [if_neg (by omega), Nat.log2_def d, if_pos h2]
set_option maxRecDepth 100000 in
theorem rbits_any (g : Bool) (l : List UInt8) (z : Int) (w : World) (hl : l.length ≤ 1000000000) (hz : zv g ⟨l.toArray⟩ = z) :
    Calls Tryz.prog 17 #[.agg #[.bool g, .string ⟨l.toArray⟩]] w fun e w' => e = .returned (.int .i64 (nbits z.natAbs : Int)) ∧ Below w.heap.size w w' := by
  have Hz := Lib.hid hz
  clear hz
  have B0 := below1 w (.cells #[.bool g, .string ⟨l.toArray⟩] 23)
  obtain ⟨T, HT⟩ : ∃ T, Hid (Lib.trimLeftB l 0 = T) := ⟨_, Lib.hid rfl⟩
  have HN := Lib.hid (show z.natAbs = vB T by rw [← Hz.out, ← HT.out, vB_trim]; exact natAbs_zv g ⟨l.toArray⟩)
  have Hh := Lib.hid (show T.head? ≠ some 0 by rw [← HT.out]; exact head_trim l)
  have HL := Lib.hid (show T.length ≤ 1000000000 by
    rw [← HT.out, trim_bytes]
    have h1 := vB_lt l
    exact Nat.le_trans (bytesOf_len h1) hl)
  go_enter Tryz.func17, Tryz.ntmps17
  go_wp2_with fail
  refine (rtrim_any l _ hl).mono ?_
  rintro e W1 ⟨rfl, rfl⟩
  rw [HT.out]
  cases T with
  | nil =>
    go_wp2
    go_ret
    exact ⟨by rw [HN.out]; rfl, B0⟩
  | cons b t =>
    have hb : b ≠ 0 := by
      have := Hh.out
      simpa using this
    have hix := run_index_bytes (b :: t) 0 b rfl 0 (by simp)
    have hb' := b.toNat_lt
    have hb0 : 0 < b.toNat := by
      rcases Nat.eq_zero_or_pos b.toNat with h | h
      · exact absurd (UInt8.toNat_inj.1 (by simpa using h)) hb
      · exact h
    have ht : t.length + 1 ≤ 1000000000 := HL.out
    have Hn := Lib.hid (nbits_bytes b t hb)
    clear hb
    have w1 : IntKind.i64.wrap ((t.length : Int) + 1 - 1) = (t.length : Int) := by rw [IntWalk.i64_in _ (by omega)]; omega
    have w2 : IntKind.i64.wrap (8 * (t.length : Int)) = ((8 * t.length : Nat) : Int) := by rw [IntWalk.i64_in _ (by omega)]; omega
    go_wp2_with fail
    clear w1 w2
    go_loopg [4, 5] b.toNat (fun q s4 s5 wx => wx = w.alloc (.cells #[.bool g, .string ⟨l.toArray⟩] 23) ∧ ∃ c d : Nat, s4 = .int .i64 (c : Int) ∧ s5 = .int .i64 (d : Int) ∧ d ≤ q ∧ d < 256 ∧ c ≤ 8 * t.length + 8 ∧ Hid (c + nbits d = 8 * t.length + nbits b.toNat))
    case atStart => exact ⟨rfl, 8 * t.length, b.toNat, rfl, rfl, Nat.le_refl _, by omega, by omega, rfl⟩
    case round =>
      obtain ⟨rfl, c, d, rfl, rfl, hd, hd2, hc, HC⟩ := hrel
      rcases Nat.eq_zero_or_pos d with h0 | h0
      · subst h0
        have HR := Lib.hid (show (c : Int) = (nbits z.natAbs : Int) by
          have := HC.out
          rw [HN.out, Hn.out]
          have e0 : nbits 0 = 0 := rfl
          omega)
        go_wp2
        go_ret
        exact ⟨by rw [← HR.out]; rfl, B0⟩
      · obtain ⟨q, rfl⟩ : ∃ q, gk = q + 1 := ⟨gk - 1, by omega⟩
        have y1 : (d : Int).tdiv 2 = ((d / 2 : Nat) : Int) := by rw [Int.tdiv_eq_ediv_of_nonneg (by omega)]; omega
        have HC2 := Lib.hid (show c + 1 + nbits (d / 2) = 8 * t.length + nbits b.toNat by have := HC.out; have := nbits_half h0; omega)
        have Hq := Lib.hid (show d / 2 ≤ q ∧ d / 2 < 256 by omega)
        have Hc := Lib.hid (show c + 1 ≤ 8 * t.length + 8 by
          have := HC.out
          have h1 := nbits_half h0
          have h2 : nbits b.toNat ≤ 8 := by
            unfold nbits
            split
            · omega
            · rename_i h3
              have := (Nat.log2_lt h3).2 (show b.toNat < 2 ^ 8 by omega)
              omega
          omega)
        have y2 : IntKind.i64.wrap ((d / 2 : Nat) : Int) = ((d / 2 : Nat) : Int) := IntWalk.i64_in _ (by omega)
        clear HC hd
        go_wp2
        go_roundg q
        case measure => omega
        case rel => exact ⟨rfl, c + 1, d / 2, rfl, rfl, Hq.out.1, Hq.out.2, Hc.out, HC2⟩
end Go.Proofs.YtmdkkeklihfdgaaGreatDoor

namespace Go.Proofs.YtmdkkeklihfdgaaGreatDoor
open Go.RowKit
set_option linter.unusedSimpArgs false
set_option linter.unusedVariables false

/-- The bytes that have been written into eight, from the end. -/
def drow (D : List UInt8) : Nat → Value := fun j => .int .u8 ((if 8 - D.length ≤ j then (D.getD (j - (8 - D.length)) 0).toNat else 0 : Nat) : Int)
theorem drow_step {w : World} {b : Nat} {t : TypeId} {D : List UInt8} {c : UInt8} (h : w.rowIs b t 8 (drow D)) (hk : D.length < 8) {i : Nat} (hi : i = 7 - D.length) :
    (w.setCell ⟨b, i, none⟩ (.int .u8 (c.toNat : Int))).rowIs b t 8 (drow (c :: D)) := by
  subst hi
  refine (h.set (7 - D.length) _).congr fun j hj => ?_
  unfold drow
  rw [List.length_cons]
  by_cases e : j = 7 - D.length
  · subst e
    rw [if_pos rfl, if_pos (by omega), show 7 - D.length - (8 - (D.length + 1)) = 0 by omega]
    rfl
  · rw [if_neg e]
    by_cases hl : 8 - D.length ≤ j
    · rw [if_pos hl, if_pos (by omega), show j - (8 - (D.length + 1)) = j - (8 - D.length) + 1 by omega]
      rfl
    · rw [if_neg hl, if_neg (by omega)]
theorem drow_cell {w : World} {b : Nat} {t : TypeId} {D : List UInt8} (h : w.rowIs b t 8 (drow D)) (hk : D.length ≤ 8) (i : Nat) (u : UInt8) (hu : D[i]? = some u) :
    w.cell? ⟨b, 8 - D.length + i, none⟩ = some (.int .u8 (u.toNat : Int)) := by
  have hi : i < D.length := by
    rcases Nat.lt_or_ge i D.length with h1 | h1
    · exact h1
    · rw [List.getElem?_eq_none h1] at hu; cases hu
  rw [h.cell (by omega)]
  unfold drow
  rw [if_pos (by omega), show 8 - D.length + i - (8 - D.length) = i by omega, List.getD_eq_getElem?_getD, hu]
  rfl
theorem byte_of (m : Nat) : (UInt8.ofNat (m % 256)).toNat = m % 256 := by simp
theorem len8 : Tryz.prog.arrayLen 74 = 8 := by kernel_rfl
theorem elem8 : Tryz.prog.elem 74 = 5 := by kernel_rfl
theorem shr8 (m : Nat) : Op.shift .shr .i64 (m : Int) .u64 8 = pure (.int .i64 ((m / 256 : Nat) : Int)) := by
  have h := shift_shr .i64 .u64 (m : Int) 8 (by omega) (by decide)
  rw [h]
  congr 2
set_option maxRecDepth 100000 in
theorem slice8 (p i : Nat) (h : i < 8) (w : World) : (Instr.sliceAt 74 (.pointer (some ⟨p, 0, none⟩)) (some (.int .i64 (i : Int))) none none).run Tryz.prog w = .ok (.slice (some ⟨p, i, none⟩) (8 - i) (8 - i)) w := by
  have h1 := run_sliceAt_array_l w 74 ⟨p, 0, none⟩ (by rw [len8, elem8]; exact Tryz.underlying74) .i64 (i : Int) (by omega) (by rw [len8]; omega)
  rw [h1, len8, elem8]
  simp [go_sem]
  omega
set_option maxRecDepth 100000 in
set_option maxHeartbeats 1600000 in
theorem rmag_any (n : Nat) (w : World) (hn : n < 9223372036854775808) :
    Calls Tryz.prog 29 #[.int .i64 (n : Int)] w fun e w' => e = .returned (.string ⟨(bytesOf n).toArray⟩) ∧ Below w.heap.size w w' := by
  by_cases h1 : n < 256
  · by_cases h0 : n = 0
    · subst h0
      have H := Lib.hid bytesOf_zero
      go_enter Tryz.func29, Tryz.ntmps29
      go_wp2
      go_ret
      exact ⟨by rw [H.out]; rfl, Below.refl _ _⟩
    · have H := Lib.hid (show bytesOf n = [UInt8.ofNat n] by
        rw [bytesOf_pos h0, show n / 256 = 0 by omega, bytesOf_zero, show n % 256 = n by omega]; rfl)
      have hz : ((n : Int) == 0) = false := by rw [beq_eq_false_iff_ne]; omega
      have hw : IntKind.u8.wrap (n : Int) = (n : Int) := by simp [IntKind.wrap, IntKind.bits, IntKind.signed]; omega
      have hu : (UInt8.ofNat n).toNat = n := by simp; omega
      have hcv := run_string_of (w.alloc (.cells #[.int .u8 (n : Int)] 5)) w.heap.size 0 1 [UInt8.ofNat n] (fun i u hi => by
        rcases i with _ | i
        · simp at hi
          subst hi
          rw [hu]
          simp [go_sem]
        · simp at hi)
      rw [List.length_singleton] at hcv
      go_enter Tryz.func29, Tryz.ntmps29
      go_wp2
      go_ret
      exact ⟨by rw [H.out]; rfl, below1 w _⟩
  · have hlt : decide ((n : Int) < 256) = false := decide_eq_false (by omega)
    go_enter Tryz.func29, Tryz.ntmps29
    go_wp2_with fail
    go_loopg [4, 0] 8 (fun q s4 s0 wx => ∃ (m : Nat) (D : List UInt8), s4 = .int .i64 ((8 - D.length : Nat) : Int) ∧ s0 = .int .i64 (m : Int) ∧ D.length + q = 8 ∧ m < 256 ^ q ∧ m < 9223372036854775808 ∧ Hid (bytesOf n = bytesOf m ++ D) ∧ wx.rowIs w.heap.size 74 8 (drow D) ∧ Below w.heap.size w wx)
    case atStart =>
      refine ⟨n, [], rfl, rfl, rfl, by omega, hn, by show _ = _; simp, ?_, below1 w _⟩
      refine World.rowIs_alloc w #[.int .u8 0, .int .u8 0, .int .u8 0, .int .u8 0, .int .u8 0, .int .u8 0, .int .u8 0, .int .u8 0] 74 (drow []) (fun i hi => ?_)
      have hi' : i = 0 ∨ i = 1 ∨ i = 2 ∨ i = 3 ∨ i = 4 ∨ i = 5 ∨ i = 6 ∨ i = 7 := by simp at hi; omega
      rcases hi' with rfl | rfl | rfl | rfl | rfl | rfl | rfl | rfl <;> rfl
    case round =>
      obtain ⟨m, D, rfl, rfl, hD, hm, hm2, HD, hrow, hb⟩ := hrel
      by_cases h0 : m = 0
      · subst h0
        have hcv := run_string_of wr w.heap.size (8 - D.length) D.length D (fun i u hu => drow_cell hrow (by omega) i u hu)
        have hD0 : D.length ≠ 0 := by
          intro e
          have e2 : D = [] := List.length_eq_zero_iff.1 e
          have e3 := HD.out
          rw [e2, bytesOf_zero] at e3
          have := bytesOf_nil.1 e3
          omega
        have hsl := slice8 w.heap.size (8 - D.length) (by omega) wr
        rw [show 8 - (8 - D.length) = D.length by omega] at hsl
        have HR := Lib.hid (show bytesOf n = D by rw [HD.out, bytesOf_zero]; rfl)
        go_wp2
        go_ret
        exact ⟨by rw [HR.out]; rfl, hb⟩
      · obtain ⟨q, rfl⟩ : ∃ q, gk = q + 1 := ⟨gk - 1, by rcases gk with _ | g; simp at hm; exact absurd hm h0; omega⟩
        have hD7 : D.length + q = 7 := by omega
        have hi : 8 - D.length = q + 1 := by omega
        have H2 := Lib.hid (show bytesOf n = bytesOf (m / 256) ++ (UInt8.ofNat (m % 256) :: D) by rw [HD.out, bytesOf_pos h0]; simp)
        have hw : IntKind.u8.wrap (m : Int) = ((m % 256 : Nat) : Int) := by simp [IntKind.wrap, IntKind.bits, IntKind.signed]
        have hr2 := drow_step (c := UInt8.ofNat (m % 256)) hrow (by omega) (i := q) (by omega)
        rw [byte_of] at hr2
        have H3 := Lib.hid hr2
        have hcell := hrow.cell (i := q) (by omega)
        have hfr := hrow.frozen q
        rw [hi]
        have hmq : m / 256 < 256 ^ q := by
          rw [Nat.pow_succ] at hm
          omega
        have Hmq := Lib.hid hmq
        obtain ⟨m2, Em2⟩ : ∃ x, Hid (m / 256 = x) := ⟨_, Lib.hid rfl⟩
        obtain ⟨r, Er⟩ : ∃ x, Hid (m % 256 = x) := ⟨_, Lib.hid rfl⟩
        have hdiv : (m : Int) / 256 = (m2 : Int) := by rw [← Em2.out]; omega
        have hmod : (m : Int) % 256 = (r : Int) := by rw [← Er.out]; omega
        rw [Em2.out] at Hmq H2
        rw [Er.out] at H2 H3 hw
        have hm3 : m2 < 9223372036854775808 := by rw [← Em2.out]; omega
        clear hr2 hm hmq HD
        go_wp2_with fail
        go_roundg q
        case measure => omega
        case rel => exact ⟨m2, UInt8.ofNat r :: D, by rw [show 8 - (UInt8.ofNat r :: D).length = q by rw [List.length_cons]; omega], rfl, by rw [List.length_cons]; omega, Hmq.out, hm3, H2, H3.out, hb.setCell (Nat.le_refl _) _⟩
end Go.Proofs.YtmdkkeklihfdgaaGreatDoor

namespace Go.Proofs.YtmdkkeklihfdgaaGreatDoor
open Go.RowKit
set_option linter.unusedSimpArgs false
set_option linter.unusedVariables false

theorem mg_least : mg (-9223372036854775808) = ⟨#[128, 0, 0, 0, 0, 0, 0, 0]⟩ := by
  have h := bytesOf_vB [128, 0, 0, 0, 0, 0, 0, 0] (by decide)
  have h2 : vB [128, 0, 0, 0, 0, 0, 0, 0] = 9223372036854775808 := by decide
  rw [h2] at h
  unfold mg
  rw [show (-9223372036854775808 : Int).natAbs = 9223372036854775808 by rfl, h]
set_option maxRecDepth 100000 in
set_option maxHeartbeats 1600000 in
theorem rof01_any (z : Int) (w : World) (h0 : -9223372036854775808 ≤ z) (h1 : z ≤ 9223372036854775807) :
    Calls Tryz.prog 9 #[.int .i64 z] w (IntOut w z) := by
  have B0 := below1 w (.cells #[.bool false, .string ⟨#[]⟩] 23)
  have Y0 : Box2 (w.alloc (.cells #[.bool false, .string ⟨#[]⟩] 23)) w.heap.size false ⟨#[]⟩ := by
    refine ⟨?_, ?_, ?_, ?_⟩ <;> simp [go_sem]
  by_cases hz : 0 ≤ z
  · obtain ⟨N, rfl⟩ := Int.eq_ofNat_of_zero_le hz
    have H1 := Lib.hid (show sg (N : Int) = false from decide_eq_false (by omega))
    have H2 := Lib.hid (show mg (N : Int) = ⟨(bytesOf N).toArray⟩ by unfold mg; rw [Int.natAbs_natCast])
    go_enter Tryz.func9, Tryz.ntmps9
    go_wp2_with fail
    refine (rmag_any N _ (by omega)).mono ?_
    rintro e W1 ⟨rfl, b1⟩
    obtain ⟨y1, y2, y3, y4⟩ := Y0.keep b1
    have B1 := below_more B0 (Nat.le_refl _) b1
    generalize bytesOf N = T at *
    go_wp2
    exact bodyPost_ret (v := .agg #[.bool false, .string ⟨T.toArray⟩]) (by simp [results, Tryz.results9, go_sem, y1, y2, y3, y4]) rfl ⟨by rw [H1.out, H2.out], (B1.setCell (Nat.le_refl _) _).setCell (Nat.le_refl _) _⟩
  · have hs := Lib.hid (show sg z = true from decide_eq_true (by omega))
    obtain ⟨y1, y2, y3, y4⟩ := id Y0
    by_cases hl : z = -9223372036854775808
    · subst hl
      have H2 := Lib.hid mg_least
      have hw : IntKind.i64.wrap 9223372036854775808 = -9223372036854775808 := by decide
      go_enter Tryz.func9, Tryz.ntmps9
      go_wp2
      exact bodyPost_ret (v := .agg #[.bool true, .string ⟨#[128, 0, 0, 0, 0, 0, 0, 0]⟩]) (by simp [results, Tryz.results9, go_sem, y1, y2, y3, y4]) rfl ⟨by rw [hs.out, H2.out], (by first | exact below1 w _ | exact (B0.setCell (Nat.le_refl _) _).setCell (Nat.le_refl _) _)⟩
    · obtain ⟨N, hN⟩ : ∃ N : Nat, -z = (N : Int) := Int.eq_ofNat_of_zero_le (by omega)
      have H2 := Lib.hid (show mg z = ⟨(bytesOf N).toArray⟩ by unfold mg; rw [show z.natAbs = N by omega])
      have hw : IntKind.i64.wrap (-z) = (N : Int) := by rw [hN]; exact IntWalk.i64_in _ (by omega)
      have he : (z == (N : Int)) = false := by rw [beq_eq_false_iff_ne]; omega
      have hd : decide (0 ≤ z) = false := decide_eq_false hz
      have hNn : N < 9223372036854775808 := by omega
      clear hN
      go_enter Tryz.func9, Tryz.ntmps9
      go_wp2_with fail
      refine (rmag_any N _ hNn).mono ?_
      rintro e W1 ⟨rfl, b1⟩
      obtain ⟨y1, y2, y3, y4⟩ := Y0.keep b1
      have B1 := below_more B0 (Nat.le_refl _) b1
      generalize bytesOf N = T at *
      go_wp2
      exact bodyPost_ret (v := .agg #[.bool true, .string ⟨T.toArray⟩]) (by simp [results, Tryz.results9, go_sem, y1, y2, y3, y4]) rfl ⟨by rw [hs.out, H2.out], (B1.setCell (Nat.le_refl _) _).setCell (Nat.le_refl _) _⟩
end Go.Proofs.YtmdkkeklihfdgaaGreatDoor

namespace Go.Proofs.YtmdkkeklihfdgaaGreatDoor
open Go.RowKit
set_option linter.unusedSimpArgs false
set_option linter.unusedVariables false

theorem rcan_eq {g : Bool} {l : List UInt8} {z : Int} {w : World} (hl : l.length ≤ 1000000000) (hz : zv g ⟨l.toArray⟩ = z) :
    Calls Tryz.prog 25 #[.agg #[.bool g, .string ⟨l.toArray⟩]] w (IntOut w z) := hz ▸ rcanonical_any g l w hl
theorem cmpMag_eq {A B : Nat} {n : Int} {w : World} (e : cmpN A B = n) :
    Calls Tryz.prog 34 #[.string ⟨(bytesOf A).toArray⟩, .string ⟨(bytesOf B).toArray⟩] w fun e w' => e = .returned (.int .i64 n) ∧ w' = w := e ▸ rcmpMag_any A B w
theorem cmpZ_signs (z1 z2 : Int) : (sg z1 = true ∧ sg z2 = false ∧ cmpZ z1 z2 = -1) ∨ (sg z1 = false ∧ sg z2 = true ∧ cmpZ z1 z2 = 1) ∨ (sg z1 = true ∧ sg z2 = true ∧ cmpN z2.natAbs z1.natAbs = cmpZ z1 z2) ∨ (sg z1 = false ∧ sg z2 = false ∧ cmpN z1.natAbs z2.natAbs = cmpZ z1 z2) := by
  unfold sg cmpZ cmpN
  by_cases h1 : z1 < 0 <;> by_cases h2 : z2 < 0
  · right; right; left
    refine ⟨decide_eq_true h1, decide_eq_true h2, ?_⟩
    split <;> split <;> (try split) <;> (try split) <;> omega
  · left
    refine ⟨decide_eq_true h1, decide_eq_false h2, ?_⟩
    rw [if_pos (by omega)]
  · right; left
    refine ⟨decide_eq_false h1, decide_eq_true h2, ?_⟩
    rw [if_neg (by omega), if_pos (by omega)]
  · right; right; right
    refine ⟨decide_eq_false h1, decide_eq_false h2, ?_⟩
    split <;> split <;> (try split) <;> (try split) <;> omega
set_option maxRecDepth 100000 in
set_option maxHeartbeats 3200000 in
theorem rcompare_any (g1 g2 : Bool) (l1 l2 : List UInt8) (z1 z2 : Int) (w : World) (hl1 : l1.length ≤ 1000000000) (hl2 : l2.length ≤ 1000000000) (hz1 : zv g1 ⟨l1.toArray⟩ = z1) (hz2 : zv g2 ⟨l2.toArray⟩ = z2) :
    Calls Tryz.prog 15 #[.agg #[.bool g1, .string ⟨l1.toArray⟩], .agg #[.bool g2, .string ⟨l2.toArray⟩]] w fun e w' => e = .returned (.int .i64 (cmpZ z1 z2)) ∧ Below w.heap.size w w' := by
  have Hz1 := Lib.hid hz1
  have Hz2 := Lib.hid hz2
  clear hz1 hz2
  obtain ⟨W0, hW0⟩ : ∃ W0, W0 = (w.alloc (.cells #[.bool g1, .string ⟨l1.toArray⟩] 23)).alloc (.cells #[.bool g2, .string ⟨l2.toArray⟩] 23) := ⟨_, rfl⟩
  have B0 : Below w.heap.size w W0 := by rw [hW0]; exact below2 w _ _
  have X0 : Box2 W0 w.heap.size g1 ⟨l1.toArray⟩ := by
    rw [hW0]; refine ⟨?_, ?_, ?_, ?_⟩ <;> simp [go_sem]
  have Y0 : Box2 W0 (w.heap.size + 1) g2 ⟨l2.toArray⟩ := by
    rw [hW0]; refine ⟨?_, ?_, ?_, ?_⟩ <;> simp [go_sem]
  have HW := Lib.hid hW0
  clear hW0
  go_enter Tryz.func15, Tryz.ntmps15
  go_upto_region 1 with fail
  rw [← HW.out]
  go_cut [4] (fun s4 wx => s4 = .int .i64 0 ∧ wx.cell? ⟨w.heap.size, 0, none⟩ = some (.bool (sg z1)) ∧ wx.cell? ⟨w.heap.size, 1, none⟩ = some (.string (mg z1)) ∧ wx.cell? ⟨w.heap.size + 1, 0, none⟩ = some (.bool (sg z2)) ∧ wx.cell? ⟨w.heap.size + 1, 1, none⟩ = some (.string (mg z2)) ∧ Below w.heap.size w wx)
  case first =>
    have KB : (Box2 W0.drew w.heap.size g1 ⟨l1.toArray⟩ ∧ Box2 W0.drew (w.heap.size + 1) g2 ⟨l2.toArray⟩) ∧ Below w.heap.size w W0.drew := ⟨⟨X0, Y0⟩, B0.drew⟩
    obtain ⟨x1, x2, x3, x4⟩ := id X0
    obtain ⟨y1, y2, y3, y4⟩ := id Y0
    go_region_with (first
      | (go_at_call 25; (first | (with_reducible refine (rcan_eq hl1 Hz1.out).mono ?_) | (with_reducible refine (rcan_eq hl2 Hz2.out).mono ?_)); rintro e X ⟨rfl, bX⟩; have KB := And.intro (And.intro (KB.1.1.keep bX) (KB.1.2.keep bX)) (below_more KB.2 (Nat.le_refl _) bX); obtain ⟨x1, x2, x3, x4⟩ := id KB.1.1; obtain ⟨y1, y2, y3, y4⟩ := id KB.1.2))
    all_goals go_wp2_with fail
    all_goals go_meet
    all_goals
      have h := two_set (z1 := z1) (z2 := z2) (show w.heap.size ≠ w.heap.size + 1 by omega) x1 x2 y1 y2
      exact ⟨rfl, h.1, h.2.1, h.2.2.1, h.2.2.2, (((KB.2.setCell (Nat.le_refl _) _).setCell (Nat.le_refl _) _).setCell (Nat.le_succ _) _).setCell (Nat.le_succ _) _⟩
  case rest =>
    obtain ⟨rfl, x1, x2, y1, y2, B⟩ := hcut
    clear X0 Y0 B0
    rcases cmpZ_signs z1 z2 with ⟨h1, h2, h3⟩ | ⟨h1, h2, h3⟩ | ⟨h1, h2, h3⟩ | ⟨h1, h2, h3⟩
    · rw [h1] at x1
      rw [h2] at y1
      have H3 := Lib.hid h3
      clear h1 h2 h3
      go_wp2
      go_ret
      exact ⟨by rw [H3.out]; rfl, B⟩
    · rw [h1] at x1
      rw [h2] at y1
      have H3 := Lib.hid h3
      clear h1 h2 h3
      go_wp2
      go_ret
      exact ⟨by rw [H3.out]; rfl, B⟩
    · rw [h1] at x1
      rw [h2] at y1
      have H3 := Lib.hid h3
      clear h1 h2 h3
      go_wp2_with fail
      refine (cmpMag_eq H3.out).mono ?_
      rintro e W2 ⟨rfl, rfl⟩
      go_wp2
      go_ret
      exact ⟨rfl, B⟩
    · rw [h1] at x1
      rw [h2] at y1
      have H3 := Lib.hid h3
      clear h1 h2 h3
      go_wp2_with fail
      refine (cmpMag_eq H3.out).mono ?_
      rintro e W2 ⟨rfl, rfl⟩
      go_wp2
      go_ret
      exact ⟨rfl, B⟩
end Go.Proofs.YtmdkkeklihfdgaaGreatDoor

namespace Go.Proofs.YtmdkkeklihfdgaaGreatDoor
open Go.RowKit
set_option linter.unusedSimpArgs false
set_option linter.unusedVariables false
attribute [local go_sem ↓] eqlInt guardInt2

theorem below_al9 {w w1 : World} (h : Below w.heap.size w w1) (o : Obj) : Below w.heap.size w (w1.alloc o) := h.alloc h.size _
/-- The value of a small integer, and whether it is one. -/
def smallZ (z : Int) : Int := if -9223372036854775808 ≤ z ∧ z ≤ 9223372036854775807 then z else 0
def smallB (z : Int) : Bool := decide (-9223372036854775808 ≤ z ∧ z ≤ 9223372036854775807)
set_option maxRecDepth 100000 in
set_option maxHeartbeats 3200000 in
theorem rsmall01_any (g : Bool) (l : List UInt8) (z : Int) (w : World) (hl : l.length ≤ 1000000000) (hz : zv g ⟨l.toArray⟩ = z) :
    Calls Tryz.prog 7 #[.agg #[.bool g, .string ⟨l.toArray⟩]] w fun e w' => e = .returned (.tuple #[.int .i64 (smallZ z), .bool (smallB z)]) ∧ Below w.heap.size w w' := by
  have Hz := Lib.hid hz
  clear hz
  have B0 := below1 w (.cells #[.bool g, .string ⟨l.toArray⟩] 23)
  have X0 : Box2 (w.alloc (.cells #[.bool g, .string ⟨l.toArray⟩] 23)) w.heap.size g ⟨l.toArray⟩ := by
    refine ⟨?_, ?_, ?_, ?_⟩ <;> simp [go_sem]
  obtain ⟨T, HT⟩ : ∃ T, Hid (bytesOf z.natAbs = T) := ⟨_, Lib.hid rfl⟩
  have Hm := Lib.hid (show mg z = ⟨T.toArray⟩ by unfold mg; rw [HT.out])
  have Hv := Lib.hid (show vB T = z.natAbs by rw [← HT.out]; exact vB_bytesOf _)
  have Hzv := Lib.hid (show zv (sg z) ⟨T.toArray⟩ = z by rw [← Hm.out]; exact zv_mg z)
  go_enter Tryz.func7, Tryz.ntmps7
  go_wp2_with fail
  refine (rcanonical_any g l _ hl).mono ?_
  rw [Hz.out]
  rintro e W1 ⟨rfl, b1⟩
  obtain ⟨x1, x2, x3, x4⟩ := X0.keep b1
  have B1 := below_more B0 (Nat.le_refl _) b1
  rw [Hm.out]
  clear X0 B0 b1
  by_cases h8 : T.length < 8
  · have hd : decide ((T.length : Int) < 8) = true := decide_eq_true (by omega)
    have H3 := Lib.hid (show vB T < 9223372036854775808 by
      have h1 := vB_lt T
      have h2 : 256 ^ T.length ≤ 256 ^ 7 := Nat.pow_le_pow_right (by omega) (by omega)
      have h3 : vB T < 72057594037927936 := Nat.lt_of_lt_of_le h1 h2
      omega)
    have HR := Lib.hid (show smallZ z = z ∧ smallB z = true by
      have h3 := H3.out
      rw [Hv.out] at h3
      have h4 : -9223372036854775808 ≤ z ∧ z ≤ 9223372036854775807 := by omega
      exact ⟨if_pos h4, decide_eq_true h4⟩)
    go_wp2_with fail
    refine (rvalue_any (sg z) T z _ (by omega) H3.out Hzv.out).mono ?_
    rintro e W2 ⟨rfl, b2⟩
    go_wp2
    exact bodyPost_ret (v := .tuple #[.int .i64 z, .bool true]) (by simp [results, Tryz.results7, go_sem]) rfl ⟨by rw [HR.out.1, HR.out.2], below_more ((B1.setCell (Nat.le_refl _) _).setCell (Nat.le_refl _) _) (Nat.le_refl _) b2⟩
  · have hd : decide ((T.length : Int) < 8) = false := decide_eq_false (by omega)
    have hh := head_trim (bytesOf z.natAbs)
    rw [trim_bytes, vB_bytesOf, HT.out] at hh
    have HL := Lib.hid (vB_len hh (by omega))
    clear hh
    by_cases h9 : 8 < T.length
    · have hd2 : decide ((8 : Int) < (T.length : Int)) = true := decide_eq_true (by omega)
      have HR := Lib.hid (show smallZ z = 0 ∧ smallB z = false by
        have h1 := HL.out
        have h2 : 256 ^ 8 ≤ 256 ^ (T.length - 1) := Nat.pow_le_pow_right (by omega) (by omega)
        have h3 : 18446744073709551616 ≤ vB T := Nat.le_trans h2 h1
        rw [Hv.out] at h3
        have h4 : ¬ (-9223372036854775808 ≤ z ∧ z ≤ 9223372036854775807) := by omega
        exact ⟨if_neg h4, decide_eq_false h4⟩)
      go_wp2
      exact bodyPost_ret (v := .tuple #[.int .i64 0, .bool false]) (by simp [results, Tryz.results7, go_sem]) rfl ⟨by rw [HR.out.1, HR.out.2], (B1.setCell (Nat.le_refl _) _).setCell (Nat.le_refl _) _⟩
    · have h10 : T.length = 8 := by omega
      clear h8 h9 hd
      obtain ⟨b, t, rfl⟩ : ∃ b t, T = b :: t := by
        cases T with
        | nil => simp at h10
        | cons b t => exact ⟨b, t, rfl⟩
      have ht : t.length = 7 := by simpa using h10
      have hix := run_index_bytes (b :: t) 0 b rfl 0 (by simp)
      have hb' := b.toNat_lt
      have HV := Lib.hid (show vB (b :: t) = b.toNat * 72057594037927936 + vB t ∧ vB t < 72057594037927936 by
        have h1 := vB_lt t
        rw [ht] at h1
        refine ⟨?_, h1⟩
        rw [vB_cons, ht])
      by_cases hb : b.toNat < 128
      · have hd3 : decide ((b.toNat : Int) < 128) = true := decide_eq_true (by omega)
        have H3 := Lib.hid (show vB (b :: t) < 9223372036854775808 by have := HV.out; omega)
        have HR := Lib.hid (show smallZ z = z ∧ smallB z = true by
          have h3 := H3.out
          rw [Hv.out] at h3
          have h4 : -9223372036854775808 ≤ z ∧ z ≤ 9223372036854775807 := by omega
          exact ⟨if_pos h4, decide_eq_true h4⟩)
        go_wp2_with fail
        refine (rvalue_any (sg z) (b :: t) z _ (by rw [h10]; omega) H3.out Hzv.out).mono ?_
        rintro e W2 ⟨rfl, b2⟩
        go_wp2
        exact bodyPost_ret (v := .tuple #[.int .i64 z, .bool true]) (by simp [results, Tryz.results7, go_sem]) rfl ⟨by rw [HR.out.1, HR.out.2], below_more ((B1.setCell (Nat.le_refl _) _).setCell (Nat.le_refl _) _) (Nat.le_refl _) b2⟩
      · have hd3 : decide ((b.toNat : Int) < 128) = false := decide_eq_false (by omega)
        have H3 := Lib.hid (show 9223372036854775808 ≤ z.natAbs by rw [← Hv.out]; have := HV.out; omega)
        have hleast : sg (-9223372036854775808) = true := by decide
        have hml := mg_least
        have y1 : ((W1.setCell ⟨w.heap.size, 0, none⟩ (.bool (sg z))).setCell ⟨w.heap.size, 1, none⟩ (.string ⟨(b :: t).toArray⟩)).cell? ⟨w.heap.size, 0, none⟩ = some (.bool (sg z)) := by simp [go_sem, x1, x2]
        have y2 : ((W1.setCell ⟨w.heap.size, 0, none⟩ (.bool (sg z))).setCell ⟨w.heap.size, 1, none⟩ (.string ⟨(b :: t).toArray⟩)).cell? ⟨w.heap.size, 1, none⟩ = some (.string ⟨(b :: t).toArray⟩) := by simp [go_sem, x1, x2]
        have Y := Lib.hid (And.intro y1 y2)
        have HZ := Lib.hid (show (z = -9223372036854775808 ∧ sg z = true ∧ b :: t = [128, 0, 0, 0, 0, 0, 0, 0] ∧ smallZ z = -9223372036854775808 ∧ smallB z = true) ∨ (sg z = true ∧ ((b :: t) == [128, 0, 0, 0, 0, 0, 0, 0]) = false ∧ smallZ z = 0 ∧ smallB z = false) ∨ (sg z = false ∧ smallZ z = 0 ∧ smallB z = false) by
          have h3 := H3.out
          by_cases e : z = -9223372036854775808
          · left
            subst e
            have h5 := Hm.out
            rw [hml] at h5
            injection h5 with h5
            have h6 := congrArg Array.toList h5
            exact ⟨rfl, hleast, h6.symm, rfl, rfl⟩
          · right
            have h4 : ¬ (-9223372036854775808 ≤ z ∧ z ≤ 9223372036854775807) := by omega
            by_cases hs : z < 0
            · left
              refine ⟨decide_eq_true hs, ?_, if_neg h4, decide_eq_false h4⟩
              rw [beq_eq_false_iff_ne]
              intro h5
              have h6 := Hv.out
              rw [h5, show vB [128, 0, 0, 0, 0, 0, 0, 0] = 9223372036854775808 by decide] at h6
              omega
            · right
              exact ⟨decide_eq_false hs, if_neg h4, decide_eq_false h4⟩)
        clear y1 y2 hleast hml hb
        go_wp2_with fail
        refine (rof01_any (-9223372036854775808) _ (by omega) (by omega)).mono ?_
        rintro e W2 ⟨rfl, b2⟩
        rw [show sg (-9223372036854775808) = true by decide, mg_least]
        have y1 := cell_keep Y.out.1 b2
        have y2 := cell_keep Y.out.2 b2
        have hbl : w.heap.size < W2.heap.size := World.block_lt_of_cell? W2 ⟨w.heap.size, 0, none⟩ y1
        clear x1 x2 x3 x4 hix hd3 hb'
        rcases HZ.out with ⟨-, h1, h2, h3, h4⟩ | ⟨h1, h2, h3, h4⟩ | ⟨h1, h3, h4⟩
        · have HR := Lib.hid (And.intro h3 h4)
          rw [h1] at y1
          rw [h2] at y2
          clear h1 h2 h3 h4
          go_wp2
          exact bodyPost_ret (v := .tuple #[.int .i64 (-9223372036854775808), .bool true]) (by simp [results, Tryz.results7, go_sem]) rfl ⟨by rw [HR.out.1, HR.out.2], below_al9 (below_more ((B1.setCell (Nat.le_refl _) _).setCell (Nat.le_refl _) _) (Nat.le_refl _) b2) _⟩
        · have HR := Lib.hid (And.intro h3 h4)
          rw [h1] at y1
          clear h1 h3 h4
          go_wp2
          exact bodyPost_ret (v := .tuple #[.int .i64 0, .bool false]) (by simp [results, Tryz.results7, go_sem]) rfl ⟨by rw [HR.out.1, HR.out.2], below_al9 (below_more ((B1.setCell (Nat.le_refl _) _).setCell (Nat.le_refl _) _) (Nat.le_refl _) b2) _⟩
        · have HR := Lib.hid (And.intro h3 h4)
          rw [h1] at y1
          clear h1 h3 h4
          go_wp2
          exact bodyPost_ret (v := .tuple #[.int .i64 0, .bool false]) (by simp [results, Tryz.results7, go_sem]) rfl ⟨by rw [HR.out.1, HR.out.2], below_al9 (below_more ((B1.setCell (Nat.le_refl _) _).setCell (Nat.le_refl _) _) (Nat.le_refl _) b2) _⟩
end Go.Proofs.YtmdkkeklihfdgaaGreatDoor

namespace Go.Proofs.YtmdkkeklihfdgaaGreatDoor
open Go.RowKit
set_option linter.unusedSimpArgs false
set_option linter.unusedVariables false

theorem great2B (sa sb : ByteArray) (d : ByteArray) : greatB 2 (fun i => if i = 0 then sa else sb) = (decide (60 < sa.size) || decide (60 < sb.size)) := by simp [greatB, List.range_succ]
theorem small_eq {v : Value} {z x : Int} {b : Bool} {k : Nat} {w : World} (h : IsInt v z k) (e1 : smallZ z = x) (e2 : smallB z = b) :
    Calls Tryz.prog 6 #[v] w fun e w' => e = .returned (.tuple #[.int .i64 x, .bool b]) ∧ Below w.heap.size w w' := by
  refine (small_any v z k w h).mono ?_
  rintro e w' ⟨rfl, hb⟩
  refine ⟨?_, hb⟩
  rw [← e1, ← e2]
  unfold smallZ smallB
  by_cases hf : fitsInt z
  · have h2 : -9223372036854775808 ≤ z ∧ z ≤ 9223372036854775807 := hf
    rw [if_pos hf, if_pos h2, decide_eq_true h2]
  · have h2 : ¬ (-9223372036854775808 ≤ z ∧ z ≤ 9223372036854775807) := hf
    rw [if_neg hf, if_neg h2, decide_eq_false h2]
theorem rsm_eq {g : Bool} {l : List UInt8} {z x : Int} {b : Bool} {w : World} (hl : l.length ≤ 1000000000) (hz : zv g ⟨l.toArray⟩ = z) (e1 : smallZ z = x) (e2 : smallB z = b) :
    Calls Tryz.prog 7 #[.agg #[.bool g, .string ⟨l.toArray⟩]] w fun e w' => e = .returned (.tuple #[.int .i64 x, .bool b]) ∧ Below w.heap.size w w' := by
  rw [← e1, ← e2]; exact rsmall01_any g l z w hl hz
theorem chk_eq {g : Bool} {s : ByteArray} {n : Int} {w : World} (e : checkN g s = n) : Calls Tryz.prog 10 #[.agg #[.bool g, .string s]] w fun e w' => e = .returned (.int .i64 n) ∧ Below w.heap.size w w' := e ▸ check_int g s w
theorem rchk_eq {g : Bool} {l : List UInt8} {n : Int} {w : World} (hl : l.length ≤ 1000000000) (e : checkN g ⟨l.toArray⟩ = n) : Calls Tryz.prog 11 #[.agg #[.bool g, .string ⟨l.toArray⟩]] w fun e w' => e = .returned (.int .i64 n) ∧ Below w.heap.size w w' := e ▸ rcheck01_any g l w hl
theorem rneg_eq {g : Bool} {l : List UInt8} {z y : Int} {w : World} (hl : l.length ≤ 1000000000) (hz : zv g ⟨l.toArray⟩ = z) (e : -z = y) : Calls Tryz.prog 13 #[.agg #[.bool g, .string ⟨l.toArray⟩]] w (IntOut w y) := e ▸ rneg_int g l z w hl hz
theorem rcompare_eq {g1 g2 : Bool} {l1 l2 : List UInt8} {z1 z2 c : Int} {w : World} (hl1 : l1.length ≤ 1000000000) (hl2 : l2.length ≤ 1000000000) (hz1 : zv g1 ⟨l1.toArray⟩ = z1) (hz2 : zv g2 ⟨l2.toArray⟩ = z2) (e : cmpZ z1 z2 = c) :
    Calls Tryz.prog 15 #[.agg #[.bool g1, .string ⟨l1.toArray⟩], .agg #[.bool g2, .string ⟨l2.toArray⟩]] w fun e w' => e = .returned (.int .i64 c) ∧ Below w.heap.size w w' := e ▸ rcompare_any g1 g2 l1 l2 z1 z2 w hl1 hl2 hz1 hz2
theorem rbits_eq {g : Bool} {l : List UInt8} {z n : Int} {w : World} (hl : l.length ≤ 1000000000) (hz : zv g ⟨l.toArray⟩ = z) (e : ((nbits z.natAbs : Nat) : Int) = n) : Calls Tryz.prog 17 #[.agg #[.bool g, .string ⟨l.toArray⟩]] w fun e w' => e = .returned (.int .i64 n) ∧ Below w.heap.size w w' := e ▸ rbits_any g l z w hl hz
theorem ibits_eq {v : Value} {z n : Int} {k : Nat} {w : World} (h : IsInt v z k) (e : ((nbits z.natAbs : Nat) : Int) = n) : Calls Tryz.prog 16 #[v] w fun e w' => e = .returned (.int .i64 n) ∧ Below w.heap.size w w' := e ▸ ibits_any v z k w h

set_option maxRecDepth 100000 in
set_option maxHeartbeats 6400000 in
theorem basics_any (n : Int) (na nb : Bool) (sa sb : ByteArray) (w : World) (hn0 : -9223372036854775808 ≤ n) (hn1 : n ≤ 9223372036854775807) (ha : sa.size ≤ 9223372036854775807) (hb : sb.size ≤ 9223372036854775807) (htab : Lib.TabIs Tryz.prog w "internal/strconv.uint64pow10" .u64 Lib.pow10Tab) :
    Calls Tryz.prog 3 #[.int .i64 n, .agg #[.bool na, .string sa], .agg #[.bool nb, .string sb]] w fun e w' => e = .returned (.bool true) ∧ Below w.heap.size w w' := by
  have Htab := Lib.hid htab
  clear htab
  obtain ⟨la, rfl⟩ : ∃ l : List UInt8, sa = ⟨l.toArray⟩ := ⟨sa.data.toList, rfl⟩
  obtain ⟨lb, rfl⟩ : ∃ l : List UInt8, sb = ⟨l.toArray⟩ := ⟨sb.data.toList, rfl⟩
  go_enter Tryz.func3, Tryz.ntmps3
  go_wp2_with fail
  refine (greats_any (w.heap.size + 1 + 1) 0 2 2 (fun i => if i = 0 then na else nb) (fun i => if i = 0 then ⟨la.toArray⟩ else ⟨lb.toArray⟩) _ ?_ (by omega) ?_).mono ?_
  · intro i hi
    have : i = 0 ∨ i = 1 := by omega
    rcases this with rfl | rfl <;> simp [go_sem]
  · intro i hi
    have : i = 0 ∨ i = 1 := by omega
    rcases this with rfl | rfl
    · exact ha
    · exact hb
  rintro e W1 ⟨rfl, b1⟩
  rw [great2B _ _ ⟨#[]⟩]
  have S : Cells [(w.heap.size, na, ⟨la.toArray⟩), (w.heap.size + 1, nb, ⟨lb.toArray⟩)] W1 := Cells.keep b1 (Cells.cons (by simp [go_sem]) (by simp [go_sem]) (Cells.cons (by simp [go_sem]) (by simp [go_sem]) (Cells.nil _)))
  have B : Below w.heap.size w W1 := below_more (below3 w _ _ _) (Nat.le_refl _) b1
  clear b1
  by_cases hg : (decide (60 < (⟨la.toArray⟩ : ByteArray).size) || decide (60 < (⟨lb.toArray⟩ : ByteArray).size)) = true
  · rw [hg]
    clear S
    go_wp2_with fail
    refine (awake_any _ (tab_keep Htab.out B)).mono ?_
    rintro e W2 ⟨rfl, b2⟩
    go_wp2
    go_ret
    exact ⟨rfl, below_more B (Nat.le_refl _) b2⟩
  rw [Bool.not_eq_true] at hg
  rw [hg]
  have h60 : (⟨la.toArray⟩ : ByteArray).size ≤ 60 ∧ (⟨lb.toArray⟩ : ByteArray).size ≤ 60 := by simpa using hg
  have Ia := Lib.hid (arg_int na _ h60.1)
  have Ib := Lib.hid (arg_int nb _ h60.2)
  have Hla := Lib.hid (show la.length ≤ 1000000000 by have : la.length ≤ 60 := h60.1; omega)
  have Hlb := Lib.hid (show lb.length ≤ 1000000000 by have : lb.length ≤ 60 := h60.2; omega)
  clear h60 hg ha hb
  obtain ⟨za, Ea⟩ : ∃ z, Hid (zv na ⟨la.toArray⟩ = z) := ⟨_, Lib.hid rfl⟩
  obtain ⟨zb, Eb⟩ : ∃ z, Hid (zv nb ⟨lb.toArray⟩ = z) := ⟨_, Lib.hid rfl⟩
  rw [Ea.out] at Ia
  rw [Eb.out] at Ib
  obtain ⟨x, Ex⟩ : ∃ z, Hid (smallZ za = z) := ⟨_, Lib.hid rfl⟩
  obtain ⟨y, Ey⟩ : ∃ z, Hid (smallB za = z) := ⟨_, Lib.hid rfl⟩
  obtain ⟨cn, Ecn⟩ : ∃ z, Hid (checkN na ⟨la.toArray⟩ = z) := ⟨_, Lib.hid rfl⟩
  obtain ⟨zn, En⟩ : ∃ z, Hid (-za = z) := ⟨_, Lib.hid rfl⟩
  obtain ⟨c, Ec⟩ : ∃ z, Hid (cmpZ za zb = z) := ⟨_, Lib.hid rfl⟩
  obtain ⟨nb', Enb⟩ : ∃ z, Hid (((nbits za.natAbs : Nat) : Int) = z) := ⟨_, Lib.hid rfl⟩
  obtain ⟨t1, t2, t3, t4⟩ := flat2 S
  go_wp2_with fail
  refine (small_eq Ia.out Ex.out Ey.out).mono ?_
  rintro e W2 ⟨rfl, b2⟩
  have S := S.keep b2
  have B := below_more B (Nat.le_refl _) b2
  clear b2 t1 t2 t3 t4
  obtain ⟨t1, t2, t3, t4⟩ := flat2 S
  go_wp2_with fail
  refine (rsm_eq Hla.out Ea.out Ex.out Ey.out).mono ?_
  rintro e W3 ⟨rfl, b3⟩
  have S := S.keep b3
  have B := below_more B (Nat.le_refl _) b3
  clear b3 t1 t2 t3 t4
  go_upto_region 5 with fail
  obtain ⟨t1, t2, t3, t4⟩ := flat2 S
  have S0 : Cells [(w.heap.size, na, ⟨la.toArray⟩), (w.heap.size + 1, nb, ⟨lb.toArray⟩)] W3.drew := S
  have KB := And.intro S0 B.drew
  clear S0
  go_region_held3 (fun W => W.cell? ⟨w.heap.size, 0, none⟩ = some (.bool na) ∧ W.cell? ⟨w.heap.size, 1, none⟩ = some (.string ⟨la.toArray⟩) ∧ W.cell? ⟨w.heap.size + 1, 0, none⟩ = some (.bool nb) ∧ W.cell? ⟨w.heap.size + 1, 1, none⟩ = some (.string ⟨lb.toArray⟩)) (first | (with_reducible exact flat2 KB.1) | exact flat2 KB.1)
    (first
      | (go_at_call 8; (with_reducible refine (iof_any n _ hn0 hn1).mono ?_); rintro e X ⟨rfl, bX⟩; have KB := And.intro (Cells.keep bX KB.1) (below_more KB.2 (Nat.le_refl _) bX))
      | (go_at_call 9; (with_reducible refine (rof01_any n _ hn0 hn1).mono ?_); rintro e X ⟨rfl, bX⟩; have KB := And.intro (Cells.keep bX KB.1) (below_more KB.2 (Nat.le_refl _) bX))
      | (go_at_call 10; (with_reducible refine (chk_eq Ecn.out).mono ?_); rintro e X ⟨rfl, bX⟩; have KB := And.intro (Cells.keep bX KB.1) (below_more KB.2 (Nat.le_refl _) bX))
      | (go_at_call 11; (with_reducible refine (rchk_eq Hla.out Ecn.out).mono ?_); rintro e X ⟨rfl, bX⟩; have KB := And.intro (Cells.keep bX KB.1) (below_more KB.2 (Nat.le_refl _) bX))
      | (go_at_call 12; (with_reducible refine (ineg_eq Ia.out En.out).mono ?_); rintro e X ⟨rfl, bX⟩; have KB := And.intro (Cells.keep bX KB.1) (below_more KB.2 (Nat.le_refl _) bX))
      | (go_at_call 13; (with_reducible refine (rneg_eq Hla.out Ea.out En.out).mono ?_); rintro e X ⟨rfl, bX⟩; have KB := And.intro (Cells.keep bX KB.1) (below_more KB.2 (Nat.le_refl _) bX))
      | (go_at_call 14; (with_reducible refine (icmp_eq Ia.out Ib.out Ec.out).mono ?_); rintro e X ⟨rfl, bX⟩; have KB := And.intro (Cells.keep bX KB.1) (below_more KB.2 (Nat.le_refl _) bX))
      | (go_at_call 15; (with_reducible refine (rcompare_eq Hla.out Hlb.out Ea.out Eb.out Ec.out).mono ?_); rintro e X ⟨rfl, bX⟩; have KB := And.intro (Cells.keep bX KB.1) (below_more KB.2 (Nat.le_refl _) bX))
      | (go_at_call 16; (with_reducible refine (ibits_eq Ia.out Enb.out).mono ?_); rintro e X ⟨rfl, bX⟩; have KB := And.intro (Cells.keep bX KB.1) (below_more KB.2 (Nat.le_refl _) bX))
      | (go_at_call 17; (with_reducible refine (rbits_eq Hla.out Ea.out Enb.out).mono ?_); rintro e X ⟨rfl, bX⟩; have KB := And.intro (Cells.keep bX KB.1) (below_more KB.2 (Nat.le_refl _) bX))
      | (go_at_call 5; refine (awake_any _ (tab_keep Htab.out KB.2)).mono ?_; rintro e X ⟨rfl, bX⟩; have KB := And.intro (Cells.keep bX KB.1) (below_more KB.2 (Nat.le_refl _) bX)))
  all_goals
    go_wp2
    go_ret
    exact ⟨rfl, KB.2⟩
end Go.Proofs.YtmdkkeklihfdgaaGreatDoor

namespace Go.Proofs.YtmdkkeklihfdgaaGreatDoor.integerBasics
open Go.ChangeShapes Go.WideShapes Go.ChangeAt Go.RowKit
open Go.ChangeMaps (open_string shut_string)
set_option maxRecDepth 100000
set_option linter.unusedVariables false

theorem contract (H : Type) (enc : TypeId × Value → H) (W : World) (base : Nat) (args : Array Value) (ds gs : List (DataW H)) (before : List MemPlace)
    (hval : ∀ (j : Nat) t v, Tryz.f3.params[j]? = some t → args[j]? = some v → Value.okWide Tryz.prog W .any base t v)
    (hW : DataW.Whole enc Tryz.prog Tryz.f3.params.toList Rows.integerBasicsSpec.vars false W args.toList ds gs before) (hL : laidMetH Tryz.prog Rows.integerBasicsRow.laid W) :
    Calls Tryz.prog 3 args W fun e W' => ∃ v, e = .returned v ∧ Rows.integerBasicsSpec.post enc Tryz.prog Tryz.f3 false true false false W args v W' := by
  have hW' := hW
  obtain ⟨p, q, hA0, hV, rfl, hfz, hnd⟩ := hW
  have hA : DataW.TrodAll enc Tryz.prog W 0 (fun _ => true) true Tryz.f3.params.toList args.toList ds p := hA0
  rw [Tryz.params3] at hA hval
  obtain ⟨v0, vs0, d0, ds0, p0, q0, hargs, rfl, rfl, h0, r0⟩ := trodAll_cons hA
  obtain ⟨v1, vs1, d1, ds1, p1, q1, rfl, rfl, rfl, h1, r1⟩ := trodAll_cons r0
  obtain ⟨v2, vs2, d2, ds2, p2, q2, rfl, rfl, rfl, h2, r2⟩ := trodAll_cons r1
  obtain ⟨rfl, rfl, rfl⟩ := trodAll_nil r2
  obtain rfl : args = #[v0, v1, v2] := by cases args; simp_all
  obtain ⟨rfl, rfl⟩ := trodVars_none hV
  obtain ⟨n0, rfl, rfl, rfl, w0⟩ := open_int Tryz.underlying3 (hval 0 3 v0 rfl rfl) h0
  have b0 : (IntKind.min .i64) ≤ n0 ∧ n0 ≤ (IntKind.max .i64) := by simpa [Lit.wf] using w0
  simp [IntKind.min, IntKind.max, IntKind.signed, IntKind.bits] at b0
  obtain ⟨g1, s1, rfl, rfl, rfl, z1⟩ := int_open (hval 1 23 v1 rfl rfl) h1
  obtain ⟨g2, s2, rfl, rfl, rfl, z2⟩ := int_open (hval 2 23 v2 rfl rfl) h2
  clear hA0
  simp only [List.append_nil] at hW'
  refine (basics_any n0 g1 g2 s1 s2 W b0.1 b0.2 z1 z2 (tabPow hL)).mono fun e W' ⟨he, hb⟩ => ?_
  subst he
  refine ⟨_, rfl, _, _, _, [], [], [], hW', ?_, ?_, ?_, hb.frame _, fun h => by cases h⟩
  · exact trodAll_cons_mk (p := []) (shut_bool Tryz.underlying4 true) trodAll_mk0
  · exact (trodAll_cons_mk (p := []) (shut_int Tryz.underlying3 w0) (trodAll_cons_mk (p := []) (int_shut z1) (trodAll_cons_mk (p := []) (int_shut z2) trodAll_mk0)))
  · rfl

theorem reads (os : Os) {H : Type} (enc : TypeId × Value → H) : ∃ places, DataW.whole enc Tryz.prog ((laidWorld os).forCall (fun _ _ => 0) ⟨#[], #[.int .i64 0, .agg #[.bool false, .string ⟨#[]⟩], .agg #[.bool false, .string ⟨#[]⟩]], []⟩).memory Tryz.f3.params.toList Rows.integerBasicsSpec.vars false [.int .i64 0, .agg #[.bool false, .string ⟨#[]⟩], .agg #[.bool false, .string ⟨#[]⟩]] 8 = some ([.lit (.int .i64 0), .agg [.lit (.bool false), .lit (.string [])], .agg [.lit (.bool false), .lit (.string [])]], [], places) :=
  ⟨[], by kernel_rfl⟩

theorem lifted (os : Os) (started : os.Started) (H : Type) (enc : TypeId × Value → H) (F : Stop.Interp) :
    ReturnsInHanded {} Tryz.checked os 3 .any ((OpenSpec.ofChange Rows.integerBasicsSpec).preRow enc Tryz.prog Tryz.f3 Rows.integerBasicsRow.domain false Rows.integerBasicsRow.laid) (((OpenSpec.ofChange Rows.integerBasicsSpec).at F).post enc Tryz.prog Tryz.f3 false true false false) := by
  obtain ⟨places, hx⟩ := reads os enc
  refine returnsInHanded_of_row (C := Tryz.checked) (s := OpenSpec.ofChange Rows.integerBasicsSpec) ownNone started (by kernel_rfl) Tryz.func3
    (witness_row_at (enc := enc) (C := Tryz.checked) false (laidWorld os) #[.int .i64 0, .agg #[.bool false, .string ⟨#[]⟩], .agg #[.bool false, .string ⟨#[]⟩]] rfl (by kernel_rfl) (by kernel_rfl) (by kernel_rfl)
      (OpenSpec.preRow_of_cond 8 hx (by kernel_rfl) (fun k hk => by cases hk) (by kernel_rfl) (laid_met os _))) ?_
  intro W base args ds gs before hval hW _ _ _ hL _ _
  exact contract H enc W base args ds gs before hval hW hL

theorem said : Rows.IntegerBasicsSaid :=
  OpenClaim.holds_of_cond 3 Tryz.f3 rfl rfl rfl rfl rfl rfl rfl ⟨rfl, rfl, rfl, rfl, rfl⟩ rfl rfl rfl rfl rfl (by kernel_rfl) Tryz.func3 (by kernel_rfl)
    (of_decide_eq_true (by kernel_rfl)) (by unfold Func.isWrapper; first | (rw [if_pos (by decide +kernel)]; kernel_rfl) | (rw [if_neg (by decide +kernel)]; exact ⟨rfl, rfl⟩))
    (fun os started H enc _ F => by rw [OpenClaim.pre_eq_preRow]; exact lifted os started H enc F)

theorem plain (f : FuncId) (fn : Func) (hf : Tryz.pinned.checked.prog.funcNamed "groove/groovelaw01.IntegerBasics" = some f) (hfn : Tryz.pinned.checked.prog.funcs[f]? = some fn) :
    false = Tryz.pinned.checked.prog.looks [] ∧ ∀ (j : Nat) t, fn.params[j]? = some t → Tryz.pinned.checked.prog.wantsStandIn t = false := by
  obtain rfl : f = 3 := Option.some.inj ((show Tryz.prog.funcNamed "groove/groovelaw01.IntegerBasics" = some 3 by kernel_rfl).symm.trans hf) |>.symm
  obtain rfl : fn = Tryz.f3 := (Option.some.inj (Tryz.func3.symm.trans hfn)).symm
  refine ⟨by kernel_rfl, fun j t ht => ?_⟩
  rw [Tryz.params3] at ht
  have hm := Array.mem_of_getElem? ht
  have hm : t = 3 ∨ t = 23 ∨ t = 23 := by simpa using hm
  rcases hm with rfl | rfl | rfl
  · exact noStand.2.2.2.1
  · exact noStand.1
  · exact noStand.1

/-- IntegerBasics's card. -/
theorem card : Rows.IntegerBasicsCardSaid :=
  Claim7.holds_tied_plain_at .later [] _ _ _ _ said (fun _ h => by cases h) (by kernel_rfl) (fun _ h => by cases h) integerBasics_row_tie rfl ⟨rfl, rfl⟩ (by kernel_rfl) rfl plain (by kernel_rfl)
end Go.Proofs.YtmdkkeklihfdgaaGreatDoor.integerBasics
