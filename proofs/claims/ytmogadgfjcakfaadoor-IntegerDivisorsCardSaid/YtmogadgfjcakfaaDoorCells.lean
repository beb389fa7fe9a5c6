/- Integers in cells, a list of them. No condition. -/
import Derived.Test.YtmogadgfjcakfaaDoorLaw3
namespace Go.Proofs.YtmogadgfjcakfaaDoor
open Go.RowKit

def Cel (W : World) (x : Nat × Bool × ByteArray) : Prop := W.cell? ⟨x.1, 0, none⟩ = some (.bool x.2.1) ∧ W.cell? ⟨x.1, 1, none⟩ = some (.string x.2.2)
/-- These integers lie in these blocks. -/
def Cells (L : List (Nat × Bool × ByteArray)) (W : World) : Prop := ∀ x ∈ L, Cel W x
theorem Cells.keep {L : List (Nat × Bool × ByteArray)} {W W1 : World} (hb : Below W.heap.size W W1) (h : Cells L W) : Cells L W1 := fun x hx => ⟨cell_keep (h x hx).1 hb, cell_keep (h x hx).2 hb⟩
theorem Cells.alloc {L : List (Nat × Bool × ByteArray)} {W : World} (h : Cells L W) (o : Obj) : Cells L (W.alloc o) := h.keep ((Below.refl _ _).alloc (Nat.le_refl _) _)
theorem Cells.drew {L : List (Nat × Bool × ByteArray)} {W : World} (h : Cells L W) : Cells L W.drew := h
theorem Cells.set {L : List (Nat × Bool × ByteArray)} {W : World} {a : Addr} (h : Cells L W) (ha : ∀ x ∈ L, x.1 ≠ a.block) (u : Value) : Cells L (W.setCell a u) := fun x hx =>
  ⟨by rw [World.cell?_setCell_far _ _ _ _ (by dsimp only; exact fun e => ha x hx e.symm)]; exact (h x hx).1, by rw [World.cell?_setCell_far _ _ _ _ (by dsimp only; exact fun e => ha x hx e.symm)]; exact (h x hx).2⟩
theorem Cells.nil (W : World) : Cells [] W := fun x hx => by cases hx
theorem Cells.cons {L : List (Nat × Bool × ByteArray)} {W : World} {p : Nat} {g : Bool} {s : ByteArray} (h1 : W.cell? ⟨p, 0, none⟩ = some (.bool g)) (h2 : W.cell? ⟨p, 1, none⟩ = some (.string s)) (h : Cells L W) : Cells ((p, g, s) :: L) W := fun x hx => by
  rcases List.mem_cons.1 hx with rfl | hx
  · exact ⟨h1, h2⟩
  · exact h x hx
theorem Cells.var {L : List (Nat × Bool × ByteArray)} {W : World} {p : Nat} {g : Bool} {s : ByteArray} (h1 : Var W p g s) (h : Cells L W) : Cells ((p, g, s) :: L) W := h.cons h1.1 h1.2.1
theorem Cells.sub {L M : List (Nat × Bool × ByteArray)} {W : World} (h : Cells L W) (hs : ∀ x ∈ M, x ∈ L) : Cells M W := fun x hx => h x (hs x hx)
theorem Cells.lt {L : List (Nat × Bool × ByteArray)} {W : World} (h : Cells L W) {x : Nat × Bool × ByteArray} (hx : x ∈ L) : x.1 < W.heap.size := World.block_lt_of_cell? W ⟨x.1, 0, none⟩ (h x hx).1
theorem flat2 {W : World} {p1 p2 : Nat} {g1 g2 : Bool} {s1 s2 : ByteArray} (h : Cells [(p1, g1, s1), (p2, g2, s2)] W) :
    W.cell? ⟨p1, 0, none⟩ = some (.bool g1) ∧ W.cell? ⟨p1, 1, none⟩ = some (.string s1) ∧ W.cell? ⟨p2, 0, none⟩ = some (.bool g2) ∧ W.cell? ⟨p2, 1, none⟩ = some (.string s2) :=
  ⟨(h (p1, g1, s1) (by simp)).1, (h (p1, g1, s1) (by simp)).2, (h (p2, g2, s2) (by simp)).1, (h (p2, g2, s2) (by simp)).2⟩
theorem flat3 {W : World} {p1 p2 p3 : Nat} {g1 g2 g3 : Bool} {s1 s2 s3 : ByteArray} (h : Cells [(p1, g1, s1), (p2, g2, s2), (p3, g3, s3)] W) :
    W.cell? ⟨p1, 0, none⟩ = some (.bool g1) ∧ W.cell? ⟨p1, 1, none⟩ = some (.string s1) ∧ W.cell? ⟨p2, 0, none⟩ = some (.bool g2) ∧ W.cell? ⟨p2, 1, none⟩ = some (.string s2) ∧ W.cell? ⟨p3, 0, none⟩ = some (.bool g3) ∧ W.cell? ⟨p3, 1, none⟩ = some (.string s3) :=
  ⟨(h (p1, g1, s1) (by simp)).1, (h (p1, g1, s1) (by simp)).2, flat2 (h.sub (by simp))⟩
theorem flat4 {W : World} {p1 p2 p3 p4 : Nat} {g1 g2 g3 g4 : Bool} {s1 s2 s3 s4 : ByteArray} (h : Cells [(p1, g1, s1), (p2, g2, s2), (p3, g3, s3), (p4, g4, s4)] W) :
    W.cell? ⟨p1, 0, none⟩ = some (.bool g1) ∧ W.cell? ⟨p1, 1, none⟩ = some (.string s1) ∧ W.cell? ⟨p2, 0, none⟩ = some (.bool g2) ∧ W.cell? ⟨p2, 1, none⟩ = some (.string s2) ∧ W.cell? ⟨p3, 0, none⟩ = some (.bool g3) ∧ W.cell? ⟨p3, 1, none⟩ = some (.string s3) ∧
      W.cell? ⟨p4, 0, none⟩ = some (.bool g4) ∧ W.cell? ⟨p4, 1, none⟩ = some (.string s4) :=
  ⟨(h (p1, g1, s1) (by simp)).1, (h (p1, g1, s1) (by simp)).2, flat3 (h.sub (by simp))⟩
theorem flat5 {W : World} {p1 p2 p3 p4 p5 : Nat} {g1 g2 g3 g4 g5 : Bool} {s1 s2 s3 s4 s5 : ByteArray} (h : Cells [(p1, g1, s1), (p2, g2, s2), (p3, g3, s3), (p4, g4, s4), (p5, g5, s5)] W) :
    W.cell? ⟨p1, 0, none⟩ = some (.bool g1) ∧ W.cell? ⟨p1, 1, none⟩ = some (.string s1) ∧ W.cell? ⟨p2, 0, none⟩ = some (.bool g2) ∧ W.cell? ⟨p2, 1, none⟩ = some (.string s2) ∧ W.cell? ⟨p3, 0, none⟩ = some (.bool g3) ∧ W.cell? ⟨p3, 1, none⟩ = some (.string s3) ∧
      W.cell? ⟨p4, 0, none⟩ = some (.bool g4) ∧ W.cell? ⟨p4, 1, none⟩ = some (.string s4) ∧ W.cell? ⟨p5, 0, none⟩ = some (.bool g5) ∧ W.cell? ⟨p5, 1, none⟩ = some (.string s5) :=
  ⟨(h (p1, g1, s1) (by simp)).1, (h (p1, g1, s1) (by simp)).2, flat4 (h.sub (by simp))⟩
theorem flat6 {W : World} {p1 p2 p3 p4 p5 p6 : Nat} {g1 g2 g3 g4 g5 g6 : Bool} {s1 s2 s3 s4 s5 s6 : ByteArray} (h : Cells [(p1, g1, s1), (p2, g2, s2), (p3, g3, s3), (p4, g4, s4), (p5, g5, s5), (p6, g6, s6)] W) :
    W.cell? ⟨p1, 0, none⟩ = some (.bool g1) ∧ W.cell? ⟨p1, 1, none⟩ = some (.string s1) ∧ W.cell? ⟨p2, 0, none⟩ = some (.bool g2) ∧ W.cell? ⟨p2, 1, none⟩ = some (.string s2) ∧ W.cell? ⟨p3, 0, none⟩ = some (.bool g3) ∧ W.cell? ⟨p3, 1, none⟩ = some (.string s3) ∧
      W.cell? ⟨p4, 0, none⟩ = some (.bool g4) ∧ W.cell? ⟨p4, 1, none⟩ = some (.string s4) ∧ W.cell? ⟨p5, 0, none⟩ = some (.bool g5) ∧ W.cell? ⟨p5, 1, none⟩ = some (.string s5) ∧ W.cell? ⟨p6, 0, none⟩ = some (.bool g6) ∧ W.cell? ⟨p6, 1, none⟩ = some (.string s6) :=
  ⟨(h (p1, g1, s1) (by simp)).1, (h (p1, g1, s1) (by simp)).2, flat5 (h.sub (by simp))⟩
theorem flat7 {W : World} {p1 p2 p3 p4 p5 p6 p7 : Nat} {g1 g2 g3 g4 g5 g6 g7 : Bool} {s1 s2 s3 s4 s5 s6 s7 : ByteArray} (h : Cells [(p1, g1, s1), (p2, g2, s2), (p3, g3, s3), (p4, g4, s4), (p5, g5, s5), (p6, g6, s6), (p7, g7, s7)] W) :
    W.cell? ⟨p1, 0, none⟩ = some (.bool g1) ∧ W.cell? ⟨p1, 1, none⟩ = some (.string s1) ∧ W.cell? ⟨p2, 0, none⟩ = some (.bool g2) ∧ W.cell? ⟨p2, 1, none⟩ = some (.string s2) ∧ W.cell? ⟨p3, 0, none⟩ = some (.bool g3) ∧ W.cell? ⟨p3, 1, none⟩ = some (.string s3) ∧
      W.cell? ⟨p4, 0, none⟩ = some (.bool g4) ∧ W.cell? ⟨p4, 1, none⟩ = some (.string s4) ∧ W.cell? ⟨p5, 0, none⟩ = some (.bool g5) ∧ W.cell? ⟨p5, 1, none⟩ = some (.string s5) ∧ W.cell? ⟨p6, 0, none⟩ = some (.bool g6) ∧ W.cell? ⟨p6, 1, none⟩ = some (.string s6) ∧
      W.cell? ⟨p7, 0, none⟩ = some (.bool g7) ∧ W.cell? ⟨p7, 1, none⟩ = some (.string s7) :=
  ⟨(h (p1, g1, s1) (by simp)).1, (h (p1, g1, s1) (by simp)).2, flat6 (h.sub (by simp))⟩
/-- Whether one of two integers is great. -/
def twoS (sa sb : ByteArray) : Nat → ByteArray := fun i => if i = 0 then sa else sb
def twoG (na nb : Bool) : Nat → Bool := fun i => if i = 0 then na else nb
theorem great2 (sa sb : ByteArray) : greatB 2 (twoS sa sb) = (decide (60 < sa.size) || decide (60 < sb.size)) := by
  simp [greatB, twoS, List.range_succ]
end Go.Proofs.YtmogadgfjcakfaaDoor
