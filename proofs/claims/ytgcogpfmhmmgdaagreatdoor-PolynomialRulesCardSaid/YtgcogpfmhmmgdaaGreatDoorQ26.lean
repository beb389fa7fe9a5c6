/- What rational.Compare returns: -1, 0 or 1, by the values. Condition: the integers have at most 4*10^6 digits to the base 2^32. -/
import Derived.Test.YtgcogpfmhmmgdaaGreatDoorQ25

namespace Go.Proofs.YtgcogpfmhmmgdaaGreatDoor
open Go.RowKit
set_option linter.unusedSimpArgs false

theorem RIn.alloc {W : World} {p : Nat} {g1 g2 : Bool} {s1 s2 : ByteArray} (h : RIn W p g1 s1 g2 s2) (o : Obj) : RIn (W.alloc o) p g1 s1 g2 s2 := h.keep ((Below.refl _ _).alloc (Nat.le_refl _) _)
/-- Four cells that are there. -/
def Four (W : World) (q : Nat) : Prop := ∃ u1 u2 u3 u4, W.cell? ⟨q, 0, none⟩ = some u1 ∧ W.cell? ⟨q, 1, none⟩ = some u2 ∧ W.cell? ⟨q, 2, none⟩ = some u3 ∧ W.cell? ⟨q, 3, none⟩ = some u4
theorem Four.set {W : World} {q : Nat} (h : Four W q) (a : Addr) (ha : q ≠ a.block) (u : Value) : Four (W.setCell a u) q := by
  obtain ⟨u1, u2, u3, u4, h1, h2, h3, h4⟩ := h
  refine ⟨u1, u2, u3, u4, ?_, ?_, ?_, ?_⟩ <;> rw [World.cell?_setCell_far _ _ _ _ (by dsimp only; exact fun e => ha e.symm)] <;> assumption
theorem Four.keep {W W1 : World} {q : Nat} (h : Four W q) (hb : Below W.heap.size W W1) : Four W1 q := by
  obtain ⟨u1, u2, u3, u4, h1, h2, h3, h4⟩ := h
  exact ⟨u1, u2, u3, u4, cell_keep h1 hb, cell_keep h2 hb, cell_keep h3 hb, cell_keep h4 hb⟩
theorem Four.alloc {W : World} {q : Nat} (h : Four W q) (o : Obj) : Four (W.alloc o) q := h.keep ((Below.refl _ _).alloc (Nat.le_refl _) _)
theorem Four.drew {W : World} {q : Nat} (h : Four W q) : Four W.drew q := h
theorem Four.new {W : World} {q : Nat} {u1 u2 u3 u4 : Value} {t : TypeId} (h : q = W.heap.size) : Four (W.alloc (.cells #[u1, u2, u3, u4] t)) q := by
  subst h
  refine ⟨u1, u2, u3, u4, ?_, ?_, ?_, ?_⟩ <;> simp [go_sem]
theorem RIn.new {W : World} {q : Nat} {g1 g2 : Bool} {s1 s2 : ByteArray} {t : TypeId} (h : q = W.heap.size) : RIn (W.alloc (.cells #[.bool g1, .string s1, .bool g2, .string s2] t)) q g1 s1 g2 s2 := by
  subst h
  refine ⟨?_, ?_, ?_, ?_⟩ <;> simp [go_sem]
theorem RIn.made {W : World} {p : Nat} (h : Four W p) (g1 g2 : Bool) (s1 s2 : ByteArray) :
    RIn ((((W.setCell ⟨p, 0, none⟩ (.bool g1)).setCell ⟨p, 1, none⟩ (.string s1)).setCell ⟨p, 2, none⟩ (.bool g2)).setCell ⟨p, 3, none⟩ (.string s2)) p g1 s1 g2 s2 := by
  obtain ⟨u1, u2, u3, u4, h1, h2, h3, h4⟩ := h
  have n : ∀ i j : Nat, i ≠ j → (⟨p, i, none⟩ : Addr) ≠ ⟨p, j, none⟩ := fun i j hij e => hij (by injection e)
  exact ⟨set_other (set_other (set_other (set_same h1) (n 1 0 (by omega))) (n 2 0 (by omega))) (n 3 0 (by omega)),
    set_other (set_other (set_same (set_other h2 (n 0 1 (by omega)))) (n 2 1 (by omega))) (n 3 1 (by omega)),
    set_other (set_same (set_other (set_other h3 (n 0 2 (by omega))) (n 1 2 (by omega)))) (n 3 2 (by omega)),
    set_same (set_other (set_other (set_other h4 (n 0 3 (by omega))) (n 1 3 (by omega))) (n 2 3 (by omega)))⟩
theorem below_al {w w1 : World} (h : Below w.heap.size w w1) (o : Obj) : Below w.heap.size w (w1.alloc o) := h.alloc h.size _
theorem below_st {w w1 : World} (h : Below w.heap.size w w1) (b i : Nat) (hb : w.heap.size ≤ b) (u : Value) : Below w.heap.size w (w1.setCell ⟨b, i, none⟩ u) := h.setCell hb _
/-- Two rational numbers in boxes. -/
def RIn2 (W : World) (p q : Nat) (g1 : Bool) (s1 : ByteArray) (g2 : Bool) (s2 : ByteArray) (g3 : Bool) (s3 : ByteArray) (g4 : Bool) (s4 : ByteArray) : Prop :=
  W.cell? ⟨p, 0, none⟩ = some (.bool g1) ∧ W.cell? ⟨p, 1, none⟩ = some (.string s1) ∧ W.cell? ⟨p, 2, none⟩ = some (.bool g2) ∧ W.cell? ⟨p, 3, none⟩ = some (.string s2) ∧
  W.cell? ⟨q, 0, none⟩ = some (.bool g3) ∧ W.cell? ⟨q, 1, none⟩ = some (.string s3) ∧ W.cell? ⟨q, 2, none⟩ = some (.bool g4) ∧ W.cell? ⟨q, 3, none⟩ = some (.string s4)
theorem RIn2.mk {W : World} {p q : Nat} {g1 g2 g3 g4 : Bool} {s1 s2 s3 s4 : ByteArray} (h : RIn W p g1 s1 g2 s2) (k : RIn W q g3 s3 g4 s4) : RIn2 W p q g1 s1 g2 s2 g3 s3 g4 s4 := ⟨h.1, h.2.1, h.2.2.1, h.2.2.2, k⟩
theorem RIn2.fst {W : World} {p q : Nat} {g1 g2 g3 g4 : Bool} {s1 s2 s3 s4 : ByteArray} (h : RIn2 W p q g1 s1 g2 s2 g3 s3 g4 s4) : RIn W p g1 s1 g2 s2 := ⟨h.1, h.2.1, h.2.2.1, h.2.2.2.1⟩
theorem RIn2.snd {W : World} {p q : Nat} {g1 g2 g3 g4 : Bool} {s1 s2 s3 s4 : ByteArray} (h : RIn2 W p q g1 s1 g2 s2 g3 s3 g4 s4) : RIn W q g3 s3 g4 s4 := h.2.2.2.2
theorem RIn2.keep {W W1 : World} {p q : Nat} {g1 g2 g3 g4 : Bool} {s1 s2 s3 s4 : ByteArray} (h : RIn2 W p q g1 s1 g2 s2 g3 s3 g4 s4) (hb : Below W.heap.size W W1) : RIn2 W1 p q g1 s1 g2 s2 g3 s3 g4 s4 := .mk (h.fst.keep hb) (h.snd.keep hb)
theorem RIn2.alloc {W : World} {p q : Nat} {g1 g2 g3 g4 : Bool} {s1 s2 s3 s4 : ByteArray} (h : RIn2 W p q g1 s1 g2 s2 g3 s3 g4 s4) (o : Obj) : RIn2 (W.alloc o) p q g1 s1 g2 s2 g3 s3 g4 s4 := h.keep ((Below.refl _ _).alloc (Nat.le_refl _) _)
theorem RIn2.drew {W : World} {p q : Nat} {g1 g2 g3 g4 : Bool} {s1 s2 s3 s4 : ByteArray} (h : RIn2 W p q g1 s1 g2 s2 g3 s3 g4 s4) : RIn2 W.drew p q g1 s1 g2 s2 g3 s3 g4 s4 := h
theorem RIn2.set {W : World} {p q : Nat} {g1 g2 g3 g4 : Bool} {s1 s2 s3 s4 : ByteArray} (h : RIn2 W p q g1 s1 g2 s2 g3 s3 g4 s4) (a : Addr) (u : Value) (h1 : p ≠ a.block) (h2 : q ≠ a.block) : RIn2 (W.setCell a u) p q g1 s1 g2 s2 g3 s3 g4 s4 := .mk (h.fst.set a h1 u) (h.snd.set a h2 u)

end Go.Proofs.YtgcogpfmhmmgdaaGreatDoor
