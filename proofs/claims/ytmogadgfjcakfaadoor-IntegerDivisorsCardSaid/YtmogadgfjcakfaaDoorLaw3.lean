/- Three integers in their boxes, and the order of integers. No condition. -/
import Derived.Test.YtmogadgfjcakfaaDoorLaw
import Derived.Outline
namespace Go.Proofs.YtmogadgfjcakfaaDoor
open Go.RowKit
/-- Three integers in their boxes. -/
def Six (na nb nc : Bool) (sa sb sc : ByteArray) (B : Nat) (W : World) : Prop := W.cell? ⟨B, 0, none⟩ = some (.bool na) ∧ W.cell? ⟨B, 1, none⟩ = some (.string sa) ∧ W.cell? ⟨B + 1, 0, none⟩ = some (.bool nb) ∧ W.cell? ⟨B + 1, 1, none⟩ = some (.string sb) ∧ W.cell? ⟨B + 1 + 1, 0, none⟩ = some (.bool nc) ∧ W.cell? ⟨B + 1 + 1, 1, none⟩ = some (.string sc)
theorem Six.keep {na nb nc : Bool} {sa sb sc : ByteArray} {B : Nat} {W W1 : World} (hb : Below W.heap.size W W1) (h : Six na nb nc sa sb sc B W) : Six na nb nc sa sb sc B W1 :=
  ⟨cell_keep h.1 hb, cell_keep h.2.1 hb, cell_keep h.2.2.1 hb, cell_keep h.2.2.2.1 hb, cell_keep h.2.2.2.2.1 hb, cell_keep h.2.2.2.2.2 hb⟩
theorem Six.alloc {na nb nc : Bool} {sa sb sc : ByteArray} {B : Nat} {W : World} (h : Six na nb nc sa sb sc B W) (o : Obj) : Six na nb nc sa sb sc B (W.alloc o) := h.keep ((Below.refl _ _).alloc (Nat.le_refl _) _)
theorem Six.drew {na nb nc : Bool} {sa sb sc : ByteArray} {B : Nat} {W : World} (h : Six na nb nc sa sb sc B W) : Six na nb nc sa sb sc B W.drew := h
theorem Six.set {na nb nc : Bool} {sa sb sc : ByteArray} {B : Nat} {W : World} {p : Addr} (h : Six na nb nc sa sb sc B W) (hp : B + 1 + 1 < p.block) (u : Value) : Six na nb nc sa sb sc B (W.setCell p u) := by
  refine ⟨?_, ?_, ?_, ?_, ?_, ?_⟩ <;> rw [World.cell?_setCell_far _ _ _ _ (by dsimp only; omega)]
  · exact h.1
  · exact h.2.1
  · exact h.2.2.1
  · exact h.2.2.2.1
  · exact h.2.2.2.2.1
  · exact h.2.2.2.2.2

theorem below4 (w : World) (o1 o2 o3 o4 : Obj) : Below w.heap.size w ((((w.alloc o1).alloc o2).alloc o3).alloc o4) := (below3 w o1 o2 o3).alloc (by simp only [World.size_alloc]; omega) _

/-- The three integers, and a fourth one. -/
def Eight (na nb nc : Bool) (sa sb sc : ByteArray) (B p : Nat) (g : Bool) (s : ByteArray) (W : World) : Prop := Six na nb nc sa sb sc B W ∧ (W.cell? ⟨p, 0, none⟩ = some (.bool g) ∧ W.cell? ⟨p, 1, none⟩ = some (.string s))
theorem Eight.keep {na nb nc : Bool} {sa sb sc : ByteArray} {B p : Nat} {g : Bool} {s : ByteArray} {W W1 : World} (hb : Below W.heap.size W W1) (h : Eight na nb nc sa sb sc B p g s W) : Eight na nb nc sa sb sc B p g s W1 := ⟨h.1.keep hb, cell_keep h.2.1 hb, cell_keep h.2.2 hb⟩
theorem Eight.flat {na nb nc : Bool} {sa sb sc : ByteArray} {B p : Nat} {g : Bool} {s : ByteArray} {W : World} (h : Eight na nb nc sa sb sc B p g s W) : W.cell? ⟨B, 0, none⟩ = some (.bool na) ∧ W.cell? ⟨B, 1, none⟩ = some (.string sa) ∧ W.cell? ⟨B + 1, 0, none⟩ = some (.bool nb) ∧ W.cell? ⟨B + 1, 1, none⟩ = some (.string sb) ∧ W.cell? ⟨B + 1 + 1, 0, none⟩ = some (.bool nc) ∧ W.cell? ⟨B + 1 + 1, 1, none⟩ = some (.string sc) ∧ W.cell? ⟨p, 0, none⟩ = some (.bool g) ∧ W.cell? ⟨p, 1, none⟩ = some (.string s) := by
  obtain ⟨⟨t1, t2, t3, t4, t5, t6⟩, ⟨t7, t8⟩⟩ := h
  exact ⟨t1, t2, t3, t4, t5, t6, t7, t8⟩
theorem Eight.alloc {na nb nc : Bool} {sa sb sc : ByteArray} {B p : Nat} {g : Bool} {s : ByteArray} {W : World} (h : Eight na nb nc sa sb sc B p g s W) (o : Obj) : Eight na nb nc sa sb sc B p g s (W.alloc o) := h.keep ((Below.refl _ _).alloc (Nat.le_refl _) _)
theorem Eight.set {na nb nc : Bool} {sa sb sc : ByteArray} {B p : Nat} {g : Bool} {s : ByteArray} {W : World} {a : Addr} (h : Eight na nb nc sa sb sc B p g s W) (ha : B + 1 + 1 < a.block) (hp : p < a.block) (u : Value) : Eight na nb nc sa sb sc B p g s (W.setCell a u) :=
  ⟨h.1.set ha u, by rw [World.cell?_setCell_far _ _ _ _ (by dsimp only; omega)]; exact h.2.1, by rw [World.cell?_setCell_far _ _ _ _ (by dsimp only; omega)]; exact h.2.2⟩
theorem one_set {W : World} {p : Nat} {v1 v2 u1 u2 : Value} (h1 : W.cell? ⟨p, 0, none⟩ = some u1) (h2 : W.cell? ⟨p, 1, none⟩ = some u2) :
    ((W.setCell ⟨p, 0, none⟩ v1).setCell ⟨p, 1, none⟩ v2).cell? ⟨p, 0, none⟩ = some v1 ∧ ((W.setCell ⟨p, 0, none⟩ v1).setCell ⟨p, 1, none⟩ v2).cell? ⟨p, 1, none⟩ = some v2 := by
  have n1 : (⟨p, 0, none⟩ : Addr) ≠ ⟨p, 1, none⟩ := by simp
  exact ⟨set_other (set_same h1) n1.symm, set_same (set_other h2 n1)⟩
/-- A variable of the type api.Int, and that it can be written. -/
def Var (W : World) (p : Nat) (g : Bool) (s : ByteArray) : Prop := W.cell? ⟨p, 0, none⟩ = some (.bool g) ∧ W.cell? ⟨p, 1, none⟩ = some (.string s) ∧ W.frozen? ⟨p, 0, none⟩ = false ∧ W.frozen? ⟨p, 1, none⟩ = false
theorem Var.keep {W W1 : World} {p : Nat} {g : Bool} {s : ByteArray} (hb : Below W.heap.size W W1) (h : Var W p g s) : Var W1 p g s :=
  ⟨cell_keep h.1 hb, cell_keep h.2.1 hb, frozen_keep h.1 h.2.2.1 hb, frozen_keep h.2.1 h.2.2.2 hb⟩
theorem Var.set {W : World} {p : Nat} {g g' : Bool} {s s' : ByteArray} (h : Var W p g s) : Var ((W.setCell ⟨p, 0, none⟩ (.bool g')).setCell ⟨p, 1, none⟩ (.string s')) p g' s' :=
  ⟨(one_set h.1 h.2.1).1, (one_set h.1 h.2.1).2, by simp only [World.frozen?_setCell]; exact h.2.2.1, by simp only [World.frozen?_setCell]; exact h.2.2.2⟩
theorem Var.far {W : World} {p : Nat} {g : Bool} {s : ByteArray} {a : Addr} (h : Var W p g s) (ha : a.block ≠ p) (u : Value) : Var (W.setCell a u) p g s :=
  ⟨by rw [World.cell?_setCell_far _ _ _ _ (by dsimp only; exact ha)]; exact h.1, by rw [World.cell?_setCell_far _ _ _ _ (by dsimp only; exact ha)]; exact h.2.1, by rw [World.frozen?_setCell]; exact h.2.2.1, by rw [World.frozen?_setCell]; exact h.2.2.2⟩
theorem Var.far2 {W : World} {p : Nat} {g : Bool} {s : ByteArray} {a b : Addr} {u v : Value} (h : Var W p g s) (ha : a.block ≠ p) (hb : b.block ≠ p) : Var ((W.setCell a u).setCell b v) p g s := (h.far ha u).far hb v
theorem Var.new (W : World) (t : TypeId) (g : Bool) (s : ByteArray) : Var (W.alloc (.cells #[.bool g, .string s] t)) W.heap.size g s := by
  refine ⟨?_, ?_, ?_, ?_⟩ <;> simp [go_sem]
/-- Two such variables. -/
def TwoVars (W : World) (p q : Nat) (g1 : Bool) (s1 : ByteArray) (g2 : Bool) (s2 : ByteArray) : Prop := Var W p g1 s1 ∧ Var W q g2 s2
def TwoC (W : World) (p : Nat) (g : Bool) (s : ByteArray) : Prop := W.cell? ⟨p, 0, none⟩ = some (.bool g) ∧ W.cell? ⟨p, 1, none⟩ = some (.string s)
theorem TwoC.keep {W W1 : World} {p : Nat} {g : Bool} {s : ByteArray} (hb : Below W.heap.size W W1) (h : TwoC W p g s) : TwoC W1 p g s := ⟨cell_keep h.1 hb, cell_keep h.2 hb⟩
theorem TwoC.alloc {W : World} {p : Nat} {g : Bool} {s : ByteArray} (h : TwoC W p g s) (o : Obj) : TwoC (W.alloc o) p g s := h.keep ((Below.refl _ _).alloc (Nat.le_refl _) _)
theorem TwoC.drew {W : World} {p : Nat} {g : Bool} {s : ByteArray} (h : TwoC W p g s) : TwoC W.drew p g s := h
theorem TwoC.set {W : World} {p : Nat} {g : Bool} {s : ByteArray} {a : Addr} (h : TwoC W p g s) (ha : p < a.block) (u : Value) : TwoC (W.setCell a u) p g s :=
  ⟨by rw [World.cell?_setCell_far _ _ _ _ (by dsimp only; omega)]; exact h.1, by rw [World.cell?_setCell_far _ _ _ _ (by dsimp only; omega)]; exact h.2⟩
theorem vars_set {W : World} {p q : Nat} {g1 g2 h1 h2 : Bool} {s1 s2 r1 r2 : ByteArray} (hne : p ≠ q) (hp : Var W p h1 r1) (hq : Var W q h2 r2) :
    TwoVars ((((W.setCell ⟨p, 0, none⟩ (.bool g1)).setCell ⟨p, 1, none⟩ (.string s1)).setCell ⟨q, 0, none⟩ (.bool g2)).setCell ⟨q, 1, none⟩ (.string s2)) p q g1 s1 g2 s2 :=
  ⟨hp.set.far2 (by dsimp only; omega) (by dsimp only; omega), (hq.far2 (by dsimp only; omega) (by dsimp only; omega)).set⟩
theorem cmpZ_range (a b : Int) : -1 ≤ cmpZ a b ∧ cmpZ a b ≤ 1 := by unfold cmpZ; split <;> (try split) <;> omega
theorem cmpZ_flip (a b : Int) : cmpZ b a = - cmpZ a b := by unfold cmpZ; split <;> split <;> (try split) <;> omega
theorem cmpZ_congr {a b c d : Int} (h1 : a < b ↔ c < d) (h2 : b < a ↔ d < c) : cmpZ a b = cmpZ c d := by
  unfold cmpZ
  simp only [h1, h2]
theorem cmpZ_le {a b : Int} : cmpZ a b ≤ 0 ↔ a ≤ b := by unfold cmpZ; split <;> (try split) <;> omega
theorem cmpZ_neg_iff {a b : Int} : cmpZ a b < 0 ↔ a < b := by unfold cmpZ; split <;> (try split) <;> omega

end Go.Proofs.YtmogadgfjcakfaaDoor
