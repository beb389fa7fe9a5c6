/- What integers are as values of the program, by their value in Lean. No condition. Sizes of integers. No condition. Slices of integers in memory: rows of two cells an integer, those of one's own and those that came in. No condition. -/
import Derived.Test.YtgcogpfmhmmgdaaGreatDoorQ05
import Derived.Test.YtgcogpfmhmmgdaaGreatDoorQ06
import Derived.Test.YtgcogpfmhmmgdaaGreatDoorQ07
import Derived.Deep.RegionHeld3
import Derived.Test.YtgcogpfmhmmgdaaGreatDoorQ01
import Derived.Laws.MakeOwn
import Derived.Deep.OwnRows
import Derived.OwnWalk
import Derived.Deep.DeepCutAuto

namespace Go.Proofs.YtgcogpfmhmmgdaaGreatDoor
open Go.RowKit

/-- The value of an api.Int. -/
def zv (ng : Bool) (s : ByteArray) : Int := if ng then -(vB s.data.toList : Int) else (vB s.data.toList : Int)
/-- The sign and the bytes of the canonical api.Int with the value z. -/
def sg (z : Int) : Bool := decide (z < 0)
def mg (z : Int) : ByteArray := ⟨(bytesOf z.natAbs).toArray⟩
/-- v is an api.Int with the value z, of at most k digits to the base 2^32. -/
def IsInt (v : Value) (z : Int) (k : Nat) : Prop := ∃ ng s, v = .agg #[.bool ng, .string s] ∧ zv ng s = z ∧ s.size ≤ 1000000000 ∧ z.natAbs < 4294967296 ^ k ∧ k ≤ 10000000
def IntOut (w : World) (z : Int) (e : Ending) (w' : World) : Prop := e = .returned (.agg #[.bool (sg z), .string (mg z)]) ∧ Below w.heap.size w w'

theorem vB_mg (z : Int) : vB (mg z).data.toList = z.natAbs := vB_bytesOf _
theorem zv_mg (z : Int) : zv (sg z) (mg z) = z := by
  unfold zv sg
  rw [vB_mg]
  by_cases h : z < 0
  · simp [h]; omega
  · simp [h]; omega
theorem bytesOf_len {n k : Nat} (h : n < 256 ^ k) : (bytesOf n).length ≤ k := by
  rcases Nat.lt_or_ge k (bytesOf n).length with h1 | h1
  · exfalso
    have hh : (bytesOf n).head? ≠ some 0 := by
      have := head_trim (bytesOf n)
      rwa [trim_bytes, vB_bytesOf] at this
    have h2 := vB_len hh (by omega)
    rw [vB_bytesOf] at h2
    have h3 : (256 : Nat) ^ k ≤ 256 ^ ((bytesOf n).length - 1) := Nat.pow_le_pow_right (by omega) (by omega)
    omega
  · exact h1
theorem b256 (k : Nat) : (4294967296 : Nat) ^ k = 256 ^ (4 * k) := by rw [show (4294967296 : Nat) = 256 ^ 4 by rfl, ← Nat.pow_mul]
theorem mg_size {z : Int} {k : Nat} (h : z.natAbs < 4294967296 ^ k) : (mg z).size ≤ 4 * k := by
  rw [b256] at h
  exact bytesOf_len h
theorem isInt_mg {z : Int} {k : Nat} (h : z.natAbs < 4294967296 ^ k) (hk : k ≤ 10000000) : IsInt (.agg #[.bool (sg z), .string (mg z)]) z k :=
  ⟨_, _, rfl, zv_mg z, by have := mg_size h; omega, h, hk⟩
theorem ivN_eq (ng : Bool) (N : Nat) (z : Int) (hz : z = if ng then -(N : Int) else N) : ivN ng N = .agg #[.bool (sg z), .string (mg z)] := by
  subst hz
  have hn : (if ng then -(N : Int) else (N : Int)).natAbs = N := by cases ng <;> simp
  unfold ivN iv mg
  rw [hn]
  have hs : (ng && !(bytesOf N).isEmpty) = sg (if ng then -(N : Int) else (N : Int)) := by
    unfold sg
    by_cases h0 : N = 0
    · subst h0; rw [bytesOf_zero]; cases ng <;> simp
    · have : bytesOf N ≠ [] := fun e => h0 (bytesOf_nil.1 e)
      have h2 : (bytesOf N).isEmpty = false := by simpa using this
      rw [h2]
      cases ng <;> simp <;> omega
  rw [hs]
/-- The length of a number by its size. -/
theorem IsNat.len {w : World} {A : Option Addr} {n c N k : Nat} (h : IsNat w A n c N) (hN : N < 4294967296 ^ k) : n ≤ k := by
  obtain ⟨_, _, f, _, _, tf, hv⟩ := h
  rcases Nat.lt_or_ge k n with h1 | h1
  · exfalso
    have h2 := val_ge (f := f) (n := n) (by omega) (tf (by omega))
    have h3 : 4294967296 ^ k ≤ 4294967296 ^ (n - 1) := Nat.pow_le_pow_right (by omega) (by omega)
    omega
  · exact h1
theorem cell_keep {Wp W1 : World} {p : Addr} {v : Value} (h : Wp.cell? p = some v) (hb : Below Wp.heap.size Wp W1) : W1.cell? p = some v := (hb.cell (World.block_lt_of_cell? _ _ h)).trans h
theorem keep4 {Wp W1 : World} {p1 p2 p3 p4 : Addr} {v1 v2 v3 v4 : Value} (hb : Below Wp.heap.size Wp W1)
    (h : Wp.cell? p1 = some v1 ∧ Wp.cell? p2 = some v2 ∧ Wp.cell? p3 = some v3 ∧ Wp.cell? p4 = some v4) :
    W1.cell? p1 = some v1 ∧ W1.cell? p2 = some v2 ∧ W1.cell? p3 = some v3 ∧ W1.cell? p4 = some v4 :=
  ⟨cell_keep h.1 hb, cell_keep h.2.1 hb, cell_keep h.2.2.1 hb, cell_keep h.2.2.2 hb⟩
/-- A struct of the type api.Int that is new. -/
def ResCell (w : World) (b : Nat) : Prop := w.cell? ⟨b, 0, none⟩ = some (.bool false) ∧ w.cell? ⟨b, 1, none⟩ = some (.string ⟨#[]⟩) ∧ w.frozen? ⟨b, 0, none⟩ = false ∧ w.frozen? ⟨b, 1, none⟩ = false
theorem frozen_keep {Wp W1 : World} {p : Addr} {v : Value} {b : Bool} (h : Wp.cell? p = some v) (hf : Wp.frozen? p = b) (hb : Below Wp.heap.size Wp W1) : W1.frozen? p = b := (hb.frozen (World.block_lt_of_cell? _ _ h)).trans hf
theorem ResCell.keep {w w' : World} {b : Nat} (h : ResCell w b) (hb : Below w.heap.size w w') : ResCell w' b :=
  ⟨cell_keep h.1 hb, cell_keep h.2.1 hb, frozen_keep h.1 h.2.2.1 hb, frozen_keep h.2.1 h.2.2.2 hb⟩
theorem ResCell.new (w : World) (t : TypeId) : ResCell (w.alloc (.cells #[.bool false, .string ⟨#[]⟩] t)) w.heap.size := by
  refine ⟨?_, ?_, ?_, ?_⟩ <;> simp [go_sem]
theorem ResCell.drew {w : World} {b : Nat} (h : ResCell w b) : ResCell w.drew b := h
theorem below1 (w : World) (o1 : Obj) : Below w.heap.size w (w.alloc o1) := (Below.refl _ w).alloc (Nat.le_refl _) _
theorem below2 (w : World) (o1 o2 : Obj) : Below w.heap.size w ((w.alloc o1).alloc o2) := (below1 w o1).alloc (by rw [World.size_alloc]; omega) _
theorem below3 (w : World) (o1 o2 o3 : Obj) : Below w.heap.size w (((w.alloc o1).alloc o2).alloc o3) := (below2 w o1 o2).alloc (by rw [World.size_alloc, World.size_alloc]; omega) _
/-- A call more. -/
theorem below_more {B : Nat} {w w1 w2 : World} (h : Below B w w1) (hB : B ≤ w.heap.size) (k : Below w1.heap.size w1 w2) : Below B w w2 := h.trans (k.mono (by have := h.size; omega))
theorem below_more2 {B : Nat} {w w1 w2 : World} {p q : Addr} {u v : Value} (h : Below B w w1) (hB : B ≤ w.heap.size) (k : Below w1.heap.size w1 w2) (hp : B ≤ p.block) (hq : B ≤ q.block) : Below B w ((w2.setCell p u).setCell q v) :=
  ((below_more h hB k).setCell hp _).setCell hq _
theorem sum_bound {a b k1 k2 : Nat} (h1 : a < 4294967296 ^ k1) (h2 : b < 4294967296 ^ k2) : a + b < 4294967296 ^ (k1 + k2 + 1) := by
  have e1 : (4294967296 : Nat) ^ k1 ≤ 4294967296 ^ (k1 + k2) := Nat.pow_le_pow_right (by omega) (by omega)
  have e2 : (4294967296 : Nat) ^ k2 ≤ 4294967296 ^ (k1 + k2) := Nat.pow_le_pow_right (by omega) (by omega)
  rw [Nat.pow_succ]
  generalize (4294967296 : Nat) ^ (k1 + k2) = P at *
  omega
theorem prod_bound {a b k1 k2 : Nat} (h1 : a < 4294967296 ^ k1) (h2 : b < 4294967296 ^ k2) : a * b < 4294967296 ^ (k1 + k2) := by
  rw [Nat.pow_add]
  exact Nat.mul_lt_mul'' h1 h2
theorem zv_same (g : Bool) (sa sb : ByteArray) : zv g sa + zv g sb = if g then -((vB sa.data.toList + vB sb.data.toList : Nat) : Int) else ((vB sa.data.toList + vB sb.data.toList : Nat) : Int) := by
  unfold zv; cases g <;> simp; omega
theorem zv_lt (g : Bool) (sa sb : ByteArray) (h : vB sa.data.toList < vB sb.data.toList) : zv (!g) sa + zv g sb = if g then -((vB sb.data.toList - vB sa.data.toList : Nat) : Int) else ((vB sb.data.toList - vB sa.data.toList : Nat) : Int) := by
  unfold zv; cases g <;> simp <;> omega
theorem zv_ge (g : Bool) (sa sb : ByteArray) (h : ¬ vB sa.data.toList < vB sb.data.toList) : zv g sa + zv (!g) sb = if g then -((vB sa.data.toList - vB sb.data.toList : Nat) : Int) else ((vB sa.data.toList - vB sb.data.toList : Nat) : Int) := by
  unfold zv; cases g <;> simp <;> omega
theorem stz_eq (s : ByteArray) : stz s = bytesOf (vB s.data.toList) := trim_bytes _
theorem can_any (ng : Bool) (s : ByteArray) (w : World) : Calls Tryz.prog 70 #[.agg #[.bool ng, .string s]] w (IntOut w (zv ng s)) :=
  (canonical_any ng s w).mono fun e w' ⟨he, hb⟩ => ⟨by rw [he, stz_eq]; exact congrArg Ending.returned (ivN_eq ng _ _ rfl), hb⟩
theorem zv_neg (ng : Bool) (s : ByteArray) : zv (!ng) s = - zv ng s := by unfold zv; cases ng <;> simp
theorem zv_mul (na nb : Bool) (sa sb : ByteArray) : zv na sa * zv nb sb = if (na != nb) then -((vB sa.data.toList * vB sb.data.toList : Nat) : Int) else ((vB sa.data.toList * vB sb.data.toList : Nat) : Int) := by
  unfold zv; cases na <;> cases nb <;> simp [Int.mul_neg, Int.neg_mul]
theorem cell_alloc_keep {W : World} {p : Addr} {v : Value} (h : W.cell? p = some v) (o : Obj) : (W.alloc o).cell? p = some v := (World.cell?_alloc_lt W o p (World.block_lt_of_cell? _ _ h)).trans h
theorem keep4a {W : World} {o : Obj} {p1 p2 p3 p4 : Addr} {v1 v2 v3 v4 : Value}
    (h : W.cell? p1 = some v1 ∧ W.cell? p2 = some v2 ∧ W.cell? p3 = some v3 ∧ W.cell? p4 = some v4) :
    (W.alloc o).cell? p1 = some v1 ∧ (W.alloc o).cell? p2 = some v2 ∧ (W.alloc o).cell? p3 = some v3 ∧ (W.alloc o).cell? p4 = some v4 :=
  ⟨cell_alloc_keep h.1 o, cell_alloc_keep h.2.1 o, cell_alloc_keep h.2.2.1 o, cell_alloc_keep h.2.2.2 o⟩
theorem keep4aa {W : World} {o o2 : Obj} {p1 p2 p3 p4 : Addr} {v1 v2 v3 v4 : Value}
    (h : W.cell? p1 = some v1 ∧ W.cell? p2 = some v2 ∧ W.cell? p3 = some v3 ∧ W.cell? p4 = some v4) :
    ((W.alloc o).alloc o2).cell? p1 = some v1 ∧ ((W.alloc o).alloc o2).cell? p2 = some v2 ∧ ((W.alloc o).alloc o2).cell? p3 = some v3 ∧ ((W.alloc o).alloc o2).cell? p4 = some v4 := keep4a (keep4a h)
theorem bcell {W w1 : World} (hb : Below W.heap.size W w1) : (∀ b o, b < W.heap.size → w1.cell? ⟨b, o, none⟩ = W.cell? ⟨b, o, none⟩) ∧ (∀ b o, b < W.heap.size → w1.frozen? ⟨b, o, none⟩ = W.frozen? ⟨b, o, none⟩) :=
  ⟨fun b o h => hb.cell (p := ⟨b, o, none⟩) h, fun b o h => hb.frozen (p := ⟨b, o, none⟩) h⟩
abbrev Boxes2 (W : World) (b : Nat) (na nb : Bool) (sa sb : ByteArray) : Prop :=
  W.cell? ⟨b, 0, none⟩ = some (.bool na) ∧ W.cell? ⟨b, 1, none⟩ = some (.string sa) ∧ W.cell? ⟨b + 1, 0, none⟩ = some (.bool nb) ∧ W.cell? ⟨b + 1, 1, none⟩ = some (.string sb)
theorem boxes2 (w : World) (t : TypeId) (na nb : Bool) (sa sb : ByteArray) :
    (((w.alloc (.cells #[.bool na, .string sa] t)).alloc (.cells #[.bool nb, .string sb] t))).cell? ⟨w.heap.size, 0, none⟩ = some (.bool na) ∧
    (((w.alloc (.cells #[.bool na, .string sa] t)).alloc (.cells #[.bool nb, .string sb] t))).cell? ⟨w.heap.size, 1, none⟩ = some (.string sa) ∧
    (((w.alloc (.cells #[.bool na, .string sa] t)).alloc (.cells #[.bool nb, .string sb] t))).cell? ⟨w.heap.size + 1, 0, none⟩ = some (.bool nb) ∧
    (((w.alloc (.cells #[.bool na, .string sa] t)).alloc (.cells #[.bool nb, .string sb] t))).cell? ⟨w.heap.size + 1, 1, none⟩ = some (.string sb) := by
  refine ⟨?_, ?_, ?_, ?_⟩ <;> simp [go_sem]
theorem boxes_alloc {W : World} {o : Obj} {b : Nat} {na nb : Bool} {sa sb : ByteArray} (h : Boxes2 W b na nb sa sb) : Boxes2 (W.alloc o) b na nb sa sb := keep4a h
theorem boxes_drew {W : World} {b : Nat} {na nb : Bool} {sa sb : ByteArray} (h : Boxes2 W b na nb sa sb) : Boxes2 W.drew b na nb sa sb := h
theorem boxes_set {W : World} {p : Addr} {u : Value} {b : Nat} {na nb : Bool} {sa sb : ByteArray} (h : Boxes2 W b na nb sa sb) (h1 : p.block ≠ b) (h2 : p.block ≠ b + 1) : Boxes2 (W.setCell p u) b na nb sa sb := by
  refine ⟨?_, ?_, ?_, ?_⟩
  · rw [World.cell?_setCell_far _ _ _ _ (by exact h1)]; exact h.1
  · rw [World.cell?_setCell_far _ _ _ _ (by exact h1)]; exact h.2.1
  · rw [World.cell?_setCell_far _ _ _ _ (by exact h2)]; exact h.2.2.1
  · rw [World.cell?_setCell_far _ _ _ _ (by exact h2)]; exact h.2.2.2
theorem natAbs_zv (ng : Bool) (s : ByteArray) : (zv ng s).natAbs = vB s.data.toList := by unfold zv; cases ng <;> simp
end Go.Proofs.YtgcogpfmhmmgdaaGreatDoor

namespace Go.Proofs.YtgcogpfmhmmgdaaGreatDoor
open Go.RowKit
set_option linter.unusedSimpArgs false

theorem IsInt.wider {v : Value} {z : Int} {k k' : Nat} (h : IsInt v z k) (hk : k ≤ k') (hk' : k' ≤ 10000000) : IsInt v z k' := by
  obtain ⟨g, s, h1, h2, h3, h4, _⟩ := h
  exact ⟨g, s, h1, h2, h3, Nat.lt_of_lt_of_le h4 (Nat.pow_le_pow_right (by omega) hk), hk'⟩
theorem IsInt.le {v : Value} {z : Int} {k : Nat} (h : IsInt v z k) : k ≤ 10000000 := by
  obtain ⟨_, _, _, _, _, _, h5⟩ := h
  exact h5
theorem IsInt.bd {v : Value} {z : Int} {k : Nat} (h : IsInt v z k) : z.natAbs < 4294967296 ^ k := by
  obtain ⟨_, _, _, _, _, h4, _⟩ := h
  exact h4
theorem one_int : IsInt (.agg #[.bool (sg 1), .string (mg 1)]) 1 1 := isInt_mg (by decide) (by omega)
end Go.Proofs.YtgcogpfmhmmgdaaGreatDoor

namespace Go.Proofs.YtgcogpfmhmmgdaaGreatDoor
open Go.RowKit
set_option linter.unusedSimpArgs false
set_option linter.unusedVariables false

/-- Two cells an integer. -/
def pcells (g : Nat → Bool) (s : Nat → ByteArray) (j : Nat) : Value := if j % 2 = 0 then .bool (g (j / 2)) else .string (s (j / 2))
theorem pcells0 (g : Nat → Bool) (s : Nat → ByteArray) (i : Nat) : pcells g s (i * 2) = .bool (g i) := by
  unfold pcells
  rw [if_pos (by omega), show i * 2 / 2 = i by omega]
theorem pcells1 (g : Nat → Bool) (s : Nat → ByteArray) (i : Nat) : pcells g s (i * 2 + 1) = .string (s i) := by
  unfold pcells
  rw [if_neg (by omega), show (i * 2 + 1) / 2 = i by omega]
/-- A row of one's own. -/
def PRow (W : World) (b n : Nat) (g : Nat → Bool) (s : Nat → ByteArray) : Prop := W.rowIs b 27 (n * 2) (pcells g s)
def upd2 {α : Type} (f : Nat → α) (i : Nat) (x : α) : Nat → α := fun j => if j = i then x else f j
section
variable {W W1 : World} {b n : Nat} {g : Nat → Bool} {s : Nat → ByteArray}
theorem PRow.lt (h : PRow W b n g s) : b < W.heap.size := World.rowIs.lt h
theorem PRow.keep (h : PRow W b n g s) (hb : Below W.heap.size W W1) : PRow W1 b n g s := World.rowIs.of_block h (hb.block b h.lt)
theorem PRow.cell (h : PRow W b n g s) {i : Nat} (hi : i < n) : W.cell? ⟨b, i * 2, none⟩ = some (.bool (g i)) ∧ W.cell? ⟨b, i * 2 + 1, none⟩ = some (.string (s i)) ∧ W.frozen? ⟨b, i * 2, none⟩ = false ∧ W.frozen? ⟨b, i * 2 + 1, none⟩ = false :=
  ⟨by rw [World.rowIs.cell h (i := i * 2) (by omega), pcells0], by rw [World.rowIs.cell h (i := i * 2 + 1) (by omega), pcells1], World.rowIs.frozen h _, World.rowIs.frozen h _⟩
theorem PRow.congr {g' : Nat → Bool} {s' : Nat → ByteArray} (h : PRow W b n g s) (e : ∀ i, i < n → g i = g' i ∧ s i = s' i) : PRow W b n g' s' :=
  World.rowIs.congr h fun j hj => by
    unfold pcells
    split
    · rw [(e _ (by omega)).1]
    · rw [(e _ (by omega)).2]
theorem PRow.set (h : PRow W b n g s) (i : Nat) (g' : Bool) (s' : ByteArray) : PRow ((W.setCell ⟨b, i * 2, none⟩ (.bool g')).setCell ⟨b, i * 2 + 1, none⟩ (.string s')) b n (upd2 g i g') (upd2 s i s') :=
  World.rowIs.congr (World.rowIs.set (World.rowIs.set h (i * 2) (.bool g')) (i * 2 + 1) (.string s')) fun j hj => by
    unfold pcells upd2
    by_cases h1 : j = i * 2 + 1
    · subst h1
      rw [if_pos rfl, if_neg (by omega), if_pos (by omega)]
    · rw [if_neg h1]
      by_cases h2 : j = i * 2
      · subst h2
        rw [if_pos rfl, if_pos (by omega), if_pos (by omega)]
      · rw [if_neg h2]
        by_cases h3 : j % 2 = 0
        · rw [if_pos h3, if_pos h3, if_neg (by omega)]
        · rw [if_neg h3, if_neg h3, if_neg (by omega)]
end
theorem PRow.made (W : World) (n : Nat) : PRow (W.alloc (.cells (madeCells #[.bool false, .string ⟨#[]⟩] (n * 2)) 27)) W.heap.size n (fun _ => false) (fun _ => ⟨#[]⟩) := by
  have h := World.rowIs_alloc W (madeCells #[Value.bool false, Value.string ⟨#[]⟩] (n * 2)) 27 (pcells (fun _ => false) (fun _ => ⟨#[]⟩)) ?_
  · rw [size_madeCells] at h
    exact h
  · intro i hi
    rw [size_madeCells] at hi
    have e : i % 2 = 0 ∨ i % 2 = 1 := by omega
    unfold pcells
    rcases e with e | e
    · rw [if_pos e]; simp [madeCells, hi, e]
    · rw [if_neg (by omega)]; simp [madeCells, hi, e]
theorem infoI : (Tryz.prog.info? 27).map (fun i => (i.zero, i.size, i.bytes)) = some (some (.agg #[.bool false, .string ⟨#[]⟩]), 2, 24) := by kernel_rfl
theorem run_make2 (kl kc : IntKind) (n : Nat) (hn : n ≤ 1000000000) (w : World) :
    (Instr.makeSlice 22 (.int kl (n : Int)) (.int kc (n : Int))).run Tryz.prog w = .ok (.slice (some ⟨w.heap.size, 0, none⟩) n n) (w.alloc (.cells (madeCells #[.bool false, .string ⟨#[]⟩] (n * 2)) 27)) := by
  obtain ⟨i, hi, hzz⟩ := Option.map_eq_some_iff.1 infoI
  simp only [Prod.mk.injEq] at hzz
  obtain ⟨hz, hs, hb⟩ := hzz
  have hr := run_make (P := Tryz.prog) w 22 27 i _ Tryz.underlying22 hi hz kl kc n n (by omega) (Int.le_refl _) (by rw [hb]; omega) (by omega)
  simp only [Int.toNat_natCast, hs] at hr
  exact hr
theorem addr_snd (a : Addr) (i : Nat) : a.add (i * 2 + 1) = ⟨(a.add (i * 2)).block, (a.add (i * 2)).off + 1, none⟩ := by
  unfold Addr.add
  by_cases h : i * 2 = 0
  · simp [h]
  · simp [h, Nat.add_assoc]
/-- A slice of integers of at most k digits to the base 2^32. -/
def PolyAt (W : World) (v : Value) (L : List Int) (k : Nat) : Prop :=
  ∃ (A : Option Addr) (c : Nat) (g : Nat → Bool) (s : Nat → ByteArray), v = .slice A L.length c ∧ L.length ≤ c ∧ ∀ i, i < L.length → ∃ a, A = some a ∧ W.cell? (a.add (i * 2)) = some (.bool (g i)) ∧ W.cell? ⟨(a.add (i * 2)).block, (a.add (i * 2)).off + 1, none⟩ = some (.string (s i)) ∧ IsInt (.agg #[.bool (g i), .string (s i)]) (co L i) k
theorem PolyAt.keep {W W1 : World} {v : Value} {L : List Int} {k : Nat} (h : PolyAt W v L k) (hb : Below W.heap.size W W1) : PolyAt W1 v L k := by
  obtain ⟨A, c, g, s, h1, h2, h3⟩ := h
  refine ⟨A, c, g, s, h1, h2, fun i hi => ?_⟩
  obtain ⟨a, ha, c0, c1, hI⟩ := h3 i hi
  exact ⟨a, ha, cell_keep c0 hb, cell_keep c1 hb, hI⟩
theorem cell_low {W0 W1 : World} {p : Addr} {x : Value} (h : W0.cell? p = some x) (hb : Below W0.heap.size W0 W1) : W1.cell? p = some x := cell_keep h hb
theorem PolyAt.keep2 {W W1 : World} {v : Value} {L : List Int} {k : Nat} (h : PolyAt W v L k) (hb : Below W.heap.size W W1) : PolyAt W1 v L k := h.keep hb
/-- Written canonically, in a row of its own. -/
def PolyC (W : World) (base : Nat) (v : Value) (L : List Int) : Prop :=
  (v = .slice none 0 0 ∧ L = []) ∨ ∃ b n c, v = .slice (some ⟨b, 0, none⟩) L.length c ∧ L.length ≤ n ∧ L.length ≤ c ∧ base ≤ b ∧ ∃ g s, PRow W b n g s ∧ ∀ i, i < L.length → g i = sg (co L i) ∧ s i = mg (co L i)
theorem PolyC.keep {W W1 : World} {base : Nat} {v : Value} {L : List Int} (h : PolyC W base v L) (hb : Below W.heap.size W W1) : PolyC W1 base v L := by
  rcases h with h | ⟨b, n, c, h1, h2, h3, h4, g, s, h5, h6⟩
  · exact .inl h
  · exact .inr ⟨b, n, c, h1, h2, h3, h4, g, s, h5.keep hb, h6⟩
/-- Sizes of coefficients. -/
def PB (L : List Int) (k : Nat) : Prop := ∀ i, (co L i).natAbs < 4294967296 ^ k
theorem PolyC.at {W : World} {base : Nat} {v : Value} {L : List Int} {k : Nat} (h : PolyC W base v L) (hk : k ≤ 10000000) (hb : PB L k) : PolyAt W v L k := by
  rcases h with ⟨rfl, rfl⟩ | ⟨b, n, c, rfl, h2, h3, h4, g, s, h5, h6⟩
  · exact ⟨none, 0, fun _ => false, fun _ => ⟨#[]⟩, rfl, Nat.le_refl _, fun i hi => absurd hi (by simp)⟩
  · refine ⟨some ⟨b, 0, none⟩, c, g, s, rfl, h3, fun i hi => ⟨_, rfl, ?_, ?_, ?_⟩⟩
    · obtain ⟨c0, -⟩ := h5.cell (show i < n by omega)
      have e : (⟨b, 0, none⟩ : Addr).add (i * 2) = ⟨b, i * 2, none⟩ := by unfold Addr.add; split <;> simp_all
      rw [e]; exact c0
    · obtain ⟨-, c1, -⟩ := h5.cell (show i < n by omega)
      have e : (⟨b, 0, none⟩ : Addr).add (i * 2) = ⟨b, i * 2, none⟩ := by unfold Addr.add; split <;> simp_all
      rw [e]; exact c1
    · rw [(h6 i hi).1, (h6 i hi).2]
      exact isInt_mg (hb i) hk
theorem PolyAt.pb {W : World} {v : Value} {L : List Int} {k : Nat} (h : PolyAt W v L k) : PB L k := by
  obtain ⟨A, c, g, s, h1, h2, h3⟩ := h
  intro i
  rcases Nat.lt_or_ge i L.length with hi | hi
  · obtain ⟨a, ha, c0, c1, hI⟩ := h3 i hi
    exact hI.bd
  · rw [co_ge hi]
    exact Nat.pow_pos (by omega)
/-- What returns a polynomial in a row of its own. -/
def PolyOut (w : World) (L : List Int) (e : Ending) (w' : World) : Prop := ∃ v, e = .returned v ∧ PolyC w' w.heap.size v L ∧ Below w.heap.size w w'
end Go.Proofs.YtgcogpfmhmmgdaaGreatDoor
