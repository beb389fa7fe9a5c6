/- What integers are as values of the program, by their value in Lean. No condition. What integer.Check returns. What integer.Bits returns: the number of bits; likewise integer.size of digits. No condition but the sizes. -/
import Derived.Test.YtfcdekkoeeaolaaDoorQ05
import Derived.Test.YtfcdekkoeeaolaaDoorQ01
import Derived.Test.YtfcdekkoeeaolaaDoorQ06
import Derived.Deep.RegionHeld3
import Derived.Deep.DeepCutAuto
import Derived.Laws.StructEq
import Derived.Lib.BitFns
import Derived.Lib.ItoaNum

namespace Go.Proofs.YtfcdekkoeeaolaaDoor
open Go.RowKit

/-- The value of an api.Int. -/
def zv (ng : Bool) (s : ByteArray) : Int := if ng then -(vB s.data.toList : Int) else (vB s.data.toList : Int)
/-- The sign and the bytes of the canonical api.Int with the value z. -/
def sg (z : Int) : Bool := decide (z < 0)
def mg (z : Int) : ByteArray := ⟨(bytesOf z.natAbs).toArray⟩
/-- v is an api.Int with the value z, of at most k digits to the base 2^32. -/
def IsInt (v : Value) (z : Int) (k : Nat) : Prop := ∃ ng s, v = .agg #[.bool ng, .string s] ∧ zv ng s = z ∧ s.size ≤ 1000000000 ∧ z.natAbs < 4294967296 ^ k ∧ k ≤ 10000000
def IntOut (w : World) (z : Int) (e : Ending) (w' : World) : Prop := e = .returned (.agg #[.bool (sg z), .string (mg z)]) ∧ Below w.heap.size w w'

theorem vB_mg (z : Int) : vB (mg z).data.toList = z.natAbs := vB_bytesOf _
theorem zv_mg (z : Int) : zv (sg z) (mg z) = z := by
  unfold zv sg
  rw [vB_mg]
  by_cases h : z < 0
  · simp [h]; omega
  · simp [h]; omega
theorem bytesOf_len {n k : Nat} (h : n < 256 ^ k) : (bytesOf n).length ≤ k := by
  rcases Nat.lt_or_ge k (bytesOf n).length with h1 | h1
  · exfalso
    have hh : (bytesOf n).head? ≠ some 0 := by
      have := head_trim (bytesOf n)
      rwa [trim_bytes, vB_bytesOf] at this
    have h2 := vB_len hh (by omega)
    rw [vB_bytesOf] at h2
    have h3 : (256 : Nat) ^ k ≤ 256 ^ ((bytesOf n).length - 1) := Nat.pow_le_pow_right (by omega) (by omega)
    omega
  · exact h1
theorem b256 (k : Nat) : (4294967296 : Nat) ^ k = 256 ^ (4 * k) := by rw [show (4294967296 : Nat) = 256 ^ 4 by rfl, ← Nat.pow_mul]
theorem mg_size {z : Int} {k : Nat} (h : z.natAbs < 4294967296 ^ k) : (mg z).size ≤ 4 * k := by
  rw [b256] at h
  exact bytesOf_len h
theorem isInt_mg {z : Int} {k : Nat} (h : z.natAbs < 4294967296 ^ k) (hk : k ≤ 10000000) : IsInt (.agg #[.bool (sg z), .string (mg z)]) z k :=
  ⟨_, _, rfl, zv_mg z, by have := mg_size h; omega, h, hk⟩
theorem ivN_eq (ng : Bool) (N : Nat) (z : Int) (hz : z = if ng then -(N : Int) else N) : ivN ng N = .agg #[.bool (sg z), .string (mg z)] := by
  subst hz
  have hn : (if ng then -(N : Int) else (N : Int)).natAbs = N := by cases ng <;> simp
  unfold ivN iv mg
  rw [hn]
  have hs : (ng && !(bytesOf N).isEmpty) = sg (if ng then -(N : Int) else (N : Int)) := by
    unfold sg
    by_cases h0 : N = 0
    · subst h0; rw [bytesOf_zero]; cases ng <;> simp
    · have : bytesOf N ≠ [] := fun e => h0 (bytesOf_nil.1 e)
      have h2 : (bytesOf N).isEmpty = false := by simpa using this
      rw [h2]
      cases ng <;> simp <;> omega
  rw [hs]
/-- The length of a number by its size. -/
theorem IsNat.len {w : World} {A : Option Addr} {n c N k : Nat} (h : IsNat w A n c N) (hN : N < 4294967296 ^ k) : n ≤ k := by
  obtain ⟨_, _, f, _, _, tf, hv⟩ := h
  rcases Nat.lt_or_ge k n with h1 | h1
  · exfalso
    have h2 := val_ge (f := f) (n := n) (by omega) (tf (by omega))
    have h3 : 4294967296 ^ k ≤ 4294967296 ^ (n - 1) := Nat.pow_le_pow_right (by omega) (by omega)
    omega
  · exact h1
theorem cell_keep {Wp W1 : World} {p : Addr} {v : Value} (h : Wp.cell? p = some v) (hb : Below Wp.heap.size Wp W1) : W1.cell? p = some v := (hb.cell (World.block_lt_of_cell? _ _ h)).trans h
theorem keep4 {Wp W1 : World} {p1 p2 p3 p4 : Addr} {v1 v2 v3 v4 : Value} (hb : Below Wp.heap.size Wp W1)
    (h : Wp.cell? p1 = some v1 ∧ Wp.cell? p2 = some v2 ∧ Wp.cell? p3 = some v3 ∧ Wp.cell? p4 = some v4) :
    W1.cell? p1 = some v1 ∧ W1.cell? p2 = some v2 ∧ W1.cell? p3 = some v3 ∧ W1.cell? p4 = some v4 :=
  ⟨cell_keep h.1 hb, cell_keep h.2.1 hb, cell_keep h.2.2.1 hb, cell_keep h.2.2.2 hb⟩
/-- A struct of the type api.Int that is new. -/
def ResCell (w : World) (b : Nat) : Prop := w.cell? ⟨b, 0, none⟩ = some (.bool false) ∧ w.cell? ⟨b, 1, none⟩ = some (.string ⟨#[]⟩) ∧ w.frozen? ⟨b, 0, none⟩ = false ∧ w.frozen? ⟨b, 1, none⟩ = false
theorem frozen_keep {Wp W1 : World} {p : Addr} {v : Value} {b : Bool} (h : Wp.cell? p = some v) (hf : Wp.frozen? p = b) (hb : Below Wp.heap.size Wp W1) : W1.frozen? p = b := (hb.frozen (World.block_lt_of_cell? _ _ h)).trans hf
theorem ResCell.keep {w w' : World} {b : Nat} (h : ResCell w b) (hb : Below w.heap.size w w') : ResCell w' b :=
  ⟨cell_keep h.1 hb, cell_keep h.2.1 hb, frozen_keep h.1 h.2.2.1 hb, frozen_keep h.2.1 h.2.2.2 hb⟩
theorem ResCell.new (w : World) (t : TypeId) : ResCell (w.alloc (.cells #[.bool false, .string ⟨#[]⟩] t)) w.heap.size := by
  refine ⟨?_, ?_, ?_, ?_⟩ <;> simp [go_sem]
theorem ResCell.drew {w : World} {b : Nat} (h : ResCell w b) : ResCell w.drew b := h
theorem below1 (w : World) (o1 : Obj) : Below w.heap.size w (w.alloc o1) := (Below.refl _ w).alloc (Nat.le_refl _) _
theorem below2 (w : World) (o1 o2 : Obj) : Below w.heap.size w ((w.alloc o1).alloc o2) := (below1 w o1).alloc (by rw [World.size_alloc]; omega) _
theorem below3 (w : World) (o1 o2 o3 : Obj) : Below w.heap.size w (((w.alloc o1).alloc o2).alloc o3) := (below2 w o1 o2).alloc (by rw [World.size_alloc, World.size_alloc]; omega) _
/-- A call more. -/
theorem below_more {B : Nat} {w w1 w2 : World} (h : Below B w w1) (hB : B ≤ w.heap.size) (k : Below w1.heap.size w1 w2) : Below B w w2 := h.trans (k.mono (by have := h.size; omega))
theorem below_more2 {B : Nat} {w w1 w2 : World} {p q : Addr} {u v : Value} (h : Below B w w1) (hB : B ≤ w.heap.size) (k : Below w1.heap.size w1 w2) (hp : B ≤ p.block) (hq : B ≤ q.block) : Below B w ((w2.setCell p u).setCell q v) :=
  ((below_more h hB k).setCell hp _).setCell hq _
theorem sum_bound {a b k1 k2 : Nat} (h1 : a < 4294967296 ^ k1) (h2 : b < 4294967296 ^ k2) : a + b < 4294967296 ^ (k1 + k2 + 1) := by
  have e1 : (4294967296 : Nat) ^ k1 ≤ 4294967296 ^ (k1 + k2) := Nat.pow_le_pow_right (by omega) (by omega)
  have e2 : (4294967296 : Nat) ^ k2 ≤ 4294967296 ^ (k1 + k2) := Nat.pow_le_pow_right (by omega) (by omega)
  rw [Nat.pow_succ]
  generalize (4294967296 : Nat) ^ (k1 + k2) = P at *
  omega
theorem prod_bound {a b k1 k2 : Nat} (h1 : a < 4294967296 ^ k1) (h2 : b < 4294967296 ^ k2) : a * b < 4294967296 ^ (k1 + k2) := by
  rw [Nat.pow_add]
  exact Nat.mul_lt_mul'' h1 h2
theorem zv_same (g : Bool) (sa sb : ByteArray) : zv g sa + zv g sb = if g then -((vB sa.data.toList + vB sb.data.toList : Nat) : Int) else ((vB sa.data.toList + vB sb.data.toList : Nat) : Int) := by
  unfold zv; cases g <;> simp; omega
theorem zv_lt (g : Bool) (sa sb : ByteArray) (h : vB sa.data.toList < vB sb.data.toList) : zv (!g) sa + zv g sb = if g then -((vB sb.data.toList - vB sa.data.toList : Nat) : Int) else ((vB sb.data.toList - vB sa.data.toList : Nat) : Int) := by
  unfold zv; cases g <;> simp <;> omega
theorem zv_ge (g : Bool) (sa sb : ByteArray) (h : ¬ vB sa.data.toList < vB sb.data.toList) : zv g sa + zv (!g) sb = if g then -((vB sa.data.toList - vB sb.data.toList : Nat) : Int) else ((vB sa.data.toList - vB sb.data.toList : Nat) : Int) := by
  unfold zv; cases g <;> simp <;> omega
theorem stz_eq (s : ByteArray) : stz s = bytesOf (vB s.data.toList) := trim_bytes _
theorem can_any (ng : Bool) (s : ByteArray) (w : World) : Calls Tryd.prog 34 #[.agg #[.bool ng, .string s]] w (IntOut w (zv ng s)) :=
  (canonical_any ng s w).mono fun e w' ⟨he, hb⟩ => ⟨by rw [he, stz_eq]; exact congrArg Ending.returned (ivN_eq ng _ _ rfl), hb⟩
theorem zv_neg (ng : Bool) (s : ByteArray) : zv (!ng) s = - zv ng s := by unfold zv; cases ng <;> simp
theorem zv_mul (na nb : Bool) (sa sb : ByteArray) : zv na sa * zv nb sb = if (na != nb) then -((vB sa.data.toList * vB sb.data.toList : Nat) : Int) else ((vB sa.data.toList * vB sb.data.toList : Nat) : Int) := by
  unfold zv; cases na <;> cases nb <;> simp [Int.mul_neg, Int.neg_mul]
theorem cell_alloc_keep {W : World} {p : Addr} {v : Value} (h : W.cell? p = some v) (o : Obj) : (W.alloc o).cell? p = some v := (World.cell?_alloc_lt W o p (World.block_lt_of_cell? _ _ h)).trans h
theorem keep4a {W : World} {o : Obj} {p1 p2 p3 p4 : Addr} {v1 v2 v3 v4 : Value}
    (h : W.cell? p1 = some v1 ∧ W.cell? p2 = some v2 ∧ W.cell? p3 = some v3 ∧ W.cell? p4 = some v4) :
    (W.alloc o).cell? p1 = some v1 ∧ (W.alloc o).cell? p2 = some v2 ∧ (W.alloc o).cell? p3 = some v3 ∧ (W.alloc o).cell? p4 = some v4 :=
  ⟨cell_alloc_keep h.1 o, cell_alloc_keep h.2.1 o, cell_alloc_keep h.2.2.1 o, cell_alloc_keep h.2.2.2 o⟩
theorem keep4aa {W : World} {o o2 : Obj} {p1 p2 p3 p4 : Addr} {v1 v2 v3 v4 : Value}
    (h : W.cell? p1 = some v1 ∧ W.cell? p2 = some v2 ∧ W.cell? p3 = some v3 ∧ W.cell? p4 = some v4) :
    ((W.alloc o).alloc o2).cell? p1 = some v1 ∧ ((W.alloc o).alloc o2).cell? p2 = some v2 ∧ ((W.alloc o).alloc o2).cell? p3 = some v3 ∧ ((W.alloc o).alloc o2).cell? p4 = some v4 := keep4a (keep4a h)
theorem bcell {W w1 : World} (hb : Below W.heap.size W w1) : (∀ b o, b < W.heap.size → w1.cell? ⟨b, o, none⟩ = W.cell? ⟨b, o, none⟩) ∧ (∀ b o, b < W.heap.size → w1.frozen? ⟨b, o, none⟩ = W.frozen? ⟨b, o, none⟩) :=
  ⟨fun b o h => hb.cell (p := ⟨b, o, none⟩) h, fun b o h => hb.frozen (p := ⟨b, o, none⟩) h⟩
abbrev Boxes2 (W : World) (b : Nat) (na nb : Bool) (sa sb : ByteArray) : Prop :=
  W.cell? ⟨b, 0, none⟩ = some (.bool na) ∧ W.cell? ⟨b, 1, none⟩ = some (.string sa) ∧ W.cell? ⟨b + 1, 0, none⟩ = some (.bool nb) ∧ W.cell? ⟨b + 1, 1, none⟩ = some (.string sb)
theorem boxes2 (w : World) (t : TypeId) (na nb : Bool) (sa sb : ByteArray) :
    (((w.alloc (.cells #[.bool na, .string sa] t)).alloc (.cells #[.bool nb, .string sb] t))).cell? ⟨w.heap.size, 0, none⟩ = some (.bool na) ∧
    (((w.alloc (.cells #[.bool na, .string sa] t)).alloc (.cells #[.bool nb, .string sb] t))).cell? ⟨w.heap.size, 1, none⟩ = some (.string sa) ∧
    (((w.alloc (.cells #[.bool na, .string sa] t)).alloc (.cells #[.bool nb, .string sb] t))).cell? ⟨w.heap.size + 1, 0, none⟩ = some (.bool nb) ∧
    (((w.alloc (.cells #[.bool na, .string sa] t)).alloc (.cells #[.bool nb, .string sb] t))).cell? ⟨w.heap.size + 1, 1, none⟩ = some (.string sb) := by
  refine ⟨?_, ?_, ?_, ?_⟩ <;> simp [go_sem]
theorem boxes_alloc {W : World} {o : Obj} {b : Nat} {na nb : Bool} {sa sb : ByteArray} (h : Boxes2 W b na nb sa sb) : Boxes2 (W.alloc o) b na nb sa sb := keep4a h
theorem boxes_drew {W : World} {b : Nat} {na nb : Bool} {sa sb : ByteArray} (h : Boxes2 W b na nb sa sb) : Boxes2 W.drew b na nb sa sb := h
theorem boxes_set {W : World} {p : Addr} {u : Value} {b : Nat} {na nb : Bool} {sa sb : ByteArray} (h : Boxes2 W b na nb sa sb) (h1 : p.block ≠ b) (h2 : p.block ≠ b + 1) : Boxes2 (W.setCell p u) b na nb sa sb := by
  refine ⟨?_, ?_, ?_, ?_⟩
  · rw [World.cell?_setCell_far _ _ _ _ (by exact h1)]; exact h.1
  · rw [World.cell?_setCell_far _ _ _ _ (by exact h1)]; exact h.2.1
  · rw [World.cell?_setCell_far _ _ _ _ (by exact h2)]; exact h.2.2.1
  · rw [World.cell?_setCell_far _ _ _ _ (by exact h2)]; exact h.2.2.2
theorem natAbs_zv (ng : Bool) (s : ByteArray) : (zv ng s).natAbs = vB s.data.toList := by unfold zv; cases ng <;> simp
end Go.Proofs.YtfcdekkoeeaolaaDoor

namespace Go.Proofs.YtfcdekkoeeaolaaDoor
open Go.RowKit

theorem Tryd.fieldsInt : (Tryd.prog.fieldsOf 23).toList = [{ name := "Neg", type := 4, offset := 0, embedded := false, tag := "", pkgPath := "", byteOffset := 0 }, { name := "Mag", type := 9, offset := 1, embedded := false, tag := "", pkgPath := "", byteOffset := 8 }] := by kernel_rfl
theorem part0 (a : Bool) (s : ByteArray) (w : World) : (part 4 #[Value.bool a, Value.string s] 0).run Tryd.prog w = .ok (.bool a) w := by kernel_rfl
theorem part1 (a : Bool) (s : ByteArray) (w : World) : (part 9 #[Value.bool a, Value.string s] 1).run Tryd.prog w = .ok (.string s) w := by kernel_rfl
theorem eq0 (a b : Bool) (w : World) : (Op.equalIn 9999 4 (.bool a) (.bool b)).run Tryd.prog w = .ok (a == b) w := run_equalIn_bool' w 9998 4 a b Tryd.underlying4
theorem eq1 (a b : ByteArray) (w : World) : (Op.equalIn 9999 9 (.string a) (.string b)).run Tryd.prog w = .ok (a.toList == b.toList) w := run_equalIn_string w 9998 9 a b Tryd.underlying9
set_option maxRecDepth 100000 in
theorem neqInt (a b : Bool) (s t : ByteArray) (w : World) : (binOp .neq 23 (.agg #[.bool a, .string s]) (.agg #[.bool b, .string t])).run Tryd.prog w = .ok (.bool (!(a == b && s.toList == t.toList))) w := by
  rw [run_neq_struct, run_equalIn_agg w 9999 23 _ _ (by kernel_rfl) (by kernel_rfl), Tryd.fieldsInt]
  simp only [Op.eqFields]
  rw [if_pos (by decide)]
  rw [if_pos (by decide)]
  simp only [Sem.run_bind, part0, eq0, Result.andThen]
  cases a == b
  · rfl
  · simp only [Bool.not_true, Bool.true_and, if_neg (show ¬ (false = true) by decide), Sem.run_bind, part1, eq1, Result.andThen]
    cases s.toList == t.toList <;> rfl
theorem guardInt (x y : Operand) (a b : Bool) (s t : ByteArray) (w : World) : (eqGuard .neq 23 x y (.agg #[.bool a, .string s]) (.agg #[.bool b, .string t])).run Tryd.prog w = .ok () w := run_eqGuard_agg w .neq 23 x y _ _ (by kernel_rfl)
attribute [go_sem ↓] neqInt guardInt
theorem keep2 {Wp W1 : World} {p1 p2 : Addr} {v1 v2 : Value} (hb : Below Wp.heap.size Wp W1) (h : Wp.cell? p1 = some v1 ∧ Wp.cell? p2 = some v2) : W1.cell? p1 = some v1 ∧ W1.cell? p2 = some v2 := ⟨cell_keep h.1 hb, cell_keep h.2 hb⟩
/-- An integer is canonical: its own bytes and sign. -/
theorem mg_of (na : Bool) (sa : ByteArray) (h : stz sa = sa.data.toList) : mg (zv na sa) = sa := by
  unfold mg
  rw [natAbs_zv, ← stz_eq, h]
theorem toList_eq (a b : ByteArray) : (a.toList == b.toList) = decide (a = b) := by
  by_cases h : a = b
  · subst h; simp
  · rw [decide_eq_false h]
    exact beq_eq_false_iff_ne.2 (fun e => h (by rw [ByteArray.toList_eq, ByteArray.toList_eq] at e; exact ByteArray.ext (Array.toList_inj.mp e)))
def checkN (na : Bool) (sa : ByteArray) : Int := if sg (zv na sa) = na ∧ mg (zv na sa) = sa then 0 else 1

theorem check_val (na : Bool) (sa : ByteArray) : checkN na sa = if (!na == sg (zv na sa) || !sa.toList == (mg (zv na sa)).toList) then 1 else 0 := by
  rw [toList_eq]
  unfold checkN
  by_cases h1 : na = sg (zv na sa)
  · by_cases h2 : sa = mg (zv na sa)
    · rw [if_pos ⟨h1.symm, h2.symm⟩, decide_eq_true h2]
      simp [← h1]
    · rw [if_neg (fun h => h2 h.2.symm), decide_eq_false h2]; simp
  · rw [if_neg (fun h => h1 h.1.symm), show (na == sg (zv na sa)) = false from beq_eq_false_iff_ne.2 h1]; rfl

end Go.Proofs.YtfcdekkoeeaolaaDoor

namespace Go.Proofs.YtfcdekkoeeaolaaDoor
open Go.RowKit

/-- The least number n with N < 2^n. -/
def nbits (N : Nat) : Nat := if N = 0 then 0 else Nat.log2 N + 1
theorem nbits_lt (N : Nat) : N < 2 ^ nbits N := by
  unfold nbits; split
  · subst ‹N = 0›; simp
  · exact Nat.lt_log2_self
theorem nbits_ge {N : Nat} (h : N ≠ 0) : 2 ^ (nbits N - 1) ≤ N := by
  unfold nbits; rw [if_neg h]; exact Nat.log2_self_le h
theorem nbits_unique {N n : Nat} (h0 : N ≠ 0) (h1 : N < 2 ^ n) (h2 : 2 ^ (n - 1) ≤ N) : nbits N = n := by
  have a := nbits_lt N
  have b := nbits_ge h0
  have hn : 0 < n := by
    rcases Nat.eq_zero_or_pos n with e | e
    · subst e; simp at h1; omega
    · exact e
  have hn2 : 0 < nbits N := by unfold nbits; rw [if_neg h0]; omega
  rcases Nat.lt_trichotomy (nbits N) n with h | h | h
  · have : (2 : Nat) ^ nbits N ≤ 2 ^ (n - 1) := Nat.pow_le_pow_right (by omega) (by omega)
    omega
  · exact h
  · have : (2 : Nat) ^ n ≤ 2 ^ (nbits N - 1) := Nat.pow_le_pow_right (by omega) (by omega)
    omega
theorem nbits_bitLen {x : Nat} (h : x < 2 ^ 64) : Lib.bitLen x = nbits x := by
  by_cases h0 : x = 0
  · subst h0; rfl
  · obtain ⟨h1, h2, h3⟩ := Lib.bitLenAux_bounds 64 x h h0
    exact (nbits_unique h0 h3 h2).symm
theorem nbits_top {b r m : Nat} (hb : b ≠ 0) (hr : r < 2 ^ m) : nbits (b * 2 ^ m + r) = m + nbits b := by
  have h1 := nbits_lt b
  have h2 := nbits_ge hb
  have hp : 0 < 2 ^ m := Nat.two_pow_pos m
  have h3 : 1 * 2 ^ m ≤ b * 2 ^ m := Nat.mul_le_mul_right _ (by omega)
  have hn : 0 < nbits b := by unfold nbits; rw [if_neg hb]; omega
  apply nbits_unique
  · omega
  · rw [Nat.pow_add, Nat.mul_comm]
    have h4 : (b + 1) * 2 ^ m ≤ 2 ^ nbits b * 2 ^ m := Nat.mul_le_mul_right _ (by omega)
    rw [Nat.add_mul] at h4
    rw [Nat.mul_comm] 
    rw [Nat.mul_comm (2 ^ m)]
    omega
  · rw [show m + nbits b - 1 = (nbits b - 1) + m by omega, Nat.pow_add]
    have h4 : 2 ^ (nbits b - 1) * 2 ^ m ≤ b * 2 ^ m := Nat.mul_le_mul_right _ h2
    omega
theorem nbits_bytes (b : UInt8) (l : List UInt8) (hb : b ≠ 0) : nbits (vB (b :: l)) = 8 * l.length + nbits b.toNat := by
  rw [vB_cons, show (256 : Nat) = 2 ^ 8 by rfl, ← Nat.pow_mul]
  apply nbits_top
  · exact fun e => hb (by apply UInt8.toNat_inj.1; simpa using e)
  · rw [Nat.pow_mul]; exact vB_lt l
theorem nbits_digits (f : Nat → Nat) (n : Nat) (h : Dig f n) (h0 : f n ≠ 0) : nbits (val f (n + 1)) = 32 * n + nbits (f n) := by
  rw [val, Nat.add_comm (val f n), show (4294967296 : Nat) = 2 ^ 32 by rfl, ← Nat.pow_mul]
  apply nbits_top h0
  rw [Nat.pow_mul]; exact val_lt h
theorem bytesOf_cons {N : Nat} {b : UInt8} {t : List UInt8} (h : bytesOf N = b :: t) : b ≠ 0 ∧ vB (b :: t) = N := by
  have h2 : vB (b :: t) = N := by rw [← h]; exact vB_bytesOf N
  refine ⟨fun e => ?_, h2⟩
  have hh := head_trim (bytesOf N)
  rw [trim_bytes, vB_bytesOf, h, e] at hh
  simp at hh

set_option maxRecDepth 100000 in
set_option maxHeartbeats 800000 in
theorem ibits_any (v1 : Value) (z1 : Int) (k1 : Nat) (w : World) (h1 : IsInt v1 z1 k1) :
    Calls Tryd.prog 16 #[v1] w fun e w' => e = .returned (.int .i64 (nbits z1.natAbs : Int)) ∧ Below w.heap.size w w' := by
  obtain ⟨na, sa, rfl, hz1, hs1, hk1, hkk1⟩ := h1
  have Hz : Hid (zv na sa = z1) := hz1
  have hsz := mg_size hk1
  have hb := below1 w (.cells #[.bool na, .string sa] 23)
  clear hz1 hk1
  cases hl : bytesOf z1.natAbs with
  | nil =>
    have h0 : z1.natAbs = 0 := bytesOf_nil.1 hl
    have hm : mg z1 = ⟨#[]⟩ := by unfold mg; rw [hl]
    have Hm : Hid (mg z1 = ⟨#[]⟩) := hm
    have Hn : Hid (nbits z1.natAbs = 0) := by rw [h0]; rfl
    clear hl h0 hm
    go_enter Tryd.func16, Tryd.ntmps16
    go_wp2_with fail
    refine (can_any na sa _).mono ?_
    rintro e W1 ⟨rfl, b1⟩
    rw [Hz.out, Hm.out]
    go_wp2
    go_ret
    exact ⟨by rw [Hn.out]; rfl, below_more hb (Nat.le_refl _) b1⟩
  | cons b t =>
    obtain ⟨hb0, hv⟩ := bytesOf_cons hl
    have hm : mg z1 = ⟨(b :: t).toArray⟩ := by unfold mg; rw [hl]
    have Hm : Hid (mg z1 = ⟨(b :: t).toArray⟩) := hm
    have Hn : Hid (nbits z1.natAbs = 8 * t.length + Lib.bitLen b.toNat) := by
      rw [← hv, nbits_bytes _ _ hb0, nbits_bitLen (by have := b.toNat_lt; omega)]; rfl
    have hix := run_index_bytes (b :: t) 0 b rfl 0 (by simp)
    have hb' := b.toNat_lt
    have hlen : t.length + 1 ≤ 40000000 := by
      rw [hm] at hsz
      have : (⟨(b :: t).toArray⟩ : ByteArray).size = t.length + 1 := by simp [ByteArray.size]
      omega
    have hbl := Lib.bitLen_le b.toNat 8 (by omega) hb'
    clear hl hm hv hsz
    go_enter Tryd.func16, Tryd.ntmps16
    go_wp2_with fail
    refine (can_any na sa _).mono ?_
    rintro e W1 ⟨rfl, b1⟩
    rw [Hz.out, Hm.out]
    go_wp2_with fail
    refine (Tryd.bits_Len8 b.toNat _ (by omega) (by omega)).mono ?_
    rintro e w' ⟨rfl, hw⟩
    subst hw
    rw [Int.toNat_natCast]
    go_wp2
    go_ret
    exact ⟨by rw [Hn.out]; go_num, below_more hb (Nat.le_refl _) b1⟩

set_option maxHeartbeats 800000 in
theorem size_any (A : Option Addr) (n c N : Nat) (w : World) (hA : IsNat w A n c N) (hn : n ≤ 10000000000) :
    Calls Tryd.prog 55 #[.slice A n c] w fun e w' => e = .returned (.int .i64 (nbits N : Int)) ∧ w = w' := by
  obtain ⟨hnc, hc, f, ⟨b, off, hAe, hcell⟩, df, tf, rfl⟩ := hA
  rcases n with _ | n
  · go_enter Tryd.func55, Tryd.ntmps55
    go_wp2
    go_ret
    exact ⟨rfl, rfl⟩
  · obtain rfl := hAe (by omega)
    have hx := hcell n (by omega)
    have dn := df n (by omega)
    have t0 : f n ≠ 0 := tf (by omega)
    have Hn : Hid (nbits (val f (n + 1)) = 32 * n + Lib.bitLen (f n)) := by
      rw [nbits_digits f n (fun i hi => df i (by omega)) t0, nbits_bitLen (by omega)]; rfl
    have hbl := Lib.bitLen_le (f n) 32 (by omega) (by omega)
    have hne : (((n + 1 : Nat) : Int) == 0) = false := by simp; omega
    clear tf
    go_enter Tryd.func55, Tryd.ntmps55
    go_wp2_with fail
    refine (Tryd.bits_Len32 (f n) _ (by omega) (by omega)).mono ?_
    rintro e w' ⟨rfl, hw⟩
    subst hw
    rw [Int.toNat_natCast]
    go_wp2
    go_ret
    exact ⟨by rw [Hn.out]; go_num, rfl⟩
end Go.Proofs.YtfcdekkoeeaolaaDoor
