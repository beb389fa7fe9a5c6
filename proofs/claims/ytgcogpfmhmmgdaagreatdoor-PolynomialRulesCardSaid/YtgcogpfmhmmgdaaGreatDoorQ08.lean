/- What integers are as values of the program, by their value in Lean. No condition. What integer.decimalGroups returns: the digits to the base 10^9, the least one first. What the three writing methods of strings.Builder leave in this program. -/
import Derived.Test.YtgcogpfmhmmgdaaGreatDoorQ05
import Derived.Test.YtgcogpfmhmmgdaaGreatDoorQ06
import Derived.Test.YtgcogpfmhmmgdaaGreatDoorQ07
import Derived.Deep.RegionHeld3
import Derived.Test.YtgcogpfmhmmgdaaGreatDoorQ02
import Derived.Maps.AppendAt
import Derived.OwnWalk
import Derived.Test.YtgcogpfmhmmgdaaGreatDoorQ03

namespace Go.Proofs.YtgcogpfmhmmgdaaGreatDoor
open Go.RowKit

/-- The value of an api.Int. -/
def zv (ng : Bool) (s : ByteArray) : Int := if ng then -(vB s.data.toList : Int) else (vB s.data.toList : Int)
/-- The sign and the bytes of the canonical api.Int with the value z. -/
def sg (z : Int) : Bool := decide (z < 0)
def mg (z : Int) : ByteArray := ⟨(bytesOf z.natAbs).toArray⟩
/-- v is an api.Int with the value z, of at most k digits to the base 2^32. -/
def IsInt (v : Value) (z : Int) (k : Nat) : Prop := ∃ ng s, v = .agg #[.bool ng, .string s] ∧ zv ng s = z ∧ s.size ≤ 1000000000 ∧ z.natAbs < 4294967296 ^ k ∧ k ≤ 10000000
def IntOut (w : World) (z : Int) (e : Ending) (w' : World) : Prop := e = .returned (.agg #[.bool (sg z), .string (mg z)]) ∧ Below w.heap.size w w'

theorem vB_mg (z : Int) : vB (mg z).data.toList = z.natAbs := vB_bytesOf _
theorem zv_mg (z : Int) : zv (sg z) (mg z) = z := by
  unfold zv sg
  rw [vB_mg]
  by_cases h : z < 0
  · simp [h]; omega
  · simp [h]; omega
theorem bytesOf_len {n k : Nat} (h : n < 256 ^ k) : (bytesOf n).length ≤ k := by
  rcases Nat.lt_or_ge k (bytesOf n).length with h1 | h1
  · exfalso
    have hh : (bytesOf n).head? ≠ some 0 := by
      have := head_trim (bytesOf n)
      rwa [trim_bytes, vB_bytesOf] at this
    have h2 := vB_len hh (by omega)
    rw [vB_bytesOf] at h2
    have h3 : (256 : Nat) ^ k ≤ 256 ^ ((bytesOf n).length - 1) := Nat.pow_le_pow_right (by omega) (by omega)
    omega
  · exact h1
theorem b256 (k : Nat) : (4294967296 : Nat) ^ k = 256 ^ (4 * k) := by rw [show (4294967296 : Nat) = 256 ^ 4 by rfl, ← Nat.pow_mul]
theorem mg_size {z : Int} {k : Nat} (h : z.natAbs < 4294967296 ^ k) : (mg z).size ≤ 4 * k := by
  rw [b256] at h
  exact bytesOf_len h
theorem isInt_mg {z : Int} {k : Nat} (h : z.natAbs < 4294967296 ^ k) (hk : k ≤ 10000000) : IsInt (.agg #[.bool (sg z), .string (mg z)]) z k :=
  ⟨_, _, rfl, zv_mg z, by have := mg_size h; omega, h, hk⟩
theorem ivN_eq (ng : Bool) (N : Nat) (z : Int) (hz : z = if ng then -(N : Int) else N) : ivN ng N = .agg #[.bool (sg z), .string (mg z)] := by
  subst hz
  have hn : (if ng then -(N : Int) else (N : Int)).natAbs = N := by cases ng <;> simp
  unfold ivN iv mg
  rw [hn]
  have hs : (ng && !(bytesOf N).isEmpty) = sg (if ng then -(N : Int) else (N : Int)) := by
    unfold sg
    by_cases h0 : N = 0
    · subst h0; rw [bytesOf_zero]; cases ng <;> simp
    · have : bytesOf N ≠ [] := fun e => h0 (bytesOf_nil.1 e)
      have h2 : (bytesOf N).isEmpty = false := by simpa using this
      rw [h2]
      cases ng <;> simp <;> omega
  rw [hs]
/-- The length of a number by its size. -/
theorem IsNat.len {w : World} {A : Option Addr} {n c N k : Nat} (h : IsNat w A n c N) (hN : N < 4294967296 ^ k) : n ≤ k := by
  obtain ⟨_, _, f, _, _, tf, hv⟩ := h
  rcases Nat.lt_or_ge k n with h1 | h1
  · exfalso
    have h2 := val_ge (f := f) (n := n) (by omega) (tf (by omega))
    have h3 : 4294967296 ^ k ≤ 4294967296 ^ (n - 1) := Nat.pow_le_pow_right (by omega) (by omega)
    omega
  · exact h1
theorem cell_keep {Wp W1 : World} {p : Addr} {v : Value} (h : Wp.cell? p = some v) (hb : Below Wp.heap.size Wp W1) : W1.cell? p = some v := (hb.cell (World.block_lt_of_cell? _ _ h)).trans h
theorem keep4 {Wp W1 : World} {p1 p2 p3 p4 : Addr} {v1 v2 v3 v4 : Value} (hb : Below Wp.heap.size Wp W1)
    (h : Wp.cell? p1 = some v1 ∧ Wp.cell? p2 = some v2 ∧ Wp.cell? p3 = some v3 ∧ Wp.cell? p4 = some v4) :
    W1.cell? p1 = some v1 ∧ W1.cell? p2 = some v2 ∧ W1.cell? p3 = some v3 ∧ W1.cell? p4 = some v4 :=
  ⟨cell_keep h.1 hb, cell_keep h.2.1 hb, cell_keep h.2.2.1 hb, cell_keep h.2.2.2 hb⟩
/-- A struct of the type api.Int that is new. -/
def ResCell (w : World) (b : Nat) : Prop := w.cell? ⟨b, 0, none⟩ = some (.bool false) ∧ w.cell? ⟨b, 1, none⟩ = some (.string ⟨#[]⟩) ∧ w.frozen? ⟨b, 0, none⟩ = false ∧ w.frozen? ⟨b, 1, none⟩ = false
theorem frozen_keep {Wp W1 : World} {p : Addr} {v : Value} {b : Bool} (h : Wp.cell? p = some v) (hf : Wp.frozen? p = b) (hb : Below Wp.heap.size Wp W1) : W1.frozen? p = b := (hb.frozen (World.block_lt_of_cell? _ _ h)).trans hf
theorem ResCell.keep {w w' : World} {b : Nat} (h : ResCell w b) (hb : Below w.heap.size w w') : ResCell w' b :=
  ⟨cell_keep h.1 hb, cell_keep h.2.1 hb, frozen_keep h.1 h.2.2.1 hb, frozen_keep h.2.1 h.2.2.2 hb⟩
theorem ResCell.new (w : World) (t : TypeId) : ResCell (w.alloc (.cells #[.bool false, .string ⟨#[]⟩] t)) w.heap.size := by
  refine ⟨?_, ?_, ?_, ?_⟩ <;> simp [go_sem]
theorem ResCell.drew {w : World} {b : Nat} (h : ResCell w b) : ResCell w.drew b := h
theorem below1 (w : World) (o1 : Obj) : Below w.heap.size w (w.alloc o1) := (Below.refl _ w).alloc (Nat.le_refl _) _
theorem below2 (w : World) (o1 o2 : Obj) : Below w.heap.size w ((w.alloc o1).alloc o2) := (below1 w o1).alloc (by rw [World.size_alloc]; omega) _
theorem below3 (w : World) (o1 o2 o3 : Obj) : Below w.heap.size w (((w.alloc o1).alloc o2).alloc o3) := (below2 w o1 o2).alloc (by rw [World.size_alloc, World.size_alloc]; omega) _
/-- A call more. -/
theorem below_more {B : Nat} {w w1 w2 : World} (h : Below B w w1) (hB : B ≤ w.heap.size) (k : Below w1.heap.size w1 w2) : Below B w w2 := h.trans (k.mono (by have := h.size; omega))
theorem below_more2 {B : Nat} {w w1 w2 : World} {p q : Addr} {u v : Value} (h : Below B w w1) (hB : B ≤ w.heap.size) (k : Below w1.heap.size w1 w2) (hp : B ≤ p.block) (hq : B ≤ q.block) : Below B w ((w2.setCell p u).setCell q v) :=
  ((below_more h hB k).setCell hp _).setCell hq _
theorem sum_bound {a b k1 k2 : Nat} (h1 : a < 4294967296 ^ k1) (h2 : b < 4294967296 ^ k2) : a + b < 4294967296 ^ (k1 + k2 + 1) := by
  have e1 : (4294967296 : Nat) ^ k1 ≤ 4294967296 ^ (k1 + k2) := Nat.pow_le_pow_right (by omega) (by omega)
  have e2 : (4294967296 : Nat) ^ k2 ≤ 4294967296 ^ (k1 + k2) := Nat.pow_le_pow_right (by omega) (by omega)
  rw [Nat.pow_succ]
  generalize (4294967296 : Nat) ^ (k1 + k2) = P at *
  omega
theorem prod_bound {a b k1 k2 : Nat} (h1 : a < 4294967296 ^ k1) (h2 : b < 4294967296 ^ k2) : a * b < 4294967296 ^ (k1 + k2) := by
  rw [Nat.pow_add]
  exact Nat.mul_lt_mul'' h1 h2
theorem zv_same (g : Bool) (sa sb : ByteArray) : zv g sa + zv g sb = if g then -((vB sa.data.toList + vB sb.data.toList : Nat) : Int) else ((vB sa.data.toList + vB sb.data.toList : Nat) : Int) := by
  unfold zv; cases g <;> simp; omega
theorem zv_lt (g : Bool) (sa sb : ByteArray) (h : vB sa.data.toList < vB sb.data.toList) : zv (!g) sa + zv g sb = if g then -((vB sb.data.toList - vB sa.data.toList : Nat) : Int) else ((vB sb.data.toList - vB sa.data.toList : Nat) : Int) := by
  unfold zv; cases g <;> simp <;> omega
theorem zv_ge (g : Bool) (sa sb : ByteArray) (h : ¬ vB sa.data.toList < vB sb.data.toList) : zv g sa + zv (!g) sb = if g then -((vB sa.data.toList - vB sb.data.toList : Nat) : Int) else ((vB sa.data.toList - vB sb.data.toList : Nat) : Int) := by
  unfold zv; cases g <;> simp <;> omega
theorem stz_eq (s : ByteArray) : stz s = bytesOf (vB s.data.toList) := trim_bytes _
theorem can_any (ng : Bool) (s : ByteArray) (w : World) : Calls Tryz.prog 70 #[.agg #[.bool ng, .string s]] w (IntOut w (zv ng s)) :=
  (canonical_any ng s w).mono fun e w' ⟨he, hb⟩ => ⟨by rw [he, stz_eq]; exact congrArg Ending.returned (ivN_eq ng _ _ rfl), hb⟩
theorem zv_neg (ng : Bool) (s : ByteArray) : zv (!ng) s = - zv ng s := by unfold zv; cases ng <;> simp
theorem zv_mul (na nb : Bool) (sa sb : ByteArray) : zv na sa * zv nb sb = if (na != nb) then -((vB sa.data.toList * vB sb.data.toList : Nat) : Int) else ((vB sa.data.toList * vB sb.data.toList : Nat) : Int) := by
  unfold zv; cases na <;> cases nb <;> simp [Int.mul_neg, Int.neg_mul]
theorem cell_alloc_keep {W : World} {p : Addr} {v : Value} (h : W.cell? p = some v) (o : Obj) : (W.alloc o).cell? p = some v := (World.cell?_alloc_lt W o p (World.block_lt_of_cell? _ _ h)).trans h
theorem keep4a {W : World} {o : Obj} {p1 p2 p3 p4 : Addr} {v1 v2 v3 v4 : Value}
    (h : W.cell? p1 = some v1 ∧ W.cell? p2 = some v2 ∧ W.cell? p3 = some v3 ∧ W.cell? p4 = some v4) :
    (W.alloc o).cell? p1 = some v1 ∧ (W.alloc o).cell? p2 = some v2 ∧ (W.alloc o).cell? p3 = some v3 ∧ (W.alloc o).cell? p4 = some v4 :=
  ⟨cell_alloc_keep h.1 o, cell_alloc_keep h.2.1 o, cell_alloc_keep h.2.2.1 o, cell_alloc_keep h.2.2.2 o⟩
theorem keep4aa {W : World} {o o2 : Obj} {p1 p2 p3 p4 : Addr} {v1 v2 v3 v4 : Value}
    (h : W.cell? p1 = some v1 ∧ W.cell? p2 = some v2 ∧ W.cell? p3 = some v3 ∧ W.cell? p4 = some v4) :
    ((W.alloc o).alloc o2).cell? p1 = some v1 ∧ ((W.alloc o).alloc o2).cell? p2 = some v2 ∧ ((W.alloc o).alloc o2).cell? p3 = some v3 ∧ ((W.alloc o).alloc o2).cell? p4 = some v4 := keep4a (keep4a h)
theorem bcell {W w1 : World} (hb : Below W.heap.size W w1) : (∀ b o, b < W.heap.size → w1.cell? ⟨b, o, none⟩ = W.cell? ⟨b, o, none⟩) ∧ (∀ b o, b < W.heap.size → w1.frozen? ⟨b, o, none⟩ = W.frozen? ⟨b, o, none⟩) :=
  ⟨fun b o h => hb.cell (p := ⟨b, o, none⟩) h, fun b o h => hb.frozen (p := ⟨b, o, none⟩) h⟩
abbrev Boxes2 (W : World) (b : Nat) (na nb : Bool) (sa sb : ByteArray) : Prop :=
  W.cell? ⟨b, 0, none⟩ = some (.bool na) ∧ W.cell? ⟨b, 1, none⟩ = some (.string sa) ∧ W.cell? ⟨b + 1, 0, none⟩ = some (.bool nb) ∧ W.cell? ⟨b + 1, 1, none⟩ = some (.string sb)
theorem boxes2 (w : World) (t : TypeId) (na nb : Bool) (sa sb : ByteArray) :
    (((w.alloc (.cells #[.bool na, .string sa] t)).alloc (.cells #[.bool nb, .string sb] t))).cell? ⟨w.heap.size, 0, none⟩ = some (.bool na) ∧
    (((w.alloc (.cells #[.bool na, .string sa] t)).alloc (.cells #[.bool nb, .string sb] t))).cell? ⟨w.heap.size, 1, none⟩ = some (.string sa) ∧
    (((w.alloc (.cells #[.bool na, .string sa] t)).alloc (.cells #[.bool nb, .string sb] t))).cell? ⟨w.heap.size + 1, 0, none⟩ = some (.bool nb) ∧
    (((w.alloc (.cells #[.bool na, .string sa] t)).alloc (.cells #[.bool nb, .string sb] t))).cell? ⟨w.heap.size + 1, 1, none⟩ = some (.string sb) := by
  refine ⟨?_, ?_, ?_, ?_⟩ <;> simp [go_sem]
theorem boxes_alloc {W : World} {o : Obj} {b : Nat} {na nb : Bool} {sa sb : ByteArray} (h : Boxes2 W b na nb sa sb) : Boxes2 (W.alloc o) b na nb sa sb := keep4a h
theorem boxes_drew {W : World} {b : Nat} {na nb : Bool} {sa sb : ByteArray} (h : Boxes2 W b na nb sa sb) : Boxes2 W.drew b na nb sa sb := h
theorem boxes_set {W : World} {p : Addr} {u : Value} {b : Nat} {na nb : Bool} {sa sb : ByteArray} (h : Boxes2 W b na nb sa sb) (h1 : p.block ≠ b) (h2 : p.block ≠ b + 1) : Boxes2 (W.setCell p u) b na nb sa sb := by
  refine ⟨?_, ?_, ?_, ?_⟩
  · rw [World.cell?_setCell_far _ _ _ _ (by exact h1)]; exact h.1
  · rw [World.cell?_setCell_far _ _ _ _ (by exact h1)]; exact h.2.1
  · rw [World.cell?_setCell_far _ _ _ _ (by exact h2)]; exact h.2.2.1
  · rw [World.cell?_setCell_far _ _ _ _ (by exact h2)]; exact h.2.2.2
theorem natAbs_zv (ng : Bool) (s : ByteArray) : (zv ng s).natAbs = vB s.data.toList := by unfold zv; cases ng <;> simp
end Go.Proofs.YtgcogpfmhmmgdaaGreatDoor

namespace Go.Proofs.YtgcogpfmhmmgdaaGreatDoor
open Go.RowKit

/-- The digits of N to the base 10^9, the least one first. -/
def gs (N : Nat) : List Nat := if h : N = 0 then [] else N % 1000000000 :: gs (N / 1000000000)
termination_by N
decreasing_by exact Nat.div_lt_self (by omega) (by omega)
theorem gs_zero : gs 0 = [] := by rw [gs]; rfl
theorem gs_pos {N : Nat} (h : N ≠ 0) : gs N = N % 1000000000 :: gs (N / 1000000000) := by rw [gs, dif_neg h]
theorem gs_len {N k : Nat} (h : N < 1000000000 ^ k) : (gs N).length ≤ k := by
  induction k generalizing N with
  | zero => have : N = 0 := by simp at h; exact h
            subst this; rw [gs_zero]; exact Nat.le_refl _
  | succ k ih =>
    by_cases h0 : N = 0
    · subst h0; rw [gs_zero]; exact Nat.zero_le _
    · rw [gs_pos h0, List.length_cons]
      have := ih (Nat.div_lt_of_lt_mul (by rw [Nat.pow_succ, Nat.mul_comm] at h; exact h))
      omega
theorem gs_room {N k : Nat} (h : N < 4294967296 ^ k) : (gs N).length ≤ 2 * k := by
  apply gs_len
  refine Nat.lt_of_lt_of_le h ?_
  rw [Nat.pow_mul]
  exact Nat.pow_le_pow_left (by omega) _
def gvs (l : List Nat) : List Value := l.map fun (d : Nat) => .int .u32 (d : Int)
theorem gvs_len (l : List Nat) : (gvs l).length = l.length := by unfold gvs; exact List.length_map _
theorem gvs_snoc (l : List Nat) (d : Nat) : gvs (l ++ [d]) = gvs l ++ [.int .u32 (d : Int)] := by unfold gvs; rw [List.map_append]; rfl

/-- A number keeps where another block grows. -/
theorem isNat_grown {w w' : World} {a : Addr} {n c N : Nat} {row : Option Nat} (h : IsNat w (some a) n c N) (hg : w.grownBy w' row) (hr : some a.block ≠ row) : IsNat w' (some a) n c N := by
  obtain ⟨h1, h2, f, ⟨b, off, hA, hcell⟩, h4⟩ := h
  refine ⟨h1, h2, f, ⟨b, off, hA, fun i hi => hg.cell (hcell i hi) ?_⟩, h4⟩
  have := hA (by omega)
  injection this with this
  subst this
  exact hr
theorem grown_of_below {w w' : World} (h : Below w.heap.size w w') (row : Option Nat) : w.grownBy w' row := ⟨h.os, h.tape, h.output, h.size, fun k hk _ => h.block k hk⟩
theorem nat_none {w : World} {A : Option Addr} {n c N : Nat} (h : IsNat w A n c N) : (n = 0 ↔ N = 0) := by
  obtain ⟨_, _, f, _, _, tf, hv⟩ := h
  constructor
  · rintro rfl; exact hv.symm
  · intro h0
    rcases Nat.eq_zero_or_pos n with h1 | h1
    · exact h1
    · have := val_ge h1 (tf h1)
      have hp : 0 < 4294967296 ^ (n - 1) := Nat.pow_pos (by omega)
      omega

def GrOut (w : World) (N : Nat) (e : Ending) (w' : World) : Prop := ∃ v, e = .returned v ∧ w'.ownsRow w.heap.size 93 1 v (gs N).length (gvs (gs N)) ∧ Below w.heap.size w w'

set_option maxHeartbeats 1600000 in
theorem groups_any (A : Option Addr) (n c N k : Nat) (w : World) (hA : IsNat w A n c N) (hN : N < 4294967296 ^ k) (hk : k ≤ 10000000) :
    Calls Tryz.prog 108 #[.slice A n c] w (GrOut w N) := by
  have hn := hA.len hN
  have hroom := gs_room hN
  have Hk : Hid (N < 4294967296 ^ k) := hN
  obtain ⟨i0, hi, hz0, hz1, hz2⟩ := info_parts Tryz.infoU32
  clear hN
  go_enter Tryz.func108, Tryz.ntmps108
  go_wp2_with fail
  go_loopg [0, 3] (gs N).length (fun g s0 s3 wx => ∃ A1 n1 c1 M xs, g = (gs M).length ∧ s0 = .slice A1 n1 c1 ∧ IsNat wx A1 n1 c1 M ∧ M < 4294967296 ^ k ∧ Hid (xs ++ gs M = gs N) ∧ wx.ownsRow w.heap.size 93 1 s3 xs.length (gvs xs) ∧ (∀ b, s3.ownBlock = some b → ∀ a, A1 = some a → some a.block ≠ some b) ∧ Below w.heap.size w wx)
  case atStart => exact ⟨A, n, c, N, [], rfl, rfl, hA, Hk.out, rfl, World.ownsRow_nil _ _ _ _, fun b hb => by simp [Value.ownBlock] at hb, Below.refl _ _⟩
  case round =>
    obtain ⟨A1, n1, c1, M, xs, rfl, rfl, i1, hM, HX, hown, hne, hb⟩ := hrel
    have HM : Hid (M < 4294967296 ^ k) := hM
    have hn1 : n1 ≤ 10000000 := by have := i1.len hM; omega
    by_cases h0 : M = 0
    · subst h0
      obtain rfl := (nat_none i1).2 rfl
      have hx := HX.out
      rw [gs_zero, List.append_nil] at hx
      subst hx
      clear hM hne i1
      go_wp2
      go_ret
      exact ⟨_, rfl, hown, hb⟩
    · have hn0 : 0 < n1 := by have := mt (nat_none i1).1 h0; omega
      have hlen : xs.length + (gs M).length = (gs N).length := by rw [← HX.out, List.length_append]
      have hg := gs_pos h0
      have hg1 : (gs M).length = (gs (M / 1000000000)).length + 1 := by rw [hg, List.length_cons]
      have HX2 : Hid ((xs ++ [M % 1000000000]) ++ gs (M / 1000000000) = gs N) := by
        show _ = _
        rw [← HX.out, hg, List.append_assoc]; rfl
      have HM2 : Hid (M / 1000000000 < 4294967296 ^ k) := Nat.lt_of_le_of_lt (Nat.div_le_self _ _) HM.out
      have HG1 := Lib.hid hg1
      have Hlen : Hid (xs.length + (gs M).length = (gs N).length) := hlen
      have hr := Nat.mod_lt M (show 1000000000 > 0 by omega)
      have hlt := hown.lt
      have hbs := hb.size
      have hxl : xs.length ≤ 20000000 := by omega
      clear hM hg hg1 hlen
      go_wp2_with fail
      refine (divSmall_new A1 n1 c1 M 1000000000 _ (by obtain ⟨_, _, f, a1, a2, _, a3⟩ := i1; exact ⟨f, a1, a2, a3⟩) (by omega) (by omega) (by omega)).mono ?_
      rintro e W1 ⟨n2, c2, rfl, i2, b2⟩
      have hown1 : W1.ownsRow w.heap.size 93 1 u3 xs.length (gvs xs) := hown.kept (grown_of_below b2 none) (by cases hv : u3.ownBlock <;> simp)
      have hb1 := below_more hb (Nat.le_refl _) b2
      have hs2 := b2.size
      have hs3 := hb1.size
      clear i1 hne hown hb
      generalize M % 1000000000 = r at *
      generalize hQ : M / 1000000000 = Q at *
      go_wp2_with (first | (at_builtin; refine wpList_append_own_at _ rfl _ _ 85 rfl w.heap.size 93 i0 (.int .u32 0) 1 4 Tryz.underlying85 hi hz0 hz1 hz2 rfl (by decide) _ _ _ rfl (hown1.alloc _) ⟨W1.heap.size, 0, none⟩ 1 1 [.int .u32 (r : Int)] rfl rfl ?c1 ?c2 ?c3 ?c4 ?c5 ?_))
      case c1 => exact cell_one_new _ _ _
      case c2 => intro u hu; simp at hu; subst hu; rfl
      case c3 => unfold maxLen; omega
      case c4 => omega
      case c5 => rw [World.size_alloc]; omega
      · intro v' W2 hown2 hgrow _ hv'
        have hlt1 := hown1.lt
        have hA2 : some wr.heap.size ≠ u3.ownBlock := fun e => by have := (hlt _ e.symm).2; omega
        have i3 : IsNat (W1.alloc (.cells #[.int .u32 (r : Int)] 93)) (some ⟨wr.heap.size, 0, none⟩) n2 c2 Q := i2.below (Nat.le_refl _) (below1 _ _)
        have i4 : IsNat W2 (some ⟨wr.heap.size, 0, none⟩) n2 c2 Q := isNat_grown i3 hgrow hA2
        have hne2 : ∀ b, v'.ownBlock = some b → ∀ a, (some ⟨wr.heap.size, 0, none⟩ : Option Addr) = some a → some a.block ≠ some b := by
          intro b hb' a ha
          injection ha with ha
          subst ha
          rcases hv' with h | h
          · rw [← hb', h]; exact hA2
          · rw [← hb', h]; intro e; injection e with e; have : wr.heap.size = W1.heap.size + 1 := e; omega
        have hb2 : Below w.heap.size w W2 := ((hb1.alloc (Nat.le_trans (Nat.le_refl _) hs3) _).grown hgrow (by rw [World.size_alloc]; omega) (fun k hk => (hlt1 k hk).1))
        rw [← gvs_snoc] at hown2
        have hl : xs.length + 1 = (xs ++ [r]).length := by simp
        rw [hl] at hown2
        clear hown1 hgrow hv' hlt hlt1 i2 i3 b2 hb1 hs2 hs3 hl
        go_wp2
        go_roundg (gs Q).length
        case measure => have := HG1.out; omega
        case rel => exact ⟨some ⟨wr.heap.size, 0, none⟩, n2, c2, Q, xs ++ [r], rfl, rfl, i4, HM2.out, HX2, hown2, hne2, hb2⟩
end Go.Proofs.YtgcogpfmhmmgdaaGreatDoor

namespace Go.Proofs.YtgcogpfmhmmgdaaGreatDoor
open Go.RowKit

abbrev tB : TypeId := 61
/-- A builder that has been written at least once, and holds these bytes. -/
abbrev BldAt (B b : Nat) (bs : List Value) (w : World) : Prop := Lib.BuilderAt 61 5 B b (.pointer (some ⟨b, 0, none⟩)) bs w
/-- A builder that holds these bytes. -/
abbrev Bld (B b : Nat) (bs : List Value) (w : World) : Prop := Lib.IsBuilder 61 5 B b bs w

/-- Blocks of another type than the builder's and its bytes' are as they were. -/
def KeepT (w w' : World) : Prop := ∀ (k : Nat) (cs : Array Value) (T : TypeId) (fz : Nat × Nat), w.heap[k]? = some (.cells cs T fz) → T ≠ 61 → T ≠ 5 → w'.heap[k]? = some (.cells cs T fz)
theorem KeepT.refl (w : World) : KeepT w w := fun _ _ _ _ h _ _ => h
theorem KeepT.trans {w w1 w2 : World} (h : KeepT w w1) (k : KeepT w1 w2) : KeepT w w2 := fun i cs T fz a b c => k i cs T fz (h i cs T fz a b c) b c
theorem heap_lt {w : World} {k : Nat} {o : Obj} (h : w.heap[k]? = some o) : k < w.heap.size := by
  rcases Nat.lt_or_ge k w.heap.size with h' | h'
  · exact h'
  · simp [Array.getElem?_eq_none h'] at h
theorem KeepT.below {w w' : World} (h : Below w.heap.size w w') : KeepT w w' := fun k _ _ _ a _ _ => (h.block k (heap_lt a)).trans a
theorem KeepT.grown {w w' : World} {B : Nat} {v : Value} {n : Nat} {xs : List Value} (hown : w.ownsRow B 5 1 v n xs) (hg : w.grownBy w' v.ownBlock) : KeepT w w' := fun k cs T fz a _ c => by
  rw [hg.block k (heap_lt a) (fun e => ?_)]
  · exact a
  · rcases hown.2 with ⟨rfl, _⟩ | ⟨g, cap, cur, rfl, _, hgg, _⟩
    · simp [Value.ownBlock] at e
    · simp only [Value.ownBlock, Option.some.injEq] at e
      subst e
      rw [hgg] at a
      injection a with a
      injection a with _ a _
      exact c a.symm
theorem KeepT.set {w : World} {b j : Nat} {cs0 : Array Value} {fz0 : Nat × Nat} (hb : w.heap[b]? = some (.cells cs0 61 fz0)) (u : Value) : KeepT w (w.setCell ⟨b, j, none⟩ u) := fun k cs T fz a c _ => by
  rw [Below.heap_setCell _ _ _ _ (fun e => ?_)]
  · exact a
  · have e : k = b := e
    subst e
    rw [hb] at a
    injection a with a
    injection a with _ a _
    exact c a.symm

theorem Tryz.sizeBld : (Tryz.prog.info? 61).map (·.size) = some 2 := by kernel_rfl
theorem Tryz.liesBld : liesAt Tryz.prog Tryz.prog.depth 61 (2 / Tryz.prog.cellsOf 61) 0 61 1 = true := by kernel_rfl

set_option maxRecDepth 100000 in
set_option maxHeartbeats 1000000 in
theorem check_old (b : Nat) (w : World) (h0 : w.cell? ⟨b, 0, none⟩ = some (.pointer (some ⟨b, 0, none⟩))) :
    Calls Tryz.prog 85 #[.pointer (some ⟨b, 0, none⟩)] w fun e w' => e = .returned (.tuple #[]) ∧ w' = w := by
  obtain ⟨j, hj, _⟩ := Option.map_eq_some_iff.1 Tryz.sizeBld
  go_enter Tryz.func85, Tryz.ntmps85
  go_wp2
  rw [Lib.run_neq_ptr_same w _ Tryz.underlying58 hj]
  go_wp2
  go_end0
  exact ⟨rfl, rfl⟩

set_option maxRecDepth 100000 in
set_option maxHeartbeats 1000000 in
theorem check_new (b : Nat) (w : World) (h0 : w.cell? ⟨b, 0, none⟩ = some (.pointer none)) (hsh : w.shape? b = some (61, 2)) (hfz : w.frozen? ⟨b, 0, none⟩ = false) :
    Calls Tryz.prog 85 #[.pointer (some ⟨b, 0, none⟩)] w fun e w' => e = .returned (.tuple #[]) ∧ w' = w.setCell ⟨b, 0, none⟩ (.pointer (some ⟨b, 0, none⟩)) := by
  obtain ⟨j, hj, hjs⟩ := Option.map_eq_some_iff.1 Tryz.sizeBld
  go_enter Tryz.func85, Tryz.ntmps85
  go_wp2
  rw [Lib.run_to_unsafe w ⟨b, 0, none⟩ Tryz.underlying58 Tryz.underlying118 hj (by rw [hjs]; decide) hsh (Nat.zero_lt_succ 1)]
  simp only [Result.andThen]
  rw [Oper.upon_value]
  go_wp2
  rw [run_callFunc_extern Tryz.func106 (by kernel_rfl) (by kernel_rfl) (by kernel_rfl) (e := Extern.AbiNoEscape.same) (by kernel_rfl), Lib.run_noEscape]
  simp only [Result.andThen]
  rw [Oper.upon_value]
  go_wp2
  rw [Lib.run_from_unsafe w ⟨b, 0, none⟩ Tryz.underlying118 Tryz.underlying58 hj hsh Tryz.liesBld]
  simp only [Result.andThen]
  rw [Oper.upon_value]
  go_wp2
  go_end0
  exact ⟨rfl, rfl⟩

/-- Behind copyCheck the builder is written, and holds what it held. -/
theorem check_any (B b : Nat) (bs : List Value) (w : World) (h : Bld B b bs w) :
    Calls Tryz.prog 85 #[.pointer (some ⟨b, 0, none⟩)] w fun e w' => e = .returned (.tuple #[]) ∧ BldAt B b bs w' ∧ Below B w w' ∧ KeepT w w' := by
  rcases h with h | h
  · refine (check_new b w h.cell0 h.shape h.frozen0).mono ?_
    rintro e w' ⟨rfl, rfl⟩
    obtain ⟨_, v, hbk, _⟩ := id h
    exact ⟨rfl, h.used _, (Below.refl B w).setCell (p := ⟨b, 0, none⟩) h.1 _, KeepT.set hbk _⟩
  · refine (check_old b w h.cell0).mono ?_
    rintro e w' ⟨rfl, rfl⟩
    exact ⟨rfl, h, Below.refl B _, KeepT.refl _⟩

theorem Tryz.infoByte : (Tryz.prog.info? 5).map (fun i => (i.zero, i.size, i.bytes)) = some (some (.int .u8 0), 1, 1) := by kernel_rfl

/-- The builder's own block while its row grows. -/
theorem bld_block {b : Nat} {v : Value} {p : Value} {w w' : World} (hbk : w.heap[b]? = some (.cells #[p, v] 61 (0, 0))) (hg : w.grownBy w' v.ownBlock) (hne : v.ownBlock ≠ some b) : w'.heap[b]? = some (.cells #[p, v] 61 (0, 0)) ∧ b < w.heap.size := by
  have hlt : b < w.heap.size := by
    rcases Nat.lt_or_ge b w.heap.size with h' | h'
    · exact h'
    · simp [Array.getElem?_eq_none h'] at hbk
  exact ⟨(hg.block b hlt (fun e => hne e.symm)).trans hbk, hlt⟩

set_option maxRecDepth 100000 in
set_option maxHeartbeats 2000000 in
theorem writeByte_any (B b : Nat) (bs : List Value) (c : Int) (w : World) (h : Bld B b bs w) (hlen : bs.length ≤ 1000000000) (hBw : B ≤ w.heap.size) :
    Calls Tryz.prog 107 #[.pointer (some ⟨b, 0, none⟩), .int .u8 c] w fun e w' => e = .returned .nilIface ∧ BldAt B b (bs ++ [.int .u8 c]) w' ∧ Below B w w' ∧ KeepT w w' := by
  obtain ⟨i0, hi, hz0, hz1, hz2⟩ := info_parts Tryz.infoByte
  go_enter Tryz.func107, Tryz.ntmps107
  go_wp2_with fail
  refine (check_any B b bs _ h).mono ?_
  rintro e w1 ⟨rfl, ⟨hB, v, hbk, hown, hne⟩, hb1, hk1⟩
  have c0 : w1.cell? ⟨b, 0, none⟩ = some (.pointer (some ⟨b, 0, none⟩)) := by rw [Lib.cell_of_heap hbk]; rfl
  have c1 : w1.cell? ⟨b, 1, none⟩ = some v := by rw [Lib.cell_of_heap hbk]; rfl
  have hs1 := hb1.size
  have hbk' : (w1.alloc (.cells #[.int .u8 c] 5)).heap[b]? = some (.cells #[.pointer (some ⟨b, 0, none⟩), v] 61 (0, 0)) := by
    rw [Lib.alloc_old w1 _ b (by
      rcases Nat.lt_or_ge b w1.heap.size with h' | h'
      · exact h'
      · simp [Array.getElem?_eq_none h'] at hbk)]
    exact hbk
  go_wp2_with (at_builtin; refine wpList_append_own_at _ rfl _ _ 59 rfl B 5 i0 (.int .u8 0) 1 1 Tryz.underlying59 hi hz0 hz1 hz2 rfl (by decide) _ _ _ rfl (hown.alloc _) ⟨w1.heap.size, 0, none⟩ 1 1 [.int .u8 c] rfl rfl ?c1 ?c2 ?c3 ?c4 ?c5 ?_)
  case c1 => exact cell_one_new _ _ _
  case c2 => intro u hu; simp at hu; subst hu; rfl
  case c3 => unfold maxLen; omega
  case c4 => omega
  case c5 => rw [World.size_alloc]; omega
  intro v' w2 hown' hgrow _ _
  obtain ⟨hb2, hlt⟩ := bld_block hbk' hgrow hne
  have d0 : w2.cell? ⟨b, 0, none⟩ = some (.pointer (some ⟨b, 0, none⟩)) := by rw [Lib.cell_of_heap hb2]; rfl
  have d1 : w2.cell? ⟨b, 1, none⟩ = some v := by rw [Lib.cell_of_heap hb2]; rfl
  have f1 : w2.frozen? ⟨b, 1, none⟩ = false := Lib.frozen_of_heap hb2 1
  obtain ⟨g, cap, rfl⟩ : ∃ g cap, v' = .slice (some ⟨g, 0, none⟩) (bs.length + 1) cap := by
    rcases hown'.2 with ⟨_, h0⟩ | ⟨g, cap, cur, hv, _⟩
    · omega
    · exact ⟨g, cap, hv⟩
  go_wp2
  go_ret
  refine ⟨rfl, Lib.BuilderAt.put hB hb2 (bs' := bs ++ [.int .u8 c]) (by simpa using hown') (by decide), ?_, ((hk1.trans (KeepT.below (below1 _ _))).trans (KeepT.grown (hown.alloc _) hgrow)).trans (KeepT.set hb2 _)⟩
  exact ((hb1.alloc (by omega) _).grown hgrow (by rw [World.size_alloc]; omega) (fun k hk => (hown.lt k hk).1)).setCell (p := ⟨b, 1, none⟩) hB _

set_option maxRecDepth 100000 in
set_option maxHeartbeats 2000000 in
theorem writeString_any (B b : Nat) (bs : List Value) (s : ByteArray) (w : World) (h : Bld B b bs w) (hlen : bs.length + s.size ≤ 1000000000) (hBw : B ≤ w.heap.size) :
    Calls Tryz.prog 49 #[.pointer (some ⟨b, 0, none⟩), .string s] w fun e w' => e = .returned (.tuple #[.int .i64 s.size, .nilIface]) ∧ BldAt B b (bs ++ Lib.strCells s) w' ∧ Below B w w' ∧ KeepT w w' := by
  obtain ⟨i0, hi, hz0, hz1, hz2⟩ := info_parts Tryz.infoByte
  go_enter Tryz.func49, Tryz.ntmps49
  go_wp2_with fail
  refine (check_any B b bs _ h).mono ?_
  rintro e w1 ⟨rfl, ⟨hB, v, hbk, hown, hne⟩, hb1, hk1⟩
  have c0 : w1.cell? ⟨b, 0, none⟩ = some (.pointer (some ⟨b, 0, none⟩)) := by rw [Lib.cell_of_heap hbk]; rfl
  have c1 : w1.cell? ⟨b, 1, none⟩ = some v := by rw [Lib.cell_of_heap hbk]; rfl
  have hs1 := hb1.size
  go_wp2_with (at_builtin; refine Lib.wpList_append_own_string _ rfl _ _ 59 9 rfl B 5 i0 Tryz.underlying59 Tryz.underlying9 hi hz0 hz1 hz2 _ _ _ rfl hown s rfl ?c3 ?c4 ?c5 ?_)
  case c3 => unfold maxLen; omega
  case c4 => omega
  case c5 => omega
  intro v' w2 hown' hgrow _
  obtain ⟨hb2, hlt⟩ := bld_block hbk hgrow hne
  have d0 : w2.cell? ⟨b, 0, none⟩ = some (.pointer (some ⟨b, 0, none⟩)) := by rw [Lib.cell_of_heap hb2]; rfl
  have d1 : w2.cell? ⟨b, 1, none⟩ = some v := by rw [Lib.cell_of_heap hb2]; rfl
  have f1 : w2.frozen? ⟨b, 1, none⟩ = false := Lib.frozen_of_heap hb2 1
  obtain ⟨ao, n', cap, rfl⟩ : ∃ ao n' cap, v' = .slice ao n' cap := by
    rcases hown'.2 with ⟨hv, _⟩ | ⟨g, cap, cur, hv, _⟩
    · exact ⟨_, _, _, hv⟩
    · exact ⟨_, _, _, hv⟩
  go_wp2
  go_ret2
  refine ⟨rfl, Lib.BuilderAt.put hB hb2 (bs' := bs ++ Lib.strCells s) (by simpa [Lib.strCells_length] using hown') (by decide), ?_, (hk1.trans (KeepT.grown hown hgrow)).trans (KeepT.set hb2 _)⟩
  exact (hb1.grown hgrow (by omega) (fun k hk => (hown.lt k hk).1)).setCell (p := ⟨b, 1, none⟩) hB _
end Go.Proofs.YtgcogpfmhmmgdaaGreatDoor
