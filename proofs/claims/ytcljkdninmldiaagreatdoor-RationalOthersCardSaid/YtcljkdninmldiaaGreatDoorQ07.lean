/- What integers are as values of the program, by their value in Lean. No condition. What the helpers of integer.Compare return: cmp.Compare of strings, cmp.Or. No condition but the sizes. -/
import Derived.Test.YtcljkdninmldiaaGreatDoorQ04
import Derived.Test.YtcljkdninmldiaaGreatDoorQ05
import Derived.Test.YtcljkdninmldiaaGreatDoorQ06
import Derived.Deep.RegionHeld3
import Derived.Deep.DeepCutAuto
import Derived.WalkLawsBesides

namespace Go.Proofs.YtcljkdninmldiaaGreatDoor
open Go.RowKit

/-- The value of an api.Int. -/
def zv (ng : Bool) (s : ByteArray) : Int := if ng then -(vB s.data.toList : Int) else (vB s.data.toList : Int)
/-- The sign and the bytes of the canonical api.Int with the value z. -/
def sg (z : Int) : Bool := decide (z < 0)
def mg (z : Int) : ByteArray := ⟨(bytesOf z.natAbs).toArray⟩
/-- v is an api.Int with the value z, of at most k digits to the base 2^32. -/
def IsInt (v : Value) (z : Int) (k : Nat) : Prop := ∃ ng s, v = .agg #[.bool ng, .string s] ∧ zv ng s = z ∧ s.size ≤ 1000000000 ∧ z.natAbs < 4294967296 ^ k ∧ k ≤ 10000000
def IntOut (w : World) (z : Int) (e : Ending) (w' : World) : Prop := e = .returned (.agg #[.bool (sg z), .string (mg z)]) ∧ Below w.heap.size w w'

theorem vB_mg (z : Int) : vB (mg z).data.toList = z.natAbs := vB_bytesOf _
theorem zv_mg (z : Int) : zv (sg z) (mg z) = z := by
  unfold zv sg
  rw [vB_mg]
  by_cases h : z < 0
  · simp [h]; omega
  · simp [h]; omega
theorem bytesOf_len {n k : Nat} (h : n < 256 ^ k) : (bytesOf n).length ≤ k := by
  rcases Nat.lt_or_ge k (bytesOf n).length with h1 | h1
  · exfalso
    have hh : (bytesOf n).head? ≠ some 0 := by
      have := head_trim (bytesOf n)
      rwa [trim_bytes, vB_bytesOf] at this
    have h2 := vB_len hh (by omega)
    rw [vB_bytesOf] at h2
    have h3 : (256 : Nat) ^ k ≤ 256 ^ ((bytesOf n).length - 1) := Nat.pow_le_pow_right (by omega) (by omega)
    omega
  · exact h1
theorem b256 (k : Nat) : (4294967296 : Nat) ^ k = 256 ^ (4 * k) := by rw [show (4294967296 : Nat) = 256 ^ 4 by rfl, ← Nat.pow_mul]
theorem mg_size {z : Int} {k : Nat} (h : z.natAbs < 4294967296 ^ k) : (mg z).size ≤ 4 * k := by
  rw [b256] at h
  exact bytesOf_len h
theorem isInt_mg {z : Int} {k : Nat} (h : z.natAbs < 4294967296 ^ k) (hk : k ≤ 10000000) : IsInt (.agg #[.bool (sg z), .string (mg z)]) z k :=
  ⟨_, _, rfl, zv_mg z, by have := mg_size h; omega, h, hk⟩
theorem ivN_eq (ng : Bool) (N : Nat) (z : Int) (hz : z = if ng then -(N : Int) else N) : ivN ng N = .agg #[.bool (sg z), .string (mg z)] := by
  subst hz
  have hn : (if ng then -(N : Int) else (N : Int)).natAbs = N := by cases ng <;> simp
  unfold ivN iv mg
  rw [hn]
  have hs : (ng && !(bytesOf N).isEmpty) = sg (if ng then -(N : Int) else (N : Int)) := by
    unfold sg
    by_cases h0 : N = 0
    · subst h0; rw [bytesOf_zero]; cases ng <;> simp
    · have : bytesOf N ≠ [] := fun e => h0 (bytesOf_nil.1 e)
      have h2 : (bytesOf N).isEmpty = false := by simpa using this
      rw [h2]
      cases ng <;> simp <;> omega
  rw [hs]
/-- The length of a number by its size. -/
theorem IsNat.len {w : World} {A : Option Addr} {n c N k : Nat} (h : IsNat w A n c N) (hN : N < 4294967296 ^ k) : n ≤ k := by
  obtain ⟨_, _, f, _, _, tf, hv⟩ := h
  rcases Nat.lt_or_ge k n with h1 | h1
  · exfalso
    have h2 := val_ge (f := f) (n := n) (by omega) (tf (by omega))
    have h3 : 4294967296 ^ k ≤ 4294967296 ^ (n - 1) := Nat.pow_le_pow_right (by omega) (by omega)
    omega
  · exact h1
theorem cell_keep {Wp W1 : World} {p : Addr} {v : Value} (h : Wp.cell? p = some v) (hb : Below Wp.heap.size Wp W1) : W1.cell? p = some v := (hb.cell (World.block_lt_of_cell? _ _ h)).trans h
theorem keep4 {Wp W1 : World} {p1 p2 p3 p4 : Addr} {v1 v2 v3 v4 : Value} (hb : Below Wp.heap.size Wp W1)
    (h : Wp.cell? p1 = some v1 ∧ Wp.cell? p2 = some v2 ∧ Wp.cell? p3 = some v3 ∧ Wp.cell? p4 = some v4) :
    W1.cell? p1 = some v1 ∧ W1.cell? p2 = some v2 ∧ W1.cell? p3 = some v3 ∧ W1.cell? p4 = some v4 :=
  ⟨cell_keep h.1 hb, cell_keep h.2.1 hb, cell_keep h.2.2.1 hb, cell_keep h.2.2.2 hb⟩
/-- A struct of the type api.Int that is new. -/
def ResCell (w : World) (b : Nat) : Prop := w.cell? ⟨b, 0, none⟩ = some (.bool false) ∧ w.cell? ⟨b, 1, none⟩ = some (.string ⟨#[]⟩) ∧ w.frozen? ⟨b, 0, none⟩ = false ∧ w.frozen? ⟨b, 1, none⟩ = false
theorem frozen_keep {Wp W1 : World} {p : Addr} {v : Value} {b : Bool} (h : Wp.cell? p = some v) (hf : Wp.frozen? p = b) (hb : Below Wp.heap.size Wp W1) : W1.frozen? p = b := (hb.frozen (World.block_lt_of_cell? _ _ h)).trans hf
theorem ResCell.keep {w w' : World} {b : Nat} (h : ResCell w b) (hb : Below w.heap.size w w') : ResCell w' b :=
  ⟨cell_keep h.1 hb, cell_keep h.2.1 hb, frozen_keep h.1 h.2.2.1 hb, frozen_keep h.2.1 h.2.2.2 hb⟩
theorem ResCell.new (w : World) (t : TypeId) : ResCell (w.alloc (.cells #[.bool false, .string ⟨#[]⟩] t)) w.heap.size := by
  refine ⟨?_, ?_, ?_, ?_⟩ <;> simp [go_sem]
theorem ResCell.drew {w : World} {b : Nat} (h : ResCell w b) : ResCell w.drew b := h
theorem below1 (w : World) (o1 : Obj) : Below w.heap.size w (w.alloc o1) := (Below.refl _ w).alloc (Nat.le_refl _) _
theorem below2 (w : World) (o1 o2 : Obj) : Below w.heap.size w ((w.alloc o1).alloc o2) := (below1 w o1).alloc (by rw [World.size_alloc]; omega) _
theorem below3 (w : World) (o1 o2 o3 : Obj) : Below w.heap.size w (((w.alloc o1).alloc o2).alloc o3) := (below2 w o1 o2).alloc (by rw [World.size_alloc, World.size_alloc]; omega) _
/-- A call more. -/
theorem below_more {B : Nat} {w w1 w2 : World} (h : Below B w w1) (hB : B ≤ w.heap.size) (k : Below w1.heap.size w1 w2) : Below B w w2 := h.trans (k.mono (by have := h.size; omega))
theorem below_more2 {B : Nat} {w w1 w2 : World} {p q : Addr} {u v : Value} (h : Below B w w1) (hB : B ≤ w.heap.size) (k : Below w1.heap.size w1 w2) (hp : B ≤ p.block) (hq : B ≤ q.block) : Below B w ((w2.setCell p u).setCell q v) :=
  ((below_more h hB k).setCell hp _).setCell hq _
theorem sum_bound {a b k1 k2 : Nat} (h1 : a < 4294967296 ^ k1) (h2 : b < 4294967296 ^ k2) : a + b < 4294967296 ^ (k1 + k2 + 1) := by
  have e1 : (4294967296 : Nat) ^ k1 ≤ 4294967296 ^ (k1 + k2) := Nat.pow_le_pow_right (by omega) (by omega)
  have e2 : (4294967296 : Nat) ^ k2 ≤ 4294967296 ^ (k1 + k2) := Nat.pow_le_pow_right (by omega) (by omega)
  rw [Nat.pow_succ]
  generalize (4294967296 : Nat) ^ (k1 + k2) = P at *
  omega
theorem prod_bound {a b k1 k2 : Nat} (h1 : a < 4294967296 ^ k1) (h2 : b < 4294967296 ^ k2) : a * b < 4294967296 ^ (k1 + k2) := by
  rw [Nat.pow_add]
  exact Nat.mul_lt_mul'' h1 h2
theorem zv_same (g : Bool) (sa sb : ByteArray) : zv g sa + zv g sb = if g then -((vB sa.data.toList + vB sb.data.toList : Nat) : Int) else ((vB sa.data.toList + vB sb.data.toList : Nat) : Int) := by
  unfold zv; cases g <;> simp; omega
theorem zv_lt (g : Bool) (sa sb : ByteArray) (h : vB sa.data.toList < vB sb.data.toList) : zv (!g) sa + zv g sb = if g then -((vB sb.data.toList - vB sa.data.toList : Nat) : Int) else ((vB sb.data.toList - vB sa.data.toList : Nat) : Int) := by
  unfold zv; cases g <;> simp <;> omega
theorem zv_ge (g : Bool) (sa sb : ByteArray) (h : ¬ vB sa.data.toList < vB sb.data.toList) : zv g sa + zv (!g) sb = if g then -((vB sa.data.toList - vB sb.data.toList : Nat) : Int) else ((vB sa.data.toList - vB sb.data.toList : Nat) : Int) := by
  unfold zv; cases g <;> simp <;> omega
theorem stz_eq (s : ByteArray) : stz s = bytesOf (vB s.data.toList) := trim_bytes _
theorem can_any (ng : Bool) (s : ByteArray) (w : World) : Calls Tryz.prog 80 #[.agg #[.bool ng, .string s]] w (IntOut w (zv ng s)) :=
  (canonical_any ng s w).mono fun e w' ⟨he, hb⟩ => ⟨by rw [he, stz_eq]; exact congrArg Ending.returned (ivN_eq ng _ _ rfl), hb⟩
theorem zv_neg (ng : Bool) (s : ByteArray) : zv (!ng) s = - zv ng s := by unfold zv; cases ng <;> simp
theorem zv_mul (na nb : Bool) (sa sb : ByteArray) : zv na sa * zv nb sb = if (na != nb) then -((vB sa.data.toList * vB sb.data.toList : Nat) : Int) else ((vB sa.data.toList * vB sb.data.toList : Nat) : Int) := by
  unfold zv; cases na <;> cases nb <;> simp [Int.mul_neg, Int.neg_mul]
theorem cell_alloc_keep {W : World} {p : Addr} {v : Value} (h : W.cell? p = some v) (o : Obj) : (W.alloc o).cell? p = some v := (World.cell?_alloc_lt W o p (World.block_lt_of_cell? _ _ h)).trans h
theorem keep4a {W : World} {o : Obj} {p1 p2 p3 p4 : Addr} {v1 v2 v3 v4 : Value}
    (h : W.cell? p1 = some v1 ∧ W.cell? p2 = some v2 ∧ W.cell? p3 = some v3 ∧ W.cell? p4 = some v4) :
    (W.alloc o).cell? p1 = some v1 ∧ (W.alloc o).cell? p2 = some v2 ∧ (W.alloc o).cell? p3 = some v3 ∧ (W.alloc o).cell? p4 = some v4 :=
  ⟨cell_alloc_keep h.1 o, cell_alloc_keep h.2.1 o, cell_alloc_keep h.2.2.1 o, cell_alloc_keep h.2.2.2 o⟩
theorem keep4aa {W : World} {o o2 : Obj} {p1 p2 p3 p4 : Addr} {v1 v2 v3 v4 : Value}
    (h : W.cell? p1 = some v1 ∧ W.cell? p2 = some v2 ∧ W.cell? p3 = some v3 ∧ W.cell? p4 = some v4) :
    ((W.alloc o).alloc o2).cell? p1 = some v1 ∧ ((W.alloc o).alloc o2).cell? p2 = some v2 ∧ ((W.alloc o).alloc o2).cell? p3 = some v3 ∧ ((W.alloc o).alloc o2).cell? p4 = some v4 := keep4a (keep4a h)
theorem bcell {W w1 : World} (hb : Below W.heap.size W w1) : (∀ b o, b < W.heap.size → w1.cell? ⟨b, o, none⟩ = W.cell? ⟨b, o, none⟩) ∧ (∀ b o, b < W.heap.size → w1.frozen? ⟨b, o, none⟩ = W.frozen? ⟨b, o, none⟩) :=
  ⟨fun b o h => hb.cell (p := ⟨b, o, none⟩) h, fun b o h => hb.frozen (p := ⟨b, o, none⟩) h⟩
abbrev Boxes2 (W : World) (b : Nat) (na nb : Bool) (sa sb : ByteArray) : Prop :=
  W.cell? ⟨b, 0, none⟩ = some (.bool na) ∧ W.cell? ⟨b, 1, none⟩ = some (.string sa) ∧ W.cell? ⟨b + 1, 0, none⟩ = some (.bool nb) ∧ W.cell? ⟨b + 1, 1, none⟩ = some (.string sb)
theorem boxes2 (w : World) (t : TypeId) (na nb : Bool) (sa sb : ByteArray) :
    (((w.alloc (.cells #[.bool na, .string sa] t)).alloc (.cells #[.bool nb, .string sb] t))).cell? ⟨w.heap.size, 0, none⟩ = some (.bool na) ∧
    (((w.alloc (.cells #[.bool na, .string sa] t)).alloc (.cells #[.bool nb, .string sb] t))).cell? ⟨w.heap.size, 1, none⟩ = some (.string sa) ∧
    (((w.alloc (.cells #[.bool na, .string sa] t)).alloc (.cells #[.bool nb, .string sb] t))).cell? ⟨w.heap.size + 1, 0, none⟩ = some (.bool nb) ∧
    (((w.alloc (.cells #[.bool na, .string sa] t)).alloc (.cells #[.bool nb, .string sb] t))).cell? ⟨w.heap.size + 1, 1, none⟩ = some (.string sb) := by
  refine ⟨?_, ?_, ?_, ?_⟩ <;> simp [go_sem]
theorem boxes_alloc {W : World} {o : Obj} {b : Nat} {na nb : Bool} {sa sb : ByteArray} (h : Boxes2 W b na nb sa sb) : Boxes2 (W.alloc o) b na nb sa sb := keep4a h
theorem boxes_drew {W : World} {b : Nat} {na nb : Bool} {sa sb : ByteArray} (h : Boxes2 W b na nb sa sb) : Boxes2 W.drew b na nb sa sb := h
theorem boxes_set {W : World} {p : Addr} {u : Value} {b : Nat} {na nb : Bool} {sa sb : ByteArray} (h : Boxes2 W b na nb sa sb) (h1 : p.block ≠ b) (h2 : p.block ≠ b + 1) : Boxes2 (W.setCell p u) b na nb sa sb := by
  refine ⟨?_, ?_, ?_, ?_⟩
  · rw [World.cell?_setCell_far _ _ _ _ (by exact h1)]; exact h.1
  · rw [World.cell?_setCell_far _ _ _ _ (by exact h1)]; exact h.2.1
  · rw [World.cell?_setCell_far _ _ _ _ (by exact h2)]; exact h.2.2.1
  · rw [World.cell?_setCell_far _ _ _ _ (by exact h2)]; exact h.2.2.2
theorem natAbs_zv (ng : Bool) (s : ByteArray) : (zv ng s).natAbs = vB s.data.toList := by unfold zv; cases ng <;> simp
end Go.Proofs.YtcljkdninmldiaaGreatDoor

namespace Go.Proofs.YtcljkdninmldiaaGreatDoor
open Go.RowKit

theorem isNaNs_any (s : ByteArray) (w : World) : Calls Tryz.prog 118 #[.string s] w fun e w' => e = .returned (.bool false) ∧ w = w' := by
  have h : (s.data.toList != s.data.toList) = false := by simp
  go_enter Tryz.func118, Tryz.ntmps118
  go_wp2
  go_ret
  exact ⟨by simp, rfl⟩

def cmpS (a b : List UInt8) : Int := if Op.bytesLess a b then -1 else if a = b then 0 else 1

set_option maxHeartbeats 800000 in
theorem cmpStr_any (a b : ByteArray) (w : World) : Calls Tryz.prog 91 #[.string a, .string b] w fun e w' => e = .returned (.int .i64 (cmpS a.toList b.toList)) ∧ w = w' := by
  go_enter Tryz.func91, Tryz.ntmps91
  go_wp2_with (go_at_call 118; refine (isNaNs_any _ _).mono ?_; rintro e w' ⟨rfl, rfl⟩)
  · have h1 : Op.bytesLess a.toList b.toList = true := by assumption
    go_ret
    exact ⟨by unfold cmpS; rw [if_pos h1]; rfl, rfl⟩
  · have h1 : Op.bytesLess a.toList b.toList = false := by assumption
    have h2 : (!a.toList == b.toList) = true := by assumption
    go_ret
    exact ⟨by unfold cmpS; rw [if_neg (by rw [h1]; simp), if_neg (by simpa using h2)]; rfl, rfl⟩
  · have h1 : Op.bytesLess a.toList b.toList = false := by assumption
    have h2 : (!a.toList == b.toList) = false := by assumption
    go_ret
    exact ⟨by unfold cmpS; rw [if_neg (by rw [h1]; simp), if_pos (by simpa using h2)]; rfl, rfl⟩

def orI (x y : Int) : Int := if x = 0 then y else x
theorem or_any (b : Nat) (x y : Int) (w : World) (h0 : w.cell? ⟨b, 0, none⟩ = some (.int .i64 x)) (h1 : w.cell? ⟨b, 1, none⟩ = some (.int .i64 y)) :
    Calls Tryz.prog 89 #[.slice (some ⟨b, 0, none⟩) 2 2] w fun e w' => e = .returned (.int .i64 (orI x y)) ∧ w = w' := by
  go_enter Tryz.func89, Tryz.ntmps89
  go_wp2
  go_loopg [8] 2 (fun g i wx => wx = w ∧ ∃ k : Nat, k + g = 2 ∧ i = .int .i64 k ∧ (k = 1 → x = 0) ∧ (k = 2 → x = 0 ∧ y = 0))
  case atStart => exact ⟨rfl, 0, rfl, rfl, by omega, by omega⟩
  case round =>
    obtain ⟨rfl, k, hk, rfl, hx, hy⟩ := hrel
    rcases (show k = 0 ∨ k = 1 ∨ k = 2 by omega) with rfl | rfl | rfl
    · obtain rfl : gk = 2 := by omega
      clear hx hy hk
      by_cases hz : x = 0
      · have hzb : (x != 0) = false := by simp [hz]
        have Hz : Hid (x = 0) := hz
        clear hz
        go_wp2
        go_roundg 1
        case measure => omega
        case rel => exact ⟨rfl, 1, rfl, rfl, fun _ => Hz.out, fun h => by omega⟩
      · have hzb : (x != 0) = true := by simp [hz]
        go_wp2
        go_ret
        exact ⟨by unfold orI; rw [if_neg hz]; rfl, rfl⟩
    · obtain rfl : gk = 1 := by omega
      have Hx : Hid (x = 0) := hx rfl
      clear hx hy hk
      by_cases hz : y = 0
      · have hzb : (y != 0) = false := by simp [hz]
        have Hz : Hid (y = 0) := hz
        clear hz
        go_wp2
        go_roundg 0
        case measure => omega
        case rel => exact ⟨rfl, 2, rfl, rfl, fun h => by omega, fun _ => ⟨Hx.out, Hz.out⟩⟩
      · have hzb : (y != 0) = true := by simp [hz]
        go_wp2
        go_ret
        exact ⟨by unfold orI; rw [if_pos Hx.out]; rfl, rfl⟩
    · have Hy : Hid (x = 0 ∧ y = 0) := hy rfl
      clear hx hy hk
      go_wp2
      go_ret
      exact ⟨by unfold orI; rw [if_pos Hy.out.1, Hy.out.2]; rfl, rfl⟩

theorem bytesLess_eq_len : ∀ (a b : List UInt8), a.length = b.length → (Op.bytesLess a b = decide (vB a < vB b)) := by
  intro a
  induction a with
  | nil => intro b hb; cases b with
    | nil => simp [Op.bytesLess, vB]
    | cons c b => simp at hb
  | cons x a ih =>
    intro b hb
    cases b with
    | nil => simp at hb
    | cons y b =>
      have hl : a.length = b.length := by simpa using hb
      have h1 := vB_lt a
      have h2 := vB_lt b
      rw [hl] at h1
      rw [vB_cons, vB_cons, hl]
      have hp : 0 < 256 ^ b.length := Nat.pow_pos (by omega)
      simp only [Op.bytesLess]
      by_cases e1 : x < y
      · have e2 : x.toNat < y.toNat := e1
        have e3 : (x.toNat + 1) * 256 ^ b.length ≤ y.toNat * 256 ^ b.length := Nat.mul_le_mul_right _ e2
        rw [Nat.add_mul] at e3
        have : x.toNat * 256 ^ b.length + vB a < y.toNat * 256 ^ b.length + vB b := by omega
        simp [e1, this]
      · by_cases e2 : y < x
        · have e4 : y.toNat < x.toNat := e2
          have e3 : (y.toNat + 1) * 256 ^ b.length ≤ x.toNat * 256 ^ b.length := Nat.mul_le_mul_right _ e4
          rw [Nat.add_mul] at e3
          have : ¬ x.toNat * 256 ^ b.length + vB a < y.toNat * 256 ^ b.length + vB b := by omega
          simp [e1, this]
          intro e5
          subst e5
          omega
        · have e5 : x = y := by
            apply UInt8.toNat_inj.1
            have a1 : ¬ x.toNat < y.toNat := e1
            have a2 : ¬ y.toNat < x.toNat := e2
            omega
          subst e5
          simp [ih b hl]

/-- The order of two integers. -/
def cmpZ (a b : Int) : Int := if a < b then -1 else if b < a then 1 else 0

/-- The order of canonical bytes of numbers from 0 on. -/
theorem cmp_mg (A B : Nat) : orI (Lib.compareInt (bytesOf A).length (bytesOf B).length) (cmpS (bytesOf A) (bytesOf B)) = cmpN A B := by
  have hA := head_trim (bytesOf A)
  rw [trim_bytes, vB_bytesOf] at hA
  have hB := head_trim (bytesOf B)
  rw [trim_bytes, vB_bytesOf] at hB
  have a1 := vB_lt (bytesOf A)
  have b1 := vB_lt (bytesOf B)
  rw [vB_bytesOf] at a1 b1
  unfold orI Lib.compareInt cmpN
  rcases Nat.lt_trichotomy (bytesOf A).length (bytesOf B).length with h | h | h
  · have h2 := vB_len hB (by omega)
    rw [vB_bytesOf] at h2
    have h3 : (256 : Nat) ^ (bytesOf A).length ≤ 256 ^ ((bytesOf B).length - 1) := Nat.pow_le_pow_right (by omega) (by omega)
    have h4 : A < B := by omega
    have h5 : ((bytesOf A).length : Int) < ((bytesOf B).length : Int) := by omega
    simp [h4, h5]
  · have h5 : ¬ ((bytesOf A).length : Int) < ((bytesOf B).length : Int) := by omega
    have h6 : ¬ ((bytesOf B).length : Int) < ((bytesOf A).length : Int) := by omega
    have e := bytesLess_eq_len (bytesOf A) (bytesOf B) h
    rw [vB_bytesOf, vB_bytesOf] at e
    have e2 : bytesOf A = bytesOf B ↔ A = B := ⟨fun h => by rw [← vB_bytesOf A, h, vB_bytesOf], fun h => by rw [h]⟩
    simp only [h5, h6, if_false, if_true, cmpS, e, decide_eq_true_eq, e2]
    by_cases h7 : A < B
    · simp [h7]
    · by_cases h8 : A = B
      · simp [h8]
      · have h9 : B < A := by omega
        simp [h7, h8, h9]
  · have h2 := vB_len hA (by omega)
    rw [vB_bytesOf] at h2
    have h3 : (256 : Nat) ^ (bytesOf B).length ≤ 256 ^ ((bytesOf A).length - 1) := Nat.pow_le_pow_right (by omega) (by omega)
    have h4 : ¬ A < B := by omega
    have h4' : B < A := by omega
    have h5 : ¬ ((bytesOf A).length : Int) < ((bytesOf B).length : Int) := by omega
    have h6 : ((bytesOf B).length : Int) < ((bytesOf A).length : Int) := by omega
    simp [h4, h4', h5, h6]

/-- Two variables of the type api.Int. -/
def TwoInts (w : World) (g1 g2 : Nat) (z1 z2 : Int) : Prop :=
  w.cell? ⟨g1, 0, none⟩ = some (.bool (sg z1)) ∧ w.cell? ⟨g1, 1, none⟩ = some (.string (mg z1)) ∧ w.cell? ⟨g2, 0, none⟩ = some (.bool (sg z2)) ∧ w.cell? ⟨g2, 1, none⟩ = some (.string (mg z2))

theorem set_same {W : World} {p : Addr} {u x : Value} (h : W.cell? p = some u) : (W.setCell p x).cell? p = some x := World.cell?_setCell_same' _ _ _ (by rw [h]; rfl)
theorem set_other {W : World} {p q : Addr} {u x : Value} (h : W.cell? q = some u) (hne : p ≠ q) : (W.setCell p x).cell? q = some u := by rw [World.cell?_setCell_other _ _ _ _ (fun e => hne (by first | exact e | exact e.symm))]; exact h
theorem two_set {W : World} {g1 g2 : Nat} {z1 z2 : Int} {u1 u2 u3 u4 : Value} (hne : g1 ≠ g2) (h1 : W.cell? ⟨g1, 0, none⟩ = some u1) (h2 : W.cell? ⟨g1, 1, none⟩ = some u2) (h3 : W.cell? ⟨g2, 0, none⟩ = some u3) (h4 : W.cell? ⟨g2, 1, none⟩ = some u4) :
    TwoInts ((((W.setCell ⟨g1, 0, none⟩ (.bool (sg z1))).setCell ⟨g1, 1, none⟩ (.string (mg z1))).setCell ⟨g2, 0, none⟩ (.bool (sg z2))).setCell ⟨g2, 1, none⟩ (.string (mg z2))) g1 g2 z1 z2 := by
  have n1 : (⟨g1, 0, none⟩ : Addr) ≠ ⟨g1, 1, none⟩ := by simp
  have n2 : (⟨g2, 0, none⟩ : Addr) ≠ ⟨g2, 1, none⟩ := by simp
  have n3 : ∀ i j, (⟨g1, i, none⟩ : Addr) ≠ ⟨g2, j, none⟩ := fun i j e => hne (by injection e)
  have n4 : ∀ i j, (⟨g2, i, none⟩ : Addr) ≠ ⟨g1, j, none⟩ := fun i j e => hne (by injection e with e1; exact e1.symm)
  refine ⟨set_other (set_other (set_other (set_same h1) n1.symm) (n4 _ _)) (n4 _ _), set_other (set_other (set_same (set_other h2 n1)) (n4 _ _)) (n4 _ _), set_other (set_same (set_other (set_other h3 (n3 _ _)) (n3 _ _))) n2.symm, set_same (set_other (set_other (set_other h4 (n3 _ _)) (n3 _ _)) n2)⟩
theorem cmp_abs (z1 z2 : Int) : orI (Lib.compareInt ((mg z1).size : Int) ((mg z2).size : Int)) (cmpS (mg z1).toList (mg z2).toList) = cmpN z1.natAbs z2.natAbs := by
  have h := cmp_mg z1.natAbs z2.natAbs
  unfold mg
  rw [ByteArray.toList_mk, ByteArray.toList_mk]
  exact h
theorem cmpZ_sign {z1 z2 : Int} (h : sg z1 ≠ sg z2) : cmpZ z1 z2 = if sg z1 = true then -1 else 1 := by
  unfold sg at *
  unfold cmpZ
  by_cases a : z1 < 0 <;> by_cases b : z2 < 0 <;> simp [a, b] at h ⊢ <;> omega
theorem cmpZ_neg {z1 z2 : Int} (h1 : z1 < 0) (h2 : z2 < 0) : cmpZ z1 z2 = - cmpN z1.natAbs z2.natAbs := by
  unfold cmpZ cmpN
  rcases Int.lt_trichotomy z1 z2 with h | h | h
  · rw [if_pos h, if_neg (by omega), if_pos (by omega)]
  · subst h; simp
  · rw [if_neg (by omega), if_pos h, if_pos (by omega)]; rfl
theorem cmpZ_pos {z1 z2 : Int} (h1 : ¬ z1 < 0) (h2 : ¬ z2 < 0) : cmpZ z1 z2 = cmpN z1.natAbs z2.natAbs := by
  unfold cmpZ cmpN
  rcases Int.lt_trichotomy z1 z2 with h | h | h
  · rw [if_pos h, if_pos (by omega)]
  · subst h; simp
  · rw [if_neg (by omega), if_pos h, if_neg (by omega), if_pos (by omega)]
theorem cmpN_abs (a b : Nat) : -1 ≤ cmpN a b ∧ cmpN a b ≤ 1 := by unfold cmpN; split <;> (try split) <;> omega

end Go.Proofs.YtcljkdninmldiaaGreatDoor
