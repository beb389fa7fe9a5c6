/- Plain words for the reference implementation of layer 1: leading zeros, bytes as numbers. No condition. Plain facts on digits to the base 256, told by a function of the place from the least one on, and on the bytes of a list, read from its end. No condition. What the reference implementation's trim and Canonical return. Condition: at most 10^9 bytes. -/
import Derived.Test.YtgcogpfmhmmgdaaGreatDoorQ20
import Derived.Test.YtgcogpfmhmmgdaaGreatDoorQ06
import Derived.Test.YtgcogpfmhmmgdaaGreatDoorQ08
import Derived.Test.YtgcogpfmhmmgdaaGreatDoorQ15
import Derived.Test.YtgcogpfmhmmgdaaGreatDoorQ09
import Derived.Laws.BitsAllLaws
import Derived.Deep.OwnRows
import Derived.Deep.LoopGhost

namespace Go.Proofs.YtgcogpfmhmmgdaaGreatDoor
open Go.RowKit

theorem trim_cons0 (l : List UInt8) : Lib.trimLeftB (0 :: l) 0 = Lib.trimLeftB l 0 := by simp [Lib.trimLeftB]
theorem trim_consN {b : UInt8} (l : List UInt8) (h : b ≠ 0) : Lib.trimLeftB (b :: l) 0 = b :: l := by simp [Lib.trimLeftB, h]
theorem trim_nil : Lib.trimLeftB [] 0 = [] := by rfl
theorem sg_zv9 (ng : Bool) (s : ByteArray) (h : vB s.data.toList ≠ 0) : sg (zv ng s) = ng := by
  unfold sg zv; cases ng <;> simp <;> omega
/-- A first byte that is not 0: the integer is canonical. -/
theorem canon_first {g : Bool} {b : UInt8} {l : List UInt8} (h : b ≠ 0) : sg (zv g ⟨(b :: l).toArray⟩) = g ∧ mg (zv g ⟨(b :: l).toArray⟩) = ⟨(b :: l).toArray⟩ := by
  have h1 : vB (⟨(b :: l).toArray⟩ : ByteArray).data.toList ≠ 0 := by
    show vB (b :: l) ≠ 0
    have := vB_ge (l := l) h
    have hp : 0 < 256 ^ l.length := Nat.pow_pos (by omega)
    omega
  refine ⟨sg_zv9 g _ h1, ?_⟩
  unfold mg
  rw [natAbs_zv]
  show (⟨(bytesOf (vB (b :: l))).toArray⟩ : ByteArray) = _
  rw [bytesOf_vB _ (by simpa using h)]
/-- What is left without leading zeros, and the sign. -/
theorem canon_trim (g : Bool) (l : List UInt8) : mg (zv g ⟨l.toArray⟩) = ⟨(Lib.trimLeftB l 0).toArray⟩ ∧ sg (zv g ⟨l.toArray⟩) = (g && !(Lib.trimLeftB l 0 == [])) := by
  have e : (zv g ⟨l.toArray⟩).natAbs = vB l := natAbs_zv g ⟨l.toArray⟩
  refine ⟨by unfold mg; rw [e, trim_bytes], ?_⟩
  rw [trim_bytes]
  by_cases h : vB l = 0
  · rw [h, bytesOf_zero]
    unfold sg zv
    have h2 : vB (⟨l.toArray⟩ : ByteArray).data.toList = 0 := h
    rw [h2]
    cases g <;> simp
  · have h2 : vB (⟨l.toArray⟩ : ByteArray).data.toList ≠ 0 := h
    rw [sg_zv9 g _ h2]
    have h3 : (bytesOf (vB l) == []) = false := by
      rw [beq_eq_false_iff_ne]
      intro e2
      exact h (bytesOf_nil.1 e2)
    rw [h3]; simp
theorem vB_take_succ {l : List UInt8} {k : Nat} {c : UInt8} (h : l[k]? = some c) : vB (l.take (k + 1)) = vB (l.take k) * 256 + c.toNat := by
  rw [List.take_add_one, h]
  exact vB_snoc _ _
theorem vB_app (a b : List UInt8) : vB (a ++ b) = vB a * 256 ^ b.length + vB b := by
  unfold vB
  rw [List.foldl_append]
  exact foldl_acc b _
theorem vB_take_le (l : List UInt8) (k : Nat) : vB (l.take k) ≤ vB l := by
  have h := vB_app (l.take k) (l.drop k)
  rw [List.take_append_drop] at h
  have h1 : vB (l.take k) * 1 ≤ vB (l.take k) * 256 ^ (l.drop k).length := Nat.mul_le_mul_left _ (Nat.pow_pos (by omega))
  omega
theorem or_256 (a b : Nat) (h : b < 256) : a * 256 ||| b = a * 256 + b := by
  have := Nat.two_pow_add_eq_or_of_lt (i := 8) (b := b) (by simpa using h) a
  rw [show (2 : Nat) ^ 8 = 256 from rfl, Nat.mul_comm] at this
  exact this.symm
theorem i64_or_nat (a b : Nat) (ha : a < 9223372036854775808) (hb : b < 9223372036854775808) : bits .or .i64 (a : Int) (b : Int) = ((a ||| b : Nat) : Int) := by
  have hx : a ||| b < 2 ^ 63 := Nat.or_lt_two_pow (by omega) (by omega)
  show IntKind.i64.wrap ((BitVec.ofInt 64 (a : Int) ||| BitVec.ofInt 64 (b : Int)).toNat : Int) = _
  rw [BitVec.toNat_or, ofInt_u64 a (by omega), ofInt_u64 b (by omega)]
  exact IntWalk.i64_in _ (by omega)
theorem i64_or_256 (a b : Nat) (ha : a * 256 + b < 9223372036854775808) (hb : b < 256) : bits .or .i64 ((a : Int) * 256) (b : Int) = ((a * 256 + b : Nat) : Int) := by
  obtain ⟨x, hx⟩ : ∃ x, x = a * 256 := ⟨_, rfl⟩
  have h := i64_or_nat x b (by omega) (by omega)
  have e1 : (x : Int) = (a : Int) * 256 := by rw [hx, Int.natCast_mul]; rfl
  have e2 : x ||| b = a * 256 + b := by rw [hx]; exact or_256 a b hb
  rw [e1, e2] at h
  exact h
/-- The order of canonical bytes. -/
theorem cmpN_len9 {A B : Nat} (h : (bytesOf A).length < (bytesOf B).length) : cmpN A B = -1 ∧ cmpN B A = 1 := by
  have hB := head_trim (bytesOf B)
  rw [trim_bytes, vB_bytesOf] at hB
  have a1 := vB_lt (bytesOf A)
  rw [vB_bytesOf] at a1
  have h2 := vB_len hB (by omega)
  rw [vB_bytesOf] at h2
  have h3 : (256 : Nat) ^ (bytesOf A).length ≤ 256 ^ ((bytesOf B).length - 1) := Nat.pow_le_pow_right (by omega) (by omega)
  have h4 : A < B := by omega
  unfold cmpN
  constructor
  · rw [if_pos h4]
  · rw [if_neg (by omega), if_pos h4]
end Go.Proofs.YtgcogpfmhmmgdaaGreatDoor

namespace Go.Proofs.YtgcogpfmhmmgdaaGreatDoor
open Go.RowKit

/-- The value of the first n digits of f, to the base 256. -/
def w8 (f : Nat → Nat) : Nat → Nat
  | 0 => 0
  | n + 1 => w8 f n + f n * 256 ^ n
def Dig8 (f : Nat → Nat) (n : Nat) : Prop := ∀ i, i < n → f i < 256
theorem w8_congr {f g : Nat → Nat} {n : Nat} (h : ∀ i, i < n → f i = g i) : w8 f n = w8 g n := by
  induction n with
  | zero => rfl
  | succ n ih => rw [w8, w8, ih (fun i hi => h i (by omega)), h n (by omega)]
theorem w8_lt {f : Nat → Nat} {n : Nat} (h : Dig8 f n) : w8 f n < 256 ^ n := by
  induction n with
  | zero => simp [w8]
  | succ n ih =>
    rw [w8, Nat.pow_succ]
    have h1 := ih (fun i hi => h i (by omega))
    have h2 := h n (by omega)
    have h3 : f n * 256 ^ n ≤ 255 * 256 ^ n := Nat.mul_le_mul_right _ (by omega)
    have hp : 0 < 256 ^ n := Nat.pow_pos (by omega)
    generalize 256 ^ n = P at *
    omega
theorem w8_upd (s : Nat → Nat) (k v : Nat) : w8 (upd s k v) (k + 1) = w8 s k + v * 256 ^ k := by
  rw [w8, upd_same, w8_congr (fun i hi => upd_lt s k v hi)]
theorem w8_set (p : Nat → Nat) {i n : Nat} (v : Nat) (h : i < n) : w8 (upd p i v) n + p i * 256 ^ i = w8 p n + v * 256 ^ i := by
  induction n with
  | zero => omega
  | succ n ih =>
    rw [w8, w8]
    by_cases e : i = n
    · subst e
      have e3 : w8 (upd p i v) i = w8 p i := w8_congr fun j hj => upd_lt p i v hj
      rw [upd_same, e3]
      omega
    · have := ih (by omega)
      have e2 : upd p i v n = p n := by simp [upd, show n ≠ i by omega]
      rw [e2]
      omega
theorem w8_zeros (p : Nat → Nat) {n m : Nat} (h : n ≤ m) (hz : ∀ i, n ≤ i → p i = 0) : w8 p m = w8 p n := by
  induction m with
  | zero => obtain rfl : n = 0 := by omega
            rfl
  | succ m ih =>
    by_cases e : n = m + 1
    · rw [e]
    · rw [w8, ih (by omega), hz m (by omega)]; simp
theorem dig8_upd {s : Nat → Nat} {k v : Nat} (h : Dig8 s k) (hv : v < 256) : Dig8 (upd s k v) (k + 1) := fun i hi => by
  by_cases e : i = k
  · subst e; rw [upd_same]; exact hv
  · rw [upd_lt _ _ _ (by omega)]; exact h i (by omega)
theorem dig8_set {p : Nat → Nat} {i n v : Nat} (h : Dig8 p n) (hv : v < 256) : Dig8 (upd p i v) n := fun j hj => by
  by_cases e : j = i
  · subst e; rw [upd_same]; exact hv
  · simp only [upd, if_neg e]; exact h j hj
theorem mul8_inner {p f g : Nat → Nat} {k m j y V t : Nat} (hj : j < m) (hv : w8 p (k + m) + y * 256 ^ (k + j) = V + f k * w8 g j * 256 ^ k) (ht : t = y + (p (k + j) + f k * g j)) :
    w8 (upd p (k + j) (t % 256)) (k + m) + t / 256 * 256 ^ (k + (j + 1)) = V + f k * w8 g (j + 1) * 256 ^ k := by
  have h1 := w8_set p (t % 256) (show k + j < k + m by omega)
  have h2 := Nat.div_add_mod t 256
  have h3 : f k * w8 g (j + 1) * 256 ^ k = f k * w8 g j * 256 ^ k + f k * g j * 256 ^ (k + j) := by
    rw [w8, Nat.mul_add, Nat.add_mul, Nat.pow_add]
    congr 1
    rw [← Nat.mul_assoc, Nat.mul_assoc (f k * g j), Nat.mul_comm (256 ^ j)]
  rw [h3, show k + (j + 1) = (k + j) + 1 by omega, Nat.pow_succ]
  generalize 256 ^ (k + j) = Q at *
  generalize t / 256 = a at *
  generalize t % 256 = r at *
  have h4 : (256 * a + r) * Q = (y + (p (k + j) + f k * g j)) * Q := by rw [h2, ht]
  rw [Nat.add_mul, Nat.add_mul, Nat.add_mul] at h4
  have h5 : a * (Q * 256) = 256 * a * Q := by rw [Nat.mul_comm Q, ← Nat.mul_assoc, Nat.mul_comm a]
  rw [h5]
  generalize 256 * a * Q = z1 at *
  generalize f k * g j * Q = z2 at *
  omega
theorem mul8_outer {p f g : Nat → Nat} {k m y : Nat} (hv : w8 p (k + m) + y * 256 ^ (k + m) = w8 f k * w8 g m + f k * w8 g m * 256 ^ k) :
    w8 (upd p (k + m) y) (k + 1 + m) = w8 f (k + 1) * w8 g m := by
  rw [show k + 1 + m = (k + m) + 1 by omega, w8_upd, hv, w8, Nat.add_mul, Nat.mul_assoc, Nat.mul_assoc, Nat.mul_comm (w8 g m)]
theorem add8_step {s f g : Nat → Nat} {k y t : Nat} (hv : w8 s k + y * 256 ^ k = w8 f k + w8 g k) (ht : t = y + f k + g k) :
    w8 (upd s k (t % 256)) (k + 1) + t / 256 * 256 ^ (k + 1) = w8 f (k + 1) + w8 g (k + 1) := by
  rw [w8_upd, w8, w8, Nat.pow_succ]
  have h2 := Nat.div_add_mod t 256
  generalize 256 ^ k = P at *
  generalize t / 256 = a at *
  generalize t % 256 = r at *
  have h4 : (256 * a + r) * P = (y + f k + g k) * P := by rw [h2, ht]
  rw [Nat.add_mul, Nat.add_mul, Nat.add_mul] at h4
  have h5 : a * (P * 256) = 256 * a * P := by rw [Nat.mul_comm P, ← Nat.mul_assoc, Nat.mul_comm a]
  rw [h5]
  omega
theorem sub8_step {s f g : Nat → Nat} {k y d z : Nat} (hv : w8 s k + w8 g k = w8 f k + y * 256 ^ k) (he : f k + 256 * z = g k + y + d) :
    w8 (upd s k d) (k + 1) + w8 g (k + 1) = w8 f (k + 1) + z * 256 ^ (k + 1) := by
  rw [w8_upd, w8, w8, Nat.pow_succ]
  generalize 256 ^ k = P at *
  have e : (f k + 256 * z) * P = (g k + y + d) * P := by rw [he]
  rw [Nat.add_mul, Nat.add_mul, Nat.add_mul] at e
  have e2 : z * (P * 256) = 256 * z * P := by rw [Nat.mul_comm P, ← Nat.mul_assoc, Nat.mul_comm z]
  rw [e2]
  omega

/-- The digits of a list of bytes, from its end. -/
def dg (l : List UInt8) : Nat → Nat := fun j => if j < l.length then (l.getD (l.length - 1 - j) 0).toNat else 0
theorem dg_lt (l : List UInt8) (j : Nat) : dg l j < 256 := by
  unfold dg
  split
  · exact (l.getD (l.length - 1 - j) 0).toNat_lt
  · omega
theorem dg_out {l : List UInt8} {j : Nat} (h : l.length ≤ j) : dg l j = 0 := if_neg (by omega)
theorem dg_at {l : List UInt8} {j : Nat} (h : j < l.length) : ∃ c, l[l.length - 1 - j]? = some c ∧ c.toNat = dg l j := by
  refine ⟨l.getD (l.length - 1 - j) 0, ?_, ?_⟩
  · rw [List.getD_eq_getElem?_getD, List.getElem?_eq_getElem (by omega)]; rfl
  · unfold dg; rw [if_pos h]
theorem dg_cons (b : UInt8) (l : List UInt8) {j : Nat} (h : j < l.length) : dg (b :: l) j = dg l j := by
  unfold dg
  rw [if_pos h, if_pos (by rw [List.length_cons]; omega), List.length_cons, show l.length + 1 - 1 - j = (l.length - 1 - j) + 1 by omega]
  rfl
theorem dg_top (b : UInt8) (l : List UInt8) : dg (b :: l) l.length = b.toNat := by
  unfold dg
  rw [if_pos (by rw [List.length_cons]; omega), List.length_cons, show l.length + 1 - 1 - l.length = 0 by omega]
  rfl
theorem w8_dg (l : List UInt8) : w8 (dg l) l.length = vB l := by
  induction l with
  | nil => rfl
  | cons b l ih =>
    rw [List.length_cons, w8, dg_top, vB_cons, w8_congr (fun i hi => dg_cons b l hi), ih]
    omega
theorem w8_dg_le (l : List UInt8) {n : Nat} (h : l.length ≤ n) : w8 (dg l) n = vB l := by
  rw [w8_zeros (dg l) h (fun i hi => dg_out hi), w8_dg]
/-- The bytes of the first n digits. -/
def bl (g : Nat → Nat) : Nat → List UInt8
  | 0 => []
  | n + 1 => UInt8.ofNat (g n) :: bl g n
theorem bl_len (g : Nat → Nat) (n : Nat) : (bl g n).length = n := by
  induction n with
  | zero => rfl
  | succ n ih => rw [bl, List.length_cons, ih]
theorem toNat_of8 {n : Nat} (h : n < 256) : (UInt8.ofNat n).toNat = n := by simp; omega
theorem vB_bl {g : Nat → Nat} {n : Nat} (h : Dig8 g n) : vB (bl g n) = w8 g n := by
  induction n with
  | zero => rfl
  | succ n ih =>
    rw [bl, vB_cons, bl_len, ih (fun i hi => h i (by omega)), w8, toNat_of8 (h n (by omega))]
    omega
theorem bl_at {g : Nat → Nat} {n : Nat} (h : Dig8 g n) {i : Nat} {u : UInt8} (hu : (bl g n)[i]? = some u) : i < n ∧ u.toNat = g (n - 1 - i) := by
  induction n generalizing i with
  | zero => simp [bl] at hu
  | succ n ih =>
    cases i with
    | zero =>
      have : u = UInt8.ofNat (g n) := by simpa [bl] using hu.symm
      subst this
      exact ⟨by omega, by rw [toNat_of8 (h n (by omega))]; rfl⟩
    | succ i =>
      have h1 := ih (fun i hi => h i (by omega)) (i := i) (by simpa [bl] using hu)
      exact ⟨by omega, by rw [h1.2]; congr 1; omega⟩
/-- The row of n bytes whose digits, from its end, are g. -/
def rowR (n : Nat) (g : Nat → Nat) : Nat → Value := fun p => .int .u8 (g (n - 1 - p) : Int)
theorem rowR_set {w : World} {b n : Nat} {t : TypeId} {g : Nat → Nat} (h : w.rowIs b t n (rowR n g)) {k i v : Nat} (hk : k < n) (hi : i = n - 1 - k) {x : Int} (hx : x = (v : Int)) :
    (w.setCell ⟨b, i, none⟩ (.int .u8 x)).rowIs b t n (rowR n (upd g k v)) :=
  (h.set i _).congr fun j hj => by
    subst hx hi
    unfold rowR upd
    by_cases e : j = n - 1 - k
    · rw [if_pos e, if_pos (by omega)]
    · rw [if_neg e, if_neg (by omega)]
theorem rowR_cell {w : World} {b n : Nat} {t : TypeId} {g : Nat → Nat} (h : w.rowIs b t n (rowR n g)) (hd : Dig8 g n) (i : Nat) (u : UInt8) (hu : (bl g n)[i]? = some u) :
    w.cell? ⟨b, 0 + i, none⟩ = some (.int .u8 (u.toNat : Int)) := by
  have h1 := bl_at hd hu
  rw [Nat.zero_add, h.cell h1.1, h1.2]
  rfl
/-- The row of n machine integers whose digits, from its end, are g. -/
def rowI (n : Nat) (g : Nat → Nat) : Nat → Value := fun p => .int .i64 (g (n - 1 - p) : Int)
theorem rowI_set {w : World} {b n : Nat} {t : TypeId} {g : Nat → Nat} (h : w.rowIs b t n (rowI n g)) {k i v : Nat} (hk : k < n) (hi : i = n - 1 - k) {x : Int} (hx : x = (v : Int)) :
    (w.setCell ⟨b, i, none⟩ (.int .i64 x)).rowIs b t n (rowI n (upd g k v)) :=
  (h.set i _).congr fun j hj => by
    subst hx hi
    unfold rowI upd
    by_cases e : j = n - 1 - k
    · rw [if_pos e, if_pos (by omega)]
    · rw [if_neg e, if_neg (by omega)]
theorem bytesOf_w8 {g : Nat → Nat} {n N : Nat} (h : Dig8 g n) (e : w8 g n = N) : Lib.trimLeftB (bl g n) 0 = bytesOf N := by rw [trim_bytes, vB_bl h, e]
end Go.Proofs.YtgcogpfmhmmgdaaGreatDoor

namespace Go.Proofs.YtgcogpfmhmmgdaaGreatDoor
open Go.RowKit
set_option linter.unusedSimpArgs false
set_option linter.unusedVariables false

theorem run_tail_bytes (b : UInt8) (m : List UInt8) (w : World) :
    (Instr.slice 9 (.string ⟨(b :: m).toArray⟩) (some (.int .i64 1)) none none).run Tryz.prog w = .ok (.string ⟨m.toArray⟩) w := by
  rw [run_slice_string_l w 9 ⟨(b :: m).toArray⟩ Tryz.underlying9 .i64 1 (by omega) (by simp [ByteArray.size]; omega)]
  congr 2
  apply ByteArray.ext
  simp [ByteArray.size]
set_option maxRecDepth 100000 in
theorem rtrim_any (l : List UInt8) (w : World) (hl : l.length ≤ 1000000000) :
    Calls Tryz.prog 99 #[.string ⟨l.toArray⟩] w fun e w' => e = .returned (.string ⟨(Lib.trimLeftB l 0).toArray⟩) ∧ w' = w := by
  go_enter Tryz.func99, Tryz.ntmps99
  go_wp2_with fail
  go_loopg [0] l.length (fun g s0 wx => wx = w ∧ ∃ m : List UInt8, m.length = g ∧ s0 = .string ⟨m.toArray⟩ ∧ Hid (Lib.trimLeftB m 0 = Lib.trimLeftB l 0))
  case atStart => exact ⟨rfl, l, rfl, rfl, rfl⟩
  case round =>
    obtain ⟨rfl, m, hm, rfl, HM⟩ := hrel
    cases m with
    | nil =>
      have hg : gk = 0 := by rw [← hm]; rfl
      subst hg
      go_wp2
      go_ret
      exact ⟨by rw [← HM.out]; rfl, rfl⟩
    | cons b m =>
      have hix := run_index_bytes (b :: m) 0 b rfl 0 (by simp)
      have htl := run_tail_bytes b m
      have hb' := b.toNat_lt
      have hml : m.length + 1 = gk := hm
      by_cases hb : b = 0
      · subst hb
        have HM2 : Hid (Lib.trimLeftB m 0 = Lib.trimLeftB l 0) := by show _ = _; rw [← HM.out, trim_cons0]
        obtain ⟨g, rfl⟩ : ∃ g, gk = g + 1 := ⟨gk - 1, by omega⟩
        clear HM
        go_wp2
        go_roundg g
        case measure => omega
        case rel => exact ⟨rfl, m, by omega, rfl, HM2⟩
      · have hz : ((b.toNat : Int) == 0) = false := by
          rw [beq_eq_false_iff_ne]
          intro e
          exact hb (UInt8.toNat_inj.1 (by simpa using (by omega : b.toNat = 0)))
        have HM2 : Hid (Lib.trimLeftB l 0 = b :: m) := by show _ = _; rw [← HM.out, trim_consN m hb]
        clear HM
        go_wp2
        go_ret
        exact ⟨by rw [HM2.out]; rfl, rfl⟩
set_option maxRecDepth 100000 in
theorem rcanonical_any (g : Bool) (l : List UInt8) (w : World) (hl : l.length ≤ 1000000000) :
    Calls Tryz.prog 65 #[.agg #[.bool g, .string ⟨l.toArray⟩]] w (IntOut w (zv g ⟨l.toArray⟩)) := by
  have h := canon_trim g l
  have H1 := Lib.hid h.1
  have H2 := Lib.hid h.2
  clear h
  have hcase : (∃ b m, l = b :: m ∧ b ≠ 0) ∨ (l = [] ∨ ∃ m, l = 0 :: m) := by
    cases l with
    | nil => exact Or.inr (Or.inl rfl)
    | cons b m =>
      by_cases hb : b = 0
      · exact Or.inr (Or.inr ⟨m, by rw [hb]⟩)
      · exact Or.inl ⟨b, m, rfl, hb⟩
  rcases hcase with ⟨b, m, rfl, hb⟩ | hcase
  · have hix := run_index_bytes (b :: m) 0 b rfl 0 (by simp)
    have hb' := b.toNat_lt
    have hz : ((b.toNat : Int) != 0) = true := by
      rw [bne_iff_ne]
      intro e
      exact hb (UInt8.toNat_inj.1 (by simpa using (by omega : b.toNat = 0)))
    have H := canon_first (g := g) (l := m) hb
    have H3 := Lib.hid H.1
    have H4 := Lib.hid H.2
    clear H
    go_enter Tryz.func65, Tryz.ntmps65
    go_wp2
    exact bodyPost_ret (v := .agg #[.bool g, .string ⟨(b :: m).toArray⟩]) (by simp [results, Tryz.results65, go_sem]) rfl ⟨by rw [H3.out, H4.out], below2 w _ _⟩
  · obtain ⟨T, HT⟩ : ∃ T, Hid (Lib.trimLeftB l 0 = T) := ⟨_, Lib.hid rfl⟩
    rw [HT.out] at H1 H2
    have hc : T = [] ∨ ∃ c t, T = c :: t := by cases T with
      | nil => exact Or.inl rfl
      | cons c t => exact Or.inr ⟨c, t, rfl⟩
    rcases hcase with rfl | ⟨m, rfl⟩
    · have hT : T = [] := by rw [← HT.out]; rfl
      subst hT
      go_enter Tryz.func65, Tryz.ntmps65
      go_wp2_with fail
      refine (rtrim_any [] _ (by simp)).mono ?_
      rintro e W1 ⟨rfl, rfl⟩
      rw [HT.out]
      cases g
      all_goals
        go_wp2
        exact bodyPost_ret (v := .agg #[.bool false, .string ⟨#[]⟩]) (by simp [results, Tryz.results65, go_sem]) rfl ⟨by rw [H1.out, H2.out]; rfl, below2 w _ _⟩
    · have hix := run_index_bytes (0 :: m) 0 0 rfl 0 (by simp)
      go_enter Tryz.func65, Tryz.ntmps65
      go_wp2_with fail
      refine (rtrim_any (0 :: m) _ hl).mono ?_
      rintro e W1 ⟨rfl, rfl⟩
      rw [HT.out]
      rcases hc with rfl | ⟨c, t, rfl⟩
      · cases g
        all_goals
          go_wp2
          exact bodyPost_ret (v := .agg #[.bool false, .string ⟨#[]⟩]) (by simp [results, Tryz.results65, go_sem]) rfl ⟨by rw [H1.out, H2.out]; rfl, below2 w _ _⟩
      · cases g
        · go_wp2
          exact bodyPost_ret (v := .agg #[.bool false, .string ⟨(c :: t).toArray⟩]) (by simp [results, Tryz.results65, go_sem]) rfl ⟨by rw [H1.out, H2.out]; rfl, below2 w _ _⟩
        · go_wp2
          exact bodyPost_ret (v := .agg #[.bool true, .string ⟨(c :: t).toArray⟩]) (by simp [results, Tryz.results65, go_sem]) rfl ⟨by rw [H1.out, H2.out]; rfl, below2 w _ _⟩
end Go.Proofs.YtgcogpfmhmmgdaaGreatDoor
