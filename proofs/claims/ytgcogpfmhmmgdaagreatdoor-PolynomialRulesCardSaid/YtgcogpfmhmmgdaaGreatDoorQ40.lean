/- What the polynomials' functions return, in the form that the laws want. Condition: coefficients below 2^128, lists of at most 33. Plain words for the reference implementation of layer 1: leading zeros, bytes as numbers. No condition. Plain facts on digits to the base 256, told by a function of the place from the least one on, and on the bytes of a list, read from its end. No condition. -/
import Derived.Test.YtgcogpfmhmmgdaaGreatDoorQ39
import Derived.Test.YtgcogpfmhmmgdaaGreatDoorQ33
import Derived.Test.YtgcogpfmhmmgdaaGreatDoorQ18
import Derived.Test.YtgcogpfmhmmgdaaGreatDoorQ06
import Derived.Test.YtgcogpfmhmmgdaaGreatDoorQ08
import Derived.Test.YtgcogpfmhmmgdaaGreatDoorQ13
import Derived.Test.YtgcogpfmhmmgdaaGreatDoorQ09
import Derived.Laws.BitsAllLaws
import Derived.Deep.OwnRows

namespace Go.Proofs.YtgcogpfmhmmgdaaGreatDoor
open Go.RowKit Go.Shelf
set_option linter.unusedSimpArgs false
set_option linter.unusedVariables false

/-- What returns a list that can be read. -/
def ListOut (w : World) (L : List Int) (e : Ending) (w' : World) : Prop := ∃ v, e = .returned v ∧ PolyS w' v L ∧ Below w.heap.size w w'
def MulOut (w : World) (L : List Int) (e : Ending) (w' : World) : Prop := ∃ v, e = .returned (.tuple #[v, .int .i64 0]) ∧ PolyS w' v L ∧ Below w.heap.size w w'
theorem polyS_nil (W : World) : PolyS W (.slice none 0 0) [] := ⟨none, 0, rfl, Nat.le_refl _, fun i hi => absurd hi (Nat.not_lt_zero _)⟩
theorem mulG {v1 v2 : Value} {L M : List Int} {w : World} (h1 : PolyAt w v1 L 4) (h2 : PolyAt w v2 M 4) (hL : L.length ≤ 33) (hM : M.length ≤ 33) :
    Calls Tryz.prog 22 #[v1, v2] w (MulOut w (trm (prodL L M))) := by
  have t1 := trm_len L
  have t2 := trm_len M
  by_cases h0 : trm L = []
  · refine (pmul_zero1 v1 v2 L M 4 w h1 h2 (by omega) h0).mono ?_
    rintro e W ⟨rfl, hb⟩
    exact ⟨_, rfl, by rw [trm_mul_zero L M (.inl h0)]; exact polyS_nil _, hb⟩
  · by_cases h00 : trm M = []
    · refine (pmul_zero2 v1 v2 L M 4 w h1 h2 (by omega) (by omega) h0 h00).mono ?_
      rintro e W ⟨rfl, hb⟩
      exact ⟨_, rfl, by rw [trm_mul_zero L M (.inr h00)]; exact polyS_nil _, hb⟩
    · refine (pmul_pos v1 v2 L M _ 4 w h1 h2 (by omega) (by omega) (by omega) h0 h00 (by omega) rfl).mono ?_
      rintro e W ⟨v, rfl, hP, hb⟩
      exact ⟨v, rfl, hP.polyS, hb⟩
theorem pb_trm {L : List Int} {k : Nat} (h : PB L k) : PB (trm L) k := fun i => by rw [co_trm]; exact h i
theorem addG {v1 v2 : Value} {L M : List Int} {w : World} (h1 : PolyAt w v1 L 4) (h2 : PolyAt w v2 M 4) (hL : L.length ≤ 33) (hM : M.length ≤ 33) (hb : PB (addL L M) 5) :
    Calls Tryz.prog 12 #[v1, v2] w (ListOut w (trm (addL L M))) := by
  refine (padd_any v1 v2 L M _ 4 5 w h1 h2 (by omega) (by omega) (by omega) (trm_trm _) (fun i => by rw [co_trm, co_addL]) (pb_trm hb) (by omega)).mono ?_
  rintro e W ⟨v, rfl, hP, hb⟩
  exact ⟨v, rfl, hP.polyS, hb⟩
theorem subG {v1 v2 : Value} {L M : List Int} {w : World} (h1 : PolyAt w v1 L 4) (h2 : PolyAt w v2 M 4) (hL : L.length ≤ 33) (hM : M.length ≤ 33) (hb : PB (subL L M) 5) :
    Calls Tryz.prog 14 #[v1, v2] w (ListOut w (trm (subL L M))) := by
  refine (psub_any v1 v2 L M _ 4 5 w h1 h2 (by omega) (by omega) (by omega) (trm_trm _) (fun i => by rw [co_trm, co_subL]) (pb_trm hb) (by omega)).mono ?_
  rintro e W ⟨v, rfl, hP, hb⟩
  exact ⟨v, rfl, hP.polyS, hb⟩
theorem canG {v1 : Value} {L : List Int} {w : World} (h1 : PolyAt w v1 L 4) (hL : L.length ≤ 33) :
    Calls Tryz.prog 8 #[v1] w (ListOut w (trm L)) := by
  refine (pcan_any v1 L _ 4 w h1 (by omega) (by omega) rfl (by omega)).mono ?_
  rintro e W ⟨v, rfl, hP, hb⟩
  exact ⟨v, rfl, hP.polyS, hb⟩
/-- Coefficients of at most N. -/
def BD (L : List Int) (N : Nat) : Prop := ∀ i, (co L i).natAbs ≤ N
theorem BD.trm {L : List Int} {N : Nat} (h : BD L N) : BD (trm L) N := fun i => by rw [co_trm]; exact h i
theorem BD.add {L M : List Int} {N K : Nat} (h : BD L N) (h' : BD M K) : BD (addL L M) (N + K) := fun i => by
  have := h i
  have := h' i
  rw [co_addL]; omega
theorem BD.sub {L M : List Int} {N K : Nat} (h : BD L N) (h' : BD M K) : BD (subL L M) (N + K) := fun i => by
  have := h i
  have := h' i
  rw [co_subL]; omega
theorem BD.mul {L M : List Int} {N K a b : Nat} (h : BD L N) (h' : BD M K) (hL : L.length ≤ a) (hM : M.length ≤ b) : BD (prodL L M) (a * (b * (N * K))) := fun i => by
  rw [co_prodL, ← accX_full]
  refine Nat.le_trans (accX_bd L M (B := N * K) (fun i j => by rw [Int.natAbs_mul]; exact Nat.mul_le_mul (h i) (h' j)) (tmx L L.length) i) ?_
  exact Nat.mul_le_mul (Nat.le_trans (tmx_len L _) hL) (Nat.mul_le_mul hM (Nat.le_refl _))
theorem BD.pb {L : List Int} {N k : Nat} (h : BD L N) (hN : N < 4294967296 ^ k) : PB L k := fun i => Nat.lt_of_le_of_lt (h i) hN
/-- The integers that lie in a row as it comes in. -/
def intsOf (n : Nat) (g : Nat → Bool) (s : Nat → ByteArray) : List Int := (List.range n).map fun i => zv (g i) (s i)
theorem intsOf_len (n : Nat) (g : Nat → Bool) (s : Nat → ByteArray) : (intsOf n g s).length = n := by simp [intsOf]
theorem co_intsOf {n : Nat} {g : Nat → Bool} {s : Nat → ByteArray} {i : Nat} (h : i < n) : co (intsOf n g s) i = zv (g i) (s i) := by
  simp [co, intsOf, List.getD_eq_getElem?_getD, h]
theorem zv_bd (g : Bool) (s : ByteArray) (h : s.size ≤ 3) : (zv g s).natAbs < 4294967296 := by
  rw [natAbs_zv]
  have h1 := vB_lt s.data.toList
  have h2 : (256 : Nat) ^ s.data.toList.length ≤ 256 ^ 3 := Nat.pow_le_pow_right (by omega) (by rw [Array.length_toList]; exact h)
  have h3 : (256 : Nat) ^ 3 = 16777216 := by decide
  omega
/-- A list of small integers, as it comes in: its values, and what can be read. -/
def ArgV (W : World) (v : Value) (n : Nat) (g : Nat → Bool) (s : Nat → ByteArray) : Prop :=
  ∃ (A : Option Addr) (c : Nat), v = .slice A n c ∧ n ≤ c ∧ ∀ i, i < n → ∃ a, A = some a ∧ W.cell? (a.add (i * 2)) = some (.bool (g i)) ∧ W.cell? ⟨(a.add (i * 2)).block, (a.add (i * 2)).off + 1, none⟩ = some (.string (s i))
theorem ArgV.argS {W : World} {v : Value} {n : Nat} {g : Nat → Bool} {s : Nat → ByteArray} (h : ArgV W v n g s) : ArgS W v n s := by
  obtain ⟨A, c, h1, h2, h3⟩ := h
  exact ⟨A, c, g, h1, h2, h3⟩
theorem ArgV.keep {W W1 : World} {v : Value} {n : Nat} {g : Nat → Bool} {s : Nat → ByteArray} (h : ArgV W v n g s) (hb : Below W.heap.size W W1) : ArgV W1 v n g s := by
  obtain ⟨A, c, h1, h2, h3⟩ := h
  refine ⟨A, c, h1, h2, fun i hi => ?_⟩
  obtain ⟨a, k1, k2, k3⟩ := h3 i hi
  exact ⟨a, k1, cell_keep k2 hb, cell_keep k3 hb⟩
theorem ArgV.at {W : World} {v : Value} {n : Nat} {g : Nat → Bool} {s : Nat → ByteArray} (h : ArgV W v n g s) (hs : ∀ i, i < n → (s i).size ≤ 3) : PolyAt W v (intsOf n g s) 4 := by
  obtain ⟨A, c, h1, h2, h3⟩ := h
  refine ⟨A, c, g, s, by rw [intsOf_len]; exact h1, by rw [intsOf_len]; exact h2, fun i hi => ?_⟩
  rw [intsOf_len] at hi
  obtain ⟨a, k1, k2, k3⟩ := h3 i hi
  have hz := hs i hi
  have hb := zv_bd (g i) (s i) hz
  exact ⟨a, k1, k2, k3, by rw [co_intsOf hi]; exact ⟨g i, s i, rfl, rfl, by omega, Nat.lt_of_lt_of_le hb (by decide), by omega⟩⟩
theorem ArgV.bd {n : Nat} {g : Nat → Bool} {s : Nat → ByteArray} (hs : ∀ i, i < n → (s i).size ≤ 3) : BD (intsOf n g s) 4294967296 := fun i => by
  rcases Nat.lt_or_ge i n with h | h
  · rw [co_intsOf h]; exact Nat.le_of_lt (zv_bd _ _ (hs i h))
  · rw [co_ge (by rw [intsOf_len]; exact h)]; decide
/-- Small, as the laws mean it. -/
theorem small_split (n : Nat) (s : Nat → ByteArray) : (grP n s = false ∧ decide (8 < n) = false) → n ≤ 8 ∧ ∀ i, i < n → (s i).size ≤ 3 := fun ⟨h1, h2⟩ => by
  refine ⟨by have := of_decide_eq_false h2; omega, fun i hi => ?_⟩
  rcases Nat.lt_or_ge 3 (s i).size with h | h
  · rw [grP_big hi h] at h1; exact absurd h1 (by decide)
  · exact h
theorem anyB_false {m : Nat} {p : Nat → Bool} (h : anyB m p = false) {k : Nat} (hk : k < m) : p k = false := by
  unfold anyB at h
  have := List.any_eq_false.1 h k (List.mem_range.2 hk)
  simpa using this
end Go.Proofs.YtgcogpfmhmmgdaaGreatDoor

namespace Go.Proofs.YtgcogpfmhmmgdaaGreatDoor
open Go.RowKit

theorem trim_cons0 (l : List UInt8) : Lib.trimLeftB (0 :: l) 0 = Lib.trimLeftB l 0 := by simp [Lib.trimLeftB]
theorem trim_consN {b : UInt8} (l : List UInt8) (h : b ≠ 0) : Lib.trimLeftB (b :: l) 0 = b :: l := by simp [Lib.trimLeftB, h]
theorem trim_nil : Lib.trimLeftB [] 0 = [] := by rfl
theorem sg_zv9 (ng : Bool) (s : ByteArray) (h : vB s.data.toList ≠ 0) : sg (zv ng s) = ng := by
  unfold sg zv; cases ng <;> simp <;> omega
/-- A first byte that is not 0: the integer is canonical. -/
theorem canon_first {g : Bool} {b : UInt8} {l : List UInt8} (h : b ≠ 0) : sg (zv g ⟨(b :: l).toArray⟩) = g ∧ mg (zv g ⟨(b :: l).toArray⟩) = ⟨(b :: l).toArray⟩ := by
  have h1 : vB (⟨(b :: l).toArray⟩ : ByteArray).data.toList ≠ 0 := by
    show vB (b :: l) ≠ 0
    have := vB_ge (l := l) h
    have hp : 0 < 256 ^ l.length := Nat.pow_pos (by omega)
    omega
  refine ⟨sg_zv9 g _ h1, ?_⟩
  unfold mg
  rw [natAbs_zv]
  show (⟨(bytesOf (vB (b :: l))).toArray⟩ : ByteArray) = _
  rw [bytesOf_vB _ (by simpa using h)]
/-- What is left without leading zeros, and the sign. -/
theorem canon_trim (g : Bool) (l : List UInt8) : mg (zv g ⟨l.toArray⟩) = ⟨(Lib.trimLeftB l 0).toArray⟩ ∧ sg (zv g ⟨l.toArray⟩) = (g && !(Lib.trimLeftB l 0 == [])) := by
  have e : (zv g ⟨l.toArray⟩).natAbs = vB l := natAbs_zv g ⟨l.toArray⟩
  refine ⟨by unfold mg; rw [e, trim_bytes], ?_⟩
  rw [trim_bytes]
  by_cases h : vB l = 0
  · rw [h, bytesOf_zero]
    unfold sg zv
    have h2 : vB (⟨l.toArray⟩ : ByteArray).data.toList = 0 := h
    rw [h2]
    cases g <;> simp
  · have h2 : vB (⟨l.toArray⟩ : ByteArray).data.toList ≠ 0 := h
    rw [sg_zv9 g _ h2]
    have h3 : (bytesOf (vB l) == []) = false := by
      rw [beq_eq_false_iff_ne]
      intro e2
      exact h (bytesOf_nil.1 e2)
    rw [h3]; simp
theorem vB_take_succ {l : List UInt8} {k : Nat} {c : UInt8} (h : l[k]? = some c) : vB (l.take (k + 1)) = vB (l.take k) * 256 + c.toNat := by
  rw [List.take_add_one, h]
  exact vB_snoc _ _
theorem vB_app (a b : List UInt8) : vB (a ++ b) = vB a * 256 ^ b.length + vB b := by
  unfold vB
  rw [List.foldl_append]
  exact foldl_acc b _
theorem vB_take_le (l : List UInt8) (k : Nat) : vB (l.take k) ≤ vB l := by
  have h := vB_app (l.take k) (l.drop k)
  rw [List.take_append_drop] at h
  have h1 : vB (l.take k) * 1 ≤ vB (l.take k) * 256 ^ (l.drop k).length := Nat.mul_le_mul_left _ (Nat.pow_pos (by omega))
  omega
theorem or_256 (a b : Nat) (h : b < 256) : a * 256 ||| b = a * 256 + b := by
  have := Nat.two_pow_add_eq_or_of_lt (i := 8) (b := b) (by simpa using h) a
  rw [show (2 : Nat) ^ 8 = 256 from rfl, Nat.mul_comm] at this
  exact this.symm
theorem i64_or_nat (a b : Nat) (ha : a < 9223372036854775808) (hb : b < 9223372036854775808) : bits .or .i64 (a : Int) (b : Int) = ((a ||| b : Nat) : Int) := by
  have hx : a ||| b < 2 ^ 63 := Nat.or_lt_two_pow (by omega) (by omega)
  show IntKind.i64.wrap ((BitVec.ofInt 64 (a : Int) ||| BitVec.ofInt 64 (b : Int)).toNat : Int) = _
  rw [BitVec.toNat_or, ofInt_u64 a (by omega), ofInt_u64 b (by omega)]
  exact IntWalk.i64_in _ (by omega)
theorem i64_or_256 (a b : Nat) (ha : a * 256 + b < 9223372036854775808) (hb : b < 256) : bits .or .i64 ((a : Int) * 256) (b : Int) = ((a * 256 + b : Nat) : Int) := by
  obtain ⟨x, hx⟩ : ∃ x, x = a * 256 := ⟨_, rfl⟩
  have h := i64_or_nat x b (by omega) (by omega)
  have e1 : (x : Int) = (a : Int) * 256 := by rw [hx, Int.natCast_mul]; rfl
  have e2 : x ||| b = a * 256 + b := by rw [hx]; exact or_256 a b hb
  rw [e1, e2] at h
  exact h
/-- The order of canonical bytes. -/
theorem cmpN_len9 {A B : Nat} (h : (bytesOf A).length < (bytesOf B).length) : cmpN A B = -1 ∧ cmpN B A = 1 := by
  have hB := head_trim (bytesOf B)
  rw [trim_bytes, vB_bytesOf] at hB
  have a1 := vB_lt (bytesOf A)
  rw [vB_bytesOf] at a1
  have h2 := vB_len hB (by omega)
  rw [vB_bytesOf] at h2
  have h3 : (256 : Nat) ^ (bytesOf A).length ≤ 256 ^ ((bytesOf B).length - 1) := Nat.pow_le_pow_right (by omega) (by omega)
  have h4 : A < B := by omega
  unfold cmpN
  constructor
  · rw [if_pos h4]
  · rw [if_neg (by omega), if_pos h4]
end Go.Proofs.YtgcogpfmhmmgdaaGreatDoor

namespace Go.Proofs.YtgcogpfmhmmgdaaGreatDoor
open Go.RowKit

/-- The value of the first n digits of f, to the base 256. -/
def w8 (f : Nat → Nat) : Nat → Nat
  | 0 => 0
  | n + 1 => w8 f n + f n * 256 ^ n
def Dig8 (f : Nat → Nat) (n : Nat) : Prop := ∀ i, i < n → f i < 256
theorem w8_congr {f g : Nat → Nat} {n : Nat} (h : ∀ i, i < n → f i = g i) : w8 f n = w8 g n := by
  induction n with
  | zero => rfl
  | succ n ih => rw [w8, w8, ih (fun i hi => h i (by omega)), h n (by omega)]
theorem w8_lt {f : Nat → Nat} {n : Nat} (h : Dig8 f n) : w8 f n < 256 ^ n := by
  induction n with
  | zero => simp [w8]
  | succ n ih =>
    rw [w8, Nat.pow_succ]
    have h1 := ih (fun i hi => h i (by omega))
    have h2 := h n (by omega)
    have h3 : f n * 256 ^ n ≤ 255 * 256 ^ n := Nat.mul_le_mul_right _ (by omega)
    have hp : 0 < 256 ^ n := Nat.pow_pos (by omega)
    generalize 256 ^ n = P at *
    omega
theorem w8_upd (s : Nat → Nat) (k v : Nat) : w8 (upd s k v) (k + 1) = w8 s k + v * 256 ^ k := by
  rw [w8, upd_same, w8_congr (fun i hi => upd_lt s k v hi)]
theorem w8_set (p : Nat → Nat) {i n : Nat} (v : Nat) (h : i < n) : w8 (upd p i v) n + p i * 256 ^ i = w8 p n + v * 256 ^ i := by
  induction n with
  | zero => omega
  | succ n ih =>
    rw [w8, w8]
    by_cases e : i = n
    · subst e
      have e3 : w8 (upd p i v) i = w8 p i := w8_congr fun j hj => upd_lt p i v hj
      rw [upd_same, e3]
      omega
    · have := ih (by omega)
      have e2 : upd p i v n = p n := by simp [upd, show n ≠ i by omega]
      rw [e2]
      omega
theorem w8_zeros (p : Nat → Nat) {n m : Nat} (h : n ≤ m) (hz : ∀ i, n ≤ i → p i = 0) : w8 p m = w8 p n := by
  induction m with
  | zero => obtain rfl : n = 0 := by omega
            rfl
  | succ m ih =>
    by_cases e : n = m + 1
    · rw [e]
    · rw [w8, ih (by omega), hz m (by omega)]; simp
theorem dig8_upd {s : Nat → Nat} {k v : Nat} (h : Dig8 s k) (hv : v < 256) : Dig8 (upd s k v) (k + 1) := fun i hi => by
  by_cases e : i = k
  · subst e; rw [upd_same]; exact hv
  · rw [upd_lt _ _ _ (by omega)]; exact h i (by omega)
theorem dig8_set {p : Nat → Nat} {i n v : Nat} (h : Dig8 p n) (hv : v < 256) : Dig8 (upd p i v) n := fun j hj => by
  by_cases e : j = i
  · subst e; rw [upd_same]; exact hv
  · simp only [upd, if_neg e]; exact h j hj
theorem mul8_inner {p f g : Nat → Nat} {k m j y V t : Nat} (hj : j < m) (hv : w8 p (k + m) + y * 256 ^ (k + j) = V + f k * w8 g j * 256 ^ k) (ht : t = y + (p (k + j) + f k * g j)) :
    w8 (upd p (k + j) (t % 256)) (k + m) + t / 256 * 256 ^ (k + (j + 1)) = V + f k * w8 g (j + 1) * 256 ^ k := by
  have h1 := w8_set p (t % 256) (show k + j < k + m by omega)
  have h2 := Nat.div_add_mod t 256
  have h3 : f k * w8 g (j + 1) * 256 ^ k = f k * w8 g j * 256 ^ k + f k * g j * 256 ^ (k + j) := by
    rw [w8, Nat.mul_add, Nat.add_mul, Nat.pow_add]
    congr 1
    rw [← Nat.mul_assoc, Nat.mul_assoc (f k * g j), Nat.mul_comm (256 ^ j)]
  rw [h3, show k + (j + 1) = (k + j) + 1 by omega, Nat.pow_succ]
  generalize 256 ^ (k + j) = Q at *
  generalize t / 256 = a at *
  generalize t % 256 = r at *
  have h4 : (256 * a + r) * Q = (y + (p (k + j) + f k * g j)) * Q := by rw [h2, ht]
  rw [Nat.add_mul, Nat.add_mul, Nat.add_mul] at h4
  have h5 : a * (Q * 256) = 256 * a * Q := by rw [Nat.mul_comm Q, ← Nat.mul_assoc, Nat.mul_comm a]
  rw [h5]
  generalize 256 * a * Q = z1 at *
  generalize f k * g j * Q = z2 at *
  omega
theorem mul8_outer {p f g : Nat → Nat} {k m y : Nat} (hv : w8 p (k + m) + y * 256 ^ (k + m) = w8 f k * w8 g m + f k * w8 g m * 256 ^ k) :
    w8 (upd p (k + m) y) (k + 1 + m) = w8 f (k + 1) * w8 g m := by
  rw [show k + 1 + m = (k + m) + 1 by omega, w8_upd, hv, w8, Nat.add_mul, Nat.mul_assoc, Nat.mul_assoc, Nat.mul_comm (w8 g m)]
theorem add8_step {s f g : Nat → Nat} {k y t : Nat} (hv : w8 s k + y * 256 ^ k = w8 f k + w8 g k) (ht : t = y + f k + g k) :
    w8 (upd s k (t % 256)) (k + 1) + t / 256 * 256 ^ (k + 1) = w8 f (k + 1) + w8 g (k + 1) := by
  rw [w8_upd, w8, w8, Nat.pow_succ]
  have h2 := Nat.div_add_mod t 256
  generalize 256 ^ k = P at *
  generalize t / 256 = a at *
  generalize t % 256 = r at *
  have h4 : (256 * a + r) * P = (y + f k + g k) * P := by rw [h2, ht]
  rw [Nat.add_mul, Nat.add_mul, Nat.add_mul] at h4
  have h5 : a * (P * 256) = 256 * a * P := by rw [Nat.mul_comm P, ← Nat.mul_assoc, Nat.mul_comm a]
  rw [h5]
  omega
theorem sub8_step {s f g : Nat → Nat} {k y d z : Nat} (hv : w8 s k + w8 g k = w8 f k + y * 256 ^ k) (he : f k + 256 * z = g k + y + d) :
    w8 (upd s k d) (k + 1) + w8 g (k + 1) = w8 f (k + 1) + z * 256 ^ (k + 1) := by
  rw [w8_upd, w8, w8, Nat.pow_succ]
  generalize 256 ^ k = P at *
  have e : (f k + 256 * z) * P = (g k + y + d) * P := by rw [he]
  rw [Nat.add_mul, Nat.add_mul, Nat.add_mul] at e
  have e2 : z * (P * 256) = 256 * z * P := by rw [Nat.mul_comm P, ← Nat.mul_assoc, Nat.mul_comm z]
  rw [e2]
  omega

/-- The digits of a list of bytes, from its end. -/
def dg (l : List UInt8) : Nat → Nat := fun j => if j < l.length then (l.getD (l.length - 1 - j) 0).toNat else 0
theorem dg_lt (l : List UInt8) (j : Nat) : dg l j < 256 := by
  unfold dg
  split
  · exact (l.getD (l.length - 1 - j) 0).toNat_lt
  · omega
theorem dg_out {l : List UInt8} {j : Nat} (h : l.length ≤ j) : dg l j = 0 := if_neg (by omega)
theorem dg_at {l : List UInt8} {j : Nat} (h : j < l.length) : ∃ c, l[l.length - 1 - j]? = some c ∧ c.toNat = dg l j := by
  refine ⟨l.getD (l.length - 1 - j) 0, ?_, ?_⟩
  · rw [List.getD_eq_getElem?_getD, List.getElem?_eq_getElem (by omega)]; rfl
  · unfold dg; rw [if_pos h]
theorem dg_cons (b : UInt8) (l : List UInt8) {j : Nat} (h : j < l.length) : dg (b :: l) j = dg l j := by
  unfold dg
  rw [if_pos h, if_pos (by rw [List.length_cons]; omega), List.length_cons, show l.length + 1 - 1 - j = (l.length - 1 - j) + 1 by omega]
  rfl
theorem dg_top (b : UInt8) (l : List UInt8) : dg (b :: l) l.length = b.toNat := by
  unfold dg
  rw [if_pos (by rw [List.length_cons]; omega), List.length_cons, show l.length + 1 - 1 - l.length = 0 by omega]
  rfl
theorem w8_dg (l : List UInt8) : w8 (dg l) l.length = vB l := by
  induction l with
  | nil => rfl
  | cons b l ih =>
    rw [List.length_cons, w8, dg_top, vB_cons, w8_congr (fun i hi => dg_cons b l hi), ih]
    omega
theorem w8_dg_le (l : List UInt8) {n : Nat} (h : l.length ≤ n) : w8 (dg l) n = vB l := by
  rw [w8_zeros (dg l) h (fun i hi => dg_out hi), w8_dg]
/-- The bytes of the first n digits. -/
def bl (g : Nat → Nat) : Nat → List UInt8
  | 0 => []
  | n + 1 => UInt8.ofNat (g n) :: bl g n
theorem bl_len (g : Nat → Nat) (n : Nat) : (bl g n).length = n := by
  induction n with
  | zero => rfl
  | succ n ih => rw [bl, List.length_cons, ih]
theorem toNat_of8 {n : Nat} (h : n < 256) : (UInt8.ofNat n).toNat = n := by simp; omega
theorem vB_bl {g : Nat → Nat} {n : Nat} (h : Dig8 g n) : vB (bl g n) = w8 g n := by
  induction n with
  | zero => rfl
  | succ n ih =>
    rw [bl, vB_cons, bl_len, ih (fun i hi => h i (by omega)), w8, toNat_of8 (h n (by omega))]
    omega
theorem bl_at {g : Nat → Nat} {n : Nat} (h : Dig8 g n) {i : Nat} {u : UInt8} (hu : (bl g n)[i]? = some u) : i < n ∧ u.toNat = g (n - 1 - i) := by
  induction n generalizing i with
  | zero => simp [bl] at hu
  | succ n ih =>
    cases i with
    | zero =>
      have : u = UInt8.ofNat (g n) := by simpa [bl] using hu.symm
      subst this
      exact ⟨by omega, by rw [toNat_of8 (h n (by omega))]; rfl⟩
    | succ i =>
      have h1 := ih (fun i hi => h i (by omega)) (i := i) (by simpa [bl] using hu)
      exact ⟨by omega, by rw [h1.2]; congr 1; omega⟩
/-- The row of n bytes whose digits, from its end, are g. -/
def rowR (n : Nat) (g : Nat → Nat) : Nat → Value := fun p => .int .u8 (g (n - 1 - p) : Int)
theorem rowR_set {w : World} {b n : Nat} {t : TypeId} {g : Nat → Nat} (h : w.rowIs b t n (rowR n g)) {k i v : Nat} (hk : k < n) (hi : i = n - 1 - k) {x : Int} (hx : x = (v : Int)) :
    (w.setCell ⟨b, i, none⟩ (.int .u8 x)).rowIs b t n (rowR n (upd g k v)) :=
  (h.set i _).congr fun j hj => by
    subst hx hi
    unfold rowR upd
    by_cases e : j = n - 1 - k
    · rw [if_pos e, if_pos (by omega)]
    · rw [if_neg e, if_neg (by omega)]
theorem rowR_cell {w : World} {b n : Nat} {t : TypeId} {g : Nat → Nat} (h : w.rowIs b t n (rowR n g)) (hd : Dig8 g n) (i : Nat) (u : UInt8) (hu : (bl g n)[i]? = some u) :
    w.cell? ⟨b, 0 + i, none⟩ = some (.int .u8 (u.toNat : Int)) := by
  have h1 := bl_at hd hu
  rw [Nat.zero_add, h.cell h1.1, h1.2]
  rfl
/-- The row of n machine integers whose digits, from its end, are g. -/
def rowI (n : Nat) (g : Nat → Nat) : Nat → Value := fun p => .int .i64 (g (n - 1 - p) : Int)
theorem rowI_set {w : World} {b n : Nat} {t : TypeId} {g : Nat → Nat} (h : w.rowIs b t n (rowI n g)) {k i v : Nat} (hk : k < n) (hi : i = n - 1 - k) {x : Int} (hx : x = (v : Int)) :
    (w.setCell ⟨b, i, none⟩ (.int .i64 x)).rowIs b t n (rowI n (upd g k v)) :=
  (h.set i _).congr fun j hj => by
    subst hx hi
    unfold rowI upd
    by_cases e : j = n - 1 - k
    · rw [if_pos e, if_pos (by omega)]
    · rw [if_neg e, if_neg (by omega)]
theorem bytesOf_w8 {g : Nat → Nat} {n N : Nat} (h : Dig8 g n) (e : w8 g n = N) : Lib.trimLeftB (bl g n) 0 = bytesOf N := by rw [trim_bytes, vB_bl h, e]
end Go.Proofs.YtgcogpfmhmmgdaaGreatDoor
