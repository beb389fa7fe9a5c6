/- Plain facts on digits to the base 256, told by a function of the place from the least one on, and on the bytes of a list, read from its end. No condition. What the reference implementation's trim and Canonical return. Condition: at most 10^9 bytes. What the reference implementation's addMag and subMag return. Condition: at most 10^9 bytes; for subMag a minuend that is not less. -/
import Derived.Test.YtigdjlhihhakmaaGreatDoorQ26
import Derived.Deep.OwnRows
import Derived.Deep.LoopGhost
import Derived.Test.YtigdjlhihhakmaaGreatDoorQ06

namespace Go.Proofs.YtigdjlhihhakmaaGreatDoor
open Go.RowKit

/-- The value of the first n digits of f, to the base 256. -/
def w8 (f : Nat → Nat) : Nat → Nat
  | 0 => 0
  | n + 1 => w8 f n + f n * 256 ^ n
def Dig8 (f : Nat → Nat) (n : Nat) : Prop := ∀ i, i < n → f i < 256
theorem w8_congr {f g : Nat → Nat} {n : Nat} (h : ∀ i, i < n → f i = g i) : w8 f n = w8 g n := by
  induction n with
  | zero => rfl
  | succ n ih => rw [w8, w8, ih (fun i hi => h i (by omega)), h n (by omega)]
theorem w8_lt {f : Nat → Nat} {n : Nat} (h : Dig8 f n) : w8 f n < 256 ^ n := by
  induction n with
  | zero => simp [w8]
  | succ n ih =>
    rw [w8, Nat.pow_succ]
    have h1 := ih (fun i hi => h i (by omega))
    have h2 := h n (by omega)
    have h3 : f n * 256 ^ n ≤ 255 * 256 ^ n := Nat.mul_le_mul_right _ (by omega)
    have hp : 0 < 256 ^ n := Nat.pow_pos (by omega)
    generalize 256 ^ n = P at *
    omega
theorem w8_upd (s : Nat → Nat) (k v : Nat) : w8 (upd s k v) (k + 1) = w8 s k + v * 256 ^ k := by
  rw [w8, upd_same, w8_congr (fun i hi => upd_lt s k v hi)]
theorem w8_set (p : Nat → Nat) {i n : Nat} (v : Nat) (h : i < n) : w8 (upd p i v) n + p i * 256 ^ i = w8 p n + v * 256 ^ i := by
  induction n with
  | zero => omega
  | succ n ih =>
    rw [w8, w8]
    by_cases e : i = n
    · subst e
      have e3 : w8 (upd p i v) i = w8 p i := w8_congr fun j hj => upd_lt p i v hj
      rw [upd_same, e3]
      omega
    · have := ih (by omega)
      have e2 : upd p i v n = p n := by simp [upd, show n ≠ i by omega]
      rw [e2]
      omega
theorem w8_zeros (p : Nat → Nat) {n m : Nat} (h : n ≤ m) (hz : ∀ i, n ≤ i → p i = 0) : w8 p m = w8 p n := by
  induction m with
  | zero => obtain rfl : n = 0 := by omega
            rfl
  | succ m ih =>
    by_cases e : n = m + 1
    · rw [e]
    · rw [w8, ih (by omega), hz m (by omega)]; simp
theorem dig8_upd {s : Nat → Nat} {k v : Nat} (h : Dig8 s k) (hv : v < 256) : Dig8 (upd s k v) (k + 1) := fun i hi => by
  by_cases e : i = k
  · subst e; rw [upd_same]; exact hv
  · rw [upd_lt _ _ _ (by omega)]; exact h i (by omega)
theorem dig8_set {p : Nat → Nat} {i n v : Nat} (h : Dig8 p n) (hv : v < 256) : Dig8 (upd p i v) n := fun j hj => by
  by_cases e : j = i
  · subst e; rw [upd_same]; exact hv
  · simp only [upd, if_neg e]; exact h j hj
theorem mul8_inner {p f g : Nat → Nat} {k m j y V t : Nat} (hj : j < m) (hv : w8 p (k + m) + y * 256 ^ (k + j) = V + f k * w8 g j * 256 ^ k) (ht : t = y + (p (k + j) + f k * g j)) :
    w8 (upd p (k + j) (t % 256)) (k + m) + t / 256 * 256 ^ (k + (j + 1)) = V + f k * w8 g (j + 1) * 256 ^ k := by
  have h1 := w8_set p (t % 256) (show k + j < k + m by omega)
  have h2 := Nat.div_add_mod t 256
  have h3 : f k * w8 g (j + 1) * 256 ^ k = f k * w8 g j * 256 ^ k + f k * g j * 256 ^ (k + j) := by
    rw [w8, Nat.mul_add, Nat.add_mul, Nat.pow_add]
    congr 1
    rw [← Nat.mul_assoc, Nat.mul_assoc (f k * g j), Nat.mul_comm (256 ^ j)]
  rw [h3, show k + (j + 1) = (k + j) + 1 by omega, Nat.pow_succ]
  generalize 256 ^ (k + j) = Q at *
  generalize t / 256 = a at *
  generalize t % 256 = r at *
  have h4 : (256 * a + r) * Q = (y + (p (k + j) + f k * g j)) * Q := by rw [h2, ht]
  rw [Nat.add_mul, Nat.add_mul, Nat.add_mul] at h4
  have h5 : a * (Q * 256) = 256 * a * Q := by rw [Nat.mul_comm Q, ← Nat.mul_assoc, Nat.mul_comm a]
  rw [h5]
  generalize 256 * a * Q = z1 at *
  generalize f k * g j * Q = z2 at *
  omega
theorem mul8_outer {p f g : Nat → Nat} {k m y : Nat} (hv : w8 p (k + m) + y * 256 ^ (k + m) = w8 f k * w8 g m + f k * w8 g m * 256 ^ k) :
    w8 (upd p (k + m) y) (k + 1 + m) = w8 f (k + 1) * w8 g m := by
  rw [show k + 1 + m = (k + m) + 1 by omega, w8_upd, hv, w8, Nat.add_mul, Nat.mul_assoc, Nat.mul_assoc, Nat.mul_comm (w8 g m)]
theorem add8_step {s f g : Nat → Nat} {k y t : Nat} (hv : w8 s k + y * 256 ^ k = w8 f k + w8 g k) (ht : t = y + f k + g k) :
    w8 (upd s k (t % 256)) (k + 1) + t / 256 * 256 ^ (k + 1) = w8 f (k + 1) + w8 g (k + 1) := by
  rw [w8_upd, w8, w8, Nat.pow_succ]
  have h2 := Nat.div_add_mod t 256
  generalize 256 ^ k = P at *
  generalize t / 256 = a at *
  generalize t % 256 = r at *
  have h4 : (256 * a + r) * P = (y + f k + g k) * P := by rw [h2, ht]
  rw [Nat.add_mul, Nat.add_mul, Nat.add_mul] at h4
  have h5 : a * (P * 256) = 256 * a * P := by rw [Nat.mul_comm P, ← Nat.mul_assoc, Nat.mul_comm a]
  rw [h5]
  omega
theorem sub8_step {s f g : Nat → Nat} {k y d z : Nat} (hv : w8 s k + w8 g k = w8 f k + y * 256 ^ k) (he : f k + 256 * z = g k + y + d) :
    w8 (upd s k d) (k + 1) + w8 g (k + 1) = w8 f (k + 1) + z * 256 ^ (k + 1) := by
  rw [w8_upd, w8, w8, Nat.pow_succ]
  generalize 256 ^ k = P at *
  have e : (f k + 256 * z) * P = (g k + y + d) * P := by rw [he]
  rw [Nat.add_mul, Nat.add_mul, Nat.add_mul] at e
  have e2 : z * (P * 256) = 256 * z * P := by rw [Nat.mul_comm P, ← Nat.mul_assoc, Nat.mul_comm z]
  rw [e2]
  omega

/-- The digits of a list of bytes, from its end. -/
def dg (l : List UInt8) : Nat → Nat := fun j => if j < l.length then (l.getD (l.length - 1 - j) 0).toNat else 0
theorem dg_lt (l : List UInt8) (j : Nat) : dg l j < 256 := by
  unfold dg
  split
  · exact (l.getD (l.length - 1 - j) 0).toNat_lt
  · omega
theorem dg_out {l : List UInt8} {j : Nat} (h : l.length ≤ j) : dg l j = 0 := if_neg (by omega)
theorem dg_at {l : List UInt8} {j : Nat} (h : j < l.length) : ∃ c, l[l.length - 1 - j]? = some c ∧ c.toNat = dg l j := by
  refine ⟨l.getD (l.length - 1 - j) 0, ?_, ?_⟩
  · rw [List.getD_eq_getElem?_getD, List.getElem?_eq_getElem (by omega)]; rfl
  · unfold dg; rw [if_pos h]
theorem dg_cons (b : UInt8) (l : List UInt8) {j : Nat} (h : j < l.length) : dg (b :: l) j = dg l j := by
  unfold dg
  rw [if_pos h, if_pos (by rw [List.length_cons]; omega), List.length_cons, show l.length + 1 - 1 - j = (l.length - 1 - j) + 1 by omega]
  rfl
theorem dg_top (b : UInt8) (l : List UInt8) : dg (b :: l) l.length = b.toNat := by
  unfold dg
  rw [if_pos (by rw [List.length_cons]; omega), List.length_cons, show l.length + 1 - 1 - l.length = 0 by omega]
  rfl
theorem w8_dg (l : List UInt8) : w8 (dg l) l.length = vB l := by
  induction l with
  | nil => rfl
  | cons b l ih =>
    rw [List.length_cons, w8, dg_top, vB_cons, w8_congr (fun i hi => dg_cons b l hi), ih]
    omega
theorem w8_dg_le (l : List UInt8) {n : Nat} (h : l.length ≤ n) : w8 (dg l) n = vB l := by
  rw [w8_zeros (dg l) h (fun i hi => dg_out hi), w8_dg]
/-- The bytes of the first n digits. -/
def bl (g : Nat → Nat) : Nat → List UInt8
  | 0 => []
  | n + 1 => UInt8.ofNat (g n) :: bl g n
theorem bl_len (g : Nat → Nat) (n : Nat) : (bl g n).length = n := by
  induction n with
  | zero => rfl
  | succ n ih => rw [bl, List.length_cons, ih]
theorem toNat_of8 {n : Nat} (h : n < 256) : (UInt8.ofNat n).toNat = n := by simp; omega
theorem vB_bl {g : Nat → Nat} {n : Nat} (h : Dig8 g n) : vB (bl g n) = w8 g n := by
  induction n with
  | zero => rfl
  | succ n ih =>
    rw [bl, vB_cons, bl_len, ih (fun i hi => h i (by omega)), w8, toNat_of8 (h n (by omega))]
    omega
theorem bl_at {g : Nat → Nat} {n : Nat} (h : Dig8 g n) {i : Nat} {u : UInt8} (hu : (bl g n)[i]? = some u) : i < n ∧ u.toNat = g (n - 1 - i) := by
  induction n generalizing i with
  | zero => simp [bl] at hu
  | succ n ih =>
    cases i with
    | zero =>
      have : u = UInt8.ofNat (g n) := by simpa [bl] using hu.symm
      subst this
      exact ⟨by omega, by rw [toNat_of8 (h n (by omega))]; rfl⟩
    | succ i =>
      have h1 := ih (fun i hi => h i (by omega)) (i := i) (by simpa [bl] using hu)
      exact ⟨by omega, by rw [h1.2]; congr 1; omega⟩
/-- The row of n bytes whose digits, from its end, are g. -/
def rowR (n : Nat) (g : Nat → Nat) : Nat → Value := fun p => .int .u8 (g (n - 1 - p) : Int)
theorem rowR_set {w : World} {b n : Nat} {t : TypeId} {g : Nat → Nat} (h : w.rowIs b t n (rowR n g)) {k i v : Nat} (hk : k < n) (hi : i = n - 1 - k) {x : Int} (hx : x = (v : Int)) :
    (w.setCell ⟨b, i, none⟩ (.int .u8 x)).rowIs b t n (rowR n (upd g k v)) :=
  (h.set i _).congr fun j hj => by
    subst hx hi
    unfold rowR upd
    by_cases e : j = n - 1 - k
    · rw [if_pos e, if_pos (by omega)]
    · rw [if_neg e, if_neg (by omega)]
theorem rowR_cell {w : World} {b n : Nat} {t : TypeId} {g : Nat → Nat} (h : w.rowIs b t n (rowR n g)) (hd : Dig8 g n) (i : Nat) (u : UInt8) (hu : (bl g n)[i]? = some u) :
    w.cell? ⟨b, 0 + i, none⟩ = some (.int .u8 (u.toNat : Int)) := by
  have h1 := bl_at hd hu
  rw [Nat.zero_add, h.cell h1.1, h1.2]
  rfl
/-- The row of n machine integers whose digits, from its end, are g. -/
def rowI (n : Nat) (g : Nat → Nat) : Nat → Value := fun p => .int .i64 (g (n - 1 - p) : Int)
theorem rowI_set {w : World} {b n : Nat} {t : TypeId} {g : Nat → Nat} (h : w.rowIs b t n (rowI n g)) {k i v : Nat} (hk : k < n) (hi : i = n - 1 - k) {x : Int} (hx : x = (v : Int)) :
    (w.setCell ⟨b, i, none⟩ (.int .i64 x)).rowIs b t n (rowI n (upd g k v)) :=
  (h.set i _).congr fun j hj => by
    subst hx hi
    unfold rowI upd
    by_cases e : j = n - 1 - k
    · rw [if_pos e, if_pos (by omega)]
    · rw [if_neg e, if_neg (by omega)]
theorem bytesOf_w8 {g : Nat → Nat} {n N : Nat} (h : Dig8 g n) (e : w8 g n = N) : Lib.trimLeftB (bl g n) 0 = bytesOf N := by rw [trim_bytes, vB_bl h, e]
end Go.Proofs.YtigdjlhihhakmaaGreatDoor

namespace Go.Proofs.YtigdjlhihhakmaaGreatDoor
open Go.RowKit
set_option linter.unusedSimpArgs false
set_option linter.unusedVariables false

theorem run_tail_bytes (b : UInt8) (m : List UInt8) (w : World) :
    (Instr.slice 9 (.string ⟨(b :: m).toArray⟩) (some (.int .i64 1)) none none).run Tryz.prog w = .ok (.string ⟨m.toArray⟩) w := by
  rw [run_slice_string_l w 9 ⟨(b :: m).toArray⟩ Tryz.underlying9 .i64 1 (by omega) (by simp [ByteArray.size]; omega)]
  congr 2
  apply ByteArray.ext
  simp [ByteArray.size]
set_option maxRecDepth 100000 in
theorem rtrim_any (l : List UInt8) (w : World) (hl : l.length ≤ 1000000000) :
    Calls Tryz.prog 99 #[.string ⟨l.toArray⟩] w fun e w' => e = .returned (.string ⟨(Lib.trimLeftB l 0).toArray⟩) ∧ w' = w := by
  go_enter Tryz.func99, Tryz.ntmps99
  go_wp2_with fail
  go_loopg [0] l.length (fun g s0 wx => wx = w ∧ ∃ m : List UInt8, m.length = g ∧ s0 = .string ⟨m.toArray⟩ ∧ Hid (Lib.trimLeftB m 0 = Lib.trimLeftB l 0))
  case atStart => exact ⟨rfl, l, rfl, rfl, rfl⟩
  case round =>
    obtain ⟨rfl, m, hm, rfl, HM⟩ := hrel
    cases m with
    | nil =>
      have hg : gk = 0 := by rw [← hm]; rfl
      subst hg
      go_wp2
      go_ret
      exact ⟨by rw [← HM.out]; rfl, rfl⟩
    | cons b m =>
      have hix := run_index_bytes (b :: m) 0 b rfl 0 (by simp)
      have htl := run_tail_bytes b m
      have hb' := b.toNat_lt
      have hml : m.length + 1 = gk := hm
      by_cases hb : b = 0
      · subst hb
        have HM2 : Hid (Lib.trimLeftB m 0 = Lib.trimLeftB l 0) := by show _ = _; rw [← HM.out, trim_cons0]
        obtain ⟨g, rfl⟩ : ∃ g, gk = g + 1 := ⟨gk - 1, by omega⟩
        clear HM
        go_wp2
        go_roundg g
        case measure => omega
        case rel => exact ⟨rfl, m, by omega, rfl, HM2⟩
      · have hz : ((b.toNat : Int) == 0) = false := by
          rw [beq_eq_false_iff_ne]
          intro e
          exact hb (UInt8.toNat_inj.1 (by simpa using (by omega : b.toNat = 0)))
        have HM2 : Hid (Lib.trimLeftB l 0 = b :: m) := by show _ = _; rw [← HM.out, trim_consN m hb]
        clear HM
        go_wp2
        go_ret
        exact ⟨by rw [HM2.out]; rfl, rfl⟩
set_option maxRecDepth 100000 in
theorem rcanonical_any (g : Bool) (l : List UInt8) (w : World) (hl : l.length ≤ 1000000000) :
    Calls Tryz.prog 58 #[.agg #[.bool g, .string ⟨l.toArray⟩]] w (IntOut w (zv g ⟨l.toArray⟩)) := by
  have h := canon_trim g l
  have H1 := Lib.hid h.1
  have H2 := Lib.hid h.2
  clear h
  have hcase : (∃ b m, l = b :: m ∧ b ≠ 0) ∨ (l = [] ∨ ∃ m, l = 0 :: m) := by
    cases l with
    | nil => exact Or.inr (Or.inl rfl)
    | cons b m =>
      by_cases hb : b = 0
      · exact Or.inr (Or.inr ⟨m, by rw [hb]⟩)
      · exact Or.inl ⟨b, m, rfl, hb⟩
  rcases hcase with ⟨b, m, rfl, hb⟩ | hcase
  · have hix := run_index_bytes (b :: m) 0 b rfl 0 (by simp)
    have hb' := b.toNat_lt
    have hz : ((b.toNat : Int) != 0) = true := by
      rw [bne_iff_ne]
      intro e
      exact hb (UInt8.toNat_inj.1 (by simpa using (by omega : b.toNat = 0)))
    have H := canon_first (g := g) (l := m) hb
    have H3 := Lib.hid H.1
    have H4 := Lib.hid H.2
    clear H
    go_enter Tryz.func58, Tryz.ntmps58
    go_wp2
    exact bodyPost_ret (v := .agg #[.bool g, .string ⟨(b :: m).toArray⟩]) (by simp [results, Tryz.results58, go_sem]) rfl ⟨by rw [H3.out, H4.out], below2 w _ _⟩
  · obtain ⟨T, HT⟩ : ∃ T, Hid (Lib.trimLeftB l 0 = T) := ⟨_, Lib.hid rfl⟩
    rw [HT.out] at H1 H2
    have hc : T = [] ∨ ∃ c t, T = c :: t := by cases T with
      | nil => exact Or.inl rfl
      | cons c t => exact Or.inr ⟨c, t, rfl⟩
    rcases hcase with rfl | ⟨m, rfl⟩
    · have hT : T = [] := by rw [← HT.out]; rfl
      subst hT
      go_enter Tryz.func58, Tryz.ntmps58
      go_wp2_with fail
      refine (rtrim_any [] _ (by simp)).mono ?_
      rintro e W1 ⟨rfl, rfl⟩
      rw [HT.out]
      cases g
      all_goals
        go_wp2
        exact bodyPost_ret (v := .agg #[.bool false, .string ⟨#[]⟩]) (by simp [results, Tryz.results58, go_sem]) rfl ⟨by rw [H1.out, H2.out]; rfl, below2 w _ _⟩
    · have hix := run_index_bytes (0 :: m) 0 0 rfl 0 (by simp)
      go_enter Tryz.func58, Tryz.ntmps58
      go_wp2_with fail
      refine (rtrim_any (0 :: m) _ hl).mono ?_
      rintro e W1 ⟨rfl, rfl⟩
      rw [HT.out]
      rcases hc with rfl | ⟨c, t, rfl⟩
      · cases g
        all_goals
          go_wp2
          exact bodyPost_ret (v := .agg #[.bool false, .string ⟨#[]⟩]) (by simp [results, Tryz.results58, go_sem]) rfl ⟨by rw [H1.out, H2.out]; rfl, below2 w _ _⟩
      · cases g
        · go_wp2
          exact bodyPost_ret (v := .agg #[.bool false, .string ⟨(c :: t).toArray⟩]) (by simp [results, Tryz.results58, go_sem]) rfl ⟨by rw [H1.out, H2.out]; rfl, below2 w _ _⟩
        · go_wp2
          exact bodyPost_ret (v := .agg #[.bool true, .string ⟨(c :: t).toArray⟩]) (by simp [results, Tryz.results58, go_sem]) rfl ⟨by rw [H1.out, H2.out]; rfl, below2 w _ _⟩
end Go.Proofs.YtigdjlhihhakmaaGreatDoor

namespace Go.Proofs.YtigdjlhihhakmaaGreatDoor
open Go.RowKit
set_option linter.unusedSimpArgs false
set_option linter.unusedVariables false

theorem u8_wrap_nat (t : Nat) : IntKind.u8.wrap (t : Int) = ((t % 256 : Nat) : Int) := by simp [IntKind.wrap, IntKind.bits, IntKind.signed]
theorem carry_zero {s c n A B : Nat} (h : s + c * 256 ^ n = A + B) (hA : 2 * A < 256 ^ n) (hB : 2 * B < 256 ^ n) : c = 0 := by
  rcases Nat.eq_zero_or_pos c with h0 | h0
  · exact h0
  · have : 1 * 256 ^ n ≤ c * 256 ^ n := Nat.mul_le_mul_right _ h0
    omega
theorem two_vB {l : List UInt8} {n : Nat} (h : l.length < n) : 2 * vB l < 256 ^ n := by
  have h1 := vB_lt l
  have h2 : 256 ^ (l.length + 1) ≤ 256 ^ n := Nat.pow_le_pow_right (by omega) h
  rw [Nat.pow_succ] at h2
  omega
theorem dg_pos {l : List UInt8} {q : Nat} (h : q < l.length) : ∃ c, l[q]? = some c ∧ c.toNat = dg l (l.length - 1 - q) := by
  obtain ⟨c, h1, h2⟩ := dg_at (l := l) (j := l.length - 1 - q) (by omega)
  exact ⟨c, by rw [← h1]; congr 1; omega, h2⟩
set_option maxRecDepth 100000 in
set_option maxHeartbeats 1600000 in
theorem raddMag_any (a b : List UInt8) (w : World) (ha : a.length ≤ 100000000) (hb : b.length ≤ 100000000) :
    Calls Tryz.prog 60 #[.string ⟨a.toArray⟩, .string ⟨b.toArray⟩] w fun e w' => e = .returned (.string ⟨(bytesOf (vB a + vB b)).toArray⟩) ∧ Below w.heap.size w w' := by
  obtain ⟨m, hm⟩ : ∃ m : Nat, Hid (max a.length b.length = m) := ⟨_, Lib.hid rfl⟩
  have hma : a.length ≤ m := by rw [← hm.out]; exact Nat.le_max_left _ _
  have hmb : b.length ≤ m := by rw [← hm.out]; exact Nat.le_max_right _ _
  have hml : m ≤ 100000000 := by rw [← hm.out]; exact Nat.max_le.2 ⟨ha, hb⟩
  have hmk := run_make_row' (P := Tryz.prog) 56 5 (.int .u8 0) 1 Tryz.underlying56 Tryz.infoU8 rfl .i64 .i64 (m + 1) (by omega) (by omega)
  rw [show ((m + 1 : Nat) : Int) = (m : Int) + 1 by omega] at hmk
  have hmx : (max (a.length : Int) (b.length : Int)) = (m : Int) := by rw [← hm.out]; omega
  go_enter Tryz.func60, Tryz.ntmps60
  go_wp2_with fail
  clear hmk hmx
  go_loopg [7, 8] (m + 1) (fun q s7 s8 wx => ∃ (k y : Nat) (g : Nat → Nat), k + q = m + 1 ∧ s8 = .int .i64 ((k : Int) + 1) ∧ s7 = .int .i64 (y : Int) ∧ y ≤ 1 ∧ Dig8 g k ∧ Hid (w8 g k + y * 256 ^ k = w8 (dg a) k + w8 (dg b) k) ∧ wx.rowIs w.heap.size 5 (m + 1) (rowR (m + 1) g) ∧ Below w.heap.size w wx)
  case atStart => exact ⟨0, 0, fun _ => 0, by omega, rfl, rfl, by omega, fun i h => absurd h (by omega), by show _ = _; rfl, (World.rowIs_made w _ (m + 1) _).congr (fun i _ => by simp [rowR]), below1 w _⟩
  case round =>
    obtain ⟨k, y, g, hk, rfl, rfl, hy, hd, HV, hrow, hb⟩ := hrel
    rcases gk with _ | q
    · obtain rfl : k = m + 1 := by omega
      have hfin : w8 g (m + 1) = vB a + vB b := by
        have h := HV.out
        rw [w8_dg_le a (by omega), w8_dg_le b (by omega)] at h
        have := carry_zero h (two_vB (by omega)) (two_vB (by omega))
        subst this
        omega
      have HF := Lib.hid (bytesOf_w8 hd hfin)
      have hcv := run_string_of wr w.heap.size 0 (m + 1) (bl g (m + 1)) (fun i u hu => rowR_cell hrow hd i u hu)
      rw [bl_len] at hcv
      have hlen : (bl g (m + 1)).length ≤ 100000001 := by rw [bl_len]; omega
      clear HV hfin hrow hd
      generalize bl g (m + 1) = T at *
      go_wp2_with fail
      refine (rtrim_any T _ (by omega)).mono ?_
      rintro e W1 ⟨rfl, rfl⟩
      go_wp2
      go_ret
      exact ⟨by rw [HF.out]; rfl, hb⟩
    · have Hk := Lib.hid hk
      have hf := hrow.frozen (m - k)
      have hw := hrow.cell (i := m - k) (by omega)
      have hkn : k + q = m := by omega
      clear hk
      by_cases h1 : k < a.length <;> by_cases h2 : k < b.length
      · obtain ⟨ca, hca, hxa⟩ := dg_at (l := a) (j := k) h1
        have hia := run_index_bytes a (a.length - 1 - k) ca hca ((a.length : Int) - ((k : Int) + 1)) (by omega)
        rw [hxa] at hia
        clear hca hxa
        obtain ⟨cb, hcb, hxb⟩ := dg_at (l := b) (j := k) h2
        have hib := run_index_bytes b (b.length - 1 - k) cb hcb ((b.length : Int) - ((k : Int) + 1)) (by omega)
        rw [hxb] at hib
        clear hcb hxb
        have hxa : dg a k < 256 := dg_lt a k
        have hxb : dg b k < 256 := dg_lt b k
        have HS := Lib.hid (add8_step HV.out (t := y + dg a k + dg b k) rfl)
        clear HV
        generalize dg a k = xa at *
        generalize dg b k = xb at *
        obtain ⟨m2, Em⟩ : ∃ x, Hid ((y + xa + xb) / 256 = x) := ⟨_, Lib.hid rfl⟩
        obtain ⟨r, Er⟩ : ∃ x, Hid ((y + xa + xb) % 256 = x) := ⟨_, Lib.hid rfl⟩
        rw [Em.out, Er.out] at HS
        have hdiv : ((y : Int) + (xa : Int) + (xb : Int)) / 256 = (m2 : Int) := by rw [← Em.out]; omega
        have hmod : IntKind.u8.wrap ((y : Int) + (xa : Int) + (xb : Int)) = (r : Int) := by
          have h := u8_wrap_nat (y + xa + xb)
          rw [Er.out] at h
          rw [← h]
          congr 1 <;> omega
        have hm2 : m2 ≤ 1 := by rw [← Em.out]; omega
        have hr : r < 256 := by rw [← Er.out]; omega
        have HW := Lib.hid (rowR_set hrow (k := k) (i := m - k) (v := r) (by omega) (by omega) rfl)
        clear hrow
        go_wp2_with fail
        go_roundg q
        case measure => omega
        case rel => exact ⟨k + 1, m2, upd g k r, by have := Hk.out; omega, by go_num, rfl, hm2, dig8_upd hd hr, HS, HW.out, hb.setCell (Nat.le_refl _) _⟩
      · obtain ⟨ca, hca, hxa⟩ := dg_at (l := a) (j := k) h1
        have hia := run_index_bytes a (a.length - 1 - k) ca hca ((a.length : Int) - ((k : Int) + 1)) (by omega)
        rw [hxa] at hia
        clear hca hxa
        have hxa : dg a k < 256 := dg_lt a k
        have hxb : dg b k < 256 := dg_lt b k
        have hzb : dg b k = 0 := dg_out (by omega)
        have HS := Lib.hid (add8_step HV.out (t := y + dg a k + dg b k) rfl)
        clear HV
        generalize dg a k = xa at *
        generalize dg b k = xb at *
        obtain ⟨m2, Em⟩ : ∃ x, Hid ((y + xa + xb) / 256 = x) := ⟨_, Lib.hid rfl⟩
        obtain ⟨r, Er⟩ : ∃ x, Hid ((y + xa + xb) % 256 = x) := ⟨_, Lib.hid rfl⟩
        rw [Em.out, Er.out] at HS
        have hdiv : ((y : Int) + (xa : Int)) / 256 = (m2 : Int) := by rw [← Em.out]; omega
        have hmod : IntKind.u8.wrap ((y : Int) + (xa : Int)) = (r : Int) := by
          have h := u8_wrap_nat (y + xa + xb)
          rw [Er.out] at h
          rw [← h]
          congr 1 <;> omega
        have hm2 : m2 ≤ 1 := by rw [← Em.out]; omega
        have hr : r < 256 := by rw [← Er.out]; omega
        have HW := Lib.hid (rowR_set hrow (k := k) (i := m - k) (v := r) (by omega) (by omega) rfl)
        clear hrow
        go_wp2_with fail
        go_roundg q
        case measure => omega
        case rel => exact ⟨k + 1, m2, upd g k r, by have := Hk.out; omega, by go_num, rfl, hm2, dig8_upd hd hr, HS, HW.out, hb.setCell (Nat.le_refl _) _⟩
      · obtain ⟨cb, hcb, hxb⟩ := dg_at (l := b) (j := k) h2
        have hib := run_index_bytes b (b.length - 1 - k) cb hcb ((b.length : Int) - ((k : Int) + 1)) (by omega)
        rw [hxb] at hib
        clear hcb hxb
        have hxa : dg a k < 256 := dg_lt a k
        have hxb : dg b k < 256 := dg_lt b k
        have hza : dg a k = 0 := dg_out (by omega)
        have HS := Lib.hid (add8_step HV.out (t := y + dg a k + dg b k) rfl)
        clear HV
        generalize dg a k = xa at *
        generalize dg b k = xb at *
        obtain ⟨m2, Em⟩ : ∃ x, Hid ((y + xa + xb) / 256 = x) := ⟨_, Lib.hid rfl⟩
        obtain ⟨r, Er⟩ : ∃ x, Hid ((y + xa + xb) % 256 = x) := ⟨_, Lib.hid rfl⟩
        rw [Em.out, Er.out] at HS
        have hdiv : ((y : Int) + (xb : Int)) / 256 = (m2 : Int) := by rw [← Em.out]; omega
        have hmod : IntKind.u8.wrap ((y : Int) + (xb : Int)) = (r : Int) := by
          have h := u8_wrap_nat (y + xa + xb)
          rw [Er.out] at h
          rw [← h]
          congr 1 <;> omega
        have hm2 : m2 ≤ 1 := by rw [← Em.out]; omega
        have hr : r < 256 := by rw [← Er.out]; omega
        have HW := Lib.hid (rowR_set hrow (k := k) (i := m - k) (v := r) (by omega) (by omega) rfl)
        clear hrow
        go_wp2_with fail
        go_roundg q
        case measure => omega
        case rel => exact ⟨k + 1, m2, upd g k r, by have := Hk.out; omega, by go_num, rfl, hm2, dig8_upd hd hr, HS, HW.out, hb.setCell (Nat.le_refl _) _⟩
      · have hxa : dg a k < 256 := dg_lt a k
        have hxb : dg b k < 256 := dg_lt b k
        have hza : dg a k = 0 := dg_out (by omega)
        have hzb : dg b k = 0 := dg_out (by omega)
        have HS := Lib.hid (add8_step HV.out (t := y + dg a k + dg b k) rfl)
        clear HV
        generalize dg a k = xa at *
        generalize dg b k = xb at *
        obtain ⟨m2, Em⟩ : ∃ x, Hid ((y + xa + xb) / 256 = x) := ⟨_, Lib.hid rfl⟩
        obtain ⟨r, Er⟩ : ∃ x, Hid ((y + xa + xb) % 256 = x) := ⟨_, Lib.hid rfl⟩
        rw [Em.out, Er.out] at HS
        have hdiv : ((y : Int)) / 256 = (m2 : Int) := by rw [← Em.out]; omega
        have hmod : IntKind.u8.wrap ((y : Int)) = (r : Int) := by
          have h := u8_wrap_nat (y + xa + xb)
          rw [Er.out] at h
          rw [← h]
          congr 1 <;> omega
        have hm2 : m2 ≤ 1 := by rw [← Em.out]; omega
        have hr : r < 256 := by rw [← Er.out]; omega
        have HW := Lib.hid (rowR_set hrow (k := k) (i := m - k) (v := r) (by omega) (by omega) rfl)
        clear hrow
        go_wp2_with fail
        go_roundg q
        case measure => omega
        case rel => exact ⟨k + 1, m2, upd g k r, by have := Hk.out; omega, by go_num, rfl, hm2, dig8_upd hd hr, HS, HW.out, hb.setCell (Nat.le_refl _) _⟩
set_option maxRecDepth 100000 in
set_option maxHeartbeats 1600000 in
theorem rsubMag_any (a b : List UInt8) (w : World) (ha : a.length ≤ 100000000) (hb : b.length ≤ a.length) (hle : vB b ≤ vB a) :
    Calls Tryz.prog 62 #[.string ⟨a.toArray⟩, .string ⟨b.toArray⟩] w fun e w' => e = .returned (.string ⟨(bytesOf (vB a - vB b)).toArray⟩) ∧ Below w.heap.size w w' := by
  have hmk := run_make_row' (P := Tryz.prog) 56 5 (.int .u8 0) 1 Tryz.underlying56 Tryz.infoU8 rfl .i64 .i64 a.length (by omega) (by omega)
  have Hle := Lib.hid hle
  clear hle
  go_enter Tryz.func62, Tryz.ntmps62
  go_wp2_with fail
  clear hmk
  go_loopg [6, 7] a.length (fun q s6 s7 wx => ∃ (k y : Nat) (g : Nat → Nat), k + q = a.length ∧ s7 = .int .i64 ((k : Int) + 1) ∧ s6 = .int .i64 (y : Int) ∧ y ≤ 1 ∧ Dig8 g k ∧ Hid (w8 g k + w8 (dg b) k = w8 (dg a) k + y * 256 ^ k) ∧ wx.rowIs w.heap.size 5 a.length (rowR a.length g) ∧ Below w.heap.size w wx)
  case atStart => exact ⟨0, 0, fun _ => 0, by omega, rfl, rfl, by omega, fun i h => absurd h (by omega), by show _ = _; rfl, (World.rowIs_made w _ a.length _).congr (fun i _ => by simp [rowR]), below1 w _⟩
  case round =>
    obtain ⟨k, y, g, hk, rfl, rfl, hy, hd, HV, hrow, hbl⟩ := hrel
    rcases gk with _ | q
    · have hkk : k = a.length := by omega
      subst hkk
      have hfin : w8 g a.length = vB a - vB b := by
        have h := HV.out
        rw [w8_dg_le a (Nat.le_refl _), w8_dg_le b hb] at h
        have h1 := w8_lt hd
        have h2 := Hle.out
        rcases (show y = 0 ∨ y = 1 by omega) with rfl | rfl <;> omega
      have HF := Lib.hid (bytesOf_w8 hd hfin)
      have hcv := run_string_of wr w.heap.size 0 a.length (bl g a.length) (fun i u hu => rowR_cell hrow hd i u hu)
      rw [bl_len] at hcv
      have hlen : (bl g a.length).length ≤ 100000001 := by rw [bl_len]; omega
      clear HV hfin hrow hd
      generalize bl g a.length = T at *
      go_wp2_with fail
      refine (rtrim_any T _ (by omega)).mono ?_
      rintro e W1 ⟨rfl, rfl⟩
      go_wp2
      go_ret
      exact ⟨by rw [HF.out]; rfl, hbl⟩
    · have Hk := Lib.hid hk
      have h1 : k < a.length := by omega
      have hkn : k + q + 1 = a.length := by omega
      clear hk
      by_cases h2 : k < b.length <;> by_cases h3 : dg a k < dg b k + y
      · obtain ⟨ca, hca, hxa⟩ := dg_at (l := a) (j := k) h1
        have hia := run_index_bytes a (a.length - 1 - k) ca hca ((a.length : Int) - ((k : Int) + 1)) (by omega)
        rw [hxa] at hia
        clear hca hxa
        obtain ⟨cb, hcb, hxb⟩ := dg_at (l := b) (j := k) h2
        have hib := run_index_bytes b (b.length - 1 - k) cb hcb ((b.length : Int) - ((k : Int) + 1)) (by omega)
        rw [hxb] at hib
        clear hcb hxb
        have hxa : dg a k < 256 := dg_lt a k
        have hxb : dg b k < 256 := dg_lt b k
        obtain ⟨r, Er⟩ : ∃ r : Nat, dg a k + 256 * 1 = dg b k + y + r := ⟨dg a k + 256 * 1 - dg b k - y, by omega⟩
        have HS := Lib.hid (sub8_step HV.out Er)
        clear HV
        generalize dg a k = xa at *
        generalize dg b k = xb at *
        have hd0 : (xa : Int) - (y : Int) - (xb : Int) < 0 := by omega
        have hmod : IntKind.u8.wrap ((xa : Int) - (y : Int) - (xb : Int) + 256) = (r : Int) := by
          have h := u8_wrap_nat r
          rw [show r % 256 = r by omega] at h
          rw [← h]
          congr 1 <;> omega
        have hr : r < 256 := by omega
        have HW := Lib.hid (rowR_set hrow (k := k) (i := a.length - (k + 1)) (v := r) (by omega) (by omega) rfl)
        have hf := hrow.frozen (a.length - (k + 1))
        have hw := hrow.cell (i := a.length - (k + 1)) (by omega)
        clear hrow Er
        go_wp2_with fail
        go_roundg q
        case measure => omega
        case rel => exact ⟨k + 1, 1, upd g k r, by have := Hk.out; omega, by go_num, rfl, by omega, dig8_upd hd hr, HS, HW.out, hbl.setCell (Nat.le_refl _) _⟩
      · obtain ⟨ca, hca, hxa⟩ := dg_at (l := a) (j := k) h1
        have hia := run_index_bytes a (a.length - 1 - k) ca hca ((a.length : Int) - ((k : Int) + 1)) (by omega)
        rw [hxa] at hia
        clear hca hxa
        obtain ⟨cb, hcb, hxb⟩ := dg_at (l := b) (j := k) h2
        have hib := run_index_bytes b (b.length - 1 - k) cb hcb ((b.length : Int) - ((k : Int) + 1)) (by omega)
        rw [hxb] at hib
        clear hcb hxb
        have hxa : dg a k < 256 := dg_lt a k
        have hxb : dg b k < 256 := dg_lt b k
        obtain ⟨r, Er⟩ : ∃ r : Nat, dg a k + 256 * 0 = dg b k + y + r := ⟨dg a k + 256 * 0 - dg b k - y, by omega⟩
        have HS := Lib.hid (sub8_step HV.out Er)
        clear HV
        generalize dg a k = xa at *
        generalize dg b k = xb at *
        have hd0 : (xa : Int) - (y : Int) - (xb : Int) ≥ 0 := by omega
        have hmod : IntKind.u8.wrap ((xa : Int) - (y : Int) - (xb : Int)) = (r : Int) := by
          have h := u8_wrap_nat r
          rw [show r % 256 = r by omega] at h
          rw [← h]
          congr 1 <;> omega
        have hr : r < 256 := by omega
        have HW := Lib.hid (rowR_set hrow (k := k) (i := a.length - (k + 1)) (v := r) (by omega) (by omega) rfl)
        have hf := hrow.frozen (a.length - (k + 1))
        have hw := hrow.cell (i := a.length - (k + 1)) (by omega)
        clear hrow Er
        go_wp2_with fail
        go_roundg q
        case measure => omega
        case rel => exact ⟨k + 1, 0, upd g k r, by have := Hk.out; omega, by go_num, rfl, by omega, dig8_upd hd hr, HS, HW.out, hbl.setCell (Nat.le_refl _) _⟩
      · obtain ⟨ca, hca, hxa⟩ := dg_at (l := a) (j := k) h1
        have hia := run_index_bytes a (a.length - 1 - k) ca hca ((a.length : Int) - ((k : Int) + 1)) (by omega)
        rw [hxa] at hia
        clear hca hxa
        have hxa : dg a k < 256 := dg_lt a k
        have hxb : dg b k < 256 := dg_lt b k
        have hzb : dg b k = 0 := dg_out (by omega)
        obtain ⟨r, Er⟩ : ∃ r : Nat, dg a k + 256 * 1 = dg b k + y + r := ⟨dg a k + 256 * 1 - dg b k - y, by omega⟩
        have HS := Lib.hid (sub8_step HV.out Er)
        clear HV
        generalize dg a k = xa at *
        generalize dg b k = xb at *
        have hd0 : (xa : Int) - (y : Int) < 0 := by omega
        have hmod : IntKind.u8.wrap ((xa : Int) - (y : Int) + 256) = (r : Int) := by
          have h := u8_wrap_nat r
          rw [show r % 256 = r by omega] at h
          rw [← h]
          congr 1 <;> omega
        have hr : r < 256 := by omega
        have HW := Lib.hid (rowR_set hrow (k := k) (i := a.length - (k + 1)) (v := r) (by omega) (by omega) rfl)
        have hf := hrow.frozen (a.length - (k + 1))
        have hw := hrow.cell (i := a.length - (k + 1)) (by omega)
        clear hrow Er
        go_wp2_with fail
        go_roundg q
        case measure => omega
        case rel => exact ⟨k + 1, 1, upd g k r, by have := Hk.out; omega, by go_num, rfl, by omega, dig8_upd hd hr, HS, HW.out, hbl.setCell (Nat.le_refl _) _⟩
      · obtain ⟨ca, hca, hxa⟩ := dg_at (l := a) (j := k) h1
        have hia := run_index_bytes a (a.length - 1 - k) ca hca ((a.length : Int) - ((k : Int) + 1)) (by omega)
        rw [hxa] at hia
        clear hca hxa
        have hxa : dg a k < 256 := dg_lt a k
        have hxb : dg b k < 256 := dg_lt b k
        have hzb : dg b k = 0 := dg_out (by omega)
        obtain ⟨r, Er⟩ : ∃ r : Nat, dg a k + 256 * 0 = dg b k + y + r := ⟨dg a k + 256 * 0 - dg b k - y, by omega⟩
        have HS := Lib.hid (sub8_step HV.out Er)
        clear HV
        generalize dg a k = xa at *
        generalize dg b k = xb at *
        have hd0 : (xa : Int) - (y : Int) ≥ 0 := by omega
        have hmod : IntKind.u8.wrap ((xa : Int) - (y : Int)) = (r : Int) := by
          have h := u8_wrap_nat r
          rw [show r % 256 = r by omega] at h
          rw [← h]
          congr 1 <;> omega
        have hr : r < 256 := by omega
        have HW := Lib.hid (rowR_set hrow (k := k) (i := a.length - (k + 1)) (v := r) (by omega) (by omega) rfl)
        have hf := hrow.frozen (a.length - (k + 1))
        have hw := hrow.cell (i := a.length - (k + 1)) (by omega)
        clear hrow Er
        go_wp2_with fail
        go_roundg q
        case measure => omega
        case rel => exact ⟨k + 1, 0, upd g k r, by have := Hk.out; omega, by go_num, rfl, by omega, dig8_upd hd hr, HS, HW.out, hbl.setCell (Nat.le_refl _) _⟩
end Go.Proofs.YtigdjlhihhakmaaGreatDoor
