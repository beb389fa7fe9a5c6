/- Plain facts on products by digits. No condition. Plain facts: the digits to the base 2^32 out of bytes. No condition. Plain facts: the bytes out of digits to the base 2^32; a slice of bytes made a string. No condition. -/
import Derived.Test.YtgcogpfmhmmgdaaGreatDoorQ03
import Derived.Laws.BitsAllLaws
import Derived.Laws.BytesString
import Derived.Laws.Cells

namespace Go.Proofs.YtgcogpfmhmmgdaaGreatDoor
open Go.RowKit

theorem val_set (p : Nat → Nat) {i n : Nat} (v : Nat) (h : i < n) : val (upd p i v) n + p i * 4294967296 ^ i = val p n + v * 4294967296 ^ i := by
  induction n with
  | zero => omega
  | succ n ih =>
    rw [val, val]
    by_cases e : i = n
    · subst e
      have e3 : val (upd p i v) i = val p i := val_congr fun j hj => upd_lt p i v hj
      rw [upd_same, e3]
      omega
    · have := ih (by omega)
      have e2 : upd p i v n = p n := by simp [upd, show n ≠ i by omega]
      rw [e2]
      omega

theorem mul_inner {p f g : Nat → Nat} {k m j y V t : Nat} (hj : j < m) (hv : val p (k + m) + y * 4294967296 ^ (k + j) = V + f k * val g j * 4294967296 ^ k) (ht : t = y + (f k * g j + p (k + j))) :
    val (upd p (k + j) (t % 4294967296)) (k + m) + t / 4294967296 * 4294967296 ^ (k + (j + 1)) = V + f k * val g (j + 1) * 4294967296 ^ k := by
  have h1 := val_set p (t % 4294967296) (show k + j < k + m by omega)
  have h2 := Nat.div_add_mod t 4294967296
  have h3 : f k * val g (j + 1) * 4294967296 ^ k = f k * val g j * 4294967296 ^ k + f k * g j * 4294967296 ^ (k + j) := by
    rw [val, Nat.mul_add, Nat.add_mul, Nat.pow_add]
    congr 1
    rw [← Nat.mul_assoc, Nat.mul_assoc (f k * g j), Nat.mul_comm (4294967296 ^ j)]
  rw [h3, show k + (j + 1) = (k + j) + 1 by omega, Nat.pow_succ]
  generalize 4294967296 ^ (k + j) = Q at *
  generalize t / 4294967296 = a at *
  generalize t % 4294967296 = r at *
  have h4 : (4294967296 * a + r) * Q = (y + (f k * g j + p (k + j))) * Q := by rw [h2, ht]
  rw [Nat.add_mul, Nat.add_mul, Nat.add_mul] at h4
  have h5 : a * (Q * 4294967296) = 4294967296 * a * Q := by rw [Nat.mul_comm Q, ← Nat.mul_assoc, Nat.mul_comm a]
  rw [h5]
  generalize 4294967296 * a * Q = z1 at *
  generalize f k * g j * Q = z2 at *
  omega

theorem mul_outer {p f g : Nat → Nat} {k m y : Nat} (hv : val p (k + m) + y * 4294967296 ^ (k + m) = val f k * val g m + f k * val g m * 4294967296 ^ k) :
    val (upd p (k + m) y) (k + 1 + m) = val f (k + 1) * val g m := by
  rw [show k + 1 + m = (k + m) + 1 by omega, val_upd, hv, val, Nat.add_mul, Nat.mul_assoc, Nat.mul_assoc, Nat.mul_comm (val g m)]

theorem dig_set {p : Nat → Nat} {i n v : Nat} (h : Dig p n) (hv : v < 4294967296) : Dig (upd p i v) n := fun j hj => by
  by_cases e : j = i
  · subst e; rw [upd_same]; exact hv
  · simp only [upd, if_neg e]; exact h j hj

/-- The row that holds the digits p. -/
def dall (p : Nat → Nat) : Nat → Value := fun j => .int .u32 (p j : Int)
theorem dall_set {w : World} {b n : Nat} {t : TypeId} {p : Nat → Nat} (h : w.rowIs b t n (dall p)) (i : Nat) {x : Int} {v : Nat} (hx : x = (v : Int)) :
    (w.setCell ⟨b, i, none⟩ (.int .u32 x)).rowIs b t n (dall (upd p i v)) :=
  (h.set i _).congr fun j _ => by
    subst hx
    unfold dall upd
    by_cases e : j = i
    · rw [if_pos e, if_pos e]
    · rw [if_neg e, if_neg e]
theorem dall_rd {w : World} {b n : Nat} {t : TypeId} {s : Nat → Nat} (h : w.rowIs b t n (dall s)) : Rd w (some ⟨b, 0, none⟩) n s :=
  Rd.of_row h (Nat.le_refl _) fun _ _ => rfl
theorem val_zeros (p : Nat → Nat) {n m : Nat} (h : n ≤ m) (hz : ∀ i, n ≤ i → p i = 0) : val p m = val p n := by
  induction m with
  | zero => obtain rfl : n = 0 := by omega
            rfl
  | succ m ih =>
    by_cases e : n = m + 1
    · rw [e]
    · rw [val, ih (by omega), hz m (by omega)]; simp
end Go.Proofs.YtgcogpfmhmmgdaaGreatDoor

namespace Go.Proofs.YtgcogpfmhmmgdaaGreatDoor
open Go.RowKit

/-- The last k bytes of l are in the digits p. -/
structure Packed (l : List UInt8) (p : Nat → Nat) (k : Nat) : Prop where
  le : k ≤ l.length
  dig : ∀ j, p j < 4294967296
  cur : p (k / 4) < 256 ^ (k % 4)
  zero : ∀ j, k / 4 < j → p j = 0
  val : val p ((l.length + 3) / 4) = vB (l.drop (l.length - k))

theorem stz_len (l : List UInt8) : (Lib.trimLeftB l 0).length ≤ l.length := (List.dropWhile_suffix _).length_le

theorem packed_start (l : List UInt8) : Packed l (fun _ => 0) 0 :=
  ⟨Nat.zero_le _, fun _ => by show (0 : Nat) < _; omega, by simp, fun _ _ => rfl, by rw [val_zeros _ (Nat.zero_le _) (fun _ _ => rfl)]; simp [val, vB]⟩

theorem pow256_le {r : Nat} (h : r < 4) : (256 : Nat) ^ (r + 1) ≤ 4294967296 := by
  rcases (show r = 0 ∨ r = 1 ∨ r = 2 ∨ r = 3 by omega) with rfl | rfl | rfl | rfl <;> decide

theorem packed_step {l : List UInt8} {p : Nat → Nat} {k : Nat} (h : Packed l p k) (hk : k < l.length) {b : UInt8} (hb : l[l.length - 1 - k]? = some b) :
    p (k / 4) + b.toNat * 256 ^ (k % 4) < 4294967296 ∧ Packed l (upd p (k / 4) (p (k / 4) + b.toNat * 256 ^ (k % 4))) (k + 1) := by
  have hb' := b.toNat_lt
  have hlt : p (k / 4) + b.toNat * 256 ^ (k % 4) < 256 ^ (k % 4 + 1) := by
    rw [Nat.pow_succ]
    have := h.cur
    have h2 : b.toNat * 256 ^ (k % 4) ≤ 255 * 256 ^ (k % 4) := Nat.mul_le_mul_right _ (by omega)
    generalize 256 ^ (k % 4) = P at *
    omega
  have hle := pow256_le (show k % 4 < 4 by omega)
  refine ⟨by omega, by omega, fun j => ?_, ?_, fun j hj => ?_, ?_⟩
  · by_cases e : j = k / 4
    · subst e; rw [upd_same]; omega
    · simp only [upd, if_neg e]; exact h.dig j
  · by_cases e : k % 4 = 3
    · rw [show (k + 1) / 4 = k / 4 + 1 by omega, show (k + 1) % 4 = 0 by omega]
      simp only [upd, if_neg (show k / 4 + 1 ≠ k / 4 by omega), h.zero (k / 4 + 1) (by omega)]
      decide
    · rw [show (k + 1) / 4 = k / 4 by omega, show (k + 1) % 4 = k % 4 + 1 by omega, upd_same]
      exact hlt
  · simp only [upd, if_neg (show j ≠ k / 4 by omega)]
    exact h.zero j (by omega)
  · have h1 := val_set p (p (k / 4) + b.toNat * 256 ^ (k % 4)) (show k / 4 < (l.length + 3) / 4 by omega)
    have h2 := vB_drop (l := l) (k := l.length - 1 - k) (by omega)
    rw [show l.length - 1 - (l.length - 1 - k) = k by omega, show l.length - 1 - k + 1 = l.length - k by omega] at h2
    have h3 : l[l.length - 1 - k]'(by omega) = b := by
      rw [List.getElem?_eq_getElem (by omega)] at hb
      exact Option.some.inj hb
    rw [h3, ← pow256 k] at h2
    rw [show l.length - (k + 1) = l.length - 1 - k by omega, h2, ← h.val]
    rw [Nat.add_mul, Nat.mul_assoc, Nat.mul_comm (256 ^ (k % 4))] at h1
    omega

theorem packed_trm {l : List UInt8} {p : Nat → Nat} (h : Packed l p l.length) (hh : l.head? ≠ some 0) : Trm p ((l.length + 3) / 4) := by
  intro hn h0
  have h1 := h.val
  rw [Nat.sub_self, List.drop_zero] at h1
  have h2 := vB_len hh (by omega)
  obtain ⟨m, hm⟩ : ∃ m, (l.length + 3) / 4 = m + 1 := ⟨(l.length + 3) / 4 - 1, by omega⟩
  rw [hm] at h1 h0
  simp only [Nat.add_sub_cancel] at h0
  rw [Go.Proofs.YtgcogpfmhmmgdaaGreatDoor.val, h0, Nat.zero_mul, Nat.add_zero] at h1
  have h3 := val_lt (f := p) (n := m) (fun i _ => h.dig i)
  rw [show (4294967296 : Nat) = 256 ^ 4 by rfl, ← Nat.pow_mul] at h3
  have h4 : (256 : Nat) ^ (4 * m) ≤ 256 ^ (l.length - 1) := Nat.pow_le_pow_right (by omega) (by omega)
  omega

theorem or_pack (a b r : Nat) (ha : a < 256 ^ r) (_hr : r < 4) : a ||| b * 256 ^ r = a + b * 256 ^ r := by
  have e : (256 : Nat) ^ r = 2 ^ (8 * r) := by rw [Nat.pow_mul]
  rw [e] at ha ⊢
  have := Nat.two_pow_add_eq_or_of_lt ha b
  rw [Nat.or_comm, Nat.mul_comm, ← this, Nat.add_comm]
theorem u32_pack (a b r : Nat) (ha : a < 256 ^ r) (hb : b < 256) (hr : r < 4) : bits .or .u32 (a : Int) ((b * 256 ^ r : Nat) : Int) = ((a + b * 256 ^ r : Nat) : Int) := by
  have hle := pow256_le hr
  rw [Nat.pow_succ] at hle
  have h2 : b * 256 ^ r ≤ 255 * 256 ^ r := Nat.mul_le_mul_right _ (by omega)
  rw [u32_or_nat a (b * 256 ^ r) (by omega) (by omega), or_pack a b r ha hr]

theorem shl_pack (b r : Nat) (hb : b < 256) (hr : r < 4) : (b : Int) * 2 ^ (8 * r) % 4294967296 = ((b * 256 ^ r : Nat) : Int) := by
  have hle := pow256_le hr
  rw [Nat.pow_succ] at hle
  have h2 : b * 256 ^ r ≤ 255 * 256 ^ r := Nat.mul_le_mul_right _ (by omega)
  have e : (b : Int) * 2 ^ (8 * r) = ((b * 256 ^ r : Nat) : Int) := by
    rw [Int.natCast_mul, Int.natCast_pow, Int.pow_mul]; rfl
  rw [e]
  generalize b * 256 ^ r = z at *
  omega
theorem or_digit {p : Nat → Nat} {k : Nat} {l : List UInt8} (h : Packed l p k) (b : UInt8) :
    bits .or .u32 (p (k / 4) : Int) ((b.toNat : Int) * 2 ^ (8 * (k % 4)) % 4294967296) = ((p (k / 4) + b.toNat * 256 ^ (k % 4) : Nat) : Int) := by
  rw [shl_pack _ _ b.toNat_lt (by omega), u32_pack _ _ _ h.cur b.toNat_lt (by omega)]
end Go.Proofs.YtgcogpfmhmmgdaaGreatDoor

namespace Go.Proofs.YtgcogpfmhmmgdaaGreatDoor
open Go.RowKit

theorem foldl_push (l : List UInt8) (s : ByteArray) : (l.map fun b => (b.toNat : Int)).foldl (fun r n => r.push (UInt8.ofNat n.toNat)) s = ⟨(s.data.toList ++ l).toArray⟩ := by
  induction l generalizing s with
  | nil => simp
  | cons b l ih =>
    rw [List.map_cons, List.foldl_cons, ih]
    simp [ByteArray.push]

theorem run_string_of (w : World) (b off cap : Nat) (l : List UInt8) (hc : ∀ i u, l[i]? = some u → w.cell? ⟨b, off + i, none⟩ = some (.int .u8 (u.toNat : Int))) :
    (convert 59 9 (.slice (some ⟨b, off, none⟩) l.length cap)).run Tryz.prog w = .ok (.string ⟨l.toArray⟩) w := by
  rw [run_convert_bytes_string w 59 9 5 _ _ _ Tryz.underlying59 Tryz.underlying5 Tryz.underlying9]
  have h := run_loadCells_list (P := Tryz.prog) (w := w) ⟨b, off, none⟩ (l.map fun u => Value.int .u8 (u.toNat : Int)) (fun j v hv => by
    rw [List.getElem?_map] at hv
    cases hu : l[j]? with
    | none => rw [hu] at hv; cases hv
    | some u =>
      rw [hu] at hv
      have hv := Option.some.inj hv
      subst hv
      have := hc j u hu
      rw [show (⟨b, off, none⟩ : Addr).add j = ⟨b, off + j, none⟩ by unfold Addr.add; split <;> simp_all]
      exact this)
  rw [List.length_map] at h
  have h2 := run_bytesToString (P := Tryz.prog) w ⟨b, off, none⟩ l.length cap (l.map fun u => (u.toNat : Int)) (by rw [List.map_map]; exact h)
  rw [h2, foldl_push]
  rfl

/-- The byte at the place j from the end. -/
def byteAt (f : Nat → Nat) (j : Nat) : Nat := f (j / 4) / 256 ^ (j % 4) % 256
theorem byteAt_lt (f : Nat → Nat) (j : Nat) : byteAt f j < 256 := Nat.mod_lt _ (by omega)
/-- The last k bytes, out of the digits f. -/
def bytesN (f : Nat → Nat) (k : Nat) : List UInt8 := (List.range k).reverse.map fun j => UInt8.ofNat (byteAt f j)
theorem bytesN_succ (f : Nat → Nat) (k : Nat) : bytesN f (k + 1) = UInt8.ofNat (byteAt f k) :: bytesN f k := by
  simp [bytesN, List.range_succ]
theorem bytesN_len (f : Nat → Nat) (k : Nat) : (bytesN f k).length = k := by simp [bytesN]
theorem bytesN_at (f : Nat → Nat) (k i : Nat) (h : i < k) : (bytesN f k)[i]? = some (UInt8.ofNat (byteAt f (k - 1 - i))) := by
  simp [bytesN, h]
theorem vB_bytesN (f : Nat → Nat) (n r : Nat) (hr : r ≤ 4) (hd : ∀ i, f i < 4294967296) : vB (bytesN f (4 * n + r)) = val f n + f n % 256 ^ r * 4294967296 ^ n := by
  induction n generalizing r with
  | zero =>
    induction r with
    | zero => simp [bytesN, vB, val, Nat.mod_one]
    | succ r ih =>
      rw [show 4 * 0 + (r + 1) = (4 * 0 + r) + 1 by omega, bytesN_succ, vB_cons, bytesN_len, ih (by omega), UInt8.toNat_ofNat_of_lt' (by show byteAt f _ < 256; exact byteAt_lt f _)]
      unfold byteAt
      rw [show (4 * 0 + r) / 4 = 0 by omega, show (4 * 0 + r) % 4 = r by omega, show 4 * 0 + r = r by omega]
      simp only [val, Nat.pow_zero, Nat.mul_one, Nat.zero_add]
      have e : f 0 % 256 ^ (r + 1) = f 0 % 256 ^ r + 256 ^ r * (f 0 / 256 ^ r % 256) := by rw [Nat.pow_succ, Nat.mod_mul]
      rw [e, Nat.mul_comm]; omega
  | succ n ihn =>
    induction r with
    | zero =>
      have h4 := ihn 4 (Nat.le_refl _)
      rw [show 4 * (n + 1) + 0 = 4 * n + 4 by omega, h4, val, Nat.pow_zero, Nat.mod_one, Nat.zero_mul, Nat.add_zero, show (256 : Nat) ^ 4 = 4294967296 by rfl, Nat.mod_eq_of_lt (hd n)]
    | succ r ih =>
      rw [show 4 * (n + 1) + (r + 1) = (4 * (n + 1) + r) + 1 by omega, bytesN_succ, vB_cons, bytesN_len, ih (by omega), UInt8.toNat_ofNat_of_lt' (by show byteAt f _ < 256; exact byteAt_lt f _)]
      unfold byteAt
      rw [← pow256 (4 * (n + 1) + r), show (4 * (n + 1) + r) / 4 = n + 1 by omega, show (4 * (n + 1) + r) % 4 = r by omega]
      have e : f (n + 1) % 256 ^ (r + 1) = f (n + 1) % 256 ^ r + 256 ^ r * (f (n + 1) / 256 ^ r % 256) := by rw [Nat.pow_succ, Nat.mod_mul]
      rw [e, Nat.add_mul]
      generalize f (n + 1) / 256 ^ r % 256 = q
      rw [Nat.mul_comm (4294967296 ^ (n + 1)), ← Nat.mul_assoc, Nat.mul_comm q]
      omega
theorem vB_all (f : Nat → Nat) (n : Nat) (hd : ∀ i, f i < 4294967296) : vB (bytesN f (4 * n)) = val f n := by
  have := vB_bytesN f n 0 (by omega) hd
  rw [Nat.add_zero] at this
  rw [this, Nat.pow_zero, Nat.mod_one, Nat.zero_mul, Nat.add_zero]

theorem byte_int (f : Nat → Nat) (k : Nat) : (f (k / 4) : Int) / 2 ^ (8 * (k % 4)) % 256 = (byteAt f k : Int) := by
  unfold byteAt
  rw [Int.natCast_emod, Int.natCast_ediv, Int.natCast_pow, Int.pow_mul]
  rfl
theorem val_ext_all (f : Nat → Nat) (n : Nat) (h : Dig f n) : (∀ i, ext f n i < 4294967296) ∧ val (ext f n) n = val f n ∧ bytesN f (4 * n) = bytesN (ext f n) (4 * n) := by
  refine ⟨fun i => ?_, val_ext f n n (Nat.le_refl _), ?_⟩
  · unfold ext; split
    · exact h i ‹_›
    · omega
  · unfold bytesN
    apply List.map_congr_left
    intro j hj
    simp at hj
    unfold byteAt ext
    rw [if_pos (by omega)]
theorem vB_num (f : Nat → Nat) (n : Nat) (h : Dig f n) : vB (bytesN f (4 * n)) = val f n := by
  obtain ⟨h1, h2, h3⟩ := val_ext_all f n h
  rw [h3, vB_all _ _ h1, h2]
end Go.Proofs.YtgcogpfmhmmgdaaGreatDoor
