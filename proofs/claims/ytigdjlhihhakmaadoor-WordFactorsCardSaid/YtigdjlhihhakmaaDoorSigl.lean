/- Plain facts: the bytes out of digits to the base 2^32; a slice of bytes made a string. No condition. -/
import Derived.Test.YtigdjlhihhakmaaDoorCan
import Derived.Test.YtigdjlhihhakmaaDoorMagl
import Derived.Laws.BytesString
import Derived.Laws.Cells
namespace Go.Proofs.YtigdjlhihhakmaaDoor
open Go.RowKit

theorem foldl_push (l : List UInt8) (s : ByteArray) : (l.map fun b => (b.toNat : Int)).foldl (fun r n => r.push (UInt8.ofNat n.toNat)) s = ⟨(s.data.toList ++ l).toArray⟩ := by
  induction l generalizing s with
  | nil => simp
  | cons b l ih =>
    rw [List.map_cons, List.foldl_cons, ih]
    simp [ByteArray.push]

theorem run_string_of (w : World) (b off cap : Nat) (l : List UInt8) (hc : ∀ i u, l[i]? = some u → w.cell? ⟨b, off + i, none⟩ = some (.int .u8 (u.toNat : Int))) :
    (convert 70 9 (.slice (some ⟨b, off, none⟩) l.length cap)).run Tryd.prog w = .ok (.string ⟨l.toArray⟩) w := by
  rw [run_convert_bytes_string w 70 9 5 _ _ _ Tryd.underlying70 Tryd.underlying5 Tryd.underlying9]
  have h := run_loadCells_list (P := Tryd.prog) (w := w) ⟨b, off, none⟩ (l.map fun u => Value.int .u8 (u.toNat : Int)) (fun j v hv => by
    rw [List.getElem?_map] at hv
    cases hu : l[j]? with
    | none => rw [hu] at hv; cases hv
    | some u =>
      rw [hu] at hv
      have hv := Option.some.inj hv
      subst hv
      have := hc j u hu
      rw [show (⟨b, off, none⟩ : Addr).add j = ⟨b, off + j, none⟩ by unfold Addr.add; split <;> simp_all]
      exact this)
  rw [List.length_map] at h
  have h2 := run_bytesToString (P := Tryd.prog) w ⟨b, off, none⟩ l.length cap (l.map fun u => (u.toNat : Int)) (by rw [List.map_map]; exact h)
  rw [h2, foldl_push]
  rfl

/-- The byte at the place j from the end. -/
def byteAt (f : Nat → Nat) (j : Nat) : Nat := f (j / 4) / 256 ^ (j % 4) % 256
theorem byteAt_lt (f : Nat → Nat) (j : Nat) : byteAt f j < 256 := Nat.mod_lt _ (by omega)
/-- The last k bytes, out of the digits f. -/
def bytesN (f : Nat → Nat) (k : Nat) : List UInt8 := (List.range k).reverse.map fun j => UInt8.ofNat (byteAt f j)
theorem bytesN_succ (f : Nat → Nat) (k : Nat) : bytesN f (k + 1) = UInt8.ofNat (byteAt f k) :: bytesN f k := by
  simp [bytesN, List.range_succ]
theorem bytesN_len (f : Nat → Nat) (k : Nat) : (bytesN f k).length = k := by simp [bytesN]
theorem bytesN_at (f : Nat → Nat) (k i : Nat) (h : i < k) : (bytesN f k)[i]? = some (UInt8.ofNat (byteAt f (k - 1 - i))) := by
  simp [bytesN, h]
theorem vB_bytesN (f : Nat → Nat) (n r : Nat) (hr : r ≤ 4) (hd : ∀ i, f i < 4294967296) : vB (bytesN f (4 * n + r)) = val f n + f n % 256 ^ r * 4294967296 ^ n := by
  induction n generalizing r with
  | zero =>
    induction r with
    | zero => simp [bytesN, vB, val, Nat.mod_one]
    | succ r ih =>
      rw [show 4 * 0 + (r + 1) = (4 * 0 + r) + 1 by omega, bytesN_succ, vB_cons, bytesN_len, ih (by omega), UInt8.toNat_ofNat_of_lt' (by show byteAt f _ < 256; exact byteAt_lt f _)]
      unfold byteAt
      rw [show (4 * 0 + r) / 4 = 0 by omega, show (4 * 0 + r) % 4 = r by omega, show 4 * 0 + r = r by omega]
      simp only [val, Nat.pow_zero, Nat.mul_one, Nat.zero_add]
      have e : f 0 % 256 ^ (r + 1) = f 0 % 256 ^ r + 256 ^ r * (f 0 / 256 ^ r % 256) := by rw [Nat.pow_succ, Nat.mod_mul]
      rw [e, Nat.mul_comm]; omega
  | succ n ihn =>
    induction r with
    | zero =>
      have h4 := ihn 4 (Nat.le_refl _)
      rw [show 4 * (n + 1) + 0 = 4 * n + 4 by omega, h4, val, Nat.pow_zero, Nat.mod_one, Nat.zero_mul, Nat.add_zero, show (256 : Nat) ^ 4 = 4294967296 by rfl, Nat.mod_eq_of_lt (hd n)]
    | succ r ih =>
      rw [show 4 * (n + 1) + (r + 1) = (4 * (n + 1) + r) + 1 by omega, bytesN_succ, vB_cons, bytesN_len, ih (by omega), UInt8.toNat_ofNat_of_lt' (by show byteAt f _ < 256; exact byteAt_lt f _)]
      unfold byteAt
      rw [← pow256 (4 * (n + 1) + r), show (4 * (n + 1) + r) / 4 = n + 1 by omega, show (4 * (n + 1) + r) % 4 = r by omega]
      have e : f (n + 1) % 256 ^ (r + 1) = f (n + 1) % 256 ^ r + 256 ^ r * (f (n + 1) / 256 ^ r % 256) := by rw [Nat.pow_succ, Nat.mod_mul]
      rw [e, Nat.add_mul]
      generalize f (n + 1) / 256 ^ r % 256 = q
      rw [Nat.mul_comm (4294967296 ^ (n + 1)), ← Nat.mul_assoc, Nat.mul_comm q]
      omega
theorem vB_all (f : Nat → Nat) (n : Nat) (hd : ∀ i, f i < 4294967296) : vB (bytesN f (4 * n)) = val f n := by
  have := vB_bytesN f n 0 (by omega) hd
  rw [Nat.add_zero] at this
  rw [this, Nat.pow_zero, Nat.mod_one, Nat.zero_mul, Nat.add_zero]

theorem byte_int (f : Nat → Nat) (k : Nat) : (f (k / 4) : Int) / 2 ^ (8 * (k % 4)) % 256 = (byteAt f k : Int) := by
  unfold byteAt
  rw [Int.natCast_emod, Int.natCast_ediv, Int.natCast_pow, Int.pow_mul]
  rfl
theorem val_ext_all (f : Nat → Nat) (n : Nat) (h : Dig f n) : (∀ i, ext f n i < 4294967296) ∧ val (ext f n) n = val f n ∧ bytesN f (4 * n) = bytesN (ext f n) (4 * n) := by
  refine ⟨fun i => ?_, val_ext f n n (Nat.le_refl _), ?_⟩
  · unfold ext; split
    · exact h i ‹_›
    · omega
  · unfold bytesN
    apply List.map_congr_left
    intro j hj
    simp at hj
    unfold byteAt ext
    rw [if_pos (by omega)]
theorem vB_num (f : Nat → Nat) (n : Nat) (h : Dig f n) : vB (bytesN f (4 * n)) = val f n := by
  obtain ⟨h1, h2, h3⟩ := val_ext_all f n h
  rw [h3, vB_all _ _ h1, h2]
end Go.Proofs.YtigdjlhihhakmaaDoor
