/- Plain facts: the digits to the base 2^32 out of bytes. No condition. Plain facts: the bytes out of digits to the base 2^32; a slice of bytes made a string. No condition. What integer.signed returns: the canonical integer. Condition: a number in memory of at most 1000000000 digits. -/
import Derived.Test.YtgcogpfmhmmgdaaGreatDoorQ04
import Derived.Laws.BitsAllLaws
import Derived.Laws.BytesString
import Derived.Laws.Cells
import Derived.Test.YtgcogpfmhmmgdaaGreatDoorQ01

namespace Go.Proofs.YtgcogpfmhmmgdaaGreatDoor
open Go.RowKit

/-- The last k bytes of l are in the digits p. -/
structure Packed (l : List UInt8) (p : Nat → Nat) (k : Nat) : Prop where
  le : k ≤ l.length
  dig : ∀ j, p j < 4294967296
  cur : p (k / 4) < 256 ^ (k % 4)
  zero : ∀ j, k / 4 < j → p j = 0
  val : val p ((l.length + 3) / 4) = vB (l.drop (l.length - k))

theorem stz_len (l : List UInt8) : (Lib.trimLeftB l 0).length ≤ l.length := (List.dropWhile_suffix _).length_le

theorem packed_start (l : List UInt8) : Packed l (fun _ => 0) 0 :=
  ⟨Nat.zero_le _, fun _ => by show (0 : Nat) < _; omega, by simp, fun _ _ => rfl, by rw [val_zeros _ (Nat.zero_le _) (fun _ _ => rfl)]; simp [val, vB]⟩

theorem pow256_le {r : Nat} (h : r < 4) : (256 : Nat) ^ (r + 1) ≤ 4294967296 := by
  rcases (show r = 0 ∨ r = 1 ∨ r = 2 ∨ r = 3 by omega) with rfl | rfl | rfl | rfl <;> decide

theorem packed_step {l : List UInt8} {p : Nat → Nat} {k : Nat} (h : Packed l p k) (hk : k < l.length) {b : UInt8} (hb : l[l.length - 1 - k]? = some b) :
    p (k / 4) + b.toNat * 256 ^ (k % 4) < 4294967296 ∧ Packed l (upd p (k / 4) (p (k / 4) + b.toNat * 256 ^ (k % 4))) (k + 1) := by
  have hb' := b.toNat_lt
  have hlt : p (k / 4) + b.toNat * 256 ^ (k % 4) < 256 ^ (k % 4 + 1) := by
    rw [Nat.pow_succ]
    have := h.cur
    have h2 : b.toNat * 256 ^ (k % 4) ≤ 255 * 256 ^ (k % 4) := Nat.mul_le_mul_right _ (by omega)
    generalize 256 ^ (k % 4) = P at *
    omega
  have hle := pow256_le (show k % 4 < 4 by omega)
  refine ⟨by omega, by omega, fun j => ?_, ?_, fun j hj => ?_, ?_⟩
  · by_cases e : j = k / 4
    · subst e; rw [upd_same]; omega
    · simp only [upd, if_neg e]; exact h.dig j
  · by_cases e : k % 4 = 3
    · rw [show (k + 1) / 4 = k / 4 + 1 by omega, show (k + 1) % 4 = 0 by omega]
      simp only [upd, if_neg (show k / 4 + 1 ≠ k / 4 by omega), h.zero (k / 4 + 1) (by omega)]
      decide
    · rw [show (k + 1) / 4 = k / 4 by omega, show (k + 1) % 4 = k % 4 + 1 by omega, upd_same]
      exact hlt
  · simp only [upd, if_neg (show j ≠ k / 4 by omega)]
    exact h.zero j (by omega)
  · have h1 := val_set p (p (k / 4) + b.toNat * 256 ^ (k % 4)) (show k / 4 < (l.length + 3) / 4 by omega)
    have h2 := vB_drop (l := l) (k := l.length - 1 - k) (by omega)
    rw [show l.length - 1 - (l.length - 1 - k) = k by omega, show l.length - 1 - k + 1 = l.length - k by omega] at h2
    have h3 : l[l.length - 1 - k]'(by omega) = b := by
      rw [List.getElem?_eq_getElem (by omega)] at hb
      exact Option.some.inj hb
    rw [h3, ← pow256 k] at h2
    rw [show l.length - (k + 1) = l.length - 1 - k by omega, h2, ← h.val]
    rw [Nat.add_mul, Nat.mul_assoc, Nat.mul_comm (256 ^ (k % 4))] at h1
    omega

theorem packed_trm {l : List UInt8} {p : Nat → Nat} (h : Packed l p l.length) (hh : l.head? ≠ some 0) : Trm p ((l.length + 3) / 4) := by
  intro hn h0
  have h1 := h.val
  rw [Nat.sub_self, List.drop_zero] at h1
  have h2 := vB_len hh (by omega)
  obtain ⟨m, hm⟩ : ∃ m, (l.length + 3) / 4 = m + 1 := ⟨(l.length + 3) / 4 - 1, by omega⟩
  rw [hm] at h1 h0
  simp only [Nat.add_sub_cancel] at h0
  rw [Go.Proofs.YtgcogpfmhmmgdaaGreatDoor.val, h0, Nat.zero_mul, Nat.add_zero] at h1
  have h3 := val_lt (f := p) (n := m) (fun i _ => h.dig i)
  rw [show (4294967296 : Nat) = 256 ^ 4 by rfl, ← Nat.pow_mul] at h3
  have h4 : (256 : Nat) ^ (4 * m) ≤ 256 ^ (l.length - 1) := Nat.pow_le_pow_right (by omega) (by omega)
  omega

theorem or_pack (a b r : Nat) (ha : a < 256 ^ r) (_hr : r < 4) : a ||| b * 256 ^ r = a + b * 256 ^ r := by
  have e : (256 : Nat) ^ r = 2 ^ (8 * r) := by rw [Nat.pow_mul]
  rw [e] at ha ⊢
  have := Nat.two_pow_add_eq_or_of_lt ha b
  rw [Nat.or_comm, Nat.mul_comm, ← this, Nat.add_comm]
theorem u32_pack (a b r : Nat) (ha : a < 256 ^ r) (hb : b < 256) (hr : r < 4) : bits .or .u32 (a : Int) ((b * 256 ^ r : Nat) : Int) = ((a + b * 256 ^ r : Nat) : Int) := by
  have hle := pow256_le hr
  rw [Nat.pow_succ] at hle
  have h2 : b * 256 ^ r ≤ 255 * 256 ^ r := Nat.mul_le_mul_right _ (by omega)
  rw [u32_or_nat a (b * 256 ^ r) (by omega) (by omega), or_pack a b r ha hr]

theorem shl_pack (b r : Nat) (hb : b < 256) (hr : r < 4) : (b : Int) * 2 ^ (8 * r) % 4294967296 = ((b * 256 ^ r : Nat) : Int) := by
  have hle := pow256_le hr
  rw [Nat.pow_succ] at hle
  have h2 : b * 256 ^ r ≤ 255 * 256 ^ r := Nat.mul_le_mul_right _ (by omega)
  have e : (b : Int) * 2 ^ (8 * r) = ((b * 256 ^ r : Nat) : Int) := by
    rw [Int.natCast_mul, Int.natCast_pow, Int.pow_mul]; rfl
  rw [e]
  generalize b * 256 ^ r = z at *
  omega
theorem or_digit {p : Nat → Nat} {k : Nat} {l : List UInt8} (h : Packed l p k) (b : UInt8) :
    bits .or .u32 (p (k / 4) : Int) ((b.toNat : Int) * 2 ^ (8 * (k % 4)) % 4294967296) = ((p (k / 4) + b.toNat * 256 ^ (k % 4) : Nat) : Int) := by
  rw [shl_pack _ _ b.toNat_lt (by omega), u32_pack _ _ _ h.cur b.toNat_lt (by omega)]
end Go.Proofs.YtgcogpfmhmmgdaaGreatDoor

namespace Go.Proofs.YtgcogpfmhmmgdaaGreatDoor
open Go.RowKit

theorem foldl_push (l : List UInt8) (s : ByteArray) : (l.map fun b => (b.toNat : Int)).foldl (fun r n => r.push (UInt8.ofNat n.toNat)) s = ⟨(s.data.toList ++ l).toArray⟩ := by
  induction l generalizing s with
  | nil => simp
  | cons b l ih =>
    rw [List.map_cons, List.foldl_cons, ih]
    simp [ByteArray.push]

theorem run_string_of (w : World) (b off cap : Nat) (l : List UInt8) (hc : ∀ i u, l[i]? = some u → w.cell? ⟨b, off + i, none⟩ = some (.int .u8 (u.toNat : Int))) :
    (convert 59 9 (.slice (some ⟨b, off, none⟩) l.length cap)).run Tryz.prog w = .ok (.string ⟨l.toArray⟩) w := by
  rw [run_convert_bytes_string w 59 9 5 _ _ _ Tryz.underlying59 Tryz.underlying5 Tryz.underlying9]
  have h := run_loadCells_list (P := Tryz.prog) (w := w) ⟨b, off, none⟩ (l.map fun u => Value.int .u8 (u.toNat : Int)) (fun j v hv => by
    rw [List.getElem?_map] at hv
    cases hu : l[j]? with
    | none => rw [hu] at hv; cases hv
    | some u =>
      rw [hu] at hv
      have hv := Option.some.inj hv
      subst hv
      have := hc j u hu
      rw [show (⟨b, off, none⟩ : Addr).add j = ⟨b, off + j, none⟩ by unfold Addr.add; split <;> simp_all]
      exact this)
  rw [List.length_map] at h
  have h2 := run_bytesToString (P := Tryz.prog) w ⟨b, off, none⟩ l.length cap (l.map fun u => (u.toNat : Int)) (by rw [List.map_map]; exact h)
  rw [h2, foldl_push]
  rfl

/-- The byte at the place j from the end. -/
def byteAt (f : Nat → Nat) (j : Nat) : Nat := f (j / 4) / 256 ^ (j % 4) % 256
theorem byteAt_lt (f : Nat → Nat) (j : Nat) : byteAt f j < 256 := Nat.mod_lt _ (by omega)
/-- The last k bytes, out of the digits f. -/
def bytesN (f : Nat → Nat) (k : Nat) : List UInt8 := (List.range k).reverse.map fun j => UInt8.ofNat (byteAt f j)
theorem bytesN_succ (f : Nat → Nat) (k : Nat) : bytesN f (k + 1) = UInt8.ofNat (byteAt f k) :: bytesN f k := by
  simp [bytesN, List.range_succ]
theorem bytesN_len (f : Nat → Nat) (k : Nat) : (bytesN f k).length = k := by simp [bytesN]
theorem bytesN_at (f : Nat → Nat) (k i : Nat) (h : i < k) : (bytesN f k)[i]? = some (UInt8.ofNat (byteAt f (k - 1 - i))) := by
  simp [bytesN, h]
theorem vB_bytesN (f : Nat → Nat) (n r : Nat) (hr : r ≤ 4) (hd : ∀ i, f i < 4294967296) : vB (bytesN f (4 * n + r)) = val f n + f n % 256 ^ r * 4294967296 ^ n := by
  induction n generalizing r with
  | zero =>
    induction r with
    | zero => simp [bytesN, vB, val, Nat.mod_one]
    | succ r ih =>
      rw [show 4 * 0 + (r + 1) = (4 * 0 + r) + 1 by omega, bytesN_succ, vB_cons, bytesN_len, ih (by omega), UInt8.toNat_ofNat_of_lt' (by show byteAt f _ < 256; exact byteAt_lt f _)]
      unfold byteAt
      rw [show (4 * 0 + r) / 4 = 0 by omega, show (4 * 0 + r) % 4 = r by omega, show 4 * 0 + r = r by omega]
      simp only [val, Nat.pow_zero, Nat.mul_one, Nat.zero_add]
      have e : f 0 % 256 ^ (r + 1) = f 0 % 256 ^ r + 256 ^ r * (f 0 / 256 ^ r % 256) := by rw [Nat.pow_succ, Nat.mod_mul]
      rw [e, Nat.mul_comm]; omega
  | succ n ihn =>
    induction r with
    | zero =>
      have h4 := ihn 4 (Nat.le_refl _)
      rw [show 4 * (n + 1) + 0 = 4 * n + 4 by omega, h4, val, Nat.pow_zero, Nat.mod_one, Nat.zero_mul, Nat.add_zero, show (256 : Nat) ^ 4 = 4294967296 by rfl, Nat.mod_eq_of_lt (hd n)]
    | succ r ih =>
      rw [show 4 * (n + 1) + (r + 1) = (4 * (n + 1) + r) + 1 by omega, bytesN_succ, vB_cons, bytesN_len, ih (by omega), UInt8.toNat_ofNat_of_lt' (by show byteAt f _ < 256; exact byteAt_lt f _)]
      unfold byteAt
      rw [← pow256 (4 * (n + 1) + r), show (4 * (n + 1) + r) / 4 = n + 1 by omega, show (4 * (n + 1) + r) % 4 = r by omega]
      have e : f (n + 1) % 256 ^ (r + 1) = f (n + 1) % 256 ^ r + 256 ^ r * (f (n + 1) / 256 ^ r % 256) := by rw [Nat.pow_succ, Nat.mod_mul]
      rw [e, Nat.add_mul]
      generalize f (n + 1) / 256 ^ r % 256 = q
      rw [Nat.mul_comm (4294967296 ^ (n + 1)), ← Nat.mul_assoc, Nat.mul_comm q]
      omega
theorem vB_all (f : Nat → Nat) (n : Nat) (hd : ∀ i, f i < 4294967296) : vB (bytesN f (4 * n)) = val f n := by
  have := vB_bytesN f n 0 (by omega) hd
  rw [Nat.add_zero] at this
  rw [this, Nat.pow_zero, Nat.mod_one, Nat.zero_mul, Nat.add_zero]

theorem byte_int (f : Nat → Nat) (k : Nat) : (f (k / 4) : Int) / 2 ^ (8 * (k % 4)) % 256 = (byteAt f k : Int) := by
  unfold byteAt
  rw [Int.natCast_emod, Int.natCast_ediv, Int.natCast_pow, Int.pow_mul]
  rfl
theorem val_ext_all (f : Nat → Nat) (n : Nat) (h : Dig f n) : (∀ i, ext f n i < 4294967296) ∧ val (ext f n) n = val f n ∧ bytesN f (4 * n) = bytesN (ext f n) (4 * n) := by
  refine ⟨fun i => ?_, val_ext f n n (Nat.le_refl _), ?_⟩
  · unfold ext; split
    · exact h i ‹_›
    · omega
  · unfold bytesN
    apply List.map_congr_left
    intro j hj
    simp at hj
    unfold byteAt ext
    rw [if_pos (by omega)]
theorem vB_num (f : Nat → Nat) (n : Nat) (h : Dig f n) : vB (bytesN f (4 * n)) = val f n := by
  obtain ⟨h1, h2, h3⟩ := val_ext_all f n h
  rw [h3, vB_all _ _ h1, h2]
end Go.Proofs.YtgcogpfmhmmgdaaGreatDoor

namespace Go.Proofs.YtgcogpfmhmmgdaaGreatDoor
open Go.RowKit

theorem Tryz.infoU8 : (Tryz.prog.info? 5).map (fun i => (i.zero, i.size, i.bytes)) = some (some (.int .u8 0), 1, 1) := by kernel_rfl

/-- An integer as the program has it. -/
def ivN (ng : Bool) (N : Nat) : Value := iv (ng && !(bytesOf N).isEmpty) (bytesOf N)

/-- The bytes that have been written, from the end. -/
def bsrow (f : Nat → Nat) (n k : Nat) : Nat → Value := fun j => .int .u8 ((if n - 1 - j < k then byteAt f (n - 1 - j) else 0 : Nat) : Int)
theorem bsrow_step {w : World} {b n k : Nat} {t : TypeId} {f : Nat → Nat} (h : w.rowIs b t n (bsrow f n k)) (hk : k < n) {x : Int} (hx : x = (byteAt f k : Int)) :
    (w.setCell ⟨b, n - 1 - k, none⟩ (.int .u8 x)).rowIs b t n (bsrow f n (k + 1)) :=
  (h.set (n - 1 - k) _).congr fun j hj => by
    subst hx
    unfold bsrow
    by_cases e : j = n - 1 - k
    · subst e; rw [if_pos rfl, show n - 1 - (n - 1 - k) = k by omega, if_pos (by omega)]
    · rw [if_neg e]
      by_cases hl : n - 1 - j < k
      · rw [if_pos hl, if_pos (by omega)]
      · rw [if_neg hl, if_neg (by omega)]

set_option maxRecDepth 100000 in
set_option maxHeartbeats 1600000 in
theorem signed_any (ng : Bool) (A : Option Addr) (n c N : Nat) (w : World) (hA : IsNat w A n c N) (hn : n ≤ 1000000000) :
    Calls Tryz.prog 74 #[.bool ng, .slice A n c] w fun e w' => e = .returned (ivN ng N) ∧ Below w.heap.size w w' := by
  obtain ⟨hnc, hc, f, ⟨b, off, hAe, hcell⟩, df, tf, rfl⟩ := hA
  have hmk := run_make_row' (P := Tryz.prog) 59 5 (.int .u8 0) 1 Tryz.underlying59 Tryz.infoU8 rfl .i64 .i64 (4 * n) (by omega) (by omega)
  rw [show ((4 * n : Nat) : Int) = 4 * (n : Int) by omega] at hmk
  go_enter Tryz.func74, Tryz.ntmps74
  go_wp2
  clear hmk
  go_loopg [13] (4 * n) (fun q i wx => ∃ (k : Nat), k + q = 4 * n ∧ i = .int .i64 k ∧ Below w.heap.size w wx ∧ wx.heap.size = w.heap.size + 2 ∧ wx.rowIs w.heap.size 27 2 (fun i => if i = 0 then .bool false else .string ⟨#[]⟩) ∧ wx.rowIs (w.heap.size + 1) 5 (4 * n) (bsrow f (4 * n) k))
  case atStart =>
    exact ⟨0, by omega, rfl, ((Below.refl _ _).alloc (Nat.le_refl _) _).alloc (by simp) _, by simp,
      ((World.rowIs_alloc w #[.bool false, .string ⟨#[]⟩] 27 _ (fun i hi => by
        rcases (show i = 0 ∨ i = 1 by simp at hi; omega) with rfl | rfl <;> rfl)).alloc _),
      by
        have h := World.rowIs_made (w.alloc (.cells #[.bool false, .string ⟨#[]⟩] 27)) (.int .u8 0) (4 * n) 5
        rw [World.size_alloc] at h
        exact h.congr (fun i _ => by simp [bsrow])⟩
  case round =>
    obtain ⟨k, hk, rfl, hb, hsz, hres, hrow⟩ := hrel
    rcases gk with _ | q
    · obtain rfl : k = 4 * n := by omega
      clear hk
      have hcv := run_string_of wr (w.heap.size + 1) 0 (4 * n) (bytesN f (4 * n)) (fun i u hu => by
        have hi : i < 4 * n := by
          rcases Nat.lt_or_ge i (4 * n) with h1 | h1
          · exact h1
          · rw [List.getElem?_eq_none (by rw [bytesN_len]; exact h1)] at hu; cases hu
        rw [bytesN_at f _ _ hi] at hu
        have hu := Option.some.inj hu
        subst hu
        rw [Nat.zero_add, hrow.cell hi, bsrow, if_pos (by omega), UInt8.toNat_ofNat_of_lt' (by show byteAt f _ < 256; exact byteAt_lt f _)])
      rw [bytesN_len] at hcv
      have hval : stz ⟨(bytesN f (4 * n)).toArray⟩ = bytesOf (val f n) := by
        unfold stz
        rw [trim_bytes, show (⟨(bytesN f (4 * n)).toArray⟩ : ByteArray).data.toList = bytesN f (4 * n) from rfl, vB_num f n df]
      have Hval : Hid (stz ⟨(bytesN f (4 * n)).toArray⟩ = bytesOf (val f n)) := hval
      clear hval
      go_wp2_with fail
      refine (canonical_any ng _ _).mono ?_
      rintro e w' ⟨rfl, hb1⟩
      rw [Hval.out, iv_eq]
      have hc0 : w'.cell? ⟨w.heap.size, 0, none⟩ = some (.bool false) := (hb1.cell (p := ⟨w.heap.size, 0, none⟩) (by show w.heap.size < wr.heap.size; omega)).trans (hres.cell (i := 0) (by omega))
      have hc1 : w'.cell? ⟨w.heap.size, 1, none⟩ = some (.string ⟨#[]⟩) := (hb1.cell (p := ⟨w.heap.size, 1, none⟩) (by show w.heap.size < wr.heap.size; omega)).trans (hres.cell (i := 1) (by omega))
      have hf0 : w'.frozen? ⟨w.heap.size, 0, none⟩ = false := (hb1.frozen (p := ⟨w.heap.size, 0, none⟩) (by show w.heap.size < wr.heap.size; omega)).trans (hres.frozen 0)
      have hf1 : w'.frozen? ⟨w.heap.size, 1, none⟩ = false := (hb1.frozen (p := ⟨w.heap.size, 1, none⟩) (by show w.heap.size < wr.heap.size; omega)).trans (hres.frozen 1)
      go_wp2
      have hb3 : Below w.heap.size w w' := hb.trans (hb1.mono (by omega))
      exact bodyPost_ret (v := ivN ng (val f n)) (by simp [results, Tryz.results74, go_sem, hc0, hc1, ivN, iv]) rfl ⟨rfl, (hb3.setCell (Nat.le_refl _) _).setCell (Nat.le_refl _) _⟩
    · have hkn : k < 4 * n := by omega
      have Hk : Hid (k + (q + 1) = 4 * n) := hk
      obtain rfl := hAe (by omega)
      have hx : wr.cell? ⟨b, off + k / 4, none⟩ = some (.int .u32 (f (k / 4) : Int)) := by rw [hb.cell (Rd.lt hcell (by omega))]; exact hcell (k / 4) (by omega)
      have Hs : Hid (wr.heap.size = w.heap.size + 2) := hsz
      have hw1 := hrow.cell (i := 4 * n - 1 - k) (by omega)
      have hw2 := hrow.frozen (4 * n - 1 - k)
      have hd := df (k / 4) (by omega)
      clear hk hsz
      go_wp2
      go_roundg q
      case measure => omega
      case rel => exact ⟨k + 1, by have := Hk.out; omega, by go_num, hb.setCell (by show w.heap.size ≤ w.heap.size + 1; omega) _, by simpa using Hs.out, hres.setOther (by show w.heap.size ≠ w.heap.size + 1; omega) _, bsrow_step hrow hkn (byte_int f k)⟩
end Go.Proofs.YtgcogpfmhmmgdaaGreatDoor
