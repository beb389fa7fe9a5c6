/- What integer.trim returns: the slice without the zeros at its end. Condition: the slice is not longer than 100000000000. What integer.add returns: the sum. Condition: both are numbers in memory without zeros at the end. What integer.signed returns: the canonical integer. Condition: a number in memory of at most 1000000000 digits. -/
import Derived.Test.YtgcogpfmhmmgdaaGreatDoorQ03
import Derived.WalkKit
import Derived.Deep.LoopGhost
import Derived.Deep.OwnRows
import Derived.Test.YtgcogpfmhmmgdaaGreatDoorQ04

namespace Go.Proofs.YtgcogpfmhmmgdaaGreatDoor
open Go.RowKit

set_option maxHeartbeats 400000 in
theorem trim_any (A : Option Addr) (n c : Nat) (f : Nat → Nat) (w : World) (hn : n ≤ c) (hc : c ≤ 100000000000) (h : Rd w A n f) :
    Calls Tryz.prog 80 #[.slice A n c] w fun e w' => e = .returned (.slice A (tln f n) c) ∧ w = w' := by
  obtain ⟨b, off, hA, hcell⟩ := h
  go_enter Tryz.func80, Tryz.ntmps80
  go_wp2
  go_loopg [0] n (fun g x wx => wx = w ∧ x = .slice A g c ∧ g ≤ n ∧ tln f g = tln f n)
  case atStart => exact ⟨rfl, rfl, Nat.le_refl _, rfl⟩
  case round =>
    obtain ⟨rfl, rfl, hg, ht⟩ := hrel
    have Ht : Hid (tln f gk = tln f n) := ht
    clear ht
    rcases gk with _ | g
    · go_wp2
      go_ret
      exact ⟨by rw [← Ht.out]; rfl, rfl⟩
    · obtain rfl := hA (by omega)
      have hx := hcell g (by omega)
      by_cases hz : f g = 0
      · go_wp2
        go_roundg g
        case measure => omega
        case rel => exact ⟨rfl, by go_num, by omega, by rw [← Ht.out, tln, if_pos hz]⟩
      · go_wp2
        go_ret
        exact ⟨by rw [← Ht.out, tln, if_neg hz]; rfl, rfl⟩
end Go.Proofs.YtgcogpfmhmmgdaaGreatDoor

namespace Go.Proofs.YtgcogpfmhmmgdaaGreatDoor
open Go.RowKit

theorem Tryz.infoU32 : (Tryz.prog.info? 93).map (fun i => (i.zero, i.size, i.bytes)) = some (some (.int .u32 0), 1, 4) := by kernel_rfl


theorem add_step {s f g : Nat → Nat} {k m y : Nat} (hv : val s k + y * 4294967296 ^ k = val f k + val (ext g m) k) :
    val (upd s k ((y + f k + ext g m k) % 4294967296)) (k + 1) + (y + f k + ext g m k) / 4294967296 * 4294967296 ^ (k + 1) = val f (k + 1) + val (ext g m) (k + 1) := by
  rw [val_upd, val, val, Nat.pow_succ]
  have h := Nat.div_add_mod (y + f k + ext g m k) 4294967296
  generalize hq : (y + f k + ext g m k) / 4294967296 = q at *
  generalize hr : (y + f k + ext g m k) % 4294967296 = r at *
  generalize 4294967296 ^ k = P at *
  have e : (4294967296 * q + r) * P = (y + f k + ext g m k) * P := by rw [h]
  rw [Nat.add_mul, Nat.add_mul, Nat.add_mul] at e
  have e2 : q * (P * 4294967296) = 4294967296 * q * P := by rw [Nat.mul_comm P, ← Nat.mul_assoc, Nat.mul_comm q]
  rw [e2]
  omega

set_option maxHeartbeats 800000 in
theorem add_ord (A B : Option Addr) (n m c d : Nat) (f g : Nat → Nat) (w : World) (hn : n ≤ 10000000000) (hmn : m ≤ n) (hA : Rd w A n f) (hB : Rd w B m g) (df : Dig f n) (dg : Dig g m) :
    Calls Tryz.prog 75 #[.slice A n c, .slice B m d] w (NatOut w (val f n + val g m)) := by
  obtain ⟨b, off, hAe, hcell⟩ := hA
  obtain ⟨b', off', hBe, hcell'⟩ := hB
  have hmk := run_make_row' (P := Tryz.prog) 86 93 (.int .u32 0) 4 Tryz.underlying86 Tryz.infoU32 rfl .i64 .i64 (n + 1) (by omega) (by omega)
  rw [show ((n + 1 : Nat) : Int) = (n : Int) + 1 by omega] at hmk
  have hnm : decide (n < m) = false := by simp; omega
  go_enter Tryz.func75, Tryz.ntmps75
  go_wp2
  clear hmk
  go_loopg [6, 22] n (fun q cy i wx => ∃ (k y : Nat) (s : Nat → Nat), k + q = n ∧ i = .int .i64 k ∧ cy = .int .u64 (y : Int) ∧ y ≤ 1 ∧ Dig s k ∧ val s k + y * 4294967296 ^ k = val f k + val (ext g m) k ∧ Below w.heap.size w wx ∧ wx.heap.size = w.heap.size + 1 ∧ wx.rowIs w.heap.size 93 (n + 1) (dsts s k))
  case atStart => exact ⟨0, 0, fun _ => 0, by omega, rfl, rfl, by omega, fun i h => absurd h (by omega), rfl, (Below.refl _ _).alloc (Nat.le_refl _) _, by simp, (World.rowIs_made w _ (n + 1) _).congr (fun i _ => by simp [dsts])⟩
  case round =>
    obtain ⟨k, y, s, hk, rfl, rfl, hy, ds, hv, hb, hsz, hrow⟩ := hrel
    rcases gk with _ | q
    · obtain rfl : k = n := by omega
      clear hk
      have hw1 := hrow.cell (i := k) (by omega)
      have hw2 := hrow.frozen k
      have Hv : Hid (val s k + y * 4294967296 ^ k = val f k + val (ext g m) k) := hv
      have Hs : Hid (wr.heap.size = w.heap.size + 1) := hsz
      clear hv hsz
      have hrow2 := dsts_step hrow (x := (y : Int)) rfl
      have hb2 := hb.setCell (p := ⟨w.heap.size, k, none⟩) (Nat.le_refl _) (.int .u32 (y : Int))
      have ds2 := dig_upd ds (show y < 4294967296 by omega)
      have hr2 := dsts_rd hrow2
      clear hrow2
      go_wp2_with fail
      refine (trim_any _ (k + 1) (k + 1) (upd s k y) _ (Nat.le_refl _) (by omega) hr2).mono ?_
      rintro e w' ⟨rfl, rfl⟩
      go_wp2
      go_ret
      exact nat_out hr2 hb2 ds2 (by omega) (by rw [val_upd, Hv.out, val_ext _ _ _ hmn])
    · obtain rfl := hAe (by omega)
      have hx : wr.cell? ⟨b, off + k, none⟩ = some (.int .u32 (f k : Int)) := by rw [hb.cell (Rd.lt hcell (by omega))]; exact hcell k (by omega)
      have hw1 := hrow.cell (i := k) (by omega)
      have hw2 := hrow.frozen k
      have dk := df k (by omega)
      have hkn : k < n := by omega
      by_cases hkm : k < m
      · obtain rfl := hBe (by omega)
        have hx2 : wr.cell? ⟨b', off' + k, none⟩ = some (.int .u32 (g k : Int)) := by rw [hb.cell (Rd.lt hcell' (by omega))]; exact hcell' k (by omega)
        have dk2 := dg k (by omega)
        have Hv : Hid (val s k + y * 4294967296 ^ k = val f k + val (ext g m) k) := hv
        have Hs : Hid (wr.heap.size = w.heap.size + 1) := hsz
        have Hk : Hid (k + (q + 1) = n) := hk
        clear hv hsz hk
        go_wp2
        have he : ext g m k = g k := by simp [ext, hkm]
        have hst := add_step Hv.out
        rw [he] at hst
        go_roundg q
        case measure => omega
        case rel => exact ⟨k + 1, (y + f k + g k) / 4294967296, _, by have := Hk.out; omega, by go_num, by go_num, by omega, dig_upd ds (Nat.mod_lt _ (by omega)), hst, hb.setCell (Nat.le_refl _) _, by simpa using Hs.out, dsts_step hrow (by omega)⟩
      · have Hv : Hid (val s k + y * 4294967296 ^ k = val f k + val (ext g m) k) := hv
        have Hs : Hid (wr.heap.size = w.heap.size + 1) := hsz
        have Hk : Hid (k + (q + 1) = n) := hk
        clear hv hsz hk
        go_wp2
        have he : ext g m k = 0 := by simp [ext, hkm]
        have hst := add_step Hv.out
        rw [he] at hst
        go_roundg q
        case measure => omega
        case rel => exact ⟨k + 1, (y + f k + 0) / 4294967296, _, by have := Hk.out; omega, by go_num, by go_num, by omega, dig_upd ds (Nat.mod_lt _ (by omega)), hst, hb.setCell (Nat.le_refl _) _, by simpa using Hs.out, dsts_step hrow (by omega)⟩

set_option maxHeartbeats 800000 in
theorem add_swap (A B : Option Addr) (n m c d : Nat) (f g : Nat → Nat) (w : World) (hn : n ≤ 10000000000) (hmn : m < n) (hA : Rd w A n f) (hB : Rd w B m g) (df : Dig f n) (dg : Dig g m) :
    Calls Tryz.prog 75 #[.slice B m d, .slice A n c] w (NatOut w (val f n + val g m)) := by
  obtain ⟨b, off, hAe, hcell⟩ := hA
  obtain ⟨b', off', hBe, hcell'⟩ := hB
  have hmk := run_make_row' (P := Tryz.prog) 86 93 (.int .u32 0) 4 Tryz.underlying86 Tryz.infoU32 rfl .i64 .i64 (n + 1) (by omega) (by omega)
  rw [show ((n + 1 : Nat) : Int) = (n : Int) + 1 by omega] at hmk
  have hnm : decide (m < n) = true := by simp; omega
  go_enter Tryz.func75, Tryz.ntmps75
  go_wp2
  clear hmk
  go_loopg [6, 22] n (fun q cy i wx => ∃ (k y : Nat) (s : Nat → Nat), k + q = n ∧ i = .int .i64 k ∧ cy = .int .u64 (y : Int) ∧ y ≤ 1 ∧ Dig s k ∧ val s k + y * 4294967296 ^ k = val f k + val (ext g m) k ∧ Below w.heap.size w wx ∧ wx.heap.size = w.heap.size + 1 ∧ wx.rowIs w.heap.size 93 (n + 1) (dsts s k))
  case atStart => exact ⟨0, 0, fun _ => 0, by omega, rfl, rfl, by omega, fun i h => absurd h (by omega), rfl, (Below.refl _ _).alloc (Nat.le_refl _) _, by simp, (World.rowIs_made w _ (n + 1) _).congr (fun i _ => by simp [dsts])⟩
  case round =>
    obtain ⟨k, y, s, hk, rfl, rfl, hy, ds, hv, hb, hsz, hrow⟩ := hrel
    rcases gk with _ | q
    · obtain rfl : k = n := by omega
      clear hk
      have hw1 := hrow.cell (i := k) (by omega)
      have hw2 := hrow.frozen k
      have Hv : Hid (val s k + y * 4294967296 ^ k = val f k + val (ext g m) k) := hv
      have Hs : Hid (wr.heap.size = w.heap.size + 1) := hsz
      clear hv hsz
      have hrow2 := dsts_step hrow (x := (y : Int)) rfl
      have hb2 := hb.setCell (p := ⟨w.heap.size, k, none⟩) (Nat.le_refl _) (.int .u32 (y : Int))
      have ds2 := dig_upd ds (show y < 4294967296 by omega)
      have hr2 := dsts_rd hrow2
      clear hrow2
      go_wp2_with fail
      refine (trim_any _ (k + 1) (k + 1) (upd s k y) _ (Nat.le_refl _) (by omega) hr2).mono ?_
      rintro e w' ⟨rfl, rfl⟩
      go_wp2
      go_ret
      exact nat_out hr2 hb2 ds2 (by omega) (by rw [val_upd, Hv.out, val_ext _ _ _ (by omega)])
    · obtain rfl := hAe (by omega)
      have hx : wr.cell? ⟨b, off + k, none⟩ = some (.int .u32 (f k : Int)) := by rw [hb.cell (Rd.lt hcell (by omega))]; exact hcell k (by omega)
      have hw1 := hrow.cell (i := k) (by omega)
      have hw2 := hrow.frozen k
      have dk := df k (by omega)
      have hkn : k < n := by omega
      by_cases hkm : k < m
      · obtain rfl := hBe (by omega)
        have hx2 : wr.cell? ⟨b', off' + k, none⟩ = some (.int .u32 (g k : Int)) := by rw [hb.cell (Rd.lt hcell' (by omega))]; exact hcell' k (by omega)
        have dk2 := dg k (by omega)
        have Hv : Hid (val s k + y * 4294967296 ^ k = val f k + val (ext g m) k) := hv
        have Hs : Hid (wr.heap.size = w.heap.size + 1) := hsz
        have Hk : Hid (k + (q + 1) = n) := hk
        clear hv hsz hk
        go_wp2
        have he : ext g m k = g k := by simp [ext, hkm]
        have hst := add_step Hv.out
        rw [he] at hst
        go_roundg q
        case measure => omega
        case rel => exact ⟨k + 1, (y + f k + g k) / 4294967296, _, by have := Hk.out; omega, by go_num, by go_num, by omega, dig_upd ds (Nat.mod_lt _ (by omega)), hst, hb.setCell (Nat.le_refl _) _, by simpa using Hs.out, dsts_step hrow (by omega)⟩
      · have Hv : Hid (val s k + y * 4294967296 ^ k = val f k + val (ext g m) k) := hv
        have Hs : Hid (wr.heap.size = w.heap.size + 1) := hsz
        have Hk : Hid (k + (q + 1) = n) := hk
        clear hv hsz hk
        go_wp2
        have he : ext g m k = 0 := by simp [ext, hkm]
        have hst := add_step Hv.out
        rw [he] at hst
        go_roundg q
        case measure => omega
        case rel => exact ⟨k + 1, (y + f k + 0) / 4294967296, _, by have := Hk.out; omega, by go_num, by go_num, by omega, dig_upd ds (Nat.mod_lt _ (by omega)), hst, hb.setCell (Nat.le_refl _) _, by simpa using Hs.out, dsts_step hrow (by omega)⟩

set_option maxHeartbeats 800000 in
theorem add_any (A B : Option Addr) (n m c d N M : Nat) (w : World) (hA : IsNat w A n c N) (hB : IsNat w B m d M) (hn : n ≤ 10000000000) (hm : m ≤ 10000000000) :
    Calls Tryz.prog 75 #[.slice A n c, .slice B m d] w (NatOut w (N + M)) := by
  obtain ⟨hnc, hc, f, hf, df, tf, rfl⟩ := hA
  obtain ⟨hmd, hd, g, hg, dg, tg, rfl⟩ := hB
  by_cases h : m ≤ n
  · exact add_ord A B n m c d f g w hn h hf hg df dg
  · rw [Nat.add_comm]
    exact add_swap B A m n d c g f w hm (by omega) hg hf dg df
end Go.Proofs.YtgcogpfmhmmgdaaGreatDoor

namespace Go.Proofs.YtgcogpfmhmmgdaaGreatDoor
open Go.RowKit

theorem Tryz.infoU8 : (Tryz.prog.info? 5).map (fun i => (i.zero, i.size, i.bytes)) = some (some (.int .u8 0), 1, 1) := by kernel_rfl

/-- An integer as the program has it. -/
def ivN (ng : Bool) (N : Nat) : Value := iv (ng && !(bytesOf N).isEmpty) (bytesOf N)

/-- The bytes that have been written, from the end. -/
def bsrow (f : Nat → Nat) (n k : Nat) : Nat → Value := fun j => .int .u8 ((if n - 1 - j < k then byteAt f (n - 1 - j) else 0 : Nat) : Int)
theorem bsrow_step {w : World} {b n k : Nat} {t : TypeId} {f : Nat → Nat} (h : w.rowIs b t n (bsrow f n k)) (hk : k < n) {x : Int} (hx : x = (byteAt f k : Int)) :
    (w.setCell ⟨b, n - 1 - k, none⟩ (.int .u8 x)).rowIs b t n (bsrow f n (k + 1)) :=
  (h.set (n - 1 - k) _).congr fun j hj => by
    subst hx
    unfold bsrow
    by_cases e : j = n - 1 - k
    · subst e; rw [if_pos rfl, show n - 1 - (n - 1 - k) = k by omega, if_pos (by omega)]
    · rw [if_neg e]
      by_cases hl : n - 1 - j < k
      · rw [if_pos hl, if_pos (by omega)]
      · rw [if_neg hl, if_neg (by omega)]

set_option maxRecDepth 100000 in
set_option maxHeartbeats 1600000 in
theorem signed_any (ng : Bool) (A : Option Addr) (n c N : Nat) (w : World) (hA : IsNat w A n c N) (hn : n ≤ 1000000000) :
    Calls Tryz.prog 74 #[.bool ng, .slice A n c] w fun e w' => e = .returned (ivN ng N) ∧ Below w.heap.size w w' := by
  obtain ⟨hnc, hc, f, ⟨b, off, hAe, hcell⟩, df, tf, rfl⟩ := hA
  have hmk := run_make_row' (P := Tryz.prog) 59 5 (.int .u8 0) 1 Tryz.underlying59 Tryz.infoU8 rfl .i64 .i64 (4 * n) (by omega) (by omega)
  rw [show ((4 * n : Nat) : Int) = 4 * (n : Int) by omega] at hmk
  go_enter Tryz.func74, Tryz.ntmps74
  go_wp2
  clear hmk
  go_loopg [13] (4 * n) (fun q i wx => ∃ (k : Nat), k + q = 4 * n ∧ i = .int .i64 k ∧ Below w.heap.size w wx ∧ wx.heap.size = w.heap.size + 2 ∧ wx.rowIs w.heap.size 27 2 (fun i => if i = 0 then .bool false else .string ⟨#[]⟩) ∧ wx.rowIs (w.heap.size + 1) 5 (4 * n) (bsrow f (4 * n) k))
  case atStart =>
    exact ⟨0, by omega, rfl, ((Below.refl _ _).alloc (Nat.le_refl _) _).alloc (by simp) _, by simp,
      ((World.rowIs_alloc w #[.bool false, .string ⟨#[]⟩] 27 _ (fun i hi => by
        rcases (show i = 0 ∨ i = 1 by simp at hi; omega) with rfl | rfl <;> rfl)).alloc _),
      by
        have h := World.rowIs_made (w.alloc (.cells #[.bool false, .string ⟨#[]⟩] 27)) (.int .u8 0) (4 * n) 5
        rw [World.size_alloc] at h
        exact h.congr (fun i _ => by simp [bsrow])⟩
  case round =>
    obtain ⟨k, hk, rfl, hb, hsz, hres, hrow⟩ := hrel
    rcases gk with _ | q
    · obtain rfl : k = 4 * n := by omega
      clear hk
      have hcv := run_string_of wr (w.heap.size + 1) 0 (4 * n) (bytesN f (4 * n)) (fun i u hu => by
        have hi : i < 4 * n := by
          rcases Nat.lt_or_ge i (4 * n) with h1 | h1
          · exact h1
          · rw [List.getElem?_eq_none (by rw [bytesN_len]; exact h1)] at hu; cases hu
        rw [bytesN_at f _ _ hi] at hu
        have hu := Option.some.inj hu
        subst hu
        rw [Nat.zero_add, hrow.cell hi, bsrow, if_pos (by omega), UInt8.toNat_ofNat_of_lt' (by show byteAt f _ < 256; exact byteAt_lt f _)])
      rw [bytesN_len] at hcv
      have hval : stz ⟨(bytesN f (4 * n)).toArray⟩ = bytesOf (val f n) := by
        unfold stz
        rw [trim_bytes, show (⟨(bytesN f (4 * n)).toArray⟩ : ByteArray).data.toList = bytesN f (4 * n) from rfl, vB_num f n df]
      have Hval : Hid (stz ⟨(bytesN f (4 * n)).toArray⟩ = bytesOf (val f n)) := hval
      clear hval
      go_wp2_with fail
      refine (canonical_any ng _ _).mono ?_
      rintro e w' ⟨rfl, hb1⟩
      rw [Hval.out, iv_eq]
      have hc0 : w'.cell? ⟨w.heap.size, 0, none⟩ = some (.bool false) := (hb1.cell (p := ⟨w.heap.size, 0, none⟩) (by show w.heap.size < wr.heap.size; omega)).trans (hres.cell (i := 0) (by omega))
      have hc1 : w'.cell? ⟨w.heap.size, 1, none⟩ = some (.string ⟨#[]⟩) := (hb1.cell (p := ⟨w.heap.size, 1, none⟩) (by show w.heap.size < wr.heap.size; omega)).trans (hres.cell (i := 1) (by omega))
      have hf0 : w'.frozen? ⟨w.heap.size, 0, none⟩ = false := (hb1.frozen (p := ⟨w.heap.size, 0, none⟩) (by show w.heap.size < wr.heap.size; omega)).trans (hres.frozen 0)
      have hf1 : w'.frozen? ⟨w.heap.size, 1, none⟩ = false := (hb1.frozen (p := ⟨w.heap.size, 1, none⟩) (by show w.heap.size < wr.heap.size; omega)).trans (hres.frozen 1)
      go_wp2
      have hb3 : Below w.heap.size w w' := hb.trans (hb1.mono (by omega))
      exact bodyPost_ret (v := ivN ng (val f n)) (by simp [results, Tryz.results74, go_sem, hc0, hc1, ivN, iv]) rfl ⟨rfl, (hb3.setCell (Nat.le_refl _) _).setCell (Nat.le_refl _) _⟩
    · have hkn : k < 4 * n := by omega
      have Hk : Hid (k + (q + 1) = 4 * n) := hk
      obtain rfl := hAe (by omega)
      have hx : wr.cell? ⟨b, off + k / 4, none⟩ = some (.int .u32 (f (k / 4) : Int)) := by rw [hb.cell (Rd.lt hcell (by omega))]; exact hcell (k / 4) (by omega)
      have Hs : Hid (wr.heap.size = w.heap.size + 2) := hsz
      have hw1 := hrow.cell (i := 4 * n - 1 - k) (by omega)
      have hw2 := hrow.frozen (4 * n - 1 - k)
      have hd := df (k / 4) (by omega)
      clear hk hsz
      go_wp2
      go_roundg q
      case measure => omega
      case rel => exact ⟨k + 1, by have := Hk.out; omega, by go_num, hb.setCell (by show w.heap.size ≤ w.heap.size + 1; omega) _, by simpa using Hs.out, hres.setOther (by show w.heap.size ≠ w.heap.size + 1; omega) _, bsrow_step hrow hkn (byte_int f k)⟩
end Go.Proofs.YtgcogpfmhmmgdaaGreatDoor
