/- What integer.signed returns: the canonical integer. Condition: a number in memory of at most 1000000000 digits. -/
import Derived.Test.YtigdjlhihhakmaaDoorSigl
import Derived.Test.YtigdjlhihhakmaaDoorAdd
namespace Go.Proofs.YtigdjlhihhakmaaDoor
open Go.RowKit

theorem Tryd.infoU8 : (Tryd.prog.info? 5).map (fun i => (i.zero, i.size, i.bytes)) = some (some (.int .u8 0), 1, 1) := by kernel_rfl

/-- An integer as the program has it. -/
def ivN (ng : Bool) (N : Nat) : Value := iv (ng && !(bytesOf N).isEmpty) (bytesOf N)

/-- The bytes that have been written, from the end. -/
def bsrow (f : Nat → Nat) (n k : Nat) : Nat → Value := fun j => .int .u8 ((if n - 1 - j < k then byteAt f (n - 1 - j) else 0 : Nat) : Int)
theorem bsrow_step {w : World} {b n k : Nat} {t : TypeId} {f : Nat → Nat} (h : w.rowIs b t n (bsrow f n k)) (hk : k < n) {x : Int} (hx : x = (byteAt f k : Int)) :
    (w.setCell ⟨b, n - 1 - k, none⟩ (.int .u8 x)).rowIs b t n (bsrow f n (k + 1)) :=
  (h.set (n - 1 - k) _).congr fun j hj => by
    subst hx
    unfold bsrow
    by_cases e : j = n - 1 - k
    · subst e; rw [if_pos rfl, show n - 1 - (n - 1 - k) = k by omega, if_pos (by omega)]
    · rw [if_neg e]
      by_cases hl : n - 1 - j < k
      · rw [if_pos hl, if_pos (by omega)]
      · rw [if_neg hl, if_neg (by omega)]

set_option maxRecDepth 100000 in
set_option maxHeartbeats 1600000 in
theorem signed_any (ng : Bool) (A : Option Addr) (n c N : Nat) (w : World) (hA : IsNat w A n c N) (hn : n ≤ 1000000000) :
    Calls Tryd.prog 60 #[.bool ng, .slice A n c] w fun e w' => e = .returned (ivN ng N) ∧ Below w.heap.size w w' := by
  obtain ⟨hnc, hc, f, ⟨b, off, hAe, hcell⟩, df, tf, rfl⟩ := hA
  have hmk := run_make_row' (P := Tryd.prog) 70 5 (.int .u8 0) 1 Tryd.underlying70 Tryd.infoU8 rfl .i64 .i64 (4 * n) (by omega) (by omega)
  rw [show ((4 * n : Nat) : Int) = 4 * (n : Int) by omega] at hmk
  go_enter Tryd.func60, Tryd.ntmps60
  go_wp2
  clear hmk
  go_loopg [13] (4 * n) (fun q i wx => ∃ (k : Nat), k + q = 4 * n ∧ i = .int .i64 k ∧ Below w.heap.size w wx ∧ wx.heap.size = w.heap.size + 2 ∧ wx.rowIs w.heap.size 43 2 (fun i => if i = 0 then .bool false else .string ⟨#[]⟩) ∧ wx.rowIs (w.heap.size + 1) 5 (4 * n) (bsrow f (4 * n) k))
  case atStart =>
    exact ⟨0, by omega, rfl, ((Below.refl _ _).alloc (Nat.le_refl _) _).alloc (by simp) _, by simp,
      ((World.rowIs_alloc w #[.bool false, .string ⟨#[]⟩] 43 _ (fun i hi => by
        rcases (show i = 0 ∨ i = 1 by simp at hi; omega) with rfl | rfl <;> rfl)).alloc _),
      by
        have h := World.rowIs_made (w.alloc (.cells #[.bool false, .string ⟨#[]⟩] 43)) (.int .u8 0) (4 * n) 5
        rw [World.size_alloc] at h
        exact h.congr (fun i _ => by simp [bsrow])⟩
  case round =>
    obtain ⟨k, hk, rfl, hb, hsz, hres, hrow⟩ := hrel
    rcases gk with _ | q
    · obtain rfl : k = 4 * n := by omega
      clear hk
      have hcv := run_string_of wr (w.heap.size + 1) 0 (4 * n) (bytesN f (4 * n)) (fun i u hu => by
        have hi : i < 4 * n := by
          rcases Nat.lt_or_ge i (4 * n) with h1 | h1
          · exact h1
          · rw [List.getElem?_eq_none (by rw [bytesN_len]; exact h1)] at hu; cases hu
        rw [bytesN_at f _ _ hi] at hu
        have hu := Option.some.inj hu
        subst hu
        rw [Nat.zero_add, hrow.cell hi, bsrow, if_pos (by omega), UInt8.toNat_ofNat_of_lt' (by show byteAt f _ < 256; exact byteAt_lt f _)])
      rw [bytesN_len] at hcv
      have hval : stz ⟨(bytesN f (4 * n)).toArray⟩ = bytesOf (val f n) := by
        unfold stz
        rw [trim_bytes, show (⟨(bytesN f (4 * n)).toArray⟩ : ByteArray).data.toList = bytesN f (4 * n) from rfl, vB_num f n df]
      have Hval : Hid (stz ⟨(bytesN f (4 * n)).toArray⟩ = bytesOf (val f n)) := hval
      clear hval
      go_wp2_with fail
      refine (canonical_any ng _ _).mono ?_
      rintro e w' ⟨rfl, hb1⟩
      rw [Hval.out, iv_eq]
      have hc0 : w'.cell? ⟨w.heap.size, 0, none⟩ = some (.bool false) := (hb1.cell (p := ⟨w.heap.size, 0, none⟩) (by show w.heap.size < wr.heap.size; omega)).trans (hres.cell (i := 0) (by omega))
      have hc1 : w'.cell? ⟨w.heap.size, 1, none⟩ = some (.string ⟨#[]⟩) := (hb1.cell (p := ⟨w.heap.size, 1, none⟩) (by show w.heap.size < wr.heap.size; omega)).trans (hres.cell (i := 1) (by omega))
      have hf0 : w'.frozen? ⟨w.heap.size, 0, none⟩ = false := (hb1.frozen (p := ⟨w.heap.size, 0, none⟩) (by show w.heap.size < wr.heap.size; omega)).trans (hres.frozen 0)
      have hf1 : w'.frozen? ⟨w.heap.size, 1, none⟩ = false := (hb1.frozen (p := ⟨w.heap.size, 1, none⟩) (by show w.heap.size < wr.heap.size; omega)).trans (hres.frozen 1)
      go_wp2
      have hb3 : Below w.heap.size w w' := hb.trans (hb1.mono (by omega))
      exact bodyPost_ret (v := ivN ng (val f n)) (by simp [results, Tryd.results60, go_sem, hc0, hc1, ivN, iv]) rfl ⟨rfl, (hb3.setCell (Nat.le_refl _) _).setCell (Nat.le_refl _) _⟩
    · have hkn : k < 4 * n := by omega
      have Hk : Hid (k + (q + 1) = 4 * n) := hk
      obtain rfl := hAe (by omega)
      have hx : wr.cell? ⟨b, off + k / 4, none⟩ = some (.int .u32 (f (k / 4) : Int)) := by rw [hb.cell (Rd.lt hcell (by omega))]; exact hcell (k / 4) (by omega)
      have Hs : Hid (wr.heap.size = w.heap.size + 2) := hsz
      have hw1 := hrow.cell (i := 4 * n - 1 - k) (by omega)
      have hw2 := hrow.frozen (4 * n - 1 - k)
      have hd := df (k / 4) (by omega)
      clear hk hsz
      go_wp2
      go_roundg q
      case measure => omega
      case rel => exact ⟨k + 1, by have := Hk.out; omega, by go_num, hb.setCell (by show w.heap.size ≤ w.heap.size + 1; omega) _, by simpa using Hs.out, hres.setOther (by show w.heap.size ≠ w.heap.size + 1; omega) _, bsrow_step hrow hkn (byte_int f k)⟩
end Go.Proofs.YtigdjlhihhakmaaDoor
