/- What integer.magnitude returns: the absolute value as digits to the base 2^32. Condition: fewer than 10000000000 bytes. -/
import Derived.Test.YtigdjlhihhakmaaDoorCan
import Derived.Test.YtigdjlhihhakmaaDoorAdd
import Derived.Test.YtigdjlhihhakmaaDoorMagl
import Derived.BigRegion
namespace Go.Proofs.YtigdjlhihhakmaaDoor
open Go.RowKit

set_option maxRecDepth 100000 in
set_option maxHeartbeats 1600000 in
theorem magnitude_any (ng : Bool) (s : ByteArray) (w : World) (hs : s.size ≤ 10000000000) :
    Calls Tryd.prog 59 #[.agg #[.bool ng, .string s]] w (NatOut w (vB s.data.toList)) := by
  have hl : (stz s).length ≤ s.size := by
    have := stz_len s.data.toList
    unfold stz
    have e := Lib.size_eq s
    omega
  have hv : vB (stz s) = vB s.data.toList := vB_trim _
  have hh : (stz s).head? ≠ some 0 := head_trim _
  generalize hlg : stz s = l at hl hv hh
  have Hlg : Hid (stz s = l) := hlg
  clear hlg
  have hmk := run_make_row' (P := Tryd.prog) 78 85 (.int .u32 0) 4 Tryd.underlying78 Tryd.infoU32 rfl .i64 .i64 ((l.length + 3) / 4) (by omega) (by omega)
  rw [show (((l.length + 3) / 4 : Nat) : Int) = ((l.length : Int) + 3) / 4 by omega] at hmk
  have Hv : Hid (vB l = vB s.data.toList) := hv
  have Hh : Hid (l.head? ≠ some 0) := hh
  clear hv hh
  go_enter Tryd.func59, Tryd.ntmps59
  go_wp2_with fail
  refine (canonical_any ng s _).mono ?_
  rintro e w' ⟨rfl, hb1⟩
  rw [Hlg.out]
  rw [iv_eq]
  have hsz : w.heap.size + 1 ≤ w'.heap.size := by have := hb1.size; simp at this; omega
  have hb2 : Below w.heap.size w w' := ((Below.refl _ w).alloc (Nat.le_refl _) _).trans (hb1.mono (by simp))
  go_wp2
  clear hmk
  go_loopg [16] l.length (fun q i wx => ∃ (k : Nat) (p : Nat → Nat), k + q = l.length ∧ i = .int .i64 k ∧ Packed l p k ∧ Below w.heap.size w wx ∧ wx.rowIs w'.heap.size 85 ((l.length + 3) / 4) (dall p))
  case atStart => exact ⟨0, fun _ => 0, by omega, rfl, packed_start l, hb2.alloc (by omega) _, (World.rowIs_made w' _ ((l.length + 3) / 4) _).congr (fun i _ => by simp [dall])⟩
  case round =>
    obtain ⟨k, p, hk, rfl, hp, hb, hrow⟩ := hrel
    rcases gk with _ | q
    · obtain rfl : k = l.length := by omega
      clear hk
      go_wp2
      go_ret
      have hv := hp.val
      rw [Nat.sub_self, List.drop_zero, Hv.out] at hv
      exact ⟨_, _, _, rfl, ⟨Nat.le_refl _, by omega, p, dall_rd hrow, fun i _ => hp.dig i, packed_trm hp Hh.out, hv⟩, hb⟩
    · have hkn : k < l.length := by omega
      have Hk : Hid (k + (q + 1) = l.length) := hk
      clear hk
      have hw1 : wr.cell? ⟨w'.heap.size, k / 4, none⟩ = some (.int .u32 (p (k / 4) : Int)) := hrow.cell (i := k / 4) (by omega)
      have hw2 := hrow.frozen (k / 4)
      have hpk := hp.dig (k / 4)
      obtain ⟨b, hbb⟩ : ∃ b, l[l.length - 1 - k]? = some b := ⟨_, List.getElem?_eq_getElem (by omega)⟩
      have hix := run_index_bytes l (l.length - 1 - k) b hbb ((l.length : Int) - 1 - k) (by omega)
      have hb' := b.toNat_lt
      have Hb : Hid (l[l.length - 1 - k]? = some b) := hbb
      clear hbb
      go_wp2
      go_big_region
      go_wp2
      have hst := packed_step hp hkn Hb.out
      go_roundg q
      case measure => omega
      case rel => exact ⟨k + 1, upd p (k / 4) (p (k / 4) + b.toNat * 256 ^ (k % 4)), by have := Hk.out; omega, by go_num, hst.2, (hb.setCell (by show w.heap.size ≤ w'.heap.size; omega) _).drew, (dall_set hrow (k / 4) (or_digit hp b)).drew⟩
end Go.Proofs.YtigdjlhihhakmaaDoor
