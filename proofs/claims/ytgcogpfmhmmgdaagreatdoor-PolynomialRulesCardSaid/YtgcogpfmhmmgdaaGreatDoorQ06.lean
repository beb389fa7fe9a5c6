/- What integer.magnitude returns: the absolute value as digits to the base 2^32. Condition: fewer than 10000000000 bytes. Plain facts on the order of numbers by their digits. No condition. What integer.compare returns: -1, 0 or 1, by the numbers. Condition: both are numbers in memory without zeros at the end. -/
import Derived.Test.YtgcogpfmhmmgdaaGreatDoorQ04
import Derived.Test.YtgcogpfmhmmgdaaGreatDoorQ01
import Derived.Test.YtgcogpfmhmmgdaaGreatDoorQ05
import Derived.BigRegion
import Derived.WalkKit
import Derived.Deep.LoopGhost
import Derived.Deep.QuietTactic
import Derived.BigQuiet

namespace Go.Proofs.YtgcogpfmhmmgdaaGreatDoor
open Go.RowKit

set_option maxRecDepth 100000 in
set_option maxHeartbeats 1600000 in
theorem magnitude_any (ng : Bool) (s : ByteArray) (w : World) (hs : s.size ≤ 10000000000) :
    Calls Tryz.prog 73 #[.agg #[.bool ng, .string s]] w (NatOut w (vB s.data.toList)) := by
  have hl : (stz s).length ≤ s.size := by
    have := stz_len s.data.toList
    unfold stz
    have e := Lib.size_eq s
    omega
  have hv : vB (stz s) = vB s.data.toList := vB_trim _
  have hh : (stz s).head? ≠ some 0 := head_trim _
  generalize hlg : stz s = l at hl hv hh
  have Hlg : Hid (stz s = l) := hlg
  clear hlg
  have hmk := run_make_row' (P := Tryz.prog) 86 93 (.int .u32 0) 4 Tryz.underlying86 Tryz.infoU32 rfl .i64 .i64 ((l.length + 3) / 4) (by omega) (by omega)
  rw [show (((l.length + 3) / 4 : Nat) : Int) = ((l.length : Int) + 3) / 4 by omega] at hmk
  have Hv : Hid (vB l = vB s.data.toList) := hv
  have Hh : Hid (l.head? ≠ some 0) := hh
  clear hv hh
  go_enter Tryz.func73, Tryz.ntmps73
  go_wp2_with fail
  refine (canonical_any ng s _).mono ?_
  rintro e w' ⟨rfl, hb1⟩
  rw [Hlg.out]
  rw [iv_eq]
  have hsz : w.heap.size + 1 ≤ w'.heap.size := by have := hb1.size; simp at this; omega
  have hb2 : Below w.heap.size w w' := ((Below.refl _ w).alloc (Nat.le_refl _) _).trans (hb1.mono (by simp))
  go_wp2
  clear hmk
  go_loopg [16] l.length (fun q i wx => ∃ (k : Nat) (p : Nat → Nat), k + q = l.length ∧ i = .int .i64 k ∧ Packed l p k ∧ Below w.heap.size w wx ∧ wx.rowIs w'.heap.size 93 ((l.length + 3) / 4) (dall p))
  case atStart => exact ⟨0, fun _ => 0, by omega, rfl, packed_start l, hb2.alloc (by omega) _, (World.rowIs_made w' _ ((l.length + 3) / 4) _).congr (fun i _ => by simp [dall])⟩
  case round =>
    obtain ⟨k, p, hk, rfl, hp, hb, hrow⟩ := hrel
    rcases gk with _ | q
    · obtain rfl : k = l.length := by omega
      clear hk
      go_wp2
      go_ret
      have hv := hp.val
      rw [Nat.sub_self, List.drop_zero, Hv.out] at hv
      exact ⟨_, _, _, rfl, ⟨Nat.le_refl _, by omega, p, dall_rd hrow, fun i _ => hp.dig i, packed_trm hp Hh.out, hv⟩, hb⟩
    · have hkn : k < l.length := by omega
      have Hk : Hid (k + (q + 1) = l.length) := hk
      clear hk
      have hw1 : wr.cell? ⟨w'.heap.size, k / 4, none⟩ = some (.int .u32 (p (k / 4) : Int)) := hrow.cell (i := k / 4) (by omega)
      have hw2 := hrow.frozen (k / 4)
      have hpk := hp.dig (k / 4)
      obtain ⟨b, hbb⟩ : ∃ b, l[l.length - 1 - k]? = some b := ⟨_, List.getElem?_eq_getElem (by omega)⟩
      have hix := run_index_bytes l (l.length - 1 - k) b hbb ((l.length : Int) - 1 - k) (by omega)
      have hb' := b.toNat_lt
      have Hb : Hid (l[l.length - 1 - k]? = some b) := hbb
      clear hbb
      go_wp2
      go_big_region
      go_wp2
      have hst := packed_step hp hkn Hb.out
      go_roundg q
      case measure => omega
      case rel => exact ⟨k + 1, upd p (k / 4) (p (k / 4) + b.toNat * 256 ^ (k % 4)), by have := Hk.out; omega, by go_num, hst.2, (hb.setCell (by show w.heap.size ≤ w'.heap.size; omega) _).drew, (dall_set hrow (k / 4) (or_digit hp b)).drew⟩
end Go.Proofs.YtgcogpfmhmmgdaaGreatDoor

namespace Go.Proofs.YtgcogpfmhmmgdaaGreatDoor
open Go.RowKit

def cmpN (a b : Nat) : Int := if a < b then -1 else if b < a then 1 else 0

theorem val_lt_len {f g : Nat → Nat} {n m : Nat} (hf : Dig f n) (hg : Trm g m) (h : n < m) : val f n < val g m := by
  have h1 := val_lt hf
  have h2 := val_ge (f := g) (n := m) (by omega) (hg (by omega))
  have h3 : 4294967296 ^ n ≤ 4294967296 ^ (m - 1) := Nat.pow_le_pow_right (by omega) (by omega)
  omega

theorem val_lt_at {f g : Nat → Nat} {n i : Nat} (hf : Dig f n) (hi : i < n) (h : f i < g i) (he : ∀ j, i < j → j < n → f j = g j) : val f n < val g n := by
  induction n with
  | zero => omega
  | succ n ih =>
    rw [val, val]
    by_cases e : i = n
    · subst e
      have h1 := val_lt (f := f) (n := i) (fun j hj => hf j (by omega))
      have h2 : (f i + 1) * 4294967296 ^ i ≤ g i * 4294967296 ^ i := Nat.mul_le_mul_right _ (by omega)
      rw [Nat.add_mul, Nat.one_mul] at h2
      omega
    · have h1 := ih (fun j hj => hf j (by omega)) (by omega) (fun j a b => he j a (by omega))
      rw [he n (by omega) (by omega)]
      omega

theorem cmpN_len {f g : Nat → Nat} {n m : Nat} (hf : Dig f n) (hg : Dig g m) (tf : Trm f n) (tg : Trm g m) (h : n ≠ m) : cmpN (val f n) (val g m) = if n < m then -1 else 1 := by
  unfold cmpN
  by_cases hlt : n < m
  · rw [if_pos (val_lt_len hf tg hlt), if_pos hlt]
  · have := val_lt_len hg tf (show m < n by omega)
    rw [if_neg (by omega), if_pos this, if_neg hlt]
theorem cmpN_lss {f g : Nat → Nat} {n i : Nat} (hf : Dig f n) (hi : i < n) (h : f i < g i) (he : ∀ j, i < j → j < n → f j = g j) : cmpN (val f n) (val g n) = -1 := by
  unfold cmpN; rw [if_pos (val_lt_at hf hi h he)]
theorem cmpN_gtr {f g : Nat → Nat} {n i : Nat} (hg : Dig g n) (hi : i < n) (h : g i < f i) (he : ∀ j, i < j → j < n → f j = g j) : cmpN (val f n) (val g n) = 1 := by
  have := val_lt_at hg hi h (fun j a b => (he j a b).symm)
  unfold cmpN; rw [if_neg (by omega), if_pos this]
theorem cmpN_eq {f g : Nat → Nat} {n : Nat} (he : ∀ j, j < n → f j = g j) : cmpN (val f n) (val g n) = 0 := by
  rw [val_congr he]; unfold cmpN; rw [if_neg (by omega), if_neg (by omega)]
end Go.Proofs.YtgcogpfmhmmgdaaGreatDoor

namespace Go.Proofs.YtgcogpfmhmmgdaaGreatDoor
open Go.RowKit

set_option maxHeartbeats 800000 in
theorem compare_any (A B : Option Addr) (n m c d N M : Nat) (w : World) (hA : IsNat w A n c N) (hB : IsNat w B m d M) :
    Calls Tryz.prog 76 #[.slice A n c, .slice B m d] w fun e w' => e = .returned (.int .i64 (cmpN N M)) ∧ ∃ k, w' = w.drewN k := by
  obtain ⟨hn, hc, f, ⟨b, off, hAe, hcell⟩, df, tf, rfl⟩ := hA
  obtain ⟨hm, hd, g, ⟨b', off', hBe, hcell'⟩, dg, tg, rfl⟩ := hB
  by_cases hne : n = m
  · subst hne
    have hne' : ((n : Int) != (n : Int)) = false := by simp
    go_enter Tryz.func76, Tryz.ntmps76
    go_wp2
    go_loopg [5] n (fun k i wx => (∃ q, wx = w.drewN q) ∧ k ≤ n ∧ i = .int .i64 ((k : Int) - 1) ∧ ∀ j, k ≤ j → j < n → f j = g j)
    case atStart => exact ⟨⟨0, rfl⟩, Nat.le_refl _, by go_num, fun j a b => by omega⟩
    case round =>
      obtain ⟨⟨q, rfl⟩, hk, rfl, he⟩ := hrel
      rcases gk with _ | k
      · have hv := cmpN_eq (f := f) (g := g) (n := n) (fun j hj => he j (Nat.zero_le _) hj)
        have Hv : Hid (cmpN (val f n) (val g n) = 0) := hv
        clear hv he
        go_wp2
        go_ret
        exact ⟨by rw [Hv.out]; rfl, q, rfl⟩
      · obtain rfl := hAe (by omega)
        obtain rfl := hBe (by omega)
        have hx := hcell k (by omega)
        have hy := hcell' k (by omega)
        by_cases h1 : f k < g k
        · have hv := cmpN_lss df (show k < n by omega) h1 he
          have Hv : Hid (cmpN (val f n) (val g n) = -1) := hv
          clear hv he
          go_wp2
          go_quiet (fail)
          go_wp2
          go_ret
          exact ⟨by rw [Hv.out]; rfl, _, World.drewN_drewN ..⟩
        · by_cases h2 : g k < f k
          · have hv := cmpN_gtr dg (show k < n by omega) h2 he
            have Hv : Hid (cmpN (val f n) (val g n) = 1) := hv
            clear hv he
            go_wp2
            go_quiet (fail)
            go_wp2
            go_quiet (fail)
            go_wp2
            go_ret
            exact ⟨by rw [Hv.out]; rfl, _, (by rw [World.drewN_drewN, World.drewN_drewN])⟩
          · have He : Hid (∀ j, k ≤ j → j < n → f j = g j) := fun j a b => by
              by_cases e : j = k
              · subst e; omega
              · exact he j (by omega) b
            clear he
            go_wp2
            go_quiet (fail)
            go_wp2
            go_quiet (fail)
            go_wp2
            go_roundg k
            case measure => omega
            case rel => exact ⟨⟨_, rfl⟩, by omega, by go_num, He.out⟩
  · have hne' : ((n : Int) != (m : Int)) = true := by simp; omega
    have hv := cmpN_len df dg tf tg hne
    have Hv : Hid (cmpN (val f n) (val g m) = if n < m then -1 else 1) := hv
    clear hv
    by_cases hlt : n < m
    · go_enter Tryz.func76, Tryz.ntmps76
      go_wp2
      go_ret
      exact ⟨by rw [Hv.out, if_pos hlt]; rfl, 0, rfl⟩
    · go_enter Tryz.func76, Tryz.ntmps76
      go_wp2
      go_ret
      exact ⟨by rw [Hv.out, if_neg hlt]; rfl, 0, rfl⟩
end Go.Proofs.YtgcogpfmhmmgdaaGreatDoor
