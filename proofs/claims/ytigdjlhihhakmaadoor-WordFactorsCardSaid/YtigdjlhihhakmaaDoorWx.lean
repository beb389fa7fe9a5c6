/- What the closure that follows a string's beginnings returns: the length behind one more letter. Condition: the table holds an entry for each length up to the one given. -/
import Derived.Test.YtigdjlhihhakmaaDoorWn
import Derived.WalkKit
import Derived.Deep.LoopGhost
import Derived.Laws.Strings3
import Derived.Lib.Hide
namespace Go.Proofs.YtigdjlhihhakmaaDoor
open Go.RowKit

theorem run_at_bytes (l : List UInt8) (i : Nat) (b : UInt8) (h : l[i]? = some b) (z : Int) (hz : z = (i : Int)) (w : World) :
    (Instr.index 9 (.string ⟨l.toArray⟩) (.int .i64 z)).run Tryd.prog w = .ok (.int .u8 (b.toNat : Int)) w := by
  subst hz
  have hi : i < l.length := by
    rcases Nat.lt_or_ge i l.length with h1 | h1
    · exact h1
    · rw [List.getElem?_eq_none h1] at h; cases h
  rw [run_index_string w 9 ⟨l.toArray⟩ .i64 i Tryd.underlying9, dif_pos ⟨by omega, by simpa [ByteArray.size] using hi⟩]
  have e : (⟨l.toArray⟩ : ByteArray)[(i : Int).toNat]'(by simpa [ByteArray.size] using hi) = b := by
    rw [List.getElem?_eq_getElem hi] at h
    have h2 := Option.some.inj h
    rw [← h2]; rfl
  rw [e]

/-- The entries 0 to n - 1 of a string's table lie in memory. -/
def TabAt (W : World) (A : Option Addr) (n : Nat) (l : List UInt8) : Prop :=
  ∃ b off, (0 < n → A = some ⟨b, off, none⟩) ∧ ∀ i, i < n → W.cell? ⟨b, off + i, none⟩ = some (.int .i64 (tab l i))

set_option maxHeartbeats 1600000 in
theorem ext_any (bw bt n c : Nat) (A : Option Addr) (l t : List UInt8) (k0 : Int) (x : UInt8) (w : World) (hw : w.cell? ⟨bw, 0, none⟩ = some (.string ⟨l.toArray⟩)) (ht : w.cell? ⟨bt, 0, none⟩ = some (.slice A n c))
    (hT : TabAt w A n l) (hl : l.length ≤ 1000000) (hk : -1 ≤ k0) (hn : k0 < n) (hk1 : k0 < l.length) (hs : ∀ m : Nat, k0 = m → Suf l t m) :
    Calls Tryd.prog 85 #[.int .i64 k0, .int .u8 (x.toNat : Int), .pointer (some ⟨bw, 0, none⟩), .pointer (some ⟨bt, 0, none⟩)] w fun e w' => (∃ r : Nat, e = .returned (.int .i64 (r : Int)) ∧ Ext l t x k0 r) ∧ w' = w := by
  obtain ⟨b, off, hA, hc⟩ := hT
  have HA := Lib.hid hA
  have HC := Lib.hid hc
  have HM := Lib.hid (MidL.start (c := x) hk hs)
  have hx := x.toNat_lt
  clear hA hc hs
  go_enter Tryd.func85, Tryd.ntmps85
  go_wp2_with fail
  go_loopg [0] (k0 + 1).toNat (fun q s0 wx => wx = w ∧ ∃ k : Int, q = (k + 1).toNat ∧ s0 = .int .i64 k ∧ -1 ≤ k ∧ k ≤ k0 ∧ Hid (MidL l t x k0 k))
  case atStart => exact ⟨rfl, k0, rfl, rfl, hk, Int.le_refl _, HM⟩
  case round =>
    obtain ⟨rfl, k, rfl, rfl, h1, h2, H3⟩ := hrel
    rcases (show k = -1 ∨ 0 ≤ k by omega) with rfl | h4
    · have HE := Lib.hid (MidL.none H3.out)
      clear H3
      go_wp2
      go_ret
      exact ⟨⟨0, rfl, HE.out⟩, rfl⟩
    · obtain ⟨m, rfl⟩ : ∃ m : Nat, k = (m : Int) := ⟨k.toNat, by omega⟩
      have hml : m < l.length := by omega
      have hmn : m < n := by omega
      obtain ⟨d, hd⟩ : ∃ d, l[m]? = some d := ⟨_, List.getElem?_eq_getElem hml⟩
      have hix := run_at_bytes l m d hd (m : Int) rfl
      have hd' := d.toNat_lt
      have Hd := Lib.hid hd
      have hcell := HC.out m hmn
      obtain rfl := HA.out (by omega)
      clear hd
      by_cases hne : d = x
      · subst hne
        have HE := Lib.hid (MidL.found H3.out Hd.out)
        clear H3
        go_wp2
        go_ret
        exact ⟨⟨m + 1, by simp, HE.out⟩, rfl⟩
      · have HM2 := Lib.hid (MidL.step H3.out hml Hd.out hne)
        have hne2 : ((d.toNat : Int) == (x.toNat : Int)) = false := by
          rw [beq_eq_false_iff_ne]
          intro e
          exact hne (UInt8.toNat_inj.1 (by omega))
        have ht2 := tab_lt (w := l) (i := m) (by omega)
        obtain ⟨v, Hv⟩ : ∃ v, Hid (tab l m = v) := ⟨_, Lib.hid rfl⟩
        rw [Hv.out] at hcell HM2 ht2
        clear H3 hne
        go_wp2
        go_roundg (v + 1).toNat
        case measure => omega
        case rel => exact ⟨rfl, v, rfl, rfl, ht2.1, by omega, HM2⟩
end Go.Proofs.YtigdjlhihhakmaaDoor
