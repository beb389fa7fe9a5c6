/- What integer.canonical returns: the integer without leading zeros, and without a sign for 0. No condition. -/
import Derived.Test.YtigdjlhihhakmaaDoorShelf
import Derived.WalkKit
import Derived.WalkSpells
import Derived.Deep.LoopGhost
import Derived.BigQuiet
import Derived.Deep.QuietTactic
namespace Go.Proofs.YtigdjlhihhakmaaDoor
open Go.RowKit

/-- The bytes without the leading zeros. -/
def stz (s : ByteArray) : List UInt8 := Lib.trimLeftB s.data.toList 0
/-- A value of type api.Int. -/
def iv (b : Bool) (l : List UInt8) : Value := .agg #[.bool b, .string ⟨l.toArray⟩]

theorem fieldMag (b : Bool) (s : ByteArray) (w : World) : (Instr.field 43 (.agg #[.bool b, .string s]) 1).run Tryd.prog w = .ok (.string s) w := by kernel_rfl
theorem fieldNeg (b : Bool) (s : ByteArray) (w : World) : (Instr.field 43 (.agg #[.bool b, .string s]) 0).run Tryd.prog w = .ok (.bool b) w := by kernel_rfl
attribute [go_sem] fieldMag fieldNeg

theorem run_index_bytes (l : List UInt8) (i : Nat) (b : UInt8) (h : l[i]? = some b) (z : Int) (hz : z = (i : Int)) (w : World) :
    (Instr.index 9 (.string ⟨l.toArray⟩) (.int .i64 z)).run Tryd.prog w = .ok (.int .u8 (b.toNat : Int)) w := by
  subst hz
  have hi : i < l.length := by
    rcases Nat.lt_or_ge i l.length with h1 | h1
    · exact h1
    · rw [List.getElem?_eq_none h1] at h; cases h
  rw [run_index_string w 9 ⟨l.toArray⟩ .i64 i Tryd.underlying9, dif_pos ⟨by omega, by simpa [ByteArray.size] using hi⟩]
  have e : (⟨l.toArray⟩ : ByteArray)[(i : Int).toNat]'(by simpa [ByteArray.size] using hi) = b := by
    rw [List.getElem?_eq_getElem hi] at h
    have h2 := Option.some.inj h
    rw [← h2]; rfl
  rw [e]
theorem iv_eq (b : Bool) (l : List UInt8) : iv b l = .agg #[.bool b, .string ⟨l.toArray⟩] := rfl

set_option maxHeartbeats 800000 in
theorem canonical_any (ng : Bool) (s : ByteArray) (w : World) :
    Calls Tryd.prog 88 #[.agg #[.bool ng, .string s]] w fun e w' => e = .returned (iv (ng && !(stz s).isEmpty) (stz s)) ∧ Below w.heap.size w w' := by
  cases ng
  all_goals go_enter Tryd.func88, Tryd.ntmps88
  all_goals go_wp2_with (go_at_call 107; refine (Tryd.strings_TrimLeft_one s 0 (by decide) _).mono ?_; rintro e w' ⟨rfl, rfl⟩)
  · exact bodyPost_ret (v := iv false (stz s)) (by simp [results, Tryd.results88, go_sem, iv, stz]) rfl ⟨rfl, ((Below.refl _ _).alloc (Nat.le_refl _) _).alloc (by simp) _⟩
  · exact bodyPost_ret (v := iv (!(stz s).isEmpty) (stz s)) (by simp [results, Tryd.results88, go_sem, iv, stz]) rfl ⟨rfl, ((Below.refl _ _).alloc (Nat.le_refl _) _).alloc (by simp) _⟩
end Go.Proofs.YtigdjlhihhakmaaDoor
