/- Lists of integers among a law's arguments, opened. No condition. -/
import Derived.Test.YtgcogpfmhmmgdaaGreatDoorQ44
import Derived.Test.YtgcogpfmhmmgdaaGreatDoorQ33
import Derived.Deep.SlicePairs
import Derived.Carry

namespace Go.Proofs.YtgcogpfmhmmgdaaGreatDoor
open Go.ChangeShapes Go.WideShapes Go.ChangeAt Go.RowKit Go.Deep
set_option maxRecDepth 100000

theorem Tryz.laidOut : laidOutB Tryz.prog = true := by kernel_rfl
def boolOf : Value → Bool
  | .bool b => b
  | _ => false
def strOf : Value → ByteArray
  | .string s => s
  | _ => ⟨#[]⟩
theorem cellBool : Tryz.prog.cellsOf 4 = 1 := by kernel_rfl
theorem cellStr : Tryz.prog.cellsOf 9 = 1 := by kernel_rfl
theorem poly_open {H : Type} {enc : TypeId × Value → H} {W : World} {v : Value} {d : DataW H} {p : List MemPlace} (hv : Value.okWide Tryz.prog W .any 0 22 v)
    (h : DataW.Trod enc Tryz.prog W 0 (fun _ => true) true 22 v d p) :
    ∃ n g s, ArgV W v n g s ∧ n ≤ 9223372036854775807 ∧ ∀ i, i < n → (s i).size ≤ 9223372036854775807 := by
  obtain ⟨a0, len0, cap0, rfl⟩ := okWide_slice Tryz.underlying22 hv
  obtain ⟨fuel, hf⟩ := h
  rcases open_slice_pairs Tryz.underlying22 Tryz.underlying27 cellsInt rfl rfl cellBool cellStr hf with ⟨hc, -⟩ | ⟨a, len, cap, m, k, V0, V1, D0, D1, P0, P1, hc, -, hl, hm, hmm, -, hall⟩
  · simp [Value.cells] at hc
    obtain ⟨rfl, rfl, rfl⟩ := hc
    exact ⟨0, fun _ => false, fun _ => ⟨#[]⟩, ⟨none, 0, rfl, Nat.le_refl _, fun i hi => absurd hi (Nat.not_lt_zero _)⟩, Nat.zero_le _, fun i hi => absurd hi (Nat.not_lt_zero _)⟩
  · simp [Value.cells] at hc
    obtain ⟨rfl, rfl, rfl⟩ := hc
    simp only [if_true] at hmm
    have hcap : cap0 ≤ 9223372036854775807 := by unfold maxLen at hm; exact hm
    have hb : ∀ i, i < len0 → V0 i = .bool (boolOf (V0 i)) ∧ V1 i = .string (strOf (V1 i)) ∧ (strOf (V1 i)).size ≤ 9223372036854775807 := fun i hi => by
      obtain ⟨-, -, h0, h1⟩ := hall i (by omega)
      obtain ⟨g, e0, -⟩ := DataW.trod_bool Tryz.underlying4 h0
      obtain ⟨s, e1, -, hs⟩ := DataW.trod_string Tryz.underlying9 h1
      simp at e0 e1
      rw [e0, e1]
      exact ⟨rfl, rfl, by unfold maxLen at hs; exact hs⟩
    refine ⟨len0, fun i => boolOf (V0 i), fun i => strOf (V1 i), ⟨some a, cap0, rfl, hl, fun i hi => ⟨a, rfl, ?_, ?_⟩⟩, by omega, fun i hi => (hb i hi).2.2⟩
    · rw [(hall i (by omega)).1, (hb i hi).1]
    · have hsp := World.cell?_spot (hall 0 (by omega)).1
      obtain ⟨ab, ao, sp⟩ := a
      obtain rfl : sp = none := by simpa [Addr.add] using hsp
      have e : (⟨((⟨ab, ao, none⟩ : Addr).add (i * 2)).block, ((⟨ab, ao, none⟩ : Addr).add (i * 2)).off + 1, none⟩ : Addr) = (⟨ab, ao, none⟩ : Addr).add (i * 2 + 1) := by
        by_cases h0 : i = 0
        · subst h0; simp [Addr.add]
        · unfold Addr.add
          rw [if_neg (by omega), if_neg (by omega)]
          simp [Nat.add_assoc]
      rw [e, (hall i (by omega)).2.1, (hb i hi).2.1]
theorem poly_keep {H : Type} {enc : TypeId × Value → H} {W W' : World} {v : Value} {d : DataW H} {p : List MemPlace} (h : DataW.Trod enc Tryz.prog W 0 (fun _ => true) true 22 v d p) (hb : Below W.heap.size W W') (hlt : ∀ x ∈ p, x.block < W.heap.size) :
    DataW.Trod enc Tryz.prog W' 0 (fun b => decide (b < W.heap.size)) true 22 v d p :=
  Below.trod Tryz.laidOut (by kernel_rfl) (of_decide_eq_true (by kernel_rfl)) h hb hlt
theorem noStandP : Tryz.prog.wantsStandIn 22 = false := by kernel_rfl
end Go.Proofs.YtgcogpfmhmmgdaaGreatDoor
