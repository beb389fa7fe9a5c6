/- Lists of integers among a law's arguments, opened. No condition. Rational numbers among the arguments of a row (for seats without groovelaw02). No condition. -/
import Derived.Test.YtgcogpfmhmmgdaaGreatDoorQ50
import Derived.Test.YtgcogpfmhmmgdaaGreatDoorQ40
import Derived.Deep.SlicePairs
import Derived.Carry
import Derived.Test.YtgcogpfmhmmgdaaGreatDoorQ30

namespace Go.Proofs.YtgcogpfmhmmgdaaGreatDoor
open Go.ChangeShapes Go.WideShapes Go.ChangeAt Go.RowKit Go.Deep
set_option maxRecDepth 100000

theorem Tryz.laidOut : laidOutB Tryz.prog = true := by kernel_rfl
def boolOf : Value → Bool
  | .bool b => b
  | _ => false
def strOf : Value → ByteArray
  | .string s => s
  | _ => ⟨#[]⟩
theorem cellBool : Tryz.prog.cellsOf 4 = 1 := by kernel_rfl
theorem cellStr : Tryz.prog.cellsOf 9 = 1 := by kernel_rfl
theorem poly_open {H : Type} {enc : TypeId × Value → H} {W : World} {v : Value} {d : DataW H} {p : List MemPlace} (hv : Value.okWide Tryz.prog W .any 0 22 v)
    (h : DataW.Trod enc Tryz.prog W 0 (fun _ => true) true 22 v d p) :
    ∃ n g s, ArgV W v n g s ∧ n ≤ 9223372036854775807 ∧ ∀ i, i < n → (s i).size ≤ 9223372036854775807 := by
  obtain ⟨a0, len0, cap0, rfl⟩ := okWide_slice Tryz.underlying22 hv
  obtain ⟨fuel, hf⟩ := h
  rcases open_slice_pairs Tryz.underlying22 Tryz.underlying27 cellsInt rfl rfl cellBool cellStr hf with ⟨hc, -⟩ | ⟨a, len, cap, m, k, V0, V1, D0, D1, P0, P1, hc, -, hl, hm, hmm, -, hall⟩
  · simp [Value.cells] at hc
    obtain ⟨rfl, rfl, rfl⟩ := hc
    exact ⟨0, fun _ => false, fun _ => ⟨#[]⟩, ⟨none, 0, rfl, Nat.le_refl _, fun i hi => absurd hi (Nat.not_lt_zero _)⟩, Nat.zero_le _, fun i hi => absurd hi (Nat.not_lt_zero _)⟩
  · simp [Value.cells] at hc
    obtain ⟨rfl, rfl, rfl⟩ := hc
    simp only [if_true] at hmm
    have hcap : cap0 ≤ 9223372036854775807 := by unfold maxLen at hm; exact hm
    have hb : ∀ i, i < len0 → V0 i = .bool (boolOf (V0 i)) ∧ V1 i = .string (strOf (V1 i)) ∧ (strOf (V1 i)).size ≤ 9223372036854775807 := fun i hi => by
      obtain ⟨-, -, h0, h1⟩ := hall i (by omega)
      obtain ⟨g, e0, -⟩ := DataW.trod_bool Tryz.underlying4 h0
      obtain ⟨s, e1, -, hs⟩ := DataW.trod_string Tryz.underlying9 h1
      simp at e0 e1
      rw [e0, e1]
      exact ⟨rfl, rfl, by unfold maxLen at hs; exact hs⟩
    refine ⟨len0, fun i => boolOf (V0 i), fun i => strOf (V1 i), ⟨some a, cap0, rfl, hl, fun i hi => ⟨a, rfl, ?_, ?_⟩⟩, by omega, fun i hi => (hb i hi).2.2⟩
    · rw [(hall i (by omega)).1, (hb i hi).1]
    · have hsp := World.cell?_spot (hall 0 (by omega)).1
      obtain ⟨ab, ao, sp⟩ := a
      obtain rfl : sp = none := by simpa [Addr.add] using hsp
      have e : (⟨((⟨ab, ao, none⟩ : Addr).add (i * 2)).block, ((⟨ab, ao, none⟩ : Addr).add (i * 2)).off + 1, none⟩ : Addr) = (⟨ab, ao, none⟩ : Addr).add (i * 2 + 1) := by
        by_cases h0 : i = 0
        · subst h0; simp [Addr.add]
        · unfold Addr.add
          rw [if_neg (by omega), if_neg (by omega)]
          simp [Nat.add_assoc]
      rw [e, (hall i (by omega)).2.1, (hb i hi).2.1]
theorem poly_keep {H : Type} {enc : TypeId × Value → H} {W W' : World} {v : Value} {d : DataW H} {p : List MemPlace} (h : DataW.Trod enc Tryz.prog W 0 (fun _ => true) true 22 v d p) (hb : Below W.heap.size W W') (hlt : ∀ x ∈ p, x.block < W.heap.size) :
    DataW.Trod enc Tryz.prog W' 0 (fun b => decide (b < W.heap.size)) true 22 v d p :=
  Below.trod Tryz.laidOut (by kernel_rfl) (of_decide_eq_true (by kernel_rfl)) h hb hlt
theorem noStandP : Tryz.prog.wantsStandIn 22 = false := by kernel_rfl
end Go.Proofs.YtgcogpfmhmmgdaaGreatDoor

namespace Go.Proofs.YtgcogpfmhmmgdaaGreatDoor
open Go.ChangeShapes Go.WideShapes Go.ChangeAt Go.RowKit
open Go.ChangeMaps (open_string shut_string)
set_option linter.unusedSimpArgs false

theorem cellsRat : Tryz.prog.cellsOf 33 = 4 := by kernel_rfl
theorem cellsBool : Tryz.prog.cellsOf 4 = 1 := by kernel_rfl
theorem cellsStr : Tryz.prog.cellsOf 9 = 1 := by kernel_rfl
section
variable {H : Type} {enc : TypeId × Value → H} {w : World} {base b0 : Nat} {sp : Nat → Bool} {held : Bool} {r : Reach}
set_option maxRecDepth 100000 in
theorem int_cells {n : Nat} {c0 c1 : Value} {y : DataW H × List MemPlace} (hf : DataW.trod enc Tryz.prog w base sp held n 27 [c0, c1] = some y) :
    ∃ (g : Bool) (s : ByteArray), c0 = .bool g ∧ c1 = .string s ∧ y = (.agg [.lit (.bool g), .lit (.string s.data.toList)], []) ∧ s.size ≤ maxLen := by
  obtain ⟨y0, y1, m, rfl, _, h0, h1⟩ := trod_struct2 Tryz.underlying27 hf
  have h0' : DataW.trod enc Tryz.prog w base sp held m 4 [c0] = some y0 := by simpa [cellsBool] using h0
  have h1' : DataW.trod enc Tryz.prog w base sp held m 9 [c1] = some y1 := by simpa [cellsStr] using h1
  obtain ⟨g, e0, rfl⟩ := DataW.trod_bool Tryz.underlying4 h0'
  obtain ⟨s, e1, rfl, hs⟩ := DataW.trod_string Tryz.underlying9 h1'
  simp at e0 e1
  subst e0 e1
  exact ⟨g, s, rfl, rfl, rfl, hs⟩
set_option maxRecDepth 100000 in
/-- A rational number that was handed in, opened. -/
theorem rat_open {v : Value} {d : DataW H} {p : List MemPlace} (hv : Value.okWide Tryz.prog w r b0 33 v) (h : DataW.Trod enc Tryz.prog w base sp held 33 v d p) :
    ∃ (na : Bool) (sa : ByteArray) (nb : Bool) (sb : ByteArray), v = .agg #[.bool na, .string sa, .bool nb, .string sb] ∧ d = .agg [.agg [.lit (.bool na), .lit (.string sa.data.toList)], .agg [.lit (.bool nb), .lit (.string sb.data.toList)]] ∧ p = [] ∧ sa.size ≤ maxLen ∧ sb.size ≤ maxLen := by
  obtain ⟨cs, rfl, hsz⟩ := okWide_struct Tryz.underlying33 hv
  obtain ⟨c0, c1, c2, c3, rfl⟩ := Joins.array4 (hsz.trans cellsRat)
  obtain ⟨fuel, hf⟩ := h
  obtain ⟨y0, y1, n, hx, _, h0, h1⟩ := trod_struct2 Tryz.underlying33 hf
  have h0' : DataW.trod enc Tryz.prog w base sp held n 27 [c0, c1] = some y0 := by simpa [cellsInt, Value.cells] using h0
  have h1' : DataW.trod enc Tryz.prog w base sp held n 27 [c2, c3] = some y1 := by simpa [cellsInt, Value.cells] using h1
  obtain ⟨na, sa, rfl, rfl, rfl, z0⟩ := int_cells h0'
  obtain ⟨nb, sb, rfl, rfl, rfl, z1⟩ := int_cells h1'
  simp only [Prod.mk.injEq] at hx
  exact ⟨na, sa, nb, sb, rfl, hx.1, hx.2, z0, z1⟩
set_option maxRecDepth 100000 in
theorem rat_shut {na nb : Bool} {sa sb : ByteArray} (ha : sa.size ≤ maxLen) (hb : sb.size ≤ maxLen) :
    DataW.Trod enc Tryz.prog w base sp held 33 (.agg #[.bool na, .string sa, .bool nb, .string sb]) (.agg [.agg [.lit (.bool na), .lit (.string sa.data.toList)], .agg [.lit (.bool nb), .lit (.string sb.data.toList)]]) [] := by
  obtain ⟨n0, t0⟩ := int_shut (enc := enc) (w := w) (base := base) (sp := sp) (held := held) (ng := na) ha
  obtain ⟨n1, t1⟩ := int_shut (enc := enc) (w := w) (base := base) (sp := sp) (held := held) (ng := nb) hb
  have ts := trod_struct2_mk (enc := enc) (w := w) (base := base) (spare := sp) (held := held) (n := max n0 n1) (cs := [.bool na, .string sa, .bool nb, .string sb]) Tryz.underlying33 (by simp [cellsRat])
    (by simpa [cellsInt, Value.cells] using DataW.trod_le (Nat.le_max_left n0 n1) t0) (by simpa [cellsInt, Value.cells] using DataW.trod_le (Nat.le_max_right n0 n1) t1)
  exact ⟨_, by simpa [Value.cells] using ts⟩
end
theorem noStandR : Tryz.prog.wantsStandIn 33 = false := by kernel_rfl
end Go.Proofs.YtgcogpfmhmmgdaaGreatDoor
