/- Rational numbers among the arguments of a row, and what lies in block 0. No condition. -/
import Derived.Test.YtcljkdninmldiaaGreatDoorQ48
import Derived.Test.YtcljkdninmldiaaGreatDoorQ36

namespace Go.Proofs.YtcljkdninmldiaaGreatDoor
open Go.ChangeShapes Go.WideShapes Go.ChangeAt Go.RowKit
open Go.ChangeMaps (open_string shut_string)
set_option linter.unusedSimpArgs false

theorem cellsRat : Tryz.prog.cellsOf 25 = 4 := by kernel_rfl
theorem cellsBool : Tryz.prog.cellsOf 4 = 1 := by kernel_rfl
theorem cellsStr : Tryz.prog.cellsOf 9 = 1 := by kernel_rfl
section
variable {H : Type} {enc : TypeId × Value → H} {w : World} {base b0 : Nat} {sp : Nat → Bool} {held : Bool} {r : Reach}
set_option maxRecDepth 100000 in
theorem int_cells {n : Nat} {c0 c1 : Value} {y : DataW H × List MemPlace} (hf : DataW.trod enc Tryz.prog w base sp held n 23 [c0, c1] = some y) :
    ∃ (g : Bool) (s : ByteArray), c0 = .bool g ∧ c1 = .string s ∧ y = (.agg [.lit (.bool g), .lit (.string s.data.toList)], []) ∧ s.size ≤ maxLen := by
  obtain ⟨y0, y1, m, rfl, _, h0, h1⟩ := trod_struct2 Tryz.underlying23 hf
  have h0' : DataW.trod enc Tryz.prog w base sp held m 4 [c0] = some y0 := by simpa [cellsBool] using h0
  have h1' : DataW.trod enc Tryz.prog w base sp held m 9 [c1] = some y1 := by simpa [cellsStr] using h1
  obtain ⟨g, e0, rfl⟩ := DataW.trod_bool Tryz.underlying4 h0'
  obtain ⟨s, e1, rfl, hs⟩ := DataW.trod_string Tryz.underlying9 h1'
  simp at e0 e1
  subst e0 e1
  exact ⟨g, s, rfl, rfl, rfl, hs⟩
set_option maxRecDepth 100000 in
/-- A rational number that was handed in, opened. -/
theorem rat_open {v : Value} {d : DataW H} {p : List MemPlace} (hv : Value.okWide Tryz.prog w r b0 25 v) (h : DataW.Trod enc Tryz.prog w base sp held 25 v d p) :
    ∃ (na : Bool) (sa : ByteArray) (nb : Bool) (sb : ByteArray), v = .agg #[.bool na, .string sa, .bool nb, .string sb] ∧ d = .agg [.agg [.lit (.bool na), .lit (.string sa.data.toList)], .agg [.lit (.bool nb), .lit (.string sb.data.toList)]] ∧ p = [] ∧ sa.size ≤ maxLen ∧ sb.size ≤ maxLen := by
  obtain ⟨cs, rfl, hsz⟩ := okWide_struct Tryz.underlying25 hv
  obtain ⟨c0, c1, c2, c3, rfl⟩ := Joins.array4 (hsz.trans cellsRat)
  obtain ⟨fuel, hf⟩ := h
  obtain ⟨y0, y1, n, hx, _, h0, h1⟩ := trod_struct2 Tryz.underlying25 hf
  have h0' : DataW.trod enc Tryz.prog w base sp held n 23 [c0, c1] = some y0 := by simpa [cellsInt, Value.cells] using h0
  have h1' : DataW.trod enc Tryz.prog w base sp held n 23 [c2, c3] = some y1 := by simpa [cellsInt, Value.cells] using h1
  obtain ⟨na, sa, rfl, rfl, rfl, z0⟩ := int_cells h0'
  obtain ⟨nb, sb, rfl, rfl, rfl, z1⟩ := int_cells h1'
  simp only [Prod.mk.injEq] at hx
  exact ⟨na, sa, nb, sb, rfl, hx.1, hx.2, z0, z1⟩
set_option maxRecDepth 100000 in
theorem rat_shut {na nb : Bool} {sa sb : ByteArray} (ha : sa.size ≤ maxLen) (hb : sb.size ≤ maxLen) :
    DataW.Trod enc Tryz.prog w base sp held 25 (.agg #[.bool na, .string sa, .bool nb, .string sb]) (.agg [.agg [.lit (.bool na), .lit (.string sa.data.toList)], .agg [.lit (.bool nb), .lit (.string sb.data.toList)]]) [] := by
  obtain ⟨n0, t0⟩ := int_shut (enc := enc) (w := w) (base := base) (sp := sp) (held := held) (ng := na) ha
  obtain ⟨n1, t1⟩ := int_shut (enc := enc) (w := w) (base := base) (sp := sp) (held := held) (ng := nb) hb
  have ts := trod_struct2_mk (enc := enc) (w := w) (base := base) (spare := sp) (held := held) (n := max n0 n1) (cs := [.bool na, .string sa, .bool nb, .string sb]) Tryz.underlying25 (by simp [cellsRat])
    (by simpa [cellsInt, Value.cells] using DataW.trod_le (Nat.le_max_left n0 n1) t0) (by simpa [cellsInt, Value.cells] using DataW.trod_le (Nat.le_max_right n0 n1) t1)
  exact ⟨_, by simpa [Value.cells] using ts⟩
end
set_option maxRecDepth 100000 in
theorem zero0 {W : World} (hS : W.ShapedOpen Tryz.prog) : Zero0 W := by
  obtain ⟨cs, hh, hs, hr⟩ := hS.1 0 #[.int .i64 0] 3 (of_decide_eq_true (by kernel_rfl)) (by kernel_rfl)
  obtain ⟨ts, hts, _, hall⟩ := hr (by kernel_rfl)
  rw [show Tryz.prog.cellTypes Tryz.prog.depth 3 = some [3] by kernel_rfl] at hts
  cases hts
  have h1 : 0 < cs.size := by rw [hs]; exact Nat.zero_lt_one
  clear hs hr hS
  obtain ⟨u, hu', hok⟩ := hall 0 cs[0] (Array.getElem?_eq_getElem h1)
  have hu : u = 3 := by
    have h2 : (some 3 : Option TypeId) = some u := hu'
    exact (Option.some.inj h2).symm
  subst hu
  have hcell : W.cell? ⟨0, 0, none⟩ = some cs[0] := by
    unfold World.cell?
    dsimp only
    rw [hh]
    exact Array.getElem?_eq_getElem h1
  unfold Zero0
  rw [hcell]
  clear hall hh hcell hu'
  generalize cs[0] = v at hok
  unfold Cell.ok at hok
  rw [Tryz.underlying3] at hok
  cases v <;> first | (simp at hok; obtain ⟨rfl, _⟩ := hok; exact ⟨_, rfl⟩) | simp at hok
theorem noStandR : Tryz.prog.wantsStandIn 25 = false := by kernel_rfl
end Go.Proofs.YtcljkdninmldiaaGreatDoor
