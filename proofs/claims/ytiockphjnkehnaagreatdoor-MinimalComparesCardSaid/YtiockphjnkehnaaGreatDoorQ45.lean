/- For layer 12's cards: the listed tables, a world that holds them, and what a law asks of them. No condition. Graphs among a law's arguments, opened. No condition. -/
import Derived.Test.YtiockphjnkehnaaGreatDoorCards
import Derived.Test.YtiockphjnkehnaaGreatDoorTie
import Derived.Test.YtiockphjnkehnaaGreatDoorQ44
import Derived.Test.YtiockphjnkehnaaGreatDoorQ10
import Derived.Lib.LaidTab
import Derived.Stop.LaidErr
import Derived.Lib.SmallJoins
import Derived.Test.YtiockphjnkehnaaGreatDoorQ01
import Derived.Test.YtiockphjnkehnaaGreatDoorQ03
import Derived.Deep.SlicePairs
import Derived.Carry

namespace Go.Proofs.YtiockphjnkehnaaGreatDoor
open Go.ChangeShapes Go.WideShapes Go.ChangeAt Go.RowKit

theorem gDeb : Tryz.prog.globalNamed "math/bits.deBruijn64tab" = some 0 := by kernel_rfl
theorem gDebType : (Tryz.prog.globals[0]?).map (·.type) = some 153 := by kernel_rfl
theorem cellsDeb : Tryz.prog.cellsOf 153 = 64 := by kernel_rfl
theorem cellsU8n : Tryz.prog.cellsOf 5 = 1 := by kernel_rfl
abbrev debZ : List Int := Lib.deBruijn64tab.map fun (n : Nat) => (n : Int)
def litCellsN : DataW Unit → List Value
  | .lit (.int k n) => [.int k n]
  | _ => []
def rowCellsN : DataW Unit → List Value
  | .agg ps => ps.flatMap litCellsN
  | d => litCellsN d
def tabCellsN : DataW Unit → List Value
  | .agg ps => ps.flatMap rowCellsN
  | d => litCellsN d
def layAtN (g : Nat) (cs : List Value) (h : Array Obj) : Array Obj := h.modify g fun
  | .cells _ t fr => .cells cs.toArray t fr
  | o => o
noncomputable def laidWorldN (os : Os) : World :=
  { World.holding Tryz.prog os ⟨#[], #[], []⟩ with heap := layAtN 0 (tabCellsN Rows.laid_math_bits_deBruijn64tab) (World.holding Tryz.prog os ⟨#[], #[], []⟩).heap }
end Go.Proofs.YtiockphjnkehnaaGreatDoor

namespace Go.Proofs.YtiockphjnkehnaaGreatDoor
open Go.ChangeShapes Go.WideShapes Go.ChangeAt Go.RowKit Go.Deep
set_option maxRecDepth 100000

section
variable {H : Type} {enc : TypeId × Value → H} {P : Program} {w : World} {base : Nat} {spare : Nat → Bool} {held : Bool}
theorem open_slice_triples {t e : TypeId} {f0 f1 f2 : Field} {fuel : Nat} {cs : List Value} {x : DataW H × List MemPlace} (ht : P.underlying t = some (.slice e)) (he : P.underlying e = some (.struct #[f0, f1, f2]))
    (ce : P.cellsOf e = 3) (o0 : f0.offset = 0) (o1 : f1.offset = 1) (o2 : f2.offset = 2) (c0 : P.cellsOf f0.type = 1) (c1 : P.cellsOf f1.type = 1) (c2 : P.cellsOf f2.type = 1)
    (h : DataW.trod enc P w base spare held fuel t cs = some x) :
    (cs = [.slice none 0 0]) ∨
    ∃ (a : Addr) (len cap m n : Nat) (V0 V1 V2 : Nat → Value) (D0 D1 D2 : Nat → DataW H × List MemPlace), cs = [.slice (some a) len cap] ∧ len ≤ cap ∧ cap ≤ maxLen ∧ m = (if spare a.block then cap else len) ∧
      ∀ i, i < m → w.cell? (a.add (i * 3)) = some (V0 i) ∧ w.cell? (a.add (i * 3 + 1)) = some (V1 i) ∧ w.cell? (a.add (i * 3 + 2)) = some (V2 i) ∧
        DataW.trod enc P w base spare held n f0.type [V0 i] = some (D0 i) ∧ DataW.trod enc P w base spare held n f1.type [V1 i] = some (D1 i) ∧ DataW.trod enc P w base spare held n f2.type [V2 i] = some (D2 i) := by
  rcases open_slice ht h with h0 | ⟨a, len, cap, m, n, D, Pl, rfl, hb, hl, hm, hmm, rfl, hx⟩
  · exact Or.inl h0.1
  right
  have each : ∀ i, i < m → ∃ q : Value × Value × Value × (DataW H × List MemPlace) × (DataW H × List MemPlace) × (DataW H × List MemPlace), w.cell? (a.add (i * 3)) = some q.1 ∧ w.cell? (a.add (i * 3 + 1)) = some q.2.1 ∧ w.cell? (a.add (i * 3 + 2)) = some q.2.2.1 ∧
      DataW.trod enc P w base spare held (n - 1) f0.type [q.1] = some q.2.2.2.1 ∧ DataW.trod enc P w base spare held (n - 1) f1.type [q.2.1] = some q.2.2.2.2.1 ∧ DataW.trod enc P w base spare held (n - 1) f2.type [q.2.2.1] = some q.2.2.2.2.2 := by
    intro i hi
    obtain ⟨cs', h1, h2⟩ := hx i hi
    rw [ce] at h1
    obtain ⟨_, hlen, hcell⟩ := World.cells?_some h1
    obtain ⟨xs, k, hk, hxy, _, hxl, hf⟩ := DataW.trod_struct he h2
    have hk' : k = n - 1 := by omega
    subst hk'
    match xs, hxl, cs', hlen with
    | [y0, y1, y2], _, [v0, v1, v2], _ =>
      have g0 := hf 0 f0 rfl
      have g1 := hf 1 f1 rfl
      have g2 := hf 2 f2 rfl
      simp [o0, o1, o2, c0, c1, c2] at g0 g1 g2
      have e0 := hcell 0 (by omega)
      have e1 := hcell 1 (by omega)
      have e2 := hcell 2 (by omega)
      rw [add_add] at e0 e1 e2
      exact ⟨(v0, v1, v2, y0, y1, y2), by simpa using e0, by simpa using e1, by simpa using e2, g0, g1, g2⟩
  obtain ⟨q, hq⟩ := choose_lt each
  exact ⟨a, len, cap, m, n - 1, fun i => (q i).1, fun i => (q i).2.1, fun i => (q i).2.2.1, fun i => (q i).2.2.2.1, fun i => (q i).2.2.2.2.1, fun i => (q i).2.2.2.2.2, rfl, hl, hm, hmm, hq⟩
end
def intOf : Value → Int
  | .int _ z => z
  | _ => 0
theorem Tryz.laidOut : laidOutB Tryz.prog = true := by kernel_rfl
theorem cellI : Tryz.prog.cellsOf 3 = 1 := by kernel_rfl
theorem cellEdge : Tryz.prog.cellsOf 39 = 3 := by kernel_rfl
theorem cellGraph : Tryz.prog.cellsOf 24 = 3 := by kernel_rfl
theorem int_bounds {H : Type} {enc : TypeId × Value → H} {W : World} {n : Nat} {u : Value} {y : DataW H × List MemPlace} (h : DataW.trod enc Tryz.prog W 0 (fun _ => true) true n 3 [u] = some y) : u = .int .i64 (intOf u) ∧ -9223372036854775808 ≤ intOf u ∧ intOf u ≤ 9223372036854775807 := by
  obtain ⟨x, e0, -, w0⟩ := DataW.trod_int Tryz.underlying3 h
  simp at e0
  have b0 : (IntKind.min .i64) ≤ x ∧ x ≤ (IntKind.max .i64) := by simpa [Lit.wf] using w0
  simp [IntKind.min, IntKind.max, IntKind.signed, IntKind.bits] at b0
  rw [e0]
  exact ⟨rfl, b0.1, b0.2⟩
theorem graph_open {H : Type} {enc : TypeId × Value → H} {W : World} {v : Value} {d : DataW H} {p : List MemPlace} (hv : Value.okWide Tryz.prog W .any 0 24 v)
    (h : DataW.Trod enc Tryz.prog W 0 (fun _ => true) true 24 v d p) : ∃ L S u es, v = grV L S u ∧ EdgesRd W u es ∧ es.length ≤ 9223372036854775807 := by
  obtain ⟨u0, u1, u2, y0, y1, y2, n, rfl, -, -, h0, h1, h2⟩ := Joins.open_agg3 Tryz.underlying24 (by kernel_rfl) cellGraph hv h
  have hg : Value.agg #[u0, u1, u2] = grV (intOf u0) (intOf u1) u2 := by
    show _ = Value.agg #[.int .i64 (intOf u0), .int .i64 (intOf u1), u2]
    rw [← (int_bounds h0).1, ← (int_bounds h1).1]
  refine ⟨intOf u0, intOf u1, u2, ?_⟩
  rcases open_slice_triples Tryz.underlying22 Tryz.underlying39 cellEdge rfl rfl rfl cellI cellI cellI h2 with hc | ⟨a, len, cap, m, k, V0, V1, V2, D0, D1, D2, hc, hl, hm, hmm, hall⟩
  · injection hc with hc
    subst hc
    exact ⟨[], hg, ⟨none, 0, rfl, fun i p hp => by cases hp⟩, Nat.zero_le _⟩
  · injection hc with hc
    subst hc
    simp only [if_true] at hmm
    have hcap : cap ≤ 9223372036854775807 := by unfold maxLen at hm; exact hm
    have hlen : ((List.range len).map fun i => ((intOf (V0 i), intOf (V1 i), intOf (V2 i)) : E3)).length = len := by rw [List.length_map, List.length_range]
    refine ⟨(List.range len).map fun i => ((intOf (V0 i), intOf (V1 i), intOf (V2 i)) : E3), hg, ⟨some a, cap, by rw [hlen], fun i e he => ?_⟩, by rw [hlen]; omega⟩
    have hi : i < len := by
      have := (List.getElem?_eq_some_iff.1 he).1
      rwa [hlen] at this
    rw [List.getElem?_map, List.getElem?_range hi] at he
    injection he with he
    subst he
    have hsp := World.cell?_spot (hall 0 (by omega)).1
    obtain ⟨ab, ao, sp⟩ := a
    obtain rfl : sp = none := by simpa [Addr.add] using hsp
    obtain ⟨k0, k1, k2, t0, t1, t2⟩ := hall i (by omega)
    rw [add_plain, (int_bounds t0).1] at k0
    rw [add_plain, (int_bounds t1).1] at k1
    rw [add_plain, (int_bounds t2).1] at k2
    exact ⟨ab, ao, rfl, k0, k1, k2⟩
theorem graph_keep {H : Type} {enc : TypeId × Value → H} {W W' : World} {v : Value} {d : DataW H} {p : List MemPlace} (h : DataW.Trod enc Tryz.prog W 0 (fun _ => true) true 24 v d p) (hb : Below W.heap.size W W') (hlt : ∀ x ∈ p, x.block < W.heap.size) :
    DataW.Trod enc Tryz.prog W' 0 (fun b => decide (b < W.heap.size)) true 24 v d p :=
  Below.trod Tryz.laidOut (by kernel_rfl) (of_decide_eq_true (by kernel_rfl)) h hb hlt
end Go.Proofs.YtiockphjnkehnaaGreatDoor
