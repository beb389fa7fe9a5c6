/- What grooveref09.Same returns. Condition: at most a million edges each. What rows without listed variables share. No condition. Graphs among a law's arguments, opened. No condition. -/
import Derived.Test.YthhbbiafffpknaaDoorQ07
import Derived.BigQuiet
import Derived.Test.YthhbbiafffpknaaDoorRows
import Derived.WalkKit
import Derived.ProofKit
import Derived.OpenShut
import Derived.Deep.DeepHandedRow
import Derived.Below
import Derived.Lib.SmallJoins
import Derived.Test.YthhbbiafffpknaaDoorQ01
import Derived.Test.YthhbbiafffpknaaDoorQ03
import Derived.Deep.SlicePairs
import Derived.Carry

namespace Go.Proofs.YthhbbiafffpknaaDoor
open Go.RowKit Go.Shelf
set_option linter.unusedSimpArgs false
set_option linter.unusedVariables false

theorem sameG_of {L S : Int} {es fs : List E3} : sameG L S es L S fs = decide (es = fs) := by
  unfold sameG
  rw [decide_eq_decide]
  exact ⟨fun h => h.2.2, fun h => ⟨rfl, rfl, h⟩⟩
set_option maxRecDepth 100000 in
set_option maxHeartbeats 3200000 in
theorem rsame_any (L S L' S' : Int) (es fs : List E3) (v1 v2 : Value) (w : World) (h1 : EdgesRd w v1 es) (h2 : EdgesRd w v2 fs) (hn : es.length ≤ 1000000) (hm : fs.length ≤ 1000000) :
    Calls Tryd.prog 10 #[grV L S v1, grV L' S' v2] w fun e w' => e = .returned (.bool (sameG L S es L' S' fs)) ∧ Below w.heap.size w w' := by
  have b0 := below_more (below1 w (.cells #[.int .i64 L, .int .i64 S, v1] 24)) (Nat.le_refl _) (below1 _ (.cells #[.int .i64 L', .int .i64 S', v2] 24))
  have HA := Lib.hid (h1.keep b0)
  have HB := Lib.hid (h2.keep b0)
  have B0 := Lib.hid b0
  have K1 := Lib.hid ((BoxG.new w L S v1 24).keep (below1 _ (.cells #[.int .i64 L', .int .i64 S', v2] 24)))
  have K2 := Lib.hid (BoxG.new (w.alloc (.cells #[.int .i64 L, .int .i64 S, v1] 24)) L' S' v2 24)
  obtain ⟨a1, c1, rfl⟩ := h1.form
  obtain ⟨a2, c2, rfl⟩ := h2.form
  clear h1 h2 b0
  by_cases hL : L = L'
  · subst hL
    by_cases hS : S = S'
    · subst hS
      by_cases hl : es.length = fs.length
      · have HE := Lib.hid (sameG_of (L := L) (S := S) (es := es) (fs := fs))
        obtain ⟨n, hn'⟩ : ∃ n, fs.length = n := ⟨_, rfl⟩
        have HN := Lib.hid hn'
        have HM := Lib.hid (hl.trans hn')
        rw [hn'] at hl hm HB K1 K2 B0 HA ⊢
        rw [hl] at hn HA HB K1 K2 B0 ⊢
        clear hl hn'
        obtain ⟨W0, hW0⟩ : ∃ W0, (w.alloc (.cells #[.int .i64 L, .int .i64 S, .slice a1 n c1] 24)).alloc (.cells #[.int .i64 L, .int .i64 S, .slice a2 n c2] 24) = W0 := ⟨_, rfl⟩
        rw [hW0] at HA HB K1 K2 B0
        rw [World.size_alloc] at K2
        obtain ⟨g1, g2, g3⟩ := id K1.out
        obtain ⟨g4, g5, g6⟩ := id K2.out
        have HW := Lib.hid hW0
        clear hW0
        go_enter Tryd.func10, Tryd.ntmps10
        go_wp2_with fail
        rw [HW.out]
        clear HW
        go_loopg [5] n (fun q s5 wx => ∃ (i nq : Nat), i + q = n ∧ s5 = .int .i64 (i : Int) ∧ wx = W0.drewN nq ∧ Hid (∀ j, j < i → es[j]? = fs[j]?))
        case atStart => exact ⟨0, 0, by omega, rfl, rfl, Lib.hid (fun j hj => by omega)⟩
        case round =>
          obtain ⟨i, nq, hiq, rfl, rfl, HQ⟩ := hrel
          rcases gk with _ | q
          · obtain rfl : i = n := by omega
            have HR := Lib.hid (show decide (es = fs) = true from decide_eq_true (List.ext_getElem? (fun j => by
              rcases Nat.lt_or_ge j i with h | h
              · exact HQ.out j h
              · rw [List.getElem?_eq_none (by have := HM.out; omega), List.getElem?_eq_none (by have := HN.out; omega)])))
            clear HQ
            go_wp2_with fail
            go_ret
            exact ⟨by rw [HE.out, HR.out]; rfl, below_drewM B0.out _⟩
          · obtain ⟨x, hx⟩ : ∃ x, es[i]? = some x := ⟨_, List.getElem?_eq_getElem (by have := HM.out; omega)⟩
            obtain ⟨y, hy⟩ : ∃ y, fs[i]? = some y := ⟨_, List.getElem?_eq_getElem (by have := HN.out; omega)⟩
            have HX := Lib.hid hx
            have HY := Lib.hid hy
            obtain ⟨b, off, c', hv, k1, k2, k3⟩ := HA.out.at hx
            injection hv with e1 e2 e3
            subst e1
            subst e3
            obtain ⟨b', off', c'', hv, k4, k5, k6⟩ := HB.out.at hy
            injection hv with e4 e5 e6
            subst e4
            subst e6
            obtain ⟨x1, x2, x3⟩ := x
            obtain ⟨y1, y2, y3⟩ := y
            dsimp only at k1 k2 k3 k4 k5 k6
            have hgd := fun (op : BinOp) (a b : Operand) (w : World) => neqE.2 op a b (x1, x2, x3) (y1, y2, y3) w
            have heq := fun (w : World) => neqE.1 (x1, x2, x3) (y1, y2, y3) w
            simp only [encE] at hgd heq
            have j1 : (i : Int) < (n : Int) := by omega
            have j1' : i < n := by omega
            clear hx hy e2 e5
            cases hq : eqE (x1, x2, x3) (y1, y2, y3) with
            | true =>
              rw [hq] at heq
              have HQ2 := Lib.hid (show ∀ j, j < i + 1 → es[j]? = fs[j]? from fun j hj => by
                rcases Nat.lt_or_ge j i with h | h
                · exact HQ.out j h
                · obtain rfl : j = i := by omega
                  rw [HX.out, HY.out, eqE_iff.1 hq])
              clear hq HQ HX HY
              go_upto_region 6 with fail
              go_quiet (fail)
              go_wp2_with fail
              go_roundg q
              case measure => omega
              case rel => exact ⟨i + 1, _, by omega, by go_num, rfl, HQ2⟩
            | false =>
              rw [hq] at heq
              have HR := Lib.hid (show decide (es = fs) = false from decide_eq_false (fun h => by
                have h1 := HX.out
                rw [h, HY.out] at h1
                injection h1 with h1
                rw [eqE_iff.2 h1.symm] at hq
                cases hq))
              clear hq HQ HX HY
              go_upto_region 6 with fail
              go_quiet (fail)
              go_wp2_with fail
              go_ret
              exact ⟨by rw [HE.out, HR.out]; rfl, below_drewM (below_drewM B0.out _) _⟩
      · have HE := Lib.hid (show sameG L S es L S fs = false from decide_eq_false (fun h => hl (by rw [h.2.2])))
        have d3 : ((es.length : Int) != (fs.length : Int)) = true := by simp; omega
        have d4 : (es.length != fs.length) = true := by simp; omega
        clear hl
        go_enter Tryd.func10, Tryd.ntmps10
        go_wp2_with fail
        go_ret
        exact ⟨by rw [HE.out]; rfl, B0.out⟩
    · have d2 : (S != S') = true := by simpa using hS
      have HE := Lib.hid (show sameG L S es L S' fs = false from decide_eq_false (fun h => hS h.2.1))
      clear hS
      go_enter Tryd.func10, Tryd.ntmps10
      go_wp2_with fail
      go_ret
      exact ⟨by rw [HE.out]; rfl, B0.out⟩
  · have d1 : (L != L') = true := by simpa using hL
    have HE := Lib.hid (show sameG L S es L' S' fs = false from decide_eq_false (fun h => hL h.1))
    clear hL
    go_enter Tryd.func10, Tryd.ntmps10
    go_wp2_with fail
    go_ret
    exact ⟨by rw [HE.out]; rfl, B0.out⟩
end Go.Proofs.YthhbbiafffpknaaDoor

namespace Go.Proofs.YthhbbiafffpknaaDoor
open Go.ChangeShapes Go.WideShapes Go.ChangeAt Go.RowKit

theorem ownNone : ownKnob Tryd.prog.godebug = none := by kernel_rfl
end Go.Proofs.YthhbbiafffpknaaDoor

namespace Go.Proofs.YthhbbiafffpknaaDoor
open Go.ChangeShapes Go.WideShapes Go.ChangeAt Go.RowKit Go.Deep
set_option maxRecDepth 100000

section
variable {H : Type} {enc : TypeId × Value → H} {P : Program} {w : World} {base : Nat} {spare : Nat → Bool} {held : Bool}
/-- A slice whose elements are structs of three cells, opened at every index. -/
theorem open_slice_triples {t e : TypeId} {f0 f1 f2 : Field} {fuel : Nat} {cs : List Value} {x : DataW H × List MemPlace} (ht : P.underlying t = some (.slice e)) (he : P.underlying e = some (.struct #[f0, f1, f2]))
    (ce : P.cellsOf e = 3) (o0 : f0.offset = 0) (o1 : f1.offset = 1) (o2 : f2.offset = 2) (c0 : P.cellsOf f0.type = 1) (c1 : P.cellsOf f1.type = 1) (c2 : P.cellsOf f2.type = 1)
    (h : DataW.trod enc P w base spare held fuel t cs = some x) :
    (cs = [.slice none 0 0]) ∨
    ∃ (a : Addr) (len cap m n : Nat) (V0 V1 V2 : Nat → Value) (D0 D1 D2 : Nat → DataW H × List MemPlace), cs = [.slice (some a) len cap] ∧ len ≤ cap ∧ cap ≤ maxLen ∧ m = (if spare a.block then cap else len) ∧
      ∀ i, i < m → w.cell? (a.add (i * 3)) = some (V0 i) ∧ w.cell? (a.add (i * 3 + 1)) = some (V1 i) ∧ w.cell? (a.add (i * 3 + 2)) = some (V2 i) ∧
        DataW.trod enc P w base spare held n f0.type [V0 i] = some (D0 i) ∧ DataW.trod enc P w base spare held n f1.type [V1 i] = some (D1 i) ∧ DataW.trod enc P w base spare held n f2.type [V2 i] = some (D2 i) := by
  rcases open_slice ht h with h0 | ⟨a, len, cap, m, n, D, Pl, rfl, hb, hl, hm, hmm, rfl, hx⟩
  · exact Or.inl h0.1
  right
  have each : ∀ i, i < m → ∃ q : Value × Value × Value × (DataW H × List MemPlace) × (DataW H × List MemPlace) × (DataW H × List MemPlace), w.cell? (a.add (i * 3)) = some q.1 ∧ w.cell? (a.add (i * 3 + 1)) = some q.2.1 ∧ w.cell? (a.add (i * 3 + 2)) = some q.2.2.1 ∧
      DataW.trod enc P w base spare held (n - 1) f0.type [q.1] = some q.2.2.2.1 ∧ DataW.trod enc P w base spare held (n - 1) f1.type [q.2.1] = some q.2.2.2.2.1 ∧ DataW.trod enc P w base spare held (n - 1) f2.type [q.2.2.1] = some q.2.2.2.2.2 := by
    intro i hi
    obtain ⟨cs', h1, h2⟩ := hx i hi
    rw [ce] at h1
    obtain ⟨_, hlen, hcell⟩ := World.cells?_some h1
    obtain ⟨xs, k, hk, hxy, _, hxl, hf⟩ := DataW.trod_struct he h2
    have hk' : k = n - 1 := by omega
    subst hk'
    match xs, hxl, cs', hlen with
    | [y0, y1, y2], _, [v0, v1, v2], _ =>
      have g0 := hf 0 f0 rfl
      have g1 := hf 1 f1 rfl
      have g2 := hf 2 f2 rfl
      simp [o0, o1, o2, c0, c1, c2] at g0 g1 g2
      have e0 := hcell 0 (by omega)
      have e1 := hcell 1 (by omega)
      have e2 := hcell 2 (by omega)
      rw [add_add] at e0 e1 e2
      exact ⟨(v0, v1, v2, y0, y1, y2), by simpa using e0, by simpa using e1, by simpa using e2, g0, g1, g2⟩
  obtain ⟨q, hq⟩ := choose_lt each
  exact ⟨a, len, cap, m, n - 1, fun i => (q i).1, fun i => (q i).2.1, fun i => (q i).2.2.1, fun i => (q i).2.2.2.1, fun i => (q i).2.2.2.2.1, fun i => (q i).2.2.2.2.2, rfl, hl, hm, hmm, hq⟩
end
def intOf : Value → Int
  | .int _ z => z
  | _ => 0
theorem Tryd.laidOut : laidOutB Tryd.prog = true := by kernel_rfl
theorem cellI : Tryd.prog.cellsOf 3 = 1 := by kernel_rfl
theorem cellEdge : Tryd.prog.cellsOf 57 = 3 := by kernel_rfl
theorem cellGraph : Tryd.prog.cellsOf 24 = 3 := by kernel_rfl
theorem int_bounds {H : Type} {enc : TypeId × Value → H} {W : World} {n : Nat} {u : Value} {y : DataW H × List MemPlace} (h : DataW.trod enc Tryd.prog W 0 (fun _ => true) true n 3 [u] = some y) : u = .int .i64 (intOf u) ∧ -9223372036854775808 ≤ intOf u ∧ intOf u ≤ 9223372036854775807 := by
  obtain ⟨x, e0, -, w0⟩ := DataW.trod_int Tryd.underlying3 h
  simp at e0
  have b0 : (IntKind.min .i64) ≤ x ∧ x ≤ (IntKind.max .i64) := by simpa [Lit.wf] using w0
  simp [IntKind.min, IntKind.max, IntKind.signed, IntKind.bits] at b0
  rw [e0]
  exact ⟨rfl, b0.1, b0.2⟩
theorem graph_open {H : Type} {enc : TypeId × Value → H} {W : World} {v : Value} {d : DataW H} {p : List MemPlace} (hv : Value.okWide Tryd.prog W .any 0 24 v)
    (h : DataW.Trod enc Tryd.prog W 0 (fun _ => true) true 24 v d p) : ∃ L S u es, v = grV L S u ∧ EdgesRd W u es ∧ es.length ≤ 9223372036854775807 := by
  obtain ⟨u0, u1, u2, y0, y1, y2, n, rfl, -, -, h0, h1, h2⟩ := Joins.open_agg3 Tryd.underlying24 (by kernel_rfl) cellGraph hv h
  have hg : Value.agg #[u0, u1, u2] = grV (intOf u0) (intOf u1) u2 := by
    show _ = Value.agg #[.int .i64 (intOf u0), .int .i64 (intOf u1), u2]
    rw [← (int_bounds h0).1, ← (int_bounds h1).1]
  refine ⟨intOf u0, intOf u1, u2, ?_⟩
  rcases open_slice_triples Tryd.underlying22 Tryd.underlying57 cellEdge rfl rfl rfl cellI cellI cellI h2 with hc | ⟨a, len, cap, m, k, V0, V1, V2, D0, D1, D2, hc, hl, hm, hmm, hall⟩
  · injection hc with hc
    subst hc
    exact ⟨[], hg, ⟨none, 0, rfl, fun i p hp => by cases hp⟩, Nat.zero_le _⟩
  · injection hc with hc
    subst hc
    simp only [if_true] at hmm
    have hcap : cap ≤ 9223372036854775807 := by unfold maxLen at hm; exact hm
    have hlen : ((List.range len).map fun i => ((intOf (V0 i), intOf (V1 i), intOf (V2 i)) : E3)).length = len := by rw [List.length_map, List.length_range]
    refine ⟨(List.range len).map fun i => ((intOf (V0 i), intOf (V1 i), intOf (V2 i)) : E3), hg, ⟨some a, cap, by rw [hlen], fun i e he => ?_⟩, by rw [hlen]; omega⟩
    have hi : i < len := by
      have := (List.getElem?_eq_some_iff.1 he).1
      rwa [hlen] at this
    rw [List.getElem?_map, List.getElem?_range hi] at he
    injection he with he
    subst he
    have hsp := World.cell?_spot (hall 0 (by omega)).1
    obtain ⟨ab, ao, sp⟩ := a
    obtain rfl : sp = none := by simpa [Addr.add] using hsp
    obtain ⟨k0, k1, k2, t0, t1, t2⟩ := hall i (by omega)
    rw [add_plain, (int_bounds t0).1] at k0
    rw [add_plain, (int_bounds t1).1] at k1
    rw [add_plain, (int_bounds t2).1] at k2
    exact ⟨ab, ao, rfl, k0, k1, k2⟩
theorem graph_keep {H : Type} {enc : TypeId × Value → H} {W W' : World} {v : Value} {d : DataW H} {p : List MemPlace} (h : DataW.Trod enc Tryd.prog W 0 (fun _ => true) true 24 v d p) (hb : Below W.heap.size W W') (hlt : ∀ x ∈ p, x.block < W.heap.size) :
    DataW.Trod enc Tryd.prog W' 0 (fun b => decide (b < W.heap.size)) true 24 v d p :=
  Below.trod Tryd.laidOut (by kernel_rfl) (of_decide_eq_true (by kernel_rfl)) h hb hlt
end Go.Proofs.YthhbbiafffpknaaDoor
