/- Graphs among a law's arguments, opened, with the slice's capacity. No condition. -/
import Derived.Test.YtiebhalefdpjiaaDoorVop
namespace Go.Proofs.YtiebhalefdpjiaaDoor
open Go.ChangeShapes Go.WideShapes Go.ChangeAt Go.RowKit Go.Deep
set_option maxRecDepth 100000

theorem graph_open2 {H : Type} {enc : TypeId × Value → H} {W : World} {v : Value} {d : DataW H} {p : List MemPlace} (hv : Value.okWide Tryd.prog W .any 0 24 v)
    (h : DataW.Trod enc Tryd.prog W 0 (fun _ => true) true 24 v d p) : ∃ L S u es, v = grV L S u ∧ EdgesRd W u es ∧ es.length ≤ 9223372036854775807 ∧ ∃ a c, u = .slice a es.length c ∧ es.length ≤ c ∧ c ≤ 9223372036854775807 := by
  obtain ⟨u0, u1, u2, y0, y1, y2, n, rfl, -, -, h0, h1, h2⟩ := Joins.open_agg3 Tryd.underlying24 (by kernel_rfl) cellGraph hv h
  have hg : Value.agg #[u0, u1, u2] = grV (intOf u0) (intOf u1) u2 := by
    show _ = Value.agg #[.int .i64 (intOf u0), .int .i64 (intOf u1), u2]
    rw [← (int_bounds h0).1, ← (int_bounds h1).1]
  refine ⟨intOf u0, intOf u1, u2, ?_⟩
  rcases open_slice_triples Tryd.underlying22 Tryd.underlying43 cellEdge rfl rfl rfl cellI cellI cellI h2 with hc | ⟨a, len, cap, m, k, V0, V1, V2, D0, D1, D2, hc, hl, hm, hmm, hall⟩
  · injection hc with hc
    subst hc
    exact ⟨[], hg, ⟨none, 0, rfl, fun i p hp => by cases hp⟩, Nat.zero_le _, none, 0, rfl, Nat.le_refl _, Nat.zero_le _⟩
  · injection hc with hc
    subst hc
    simp only [if_true] at hmm
    have hcap : cap ≤ 9223372036854775807 := by unfold maxLen at hm; exact hm
    have hlen : ((List.range len).map fun i => ((intOf (V0 i), intOf (V1 i), intOf (V2 i)) : E3)).length = len := by rw [List.length_map, List.length_range]
    refine ⟨(List.range len).map fun i => ((intOf (V0 i), intOf (V1 i), intOf (V2 i)) : E3), hg, ⟨some a, cap, by rw [hlen], fun i e he => ?_⟩, by rw [hlen]; omega, some a, cap, by rw [hlen], by rw [hlen]; omega, hcap⟩
    have hi : i < len := by
      have := (List.getElem?_eq_some_iff.1 he).1
      rwa [hlen] at this
    rw [List.getElem?_map, List.getElem?_range hi] at he
    injection he with he
    subst he
    have hsp := World.cell?_spot (hall 0 (by omega)).1
    obtain ⟨ab, ao, sp⟩ := a
    obtain rfl : sp = none := by simpa [Addr.add] using hsp
    obtain ⟨k0, k1, k2, t0, t1, t2⟩ := hall i (by omega)
    rw [add_plain, (int_bounds t0).1] at k0
    rw [add_plain, (int_bounds t1).1] at k1
    rw [add_plain, (int_bounds t2).1] at k2
    exact ⟨ab, ao, rfl, k0, k1, k2⟩
end Go.Proofs.YtiebhalefdpjiaaDoor
