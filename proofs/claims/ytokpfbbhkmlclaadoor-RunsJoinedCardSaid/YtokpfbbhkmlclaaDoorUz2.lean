/- Lists of runs among a law's arguments, opened. No condition. -/
import Derived.Test.YtokpfbbhkmlclaaDoorWcd
import Derived.Test.YtokpfbbhkmlclaaDoorUx6
import Derived.Deep.SlicePairs
import Derived.Carry
namespace Go.Proofs.YtokpfbbhkmlclaaDoor
open Go.ChangeShapes Go.WideShapes Go.ChangeAt Go.RowKit Go.Deep
set_option maxRecDepth 100000

theorem Tryd.laidOut : laidOutB Tryd.prog = true := by kernel_rfl
def intOf : Value → Int
  | .int _ z => z
  | _ => 0
theorem cellI : Tryd.prog.cellsOf 3 = 1 := by kernel_rfl
theorem cellRun : Tryd.prog.cellsOf 45 = 2 := by kernel_rfl
theorem runs_open {H : Type} {enc : TypeId × Value → H} {W : World} {v : Value} {d : DataW H} {p : List MemPlace} (hv : Value.okWide Tryd.prog W .any 0 22 v)
    (h : DataW.Trod enc Tryd.prog W 0 (fun _ => true) true 22 v d p) : ∃ rs, ArgR W v rs := by
  obtain ⟨a0, len0, cap0, rfl⟩ := okWide_slice Tryd.underlying22 hv
  obtain ⟨fuel, hf⟩ := h
  rcases open_slice_pairs Tryd.underlying22 Tryd.underlying45 cellRun rfl rfl cellI cellI hf with ⟨hc, -⟩ | ⟨a, len, cap, m, k, V0, V1, D0, D1, P0, P1, hc, -, hl, hm, hmm, -, hall⟩
  · simp [Value.cells] at hc
    obtain ⟨rfl, rfl, rfl⟩ := hc
    exact ⟨[], ⟨none, 0, rfl, fun i p hp => by cases hp⟩, Nat.zero_le _, fun p hp => by cases hp⟩
  · simp [Value.cells] at hc
    obtain ⟨rfl, rfl, rfl⟩ := hc
    simp only [if_true] at hmm
    have hcap : cap0 ≤ 9223372036854775807 := by unfold maxLen at hm; exact hm
    have hb : ∀ i, i < len0 → V0 i = .int .i64 (intOf (V0 i)) ∧ V1 i = .int .i64 (intOf (V1 i)) ∧ -9223372036854775808 ≤ intOf (V0 i) ∧ intOf (V0 i) ≤ 9223372036854775807 ∧ -9223372036854775808 ≤ intOf (V1 i) ∧ intOf (V1 i) ≤ 9223372036854775807 := fun i hi => by
      obtain ⟨-, -, h0, h1⟩ := hall i (by omega)
      obtain ⟨x, e0, -, w0⟩ := DataW.trod_int Tryd.underlying3 h0
      obtain ⟨y, e1, -, w1⟩ := DataW.trod_int Tryd.underlying3 h1
      simp at e0 e1
      have b0 : (IntKind.min .i64) ≤ x ∧ x ≤ (IntKind.max .i64) := by simpa [Lit.wf] using w0
      have b1 : (IntKind.min .i64) ≤ y ∧ y ≤ (IntKind.max .i64) := by simpa [Lit.wf] using w1
      simp [IntKind.min, IntKind.max, IntKind.signed, IntKind.bits] at b0 b1
      rw [e0, e1]
      exact ⟨rfl, rfl, b0.1, b0.2, b1.1, b1.2⟩
    have hlen : ((List.range len0).map fun i => (intOf (V0 i), intOf (V1 i))).length = len0 := by rw [List.length_map, List.length_range]
    refine ⟨(List.range len0).map fun i => (intOf (V0 i), intOf (V1 i)), ⟨some a, cap0, by rw [hlen], fun i p hp => ?_⟩, by rw [hlen]; omega, fun p hp => ?_⟩
    · have hi : i < len0 := by
        have := (List.getElem?_eq_some_iff.1 hp).1
        rwa [hlen] at this
      rw [List.getElem?_map, List.getElem?_range hi] at hp
      injection hp with hp
      subst hp
      have hsp := World.cell?_spot (hall 0 (by omega)).1
      obtain ⟨ab, ao, sp⟩ := a
      obtain rfl : sp = none := by simpa [Addr.add] using hsp
      refine ⟨ab, ao, rfl, ?_, ?_⟩
      · have := (hall i (by omega)).1
        rw [add_plain, (hb i hi).1] at this
        exact this
      · have := (hall i (by omega)).2.1
        rw [add_plain, (hb i hi).2.1] at this
        exact this
    · obtain ⟨i, hi, rfl⟩ := List.mem_map.1 hp
      rw [List.mem_range] at hi
      exact (hb i hi).2.2
theorem runs_keep {H : Type} {enc : TypeId × Value → H} {W W' : World} {v : Value} {d : DataW H} {p : List MemPlace} (h : DataW.Trod enc Tryd.prog W 0 (fun _ => true) true 22 v d p) (hb : Below W.heap.size W W') (hlt : ∀ x ∈ p, x.block < W.heap.size) :
    DataW.Trod enc Tryd.prog W' 0 (fun b => decide (b < W.heap.size)) true 22 v d p :=
  Below.trod Tryd.laidOut (by kernel_rfl) (of_decide_eq_true (by kernel_rfl)) h hb hlt
theorem noStandRs : Tryd.prog.wantsStandIn 22 = false := by kernel_rfl
end Go.Proofs.YtokpfbbhkmlclaaDoor
