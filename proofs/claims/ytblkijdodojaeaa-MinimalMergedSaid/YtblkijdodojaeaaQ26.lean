/- groovelaw13.all. No condition but that there are at most 64 states. Lists of bytes among a law's arguments, opened. No condition. -/
import Derived.Test.YtblkijdodojaeaaQ25
import Derived.Test.YtblkijdodojaeaaQ24
import Derived.Test.YtblkijdodojaeaaQ03
import Derived.ChangeSlices

namespace Go.Proofs.Ytblkijdodojaeaa
open Go.RowKit
set_option linter.unusedSimpArgs false
set_option linter.unusedVariables false

theorem range_snocI (i : Nat) : labsI (List.range (i + 1)) = labsI (List.range i) ++ [(i : Int)] := by unfold labsI; rw [List.range_succ, List.map_append]; rfl
set_option maxRecDepth 100000 in
set_option maxHeartbeats 3200000 in
theorem all13_any (L : Int) (n : Nat) (v : Value) (w : World) (hn : n ≤ 64) :
    Calls Try.prog 19 #[grV L (n : Int) v] w fun e w' => ∃ u, e = .returned u ∧ IntsAt w' w.heap.size u (labsI (List.range n)) ∧ Below w.heap.size w w' := by
  obtain ⟨i0, hi, hz0, hz1, hz2⟩ := info_parts Try.infoI64
  have B0 := Lib.hid (below1 w (.cells #[.int .i64 L, .int .i64 (n : Int), v] 24))
  have G0 := Lib.hid (BoxG.new w L (n : Int) v 24)
  obtain ⟨x1, x2, x3⟩ := id G0.out
  go_enter Try.func19, Try.ntmps19
  go_wp2_with fail
  clear x1 x2 x3
  generalize (w.alloc (.cells #[.int .i64 L, .int .i64 (n : Int), v] 24)) = X at *
  go_loopg [3, 7] n (fun q s3 s7 wx => ∃ i : Nat, i + q = n ∧ s7 = .int .i64 (i : Int) ∧ IntsAt wx w.heap.size s3 (labsI (List.range i)) ∧ Below w.heap.size w wx)
  case atStart => exact ⟨0, by omega, rfl, ints_nil _ _, B0.out⟩
  case round =>
    obtain ⟨i, hin, rfl, hown, hb⟩ := hrel
    obtain ⟨a3, c3, rfl⟩ := hown.slice
    rcases gk with _ | q
    · obtain rfl : i = n := by omega
      have HI := Lib.hid hown
      clear hown
      have j0 : ¬ ((i : Int) < (i : Int)) := by omega
      have hm : (labsI (List.range i)).length = i := by rw [labsI_lenH, List.length_range]
      obtain ⟨m, hm2⟩ : ∃ m, (labsI (List.range i)).length = m := ⟨_, rfl⟩
      rw [hm2] at HI ⊢
      clear hm hm2
      go_wp2_with fail
      go_ret
      exact ⟨_, rfl, HI.out, hb⟩
    · have HS := Lib.hid (range_snocI i)
      have hml : (labsI (List.range i)).length ≤ 64 := by rw [labsI_lenH, List.length_range]; omega
      have j1 : (i : Int) < (n : Int) := by omega
      have hlt := hown.lt
      have hown0 := hown
      unfold IntsAt at hown0
      obtain ⟨m, hm⟩ : ∃ m, (labsI (List.range i)).length = m := ⟨_, rfl⟩
      rw [hm] at hown0 hml hlt ⊢
      have HM := Lib.hid hm
      clear hown hm
      go_wp2_with (first | (at_builtin; refine wpList_append_own_at _ rfl _ _ 27 rfl w.heap.size 3 i0 (.int .i64 0) 1 8 Try.underlying27 hi hz0 hz1 hz2 rfl (by decide) _ _ _ rfl (hown0.alloc _) ⟨wr.heap.size, 0, none⟩ 1 1 [.int .i64 (i : Int)] rfl rfl ?c1 ?c2 ?c3 ?c4 ?c5 ?_))
      case c1 => exact World.news_of_block (cs := #[.int .i64 (i : Int)]) (t := 3) (fr := (0, 0)) (heap_alloc_new wr _)
      case c2 => intro u hu; simp at hu; subst hu; rfl
      case c3 => unfold maxLen; omega
      case c4 => omega
      case c5 => rw [World.size_alloc]; have := hb.size; omega
      intro v' W2 hown2 hgrow _ hv'
      have hb2 : Below w.heap.size w W2 := (hb.alloc hb.size _).grown hgrow (by rw [World.size_alloc]; have := hb.size; omega) (fun k hk => (hlt k hk).1)
      rw [← intz_snoc, ← HS.out] at hown2
      have HI2 := Lib.hid (show IntsAt W2 w.heap.size v' (labsI (List.range (i + 1))) by unfold IntsAt; rw [HS.out, List.length_append, HM.out]; rw [HS.out] at hown2; exact hown2)
      obtain ⟨a', c', rfl⟩ := own_slice hown2
      clear hown0 hown2 hgrow hlt hv' hb
      go_wp2_with fail
      go_roundg q
      case measure => omega
      case rel => exact ⟨i + 1, by omega, by go_num, HI2.out, hb2⟩
end Go.Proofs.Ytblkijdodojaeaa

namespace Go.Proofs.Ytblkijdodojaeaa
open Go.ChangeShapes Go.WideShapes Go.ChangeAt Go.RowKit Go.Deep
set_option maxRecDepth 100000
set_option linter.unusedVariables false

/-- A list of bytes that can be read. -/
def BysRd (W : World) (v : Value) (l : List Nat) : Prop := ∃ a c, v = .slice a l.length c ∧ l.length ≤ c ∧ c ≤ 9223372036854775807 ∧ (∀ x ∈ l, x < 256) ∧ ∀ (i : Nat) (x : Nat), l[i]? = some x → ∃ b off, a = some ⟨b, off, none⟩ ∧ W.cell? ⟨b, off + i, none⟩ = some (.int .u8 (x : Int))
theorem BysRd.keep {W W' : World} {v : Value} {l : List Nat} (h : BysRd W v l) (hb : Below W.heap.size W W') : BysRd W' v l := by
  obtain ⟨a, c, hv, h1, h2, h3, h4⟩ := h
  refine ⟨a, c, hv, h1, h2, h3, fun i x hx => ?_⟩
  obtain ⟨b, off, e, k⟩ := h4 i x hx
  exact ⟨b, off, e, cell_keep k hb⟩
theorem cellU8s : Try.prog.cellsOf 5 = 1 := by kernel_rfl
theorem bytes_open {H : Type} {enc : TypeId × Value → H} {W : World} {v : Value} {d : DataW H} {p : List MemPlace} (hv : Value.okWide Try.prog W .any 0 41 v)
    (h : DataW.Trod enc Try.prog W 0 (fun _ => true) true 41 v d p) : ∃ l, BysRd W v l := by
  obtain ⟨a0, len0, cap0, rfl⟩ := okWide_slice Try.underlying41 hv
  obtain ⟨fuel, hf⟩ := h
  rcases Go.ChangeShapes.open_ints Try.underlying41 Try.underlying5 cellU8s hf with ⟨hc, -⟩ | ⟨a, len, cap, zs, hc, -, hl, hm, hz, -, hall, hwf⟩
  · simp [Value.cells] at hc
    obtain ⟨rfl, rfl, rfl⟩ := hc
    exact ⟨[], none, 0, rfl, Nat.le_refl _, by omega, (fun x hx => by cases hx), (fun i x hx => by cases hx)⟩
  · simp [Value.cells] at hc
    obtain ⟨rfl, rfl, rfl⟩ := hc
    simp only [if_true] at hz
    have hcap : cap0 ≤ 9223372036854775807 := by unfold maxLen at hm; exact hm
    have hlt : ((zs.take len0).map Int.toNat).length = len0 := by rw [List.length_map, List.length_take]; omega
    have hbd : ∀ n ∈ zs, 0 ≤ n ∧ n < 256 := fun n hn => by
      have := hwf n hn
      simp [Lit.wf, IntKind.min, IntKind.max, IntKind.signed, IntKind.bits] at this
      omega
    refine ⟨(zs.take len0).map Int.toNat, some a, cap0, by rw [hlt], by rw [hlt]; omega, hcap, fun x hx => ?_, fun i x hx => ?_⟩
    · obtain ⟨n, hn, rfl⟩ := List.mem_map.1 hx
      have := hbd n (List.mem_of_mem_take hn)
      omega
    have hi : i < len0 := by
      have := (List.getElem?_eq_some_iff.1 hx).1
      rwa [hlt] at this
    rw [List.getElem?_map, List.getElem?_take_of_lt hi] at hx
    have hsp := World.cell?_spot (hall 0 (by omega))
    obtain ⟨ab, ao, sp⟩ := a
    obtain rfl : sp = none := by simpa [Addr.add] using hsp
    have h1 := hall i (by omega)
    rw [add_plain] at h1
    refine ⟨ab, ao, rfl, ?_⟩
    have hg : zs[i]? = some zs[i] := List.getElem?_eq_getElem (by omega)
    rw [hg] at hx
    injection hx with hx
    have hb2 := hbd zs[i] (List.getElem_mem _)
    rw [h1, List.getD_eq_getElem?_getD, hg, ← hx]
    show some (Value.int .u8 zs[i]) = some (.int .u8 (zs[i].toNat : Int))
    rw [Int.toNat_of_nonneg hb2.1]
theorem bytes_keep {H : Type} {enc : TypeId × Value → H} {W W' : World} {v : Value} {d : DataW H} {p : List MemPlace} (h : DataW.Trod enc Try.prog W 0 (fun _ => true) true 41 v d p) (hb : Below W.heap.size W W') (hlt : ∀ x ∈ p, x.block < W.heap.size) :
    DataW.Trod enc Try.prog W' 0 (fun b => decide (b < W.heap.size)) true 41 v d p :=
  Below.trod Try.laidOut (by kernel_rfl) (of_decide_eq_true (by kernel_rfl)) h hb hlt
end Go.Proofs.Ytblkijdodojaeaa
