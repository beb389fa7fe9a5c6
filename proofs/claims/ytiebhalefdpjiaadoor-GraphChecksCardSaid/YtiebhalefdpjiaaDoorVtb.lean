/- What slices.AppendSeq, Collect and SortedFunc return for the edges of a list: the edges sorted. Condition: at most 100000 edges. -/
import Derived.Test.YtiebhalefdpjiaaDoorVta
import Derived.Test.YtiebhalefdpjiaaDoorVsc
import Derived.Test.YtiebhalefdpjiaaDoorVbe
import Derived.Test.YtiebhalefdpjiaaDoorGen
import Derived.RangeFuncBox
namespace Go.Proofs.YtiebhalefdpjiaaDoor
open Go.RowKit Go.Shelf
attribute [local go_sem] Oper.semAt_some
set_option linter.unusedSimpArgs false
set_option linter.unusedVariables false

theorem KtV.turn {n₀ B : Nat} {w : World} (hn : n₀ ≤ w.heap.size) (hB : B < w.heap.size) (W : World) (l : Nat) (o o' : Obj) (hl : w.heap.size ≤ l) (h : W.heap[l]? = some o) (h1 : o.isCells = false) (h2 : o.isWalk = false) : KtV n₀ B W (W.putObj l o') :=
  ⟨⟨rfl, rfl, rfl, by simp, fun k hk => World.putObj_heap_other (by omega)⟩, World.putObj_heap_other (by omega)⟩
/-- Edges of one's own, as the result. -/
def NewEdges (w : World) (es : List E3) (e : Ending) (w' : World) : Prop := ∃ v, e = .returned v ∧ EdgesAt w' w.heap.size v es ∧ Below w.heap.size w w'
set_option maxRecDepth 100000 in
set_option maxHeartbeats 3200000 in
theorem appendSeq_any (B : Nat) (v : Value) (es : List E3) (w : World) (hrd : EdgesRd w v es) (hlen : es.length ≤ 100000) (hB : w.cell? ⟨B, 0, none⟩ = some v) :
    Calls Tryd.prog 91 #[.slice none 0 0, .func (.func 82) #[] #[.pointer (some ⟨B, 0, none⟩)]] w (NewEdges w es) := by
  obtain ⟨i0, hi, hz0, hz1, hz2⟩ := info_parts Tryd.infoEdge
  have hBl := World.block_lt_of_cell? _ _ hB
  dsimp only at hBl
  have HRD := Lib.hid hrd
  have B1 := below1 w (.cells #[.slice none 0 0] 22)
  have X1 := Boxed.new w 22 (.slice none 0 0)
  have C1 := cell_keep hB B1
  have hZ := World.size_alloc w (.cells #[.slice none 0 0] 22)
  clear hrd
  refine (callsIn_wide (n := 8)).1 ?_
  refine callsIn_of_wp_marks Tryd.func91 rfl trivial ?_ rfl
  simp only [Tryd.ntmps91, List.size_toArray, List.length_cons, List.length_nil, Nat.reduceAdd, Nat.reduceSub, Array.replicate_succ, Array.replicate_zero, List.push_toArray, List.append_toArray, List.nil_append, List.cons_append]
  have HB1 := Lib.hid B1
  have HX1 := Lib.hid X1
  have HC1 := Lib.hid C1
  have HZ := Lib.hid hZ
  clear B1 X1 C1 hZ
  gi_wp2
  obtain ⟨W1, hW1⟩ : ∃ W1, w.alloc (.cells #[.slice none 0 0] 22) = W1 := ⟨_, rfl⟩
  rw [hW1] at HB1 HX1 HC1 HZ ⊢
  clear hW1
  have hz := HZ.out
  refine wpIn_rangeFunc_ownH rfl (by omega) (gf := 82) (lb := #[.pointer (some ⟨B, 0, none⟩)]) rfl trivial (enters_of Tryd.func82 (by kernel_rfl) rfl)
    (values_stops _ B w W1 v es (by omega) HRD.out HB1.out (by omega) HC1.out (by omega)) (fun h h' => h.trans h') (KtV.turn (by omega) (by omega)) (Below.refl _ _) (fun _ => rfl)
    (fun pre X => (∃ u, Boxed X w.heap.size 22 u ∧ X.ownsRow w.heap.size 43 3 u pre.length (ecl pre) ∧ True) ∧ Below w.heap.size w X ∧ w.heap.size + 1 ≤ X.heap.size)
    (fun _ _ _ => False)
    (fun pre X Y row hs hg hr => ⟨holdsRow_own w.heap.size w.heap.size 22 43 3 (fun pre : List E3 => pre.length) ecl (fun _ _ => True) pre X Y row hs.1 hg (fun r e => (hr r e).2), hs.2.1.grown hg hs.2.1.size (fun r e => by have := (hr r e).1; omega), Nat.le_trans hs.2.2 hg.size⟩)
    (fun _ _ _ _ _ hs _ _ => hs)
    ⟨⟨_, HX1.out, World.ownsRow_nil _ _ _ _, trivial⟩, HB1.out, by omega⟩
    (fun x a' X => ∃ Bx, Box3 X Bx x ∧ a' = { tmps := #[.slice none 0 0, .func (.func 82) #[] #[.pointer (some ⟨B, 0, none⟩)], .pointer (some ⟨w.heap.size, 0, none⟩), undef, .slice none 0 0, .pointer (some ⟨Bx, 0, none⟩), .func (.func 82) #[] #[.pointer (some ⟨B, 0, none⟩)], edgV x, undef, undef, undef, undef, undef], defers := [] })
    (fun x a' _ X Y row hs hg hr => by
      obtain ⟨Bx, h2, h3⟩ := hs
      exact ⟨Bx, h2.own hg (fun r e => (hr r e).2), h3⟩)
    ?assign ?body ?done ?stop
  case assign =>
    rintro l pre x X K ⟨⟨u, i1, i2, -⟩, i3, i4⟩ hK'
    have HKK := Lib.hid hK'
    have I1 := Lib.hid i1
    have I2 := Lib.hid i2
    obtain ⟨e1, e2, e3⟩ := x
    clear hK' i1 i2
    gi_wp2
    have b1 := below1 X (.cells #[.int .i64 e1, .int .i64 e2, .int .i64 e3] 43)
    exact HKK.out _ _ ((KeepsOthers.alloc _ _).from _) (KtV.of_below b1 (by omega) (by omega)) ⟨⟨u, I1.out.alloc _, World.ownsRow.kept I2.out (grown_none b1) (by cases u.ownBlock <;> simp), trivial⟩, below_more i3 (Nat.le_refl _) b1, by have := b1.size; omega⟩ ⟨X.heap.size, Box3.new X e1 e2 e3 _, rfl⟩
  case body =>
    rintro l pre x a' X hl ⟨r, hr⟩ ⟨⟨u, i1, i2, -⟩, i3, i4⟩ ⟨Bx, bX, rfl⟩ hlt
    obtain ⟨x1, x2, x3, -⟩ := id bX
    have x4 := i1.cell
    have x5 := i1.frozen
    have I1 := Lib.hid i1
    have I2 := Lib.hid i2
    have I3 := Lib.hid i3
    obtain ⟨e1, e2, e3⟩ := x
    dsimp only at x1 x2 x3
    have hown0 := i2
    clear i1 i2 i3 bX hr
    gi_wp2_with (gi_at_builtin; refine wpListIn_append_own _ rfl _ _ 22 rfl w.heap.size 43 i0 (.agg #[.int .i64 0, .int .i64 0, .int .i64 0]) 3 24 Tryd.underlying22 hi hz0 hz1 hz2 rfl (by decide) _ _ _ rfl (hown0.alloc _) ⟨X.heap.size, 0, none⟩ 1 1 [.int .i64 e1, .int .i64 e2, .int .i64 e3] rfl rfl (cell_three_new _ _ _ _ _) (by simp [Value.oneCell']) (by unfold maxLen; omega) (by omega) (by rw [World.size_alloc]; omega) ?_; intro v' w4 hown4 hgrow4 _; (obtain ⟨g', cap', rfl, -, -⟩ := hown4.form (Nat.succ_pos _)); (obtain ⟨hb1, hb2, hb3, hb4, hb5⟩ := I1.out.appended (by decide) I2.out (by omega) (Nat.le_refl _) hown4 hgrow4); (have y1 := hb1.cell); (have y2 := hb1.frozen))
    refine ⟨hb4.from _, ⟨hb5, hb5.block _ (by omega)⟩, ⟨_, hb2, ?_, trivial⟩, I3.out.trans hb5, ?_⟩
    · rw [List.length_append, List.length_singleton, ecl_snoc]
      exact hb3
    · have := hb4.size
      omega
  case done =>
    rintro D xs X hD rfl ⟨⟨u, i1, i2, -⟩, i3, i4⟩ hDX
    have x4 := i1.cell
    have I2 := Lib.hid i2
    have I3 := Lib.hid i3
    have IX := Lib.hid hDX
    obtain ⟨a9, c9, rfl⟩ := own_slice i2
    clear i1 i2 i3 hDX
    gi_wp2
    refine ⟨by simp, .inl ⟨_, _, rfl, run_takeDeferred IX.out, ?_⟩⟩
    exact ⟨_, by simp [results, Tryd.results91, go_sem], _, rfl, ownsRow_putObj I2.out _ IX.out rfl, below_put9 I3.out D (by omega) _⟩
  case stop =>
    rintro D cc pre X _ _ h _
    exact h.elim
end Go.Proofs.YtiebhalefdpjiaaDoor
