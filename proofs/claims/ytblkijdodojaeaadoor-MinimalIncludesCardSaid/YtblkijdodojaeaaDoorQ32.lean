/- DERIVED: THE SHELF's CONTRACTS AT THIS DUMP, IN PLAIN WORDS (tools/lay-plain.mjs out of 'TrydGenS.lean', which tools/lay-shelf.mjs wrote): THE SAME DECLARATIONS UNDER THE SAME NAMES: 'import', 'namespace', 'open', 'def', 'theorem' AND NOTHING ELSE: no command of the shelf's: FOR A HAND-IN. Each laying: the table of numbers ('.._ren') and one theorem, a field a fact of the dump's own or the kernel's comparison; each contract: ONE APPLICATION. What slices.AppendSeq, Collect and SortedFunc return for the edges of a list: the edges sorted. Condition: at most 100000 edges. What slices.Collect, SortFunc and SortedFunc return for the edges of a list: the edges sorted. Condition: at most 100000 edges. -/
import Derived.Shelf.SlSortCmp.NoneTotal
import Derived.Test.YtblkijdodojaeaaDoorProg
import Derived.Test.YtblkijdodojaeaaDoorQ31
import Derived.Test.YtblkijdodojaeaaDoorQ19
import Derived.RangeFuncBox

namespace Go.Proofs
open Go.Shelf
def Tryd.sortE_ren : Go.Shelf.Ren := ⟨fun | 6 => 134 | 15 => 139 | 14 => 138 | 28 => 148 | 29 => 149 | 20 => 140 | 21 => 141 | 22 => 142 | 23 => 143 | 24 => 144 | 25 => 145 | 26 => 146 | 27 => 147 | 46 => 150 | 47 => 151 | 48 => 152 | 49 => 153 | 50 => 154 | 57 => 155 | n => n, fun | 22 => 22 | 24 => 63 | 25 => 96 | 3 => 3 | 39 => 138 | 0 => 0 | 53 => 172 | 55 => 74 | 4 => 4 | 46 => 201 | 45 => 200 | 50 => 118 | 5 => 5 | 9 => 9 | 66 => 207 | 70 => 211 | 76 => 213 | 77 => 214 | n => n, fun | n => n⟩
theorem Tryd.sortE : Go.Proofs.SlLaysF0.n6 Tryd.prog Tryd.sortE_ren := {
  mixed := by kernel_rfl
  f6 := ⟨Tryd.f134.name, by decide, Tryd.func134.trans (congrArg some (by kernel_rfl))⟩
  f14 := ⟨Tryd.f138.name, by decide, Tryd.func138.trans (congrArg some (by kernel_rfl))⟩
  f15 := Tryd.func139.trans (congrArg some (by kernel_rfl))
  f20 := ⟨Tryd.f140.name, by decide, Tryd.func140.trans (congrArg some (by kernel_rfl))⟩
  f21 := ⟨Tryd.f141.name, by decide, Tryd.func141.trans (congrArg some (by kernel_rfl))⟩
  f22 := ⟨Tryd.f142.name, by decide, Tryd.func142.trans (congrArg some (by kernel_rfl))⟩
  f23 := ⟨Tryd.f143.name, by decide, Tryd.func143.trans (congrArg some (by kernel_rfl))⟩
  f24 := ⟨Tryd.f144.name, by decide, Tryd.func144.trans (congrArg some (by kernel_rfl))⟩
  f25 := ⟨Tryd.f145.name, by decide, Tryd.func145.trans (congrArg some (by kernel_rfl))⟩
  f26 := ⟨Tryd.f146.name, by decide, Tryd.func146.trans (congrArg some (by kernel_rfl))⟩
  f27 := ⟨Tryd.f147.name, by decide, Tryd.func147.trans (congrArg some (by kernel_rfl))⟩
  f28 := Tryd.func148.trans (congrArg some (by kernel_rfl))
  f29 := Tryd.func149.trans (congrArg some (by kernel_rfl))
  f46 := ⟨Tryd.f150.name, by decide, Tryd.func150.trans (congrArg some (by kernel_rfl))⟩
  f47 := Tryd.func151.trans (congrArg some (by kernel_rfl))
  f48 := Tryd.func152.trans (congrArg some (by kernel_rfl))
  f49 := ⟨Tryd.f153.name, by decide, Tryd.func153.trans (congrArg some (by kernel_rfl))⟩
  f50 := ⟨Tryd.f154.name, by decide, Tryd.func154.trans (congrArg some (by kernel_rfl))⟩
  f57 := ⟨Tryd.f155.name, by decide, Tryd.func155.trans (congrArg some (by kernel_rfl))⟩
  t0 := Tryd.underlying0
  a0 := Tryd.isAgg0
  z0 := Tryd.sizeOf0
  v0 := Tryd.zeroValue0
  t3 := Tryd.underlying3
  a3 := Tryd.isAgg3
  z3 := Tryd.sizeOf3
  v3 := Tryd.zeroValue3
  t4 := Tryd.underlying4
  a4 := Tryd.isAgg4
  z4 := Tryd.sizeOf4
  v4 := Tryd.zeroValue4
  t5 := Tryd.underlying5
  a5 := Tryd.isAgg5
  z5 := Tryd.sizeOf5
  v5 := Tryd.zeroValue5
  t9 := Tryd.underlying9
  a9 := Tryd.isAgg9
  z9 := Tryd.sizeOf9
  v9 := Tryd.zeroValue9
  t22 := Tryd.underlying22
  a22 := Tryd.isAgg22
  z22 := Tryd.sizeOf22
  v22 := Tryd.zeroValue22
  t25 := Tryd.underlying96
  a25 := Tryd.isAgg96
  z25 := Tryd.sizeOf96
  v25 := Tryd.zeroValue96
  t39 := Tryd.underlying138
  a39 := Tryd.isAgg138
  z39 := Tryd.sizeOf138
  v39 := Tryd.zeroValue138
  t45 := Tryd.underlying200
  a45 := Tryd.isAgg200
  z45 := Tryd.sizeOf200
  v45 := Tryd.zeroValue200
  t46 := Tryd.underlying201
  a46 := Tryd.isAgg201
  z46 := Tryd.sizeOf201
  v46 := Tryd.zeroValue201
  t50 := Tryd.underlying118
  a50 := Tryd.isAgg118
  z50 := Tryd.sizeOf118
  v50 := Tryd.zeroValue118
  t53 := Tryd.underlying172
  a53 := Tryd.isAgg172
  z53 := Tryd.sizeOf172
  v53 := Tryd.zeroValue172
  t55 := Tryd.underlying74
  a55 := Tryd.isAgg74
  z55 := Tryd.sizeOf74
  v55 := Tryd.zeroValue74
  t66 := Tryd.underlying207
  a66 := Tryd.isAgg207
  z66 := Tryd.sizeOf207
  v66 := Tryd.zeroValue207
  t70 := Tryd.underlying211
  a70 := Tryd.isAgg211
  z70 := Tryd.sizeOf211
  v70 := Tryd.zeroValue211
  t76 := Tryd.underlying213
  a76 := Tryd.isAgg213
  z76 := Tryd.sizeOf213
  v76 := Tryd.zeroValue213
  t77 := Tryd.underlying214
  a77 := Tryd.isAgg214
  z77 := Tryd.sizeOf214
  v77 := Tryd.zeroValue214 }
end Go.Proofs

namespace Go.Proofs.YtblkijdodojaeaaDoor
open Go.RowKit Go.Shelf
attribute [local go_sem] Oper.semAt_some
set_option linter.unusedSimpArgs false
set_option linter.unusedVariables false

theorem KtV.turn {n₀ B : Nat} {w : World} (hn : n₀ ≤ w.heap.size) (hB : B < w.heap.size) (W : World) (l : Nat) (o o' : Obj) (hl : w.heap.size ≤ l) (h : W.heap[l]? = some o) (h1 : o.isCells = false) (h2 : o.isWalk = false) : KtV n₀ B W (W.putObj l o') :=
  ⟨⟨rfl, rfl, rfl, by simp, fun k hk => World.putObj_heap_other (by omega)⟩, World.putObj_heap_other (by omega)⟩
/-- Edges of one's own, as the result. -/
def NewEdges (w : World) (es : List E3) (e : Ending) (w' : World) : Prop := ∃ v, e = .returned v ∧ EdgesAt w' w.heap.size v es ∧ Below w.heap.size w w'
set_option maxRecDepth 100000 in
set_option maxHeartbeats 3200000 in
theorem appendSeq_any (B : Nat) (v : Value) (es : List E3) (w : World) (hrd : EdgesRd w v es) (hlen : es.length ≤ 100000) (hB : w.cell? ⟨B, 0, none⟩ = some v) :
    Calls Tryd.prog 137 #[.slice none 0 0, .func (.func 135) #[] #[.pointer (some ⟨B, 0, none⟩)]] w (NewEdges w es) := by
  obtain ⟨i0, hi, hz0, hz1, hz2⟩ := info_parts Tryd.infoEdge
  have hBl := World.block_lt_of_cell? _ _ hB
  dsimp only at hBl
  have HRD := Lib.hid hrd
  have B1 := below1 w (.cells #[.slice none 0 0] 22)
  have X1 := Boxed.new w 22 (.slice none 0 0)
  have C1 := cell_keep hB B1
  have hZ := World.size_alloc w (.cells #[.slice none 0 0] 22)
  clear hrd
  refine (callsIn_wide (n := 8)).1 ?_
  refine callsIn_of_wp_marks Tryd.func137 rfl trivial ?_ rfl
  simp only [Tryd.ntmps137, List.size_toArray, List.length_cons, List.length_nil, Nat.reduceAdd, Nat.reduceSub, Array.replicate_succ, Array.replicate_zero, List.push_toArray, List.append_toArray, List.nil_append, List.cons_append]
  have HB1 := Lib.hid B1
  have HX1 := Lib.hid X1
  have HC1 := Lib.hid C1
  have HZ := Lib.hid hZ
  clear B1 X1 C1 hZ
  gi_wp2
  obtain ⟨W1, hW1⟩ : ∃ W1, w.alloc (.cells #[.slice none 0 0] 22) = W1 := ⟨_, rfl⟩
  rw [hW1] at HB1 HX1 HC1 HZ ⊢
  clear hW1
  have hz := HZ.out
  refine wpIn_rangeFunc_ownH rfl (by omega) (gf := 135) (lb := #[.pointer (some ⟨B, 0, none⟩)]) rfl trivial (enters_of Tryd.func135 (by kernel_rfl) rfl)
    (values_stops _ B w W1 v es (by omega) HRD.out HB1.out (by omega) HC1.out (by omega)) (fun h h' => h.trans h') (KtV.turn (by omega) (by omega)) (Below.refl _ _) (fun _ => rfl)
    (fun pre X => (∃ u, Boxed X w.heap.size 22 u ∧ X.ownsRow w.heap.size 63 3 u pre.length (ecl pre) ∧ True) ∧ Below w.heap.size w X ∧ w.heap.size + 1 ≤ X.heap.size)
    (fun _ _ _ => False)
    (fun pre X Y row hs hg hr => ⟨holdsRow_own w.heap.size w.heap.size 22 63 3 (fun pre : List E3 => pre.length) ecl (fun _ _ => True) pre X Y row hs.1 hg (fun r e => (hr r e).2), hs.2.1.grown hg hs.2.1.size (fun r e => by have := (hr r e).1; omega), Nat.le_trans hs.2.2 hg.size⟩)
    (fun _ _ _ _ _ hs _ _ => hs)
    ⟨⟨_, HX1.out, World.ownsRow_nil _ _ _ _, trivial⟩, HB1.out, by omega⟩
    (fun x a' X => ∃ Bx, Box3 X Bx x ∧ a' = { tmps := #[.slice none 0 0, .func (.func 135) #[] #[.pointer (some ⟨B, 0, none⟩)], .pointer (some ⟨w.heap.size, 0, none⟩), undef, .slice none 0 0, .pointer (some ⟨Bx, 0, none⟩), .func (.func 135) #[] #[.pointer (some ⟨B, 0, none⟩)], edgV x, undef, undef, undef, undef, undef], defers := [] })
    (fun x a' _ X Y row hs hg hr => by
      obtain ⟨Bx, h2, h3⟩ := hs
      exact ⟨Bx, h2.own hg (fun r e => (hr r e).2), h3⟩)
    ?assign ?body ?done ?stop
  case assign =>
    rintro l pre x X K ⟨⟨u, i1, i2, -⟩, i3, i4⟩ hK'
    have HKK := Lib.hid hK'
    have I1 := Lib.hid i1
    have I2 := Lib.hid i2
    obtain ⟨e1, e2, e3⟩ := x
    clear hK' i1 i2
    gi_wp2
    have b1 := below1 X (.cells #[.int .i64 e1, .int .i64 e2, .int .i64 e3] 63)
    exact HKK.out _ _ ((KeepsOthers.alloc _ _).from _) (KtV.of_below b1 (by omega) (by omega)) ⟨⟨u, I1.out.alloc _, World.ownsRow.kept I2.out (grown_none b1) (by cases u.ownBlock <;> simp), trivial⟩, below_more i3 (Nat.le_refl _) b1, by have := b1.size; omega⟩ ⟨X.heap.size, Box3.new X e1 e2 e3 _, rfl⟩
  case body =>
    rintro l pre x a' X hl ⟨r, hr⟩ ⟨⟨u, i1, i2, -⟩, i3, i4⟩ ⟨Bx, bX, rfl⟩ hlt
    obtain ⟨x1, x2, x3, -⟩ := id bX
    have x4 := i1.cell
    have x5 := i1.frozen
    have I1 := Lib.hid i1
    have I2 := Lib.hid i2
    have I3 := Lib.hid i3
    obtain ⟨e1, e2, e3⟩ := x
    dsimp only at x1 x2 x3
    have hown0 := i2
    clear i1 i2 i3 bX hr
    gi_wp2_with (gi_at_builtin; refine wpListIn_append_own _ rfl _ _ 22 rfl w.heap.size 63 i0 (.agg #[.int .i64 0, .int .i64 0, .int .i64 0]) 3 24 Tryd.underlying22 hi hz0 hz1 hz2 rfl (by decide) _ _ _ rfl (hown0.alloc _) ⟨X.heap.size, 0, none⟩ 1 1 [.int .i64 e1, .int .i64 e2, .int .i64 e3] rfl rfl (cell_three_new _ _ _ _ _) (by simp [Value.oneCell']) (by unfold maxLen; omega) (by omega) (by rw [World.size_alloc]; omega) ?_; intro v' w4 hown4 hgrow4 _; (obtain ⟨g', cap', rfl, -, -⟩ := hown4.form (Nat.succ_pos _)); (obtain ⟨hb1, hb2, hb3, hb4, hb5⟩ := I1.out.appended (by decide) I2.out (by omega) (Nat.le_refl _) hown4 hgrow4); (have y1 := hb1.cell); (have y2 := hb1.frozen))
    refine ⟨hb4.from _, ⟨hb5, hb5.block _ (by omega)⟩, ⟨_, hb2, ?_, trivial⟩, I3.out.trans hb5, ?_⟩
    · rw [List.length_append, List.length_singleton, ecl_snoc]
      exact hb3
    · have := hb4.size
      omega
  case done =>
    rintro D xs X hD rfl ⟨⟨u, i1, i2, -⟩, i3, i4⟩ hDX
    have x4 := i1.cell
    have I2 := Lib.hid i2
    have I3 := Lib.hid i3
    have IX := Lib.hid hDX
    obtain ⟨a9, c9, rfl⟩ := own_slice i2
    clear i1 i2 i3 hDX
    gi_wp2
    refine ⟨by simp, .inl ⟨_, _, rfl, run_takeDeferred IX.out, ?_⟩⟩
    exact ⟨_, by simp [results, Tryd.results137, go_sem], _, rfl, ownsRow_putObj I2.out _ IX.out rfl, below_put9 I3.out D (by omega) _⟩
  case stop =>
    rintro D cc pre X _ _ h _
    exact h.elim
end Go.Proofs.YtblkijdodojaeaaDoor

namespace Go.Proofs.YtblkijdodojaeaaDoor
open Go.RowKit Go.Shelf
set_option linter.unusedSimpArgs false
set_option linter.unusedVariables false

theorem collect_any (B : Nat) (v : Value) (es : List E3) (w : World) (hrd : EdgesRd w v es) (hlen : es.length ≤ 100000) (hB : w.cell? ⟨B, 0, none⟩ = some v) :
    Calls Tryd.prog 133 #[.func (.func 135) #[] #[.pointer (some ⟨B, 0, none⟩)]] w (NewEdges w es) := by
  have HA := Lib.hid (appendSeq_any B v es w hrd hlen hB)
  clear hrd hB
  go_enter Tryd.func133, Tryd.ntmps133
  go_wp2_with (go_at_call 137; (with_reducible refine HA.out.mono ?_); rintro e W1 ⟨v1, rfl, i1, b1⟩; (obtain ⟨a1, c1, rfl⟩ := i1.slice); (have I1 := Lib.hid i1); (have B1 := Lib.hid b1); (clear i1 b1))
  go_ret
  exact ⟨_, rfl, I1.out, B1.out⟩
theorem ltOf_total {x y : E3} (h1 : ltOf cmpE x y = false) (h2 : ltOf cmpE y x = false) : x = y := by rw [ltOf_cmpE] at h1 h2; exact ltE_total' h1 h2
theorem srtE_eq (es : List E3) : (es.mergeSort fun x y => !(ltOf cmpE) y x) = srtE es := by
  unfold srtE
  congr 1
  funext x y
  rw [ltOf_cmpE]
theorem compareE_enters (args : Array Value) (w : World) : (callFunc 65 args).run Tryd.prog w = .ok (.enter 65 args) w := by
  simp [callFunc, go_sem, Tryd.func65, Tryd.f65]
theorem sortFunc_any (B : Nat) (v : Value) (es : List E3) (w : World) (h : EdgesAt w B v es) (hB : B ≤ w.heap.size) (hlen : es.length ≤ 100000) :
    Calls Tryd.prog 134 #[v, .func (.func 65) #[] #[]] w fun e w' => e = .returned (.tuple #[]) ∧ EdgesAt w' B v (srtE es) ∧ Below B w w' := by
  rcases h.2 with ⟨rfl, h0⟩ | ⟨g, cap, cur, rfl, k1, k2, k3, k4, k5, k6⟩
  · obtain rfl : es = [] := List.eq_nil_of_length_eq_zero h0
    refine (AnyF.slices_SortFunc_none Tryd.sortE none 0 (.func (.func 65) #[] #[]) w).mono ?_
    rintro e w' ⟨rfl, rfl⟩
    have e1 : srtE [] = [] := by unfold srtE; simp
    rw [e1]
    exact ⟨rfl, h, Below.refl _ _⟩
  · have hlt := (Array.getElem?_eq_some_iff.1 k2).1
    have hcon := AnyQ.slices_SortFunc_total Tryd.sortE 3 Tryd.isAgg63 Tryd.sizeOf63 encE (fun _ => rfl) (fun x v hv => by simp [encE] at hv; rcases hv with rfl | rfl | rfl <;> rfl) cmpE swoE 65 #[] g 0 cap es.toArray w
      compareE_enters (cmpLaysE g 0 _ w) (holdsE k2 k6) hlt (by simp; omega) (fun x y h1 h2 => ltOf_total h1 h2)
    simp only [List.size_toArray, srtE_eq] at hcon
    refine hcon.mono ?_
    rintro e w' ⟨rfl, n, os, rfl⟩
    refine ⟨rfl, ?_, ?_⟩
    · have := edges_sorted (w := w) (base := B) (g := g) (cap := cap) (n := n) (os := os) (es := es) (ts := srtE es) (srtE_len es) k1 k2 k3 k4 k5
      rw [srtE_len] at this
      exact this
    · exact (Below.refl B w).grown (grownBy_sortedE (n := n) (os := os) _) hB (fun k e => by cases e; exact k1)
theorem sortedFunc_any (B : Nat) (v : Value) (es : List E3) (w : World) (hrd : EdgesRd w v es) (hlen : es.length ≤ 100000) (hB : w.cell? ⟨B, 0, none⟩ = some v) :
    Calls Tryd.prog 126 #[.func (.func 135) #[] #[.pointer (some ⟨B, 0, none⟩)], .func (.func 65) #[] #[]] w (NewEdges w (srtE es)) := by
  have HC := Lib.hid (collect_any B v es w hrd hlen hB)
  clear hrd hB
  go_enter Tryd.func126, Tryd.ntmps126
  go_wp2_with (first
    | (go_at_call 133; (with_reducible refine HC.out.mono ?_); rintro e W1 ⟨v1, rfl, i1, b1⟩; (obtain ⟨a1, c1, rfl⟩ := i1.slice); (have HS := Lib.hid (sortFunc_any w.heap.size _ es W1 i1 b1.size hlen)); (have B1 := Lib.hid b1); (clear i1 b1))
    | (go_at_call 134; (with_reducible refine HS.out.mono ?_); rintro e W2 ⟨rfl, i2, b2⟩; (have I2 := Lib.hid i2); (have B2 := Lib.hid (B1.out.trans b2)); (clear i2 b2)))
  go_ret
  exact ⟨_, rfl, I2.out, B2.out⟩
end Go.Proofs.YtblkijdodojaeaaDoor
