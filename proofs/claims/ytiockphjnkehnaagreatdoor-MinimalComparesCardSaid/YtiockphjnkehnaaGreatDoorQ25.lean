/- What slices.AppendSeq, Collect and SortedFunc return for the edges of a list: the edges sorted. Condition: at most 100000 edges. What slices.Collect, SortFunc and SortedFunc return for the edges of a list: the edges sorted. Condition: at most 100000 edges. What slices.Compact returns for the edges of a row of one's own: each once, where equal ones stand beside each other. Condition: at most 100000 edges. -/
import Derived.Test.YtiockphjnkehnaaGreatDoorQ24
import Derived.Test.YtiockphjnkehnaaGreatDoorQ16
import Derived.RangeFuncBox
import Derived.Test.YtiockphjnkehnaaGreatDoorQ07

namespace Go.Proofs.YtiockphjnkehnaaGreatDoor
open Go.RowKit Go.Shelf
attribute [local go_sem] Oper.semAt_some
set_option linter.unusedSimpArgs false
set_option linter.unusedVariables false

theorem KtV.turn {n₀ B : Nat} {w : World} (hn : n₀ ≤ w.heap.size) (hB : B < w.heap.size) (W : World) (l : Nat) (o o' : Obj) (hl : w.heap.size ≤ l) (h : W.heap[l]? = some o) (h1 : o.isCells = false) (h2 : o.isWalk = false) : KtV n₀ B W (W.putObj l o') :=
  ⟨⟨rfl, rfl, rfl, by simp, fun k hk => World.putObj_heap_other (by omega)⟩, World.putObj_heap_other (by omega)⟩
def NewEdges (w : World) (es : List E3) (e : Ending) (w' : World) : Prop := ∃ v, e = .returned v ∧ EdgesAt w' w.heap.size v es ∧ Below w.heap.size w w'
set_option maxRecDepth 100000 in
set_option maxHeartbeats 3200000 in
theorem appendSeq_any (B : Nat) (v : Value) (es : List E3) (w : World) (hrd : EdgesRd w v es) (hlen : es.length ≤ 100000) (hB : w.cell? ⟨B, 0, none⟩ = some v) :
    Calls Tryz.prog 119 #[.slice none 0 0, .func (.func 109) #[] #[.pointer (some ⟨B, 0, none⟩)]] w (NewEdges w es) := by
  obtain ⟨i0, hi, hz0, hz1, hz2⟩ := info_parts Tryz.infoEdge
  have hBl := World.block_lt_of_cell? _ _ hB
  dsimp only at hBl
  have HRD := Lib.hid hrd
  have B1 := below1 w (.cells #[.slice none 0 0] 22)
  have X1 := Boxed.new w 22 (.slice none 0 0)
  have C1 := cell_keep hB B1
  have hZ := World.size_alloc w (.cells #[.slice none 0 0] 22)
  clear hrd
  refine (callsIn_wide (n := 8)).1 ?_
  refine callsIn_of_wp_marks Tryz.func119 rfl trivial ?_ rfl
  simp only [Tryz.ntmps119, List.size_toArray, List.length_cons, List.length_nil, Nat.reduceAdd, Nat.reduceSub, Array.replicate_succ, Array.replicate_zero, List.push_toArray, List.append_toArray, List.nil_append, List.cons_append]
  have HB1 := Lib.hid B1
  have HX1 := Lib.hid X1
  have HC1 := Lib.hid C1
  have HZ := Lib.hid hZ
  clear B1 X1 C1 hZ
  gi_wp2
  obtain ⟨W1, hW1⟩ : ∃ W1, w.alloc (.cells #[.slice none 0 0] 22) = W1 := ⟨_, rfl⟩
  rw [hW1] at HB1 HX1 HC1 HZ ⊢
  clear hW1
  have hz := HZ.out
  refine wpIn_rangeFunc_ownH rfl (by omega) (gf := 109) (lb := #[.pointer (some ⟨B, 0, none⟩)]) rfl trivial (enters_of Tryz.func109 (by kernel_rfl) rfl)
    (values_stops _ B w W1 v es (by omega) HRD.out HB1.out (by omega) HC1.out (by omega)) (fun h h' => h.trans h') (KtV.turn (by omega) (by omega)) (Below.refl _ _) (fun _ => rfl)
    (fun pre X => (∃ u, Boxed X w.heap.size 22 u ∧ X.ownsRow w.heap.size 39 3 u pre.length (ecl pre) ∧ True) ∧ Below w.heap.size w X ∧ w.heap.size + 1 ≤ X.heap.size)
    (fun _ _ _ => False)
    (fun pre X Y row hs hg hr => ⟨holdsRow_own w.heap.size w.heap.size 22 39 3 (fun pre : List E3 => pre.length) ecl (fun _ _ => True) pre X Y row hs.1 hg (fun r e => (hr r e).2), hs.2.1.grown hg hs.2.1.size (fun r e => by have := (hr r e).1; omega), Nat.le_trans hs.2.2 hg.size⟩)
    (fun _ _ _ _ _ hs _ _ => hs)
    ⟨⟨_, HX1.out, World.ownsRow_nil _ _ _ _, trivial⟩, HB1.out, by omega⟩
    (fun x a' X => ∃ Bx, Box3 X Bx x ∧ a' = { tmps := #[.slice none 0 0, .func (.func 109) #[] #[.pointer (some ⟨B, 0, none⟩)], .pointer (some ⟨w.heap.size, 0, none⟩), undef, .slice none 0 0, .pointer (some ⟨Bx, 0, none⟩), .func (.func 109) #[] #[.pointer (some ⟨B, 0, none⟩)], edgV x, undef, undef, undef, undef, undef], defers := [] })
    (fun x a' _ X Y row hs hg hr => by
      obtain ⟨Bx, h2, h3⟩ := hs
      exact ⟨Bx, h2.own hg (fun r e => (hr r e).2), h3⟩)
    ?assign ?body ?done ?stop
  case assign =>
    rintro l pre x X K ⟨⟨u, i1, i2, -⟩, i3, i4⟩ hK'
    have HKK := Lib.hid hK'
    have I1 := Lib.hid i1
    have I2 := Lib.hid i2
    obtain ⟨e1, e2, e3⟩ := x
    clear hK' i1 i2
    gi_wp2
    have b1 := below1 X (.cells #[.int .i64 e1, .int .i64 e2, .int .i64 e3] 39)
    exact HKK.out _ _ ((KeepsOthers.alloc _ _).from _) (KtV.of_below b1 (by omega) (by omega)) ⟨⟨u, I1.out.alloc _, World.ownsRow.kept I2.out (grown_none b1) (by cases u.ownBlock <;> simp), trivial⟩, below_more i3 (Nat.le_refl _) b1, by have := b1.size; omega⟩ ⟨X.heap.size, Box3.new X e1 e2 e3 _, rfl⟩
  case body =>
    rintro l pre x a' X hl ⟨r, hr⟩ ⟨⟨u, i1, i2, -⟩, i3, i4⟩ ⟨Bx, bX, rfl⟩ hlt
    obtain ⟨x1, x2, x3, -⟩ := id bX
    have x4 := i1.cell
    have x5 := i1.frozen
    have I1 := Lib.hid i1
    have I2 := Lib.hid i2
    have I3 := Lib.hid i3
    obtain ⟨e1, e2, e3⟩ := x
    dsimp only at x1 x2 x3
    have hown0 := i2
    clear i1 i2 i3 bX hr
    gi_wp2_with (gi_at_builtin; refine wpListIn_append_own _ rfl _ _ 22 rfl w.heap.size 39 i0 (.agg #[.int .i64 0, .int .i64 0, .int .i64 0]) 3 24 Tryz.underlying22 hi hz0 hz1 hz2 rfl (by decide) _ _ _ rfl (hown0.alloc _) ⟨X.heap.size, 0, none⟩ 1 1 [.int .i64 e1, .int .i64 e2, .int .i64 e3] rfl rfl (cell_three_new _ _ _ _ _) (by simp [Value.oneCell']) (by unfold maxLen; omega) (by omega) (by rw [World.size_alloc]; omega) ?_; intro v' w4 hown4 hgrow4 _; (obtain ⟨g', cap', rfl, -, -⟩ := hown4.form (Nat.succ_pos _)); (obtain ⟨hb1, hb2, hb3, hb4, hb5⟩ := I1.out.appended (by decide) I2.out (by omega) (Nat.le_refl _) hown4 hgrow4); (have y1 := hb1.cell); (have y2 := hb1.frozen))
    refine ⟨hb4.from _, ⟨hb5, hb5.block _ (by omega)⟩, ⟨_, hb2, ?_, trivial⟩, I3.out.trans hb5, ?_⟩
    · rw [List.length_append, List.length_singleton, ecl_snoc]
      exact hb3
    · have := hb4.size
      omega
  case done =>
    rintro D xs X hD rfl ⟨⟨u, i1, i2, -⟩, i3, i4⟩ hDX
    have x4 := i1.cell
    have I2 := Lib.hid i2
    have I3 := Lib.hid i3
    have IX := Lib.hid hDX
    obtain ⟨a9, c9, rfl⟩ := own_slice i2
    clear i1 i2 i3 hDX
    gi_wp2
    refine ⟨by simp, .inl ⟨_, _, rfl, run_takeDeferred IX.out, ?_⟩⟩
    exact ⟨_, by simp [results, Tryz.results119, go_sem], _, rfl, ownsRow_putObj I2.out _ IX.out rfl, below_put9 I3.out D (by omega) _⟩
  case stop =>
    rintro D cc pre X _ _ h _
    exact h.elim
end Go.Proofs.YtiockphjnkehnaaGreatDoor

namespace Go.Proofs.YtiockphjnkehnaaGreatDoor
open Go.RowKit Go.Shelf
set_option linter.unusedSimpArgs false
set_option linter.unusedVariables false

theorem collect_any (B : Nat) (v : Value) (es : List E3) (w : World) (hrd : EdgesRd w v es) (hlen : es.length ≤ 100000) (hB : w.cell? ⟨B, 0, none⟩ = some v) :
    Calls Tryz.prog 107 #[.func (.func 109) #[] #[.pointer (some ⟨B, 0, none⟩)]] w (NewEdges w es) := by
  have HA := Lib.hid (appendSeq_any B v es w hrd hlen hB)
  clear hrd hB
  go_enter Tryz.func107, Tryz.ntmps107
  go_wp2_with (go_at_call 119; (with_reducible refine HA.out.mono ?_); rintro e W1 ⟨v1, rfl, i1, b1⟩; (obtain ⟨a1, c1, rfl⟩ := i1.slice); (have I1 := Lib.hid i1); (have B1 := Lib.hid b1); (clear i1 b1))
  go_ret
  exact ⟨_, rfl, I1.out, B1.out⟩
theorem ltOf_total {x y : E3} (h1 : ltOf cmpE x y = false) (h2 : ltOf cmpE y x = false) : x = y := by rw [ltOf_cmpE] at h1 h2; exact ltE_total' h1 h2
theorem srtE_eq (es : List E3) : (es.mergeSort fun x y => !(ltOf cmpE) y x) = srtE es := by
  unfold srtE
  congr 1
  funext x y
  rw [ltOf_cmpE]
theorem compareE_enters (args : Array Value) (w : World) : (callFunc 67 args).run Tryz.prog w = .ok (.enter 67 args) w := by
  simp [callFunc, go_sem, Tryz.func67, Tryz.f67]
theorem sortFunc_any (B : Nat) (v : Value) (es : List E3) (w : World) (h : EdgesAt w B v es) (hB : B ≤ w.heap.size) (hlen : es.length ≤ 100000) :
    Calls Tryz.prog 108 #[v, .func (.func 67) #[] #[]] w fun e w' => e = .returned (.tuple #[]) ∧ EdgesAt w' B v (srtE es) ∧ Below B w w' := by
  rcases h.2 with ⟨rfl, h0⟩ | ⟨g, cap, cur, rfl, k1, k2, k3, k4, k5, k6⟩
  · obtain rfl : es = [] := List.eq_nil_of_length_eq_zero h0
    refine (AnyF.slices_SortFunc_none Tryz.sortE none 0 (.func (.func 67) #[] #[]) w).mono ?_
    rintro e w' ⟨rfl, rfl⟩
    have e1 : srtE [] = [] := by unfold srtE; simp
    rw [e1]
    exact ⟨rfl, h, Below.refl _ _⟩
  · have hlt := (Array.getElem?_eq_some_iff.1 k2).1
    have hcon := AnyQ.slices_SortFunc_total Tryz.sortE 3 Tryz.isAgg39 Tryz.sizeOf39 encE (fun _ => rfl) (fun x v hv => by simp [encE] at hv; rcases hv with rfl | rfl | rfl <;> rfl) cmpE swoE 67 #[] g 0 cap es.toArray w
      compareE_enters (cmpLaysE g 0 _ w) (holdsE k2 k6) hlt (by simp; omega) (fun x y h1 h2 => ltOf_total h1 h2)
    simp only [List.size_toArray, srtE_eq] at hcon
    refine hcon.mono ?_
    rintro e w' ⟨rfl, n, os, rfl⟩
    refine ⟨rfl, ?_, ?_⟩
    · have := edges_sorted (w := w) (base := B) (g := g) (cap := cap) (n := n) (os := os) (es := es) (ts := srtE es) (srtE_len es) k1 k2 k3 k4 k5
      rw [srtE_len] at this
      exact this
    · exact (Below.refl B w).grown (grownBy_sortedE (n := n) (os := os) _) hB (fun k e => by cases e; exact k1)
theorem sortedFunc_any (B : Nat) (v : Value) (es : List E3) (w : World) (hrd : EdgesRd w v es) (hlen : es.length ≤ 100000) (hB : w.cell? ⟨B, 0, none⟩ = some v) :
    Calls Tryz.prog 93 #[.func (.func 109) #[] #[.pointer (some ⟨B, 0, none⟩)], .func (.func 67) #[] #[]] w (NewEdges w (srtE es)) := by
  have HC := Lib.hid (collect_any B v es w hrd hlen hB)
  clear hrd hB
  go_enter Tryz.func93, Tryz.ntmps93
  go_wp2_with (first
    | (go_at_call 107; (with_reducible refine HC.out.mono ?_); rintro e W1 ⟨v1, rfl, i1, b1⟩; (obtain ⟨a1, c1, rfl⟩ := i1.slice); (have HS := Lib.hid (sortFunc_any w.heap.size _ es W1 i1 b1.size hlen)); (have B1 := Lib.hid b1); (clear i1 b1))
    | (go_at_call 108; (with_reducible refine HS.out.mono ?_); rintro e W2 ⟨rfl, i2, b2⟩; (have I2 := Lib.hid i2); (have B2 := Lib.hid (B1.out.trans b2)); (clear i2 b2)))
  go_ret
  exact ⟨_, rfl, I2.out, B2.out⟩
end Go.Proofs.YtiockphjnkehnaaGreatDoor

namespace Go.Proofs.YtiockphjnkehnaaGreatDoor
open Go.RowKit Go.Shelf
set_option linter.unusedSimpArgs false
set_option linter.unusedVariables false

theorem eqlE : EqlAt Tryz.prog 39 (fun x => .agg (encE x).toArray) eqE := by
  refine ⟨fun x y w => ?_, GuardAt.agg _ (by kernel_rfl)⟩
  have u3 := Tryz.underlying3
  have a3 := Tryz.isAgg3
  have z3 := Tryz.sizeOf3
  have hS : Tryz.prog.underlying 39 = some (.struct (Tryz.prog.fieldsOf 39)) := by kernel_rfl
  have hp : Tryz.prog.stoodInHeld 39 = false := by kernel_rfl
  simp only [encE]
  rw [run_eql_struct, show (10000 : Nat) = 9999 + 1 from rfl, run_equalIn_agg w 9999 39 _ _ hS hp]
  simp only [Program.fieldsOf, Tryz.underlying39]
  go_simp
  unfold eqE
  by_cases h1 : x.1 = y.1 <;> by_cases h2 : x.2.1 = y.2.1 <;> by_cases h3 : x.2.2 = y.2.2 <;> simp [h1, h2, h3]
def ERow (W : World) (g cap n : Nat) (f : Nat → E3) : Prop := ∃ F : Nat → Value, W.rowIs g 39 (cap * 3) F ∧ n ≤ cap ∧ ∀ i, i < n → F (i * 3) = .int .i64 (f i).1 ∧ F (i * 3 + 1) = .int .i64 (f i).2.1 ∧ F (i * 3 + 2) = .int .i64 (f i).2.2
theorem ERow.of {W : World} {B g cap : Nat} {es : List E3} (h : EdgesAt W B (.slice (some ⟨g, 0, none⟩) es.length cap) es) : ERow W g cap es.length (fun i => es[i]!) ∧ B ≤ g ∧ cap ≤ maxLen := by
  rcases h.2 with ⟨h0, _⟩ | ⟨g', cap', cur, hv, k1, k2, k3, k4, k5, k6⟩
  · cases h0
  · injection hv with e1 e2 e3
    injection e1 with e1
    injection e1 with e1
    subst e1
    subst e3
    refine ⟨⟨fun i => cur[i]!, ⟨cur, k2, k5, fun i hi => ?_⟩, k3, fun i hi => ?_⟩, k1, k4⟩
    · dsimp only
      rw [Array.getElem?_eq_getElem (by omega), getElem!_pos cur i (by omega)]
    · obtain ⟨x1, x2, x3⟩ := ecl_at (List.getElem?_eq_getElem hi)
      have hc : ∀ j, j < es.length * 3 → cur[j]? = (ecl es)[j]? := fun j hj => by
        rw [← k6, List.getElem?_take_of_lt hj, Array.getElem?_toList]
      have h1 : ∀ j v, j < es.length * 3 → (ecl es)[j]? = some v → cur[j]! = v := fun j v hj hv => by
        rw [← hc j hj] at hv
        obtain ⟨a, b⟩ := Array.getElem?_eq_some_iff.1 hv
        rw [getElem!_pos cur j a, b]
      have he : es[i]! = es[i] := getElem!_pos es i hi
      dsimp only
      rw [he]
      exact ⟨h1 _ _ (by omega) x1, h1 _ _ (by omega) x2, h1 _ _ (by omega) x3⟩
theorem ERow.cells {W : World} {g cap n : Nat} {f : Nat → E3} (h : ERow W g cap n f) {i : Nat} (hi : i < n) {x y z : Int} (he : f i = (x, y, z)) :
    W.cell? ⟨g, i * 3, none⟩ = some (.int .i64 x) ∧ W.cell? ⟨g, i * 3 + 1, none⟩ = some (.int .i64 y) ∧ W.cell? ⟨g, i * 3 + 2, none⟩ = some (.int .i64 z) := by
  obtain ⟨F, h1, h2, h3⟩ := h
  obtain ⟨k1, k2, k3⟩ := h3 i hi
  rw [he] at k1 k2 k3
  exact ⟨by rw [World.rowIs.cell h1 (by omega), k1], by rw [World.rowIs.cell h1 (by omega), k2], by rw [World.rowIs.cell h1 (by omega), k3]⟩
theorem ERow.frozen {W : World} {g cap n : Nat} {f : Nat → E3} (h : ERow W g cap n f) (i : Nat) : W.frozen? ⟨g, i, none⟩ = false := by
  obtain ⟨F, ⟨c, h1, -⟩, -⟩ := h
  simp [World.frozen?, h1]
theorem ERow.drew {W : World} {g cap n : Nat} {f : Nat → E3} (h : ERow W g cap n f) (q : Nat) : ERow (W.drewN q) g cap n f := h
theorem ERow.set {W : World} {g cap n : Nat} {f : Nat → E3} (h : ERow W g cap n f) {i : Nat} (hi : i < n) (x y z : Int) :
    ERow (((W.setCell ⟨g, i * 3, none⟩ (.int .i64 x)).setCell ⟨g, i * 3 + 1, none⟩ (.int .i64 y)).setCell ⟨g, i * 3 + 2, none⟩ (.int .i64 z)) g cap n (fun j => if j = i then (x, y, z) else f j) := by
  obtain ⟨F, h1, h2, h3⟩ := h
  refine ⟨_, World.rowIs.set (World.rowIs.set (World.rowIs.set h1 (i * 3) (.int .i64 x)) (i * 3 + 1) (.int .i64 y)) (i * 3 + 2) (.int .i64 z), h2, fun j hj => ?_⟩
  obtain ⟨k1, k2, k3⟩ := h3 j hj
  by_cases e : j = i
  · subst e
    simp
  · dsimp only
    rw [if_neg e]
    refine ⟨?_, ?_, ?_⟩
    · rw [if_neg (by omega), if_neg (by omega), if_neg (by omega)]; exact k1
    · rw [if_neg (by omega), if_neg (by omega), if_neg (by omega)]; exact k2
    · rw [if_neg (by omega), if_neg (by omega), if_neg (by omega)]; exact k3
theorem row_setCells {t : TypeId} {g m : Nat} : ∀ (vs : List Value) (o : Nat) (W : World) (F : Nat → Value), W.rowIs g t m F → ∃ F', (W.setCells g o vs).rowIs g t m F' ∧ ∀ i, i < o → F' i = F i
  | [], o, W, F, h => ⟨F, h, fun _ _ => rfl⟩
  | v :: r, o, W, F, h => by
    obtain ⟨F', h1, h2⟩ := row_setCells r (o + 1) _ _ (World.rowIs.set h o v)
    refine ⟨F', h1, fun i hi => ?_⟩
    rw [h2 i (by omega), if_neg (by omega)]
theorem ERow.clear {W : World} {g cap n : Nat} {f : Nat → E3} (h : ERow W g cap n f) {k : Nat} (hk : k ≤ n) (vs : List Value) : ERow (W.setCells g (k * 3) vs) g cap k f := by
  obtain ⟨F, h1, h2, h3⟩ := h
  obtain ⟨F', k1, k2⟩ := row_setCells vs (k * 3) W F h1
  refine ⟨F', k1, by omega, fun i hi => ?_⟩
  obtain ⟨x1, x2, x3⟩ := h3 i (by omega)
  exact ⟨by rw [k2 _ (by omega)]; exact x1, by rw [k2 _ (by omega)]; exact x2, by rw [k2 _ (by omega)]; exact x3⟩
theorem ERow.less {W : World} {g cap n : Nat} {f : Nat → E3} (h : ERow W g cap n f) {k : Nat} (hk : k ≤ n) : ERow W g cap k f := by
  obtain ⟨F, h1, h2, h3⟩ := h
  exact ⟨F, h1, by omega, fun i hi => h3 i (by omega)⟩
theorem ERow.at {W : World} {B g cap : Nat} {f : Nat → E3} {l : List E3} (h : ERow W g cap l.length f) (hB : B ≤ g) (hc : cap ≤ maxLen) (hl : ∀ i, i < l.length → l[i]? = some (f i)) : EdgesAt W B (.slice (some ⟨g, 0, none⟩) l.length cap) l := by
  obtain ⟨F, ⟨c, k1, k2, k3⟩, h2, h3⟩ := h
  refine ⟨ecl_len l, .inr ⟨g, cap, c, rfl, hB, k1, h2, hc, k2, ?_⟩⟩
  apply List.ext_getElem?
  intro t
  by_cases ht : t < l.length * 3
  · rw [List.getElem?_take_of_lt ht, Array.getElem?_toList, k3 t (by omega)]
    obtain ⟨i, hi⟩ : ∃ i, t / 3 = i := ⟨_, rfl⟩
    obtain ⟨d, hd⟩ : ∃ d, t % 3 = d := ⟨_, rfl⟩
    have hil : i < l.length := by omega
    obtain ⟨x1, x2, x3⟩ := ecl_at (hl i hil)
    obtain ⟨y1, y2, y3⟩ := h3 i hil
    rcases (show d = 0 ∨ d = 1 ∨ d = 2 by omega) with rfl | rfl | rfl
    · rw [show t = i * 3 by omega, x1, y1]
    · rw [show t = i * 3 + 1 by omega, x2, y2]
    · rw [show t = i * 3 + 2 by omega, x3, y3]
  · rw [List.getElem?_take_eq_none (by omega), List.getElem?_eq_none (by rw [ecl_len]; omega)]
theorem run_clearE {W : World} {g cap n : Nat} {f : Nat → E3} (h : ERow W g cap n f) {k : Nat} (hk : k < n) (c : Nat) : ∃ vs : List Value, ∀ ty : TypeId,
    (Builtin.clear_ #[22] ty #[.slice (some ⟨g, k * 3, none⟩) (n - k) c]).run Tryz.prog W = .ok (.tuple #[]) (W.setCells g (k * 3) vs) := by
  obtain ⟨F, h1, h2, h3⟩ := h
  refine ⟨(Builtin.zeroCells #[.int .i64 0, .int .i64 0, .int .i64 0] (n - k)).toList, fun ty => ?_⟩
  have hsz : (Builtin.zeroCells #[Value.int .i64 0, .int .i64 0, .int .i64 0] (n - k)).size = (n - k) * 3 := by rw [size_zeroCells]; rfl
  have hst := run_storeCells_cells (P := Tryz.prog) g (k * 3) (Builtin.zeroCells #[.int .i64 0, .int .i64 0, .int .i64 0] (n - k)).toList 0 W
    (fun j hj => by rw [Array.length_toList, hsz] at hj; rw [World.rowIs.cell h1 (by omega)]; rfl)
    (fun j hj => by obtain ⟨cc, hc, -⟩ := h1; simp [World.frozen?, hc])
    (fun v hv => by
      obtain ⟨i, hi, rfl⟩ := Array.mem_iff_getElem.1 (Array.mem_toList_iff.1 hv)
      simp only [Builtin.zeroCells, Array.getElem_map, Array.getElem_range]
      have hm : i % 3 = 0 ∨ i % 3 = 1 ∨ i % 3 = 2 := by omega
      show (#[Value.int .i64 0, .int .i64 0, .int .i64 0][i % 3]!).oneCell' = true
      rcases hm with h | h | h <;> rw [h] <;> rfl)
  simp only [Nat.add_zero] at hst
  obtain ⟨m, hm⟩ : ∃ m, n - k = m + 1 := ⟨n - k - 1, by omega⟩
  rw [hm] at hst ⊢
  simp [Builtin.clear_, Tryz.runUnderlying22, Tryz.zeroValue39, hst, go_sem]
end Go.Proofs.YtiockphjnkehnaaGreatDoor
