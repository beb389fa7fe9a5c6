/- What slices.Values at edges returns, and what its function yields: the edges, in order. Condition: at most 2^62 edges. What graph.compareEdges returns, and that the world has drawn at least as far: what slices.SortFunc asks of a comparison. No condition. DERIVED: THE SHELF's CONTRACTS AT THIS DUMP, IN PLAIN WORDS (tools/lay-plain.mjs out of 'TryzGenS.lean', which tools/lay-shelf.mjs wrote): THE SAME DECLARATIONS UNDER THE SAME NAMES: 'import', 'namespace', 'open', 'def', 'theorem' AND NOTHING ELSE: no command of the shelf's: FOR A HAND-IN. Each laying: the table of numbers ('.._ren') and one theorem, a field a fact of the dump's own or the kernel's comparison; each contract: ONE APPLICATION. -/
import Derived.Test.YtiockphjnkehnaaGreatDoorQ16
import Derived.Test.YtiockphjnkehnaaGreatDoorQ23
import Derived.Test.YtiockphjnkehnaaGreatDoorQ03
import Derived.Shelf.SlicesQ.IndexFunc
import Derived.Shelf.SlSortCmp.NoneTotal
import Derived.Test.YtiockphjnkehnaaGreatDoorProg

namespace Go.Proofs.YtiockphjnkehnaaGreatDoor
open Go.RowKit Go.Shelf
attribute [local go_sem] Oper.semAt_some
set_option linter.unusedSimpArgs false
set_option linter.unusedVariables false

theorem values_any (v : Value) (a : Option Addr) (k c : Nat) (hv : v = .slice a k c) (w : World) :
    Calls Tryz.prog 94 #[v] w fun e w' => e = .returned (.func (.func 109) #[] #[.pointer (some ⟨w.heap.size, 0, none⟩)]) ∧ w' = w.alloc (.cells #[v] 22) := by
  subst hv
  go_enter Tryz.func94, Tryz.ntmps94
  go_wp2
  go_ret
  exact ⟨rfl, rfl⟩
def KtV (n₀ B : Nat) (W W1 : World) : Prop := Below n₀ W W1 ∧ W1.heap[B]? = W.heap[B]?
theorem KtV.trans {n₀ B : Nat} {X Y Z : World} (h : KtV n₀ B X Y) (k : KtV n₀ B Y Z) : KtV n₀ B X Z := ⟨h.1.trans k.1, k.2.trans h.2⟩
theorem KtV.of_below {n₀ B : Nat} {W W1 : World} (h : Below W.heap.size W W1) (h0 : n₀ ≤ W.heap.size) (h1 : B < W.heap.size) : KtV n₀ B W W1 := ⟨h.mono h0, h.block _ h1⟩
set_option maxRecDepth 100000 in
set_option maxHeartbeats 3200000 in
theorem values1_in (n l B : Nat) (w0 : World) (v : Value) (es : List E3) (J Jx : List E3 → World → Prop) (hn : 1 ≤ n) (W : World) (hJ : AbidesFrom W.heap.size J)
    (hY : ∀ (pre : List E3) (x : E3) (W1 : World), J pre W1 → pre.length < es.length → YieldAt Fence.wide (n - 1) Tryz.prog l #[edgV x] W1 fun e W' =>
      (e = .returned (.bool true) ∧ J (pre ++ [x]) W' ∧ KtV w0.heap.size B W1 W') ∨ (e = .returned (.bool false) ∧ Jx (pre ++ [x]) W'))
    (hrd : EdgesRd w0 v es) (hW0 : Below w0.heap.size w0 W) (hBn : B < W.heap.size) (hg : W.cell? ⟨B, 0, none⟩ = some v) (hlen : es.length < 4611686018427387904) (h0 : J [] W) :
    CallsIn Fence.wide n Tryz.prog 109 #[.func (.yield l) #[] #[], .pointer (some ⟨B, 0, none⟩)] W fun e W' => (∃ u, e = .returned u) ∧
      ((∃ ys : List E3, ys = es ∧ J ys W') ∨ (∃ pre, True ∧ Jx pre W')) := by
  have hmx : Tryz.prog.follows .mixedOrders = true := by kernel_rfl
  have HY := Lib.hid hY
  have HJ := Lib.hid hJ
  have HRD := Lib.hid hrd
  have HG := Lib.hid hg
  have HW0 := Lib.hid hW0
  obtain ⟨a, c, rfl⟩ := hrd.form
  have g1 := hg
  clear hY hJ hrd hg hW0
  refine callsIn_of_wp Tryz.func109 rfl trivial ?_ rfl
  simp only [Tryz.ntmps109, List.size_toArray, List.length_cons, List.length_nil, Nat.reduceAdd, Nat.reduceSub, Array.replicate_succ, Array.replicate_zero, List.push_toArray, List.append_toArray, List.nil_append, List.cons_append]
  gi_wp2
  gi_loopw [7] (fun s7 wr => ∃ i : Nat, s7 = .int .i64 (i : Int) ∧ i ≤ es.length ∧ J (es.take i) wr ∧ KtV w0.heap.size B W wr ∧ W.heap.size ≤ wr.heap.size) (fun s7 _ => es.length - natV s7)
  case atStart => exact ⟨0, rfl, Nat.zero_le _, h0, ⟨Below.refl _ _, rfl⟩, Nat.le_refl _⟩
  case round =>
    clear h0 g1
    obtain ⟨i, rfl, hile, hJs, hB, hsz⟩ := hrel
    have hw0 := HW0.out.trans hB.1
    rcases Nat.lt_or_ge i es.length with hlt | hge
    · obtain ⟨e, he⟩ : ∃ e, es[i]? = some e := ⟨_, List.getElem?_eq_getElem hlt⟩
      obtain ⟨bb, off, c', hv, k1, k2, k3⟩ := (HRD.out.keep hw0).at he
      injection hv with e1 e2 e3
      subst e1
      subst e3
      have j1 : decide ((i : Int) < (es.length : Int)) = true := decide_eq_true (by omega)
      have j2 : decide (i < es.length) = true := decide_eq_true hlt
      have j3 : (i : Int) < (es.length : Int) := by omega
      have HTK := Lib.hid (show es.take (i + 1) = es.take i ++ [e] by rw [List.take_add_one, he]; rfl)
      have hpl : (es.take i).length < es.length := by rw [List.length_take]; omega
      have HYD := Lib.hid (fun o => HY.out (es.take i) e (wr.alloc o) (HJ.out (es.take i) _ _ none hJs (below_grown' (below1 wr o)) (fun r e => by cases e)) hpl)
      clear he hJs e2 hpl
      obtain ⟨x, y, z⟩ := e
      dsimp only at k1 k2 k3 HYD
      obtain ⟨fn, tmps, assign, body, hy, hR⟩ := HYD.out (.cells #[.int .i64 x, .int .i64 y, .int .i64 z] 39)
      gi_wp2
      refine hR.mono ?_
      have HKV := Lib.hid (KtV.of_below (n₀ := w0.heap.size) (B := B) (below1 wr (.cells #[.int .i64 x, .int .i64 y, .int .i64 z] 39)) hw0.size (by omega))
      rintro e W3 (⟨rfl, hJ3, hk3⟩ | ⟨rfl, hJx3⟩)
      · gi_wp2
        go_roundw
        case rel => exact ⟨i + 1, by go_num, hlt, by rw [HTK.out]; exact hJ3, hB.trans (HKV.out.trans hk3), Nat.le_trans hsz (Nat.le_trans (by rw [World.size_alloc]; omega) hk3.1.size)⟩
        case measure => simp [natV]; omega
      · gi_wp2
        refine bodyPost_ret (results_none rfl _ _ _) rfl ?_
        exact ⟨⟨_, rfl⟩, .inr ⟨_, trivial, hJx3⟩⟩
    · have j1 : decide ((i : Int) < (es.length : Int)) = false := decide_eq_false (by omega)
      have j2 : decide (i < es.length) = false := decide_eq_false (by omega)
      have HT := Lib.hid (show es.take i = es from List.take_of_length_le hge)
      gi_wp2
      go_end0
      exact ⟨⟨_, rfl⟩, .inl ⟨es, rfl, by rw [HT.out] at hJs; exact hJs⟩⟩
theorem values_stops (n B : Nat) (w0 w : World) (v : Value) (es : List E3) (hn : 1 ≤ n) (hrd : EdgesRd w0 v es) (hW0 : Below w0.heap.size w0 w) (hBn : B < w.heap.size) (hg : w.cell? ⟨B, 0, none⟩ = some v) (hlen : es.length < 4611686018427387904) :
    SeqStopsK Fence.wide n Tryz.prog 109 #[.pointer (some ⟨B, 0, none⟩)] (fun x : E3 => #[edgV x]) (KtV w0.heap.size B) (fun ys => ys = es) (fun _ => True) es.length w :=
  fun l J Jx W hW hJ hJx hY h0 => by
    have hs2 := hW.size
    exact values1_in n l B w0 v es J Jx hn W hJ hY hrd (hW0.trans (hW.mono hW0.size)) (by omega) (cell_keep hg hW) hlen h0
end Go.Proofs.YtiockphjnkehnaaGreatDoor

namespace Go.Proofs.YtiockphjnkehnaaGreatDoor
open Go.RowKit Go.Shelf
set_option linter.unusedSimpArgs false
set_option linter.unusedVariables false

def CAD (w : World) (a b : E3) (W : World) : Prop := Bd w W ∧ Box3 W w.heap.size a ∧ Box3 W (w.heap.size + 1) b
section
variable {w W W' : World} {a b : E3}
theorem CAD.keep (h : CAD w a b W) (hb : Bd W W') : CAD w a b W' := ⟨h.1.trans hb, h.2.1.keep hb.1, h.2.2.keep hb.1⟩
theorem CAD.alloc (h : CAD w a b W) (o : Obj) : CAD w a b (W.alloc o) := h.keep (Bd.one W o)
theorem CAD.far {q : Nat} (h : CAD w a b W) (hq : w.heap.size + 2 ≤ q) (f : E3) : CAD w a b (stE W q f) :=
  ⟨⟨h.1.1.trans (stE_below (by omega)), h.1.2⟩, h.2.1.far (by omega), h.2.2.far (by omega)⟩
theorem CAD.size (h : CAD w a b W) : w.heap.size + 2 ≤ W.heap.size := h.2.2.lt
theorem CAD.cells (h : CAD w a b W) : W.cell? ⟨w.heap.size, 0, none⟩ = some (.int .i64 a.1) ∧ W.cell? ⟨w.heap.size, 1, none⟩ = some (.int .i64 a.2.1) ∧ W.cell? ⟨w.heap.size, 2, none⟩ = some (.int .i64 a.2.2) ∧
    W.cell? ⟨w.heap.size + 1, 0, none⟩ = some (.int .i64 b.1) ∧ W.cell? ⟨w.heap.size + 1, 1, none⟩ = some (.int .i64 b.2.1) ∧ W.cell? ⟨w.heap.size + 1, 2, none⟩ = some (.int .i64 b.2.2) :=
  ⟨h.2.1.1, h.2.1.2.1, h.2.1.2.2.1, h.2.2.1, h.2.2.2.1, h.2.2.2.2.1⟩
theorem CAD.drew (h : CAD w a b W) : CAD w a b W.drew := ⟨h.1.drew, h.2.1, h.2.2⟩
theorem CAD.start (w : World) (a b : E3) (t t' : TypeId) : CAD w a b ((w.alloc (.cells #[.int .i64 a.1, .int .i64 a.2.1, .int .i64 a.2.2] t)).alloc (.cells #[.int .i64 b.1, .int .i64 b.2.1, .int .i64 b.2.2] t')) := by
  refine ⟨(Bd.one w _).trans (Bd.one _ _), (Box3.new w _ _ _ _).keep (below1 _ _), ?_⟩
  have := Box3.new (w.alloc (.cells #[.int .i64 a.1, .int .i64 a.2.1, .int .i64 a.2.2] t)) b.1 b.2.1 b.2.2 t'
  rw [World.size_alloc] at this
  exact this
end
theorem numbersD_any (e : E3) (w : World) : Calls Tryz.prog 96 #[edgV e] w fun en w' => en = .returned (arrE e) ∧ Bd w w' := by
  obtain ⟨x, y, z⟩ := e
  go_enter Tryz.func96, Tryz.ntmps96
  go_wp2
  exact bodyPost_ret (v := arrE (x, y, z)) (by simp [results, Tryz.results96, go_sem]) rfl ⟨rfl, (Bd.one w _).alloc _⟩
set_option maxRecDepth 100000 in
set_option maxHeartbeats 6400000 in
theorem compareAsD_any (a b : E3) (w : World) : Calls Tryz.prog 95 #[edgV a, edgV b, .func (.func 96) #[] #[]] w fun e w' => e = .returned (.int .i64 (cmpE a b)) ∧ Bd w w' := by
  have hmx : Tryz.prog.follows .mixedOrders = true := by kernel_rfl
  have K0 := Lib.hid (CAD.start w a b 39 39)
  have HN := Lib.hid (fun e W => numbersD_any e W)
  go_enter Tryz.func95, Tryz.ntmps95
  go_upto_region 1 with fail
  have KB := K0.out.drew
  clear K0
  refine region_inv' (J := (fun L act wx => ∃ u9 u10 u11 u12 u13 u14 u7 u8, act = { tmps := #[.agg #[.int .i64 a.1, .int .i64 a.2.1, .int .i64 a.2.2], .agg #[.int .i64 b.1, .int .i64 b.2.1, .int .i64 b.2.2], .func (.func 96) #[] #[], .pointer (some ⟨w.heap.size, 0, none⟩), .pointer (some ⟨w.heap.size + 1, 0, none⟩), undef, .int .i64 0, u7, u8, u9, u10, u11, u12, u13, u14, undef, undef, undef], defers := [] } ∧ CAD w a b wx ∧
      (L.getD 0 false = true → u9 = .func (.func 96) #[] #[]) ∧ (L.getD 1 false = true → u10 = .agg #[.int .i64 a.1, .int .i64 a.2.1, .int .i64 a.2.2]) ∧ (L.getD 2 false = true → u11 = .agg #[.int .i64 a.1, .int .i64 a.2.1, .int .i64 a.2.2]) ∧ (L.getD 3 false = true → u12 = .func (.func 96) #[] #[]) ∧ (L.getD 4 false = true → u13 = .agg #[.int .i64 b.1, .int .i64 b.2.1, .int .i64 b.2.2]) ∧ (L.getD 5 false = true → u14 = .agg #[.int .i64 b.1, .int .i64 b.2.1, .int .i64 b.2.2]) ∧ (L.getD 6 false = true → SlW (w.heap.size + 2) (a) (L.getD 8 false = true) u7 wx) ∧ (L.getD 7 false = true → SlW (w.heap.size + 2) (b) (L.getD 9 false = true) u8 wx) ∧ (L.getD 6 false = true → L.getD 7 false = true → u7 ≠ u8) ∧ (L.getD 8 false = true → L.getD 6 false = true) ∧ (L.getD 9 false = true → L.getD 7 false = true))) hmx (by kernel_rfl) ?_ ?_ ?_
  · exact ⟨undef, undef, undef, undef, undef, undef, undef, undef, rfl, KB, fun h => absurd h (by decide), fun h => absurd h (by decide), fun h => absurd h (by decide), fun h => absurd h (by decide), fun h => absurd h (by decide), fun h => absurd h (by decide), fun h => absurd h (by decide), fun h => absurd h (by decide), fun h _ => absurd h (by decide), fun h => absurd h (by decide), fun h => absurd h (by decide)⟩
  · intro i hi L a wx hl hw ⟨u9, u10, u11, u12, u13, u14, u7, u8, ha, lo, c0, c1, c2, c3, c4, c5, s6, s7, d6_7, k8, k9⟩
    subst ha
    obtain ⟨x1, x2, x3, y1', y2', y3'⟩ := lo.cells
    clear KB
    have hi' : i = 0 ∨ i = 1 ∨ i = 2 ∨ i = 3 ∨ i = 4 ∨ i = 5 ∨ i = 6 ∨ i = 7 ∨ i = 8 ∨ i = 9 := by
      have : i < 10 := hi
      omega
    rcases hi' with rfl | rfl | rfl | rfl | rfl | rfl | rfl | rfl | rfl | rfl
    · refine stepJ (i := 0) rfl (fun K hK => ?_)
      go_simp
      refine hK.out _ _ ⟨_, u10, u11, u12, u13, u14, u7, u8, rfl, lo, fun _ => rfl, fun h => c1 (fl (by decide) h), fun h => c2 (fl (by decide) h), fun h => c3 (fl (by decide) h), fun h => c4 (fl (by decide) h), fun h => c5 (fl (by decide) h), fun h => ((s6 (fl (by decide) h)).imp (fl (by decide))), fun h => ((s7 (fl (by decide) h)).imp (fl (by decide))), fun h h' => d6_7 (fl (by decide) h) (fl (by decide) h'), fun h => getD_set_true (k8 (fl (by decide) h)), fun h => getD_set_true (k9 (fl (by decide) h))⟩
    · refine stepJ (i := 1) rfl (fun K hK => ?_)
      go_simp
      refine hK.out _ _ ⟨u9, _, u11, u12, u13, u14, u7, u8, rfl, lo, fun h => c0 (fl (by decide) h), fun _ => rfl, fun h => c2 (fl (by decide) h), fun h => c3 (fl (by decide) h), fun h => c4 (fl (by decide) h), fun h => c5 (fl (by decide) h), fun h => ((s6 (fl (by decide) h)).imp (fl (by decide))), fun h => ((s7 (fl (by decide) h)).imp (fl (by decide))), fun h h' => d6_7 (fl (by decide) h) (fl (by decide) h'), fun h => getD_set_true (k8 (fl (by decide) h)), fun h => getD_set_true (k9 (fl (by decide) h))⟩
    · refine stepJ (i := 2) rfl (fun K hK => ?_)
      obtain rfl := c0 (hw 0 (by kernel_rfl))
      obtain rfl := c1 (hw 1 (by kernel_rfl))
      go_simp
      go_at_call 96
      refine (numbersD_any a _).mono ?_
      rintro e W2 ⟨rfl, b2⟩
      go_wp2_with fail
      refine hK.out _ _ ⟨_, _, _, u12, u13, u14, u7, u8, rfl, lo.keep b2, fun _ => rfl, fun _ => rfl, fun _ => rfl, fun h => c3 (fl (by decide) h), fun h => c4 (fl (by decide) h), fun h => c5 (fl (by decide) h), fun h => ((s6 (fl (by decide) h)).imp (fl (by decide))).keep b2.1, fun h => ((s7 (fl (by decide) h)).imp (fl (by decide))).keep b2.1, fun h h' => d6_7 (fl (by decide) h) (fl (by decide) h'), fun h => getD_set_true (k8 (fl (by decide) h)), fun h => getD_set_true (k9 (fl (by decide) h))⟩
    · refine stepJ (i := 3) rfl (fun K hK => ?_)
      go_simp
      refine hK.out _ _ ⟨u9, u10, u11, _, u13, u14, u7, u8, rfl, lo, fun h => c0 (fl (by decide) h), fun h => c1 (fl (by decide) h), fun h => c2 (fl (by decide) h), fun _ => rfl, fun h => c4 (fl (by decide) h), fun h => c5 (fl (by decide) h), fun h => ((s6 (fl (by decide) h)).imp (fl (by decide))), fun h => ((s7 (fl (by decide) h)).imp (fl (by decide))), fun h h' => d6_7 (fl (by decide) h) (fl (by decide) h'), fun h => getD_set_true (k8 (fl (by decide) h)), fun h => getD_set_true (k9 (fl (by decide) h))⟩
    · refine stepJ (i := 4) rfl (fun K hK => ?_)
      go_simp
      refine hK.out _ _ ⟨u9, u10, u11, u12, _, u14, u7, u8, rfl, lo, fun h => c0 (fl (by decide) h), fun h => c1 (fl (by decide) h), fun h => c2 (fl (by decide) h), fun h => c3 (fl (by decide) h), fun _ => rfl, fun h => c5 (fl (by decide) h), fun h => ((s6 (fl (by decide) h)).imp (fl (by decide))), fun h => ((s7 (fl (by decide) h)).imp (fl (by decide))), fun h h' => d6_7 (fl (by decide) h) (fl (by decide) h'), fun h => getD_set_true (k8 (fl (by decide) h)), fun h => getD_set_true (k9 (fl (by decide) h))⟩
    · refine stepJ (i := 5) rfl (fun K hK => ?_)
      obtain rfl := c3 (hw 3 (by kernel_rfl))
      obtain rfl := c4 (hw 4 (by kernel_rfl))
      go_simp
      go_at_call 96
      refine (numbersD_any b _).mono ?_
      rintro e W2 ⟨rfl, b2⟩
      go_wp2_with fail
      refine hK.out _ _ ⟨u9, u10, u11, _, _, _, u7, u8, rfl, lo.keep b2, fun h => c0 (fl (by decide) h), fun h => c1 (fl (by decide) h), fun h => c2 (fl (by decide) h), fun _ => rfl, fun _ => rfl, fun _ => rfl, fun h => ((s6 (fl (by decide) h)).imp (fl (by decide))).keep b2.1, fun h => ((s7 (fl (by decide) h)).imp (fl (by decide))).keep b2.1, fun h h' => d6_7 (fl (by decide) h) (fl (by decide) h'), fun h => getD_set_true (k8 (fl (by decide) h)), fun h => getD_set_true (k9 (fl (by decide) h))⟩
    · refine stepJ (i := 6) rfl (fun K hK => ?_)
      go_simp
      refine hK.out _ _ ⟨u9, u10, u11, u12, u13, u14, _, u8, rfl, lo.alloc _, fun h => c0 (fl (by decide) h), fun h => c1 (fl (by decide) h), fun h => c2 (fl (by decide) h), fun h => c3 (fl (by decide) h), fun h => c4 (fl (by decide) h), fun h => c5 (fl (by decide) h), fun _ => SlW.new (fun h => absurd ((k8 (fl (by decide) h)).symm.trans hl) (by decide)) lo.size, fun h => ((s7 (fl (by decide) h)).imp (fl (by decide))).keep (below1 wx _), fun _ h' => Ne.symm (s7 (fl (by decide) h')).ne_new, fun h => getD_set_true (k8 (fl (by decide) h)), fun h => getD_set_true (k9 (fl (by decide) h))⟩
    · refine stepJ (i := 7) rfl (fun K hK => ?_)
      go_simp
      refine hK.out _ _ ⟨u9, u10, u11, u12, u13, u14, u7, _, rfl, lo.alloc _, fun h => c0 (fl (by decide) h), fun h => c1 (fl (by decide) h), fun h => c2 (fl (by decide) h), fun h => c3 (fl (by decide) h), fun h => c4 (fl (by decide) h), fun h => c5 (fl (by decide) h), fun h => ((s6 (fl (by decide) h)).imp (fl (by decide))).keep (below1 wx _), fun _ => SlW.new (fun h => absurd ((k9 (fl (by decide) h)).symm.trans hl) (by decide)) lo.size, fun h _ => (s6 (fl (by decide) h)).ne_new, fun h => getD_set_true (k8 (fl (by decide) h)), fun h => getD_set_true (k9 (fl (by decide) h))⟩
    · refine stepJ (i := 8) rfl (fun K hK => ?_)
      obtain rfl := c2 (hw 2 (by kernel_rfl))
      obtain ⟨pp, rfl, hpp, ⟨z9, y1, y2, y3, y4, y5, y6⟩, _⟩ := id (s6 (hw 6 (by kernel_rfl)))
      go_simp
      refine hK.out _ _ ⟨u9, u10, _, u12, u13, u14, _, u8, rfl, lo.far hpp _, fun h => c0 (fl (by decide) h), fun h => c1 (fl (by decide) h), fun _ => rfl, fun h => c3 (fl (by decide) h), fun h => c4 (fl (by decide) h), fun h => c5 (fl (by decide) h), fun _ => (s6 (hw 6 (by kernel_rfl))).put, fun h => ((s7 (fl (by decide) h)).imp (fl (by decide))).far (Ne.symm (d6_7 (hw 6 (by kernel_rfl)) (fl (by decide) h))), fun h h' => d6_7 (fl (by decide) h) (fl (by decide) h'), fun _ => getD_set_true (hw 6 (by kernel_rfl)), fun h => getD_set_true (k9 (fl (by decide) h))⟩
    · refine stepJ (i := 9) rfl (fun K hK => ?_)
      obtain rfl := c5 (hw 5 (by kernel_rfl))
      obtain ⟨pp, rfl, hpp, ⟨z9, y1, y2, y3, y4, y5, y6⟩, _⟩ := id (s7 (hw 7 (by kernel_rfl)))
      go_simp
      refine hK.out _ _ ⟨u9, u10, u11, u12, u13, _, u7, _, rfl, lo.far hpp _, fun h => c0 (fl (by decide) h), fun h => c1 (fl (by decide) h), fun h => c2 (fl (by decide) h), fun h => c3 (fl (by decide) h), fun h => c4 (fl (by decide) h), fun _ => rfl, fun h => ((s6 (fl (by decide) h)).imp (fl (by decide))).far (d6_7 (fl (by decide) h) (hw 7 (by kernel_rfl))), fun _ => (s7 (hw 7 (by kernel_rfl))).put, fun h h' => d6_7 (fl (by decide) h) (fl (by decide) h'), fun h => getD_set_true (k8 (fl (by decide) h)), fun _ => getD_set_true (hw 7 (by kernel_rfl))⟩
  · rintro L a wx hall ⟨u9, u10, u11, u12, u13, u14, u7, u8, rfl, lo, c0, c1, c2, c3, c4, c5, s6, s7, d6_7, k8, k9⟩
    obtain rfl := c0 (hall 0 (by decide))
    obtain rfl := c1 (hall 1 (by decide))
    obtain rfl := c2 (hall 2 (by decide))
    obtain rfl := c3 (hall 3 (by decide))
    obtain rfl := c4 (hall 4 (by decide))
    obtain rfl := c5 (hall 5 (by decide))
    obtain ⟨p6, rfl, hp6, -, H6⟩ := s6 (hall 6 (by decide))
    have V6 := H6 (hall 8 (by decide))
    obtain ⟨p7, rfl, hp7, -, H7⟩ := s7 (hall 7 (by decide))
    have V7 := H7 (hall 9 (by decide))
    have n6_7 : p6 ≠ p7 := fun e => d6_7 (hall 6 (by decide)) (hall 7 (by decide)) (by rw [e])
    clear hall c0 c1 c2 c3 c4 c5 s6 H6 s7 H7 d6_7 k8 k9
    have HA : ∀ j, j < 3 → wx.cell? ⟨p6, j, none⟩ = some (.int .i64 (numE a j)) := fun j hj => by
      rcases (show j = 0 ∨ j = 1 ∨ j = 2 by omega) with rfl | rfl | rfl
      · exact V6.1
      · exact V6.2.1
      · exact V6.2.2.1
    have HB : ∀ j, j < 3 → wx.cell? ⟨p7, j, none⟩ = some (.int .i64 (numE b j)) := fun j hj => by
      rcases (show j = 0 ∨ j = 1 ∨ j = 2 by omega) with rfl | rfl | rfl
      · exact V7.1
      · exact V7.2.1
      · exact V7.2.2.1
    have HC := Lib.hid (fun n => compare3_any a b p6 p7 (wx.drewN n) HA HB)
    have hb := lo.1
    clear HA HB V6 V7 lo KB hp6 hp7 n6_7 HN
    obtain ⟨z, hz⟩ : ∃ z, cmpE a b = z := ⟨_, rfl⟩
    simp only [hz] at HC
    have HZ := Lib.hid hz
    clear hz
    go_wp2_with fail
    go_quiet ((go_at_call 110; exact Calls.quiet_of_same (HC.out _)))
    go_wp2_with fail
    go_ret
    exact ⟨by rw [HZ.out]; rfl, hb.drewN _⟩
set_option maxRecDepth 100000 in
theorem compareEdgesD_any (a b : E3) (w : World) : Calls Tryz.prog 67 #[edgV a, edgV b] w fun e w' => e = .returned (.int .i64 (cmpE a b)) ∧ Bd w w' := by
  have HC := Lib.hid (fun W => compareAsD_any a b W)
  go_enter Tryz.func67, Tryz.ntmps67
  go_wp2_with (go_at_call 95; (with_reducible refine (HC.out _).mono ?_); rintro e W1 ⟨rfl, b1⟩)
  go_ret
  exact ⟨rfl, ((Bd.one _ _).trans (Bd.one _ _)).trans b1⟩
theorem ltOf_cmpE (x y : E3) : ltOf cmpE x y = ltE x y := by
  unfold ltOf cmpE
  by_cases h : ltE x y = true
  · simp [h]
  · have h1 : ltE x y = false := by simpa using h
    rw [h1]
    by_cases h2 : ltE y x = true <;> simp [h2]
theorem swoE : Sort.SWO (ltOf cmpE) where
  irrefl x := by rw [ltOf_cmpE]; exact ltE_irr' x
  trans x y z h1 h2 := by rw [ltOf_cmpE] at *; exact ltE_trans' h1 h2
  ntrans x y z h1 h2 := by
    rw [ltOf_cmpE] at *
    cases h : ltE x z with
    | false => rfl
    | true =>
      cases h3 : ltE z y with
      | true => rw [ltE_trans' h h3] at h1; cases h1
      | false => rw [ltE_total' h3 h2] at h; rw [h] at h1; cases h1
theorem cmpLaysE (blk off size : Nat) (w : World) : CmpLays Tryz.prog 67 #[] encE 3 cmpE blk off size w :=
  fun m os dk _ x y => (compareEdgesD_any x y _).mono fun _ _ ⟨he, hw⟩ => ⟨he, hw.grow⟩
end Go.Proofs.YtiockphjnkehnaaGreatDoor

namespace Go.Proofs
open Go.Shelf
def Tryz.containsFuncE_ren : Go.Shelf.Ren := ⟨fun | 8 => 81 | 6 => 103 | n => n, fun | 22 => 22 | 23 => 39 | 25 => 107 | 4 => 4 | 3 => 3 | 0 => 0 | n => n, fun | n => n⟩
theorem Tryz.containsFuncE : Go.Proofs.SlLaysH0.n8 Tryz.prog Tryz.containsFuncE_ren := {
  mixed := by kernel_rfl
  f6 := ⟨Tryz.f103.name, by decide, Tryz.func103.trans (congrArg some (by kernel_rfl))⟩
  f8 := ⟨Tryz.f81.name, by decide, Tryz.func81.trans (congrArg some (by kernel_rfl))⟩
  t0 := Tryz.underlying0
  a0 := Tryz.isAgg0
  z0 := Tryz.sizeOf0
  v0 := Tryz.zeroValue0
  t3 := Tryz.underlying3
  a3 := Tryz.isAgg3
  z3 := Tryz.sizeOf3
  v3 := Tryz.zeroValue3
  t4 := Tryz.underlying4
  a4 := Tryz.isAgg4
  z4 := Tryz.sizeOf4
  v4 := Tryz.zeroValue4
  t22 := Tryz.underlying22
  a22 := Tryz.isAgg22
  z22 := Tryz.sizeOf22
  v22 := Tryz.zeroValue22
  t25 := Tryz.underlying107
  a25 := Tryz.isAgg107
  z25 := Tryz.sizeOf107
  v25 := Tryz.zeroValue107 }
def Tryz.sortE_ren : Go.Shelf.Ren := ⟨fun | 6 => 108 | 15 => 121 | 14 => 120 | 28 => 132 | 29 => 133 | 20 => 124 | 21 => 125 | 22 => 126 | 23 => 127 | 24 => 128 | 25 => 129 | 26 => 130 | 27 => 131 | 46 => 135 | 47 => 136 | 48 => 137 | 49 => 138 | 50 => 139 | 57 => 140 | n => n, fun | 22 => 22 | 24 => 39 | 25 => 77 | 3 => 3 | 39 => 127 | 0 => 0 | 53 => 141 | 55 => 69 | 4 => 4 | 46 => 157 | 45 => 156 | 50 => 98 | 5 => 5 | 9 => 9 | 66 => 164 | 70 => 168 | 76 => 170 | 77 => 171 | n => n, fun | n => n⟩
theorem Tryz.sortE : Go.Proofs.SlLaysF0.n6 Tryz.prog Tryz.sortE_ren := {
  mixed := by kernel_rfl
  f6 := ⟨Tryz.f108.name, by decide, Tryz.func108.trans (congrArg some (by kernel_rfl))⟩
  f14 := ⟨Tryz.f120.name, by decide, Tryz.func120.trans (congrArg some (by kernel_rfl))⟩
  f15 := Tryz.func121.trans (congrArg some (by kernel_rfl))
  f20 := ⟨Tryz.f124.name, by decide, Tryz.func124.trans (congrArg some (by kernel_rfl))⟩
  f21 := ⟨Tryz.f125.name, by decide, Tryz.func125.trans (congrArg some (by kernel_rfl))⟩
  f22 := ⟨Tryz.f126.name, by decide, Tryz.func126.trans (congrArg some (by kernel_rfl))⟩
  f23 := ⟨Tryz.f127.name, by decide, Tryz.func127.trans (congrArg some (by kernel_rfl))⟩
  f24 := ⟨Tryz.f128.name, by decide, Tryz.func128.trans (congrArg some (by kernel_rfl))⟩
  f25 := ⟨Tryz.f129.name, by decide, Tryz.func129.trans (congrArg some (by kernel_rfl))⟩
  f26 := ⟨Tryz.f130.name, by decide, Tryz.func130.trans (congrArg some (by kernel_rfl))⟩
  f27 := ⟨Tryz.f131.name, by decide, Tryz.func131.trans (congrArg some (by kernel_rfl))⟩
  f28 := Tryz.func132.trans (congrArg some (by kernel_rfl))
  f29 := Tryz.func133.trans (congrArg some (by kernel_rfl))
  f46 := ⟨Tryz.f135.name, by decide, Tryz.func135.trans (congrArg some (by kernel_rfl))⟩
  f47 := Tryz.func136.trans (congrArg some (by kernel_rfl))
  f48 := Tryz.func137.trans (congrArg some (by kernel_rfl))
  f49 := ⟨Tryz.f138.name, by decide, Tryz.func138.trans (congrArg some (by kernel_rfl))⟩
  f50 := ⟨Tryz.f139.name, by decide, Tryz.func139.trans (congrArg some (by kernel_rfl))⟩
  f57 := ⟨Tryz.f140.name, by decide, Tryz.func140.trans (congrArg some (by kernel_rfl))⟩
  t0 := Tryz.underlying0
  a0 := Tryz.isAgg0
  z0 := Tryz.sizeOf0
  v0 := Tryz.zeroValue0
  t3 := Tryz.underlying3
  a3 := Tryz.isAgg3
  z3 := Tryz.sizeOf3
  v3 := Tryz.zeroValue3
  t4 := Tryz.underlying4
  a4 := Tryz.isAgg4
  z4 := Tryz.sizeOf4
  v4 := Tryz.zeroValue4
  t5 := Tryz.underlying5
  a5 := Tryz.isAgg5
  z5 := Tryz.sizeOf5
  v5 := Tryz.zeroValue5
  t9 := Tryz.underlying9
  a9 := Tryz.isAgg9
  z9 := Tryz.sizeOf9
  v9 := Tryz.zeroValue9
  t22 := Tryz.underlying22
  a22 := Tryz.isAgg22
  z22 := Tryz.sizeOf22
  v22 := Tryz.zeroValue22
  t25 := Tryz.underlying77
  a25 := Tryz.isAgg77
  z25 := Tryz.sizeOf77
  v25 := Tryz.zeroValue77
  t39 := Tryz.underlying127
  a39 := Tryz.isAgg127
  z39 := Tryz.sizeOf127
  v39 := Tryz.zeroValue127
  t45 := Tryz.underlying156
  a45 := Tryz.isAgg156
  z45 := Tryz.sizeOf156
  v45 := Tryz.zeroValue156
  t46 := Tryz.underlying157
  a46 := Tryz.isAgg157
  z46 := Tryz.sizeOf157
  v46 := Tryz.zeroValue157
  t50 := Tryz.underlying98
  a50 := Tryz.isAgg98
  z50 := Tryz.sizeOf98
  v50 := Tryz.zeroValue98
  t53 := Tryz.underlying141
  a53 := Tryz.isAgg141
  z53 := Tryz.sizeOf141
  v53 := Tryz.zeroValue141
  t55 := Tryz.underlying69
  a55 := Tryz.isAgg69
  z55 := Tryz.sizeOf69
  v55 := Tryz.zeroValue69
  t66 := Tryz.underlying164
  a66 := Tryz.isAgg164
  z66 := Tryz.sizeOf164
  v66 := Tryz.zeroValue164
  t70 := Tryz.underlying168
  a70 := Tryz.isAgg168
  z70 := Tryz.sizeOf168
  v70 := Tryz.zeroValue168
  t76 := Tryz.underlying170
  a76 := Tryz.isAgg170
  z76 := Tryz.sizeOf170
  v76 := Tryz.zeroValue170
  t77 := Tryz.underlying171
  a77 := Tryz.isAgg171
  z77 := Tryz.sizeOf171
  v77 := Tryz.zeroValue171 }
end Go.Proofs
