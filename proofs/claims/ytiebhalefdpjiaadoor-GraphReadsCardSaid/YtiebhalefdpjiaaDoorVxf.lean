/- What graph.Out returns. Condition: the edges can be read. -/
import Derived.Test.YtiebhalefdpjiaaDoorVxc
import Derived.Test.YtiebhalefdpjiaaDoorVbe
import Derived.RangeFuncBox
namespace Go.Proofs.YtiebhalefdpjiaaDoor
open Go.RowKit
attribute [local go_sem] Oper.semAt_some
set_option linter.unusedSimpArgs false
set_option linter.unusedVariables false

theorem Boxed.appended2 {W w1 : World} {n₀ M B : Nat} {t e : TypeId} {size : Nat} {v v' : Value} {k m : Nat} {xs ys : List Value} {tmp : Obj}
    (hv : Boxed W B t v) (hte : t ≠ e) (hrow : W.ownsRow M e size v k xs) (hM : M ≤ W.heap.size) (hB : n₀ ≤ B) (hBM : B < M)
    (hown' : w1.ownsRow M e size v' m ys) (hgrow : (W.alloc tmp).grownBy w1 v.ownBlock) :
    Boxed w1 B t v ∧ Boxed (w1.setCell ⟨B, 0, none⟩ v') B t v' ∧ (w1.setCell ⟨B, 0, none⟩ v').ownsRow M e size v' m ys ∧ KeepsOthers W (w1.setCell ⟨B, 0, none⟩ v') ∧ Below n₀ W (w1.setCell ⟨B, 0, none⟩ v') ∧
      ∀ j, j < M → j ≠ B → (w1.setCell ⟨B, 0, none⟩ v').heap[j]? = W.heap[j]? := by
  obtain ⟨h1, h2, h3, h4, h5⟩ := Boxed.appended hv hte (own_low hrow (show n₀ ≤ M by omega)) (by omega) hB (own_low hown' (show n₀ ≤ M by omega)) hgrow
  refine ⟨h1, h2, hown'.kept (grownBy_setCell' w1 B v') (.inr (h1.not_row hte hown').symm), h4, h5, fun j hj hjB => ?_⟩
  rw [Below.heap_setCell _ _ _ _ (show j ≠ B from hjB)]
  rw [hgrow.block j (by rw [World.size_alloc]; omega) (fun hb => by have := (hrow.lt j hb.symm).1; omega)]
  exact (World.grownBy_alloc W tmp none).block j (by omega) (by simp)
def idx {es : List E3} {s : Int} (pre : List (Lv es s)) : List Int := pre.map (fun x => (x.1 : Int))
theorem idx_snoc {es : List E3} {s : Int} (pre : List (Lv es s)) (x : Lv es s) : idx (pre ++ [x]) = idx pre ++ [(x.1 : Int)] := by unfold idx; rw [List.map_append]; rfl
theorem idx_len {es : List E3} {s : Int} (pre : List (Lv es s)) : (idx pre).length = pre.length := by unfold idx; rw [List.length_map]
theorem idx_all {es : List E3} {s : Int} {pre : List (Lv es s)} (h : pre.map (·.1) = lvF es s 0) : idx pre = (lvF es s 0).map (fun j : Nat => (j : Int)) := by unfold idx; rw [← h, List.map_map]; rfl
set_option maxRecDepth 100000 in
set_option maxHeartbeats 6400000 in
theorem out_good (La : Int) (n : Nat) (s : Int) (es : List E3) (v : Value) (w : World) (hrd : EdgesRd w v es) (hvg : VG La (n : Int) es) (hs : 0 ≤ s ∧ s < (n : Int)) :
    Calls Tryd.prog 17 #[grV La (n : Int) v, .int .i64 s] w (IOut w ((lvF es s 0).map (fun j : Nat => (j : Int)), 0)) := by
  obtain ⟨i0, hi, hz0, hz1, hz2⟩ := info_parts Tryd.infoI64
  have hlen := hvg.len
  have hn64 : n ≤ 64 := by have := hvg.s2; omega
  have HRD := Lib.hid hrd
  have HV := Lib.hid (fun W h => isValid_any La (n : Int) es v W h (by omega))
  have HS := Lib.hid (fun W => isState_any La (n : Int) v s W)
  have H0 := Lib.hid (show (chkG La (n : Int) es == 0) = true by rw [hvg.chk]; rfl)
  have H2 := Lib.hid (show inB (n : Int) s = true from decide_eq_true hs)
  have HVG := Lib.hid hvg
  have K0 := Lib.hid (BoxG.new w La (n : Int) v 24)
  have BO := Lib.hid (below1 w (.cells #[.int .i64 La, .int .i64 (n : Int), v] 24))
  obtain ⟨a, c, rfl⟩ := hrd.form
  clear hrd hvg
  refine (callsIn_wide (n := 8)).1 ?_
  refine callsIn_of_wp_marks Tryd.func17 rfl trivial ?_ rfl
  simp only [Tryd.ntmps17, List.size_toArray, List.length_cons, List.length_nil, Nat.reduceAdd, Nat.reduceSub, Array.replicate_succ, Array.replicate_zero, List.push_toArray, List.append_toArray, List.nil_append, List.cons_append]
  gi_wp2_with (first
    | (refine ⟨trivial, ?_⟩; gi_at_call 44; (with_reducible refine (callsIn_wide.2 (HV.out _ (HRD.out.keep BO.out))).mono ?_); rintro e W1 ⟨rfl, b1⟩; (rw [H0.out]); (have K1 := Lib.hid (K0.out.keep b1)); (have B1 := Lib.hid (below_more BO.out (Nat.le_refl _) b1)); (clear b1); (obtain ⟨g1, g2, g3⟩ := id K1.out))
    | (refine ⟨trivial, ?_⟩; gi_at_call 40; (with_reducible refine (callsIn_wide.2 (HS.out _)).mono ?_); rintro e W2 ⟨rfl, b2⟩; (rw [H2.out]); (have K2 := Lib.hid ((K1.out.keep b2).keep (below1 W2 (.cells #[.slice none 0 0] 32)))); (have B2 := Lib.hid (below_more (below_more B1.out (Nat.le_refl _) b2) (Nat.le_refl _) (below1 W2 (.cells #[.slice none 0 0] 32)))); (have X2 := Lib.hid (Boxed.new W2 32 (.slice none 0 0))); (have S2 := Lib.hid (below_more B1.out (Nat.le_refl _) b2).size); (clear b2 g1 g2 g3); (obtain ⟨g1, g2, g3⟩ := id K2.out))
    | (refine ⟨trivial, ?_⟩; gi_at_call 45; (with_reducible refine (callsIn_wide.2 (leaving_any La (n : Int) s (.slice a es.length c) _)).mono ?_); rintro e W5 ⟨rfl, rfl⟩))
  obtain ⟨Rb, hRb⟩ : ∃ Rb, W2.heap.size = Rb := ⟨_, rfl⟩
  obtain ⟨W3, hW3⟩ : ∃ W3, W2.alloc (.cells #[.slice none 0 0] 32) = W3 := ⟨_, rfl⟩
  have hZ3 : W3.heap.size = Rb + 1 := by rw [← hW3, World.size_alloc, hRb]
  rw [hW3] at K2 B2 X2 ⊢
  rw [hRb] at X2 S2 ⊢
  clear hW3 hRb g1 g2 g3
  have bg := below1 W3 (.cells #[.int .i64 La, .int .i64 (n : Int), .slice a es.length c] 24)
  have bs := below1 (W3.alloc (.cells #[.int .i64 La, .int .i64 (n : Int), .slice a es.length c] 24)) (.cells #[.int .i64 s] 3)
  have G5 := Lib.hid ((BoxG.new W3 La (n : Int) (.slice a es.length c) 24).keep bs)
  have C5 := Lib.hid (show ((W3.alloc (.cells #[.int .i64 La, .int .i64 (n : Int), .slice a es.length c] 24)).alloc (.cells #[.int .i64 s] 3)).cell? ⟨W3.heap.size + 1, 0, none⟩ = some (.int .i64 s) by
    rw [← World.size_alloc W3 (.cells #[.int .i64 La, .int .i64 (n : Int), .slice a es.length c] 24)]; simp [go_sem])
  have hZ5 : ((W3.alloc (.cells #[.int .i64 La, .int .i64 (n : Int), .slice a es.length c] 24)).alloc (.cells #[.int .i64 s] 3)).heap.size = Rb + 1 + 2 := by rw [World.size_alloc, World.size_alloc, hZ3]
  have X5 := Lib.hid ((X2.out.alloc (.cells #[.int .i64 La, .int .i64 (n : Int), .slice a es.length c] 24)).alloc (.cells #[.int .i64 s] 3))
  have B5 := Lib.hid (below_more (below_more B2.out (Nat.le_refl _) bg) (Nat.le_refl _) bs)
  obtain ⟨W5, hW5⟩ : ∃ W5, (W3.alloc (.cells #[.int .i64 La, .int .i64 (n : Int), .slice a es.length c] 24)).alloc (.cells #[.int .i64 s] 3) = W5 := ⟨_, rfl⟩
  rw [hZ3] at G5 C5
  rw [hW5] at G5 C5 hZ5 X5 B5 ⊢
  clear hW5 bg bs K2 B2 X2
  obtain ⟨B, hB⟩ : ∃ B, Rb + 1 = B := ⟨_, rfl⟩
  rw [hB] at G5 C5 hZ5 ⊢
  have hSR := S2.out
  have HVE := Lib.hid HVG.out.ok
  refine wpIn_rangeFunc_ownH rfl (by omega) (gf := 65) (lb := #[.pointer (some ⟨B, 0, none⟩), .pointer (some ⟨B + 1, 0, none⟩)]) rfl trivial (enters_of Tryd.func65 (by kernel_rfl) rfl)
    (leaving_stops _ B w W5 La (n : Int) s (.slice a es.length c) es (by omega) HRD.out B5.out (by omega) G5.out C5.out hlen ⟨hs.1, by omega⟩ (vg_from HVG.out) (vg_mono HVG.out)) (fun h h' => h.trans h') (KtG.turn (by omega) (by omega)) (Below.refl _ _) (fun _ => rfl)
    (fun pre X => (∃ u, Boxed X Rb 32 u ∧ X.ownsRow (B + 2) 3 1 u pre.length (intz (idx pre)) ∧ True) ∧ Below w.heap.size w X ∧ B + 2 ≤ X.heap.size)
    (fun _ _ _ => False)
    (fun pre X Y row hs hg hr => ⟨holdsRow_own (B + 2) Rb 32 3 1 (fun pre : List (Lv es s) => pre.length) (fun pre => intz (idx pre)) (fun _ _ => True) pre X Y row hs.1 hg (fun r e => (hr r e).2), hs.2.1.grown hg hs.2.1.size (fun r e => by have := (hr r e).1; omega), Nat.le_trans hs.2.2 hg.size⟩)
    (fun _ _ _ _ _ hs _ _ => hs)
    ⟨⟨_, X5.out, World.ownsRow_nil _ _ _ _, trivial⟩, B5.out, by omega⟩
    (fun x a' X => a' = { tmps := #[.agg #[.int .i64 La, .int .i64 (n : Int), .slice a es.length c], .int .i64 s, .pointer (some ⟨w.heap.size, 0, none⟩), undef, .slice none 0 0, .int .i64 0, .pointer (some ⟨Rb, 0, none⟩), .int .i64 (x.1 : Int), .agg #[.int .i64 La, .int .i64 (n : Int), .slice a es.length c], .bool true, .bool false, .agg #[.int .i64 La, .int .i64 (n : Int), .slice a es.length c], .int .i64 s, .bool true, .bool false, .agg #[.int .i64 La, .int .i64 (n : Int), .slice a es.length c], .int .i64 s, .func (.func 65) #[] #[.pointer (some ⟨B, 0, none⟩), .pointer (some ⟨B + 1, 0, none⟩)], .int .i64 (x.1 : Int), edgV es[x.1]!, undef, undef, undef, undef, undef], defers := [] })
    (fun x a' _ X Y row hs hg hr => hs)
    ?assign ?body ?done ?stop
  case assign =>
    rintro l pre x X K ⟨⟨u, i1, i2, -⟩, i3, i4⟩ hK'
    have HKK := Lib.hid hK'
    have I1 := Lib.hid i1
    have I2 := Lib.hid i2
    obtain ⟨e, he⟩ : ∃ e, es[x.1]! = e := ⟨_, rfl⟩
    rw [he] at HKK ⊢
    clear hK' i1 i2 he
    gi_wp2
    exact HKK.out _ _ (KeepsFrom.refl _ _) ⟨Below.refl _ _, rfl, rfl⟩ ⟨⟨u, I1.out, I2.out, trivial⟩, i3, i4⟩ rfl
  case body =>
    rintro l pre x a' X hl ⟨r, hr⟩ ⟨⟨u, i1, i2, -⟩, i3, i4⟩ rfl hlt
    have x4 := i1.cell
    have x5 := i1.frozen
    have I1 := Lib.hid i1
    have I2 := Lib.hid i2
    have I3 := Lib.hid i3
    obtain ⟨e, he⟩ : ∃ e, es[x.1]! = e := ⟨_, rfl⟩
    rw [he]
    obtain ⟨j, hj⟩ : ∃ j, x.1 = j := ⟨_, rfl⟩
    have HJ := Lib.hid hj
    rw [hj]
    have hown0 := i2
    clear i1 i2 i3 hr he hj
    gi_wp2_with (gi_at_builtin; refine wpListIn_append_own _ rfl _ _ 32 rfl (B + 2) 3 i0 (.int .i64 0) 1 8 Tryd.underlying32 hi hz0 hz1 hz2 rfl (by decide) _ _ _ rfl (hown0.alloc _) ⟨X.heap.size, 0, none⟩ 1 1 [.int .i64 (j : Int)] rfl rfl (World.news_of_block (cs := #[.int .i64 (j : Int)]) (t := 3) (fr := (0, 0)) (heap_alloc_new X _)) (by simp [Value.oneCell']) (by unfold maxLen; omega) (by omega) (by rw [World.size_alloc]; omega) ?_; intro v' w4 hown4 hgrow4 _; (obtain ⟨g', cap', rfl, -, -⟩ := hown4.form (Nat.succ_pos _)); (obtain ⟨hb1, hb2, hb3, hb4, hb5, hb6⟩ := Boxed.appended2 (n₀ := w.heap.size) I1.out (by decide) I2.out i4 (by omega) (by omega) hown4 hgrow4); (have y1 := hb1.cell); (have y2 := hb1.frozen))
    refine ⟨hb4.from _, ⟨hb5, hb6 _ (by omega) (by omega), hb6 _ (by omega) (by omega)⟩, ⟨_, hb2, ?_, trivial⟩, I3.out.trans hb5, ?_⟩
    · rw [List.length_append, List.length_singleton, idx_snoc, HJ.out, intz_snoc]
      exact hb3
    · have := hb4.size
      omega
  case done =>
    rintro D xs X hD hxs ⟨⟨u, i1, i2, -⟩, i3, i4⟩ hDX
    have x4 := i1.cell
    rw [← idx_len, idx_all hxs] at i2
    have I2 := Lib.hid i2
    have I3 := Lib.hid i3
    have IX := Lib.hid hDX
    obtain ⟨a9, c9, rfl⟩ := own_slice i2
    clear i1 i2 i3 hDX hxs
    gi_wp2
    refine ⟨by simp, .inl ⟨_, _, rfl, run_takeDeferred IX.out, ?_⟩⟩
    exact ⟨_, by simp [results, Tryd.results17, go_sem], _, rfl, own_low (ownsRow_putObj I2.out _ IX.out rfl) (by omega), below_put9 I3.out D (by omega) _⟩
  case stop =>
    rintro D cc pre X _ _ h _
    exact h.elim
set_option maxRecDepth 100000 in
set_option maxHeartbeats 6400000 in
theorem out_any (La S s : Int) (es : List E3) (v : Value) (w : World) (hrd : EdgesRd w v es) (hn : es.length ≤ 9223372036854775807) :
    Calls Tryd.prog 17 #[grV La S v, .int .i64 s] w (IOut w (outR La S es s)) := by
  have HV := Lib.hid (fun W h => isValid_any La S es v W h hn)
  have HS := Lib.hid (fun W => isState_any La S v s W)
  have HRD := Lib.hid hrd
  have BO := Lib.hid (below1 w (.cells #[.int .i64 La, .int .i64 S, v] 24))
  have K0 := Lib.hid (BoxG.new w La S v 24)
  by_cases h0 : chkG La S es = 0
  · have H0 := Lib.hid (show (chkG La S es == 0) = true by rw [h0]; rfl)
    by_cases h1 : 0 ≤ s ∧ s < S
    · have hs1 := (chkG_zero h0).s1
      obtain ⟨n, rfl⟩ : ∃ n : Nat, S = (n : Int) := ⟨S.toNat, by omega⟩
      rw [outR_in h0 h1]
      exact out_good La n s es v w hrd (chkG_zero h0) h1
    · have HE := Lib.hid (outR_out h0 h1)
      have H2 := Lib.hid (show inB S s = false from decide_eq_false h1)
      obtain ⟨a, c, rfl⟩ := hrd.form
      clear h0 h1 hrd
      refine (callsIn_wide (n := 8)).1 ?_
      refine callsIn_of_wp_marks Tryd.func17 rfl trivial ?_ rfl
      simp only [Tryd.ntmps17, List.size_toArray, List.length_cons, List.length_nil, Nat.reduceAdd, Nat.reduceSub, Array.replicate_succ, Array.replicate_zero, List.push_toArray, List.append_toArray, List.nil_append, List.cons_append]
      gi_wp2_with (first | (refine ⟨trivial, ?_⟩; gi_at_call 44; (with_reducible refine (callsIn_wide.2 (HV.out _ (HRD.out.keep BO.out))).mono ?_); rintro e W1 ⟨rfl, b1⟩; (rw [H0.out]); (have K1 := Lib.hid (K0.out.keep b1)); (have B1 := Lib.hid (below_more BO.out (Nat.le_refl _) b1)); (clear b1); (obtain ⟨g1, g2, g3⟩ := id K1.out)) | (refine ⟨trivial, ?_⟩; gi_at_call 40; (with_reducible refine (callsIn_wide.2 (HS.out _)).mono ?_); rintro e W2 ⟨rfl, b2⟩; (rw [H2.out]); (have B2 := Lib.hid (below_more B1.out (Nat.le_refl _) b2)); (clear b2)))
      refine marks_leave (B := w.heap.size) (fun X => Below w.heap.size w X) ?_ ?_ [] W2 trivial B2.out
      · rintro X r x2 hr hX
        exact below_put9 x2 r hr _
      · rintro X x2
        exact ⟨.tuple #[.slice none 0 0, .int .i64 25], by simp [results, Tryd.results17, go_sem], _, by rw [HE.out], by rw [HE.out]; exact ints_nil _ _, x2⟩
  · have HE := Lib.hid (show outR La S es s = ([], 1) by unfold outR; rw [if_neg h0])
    have H0 := Lib.hid (show (chkG La S es == 0) = false by simpa using h0)
    obtain ⟨a, c, rfl⟩ := hrd.form
    clear h0 hrd
    refine (callsIn_wide (n := 8)).1 ?_
    refine callsIn_of_wp_marks Tryd.func17 rfl trivial ?_ rfl
    simp only [Tryd.ntmps17, List.size_toArray, List.length_cons, List.length_nil, Nat.reduceAdd, Nat.reduceSub, Array.replicate_succ, Array.replicate_zero, List.push_toArray, List.append_toArray, List.nil_append, List.cons_append]
    gi_wp2_with (refine ⟨trivial, ?_⟩; gi_at_call 44; (with_reducible refine (callsIn_wide.2 (HV.out _ (HRD.out.keep BO.out))).mono ?_); rintro e W1 ⟨rfl, b1⟩; (rw [H0.out]); (have K1 := Lib.hid (K0.out.keep b1)); (have B1 := Lib.hid (below_more BO.out (Nat.le_refl _) b1)); (clear b1); (obtain ⟨g1, g2, g3⟩ := id K1.out))
    refine marks_leave (B := w.heap.size) (fun X => Below w.heap.size w X) ?_ ?_ [] W1 trivial B1.out
    · rintro X r x2 hr hX
      exact below_put9 x2 r hr _
    · rintro X x2
      exact ⟨.tuple #[.slice none 0 0, .int .i64 1], by simp [results, Tryd.results17, go_sem], _, by rw [HE.out], by rw [HE.out]; exact ints_nil _ _, x2⟩
end Go.Proofs.YtiebhalefdpjiaaDoor
