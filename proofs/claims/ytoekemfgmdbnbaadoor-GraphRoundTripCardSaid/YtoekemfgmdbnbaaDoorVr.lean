/- What groovelaw09.awake returns: true. No condition. -/
import Derived.Test.YtoekemfgmdbnbaaDoorVq
namespace Go.Proofs.YtoekemfgmdbnbaaDoor
open Go.RowKit
set_option linter.unusedSimpArgs false
set_option linter.unusedVariables false

abbrev gE : List E3 := [(0, 0, 0), (0, 1, 1), (1, 0, 0)]
abbrev mE : List E3 := [(0, 0, 0), (0, 1, 1), (1, 0, 0), (1, 1, 2)]
theorem edgesLit (W : World) (es : List E3) (h0 : 0 < es.length) (hl : es.length ≤ 1000) : EdgesAt (W.alloc (.cells (ecl es).toArray 40)) W.heap.size (.slice (some ⟨W.heap.size, 0, none⟩) es.length es.length) es :=
  ⟨by rw [ecl_len], .inr ⟨W.heap.size, es.length, (ecl es).toArray, rfl, Nat.le_refl _, heap_alloc_new W _, Nat.le_refl _, by unfold maxLen; omega, by rw [List.size_toArray, ecl_len], by
    show (ecl es).take (es.length * 3) = _; rw [← ecl_len, List.take_length]⟩⟩
theorem intsLit (W : World) (l : List Int) (h0 : 0 < l.length) (hl : l.length ≤ 1000) : IntsAt (W.alloc (.cells (intz l).toArray 3)) W.heap.size (.slice (some ⟨W.heap.size, 0, none⟩) l.length l.length) l :=
  ⟨by rw [intz_len, Nat.mul_one], .inr ⟨W.heap.size, l.length, (intz l).toArray, rfl, Nat.le_refl _, heap_alloc_new W _, Nat.le_refl _, by unfold maxLen; omega, by rw [List.size_toArray, intz_len, Nat.mul_one], by
    rw [Nat.mul_one]; show (intz l).take l.length = _; rw [← intz_len, List.take_length]⟩⟩
/-- slices.Equal of two lists of integers. -/
theorem intsEq_any {W : World} {v v' : Value} {l m : List Int} (h : IntsRd W v l) (h' : IntsRd W v' m) (hl : l.length ≤ 1000000) (hm : m.length ≤ 9223372036854775807) :
    Calls Tryd.prog 14 #[v, v'] W fun e w' => e = .returned (.bool (decide (l = m))) ∧ Below W.heap.size W w' := by
  rcases Nat.eq_zero_or_pos l.length with h0 | h0
  · obtain ⟨a, c, rfl⟩ := h.form
    obtain ⟨a', c', rfl⟩ := h'.form
    obtain rfl : l = [] := List.eq_nil_of_length_eq_zero h0
    refine (Tryd.slices_Equal_int_empty a a' c m.length c' W hm).mono ?_
    rintro e w' ⟨rfl, rfl⟩
    refine ⟨?_, Below.refl _ _⟩
    congr 2
    rw [decide_eq_decide]
    constructor
    · intro h; exact (List.eq_nil_of_length_eq_zero h).symm
    · rintro rfl; rfl
  · obtain ⟨b1, o1, c1, rfl, -⟩ := h.at (List.getElem?_eq_getElem h0)
    rcases Nat.eq_zero_or_pos m.length with h1 | h1
    · obtain ⟨a', c', rfl⟩ := h'.form
      obtain rfl : m = [] := List.eq_nil_of_length_eq_zero h1
      have hne : ¬ l = [] := fun e => by rw [e] at h0; exact absurd h0 (by decide)
      have HE := Lib.hid (show decide (l = []) = false from decide_eq_false hne)
      have d1 : ((l.length : Int) != 0) = true := by simp; omega
      clear h h' hne h0
      go_enter Tryd.func14, Tryd.ntmps14
      go_wp2_with fail
      go_ret
      exact ⟨by rw [HE.out]; rfl, Below.refl _ _⟩
    · obtain ⟨b2, o2, c2, rfl, -⟩ := h'.at (List.getElem?_eq_getElem h1)
      have hc : ∀ {b o c : Nat} {k : List Int}, IntsRd W (.slice (some ⟨b, o, none⟩) k.length c) k → ∀ j, j < k.length → W.cell? ⟨b, o + j, none⟩ = some (.int .i64 (k.getD j 0)) := fun hh j hj => by
        obtain ⟨b9, o9, c9, hv, k9⟩ := hh.at (List.getElem?_eq_getElem hj)
        injection hv with e1 e2 e3
        injection e1 with e1
        injection e1 with e1 e4
        subst e1
        subst e4
        rw [k9, List.getD_eq_getElem?_getD, List.getElem?_eq_getElem hj]; rfl
      refine (Tryd.slices_Equal_int b1 o1 l.length c1 b2 o2 m.length c2 l m W (Nat.le_refl _) (Nat.le_refl _) (by omega) hm (hc h) (hc h')).mono ?_
      rintro e w' ⟨rfl, q, rfl⟩
      refine ⟨?_, below_drewM (Below.refl _ _) q⟩
      rw [List.take_length, List.take_length]
      congr 2
      rw [Bool.eq_iff_iff, beq_iff_eq, decide_eq_true_iff]
set_option maxRecDepth 100000 in
set_option maxHeartbeats 1600000 in
theorem golden_any (w : World) : Calls Tryd.prog 10 #[] w fun e w' => ∃ g, e = .returned (grV 2 2 (.slice (some ⟨g, 0, none⟩) 3 3)) ∧ EdgesAt w' w.heap.size (.slice (some ⟨g, 0, none⟩) 3 3) gE ∧ Below w.heap.size w w' := by
  have hs : (w.alloc (.cells #[.int .i64 2, .int .i64 2, .slice (some ⟨w.heap.size + 1, 0, none⟩) 3 3] 24)).heap.size = w.heap.size + 1 := World.size_alloc ..
  have he : EdgesAt ((w.alloc (.cells #[.int .i64 2, .int .i64 2, .slice (some ⟨w.heap.size + 1, 0, none⟩) 3 3] 24)).alloc (.cells #[.int .i64 0, .int .i64 0, .int .i64 0, .int .i64 0, .int .i64 1, .int .i64 1, .int .i64 1, .int .i64 0, .int .i64 0] 40)) (w.heap.size + 1) (.slice (some ⟨w.heap.size + 1, 0, none⟩) 3 3) gE := by
    have k := edgesLit (w.alloc (.cells #[.int .i64 2, .int .i64 2, .slice (some ⟨w.heap.size + 1, 0, none⟩) 3 3] 24)) gE (by decide) (by decide)
    rw [hs] at k
    exact k
  have HE := Lib.hid he
  have hb := Lib.hid ((below1 w (.cells #[.int .i64 2, .int .i64 2, .slice (some ⟨w.heap.size + 1, 0, none⟩) 3 3] 24)).alloc (by rw [hs]; omega) (.cells #[.int .i64 0, .int .i64 0, .int .i64 0, .int .i64 0, .int .i64 1, .int .i64 1, .int .i64 1, .int .i64 0, .int .i64 0] 40))
  clear he
  go_enter Tryd.func10, Tryd.ntmps10
  go_wp2
  exact bodyPost_ret (v := grV 2 2 (.slice (some ⟨w.heap.size + 1, 0, none⟩) 3 3)) (by simp [results, Tryd.results10, go_sem]) rfl ⟨_, rfl, own_low HE.out (Nat.le_succ _), hb.out⟩
theorem vgG : VG 2 2 gE := chkG_zero (by decide)
theorem vgM : VG 2 3 mE := chkG_zero (by decide)
theorem essM {f : Nat → Bool} (h : Ess 3 mE f) : mems 3 f = [0, 1] := by
  have h2 : f 2 = false := by
    rw [← h.fix 2 (by decide)]
    unfold passF leftF bothF
    simp
  have hT : Closed 3 mE (fun i => decide (i < 2)) := fun i hi h => by
    have : i = 0 ∨ i = 1 := by simp at h; omega
    rcases this with rfl | rfl <;> decide
  have h0 := h.most _ hT 0 (by decide) (by decide)
  have h1 := h.most _ hT 1 (by decide) (by decide)
  unfold mems
  rw [show List.range 3 = [0, 1, 2] from rfl, List.filter_cons, h0, List.filter_cons, h1, List.filter_cons, h2]
  rfl
theorem itoa_small : ItoaOK 99 (fun _ => True) := fun d W hd _ => (Tryd.strconv_Itoa_small d (by omega) W).mono fun e w' ⟨he, hw⟩ => ⟨he, by rw [hw]; exact Below.refl _ _⟩
abbrev gT : List UInt8 := [103, 114, 97, 112, 104, 32, 50, 32, 50, 10, 48, 32, 48, 32, 48, 10, 48, 32, 49, 32, 49, 10, 49, 32, 48, 32, 48, 10]
theorem prG_golden : prG 2 2 gE = gT := by
  have e0 : Lib.decDigits 0 = [48] := by rw [Lib.decDigits_one (by decide)]; rfl
  have e1 : Lib.decDigits 1 = [49] := by rw [Lib.decDigits_one (by decide)]; rfl
  have e2 : Lib.decDigits 2 = [50] := by rw [Lib.decDigits_one (by decide)]; rfl
  show gph ++ lineT [2, 2] ++ (lineT [0, 0, 0] ++ (lineT [0, 1, 1] ++ (lineT [1, 0, 0] ++ []))) = gT
  unfold lineT jnT
  simp only [List.flatMap_cons, List.flatMap_nil, e0, e1, e2]
  rfl
theorem awk_det (W : World) (v : Value) (h : EdgesRd W v gE) : Calls Tryd.prog 11 #[grV 2 2 v] W fun e w' => e = .returned (.tuple #[.bool true, .int .i64 0]) ∧ Below W.heap.size W w' := by
  have k := deterministic_any 2 2 gE v W h (by decide)
  rw [show detR 2 2 gE = (true, 0) by decide] at k
  exact k
theorem awk_print (W : World) (v : Value) (h : EdgesRd W v gE) : Calls Tryd.prog 6 #[grV 2 2 v] W fun e w' => e = .returned (.tuple #[.string ⟨#[103, 114, 97, 112, 104, 32, 50, 32, 50, 10, 48, 32, 48, 32, 48, 10, 48, 32, 49, 32, 49, 10, 49, 32, 48, 32, 48, 10]⟩, .int .i64 0]) ∧ Below W.heap.size W w' := by
  have k := print_good (by decide) itoa_small 2 2 gE v W (fun _ _ _ _ => trivial) h vgG trivial (by decide)
  rw [prG_golden] at k
  exact k
theorem ecl_enc {es : List E3} {q r : Nat} {u : Value} (hq : q < es.length) (hr : r < 3) (h : (ecl es)[q * 3 + r]? = some u) : (encE es[q]!)[r]? = some u := by
  have e0 : es[q]? = some es[q] := List.getElem?_eq_getElem hq
  have e1 : es[q]! = es[q] := by rw [List.getElem!_eq_getElem?_getD, e0]; rfl
  obtain ⟨k0, k1, k2⟩ := ecl_at e0
  rw [e1]
  rcases (show r = 0 ∨ r = 1 ∨ r = 2 by omega) with rfl | rfl | rfl
  · exact k0.symm.trans h
  · exact k1.symm.trans h
  · exact k2.symm.trans h
set_option maxRecDepth 100000 in
theorem awk_clone (W : World) (b off c : Nat) (h : EdgesRd W (.slice (some ⟨b, off, none⟩) 3 c) gE) : Calls Tryd.prog 12 #[.slice (some ⟨b, off, none⟩) 3 c] W fun e w' => ∃ v', e = .returned v' ∧ EdgesAt w' W.heap.size v' gE ∧ Below W.heap.size W w' := by
  obtain ⟨i0, hi, hz0, hz1, hz2⟩ := info_parts Tryd.infoEdge
  refine (AnyE.slices_Clone Tryd.cloneE i0 (.agg #[.int .i64 0, .int .i64 0, .int .i64 0]) 3 24 hi hz0 hz1 hz2 rfl (by decide) Tryd.sizeOf40 b off 3 c (ecl gE) W rfl (by unfold maxLen; omega) (by omega) (fun j u hu => ?_) (fun u hu => ?_)).mono ?_
  · have hj : j < 9 := (List.getElem?_eq_some_iff.1 hu).1
    obtain ⟨b2, o2, c2, hv, hc⟩ := h.cells (by decide)
    injection hv with e1 e2 e3
    injection e1 with e1
    injection e1 with e1 e4
    subst e1
    subst e4
    have h3 : j / 3 < 3 := by omega
    have := hc (j / 3) h3 (j % 3) u (ecl_enc h3 (Nat.mod_lt _ (by decide)) (by rw [show j / 3 * 3 + j % 3 = j by omega]; exact hu))
    rw [show off + j / 3 * 3 + j % 3 = off + j by omega] at this
    exact this
  · simp [ecl, encE] at hu
    rcases hu with rfl | rfl | rfl <;> rfl
  · rintro e w' ⟨v', rfl, h1, -, h3⟩
    exact ⟨v', rfl, h1, h3⟩
theorem awk_ess (W : World) (v : Value) (h : EdgesRd W v mE) : Calls Tryd.prog 13 #[grV 2 3 v] W fun e w' => ∃ v u, e = .returned (.tuple #[grV 2 2 v, u, .int .i64 0]) ∧ EdgesAt w' W.heap.size v gE ∧ IntsAt w' W.heap.size u [0, 1] ∧ Below W.heap.size W w' := by
  refine (essential_good 2 3 mE v W h vgM).mono ?_
  rintro e w' ⟨f, v2, u, hf, rfl, h1, h2, h3⟩
  rw [essM hf] at h1 h2 ⊢
  exact ⟨v2, u, rfl, by rw [show partE [0, 1] mE = gE by decide] at h1; exact h1, h2, h3⟩
theorem awk_same (W : World) (v1 v2 : Value) (h1 : EdgesRd W v1 gE) (h2 : EdgesRd W v2 gE) : Calls Tryd.prog 8 #[grV 2 2 v1, grV 2 2 v2] W fun e w' => e = .returned (.bool true) ∧ Below W.heap.size W w' := by
  have k := same_any 2 2 2 2 gE gE v1 v2 W h1 h2 (by decide) (by decide)
  rw [show sameG 2 2 gE 2 2 gE = true by decide] at k
  exact k
theorem awk_eq (W : World) (v1 : Value) (B : Nat) (h1 : IntsAt W B v1 [0, 1]) : Calls Tryd.prog 14 #[v1, .slice (some ⟨W.heap.size, 0, none⟩) 2 2] (W.alloc (.cells #[.int .i64 0, .int .i64 1] 3)) fun e w' => e = .returned (.bool true) ∧ Below W.heap.size W w' := by
  have k2 := intsLit W [0, 1] (by decide) (by decide)
  have k := intsEq_any (IntsAt.rd (h1.keep (below1 W (.cells #[.int .i64 0, .int .i64 1] 3)))) (IntsAt.rd k2) (by decide) (by decide)
  refine k.mono ?_
  rintro e w' ⟨rfl, hb⟩
  exact ⟨rfl, below_more (below1 W _) (Nat.le_refl _) hb⟩
set_option maxRecDepth 100000 in
set_option maxHeartbeats 6400000 in
theorem awake_any (w : World) : Calls Tryd.prog 5 #[] w fun e w' => e = .returned (.bool true) ∧ Below w.heap.size w w' := by
  obtain ⟨i0, hi, hz0, hz1, hz2⟩ := info_parts Tryd.infoEdge
  go_enter Tryd.func5, Tryd.ntmps5
  go_wp2_with (first
    | (go_at_call 10; (with_reducible refine (golden_any _).mono ?_); rintro e0 W1 ⟨g, rfl, i1, b1⟩; (have I1 := Lib.hid (i1.keep (below1 W1 (.cells #[.int .i64 2, .int .i64 2, .slice (some ⟨g, 0, none⟩) 3 3] 24)))); (have X1 := Lib.hid (BoxG.new W1 2 2 (.slice (some ⟨g, 0, none⟩) 3 3) 24)); (have B1 := Lib.hid (below_more b1 (Nat.le_refl _) (below1 W1 (.cells #[.int .i64 2, .int .i64 2, .slice (some ⟨g, 0, none⟩) 3 3] 24)))); (clear i1 b1))
    | (go_at_call 11; (with_reducible refine (awk_det _ _ (EdgesAt.rd I1.out)).mono ?_); rintro e0 W2 ⟨rfl, b2⟩; (have I2 := Lib.hid (I1.out.keep b2)); (have X2 := Lib.hid (X1.out.keep b2)); (have B2 := Lib.hid (below_more B1.out (Nat.le_refl _) b2)); (clear b2 I1 X1 B1); (obtain ⟨g1, g2, g3⟩ := id X2.out))
    | (go_at_call 6; (with_reducible refine (awk_print _ _ (EdgesAt.rd I2.out)).mono ?_); rintro e0 W3 ⟨rfl, b3⟩; (have I3 := Lib.hid (I2.out.keep b3)); (have X3 := Lib.hid (X2.out.keep b3)); (have B3 := Lib.hid (below_more B2.out (Nat.le_refl _) b3)); (clear b3 I2 X2 B2 g1 g2 g3); (obtain ⟨g1, g2, g3⟩ := id X3.out))
    | (go_at_call 12; (with_reducible refine (awk_clone _ _ _ _ (EdgesAt.rd I3.out)).mono ?_); rintro e0 W4 ⟨v4, rfl, i4, b4⟩; (obtain ⟨a4, c4, rfl⟩ := (show ∃ a c, v4 = .slice a 3 c from i4.slice)); (have C4 := i4); (unfold EdgesAt at C4); (have H4 := Lib.hid i4.lt); (have B4 := Lib.hid b4); (clear b4 i4 g1 g2 g3))
    | (at_builtin; refine wpList_append_own_at _ rfl _ _ 22 rfl W3.heap.size 40 i0 (.agg #[.int .i64 0, .int .i64 0, .int .i64 0]) 3 24 Tryd.underlying22 hi hz0 hz1 hz2 rfl (by decide) _ 3 (ecl gE) rfl (World.ownsRow.alloc C4 _) ⟨W4.heap.size, 0, none⟩ 1 1 [.int .i64 1, .int .i64 1, .int .i64 2] rfl rfl ?c1 ?c2 ?c3 ?c4 ?c5 ?_))
  case c1 => exact cell_three_new _ _ _ _ _
  case c2 => intro u hu; simp at hu; rcases hu with rfl | rfl <;> rfl
  case c3 => unfold maxLen; omega
  case c4 => omega
  case c5 => rw [World.size_alloc]; have := B4.out.size; omega
  intro v5 W5 hown5 hgrow _ hv5
  have b5 : Below W3.heap.size W3 W5 := (B4.out.alloc B4.out.size _).grown hgrow (by rw [World.size_alloc]; have := B4.out.size; omega) (fun k hk => (H4.out k hk).1)
  have m5 : EdgesAt W5 W3.heap.size v5 mE := hown5
  obtain ⟨a5, c5, rfl⟩ := (show ∃ a c, v5 = .slice a 4 c from m5.slice)
  have bm := below1 W5 (.cells #[.int .i64 2, .int .i64 3, .slice a5 4 c5] 24)
  have I5 := Lib.hid ((I3.out.keep b5).keep bm)
  have X5 := Lib.hid ((X3.out.keep b5).keep bm)
  have B5 := Lib.hid (below_more (below_more B3.out (Nat.le_refl _) b5) (Nat.le_refl _) bm)
  have M5 := Lib.hid (m5.keep bm)
  clear hown5 hgrow hv5 b5 m5 I3 X3 B3 C4 H4 B4 bm
  go_wp2_with (first
    | (go_at_call 13; (with_reducible refine (awk_ess _ _ (EdgesAt.rd M5.out)).mono ?_); rintro e0 W6 ⟨v6, u6, rfl, m6, s6, b6⟩; (obtain ⟨a6, c6, rfl⟩ := (show ∃ a c, v6 = .slice a 3 c from m6.slice)); (obtain ⟨d6, f6, rfl⟩ := (show ∃ a c, u6 = .slice a 2 c from s6.slice)); (have bm := below1 W6 (.cells #[.int .i64 2, .int .i64 2, .slice a6 3 c6] 24)); (have I6 := Lib.hid ((I5.out.keep b6).keep bm)); (have X6 := Lib.hid ((X5.out.keep b6).keep bm)); (have B6 := Lib.hid (below_more (below_more B5.out (Nat.le_refl _) b6) (Nat.le_refl _) bm)); (have M6 := Lib.hid (m6.keep bm)); (have S6 := Lib.hid (s6.keep bm)); (clear m6 s6 b6 bm I5 X5 B5 M5); (obtain ⟨g1, g2, g3⟩ := id X6.out))
    | (go_at_call 8; (with_reducible refine (awk_same _ _ _ (EdgesAt.rd M6.out) (EdgesAt.rd I6.out)).mono ?_); rintro e0 W7 ⟨rfl, b7⟩; (have S7 := Lib.hid (S6.out.keep b7)); (have B7 := Lib.hid (below_more B6.out (Nat.le_refl _) b7)); (clear b7 I6 X6 B6 M6 S6 g1 g2 g3))
    | (go_at_call 14; (with_reducible refine (awk_eq _ _ _ S7.out).mono ?_); rintro e0 W8 ⟨rfl, b8⟩; (have B8 := Lib.hid (below_more B7.out (Nat.le_refl _) b8)); (clear b8 B7 S7)))
  go_ret
  exact ⟨rfl, B8.out⟩
end Go.Proofs.YtoekemfgmdbnbaaDoor
