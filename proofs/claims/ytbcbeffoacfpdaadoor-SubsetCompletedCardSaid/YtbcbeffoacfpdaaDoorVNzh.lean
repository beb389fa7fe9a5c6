/- SubsetCompleted returns true. Conditions: the edges and the labels can be read; the library's table reads as its text lays it. SubsetCompleted returns true for every input: the law's row, and its card, tied to the program's text. Conditions: those of the row: its tables read as listed (the card ties them to the program's text). -/
import Derived.Test.YtbcbeffoacfpdaaDoorQ28
import Derived.Test.YtbcbeffoacfpdaaDoorQ24

namespace Go.Proofs.YtbcbeffoacfpdaaDoor
open Go.RowKit
set_option linter.unusedSimpArgs false
set_option linter.unusedVariables false

set_option maxRecDepth 100000 in
set_option maxHeartbeats 3200000 in
theorem completed_great (La S : Int) (es : List E3) (v : Value) (vp : Value) (s : Nat) (pl : List Nat) (w : World) (hrd : EdgesRd w v es) (hn : es.length ≤ 9223372036854775807) (hpr : BysRd w vp pl) (hT : TabD w) (h : greatB S es.length = true ∨ chkG La S es ≠ 0 ∨ S = 0) :
    Calls Tryd.prog 7 #[grV La S v, .int .u8 (s : Int), vp] w fun e w' => e = .returned (.bool true) ∧ Below w.heap.size w w' := by
  have HCK := Lib.hid (fun W h => gcheck_any La S es v W h hn)
  have HRD := Lib.hid hrd
  obtain ⟨a, c, rfl⟩ := hrd.form
  obtain ⟨a3, c3, rfl, -⟩ := hpr
  have HG := Lib.hid (fun W => great12_any La S a es.length c W)
  have HA := Lib.hid (fun W h => awake12_any W h)
  have HT := Lib.hid hT
  have B0 := Lib.hid (below1 w (.cells #[.int .i64 La, .int .i64 S, .slice a es.length c] 24))
  have G0 := Lib.hid (BoxG.new w La S (.slice a es.length c) 24)
  obtain ⟨x1, x2, x3⟩ := id G0.out
  clear hrd hT
  cases hg : greatB S es.length
  · rw [hg] at HG
    have h := h.resolve_left (by rw [hg]; exact Bool.false_ne_true)
    clear hg
    by_cases hz : chkG La S es = 0
    · obtain rfl : S = 0 := h.resolve_left (fun h => h hz)
      rw [hz] at HCK
      clear h hz
      go_enter Tryd.func7, Tryd.ntmps7
      go_wp2_with (first
        | (go_at_call 9; (refine (HG.out _).mono ?_); rintro e W1 ⟨rfl, b1⟩; (have B1 := Lib.hid (below_more B0.out (Nat.le_refl _) b1)); (have G1 := Lib.hid (G0.out.keep b1)); clear b1 x1 x2 x3; (obtain ⟨x1, x2, x3⟩ := id G1.out))
        | (go_at_call 29; (refine (HCK.out _ (HRD.out.keep B1.out)).mono ?_); rintro e W2 ⟨rfl, b2⟩; (have B2 := Lib.hid (B1.out.trans (b2.mono B1.out.size))); (obtain ⟨y1, y2, y3⟩ := G1.out.keep b2); clear b2 x1 x2 x3)
        | (go_at_call 10; (refine (HA.out _ (HT.out.keep B2.out)).mono ?_); rintro e W3 ⟨rfl, b3⟩; (have B3 := Lib.hid (B2.out.trans (b3.mono B2.out.size)))))
      go_ret
      exact ⟨rfl, B3.out⟩
    · obtain ⟨z, hzz⟩ : ∃ z, chkG La S es = z := ⟨_, rfl⟩
      simp only [hzz] at HCK
      rw [hzz] at hz
      have d1 : (z != 0) = true := by simpa using hz
      clear h hz hzz
      go_enter Tryd.func7, Tryd.ntmps7
      go_wp2_with (first
        | (go_at_call 9; (refine (HG.out _).mono ?_); rintro e W1 ⟨rfl, b1⟩; (have B1 := Lib.hid (below_more B0.out (Nat.le_refl _) b1)); (have G1 := Lib.hid (G0.out.keep b1)); clear b1 x1 x2 x3; (obtain ⟨x1, x2, x3⟩ := id G1.out))
        | (go_at_call 29; (refine (HCK.out _ (HRD.out.keep B1.out)).mono ?_); rintro e W2 ⟨rfl, b2⟩; (have B2 := Lib.hid (B1.out.trans (b2.mono B1.out.size))); clear b2 x1 x2 x3)
        | (go_at_call 10; (refine (HA.out _ (HT.out.keep B2.out)).mono ?_); rintro e W3 ⟨rfl, b3⟩; (have B3 := Lib.hid (B2.out.trans (b3.mono B2.out.size)))))
      go_ret
      exact ⟨rfl, B3.out⟩
  · rw [hg] at HG
    clear h hg
    go_enter Tryd.func7, Tryd.ntmps7
    go_wp2_with (first
      | (go_at_call 9; (refine (HG.out _).mono ?_); rintro e W1 ⟨rfl, b1⟩; (have B1 := Lib.hid (below_more B0.out (Nat.le_refl _) b1)))
      | (go_at_call 10; (refine (HA.out _ (HT.out.keep B1.out)).mono ?_); rintro e W3 ⟨rfl, b3⟩; (have B3 := Lib.hid (B1.out.trans (b3.mono B1.out.size)))))
    go_ret
    exact ⟨rfl, B3.out⟩
set_option maxRecDepth 100000 in
set_option maxHeartbeats 3200000 in
theorem completed_bad (La n : Nat) (es : List E3) (v vp : Value) (s : Nat) (pl : List Nat) (w : World) (hrd : EdgesRd w v es) (hpr : BysRd w vp pl) (hT : TabD w) (hg : greatB (n : Int) es.length = false) (hvg : VG (La : Int) (n : Int) es) (hn0 : n ≠ 0) (hd : detE es = false) :
    Calls Tryd.prog 7 #[grV (La : Int) (n : Int) v, .int .u8 (s : Int), vp] w fun e w' => e = .returned (.bool true) ∧ Below w.heap.size w w' := by
  have hn : es.length ≤ 1024 := hvg.len
  have HCK : Hid (∀ W, EdgesRd W v es → Calls Tryd.prog 29 #[grV (La : Int) (n : Int) v] W fun e W' => e = .returned (.int .i64 0) ∧ Below W.heap.size W W') := Lib.hid (fun W h => by
    refine (gcheck_any La n es v W h (by omega)).mono ?_
    rw [hvg.chk]
    exact fun e W' h => h)
  have HDT : Hid (∀ W, EdgesRd W v es → Calls Tryd.prog 25 #[grV (La : Int) (n : Int) v] W fun e W' => e = .returned (.tuple #[.bool false, .int .i64 0]) ∧ Below W.heap.size W W') := Lib.hid (fun W h => by
    refine (deterministic_any La n es v W h (by omega)).mono ?_
    rw [show detR (La : Int) (n : Int) es = (false, 0) by unfold detR; rw [if_pos hvg.chk, hd]]
    exact fun e W' h => h)
  have HCB := Lib.hid (fun W h => Complete_bad La n es v W h hvg hd)
  have HRD := Lib.hid hrd
  have HT := Lib.hid hT
  obtain ⟨a, c, hv⟩ := hrd.form
  subst hv
  obtain ⟨a3, c3, rfl, -⟩ := hpr
  have HG := Lib.hid (fun W => great12_any (La : Int) (n : Int) a es.length c W)
  rw [hg] at HG
  have HA := Lib.hid (fun W h => awake12_any W h)
  have B0 := Lib.hid (below1 w (.cells #[.int .i64 (La : Int), .int .i64 (n : Int), .slice a es.length c] 24))
  have G0 := Lib.hid (BoxG.new w (La : Int) (n : Int) (.slice a es.length c) 24)
  obtain ⟨x1, x2, x3⟩ := id G0.out
  have d2 : ((n : Int) == 0) = false := by rw [beq_eq_false_iff_ne]; omega
  clear hrd hT hg hvg hd
  go_enter Tryd.func7, Tryd.ntmps7
  go_wp2_with (first
    | (go_at_call 9; (with_reducible refine (HG.out _).mono ?_); rintro e W1 ⟨rfl, b1⟩; (have B1 := Lib.hid (below_more B0.out (Nat.le_refl _) b1)); (have G1 := Lib.hid (G0.out.keep b1)); clear b1 x1 x2 x3; (obtain ⟨x1, x2, x3⟩ := id G1.out))
    | (go_at_call 29; (with_reducible refine (HCK.out _ (HRD.out.keep B1.out)).mono ?_); rintro e W2 ⟨rfl, b2⟩; (have B2 := Lib.hid (B1.out.trans (b2.mono B1.out.size))); (have G2 := Lib.hid (G1.out.keep b2)); clear b2 x1 x2 x3; (obtain ⟨x1, x2, x3⟩ := id G2.out))
    | (go_at_call 21; (with_reducible refine (HCB.out _ (HRD.out.keep B2.out)).mono ?_); rintro e W3 ⟨rfl, b3⟩;
        (have k1 := Lib.hid (below1 W3 (.cells #[.int .i64 0, .slice none 0 0] 43)));
        (have k3 := Lib.hid (below_more b3 (Nat.le_refl _) k1.out));
        (have B3 := Lib.hid (B2.out.trans (k3.out.mono B2.out.size)));
        (have G3 := Lib.hid (G2.out.keep k3.out));
        (have Y3 := Lib.hid (heap_alloc_new W3 (.cells #[.int .i64 0, .slice none 0 0] 43)));
        clear x1 x2 x3 b3; (obtain ⟨x1, x2, x3⟩ := id G3.out))
    | (go_at_call 25; (with_reducible refine (HDT.out _ (HRD.out.keep B3.out)).mono ?_); rintro e W9 ⟨rfl, b4⟩; (have B4 := Lib.hid (B3.out.trans (b4.mono B3.out.size))); (have Y4 := Lib.hid ((b4.block W3.heap.size (by rw [World.size_alloc]; omega)).trans Y3.out)); (have q1 : W9.cell? ⟨W3.heap.size, 0, none⟩ = some (.int .i64 0) := by unfold World.cell?; rw [Y4.out]; rfl); (have q2 : W9.cell? ⟨W3.heap.size, 1, none⟩ = some (.slice none 0 0) := by unfold World.cell?; rw [Y4.out]; rfl); clear b4 x1 x2 x3)
    | (go_at_call 10; (with_reducible refine (HA.out _ (HT.out.keep B4.out)).mono ?_); rintro e W11 ⟨rfl, b11⟩; (have B11 := Lib.hid (B4.out.trans (b11.mono B4.out.size)))))
  go_ret
  exact ⟨rfl, B11.out⟩
theorem subsetCompleted_any (La S : Int) (es : List E3) (v vp : Value) (s : Nat) (pl : List Nat) (w : World) (hrd : EdgesRd w v es) (hn : es.length ≤ 9223372036854775807) (hpr : BysRd w vp pl) (hT : TabD w) (hs : s < 256) :
    Calls Tryd.prog 7 #[grV La S v, .int .u8 (s : Int), vp] w fun e w' => e = .returned (.bool true) ∧ Below w.heap.size w w' := by
  by_cases h : greatB S es.length = true ∨ chkG La S es ≠ 0 ∨ S = 0
  · exact completed_great La S es v vp s pl w hrd hn hpr hT h
  · have hg : greatB S es.length = false := by
      cases hg : greatB S es.length
      · rfl
      · exact absurd (.inl hg) h
    have hz : chkG La S es = 0 := by
      by_cases h2 : chkG La S es = 0
      · exact h2
      · exact absurd (.inr (.inl h2)) h
    have hS : S ≠ 0 := fun e => h (.inr (.inr e))
    have hvg := chkG_zero hz
    obtain ⟨L, rfl⟩ : ∃ L : Nat, La = (L : Int) := ⟨La.toNat, by have := hvg.l1; omega⟩
    obtain ⟨n, rfl⟩ : ∃ n : Nat, S = (n : Int) := ⟨S.toNat, by have := hvg.s1; omega⟩
    have hn0 : n ≠ 0 := by omega
    cases hd : detE es with
    | false => exact completed_bad L n es v vp s pl w hrd hpr hT hg hvg hn0 hd
    | true =>
      by_cases hm : es.length = n * L
      · exact completed_good L n es v vp s pl w n [] (.inl ⟨rfl, rfl, hm⟩) hrd hpr hT hg hvg hn0 hd hs
      · exact completed_good L n es v vp s pl w (n + 1) [(n : Int)] (.inr ⟨rfl, rfl, hm⟩) hrd hpr hT hg hvg hn0 hd hs
end Go.Proofs.YtbcbeffoacfpdaaDoor

namespace Go.Proofs.YtbcbeffoacfpdaaDoor.subsetCompleted
open Go.ChangeShapes Go.WideShapes Go.ChangeAt Go.RowKit
open Go.ChangeMaps (open_string shut_string)
set_option maxRecDepth 100000
set_option linter.unusedVariables false

theorem contract (H : Type) (enc : TypeId × Value → H) (W : World) (args : Array Value) (ds gs : List (DataW H)) (before : List MemPlace)
    (hval : ∀ (j : Nat) t v, Tryd.f7.params[j]? = some t → args[j]? = some v → Value.okWide Tryd.prog W .any 0 t v)
    (hW : DataW.Whole enc Tryd.prog Tryd.f7.params.toList Rows.subsetCompletedSpec.vars false W args.toList ds gs before) (hL : laidMetH Tryd.prog Rows.subsetCompletedRow.laid W) :
    Calls Tryd.prog 7 args W fun e W' => ∃ v, e = .returned v ∧ Rows.subsetCompletedSpec.post enc Tryd.prog Tryd.f7 false true false false W args v W' := by
  have hW' := hW
  obtain ⟨p, q, hA0, hV, rfl, hfz, hnd⟩ := hW
  have hA : DataW.TrodAll enc Tryd.prog W 0 (fun _ => true) true Tryd.f7.params.toList args.toList ds p := hA0
  rw [Tryd.params7] at hA hval
  obtain ⟨v0, vs0, d0, ds0, p0, q0, hargs, rfl, rfl, h0, r0⟩ := trodAll_cons hA
  obtain ⟨v1, vs1, d1, ds1, p1, q1, rfl, rfl, rfl, h1, r1⟩ := trodAll_cons r0
  obtain ⟨v2, vs2, d2, ds2, p2, q2, rfl, rfl, rfl, h2, r2⟩ := trodAll_cons r1
  obtain ⟨rfl, rfl, rfl⟩ := trodAll_nil r2
  obtain rfl : args = #[v0, v1, v2] := by cases args; simp_all
  obtain ⟨rfl, rfl⟩ := trodVars_none hV
  obtain ⟨L0, S0, u0, es0, rfl, k0, l0⟩ := graph_open (hval 0 24 v0 rfl rfl) h0
  have t0 : ∀ x ∈ p0, x.block < W.heap.size := fun x hx => by simpa using hW'.lt x (by simp [hx])
  obtain ⟨n1, rfl, rfl, rfl, w1⟩ := open_int Tryd.underlying5 (hval 1 5 v1 rfl rfl) h1
  have b1 : (IntKind.min .u8) ≤ n1 ∧ n1 ≤ (IntKind.max .u8) := by simpa [Lit.wf] using w1
  simp [IntKind.min, IntKind.max, IntKind.signed, IntKind.bits] at b1
  obtain ⟨m1, rfl⟩ : ∃ m : Nat, n1 = (m : Int) := ⟨n1.toNat, by omega⟩
  obtain ⟨bs2, k2⟩ := bytes_open (hval 2 56 v2 rfl rfl) h2
  have t2 : ∀ x ∈ p2, x.block < W.heap.size := fun x hx => by simpa using hW'.lt x (by simp [hx])
  clear hA0
  refine (subsetCompleted_any L0 S0 es0 u0 v2 m1 bs2 W k0 l0 k2 (tabD_laid hL) (by omega)).mono fun e W' ⟨he, hb⟩ => ?_
  subst he
  refine ⟨_, rfl, _, _, _, [], (p0 ++ (([] : List MemPlace) ++ (p2 ++ []))), [], hW', ?_, ?_, ?_, hb.frame _, fun h => by cases h⟩
  · exact trodAll_cons_mk (p := []) (shut_bool Tryd.underlying4 true) trodAll_mk0
  · exact (trodAll_cons_mk (graph_keep h0 hb t0) (trodAll_cons_mk (p := []) (shut_int Tryd.underlying5 w1) (trodAll_cons_mk (bytes_keep h2 hb t2) trodAll_mk0)))
  · rfl

theorem reads (os : Os) {H : Type} (enc : TypeId × Value → H) : ∃ places, DataW.whole enc Tryd.prog ((laidWorldN os).forCall (fun _ _ => 0) ⟨#[], #[.agg #[.int .i64 0, .int .i64 0, .slice none 0 0], .int .u8 0, .slice none 0 0], []⟩).memory Tryd.f7.params.toList Rows.subsetCompletedSpec.vars false [.agg #[.int .i64 0, .int .i64 0, .slice none 0 0], .int .u8 0, .slice none 0 0] 8 = some ([.agg [.lit (.int .i64 0), .lit (.int .i64 0), .nil], .lit (.int .u8 0), .nil], [], places) :=
  ⟨[], by kernel_rfl⟩

theorem lifted (os : Os) (started : os.Started) (H : Type) (enc : TypeId × Value → H) (F : Stop.Interp) :
    ReturnsInHanded {} Tryd.checked os 7 .any ((OpenSpec.ofChange Rows.subsetCompletedSpec).preRow enc Tryd.prog Tryd.f7 Rows.subsetCompletedRow.domain false Rows.subsetCompletedRow.laid) (((OpenSpec.ofChange Rows.subsetCompletedSpec).at F).post enc Tryd.prog Tryd.f7 false true false false) := by
  obtain ⟨places, hx⟩ := reads os enc
  refine returnsInHanded_of_row (C := Tryd.checked) (s := OpenSpec.ofChange Rows.subsetCompletedSpec) ownNone started (by kernel_rfl) Tryd.func7
    (witness_row_at (enc := enc) (C := Tryd.checked) false (laidWorldN os) #[.agg #[.int .i64 0, .int .i64 0, .slice none 0 0], .int .u8 0, .slice none 0 0] rfl (by kernel_rfl) (by kernel_rfl) (by kernel_rfl)
      (OpenSpec.preRow_of_cond 8 hx (by kernel_rfl) (fun k hk => by cases hk) (by kernel_rfl) (laid_metN os _))) ?_
  intro W base args ds gs before hval hW _ _ _ hL _ _
  exact contract H enc W args ds gs before hval hW hL

theorem said : Rows.SubsetCompletedSaid :=
  OpenClaim.holds_of_cond 7 Tryd.f7 rfl rfl rfl rfl rfl rfl rfl ⟨rfl, rfl, rfl, rfl, rfl⟩ rfl rfl rfl rfl rfl (by kernel_rfl) Tryd.func7 (by kernel_rfl)
    (of_decide_eq_true (by kernel_rfl)) (by unfold Func.isWrapper; first | (rw [if_pos (by decide +kernel)]; kernel_rfl) | (rw [if_neg (by decide +kernel)]; exact ⟨rfl, rfl⟩))
    (fun os started H enc _ F => by rw [OpenClaim.pre_eq_preRow]; exact lifted os started H enc F)

theorem ns0 : Tryd.prog.wantsStandIn 56 = false := by kernel_rfl
theorem ns1 : Tryd.prog.wantsStandIn 24 = false := by kernel_rfl
theorem ns2 : Tryd.prog.wantsStandIn 5 = false := by kernel_rfl

theorem plain (f : FuncId) (fn : Func) (hf : Tryd.pinned.checked.prog.funcNamed "groove/groovelaw12.SubsetCompleted" = some f) (hfn : Tryd.pinned.checked.prog.funcs[f]? = some fn) :
    false = Tryd.pinned.checked.prog.looks [] ∧ ∀ (j : Nat) t, fn.params[j]? = some t → Tryd.pinned.checked.prog.wantsStandIn t = false := by
  obtain rfl : f = 7 := Option.some.inj ((show Tryd.prog.funcNamed "groove/groovelaw12.SubsetCompleted" = some 7 by kernel_rfl).symm.trans hf) |>.symm
  obtain rfl : fn = Tryd.f7 := (Option.some.inj (Tryd.func7.symm.trans hfn)).symm
  refine ⟨by kernel_rfl, fun j t ht => ?_⟩
  rw [Tryd.params7] at ht
  have hm := Array.mem_of_getElem? ht
  have hm : t = 24 ∨ t = 5 ∨ t = 56 := by simpa using hm
  rcases hm with rfl | rfl | rfl
  · exact ns1
  · exact ns2
  · exact ns0

/-- SubsetCompleted's card. -/
theorem card : Rows.SubsetCompletedCardSaid :=
  Claim7.holds_tied_plain_at .later [] _ _ _ _ said (fun _ h => by cases h) (by kernel_rfl) (fun _ h => by cases h) subsetCompleted_row_tie rfl ⟨rfl, rfl⟩ (by kernel_rfl) rfl plain (by kernel_rfl)
end Go.Proofs.YtbcbeffoacfpdaaDoor.subsetCompleted
