/- SubsetFoci returns true. Conditions: the edges and the labels can be read; the library's table reads as its text lays it. SubsetFoci returns true for every input: the law's row, and its card, tied to the program's text. Conditions: those of the row: its tables read as listed (the card ties them to the program's text). -/
import Derived.Test.YtblkijdodojaeaaDoorQ26
import Derived.Test.YtblkijdodojaeaaDoorQ17
import Derived.Test.YtblkijdodojaeaaDoorQ25
import Derived.Test.YtblkijdodojaeaaDoorQ27

namespace Go.Proofs.YtblkijdodojaeaaDoor
open Go.RowKit
set_option linter.unusedSimpArgs false
set_option linter.unusedVariables false

set_option maxRecDepth 100000 in
set_option maxHeartbeats 3200000 in
theorem foci_great (La S : Int) (es : List E3) (v : Value) (vp : Value) (pl : List Nat) (w : World) (hrd : EdgesRd w v es) (hn : es.length ≤ 9223372036854775807) (hpr : BysRd w vp pl) (hT : TabD w) (h : greatB S es.length = true ∨ chkG La S es ≠ 0 ∨ S = 0) :
    Calls Tryd.prog 7 #[grV La S v, vp] w fun e w' => e = .returned (.bool true) ∧ Below w.heap.size w w' := by
  have HCK := Lib.hid (fun W h => gcheck_any La S es v W h hn)
  have HRD := Lib.hid hrd
  obtain ⟨a, c, rfl⟩ := hrd.form
  obtain ⟨a3, c3, rfl, -⟩ := hpr
  have HG := Lib.hid (fun W => great12_any La S a es.length c W)
  have HA := Lib.hid (fun W h => awake12_any W h)
  have HT := Lib.hid hT
  have B0 := Lib.hid (below1 w (.cells #[.int .i64 La, .int .i64 S, .slice a es.length c] 24))
  have G0 := Lib.hid (BoxG.new w La S (.slice a es.length c) 24)
  obtain ⟨x1, x2, x3⟩ := id G0.out
  clear hrd hT
  cases hg : greatB S es.length
  · rw [hg] at HG
    have h := h.resolve_left (by rw [hg]; exact Bool.false_ne_true)
    clear hg
    by_cases hz : chkG La S es = 0
    · obtain rfl : S = 0 := h.resolve_left (fun h => h hz)
      rw [hz] at HCK
      clear h hz
      go_enter Tryd.func7, Tryd.ntmps7
      go_wp2_with (first
        | (go_at_call 15; (refine (HG.out _).mono ?_); rintro e W1 ⟨rfl, b1⟩; (have B1 := Lib.hid (below_more B0.out (Nat.le_refl _) b1)); (have G1 := Lib.hid (G0.out.keep b1)); clear b1 x1 x2 x3; (obtain ⟨x1, x2, x3⟩ := id G1.out))
        | (go_at_call 31; (refine (HCK.out _ (HRD.out.keep B1.out)).mono ?_); rintro e W2 ⟨rfl, b2⟩; (have B2 := Lib.hid (B1.out.trans (b2.mono B1.out.size))); (obtain ⟨y1, y2, y3⟩ := G1.out.keep b2); clear b2 x1 x2 x3)
        | (go_at_call 16; (refine (HA.out _ (HT.out.keep B2.out)).mono ?_); rintro e W3 ⟨rfl, b3⟩; (have B3 := Lib.hid (B2.out.trans (b3.mono B2.out.size)))))
      go_ret
      exact ⟨rfl, B3.out⟩
    · obtain ⟨z, hzz⟩ : ∃ z, chkG La S es = z := ⟨_, rfl⟩
      simp only [hzz] at HCK
      rw [hzz] at hz
      have d1 : (z != 0) = true := by simpa using hz
      clear h hz hzz
      go_enter Tryd.func7, Tryd.ntmps7
      go_wp2_with (first
        | (go_at_call 15; (refine (HG.out _).mono ?_); rintro e W1 ⟨rfl, b1⟩; (have B1 := Lib.hid (below_more B0.out (Nat.le_refl _) b1)); (have G1 := Lib.hid (G0.out.keep b1)); clear b1 x1 x2 x3; (obtain ⟨x1, x2, x3⟩ := id G1.out))
        | (go_at_call 31; (refine (HCK.out _ (HRD.out.keep B1.out)).mono ?_); rintro e W2 ⟨rfl, b2⟩; (have B2 := Lib.hid (B1.out.trans (b2.mono B1.out.size))); clear b2 x1 x2 x3)
        | (go_at_call 16; (refine (HA.out _ (HT.out.keep B2.out)).mono ?_); rintro e W3 ⟨rfl, b3⟩; (have B3 := Lib.hid (B2.out.trans (b3.mono B2.out.size)))))
      go_ret
      exact ⟨rfl, B3.out⟩
  · rw [hg] at HG
    clear h hg
    go_enter Tryd.func7, Tryd.ntmps7
    go_wp2_with (first
      | (go_at_call 15; (refine (HG.out _).mono ?_); rintro e W1 ⟨rfl, b1⟩; (have B1 := Lib.hid (below_more B0.out (Nat.le_refl _) b1)))
      | (go_at_call 16; (refine (HA.out _ (HT.out.keep B1.out)).mono ?_); rintro e W3 ⟨rfl, b3⟩; (have B3 := Lib.hid (B1.out.trans (b3.mono B1.out.size)))))
    go_ret
    exact ⟨rfl, B3.out⟩
set_option maxRecDepth 100000 in
set_option maxHeartbeats 3200000 in
theorem foci_err (La S z sv : Int) (es : List E3) (v : Value) (vp : Value) (pl : List Nat) (ls : List Int) (isv : Bool) (w : World) (hrd : EdgesRd w v es) (hn : es.length ≤ 9223372036854775807) (hpr : BysRd w vp pl) (hT : TabD w) (hg : greatB S es.length = false) (hz : chkG La S es = 0) (hS : S ≠ 0)
    (hfoc : focR La S es = (ls, sv, isv, z)) (h0 : z ≠ 0) :
    Calls Tryd.prog 7 #[grV La S v, vp] w fun e w' => e = .returned (.bool true) ∧ Below w.heap.size w w' := by
  have HCK := Lib.hid (fun W h => gcheck_any La S es v W h hn)
  rw [hz] at HCK
  have HFO : Hid (∀ W, EdgesRd W v es → TabD W → Calls Tryd.prog 23 #[grV La S v] W fun e W' => ∃ a c, e = .returned (.tuple #[.slice a ls.length c, .int .i64 sv, .bool isv, .int .i64 z]) ∧ Below W.heap.size W W') := Lib.hid (fun W h1 h2 => by
    refine (Focus_any La S es v W h1 hn h2).mono ?_
    rw [hfoc]
    rintro e W' ⟨u, he, h3, h4⟩
    obtain ⟨a, c, rfl⟩ := h3.form
    exact ⟨a, c, he, h4⟩)
  have HRD := Lib.hid hrd
  obtain ⟨a, c, rfl⟩ := hrd.form
  obtain ⟨a3, c3, rfl, -⟩ := hpr
  have HG := Lib.hid (fun W => great12_any La S a es.length c W)
  rw [hg] at HG
  have HA := Lib.hid (fun W h => awake12_any W h)
  have HT := Lib.hid hT
  have B0 := Lib.hid (below1 w (.cells #[.int .i64 La, .int .i64 S, .slice a es.length c] 24))
  have G0 := Lib.hid (BoxG.new w La S (.slice a es.length c) 24)
  obtain ⟨x1, x2, x3⟩ := id G0.out
  have d2 : (S == 0) = false := by rw [beq_eq_false_iff_ne]; exact hS
  have d3 : (z != 0) = true := by simpa using h0
  clear hrd hT hg hz hfoc h0 hS
  go_enter Tryd.func7, Tryd.ntmps7
  go_wp2_with (first
    | (go_at_call 15; (with_reducible refine (HG.out _).mono ?_); rintro e W1 ⟨rfl, b1⟩; (have B1 := Lib.hid (below_more B0.out (Nat.le_refl _) b1)); (have G1 := Lib.hid (G0.out.keep b1)); clear b1 x1 x2 x3; (obtain ⟨x1, x2, x3⟩ := id G1.out))
    | (go_at_call 31; (with_reducible refine (HCK.out _ (HRD.out.keep B1.out)).mono ?_); rintro e W2 ⟨rfl, b2⟩; (have B2 := Lib.hid (B1.out.trans (b2.mono B1.out.size))); (have G2 := Lib.hid (G1.out.keep b2)); clear b2 x1 x2 x3; (obtain ⟨x1, x2, x3⟩ := id G2.out))
    | (go_at_call 23; (with_reducible refine (HFO.out _ (HRD.out.keep B2.out) (HT.out.keep B2.out)).mono ?_); rintro e W3 ⟨al, cl, rfl, b3⟩; (have B3 := Lib.hid (B2.out.trans (b3.mono B2.out.size))); clear b3 x1 x2 x3)
    | (go_at_call 16; (with_reducible refine (HA.out _ (HT.out.keep B3.out)).mono ?_); rintro e W11 ⟨rfl, b11⟩; (have B11 := Lib.hid (B3.out.trans (b11.mono B3.out.size)))))
  go_ret
  exact ⟨rfl, B11.out⟩
theorem subsetFoci_any (La S : Int) (es : List E3) (v vp : Value) (pl : List Nat) (w : World) (hrd : EdgesRd w v es) (hn : es.length ≤ 9223372036854775807) (hpr : BysRd w vp pl) (hT : TabD w) :
    Calls Tryd.prog 7 #[grV La S v, vp] w fun e w' => e = .returned (.bool true) ∧ Below w.heap.size w w' := by
  by_cases h : greatB S es.length = true ∨ chkG La S es ≠ 0 ∨ S = 0
  · exact foci_great La S es v vp pl w hrd hn hpr hT h
  · have hg : greatB S es.length = false := by
      cases hg : greatB S es.length
      · rfl
      · exact absurd (.inl hg) h
    have hz : chkG La S es = 0 := by
      by_cases h2 : chkG La S es = 0
      · exact h2
      · exact absurd (.inr (.inl h2)) h
    have hS : S ≠ 0 := fun e => h (.inr (.inr e))
    by_cases h0 : (buildR La S es).1 = 0
    · obtain ⟨L, n, b, rfl, rfl, hn0, hvg, hbr, hb, hres⟩ := buildR_okH hz hS h0
      have hfne := fullN_ne hn0
      have hfo : focR (L : Int) (n : Int) es = ((focN b).1, (focN b).2.1, (focN b).2.2, 0) := by unfold focR; rw [hbr, if_pos rfl]
      cases hi : b.1.findIdx? (fun S => (memN S).length == 1) with
      | none =>
        refine foci_false L n es v vp pl w [] 0 hrd hpr hT hg hvg hn0 (Nat.zero_le _) ?_ (fun ws hws => foc_no hfne hb hi hws)
        rw [hfo]
        unfold focN
        rw [hi]; rfl
      | some i =>
        obtain ⟨lw, e1, e2, e3, e4⟩ := foc_yes hfne hb hi
        have hl : lw.length ≤ 100000 := by
          have h1 : (labF b.2 i).length ≤ i := by unfold labF; rw [List.length_reverse]; exact labP_len _ _ _
          have h2 : i < b.1.length := by
            rw [List.findIdx?_eq_some_iff_getElem] at hi
            exact hi.1
          have := hres.n
          rw [e1, labsI_len] at h1
          omega
        refine foci_true L n es v vp pl w lw _ hrd hpr hT hg hvg hn0 hl ?_ e2 e3 e4
        rw [hfo]
        unfold focN
        rw [hi, ← e1]
    · have hfo : focR La S es = ([], 0, false, (buildR La S es).1) := by unfold focR; rw [if_neg h0]
      exact foci_err La S _ 0 es v vp pl [] false w hrd hn hpr hT hg hz hS hfo h0
end Go.Proofs.YtblkijdodojaeaaDoor

namespace Go.Proofs.YtblkijdodojaeaaDoor.subsetFoci
open Go.ChangeShapes Go.WideShapes Go.ChangeAt Go.RowKit
open Go.ChangeMaps (open_string shut_string)
set_option maxRecDepth 100000
set_option linter.unusedVariables false

theorem contract (H : Type) (enc : TypeId × Value → H) (W : World) (args : Array Value) (ds gs : List (DataW H)) (before : List MemPlace)
    (hval : ∀ (j : Nat) t v, Tryd.f7.params[j]? = some t → args[j]? = some v → Value.okWide Tryd.prog W .any 0 t v)
    (hW : DataW.Whole enc Tryd.prog Tryd.f7.params.toList Rows.subsetFociSpec.vars false W args.toList ds gs before) (hL : laidMetH Tryd.prog Rows.subsetFociRow.laid W) :
    Calls Tryd.prog 7 args W fun e W' => ∃ v, e = .returned v ∧ Rows.subsetFociSpec.post enc Tryd.prog Tryd.f7 false true false false W args v W' := by
  have hW' := hW
  obtain ⟨p, q, hA0, hV, rfl, hfz, hnd⟩ := hW
  have hA : DataW.TrodAll enc Tryd.prog W 0 (fun _ => true) true Tryd.f7.params.toList args.toList ds p := hA0
  rw [Tryd.params7] at hA hval
  obtain ⟨v0, vs0, d0, ds0, p0, q0, hargs, rfl, rfl, h0, r0⟩ := trodAll_cons hA
  obtain ⟨v1, vs1, d1, ds1, p1, q1, rfl, rfl, rfl, h1, r1⟩ := trodAll_cons r0
  obtain ⟨rfl, rfl, rfl⟩ := trodAll_nil r1
  obtain rfl : args = #[v0, v1] := by cases args; simp_all
  obtain ⟨rfl, rfl⟩ := trodVars_none hV
  obtain ⟨L0, S0, u0, es0, rfl, k0, l0⟩ := graph_open (hval 0 24 v0 rfl rfl) h0
  have t0 : ∀ x ∈ p0, x.block < W.heap.size := fun x hx => by simpa using hW'.lt x (by simp [hx])
  obtain ⟨bs1, k1⟩ := bytes_open (hval 1 25 v1 rfl rfl) h1
  have t1 : ∀ x ∈ p1, x.block < W.heap.size := fun x hx => by simpa using hW'.lt x (by simp [hx])
  clear hA0
  refine (subsetFoci_any L0 S0 es0 u0 v1 bs1 W k0 l0 k1 (tabD_laid hL)).mono fun e W' ⟨he, hb⟩ => ?_
  subst he
  refine ⟨_, rfl, _, _, _, [], (p0 ++ (p1 ++ [])), [], hW', ?_, ?_, ?_, hb.frame _, fun h => by cases h⟩
  · exact trodAll_cons_mk (p := []) (shut_bool Tryd.underlying4 true) trodAll_mk0
  · exact (trodAll_cons_mk (graph_keep h0 hb t0) (trodAll_cons_mk (bytes_keep h1 hb t1) trodAll_mk0))
  · rfl

theorem reads (os : Os) {H : Type} (enc : TypeId × Value → H) : ∃ places, DataW.whole enc Tryd.prog ((laidWorldN os).forCall (fun _ _ => 0) ⟨#[], #[.agg #[.int .i64 0, .int .i64 0, .slice none 0 0], .slice none 0 0], []⟩).memory Tryd.f7.params.toList Rows.subsetFociSpec.vars false [.agg #[.int .i64 0, .int .i64 0, .slice none 0 0], .slice none 0 0] 8 = some ([.agg [.lit (.int .i64 0), .lit (.int .i64 0), .nil], .nil], [], places) :=
  ⟨[], by kernel_rfl⟩

theorem lifted (os : Os) (started : os.Started) (H : Type) (enc : TypeId × Value → H) (F : Stop.Interp) :
    ReturnsInHanded {} Tryd.checked os 7 .any ((OpenSpec.ofChange Rows.subsetFociSpec).preRow enc Tryd.prog Tryd.f7 Rows.subsetFociRow.domain false Rows.subsetFociRow.laid) (((OpenSpec.ofChange Rows.subsetFociSpec).at F).post enc Tryd.prog Tryd.f7 false true false false) := by
  obtain ⟨places, hx⟩ := reads os enc
  refine returnsInHanded_of_row (C := Tryd.checked) (s := OpenSpec.ofChange Rows.subsetFociSpec) ownNone started (by kernel_rfl) Tryd.func7
    (witness_row_at (enc := enc) (C := Tryd.checked) false (laidWorldN os) #[.agg #[.int .i64 0, .int .i64 0, .slice none 0 0], .slice none 0 0] rfl (by kernel_rfl) (by kernel_rfl) (by kernel_rfl)
      (OpenSpec.preRow_of_cond 8 hx (by kernel_rfl) (fun k hk => by cases hk) (by kernel_rfl) (laid_metN os _))) ?_
  intro W base args ds gs before hval hW _ _ _ hL _ _
  exact contract H enc W args ds gs before hval hW hL

theorem said : Rows.SubsetFociSaid :=
  OpenClaim.holds_of_cond 7 Tryd.f7 rfl rfl rfl rfl rfl rfl rfl ⟨rfl, rfl, rfl, rfl, rfl⟩ rfl rfl rfl rfl rfl (by kernel_rfl) Tryd.func7 (by kernel_rfl)
    (of_decide_eq_true (by kernel_rfl)) (by unfold Func.isWrapper; first | (rw [if_pos (by decide +kernel)]; kernel_rfl) | (rw [if_neg (by decide +kernel)]; exact ⟨rfl, rfl⟩))
    (fun os started H enc _ F => by rw [OpenClaim.pre_eq_preRow]; exact lifted os started H enc F)

theorem ns0 : Tryd.prog.wantsStandIn 25 = false := by kernel_rfl
theorem ns1 : Tryd.prog.wantsStandIn 24 = false := by kernel_rfl

theorem plain (f : FuncId) (fn : Func) (hf : Tryd.pinned.checked.prog.funcNamed "groove/groovelaw12.SubsetFoci" = some f) (hfn : Tryd.pinned.checked.prog.funcs[f]? = some fn) :
    false = Tryd.pinned.checked.prog.looks [] ∧ ∀ (j : Nat) t, fn.params[j]? = some t → Tryd.pinned.checked.prog.wantsStandIn t = false := by
  obtain rfl : f = 7 := Option.some.inj ((show Tryd.prog.funcNamed "groove/groovelaw12.SubsetFoci" = some 7 by kernel_rfl).symm.trans hf) |>.symm
  obtain rfl : fn = Tryd.f7 := (Option.some.inj (Tryd.func7.symm.trans hfn)).symm
  refine ⟨by kernel_rfl, fun j t ht => ?_⟩
  rw [Tryd.params7] at ht
  have hm := Array.mem_of_getElem? ht
  have hm : t = 24 ∨ t = 25 := by simpa using hm
  rcases hm with rfl | rfl
  · exact ns1
  · exact ns0

/-- SubsetFoci's card. -/
theorem card : Rows.SubsetFociCardSaid :=
  Claim7.holds_tied_plain_at .later [] _ _ _ _ said (fun _ h => by cases h) (by kernel_rfl) (fun _ h => by cases h) subsetFoci_row_tie rfl ⟨rfl, rfl⟩ (by kernel_rfl) rfl plain (by kernel_rfl)
end Go.Proofs.YtblkijdodojaeaaDoor.subsetFoci
