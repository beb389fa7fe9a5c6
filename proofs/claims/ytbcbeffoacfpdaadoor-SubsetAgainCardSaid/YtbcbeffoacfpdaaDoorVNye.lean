/- SubsetAgain returns true. Conditions: the edges can be read; the library's table reads as its text lays it. SubsetAgain returns true for every input: the law's row, and its card, tied to the program's text. Conditions: those of the row: its tables read as listed (the card ties them to the program's text). -/
import Derived.Test.YtbcbeffoacfpdaaDoorQ26
import Derived.Test.YtbcbeffoacfpdaaDoorQ24

namespace Go.Proofs.YtbcbeffoacfpdaaDoor
open Go.RowKit
set_option linter.unusedVariables false

theorem buildR_ok {La S : Int} {es : List E3} (hz : chkG La S es = 0) (hS : S ≠ 0) (h : (buildR La S es).1 = 0) : ∃ (L n : Nat) (b : Bs), La = (L : Int) ∧ S = (n : Int) ∧ n ≠ 0 ∧ VG (L : Int) (n : Int) es ∧ buildR (L : Int) (n : Int) es = (0, b) ∧ builtN es L (fullN n) = some b ∧ ResN es L (fullN n) b := by
  have hvg := chkG_zero hz
  obtain ⟨L, rfl⟩ : ∃ L : Nat, La = (L : Int) := ⟨La.toNat, by have := hvg.l1; omega⟩
  obtain ⟨n, rfl⟩ : ∃ n : Nat, S = (n : Int) := ⟨S.toNat, by have := hvg.s1; omega⟩
  have hn0 : n ≠ 0 := by omega
  have hn64 : n ≤ 64 := by have := hvg.s2; omega
  have e : buildR (L : Int) (n : Int) es = (bErr (builtN es L (fullN n)), bSets (builtN es L (fullN n))) := by
    unfold buildR
    rw [if_pos hz, if_neg hS, Int.toNat_natCast, Int.toNat_natCast]
  rw [e] at h
  cases hb : builtN es L (fullN n) with
  | none => rw [hb] at h; cases h
  | some b =>
    refine ⟨L, n, b, rfl, rfl, hn0, hvg, ?_, hb, built_res (fullN_ne hn0) (fullN_lt hn64) hb⟩
    rw [e, hb]; rfl
theorem subsetAgain_any (La S : Int) (es : List E3) (v : Value) (s : Nat) (w : World) (hrd : EdgesRd w v es) (hn : es.length ≤ 9223372036854775807) (hT : TabD w) (hs : s < 256) :
    Calls Tryd.prog 8 #[grV La S v, .int .u8 (s : Int)] w fun e w' => e = .returned (.bool true) ∧ Below w.heap.size w w' := by
  by_cases h : greatB S es.length = true ∨ chkG La S es ≠ 0 ∨ S = 0
  · exact again_great La S es v s w hrd hn hT h
  · have hg : greatB S es.length = false := by
      cases hg : greatB S es.length
      · rfl
      · exact absurd (.inl hg) h
    have hz : chkG La S es = 0 := by
      by_cases h2 : chkG La S es = 0
      · exact h2
      · exact absurd (.inr (.inl h2)) h
    have hS : S ≠ 0 := fun e => h (.inr (.inr e))
    by_cases hk : (buildR La S es).1 = 0
    · obtain ⟨L, n, b, rfl, rfl, hn0, hvg, hbd, hb, hres⟩ := buildR_ok hz hS hk
      exact again_good L n es v s b w hrd hn hT hg hvg hn0 hbd hres hb hs
    · exact again_many La S es v s w hrd hn hT hg hz hS hk
end Go.Proofs.YtbcbeffoacfpdaaDoor

namespace Go.Proofs.YtbcbeffoacfpdaaDoor.subsetAgain
open Go.ChangeShapes Go.WideShapes Go.ChangeAt Go.RowKit
open Go.ChangeMaps (open_string shut_string)
set_option maxRecDepth 100000
set_option linter.unusedVariables false

theorem contract (H : Type) (enc : TypeId × Value → H) (W : World) (args : Array Value) (ds gs : List (DataW H)) (before : List MemPlace)
    (hval : ∀ (j : Nat) t v, Tryd.f8.params[j]? = some t → args[j]? = some v → Value.okWide Tryd.prog W .any 0 t v)
    (hW : DataW.Whole enc Tryd.prog Tryd.f8.params.toList Rows.subsetAgainSpec.vars false W args.toList ds gs before) (hL : laidMetH Tryd.prog Rows.subsetAgainRow.laid W) :
    Calls Tryd.prog 8 args W fun e W' => ∃ v, e = .returned v ∧ Rows.subsetAgainSpec.post enc Tryd.prog Tryd.f8 false true false false W args v W' := by
  have hW' := hW
  obtain ⟨p, q, hA0, hV, rfl, hfz, hnd⟩ := hW
  have hA : DataW.TrodAll enc Tryd.prog W 0 (fun _ => true) true Tryd.f8.params.toList args.toList ds p := hA0
  rw [Tryd.params8] at hA hval
  obtain ⟨v0, vs0, d0, ds0, p0, q0, hargs, rfl, rfl, h0, r0⟩ := trodAll_cons hA
  obtain ⟨v1, vs1, d1, ds1, p1, q1, rfl, rfl, rfl, h1, r1⟩ := trodAll_cons r0
  obtain ⟨rfl, rfl, rfl⟩ := trodAll_nil r1
  obtain rfl : args = #[v0, v1] := by cases args; simp_all
  obtain ⟨rfl, rfl⟩ := trodVars_none hV
  obtain ⟨L0, S0, u0, es0, rfl, k0, l0⟩ := graph_open (hval 0 24 v0 rfl rfl) h0
  have t0 : ∀ x ∈ p0, x.block < W.heap.size := fun x hx => by simpa using hW'.lt x (by simp [hx])
  obtain ⟨n1, rfl, rfl, rfl, w1⟩ := open_int Tryd.underlying5 (hval 1 5 v1 rfl rfl) h1
  have b1 : (IntKind.min .u8) ≤ n1 ∧ n1 ≤ (IntKind.max .u8) := by simpa [Lit.wf] using w1
  simp [IntKind.min, IntKind.max, IntKind.signed, IntKind.bits] at b1
  obtain ⟨m1, rfl⟩ : ∃ m : Nat, n1 = (m : Int) := ⟨n1.toNat, by omega⟩
  clear hA0
  refine (subsetAgain_any L0 S0 es0 u0 m1 W k0 l0 (tabD_laid hL) (by omega)).mono fun e W' ⟨he, hb⟩ => ?_
  subst he
  refine ⟨_, rfl, _, _, _, [], (p0 ++ (([] : List MemPlace) ++ [])), [], hW', ?_, ?_, ?_, hb.frame _, fun h => by cases h⟩
  · exact trodAll_cons_mk (p := []) (shut_bool Tryd.underlying4 true) trodAll_mk0
  · exact (trodAll_cons_mk (graph_keep h0 hb t0) (trodAll_cons_mk (p := []) (shut_int Tryd.underlying5 w1) trodAll_mk0))
  · rfl

theorem reads (os : Os) {H : Type} (enc : TypeId × Value → H) : ∃ places, DataW.whole enc Tryd.prog ((laidWorldN os).forCall (fun _ _ => 0) ⟨#[], #[.agg #[.int .i64 0, .int .i64 0, .slice none 0 0], .int .u8 0], []⟩).memory Tryd.f8.params.toList Rows.subsetAgainSpec.vars false [.agg #[.int .i64 0, .int .i64 0, .slice none 0 0], .int .u8 0] 8 = some ([.agg [.lit (.int .i64 0), .lit (.int .i64 0), .nil], .lit (.int .u8 0)], [], places) :=
  ⟨[], by kernel_rfl⟩

theorem lifted (os : Os) (started : os.Started) (H : Type) (enc : TypeId × Value → H) (F : Stop.Interp) :
    ReturnsInHanded {} Tryd.checked os 8 .any ((OpenSpec.ofChange Rows.subsetAgainSpec).preRow enc Tryd.prog Tryd.f8 Rows.subsetAgainRow.domain false Rows.subsetAgainRow.laid) (((OpenSpec.ofChange Rows.subsetAgainSpec).at F).post enc Tryd.prog Tryd.f8 false true false false) := by
  obtain ⟨places, hx⟩ := reads os enc
  refine returnsInHanded_of_row (C := Tryd.checked) (s := OpenSpec.ofChange Rows.subsetAgainSpec) ownNone started (by kernel_rfl) Tryd.func8
    (witness_row_at (enc := enc) (C := Tryd.checked) false (laidWorldN os) #[.agg #[.int .i64 0, .int .i64 0, .slice none 0 0], .int .u8 0] rfl (by kernel_rfl) (by kernel_rfl) (by kernel_rfl)
      (OpenSpec.preRow_of_cond 8 hx (by kernel_rfl) (fun k hk => by cases hk) (by kernel_rfl) (laid_metN os _))) ?_
  intro W base args ds gs before hval hW _ _ _ hL _ _
  exact contract H enc W args ds gs before hval hW hL

theorem said : Rows.SubsetAgainSaid :=
  OpenClaim.holds_of_cond 8 Tryd.f8 rfl rfl rfl rfl rfl rfl rfl ⟨rfl, rfl, rfl, rfl, rfl⟩ rfl rfl rfl rfl rfl (by kernel_rfl) Tryd.func8 (by kernel_rfl)
    (of_decide_eq_true (by kernel_rfl)) (by unfold Func.isWrapper; first | (rw [if_pos (by decide +kernel)]; kernel_rfl) | (rw [if_neg (by decide +kernel)]; exact ⟨rfl, rfl⟩))
    (fun os started H enc _ F => by rw [OpenClaim.pre_eq_preRow]; exact lifted os started H enc F)

theorem ns0 : Tryd.prog.wantsStandIn 24 = false := by kernel_rfl
theorem ns1 : Tryd.prog.wantsStandIn 5 = false := by kernel_rfl

theorem plain (f : FuncId) (fn : Func) (hf : Tryd.pinned.checked.prog.funcNamed "groove/groovelaw12.SubsetAgain" = some f) (hfn : Tryd.pinned.checked.prog.funcs[f]? = some fn) :
    false = Tryd.pinned.checked.prog.looks [] ∧ ∀ (j : Nat) t, fn.params[j]? = some t → Tryd.pinned.checked.prog.wantsStandIn t = false := by
  obtain rfl : f = 8 := Option.some.inj ((show Tryd.prog.funcNamed "groove/groovelaw12.SubsetAgain" = some 8 by kernel_rfl).symm.trans hf) |>.symm
  obtain rfl : fn = Tryd.f8 := (Option.some.inj (Tryd.func8.symm.trans hfn)).symm
  refine ⟨by kernel_rfl, fun j t ht => ?_⟩
  rw [Tryd.params8] at ht
  have hm := Array.mem_of_getElem? ht
  have hm : t = 24 ∨ t = 5 := by simpa using hm
  rcases hm with rfl | rfl
  · exact ns0
  · exact ns1

/-- SubsetAgain's card. -/
theorem card : Rows.SubsetAgainCardSaid :=
  Claim7.holds_tied_plain_at .later [] _ _ _ _ said (fun _ h => by cases h) (by kernel_rfl) (fun _ h => by cases h) subsetAgain_row_tie rfl ⟨rfl, rfl⟩ (by kernel_rfl) rfl plain (by kernel_rfl)
end Go.Proofs.YtbcbeffoacfpdaaDoor.subsetAgain
