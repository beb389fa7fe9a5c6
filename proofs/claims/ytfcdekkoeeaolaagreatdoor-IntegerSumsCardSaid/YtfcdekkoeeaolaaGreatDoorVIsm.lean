/- IntegerSums returns true for every input: the walk. Conditions: its own table, and what is in memory. IntegerSums returns true for every input: the law's row, and its card, tied to the program's text. Conditions: those of the row: its tables read as listed (the card ties them to the program's text). -/
import Derived.Test.YtfcdekkoeeaolaaGreatDoorQ21
import Derived.Test.YtfcdekkoeeaolaaGreatDoorQ22
import Derived.Test.YtfcdekkoeeaolaaGreatDoorQ26
import Derived.Test.YtfcdekkoeeaolaaGreatDoorQ27

namespace Go.Proofs.YtfcdekkoeeaolaaGreatDoor
open Go.RowKit
set_option linter.unusedSimpArgs false
set_option linter.unusedVariables false

theorem great2B (sa sb : ByteArray) (d : ByteArray) : greatB 2 (fun i => if i = 0 then sa else sb) = (decide (60 < sa.size) || decide (60 < sb.size)) := by simp [greatB, List.range_succ]
theorem rsub_eq {g1 g2 : Bool} {l1 l2 : List UInt8} {z1 z2 z : Int} {w : World} (hl1 : l1.length ≤ 100000000) (hl2 : l2.length ≤ 100000000) (hz1 : zv g1 ⟨l1.toArray⟩ = z1) (hz2 : zv g2 ⟨l2.toArray⟩ = z2) (e : z1 - z2 = z) :
    Calls Tryz.prog 12 #[.agg #[.bool g1, .string ⟨l1.toArray⟩], .agg #[.bool g2, .string ⟨l2.toArray⟩]] w (IntOut w z) := e ▸ rsub01_any g1 g2 l1 l2 z1 z2 w hl1 hl2 hz1 hz2
theorem rmul_eq {g1 g2 : Bool} {l1 l2 : List UInt8} {z1 z2 z : Int} {w : World} (hl1 : l1.length ≤ 100000000) (hl2 : l2.length ≤ 100000000) (hz1 : zv g1 ⟨l1.toArray⟩ = z1) (hz2 : zv g2 ⟨l2.toArray⟩ = z2) (e : z1 * z2 = z) :
    Calls Tryz.prog 14 #[.agg #[.bool g1, .string ⟨l1.toArray⟩], .agg #[.bool g2, .string ⟨l2.toArray⟩]] w (IntOut w z) := e ▸ rmul01_any g1 g2 l1 l2 z1 z2 w hl1 hl2 hz1 hz2
set_option maxRecDepth 100000 in
set_option maxHeartbeats 6400000 in
theorem sums_any (na nb : Bool) (sa sb : ByteArray) (w : World) (ha : sa.size ≤ 9223372036854775807) (hb : sb.size ≤ 9223372036854775807) (htab : Lib.TabIs Tryz.prog w "internal/strconv.uint64pow10" .u64 Lib.pow10Tab) :
    Calls Tryz.prog 3 #[.agg #[.bool na, .string sa], .agg #[.bool nb, .string sb]] w fun e w' => e = .returned (.bool true) ∧ Below w.heap.size w w' := by
  have Htab := Lib.hid htab
  clear htab
  obtain ⟨la, rfl⟩ : ∃ l : List UInt8, sa = ⟨l.toArray⟩ := ⟨sa.data.toList, rfl⟩
  obtain ⟨lb, rfl⟩ : ∃ l : List UInt8, sb = ⟨l.toArray⟩ := ⟨sb.data.toList, rfl⟩
  go_enter Tryz.func3, Tryz.ntmps3
  go_wp2_with fail
  refine (greats_any (w.heap.size + 1 + 1) 0 2 2 (fun i => if i = 0 then na else nb) (fun i => if i = 0 then ⟨la.toArray⟩ else ⟨lb.toArray⟩) _ ?_ (by omega) ?_).mono ?_
  · intro i hi
    have : i = 0 ∨ i = 1 := by omega
    rcases this with rfl | rfl <;> simp [go_sem]
  · intro i hi
    have : i = 0 ∨ i = 1 := by omega
    rcases this with rfl | rfl
    · exact ha
    · exact hb
  rintro e W1 ⟨rfl, b1⟩
  rw [great2B _ _ ⟨#[]⟩]
  have S : Cells [(w.heap.size, na, ⟨la.toArray⟩), (w.heap.size + 1, nb, ⟨lb.toArray⟩)] W1 := Cells.keep b1 (Cells.cons (by simp [go_sem]) (by simp [go_sem]) (Cells.cons (by simp [go_sem]) (by simp [go_sem]) (Cells.nil _)))
  have B : Below w.heap.size w W1 := below_more (below3 w _ _ _) (Nat.le_refl _) b1
  clear b1
  by_cases hg : (decide (60 < (⟨la.toArray⟩ : ByteArray).size) || decide (60 < (⟨lb.toArray⟩ : ByteArray).size)) = true
  · rw [hg]
    clear S
    go_wp2_with fail
    refine (awake_any _ (tab_keep Htab.out B)).mono ?_
    rintro e W2 ⟨rfl, b2⟩
    go_wp2
    go_ret
    exact ⟨rfl, below_more B (Nat.le_refl _) b2⟩
  rw [Bool.not_eq_true] at hg
  rw [hg]
  have h60 : (⟨la.toArray⟩ : ByteArray).size ≤ 60 ∧ (⟨lb.toArray⟩ : ByteArray).size ≤ 60 := by simpa using hg
  have Ia := Lib.hid (arg_int na _ h60.1)
  have Ib := Lib.hid (arg_int nb _ h60.2)
  have Hla := Lib.hid (show la.length ≤ 100000000 by have : la.length ≤ 60 := h60.1; omega)
  have Hlb := Lib.hid (show lb.length ≤ 100000000 by have : lb.length ≤ 60 := h60.2; omega)
  clear h60 hg ha hb
  obtain ⟨za, Ea⟩ : ∃ z, Hid (zv na ⟨la.toArray⟩ = z) := ⟨_, Lib.hid rfl⟩
  obtain ⟨zb, Eb⟩ : ∃ z, Hid (zv nb ⟨lb.toArray⟩ = z) := ⟨_, Lib.hid rfl⟩
  rw [Ea.out] at Ia
  rw [Eb.out] at Ib
  obtain ⟨s, Es⟩ : ∃ z, Hid (za + zb = z) := ⟨_, Lib.hid rfl⟩
  obtain ⟨d, Ed⟩ : ∃ z, Hid (za - zb = z) := ⟨_, Lib.hid rfl⟩
  obtain ⟨m, Em⟩ : ∃ z, Hid (za * zb = z) := ⟨_, Lib.hid rfl⟩
  go_upto_region 3 with fail
  obtain ⟨t1, t2, t3, t4⟩ := flat2 S
  have S0 : Cells [(w.heap.size, na, ⟨la.toArray⟩), (w.heap.size + 1, nb, ⟨lb.toArray⟩)] W1.drew := S
  have KB := And.intro S0 B.drew
  clear S0
  go_region_held3 (fun W => W.cell? ⟨w.heap.size, 0, none⟩ = some (.bool na) ∧ W.cell? ⟨w.heap.size, 1, none⟩ = some (.string ⟨la.toArray⟩) ∧ W.cell? ⟨w.heap.size + 1, 0, none⟩ = some (.bool nb) ∧ W.cell? ⟨w.heap.size + 1, 1, none⟩ = some (.string ⟨lb.toArray⟩)) (first | (with_reducible exact flat2 KB.1) | exact flat2 KB.1)
    (first
      | (go_at_call 9; (with_reducible refine (iadd_eq Ia.out Ib.out Es.out).mono ?_); rintro e X ⟨rfl, bX⟩; have KB := And.intro (Cells.keep bX KB.1) (below_more KB.2 (Nat.le_refl _) bX))
      | (go_at_call 10; (with_reducible refine (radd_eq Hla.out Hlb.out Ea.out Eb.out Es.out).mono ?_); rintro e X ⟨rfl, bX⟩; have KB := And.intro (Cells.keep bX KB.1) (below_more KB.2 (Nat.le_refl _) bX))
      | (go_at_call 11; (with_reducible refine (isub_eq Ia.out Ib.out Ed.out).mono ?_); rintro e X ⟨rfl, bX⟩; have KB := And.intro (Cells.keep bX KB.1) (below_more KB.2 (Nat.le_refl _) bX))
      | (go_at_call 12; (with_reducible refine (rsub_eq Hla.out Hlb.out Ea.out Eb.out Ed.out).mono ?_); rintro e X ⟨rfl, bX⟩; have KB := And.intro (Cells.keep bX KB.1) (below_more KB.2 (Nat.le_refl _) bX))
      | (go_at_call 13; (with_reducible refine (imul_eq Ia.out Ib.out Em.out).mono ?_); rintro e X ⟨rfl, bX⟩; have KB := And.intro (Cells.keep bX KB.1) (below_more KB.2 (Nat.le_refl _) bX))
      | (go_at_call 14; (with_reducible refine (rmul_eq Hla.out Hlb.out Ea.out Eb.out Em.out).mono ?_); rintro e X ⟨rfl, bX⟩; have KB := And.intro (Cells.keep bX KB.1) (below_more KB.2 (Nat.le_refl _) bX))
      | (go_at_call 8; refine (awake_any _ (tab_keep Htab.out KB.2)).mono ?_; rintro e X ⟨rfl, bX⟩; have KB := And.intro (Cells.keep bX KB.1) (below_more KB.2 (Nat.le_refl _) bX)))
  all_goals
    go_wp2
    go_ret
    exact ⟨rfl, KB.2⟩
end Go.Proofs.YtfcdekkoeeaolaaGreatDoor

namespace Go.Proofs.YtfcdekkoeeaolaaGreatDoor.integerSums
open Go.ChangeShapes Go.WideShapes Go.ChangeAt Go.RowKit
open Go.ChangeMaps (open_string shut_string)
set_option maxRecDepth 100000
set_option linter.unusedVariables false

theorem contract (H : Type) (enc : TypeId × Value → H) (W : World) (base : Nat) (args : Array Value) (ds gs : List (DataW H)) (before : List MemPlace)
    (hval : ∀ (j : Nat) t v, Tryz.f3.params[j]? = some t → args[j]? = some v → Value.okWide Tryz.prog W .any base t v)
    (hW : DataW.Whole enc Tryz.prog Tryz.f3.params.toList Rows.integerSumsSpec.vars false W args.toList ds gs before) (hL : laidMetH Tryz.prog Rows.integerSumsRow.laid W) :
    Calls Tryz.prog 3 args W fun e W' => ∃ v, e = .returned v ∧ Rows.integerSumsSpec.post enc Tryz.prog Tryz.f3 false true false false W args v W' := by
  have hW' := hW
  obtain ⟨p, q, hA0, hV, rfl, hfz, hnd⟩ := hW
  have hA : DataW.TrodAll enc Tryz.prog W 0 (fun _ => true) true Tryz.f3.params.toList args.toList ds p := hA0
  rw [Tryz.params3] at hA hval
  obtain ⟨v0, vs0, d0, ds0, p0, q0, hargs, rfl, rfl, h0, r0⟩ := trodAll_cons hA
  obtain ⟨v1, vs1, d1, ds1, p1, q1, rfl, rfl, rfl, h1, r1⟩ := trodAll_cons r0
  obtain ⟨rfl, rfl, rfl⟩ := trodAll_nil r1
  obtain rfl : args = #[v0, v1] := by cases args; simp_all
  obtain ⟨rfl, rfl⟩ := trodVars_none hV
  obtain ⟨g0, s0, rfl, rfl, rfl, z0⟩ := int_open (hval 0 23 v0 rfl rfl) h0
  obtain ⟨g1, s1, rfl, rfl, rfl, z1⟩ := int_open (hval 1 23 v1 rfl rfl) h1
  clear hA0
  simp only [List.append_nil] at hW'
  refine (sums_any g0 g1 s0 s1 W z0 z1 (tabPow hL)).mono fun e W' ⟨he, hb⟩ => ?_
  subst he
  refine ⟨_, rfl, _, _, _, [], [], [], hW', ?_, ?_, ?_, hb.frame _, fun h => by cases h⟩
  · exact trodAll_cons_mk (p := []) (shut_bool Tryz.underlying4 true) trodAll_mk0
  · exact (trodAll_cons_mk (p := []) (int_shut z0) (trodAll_cons_mk (p := []) (int_shut z1) trodAll_mk0))
  · rfl

theorem reads (os : Os) {H : Type} (enc : TypeId × Value → H) : ∃ places, DataW.whole enc Tryz.prog ((laidWorld os).forCall (fun _ _ => 0) ⟨#[], #[.agg #[.bool false, .string ⟨#[]⟩], .agg #[.bool false, .string ⟨#[]⟩]], []⟩).memory Tryz.f3.params.toList Rows.integerSumsSpec.vars false [.agg #[.bool false, .string ⟨#[]⟩], .agg #[.bool false, .string ⟨#[]⟩]] 8 = some ([.agg [.lit (.bool false), .lit (.string [])], .agg [.lit (.bool false), .lit (.string [])]], [], places) :=
  ⟨[], by kernel_rfl⟩

theorem lifted (os : Os) (started : os.Started) (H : Type) (enc : TypeId × Value → H) (F : Stop.Interp) :
    ReturnsInHanded {} Tryz.checked os 3 .any ((OpenSpec.ofChange Rows.integerSumsSpec).preRow enc Tryz.prog Tryz.f3 Rows.integerSumsRow.domain false Rows.integerSumsRow.laid) (((OpenSpec.ofChange Rows.integerSumsSpec).at F).post enc Tryz.prog Tryz.f3 false true false false) := by
  obtain ⟨places, hx⟩ := reads os enc
  refine returnsInHanded_of_row (C := Tryz.checked) (s := OpenSpec.ofChange Rows.integerSumsSpec) ownNone started (by kernel_rfl) Tryz.func3
    (witness_row_at (enc := enc) (C := Tryz.checked) false (laidWorld os) #[.agg #[.bool false, .string ⟨#[]⟩], .agg #[.bool false, .string ⟨#[]⟩]] rfl (by kernel_rfl) (by kernel_rfl) (by kernel_rfl)
      (OpenSpec.preRow_of_cond 8 hx (by kernel_rfl) (fun k hk => by cases hk) (by kernel_rfl) (laid_met os _))) ?_
  intro W base args ds gs before hval hW _ _ _ hL _ _
  exact contract H enc W base args ds gs before hval hW hL

theorem said : Rows.IntegerSumsSaid :=
  OpenClaim.holds_of_cond 3 Tryz.f3 rfl rfl rfl rfl rfl rfl rfl ⟨rfl, rfl, rfl, rfl, rfl⟩ rfl rfl rfl rfl rfl (by kernel_rfl) Tryz.func3 (by kernel_rfl)
    (of_decide_eq_true (by kernel_rfl)) (by unfold Func.isWrapper; first | (rw [if_pos (by decide +kernel)]; kernel_rfl) | (rw [if_neg (by decide +kernel)]; exact ⟨rfl, rfl⟩))
    (fun os started H enc _ F => by rw [OpenClaim.pre_eq_preRow]; exact lifted os started H enc F)

theorem plain (f : FuncId) (fn : Func) (hf : Tryz.pinned.checked.prog.funcNamed "groove/groovelaw01.IntegerSums" = some f) (hfn : Tryz.pinned.checked.prog.funcs[f]? = some fn) :
    false = Tryz.pinned.checked.prog.looks [] ∧ ∀ (j : Nat) t, fn.params[j]? = some t → Tryz.pinned.checked.prog.wantsStandIn t = false := by
  obtain rfl : f = 3 := Option.some.inj ((show Tryz.prog.funcNamed "groove/groovelaw01.IntegerSums" = some 3 by kernel_rfl).symm.trans hf) |>.symm
  obtain rfl : fn = Tryz.f3 := (Option.some.inj (Tryz.func3.symm.trans hfn)).symm
  refine ⟨by kernel_rfl, fun j t ht => ?_⟩
  rw [Tryz.params3] at ht
  have hm := Array.mem_of_getElem? ht
  obtain rfl : t = 23 := by simpa using hm
  exact noStand.1

/-- IntegerSums's card. -/
theorem card : Rows.IntegerSumsCardSaid :=
  Claim7.holds_tied_plain_at .later [] _ _ _ _ said (fun _ h => by cases h) (by kernel_rfl) (fun _ h => by cases h) integerSums_row_tie rfl ⟨rfl, rfl⟩ (by kernel_rfl) rfl plain (by kernel_rfl)
end Go.Proofs.YtfcdekkoeeaolaaGreatDoor.integerSums
