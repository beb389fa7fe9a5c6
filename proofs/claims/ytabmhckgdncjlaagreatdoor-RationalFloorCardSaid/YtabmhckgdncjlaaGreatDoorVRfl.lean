/- What RationalFloor returns: true. Conditions: its table, and block 0. RationalFloor returns true for every input: the law's row, and its card, tied to the program's text. Conditions: those of the row: its tables read as listed (the card ties them to the program's text). -/
import Derived.Test.YtabmhckgdncjlaaGreatDoorQ38
import Derived.Test.YtabmhckgdncjlaaGreatDoorQ40

namespace Go.Proofs.YtabmhckgdncjlaaGreatDoor
open Go.RowKit
set_option linter.unusedSimpArgs false
set_option linter.unusedVariables false
attribute [local go_sem ↓] eqlInt guardInt2 eqlRat guardRat2

theorem floor_facts {q fr s : Rat} {f : Int} (hf : q.floor = f) (h1 : (f : Rat) = fr) (h2 : fr + Rat.divInt 1 1 = s) : (cmpQ fr q = -1 ∨ cmpQ fr q = 0) ∧ cmpQ q s = -1 := by
  have e1 : fr ≤ q := by rw [← h1, ← hf]; exact Rat.floor_le q
  have e2 : q < s := by
    rw [← h2, ← h1, ← hf, show Rat.divInt 1 1 = (1 : Rat) by decide]
    have := Rat.lt_floor_add_one q
    rwa [Rat.intCast_add] at this
  constructor
  · rcases cmpQ_three fr q with h | h | h
    · exact Or.inl h.2
    · exact Or.inr h.2
    · exact absurd e1 (Rat.not_le.2 h.1)
  · unfold cmpQ; rw [if_pos e2]

set_option maxRecDepth 100000 in
set_option maxHeartbeats 6400000 in
theorem floor_law (na : Bool) (sa : ByteArray) (nb : Bool) (sb : ByteArray) (w : World) (ha : sa.size ≤ 9223372036854775807) (hb : sb.size ≤ 9223372036854775807) (h0 : Zero0 w) (htab : Lib.TabIs Tryz.prog w "internal/strconv.uint64pow10" .u64 Lib.pow10Tab) :
    Calls Tryz.prog 5 #[.agg #[.bool na, .string sa, .bool nb, .string sb]] w fun e w' => e = .returned (.bool true) ∧ Below w.heap.size w w' := by
  have H0 := Lib.hid h0
  have Ht := Lib.hid htab
  clear h0 htab
  go_enter Tryz.func5, Tryz.ntmps5
  go_wp2_with fail
  refine (greatR_any (w.heap.size + 1) 1 1 (fun _ => na) (fun _ => sa) (fun _ => nb) (fun _ => sb) _ ?_ (by omega) (fun _ _ => ⟨ha, hb⟩)).mono ?_
  · intro i hi
    obtain rfl : i = 0 := by omega
    refine ⟨?_, ?_, ?_, ?_⟩ <;> simp [go_sem]
  rintro e W0 ⟨rfl, b0⟩
  rw [great1R]
  have K : Vars [(w.heap.size, [.bool na, .string sa, .bool nb, .string sb])] W0 := Vars.keep b0 (Vars.one (four_cells (by simp [go_sem]) (by simp [go_sem]) (by simp [go_sem]) (by simp [go_sem])))
  have B : Below w.heap.size w W0 := below_more (below2 w _ _) (Nat.le_refl _) b0
  clear b0
  by_cases hg : (decide (24 < sa.size) || decide (24 < sb.size)) = true
  · rw [hg]
    clear K
    go_wp2_with fail
    refine (awaker_any _ (H0.out.keep B) (tab_keep Ht.out B)).mono ?_
    rintro e W2 ⟨rfl, b2⟩
    go_wp2
    go_ret
    exact ⟨rfl, below_more B (Nat.le_refl _) b2⟩
  rw [Bool.not_eq_true] at hg
  rw [hg]
  have h24 : sa.size ≤ 24 ∧ sb.size ≤ 24 := by simpa using hg
  have Ia := Lib.hid (arg_rat (na := na) (nb := nb) h24.1 h24.2)
  clear h24 hg ha hb
  generalize Rat.divInt (zv na sa) (zv nb sb) = q at *
  obtain ⟨f, Ef⟩ : ∃ f, Hid (q.floor = f) := ⟨_, Lib.hid rfl⟩
  obtain ⟨r, Er⟩ : ∃ r, Hid ((f : Rat) = r) := ⟨_, Lib.hid rfl⟩
  obtain ⟨o, Eo⟩ : ∃ o, Hid (Rat.divInt 1 1 = o) := ⟨_, Lib.hid rfl⟩
  obtain ⟨s, Es⟩ : ∃ s, Hid (r + o = s) := ⟨_, Lib.hid rfl⟩
  have hfa := floor_facts Ef.out Er.out (s := s) (by rw [Eo.out]; exact Es.out)
  have D := Lib.hid (floor_bd Ia.out.bd Ef.out)
  have If := Lib.hid (isInt_mg D.out (by omega))
  have Ir := Lib.hid (rat_is (rbd_int D.out Er.out) 40 (by omega) (by omega))
  have Io := Lib.hid (rat_is (q := o) (k := 1) (by rw [← Eo.out]; constructor <;> decide) 40 (by omega) (by omega))
  have Is := Lib.hid (rat_is (rbd_add (rbd_int D.out Er.out) (show RatBd o 1 by rw [← Eo.out]; constructor <;> decide) Es.out) 40 (by omega) (by omega))
  have Iq := Lib.hid (IsRat.wider Ia.out (show 15 ≤ 40 by omega) (by omega))
  obtain ⟨c, Ec⟩ : ∃ c, Hid (cmpQ r q = c) := ⟨_, Lib.hid rfl⟩
  have Ed := Lib.hid hfa.2
  have hc : c = -1 ∨ c = 0 := by rw [← Ec.out]; exact hfa.1
  clear hfa
  obtain ⟨t1, t2, t3, t4⟩ : W0.cell? ⟨w.heap.size, 0, none⟩ = some (.bool na) ∧ W0.cell? ⟨w.heap.size, 1, none⟩ = some (.string sa) ∧ W0.cell? ⟨w.heap.size, 2, none⟩ = some (.bool nb) ∧ W0.cell? ⟨w.heap.size, 3, none⟩ = some (.string sb) := ⟨K.at 0 0 rfl, K.at 0 1 rfl, K.at 0 2 rfl, K.at 0 3 rfl⟩
  go_wp2_with fail
  refine (rfloor_any _ q f 15 _ Ia.out Ef.out).mono ?_
  rintro e W1 ⟨rfl, b1⟩
  have K := K.keep b1
  have B := below_more B (Nat.le_refl _) b1
  clear b1
  clear t1 t2 t3 t4
  have hbl := below1 W1 (.cells #[.bool (sg f), .string (mg f)] 23)
  have K : Vars ((W1.heap.size, [.bool (sg f), .string (mg f)]) :: [(w.heap.size, [.bool na, .string sa, .bool nb, .string sb])]) (W1.alloc (.cells #[.bool (sg f), .string (mg f)] 23)) := Vars.new K _ _
  have B := below_more B (Nat.le_refl _) hbl
  clear hbl
  go_upto_region 4 with fail
  generalize W1.alloc (.cells #[.bool (sg f), .string (mg f)] 23) = V2 at *
  generalize W1.heap.size = p2 at *
  obtain ⟨t1, t2, t3, t4, t5, t6⟩ : V2.cell? ⟨p2, 0, none⟩ = some (.bool (sg f)) ∧ V2.cell? ⟨p2, 1, none⟩ = some (.string (mg f)) ∧ V2.cell? ⟨w.heap.size, 0, none⟩ = some (.bool na) ∧ V2.cell? ⟨w.heap.size, 1, none⟩ = some (.string sa) ∧ V2.cell? ⟨w.heap.size, 2, none⟩ = some (.bool nb) ∧ V2.cell? ⟨w.heap.size, 3, none⟩ = some (.string sb) := ⟨K.at 0 0 rfl, K.at 0 1 rfl, K.at 1 0 rfl, K.at 1 1 rfl, K.at 1 2 rfl, K.at 1 3 rfl⟩
  rcases hc with rfl | rfl
  all_goals
    have K0 : Vars [(p2, [.bool (sg f), .string (mg f)]), (w.heap.size, [.bool na, .string sa, .bool nb, .string sb])] V2.drew := K
    have B0 := B.drew
    have KB := And.intro K0 B0
    clear K0 B0
    go_region_held3 (fun W => W.cell? ⟨p2, 0, none⟩ = some (.bool (sg f)) ∧ W.cell? ⟨p2, 1, none⟩ = some (.string (mg f)) ∧ W.cell? ⟨w.heap.size, 0, none⟩ = some (.bool na) ∧ W.cell? ⟨w.heap.size, 1, none⟩ = some (.string sa) ∧ W.cell? ⟨w.heap.size, 2, none⟩ = some (.bool nb) ∧ W.cell? ⟨w.heap.size, 3, none⟩ = some (.string sb))
      (first | exact ⟨KB.1.at 0 0 rfl, KB.1.at 0 1 rfl, KB.1.at 1 0 rfl, KB.1.at 1 1 rfl, KB.1.at 1 2 rfl, KB.1.at 1 3 rfl⟩)
      (first
        | (go_at_call 20; (with_reducible refine (chk_mg f _).mono ?_); rintro e X ⟨rfl, bX⟩; (try unfold ratV); have KB := And.intro (KB.1.keep bX) (below_more KB.2 (Nat.le_refl _) bX))
        | (go_at_call 21; (with_reducible refine (rof_eq If.out Er.out).mono ?_); rintro e X ⟨rfl, bX⟩; (try unfold ratV); have KB := And.intro (KB.1.keep bX) (below_more KB.2 (Nat.le_refl _) bX))
        | (go_at_call 18; (first | (with_reducible refine (rcmp_eq Ir.out Iq.out (by omega) Ec.out).mono ?_) | (with_reducible refine (rcmp_eq Iq.out Is.out (by omega) Ed.out).mono ?_)); rintro e X ⟨rfl, bX⟩; (try unfold ratV); have KB := And.intro (KB.1.keep bX) (below_more KB.2 (Nat.le_refl _) bX))
        | (go_at_call 14; (with_reducible refine (lratio_any 1 1 o _ (by omega) (by omega) (by omega) (by omega) (by omega) Eo.out).mono ?_); rintro e X ⟨rfl, bX⟩; (try unfold ratV); have KB := And.intro (KB.1.keep bX) (below_more KB.2 (Nat.le_refl _) bX))
        | (go_at_call 12; (with_reducible refine (radd_any _ _ r o s 40 _ Ir.out Io.out (by omega) Es.out).mono ?_); rintro e X ⟨rfl, bX⟩; (try unfold ratV); have KB := And.intro (KB.1.keep bX) (below_more KB.2 (Nat.le_refl _) bX))
        | (go_at_call 11; (with_reducible refine (awaker_any _ (H0.out.keep KB.2) (tab_keep Ht.out KB.2)).mono ?_); rintro e X ⟨rfl, bX⟩; (try unfold ratV); have KB := And.intro (KB.1.keep bX) (below_more KB.2 (Nat.le_refl _) bX)))
  all_goals
    go_wp2
    go_ret
    exact ⟨rfl, KB.2⟩
end Go.Proofs.YtabmhckgdncjlaaGreatDoor

namespace Go.Proofs.YtabmhckgdncjlaaGreatDoor.rationalFloor
open Go.ChangeShapes Go.WideShapes Go.ChangeAt Go.RowKit
open Go.ChangeMaps (open_string shut_string)
set_option maxRecDepth 100000
set_option linter.unusedVariables false

theorem contract (H : Type) (enc : TypeId × Value → H) (W : World) (base : Nat) (args : Array Value) (ds gs : List (DataW H)) (before : List MemPlace)
    (hval : ∀ (j : Nat) t v, Tryz.f5.params[j]? = some t → args[j]? = some v → Value.okWide Tryz.prog W .any base t v)
    (hW : DataW.Whole enc Tryz.prog Tryz.f5.params.toList Rows.rationalFloorSpec.vars false W args.toList ds gs before) (hL : laidMetH Tryz.prog Rows.rationalFloorRow.laid W) (hS : W.ShapedOpen Tryz.prog) :
    Calls Tryz.prog 5 args W fun e W' => ∃ v, e = .returned v ∧ Rows.rationalFloorSpec.post enc Tryz.prog Tryz.f5 false true false false W args v W' := by
  have hW' := hW
  obtain ⟨p, q, hA0, hV, rfl, hfz, hnd⟩ := hW
  have hA : DataW.TrodAll enc Tryz.prog W 0 (fun _ => true) true Tryz.f5.params.toList args.toList ds p := hA0
  rw [Tryz.params5] at hA hval
  obtain ⟨v0, vs0, d0, ds0, p0, q0, hargs, rfl, rfl, h0, r0⟩ := trodAll_cons hA
  obtain ⟨rfl, rfl, rfl⟩ := trodAll_nil r0
  obtain rfl : args = #[v0] := by cases args; simp_all
  obtain ⟨rfl, rfl⟩ := trodVars_none hV
  obtain ⟨g0, s0, k0, t0, rfl, rfl, rfl, z0, y0⟩ := rat_open (hval 0 25 v0 rfl rfl) h0
  clear hA0
  simp only [List.append_nil] at hW'
  refine (floor_law g0 s0 k0 t0 W z0 y0 (zero0 hS) (tabPow hL)).mono fun e W' ⟨he, hb⟩ => ?_
  subst he
  refine ⟨_, rfl, _, _, _, [], [], [], hW', ?_, ?_, ?_, hb.frame _, fun h => by cases h⟩
  · exact trodAll_cons_mk (p := []) (shut_bool Tryz.underlying4 true) trodAll_mk0
  · exact (trodAll_cons_mk (p := []) (rat_shut z0 y0) trodAll_mk0)
  · rfl

theorem reads (os : Os) {H : Type} (enc : TypeId × Value → H) : ∃ places, DataW.whole enc Tryz.prog ((laidWorld os).forCall (fun _ _ => 0) ⟨#[], #[.agg #[.bool false, .string ⟨#[]⟩, .bool false, .string ⟨#[]⟩]], []⟩).memory Tryz.f5.params.toList Rows.rationalFloorSpec.vars false [.agg #[.bool false, .string ⟨#[]⟩, .bool false, .string ⟨#[]⟩]] 8 = some ([.agg [.agg [.lit (.bool false), .lit (.string [])], .agg [.lit (.bool false), .lit (.string [])]]], [], places) :=
  ⟨[], by kernel_rfl⟩

theorem lifted (os : Os) (started : os.Started) (H : Type) (enc : TypeId × Value → H) (F : Stop.Interp) :
    ReturnsInHanded {} Tryz.checked os 5 .any ((OpenSpec.ofChange Rows.rationalFloorSpec).preRow enc Tryz.prog Tryz.f5 Rows.rationalFloorRow.domain false Rows.rationalFloorRow.laid) (((OpenSpec.ofChange Rows.rationalFloorSpec).at F).post enc Tryz.prog Tryz.f5 false true false false) := by
  obtain ⟨places, hx⟩ := reads os enc
  refine returnsInHanded_of_row (C := Tryz.checked) (s := OpenSpec.ofChange Rows.rationalFloorSpec) ownNone started (by kernel_rfl) Tryz.func5
    (witness_row_at (enc := enc) (C := Tryz.checked) false (laidWorld os) #[.agg #[.bool false, .string ⟨#[]⟩, .bool false, .string ⟨#[]⟩]] rfl (by kernel_rfl) (by kernel_rfl) (by kernel_rfl)
      (OpenSpec.preRow_of_cond 8 hx (by kernel_rfl) (fun k hk => by cases hk) (by kernel_rfl) (laid_met os _))) ?_
  intro W base args ds gs before hval hW _ _ _ hL hS _
  exact contract H enc W base args ds gs before hval hW hL hS

theorem said : Rows.RationalFloorSaid :=
  OpenClaim.holds_of_cond 5 Tryz.f5 rfl rfl rfl rfl rfl rfl rfl ⟨rfl, rfl, rfl, rfl, rfl⟩ rfl rfl rfl rfl rfl (by kernel_rfl) Tryz.func5 (by kernel_rfl)
    (of_decide_eq_true (by kernel_rfl)) (by unfold Func.isWrapper; first | (rw [if_pos (by decide +kernel)]; kernel_rfl) | (rw [if_neg (by decide +kernel)]; exact ⟨rfl, rfl⟩))
    (fun os started H enc _ F => by rw [OpenClaim.pre_eq_preRow]; exact lifted os started H enc F)

theorem plain (f : FuncId) (fn : Func) (hf : Tryz.pinned.checked.prog.funcNamed "groove/groovelaw02.RationalFloor" = some f) (hfn : Tryz.pinned.checked.prog.funcs[f]? = some fn) :
    false = Tryz.pinned.checked.prog.looks [] ∧ ∀ (j : Nat) t, fn.params[j]? = some t → Tryz.pinned.checked.prog.wantsStandIn t = false := by
  obtain rfl : f = 5 := Option.some.inj ((show Tryz.prog.funcNamed "groove/groovelaw02.RationalFloor" = some 5 by kernel_rfl).symm.trans hf) |>.symm
  obtain rfl : fn = Tryz.f5 := (Option.some.inj (Tryz.func5.symm.trans hfn)).symm
  refine ⟨by kernel_rfl, fun j t ht => ?_⟩
  rw [Tryz.params5] at ht
  have hm := Array.mem_of_getElem? ht
  obtain rfl : t = 25 := by simpa using hm
  exact noStandR

/-- RationalFloor's card. -/
theorem card : Rows.RationalFloorCardSaid :=
  Claim7.holds_tied_plain_at .later [] _ _ _ _ said (fun _ h => by cases h) (by kernel_rfl) (fun _ h => by cases h) rationalFloor_row_tie rfl ⟨rfl, rfl⟩ (by kernel_rfl) rfl plain (by kernel_rfl)
end Go.Proofs.YtabmhckgdncjlaaGreatDoor.rationalFloor
