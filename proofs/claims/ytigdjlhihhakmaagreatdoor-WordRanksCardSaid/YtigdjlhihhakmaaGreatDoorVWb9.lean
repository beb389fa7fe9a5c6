/- WordRanks returns true for every input. WordRanks returns true for every input: the law's row, and its card, tied to the program's text. Conditions: those of the row: its tables read as listed (the card ties them to the program's text). -/
import Derived.Test.YtigdjlhihhakmaaGreatDoorQ36

namespace Go.Proofs.YtigdjlhihhakmaaGreatDoor
open Go.RowKit
set_option linter.unusedSimpArgs false
set_option linter.unusedVariables false

attribute [local go_sem ↓] eqlIntW
theorem Rank_any (q : Int) (l : List UInt8) (w : World) (hl : l.length ≤ 30 ∨ 65536 < l.length) (hl2 : l.length ≤ 9223372036854775807) :
    Calls Tryz.prog 8 #[.int .i64 q, .string ⟨l.toArray⟩] w (NumOut w (rankW q l) (chk q l)) := by
  unfold rankW
  by_cases h0 : chk q l = 0
  · obtain ⟨m, rfl, q1, q2, h, hW⟩ := chk_zero h0
    rw [if_pos h0, h0, Int.toNat_natCast]
    exact Rank_30 m l w q1 q2 (by omega) hW
  · rw [if_neg h0]
    exact rank_fail q l w hl2 h0
/-- What the law keeps: its argument's variable, and those of two ranks. -/
def A3 (w : World) (p r : Nat) (g : Bool) (s : ByteArray) (z : Int) (W : World) : Prop := AB w w.heap.size g s W ∧ BVar W p z ∧ BVar W r z
theorem A3.keep {w W X : World} {p r : Nat} {g : Bool} {s : ByteArray} {z : Int} (h : A3 w p r g s z W) (b : Below W.heap.size W X) : A3 w p r g s z X := ⟨h.1.keep b, h.2.1.keep b, h.2.2.keep b⟩
theorem A3.cells {w W : World} {p r : Nat} {g : Bool} {s : ByteArray} {z : Int} (h : A3 w p r g s z W) : (W.cell? ⟨w.heap.size, 0, none⟩ = some (.bool g) ∧ W.cell? ⟨w.heap.size, 1, none⟩ = some (.string s)) ∧ (W.cell? ⟨p, 0, none⟩ = some (.bool (sg z)) ∧ W.cell? ⟨p, 1, none⟩ = some (.string (mg z))) ∧ W.cell? ⟨r, 0, none⟩ = some (.bool (sg z)) ∧ W.cell? ⟨r, 1, none⟩ = some (.string (mg z)) := ⟨h.1.2, h.2.1, h.2.2⟩
set_option maxRecDepth 100000 in
set_option maxHeartbeats 12800000 in
theorem wordRanks_main (q n : Int) (l : List UInt8) (g : Bool) (s : ByteArray) (w : World) (hl : l.length ≤ 24 ∨ (65536 < l.length ∧ l.length ≤ 65544)) (hn : n ≤ 24 ∨ 65536 < n) (hs : s.size ≤ 16) :
    Calls Tryz.prog 3 #[.int .i64 q, .int .i64 n, .string ⟨l.toArray⟩, .agg #[.bool g, .string s]] w fun e w' => e = .returned (.bool true) ∧ Below w.heap.size w w' := by
  have HL := Lib.hid (fun W => refLong_any l W (by omega))
  simp only [decide_eq_false (show ¬ ((24 < l.length ∧ l.length ≤ 65536) ∨ 65544 < l.length) by omega)] at HL
  have HL2 := Lib.hid (fun W => refLongNumber_any n W)
  simp only [decide_eq_false (show ¬ (24 < n ∧ n ≤ 65536) by omega)] at HL2
  have hd : decide ((16 : Int) < (s.size : Int)) = false := decide_eq_false (by omega)
  have hn2 : n.toNat ≤ 30 ∨ chkL q n ≠ 0 := by
    rcases hn with h | h
    · exact Or.inl (by omega)
    · refine Or.inr ?_
      unfold chkL
      by_cases hq : 1 ≤ q ∧ q ≤ 16
      · rw [if_pos hq, if_neg (by omega), if_pos h]; decide
      · rw [if_neg hq]; decide
  have HR := Lib.hid (fun W => Rank_any q l W (by omega) (by omega))
  have HR2 := Lib.hid (fun W => refRank_any q l W (by omega) (by omega))
  obtain ⟨z, hz⟩ : ∃ z, rankW q l = z := ⟨_, rfl⟩
  obtain ⟨c, hc⟩ : ∃ c, chk q l = c := ⟨_, rfl⟩
  simp only [hz, hc] at HR HR2
  have HU := Lib.hid (fun W => Unrank_any q n g s W hn2 (by omega))
  have HU2 := Lib.hid (fun W => refUnrank_any q n g s W hn2 hs)
  obtain ⟨⟨x, d⟩, hx⟩ : ∃ r, unrV q n g s = r := ⟨_, rfl⟩
  simp only [hx] at HU HU2
  have e1 : (x == x) = true := by simp
  have e2 : (c == c) = true := by simp
  have e3 : (d == d) = true := by simp
  have e4 : (sg z == sg z) = true := by simp
  have e5 : ((mg z).toList == (mg z).toList) = true := by simp
  have K := AB.box w g s
  obtain ⟨x1, x2⟩ := K.cells
  clear hz hc hx hl hn hn2
  go_enter Tryz.func3, Tryz.ntmps3
  go_upto_region 5 with (first
    | (go_at_call 5; (with_reducible refine (HL.out _).mono ?_); rintro e W1 ⟨rfl, hW⟩; (rw [hW]); (clear hW))
    | (go_at_call 6; (with_reducible refine (HL2.out _).mono ?_); rintro e W1 ⟨rfl, hW⟩; (rw [hW]); (clear hW))
    | (go_at_call 8; (with_reducible refine (HR.out _).mono ?_); rintro e W3 ⟨rfl, b3⟩)
    | (go_at_call 9; (with_reducible refine (HR2.out _).mono ?_); rintro e W4 ⟨rfl, b4⟩))
  have A := Lib.hid (show A3 w W3.heap.size W4.heap.size g s z _ from
    ⟨(((K.keep b3).keep (below1 W3 (.cells #[.bool (sg z), .string (mg z)] 23))).keep b4).keep (below1 W4 (.cells #[.bool (sg z), .string (mg z)] 23)),
     ((BVar.new W3 z 23).keep b4).keep (below1 W4 (.cells #[.bool (sg z), .string (mg z)] 23)), BVar.new W4 z 23⟩)
  clear K x1 x2 b3 b4
  generalize W4.alloc (.cells #[.bool (sg z), .string (mg z)] 23) = W4a at *
  generalize W3.heap.size = p at *
  generalize W4.heap.size = r at *
  obtain ⟨⟨x1, x2⟩, -⟩ := A.out.cells
  go_upto_region 6 with (go_at_call 10; (with_reducible refine (HU.out _).mono ?_); rintro e W5 ⟨rfl, b5⟩)
  have A := Lib.hid (A.out.keep b5)
  clear x1 x2 b5
  obtain ⟨⟨x1, x2⟩, -⟩ := A.out.cells
  go_upto_region 7 with (go_at_call 11; (with_reducible refine (HU2.out _).mono ?_); rintro e W6 ⟨rfl, b6⟩)
  have A := Lib.hid (A.out.keep b6)
  clear x1 x2 b6
  obtain ⟨-, ⟨x3, x4⟩, x5, x6⟩ := A.out.cells
  go_wp2_with (go_at_call 7; (with_reducible refine (awake_any _).mono ?_); rintro e X3 ⟨rfl, bX⟩)
  go_ret
  exact ⟨rfl, below_more A.out.1.below (Nat.le_refl _) bX⟩
set_option maxRecDepth 100000 in
set_option maxHeartbeats 6400000 in
theorem wordRanks_any (q n : Int) (l : List UInt8) (g : Bool) (s : ByteArray) (w : World) (hl : l.length ≤ 9223372036854775807) (hs9 : s.size ≤ 9223372036854775807) :
    Calls Tryz.prog 3 #[.int .i64 q, .int .i64 n, .string ⟨l.toArray⟩, .agg #[.bool g, .string s]] w fun e w' => e = .returned (.bool true) ∧ Below w.heap.size w w' := by
  have HL := Lib.hid (fun W => refLong_any l W hl)
  have HL2 := Lib.hid (fun W => refLongNumber_any n W)
  have K := AB.box w g s
  obtain ⟨x1, x2⟩ := K.cells
  by_cases h : (24 < l.length ∧ l.length ≤ 65536) ∨ 65544 < l.length
  · simp only [decide_eq_true h] at HL
    clear h
    go_enter Tryz.func3, Tryz.ntmps3
    go_wp2_with (first
      | (go_at_call 5; (with_reducible refine (HL.out _).mono ?_); rintro e W1 ⟨rfl, hW⟩; (rw [hW]); (clear hW))
      | (go_at_call 6; (with_reducible refine (HL2.out _).mono ?_); rintro e W1 ⟨rfl, hW⟩; (rw [hW]); (clear hW))
      | (go_at_call 7; (with_reducible refine (awake_any _).mono ?_); rintro e X3 ⟨rfl, x3⟩))
    go_ret
    exact ⟨rfl, below_more K.below (Nat.le_refl _) x3⟩
  · by_cases h2 : 24 < n ∧ n ≤ 65536
    · simp only [decide_eq_false h] at HL
      simp only [decide_eq_true h2] at HL2
      clear h h2
      go_enter Tryz.func3, Tryz.ntmps3
      go_wp2_with (first
        | (go_at_call 5; (with_reducible refine (HL.out _).mono ?_); rintro e W1 ⟨rfl, hW⟩; (rw [hW]); (clear hW))
        | (go_at_call 6; (with_reducible refine (HL2.out _).mono ?_); rintro e W1 ⟨rfl, hW⟩; (rw [hW]); (clear hW))
        | (go_at_call 7; (with_reducible refine (awake_any _).mono ?_); rintro e X3 ⟨rfl, x3⟩))
      go_ret
      exact ⟨rfl, below_more K.below (Nat.le_refl _) x3⟩
    · rcases Nat.lt_or_ge 16 s.size with h3 | h3
      · simp only [decide_eq_false h] at HL
        simp only [decide_eq_false h2] at HL2
        have hd : decide ((16 : Int) < (s.size : Int)) = true := decide_eq_true (by omega)
        clear h h2
        go_enter Tryz.func3, Tryz.ntmps3
        go_wp2_with (first
          | (go_at_call 5; (with_reducible refine (HL.out _).mono ?_); rintro e W1 ⟨rfl, hW⟩; (rw [hW]); (clear hW))
          | (go_at_call 6; (with_reducible refine (HL2.out _).mono ?_); rintro e W1 ⟨rfl, hW⟩; (rw [hW]); (clear hW))
          | (go_at_call 7; (with_reducible refine (awake_any _).mono ?_); rintro e X3 ⟨rfl, x3⟩))
        go_ret
        exact ⟨rfl, below_more K.below (Nat.le_refl _) x3⟩
      · exact wordRanks_main q n l g s w (by omega) (by omega) h3
end Go.Proofs.YtigdjlhihhakmaaGreatDoor

namespace Go.Proofs.YtigdjlhihhakmaaGreatDoor.wordRanks
open Go.ChangeShapes Go.WideShapes Go.ChangeAt Go.RowKit
open Go.ChangeMaps (open_string shut_string)
set_option maxRecDepth 100000
set_option linter.unusedVariables false

theorem contract (H : Type) (enc : TypeId × Value → H) (W : World) (base : Nat) (args : Array Value) (ds gs : List (DataW H)) (before : List MemPlace)
    (hval : ∀ (j : Nat) t v, Tryz.f3.params[j]? = some t → args[j]? = some v → Value.okWide Tryz.prog W .any base t v)
    (hW : DataW.Whole enc Tryz.prog Tryz.f3.params.toList Rows.wordRanksSpec.vars false W args.toList ds gs before) (hL : laidMetH Tryz.prog Rows.wordRanksRow.laid W) :
    Calls Tryz.prog 3 args W fun e W' => ∃ v, e = .returned v ∧ Rows.wordRanksSpec.post enc Tryz.prog Tryz.f3 false true false false W args v W' := by
  have hW' := hW
  obtain ⟨p, q, hA0, hV, rfl, hfz, hnd⟩ := hW
  have hA : DataW.TrodAll enc Tryz.prog W 0 (fun _ => true) true Tryz.f3.params.toList args.toList ds p := hA0
  rw [Tryz.params3] at hA hval
  obtain ⟨v0, vs0, d0, ds0, p0, q0, hargs, rfl, rfl, h0, r0⟩ := trodAll_cons hA
  obtain ⟨v1, vs1, d1, ds1, p1, q1, rfl, rfl, rfl, h1, r1⟩ := trodAll_cons r0
  obtain ⟨v2, vs2, d2, ds2, p2, q2, rfl, rfl, rfl, h2, r2⟩ := trodAll_cons r1
  obtain ⟨v3, vs3, d3, ds3, p3, q3, rfl, rfl, rfl, h3, r3⟩ := trodAll_cons r2
  obtain ⟨rfl, rfl, rfl⟩ := trodAll_nil r3
  obtain rfl : args = #[v0, v1, v2, v3] := by cases args; simp_all
  obtain ⟨rfl, rfl⟩ := trodVars_none hV
  obtain ⟨n0, rfl, rfl, rfl, w0⟩ := open_int Tryz.underlying3 (hval 0 3 v0 rfl rfl) h0
  have b0 : (IntKind.min .i64) ≤ n0 ∧ n0 ≤ (IntKind.max .i64) := by simpa [Lit.wf] using w0
  simp [IntKind.min, IntKind.max, IntKind.signed, IntKind.bits] at b0
  obtain ⟨n1, rfl, rfl, rfl, w1⟩ := open_int Tryz.underlying3 (hval 1 3 v1 rfl rfl) h1
  have b1 : (IntKind.min .i64) ≤ n1 ∧ n1 ≤ (IntKind.max .i64) := by simpa [Lit.wf] using w1
  simp [IntKind.min, IntKind.max, IntKind.signed, IntKind.bits] at b1
  obtain ⟨s2, rfl, rfl, rfl, z2⟩ := open_string Tryz.underlying9 (hval 2 9 v2 rfl rfl) h2
  obtain ⟨g3, s3, rfl, rfl, rfl, z3⟩ := int_open (hval 3 23 v3 rfl rfl) h3
  clear hA0
  simp only [List.append_nil] at hW'
  refine (wordRanks_any n0 n1 s2.data.toList g3 s3 W (by have := z2; unfold maxLen at this; exact this) (by have := z3; unfold maxLen at this; exact this)).mono fun e W' ⟨he, hb⟩ => ?_
  subst he
  refine ⟨_, rfl, _, _, _, [], [], [], hW', ?_, ?_, ?_, hb.frame _, fun h => by cases h⟩
  · exact trodAll_cons_mk (p := []) (shut_bool Tryz.underlying4 true) trodAll_mk0
  · exact (trodAll_cons_mk (p := []) (shut_int Tryz.underlying3 w0) (trodAll_cons_mk (p := []) (shut_int Tryz.underlying3 w1) (trodAll_cons_mk (p := []) (shut_string Tryz.underlying9 z2) (trodAll_cons_mk (p := []) (int_shut z3) trodAll_mk0))))
  · rfl

theorem reads (os : Os) {H : Type} (enc : TypeId × Value → H) : ∃ places, DataW.whole enc Tryz.prog ((laidWorld os).forCall (fun _ _ => 0) ⟨#[], #[.int .i64 0, .int .i64 0, .string ⟨#[]⟩, .agg #[.bool false, .string ⟨#[]⟩]], []⟩).memory Tryz.f3.params.toList Rows.wordRanksSpec.vars false [.int .i64 0, .int .i64 0, .string ⟨#[]⟩, .agg #[.bool false, .string ⟨#[]⟩]] 8 = some ([.lit (.int .i64 0), .lit (.int .i64 0), .lit (.string []), .agg [.lit (.bool false), .lit (.string [])]], [], places) :=
  ⟨[], by kernel_rfl⟩

theorem lifted (os : Os) (started : os.Started) (H : Type) (enc : TypeId × Value → H) (F : Stop.Interp) :
    ReturnsInHanded {} Tryz.checked os 3 .any ((OpenSpec.ofChange Rows.wordRanksSpec).preRow enc Tryz.prog Tryz.f3 Rows.wordRanksRow.domain false Rows.wordRanksRow.laid) (((OpenSpec.ofChange Rows.wordRanksSpec).at F).post enc Tryz.prog Tryz.f3 false true false false) := by
  obtain ⟨places, hx⟩ := reads os enc
  refine returnsInHanded_of_row (C := Tryz.checked) (s := OpenSpec.ofChange Rows.wordRanksSpec) ownNone started (by kernel_rfl) Tryz.func3
    (witness_row_at (enc := enc) (C := Tryz.checked) false (laidWorld os) #[.int .i64 0, .int .i64 0, .string ⟨#[]⟩, .agg #[.bool false, .string ⟨#[]⟩]] rfl (by kernel_rfl) (by kernel_rfl) (by kernel_rfl)
      (OpenSpec.preRow_of_cond 8 hx (by kernel_rfl) (fun k hk => by cases hk) (by kernel_rfl) (laid_met os _))) ?_
  intro W base args ds gs before hval hW _ _ _ hL _ _
  exact contract H enc W base args ds gs before hval hW hL

theorem said : Rows.WordRanksSaid :=
  OpenClaim.holds_of_cond 3 Tryz.f3 rfl rfl rfl rfl rfl rfl rfl ⟨rfl, rfl, rfl, rfl, rfl⟩ rfl rfl rfl rfl rfl (by kernel_rfl) Tryz.func3 (by kernel_rfl)
    (of_decide_eq_true (by kernel_rfl)) (by unfold Func.isWrapper; first | (rw [if_pos (by decide +kernel)]; kernel_rfl) | (rw [if_neg (by decide +kernel)]; exact ⟨rfl, rfl⟩))
    (fun os started H enc _ F => by rw [OpenClaim.pre_eq_preRow]; exact lifted os started H enc F)

theorem plain (f : FuncId) (fn : Func) (hf : Tryz.pinned.checked.prog.funcNamed "groove/groovelaw07.WordRanks" = some f) (hfn : Tryz.pinned.checked.prog.funcs[f]? = some fn) :
    false = Tryz.pinned.checked.prog.looks [] ∧ ∀ (j : Nat) t, fn.params[j]? = some t → Tryz.pinned.checked.prog.wantsStandIn t = false := by
  obtain rfl : f = 3 := Option.some.inj ((show Tryz.prog.funcNamed "groove/groovelaw07.WordRanks" = some 3 by kernel_rfl).symm.trans hf) |>.symm
  obtain rfl : fn = Tryz.f3 := (Option.some.inj (Tryz.func3.symm.trans hfn)).symm
  refine ⟨by kernel_rfl, fun j t ht => ?_⟩
  rw [Tryz.params3] at ht
  have hm := Array.mem_of_getElem? ht
  have hm : t = 3 ∨ t = 3 ∨ t = 9 ∨ t = 23 := by simpa using hm
  rcases hm with rfl | rfl | rfl | rfl
  · exact noStand.2.1
  · exact noStand.2.1
  · exact noStand.1
  · exact noStandI

/-- WordRanks's card. -/
theorem card : Rows.WordRanksCardSaid :=
  Claim7.holds_tied_plain_at .later [] _ _ _ _ said (fun _ h => by cases h) (by kernel_rfl) (fun _ h => by cases h) wordRanks_row_tie rfl ⟨rfl, rfl⟩ (by kernel_rfl) rfl plain (by kernel_rfl)
end Go.Proofs.YtigdjlhihhakmaaGreatDoor.wordRanks
