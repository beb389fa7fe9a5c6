/- WordLists returns true for every input. WordLists returns true for every input: the law's row, and its card, tied to the program's text. Conditions: those of the row: its tables read as listed (the card ties them to the program's text). -/
import Derived.Test.YtigdjlhihhakmaaDoorQ25
import Derived.Test.YtigdjlhihhakmaaDoorQ24

namespace Go.Proofs.YtigdjlhihhakmaaDoor
open Go.RowKit
set_option linter.unusedSimpArgs false
set_option linter.unusedVariables false

theorem strs_data (l : List (List UInt8)) (j : Nat) : (l.map fun s => (⟨s.toArray⟩ : ByteArray)).getD j ByteArray.empty = if j < l.length then ⟨(l.getD j []).toArray⟩ else ByteArray.empty := by
  rw [List.getD_eq_getElem?_getD, List.getElem?_map]
  by_cases h : j < l.length
  · rw [if_pos h, List.getElem?_eq_getElem h, List.getD_eq_getElem?_getD, List.getElem?_eq_getElem h]; rfl
  · rw [if_neg h, List.getElem?_eq_none (by omega)]; rfl
theorem equalS_any {W : World} {v v' : Value} {l : List (List UInt8)} (h : StrsIn W v l) (h' : StrsIn W v' l) (hl : l.length ≤ 100000) :
    Calls Tryd.prog 19 #[v, v'] W fun e W' => e = .returned (.bool true) ∧ Below W.heap.size W W' := by
  rcases h with ⟨rfl, a, c, rfl⟩ | ⟨g, c, rfl, hc⟩
  · obtain ⟨a2, c2, rfl⟩ : ∃ a2 c2, v' = .slice a2 0 c2 := by
      rcases h' with ⟨-, a2, c2, rfl⟩ | ⟨g, c2, rfl, -⟩
      · exact ⟨_, _, rfl⟩
      · exact ⟨_, _, rfl⟩
    refine (Tryd.slices_Equal_string_empty a a2 c 0 c2 W (by omega)).mono ?_
    rintro e W' ⟨rfl, rfl⟩
    exact ⟨rfl, Below.refl _ _⟩
  · rcases h' with ⟨rfl, a2, c2, rfl⟩ | ⟨g', c', rfl, hc'⟩
    · refine (Tryd.slices_Equal_string_empty (some ⟨g, 0, none⟩) a2 c 0 c2 W (by omega)).mono ?_
      rintro e W' ⟨rfl, rfl⟩
      exact ⟨rfl, Below.refl _ _⟩
    · have hd : ∀ (b : Nat), (∀ j, j < l.length → W.cell? ⟨b, j, none⟩ = some (.string ⟨(l.getD j []).toArray⟩)) → ∀ j, j < (l.map fun s => (⟨s.toArray⟩ : ByteArray)).length → W.cell? ⟨b, 0 + j, none⟩ = some (.string ((l.map fun s => (⟨s.toArray⟩ : ByteArray)).getD j ByteArray.empty)) := fun b hb j hj => by
        rw [List.length_map] at hj
        rw [Nat.zero_add, hb j hj, strs_data, if_pos hj]
      refine (Tryd.slices_Equal_string g 0 l.length c g' 0 l.length c' (l.map fun s => (⟨s.toArray⟩ : ByteArray)) (l.map fun s => (⟨s.toArray⟩ : ByteArray)) W (by rw [List.length_map]; exact Nat.le_refl _) (by rw [List.length_map]; exact Nat.le_refl _) (by omega) (by omega) (hd g hc) (hd g' hc')).mono ?_
      rintro e W' ⟨rfl, q, rfl⟩
      exact ⟨by simp, ⟨(Below.refl W.heap.size W).os, (Below.refl W.heap.size W).tape, (Below.refl W.heap.size W).output, (Below.refl W.heap.size W).size, (Below.refl W.heap.size W).block⟩⟩
set_option maxRecDepth 100000 in
set_option maxHeartbeats 3200000 in
theorem refLong_any (l : List UInt8) (w : World) (hl : l.length ≤ 9223372036854775807) :
    Calls Tryd.prog 10 #[.string ⟨l.toArray⟩, .int .i64 24] w fun e w' => e = .returned (.bool (decide ((24 < l.length ∧ l.length ≤ 65536) ∨ 65544 < l.length))) ∧ w' = w := by
  rcases (show l.length ≤ 24 ∨ (24 < l.length ∧ l.length ≤ 65536) ∨ (65536 < l.length ∧ l.length ≤ 65544) ∨ 65544 < l.length by omega) with h | ⟨h, h2⟩ | ⟨h, h2⟩ | h
  · have d1 : decide (((l.length : Int) : Int) ≤ 65536) = true := decide_eq_true (by omega)
    have d2 : decide ((65544 : Int) < (l.length : Int)) = false := decide_eq_false (by omega)
    have d3 : decide ((24 : Int) < (l.length : Int)) = false := decide_eq_false (by omega)
    have HD := Lib.hid (show decide ((24 < l.length ∧ l.length ≤ 65536) ∨ 65544 < l.length) = false from decide_eq_false (by omega))
    rw [HD.out]
    go_enter Tryd.func10, Tryd.ntmps10
    go_wp2_with fail
    go_ret
    exact ⟨rfl, rfl⟩
  · have d1 : decide (((l.length : Int) : Int) ≤ 65536) = true := decide_eq_true (by omega)
    have d2 : decide ((65544 : Int) < (l.length : Int)) = false := decide_eq_false (by omega)
    have d3 : decide ((24 : Int) < (l.length : Int)) = true := decide_eq_true (by omega)
    have HD := Lib.hid (show decide ((24 < l.length ∧ l.length ≤ 65536) ∨ 65544 < l.length) = true from decide_eq_true (by omega))
    rw [HD.out]
    go_enter Tryd.func10, Tryd.ntmps10
    go_wp2_with fail
    go_ret
    exact ⟨rfl, rfl⟩
  · have d1 : decide (((l.length : Int) : Int) ≤ 65536) = false := decide_eq_false (by omega)
    have d2 : decide ((65544 : Int) < (l.length : Int)) = false := decide_eq_false (by omega)
    have d3 : decide ((24 : Int) < (l.length : Int)) = true := decide_eq_true (by omega)
    have HD := Lib.hid (show decide ((24 < l.length ∧ l.length ≤ 65536) ∨ 65544 < l.length) = false from decide_eq_false (by omega))
    rw [HD.out]
    go_enter Tryd.func10, Tryd.ntmps10
    go_wp2_with fail
    go_ret
    exact ⟨rfl, rfl⟩
  · have d1 : decide (((l.length : Int) : Int) ≤ 65536) = false := decide_eq_false (by omega)
    have d2 : decide ((65544 : Int) < (l.length : Int)) = true := decide_eq_true (by omega)
    have d3 : decide ((24 : Int) < (l.length : Int)) = true := decide_eq_true (by omega)
    have HD := Lib.hid (show decide ((24 < l.length ∧ l.length ≤ 65536) ∨ 65544 < l.length) = true from decide_eq_true (by omega))
    rw [HD.out]
    go_enter Tryd.func10, Tryd.ntmps10
    go_wp2_with fail
    go_ret
    exact ⟨rfl, rfl⟩
set_option maxRecDepth 100000 in
set_option maxHeartbeats 3200000 in
theorem refLongNumber_any (n : Int) (w : World) :
    Calls Tryd.prog 11 #[.int .i64 n, .int .i64 24] w fun e w' => e = .returned (.bool (decide (24 < n ∧ n ≤ 65536))) ∧ w' = w := by
  rcases (show n ≤ 24 ∨ (24 < n ∧ n ≤ 65536) ∨ (24 < n ∧ 65536 < n) by omega) with h | ⟨h, h2⟩ | ⟨h, h2⟩
  · have d1 : decide (n ≤ 65536) = true := decide_eq_true (by omega)
    have d3 : decide (24 < n) = false := decide_eq_false (by omega)
    have HD := Lib.hid (show decide (24 < n ∧ n ≤ 65536) = false from decide_eq_false (by omega))
    rw [HD.out]
    go_enter Tryd.func11, Tryd.ntmps11
    go_wp2_with fail
    go_ret
    exact ⟨rfl, rfl⟩
  · have d1 : decide (n ≤ 65536) = true := decide_eq_true (by omega)
    have d3 : decide (24 < n) = true := decide_eq_true (by omega)
    have HD := Lib.hid (show decide (24 < n ∧ n ≤ 65536) = true from decide_eq_true (by omega))
    rw [HD.out]
    go_enter Tryd.func11, Tryd.ntmps11
    go_wp2_with fail
    go_ret
    exact ⟨rfl, rfl⟩
  · have d1 : decide (n ≤ 65536) = false := decide_eq_false (by omega)
    have d3 : decide (24 < n) = true := decide_eq_true (by omega)
    have HD := Lib.hid (show decide (24 < n ∧ n ≤ 65536) = false from decide_eq_false (by omega))
    rw [HD.out]
    go_enter Tryd.func11, Tryd.ntmps11
    go_wp2_with fail
    go_ret
    exact ⟨rfl, rfl⟩
theorem all_any (q n : Int) (w : World) (hn : n ≤ 1000 ∨ 65536 < n) : Calls Tryd.prog 13 #[.int .i64 q, .int .i64 n] w (AllOut w (allR q n)) := by
  by_cases h : chkL q n = 0
  · obtain ⟨m, k, rfl, rfl, q1, q2, k2⟩ := chkL_zero h
    rcases Nat.lt_or_ge 4096 (m ^ k) with h4 | h4
    · exact all_many m k w q1 q2 (by omega) h h4
    · exact all_few m k w q1 q2 (by omega) h h4
  · exact all_err q n w h
theorem refAll_any (q n : Int) (w : World) (hn : n ≤ 1000 ∨ 65536 < n) : Calls Tryd.prog 14 #[.int .i64 q, .int .i64 n] w (RefAllOut w (allR q n)) := by
  by_cases h : chkL q n = 0
  · obtain ⟨m, k, rfl, rfl, q1, q2, k2⟩ := chkL_zero h
    exact refAll_good m k w q1 q2 (by omega) h
  · exact refAll_err q n w h
theorem allR_len (q n : Int) : (allR q n).1.length ≤ 4096 := by
  unfold allR
  split
  · split
    · next h => rw [wordsTo_len]; exact h
    · exact Nat.zero_le _
  · exact Nat.zero_le _
set_option maxRecDepth 100000 in
set_option maxHeartbeats 12800000 in
theorem wordLists_main (q n : Int) (l : List UInt8) (w : World) (hl : l.length ≤ 24 ∨ (65536 < l.length ∧ l.length ≤ 65544)) (hn : n ≤ 24 ∨ 65536 < n) :
    Calls Tryd.prog 3 #[.int .i64 q, .int .i64 n, .string ⟨l.toArray⟩] w fun e w' => e = .returned (.bool true) ∧ Below w.heap.size w w' := by
  have HL := Lib.hid (fun W => refLong_any l W (by omega))
  simp only [decide_eq_false (show ¬ ((24 < l.length ∧ l.length ≤ 65536) ∨ 65544 < l.length) by omega)] at HL
  have HL2 := Lib.hid (fun W => refLongNumber_any n W)
  simp only [decide_eq_false (show ¬ (24 < n ∧ n ≤ 65536) by omega)] at HL2
  have HA := Lib.hid (fun W => all_any q n W (by omega))
  have HA2 := Lib.hid (fun W => refAll_any q n W (by omega))
  have hlen := allR_len q n
  obtain ⟨⟨L, c⟩, hr⟩ : ∃ r, allR q n = r := ⟨_, rfl⟩
  simp only [hr] at HA HA2
  rw [hr] at hlen
  have HN := Lib.hid (fun W => next_any q l W (by omega))
  have HN2 := Lib.hid (fun W => refNext_any q l W (by omega) (by omega))
  obtain ⟨⟨x, d⟩, hx⟩ : ∃ r, nextW q l = r := ⟨_, rfl⟩
  simp only [hx] at HN HN2
  have HC := Lib.hid (fun W => check_any q l W (by omega))
  have HC2 := Lib.hid (fun W => refCheck_any q l W (by omega))
  obtain ⟨k, hk⟩ : ∃ k, chk q l = k := ⟨_, rfl⟩
  simp only [hk] at HC HC2
  have e1 : (x == x) = true := by simp
  have e2 : (c == c) = true := by simp
  have e3 : (d == d) = true := by simp
  have e4 : (k == k) = true := by simp
  clear hr hx hk hl hn
  go_enter Tryd.func3, Tryd.ntmps3
  go_wp2_with (first
    | (go_at_call 10; (with_reducible refine (HL.out _).mono ?_); rintro e W1 ⟨rfl, hW⟩; (rw [hW]); (clear hW))
    | (go_at_call 11; (with_reducible refine (HL2.out _).mono ?_); rintro e W1 ⟨rfl, hW⟩; (rw [hW]); (clear hW))
    | (go_at_call 13; (with_reducible refine (HA.out _).mono ?_); rintro e W1 ⟨v1, rfl, hS1, b1⟩; (have S1 := Lib.hid (StrsAt.strsIn hS1)); (obtain ⟨a1, c1, rfl⟩ := StrsAt.slice hS1); (clear hS1))
    | (go_at_call 14; (with_reducible refine (HA2.out _).mono ?_); rintro e W2 ⟨v2, rfl, hS2, b2⟩; (have S2 := Lib.hid hS2); (clear hS2); (have S1 := Lib.hid (S1.out.keep b2)); (have B2 := below_more b1 (Nat.le_refl _) b2))
    | (go_at_call 15; (with_reducible refine (HN.out _).mono ?_); rintro e W3 ⟨rfl, b3⟩; (have S1 := Lib.hid (S1.out.keep b3)); (have S2 := Lib.hid (S2.out.keep b3)); (have B3 := below_more B2 (Nat.le_refl _) b3))
    | (go_at_call 16; (with_reducible refine (HN2.out _).mono ?_); rintro e W4 ⟨rfl, b4⟩; (have S1 := Lib.hid (S1.out.keep b4)); (have S2 := Lib.hid (S2.out.keep b4)); (have B4 := below_more B3 (Nat.le_refl _) b4))
    | (go_at_call 17; (with_reducible refine (HC.out _).mono ?_); rintro e W5 ⟨rfl, b5⟩; (have S1 := Lib.hid (S1.out.keep b5)); (have S2 := Lib.hid (S2.out.keep b5)); (have B5 := below_more B4 (Nat.le_refl _) b5))
    | (go_at_call 18; (with_reducible refine (HC2.out _).mono ?_); rintro e W6 ⟨rfl, hW⟩; (rw [hW]); (clear hW))
    | (go_at_call 19; (with_reducible refine (equalS_any S1.out S2.out (by omega)).mono ?_); rintro e W7 ⟨rfl, b7⟩; (have B7 := below_more B5 (Nat.le_refl _) b7))
    | (go_at_call 12; (with_reducible refine (awake_any _).mono ?_); rintro e X3 ⟨rfl, x3⟩))
  go_ret
  exact ⟨rfl, below_more B7 (Nat.le_refl _) x3⟩
set_option maxRecDepth 100000 in
set_option maxHeartbeats 6400000 in
theorem wordLists_any (q n : Int) (l : List UInt8) (w : World) (hl : l.length ≤ 9223372036854775807) :
    Calls Tryd.prog 3 #[.int .i64 q, .int .i64 n, .string ⟨l.toArray⟩] w fun e w' => e = .returned (.bool true) ∧ Below w.heap.size w w' := by
  have HL := Lib.hid (fun W => refLong_any l W hl)
  have HL2 := Lib.hid (fun W => refLongNumber_any n W)
  by_cases h : (24 < l.length ∧ l.length ≤ 65536) ∨ 65544 < l.length
  · simp only [decide_eq_true h] at HL
    clear h
    go_enter Tryd.func3, Tryd.ntmps3
    go_wp2_with (first
      | (go_at_call 10; (with_reducible refine (HL.out _).mono ?_); rintro e W1 ⟨rfl, hW⟩; (rw [hW]); (clear hW))
      | (go_at_call 12; (with_reducible refine (awake_any _).mono ?_); rintro e X3 ⟨rfl, x3⟩))
    go_ret
    exact ⟨rfl, x3⟩
  · by_cases h2 : 24 < n ∧ n ≤ 65536
    · simp only [decide_eq_false h] at HL
      simp only [decide_eq_true h2] at HL2
      clear h h2
      go_enter Tryd.func3, Tryd.ntmps3
      go_wp2_with (first
        | (go_at_call 10; (with_reducible refine (HL.out _).mono ?_); rintro e W1 ⟨rfl, hW⟩; (rw [hW]); (clear hW))
        | (go_at_call 11; (with_reducible refine (HL2.out _).mono ?_); rintro e W1 ⟨rfl, hW⟩; (rw [hW]); (clear hW))
        | (go_at_call 12; (with_reducible refine (awake_any _).mono ?_); rintro e X3 ⟨rfl, x3⟩))
      go_ret
      exact ⟨rfl, x3⟩
    · exact wordLists_main q n l w (by omega) (by omega)
end Go.Proofs.YtigdjlhihhakmaaDoor

namespace Go.Proofs.YtigdjlhihhakmaaDoor.wordLists
open Go.ChangeShapes Go.WideShapes Go.ChangeAt Go.RowKit
open Go.ChangeMaps (open_string shut_string)
set_option maxRecDepth 100000
set_option linter.unusedVariables false

theorem contract (H : Type) (enc : TypeId × Value → H) (W : World) (base : Nat) (args : Array Value) (ds gs : List (DataW H)) (before : List MemPlace)
    (hval : ∀ (j : Nat) t v, Tryd.f3.params[j]? = some t → args[j]? = some v → Value.okWide Tryd.prog W .any base t v)
    (hW : DataW.Whole enc Tryd.prog Tryd.f3.params.toList Rows.wordListsSpec.vars false W args.toList ds gs before) (hL : laidMetH Tryd.prog Rows.wordListsRow.laid W) :
    Calls Tryd.prog 3 args W fun e W' => ∃ v, e = .returned v ∧ Rows.wordListsSpec.post enc Tryd.prog Tryd.f3 false true false false W args v W' := by
  have hW' := hW
  obtain ⟨p, q, hA0, hV, rfl, hfz, hnd⟩ := hW
  have hA : DataW.TrodAll enc Tryd.prog W 0 (fun _ => true) true Tryd.f3.params.toList args.toList ds p := hA0
  rw [Tryd.params3] at hA hval
  obtain ⟨v0, vs0, d0, ds0, p0, q0, hargs, rfl, rfl, h0, r0⟩ := trodAll_cons hA
  obtain ⟨v1, vs1, d1, ds1, p1, q1, rfl, rfl, rfl, h1, r1⟩ := trodAll_cons r0
  obtain ⟨v2, vs2, d2, ds2, p2, q2, rfl, rfl, rfl, h2, r2⟩ := trodAll_cons r1
  obtain ⟨rfl, rfl, rfl⟩ := trodAll_nil r2
  obtain rfl : args = #[v0, v1, v2] := by cases args; simp_all
  obtain ⟨rfl, rfl⟩ := trodVars_none hV
  obtain ⟨n0, rfl, rfl, rfl, w0⟩ := open_int Tryd.underlying3 (hval 0 3 v0 rfl rfl) h0
  have b0 : (IntKind.min .i64) ≤ n0 ∧ n0 ≤ (IntKind.max .i64) := by simpa [Lit.wf] using w0
  simp [IntKind.min, IntKind.max, IntKind.signed, IntKind.bits] at b0
  obtain ⟨n1, rfl, rfl, rfl, w1⟩ := open_int Tryd.underlying3 (hval 1 3 v1 rfl rfl) h1
  have b1 : (IntKind.min .i64) ≤ n1 ∧ n1 ≤ (IntKind.max .i64) := by simpa [Lit.wf] using w1
  simp [IntKind.min, IntKind.max, IntKind.signed, IntKind.bits] at b1
  obtain ⟨s2, rfl, rfl, rfl, z2⟩ := open_string Tryd.underlying9 (hval 2 9 v2 rfl rfl) h2
  clear hA0
  simp only [List.append_nil] at hW'
  refine (wordLists_any n0 n1 s2.data.toList W (by have := z2; unfold maxLen at this; exact this)).mono fun e W' ⟨he, hb⟩ => ?_
  subst he
  refine ⟨_, rfl, _, _, _, [], [], [], hW', ?_, ?_, ?_, hb.frame _, fun h => by cases h⟩
  · exact trodAll_cons_mk (p := []) (shut_bool Tryd.underlying4 true) trodAll_mk0
  · exact (trodAll_cons_mk (p := []) (shut_int Tryd.underlying3 w0) (trodAll_cons_mk (p := []) (shut_int Tryd.underlying3 w1) (trodAll_cons_mk (p := []) (shut_string Tryd.underlying9 z2) trodAll_mk0)))
  · rfl

theorem reads (os : Os) {H : Type} (enc : TypeId × Value → H) : ∃ places, DataW.whole enc Tryd.prog ((laidWorld os).forCall (fun _ _ => 0) ⟨#[], #[.int .i64 0, .int .i64 0, .string ⟨#[]⟩], []⟩).memory Tryd.f3.params.toList Rows.wordListsSpec.vars false [.int .i64 0, .int .i64 0, .string ⟨#[]⟩] 8 = some ([.lit (.int .i64 0), .lit (.int .i64 0), .lit (.string [])], [], places) :=
  ⟨[], by kernel_rfl⟩

theorem lifted (os : Os) (started : os.Started) (H : Type) (enc : TypeId × Value → H) (F : Stop.Interp) :
    ReturnsInHanded {} Tryd.checked os 3 .any ((OpenSpec.ofChange Rows.wordListsSpec).preRow enc Tryd.prog Tryd.f3 Rows.wordListsRow.domain false Rows.wordListsRow.laid) (((OpenSpec.ofChange Rows.wordListsSpec).at F).post enc Tryd.prog Tryd.f3 false true false false) := by
  obtain ⟨places, hx⟩ := reads os enc
  refine returnsInHanded_of_row (C := Tryd.checked) (s := OpenSpec.ofChange Rows.wordListsSpec) ownNone started (by kernel_rfl) Tryd.func3
    (witness_row_at (enc := enc) (C := Tryd.checked) false (laidWorld os) #[.int .i64 0, .int .i64 0, .string ⟨#[]⟩] rfl (by kernel_rfl) (by kernel_rfl) (by kernel_rfl)
      (OpenSpec.preRow_of_cond 8 hx (by kernel_rfl) (fun k hk => by cases hk) (by kernel_rfl) (laid_met os _))) ?_
  intro W base args ds gs before hval hW _ _ _ hL _ _
  exact contract H enc W base args ds gs before hval hW hL

theorem said : Rows.WordListsSaid :=
  OpenClaim.holds_of_cond 3 Tryd.f3 rfl rfl rfl rfl rfl rfl rfl ⟨rfl, rfl, rfl, rfl, rfl⟩ rfl rfl rfl rfl rfl (by kernel_rfl) Tryd.func3 (by kernel_rfl)
    (of_decide_eq_true (by kernel_rfl)) (by unfold Func.isWrapper; first | (rw [if_pos (by decide +kernel)]; kernel_rfl) | (rw [if_neg (by decide +kernel)]; exact ⟨rfl, rfl⟩))
    (fun os started H enc _ F => by rw [OpenClaim.pre_eq_preRow]; exact lifted os started H enc F)

theorem plain (f : FuncId) (fn : Func) (hf : Tryd.pinned.checked.prog.funcNamed "groove/groovelaw07.WordLists" = some f) (hfn : Tryd.pinned.checked.prog.funcs[f]? = some fn) :
    false = Tryd.pinned.checked.prog.looks [] ∧ ∀ (j : Nat) t, fn.params[j]? = some t → Tryd.pinned.checked.prog.wantsStandIn t = false := by
  obtain rfl : f = 3 := Option.some.inj ((show Tryd.prog.funcNamed "groove/groovelaw07.WordLists" = some 3 by kernel_rfl).symm.trans hf) |>.symm
  obtain rfl : fn = Tryd.f3 := (Option.some.inj (Tryd.func3.symm.trans hfn)).symm
  refine ⟨by kernel_rfl, fun j t ht => ?_⟩
  rw [Tryd.params3] at ht
  have hm := Array.mem_of_getElem? ht
  have hm : t = 3 ∨ t = 3 ∨ t = 9 := by simpa using hm
  rcases hm with rfl | rfl | rfl
  · exact noStand.2.1
  · exact noStand.2.1
  · exact noStand.1

/-- WordLists's card. -/
theorem card : Rows.WordListsCardSaid :=
  Claim7.holds_tied_plain_at .later [] _ _ _ _ said (fun _ h => by cases h) (by kernel_rfl) (fun _ h => by cases h) wordLists_row_tie rfl ⟨rfl, rfl⟩ (by kernel_rfl) rfl plain (by kernel_rfl)
end Go.Proofs.YtigdjlhihhakmaaDoor.wordLists
