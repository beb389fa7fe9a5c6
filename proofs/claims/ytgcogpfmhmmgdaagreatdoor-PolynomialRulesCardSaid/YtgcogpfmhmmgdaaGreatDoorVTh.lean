/- PolynomialRules returns true for every input. Condition: its own table, and what is in memory. PolynomialRules returns true for every input: the law's row, and its card, tied to the program's text. Conditions: those of the row: its tables read as listed (the card ties them to the program's text). -/
import Derived.Test.YtgcogpfmhmmgdaaGreatDoorQ49
import Derived.Test.YtgcogpfmhmmgdaaGreatDoorQ51

namespace Go.Proofs.YtgcogpfmhmmgdaaGreatDoor
open Go.RowKit Go.Shelf
set_option linter.unusedSimpArgs false
set_option linter.unusedVariables false

def sel2 {α : Type} (a b : α) (k : Nat) : α := if k = 0 then a else b
theorem argsS2 {w : World} {v1 v2 : Value} {n1 n2 : Nat} {s1 s2 : Nat → ByteArray} {T : TypeId} (h1 : ArgS w v1 n1 s1) (h2 : ArgS w v2 n2 s2) :
    ArgsS (w.alloc (.cells #[v1, v2] T)) w.heap.size 2 (sel2 n1 n2) (sel2 s1 s2) := fun k hk => by
  have hb := below1 w (.cells #[v1, v2] T)
  rcases (show k = 0 ∨ k = 1 by omega) with rfl | rfl
  · exact ⟨v1, by simp, h1.keep hb⟩
  · exact ⟨v2, by simp, h2.keep hb⟩
set_option maxRecDepth 100000 in
set_option maxHeartbeats 12800000 in
theorem prules_great (n1 n2 c1 c2 : Nat) (A1 A2 : Option Addr) (na nb : Bool) (sa sb : ByteArray) (w : World) (htab : Lib.TabIs Tryz.prog w "internal/strconv.uint64pow10" .u64 Lib.pow10Tab) (sm lb : Bool) (hsl : sm = false ∨ lb = true)
    (HS' : ∀ (W : World) (T : TypeId) (p : Nat), Below w.heap.size w W → p = W.heap.size → Calls Tryz.prog 20 #[.slice (some ⟨p, 0, none⟩) 2 2] (W.alloc (.cells #[.slice A1 n1 c1, .slice A2 n2 c2] T)) fun e w' => e = .returned (.bool sm) ∧ Below (W.alloc (.cells #[.slice A1 n1 c1, .slice A2 n2 c2] T)).heap.size (W.alloc (.cells #[.slice A1 n1 c1, .slice A2 n2 c2] T)) w')
    (HL' : ∀ (W : World) (T : TypeId), Calls Tryz.prog 21 #[.slice (some ⟨W.heap.size, 0, none⟩) 1 1] (W.alloc (.cells #[.bool na, .string sa, .bool nb, .string sb] T)) fun e w' => e = .returned (.bool lb) ∧ Below (W.alloc (.cells #[.bool na, .string sa, .bool nb, .string sb] T)).heap.size (W.alloc (.cells #[.bool na, .string sa, .bool nb, .string sb] T)) w') :
    Calls Tryz.prog 4 #[.slice A1 n1 c1, .slice A2 n2 c2, .agg #[.bool na, .string sa, .bool nb, .string sb]] w fun e w' => e = .returned (.bool true) ∧ Below w.heap.size w w' := by
  have HT := Lib.hid htab
  have HS := Lib.hid HS'
  have HL := Lib.hid HL'
  clear htab HS' HL'
  have R0 := RIn.new (W := w) (t := 33) (g1 := na) (s1 := sa) (g2 := nb) (s2 := sb) rfl
  have B0 := below1 w (.cells #[.bool na, .string sa, .bool nb, .string sb] 33)
  go_enter Tryz.func4, Tryz.ntmps4
  obtain ⟨t1, t2, t3, t4⟩ := id R0
  go_wp2_with fail
  refine (HS.out _ _ _ B0 (by rw [World.size_alloc])).mono ?_
  rintro e W1 ⟨rfl, b1⟩
  have R1 := (R0.keep (below1 _ _)).keep b1
  have B1 := below_more (below_more B0 (Nat.le_refl _) (below1 _ _)) (Nat.le_refl _) b1
  clear R0 B0 b1 t1 t2 t3 t4
  cases sm with
  | false =>
    go_wp2_with (go_at_call 6; (with_reducible refine (awake_any _ (tab_keep HT.out B1)).mono ?_); rintro e W2 ⟨rfl, b2⟩; (have B2 := below_more B1 (Nat.le_refl _) b2))
    go_ret
    exact ⟨rfl, B2⟩
  | true =>
    obtain rfl : lb = true := by simpa using hsl
    obtain ⟨t1, t2, t3, t4⟩ := id R1
    go_wp2_with fail
    refine (HL.out _ _).mono ?_
    rintro e W2 ⟨rfl, b2⟩
    have B2 := below_more (below_more B1 (Nat.le_refl _) (below1 _ _)) (Nat.le_refl _) b2
    clear R1 B1 b2 t1 t2 t3 t4
    go_wp2_with (go_at_call 6; (with_reducible refine (awake_any _ (tab_keep HT.out B2)).mono ?_); rintro e W3 ⟨rfl, b3⟩; (have B3 := below_more B2 (Nat.le_refl _) b3))
    go_ret
    exact ⟨rfl, B3⟩
theorem long1R (W : World) (na nb : Bool) (sa sb : ByteArray) (T : TypeId) (ha : sa.size ≤ 9223372036854775807) (hb : sb.size ≤ 9223372036854775807) :
    Calls Tryz.prog 21 #[.slice (some ⟨W.heap.size, 0, none⟩) 1 1] (W.alloc (.cells #[.bool na, .string sa, .bool nb, .string sb] T)) fun e w' => e = .returned (.bool (decide (4 < sa.size) || decide (4 < sb.size))) ∧ Below (W.alloc (.cells #[.bool na, .string sa, .bool nb, .string sb] T)).heap.size (W.alloc (.cells #[.bool na, .string sa, .bool nb, .string sb] T)) w' := by
  have h := longR_anyP W.heap.size 1 1 (fun _ => na) (fun _ => sa) (fun _ => nb) (fun _ => sb) (W.alloc (.cells #[.bool na, .string sa, .bool nb, .string sb] T)) (fun i hi => by
    obtain rfl : i = 0 := by omega
    exact RIn.new (W := W) (t := T) (g1 := na) (s1 := sa) (g2 := nb) (s2 := sb) rfl) (by omega) (fun _ _ => ⟨ha, hb⟩)
  rw [show longRBP 1 (fun _ => sa) (fun _ => sb) = (decide (4 < sa.size) || decide (4 < sb.size)) by simp [longRBP, List.range_succ]] at h
  exact h
theorem zv_bdR (g : Bool) (s : ByteArray) (h : s.size ≤ 4) : IsInt (.agg #[.bool g, .string s]) (zv g s) 3 := by
  refine ⟨g, s, rfl, rfl, by omega, ?_, by omega⟩
  rw [natAbs_zv]
  have h1 : s.data.toList.length ≤ 4 := by rw [Array.length_toList]; exact h
  exact Nat.lt_of_lt_of_le (vB_lt s.data.toList) (Nat.le_trans (Nat.pow_le_pow_right (by omega) h1) (by decide))
theorem prules_any (v1 v2 : Value) (n1 n2 : Nat) (g1 g2 : Nat → Bool) (s1 s2 : Nat → ByteArray) (na nb : Bool) (sa sb : ByteArray) (w : World) (h1 : ArgV w v1 n1 g1 s1) (h2 : ArgV w v2 n2 g2 s2)
    (m1 : n1 ≤ 9223372036854775807) (m2 : n2 ≤ 9223372036854775807)
    (b1 : ∀ i, i < n1 → (s1 i).size ≤ 9223372036854775807) (b2 : ∀ i, i < n2 → (s2 i).size ≤ 9223372036854775807) (ha : sa.size ≤ 9223372036854775807) (hb : sb.size ≤ 9223372036854775807) (htab : Lib.TabIs Tryz.prog w "internal/strconv.uint64pow10" .u64 Lib.pow10Tab) :
    Calls Tryz.prog 4 #[v1, v2, .agg #[.bool na, .string sa, .bool nb, .string sb]] w fun e w' => e = .returned (.bool true) ∧ Below w.heap.size w w' := by
  have hn : ∀ k, k < 2 → sel2 n1 n2 k ≤ 9223372036854775807 := fun k hk => by
    rcases (show k = 0 ∨ k = 1 by omega) with rfl | rfl
    · exact m1
    · exact m2
  have hs : ∀ k, k < 2 → ∀ i, i < sel2 n1 n2 k → (sel2 s1 s2 k i).size ≤ 9223372036854775807 := fun k hk i hi => by
    rcases (show k = 0 ∨ k = 1 by omega) with rfl | rfl
    · exact b1 i hi
    · exact b2 i hi
  have HS : ∀ (W : World) (T : TypeId) (p : Nat), Below w.heap.size w W → p = W.heap.size → _ := fun W T p b hp => hp ▸ lsmall_any W.heap.size 2 2 _ _ (W.alloc (.cells #[v1, v2] T)) (argsS2 (T := T) (h1.keep b).argS (h2.keep b).argS) (by omega) hn hs
  have HL : ∀ (W : World) (T : TypeId), _ := fun W T => long1R W na nb sa sb T ha hb
  obtain ⟨sm, hsm⟩ : ∃ sm, (!(anyB 2 fun k => grP (sel2 n1 n2 k) (sel2 s1 s2 k)) && !(anyB 2 fun k => decide (8 < sel2 n1 n2 k))) = sm := ⟨_, rfl⟩
  obtain ⟨lb, hlb⟩ : ∃ lb, (decide (4 < sa.size) || decide (4 < sb.size)) = lb := ⟨_, rfl⟩
  simp only [hsm] at HS
  simp only [hlb] at HL
  by_cases hbig : sm = false ∨ lb = true
  · obtain ⟨A1, c1, -, rfl, -⟩ := h1.argS
    obtain ⟨A2, c2, -, rfl, -⟩ := h2.argS
    exact prules_great n1 n2 c1 c2 A1 A2 na nb sa sb w htab sm lb hbig HS HL
  · obtain ⟨rfl, rfl⟩ : sm = true ∧ lb = false := by
      cases sm <;> cases lb <;> simp at hbig ⊢
    rw [Bool.and_eq_true, Bool.not_eq_true', Bool.not_eq_true'] at hsm
    have z1 := small_split n1 s1 ⟨anyB_false hsm.1 (k := 0) (by omega), anyB_false hsm.2 (k := 0) (by omega)⟩
    have z2 := small_split n2 s2 ⟨anyB_false hsm.1 (k := 1) (by omega), anyB_false hsm.2 (k := 1) (by omega)⟩
    rw [Bool.or_eq_false_iff] at hlb
    have ha4 : sa.size ≤ 4 := by have := of_decide_eq_false hlb.1; omega
    have hb4 : sb.size ≤ 4 := by have := of_decide_eq_false hlb.2; omega
    have I1 := zv_bdR na sa ha4
    have I2 := zv_bdR nb sb hb4
    have P1 := h1.at z1.2
    have P2 := h2.at z2.2
    have D1 := ArgV.bd (g := g1) z1.2
    have D2 := ArgV.bd (g := g2) z2.2
    have l1 : (intsOf n1 g1 s1).length ≤ 8 := by rw [intsOf_len]; exact z1.1
    have l2 : (intsOf n2 g2 s2).length ≤ 8 := by rw [intsOf_len]; exact z2.1
    have hq : RatBd (Rat.divInt (zv na sa) (zv nb sb)) 4 := ratBd_divInt (k := 3) (by obtain ⟨_, _, _, _, _, h, _⟩ := I1; exact h) (by obtain ⟨_, _, _, _, _, h, _⟩ := I2; exact h)
    obtain ⟨A1, c1, rfl, -⟩ := h1
    obtain ⟨A2, c2, rfl, -⟩ := h2
    exact prules_main n1 n2 c1 c2 A1 A2 _ _ na nb sa sb _ w P1 P2 ⟨na, sa, nb, sb, _, _, rfl, I1.wider (by omega) (by omega), I2.wider (by omega) (by omega), rfl⟩ hq l1 l2 D1 D2 htab HS HL
end Go.Proofs.YtgcogpfmhmmgdaaGreatDoor

namespace Go.Proofs.YtgcogpfmhmmgdaaGreatDoor.prules
open Go.ChangeShapes Go.WideShapes Go.ChangeAt Go.RowKit
set_option maxRecDepth 100000

theorem contract (H : Type) (enc : TypeId × Value → H) (W : World) (args : Array Value) (ds gs : List (DataW H)) (before : List MemPlace)
    (hval : ∀ (j : Nat) t v, Tryz.f4.params[j]? = some t → args[j]? = some v → Value.okWide Tryz.prog W .any 0 t v)
    (hW : DataW.Whole enc Tryz.prog Tryz.f4.params.toList Rows.polynomialRulesSpec.vars false W args.toList ds gs before) (hL : laidMetH Tryz.prog Rows.polynomialRulesRow.laid W) :
    Calls Tryz.prog 4 args W fun e W' => ∃ v, e = .returned v ∧ Rows.polynomialRulesSpec.post enc Tryz.prog Tryz.f4 false true false false W args v W' := by
  have hW' := hW
  obtain ⟨p, q, hA0, hV, rfl, hfz, hnd⟩ := hW
  have hA : DataW.TrodAll enc Tryz.prog W 0 (fun _ => true) true Tryz.f4.params.toList args.toList ds p := hA0
  rw [Tryz.params4] at hA hval
  obtain ⟨v0, vs0, d0, ds0, p0, q0, hargs, rfl, rfl, h0, r0⟩ := trodAll_cons hA
  obtain ⟨v1, vs1, d1, ds1, p1, q1, rfl, rfl, rfl, h1, r1⟩ := trodAll_cons r0
  obtain ⟨v2, vs2, d2, ds2, p2, q2, rfl, rfl, rfl, h2, r2⟩ := trodAll_cons r1
  obtain ⟨rfl, rfl, rfl⟩ := trodAll_nil r2
  obtain rfl : args = #[v0, v1, v2] := by cases args; simp_all
  obtain ⟨rfl, rfl⟩ := trodVars_none hV
  obtain ⟨n0, g0, s0, k0, m0, z0⟩ := poly_open (hval 0 22 v0 rfl rfl) h0
  obtain ⟨n1, g1, s1, k1, m1, z1⟩ := poly_open (hval 1 22 v1 rfl rfl) h1
  obtain ⟨ng, sg0, kg, tg0, rfl, rfl, rfl, z2, y2⟩ := rat_open (hval 2 33 v2 rfl rfl) h2
  have t0 : ∀ x ∈ p0, x.block < W.heap.size := fun x hx => by simpa using hW'.lt x (by simp [hx])
  have t1 : ∀ x ∈ p1, x.block < W.heap.size := fun x hx => by simpa using hW'.lt x (by simp [hx])
  clear hA0
  refine (prules_any v0 v1 n0 n1 g0 g1 s0 s1 ng kg sg0 tg0 W k0 k1 m0 m1 z0 z1 z2 y2 (tabPow hL)).mono fun e W' ⟨he, hb⟩ => ?_
  subst he
  refine ⟨_, rfl, _, _, _, [], (p0 ++ (p1 ++ ([] ++ []))), [], hW', ?_, ?_, ?_, hb.frame _, fun h => by cases h⟩
  · exact trodAll_cons_mk (p := []) (shut_bool Tryz.underlying4 true) trodAll_mk0
  · exact trodAll_cons_mk (poly_keep h0 hb t0) (trodAll_cons_mk (poly_keep h1 hb t1) (trodAll_cons_mk (p := []) (rat_shut z2 y2) trodAll_mk0))
  · rfl

theorem reads (os : Os) {H : Type} (enc : TypeId × Value → H) : ∃ places, DataW.whole enc Tryz.prog ((laidWorld os).forCall (fun _ _ => 0) ⟨#[], #[.slice none 0 0, .slice none 0 0, .agg #[.bool false, .string ⟨#[]⟩, .bool false, .string ⟨#[]⟩]], []⟩).memory Tryz.f4.params.toList Rows.polynomialRulesSpec.vars false [.slice none 0 0, .slice none 0 0, .agg #[.bool false, .string ⟨#[]⟩, .bool false, .string ⟨#[]⟩]] 8 = some ([.nil, .nil, .agg [.agg [.lit (.bool false), .lit (.string [])], .agg [.lit (.bool false), .lit (.string [])]]], [], places) :=
  ⟨[], by kernel_rfl⟩

set_option maxRecDepth 100000 in
theorem lifted (os : Os) (started : os.Started) (H : Type) (enc : TypeId × Value → H) (F : Stop.Interp) :
    ReturnsInHanded {} Tryz.checked os 4 .any ((OpenSpec.ofChange Rows.polynomialRulesSpec).preRow enc Tryz.prog Tryz.f4 Rows.polynomialRulesRow.domain false Rows.polynomialRulesRow.laid) (((OpenSpec.ofChange Rows.polynomialRulesSpec).at F).post enc Tryz.prog Tryz.f4 false true false false) := by
  obtain ⟨places, hx⟩ := reads os enc
  refine returnsInHanded_of_row (C := Tryz.checked) (s := OpenSpec.ofChange Rows.polynomialRulesSpec) ownNone started (by kernel_rfl) Tryz.func4
    (witness_row_at (enc := enc) (C := Tryz.checked) false (laidWorld os) #[.slice none 0 0, .slice none 0 0, .agg #[.bool false, .string ⟨#[]⟩, .bool false, .string ⟨#[]⟩]] rfl (by kernel_rfl) (by kernel_rfl) (by kernel_rfl)
      (OpenSpec.preRow_of_cond 8 hx (by kernel_rfl) (fun k hk => by cases hk) (by kernel_rfl) (laid_met os _))) ?_
  intro W base args ds gs before hval hW _ _ _ hL _ _
  exact contract H enc W args ds gs before hval hW hL

theorem said : Rows.PolynomialRulesSaid :=
  OpenClaim.holds_of_cond 4 Tryz.f4 rfl rfl rfl rfl rfl rfl rfl ⟨rfl, rfl, rfl, rfl, rfl⟩ rfl rfl rfl rfl rfl (by kernel_rfl) Tryz.func4 (by kernel_rfl)
    (of_decide_eq_true (by kernel_rfl)) (by unfold Func.isWrapper; first | (rw [if_pos (by decide +kernel)]; kernel_rfl) | (rw [if_neg (by decide +kernel)]; exact ⟨rfl, rfl⟩))
    (fun os started H enc _ F => by rw [OpenClaim.pre_eq_preRow]; exact lifted os started H enc F)

theorem plain (f : FuncId) (fn : Func) (hf : Tryz.pinned.checked.prog.funcNamed "groove/groovelaw03.PolynomialRules" = some f) (hfn : Tryz.pinned.checked.prog.funcs[f]? = some fn) :
    false = Tryz.pinned.checked.prog.looks [] ∧ ∀ (j : Nat) t, fn.params[j]? = some t → Tryz.pinned.checked.prog.wantsStandIn t = false := by
  obtain rfl : f = 4 := Option.some.inj ((show Tryz.prog.funcNamed "groove/groovelaw03.PolynomialRules" = some 4 by kernel_rfl).symm.trans hf) |>.symm
  obtain rfl : fn = Tryz.f4 := (Option.some.inj (Tryz.func4.symm.trans hfn)).symm
  refine ⟨by kernel_rfl, fun j t ht => ?_⟩
  rw [Tryz.params4] at ht
  have hm := Array.mem_of_getElem? ht
  have hm : t = 22 ∨ t = 22 ∨ t = 33 := by simpa using hm
  rcases hm with rfl | rfl | rfl
  · exact noStandP
  · exact noStandP
  · exact noStandR

/-- PolynomialRules's card. -/
theorem card : Rows.PolynomialRulesCardSaid :=
  Claim7.holds_tied_plain_at .later [] _ _ _ _ said (fun _ h => by cases h) (by kernel_rfl) (fun _ h => by cases h) polynomialRules_row_tie rfl ⟨rfl, rfl⟩ (by kernel_rfl) rfl plain (by kernel_rfl)
end Go.Proofs.YtgcogpfmhmmgdaaGreatDoor.prules
