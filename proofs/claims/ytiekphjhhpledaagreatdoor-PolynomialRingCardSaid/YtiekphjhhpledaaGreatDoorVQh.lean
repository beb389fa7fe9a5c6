/- PolynomialRing returns true for every input, great or small. PolynomialRing returns true for every input: the law's row, and its card, tied to the program's text. Conditions: those of the row: its tables read as listed (the card ties them to the program's text). -/
import Derived.Test.YtiekphjhhpledaaGreatDoorQ34
import Derived.Test.YtiekphjhhpledaaGreatDoorQ36

namespace Go.Proofs.YtiekphjhhpledaaGreatDoor
open Go.RowKit Go.Shelf
set_option linter.unusedSimpArgs false
set_option linter.unusedVariables false

theorem sel3_all {α : Type} {p : α → Prop} {a b c : α} (ha : p a) (hb : p b) (hc : p c) (k : Nat) : p (sel3 a b c k) := by
  unfold sel3
  split
  · exact ha
  · split
    · exact hb
    · exact hc
theorem degZ_cases {L : List Int} (hl : L.length ≤ 8) : degZ L = -1 ∨ ∃ m : Nat, degZ L = (m : Int) ∧ m ≤ 8 := by
  have := trm_len L
  unfold degZ
  rcases Nat.eq_zero_or_pos (trm L).length with h | h
  · exact .inl (by omega)
  · exact .inr ⟨(trm L).length - 1, by omega, by omega⟩
theorem pring_any (v1 v2 v3 : Value) (n1 n2 n3 : Nat) (g1 g2 g3 : Nat → Bool) (s1 s2 s3 : Nat → ByteArray) (w : World) (h1 : ArgV w v1 n1 g1 s1) (h2 : ArgV w v2 n2 g2 s2) (h3 : ArgV w v3 n3 g3 s3)
    (m1 : n1 ≤ 9223372036854775807) (m2 : n2 ≤ 9223372036854775807) (m3 : n3 ≤ 9223372036854775807)
    (b1 : ∀ i, i < n1 → (s1 i).size ≤ 9223372036854775807) (b2 : ∀ i, i < n2 → (s2 i).size ≤ 9223372036854775807) (b3 : ∀ i, i < n3 → (s3 i).size ≤ 9223372036854775807) (htab : Lib.TabIs Tryz.prog w "internal/strconv.uint64pow10" .u64 Lib.pow10Tab) :
    Calls Tryz.prog 3 #[v1, v2, v3] w fun e w' => e = .returned (.bool true) ∧ Below w.heap.size w w' := by
  have hn : ∀ k, k < 3 → sel3 n1 n2 n3 k ≤ 9223372036854775807 := fun k _ => sel3_all (p := fun n => n ≤ 9223372036854775807) m1 m2 m3 k
  have hs : ∀ k, k < 3 → ∀ i, i < sel3 n1 n2 n3 k → (sel3 s1 s2 s3 k i).size ≤ 9223372036854775807 := fun k hk i hi => by
    rcases (show k = 0 ∨ k = 1 ∨ k = 2 by omega) with rfl | rfl | rfl
    · exact b1 i hi
    · exact b2 i hi
    · exact b3 i hi
  have HS := fun T => lsmall_any w.heap.size 3 3 _ _ (w.alloc (.cells #[v1, v2, v3] T)) (argsS3 (T := T) h1.argS h2.argS h3.argS) (by omega) hn hs
  cases hsm : (!(anyB 3 fun k => grP (sel3 n1 n2 n3 k) (sel3 s1 s2 s3 k)) && !(anyB 3 fun k => decide (8 < sel3 n1 n2 n3 k)))
  · exact pring_big v1 v2 v3 n1 n2 n3 s1 s2 s3 w h1.argS h2.argS h3.argS hn hs htab hsm
  · simp only [hsm] at HS
    rw [Bool.and_eq_true, Bool.not_eq_true', Bool.not_eq_true'] at hsm
    have hz1 := small_split n1 s1 ⟨anyB_false hsm.1 (k := 0) (by omega), anyB_false hsm.2 (k := 0) (by omega)⟩
    have hz2 := small_split n2 s2 ⟨anyB_false hsm.1 (k := 1) (by omega), anyB_false hsm.2 (k := 1) (by omega)⟩
    have hz3 := small_split n3 s3 ⟨anyB_false hsm.1 (k := 2) (by omega), anyB_false hsm.2 (k := 2) (by omega)⟩
    have P1 := h1.at hz1.2
    have P2 := h2.at hz2.2
    have P3 := h3.at hz3.2
    have D1 := ArgV.bd (g := g1) hz1.2
    have D2 := ArgV.bd (g := g2) hz2.2
    have D3 := ArgV.bd (g := g3) hz3.2
    have l1 : (intsOf n1 g1 s1).length ≤ 8 := by rw [intsOf_len]; exact hz1.1
    have l2 : (intsOf n2 g2 s2).length ≤ 8 := by rw [intsOf_len]; exact hz2.1
    have l3 : (intsOf n3 g3 s3).length ≤ 8 := by rw [intsOf_len]; exact hz3.1
    obtain ⟨A1, c1, rfl, -⟩ := h1
    obtain ⟨A2, c2, rfl, -⟩ := h2
    obtain ⟨A3, c3, rfl, -⟩ := h3
    rcases degZ_cases l1 with hd | ⟨m, hm, hm8⟩
    · exact pring_a n1 n2 n3 c1 c2 c3 A1 A2 A3 _ _ _ w P1 P2 P3 l1 l2 l3 D1 D2 D3 htab HS hd
    · rcases degZ_cases l2 with hd | ⟨n, hn, hn8⟩
      · exact pring_b n1 n2 n3 c1 c2 c3 A1 A2 A3 _ _ _ w P1 P2 P3 l1 l2 l3 D1 D2 D3 htab HS m hm hm8 hd
      · exact pring_c n1 n2 n3 c1 c2 c3 A1 A2 A3 _ _ _ w P1 P2 P3 l1 l2 l3 D1 D2 D3 htab HS m n hm hm8 hn hn8
end Go.Proofs.YtiekphjhhpledaaGreatDoor

namespace Go.Proofs.YtiekphjhhpledaaGreatDoor.pring
open Go.ChangeShapes Go.WideShapes Go.ChangeAt Go.RowKit
set_option maxRecDepth 100000

theorem contract (H : Type) (enc : TypeId × Value → H) (W : World) (args : Array Value) (ds gs : List (DataW H)) (before : List MemPlace)
    (hval : ∀ (j : Nat) t v, Tryz.f3.params[j]? = some t → args[j]? = some v → Value.okWide Tryz.prog W .any 0 t v)
    (hW : DataW.Whole enc Tryz.prog Tryz.f3.params.toList Rows.polynomialRingSpec.vars false W args.toList ds gs before) (hL : laidMetH Tryz.prog Rows.polynomialRingRow.laid W) :
    Calls Tryz.prog 3 args W fun e W' => ∃ v, e = .returned v ∧ Rows.polynomialRingSpec.post enc Tryz.prog Tryz.f3 false true false false W args v W' := by
  have hW' := hW
  obtain ⟨p, q, hA0, hV, rfl, hfz, hnd⟩ := hW
  have hA : DataW.TrodAll enc Tryz.prog W 0 (fun _ => true) true Tryz.f3.params.toList args.toList ds p := hA0
  rw [Tryz.params3] at hA hval
  obtain ⟨v0, vs0, d0, ds0, p0, q0, hargs, rfl, rfl, h0, r0⟩ := trodAll_cons hA
  obtain ⟨v1, vs1, d1, ds1, p1, q1, rfl, rfl, rfl, h1, r1⟩ := trodAll_cons r0
  obtain ⟨v2, vs2, d2, ds2, p2, q2, rfl, rfl, rfl, h2, r2⟩ := trodAll_cons r1
  obtain ⟨rfl, rfl, rfl⟩ := trodAll_nil r2
  obtain rfl : args = #[v0, v1, v2] := by cases args; simp_all
  obtain ⟨rfl, rfl⟩ := trodVars_none hV
  obtain ⟨n0, g0, s0, k0, m0, z0⟩ := poly_open (hval 0 22 v0 rfl rfl) h0
  obtain ⟨n1, g1, s1, k1, m1, z1⟩ := poly_open (hval 1 22 v1 rfl rfl) h1
  obtain ⟨n2, g2, s2, k2, m2, z2⟩ := poly_open (hval 2 22 v2 rfl rfl) h2
  have t0 : ∀ x ∈ p0, x.block < W.heap.size := fun x hx => by simpa using hW'.lt x (by simp [hx])
  have t1 : ∀ x ∈ p1, x.block < W.heap.size := fun x hx => by simpa using hW'.lt x (by simp [hx])
  have t2 : ∀ x ∈ p2, x.block < W.heap.size := fun x hx => by simpa using hW'.lt x (by simp [hx])
  clear hA0
  refine (pring_any v0 v1 v2 n0 n1 n2 g0 g1 g2 s0 s1 s2 W k0 k1 k2 m0 m1 m2 z0 z1 z2 (tabPow hL)).mono fun e W' ⟨he, hb⟩ => ?_
  subst he
  refine ⟨_, rfl, _, _, _, [], (p0 ++ (p1 ++ (p2 ++ []))), [], hW', ?_, ?_, ?_, hb.frame _, fun h => by cases h⟩
  · exact trodAll_cons_mk (p := []) (shut_bool Tryz.underlying4 true) trodAll_mk0
  · exact trodAll_cons_mk (poly_keep h0 hb t0) (trodAll_cons_mk (poly_keep h1 hb t1) (trodAll_cons_mk (poly_keep h2 hb t2) trodAll_mk0))
  · rfl

theorem reads (os : Os) {H : Type} (enc : TypeId × Value → H) : ∃ places, DataW.whole enc Tryz.prog ((laidWorld os).forCall (fun _ _ => 0) ⟨#[], #[.slice none 0 0, .slice none 0 0, .slice none 0 0], []⟩).memory Tryz.f3.params.toList Rows.polynomialRingSpec.vars false [.slice none 0 0, .slice none 0 0, .slice none 0 0] 8 = some ([.nil, .nil, .nil], [], places) :=
  ⟨[], by kernel_rfl⟩

set_option maxRecDepth 100000 in
theorem lifted (os : Os) (started : os.Started) (H : Type) (enc : TypeId × Value → H) (F : Stop.Interp) :
    ReturnsInHanded {} Tryz.checked os 3 .any ((OpenSpec.ofChange Rows.polynomialRingSpec).preRow enc Tryz.prog Tryz.f3 Rows.polynomialRingRow.domain false Rows.polynomialRingRow.laid) (((OpenSpec.ofChange Rows.polynomialRingSpec).at F).post enc Tryz.prog Tryz.f3 false true false false) := by
  obtain ⟨places, hx⟩ := reads os enc
  refine returnsInHanded_of_row (C := Tryz.checked) (s := OpenSpec.ofChange Rows.polynomialRingSpec) ownNone started (by kernel_rfl) Tryz.func3
    (witness_row_at (enc := enc) (C := Tryz.checked) false (laidWorld os) #[.slice none 0 0, .slice none 0 0, .slice none 0 0] rfl (by kernel_rfl) (by kernel_rfl) (by kernel_rfl)
      (OpenSpec.preRow_of_cond 8 hx (by kernel_rfl) (fun k hk => by cases hk) (by kernel_rfl) (laid_met os _))) ?_
  intro W base args ds gs before hval hW _ _ _ hL _ _
  exact contract H enc W args ds gs before hval hW hL

theorem said : Rows.PolynomialRingSaid :=
  OpenClaim.holds_of_cond 3 Tryz.f3 rfl rfl rfl rfl rfl rfl rfl ⟨rfl, rfl, rfl, rfl, rfl⟩ rfl rfl rfl rfl rfl (by kernel_rfl) Tryz.func3 (by kernel_rfl)
    (of_decide_eq_true (by kernel_rfl)) (by unfold Func.isWrapper; first | (rw [if_pos (by decide +kernel)]; kernel_rfl) | (rw [if_neg (by decide +kernel)]; exact ⟨rfl, rfl⟩))
    (fun os started H enc _ F => by rw [OpenClaim.pre_eq_preRow]; exact lifted os started H enc F)

theorem plain (f : FuncId) (fn : Func) (hf : Tryz.pinned.checked.prog.funcNamed "groove/groovelaw03.PolynomialRing" = some f) (hfn : Tryz.pinned.checked.prog.funcs[f]? = some fn) :
    false = Tryz.pinned.checked.prog.looks [] ∧ ∀ (j : Nat) t, fn.params[j]? = some t → Tryz.pinned.checked.prog.wantsStandIn t = false := by
  obtain rfl : f = 3 := Option.some.inj ((show Tryz.prog.funcNamed "groove/groovelaw03.PolynomialRing" = some 3 by kernel_rfl).symm.trans hf) |>.symm
  obtain rfl : fn = Tryz.f3 := (Option.some.inj (Tryz.func3.symm.trans hfn)).symm
  refine ⟨by kernel_rfl, fun j t ht => ?_⟩
  rw [Tryz.params3] at ht
  obtain rfl : t = 22 := by simpa using Array.mem_of_getElem? ht
  exact noStandP

/-- PolynomialRing's card. -/
theorem card : Rows.PolynomialRingCardSaid :=
  Claim7.holds_tied_plain_at .later [] _ _ _ _ said (fun _ h => by cases h) (by kernel_rfl) (fun _ h => by cases h) polynomialRing_row_tie rfl ⟨rfl, rfl⟩ (by kernel_rfl) rfl plain (by kernel_rfl)
end Go.Proofs.YtiekphjhhpledaaGreatDoor.pring
