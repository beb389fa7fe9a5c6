/- PolynomialSums returns true for every input. Condition: its own table, and what is in memory. PolynomialSums returns true for every input: the law's row, and its card, tied to the program's text. Conditions: those of the row: its tables read as listed (the card ties them to the program's text). -/
import Derived.Test.YtgcogpfmhmmgdaaGreatDoorQ32
import Derived.Test.YtgcogpfmhmmgdaaGreatDoorQ41
import Derived.Test.YtgcogpfmhmmgdaaGreatDoorQ42
import Derived.Test.YtgcogpfmhmmgdaaGreatDoorQ43
import Derived.Test.YtgcogpfmhmmgdaaGreatDoorQ45

namespace Go.Proofs.YtgcogpfmhmmgdaaGreatDoor
open Go.RowKit Go.Shelf
set_option linter.unusedSimpArgs false
set_option linter.unusedVariables false

def sel2 {α : Type} (a b : α) (k : Nat) : α := if k = 0 then a else b
theorem argsS2 {w : World} {v1 v2 : Value} {n1 n2 : Nat} {s1 s2 : Nat → ByteArray} {T : TypeId} (h1 : ArgS w v1 n1 s1) (h2 : ArgS w v2 n2 s2) :
    ArgsS (w.alloc (.cells #[v1, v2] T)) w.heap.size 2 (sel2 n1 n2) (sel2 s1 s2) := fun k hk => by
  have hb := below1 w (.cells #[v1, v2] T)
  rcases (show k = 0 ∨ k = 1 by omega) with rfl | rfl
  · exact ⟨v1, by simp, h1.keep hb⟩
  · exact ⟨v2, by simp, h2.keep hb⟩
set_option maxRecDepth 100000 in
set_option maxHeartbeats 12800000 in
theorem psums_big (v1 v2 : Value) (n1 n2 : Nat) (s1 s2 : Nat → ByteArray) (w : World) (h1 : ArgS w v1 n1 s1) (h2 : ArgS w v2 n2 s2)
    (hn : ∀ k, k < 2 → sel2 n1 n2 k ≤ 9223372036854775807) (hs : ∀ k, k < 2 → ∀ i, i < sel2 n1 n2 k → (sel2 s1 s2 k i).size ≤ 9223372036854775807) (htab : Lib.TabIs Tryz.prog w "internal/strconv.uint64pow10" .u64 Lib.pow10Tab)
    (hbig : (anyB 2 fun k => grP (sel2 n1 n2 k) (sel2 s1 s2 k)) = true) :
    Calls Tryz.prog 3 #[v1, v2] w fun e w' => e = .returned (.bool true) ∧ Below w.heap.size w w' := by
  have HT := Lib.hid htab
  have HS := Lib.hid (fun T => lgreat_any w.heap.size 2 2 _ _ (w.alloc (.cells #[v1, v2] T)) (argsS2 (T := T) h1 h2) (by omega) hn hs)
  simp only [hbig] at HS
  obtain ⟨A1, c1, -, rfl, -⟩ := h1
  obtain ⟨A2, c2, -, rfl, -⟩ := h2
  clear hn hs hbig htab
  go_enter Tryz.func3, Tryz.ntmps3
  go_wp2_with (first
    | (go_at_call 5; (with_reducible refine (HS.out _).mono ?_); rintro e W1 ⟨rfl, b1⟩; (have B1 := below_more (below1 _ _) (Nat.le_refl _) b1))
    | (go_at_call 6; (with_reducible refine (awake_any _ (tab_keep HT.out B1)).mono ?_); rintro e W2 ⟨rfl, b2⟩; (have B2 := below_more B1 (Nat.le_refl _) b2)))
  go_ret
  exact ⟨rfl, B2⟩
/-- What Print returns for a list of small integers. -/
theorem printG {v1 : Value} {L : List Int} {w : World} (h1 : PolyAt w v1 L 4) (hL : L.length ≤ 100) (htab : Lib.TabIs Tryz.prog w "internal/strconv.uint64pow10" .u64 Lib.pow10Tab) :
    Calls Tryz.prog 18 #[v1] w fun e w' => e = .returned (.string ⟨(prL L).toArray⟩) ∧ Below w.heap.size w w' :=
  pPrint_any v1 L 4 w h1 (by omega) (by omega) htab (fun x => by
    have := prZ_len (z := ((co L x.1).natAbs : Int)) (k := 4) (by have := h1.pb x.1; simpa using this)
    omega)
/-- What Sub returns for lists of small integers. -/
theorem subH {v1 v2 : Value} {L M : List Int} {w : World} (h1 : PolyAt w v1 L 4) (h2 : PolyAt w v2 M 4) (hL : L.length ≤ 100) (hM : M.length ≤ 100) (hb : PB (subL L M) 5) :
    Calls Tryz.prog 14 #[v1, v2] w (ListOut w (trm (subL L M))) := by
  refine (psub_any v1 v2 L M _ 4 5 w h1 h2 (by omega) (by omega) (by omega) (trm_trm _) (fun i => by rw [co_trm, co_subL]) (pb_trm hb) (by omega)).mono ?_
  rintro e W ⟨v, rfl, hP, hb⟩
  exact ⟨v, rfl, hP.polyS, hb⟩
theorem canH {v1 : Value} {L : List Int} {w : World} (h1 : PolyAt w v1 L 4) (hL : L.length ≤ 100) :
    Calls Tryz.prog 8 #[v1] w (ListOut w (trm L)) := by
  refine (pcan_any v1 L _ 4 w h1 (by omega) (by omega) rfl (by omega)).mono ?_
  rintro e W ⟨v, rfl, hP, hb⟩
  exact ⟨v, rfl, hP.polyS, hb⟩
theorem addH {v1 v2 : Value} {L M : List Int} {w : World} (h1 : PolyAt w v1 L 4) (h2 : PolyAt w v2 M 4) (hL : L.length ≤ 100) (hM : M.length ≤ 100) (hb : PB (addL L M) 5) :
    Calls Tryz.prog 12 #[v1, v2] w (ListOut w (trm (addL L M))) := by
  refine (padd_any v1 v2 L M _ 4 5 w h1 h2 (by omega) (by omega) (by omega) (trm_trm _) (fun i => by rw [co_trm, co_addL]) (pb_trm hb) (by omega)).mono ?_
  rintro e W ⟨v, rfl, hP, hb⟩
  exact ⟨v, rfl, hP.polyS, hb⟩
theorem derH {v1 : Value} {L : List Int} {w : World} (h1 : PolyAt w v1 L 4) (hL : L.length ≤ 100) :
    Calls Tryz.prog 16 #[v1] w (ListOut w (trm (derX L))) := by
  refine (deriv_any v1 L (trm (derX L)) 4 w h1 (by omega) (by omega) (trm_derX L) (fun i _ => by rw [co_trm, co_derX])).mono ?_
  rintro e W ⟨v, rfl, hP, hb⟩
  exact ⟨v, rfl, hP.polyS, hb⟩
theorem zero_len {X : List Int} {N : Nat} (h : ∀ i, N ≤ i → co X i = 0) : (trm X).length ≤ N := by
  rcases Nat.lt_or_ge N (trm X).length with h1 | h1
  · exfalso
    obtain ⟨n, hn⟩ : ∃ n, (trm X).length = n + 1 := ⟨(trm X).length - 1, by omega⟩
    exact trm_last _ hn (h n (by omega))
  · exact h1
theorem BD.der {L : List Int} {N : Nat} (h : BD L N) (hL : L.length ≤ 100) : BD (derX L) (N * 100) := fun i => by
  rw [co_derX]
  rcases Nat.lt_or_ge (i + 1) L.length with h1 | h1
  · rw [Int.natAbs_mul]
    exact Nat.mul_le_mul (h (i + 1)) (by omega)
  · rw [co_ge h1, Int.zero_mul]; exact Nat.zero_le _
theorem grP_less {n : Nat} {s : Nat → ByteArray} (h : grP n s = false) : n ≤ 68 ∧ ∀ i, i < n → (s i).size ≤ 3 := by
  have hs : ∀ i, i < n → (s i).size ≤ 3 := fun i hi => by
    rcases Nat.lt_or_ge 3 (s i).size with h1 | h1
    · rw [grP_big hi h1] at h; exact absurd h (by decide)
    · exact h1
  refine ⟨?_, hs⟩
  rw [grP_all hs] at h
  rcases Nat.lt_or_ge 68 n with h1 | h1
  · rw [decide_eq_true h1, Bool.or_true] at h; exact absurd h (by decide)
  · omega
set_option maxRecDepth 100000 in
set_option maxHeartbeats 12800000 in
theorem psums_two (n1 n2 c1 c2 : Nat) (A1 A2 : Option Addr) (A B : List Int) (w : World) (P1' : PolyAt w (.slice A1 n1 c1) A 4) (P2' : PolyAt w (.slice A2 n2 c2) B 4)
    (R1' : PolyR w (.slice A1 n1 c1) A) (R2' : PolyR w (.slice A2 n2 c2) B)
    (l1 : A.length ≤ 68) (l2 : B.length ≤ 68) (D1 : BD A 4294967296) (D2 : BD B 4294967296) (htab : Lib.TabIs Tryz.prog w "internal/strconv.uint64pow10" .u64 Lib.pow10Tab)
    (HS' : ∀ T, Calls Tryz.prog 5 #[.slice (some ⟨w.heap.size, 0, none⟩) 2 2] (w.alloc (.cells #[.slice A1 n1 c1, .slice A2 n2 c2] T)) fun e w' => e = .returned (.bool false) ∧ Below (w.alloc (.cells #[.slice A1 n1 c1, .slice A2 n2 c2] T)).heap.size (w.alloc (.cells #[.slice A1 n1 c1, .slice A2 n2 c2] T)) w') :
    Calls Tryz.prog 3 #[.slice A1 n1 c1, .slice A2 n2 c2] w fun e w' => e = .returned (.bool true) ∧ Below w.heap.size w w' := by
  have HT := Lib.hid htab
  have HS := Lib.hid HS'
  have P1 := Lib.hid P1'
  have P2 := Lib.hid P2'
  have R1 := Lib.hid R1'
  have R2 := Lib.hid R2'
  have HDA5 := Lib.hid ((D1.add D2).pb (k := 5) (by decide))
  have HDS5 := Lib.hid ((D1.sub D2).pb (k := 5) (by decide))
  have HDA := Lib.hid ((D1.add D2).pb (k := 200) (by decide))
  have HDS := Lib.hid ((D1.sub D2).pb (k := 200) (by decide))
  have HDD := Lib.hid ((D1.der (show A.length ≤ 100 by omega)).pb (k := 200) (by decide))
  have HD1 := Lib.hid (D1.pb (k := 100) (by decide))
  have lt := trm_len A
  have la : (trm (addL A B)).length ≤ A.length + B.length := zero_len fun i hi => by rw [co_addL, co_ge (by omega), co_ge (by omega)]; rfl
  have ls : (trm (subL A B)).length ≤ A.length + B.length := zero_len fun i hi => by rw [co_subL, co_ge (by omega), co_ge (by omega)]; rfl
  have ld : (trm (derX A)).length ≤ A.length := zero_len fun i hi => by rw [co_derX, co_ge (by omega), Int.zero_mul]
  obtain ⟨U, hU⟩ : ∃ U, prL A = U := ⟨_, rfl⟩
  have HU := Lib.hid hU
  have huu : (U == U) = true := by simp
  obtain ⟨dA, hdA⟩ : ∃ d, degZ A = d := ⟨_, rfl⟩
  have HdA := Lib.hid hdA
  have hdd : (dA == dA) = true := by simp
  obtain ⟨LC, hLC⟩ : ∃ L, trm A = L := ⟨_, rfl⟩
  obtain ⟨LA, hLA⟩ : ∃ L, trm (addL A B) = L := ⟨_, rfl⟩
  obtain ⟨LS, hLS⟩ : ∃ L, trm (subL A B) = L := ⟨_, rfl⟩
  obtain ⟨LD, hLD⟩ : ∃ L, trm (derX A) = L := ⟨_, rfl⟩
  rw [hLC] at lt
  rw [hLA] at la
  rw [hLS] at ls
  rw [hLD] at ld
  have HLC := Lib.hid hLC
  have HLA := Lib.hid hLA
  have HLS := Lib.hid hLS
  have HLD := Lib.hid hLD
  clear htab HS' P1' P2' R1' R2' D1 D2 hU hdA hLC hLA hLS hLD
  go_enter Tryz.func3, Tryz.ntmps3
  go_wp2_with (first
    | (go_at_call 5; (with_reducible refine (HS.out _).mono ?_); rintro e X1 ⟨rfl, bb⟩; (have BW := below_more (below1 _ _) (Nat.le_refl _) bb))
    | (go_at_call 8; (with_reducible refine (canH (P1.out.keep BW) (by omega)).mono ?_); rintro e X2 ⟨v1, rfl, p1, bb⟩; (rw [HLC.out] at p1); (have BW := below_more BW (Nat.le_refl _) bb))
    | (go_at_call 9; (with_reducible refine (refCan_any _ A _ (R1.out.keep BW) (by omega)).mono ?_); rintro e X3 ⟨v2, rfl, p2, bb⟩; (rw [HLC.out] at p2); (have p1 := p1.keep bb); (have BW := below_more BW (Nat.le_refl _) bb))
    | (go_at_call 10; (with_reducible refine (deg_any _ A 4 _ (P1.out.keep BW) (by omega)).mono ?_); (rw [HdA.out]); rintro e X4 ⟨rfl, bb⟩; (have BW := below_more BW (Nat.le_refl _) bb))
    | (go_at_call 11; (with_reducible refine (refDeg_any _ A _ (R1.out.keep BW) (by omega)).mono ?_); (rw [HdA.out]); rintro e X5 ⟨rfl, bb⟩; (have BW := below_more BW (Nat.le_refl _) bb))
    | (go_at_call 12; (with_reducible refine (addH (P1.out.keep BW) (P2.out.keep BW) (by omega) (by omega) HDA5.out).mono ?_); rintro e X6 ⟨v3, rfl, p3, bb⟩; (rw [HLA.out] at p3); (have BW := below_more BW (Nat.le_refl _) bb))
    | (go_at_call 13; (with_reducible refine (refAdd_any _ _ A B _ (R1.out.keep BW) (R2.out.keep BW) (by omega) (by omega) HDA.out).mono ?_); rintro e X7 ⟨v4, rfl, p4, bb⟩; (rw [HLA.out] at p4); (have p3 := p3.keep bb); (have BW := below_more BW (Nat.le_refl _) bb))
    | (go_at_call 14; (with_reducible refine (subH (P1.out.keep BW) (P2.out.keep BW) (by omega) (by omega) HDS5.out).mono ?_); rintro e X8 ⟨v5, rfl, p5, bb⟩; (rw [HLS.out] at p5); (have BW := below_more BW (Nat.le_refl _) bb))
    | (go_at_call 15; (with_reducible refine (refSub_any _ _ A B _ (R1.out.keep BW) (R2.out.keep BW) (by omega) (by omega) HDS.out).mono ?_); rintro e X9 ⟨v6, rfl, p6, bb⟩; (rw [HLS.out] at p6); (have p5 := p5.keep bb); (have BW := below_more BW (Nat.le_refl _) bb))
    | (go_at_call 16; (with_reducible refine (derH (P1.out.keep BW) (by omega)).mono ?_); rintro e X10 ⟨v7, rfl, p7, bb⟩; (rw [HLD.out] at p7); (have BW := below_more BW (Nat.le_refl _) bb))
    | (go_at_call 17; (with_reducible refine (refDer_any _ A _ (R1.out.keep BW) (by omega) HDD.out).mono ?_); rintro e X11 ⟨v8, rfl, p8, bb⟩; (rw [HLD.out] at p8); (have p7 := p7.keep bb); (have BW := below_more BW (Nat.le_refl _) bb))
    | (go_at_call 7; (first | (with_reducible refine (equalP_any p1 p2 (by omega)).mono ?_) | (with_reducible refine (equalP_any p3 p4 (by omega)).mono ?_) | (with_reducible refine (equalP_any p5 p6 (by omega)).mono ?_) | (with_reducible refine (equalP_any p7 p8 (by omega)).mono ?_)); rintro e X12 ⟨rfl, bb⟩; (have BW := below_more BW (Nat.le_refl _) bb))
    | (go_at_call 18; (with_reducible refine (printG (P1.out.keep BW) (by omega) (tab_keep HT.out BW)).mono ?_); (rw [HU.out]); rintro e X13 ⟨rfl, bb⟩; (have BW := below_more BW (Nat.le_refl _) bb))
    | (go_at_call 19; (with_reducible refine (refPrint_any _ A _ (R1.out.keep BW) (by omega) HD1.out).mono ?_); (rw [HU.out]); rintro e X14 ⟨rfl, bb⟩; (have BW := below_more BW (Nat.le_refl _) bb))
    | (go_at_call 6; (with_reducible refine (awake_any _ (tab_keep HT.out BW)).mono ?_); rintro e X15 ⟨rfl, bb⟩; (have BW := below_more BW (Nat.le_refl _) bb)))
  go_ret
  exact ⟨rfl, BW⟩
theorem psums_any (v1 v2 : Value) (n1 n2 : Nat) (g1 g2 : Nat → Bool) (s1 s2 : Nat → ByteArray) (w : World) (h1 : ArgV w v1 n1 g1 s1) (h2 : ArgV w v2 n2 g2 s2)
    (m1 : n1 ≤ 9223372036854775807) (m2 : n2 ≤ 9223372036854775807)
    (b1 : ∀ i, i < n1 → (s1 i).size ≤ 9223372036854775807) (b2 : ∀ i, i < n2 → (s2 i).size ≤ 9223372036854775807) (htab : Lib.TabIs Tryz.prog w "internal/strconv.uint64pow10" .u64 Lib.pow10Tab) :
    Calls Tryz.prog 3 #[v1, v2] w fun e w' => e = .returned (.bool true) ∧ Below w.heap.size w w' := by
  have hn : ∀ k, k < 2 → sel2 n1 n2 k ≤ 9223372036854775807 := fun k hk => by
    rcases (show k = 0 ∨ k = 1 by omega) with rfl | rfl
    · exact m1
    · exact m2
  have hs : ∀ k, k < 2 → ∀ i, i < sel2 n1 n2 k → (sel2 s1 s2 k i).size ≤ 9223372036854775807 := fun k hk i hi => by
    rcases (show k = 0 ∨ k = 1 by omega) with rfl | rfl
    · exact b1 i hi
    · exact b2 i hi
  have HS := fun T => lgreat_any w.heap.size 2 2 _ _ (w.alloc (.cells #[v1, v2] T)) (argsS2 (T := T) h1.argS h2.argS) (by omega) hn hs
  cases hsm : (anyB 2 fun k => grP (sel2 n1 n2 k) (sel2 s1 s2 k))
  · simp only [hsm] at HS
    have hz1 := grP_less (n := n1) (s := s1) (anyB_false hsm (k := 0) (by omega))
    have hz2 := grP_less (n := n2) (s := s2) (anyB_false hsm (k := 1) (by omega))
    have P1 := h1.at hz1.2
    have P2 := h2.at hz2.2
    have R1 := h1.r hz1.2
    have R2 := h2.r hz2.2
    have D1 := ArgV.bd (g := g1) hz1.2
    have D2 := ArgV.bd (g := g2) hz2.2
    have l1 : (intsOf n1 g1 s1).length ≤ 68 := by rw [intsOf_len]; exact hz1.1
    have l2 : (intsOf n2 g2 s2).length ≤ 68 := by rw [intsOf_len]; exact hz2.1
    obtain ⟨A1, c1, rfl, -⟩ := h1
    obtain ⟨A2, c2, rfl, -⟩ := h2
    exact psums_two n1 n2 c1 c2 A1 A2 _ _ w P1 P2 R1 R2 l1 l2 D1 D2 htab HS
  · exact psums_big v1 v2 n1 n2 s1 s2 w h1.argS h2.argS hn hs htab hsm
end Go.Proofs.YtgcogpfmhmmgdaaGreatDoor

namespace Go.Proofs.YtgcogpfmhmmgdaaGreatDoor.psums
open Go.ChangeShapes Go.WideShapes Go.ChangeAt Go.RowKit
set_option maxRecDepth 100000

theorem contract (H : Type) (enc : TypeId × Value → H) (W : World) (args : Array Value) (ds gs : List (DataW H)) (before : List MemPlace)
    (hval : ∀ (j : Nat) t v, Tryz.f3.params[j]? = some t → args[j]? = some v → Value.okWide Tryz.prog W .any 0 t v)
    (hW : DataW.Whole enc Tryz.prog Tryz.f3.params.toList Rows.polynomialSumsSpec.vars false W args.toList ds gs before) (hL : laidMetH Tryz.prog Rows.polynomialSumsRow.laid W) :
    Calls Tryz.prog 3 args W fun e W' => ∃ v, e = .returned v ∧ Rows.polynomialSumsSpec.post enc Tryz.prog Tryz.f3 false true false false W args v W' := by
  have hW' := hW
  obtain ⟨p, q, hA0, hV, rfl, hfz, hnd⟩ := hW
  have hA : DataW.TrodAll enc Tryz.prog W 0 (fun _ => true) true Tryz.f3.params.toList args.toList ds p := hA0
  rw [Tryz.params3] at hA hval
  obtain ⟨v0, vs0, d0, ds0, p0, q0, hargs, rfl, rfl, h0, r0⟩ := trodAll_cons hA
  obtain ⟨v1, vs1, d1, ds1, p1, q1, rfl, rfl, rfl, h1, r1⟩ := trodAll_cons r0
  obtain ⟨rfl, rfl, rfl⟩ := trodAll_nil r1
  obtain rfl : args = #[v0, v1] := by cases args; simp_all
  obtain ⟨rfl, rfl⟩ := trodVars_none hV
  obtain ⟨n0, g0, s0, k0, m0, z0⟩ := poly_open (hval 0 22 v0 rfl rfl) h0
  obtain ⟨n1, g1, s1, k1, m1, z1⟩ := poly_open (hval 1 22 v1 rfl rfl) h1
  have t0 : ∀ x ∈ p0, x.block < W.heap.size := fun x hx => by simpa using hW'.lt x (by simp [hx])
  have t1 : ∀ x ∈ p1, x.block < W.heap.size := fun x hx => by simpa using hW'.lt x (by simp [hx])
  clear hA0
  refine (psums_any v0 v1 n0 n1 g0 g1 s0 s1 W k0 k1 m0 m1 z0 z1 (tabPow hL)).mono fun e W' ⟨he, hb⟩ => ?_
  subst he
  refine ⟨_, rfl, _, _, _, [], (p0 ++ (p1 ++ [])), [], hW', ?_, ?_, ?_, hb.frame _, fun h => by cases h⟩
  · exact trodAll_cons_mk (p := []) (shut_bool Tryz.underlying4 true) trodAll_mk0
  · exact trodAll_cons_mk (poly_keep h0 hb t0) (trodAll_cons_mk (poly_keep h1 hb t1) trodAll_mk0)
  · rfl

theorem reads (os : Os) {H : Type} (enc : TypeId × Value → H) : ∃ places, DataW.whole enc Tryz.prog ((laidWorld os).forCall (fun _ _ => 0) ⟨#[], #[.slice none 0 0, .slice none 0 0], []⟩).memory Tryz.f3.params.toList Rows.polynomialSumsSpec.vars false [.slice none 0 0, .slice none 0 0] 8 = some ([.nil, .nil], [], places) :=
  ⟨[], by kernel_rfl⟩

set_option maxRecDepth 100000 in
theorem lifted (os : Os) (started : os.Started) (H : Type) (enc : TypeId × Value → H) (F : Stop.Interp) :
    ReturnsInHanded {} Tryz.checked os 3 .any ((OpenSpec.ofChange Rows.polynomialSumsSpec).preRow enc Tryz.prog Tryz.f3 Rows.polynomialSumsRow.domain false Rows.polynomialSumsRow.laid) (((OpenSpec.ofChange Rows.polynomialSumsSpec).at F).post enc Tryz.prog Tryz.f3 false true false false) := by
  obtain ⟨places, hx⟩ := reads os enc
  refine returnsInHanded_of_row (C := Tryz.checked) (s := OpenSpec.ofChange Rows.polynomialSumsSpec) ownNone started (by kernel_rfl) Tryz.func3
    (witness_row_at (enc := enc) (C := Tryz.checked) false (laidWorld os) #[.slice none 0 0, .slice none 0 0] rfl (by kernel_rfl) (by kernel_rfl) (by kernel_rfl)
      (OpenSpec.preRow_of_cond 8 hx (by kernel_rfl) (fun k hk => by cases hk) (by kernel_rfl) (laid_met os _))) ?_
  intro W base args ds gs before hval hW _ _ _ hL _ _
  exact contract H enc W args ds gs before hval hW hL

theorem said : Rows.PolynomialSumsSaid :=
  OpenClaim.holds_of_cond 3 Tryz.f3 rfl rfl rfl rfl rfl rfl rfl ⟨rfl, rfl, rfl, rfl, rfl⟩ rfl rfl rfl rfl rfl (by kernel_rfl) Tryz.func3 (by kernel_rfl)
    (of_decide_eq_true (by kernel_rfl)) (by unfold Func.isWrapper; first | (rw [if_pos (by decide +kernel)]; kernel_rfl) | (rw [if_neg (by decide +kernel)]; exact ⟨rfl, rfl⟩))
    (fun os started H enc _ F => by rw [OpenClaim.pre_eq_preRow]; exact lifted os started H enc F)

theorem plain (f : FuncId) (fn : Func) (hf : Tryz.pinned.checked.prog.funcNamed "groove/groovelaw03.PolynomialSums" = some f) (hfn : Tryz.pinned.checked.prog.funcs[f]? = some fn) :
    false = Tryz.pinned.checked.prog.looks [] ∧ ∀ (j : Nat) t, fn.params[j]? = some t → Tryz.pinned.checked.prog.wantsStandIn t = false := by
  obtain rfl : f = 3 := Option.some.inj ((show Tryz.prog.funcNamed "groove/groovelaw03.PolynomialSums" = some 3 by kernel_rfl).symm.trans hf) |>.symm
  obtain rfl : fn = Tryz.f3 := (Option.some.inj (Tryz.func3.symm.trans hfn)).symm
  refine ⟨by kernel_rfl, fun j t ht => ?_⟩
  rw [Tryz.params3] at ht
  obtain rfl : t = 22 := by simpa using Array.mem_of_getElem? ht
  exact noStandP

/-- PolynomialSums's card. -/
theorem card : Rows.PolynomialSumsCardSaid :=
  Claim7.holds_tied_plain_at .later [] _ _ _ _ said (fun _ h => by cases h) (by kernel_rfl) (fun _ h => by cases h) polynomialSums_row_tie rfl ⟨rfl, rfl⟩ (by kernel_rfl) rfl plain (by kernel_rfl)
end Go.Proofs.YtgcogpfmhmmgdaaGreatDoor.psums
