/- PolynomialRing returns true for every input. Condition: its own table, and what is in memory. -/
import Derived.Test.YtiekphjhhpledaaGreatDoorQ33

namespace Go.Proofs.YtiekphjhhpledaaGreatDoor
open Go.RowKit Go.Shelf
set_option linter.unusedSimpArgs false
set_option linter.unusedVariables false

def sel3 {α : Type} (a b c : α) (k : Nat) : α := if k = 0 then a else if k = 1 then b else c
theorem argsS3 {w : World} {v1 v2 v3 : Value} {n1 n2 n3 : Nat} {s1 s2 s3 : Nat → ByteArray} {T : TypeId} (h1 : ArgS w v1 n1 s1) (h2 : ArgS w v2 n2 s2) (h3 : ArgS w v3 n3 s3) :
    ArgsS (w.alloc (.cells #[v1, v2, v3] T)) w.heap.size 3 (sel3 n1 n2 n3) (sel3 s1 s2 s3) := fun k hk => by
  have hb := below1 w (.cells #[v1, v2, v3] T)
  rcases (show k = 0 ∨ k = 1 ∨ k = 2 by omega) with rfl | rfl | rfl
  · exact ⟨v1, by simp, h1.keep hb⟩
  · exact ⟨v2, by simp, h2.keep hb⟩
  · exact ⟨v3, by simp, h3.keep hb⟩
set_option maxRecDepth 100000 in
set_option maxHeartbeats 12800000 in
theorem pring_big (v1 v2 v3 : Value) (n1 n2 n3 : Nat) (s1 s2 s3 : Nat → ByteArray) (w : World) (h1 : ArgS w v1 n1 s1) (h2 : ArgS w v2 n2 s2) (h3 : ArgS w v3 n3 s3)
    (hn : ∀ k, k < 3 → sel3 n1 n2 n3 k ≤ 9223372036854775807) (hs : ∀ k, k < 3 → ∀ i, i < sel3 n1 n2 n3 k → (sel3 s1 s2 s3 k i).size ≤ 9223372036854775807) (htab : Lib.TabIs Tryz.prog w "internal/strconv.uint64pow10" .u64 Lib.pow10Tab)
    (hbig : (!(anyB 3 fun k => grP (sel3 n1 n2 n3 k) (sel3 s1 s2 s3 k)) && !(anyB 3 fun k => decide (8 < sel3 n1 n2 n3 k))) = false) :
    Calls Tryz.prog 3 #[v1, v2, v3] w fun e w' => e = .returned (.bool true) ∧ Below w.heap.size w w' := by
  have HT := Lib.hid htab
  have HS := Lib.hid (fun T => lsmall_any w.heap.size 3 3 _ _ (w.alloc (.cells #[v1, v2, v3] T)) (argsS3 (T := T) h1 h2 h3) (by omega) hn hs)
  simp only [hbig] at HS
  obtain ⟨A1, c1, -, rfl, -⟩ := h1
  obtain ⟨A2, c2, -, rfl, -⟩ := h2
  obtain ⟨A3, c3, -, rfl, -⟩ := h3
  clear hn hs hbig htab
  go_enter Tryz.func3, Tryz.ntmps3
  go_wp2_with (first
    | (go_at_call 6; (with_reducible refine (HS.out _).mono ?_); rintro e W1 ⟨rfl, b1⟩; (have B1 := below_more (below1 _ _) (Nat.le_refl _) b1))
    | (go_at_call 7; (with_reducible refine (awake_any _ (tab_keep HT.out B1)).mono ?_); rintro e W2 ⟨rfl, b2⟩; (have B2 := below_more B1 (Nat.le_refl _) b2)))
  go_ret
  exact ⟨rfl, B2⟩
/- THE CASES -/
set_option maxRecDepth 100000 in
theorem max_seven {P : Program} (ts : Array TypeId) (t : TypeId) (k : IntKind) (w : World) :
    (Builtin.max_ ts t #[.int k 0, .int k 0, .int k 0, .int k 0, .int k 0, .int k 0, .int k 0]).run P w = .ok (.int k 0) w := by
  simp [Builtin.max_, Builtin.max2]
attribute [local go_sem ↓] max_seven
theorem addL_len (a b : List Int) : (addL a b).length ≤ a.length + b.length := by
  induction a generalizing b with
  | nil => unfold addL; simp
  | cons x a ih =>
    cases b with
    | nil => unfold addL; simp
    | cons y b =>
      unfold addL
      have := ih b
      simp only [List.length_cons]
      omega
theorem trmul_len (L M : List Int) : (trm (prodL L M)).length ≤ L.length + M.length := by
  have t1 := trm_len L
  have t2 := trm_len M
  by_cases h : trm L = []
  · rw [trm_mul_zero L M (.inl h)]; exact Nat.zero_le _
  · by_cases h' : trm M = []
    · rw [trm_mul_zero L M (.inr h')]; exact Nat.zero_le _
    · rw [trm_len_mul L M h h']; omega
theorem nil_len {L : List Int} (h : degZ L = -1) : trm L = [] := by
  unfold degZ at h
  exact List.eq_nil_of_length_eq_zero (by omega)
set_option maxRecDepth 100000 in
set_option maxHeartbeats 25600000 in
theorem pring_a (n1 n2 n3 c1 c2 c3 : Nat) (A1 A2 A3 : Option Addr) (A B C : List Int) (w : World) (P1' : PolyAt w (.slice A1 n1 c1) A 4) (P2' : PolyAt w (.slice A2 n2 c2) B 4) (P3' : PolyAt w (.slice A3 n3 c3) C 4)
    (l1 : A.length ≤ 8) (l2 : B.length ≤ 8) (l3 : C.length ≤ 8) (D1 : BD A 4294967296) (D2 : BD B 4294967296) (D3 : BD C 4294967296) (htab : Lib.TabIs Tryz.prog w "internal/strconv.uint64pow10" .u64 Lib.pow10Tab)
    (HS' : ∀ T, Calls Tryz.prog 6 #[.slice (some ⟨w.heap.size, 0, none⟩) 3 3] (w.alloc (.cells #[.slice A1 n1 c1, .slice A2 n2 c2, .slice A3 n3 c3] T)) fun e w' => e = .returned (.bool true) ∧ Below (w.alloc (.cells #[.slice A1 n1 c1, .slice A2 n2 c2, .slice A3 n3 c3] T)).heap.size (w.alloc (.cells #[.slice A1 n1 c1, .slice A2 n2 c2, .slice A3 n3 c3] T)) w') (hd : degZ A = -1) :
    Calls Tryz.prog 3 #[.slice A1 n1 c1, .slice A2 n2 c2, .slice A3 n3 c3] w fun e w' => e = .returned (.bool true) ∧ Below w.heap.size w w' := by
  have HT := Lib.hid htab
  have HS := Lib.hid HS'
  have P1 := Lib.hid P1'
  have P2 := Lib.hid P2'
  have P3 := Lib.hid P3'
  have HDA := Lib.hid hd
  obtain ⟨dB, hdB⟩ : ∃ d, degZ B = d := ⟨_, rfl⟩
  have HDB := Lib.hid hdB
  have hz := trm_mul_zero A B (.inl (nil_len hd))
  clear hd hdB
  have la := trmul_len A B
  have lb := trmul_len B C
  have lc := trmul_len A C
  have ls := addL_len B C
  have lp := addL_len A B
  have lst := trm_len (addL B C)
  have lpt := trm_len (addL A B)
  have eba := trm_mul_comm B A
  have eas := trm_mul_assoc A B C
  have ead := trm_mul_add A B C
  have dab := (D1.mul D2 l1 l2).trm
  have dbc := (D2.mul D3 l2 l3).trm
  have dac := (D1.mul D3 l1 l3).trm
  have ds := (D2.add D3).trm
  have dp := (D1.add D2).trm
  have ebp : trm (addL B A) = trm (addL A B) := trm_eq fun i => by rw [co_addL, co_addL]; omega
  have esb : trm (subL (trm (addL A B)) B) = trm A := trm_eq fun i => by rw [co_subL, co_trm, co_addL]; omega
  have esa : trm (subL A A) = [] := (trm_nil_iff _).2 fun i => by rw [co_subL]; omega
  have Qs := Lib.hid ((D2.add D3).pb (k := 5) (by decide))
  have Qp := Lib.hid ((D1.add D2).pb (k := 5) (by decide))
  have Qp' := Lib.hid ((D2.add D1).pb (k := 5) (by decide))
  have Qaa := Lib.hid ((D1.sub D1).pb (k := 5) (by decide))
  obtain ⟨AB, hAB⟩ : ∃ L, trm (prodL A B) = L := ⟨_, rfl⟩
  obtain ⟨BC, hBC⟩ : ∃ L, trm (prodL B C) = L := ⟨_, rfl⟩
  obtain ⟨AC, hAC⟩ : ∃ L, trm (prodL A C) = L := ⟨_, rfl⟩
  obtain ⟨BS, hBS⟩ : ∃ L, trm (addL B C) = L := ⟨_, rfl⟩
  obtain ⟨AP, hAP⟩ : ∃ L, trm (addL A B) = L := ⟨_, rfl⟩
  obtain ⟨AT, hAT⟩ : ∃ L, trm A = L := ⟨_, rfl⟩
  rw [hAB] at eba eas la dab
  rw [hBC] at eas lb dbc
  rw [hAC] at lc dac
  rw [hBS] at ead ds lst
  rw [hAB, hAC] at ead
  rw [hAP] at ebp esb dp lpt
  rw [hAT] at esb
  obtain ⟨LE, hLE⟩ : ∃ L, trm (prodL AB C) = L := ⟨_, rfl⟩
  obtain ⟨SU, hSU⟩ : ∃ L, trm (prodL A BS) = L := ⟨_, rfl⟩
  rw [hLE] at eas
  rw [hSU] at ead
  have lle : LE.length ≤ 1000 := by have := trmul_len AB C; rw [hLE] at this; omega
  have lsu : SU.length ≤ 1000 := by have := trmul_len A BS; rw [hSU] at this; omega
  have lat : AT.length ≤ 1000 := by have := trm_len A; rw [hAT] at this; omega
  have Qab := Lib.hid (dab.pb (k := 4) (by decide))
  have Qbc := Lib.hid (dbc.pb (k := 4) (by decide))
  have Qac := Lib.hid (dac.pb (k := 4) (by decide))
  have Qbs := Lib.hid (ds.pb (k := 4) (by decide))
  have Qap := Lib.hid (dp.pb (k := 4) (by decide))
  have Qd := Lib.hid ((dab.add dac).pb (k := 5) (by decide))
  have Qpb := Lib.hid ((dp.sub D2).pb (k := 5) (by decide))
  have HLN := Lib.hid (show AB.length = 0 by rw [← hAB, hz]; rfl)
  have HDAB := Lib.hid (show degZ AB = -1 by unfold degZ; rw [← hAB, hz]; rfl)
  clear hz
  have HAB := Lib.hid hAB
  have HBA := Lib.hid eba
  have HBC := Lib.hid hBC
  have HAC := Lib.hid hAC
  have HBS := Lib.hid hBS
  have HAP := Lib.hid hAP
  have HBP := Lib.hid ebp
  have HAT := Lib.hid hAT
  have HLE := Lib.hid hLE
  have HRI := Lib.hid eas.symm
  have HSU := Lib.hid hSU
  have HSD := Lib.hid ead.symm
  have HSB := Lib.hid esb
  have HSA := Lib.hid esa
  have K1 := trivial
  clear htab HS' P1' P2' P3' D1 D2 D3 dab dbc dac ds dp eba eas ead ebp esb esa hAB hBC hAC hBS hAP hAT hLE hSU
  go_enter Tryz.func3, Tryz.ntmps3
  go_wp2_with (first
    | (go_at_call 6; (with_reducible refine (HS.out _).mono ?_); rintro e X1 ⟨rfl, bb⟩; (have BW := below_more (below1 _ _) (Nat.le_refl _) bb))
    | (go_at_call 8; (with_reducible refine (mulG (P1.out.keep BW) (P2.out.keep BW) (by omega) (by omega)).mono ?_); rintro e X2 ⟨ab, rfl, pab, bb⟩; (rw [HAB.out] at pab); (obtain ⟨Aab, cab, rfl⟩ := pab.slice); (simp only [HLN.out] at pab ⊢); (have BW := below_more BW (Nat.le_refl _) bb))
    | (go_at_call 8; (with_reducible refine (mulG (P2.out.keep BW) (P1.out.keep BW) (by omega) (by omega)).mono ?_); rintro e X3 ⟨ba, rfl, pba, bb⟩; (rw [HBA.out] at pba); (have pab := pab.keep bb); (have BW := below_more BW (Nat.le_refl _) bb))
    | (go_at_call 8; (with_reducible refine (mulG (P2.out.keep BW) (P3.out.keep BW) (by omega) (by omega)).mono ?_); rintro e X4 ⟨bc, rfl, pbc, bb⟩; (rw [HBC.out] at pbc); (have pab := pab.keep bb); (have pba := pba.keep bb); (have BW := below_more BW (Nat.le_refl _) bb))
    | (go_at_call 8; (with_reducible refine (mulG (P1.out.keep BW) (P3.out.keep BW) (by omega) (by omega)).mono ?_); rintro e X5 ⟨ac, rfl, pac, bb⟩; (rw [HAC.out] at pac); (have pab := pab.keep bb); (have pba := pba.keep bb); (have pbc := pbc.keep bb); (have BW := below_more BW (Nat.le_refl _) bb))
    | (go_at_call 8; (with_reducible refine (mulG (pab.at (by omega) Qab.out) (P3.out.keep BW) (by omega) (by omega)).mono ?_); rintro e X6 ⟨le, rfl, ple, bb⟩; (rw [HLE.out] at ple); (have pab := pab.keep bb); (have pba := pba.keep bb); (have pbc := pbc.keep bb); (have pac := pac.keep bb); (have BW := below_more BW (Nat.le_refl _) bb))
    | (go_at_call 8; (with_reducible refine (mulG (P1.out.keep BW) (pbc.at (by omega) Qbc.out) (by omega) (by omega)).mono ?_); rintro e X7 ⟨ri, rfl, pri, bb⟩; (rw [HRI.out] at pri); (have pab := pab.keep bb); (have pba := pba.keep bb); (have pbc := pbc.keep bb); (have pac := pac.keep bb); (have ple := ple.keep bb); (have BW := below_more BW (Nat.le_refl _) bb))
    | (go_at_call 9; (with_reducible refine (addG (P2.out.keep BW) (P3.out.keep BW) (by omega) (by omega) Qs.out).mono ?_); rintro e X8 ⟨bs, rfl, pbs, bb⟩; (rw [HBS.out] at pbs); (have pab := pab.keep bb); (have pba := pba.keep bb); (have pbc := pbc.keep bb); (have pac := pac.keep bb); (have ple := ple.keep bb); (have pri := pri.keep bb); (have BW := below_more BW (Nat.le_refl _) bb))
    | (go_at_call 8; (with_reducible refine (mulG (P1.out.keep BW) (pbs.at (by omega) Qbs.out) (by omega) (by omega)).mono ?_); rintro e X9 ⟨su, rfl, psu, bb⟩; (rw [HSU.out] at psu); (have pab := pab.keep bb); (have pba := pba.keep bb); (have pac := pac.keep bb); (have ple := ple.keep bb); (have pri := pri.keep bb); (have pbs := pbs.keep bb); (have BW := below_more BW (Nat.le_refl _) bb))
    | (go_at_call 10; (with_reducible refine (equalP_any pab pba (by omega)).mono ?_); rintro e X10 ⟨rfl, bb⟩; (clear pba); (have pab := pab.keep bb); (have pac := pac.keep bb); (have ple := ple.keep bb); (have pri := pri.keep bb); (have psu := psu.keep bb); (have BW := below_more BW (Nat.le_refl _) bb))
    | (go_at_call 10; (with_reducible refine (equalP_any ple pri (by omega)).mono ?_); rintro e X11 ⟨rfl, bb⟩; (clear ple pri); (have pab := pab.keep bb); (have pac := pac.keep bb); (have psu := psu.keep bb); (have BW := below_more BW (Nat.le_refl _) bb))
    | (go_at_call 9; (with_reducible refine (addG (pab.at (by omega) Qab.out) (pac.at (by omega) Qac.out) (by omega) (by omega) Qd.out).mono ?_); rintro e X12 ⟨sd, rfl, psd, bb⟩; (rw [HSD.out] at psd); (have pab := pab.keep bb); (have pac := pac.keep bb); (have psu := psu.keep bb); (have BW := below_more BW (Nat.le_refl _) bb))
    | (go_at_call 10; (with_reducible refine (equalP_any psu psd (by omega)).mono ?_); rintro e X13 ⟨rfl, bb⟩; (clear psu psd pac); (have pab := pab.keep bb); (have BW := below_more BW (Nat.le_refl _) bb))
    | (go_at_call 9; (clear K1); (with_reducible refine (addG (P1.out.keep BW) (P2.out.keep BW) (by omega) (by omega) Qp.out).mono ?_); rintro e X14 ⟨ap, rfl, pap, bb⟩; (rw [HAP.out] at pap); (have pab := pab.keep bb); (have BW := below_more BW (Nat.le_refl _) bb))
    | (go_at_call 9; (with_reducible refine (addG (P2.out.keep BW) (P1.out.keep BW) (by omega) (by omega) Qp'.out).mono ?_); rintro e X15 ⟨bp, rfl, pbp, bb⟩; (rw [HBP.out] at pbp); (have pab := pab.keep bb); (have pap := pap.keep bb); (have BW := below_more BW (Nat.le_refl _) bb))
    | (go_at_call 10; (with_reducible refine (equalP_any pap pbp (by omega)).mono ?_); rintro e X16 ⟨rfl, bb⟩; (clear pap pbp); (have pab := pab.keep bb); (have BW := below_more BW (Nat.le_refl _) bb))
    | (go_at_call 9; (with_reducible refine (addG (P1.out.keep BW) (P2.out.keep BW) (by omega) (by omega) Qp.out).mono ?_); rintro e X17 ⟨aq, rfl, paq, bb⟩; (rw [HAP.out] at paq); (have pab := pab.keep bb); (have BW := below_more BW (Nat.le_refl _) bb))
    | (go_at_call 11; (with_reducible refine (subG (paq.at (by omega) Qap.out) (P2.out.keep BW) (by omega) (by omega) Qpb.out).mono ?_); rintro e X18 ⟨sb, rfl, psb, bb⟩; (rw [HSB.out] at psb); (have pab := pab.keep bb); (have paq := paq.keep bb); (have BW := below_more BW (Nat.le_refl _) bb))
    | (go_at_call 12; (with_reducible refine (canG (P1.out.keep BW) (by omega)).mono ?_); rintro e X19 ⟨ct, rfl, pct, bb⟩; (rw [HAT.out] at pct); (have pab := pab.keep bb); (have psb := psb.keep bb); (have BW := below_more BW (Nat.le_refl _) bb))
    | (go_at_call 10; (with_reducible refine (equalP_any psb pct (by omega)).mono ?_); rintro e X20 ⟨rfl, bb⟩; (clear psb pct); (have pab := pab.keep bb); (have BW := below_more BW (Nat.le_refl _) bb))
    | (go_at_call 11; (with_reducible refine (subG (P1.out.keep BW) (P1.out.keep BW) (by omega) (by omega) Qaa.out).mono ?_); rintro e X21 ⟨sa, rfl, psa, bb⟩; (rw [HSA.out] at psa); (obtain ⟨Asa, csa, rfl⟩ := psa.slice); (have pab := pab.keep bb); (have BW := below_more BW (Nat.le_refl _) bb))
    | (go_at_call 13; (with_reducible refine (deg_any _ A 4 _ (P1.out.keep BW) (by omega)).mono ?_); (rw [HDA.out]); rintro e X50 ⟨rfl, bb⟩; (have pab := pab.keep bb); (have BW := below_more BW (Nat.le_refl _) bb))
    | (go_at_call 13; (with_reducible refine (deg_any _ B 4 _ (P2.out.keep BW) (by omega)).mono ?_); (rw [HDB.out]); rintro e X51 ⟨rfl, bb⟩; (have pab := pab.keep bb); (have BW := below_more BW (Nat.le_refl _) bb))
    | (go_at_call 13; (with_reducible refine (deg_any _ AB 4 _ (pab.at (by omega) Qab.out) (by omega)).mono ?_); (rw [HDAB.out]); rintro e X52 ⟨rfl, bb⟩; (have BW := below_more BW (Nat.le_refl _) bb))
    | (go_at_call 7; (with_reducible refine (awake_any _ (tab_keep HT.out BW)).mono ?_); rintro e X53 ⟨rfl, bb⟩; (have BW := below_more BW (Nat.le_refl _) bb)))
  go_ret
  exact ⟨rfl, BW⟩
set_option maxRecDepth 100000 in
set_option maxHeartbeats 25600000 in
theorem pring_b (n1 n2 n3 c1 c2 c3 : Nat) (A1 A2 A3 : Option Addr) (A B C : List Int) (w : World) (P1' : PolyAt w (.slice A1 n1 c1) A 4) (P2' : PolyAt w (.slice A2 n2 c2) B 4) (P3' : PolyAt w (.slice A3 n3 c3) C 4)
    (l1 : A.length ≤ 8) (l2 : B.length ≤ 8) (l3 : C.length ≤ 8) (D1 : BD A 4294967296) (D2 : BD B 4294967296) (D3 : BD C 4294967296) (htab : Lib.TabIs Tryz.prog w "internal/strconv.uint64pow10" .u64 Lib.pow10Tab)
    (HS' : ∀ T, Calls Tryz.prog 6 #[.slice (some ⟨w.heap.size, 0, none⟩) 3 3] (w.alloc (.cells #[.slice A1 n1 c1, .slice A2 n2 c2, .slice A3 n3 c3] T)) fun e w' => e = .returned (.bool true) ∧ Below (w.alloc (.cells #[.slice A1 n1 c1, .slice A2 n2 c2, .slice A3 n3 c3] T)).heap.size (w.alloc (.cells #[.slice A1 n1 c1, .slice A2 n2 c2, .slice A3 n3 c3] T)) w') (m : Nat) (hm : degZ A = (m : Int)) (hm8 : m ≤ 8) (hd : degZ B = -1) :
    Calls Tryz.prog 3 #[.slice A1 n1 c1, .slice A2 n2 c2, .slice A3 n3 c3] w fun e w' => e = .returned (.bool true) ∧ Below w.heap.size w w' := by
  have HT := Lib.hid htab
  have HS := Lib.hid HS'
  have P1 := Lib.hid P1'
  have P2 := Lib.hid P2'
  have P3 := Lib.hid P3'
  have HDA := Lib.hid hm
  have HDB := Lib.hid hd
  have hz := trm_mul_zero A B (.inr (nil_len hd))
  clear hm hd
  have la := trmul_len A B
  have lb := trmul_len B C
  have lc := trmul_len A C
  have ls := addL_len B C
  have lp := addL_len A B
  have lst := trm_len (addL B C)
  have lpt := trm_len (addL A B)
  have eba := trm_mul_comm B A
  have eas := trm_mul_assoc A B C
  have ead := trm_mul_add A B C
  have dab := (D1.mul D2 l1 l2).trm
  have dbc := (D2.mul D3 l2 l3).trm
  have dac := (D1.mul D3 l1 l3).trm
  have ds := (D2.add D3).trm
  have dp := (D1.add D2).trm
  have ebp : trm (addL B A) = trm (addL A B) := trm_eq fun i => by rw [co_addL, co_addL]; omega
  have esb : trm (subL (trm (addL A B)) B) = trm A := trm_eq fun i => by rw [co_subL, co_trm, co_addL]; omega
  have esa : trm (subL A A) = [] := (trm_nil_iff _).2 fun i => by rw [co_subL]; omega
  have Qs := Lib.hid ((D2.add D3).pb (k := 5) (by decide))
  have Qp := Lib.hid ((D1.add D2).pb (k := 5) (by decide))
  have Qp' := Lib.hid ((D2.add D1).pb (k := 5) (by decide))
  have Qaa := Lib.hid ((D1.sub D1).pb (k := 5) (by decide))
  obtain ⟨AB, hAB⟩ : ∃ L, trm (prodL A B) = L := ⟨_, rfl⟩
  obtain ⟨BC, hBC⟩ : ∃ L, trm (prodL B C) = L := ⟨_, rfl⟩
  obtain ⟨AC, hAC⟩ : ∃ L, trm (prodL A C) = L := ⟨_, rfl⟩
  obtain ⟨BS, hBS⟩ : ∃ L, trm (addL B C) = L := ⟨_, rfl⟩
  obtain ⟨AP, hAP⟩ : ∃ L, trm (addL A B) = L := ⟨_, rfl⟩
  obtain ⟨AT, hAT⟩ : ∃ L, trm A = L := ⟨_, rfl⟩
  rw [hAB] at eba eas la dab
  rw [hBC] at eas lb dbc
  rw [hAC] at lc dac
  rw [hBS] at ead ds lst
  rw [hAB, hAC] at ead
  rw [hAP] at ebp esb dp lpt
  rw [hAT] at esb
  obtain ⟨LE, hLE⟩ : ∃ L, trm (prodL AB C) = L := ⟨_, rfl⟩
  obtain ⟨SU, hSU⟩ : ∃ L, trm (prodL A BS) = L := ⟨_, rfl⟩
  rw [hLE] at eas
  rw [hSU] at ead
  have lle : LE.length ≤ 1000 := by have := trmul_len AB C; rw [hLE] at this; omega
  have lsu : SU.length ≤ 1000 := by have := trmul_len A BS; rw [hSU] at this; omega
  have lat : AT.length ≤ 1000 := by have := trm_len A; rw [hAT] at this; omega
  have Qab := Lib.hid (dab.pb (k := 4) (by decide))
  have Qbc := Lib.hid (dbc.pb (k := 4) (by decide))
  have Qac := Lib.hid (dac.pb (k := 4) (by decide))
  have Qbs := Lib.hid (ds.pb (k := 4) (by decide))
  have Qap := Lib.hid (dp.pb (k := 4) (by decide))
  have Qd := Lib.hid ((dab.add dac).pb (k := 5) (by decide))
  have Qpb := Lib.hid ((dp.sub D2).pb (k := 5) (by decide))
  have HLN := Lib.hid (show AB.length = 0 by rw [← hAB, hz]; rfl)
  have HDAB := Lib.hid (show degZ AB = -1 by unfold degZ; rw [← hAB, hz]; rfl)
  clear hz
  have HAB := Lib.hid hAB
  have HBA := Lib.hid eba
  have HBC := Lib.hid hBC
  have HAC := Lib.hid hAC
  have HBS := Lib.hid hBS
  have HAP := Lib.hid hAP
  have HBP := Lib.hid ebp
  have HAT := Lib.hid hAT
  have HLE := Lib.hid hLE
  have HRI := Lib.hid eas.symm
  have HSU := Lib.hid hSU
  have HSD := Lib.hid ead.symm
  have HSB := Lib.hid esb
  have HSA := Lib.hid esa
  have K1 := trivial
  clear htab HS' P1' P2' P3' D1 D2 D3 dab dbc dac ds dp eba eas ead ebp esb esa hAB hBC hAC hBS hAP hAT hLE hSU
  go_enter Tryz.func3, Tryz.ntmps3
  go_wp2_with (first
    | (go_at_call 6; (with_reducible refine (HS.out _).mono ?_); rintro e X1 ⟨rfl, bb⟩; (have BW := below_more (below1 _ _) (Nat.le_refl _) bb))
    | (go_at_call 8; (with_reducible refine (mulG (P1.out.keep BW) (P2.out.keep BW) (by omega) (by omega)).mono ?_); rintro e X2 ⟨ab, rfl, pab, bb⟩; (rw [HAB.out] at pab); (obtain ⟨Aab, cab, rfl⟩ := pab.slice); (simp only [HLN.out] at pab ⊢); (have BW := below_more BW (Nat.le_refl _) bb))
    | (go_at_call 8; (with_reducible refine (mulG (P2.out.keep BW) (P1.out.keep BW) (by omega) (by omega)).mono ?_); rintro e X3 ⟨ba, rfl, pba, bb⟩; (rw [HBA.out] at pba); (have pab := pab.keep bb); (have BW := below_more BW (Nat.le_refl _) bb))
    | (go_at_call 8; (with_reducible refine (mulG (P2.out.keep BW) (P3.out.keep BW) (by omega) (by omega)).mono ?_); rintro e X4 ⟨bc, rfl, pbc, bb⟩; (rw [HBC.out] at pbc); (have pab := pab.keep bb); (have pba := pba.keep bb); (have BW := below_more BW (Nat.le_refl _) bb))
    | (go_at_call 8; (with_reducible refine (mulG (P1.out.keep BW) (P3.out.keep BW) (by omega) (by omega)).mono ?_); rintro e X5 ⟨ac, rfl, pac, bb⟩; (rw [HAC.out] at pac); (have pab := pab.keep bb); (have pba := pba.keep bb); (have pbc := pbc.keep bb); (have BW := below_more BW (Nat.le_refl _) bb))
    | (go_at_call 8; (with_reducible refine (mulG (pab.at (by omega) Qab.out) (P3.out.keep BW) (by omega) (by omega)).mono ?_); rintro e X6 ⟨le, rfl, ple, bb⟩; (rw [HLE.out] at ple); (have pab := pab.keep bb); (have pba := pba.keep bb); (have pbc := pbc.keep bb); (have pac := pac.keep bb); (have BW := below_more BW (Nat.le_refl _) bb))
    | (go_at_call 8; (with_reducible refine (mulG (P1.out.keep BW) (pbc.at (by omega) Qbc.out) (by omega) (by omega)).mono ?_); rintro e X7 ⟨ri, rfl, pri, bb⟩; (rw [HRI.out] at pri); (have pab := pab.keep bb); (have pba := pba.keep bb); (have pbc := pbc.keep bb); (have pac := pac.keep bb); (have ple := ple.keep bb); (have BW := below_more BW (Nat.le_refl _) bb))
    | (go_at_call 9; (with_reducible refine (addG (P2.out.keep BW) (P3.out.keep BW) (by omega) (by omega) Qs.out).mono ?_); rintro e X8 ⟨bs, rfl, pbs, bb⟩; (rw [HBS.out] at pbs); (have pab := pab.keep bb); (have pba := pba.keep bb); (have pbc := pbc.keep bb); (have pac := pac.keep bb); (have ple := ple.keep bb); (have pri := pri.keep bb); (have BW := below_more BW (Nat.le_refl _) bb))
    | (go_at_call 8; (with_reducible refine (mulG (P1.out.keep BW) (pbs.at (by omega) Qbs.out) (by omega) (by omega)).mono ?_); rintro e X9 ⟨su, rfl, psu, bb⟩; (rw [HSU.out] at psu); (have pab := pab.keep bb); (have pba := pba.keep bb); (have pac := pac.keep bb); (have ple := ple.keep bb); (have pri := pri.keep bb); (have pbs := pbs.keep bb); (have BW := below_more BW (Nat.le_refl _) bb))
    | (go_at_call 10; (with_reducible refine (equalP_any pab pba (by omega)).mono ?_); rintro e X10 ⟨rfl, bb⟩; (clear pba); (have pab := pab.keep bb); (have pac := pac.keep bb); (have ple := ple.keep bb); (have pri := pri.keep bb); (have psu := psu.keep bb); (have BW := below_more BW (Nat.le_refl _) bb))
    | (go_at_call 10; (with_reducible refine (equalP_any ple pri (by omega)).mono ?_); rintro e X11 ⟨rfl, bb⟩; (clear ple pri); (have pab := pab.keep bb); (have pac := pac.keep bb); (have psu := psu.keep bb); (have BW := below_more BW (Nat.le_refl _) bb))
    | (go_at_call 9; (with_reducible refine (addG (pab.at (by omega) Qab.out) (pac.at (by omega) Qac.out) (by omega) (by omega) Qd.out).mono ?_); rintro e X12 ⟨sd, rfl, psd, bb⟩; (rw [HSD.out] at psd); (have pab := pab.keep bb); (have pac := pac.keep bb); (have psu := psu.keep bb); (have BW := below_more BW (Nat.le_refl _) bb))
    | (go_at_call 10; (with_reducible refine (equalP_any psu psd (by omega)).mono ?_); rintro e X13 ⟨rfl, bb⟩; (clear psu psd pac); (have pab := pab.keep bb); (have BW := below_more BW (Nat.le_refl _) bb))
    | (go_at_call 9; (clear K1); (with_reducible refine (addG (P1.out.keep BW) (P2.out.keep BW) (by omega) (by omega) Qp.out).mono ?_); rintro e X14 ⟨ap, rfl, pap, bb⟩; (rw [HAP.out] at pap); (have pab := pab.keep bb); (have BW := below_more BW (Nat.le_refl _) bb))
    | (go_at_call 9; (with_reducible refine (addG (P2.out.keep BW) (P1.out.keep BW) (by omega) (by omega) Qp'.out).mono ?_); rintro e X15 ⟨bp, rfl, pbp, bb⟩; (rw [HBP.out] at pbp); (have pab := pab.keep bb); (have pap := pap.keep bb); (have BW := below_more BW (Nat.le_refl _) bb))
    | (go_at_call 10; (with_reducible refine (equalP_any pap pbp (by omega)).mono ?_); rintro e X16 ⟨rfl, bb⟩; (clear pap pbp); (have pab := pab.keep bb); (have BW := below_more BW (Nat.le_refl _) bb))
    | (go_at_call 9; (with_reducible refine (addG (P1.out.keep BW) (P2.out.keep BW) (by omega) (by omega) Qp.out).mono ?_); rintro e X17 ⟨aq, rfl, paq, bb⟩; (rw [HAP.out] at paq); (have pab := pab.keep bb); (have BW := below_more BW (Nat.le_refl _) bb))
    | (go_at_call 11; (with_reducible refine (subG (paq.at (by omega) Qap.out) (P2.out.keep BW) (by omega) (by omega) Qpb.out).mono ?_); rintro e X18 ⟨sb, rfl, psb, bb⟩; (rw [HSB.out] at psb); (have pab := pab.keep bb); (have paq := paq.keep bb); (have BW := below_more BW (Nat.le_refl _) bb))
    | (go_at_call 12; (with_reducible refine (canG (P1.out.keep BW) (by omega)).mono ?_); rintro e X19 ⟨ct, rfl, pct, bb⟩; (rw [HAT.out] at pct); (have pab := pab.keep bb); (have psb := psb.keep bb); (have BW := below_more BW (Nat.le_refl _) bb))
    | (go_at_call 10; (with_reducible refine (equalP_any psb pct (by omega)).mono ?_); rintro e X20 ⟨rfl, bb⟩; (clear psb pct); (have pab := pab.keep bb); (have BW := below_more BW (Nat.le_refl _) bb))
    | (go_at_call 11; (with_reducible refine (subG (P1.out.keep BW) (P1.out.keep BW) (by omega) (by omega) Qaa.out).mono ?_); rintro e X21 ⟨sa, rfl, psa, bb⟩; (rw [HSA.out] at psa); (obtain ⟨Asa, csa, rfl⟩ := psa.slice); (have pab := pab.keep bb); (have BW := below_more BW (Nat.le_refl _) bb))
    | (go_at_call 13; (with_reducible refine (deg_any _ A 4 _ (P1.out.keep BW) (by omega)).mono ?_); (rw [HDA.out]); rintro e X50 ⟨rfl, bb⟩; (have pab := pab.keep bb); (have BW := below_more BW (Nat.le_refl _) bb))
    | (go_at_call 13; (with_reducible refine (deg_any _ B 4 _ (P2.out.keep BW) (by omega)).mono ?_); (rw [HDB.out]); rintro e X51 ⟨rfl, bb⟩; (have pab := pab.keep bb); (have BW := below_more BW (Nat.le_refl _) bb))
    | (go_at_call 13; (with_reducible refine (deg_any _ AB 4 _ (pab.at (by omega) Qab.out) (by omega)).mono ?_); (rw [HDAB.out]); rintro e X52 ⟨rfl, bb⟩; (have BW := below_more BW (Nat.le_refl _) bb))
    | (go_at_call 7; (with_reducible refine (awake_any _ (tab_keep HT.out BW)).mono ?_); rintro e X53 ⟨rfl, bb⟩; (have BW := below_more BW (Nat.le_refl _) bb)))
  go_ret
  exact ⟨rfl, BW⟩
set_option maxRecDepth 100000 in
set_option maxHeartbeats 25600000 in
theorem pring_c (n1 n2 n3 c1 c2 c3 : Nat) (A1 A2 A3 : Option Addr) (A B C : List Int) (w : World) (P1' : PolyAt w (.slice A1 n1 c1) A 4) (P2' : PolyAt w (.slice A2 n2 c2) B 4) (P3' : PolyAt w (.slice A3 n3 c3) C 4)
    (l1 : A.length ≤ 8) (l2 : B.length ≤ 8) (l3 : C.length ≤ 8) (D1 : BD A 4294967296) (D2 : BD B 4294967296) (D3 : BD C 4294967296) (htab : Lib.TabIs Tryz.prog w "internal/strconv.uint64pow10" .u64 Lib.pow10Tab)
    (HS' : ∀ T, Calls Tryz.prog 6 #[.slice (some ⟨w.heap.size, 0, none⟩) 3 3] (w.alloc (.cells #[.slice A1 n1 c1, .slice A2 n2 c2, .slice A3 n3 c3] T)) fun e w' => e = .returned (.bool true) ∧ Below (w.alloc (.cells #[.slice A1 n1 c1, .slice A2 n2 c2, .slice A3 n3 c3] T)).heap.size (w.alloc (.cells #[.slice A1 n1 c1, .slice A2 n2 c2, .slice A3 n3 c3] T)) w') (m n : Nat) (hm : degZ A = (m : Int)) (hm8 : m ≤ 8) (hn : degZ B = (n : Int)) (hn8 : n ≤ 8) :
    Calls Tryz.prog 3 #[.slice A1 n1 c1, .slice A2 n2 c2, .slice A3 n3 c3] w fun e w' => e = .returned (.bool true) ∧ Below w.heap.size w w' := by
  have HT := Lib.hid htab
  have HS := Lib.hid HS'
  have P1 := Lib.hid P1'
  have P2 := Lib.hid P2'
  have P3 := Lib.hid P3'
  have HDA := Lib.hid hm
  have HDB := Lib.hid hn
  have hln : (trm (prodL A B)).length = m + n + 1 := by
    unfold degZ at hm hn
    rw [trm_len_mul A B (fun e => by rw [e] at hm; simp at hm) (fun e => by rw [e] at hn; simp at hn)]
    omega
  have hdz : degZ (trm (prodL A B)) = (m : Int) + (n : Int) := by
    unfold degZ
    rw [trm_trm, hln]
    omega
  clear hm hn
  have la := trmul_len A B
  have lb := trmul_len B C
  have lc := trmul_len A C
  have ls := addL_len B C
  have lp := addL_len A B
  have lst := trm_len (addL B C)
  have lpt := trm_len (addL A B)
  have eba := trm_mul_comm B A
  have eas := trm_mul_assoc A B C
  have ead := trm_mul_add A B C
  have dab := (D1.mul D2 l1 l2).trm
  have dbc := (D2.mul D3 l2 l3).trm
  have dac := (D1.mul D3 l1 l3).trm
  have ds := (D2.add D3).trm
  have dp := (D1.add D2).trm
  have ebp : trm (addL B A) = trm (addL A B) := trm_eq fun i => by rw [co_addL, co_addL]; omega
  have esb : trm (subL (trm (addL A B)) B) = trm A := trm_eq fun i => by rw [co_subL, co_trm, co_addL]; omega
  have esa : trm (subL A A) = [] := (trm_nil_iff _).2 fun i => by rw [co_subL]; omega
  have Qs := Lib.hid ((D2.add D3).pb (k := 5) (by decide))
  have Qp := Lib.hid ((D1.add D2).pb (k := 5) (by decide))
  have Qp' := Lib.hid ((D2.add D1).pb (k := 5) (by decide))
  have Qaa := Lib.hid ((D1.sub D1).pb (k := 5) (by decide))
  obtain ⟨AB, hAB⟩ : ∃ L, trm (prodL A B) = L := ⟨_, rfl⟩
  obtain ⟨BC, hBC⟩ : ∃ L, trm (prodL B C) = L := ⟨_, rfl⟩
  obtain ⟨AC, hAC⟩ : ∃ L, trm (prodL A C) = L := ⟨_, rfl⟩
  obtain ⟨BS, hBS⟩ : ∃ L, trm (addL B C) = L := ⟨_, rfl⟩
  obtain ⟨AP, hAP⟩ : ∃ L, trm (addL A B) = L := ⟨_, rfl⟩
  obtain ⟨AT, hAT⟩ : ∃ L, trm A = L := ⟨_, rfl⟩
  rw [hAB] at eba eas la dab
  rw [hBC] at eas lb dbc
  rw [hAC] at lc dac
  rw [hBS] at ead ds lst
  rw [hAB, hAC] at ead
  rw [hAP] at ebp esb dp lpt
  rw [hAT] at esb
  obtain ⟨LE, hLE⟩ : ∃ L, trm (prodL AB C) = L := ⟨_, rfl⟩
  obtain ⟨SU, hSU⟩ : ∃ L, trm (prodL A BS) = L := ⟨_, rfl⟩
  rw [hLE] at eas
  rw [hSU] at ead
  have lle : LE.length ≤ 1000 := by have := trmul_len AB C; rw [hLE] at this; omega
  have lsu : SU.length ≤ 1000 := by have := trmul_len A BS; rw [hSU] at this; omega
  have lat : AT.length ≤ 1000 := by have := trm_len A; rw [hAT] at this; omega
  have Qab := Lib.hid (dab.pb (k := 4) (by decide))
  have Qbc := Lib.hid (dbc.pb (k := 4) (by decide))
  have Qac := Lib.hid (dac.pb (k := 4) (by decide))
  have Qbs := Lib.hid (ds.pb (k := 4) (by decide))
  have Qap := Lib.hid (dp.pb (k := 4) (by decide))
  have Qd := Lib.hid ((dab.add dac).pb (k := 5) (by decide))
  have Qpb := Lib.hid ((dp.sub D2).pb (k := 5) (by decide))
  rw [hAB] at hln hdz
  have HLN := Lib.hid hln
  have HDAB := Lib.hid hdz
  clear hln hdz
  have HAB := Lib.hid hAB
  have HBA := Lib.hid eba
  have HBC := Lib.hid hBC
  have HAC := Lib.hid hAC
  have HBS := Lib.hid hBS
  have HAP := Lib.hid hAP
  have HBP := Lib.hid ebp
  have HAT := Lib.hid hAT
  have HLE := Lib.hid hLE
  have HRI := Lib.hid eas.symm
  have HSU := Lib.hid hSU
  have HSD := Lib.hid ead.symm
  have HSB := Lib.hid esb
  have HSA := Lib.hid esa
  have K1 := trivial
  clear htab HS' P1' P2' P3' D1 D2 D3 dab dbc dac ds dp eba eas ead ebp esb esa hAB hBC hAC hBS hAP hAT hLE hSU
  go_enter Tryz.func3, Tryz.ntmps3
  go_wp2_with (first
    | (go_at_call 6; (with_reducible refine (HS.out _).mono ?_); rintro e X1 ⟨rfl, bb⟩; (have BW := below_more (below1 _ _) (Nat.le_refl _) bb))
    | (go_at_call 8; (with_reducible refine (mulG (P1.out.keep BW) (P2.out.keep BW) (by omega) (by omega)).mono ?_); rintro e X2 ⟨ab, rfl, pab, bb⟩; (rw [HAB.out] at pab); (obtain ⟨Aab, cab, rfl⟩ := pab.slice); (simp only [HLN.out] at pab ⊢); (have BW := below_more BW (Nat.le_refl _) bb))
    | (go_at_call 8; (with_reducible refine (mulG (P2.out.keep BW) (P1.out.keep BW) (by omega) (by omega)).mono ?_); rintro e X3 ⟨ba, rfl, pba, bb⟩; (rw [HBA.out] at pba); (have pab := pab.keep bb); (have BW := below_more BW (Nat.le_refl _) bb))
    | (go_at_call 8; (with_reducible refine (mulG (P2.out.keep BW) (P3.out.keep BW) (by omega) (by omega)).mono ?_); rintro e X4 ⟨bc, rfl, pbc, bb⟩; (rw [HBC.out] at pbc); (have pab := pab.keep bb); (have pba := pba.keep bb); (have BW := below_more BW (Nat.le_refl _) bb))
    | (go_at_call 8; (with_reducible refine (mulG (P1.out.keep BW) (P3.out.keep BW) (by omega) (by omega)).mono ?_); rintro e X5 ⟨ac, rfl, pac, bb⟩; (rw [HAC.out] at pac); (have pab := pab.keep bb); (have pba := pba.keep bb); (have pbc := pbc.keep bb); (have BW := below_more BW (Nat.le_refl _) bb))
    | (go_at_call 8; (with_reducible refine (mulG (pab.at (by omega) Qab.out) (P3.out.keep BW) (by omega) (by omega)).mono ?_); rintro e X6 ⟨le, rfl, ple, bb⟩; (rw [HLE.out] at ple); (have pab := pab.keep bb); (have pba := pba.keep bb); (have pbc := pbc.keep bb); (have pac := pac.keep bb); (have BW := below_more BW (Nat.le_refl _) bb))
    | (go_at_call 8; (with_reducible refine (mulG (P1.out.keep BW) (pbc.at (by omega) Qbc.out) (by omega) (by omega)).mono ?_); rintro e X7 ⟨ri, rfl, pri, bb⟩; (rw [HRI.out] at pri); (have pab := pab.keep bb); (have pba := pba.keep bb); (have pbc := pbc.keep bb); (have pac := pac.keep bb); (have ple := ple.keep bb); (have BW := below_more BW (Nat.le_refl _) bb))
    | (go_at_call 9; (with_reducible refine (addG (P2.out.keep BW) (P3.out.keep BW) (by omega) (by omega) Qs.out).mono ?_); rintro e X8 ⟨bs, rfl, pbs, bb⟩; (rw [HBS.out] at pbs); (have pab := pab.keep bb); (have pba := pba.keep bb); (have pbc := pbc.keep bb); (have pac := pac.keep bb); (have ple := ple.keep bb); (have pri := pri.keep bb); (have BW := below_more BW (Nat.le_refl _) bb))
    | (go_at_call 8; (with_reducible refine (mulG (P1.out.keep BW) (pbs.at (by omega) Qbs.out) (by omega) (by omega)).mono ?_); rintro e X9 ⟨su, rfl, psu, bb⟩; (rw [HSU.out] at psu); (have pab := pab.keep bb); (have pba := pba.keep bb); (have pac := pac.keep bb); (have ple := ple.keep bb); (have pri := pri.keep bb); (have pbs := pbs.keep bb); (have BW := below_more BW (Nat.le_refl _) bb))
    | (go_at_call 10; (with_reducible refine (equalP_any pab pba (by omega)).mono ?_); rintro e X10 ⟨rfl, bb⟩; (clear pba); (have pab := pab.keep bb); (have pac := pac.keep bb); (have ple := ple.keep bb); (have pri := pri.keep bb); (have psu := psu.keep bb); (have BW := below_more BW (Nat.le_refl _) bb))
    | (go_at_call 10; (with_reducible refine (equalP_any ple pri (by omega)).mono ?_); rintro e X11 ⟨rfl, bb⟩; (clear ple pri); (have pab := pab.keep bb); (have pac := pac.keep bb); (have psu := psu.keep bb); (have BW := below_more BW (Nat.le_refl _) bb))
    | (go_at_call 9; (with_reducible refine (addG (pab.at (by omega) Qab.out) (pac.at (by omega) Qac.out) (by omega) (by omega) Qd.out).mono ?_); rintro e X12 ⟨sd, rfl, psd, bb⟩; (rw [HSD.out] at psd); (have pab := pab.keep bb); (have pac := pac.keep bb); (have psu := psu.keep bb); (have BW := below_more BW (Nat.le_refl _) bb))
    | (go_at_call 10; (with_reducible refine (equalP_any psu psd (by omega)).mono ?_); rintro e X13 ⟨rfl, bb⟩; (clear psu psd pac); (have pab := pab.keep bb); (have BW := below_more BW (Nat.le_refl _) bb))
    | (go_at_call 9; (clear K1); (with_reducible refine (addG (P1.out.keep BW) (P2.out.keep BW) (by omega) (by omega) Qp.out).mono ?_); rintro e X14 ⟨ap, rfl, pap, bb⟩; (rw [HAP.out] at pap); (have pab := pab.keep bb); (have BW := below_more BW (Nat.le_refl _) bb))
    | (go_at_call 9; (with_reducible refine (addG (P2.out.keep BW) (P1.out.keep BW) (by omega) (by omega) Qp'.out).mono ?_); rintro e X15 ⟨bp, rfl, pbp, bb⟩; (rw [HBP.out] at pbp); (have pab := pab.keep bb); (have pap := pap.keep bb); (have BW := below_more BW (Nat.le_refl _) bb))
    | (go_at_call 10; (with_reducible refine (equalP_any pap pbp (by omega)).mono ?_); rintro e X16 ⟨rfl, bb⟩; (clear pap pbp); (have pab := pab.keep bb); (have BW := below_more BW (Nat.le_refl _) bb))
    | (go_at_call 9; (with_reducible refine (addG (P1.out.keep BW) (P2.out.keep BW) (by omega) (by omega) Qp.out).mono ?_); rintro e X17 ⟨aq, rfl, paq, bb⟩; (rw [HAP.out] at paq); (have pab := pab.keep bb); (have BW := below_more BW (Nat.le_refl _) bb))
    | (go_at_call 11; (with_reducible refine (subG (paq.at (by omega) Qap.out) (P2.out.keep BW) (by omega) (by omega) Qpb.out).mono ?_); rintro e X18 ⟨sb, rfl, psb, bb⟩; (rw [HSB.out] at psb); (have pab := pab.keep bb); (have paq := paq.keep bb); (have BW := below_more BW (Nat.le_refl _) bb))
    | (go_at_call 12; (with_reducible refine (canG (P1.out.keep BW) (by omega)).mono ?_); rintro e X19 ⟨ct, rfl, pct, bb⟩; (rw [HAT.out] at pct); (have pab := pab.keep bb); (have psb := psb.keep bb); (have BW := below_more BW (Nat.le_refl _) bb))
    | (go_at_call 10; (with_reducible refine (equalP_any psb pct (by omega)).mono ?_); rintro e X20 ⟨rfl, bb⟩; (clear psb pct); (have pab := pab.keep bb); (have BW := below_more BW (Nat.le_refl _) bb))
    | (go_at_call 11; (with_reducible refine (subG (P1.out.keep BW) (P1.out.keep BW) (by omega) (by omega) Qaa.out).mono ?_); rintro e X21 ⟨sa, rfl, psa, bb⟩; (rw [HSA.out] at psa); (obtain ⟨Asa, csa, rfl⟩ := psa.slice); (have pab := pab.keep bb); (have BW := below_more BW (Nat.le_refl _) bb))
    | (go_at_call 13; (with_reducible refine (deg_any _ A 4 _ (P1.out.keep BW) (by omega)).mono ?_); (rw [HDA.out]); rintro e X50 ⟨rfl, bb⟩; (have pab := pab.keep bb); (have BW := below_more BW (Nat.le_refl _) bb))
    | (go_at_call 13; (with_reducible refine (deg_any _ B 4 _ (P2.out.keep BW) (by omega)).mono ?_); (rw [HDB.out]); rintro e X51 ⟨rfl, bb⟩; (have pab := pab.keep bb); (have BW := below_more BW (Nat.le_refl _) bb))
    | (go_at_call 13; (with_reducible refine (deg_any _ AB 4 _ (pab.at (by omega) Qab.out) (by omega)).mono ?_); (rw [HDAB.out]); rintro e X52 ⟨rfl, bb⟩; (have BW := below_more BW (Nat.le_refl _) bb))
    | (go_at_call 7; (with_reducible refine (awake_any _ (tab_keep HT.out BW)).mono ?_); rintro e X53 ⟨rfl, bb⟩; (have BW := below_more BW (Nat.le_refl _) bb)))
  go_ret
  exact ⟨rfl, BW⟩
end Go.Proofs.YtiekphjhhpledaaGreatDoor
