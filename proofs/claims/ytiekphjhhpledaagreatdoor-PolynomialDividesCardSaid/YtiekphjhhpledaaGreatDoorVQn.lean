/- PolynomialDivides returns true for every input. Condition: its own table, and what is in memory. PolynomialDivides returns true for every input: the law's row, and its card, tied to the program's text. Conditions: those of the row: its tables read as listed (the card ties them to the program's text). -/
import Derived.Test.YtiekphjhhpledaaGreatDoorVQl
import Derived.Test.YtiekphjhhpledaaGreatDoorQ37
import Derived.Test.YtiekphjhhpledaaGreatDoorQ34
import Derived.Test.YtiekphjhhpledaaGreatDoorQ36

namespace Go.Proofs.YtiekphjhhpledaaGreatDoor
open Go.RowKit Go.Shelf
set_option linter.unusedSimpArgs false
set_option linter.unusedVariables false

def mx0 (x : Int) : Int := if 0 < x then x else 0
theorem max_two0 {P : Program} (ts : Array TypeId) (t : TypeId) (k : IntKind) (x : Int) (w : World) :
    (Builtin.max_ ts t #[.int k 0, .int k x]).run P w = .ok (.int k (mx0 x)) w := by
  unfold mx0
  by_cases h : 0 < x <;> simp [Builtin.max_, Builtin.max2, h] <;> first | rfl | omega
theorem max_five {P : Program} (ts : Array TypeId) (t : TypeId) (k : IntKind) (w : World) :
    (Builtin.max_ ts t #[.int k 0, .int k 0, .int k 0, .int k 0, .int k 0]).run P w = .ok (.int k 0) w := by
  simp [Builtin.max_, Builtin.max2]
attribute [local go_sem ↓] max_two0 max_five
set_option maxRecDepth 100000 in
set_option maxHeartbeats 12800000 in
theorem pdiv_big (v1 v2 : Value) (n1 n2 : Nat) (s1 s2 : Nat → ByteArray) (w : World) (h1 : ArgS w v1 n1 s1) (h2 : ArgS w v2 n2 s2)
    (hn : ∀ k, k < 2 → sel2 n1 n2 k ≤ 9223372036854775807) (hs : ∀ k, k < 2 → ∀ i, i < sel2 n1 n2 k → (sel2 s1 s2 k i).size ≤ 9223372036854775807) (htab : Lib.TabIs Tryz.prog w "internal/strconv.uint64pow10" .u64 Lib.pow10Tab)
    (hbig : (!(anyB 2 fun k => grP (sel2 n1 n2 k) (sel2 s1 s2 k)) && !(anyB 2 fun k => decide (8 < sel2 n1 n2 k))) = false) :
    Calls Tryz.prog 4 #[v1, v2] w fun e w' => e = .returned (.bool true) ∧ Below w.heap.size w w' := by
  have HT := Lib.hid htab
  have HS := Lib.hid (fun T => lsmall_any w.heap.size 2 2 _ _ (w.alloc (.cells #[v1, v2] T)) (argsS2 (T := T) h1 h2) (by omega) hn hs)
  simp only [hbig] at HS
  obtain ⟨A1, c1, -, rfl, -⟩ := h1
  obtain ⟨A2, c2, -, rfl, -⟩ := h2
  clear hn hs hbig htab
  go_enter Tryz.func4, Tryz.ntmps4
  go_wp2_with (first
    | (go_at_call 6; (with_reducible refine (HS.out _).mono ?_); rintro e W1 ⟨rfl, b1⟩; (have B1 := below_more (below1 _ _) (Nat.le_refl _) b1))
    | (go_at_call 7; (with_reducible refine (awake_any _ (tab_keep HT.out B1)).mono ?_); rintro e W2 ⟨rfl, b2⟩; (have B2 := below_more B1 (Nat.le_refl _) b2)))
  go_ret
  exact ⟨rfl, B2⟩
set_option maxRecDepth 100000 in
set_option maxHeartbeats 12800000 in
theorem pdiv_zero (n1 n2 c1 c2 : Nat) (A1 A2 : Option Addr) (A B : List Int) (w : World) (P1' : PolyAt w (.slice A1 n1 c1) A 4) (P2' : PolyAt w (.slice A2 n2 c2) B 4)
    (l1 : A.length ≤ 8) (l2 : B.length ≤ 8) (htab : Lib.TabIs Tryz.prog w "internal/strconv.uint64pow10" .u64 Lib.pow10Tab)
    (HS' : ∀ T, Calls Tryz.prog 6 #[.slice (some ⟨w.heap.size, 0, none⟩) 2 2] (w.alloc (.cells #[.slice A1 n1 c1, .slice A2 n2 c2] T)) fun e w' => e = .returned (.bool true) ∧ Below (w.alloc (.cells #[.slice A1 n1 c1, .slice A2 n2 c2] T)).heap.size (w.alloc (.cells #[.slice A1 n1 c1, .slice A2 n2 c2] T)) w')
    (hB : trm B = []) :
    Calls Tryz.prog 4 #[.slice A1 n1 c1, .slice A2 n2 c2] w fun e w' => e = .returned (.bool true) ∧ Below w.heap.size w w' := by
  have HT := Lib.hid htab
  have HS := Lib.hid HS'
  have P1 := Lib.hid P1'
  have P2 := Lib.hid P2'
  have HB := Lib.hid hB
  have t1 := trm_len A
  have HDB := Lib.hid (show degZ B = -1 by unfold degZ; rw [hB]; rfl)
  obtain ⟨dA, hdA⟩ : ∃ d, degZ A = d := ⟨_, rfl⟩
  have HDA := Lib.hid hdA
  clear htab HS' P1' P2' hB hdA
  go_enter Tryz.func4, Tryz.ntmps4
  go_wp2_with (first
    | (go_at_call 6; (with_reducible refine (HS.out _).mono ?_); rintro e X1 ⟨rfl, bb⟩; (have BW := below_more (below1 _ _) (Nat.le_refl _) bb))
    | (go_at_call 14; (with_reducible refine (pDivide_zero _ _ A B 4 _ (P1.out.keep BW) (P2.out.keep BW) (by omega) (by omega) (by omega) HB.out).mono ?_); rintro e X2 ⟨rfl, bb⟩; (have BW := below_more BW (Nat.le_refl _) bb))
    | (go_at_call 13; (with_reducible refine (deg_any _ A 4 _ (P1.out.keep BW) (by omega)).mono ?_); (rw [HDA.out]); rintro e X3 ⟨rfl, bb⟩; (have BW := below_more BW (Nat.le_refl _) bb))
    | (go_at_call 13; (with_reducible refine (deg_any _ B 4 _ (P2.out.keep BW) (by omega)).mono ?_); (rw [HDB.out]); rintro e X4 ⟨rfl, bb⟩; (have BW := below_more BW (Nat.le_refl _) bb))
    | (go_at_call 7; (with_reducible refine (awake_any _ (tab_keep HT.out BW)).mono ?_); rintro e X5 ⟨rfl, bb⟩; (have BW := below_more BW (Nat.le_refl _) bb)))
  go_ret
  exact ⟨rfl, BW⟩
set_option maxRecDepth 100000 in
set_option maxHeartbeats 25600000 in
theorem pdiv_main (n1 n2 c1 c2 : Nat) (A1 A2 : Option Addr) (A B : List Int) (w : World) (P1' : PolyAt w (.slice A1 n1 c1) A 4) (P2' : PolyAt w (.slice A2 n2 c2) B 4) (hlen : B.length = n2)
    (l1 : A.length ≤ 8) (l2 : B.length ≤ 8) (D1 : BD A 4294967296) (D2 : BD B 4294967296) (htab : Lib.TabIs Tryz.prog w "internal/strconv.uint64pow10" .u64 Lib.pow10Tab)
    (HS' : ∀ T, Calls Tryz.prog 6 #[.slice (some ⟨w.heap.size, 0, none⟩) 2 2] (w.alloc (.cells #[.slice A1 n1 c1, .slice A2 n2 c2] T)) fun e w' => e = .returned (.bool true) ∧ Below (w.alloc (.cells #[.slice A1 n1 c1, .slice A2 n2 c2] T)).heap.size (w.alloc (.cells #[.slice A1 n1 c1, .slice A2 n2 c2] T)) w')
    (n : Nat) (hm : (trm B).length = n + 1) :
    Calls Tryz.prog 4 #[.slice A1 n1 c1, .slice A2 n2 c2] w fun e w' => e = .returned (.bool true) ∧ Below w.heap.size w w' := by
  have HT := Lib.hid htab
  have HS := Lib.hid HS'
  have P1 := Lib.hid P1'
  have P2 := Lib.hid P2'
  have HM := Lib.hid hm
  have t1 := trm_len A
  have t2 := trm_len B
  have hnn : n < n2 := by omega
  have hn8 : n ≤ 8 := by omega
  have hn2 : n2 ≤ 8 := by omega
  -- the coefficient that is read
  obtain ⟨ad, g, s, hA2, k1, k2, HI⟩ : ∃ (ad : Addr) (g : Bool) (s : ByteArray), A2 = some ad ∧ w.cell? (ad.add (n * 2)) = some (.bool g) ∧ w.cell? ⟨(ad.add (n * 2)).block, (ad.add (n * 2)).off + 1, none⟩ = some (.string s) ∧ Hid (IsInt (.agg #[.bool g, .string s]) (co B n) 4) := by
    obtain ⟨A', c', g, s, hv, hc, hcells⟩ := P2'
    obtain ⟨ad, ha, q1, q2, q3⟩ := hcells n (by omega)
    injection hv with e1 e2 e3
    exact ⟨ad, g n, s n, e1.trans ha, q1, q2, Lib.hid q3⟩
  subst hA2
  -- the division
  obtain ⟨st, hst⟩ : ∃ st, (trm A).length - n = st := ⟨_, rfl⟩
  obtain ⟨Q, R, hQR⟩ : ∃ Q R, divR B n (co B n) st [] (trm A) = (Q, R) := ⟨_, _, rfl⟩
  obtain ⟨eL, hdR, pQ, pR, lQ, lR⟩ := div_facts hm hst hQR l1 l2 P1'.pb P2'.pb
  obtain ⟨PR, hPR⟩ : ∃ L, trm (prodL A B) = L := ⟨_, rfl⟩
  obtain ⟨Q2, R2, hQR2⟩ : ∃ Q2 R2, divR B n (co B n) ((trm PR).length - n) [] (trm PR) = (Q2, R2) := ⟨_, _, rfl⟩
  have hR2 : R2 = [] := by subst hPR; exact none_facts hm rfl hQR2
  subst hR2
  have lPR : PR.length ≤ 16 := by have := trmul_len A B; rw [hPR] at this; omega
  have dPR : BD PR (8 * (8 * (4294967296 * 4294967296))) := by rw [← hPR]; exact (D1.mul D2 l1 l2).trm
  have QPR := Lib.hid (dPR.pb (k := 4) (by decide))
  obtain ⟨BK, hBK⟩ : ∃ L, trm (prodL Q B) = L := ⟨_, rfl⟩
  have lBK : BK.length ≤ 28 := by have := trmul_len Q B; rw [hBK] at this; omega
  have dQ : BD Q (4294967296 ^ 44) := fun i => Nat.le_of_lt (pQ i)
  have dR : BD R (4294967296 ^ 44) := fun i => Nat.le_of_lt (pR i)
  have dBK : BD BK (20 * (8 * (4294967296 ^ 44 * 4294967296))) := by rw [← hBK]; exact (dQ.mul D2 lQ l2).trm
  have QBK := Lib.hid (dBK.pb (k := 241) (by decide))
  have QQ := Lib.hid (dQ.pb (k := 241) (by decide))
  have QR := Lib.hid (dR.pb (k := 241) (by decide))
  have QS := Lib.hid ((dBK.add dR).pb (k := 241) (by decide))
  rw [hBK] at eL
  obtain ⟨LE, hLE⟩ : ∃ L, trm (prodL [co B n ^ st] A) = L := ⟨_, rfl⟩
  rw [hLE] at eL
  have lLE : LE.length ≤ 1000 := by have := trmul_len [co B n ^ st] A; rw [hLE] at this; simp at this; omega
  have hst8 : st ≤ 8 := by omega
  have QP := Lib.hid (show PB [co B n ^ st] 241 from pb_all (fun z hz => by rw [List.mem_singleton.1 hz]; exact pow_bd HI.out.bd (by omega)))
  have hRun := hQR
  rw [← hst] at hRun
  have HRUN := Lib.hid hRun
  have HRUN2 := Lib.hid hQR2
  have HPR := Lib.hid hPR
  have HBK := Lib.hid hBK
  have HLE := Lib.hid hLE
  have HEL := Lib.hid eL.symm
  have hdA : degZ A = ((trm A).length : Int) - 1 := rfl
  obtain ⟨dA, hdA2⟩ : ∃ d, degZ A = d := ⟨_, rfl⟩
  have hdA3 : -1 ≤ dA ∧ dA ≤ 7 := by omega
  have hmx : mx0 (dA - (n : Int) + 1) = (st : Int) := by unfold mx0; split <;> omega
  have hd1 := hdA3.1
  have hd2 := hdA3.2
  have HDA := Lib.hid hdA2
  have HDB := Lib.hid (show degZ B = (n : Int) by unfold degZ; omega)
  obtain ⟨dR', hdR'⟩ : ∃ d, degZ R = d := ⟨_, rfl⟩
  have HDR := Lib.hid hdR'
  rw [hdR'] at hdR
  have hltR : decide (dR' < (n : Int)) = true := decide_eq_true hdR
  have hn0 : ¬ (n : Int) < 0 := by omega
  clear htab HS' P1' P2' hm hQR hRun hQR2 hPR hBK hLE eL dQ dR dBK dPR D1 D2 pQ pR hdA hdA2 hdR' hst hdA3
  have hmk := hmx
  go_enter Tryz.func4, Tryz.ntmps4
  go_wp2_with (first
    | (go_at_call 6; (with_reducible refine (HS.out _).mono ?_); rintro e X1 ⟨rfl, bb⟩; (have BW := below_more (below1 _ _) (Nat.le_refl _) bb))
    | (go_at_call 14; (with_reducible refine (divG (P1.out.keep BW) (P2.out.keep BW) (by omega) (by omega) HM.out HRUN.out).mono ?_); rintro e X2 ⟨q, r, rfl, pq, pr, bb⟩; (have BW := below_more BW (Nat.le_refl _) bb))
    | (go_at_call 13; (with_reducible refine (deg_any _ A 4 _ (P1.out.keep BW) (by omega)).mono ?_); (rw [HDA.out]); rintro e X3 ⟨rfl, bb⟩; (have pq := pq.keep bb); (have pr := pr.keep bb); (have BW := below_more BW (Nat.le_refl _) bb))
    | (go_at_call 13; (with_reducible refine (deg_any _ B 4 _ (P2.out.keep BW) (by omega)).mono ?_); (rw [HDB.out]); rintro e X4 ⟨rfl, bb⟩; (have pq := pq.keep bb); (have pr := pr.keep bb); (have BW := below_more BW (Nat.le_refl _) bb); (have k1 := cell_keep k1 BW); (have k2 := cell_keep k2 BW))
    | (go_at_call 15; (with_reducible refine (power_any _ (co B n) st _ HI.out (by omega)).mono ?_); rintro e X5 ⟨pw, rfl, pp, bb⟩; (have pq := pq.keep bb); (have pr := pr.keep bb); (have BW := below_more BW (Nat.le_refl _) bb))
    | (go_at_call 8; (with_reducible refine (mulK (pp.at (by omega) QP.out) ((P1.out.keep BW).wider (k' := 241) (by omega) (by omega)) (by omega) (by simp) (by omega)).mono ?_); rintro e X6 ⟨vl, rfl, pl, bb⟩; (rw [HLE.out] at pl); (clear pp); (have pq := pq.keep bb); (have pr := pr.keep bb); (have BW := below_more BW (Nat.le_refl _) bb))
    | (go_at_call 8; (with_reducible refine (mulK (pq.at (by omega) QQ.out) ((P2.out.keep BW).wider (k' := 241) (by omega) (by omega)) (by omega) (by omega) (by omega)).mono ?_); rintro e X7 ⟨vb, rfl, pb, bb⟩; (rw [HBK.out] at pb); (clear pq); (have pl := pl.keep bb); (have pr := pr.keep bb); (have BW := below_more BW (Nat.le_refl _) bb))
    | (go_at_call 8; (with_reducible refine (mulG (P1.out.keep BW) (P2.out.keep BW) (by omega) (by omega)).mono ?_); rintro e X8 ⟨vp, rfl, pp, bb⟩; (rw [HPR.out] at pp); (have pl := pl.keep bb); (have pr := pr.keep bb); (have pb := pb.keep bb); (have BW := below_more BW (Nat.le_refl _) bb))
    | (go_at_call 14; (with_reducible refine (divG (pp.at (by omega) QPR.out) (P2.out.keep BW) (by omega) (by omega) HM.out HRUN2.out).mono ?_); rintro e X9 ⟨q2, r2, rfl, pq2, pn, bb⟩; (obtain ⟨An, cn, rfl⟩ := pn.slice); (clear pp pq2 pn); (have pl := pl.keep bb); (have pr := pr.keep bb); (have pb := pb.keep bb); (have BW := below_more BW (Nat.le_refl _) bb))
    | (go_at_call 9; (with_reducible refine (addK (pb.at (by omega) QBK.out) (pr.at (by omega) QR.out) (by omega) (by omega) (by omega) QS.out).mono ?_); rintro e X10 ⟨vs, rfl, ps, bb⟩; (rw [HEL.out] at ps); (clear pb); (have pl := pl.keep bb); (have pr := pr.keep bb); (have BW := below_more BW (Nat.le_refl _) bb))
    | (go_at_call 10; (with_reducible refine (equalP_any pl ps (by omega)).mono ?_); rintro e X11 ⟨rfl, bb⟩; (clear pl ps); (have pr := pr.keep bb); (have BW := below_more BW (Nat.le_refl _) bb))
    | (go_at_call 13; (with_reducible refine (deg_any _ R 241 _ (pr.at (by omega) QR.out) (by omega)).mono ?_); (rw [HDR.out]); rintro e X12 ⟨rfl, bb⟩; (have BW := below_more BW (Nat.le_refl _) bb))
    | (go_at_call 7; (with_reducible refine (awake_any _ (tab_keep HT.out BW)).mono ?_); rintro e X13 ⟨rfl, bb⟩; (have BW := below_more BW (Nat.le_refl _) bb)))
  go_ret
  exact ⟨rfl, BW⟩
theorem pdiv_any (v1 v2 : Value) (n1 n2 : Nat) (g1 g2 : Nat → Bool) (s1 s2 : Nat → ByteArray) (w : World) (h1 : ArgV w v1 n1 g1 s1) (h2 : ArgV w v2 n2 g2 s2)
    (m1 : n1 ≤ 9223372036854775807) (m2 : n2 ≤ 9223372036854775807)
    (b1 : ∀ i, i < n1 → (s1 i).size ≤ 9223372036854775807) (b2 : ∀ i, i < n2 → (s2 i).size ≤ 9223372036854775807) (htab : Lib.TabIs Tryz.prog w "internal/strconv.uint64pow10" .u64 Lib.pow10Tab) :
    Calls Tryz.prog 4 #[v1, v2] w fun e w' => e = .returned (.bool true) ∧ Below w.heap.size w w' := by
  have hn : ∀ k, k < 2 → sel2 n1 n2 k ≤ 9223372036854775807 := fun k hk => by
    rcases (show k = 0 ∨ k = 1 by omega) with rfl | rfl
    · exact m1
    · exact m2
  have hs : ∀ k, k < 2 → ∀ i, i < sel2 n1 n2 k → (sel2 s1 s2 k i).size ≤ 9223372036854775807 := fun k hk i hi => by
    rcases (show k = 0 ∨ k = 1 by omega) with rfl | rfl
    · exact b1 i hi
    · exact b2 i hi
  have HS := fun T => lsmall_any w.heap.size 2 2 _ _ (w.alloc (.cells #[v1, v2] T)) (argsS2 (T := T) h1.argS h2.argS) (by omega) hn hs
  cases hsm : (!(anyB 2 fun k => grP (sel2 n1 n2 k) (sel2 s1 s2 k)) && !(anyB 2 fun k => decide (8 < sel2 n1 n2 k)))
  · exact pdiv_big v1 v2 n1 n2 s1 s2 w h1.argS h2.argS hn hs htab hsm
  · simp only [hsm] at HS
    rw [Bool.and_eq_true, Bool.not_eq_true', Bool.not_eq_true'] at hsm
    have hz1 := small_split n1 s1 ⟨anyB_false hsm.1 (k := 0) (by omega), anyB_false hsm.2 (k := 0) (by omega)⟩
    have hz2 := small_split n2 s2 ⟨anyB_false hsm.1 (k := 1) (by omega), anyB_false hsm.2 (k := 1) (by omega)⟩
    have P1 := h1.at hz1.2
    have P2 := h2.at hz2.2
    have D1 := ArgV.bd (g := g1) hz1.2
    have D2 := ArgV.bd (g := g2) hz2.2
    have l1 : (intsOf n1 g1 s1).length ≤ 8 := by rw [intsOf_len]; exact hz1.1
    have l2 : (intsOf n2 g2 s2).length ≤ 8 := by rw [intsOf_len]; exact hz2.1
    have l2' := intsOf_len n2 g2 s2
    obtain ⟨A1, c1, rfl, -⟩ := h1
    obtain ⟨A2, c2, rfl, -⟩ := h2
    rcases Nat.eq_zero_or_pos (trm (intsOf n2 g2 s2)).length with h0 | h0
    · exact pdiv_zero n1 n2 c1 c2 A1 A2 _ _ w P1 P2 l1 l2 htab HS (List.eq_nil_of_length_eq_zero h0)
    · exact pdiv_main n1 n2 c1 c2 A1 A2 _ _ w P1 P2 l2' l1 l2 D1 D2 htab HS ((trm (intsOf n2 g2 s2)).length - 1) (by omega)
end Go.Proofs.YtiekphjhhpledaaGreatDoor

namespace Go.Proofs.YtiekphjhhpledaaGreatDoor.pdiv
open Go.ChangeShapes Go.WideShapes Go.ChangeAt Go.RowKit
set_option maxRecDepth 100000

theorem contract (H : Type) (enc : TypeId × Value → H) (W : World) (args : Array Value) (ds gs : List (DataW H)) (before : List MemPlace)
    (hval : ∀ (j : Nat) t v, Tryz.f4.params[j]? = some t → args[j]? = some v → Value.okWide Tryz.prog W .any 0 t v)
    (hW : DataW.Whole enc Tryz.prog Tryz.f4.params.toList Rows.polynomialDividesSpec.vars false W args.toList ds gs before) (hL : laidMetH Tryz.prog Rows.polynomialDividesRow.laid W) :
    Calls Tryz.prog 4 args W fun e W' => ∃ v, e = .returned v ∧ Rows.polynomialDividesSpec.post enc Tryz.prog Tryz.f4 false true false false W args v W' := by
  have hW' := hW
  obtain ⟨p, q, hA0, hV, rfl, hfz, hnd⟩ := hW
  have hA : DataW.TrodAll enc Tryz.prog W 0 (fun _ => true) true Tryz.f4.params.toList args.toList ds p := hA0
  rw [Tryz.params4] at hA hval
  obtain ⟨v0, vs0, d0, ds0, p0, q0, hargs, rfl, rfl, h0, r0⟩ := trodAll_cons hA
  obtain ⟨v1, vs1, d1, ds1, p1, q1, rfl, rfl, rfl, h1, r1⟩ := trodAll_cons r0
  obtain ⟨rfl, rfl, rfl⟩ := trodAll_nil r1
  obtain rfl : args = #[v0, v1] := by cases args; simp_all
  obtain ⟨rfl, rfl⟩ := trodVars_none hV
  obtain ⟨n0, g0, s0, k0, m0, z0⟩ := poly_open (hval 0 22 v0 rfl rfl) h0
  obtain ⟨n1, g1, s1, k1, m1, z1⟩ := poly_open (hval 1 22 v1 rfl rfl) h1
  have t0 : ∀ x ∈ p0, x.block < W.heap.size := fun x hx => by simpa using hW'.lt x (by simp [hx])
  have t1 : ∀ x ∈ p1, x.block < W.heap.size := fun x hx => by simpa using hW'.lt x (by simp [hx])
  clear hA0
  refine (pdiv_any v0 v1 n0 n1 g0 g1 s0 s1 W k0 k1 m0 m1 z0 z1 (tabPow hL)).mono fun e W' ⟨he, hb⟩ => ?_
  subst he
  refine ⟨_, rfl, _, _, _, [], (p0 ++ (p1 ++ [])), [], hW', ?_, ?_, ?_, hb.frame _, fun h => by cases h⟩
  · exact trodAll_cons_mk (p := []) (shut_bool Tryz.underlying4 true) trodAll_mk0
  · exact trodAll_cons_mk (poly_keep h0 hb t0) (trodAll_cons_mk (poly_keep h1 hb t1) trodAll_mk0)
  · rfl

theorem reads (os : Os) {H : Type} (enc : TypeId × Value → H) : ∃ places, DataW.whole enc Tryz.prog ((laidWorld os).forCall (fun _ _ => 0) ⟨#[], #[.slice none 0 0, .slice none 0 0], []⟩).memory Tryz.f4.params.toList Rows.polynomialDividesSpec.vars false [.slice none 0 0, .slice none 0 0] 8 = some ([.nil, .nil], [], places) :=
  ⟨[], by kernel_rfl⟩

set_option maxRecDepth 100000 in
theorem lifted (os : Os) (started : os.Started) (H : Type) (enc : TypeId × Value → H) (F : Stop.Interp) :
    ReturnsInHanded {} Tryz.checked os 4 .any ((OpenSpec.ofChange Rows.polynomialDividesSpec).preRow enc Tryz.prog Tryz.f4 Rows.polynomialDividesRow.domain false Rows.polynomialDividesRow.laid) (((OpenSpec.ofChange Rows.polynomialDividesSpec).at F).post enc Tryz.prog Tryz.f4 false true false false) := by
  obtain ⟨places, hx⟩ := reads os enc
  refine returnsInHanded_of_row (C := Tryz.checked) (s := OpenSpec.ofChange Rows.polynomialDividesSpec) ownNone started (by kernel_rfl) Tryz.func4
    (witness_row_at (enc := enc) (C := Tryz.checked) false (laidWorld os) #[.slice none 0 0, .slice none 0 0] rfl (by kernel_rfl) (by kernel_rfl) (by kernel_rfl)
      (OpenSpec.preRow_of_cond 8 hx (by kernel_rfl) (fun k hk => by cases hk) (by kernel_rfl) (laid_met os _))) ?_
  intro W base args ds gs before hval hW _ _ _ hL _ _
  exact contract H enc W args ds gs before hval hW hL

theorem said : Rows.PolynomialDividesSaid :=
  OpenClaim.holds_of_cond 4 Tryz.f4 rfl rfl rfl rfl rfl rfl rfl ⟨rfl, rfl, rfl, rfl, rfl⟩ rfl rfl rfl rfl rfl (by kernel_rfl) Tryz.func4 (by kernel_rfl)
    (of_decide_eq_true (by kernel_rfl)) (by unfold Func.isWrapper; first | (rw [if_pos (by decide +kernel)]; kernel_rfl) | (rw [if_neg (by decide +kernel)]; exact ⟨rfl, rfl⟩))
    (fun os started H enc _ F => by rw [OpenClaim.pre_eq_preRow]; exact lifted os started H enc F)

theorem plain (f : FuncId) (fn : Func) (hf : Tryz.pinned.checked.prog.funcNamed "groove/groovelaw03.PolynomialDivides" = some f) (hfn : Tryz.pinned.checked.prog.funcs[f]? = some fn) :
    false = Tryz.pinned.checked.prog.looks [] ∧ ∀ (j : Nat) t, fn.params[j]? = some t → Tryz.pinned.checked.prog.wantsStandIn t = false := by
  obtain rfl : f = 4 := Option.some.inj ((show Tryz.prog.funcNamed "groove/groovelaw03.PolynomialDivides" = some 4 by kernel_rfl).symm.trans hf) |>.symm
  obtain rfl : fn = Tryz.f4 := (Option.some.inj (Tryz.func4.symm.trans hfn)).symm
  refine ⟨by kernel_rfl, fun j t ht => ?_⟩
  rw [Tryz.params4] at ht
  obtain rfl : t = 22 := by simpa using Array.mem_of_getElem? ht
  exact noStandP

/-- PolynomialDivides's card. -/
theorem card : Rows.PolynomialDividesCardSaid :=
  Claim7.holds_tied_plain_at .later [] _ _ _ _ said (fun _ h => by cases h) (by kernel_rfl) (fun _ h => by cases h) polynomialDivides_row_tie rfl ⟨rfl, rfl⟩ (by kernel_rfl) rfl plain (by kernel_rfl)
end Go.Proofs.YtiekphjhhpledaaGreatDoor.pdiv
