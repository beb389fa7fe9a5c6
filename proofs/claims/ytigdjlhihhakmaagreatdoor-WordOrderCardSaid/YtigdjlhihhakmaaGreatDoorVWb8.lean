/- WordOrder returns true for every input. WordOrder returns true for every input: the law's row, and its card, tied to the program's text. Conditions: those of the row: its tables read as listed (the card ties them to the program's text). -/
import Derived.Test.YtigdjlhihhakmaaGreatDoorQ14
import Derived.Test.YtigdjlhihhakmaaGreatDoorQ26

namespace Go.Proofs.YtigdjlhihhakmaaGreatDoor
open Go.RowKit
set_option linter.unusedSimpArgs false
set_option linter.unusedVariables false

attribute [local go_sem ↓] neqInt guardInt
theorem all_300 (q n : Nat) (w : World) (q1 : 1 ≤ q) (q2 : q ≤ 16) (hn : n ≤ 1000) (h : q ^ n ≤ 4096) :
    Calls Tryz.prog 12 #[.int .i64 (q : Int), .int .i64 (n : Int)] w (AllOut w (wordsTo q n (q ^ n), 0)) := by
  have h0 := chkL_ok (q := q) (n := n) q1 q2 (by omega)
  have := all_few q n w q1 q2 hn h0 h
  unfold allR at this
  rwa [if_pos h0, Int.toNat_natCast, Int.toNat_natCast, if_pos h] at this
/-- A variable of an integer, and what lies below. -/
def AV (w : World) (p : Nat) (z : Int) (W : World) : Prop := Below w.heap.size w W ∧ (W.cell? ⟨p, 0, none⟩ = some (.bool (sg z)) ∧ W.cell? ⟨p, 1, none⟩ = some (.string (mg z)))
theorem AV.keep {w W X : World} {p : Nat} {z : Int} (h : AV w p z W) (b : Below W.heap.size W X) : AV w p z X := ⟨below_more h.1 (Nat.le_refl _) b, cell_keep h.2.1 b, cell_keep h.2.2 b⟩
theorem AV.cells {w W : World} {p : Nat} {z : Int} (h : AV w p z W) : W.cell? ⟨p, 0, none⟩ = some (.bool (sg z)) ∧ W.cell? ⟨p, 1, none⟩ = some (.string (mg z)) := h.2
theorem AV.below {w W : World} {p : Nat} {z : Int} (h : AV w p z W) : Below w.heap.size w W := h.1
theorem AV.drew {w W : World} {p : Nat} {z : Int} (h : AV w p z W) : AV w p z W.drew := h.keep (Below.refl _ _).drew
/-- The word behind the one with the rank i. -/
def nxW (q n i : Nat) : List UInt8 := if i + 1 < q ^ n then unrk q n (i + 1) else List.replicate (n + 1) 48
theorem next_nxW {q n i : Nat} (q1 : 1 ≤ q) (q2 : q ≤ 16) (hn : n ≤ 1000) (hi : i < q ^ n) : nextW (q : Int) (unrk q n i) = (nxW q n i, 0) := by
  have h0 := chk_of q1 q2 (by rw [unrk_len]; omega) (unrk_word q1 q2 n i)
  have h1 := nxt_unrk q1 q2 hi
  unfold nxW
  by_cases h : i + 1 < q ^ n
  · rw [if_pos h] at h1 ⊢
    exact nextW_some h0 h1
  · rw [if_neg h] at h1 ⊢
    rw [nextW_none h0 h1, unrk_len, if_neg (by omega)]
set_option maxRecDepth 100000 in
set_option maxHeartbeats 12800000 in
theorem wordOrder_any (q n : Nat) (w : World) (hq : q ≤ 255) (hn : n ≤ 255) :
    Calls Tryz.prog 4 #[.int .u8 (q : Int), .int .u8 (n : Int)] w fun e w' => e = .returned (.bool true) ∧ Below w.heap.size w w' := by
  have t1 : Int.tmod (q : Int) 16 = ((q % 16 : Nat) : Int) := by rw [Int.tmod_eq_emod_of_nonneg (by omega)]; rfl
  have t2 : Int.tmod (n : Int) 10 = ((n % 10 : Nat) : Int) := by rw [Int.tmod_eq_emod_of_nonneg (by omega)]; rfl
  obtain ⟨k, hk⟩ : ∃ k : Nat, q % 16 + 1 = k := ⟨_, rfl⟩
  obtain ⟨m, hm⟩ : ∃ m : Nat, n % 10 = m := ⟨_, rfl⟩
  have k1 : 1 ≤ k := by omega
  have k2 : k ≤ 16 := by omega
  have hm9 : m ≤ 9 := by omega
  rw [hm] at t2
  obtain ⟨r, hr⟩ : ∃ r, q % 16 = r := ⟨_, rfl⟩
  rw [hr] at t1
  have t3 : (r : Int) + 1 = (k : Int) := by omega
  have hr16 : r < 16 := by omega
  clear hk hm hr
  go_enter Tryz.func4, Tryz.ntmps4
  go_wp2_with fail
  clear t1 t2 t3 hr16
  go_loopg [7, 26] m (fun g s7 s26 wx => wx = w ∧ ∃ i c : Nat, i + g = m ∧ s26 = .int .i64 (i : Int) ∧ s7 = .int .i64 (c : Int) ∧ c ≤ 300 ∧ Hid (k ^ i = c))
  case atStart => exact ⟨rfl, 0, 1, by omega, rfl, rfl, by omega, rfl⟩
  case round =>
    obtain ⟨rfl, i, c, hi, rfl, rfl, hc, Hc⟩ := hrel
    rcases gk with _ | g
    · obtain rfl : i = m := by omega
      clear hi
      have HA := Lib.hid (fun W => all_300 k i W k1 k2 (by omega) (by rw [Hc.out]; omega))
      have HSS := Lib.hid (fun j hj => wordsTo_sorted (q := k) (n := i) k1 k2 j hj)
      have HU := Lib.hid (fun W => Unrank_over k i c W k1 k2 (by omega) Hc.out.symm)
      simp only [Hc.out] at HA HSS
      have hlen := wordsTo_len k i c
      have g0 : ((c : Int) == (c : Int)) = true := by simp
      have HR := Lib.hid (fun j (hj : j < c) => show (wordsTo k i c).getD j [] = unrk k i j by
        unfold wordsTo
        rw [List.getD_eq_getElem?_getD, List.getElem?_map, List.getElem?_range hj]; rfl)
      obtain ⟨L, hL⟩ : ∃ L, wordsTo k i c = L := ⟨_, rfl⟩
      rw [hL] at hlen
      simp only [hL] at HA HSS HR
      clear hL
      have HOc := Lib.hid (fun W => iof_any (c : Int) W (by omega) (by omega))
      go_wp2_with (first
        | (go_at_call 12; (with_reducible refine (HA.out _).mono ?_); rintro e W1 ⟨v1, rfl, hS1, b1⟩; (have S1 := Lib.hid (StrsAt.strsIn hS1)); (obtain ⟨a1, c1, rfl⟩ := StrsAt.slice hS1); (clear hS1); (rw [hlen]); (rw [hlen] at S1))
        | (go_at_call 13; (with_reducible refine (isSortedS_any S1.out (by omega) (fun j hj => HSS.out j (by rw [← hlen]; exact hj))).mono ?_); rintro e W2 ⟨rfl, b2⟩; (have S1 := Lib.hid (S1.out.keep b2)); (have B2 := below_more b1 (Nat.le_refl _) b2)))
      have hc0 : 0 < c := by rw [← Hc.out]; exact Nat.pow_pos k1
      obtain ⟨g5, c5, he, hcell⟩ : ∃ g5 c5, a1 = some ⟨g5, 0, none⟩ ∧ ∀ j, j < c → W2.cell? ⟨g5, j, none⟩ = some (.string ⟨(unrk k i j).toArray⟩) := by
        rcases S1.out with ⟨hnil, -⟩ | ⟨g5, c5, he, hcell⟩
        · rw [hnil] at hlen; simp at hlen; omega
        · injection he with he1 he2 he3
          exact ⟨g5, 0, he1, fun j hj => by rw [hcell j (by rw [hlen]; exact hj), HR.out j hj]⟩
      subst he
      have HC := Lib.hid hcell
      clear hcell S1 HA HSS HR b1 b2 hlen
      obtain ⟨Wo, hWo⟩ : ∃ Wo, Wo = wr := ⟨_, rfl⟩
      have HWo := Lib.hid hWo
      rw [← hWo] at B2
      clear hWo
      go_loopg [56] c (fun g s56 wx => ∃ j : Nat, j + g = c ∧ s56 = .int .i64 (j : Int) ∧ Below Wo.heap.size Wo wx ∧ Hid (∀ jj, jj < c → wx.cell? ⟨g5, jj, none⟩ = some (.string ⟨(unrk k i jj).toArray⟩)))
      case atStart => exact ⟨0, by omega, rfl, B2, HC⟩
      case round =>
        obtain ⟨j, hj, rfl, hb, HC⟩ := hrel
        rcases gk with _ | g
        · obtain rfl : j = c := by omega
          clear HC B2
          go_wp2_with (first
            | (go_at_call 14; (with_reducible refine (HOc.out _).mono ?_); rintro e W3 ⟨rfl, b3⟩)
            | (go_at_call 10; (with_reducible refine (HU.out _).mono ?_); rintro e W4 ⟨rfl, b4⟩)
            | (go_at_call 7; (with_reducible refine (awake_any _).mono ?_); rintro e W5 ⟨rfl, b5⟩))
          go_ret
          exact ⟨rfl, by rw [← HWo.out]; exact below_more (below_more (below_more hb (Nat.le_refl _) b3) (Nat.le_refl _) b4) (Nat.le_refl _) b5⟩
        · have hjc : j < c := by omega
          have hjk : j < k ^ i := by rw [Hc.out]; exact hjc
          have x0 := HC.out j hjc
          have hrk := rk_unrk k1 k2 i j hjk
          have hul := unrk_len k i j
          have HR1 := Lib.hid (fun W => Rank_30 k (unrk k i j) W k1 k2 (by omega) (unrk_word k1 k2 i j))
          simp only [hrk] at HR1
          have HUn := Lib.hid (fun W => Unrank_good k i j W k1 k2 (by omega) hjk)
          have HN := Lib.hid (fun W => next_any (k : Int) (unrk k i j) W (by omega))
          simp only [next_nxW k1 k2 (by omega) hjk] at HN
          have HK := Lib.hid (fun W => check_any (k : Int) (unrk k i j) W (by omega))
          simp only [chk_of k1 k2 (by omega) (unrk_word k1 k2 i j)] at HK
          have HO := Lib.hid (fun W => iof_any (j : Int) W (by omega) (by omega))
          have HX := Lib.hid (show nxW k i j = if j + 1 < c then unrk k i (j + 1) else List.replicate (i + 1) 48 by unfold nxW; rw [Hc.out])
          obtain ⟨X, hX⟩ : ∃ X, nxW k i j = X := ⟨_, rfl⟩
          obtain ⟨U, hU⟩ : ∃ U, unrk k i j = U := ⟨_, rfl⟩
          simp only [hX] at HN HX
          simp only [hU] at HR1 HUn HN HK
          rw [hU] at x0 hul
          have e1 : (U == U) = true := by simp
          have e2 : (X == X) = true := by simp
          clear hX hU hrk hjk
          go_upto_region 18 with (first
            | (go_at_call 8; (with_reducible refine (HR1.out _).mono ?_); rintro e W3 ⟨rfl, b3⟩)
            | (go_at_call 14; (with_reducible refine (HO.out _).mono ?_); rintro e W4 ⟨rfl, b4⟩)
            | (go_at_call 10; (with_reducible refine (HUn.out _).mono ?_); rintro e W5 ⟨rfl, b5⟩)
            | (go_at_call 15; (with_reducible refine (HN.out _).mono ?_); rintro e W6 ⟨rfl, b6⟩))
          have B3 := below_more hb (Nat.le_refl _) b3
          have V3 := BVar.new W3 (j : Int) 23
          have B3a := below_more B3 (Nat.le_refl _) (below1 W3 (.cells #[.bool (sg (j : Int)), .string (mg (j : Int))] 23))
          have B6 := below_more (below_more (below_more B3a (Nat.le_refl _) b4) (Nat.le_refl _) b5) (Nat.le_refl _) b6
          have K := Lib.hid (show AV Wo W3.heap.size (j : Int) W6.drew from AV.drew ⟨B6, ((V3.keep b4).keep b5).keep b6⟩)
          have B6w := below_more (below_more (below_more (below_more (below_more (Below.refl wr.heap.size wr) (Nat.le_refl _) b3) (Nat.le_refl _) (below1 W3 (.cells #[.bool (sg (j : Int)), .string (mg (j : Int))] 23))) (Nat.le_refl _) b4) (Nat.le_refl _) b5) (Nat.le_refl _) b6
          have HBw := Lib.hid B6w.drew
          have HC6 := Lib.hid (fun W (hb : Below wr.heap.size wr W) jj (hjj : jj < c) => show W.cell? ⟨g5, jj, none⟩ = some (.string ⟨(unrk k i jj).toArray⟩) from (hb.cell (p := ⟨g5, jj, none⟩) (World.block_lt_of_cell? wr ⟨g5, jj, none⟩ (HC.out jj hjj))).trans (HC.out jj hjj))
          clear B3 V3 B3a B6 B6w b3 b4 b5 b6 HC x0
          generalize W3.heap.size = p at *
          go_region_held3 (fun W => W.cell? ⟨p, 0, none⟩ = some (.bool (sg (j : Int))) ∧ W.cell? ⟨p, 1, none⟩ = some (.string (mg (j : Int))))
            (with_reducible exact K.out.cells)
            (first
              | (go_at_call 14; (with_reducible refine (HO.out _).mono ?_); rintro e X1 ⟨rfl, bX1⟩; (have K := Lib.hid (K.out.keep bX1)))
              | (go_at_call 16; (with_reducible refine (HK.out _).mono ?_); rintro e X2 ⟨rfl, bX2⟩; (have K := Lib.hid (K.out.keep bX2))))
          have HX1 := Lib.hid (HC6.out _ (below_more (below_more HBw.out (Nat.le_refl _) bX1) (Nat.le_refl _) bX2))
          have hb1 := K.out.below
          clear HBw HC6 K bX1 bX2
          by_cases hl : j + 1 < c
          · have x3 := HX1.out (j + 1) hl
            have hXe := HX.out
            rw [if_pos hl] at hXe
            rw [← hXe] at x3
            have d1 : decide ((j : Int) + 1 < (c : Int)) = true := decide_eq_true (by omega)
            have d2 : ((j : Int) + 1 == (c : Int)) = false := by rw [beq_eq_false_iff_ne]; omega
            have d3 : ((j : Int) + 1).toNat = j + 1 := by omega
            have d4 : (0 : Int) ≤ (j : Int) + 1 := by omega
            have d5 : (j : Int) + 1 < (c : Int) := by omega
            clear hXe HX
            go_wp2_with fail
            go_roundg g
            case measure => omega
            case rel => exact ⟨j + 1, by omega, by go_num, hb1, HX1⟩
          · have hXe := HX.out
            rw [if_neg hl] at hXe
            have HZ := Lib.hid (show Lib.repeatL [48] (i + 1) = X by rw [repeat_zeros, hXe])
            have d1 : decide ((j : Int) + 1 < (c : Int)) = false := decide_eq_false (by omega)
            have d2 : ((j : Int) + 1 == (c : Int)) = true := by rw [beq_iff_eq]; omega
            clear hXe HX
            go_wp2_with (go_at_call 17; refine (Tryz.strings_Repeat ⟨#[48]⟩ (i + 1) _ (by omega) (by show 1 * (i + 1) ≤ _; omega)).mono ?_; rintro e W7 ⟨rfl, b7⟩; (rw [show (⟨#[48]⟩ : ByteArray).data.toList = [48] from rfl, HZ.out]))
            go_roundg g
            case measure => omega
            case rel => exact ⟨j + 1, by omega, by go_num, below_more hb1 (Nat.le_refl _) b7, Lib.hid (fun jj hjj => cell_keep (HX1.out jj hjj) b7)⟩
    · obtain ⟨t, ht⟩ : ∃ t : Nat, c * k = t := ⟨_, rfl⟩
      have htb : t ≤ 4800 := by rw [← ht]; exact Nat.le_trans (Nat.mul_le_mul hc k2) (by decide)
      have hmul : (c : Int) * (k : Int) = (t : Int) := by rw [← ht, Int.natCast_mul]
      have Ht := Lib.hid (show k ^ (i + 1) = t by rw [Nat.pow_succ, Hc.out, ht])
      clear ht Hc
      by_cases h4 : t ≤ 300
      · go_wp2
        go_roundg g
        case measure => omega
        case rel => exact ⟨rfl, i + 1, t, by omega, by go_num, rfl, h4, Ht⟩
      · clear Ht
        go_wp2_with (go_at_call 7; (with_reducible refine (awake_any _).mono ?_); rintro e X3 ⟨rfl, x3⟩)
        go_ret
        exact ⟨rfl, x3⟩
end Go.Proofs.YtigdjlhihhakmaaGreatDoor

namespace Go.Proofs.YtigdjlhihhakmaaGreatDoor.wordOrder
open Go.ChangeShapes Go.WideShapes Go.ChangeAt Go.RowKit
open Go.ChangeMaps (open_string shut_string)
set_option maxRecDepth 100000
set_option linter.unusedVariables false

theorem contract (H : Type) (enc : TypeId × Value → H) (W : World) (base : Nat) (args : Array Value) (ds gs : List (DataW H)) (before : List MemPlace)
    (hval : ∀ (j : Nat) t v, Tryz.f4.params[j]? = some t → args[j]? = some v → Value.okWide Tryz.prog W .any base t v)
    (hW : DataW.Whole enc Tryz.prog Tryz.f4.params.toList Rows.wordOrderSpec.vars false W args.toList ds gs before) (hL : laidMetH Tryz.prog Rows.wordOrderRow.laid W) :
    Calls Tryz.prog 4 args W fun e W' => ∃ v, e = .returned v ∧ Rows.wordOrderSpec.post enc Tryz.prog Tryz.f4 false true false false W args v W' := by
  have hW' := hW
  obtain ⟨p, q, hA0, hV, rfl, hfz, hnd⟩ := hW
  have hA : DataW.TrodAll enc Tryz.prog W 0 (fun _ => true) true Tryz.f4.params.toList args.toList ds p := hA0
  rw [Tryz.params4] at hA hval
  obtain ⟨v0, vs0, d0, ds0, p0, q0, hargs, rfl, rfl, h0, r0⟩ := trodAll_cons hA
  obtain ⟨v1, vs1, d1, ds1, p1, q1, rfl, rfl, rfl, h1, r1⟩ := trodAll_cons r0
  obtain ⟨rfl, rfl, rfl⟩ := trodAll_nil r1
  obtain rfl : args = #[v0, v1] := by cases args; simp_all
  obtain ⟨rfl, rfl⟩ := trodVars_none hV
  obtain ⟨n0, rfl, rfl, rfl, w0⟩ := open_int Tryz.underlying5 (hval 0 5 v0 rfl rfl) h0
  have b0 : (IntKind.min .u8) ≤ n0 ∧ n0 ≤ (IntKind.max .u8) := by simpa [Lit.wf] using w0
  simp [IntKind.min, IntKind.max, IntKind.signed, IntKind.bits] at b0
  obtain ⟨m0, rfl⟩ : ∃ m : Nat, n0 = (m : Int) := ⟨n0.toNat, by omega⟩
  obtain ⟨n1, rfl, rfl, rfl, w1⟩ := open_int Tryz.underlying5 (hval 1 5 v1 rfl rfl) h1
  have b1 : (IntKind.min .u8) ≤ n1 ∧ n1 ≤ (IntKind.max .u8) := by simpa [Lit.wf] using w1
  simp [IntKind.min, IntKind.max, IntKind.signed, IntKind.bits] at b1
  obtain ⟨m1, rfl⟩ : ∃ m : Nat, n1 = (m : Int) := ⟨n1.toNat, by omega⟩
  clear hA0
  simp only [List.append_nil] at hW'
  refine (wordOrder_any m0 m1 W (by omega) (by omega)).mono fun e W' ⟨he, hb⟩ => ?_
  subst he
  refine ⟨_, rfl, _, _, _, [], [], [], hW', ?_, ?_, ?_, hb.frame _, fun h => by cases h⟩
  · exact trodAll_cons_mk (p := []) (shut_bool Tryz.underlying4 true) trodAll_mk0
  · exact (trodAll_cons_mk (p := []) (shut_int Tryz.underlying5 w0) (trodAll_cons_mk (p := []) (shut_int Tryz.underlying5 w1) trodAll_mk0))
  · rfl

theorem reads (os : Os) {H : Type} (enc : TypeId × Value → H) : ∃ places, DataW.whole enc Tryz.prog ((laidWorld os).forCall (fun _ _ => 0) ⟨#[], #[.int .u8 0, .int .u8 0], []⟩).memory Tryz.f4.params.toList Rows.wordOrderSpec.vars false [.int .u8 0, .int .u8 0] 8 = some ([.lit (.int .u8 0), .lit (.int .u8 0)], [], places) :=
  ⟨[], by kernel_rfl⟩

theorem lifted (os : Os) (started : os.Started) (H : Type) (enc : TypeId × Value → H) (F : Stop.Interp) :
    ReturnsInHanded {} Tryz.checked os 4 .any ((OpenSpec.ofChange Rows.wordOrderSpec).preRow enc Tryz.prog Tryz.f4 Rows.wordOrderRow.domain false Rows.wordOrderRow.laid) (((OpenSpec.ofChange Rows.wordOrderSpec).at F).post enc Tryz.prog Tryz.f4 false true false false) := by
  obtain ⟨places, hx⟩ := reads os enc
  refine returnsInHanded_of_row (C := Tryz.checked) (s := OpenSpec.ofChange Rows.wordOrderSpec) ownNone started (by kernel_rfl) Tryz.func4
    (witness_row_at (enc := enc) (C := Tryz.checked) false (laidWorld os) #[.int .u8 0, .int .u8 0] rfl (by kernel_rfl) (by kernel_rfl) (by kernel_rfl)
      (OpenSpec.preRow_of_cond 8 hx (by kernel_rfl) (fun k hk => by cases hk) (by kernel_rfl) (laid_met os _))) ?_
  intro W base args ds gs before hval hW _ _ _ hL _ _
  exact contract H enc W base args ds gs before hval hW hL

theorem said : Rows.WordOrderSaid :=
  OpenClaim.holds_of_cond 4 Tryz.f4 rfl rfl rfl rfl rfl rfl rfl ⟨rfl, rfl, rfl, rfl, rfl⟩ rfl rfl rfl rfl rfl (by kernel_rfl) Tryz.func4 (by kernel_rfl)
    (of_decide_eq_true (by kernel_rfl)) (by unfold Func.isWrapper; first | (rw [if_pos (by decide +kernel)]; kernel_rfl) | (rw [if_neg (by decide +kernel)]; exact ⟨rfl, rfl⟩))
    (fun os started H enc _ F => by rw [OpenClaim.pre_eq_preRow]; exact lifted os started H enc F)

theorem plain (f : FuncId) (fn : Func) (hf : Tryz.pinned.checked.prog.funcNamed "groove/groovelaw07.WordOrder" = some f) (hfn : Tryz.pinned.checked.prog.funcs[f]? = some fn) :
    false = Tryz.pinned.checked.prog.looks [] ∧ ∀ (j : Nat) t, fn.params[j]? = some t → Tryz.pinned.checked.prog.wantsStandIn t = false := by
  obtain rfl : f = 4 := Option.some.inj ((show Tryz.prog.funcNamed "groove/groovelaw07.WordOrder" = some 4 by kernel_rfl).symm.trans hf) |>.symm
  obtain rfl : fn = Tryz.f4 := (Option.some.inj (Tryz.func4.symm.trans hfn)).symm
  refine ⟨by kernel_rfl, fun j t ht => ?_⟩
  rw [Tryz.params4] at ht
  have hm := Array.mem_of_getElem? ht
  obtain rfl : t = 5 := by simpa using hm
  exact noStand.2.2

/-- WordOrder's card. -/
theorem card : Rows.WordOrderCardSaid :=
  Claim7.holds_tied_plain_at .later [] _ _ _ _ said (fun _ h => by cases h) (by kernel_rfl) (fun _ h => by cases h) wordOrder_row_tie rfl ⟨rfl, rfl⟩ (by kernel_rfl) rfl plain (by kernel_rfl)
end Go.Proofs.YtigdjlhihhakmaaGreatDoor.wordOrder
