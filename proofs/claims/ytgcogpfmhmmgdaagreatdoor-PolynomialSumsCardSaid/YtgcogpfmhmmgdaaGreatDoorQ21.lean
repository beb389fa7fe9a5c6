/- Words for the laws on integers: their sizes, and integers in cells. No condition. What polynomial.combine returns: sums and differences. Condition: at most 10^5 coefficients, of at most 10^6 digits to the base 2^32. A range over a function whose rounds all go on to their end: the statement, and one round. No condition. -/
import Derived.Test.YtgcogpfmhmmgdaaGreatDoorQ16
import Derived.Test.YtgcogpfmhmmgdaaGreatDoorQ09
import Derived.Lib.Hide
import Derived.Test.YtgcogpfmhmmgdaaGreatDoorQ17
import Derived.Test.YtgcogpfmhmmgdaaGreatDoorQ18
import Derived.Test.YtgcogpfmhmmgdaaGreatDoorQ20
import Derived.Deep.DeepCutAuto
import Derived.Test.YtgcogpfmhmmgdaaGreatDoorQ12
import Derived.RangeFuncNested
import Derived.RangeFuncBound
import Derived.RangeFuncCalls
import Derived.RangeFuncLeaves
import Derived.Shelf.Abstract
import Derived.Shelf.RegionOpen
import Derived.WalkKit
import Derived.OwnWalkIn
import Derived.TacticsInMore
import Derived.LoopNIn
import Derived.LoopIn

namespace Go.Proofs.YtgcogpfmhmmgdaaGreatDoor
open Go.RowKit

theorem bd_add {a b : Int} {k1 k2 : Nat} (h1 : a.natAbs < 4294967296 ^ k1) (h2 : b.natAbs < 4294967296 ^ k2) : (a + b).natAbs < 4294967296 ^ (k1 + k2 + 1) :=
  Nat.lt_of_le_of_lt (Int.natAbs_add_le a b) (sum_bound h1 h2)
theorem bd_neg {a : Int} {k1 : Nat} (h1 : a.natAbs < 4294967296 ^ k1) : (-a).natAbs < 4294967296 ^ k1 := by rw [Int.natAbs_neg]; exact h1
theorem bd_sub {a b : Int} {k1 k2 : Nat} (h1 : a.natAbs < 4294967296 ^ k1) (h2 : b.natAbs < 4294967296 ^ k2) : (a - b).natAbs < 4294967296 ^ (k1 + k2 + 1) := by
  rw [sub_eq]; exact bd_add h1 (bd_neg h2)
theorem bd_mul {a b : Int} {k1 k2 : Nat} (h1 : a.natAbs < 4294967296 ^ k1) (h2 : b.natAbs < 4294967296 ^ k2) : (a * b).natAbs < 4294967296 ^ (k1 + k2) := by
  rw [Int.natAbs_mul]; exact prod_bound h1 h2
theorem bd_zero : (0 : Int).natAbs < 4294967296 ^ 1 := by decide
/-- An argument of at most 60 bytes. -/
theorem bd_arg (ng : Bool) (s : ByteArray) (h : s.size ≤ 60) : (zv ng s).natAbs < 4294967296 ^ 15 := by
  rw [natAbs_zv]
  have h1 := vB_lt s.data.toList
  have h2 : (256 : Nat) ^ s.data.toList.length ≤ 256 ^ 60 := Nat.pow_le_pow_right (by omega) (by rw [Array.length_toList]; exact h)
  have h3 : (256 : Nat) ^ 60 = 4294967296 ^ 15 := by rw [b256]
  omega
theorem arg_int (ng : Bool) (s : ByteArray) (h : s.size ≤ 60) : IsInt (.agg #[.bool ng, .string s]) (zv ng s) 15 :=
  ⟨ng, s, rfl, rfl, by omega, bd_arg ng s h, by omega⟩
theorem zero_int : IsInt (.agg #[.bool false, .string ⟨#[]⟩]) 0 1 := ⟨false, ⟨#[]⟩, rfl, by rfl, by decide, by decide, by omega⟩
theorem sg_zero : sg 0 = false := by decide
theorem mg_zero : mg 0 = ⟨#[]⟩ := by
  unfold mg
  rw [show (0 : Int).natAbs = 0 by rfl, bytesOf_zero]
theorem bcell_block {Wp W1 : World} {b : Nat} (hb : Below Wp.heap.size Wp W1) (h : b < Wp.heap.size) : W1.heap[b]? = Wp.heap[b]? := hb.block b h
theorem check_canon (z : Int) : checkN (sg z) (mg z) = 0 := by
  unfold checkN
  rw [zv_mg, if_pos ⟨rfl, rfl⟩]

/-- Two integers are stored side by side. -/
theorem pair_set {W : World} {p q : Nat} {z1 z2 : Int} {u1 u2 u3 u4 : Value} (hne : p ≠ q) (h1 : W.cell? ⟨p, 0, none⟩ = some u1) (h2 : W.cell? ⟨p, 1, none⟩ = some u2) (h3 : W.cell? ⟨q, 0, none⟩ = some u3) (h4 : W.cell? ⟨q, 1, none⟩ = some u4) :
    IntAt ((((W.setCell ⟨p, 0, none⟩ (.bool (sg z1))).setCell ⟨p, 1, none⟩ (.string (mg z1))).setCell ⟨q, 0, none⟩ (.bool (sg z2))).setCell ⟨q, 1, none⟩ (.string (mg z2))) p z1 ∧
    IntAt ((((W.setCell ⟨p, 0, none⟩ (.bool (sg z1))).setCell ⟨p, 1, none⟩ (.string (mg z1))).setCell ⟨q, 0, none⟩ (.bool (sg z2))).setCell ⟨q, 1, none⟩ (.string (mg z2))) q z2 := by
  have h := two_set (z1 := z1) (z2 := z2) hne h1 h2 h3 h4
  exact ⟨⟨h.1, h.2.1⟩, ⟨h.2.2.1, h.2.2.2⟩⟩

/-- The contracts, with a name for what comes out. -/
theorem iadd_eq {v1 v2 : Value} {z1 z2 z : Int} {k1 k2 : Nat} {w : World} (h1 : IsInt v1 z1 k1) (h2 : IsInt v2 z2 k2) (e : z1 + z2 = z) : Calls Tryz.prog 37 #[v1, v2] w (IntOut w z) := e ▸ iadd_any v1 v2 z1 z2 k1 k2 w h1 h2
theorem isub_eq {v1 v2 : Value} {z1 z2 z : Int} {k1 k2 : Nat} {w : World} (h1 : IsInt v1 z1 k1) (h2 : IsInt v2 z2 k2) (e : z1 - z2 = z) : Calls Tryz.prog 39 #[v1, v2] w (IntOut w z) := e ▸ isub_any v1 v2 z1 z2 k1 k2 w h1 h2
theorem imul_eq {v1 v2 : Value} {z1 z2 z : Int} {k1 k2 : Nat} {w : World} (h1 : IsInt v1 z1 k1) (h2 : IsInt v2 z2 k2) (e : z1 * z2 = z) : Calls Tryz.prog 42 #[v1, v2] w (IntOut w z) := e ▸ imul_any v1 v2 z1 z2 k1 k2 w h1 h2
theorem ineg_eq {v1 : Value} {z1 z : Int} {k1 : Nat} {w : World} (h1 : IsInt v1 z1 k1) (e : -z1 = z) : Calls Tryz.prog 48 #[v1] w (IntOut w z) := e ▸ ineg_any v1 z1 k1 w h1
theorem icmp_eq {v1 v2 : Value} {z1 z2 n : Int} {k1 k2 : Nat} {w : World} (h1 : IsInt v1 z1 k1) (h2 : IsInt v2 z2 k2) (e : cmpZ z1 z2 = n) : Calls Tryz.prog 84 #[v1, v2] w fun e w' => e = .returned (.int .i64 n) ∧ Below w.heap.size w w' := e ▸ icmp_any v1 v2 z1 z2 k1 k2 w h1 h2
theorem db_add {a b z : Int} {k1 k2 : Nat} (h1 : a.natAbs < 4294967296 ^ k1) (h2 : b.natAbs < 4294967296 ^ k2) (e : a + b = z) : z.natAbs < 4294967296 ^ (k1 + k2 + 1) := e ▸ bd_add h1 h2
theorem db_sub {a b z : Int} {k1 k2 : Nat} (h1 : a.natAbs < 4294967296 ^ k1) (h2 : b.natAbs < 4294967296 ^ k2) (e : a - b = z) : z.natAbs < 4294967296 ^ (k1 + k2 + 1) := e ▸ bd_sub h1 h2
theorem db_mul {a b z : Int} {k1 k2 : Nat} (h1 : a.natAbs < 4294967296 ^ k1) (h2 : b.natAbs < 4294967296 ^ k2) (e : a * b = z) : z.natAbs < 4294967296 ^ (k1 + k2) := e ▸ bd_mul h1 h2
theorem db_neg {a z : Int} {k1 : Nat} (h1 : a.natAbs < 4294967296 ^ k1) (e : -a = z) : z.natAbs < 4294967296 ^ k1 := e ▸ bd_neg h1
theorem cmpZ_self (z : Int) : cmpZ z z = 0 := by simp [cmpZ]

/-- Whether one of three integers is great. -/
def three (sa sb sc : ByteArray) : Nat → ByteArray := fun i => if i = 0 then sa else if i = 1 then sb else sc
def threeB (na nb nc : Bool) : Nat → Bool := fun i => if i = 0 then na else if i = 1 then nb else nc
end Go.Proofs.YtgcogpfmhmmgdaaGreatDoor

namespace Go.Proofs.YtgcogpfmhmmgdaaGreatDoor
open Go.RowKit
set_option linter.unusedSimpArgs false
set_option linter.unusedVariables false

theorem pb_nil : PB [] 1 := fun i => by rw [co_nil]; decide
theorem deg_nil : degZ [] = -1 := rfl
set_option maxRecDepth 100000 in
set_option maxHeartbeats 6400000 in
theorem comb_add (v1 v2 : Value) (L M C : List Int) (k kk : Nat) (w : World) (h1 : PolyAt w v1 L k) (h2 : PolyAt w v2 M k) (hL : L.length ≤ 100000) (hM : M.length ≤ 100000) (hk : k ≤ 1000000) (hC : trm C = C) (hco : ∀ i, co C i = co L i + co M i) (hb : PB C kk) (hkk : kk ≤ 10000000) :
    Calls Tryz.prog 36 #[v1, v2, .func (.func 37) #[] #[]] w (PolyOut w C) := by
  have H1 := Lib.hid h1
  have H2 := Lib.hid h2
  have HC := Lib.hid hC
  have HO := Lib.hid hco
  have HB := Lib.hid hb
  obtain ⟨n, hn⟩ : ∃ n, n = max (trm L).length (trm M).length := ⟨_, rfl⟩
  have tl := trm_len L
  have tm := trm_len M
  have hn1 : n ≤ 100000 := by omega
  have HZ := Lib.hid (show ∀ i, n ≤ i → co C i = 0 by
    intro i hi
    rw [hco i, trm_above L (by omega), trm_above M (by omega)]
    rfl)
  have HX := Lib.hid (show max (degZ L) (degZ M) = (n : Int) - 1 by unfold degZ; omega)
  obtain ⟨A1, c1, g1, s1, rfl, -, -⟩ := h1
  obtain ⟨A2, c2, g2, s2, rfl, -, -⟩ := h2
  clear hC hco hb hn tl tm
  go_enter Tryz.func36, Tryz.ntmps36
  go_wp2_with fail
  refine (deg_any _ L k _ H1.out (by omega)).mono ?_
  rintro e W1 ⟨rfl, b1⟩
  go_wp2_with fail
  refine (deg_any _ M k _ (H2.out.keep b1) (by omega)).mono ?_
  rintro e W2 ⟨rfl, b2⟩
  have b := below_more b1 (Nat.le_refl _) b2
  clear b1 b2
  go_wp2_with fail
  rw [HX.out]
  refine (blank_any _ n _ (by omega) (by omega) (by omega)).mono ?_
  rintro e W3 (⟨h0, rfl, rfl⟩ | ⟨h0, rfl, rfl⟩)
  · have HN := Lib.hid (show C = [] by
      rw [← HC.out, trm_nil_iff]
      intro i
      exact HZ.out i (by omega))
    clear h0 HZ HO HB HC HX
    go_wp2_with fail
    go_loopg [18] 0 (fun q s18 wx => s18 = .int .i64 0 ∧ wx = W3)
    case atStart => exact ⟨rfl, rfl⟩
    case round =>
      obtain ⟨rfl, hwx⟩ := hrel
      subst hwx
      go_wp2_with fail
      refine (deg_any _ [] 1 _ (PolyC.at (base := 0) (.inl ⟨rfl, rfl⟩) (by omega) pb_nil) (by simp)).mono ?_
      rintro e W4 ⟨rfl, b4⟩
      have b5 := below_more b (Nat.le_refl _) b4
      rw [deg_nil]
      go_wp2
      go_ret
      exact ⟨_, rfl, .inl ⟨rfl, HN.out⟩, b5⟩
  · have P := PRow.made W2 n
    have b3 := below_more b (Nat.le_refl _) (below1 W2 (.cells (madeCells #[.bool false, .string ⟨#[]⟩] (n * 2)) 27))
    have hbase : w.heap.size ≤ W2.heap.size := b.size
    generalize W2.alloc (.cells (madeCells #[.bool false, .string ⟨#[]⟩] (n * 2)) 27) = W3 at *
    generalize W2.heap.size = b0 at *
    obtain ⟨L', hL'⟩ : ∃ L' : List Int, L' = (List.range n).map (co C) := ⟨_, rfl⟩
    have HL := Lib.hid (show L'.length = n by rw [hL']; simp)
    have HE := Lib.hid (show ∀ i, co L' i = co C i by
      intro i
      rcases Nat.lt_or_ge i n with hi | hi
      · rw [hL']; unfold co; simp [hi]
      · rw [HZ.out i hi]; exact co_ge (by rw [HL.out]; exact hi))
    have HT := Lib.hid (show trm L' = C by rw [← HC.out]; exact trm_eq HE.out)
    have HPB := Lib.hid (show PB L' kk by intro i; rw [HE.out i]; exact HB.out i)
    clear hL' h0 HX b
    go_wp2_with fail
    go_loopg [18] n (fun q s18 wx => ∃ (j : Nat) (g : Nat → Bool) (s : Nat → ByteArray), j + q = n ∧ s18 = .int .i64 (j : Int) ∧ PRow wx b0 n g s ∧ Below w.heap.size w wx ∧ Hid (∀ i, (i < j → g i = sg (co C i) ∧ s i = mg (co C i)) ∧ (j ≤ i → g i = false ∧ s i = ⟨#[]⟩)))
    case atStart => exact ⟨0, _, _, by omega, rfl, P, b3, fun i => ⟨fun h => by omega, fun _ => ⟨rfl, rfl⟩⟩⟩
    case round =>
      clear P b3
      obtain ⟨j, g, s, hj, rfl, P, B, HG⟩ := hrel
      rcases gk with _ | q
      · obtain rfl : j = n := by omega
        have hjj : ¬ (j : Int) < (j : Int) := by omega
        have hin : PolyAt wr (.slice (some ⟨b0, 0, none⟩) j j) L' kk := by
          have h := PolyC.at (base := 0) (W := wr) (v := .slice (some ⟨b0, 0, none⟩) L'.length j) (L := L') (.inr ⟨b0, j, j, rfl, by rw [HL.out]; omega, by rw [HL.out]; omega, Nat.zero_le _, g, s, P, fun i hi => by rw [HE.out i]; exact (HG.out i).1 (by rw [HL.out] at hi; omega)⟩) hkk HPB.out
          rwa [HL.out] at h
        go_wp2_with fail
        refine (deg_any _ L' kk _ hin (by rw [HL.out]; omega)).mono ?_
        rintro e W4 ⟨rfl, b4⟩
        have P4 := P.keep b4
        have B4 := below_more B (Nat.le_refl _) b4
        have hCl : C.length ≤ j := by rw [← HT.out]; have := trm_len L'; rw [HL.out] at this; exact this
        clear hin P B b4
        rcases Nat.eq_zero_or_pos C.length with hz | hz
        · have HN := Lib.hid (List.eq_nil_of_length_eq_zero hz)
          have hd : degZ L' = -1 := by unfold degZ; rw [HT.out, hz]; rfl
          rw [hd]
          clear hz hd hCl
          go_wp2
          go_ret
          exact ⟨_, rfl, .inl ⟨rfl, HN.out⟩, B4⟩
        · obtain ⟨m, hm⟩ : ∃ m, m = C.length - 1 := ⟨_, rfl⟩
          have hd : degZ L' = (m : Int) := by unfold degZ; rw [HT.out]; omega
          have HM := Lib.hid (show m + 1 = C.length by omega)
          have i1 : ¬ (m : Int) < 0 := by omega
          have i2 : (m : Int) + 1 ≤ (j : Int) := by omega
          have i3 : (0 : Int) ≤ (m : Int) + 1 := by omega
          rw [hd]
          clear hz hd hm
          go_wp2
          go_ret
          exact ⟨_, rfl, .inr ⟨b0, j, j, by rw [← HM.out]; rfl, hCl, hCl, hbase, g, s, P4, fun i hi => (HG.out i).1 (by omega)⟩, B4⟩
      · have hjn : (j : Int) < (n : Int) := by omega
        have hj0 : (0 : Int) ≤ (j : Int) := by omega
        have HJ := Lib.hid hj
        obtain ⟨z, Hz⟩ : ∃ z : Int, Hid (co C j = z) := ⟨_, Lib.hid rfl⟩
        have Hz2 := Lib.hid (show co L j + co M j = z by rw [← Hz.out]; exact (HO.out j).symm)
        obtain ⟨p1, p2, p3, p4⟩ := P.cell (show j < n by omega)
        clear hj
        go_wp2_with fail
        refine (coef_any _ L k j _ (H1.out.keep B) (by omega) (by omega) (by omega)).mono ?_
        rintro e W4 ⟨g4, s4, rfl, I4, b4⟩
        have J4 := Lib.hid I4
        have B4 := below_more B (Nat.le_refl _) b4
        have P4 := P.keep b4
        clear I4 B P b4 p1 p2 p3 p4
        go_wp2_with fail
        refine (coef_any _ M k j _ (H2.out.keep B4) (by omega) (by omega) (by omega)).mono ?_
        rintro e W5 ⟨g5, s5, rfl, I5, b5⟩
        have J5 := Lib.hid I5
        have B5 := below_more B4 (Nat.le_refl _) b5
        have P5 := P4.keep b5
        clear I5 B4 P4 b5
        go_wp2_with fail
        refine (iadd_eq J4.out J5.out Hz2.out).mono ?_
        rintro e W6 ⟨rfl, b6⟩
        have B6 := below_more B5 (Nat.le_refl _) b6
        have P6 := P5.keep b6
        have PS := Lib.hid (P6.set j (sg z) (mg z))
        obtain ⟨p1, p2, p3, p4⟩ := P6.cell (show j < n by have := HJ.out; omega)
        have BS := Lib.hid ((B6.setCell (p := ⟨b0, j * 2, none⟩) hbase (.bool (sg z))).setCell (p := ⟨b0, j * 2 + 1, none⟩) hbase (.string (mg z)))
        have HG2 := Lib.hid (show ∀ i, (i < j + 1 → upd2 g j (sg z) i = sg (co C i) ∧ upd2 s j (mg z) i = mg (co C i)) ∧ (j + 1 ≤ i → upd2 g j (sg z) i = false ∧ upd2 s j (mg z) i = ⟨#[]⟩) by
          intro i
          unfold upd2
          by_cases e : i = j
          · subst e
            rw [if_pos rfl, if_pos rfl, Hz.out]
            exact ⟨fun _ => ⟨rfl, rfl⟩, fun h => by omega⟩
          · rw [if_neg e, if_neg e]
            exact ⟨fun h => (HG.out i).1 (by omega), fun h => (HG.out i).2 (by omega)⟩)
        clear B5 P5 B6 P6 b6 HG
        go_wp2_with fail
        go_roundg q
        case measure => omega
        case rel => exact ⟨j + 1, _, _, by have := HJ.out; omega, by go_num, PS.out, BS.out, HG2⟩
set_option maxRecDepth 100000 in
set_option maxHeartbeats 6400000 in
theorem comb_sub (v1 v2 : Value) (L M C : List Int) (k kk : Nat) (w : World) (h1 : PolyAt w v1 L k) (h2 : PolyAt w v2 M k) (hL : L.length ≤ 100000) (hM : M.length ≤ 100000) (hk : k ≤ 1000000) (hC : trm C = C) (hco : ∀ i, co C i = co L i - co M i) (hb : PB C kk) (hkk : kk ≤ 10000000) :
    Calls Tryz.prog 36 #[v1, v2, .func (.func 39) #[] #[]] w (PolyOut w C) := by
  have H1 := Lib.hid h1
  have H2 := Lib.hid h2
  have HC := Lib.hid hC
  have HO := Lib.hid hco
  have HB := Lib.hid hb
  obtain ⟨n, hn⟩ : ∃ n, n = max (trm L).length (trm M).length := ⟨_, rfl⟩
  have tl := trm_len L
  have tm := trm_len M
  have hn1 : n ≤ 100000 := by omega
  have HZ := Lib.hid (show ∀ i, n ≤ i → co C i = 0 by
    intro i hi
    rw [hco i, trm_above L (by omega), trm_above M (by omega)]
    rfl)
  have HX := Lib.hid (show max (degZ L) (degZ M) = (n : Int) - 1 by unfold degZ; omega)
  obtain ⟨A1, c1, g1, s1, rfl, -, -⟩ := h1
  obtain ⟨A2, c2, g2, s2, rfl, -, -⟩ := h2
  clear hC hco hb hn tl tm
  go_enter Tryz.func36, Tryz.ntmps36
  go_wp2_with fail
  refine (deg_any _ L k _ H1.out (by omega)).mono ?_
  rintro e W1 ⟨rfl, b1⟩
  go_wp2_with fail
  refine (deg_any _ M k _ (H2.out.keep b1) (by omega)).mono ?_
  rintro e W2 ⟨rfl, b2⟩
  have b := below_more b1 (Nat.le_refl _) b2
  clear b1 b2
  go_wp2_with fail
  rw [HX.out]
  refine (blank_any _ n _ (by omega) (by omega) (by omega)).mono ?_
  rintro e W3 (⟨h0, rfl, rfl⟩ | ⟨h0, rfl, rfl⟩)
  · have HN := Lib.hid (show C = [] by
      rw [← HC.out, trm_nil_iff]
      intro i
      exact HZ.out i (by omega))
    clear h0 HZ HO HB HC HX
    go_wp2_with fail
    go_loopg [18] 0 (fun q s18 wx => s18 = .int .i64 0 ∧ wx = W3)
    case atStart => exact ⟨rfl, rfl⟩
    case round =>
      obtain ⟨rfl, hwx⟩ := hrel
      subst hwx
      go_wp2_with fail
      refine (deg_any _ [] 1 _ (PolyC.at (base := 0) (.inl ⟨rfl, rfl⟩) (by omega) pb_nil) (by simp)).mono ?_
      rintro e W4 ⟨rfl, b4⟩
      have b5 := below_more b (Nat.le_refl _) b4
      rw [deg_nil]
      go_wp2
      go_ret
      exact ⟨_, rfl, .inl ⟨rfl, HN.out⟩, b5⟩
  · have P := PRow.made W2 n
    have b3 := below_more b (Nat.le_refl _) (below1 W2 (.cells (madeCells #[.bool false, .string ⟨#[]⟩] (n * 2)) 27))
    have hbase : w.heap.size ≤ W2.heap.size := b.size
    generalize W2.alloc (.cells (madeCells #[.bool false, .string ⟨#[]⟩] (n * 2)) 27) = W3 at *
    generalize W2.heap.size = b0 at *
    obtain ⟨L', hL'⟩ : ∃ L' : List Int, L' = (List.range n).map (co C) := ⟨_, rfl⟩
    have HL := Lib.hid (show L'.length = n by rw [hL']; simp)
    have HE := Lib.hid (show ∀ i, co L' i = co C i by
      intro i
      rcases Nat.lt_or_ge i n with hi | hi
      · rw [hL']; unfold co; simp [hi]
      · rw [HZ.out i hi]; exact co_ge (by rw [HL.out]; exact hi))
    have HT := Lib.hid (show trm L' = C by rw [← HC.out]; exact trm_eq HE.out)
    have HPB := Lib.hid (show PB L' kk by intro i; rw [HE.out i]; exact HB.out i)
    clear hL' h0 HX b
    go_wp2_with fail
    go_loopg [18] n (fun q s18 wx => ∃ (j : Nat) (g : Nat → Bool) (s : Nat → ByteArray), j + q = n ∧ s18 = .int .i64 (j : Int) ∧ PRow wx b0 n g s ∧ Below w.heap.size w wx ∧ Hid (∀ i, (i < j → g i = sg (co C i) ∧ s i = mg (co C i)) ∧ (j ≤ i → g i = false ∧ s i = ⟨#[]⟩)))
    case atStart => exact ⟨0, _, _, by omega, rfl, P, b3, fun i => ⟨fun h => by omega, fun _ => ⟨rfl, rfl⟩⟩⟩
    case round =>
      clear P b3
      obtain ⟨j, g, s, hj, rfl, P, B, HG⟩ := hrel
      rcases gk with _ | q
      · obtain rfl : j = n := by omega
        have hjj : ¬ (j : Int) < (j : Int) := by omega
        have hin : PolyAt wr (.slice (some ⟨b0, 0, none⟩) j j) L' kk := by
          have h := PolyC.at (base := 0) (W := wr) (v := .slice (some ⟨b0, 0, none⟩) L'.length j) (L := L') (.inr ⟨b0, j, j, rfl, by rw [HL.out]; omega, by rw [HL.out]; omega, Nat.zero_le _, g, s, P, fun i hi => by rw [HE.out i]; exact (HG.out i).1 (by rw [HL.out] at hi; omega)⟩) hkk HPB.out
          rwa [HL.out] at h
        go_wp2_with fail
        refine (deg_any _ L' kk _ hin (by rw [HL.out]; omega)).mono ?_
        rintro e W4 ⟨rfl, b4⟩
        have P4 := P.keep b4
        have B4 := below_more B (Nat.le_refl _) b4
        have hCl : C.length ≤ j := by rw [← HT.out]; have := trm_len L'; rw [HL.out] at this; exact this
        clear hin P B b4
        rcases Nat.eq_zero_or_pos C.length with hz | hz
        · have HN := Lib.hid (List.eq_nil_of_length_eq_zero hz)
          have hd : degZ L' = -1 := by unfold degZ; rw [HT.out, hz]; rfl
          rw [hd]
          clear hz hd hCl
          go_wp2
          go_ret
          exact ⟨_, rfl, .inl ⟨rfl, HN.out⟩, B4⟩
        · obtain ⟨m, hm⟩ : ∃ m, m = C.length - 1 := ⟨_, rfl⟩
          have hd : degZ L' = (m : Int) := by unfold degZ; rw [HT.out]; omega
          have HM := Lib.hid (show m + 1 = C.length by omega)
          have i1 : ¬ (m : Int) < 0 := by omega
          have i2 : (m : Int) + 1 ≤ (j : Int) := by omega
          have i3 : (0 : Int) ≤ (m : Int) + 1 := by omega
          rw [hd]
          clear hz hd hm
          go_wp2
          go_ret
          exact ⟨_, rfl, .inr ⟨b0, j, j, by rw [← HM.out]; rfl, hCl, hCl, hbase, g, s, P4, fun i hi => (HG.out i).1 (by omega)⟩, B4⟩
      · have hjn : (j : Int) < (n : Int) := by omega
        have hj0 : (0 : Int) ≤ (j : Int) := by omega
        have HJ := Lib.hid hj
        obtain ⟨z, Hz⟩ : ∃ z : Int, Hid (co C j = z) := ⟨_, Lib.hid rfl⟩
        have Hz2 := Lib.hid (show co L j - co M j = z by rw [← Hz.out]; exact (HO.out j).symm)
        obtain ⟨p1, p2, p3, p4⟩ := P.cell (show j < n by omega)
        clear hj
        go_wp2_with fail
        refine (coef_any _ L k j _ (H1.out.keep B) (by omega) (by omega) (by omega)).mono ?_
        rintro e W4 ⟨g4, s4, rfl, I4, b4⟩
        have J4 := Lib.hid I4
        have B4 := below_more B (Nat.le_refl _) b4
        have P4 := P.keep b4
        clear I4 B P b4 p1 p2 p3 p4
        go_wp2_with fail
        refine (coef_any _ M k j _ (H2.out.keep B4) (by omega) (by omega) (by omega)).mono ?_
        rintro e W5 ⟨g5, s5, rfl, I5, b5⟩
        have J5 := Lib.hid I5
        have B5 := below_more B4 (Nat.le_refl _) b5
        have P5 := P4.keep b5
        clear I5 B4 P4 b5
        go_wp2_with fail
        refine (isub_eq J4.out J5.out Hz2.out).mono ?_
        rintro e W6 ⟨rfl, b6⟩
        have B6 := below_more B5 (Nat.le_refl _) b6
        have P6 := P5.keep b6
        have PS := Lib.hid (P6.set j (sg z) (mg z))
        obtain ⟨p1, p2, p3, p4⟩ := P6.cell (show j < n by have := HJ.out; omega)
        have BS := Lib.hid ((B6.setCell (p := ⟨b0, j * 2, none⟩) hbase (.bool (sg z))).setCell (p := ⟨b0, j * 2 + 1, none⟩) hbase (.string (mg z)))
        have HG2 := Lib.hid (show ∀ i, (i < j + 1 → upd2 g j (sg z) i = sg (co C i) ∧ upd2 s j (mg z) i = mg (co C i)) ∧ (j + 1 ≤ i → upd2 g j (sg z) i = false ∧ upd2 s j (mg z) i = ⟨#[]⟩) by
          intro i
          unfold upd2
          by_cases e : i = j
          · subst e
            rw [if_pos rfl, if_pos rfl, Hz.out]
            exact ⟨fun _ => ⟨rfl, rfl⟩, fun h => by omega⟩
          · rw [if_neg e, if_neg e]
            exact ⟨fun h => (HG.out i).1 (by omega), fun h => (HG.out i).2 (by omega)⟩)
        clear B5 P5 B6 P6 b6 HG
        go_wp2_with fail
        go_roundg q
        case measure => omega
        case rel => exact ⟨j + 1, _, _, by have := HJ.out; omega, by go_num, PS.out, BS.out, HG2⟩
theorem padd_any (v1 v2 : Value) (L M C : List Int) (k kk : Nat) (w : World) (h1 : PolyAt w v1 L k) (h2 : PolyAt w v2 M k) (hL : L.length ≤ 100000) (hM : M.length ≤ 100000) (hk : k ≤ 1000000) (hC : trm C = C) (hco : ∀ i, co C i = co L i + co M i) (hb : PB C kk) (hkk : kk ≤ 10000000) :
    Calls Tryz.prog 12 #[v1, v2] w (PolyOut w C) := by
  have H := Lib.hid (comb_add v1 v2 L M C k kk w h1 h2 hL hM hk hC hco hb hkk)
  obtain ⟨A1, c1, g1, s1, rfl, -, -⟩ := h1
  obtain ⟨A2, c2, g2, s2, rfl, -, -⟩ := h2
  clear hC hco hb
  go_enter Tryz.func12, Tryz.ntmps12
  go_wp2_with fail
  refine H.out.mono ?_
  rintro e W1 ⟨v, rfl, hP, b1⟩
  have HP := Lib.hid hP
  clear hP
  go_wp2
  go_ret
  exact ⟨v, rfl, HP.out, b1⟩
theorem psub_any (v1 v2 : Value) (L M C : List Int) (k kk : Nat) (w : World) (h1 : PolyAt w v1 L k) (h2 : PolyAt w v2 M k) (hL : L.length ≤ 100000) (hM : M.length ≤ 100000) (hk : k ≤ 1000000) (hC : trm C = C) (hco : ∀ i, co C i = co L i - co M i) (hb : PB C kk) (hkk : kk ≤ 10000000) :
    Calls Tryz.prog 14 #[v1, v2] w (PolyOut w C) := by
  have H := Lib.hid (comb_sub v1 v2 L M C k kk w h1 h2 hL hM hk hC hco hb hkk)
  obtain ⟨A1, c1, g1, s1, rfl, -, -⟩ := h1
  obtain ⟨A2, c2, g2, s2, rfl, -, -⟩ := h2
  clear hC hco hb
  go_enter Tryz.func14, Tryz.ntmps14
  go_wp2_with fail
  refine H.out.mono ?_
  rintro e W1 ⟨v, rfl, hP, b1⟩
  have HP := Lib.hid hP
  clear hP
  go_wp2
  go_ret
  exact ⟨v, rfl, HP.out, b1⟩
theorem pcan_any (v1 : Value) (L C : List Int) (k : Nat) (w : World) (h1 : PolyAt w v1 L k) (hL : L.length ≤ 100000) (hk : k ≤ 1000000) (hC : trm L = C) (hk1 : 1 ≤ k) :
    Calls Tryz.prog 8 #[v1] w (PolyOut w C) := by
  have hb : PB C k := fun i => by rw [← hC, co_trm]; exact h1.pb i
  have H := Lib.hid (padd_any v1 (.slice none 0 0) L [] C k k w h1 (PolyC.at (base := 0) (.inl ⟨rfl, rfl⟩) (by omega) (fun i => by rw [co_nil]; exact Nat.pow_pos (by omega))) hL (by simp) hk (by rw [← hC]; exact trm_trm L) (fun i => by rw [← hC, co_trm, co_nil]; omega) hb (by omega))
  obtain ⟨A1, c1, g1, s1, rfl, -, -⟩ := h1
  clear hC hb
  go_enter Tryz.func8, Tryz.ntmps8
  go_wp2_with fail
  refine H.out.mono ?_
  rintro e W1 ⟨v, rfl, hP, b1⟩
  have HP := Lib.hid hP
  clear hP
  go_wp2
  go_ret
  exact ⟨v, rfl, HP.out, b1⟩
end Go.Proofs.YtgcogpfmhmmgdaaGreatDoor

namespace Go.Proofs.YtgcogpfmhmmgdaaGreatDoor
open Go.RowKit Go.Shelf

/-- The record of a loop over a function. -/
def lrec (fn : FuncId) (tmps : Array Value) (ps : Array Tmp) (assign body : Code) (D : Nat) (st : LoopState) : Loop := { state := st, pending := none, fn, tmps, params := ps, assign, body, defers := D }

/-- One round that goes on to its end. -/
theorem round_on {F : Fence} {m : Nat} {P : Program} {l : Nat} {fn : FuncId} {tmps : Array Value} {ps : Array Tmp} {assign body : Code} {D : Nat} {W : World} {args : Array Value} {R : World → Prop} {REC : Loop}
    (hREC : REC = lrec fn tmps ps assign body D .ready) (hfn : F.fn fn) (hl : W.heap[l]? = some (.loop REC)) (hs : args.size = ps.size)
    (h : ∀ RB, assign.wpIn (F.inRound l) m P (Exit.then (fun a₁ w₁ => w₁.heap[l]? = some (.loop REC) ∧
          body.wpIn (F.inRound l) m P (fun e _ W' => e = .normal ∧ W'.heap[l]? = some (.loop RB) ∧ R (W'.putObj l (.loop REC))) a₁ (w₁.putObj l (.loop RB))) (fun _ _ _ => False))
        { tmps := (ps.zip args).foldl (fun t (p, v) => t.setIfInBounds p v) tmps, defers := [] } W) :
    YieldAt F m P l args W fun e W' => e = .returned (.bool true) ∧ R W' := by
  subst hREC
  refine ⟨fn, _, assign, body, run_yield hl hs, roundIn_of_wpIn hfn (wpIn_mono (h (lrec fn tmps ps assign body D .busy)) ?_)⟩
  intro e a₁ w₁ h1
  cases e with
  | normal =>
    obtain ⟨hl1, hb⟩ := h1
    refine ⟨_, run_beginRound hl1 rfl, wpIn_mono hb ?_⟩
    rintro e a₂ W' ⟨rfl, hl2, hR⟩
    exact ⟨_, _, run_endRound none hl2, rfl, hR⟩
  | exit id => exact h1.elim
  | goto t => exact h1.elim
  | ret => exact h1.elim
  | panic ch => exact h1.elim
  | outgrown => exact h1.elim

/-- The statement. -/
theorem rangeFunc_on {F : Fence} {n : Nat} {P : Program} {g : Operand} {ps : Array Tmp} {assign body : Code} {Q : Exit → Act → World → Prop} {a : Act} {w : World} {R : FuncId → World → Prop}
    (hro : F.round = none) (h1 : 1 ≤ n) {gf : Nat} {lb : Array Value} (hg : a.eval g = .func (.func gf) #[] lb) (hFg : F.fn gf) (eg : ∀ args w, (callFunc gf args).run P w = .ok (.enter gf args) w)
    (hcall : ∀ fn, F.fn fn → ∀ REC, REC = lrec fn a.tmps ps assign body w.heap.size .ready → CallsIn F (n - 1) P gf (#[.func (.yield (w.heap.size + 1)) #[] #[]] ++ lb) ((w.alloc (.deferred (some []))).alloc (.loop REC)) fun e W' =>
      (∃ v, e = .returned v) ∧ W'.heap[w.heap.size + 1]? = some (.loop REC) ∧ R fn W')
    (hdone : ∀ fn W o r, R fn W → W.heap[w.heap.size + 1]? = some (.loop r) → Q .normal { a with defers := { target := .collected w.heap.size, args := #[] } :: a.defers } (W.putObj (w.heap.size + 1) o)) :
    (Code.rangeFunc g ps assign body).wpIn F n P Q a w := by
  refine wpIn_rangeFunc fun fn hfn => ?_
  rw [hro]
  have hc := hcall fn hfn _ rfl
  have he := run_enterLoop_outer (P := P) (w := w) fn a.tmps ps assign body
  have hd := hdone fn
  generalize hW : (w.alloc (.deferred (some []))).alloc (.loop (lrec fn a.tmps ps assign body w.heap.size .ready)) = W1 at hc
  have he' : (Instr.enterLoop fn a.tmps ps assign body none).run P w = .ok (w.heap.size + 1, [{ target := .collected w.heap.size, args := #[] }]) W1 := by rw [← hW]; exact he
  clear he hW
  refine ⟨w.heap.size + 1, [{ target := .collected w.heap.size, args := #[] }], W1, { target := .fn (.func gf) lb, args := #[.func (.yield (w.heap.size + 1)) #[] #[]] }, W1, gf,
    #[.func (.yield (w.heap.size + 1)) #[] #[]] ++ lb, W1, he', ?_, ?_, ?_, fun _ => h1, ?_⟩
  · simp only [resolve, hg]
    simp [go_sem]
  · intro f' hf'; simp [Target.leads] at hf'; subst hf'; exact hFg
  · simp [invoke, go_sem, eg]
  · refine hc.mono ?_
    rintro e W' ⟨⟨v, rfl⟩, hl, hR⟩
    have hend := run_endLoop (P := P) hl (by simp [lrec])
    exact ⟨none, _, hend, hd W' _ _ hR hl⟩
end Go.Proofs.YtgcogpfmhmmgdaaGreatDoor
