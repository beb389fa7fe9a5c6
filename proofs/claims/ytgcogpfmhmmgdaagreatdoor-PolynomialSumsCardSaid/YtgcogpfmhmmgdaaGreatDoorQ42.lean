/- What the reference implementation's Derivative of a polynomial returns. Condition: at most 1000 coefficients of at most 1000 bytes, products too. The text that Print writes tells the polynomial. Condition: at most 10^6 coefficients. What the reference implementation's term and Print of polynomials return. Condition: at most 80 coefficients of at most 1000 bytes, below 2^3200 where they are less than 0. -/
import Derived.Test.YtgcogpfmhmmgdaaGreatDoorQ41
import Derived.Deep.RegionHeld3
import Derived.Deep.AppendLies
import Derived.Deep.RegionLaw
import Derived.Test.YtgcogpfmhmmgdaaGreatDoorQ31
import Derived.Test.YtgcogpfmhmmgdaaGreatDoorQ30
import Derived.Test.YtgcogpfmhmmgdaaGreatDoorQ40
import Derived.Laws.Concat

namespace Go.Proofs.YtgcogpfmhmmgdaaGreatDoor
open Go.RowKit Go.Shelf
set_option linter.unusedSimpArgs false
set_option linter.unusedVariables false

/-- The derivative, zeros at the end too. -/
def derX (L : List Int) : List Int := (List.range (L.length - 1)).map fun i => co L (i + 1) * ((i : Int) + 1)
theorem derX_len (L : List Int) : (derX L).length = L.length - 1 := by unfold derX; rw [List.length_map, List.length_range]
theorem co_derX (L : List Int) (i : Nat) : co (derX L) i = co L (i + 1) * ((i : Int) + 1) := by
  rcases Nat.lt_or_ge i (L.length - 1) with h | h
  · unfold derX
    show (List.map _ _).getD i 0 = _
    rw [List.getD_eq_getElem?_getD, List.getElem?_map, List.getElem?_range h]; rfl
  · rw [co_ge (by rw [derX_len]; exact h), co_ge (by omega), Int.zero_mul]
theorem derX_snoc (L : List Int) (i : Nat) (h : i < (derX L).length) : (derX L).take (i + 1) = (derX L).take i ++ [co L (i + 1) * ((i : Int) + 1)] := by
  rw [List.take_add_one, co_get h, co_derX]; rfl
theorem trm_derX (L : List Int) : (trm (derX L)).length = (trm L).length - 1 := by
  refine trm_len_of (fun i hi => ?_) ?_
  · rw [co_derX, trm_above L (by omega), Int.zero_mul]
  · rcases Nat.eq_zero_or_pos ((trm L).length - 1) with h | h
    · exact .inl h
    · refine .inr ?_
      obtain ⟨n, hn⟩ : ∃ n, (trm L).length = n + 2 := ⟨(trm L).length - 2, by omega⟩
      have h1 := trm_last L (n := n + 1) (by omega)
      rw [show (trm L).length - 1 - 1 = n by omega, co_derX]
      exact Int.mul_ne_zero h1 (by omega)
theorem mg_little {k : Nat} (h : k ≤ 100000) : (mg (k : Int)).size ≤ 1000 :=
  Nat.le_trans (mg_size (z := (k : Int)) (k := 2) (by rw [Int.natAbs_natCast]; exact Nat.lt_of_le_of_lt h (by decide))) (by decide)
set_option maxRecDepth 100000 in
set_option maxHeartbeats 12800000 in
theorem refDer_any (v1 : Value) (L : List Int) (w : World) (h1 : PolyR w v1 L) (hL : L.length ≤ 1000) (hb : PB (derX L) 200) :
    Calls Tryz.prog 17 #[v1] w (ListOut w (trm (derX L))) := by
  obtain ⟨i0, hi, hz0, hz1, hz2⟩ := info_parts infoI
  obtain ⟨A1, c1, g, s, rfl, hcell⟩ := h1
  have H := Lib.hid hcell
  obtain ⟨X, hX⟩ : ∃ X, derX L = X := ⟨_, rfl⟩
  obtain ⟨n, hn⟩ : ∃ n, L.length - 1 = n := ⟨_, rfl⟩
  have hxl : X.length = n := by rw [← hX, derX_len, hn]
  have HSN := Lib.hid (fun i (h : i < n) => show X.take (i + 1) = X.take i ++ [co L (i + 1) * ((i : Int) + 1)] by
    rw [← hX]; exact derX_snoc L i (by rw [hX, hxl]; exact h))
  rw [hX] at hb ⊢
  have HXB := Lib.hid hb
  have hn1 : n ≤ 1000 := by omega
  have HXL := Lib.hid hxl
  clear hX hxl hcell hb
  go_enter Tryz.func17, Tryz.ntmps17
  go_wp2_with fail
  go_loopg [3, 4] n (fun q s3 s4 wx => ∃ i k : Nat, k = i + 1 ∧ i + q = n ∧ s4 = .int .i64 (k : Int) ∧ (∃ a c, s3 = .slice a i c) ∧ wx.ownsRow w.heap.size 27 2 s3 i (pcl (X.take i)) ∧ Below w.heap.size w wx)
  case atStart => exact ⟨0, 1, rfl, by omega, rfl, ⟨_, 0, rfl⟩, own_empty w, below1 w _⟩
  case round =>
    obtain ⟨i, k, hki, hin, rfl, ⟨a, c3, rfl⟩, hown, hbw⟩ := hrel
    rcases gk with _ | q
    · obtain rfl : i = n := by omega
      have hP := Lib.hid (show PolyS wr (.slice a i c3) X from own_polyS (B := w.heap.size) (by rw [HXL.out]; rw [← HXL.out, List.take_length] at hown; rw [HXL.out] at hown; exact hown))
      have hkl : ¬ ((k : Int) < (L.length : Int)) := by omega
      clear hown
      go_wp2_with fail
      refine (refCan_any _ X _ (hP.out.r HXB.out) (by rw [HXL.out]; exact hn1)).mono ?_
      rintro e W2 ⟨v, rfl, pv, b2⟩
      go_wp2
      go_ret
      exact ⟨_, rfl, pv, below_more hbw (Nat.le_refl _) b2⟩
    · obtain ⟨aa, rfl, c0, c1', hsz, hI⟩ := H.out k (by omega)
      have hkl : (k : Int) < (L.length : Int) := by omega
      have hsn := Lib.hid (HSN.out i (by omega))
      obtain ⟨z, hz⟩ : ∃ z, co L (i + 1) * ((i : Int) + 1) = z := ⟨_, rfl⟩
      rw [hz] at hsn
      have hzk : co L k * (k : Int) = z := by rw [← hz, hki]; rfl
      obtain ⟨b0, m0, hm0, hv0, HO⟩ : ∃ b0 m0, m0.size ≤ 1000 ∧ zv b0 m0 = (k : Int) ∧ Hid (∀ W, Calls Tryz.prog 45 #[.int .i64 (k : Int)] W fun e w' => e = .returned (.agg #[.bool b0, .string m0]) ∧ Below W.heap.size W w') :=
        ⟨sg (k : Int), mg (k : Int), mg_little (by omega), zv_mg _, Lib.hid (fun W => rof01_any (k : Int) W (by omega) (by omega))⟩
      have HM := Lib.hid (fun W => rmulV (g k) b0 (s k) m0 (co L k) (k : Int) W (Nat.le_trans hsz (by decide)) (Nat.le_trans hm0 (by decide)) hI hv0)
      rw [hzk] at HM
      have HC0 := Lib.hid (fun W (b : Below w.heap.size w W) => cell_keep c0 b)
      have HC1 := Lib.hid (fun W (b : Below w.heap.size w W) => cell_keep c1' b)
      have hownD := (show wr.drew.ownsRow w.heap.size 27 2 (.slice a i c3) i (pcl (X.take i)) from hown)
      have hbD := hbw.drew
      have x0 := HC0.out _ hbD
      have x1 := HC1.out _ hbD
      have HK := Lib.hid (And.intro hki hin)
      have hi5 : i ≤ 1000 := by omega
      clear hz hzk c0 c1' hsz hI hm0 hv0 hown hbw hki hin
      go_wp2_with fail
      go_region_law (first
        | (refine step_append_lies _ rfl (.tmp 12) (.tmp 20) 22 rfl w.heap.size 27 i0 (.agg #[.bool false, .string ⟨#[]⟩]) 2 24 Tryz.underlying22 hi hz0 hz1 hz2 rfl (by decide) (.slice a i c3) i (pcl (X.take i)) (by simp [Act.eval, Act.put]) (hownD.alloc _) ⟨W2.heap.size, 0, none⟩ 1 1 [.bool (sg z), .string (mg z)] (by simp [Act.eval, Act.put]) rfl (cell_two_new _ _ _ _) (by intro u hu; simp at hu; rcases hu with rfl | rfl <;> rfl) (by decide) (by unfold maxLen; omega) (by omega) (Nat.le_trans hbD.size (below1 W2 _).size) _ rfl ?_; intro g9 c9 W4 r1 r2 r3 r4)
        | (go_simp; go_at_call 45; (with_reducible refine (HO.out _).mono ?_); rintro e W1 ⟨rfl, bb⟩; (have hownD := hownD.kept (grown_noneQ bb) (by cases (Value.slice a i c3).ownBlock <;> simp)); (have hbD := below_more hbD (Nat.le_refl _) bb); (have x0 := HC0.out _ hbD); (have x1 := HC1.out _ hbD))
        | (go_simp; go_at_call 44; (with_reducible refine (HM.out _).mono ?_); rintro e W2 ⟨rfl, bb⟩; (have hownD := hownD.kept (grown_noneQ bb) (by cases (Value.slice a i c3).ownBlock <;> simp)); (have hbD := below_more hbD (Nat.le_refl _) bb)))
      all_goals
        have hlt := hownD.lt
        have hb5 : Below w.heap.size w W4 := (hbD.alloc hbD.size _).grown r2 (Nat.le_trans hbD.size (below1 W2 _).size) (fun k hk => (hlt k hk).1)
        have r5 := r1
        rw [← pcl_snoc, ← hsn.out] at r5
        clear r1 r2 r3 r4 hownD hbD hlt
        go_wp2
        go_roundg q
        case measure => omega
        case rel => exact ⟨i + 1, k + 1, by have := HK.out.1; omega, by have := HK.out.2; omega, by go_num, ⟨_, c9, rfl⟩, r5, hb5⟩
end Go.Proofs.YtgcogpfmhmmgdaaGreatDoor

namespace Go.Proofs.YtgcogpfmhmmgdaaGreatDoor
open Go.RowKit

def DZ (n : Nat) : List UInt8 := prZ (n : Int)
theorem digs_DZ : Digs DZ where
  inj := fun m n h => by
    have h1 := pz_print (m : Int)
    have h2 := pz_print (n : Int)
    unfold DZ at h
    rw [h, h2] at h1
    have := Option.some.inj h1
    omega
  dig := fun n b hb => by
    unfold DZ at hb
    rcases Nat.eq_zero_or_pos n with rfl | h
    · have e : prZ ((0 : Nat) : Int) = [48] := rfl
      rw [e] at hb
      have := List.mem_singleton.1 hb
      subst this
      decide
    · rw [prZ_pos h] at hb
      have := List.all_eq_true.1 (pr_facts n).2.1 b hb
      unfold digB at this
      rw [Bool.and_eq_true] at this
      have h1 := of_decide_eq_true this.1
      have h2 := of_decide_eq_true this.2
      exact ⟨UInt8.le_iff_toNat_le.2 (by simpa using h1), UInt8.le_iff_toNat_le.2 (by simpa using h2)⟩
  ne := fun n => by
    unfold DZ
    rcases Nat.eq_zero_or_pos n with rfl | h
    · decide
    · rw [prZ_pos h]
      obtain ⟨b, t, e, -⟩ := (pr_facts n).2.2 h
      rw [e]
      simp
  one := by kernel_rfl
  zero := rfl
theorem dec_DZ {e : Nat} (h0 : 0 < e) (h : e < 1000000000) : Lib.decDigits e = DZ e := by
  unfold DZ
  rw [prZ_pos h0, gs_pos (by omega), Nat.mod_eq_of_lt h, Nat.div_eq_of_lt h, gs_zero]
  show _ = prS [] ++ (if ([] : List Nat) = [] then Lib.decDigits e else pad9 e)
  rw [if_pos rfl]
  rfl
theorem tmW_tmT (c e : Nat) (h : e < 1000000000) : tmW c e = tmT DZ c e := by
  have hd : 1 < e → Lib.decDigits e = DZ e := fun h1 => dec_DZ (by omega) h
  have hz : prZ (c : Int) = DZ c := rfl
  unfold tmW tmT
  rw [hz]
  rcases (show e = 0 ∨ e = 1 ∨ 1 < e by omega) with rfl | rfl | h1
  · rfl
  · by_cases hc : DZ c = [49] <;> simp [hc]
  · have h0 : e ≠ 0 := by omega
    have h2 : e ≠ 1 := by omega
    rw [hd h1]
    by_cases hc : DZ c = [49] <;> simp [hc, h0, h1, h2]
/-- A term as the plain text has it. -/
def tmF {L : List Int} (x : Tm L) : Bool × Nat × Nat := (decide (co L x.1 < 0), (co L x.1).natAbs, x.1)
theorem tms_tmx (L : List Int) : ∀ n, tms L n = (tmx L n).map tmF := fun n => by
  induction n with
  | zero => rfl
  | succ n ih =>
    unfold tms tmx
    by_cases h : co L n = 0
    · rw [if_pos h, dif_pos h, ih]
    · rw [if_neg h, dif_neg h, ih]; rfl
theorem fold_txt {L : List Int} : ∀ (l : List (Tm L)) (a : List UInt8), (∀ x ∈ l, x.1 < 1000000000) →
    l.foldl (fun a x => a ++ sgn1 (decide (a.length = 0)) (decide (co L x.1 < 0)) ++ tmW (co L x.1).natAbs x.1) a = a ++ txt DZ (decide (a.length = 0)) (l.map tmF) := fun l => by
  induction l with
  | nil => intro a _; show a = a ++ []; rw [List.append_nil]
  | cons x l ih =>
    intro a h
    have hx := tmW_tmT (co L x.1).natAbs x.1 (h x List.mem_cons_self)
    have hne : tmT DZ (co L x.1).natAbs x.1 ≠ [] := tmT_ne digs_DZ _ _
    have hl : 0 < (tmT DZ (co L x.1).natAbs x.1).length := List.length_pos_iff.2 hne
    rw [List.foldl_cons, ih _ (fun y hy => h y (List.mem_cons_of_mem _ hy)), hx]
    have hd : decide ((a ++ sgn1 (decide (a.length = 0)) (decide (co L x.1 < 0)) ++ tmT DZ (co L x.1).natAbs x.1).length = 0) = false := decide_eq_false (by rw [List.length_append]; omega)
    rw [hd, List.map_cons]
    show _ = a ++ (sgn1 (decide (a.length = 0)) (decide (co L x.1 < 0)) ++ tmT DZ (co L x.1).natAbs x.1 ++ txt DZ false (l.map tmF))
    rw [List.append_assoc, List.append_assoc, List.append_assoc]
theorem prL_prP {L : List Int} (h : L.length ≤ 1000000) : prL L = prP DZ L := by
  have e : prW (tmx L L.length) = txt DZ true (tms L L.length) := by
    rw [tms_tmx]
    unfold prW
    rw [fold_txt _ _ (fun x _ => by have := x.2; rcases Nat.lt_or_ge x.1 L.length with h1 | h1; omega; exact absurd (co_ge h1) this)]
    rfl
  unfold prL prP
  rw [e]
  by_cases h0 : txt DZ true (tms L L.length) = []
  · rw [if_pos (by rw [h0]; rfl), if_pos h0]
  · rw [if_neg (fun h1 => h0 (List.eq_nil_of_length_eq_zero h1)), if_neg h0]
theorem tms_congr {L M : List Int} (h : ∀ i, co L i = co M i) : ∀ n, tms L n = tms M n := fun n => by
  induction n with
  | zero => rfl
  | succ n ih => unfold tms; rw [h n, ih]
theorem prL_trm {L : List Int} (h : L.length ≤ 1000000) : prL (trm L) = prL L := by
  have ht := trm_len L
  rw [prL_prP h, prL_prP (by omega)]
  have e : tms (trm L) (trm L).length = tms L L.length := by
    rw [tms_congr (M := L) (fun i => co_trm L i)]
    exact tms_trm L (Nat.le_refl _) ht
  unfold prP
  rw [e]
theorem prL_iff {L M : List Int} (h : L.length ≤ 1000000) (h' : M.length ≤ 1000000) : prL L = prL M ↔ trm L = trm M := by
  constructor
  · rw [prL_prP h, prL_prP h']
    exact prP_inj digs_DZ
  · intro e
    rw [← prL_trm h, ← prL_trm h', e]
end Go.Proofs.YtgcogpfmhmmgdaaGreatDoor

namespace Go.Proofs.YtgcogpfmhmmgdaaGreatDoor
open Go.RowKit Go.Shelf
set_option linter.unusedSimpArgs false
set_option linter.unusedVariables false

theorem boxS_new (W : World) (t : TypeId) (g : Bool) (s : ByteArray) : Box2 (W.alloc (.cells #[.bool g, .string s] t)) W.heap.size g s := by
  refine ⟨?_, ?_, ?_, ?_⟩ <;> simp [go_sem]
/-- What stands behind a coefficient. -/
def xW (n : Nat) : List UInt8 := if n ≤ 1 then [120] else [120, 94] ++ prZ (n : Int)
theorem tmW_pos (c n : Nat) (h0 : n ≠ 0) (h : n < 1000000000) : tmW c n = if prZ (c : Int) = [49] then xW n else prZ (c : Int) ++ [42] ++ xW n := by
  unfold tmW xW
  rw [if_neg h0]
  rcases (show n = 1 ∨ 1 < n by omega) with rfl | h1
  · rw [if_pos rfl, if_pos (Nat.le_refl _)]
    split
    · rfl
    · simp
  · rw [if_neg (show ¬ n = 1 by omega), if_neg (show ¬ n ≤ 1 by omega), show Lib.decDigits n = prZ (n : Int) from dec_DZ (by omega) h]
    split
    · rfl
    · simp
set_option maxRecDepth 100000 in
set_option maxHeartbeats 6400000 in
theorem refTerm_any (g : Bool) (s : ByteArray) (z : Int) (n : Nat) (w : World) (hs : s.size ≤ 1000) (hz : zv g s = z) (hb : z.natAbs < 4294967296 ^ 100) (hn : n ≤ 100000) (hl : (prZ (z.natAbs : Int)).length ≤ 100000) (hln : (prZ (n : Int)).length ≤ 100000) :
    Calls Tryz.prog 55 #[.agg #[.bool g, .string s], .int .i64 (n : Int)] w fun e w' => e = .returned (.string ⟨(tmW z.natAbs n).toArray⟩) ∧ Below w.heap.size w w' := by
  have HC := Lib.hid (fun W => rcmpV g false s ⟨#[]⟩ z 0 W (by omega) (by decide) hz zv_zero)
  have HNg := Lib.hid (fun W => rnegV g s z W (by omega) hz)
  have X0 := boxS_new w 27 g s
  have B0 := below1 w (.cells #[.bool g, .string s] 27)
  obtain ⟨c, hc⟩ : ∃ c, cmpZ z 0 = c := ⟨_, rfl⟩
  have HCD := Lib.hid (show decide (c < 0) = decide (z < 0) by rw [← hc]; exact cmpZ_negB z)
  simp only [hc] at HC
  obtain ⟨m, hm⟩ : ∃ m : Nat, z.natAbs = m := ⟨_, rfl⟩
  have HB := Lib.hid (show (mg (-z)).size ≤ 1000000 by
    rw [mg_neg]
    exact Nat.le_trans (mg_size hb) (by decide))
  rw [hm] at hl ⊢
  have HS := Lib.hid hs
  have HZ := Lib.hid hz
  have HM := Lib.hid hm
  clear hc hb hs hz hm
  go_enter Tryz.func55, Tryz.ntmps55
  obtain ⟨x1, x2, x3, x4⟩ := id X0
  go_wp2_with fail
  refine (HC.out _).mono ?_
  rintro e W1 ⟨rfl, b1⟩
  have X1 := X0.keep b1
  have B1 := below_more B0 (Nat.le_refl _) b1
  clear x1 x2 x3 x4 X0 B0 b1
  go_upto_if 10 with fail
  go_cut [11, 12] (fun _ _ wx => ∃ g' s', Box2 wx w.heap.size g' s' ∧ s'.size ≤ 1000000 ∧ zv g' s' = (m : Int) ∧ Below w.heap.size w wx)
  case first =>
    obtain ⟨x1, x2, x3, x4⟩ := id X1
    by_cases hneg : z < 0
    · have d1 : decide (c < 0) = true := HCD.out.trans (decide_eq_true hneg)
      have hcn : c < 0 := of_decide_eq_true d1
      have HMz := Lib.hid (show -z = (m : Int) by have := HM.out; omega)
      clear hneg
      go_wp2_with fail
      refine (HNg.out _).mono ?_
      rintro e W2 ⟨rfl, b2⟩
      have X2 := X1.keep b2
      obtain ⟨x1, x2, x3, x4⟩ := id X2
      have B2 := below_more B1 (Nat.le_refl _) b2
      go_wp2_with fail
      go_meet
      exact ⟨_, _, X2.set, HB.out, by rw [zv_mg]; exact HMz.out, (B2.setCell (Nat.le_refl _) _).setCell (Nat.le_refl _) _⟩
    · have d1 : decide (c < 0) = false := HCD.out.trans (decide_eq_false hneg)
      have hcn : ¬ c < 0 := of_decide_eq_false d1
      have HMz := Lib.hid (show z = (m : Int) by have := HM.out; omega)
      clear hneg
      go_wp2_with fail
      go_meet
      exact ⟨_, _, X1, Nat.le_trans HS.out (by decide), by rw [HZ.out]; exact HMz.out, B1⟩
  case rest =>
    obtain ⟨g', s', X2, hs', hv', B2⟩ := hcut
    clear X1 B1
    obtain ⟨x1, x2, x3, x4⟩ := id X2
    have HP := Lib.hid (fun W => rprintV g' s' (m : Int) W hs' hv')
    have HOf := Lib.hid (fun W => rof01_any (n : Int) W (by omega) (by omega))
    have HPn := Lib.hid (fun W => rprintV (sg (n : Int)) (mg (n : Int)) (n : Int) W (Nat.le_trans (mg_little hn) (by decide)) (zv_mg _))
    obtain ⟨bn, hbn⟩ : ∃ b, sg (n : Int) = b := ⟨_, rfl⟩
    obtain ⟨mn, hmn⟩ : ∃ b, mg (n : Int) = b := ⟨_, rfl⟩
    rw [hbn, hmn] at HPn
    have HOf := Lib.hid (show ∀ W, Calls Tryz.prog 45 #[.int .i64 (n : Int)] W fun e w' => e = .returned (.agg #[.bool bn, .string mn]) ∧ Below W.heap.size W w' by
      intro W
      have := HOf.out W
      unfold IntOut at this
      rwa [hbn, hmn] at this)
    clear hbn hmn hs' hv' X2
    have HT := Lib.hid (fun (h0 : n ≠ 0) => tmW_pos m n h0 (by omega))
    have HT0 := Lib.hid (show n = 0 → tmW m n = prZ (m : Int) from fun h => by unfold tmW; rw [if_pos h])
    obtain ⟨P, hP⟩ : ∃ P, prZ (m : Int) = P := ⟨_, rfl⟩
    rw [hP] at HP HT HT0 hl
    obtain ⟨D, hD⟩ : ∃ D, prZ (n : Int) = D := ⟨_, rfl⟩
    rw [hD] at HPn hln
    have HX2 := Lib.hid (show ¬ n ≤ 1 → xW n = [120, 94] ++ D from fun h => by unfold xW; rw [if_neg h, hD])
    have HX1 := Lib.hid (show n ≤ 1 → xW n = [120] from fun h => by unfold xW; rw [if_pos h])
    obtain ⟨Q, hQ⟩ : ∃ Q, P ++ [42] = Q := ⟨_, rfl⟩
    have hq : Q.length ≤ 200000 := by rw [← hQ]; simp; omega
    have s1 : ∀ w, (Op.stringOp .add ⟨P.toArray⟩ ⟨#[42]⟩).run Tryz.prog w = .ok (.string ⟨Q.toArray⟩) w := fun w => by
      rw [← hQ]; exact run_string_add_lists w P [42] (by omega) (by simp)
    rw [hQ] at HT
    clear hP hD hQ
    rcases (show n = 0 ∨ n = 1 ∨ 1 < n by omega) with rfl | rfl | h1
    · have HR := Lib.hid (HT0.out rfl)
      clear HT HT0 HX1 HX2 s1
      go_wp2_with (first
        | (go_at_call 88; (with_reducible refine (HP.out _).mono ?_); rintro e W3 ⟨rfl, bb⟩; (have B3 := below_more B2 (Nat.le_refl _) bb)))
      go_ret
      exact ⟨by rw [HR.out]; rfl, B3⟩
    · have HR := Lib.hid (HT.out (by omega))
      rw [HX1.out (by omega)] at HR
      obtain ⟨R, hR⟩ : ∃ R, Q ++ [120] = R := ⟨_, rfl⟩
      have s2 : ∀ w, (Op.stringOp .add ⟨Q.toArray⟩ ⟨#[120]⟩).run Tryz.prog w = .ok (.string ⟨R.toArray⟩) w := fun w => by
        rw [← hR]; exact run_string_add_lists w Q [120] (by omega) (by simp)
      rw [hR] at HR
      clear HT HT0 HX1 HX2 hR
      by_cases hp : P = [49]
      · have hp2 : (P == [49]) = true := by rw [hp]; rfl
        have HRR := Lib.hid (show tmW m 1 = [120] by rw [HR.out, if_pos hp])
        clear hp
        go_wp2_with (first
          | (go_at_call 88; (with_reducible refine (HP.out _).mono ?_); rintro e W3 ⟨rfl, bb⟩; (have B3 := below_more B2 (Nat.le_refl _) bb)))
        go_ret
        exact ⟨by rw [HRR.out]; rfl, B3⟩
      · have hp2 : (P == [49]) = false := by rw [beq_eq_false_iff_ne]; exact hp
        have HRR := Lib.hid (show tmW m 1 = R by rw [HR.out, if_neg hp])
        clear hp
        go_wp2_with (first
          | (go_at_call 88; (with_reducible refine (HP.out _).mono ?_); rintro e W3 ⟨rfl, bb⟩; (have B3 := below_more B2 (Nat.le_refl _) bb)))
        go_ret
        exact ⟨by rw [HRR.out]; rfl, B3⟩
    · have HR := Lib.hid (HT.out (by omega))
      rw [HX2.out (by omega)] at HR
      obtain ⟨E, hE⟩ : ∃ E, [120, 94] ++ D = E := ⟨_, rfl⟩
      have hel : E.length ≤ 200000 := by rw [← hE]; simp; omega
      have s0 : ∀ w, (Op.stringOp .add ⟨#[120, 94]⟩ ⟨D.toArray⟩).run Tryz.prog w = .ok (.string ⟨E.toArray⟩) w := fun w => by
        rw [← hE]; exact run_string_add_lists w [120, 94] D (by simp) (by omega)
      rw [hE] at HR
      obtain ⟨R, hR⟩ : ∃ R, Q ++ E = R := ⟨_, rfl⟩
      have s2 : ∀ w, (Op.stringOp .add ⟨Q.toArray⟩ ⟨E.toArray⟩).run Tryz.prog w = .ok (.string ⟨R.toArray⟩) w := fun w => by
        rw [← hR]; exact run_string_add_lists w Q E (by omega) (by omega)
      rw [hR] at HR
      have hn1 : (1 : Int) < (n : Int) := by omega
      have hn0 : ((n : Int) == 0) = false := by rw [beq_eq_false_iff_ne]; omega
      clear HT HT0 HX1 HX2 hR hE
      by_cases hp : P = [49]
      · have hp2 : (P == [49]) = true := by rw [hp]; rfl
        have HRR := Lib.hid (show tmW m n = E by rw [HR.out, if_pos hp])
        clear hp
        go_wp2_with (first
          | (go_at_call 88; (with_reducible refine (HP.out _).mono ?_); rintro e W3 ⟨rfl, bb⟩; (have B3 := below_more B2 (Nat.le_refl _) bb))
          | (go_at_call 45; (with_reducible refine (HOf.out _).mono ?_); rintro e W4 ⟨rfl, bb⟩; (have B4 := below_more B3 (Nat.le_refl _) bb))
          | (go_at_call 88; (with_reducible refine (HPn.out _).mono ?_); rintro e W5 ⟨rfl, bb⟩; (have B5 := below_more B4 (Nat.le_refl _) bb)))
        go_ret
        exact ⟨by rw [HRR.out]; rfl, B5⟩
      · have hp2 : (P == [49]) = false := by rw [beq_eq_false_iff_ne]; exact hp
        have HRR := Lib.hid (show tmW m n = R by rw [HR.out, if_neg hp])
        clear hp
        go_wp2_with (first
          | (go_at_call 88; (with_reducible refine (HP.out _).mono ?_); rintro e W3 ⟨rfl, bb⟩; (have B3 := below_more B2 (Nat.le_refl _) bb))
          | (go_at_call 45; (with_reducible refine (HOf.out _).mono ?_); rintro e W4 ⟨rfl, bb⟩; (have B4 := below_more B3 (Nat.le_refl _) bb))
          | (go_at_call 88; (with_reducible refine (HPn.out _).mono ?_); rintro e W5 ⟨rfl, bb⟩; (have B5 := below_more B4 (Nat.le_refl _) bb)))
        go_ret
        exact ⟨by rw [HRR.out]; rfl, B5⟩
end Go.Proofs.YtgcogpfmhmmgdaaGreatDoor
