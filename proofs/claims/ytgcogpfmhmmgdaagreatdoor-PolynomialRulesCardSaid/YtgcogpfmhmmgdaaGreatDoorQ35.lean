/- What polynomial.divide returns: the run of pseudo-division. Condition: a divisor other than 0, degrees below 200, coefficients of at most 1000 digits to the base 2^32. What polynomial.Divide returns. Condition: at most 10^5 coefficients, of at most 1000 digits to the base 2^32. What polynomial.Derivative returns. Condition: at most 10^5 coefficients, of at most 10^6 digits to the base 2^32. -/
import Derived.Test.YtgcogpfmhmmgdaaGreatDoorQ33
import Derived.Test.YtgcogpfmhmmgdaaGreatDoorQ34
import Derived.Test.YtgcogpfmhmmgdaaGreatDoorQ32
import Derived.Test.YtgcogpfmhmmgdaaGreatDoorQ19
import Derived.Test.YtgcogpfmhmmgdaaGreatDoorQ14

namespace Go.Proofs.YtgcogpfmhmmgdaaGreatDoor
open Go.RowKit Go.Shelf
set_option linter.unusedSimpArgs false
set_option linter.unusedVariables false

theorem trm_le {L : List Int} {n : Nat} (h : ∀ i, n ≤ i → co L i = 0) : (trm L).length ≤ n := by
  rcases Nat.eq_zero_or_pos (trm L).length with h0 | h0
  · omega
  · have h1 := trm_last L (n := (trm L).length - 1) (by omega)
    apply Classical.byContradiction
    intro h2
    exact h1 (h _ (by omega))
theorem mulp_zero (v1 v2 : Value) (L C : List Int) (d : Int) (k : Nat) (w : World) (h1 : PolyAt w v1 L k) (h2 : IsInt v2 d k) (hL : L.length ≤ 100000) (hk : k ≤ 1000000) (hC : trm C = C) (hco : ∀ i, co C i = d * co L i) :
    Calls Tryz.prog 96 #[v1, v2, .int .i64 0] w (PolyOut w C) :=
  mulp_any v1 v2 L C d 0 k 0 w h1 h2 hL (by omega) hk hC (fun i => by rw [if_neg (by omega), Nat.sub_zero, hco i, Int.mul_comm])
/-- The variables of the numbers, and the list of 1. -/
def DV (w W : World) (b7 : Nat) (gl : Bool) (sl : ByteArray) (v1 : Value) : Prop := IVar W b7 gl sl ∧ PolyAt W v1 [1] 1 ∧ Below w.heap.size w W
theorem DV.keep {w W W1 : World} {b7 : Nat} {gl : Bool} {sl : ByteArray} {v1 : Value} (h : DV w W b7 gl sl v1) (hb : Below W.heap.size W W1) : DV w W1 b7 gl sl v1 := ⟨h.1.keep hb, h.2.1.keep hb, below_more h.2.2 (Nat.le_refl _) hb⟩
/-- What the regions have at hand: the rest and the quotient, too. -/
def DW (w W : World) (b7 b12 : Nat) (gl gf : Bool) (sl sf : ByteArray) (v1 v9 v10 : Value) (Q R : List Int) : Prop := DV w W b7 gl sl v1 ∧ IVar W b12 gf sf ∧ PolyC W w.heap.size v9 Q ∧ PolyC W w.heap.size v10 R
theorem DW.keep {w W W1 : World} {b7 b12 : Nat} {gl gf : Bool} {sl sf : ByteArray} {v1 v9 v10 : Value} {Q R : List Int} (h : DW w W b7 b12 gl gf sl sf v1 v9 v10 Q R) (hb : Below W.heap.size W W1) : DW w W1 b7 b12 gl gf sl sf v1 v9 v10 Q R := ⟨h.1.keep hb, h.2.1.keep hb, h.2.2.1.keep hb, h.2.2.2.keep hb⟩
theorem PolyC.into {W W1 : World} {base : Nat} {v : Value} {L : List Int} (h : PolyC W base v L) (hb : Below W.heap.size W W1) : PolyC W1 base v L := h.keep hb
theorem one_at (W : World) (t : TypeId) (g : Bool) (s : ByteArray) (h : IsInt (.agg #[.bool g, .string s]) 1 1) : PolyAt (W.alloc (.cells #[.bool g, .string s] t)) (.slice (some ⟨W.heap.size, 0, none⟩) 1 1) [1] 1 := by
  refine ⟨some ⟨W.heap.size, 0, none⟩, 1, fun _ => g, fun _ => s, rfl, by simp, fun i hi => ⟨_, rfl, ?_, ?_, ?_⟩⟩
  · obtain rfl : i = 0 := by simpa using hi
    simp [go_sem, Addr.add]
  · obtain rfl : i = 0 := by simpa using hi
    simp [go_sem, Addr.add]
  · obtain rfl : i = 0 := by simpa using hi
    exact h
theorem bd2 {a b : Int} {k kj : Nat} (h1 : a.natAbs < 4294967296 ^ (k + kj)) (h2 : b.natAbs < 4294967296 ^ (k + kj)) : (a + b).natAbs < 4294967296 ^ (k + kj + 1) ∧ (a - b).natAbs < 4294967296 ^ (k + kj + 1) := by
  have h3 := Int.natAbs_add_le a b
  have h4 := Int.natAbs_sub_le a b
  rw [Nat.pow_succ]
  omega
theorem bdm {a b : Int} {k kj : Nat} (h1 : a.natAbs < 4294967296 ^ k) (h2 : b.natAbs < 4294967296 ^ kj) : (a * b).natAbs < 4294967296 ^ (k + kj) := by
  rw [Int.natAbs_mul, Nat.pow_add]
  exact Nat.mul_lt_mul'' h1 h2
theorem stepQ_facts {c f : Int} {p k kj m : Nat} {Q : List Int} (hc : c.natAbs < 4294967296 ^ k) (hf : f.natAbs < 4294967296 ^ kj) (hQ : PB Q kj) (hl : Q.length ≤ m) (hp : p < m) : PB (stepQ c p f Q) (k + kj + 1) ∧ (stepQ c p f Q).length ≤ m ∧ ∀ i, co (stepQ c p f Q) i = co (trm (scal c Q)) i + co (trm (shf p [f])) i := by
  have hco : ∀ i, co (stepQ c p f Q) i = c * co Q i + if i < p then 0 else co [f] (i - p) := fun i => by unfold stepQ; rw [co_trm, co_addL, co_scal, co_shf]
  refine ⟨fun i => ?_, ?_, fun i => ?_⟩
  · rw [hco i]
    refine (bd2 (bdm hc (hQ i)) ?_).1
    split
    · exact Nat.pow_pos (by omega)
    · rcases Nat.eq_zero_or_pos (i - p) with h | h
      · rw [h]; show f.natAbs < _; exact Nat.lt_of_lt_of_le hf (Nat.pow_le_pow_right (by omega) (by omega))
      · rw [co_ge (by simp; omega)]; exact Nat.pow_pos (by omega)
  · unfold stepQ
    refine trm_le fun i hi => ?_
    rw [co_addL, co_scal, co_shf, co_ge (by omega), if_neg (by omega), co_ge (by simp; omega)]
    simp
  · rw [hco i, co_trm, co_trm, co_scal, co_shf]
theorem stepR_facts {c f : Int} {p k kj m : Nat} {M R : List Int} (hc : c.natAbs < 4294967296 ^ k) (hf : f.natAbs < 4294967296 ^ kj) (hM : PB M k) (hR : PB R kj) (hl : R.length ≤ m) (hp : p + (trm M).length ≤ m) : PB (stepR c p f M R) (k + kj + 1) ∧ (stepR c p f M R).length ≤ m ∧ ∀ i, co (stepR c p f M R) i = co (trm (scal c R)) i - co (trm (shf p (scal f M))) i := by
  have hco : ∀ i, co (stepR c p f M R) i = c * co R i - if i < p then 0 else f * co M (i - p) := fun i => by
    unfold stepR; rw [co_trm, co_subL, co_scal, co_shf]
    split
    · rfl
    · rw [co_scal]
  refine ⟨fun i => ?_, ?_, fun i => ?_⟩
  · rw [hco i]
    refine (bd2 (bdm hc (hR i)) ?_).2
    split
    · exact Nat.pow_pos (by omega)
    · rw [Int.mul_comm]; exact bdm (hM _) hf
  · show (trm (subL (scal c R) (shf p (scal f M)))).length ≤ m
    refine trm_le fun i hi => ?_
    rw [co_subL, co_scal, co_shf, co_ge (by omega), if_neg (by omega), co_scal, trm_above M (by omega)]
    simp
  · rw [hco i, co_trm, co_trm, co_scal, co_shf]
    split
    · rfl
    · rw [co_scal]
theorem stepQ_trm (c : Int) (p : Nat) (f : Int) (Q : List Int) : trm (stepQ c p f Q) = stepQ c p f Q := trm_trm _
theorem stepR_trm (c : Int) (p : Nat) (f : Int) (M R : List Int) : trm (stepR c p f M R) = stepR c p f M R := trm_trm _
theorem PolyAt.wider {W : World} {v : Value} {L : List Int} {k k' : Nat} (h : PolyAt W v L k) (hk : k ≤ k') (hk' : k' ≤ 10000000) : PolyAt W v L k' := by
  obtain ⟨A, c, g, s, h1, h2, h3⟩ := h
  refine ⟨A, c, g, s, h1, h2, fun i hi => ?_⟩
  obtain ⟨a, ha, c0, c1, hI⟩ := h3 i hi
  exact ⟨a, ha, c0, c1, hI.wider hk hk'⟩
theorem scal_facts {c : Int} {k kj m : Nat} {Q : List Int} (hc : c.natAbs < 4294967296 ^ k) (hQ : PB Q kj) (hl : Q.length ≤ m) : PB (trm (scal c Q)) (k + kj) ∧ (trm (scal c Q)).length ≤ m := by
  refine ⟨fun i => ?_, ?_⟩
  · rw [co_trm, co_scal]; exact bdm hc (hQ i)
  · have h1 := trm_len (scal c Q)
    have h2 : (scal c Q).length = Q.length := by simp [scal]
    omega
theorem co_single (f : Int) (j : Nat) : co [f] j = co [1] j * f := by
  cases j with
  | zero => show f = 1 * f; omega
  | succ j => rw [co_ge (by simp), co_ge (by simp)]; simp
theorem shf1_facts {f : Int} {p k kj : Nat} (hf : f.natAbs < 4294967296 ^ kj) : PB (trm (shf p [f])) (k + kj) ∧ (trm (shf p [f])).length ≤ p + 1 ∧ ∀ i, co (trm (shf p [f])) i = if i < p then 0 else co [1] (i - p) * f := by
  refine ⟨fun i => ?_, trm_le fun i hi => ?_, fun i => ?_⟩
  · rw [co_trm, co_shf]
    split
    · exact Nat.pow_pos (by omega)
    · rcases Nat.eq_zero_or_pos (i - p) with h | h
      · rw [h]; show f.natAbs < _; exact Nat.lt_of_lt_of_le hf (Nat.pow_le_pow_right (by omega) (by omega))
      · rw [co_ge (by simp; omega)]; exact Nat.pow_pos (by omega)
  · rw [co_shf, if_neg (by omega), co_ge (by simp; omega)]
  · rw [co_trm, co_shf, co_single]
theorem shfM_facts {f : Int} {p k kj : Nat} {M : List Int} (hf : f.natAbs < 4294967296 ^ kj) (hM : PB M k) : PB (trm (shf p (scal f M))) (k + kj) ∧ (trm (shf p (scal f M))).length ≤ p + (trm M).length ∧ ∀ i, co (trm (shf p (scal f M))) i = if i < p then 0 else co M (i - p) * f := by
  have hco : ∀ i, co (trm (shf p (scal f M))) i = if i < p then 0 else co M (i - p) * f := fun i => by
    rw [co_trm, co_shf]
    split
    · rfl
    · rw [co_scal, Int.mul_comm]
  refine ⟨fun i => ?_, trm_le fun i hi => ?_, hco⟩
  · rw [hco i]
    split
    · exact Nat.pow_pos (by omega)
    · exact bdm (hM _) hf
  · rw [← co_trm, hco i, if_neg (by omega), trm_above M (by omega)]; simp
set_option maxRecDepth 100000 in
set_option maxHeartbeats 6400000 in
theorem pdivide_any (v1 v2 : Value) (L M Q9 R9 : List Int) (n k : Nat) (c : Int) (w : World) (h1 : PolyAt w v1 L k) (h2 : PolyAt w v2 M k) (hL : L.length ≤ 100000) (hM : M.length ≤ 100000) (hl : (trm L).length ≤ 200) (hm : (trm M).length = n + 1) (hn : n < 200) (hk : k ≤ 1000) (hk1 : 1 ≤ k) (hc : co M n = c) (hrun : divR M n c ((trm L).length - n) [] (trm L) = (Q9, R9)) :
    Calls Tryz.prog 62 #[v1, v2] w fun e w' => ∃ q r, e = .returned (.tuple #[q, r]) ∧ PolyC w' w.heap.size q Q9 ∧ PolyC w' w.heap.size r R9 ∧ Below w.heap.size w w' := by
  have H1 := Lib.hid h1
  have H2 := Lib.hid h2
  have HP1 := Lib.hid h1.pb
  have HP2 := Lib.hid h2.pb
  have HM := Lib.hid hm
  have HLd := Lib.hid (show lead M = c by unfold lead; rw [if_neg (fun e => by rw [e] at hm; simp at hm), hm, ← hc]; rfl)
  have HCB := Lib.hid (show c.natAbs < 4294967296 ^ k by rw [← hc]; exact h2.pb n)
  have HDM := Lib.hid (show degZ M = (n : Int) by unfold degZ; rw [hm]; omega)
  obtain ⟨ll, hll⟩ : ∃ ll, (trm L).length = ll := ⟨_, rfl⟩
  have HDL := Lib.hid (show degZ L = (ll : Int) - 1 by unfold degZ; rw [hll])
  rw [hll] at hl hrun
  obtain ⟨st, hst⟩ : ∃ st, ll - n = st := ⟨_, rfl⟩
  rw [hst] at hrun
  have HRUN := Lib.hid hrun
  have hst1 : st ≤ 200 := by omega
  have HS := Lib.hid (show (ll : Int) - 1 - (n : Int) = (st : Int) - 1 ∨ (st = 0 ∧ (ll : Int) - 1 - (n : Int) < 0) by omega)
  have HLL := Lib.hid hll
  obtain ⟨A, ca, g, s, rfl, -⟩ := h1.cells
  obtain ⟨A2, c2, g2, s2, rfl, -⟩ := h2.cells
  clear hm hc hrun hll hst
  go_enter Tryz.func62, Tryz.ntmps62
  go_wp2_with fail
  refine (deg_any _ M k _ H2.out (by omega)).mono ?_
  rw [HDM.out]
  rintro e W1 ⟨rfl, b1⟩
  go_wp2_with fail
  refine (lead_any _ M k _ (H2.out.keep2 b1) (by omega) (by omega)).mono ?_
  rw [HLd.out]
  rintro e W2 ⟨gl, sl, rfl, IL, b2⟩
  have HIL := Lib.hid IL
  have B2 := below_more b1 (Nat.le_refl _) b2
  clear IL b1 b2
  go_wp2_with fail
  refine (iof_any 1 _ (by omega) (by omega)).mono ?_
  rintro e W3 ⟨rfl, b3⟩
  have B3 := below_more B2 (Nat.le_refl _) b3
  have HI1 := Lib.hid (show IsInt (.agg #[.bool (sg 1), .string (mg 1)]) 1 1 from isInt_mg (by decide) (by omega))
  clear B2 b3
  go_wp2_with fail
  have PO := (one_at W3 27 _ _ HI1.out).keep (below1 _ (.cells #[.bool gl, .string sl] 27))
  have XL := IVar.new (W3.alloc (.cells #[.bool (sg 1), .string (mg 1)] 27)) gl sl 27
  rw [World.size_alloc] at XL
  have V4 : DV w _ (W3.heap.size + 1) gl sl (.slice (some ⟨W3.heap.size, 0, none⟩) 1 1) := ⟨XL, PO, below_more B3 (Nat.le_refl _) (below2 W3 (.cells #[.bool (sg 1), .string (mg 1)] 27) (.cells #[.bool gl, .string sl] 27))⟩
  clear PO XL B3
  generalize (W3.alloc (.cells #[.bool (sg 1), .string (mg 1)] 27)).alloc (.cells #[.bool gl, .string sl] 27) = W4 at *
  generalize W3.heap.size = b3 at *
  have B4 := V4.2.2
  refine (pcan_any _ L (trm L) k _ (H1.out.keep2 B4) hL (by omega) rfl hk1).mono ?_
  rintro e W5 ⟨r5, rfl, P5, b5⟩
  have V5 := V4.keep b5
  have P5 := P5.wider B4.size
  have B5 := V5.2.2
  clear V4 B4 b5
  go_wp2_with fail
  refine (deg_any _ L k _ (H1.out.keep2 B5) (by omega)).mono ?_
  rw [HDL.out]
  rintro e W6 ⟨rfl, b6⟩
  have V6 := V5.keep b6
  have P6 := P5.keep b6
  clear V5 P5 B5 b6
  obtain ⟨pl, hpl, hpl1, hpl2, hw0⟩ : ∃ pl : Int, Hid (pl = (st : Int) - 1 ∨ (st = 0 ∧ pl < 0)) ∧ pl ≤ 300 ∧ -300 ≤ pl ∧ IntKind.i64.wrap ((ll : Int) - 1 - (n : Int)) = pl := ⟨(ll : Int) - 1 - (n : Int), Lib.hid HS.out, by omega, by omega, by rw [IntKind.wrap_i64]; omega⟩
  have HI0 := Lib.hid (show divR M n c st [] (trm L) = (Q9, R9) ∧ trm [] = [] ∧ trm (trm L) = trm L ∧ ([] : List Int).length ≤ 400 ∧ (trm L).length ≤ 400 ∧ PB [] (k + (st - st) * (k + 1)) ∧ PB (trm L) (k + (st - st) * (k + 1)) from ⟨HRUN.out, rfl, trm_trm L, by simp, by rw [HLL.out]; omega, fun i => by rw [co_nil]; exact Nat.pow_pos (by omega), fun i => by rw [co_trm, Nat.sub_self, Nat.zero_mul]; exact HP1.out i⟩)
  go_wp2_with fail
  go_loopg [9, 10, 11] st (fun q s9 s10 s11 wx => ∃ (v9 v10 : Value) (x : Int) (Q R : List Int), s9 = v9 ∧ s10 = v10 ∧ s11 = .int .i64 x ∧ Hid (x = (q : Int) - 1 ∨ (q = 0 ∧ x < 0)) ∧ q ≤ st ∧ PolyC wx w.heap.size v9 Q ∧ PolyC wx w.heap.size v10 R ∧ DV w wx (b3 + 1) gl sl (.slice (some ⟨b3, 0, none⟩) 1 1) ∧ Hid (divR M n c q Q R = (Q9, R9) ∧ trm Q = Q ∧ trm R = R ∧ Q.length ≤ 400 ∧ R.length ≤ 400 ∧ PB Q (k + (st - q) * (k + 1)) ∧ PB R (k + (st - q) * (k + 1))))
  case atStart => exact ⟨_, r5, pl, [], trm L, rfl, rfl, rfl, hpl, Nat.le_refl _, .inl ⟨rfl, rfl⟩, P6, V6, HI0⟩
  case round =>
    clear V6 P6 HI0 hw0 hpl hpl1 hpl2
    obtain ⟨v9, v10, x, Q, R, rfl, rfl, rfl, hx, hq, PQ, PR, V, HH⟩ := hrel
    rcases gk with _ | q
    · have hx0 : ¬ (0 : Int) ≤ x := by rcases hx.out with h | ⟨-, h⟩ <;> omega
      have HE := Lib.hid (show Q = Q9 ∧ R = R9 by
        have h := HH.out.1
        injection h with h1 h2
        exact ⟨h1, h2⟩)
      clear hx
      go_wp2
      exact bodyPost_ret (v := .tuple #[u9, u10]) (by simp [results, Tryz.results62, go_sem]) rfl ⟨_, _, rfl, by rw [← HE.out.1]; exact PQ, by rw [← HE.out.2]; exact PR, V.2.2⟩
    · obtain rfl : x = (q : Int) := by rcases hx.out with h | ⟨h, -⟩ <;> omega
      clear hx
      obtain ⟨kj, hkj1, hkj2, hkj3⟩ : ∃ kj, Hid (k + (st - (q + 1)) * (k + 1) = kj) ∧ kj ≤ 300000 ∧ k ≤ kj := ⟨_, Lib.hid rfl, by
        have h1 : (st - (q + 1)) * (k + 1) ≤ 200 * 1001 := Nat.mul_le_mul (by omega) (by omega)
        omega, Nat.le_add_right _ _⟩
      have HK2 := Lib.hid (show k + (st - q) * (k + 1) = k + kj + 1 by
        rw [show st - q = (st - (q + 1)) + 1 by omega, Nat.add_mul, ← hkj1.out]
        omega)
      obtain ⟨e1, he1, he2⟩ : ∃ e1, e1 ≤ q + n ∧ q + n ≤ e1 := ⟨q + n, Nat.le_refl _, Nat.le_refl _⟩
      have hw1 : IntKind.i64.wrap ((q : Int) + (n : Int)) = (e1 : Int) := by rw [IntKind.wrap_i64]; omega
      have hq0 : (0 : Int) ≤ (q : Int) := by omega
      obtain ⟨HH1, HH2, HH3, HH4, HH5, HH6, HH7⟩ := HH.out
      rw [hkj1.out] at HH6 HH7
      have HQ := Lib.hid (show trm Q = Q ∧ PB Q kj from ⟨HH2, HH6⟩)
      have HR := Lib.hid (show trm R = R ∧ PB R kj from ⟨HH3, HH7⟩)
      obtain ⟨f, Ef⟩ : ∃ f, Hid (co R e1 = f) := ⟨_, Lib.hid rfl⟩
      have HRUN2 := Lib.hid (show divR M n c q (stepQ c q f Q) (stepR c q f M R) = (Q9, R9) by
        rw [← Ef.out, show e1 = q + n by omega]; exact HH1)
      have HFB := Lib.hid (show f.natAbs < 4294967296 ^ kj by rw [← Ef.out]; exact HH7 e1)
      have SQ := Lib.hid (stepQ_facts HCB.out HFB.out HH6 HH4 (show q < 400 by omega))
      have SR := Lib.hid (stepR_facts HCB.out HFB.out HP2.out HH7 HH5 (show q + (trm M).length ≤ 400 by rw [HM.out]; omega))
      have HQl := HH4
      have HRl := HH5
      clear HH HH1 HH2 HH3 HH4 HH5 HH6 HH7
      go_wp2_with fail
      refine (coef_any _ R kj e1 _ (PR.at (by omega) HR.out.2) (by omega) (by omega) (by omega)).mono ?_
      rintro e W7 ⟨gf, sf, rfl, IF, b7⟩
      rw [Ef.out] at IF
      have HIF := Lib.hid IF
      have DD : DW w _ (b3 + 1) W7.heap.size gl gf sl sf (.slice (some ⟨b3, 0, none⟩) 1 1) u9 u10 Q R := ⟨(V.keep b7).keep (below1 W7 (.cells #[.bool gf, .string sf] 27)), IVar.new W7 gf sf 27, (PQ.keep b7).keep (below1 W7 (.cells #[.bool gf, .string sf] 27)), (PR.keep b7).keep (below1 W7 (.cells #[.bool gf, .string sf] 27))⟩
      clear IF V PQ PR
      go_upto_region 9 with fail
      generalize W7.alloc (.cells #[.bool gf, .string sf] 27) = W8 at *
      generalize W7.heap.size = b12 at *
      clear b7
      have HC1 := Lib.hid (scal_facts HCB.out HQ.out.2 HQl)
      have HC2 := Lib.hid (shf1_facts (p := q) (k := k) HFB.out)
      have HD1 := Lib.hid (scal_facts HCB.out HR.out.2 HRl)
      have HD2 := Lib.hid (shfM_facts (p := q) HFB.out HP2.out)
      go_cut [9] from 25 to 49 (fun s9 wx => ∃ v9, s9 = v9 ∧ DW w wx (b3 + 1) b12 gl gf sl sf (.slice (some ⟨b3, 0, none⟩) 1 1) v9 u10 (stepQ c q f Q) R)
      case first =>
        have DD := DD.keep (Below.refl _ _).drew
        obtain ⟨⟨⟨x1, x2⟩, -, -⟩, ⟨x3, x4⟩, -, -⟩ := id DD
        go_region_held3 (fun W => W.cell? ⟨b3 + 1, 0, none⟩ = some (.bool gl) ∧ W.cell? ⟨b3 + 1, 1, none⟩ = some (.string sl) ∧ W.cell? ⟨b12, 0, none⟩ = some (.bool gf) ∧ W.cell? ⟨b12, 1, none⟩ = some (.string sf)) (first | (with_reducible exact ⟨x1, x2, x3, x4⟩))
          (first
            | (go_at_call_of 96 (u9); (have PP := PolyC.at DD.2.2.1 (show kj ≤ 10000000 by omega) HQ.out.2); (with_reducible refine (mulp_zero _ _ Q (trm (scal c Q)) c kj _ PP (HIL.out.wider hkj3 (by omega)) (by omega) (by omega) (trm_trm _) (fun i => by rw [co_trm, co_scal])).mono ?_); rintro e X ⟨y1, rfl, Y1, bX⟩; have DD1 := DW.keep DD bX; have DD := DD1; obtain ⟨⟨⟨x1, x2⟩, -, -⟩, ⟨x3, x4⟩, -, -⟩ := id DD)
            | (go_at_call_of 96 (Value.slice (some ⟨b3, 0, none⟩) 1 1); (have PP := DD.1.2.1.wider (show 1 ≤ kj by omega) (by omega)); (with_reducible refine (mulp_any _ _ [1] (trm (shf q [f])) f q kj 0 _ PP HIF.out (by simp) (by omega) (by omega) (trm_trm _) HC2.out.2.2).mono ?_); rintro e X ⟨y2, rfl, Y2, bX⟩; have Y1 := Y1.keep bX; have DD1 := DW.keep DD bX; have DD := DD1; obtain ⟨⟨⟨x1, x2⟩, -, -⟩, ⟨x3, x4⟩, -, -⟩ := id DD)
            | (go_at_call 12; (have P1 := PolyC.at Y1 (show k + kj ≤ 10000000 by omega) HC1.out.1); (have P2 := PolyC.at Y2 (show k + kj ≤ 10000000 by omega) HC2.out.1); (have hsz := DD.1.2.2.size); (with_reducible refine (padd_any _ _ _ _ (stepQ c q f Q) (k + kj) (k + kj + 1) _ P1 P2 (by have := HC1.out.2; omega) (by have := HC2.out.2.1; omega) (by omega) (stepQ_trm _ _ _ _) SQ.out.2.2 SQ.out.1 (by omega)).mono ?_); rintro e X ⟨y3, rfl, Y3, bX⟩; have Y3 := Y3.wider hsz; have DD1 := DW.keep DD bX; have DD := DD1; obtain ⟨⟨⟨x1, x2⟩, -, -⟩, ⟨x3, x4⟩, -, -⟩ := id DD))
        all_goals go_wp2_with fail
        all_goals go_meet
        all_goals exact ⟨_, rfl, DD.1, DD.2.1, Y3, DD.2.2.2⟩
      case rest =>
        clear DD
        obtain ⟨v9, rfl, DD⟩ := hcut
        go_upto_region 10 with fail
        have DD := DD.keep (Below.refl _ _).drew
        obtain ⟨⟨⟨x1, x2⟩, -, -⟩, ⟨x3, x4⟩, -, -⟩ := id DD
        go_region_held3 (fun W => W.cell? ⟨b3 + 1, 0, none⟩ = some (.bool gl) ∧ W.cell? ⟨b3 + 1, 1, none⟩ = some (.string sl) ∧ W.cell? ⟨b12, 0, none⟩ = some (.bool gf) ∧ W.cell? ⟨b12, 1, none⟩ = some (.string sf)) (first | (with_reducible exact ⟨x1, x2, x3, x4⟩))
          (first
            | (go_at_call_of 96 (u10); (have PP := PolyC.at DD.2.2.2 (show kj ≤ 10000000 by omega) HR.out.2); (with_reducible refine (mulp_zero _ _ R (trm (scal c R)) c kj _ PP (HIL.out.wider hkj3 (by omega)) (by omega) (by omega) (trm_trm _) (fun i => by rw [co_trm, co_scal])).mono ?_); rintro e X ⟨y1, rfl, Y1, bX⟩; have DD1 := DW.keep DD bX; have DD := DD1; obtain ⟨⟨⟨x1, x2⟩, -, -⟩, ⟨x3, x4⟩, -, -⟩ := id DD)
            | (go_at_call_of 96 (Value.slice A2 M.length c2); (have BB := DD.1.2.2); (have PP := (H2.out.keep2 BB).wider hkj3 (by omega)); (with_reducible refine (mulp_any _ _ M (trm (shf q (scal f M))) f q kj 0 _ PP HIF.out (by omega) (by omega) (by omega) (trm_trm _) HD2.out.2.2).mono ?_); rintro e X ⟨y2, rfl, Y2, bX⟩; have Y1 := Y1.keep bX; have DD1 := DW.keep DD bX; have DD := DD1; obtain ⟨⟨⟨x1, x2⟩, -, -⟩, ⟨x3, x4⟩, -, -⟩ := id DD)
            | (go_at_call 14; (have P1 := PolyC.at Y1 (show k + kj ≤ 10000000 by omega) HD1.out.1); (have P2 := PolyC.at Y2 (show k + kj ≤ 10000000 by omega) HD2.out.1); (have hsz := DD.1.2.2.size); (with_reducible refine (psub_any _ _ _ _ (stepR c q f M R) (k + kj) (k + kj + 1) _ P1 P2 (by have := HD1.out.2; omega) (by have := HD2.out.2.1; have := HM.out; omega) (by omega) (stepR_trm _ _ _ _ _) SR.out.2.2 SR.out.1 (by omega)).mono ?_); rintro e X ⟨y3, rfl, Y3, bX⟩; have Y3 := Y3.wider hsz; have DD1 := DW.keep DD bX; have DD := DD1; obtain ⟨⟨⟨x1, x2⟩, -, -⟩, ⟨x3, x4⟩, -, -⟩ := id DD))
        all_goals have DD2 : DW w _ (b3 + 1) b12 gl gf sl sf (.slice (some ⟨b3, 0, none⟩) 1 1) _ _ (stepQ c q f Q) (stepR c q f M R) := ⟨DD.1, DD.2.1, DD.2.2.1, Y3⟩
        all_goals clear DD DD1 x1 x2 x3 x4 Y1 Y2 Y3
        all_goals go_wp2_with fail
        all_goals go_roundg q
        case measure => omega
        case rel => exact ⟨_, _, (q : Int) - 1, _, _, rfl, rfl, by go_num, Lib.hid (.inl rfl), by omega, DD2.2.2.1, DD2.2.2.2, DD2.1, Lib.hid ⟨HRUN2.out, stepQ_trm _ _ _ _, stepR_trm _ _ _ _ _, SQ.out.2.1, SR.out.2.1, by rw [HK2.out]; exact SQ.out.1, by rw [HK2.out]; exact SR.out.1⟩⟩
end Go.Proofs.YtgcogpfmhmmgdaaGreatDoor

namespace Go.Proofs.YtgcogpfmhmmgdaaGreatDoor
open Go.RowKit
set_option linter.unusedSimpArgs false
set_option linter.unusedVariables false

/-- Two times nothing, and an error's number. -/
def NoneOut2 (w : World) (x : Int) (e : Ending) (w' : World) : Prop := e = .returned (.tuple #[.slice none 0 0, .slice none 0 0, .int .i64 x]) ∧ Below w.heap.size w w'
set_option maxRecDepth 100000 in
set_option maxHeartbeats 3200000 in
theorem pDivide_large1 (v1 v2 : Value) (L : List Int) (k : Nat) (w : World) (h1 : PolyAt w v1 L k) (hL : L.length ≤ 100000) (hl : 65 < (trm L).length) :
    Calls Tryz.prog 29 #[v1, v2] w (NoneOut2 w 4) := by
  have HD := Lib.hid (show decide (64 < degZ L) = true from decide_eq_true (by unfold degZ; omega))
  go_enter Tryz.func29, Tryz.ntmps29
  go_wp2_with fail
  refine (large_any _ L k _ h1 (by omega)).mono ?_
  rw [HD.out]
  rintro e W1 ⟨rfl, b1⟩
  go_wp2
  exact bodyPost_ret (v := .tuple #[.slice none 0 0, .slice none 0 0, .int .i64 4]) (by simp [results, Tryz.results29, go_sem]) rfl ⟨rfl, b1⟩
set_option maxRecDepth 100000 in
set_option maxHeartbeats 3200000 in
theorem pDivide_large2 (v1 v2 : Value) (L M : List Int) (k : Nat) (w : World) (h1 : PolyAt w v1 L k) (h2 : PolyAt w v2 M k) (hL : L.length ≤ 100000) (hM : M.length ≤ 100000) (hl : (trm L).length ≤ 65) (hm : 65 < (trm M).length) :
    Calls Tryz.prog 29 #[v1, v2] w (NoneOut2 w 4) := by
  have HD1 := Lib.hid (show decide (64 < degZ L) = false from decide_eq_false (by unfold degZ; omega))
  have HD2 := Lib.hid (show decide (64 < degZ M) = true from decide_eq_true (by unfold degZ; omega))
  have H2 := Lib.hid h2
  go_enter Tryz.func29, Tryz.ntmps29
  go_wp2_with fail
  refine (large_any _ L k _ h1 (by omega)).mono ?_
  rw [HD1.out]
  rintro e W1 ⟨rfl, b1⟩
  go_wp2_with fail
  refine (large_any _ M k _ (H2.out.keep b1) (by omega)).mono ?_
  rw [HD2.out]
  rintro e W2 ⟨rfl, b2⟩
  go_wp2
  exact bodyPost_ret (v := .tuple #[.slice none 0 0, .slice none 0 0, .int .i64 4]) (by simp [results, Tryz.results29, go_sem]) rfl ⟨rfl, below_more b1 (Nat.le_refl _) b2⟩
set_option maxRecDepth 100000 in
set_option maxHeartbeats 3200000 in
theorem pDivide_zero (v1 v2 : Value) (L M : List Int) (k : Nat) (w : World) (h1 : PolyAt w v1 L k) (h2 : PolyAt w v2 M k) (hL : L.length ≤ 100000) (hM : M.length ≤ 100000) (hl : (trm L).length ≤ 65) (hm : trm M = []) :
    Calls Tryz.prog 29 #[v1, v2] w (NoneOut2 w 9) := by
  have HD1 := Lib.hid (show decide (64 < degZ L) = false from decide_eq_false (by unfold degZ; omega))
  have HD2 := Lib.hid (show decide (64 < degZ M) = false from decide_eq_false (by unfold degZ; rw [hm]; simp))
  have HD3 := Lib.hid (show degZ M = -1 by unfold degZ; rw [hm]; rfl)
  have H2 := Lib.hid h2
  clear hm
  go_enter Tryz.func29, Tryz.ntmps29
  go_wp2_with fail
  refine (large_any _ L k _ h1 (by omega)).mono ?_
  rw [HD1.out]
  rintro e W1 ⟨rfl, b1⟩
  go_wp2_with fail
  refine (large_any _ M k _ (H2.out.keep b1) (by omega)).mono ?_
  rw [HD2.out]
  rintro e W2 ⟨rfl, b2⟩
  have B2 := below_more b1 (Nat.le_refl _) b2
  go_wp2_with fail
  refine (deg_any _ M k _ (H2.out.keep2 B2) (by omega)).mono ?_
  rw [HD3.out]
  rintro e W3 ⟨rfl, b3⟩
  go_wp2
  exact bodyPost_ret (v := .tuple #[.slice none 0 0, .slice none 0 0, .int .i64 9]) (by simp [results, Tryz.results29, go_sem]) rfl ⟨rfl, below_more B2 (Nat.le_refl _) b3⟩
set_option maxRecDepth 100000 in
set_option maxHeartbeats 3200000 in
theorem pDivide_any (v1 v2 : Value) (L M Q9 R9 : List Int) (n k : Nat) (c : Int) (w : World) (h1 : PolyAt w v1 L k) (h2 : PolyAt w v2 M k) (hL : L.length ≤ 100000) (hM : M.length ≤ 100000) (hl : (trm L).length ≤ 65) (hm : (trm M).length = n + 1) (hn : n ≤ 64) (hk : k ≤ 1000) (hk1 : 1 ≤ k) (hc : co M n = c) (hrun : divR M n c ((trm L).length - n) [] (trm L) = (Q9, R9)) :
    Calls Tryz.prog 29 #[v1, v2] w fun e w' => ∃ q r, e = .returned (.tuple #[q, r, .int .i64 0]) ∧ PolyC w' w.heap.size q Q9 ∧ PolyC w' w.heap.size r R9 ∧ Below w.heap.size w w' := by
  have HD1 := Lib.hid (show decide (64 < degZ L) = false from decide_eq_false (by unfold degZ; omega))
  have HD2 := Lib.hid (show decide (64 < degZ M) = false from decide_eq_false (by unfold degZ; omega))
  have HD3 := Lib.hid (show degZ M = (n : Int) by unfold degZ; rw [hm]; omega)
  have HA := Lib.hid (And.intro hm (And.intro hc hrun))
  have hn0 : ¬ (n : Int) < 0 := by omega
  have H1 := Lib.hid h1
  have H2 := Lib.hid h2
  clear hm hc hrun
  go_enter Tryz.func29, Tryz.ntmps29
  go_wp2_with fail
  refine (large_any _ L k _ h1 (by omega)).mono ?_
  rw [HD1.out]
  rintro e W1 ⟨rfl, b1⟩
  go_wp2_with fail
  refine (large_any _ M k _ (H2.out.keep b1) (by omega)).mono ?_
  rw [HD2.out]
  rintro e W2 ⟨rfl, b2⟩
  have B2 := below_more b1 (Nat.le_refl _) b2
  go_wp2_with fail
  refine (deg_any _ M k _ (H2.out.keep2 B2) (by omega)).mono ?_
  rw [HD3.out]
  rintro e W3 ⟨rfl, b3⟩
  have B3 := below_more B2 (Nat.le_refl _) b3
  go_wp2_with fail
  refine (pdivide_any _ _ L M Q9 R9 n k c _ (H1.out.keep2 B3) (H2.out.keep2 B3) hL hM (by omega) HA.out.1 (by omega) hk hk1 HA.out.2.1 HA.out.2.2).mono ?_
  rintro e W4 ⟨q, r, rfl, PQ, PR, b4⟩
  have PQ := PQ.wider B3.size
  have PR := PR.wider B3.size
  have B4 := below_more B3 (Nat.le_refl _) b4
  go_wp2
  exact bodyPost_ret (v := .tuple #[q, r, .int .i64 0]) (by simp [results, Tryz.results29, go_sem]) rfl ⟨q, r, rfl, PQ, PR, B4⟩
end Go.Proofs.YtgcogpfmhmmgdaaGreatDoor

namespace Go.Proofs.YtgcogpfmhmmgdaaGreatDoor
open Go.RowKit Go.Shelf
attribute [local go_sem] Oper.semAt_some
set_option linter.unusedSimpArgs false
set_option linter.unusedVariables false

/-- A list's first values, and something else behind them. -/
def upto {α : Type} (j : Nat) (f : Nat → α) (z : α) (i : Nat) : α := if i < j then f i else z
theorem upto_zero {α : Type} (f : Nat → α) (z : α) : upto 0 f z = fun _ => z := by
  funext i
  unfold upto
  rw [if_neg (by omega)]
theorem upto_succ {α : Type} (j : Nat) (f : Nat → α) (z : α) : upto (j + 1) f z = upd2 (upto j f z) j (f j) := by
  funext i
  unfold upto upd2
  by_cases h : i = j
  · subst h; rw [if_pos (by omega), if_pos rfl]
  · rw [if_neg h]
    show _ = if i < j then f i else z
    by_cases h2 : i < j
    · rw [if_pos h2, if_pos (by omega)]
    · rw [if_neg h2, if_neg (by omega)]
theorem upto_lt {α : Type} {j i : Nat} (h : i < j) (f : Nat → α) (z : α) : upto j f z i = f i := by
  unfold upto
  rw [if_pos h]
theorem cell_far2 {W : World} {c : Addr} {v u1 u2 : Value} {b o1 o2 : Nat} (h : W.cell? c = some v) (hb : c.block ≠ b) : ((W.setCell ⟨b, o1, none⟩ u1).setCell ⟨b, o2, none⟩ u2).cell? c = some v := by
  rw [World.cell?_setCell_far _ _ _ _ (fun e => hb e.symm), World.cell?_setCell_far _ _ _ _ (fun e => hb e.symm)]
  exact h
set_option maxRecDepth 100000 in
set_option maxHeartbeats 6400000 in
theorem deriv_any (v1 : Value) (L C : List Int) (k : Nat) (w : World) (h1 : PolyAt w v1 L k) (hL : L.length ≤ 100000) (hk : k ≤ 1000000) (hC : C.length = (trm L).length - 1) (hco : ∀ i, i < C.length → co C i = co L (i + 1) * ((i : Int) + 1)) :
    Calls Tryz.prog 16 #[v1] w (PolyOut w C) := by
  have H1 := Lib.hid h1
  have HO := Lib.hid hco
  obtain ⟨n, hn⟩ : ∃ n, n = C.length := ⟨_, rfl⟩
  have HN := Lib.hid hn
  have tl := trm_len L
  have hn1 : n ≤ 100000 := by omega
  have HL := Lib.hid (show ∀ i, i < n → i + 1 < L.length by intro i hi; omega)
  obtain ⟨m, hm⟩ : ∃ m : Int, m = degZ L := ⟨_, rfl⟩
  have hm1 : (n : Int) = m ∨ (n = 0 ∧ m = -1) := by unfold degZ at hm; omega
  have HX := Lib.hid hm.symm
  obtain ⟨A, c, g, s, rfl, hcells⟩ := h1.cells
  have HCL := Lib.hid hcells
  clear hco hC hn hcells tl hm
  go_enter Tryz.func16, Tryz.ntmps16
  go_wp2_with fail
  refine (deg_any _ L k _ H1.out (by omega)).mono ?_
  rw [HX.out]
  rintro e W1 ⟨rfl, b1⟩
  go_wp2_with fail
  refine (blank_row _ n _ (by omega) (by omega) (by omega)).mono ?_
  rintro e W2 ⟨A0, rfl, R2, b2⟩
  have B2 := below_more b1 (Nat.le_refl _) b2
  have R0 := Lib.hid (show OwnRow W2 w.heap.size A0 n (upto 0 (fun i => sg (co C i)) false) (upto 0 (fun i => mg (co C i)) ⟨#[]⟩) by rw [upto_zero, upto_zero]; exact R2.wider b1.size)
  clear R2 b1 b2
  go_wp2_with fail
  go_loopg [11] n (fun q s11 wx => ∃ j : Nat, j + q = n ∧ s11 = .int .i64 (j : Int) ∧ OwnRow wx w.heap.size A0 n (upto j (fun i => sg (co C i)) false) (upto j (fun i => mg (co C i)) ⟨#[]⟩) ∧ Below w.heap.size w wx)
  case atStart => exact ⟨0, by omega, rfl, R0.out, B2⟩
  case round =>
    clear B2 R0
    obtain ⟨j, hj, rfl, R, B⟩ := hrel
    rcases gk with _ | q
    · obtain rfl : j = n := by omega
      have hjj : ¬ (j : Int) < (j : Int) := by omega
      go_wp2
      go_ret
      exact ⟨_, rfl, R.poly HN.out.symm (fun i hi => ⟨upto_lt hi _ _, upto_lt hi _ _⟩), B⟩
    · have hjn : (j : Int) < (n : Int) := by omega
      have hj0 : (0 : Int) ≤ (j : Int) := by omega
      have HJ := Lib.hid hj
      rcases R with ⟨h0, -⟩ | ⟨b0, rfl, hb0, P⟩
      · omega
      obtain ⟨j1, hj1⟩ : ∃ j1, j1 = j + 1 := ⟨_, rfl⟩
      have hjL := HL.out j (by omega)
      rw [← hj1] at hjL
      have hjl : (j1 : Int) < (L.length : Int) := by omega
      have hj2 : (0 : Int) ≤ (j1 : Int) := by omega
      have hw : IntKind.i64.wrap ((j : Int) + 1) = (j1 : Int) := by rw [IntKind.wrap_i64]; omega
      have hj3 : (j1 : Int) ≤ 100000 := by omega
      obtain ⟨a, rfl, ha, c0, c1, hI⟩ := HCL.out j1 hjL
      have HI := Lib.hid hI
      obtain ⟨z, Hz⟩ : ∃ z : Int, Hid (co C j = z) := ⟨_, Lib.hid rfl⟩
      have HZ := Lib.hid (show co L j1 * (j1 : Int) = z by rw [← Hz.out, hj1]; exact (HO.out j (by rw [← HN.out]; omega)).symm)
      have HOF := Lib.hid (show IsInt (.agg #[.bool (sg (j1 : Int)), .string (mg (j1 : Int))]) (j1 : Int) 1 from isInt_mg (by omega) (by omega))
      have x0 := cell_keep c0 B
      have x1 := cell_keep c1 B
      obtain ⟨p1, p2, p3, p4⟩ := P.cell (show j < n by omega)
      have KB := (Below.refl wr.heap.size wr).drew
      have HJ1 := Lib.hid hj1
      clear hj hI c0 c1 hj1
      have hne : (a.add (j1 * 2)).block ≠ b0 := by rw [addr_block]; omega
      go_upto_region 5 with fail
      go_region_held3 (fun W => W.cell? (a.add (j1 * 2)) = some (.bool (g j1)) ∧ W.cell? ⟨(a.add (j1 * 2)).block, (a.add (j1 * 2)).off + 1, none⟩ = some (.string (s j1))) (first | (with_reducible exact ⟨cell_keep x0 KB, cell_keep x1 KB⟩) | (with_reducible exact ⟨cell_far2 (cell_keep x0 KB) hne, cell_far2 (cell_keep x1 KB) hne⟩) | exact ⟨cell_far2 (cell_keep x0 KB) hne, cell_far2 (cell_keep x1 KB) hne⟩ | go_keep)
        (first
          | (go_at_call 43; (with_reducible refine (iof_any _ _ (by omega) (by omega)).mono ?_); rintro e W5 ⟨rfl, b5⟩; have KB := below_more KB (Nat.le_refl _) b5)
          | (go_at_call 42; (with_reducible refine (imul_eq HI.out HOF.out HZ.out).mono ?_); rintro e W6 ⟨rfl, b6⟩; have KB := below_more KB (Nat.le_refl _) b6; have P6 := P.keep KB; obtain ⟨p1, p2, p3, p4⟩ := P6.cell (show j < n by have := HJ.out; omega)))
      have PS := Lib.hid (P6.set j (sg z) (mg z))
      have BS := Lib.hid (((below_more B (Nat.le_refl _) KB).setCell (p := ⟨b0, j * 2, none⟩) hb0 (.bool (sg z))).setCell (p := ⟨b0, j * 2 + 1, none⟩) hb0 (.string (mg z)))
      clear x0 x1 p1 p2 p3 p4 P B P6 b5 b6
      go_wp2_with fail
      go_roundg q
      case measure => omega
      case rel =>
        refine ⟨j1, by have := HJ.out; have := HJ1.out; omega, rfl, .inr ⟨b0, rfl, hb0, ?_⟩, BS.out⟩
        rw [HJ1.out, upto_succ, upto_succ, Hz.out]
        exact PS.out
end Go.Proofs.YtgcogpfmhmmgdaaGreatDoor
