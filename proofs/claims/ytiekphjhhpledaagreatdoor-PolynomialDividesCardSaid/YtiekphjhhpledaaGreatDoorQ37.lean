/- The text that Print writes tells the polynomial. Condition: at most 10^6 coefficients. What PolynomialDivides wants besides: bounds on quotients and rests, a power as a polynomial. -/
import Derived.Test.YtiekphjhhpledaaGreatDoorQ31
import Derived.Test.YtiekphjhhpledaaGreatDoorQ30
import Derived.Test.YtiekphjhhpledaaGreatDoorQ36
import Derived.Test.YtiekphjhhpledaaGreatDoorQ33
import Derived.Test.YtiekphjhhpledaaGreatDoorQ28

namespace Go.Proofs.YtiekphjhhpledaaGreatDoor
open Go.RowKit

def DZ (n : Nat) : List UInt8 := prZ (n : Int)
theorem digs_DZ : Digs DZ where
  inj := fun m n h => by
    have h1 := pz_print (m : Int)
    have h2 := pz_print (n : Int)
    unfold DZ at h
    rw [h, h2] at h1
    have := Option.some.inj h1
    omega
  dig := fun n b hb => by
    unfold DZ at hb
    rcases Nat.eq_zero_or_pos n with rfl | h
    · have e : prZ ((0 : Nat) : Int) = [48] := rfl
      rw [e] at hb
      have := List.mem_singleton.1 hb
      subst this
      decide
    · rw [prZ_pos h] at hb
      have := List.all_eq_true.1 (pr_facts n).2.1 b hb
      unfold digB at this
      rw [Bool.and_eq_true] at this
      have h1 := of_decide_eq_true this.1
      have h2 := of_decide_eq_true this.2
      exact ⟨UInt8.le_iff_toNat_le.2 (by simpa using h1), UInt8.le_iff_toNat_le.2 (by simpa using h2)⟩
  ne := fun n => by
    unfold DZ
    rcases Nat.eq_zero_or_pos n with rfl | h
    · decide
    · rw [prZ_pos h]
      obtain ⟨b, t, e, -⟩ := (pr_facts n).2.2 h
      rw [e]
      simp
  one := by kernel_rfl
  zero := rfl
theorem dec_DZ {e : Nat} (h0 : 0 < e) (h : e < 1000000000) : Lib.decDigits e = DZ e := by
  unfold DZ
  rw [prZ_pos h0, gs_pos (by omega), Nat.mod_eq_of_lt h, Nat.div_eq_of_lt h, gs_zero]
  show _ = prS [] ++ (if ([] : List Nat) = [] then Lib.decDigits e else pad9 e)
  rw [if_pos rfl]
  rfl
theorem tmW_tmT (c e : Nat) (h : e < 1000000000) : tmW c e = tmT DZ c e := by
  have hd : 1 < e → Lib.decDigits e = DZ e := fun h1 => dec_DZ (by omega) h
  have hz : prZ (c : Int) = DZ c := rfl
  unfold tmW tmT
  rw [hz]
  rcases (show e = 0 ∨ e = 1 ∨ 1 < e by omega) with rfl | rfl | h1
  · rfl
  · by_cases hc : DZ c = [49] <;> simp [hc]
  · have h0 : e ≠ 0 := by omega
    have h2 : e ≠ 1 := by omega
    rw [hd h1]
    by_cases hc : DZ c = [49] <;> simp [hc, h0, h1, h2]
/-- A term as the plain text has it. -/
def tmF {L : List Int} (x : Tm L) : Bool × Nat × Nat := (decide (co L x.1 < 0), (co L x.1).natAbs, x.1)
theorem tms_tmx (L : List Int) : ∀ n, tms L n = (tmx L n).map tmF := fun n => by
  induction n with
  | zero => rfl
  | succ n ih =>
    unfold tms tmx
    by_cases h : co L n = 0
    · rw [if_pos h, dif_pos h, ih]
    · rw [if_neg h, dif_neg h, ih]; rfl
theorem fold_txt {L : List Int} : ∀ (l : List (Tm L)) (a : List UInt8), (∀ x ∈ l, x.1 < 1000000000) →
    l.foldl (fun a x => a ++ sgn1 (decide (a.length = 0)) (decide (co L x.1 < 0)) ++ tmW (co L x.1).natAbs x.1) a = a ++ txt DZ (decide (a.length = 0)) (l.map tmF) := fun l => by
  induction l with
  | nil => intro a _; show a = a ++ []; rw [List.append_nil]
  | cons x l ih =>
    intro a h
    have hx := tmW_tmT (co L x.1).natAbs x.1 (h x List.mem_cons_self)
    have hne : tmT DZ (co L x.1).natAbs x.1 ≠ [] := tmT_ne digs_DZ _ _
    have hl : 0 < (tmT DZ (co L x.1).natAbs x.1).length := List.length_pos_iff.2 hne
    rw [List.foldl_cons, ih _ (fun y hy => h y (List.mem_cons_of_mem _ hy)), hx]
    have hd : decide ((a ++ sgn1 (decide (a.length = 0)) (decide (co L x.1 < 0)) ++ tmT DZ (co L x.1).natAbs x.1).length = 0) = false := decide_eq_false (by rw [List.length_append]; omega)
    rw [hd, List.map_cons]
    show _ = a ++ (sgn1 (decide (a.length = 0)) (decide (co L x.1 < 0)) ++ tmT DZ (co L x.1).natAbs x.1 ++ txt DZ false (l.map tmF))
    rw [List.append_assoc, List.append_assoc, List.append_assoc]
theorem prL_prP {L : List Int} (h : L.length ≤ 1000000) : prL L = prP DZ L := by
  have e : prW (tmx L L.length) = txt DZ true (tms L L.length) := by
    rw [tms_tmx]
    unfold prW
    rw [fold_txt _ _ (fun x _ => by have := x.2; rcases Nat.lt_or_ge x.1 L.length with h1 | h1; omega; exact absurd (co_ge h1) this)]
    rfl
  unfold prL prP
  rw [e]
  by_cases h0 : txt DZ true (tms L L.length) = []
  · rw [if_pos (by rw [h0]; rfl), if_pos h0]
  · rw [if_neg (fun h1 => h0 (List.eq_nil_of_length_eq_zero h1)), if_neg h0]
theorem tms_congr {L M : List Int} (h : ∀ i, co L i = co M i) : ∀ n, tms L n = tms M n := fun n => by
  induction n with
  | zero => rfl
  | succ n ih => unfold tms; rw [h n, ih]
theorem prL_trm {L : List Int} (h : L.length ≤ 1000000) : prL (trm L) = prL L := by
  have ht := trm_len L
  rw [prL_prP h, prL_prP (by omega)]
  have e : tms (trm L) (trm L).length = tms L L.length := by
    rw [tms_congr (M := L) (fun i => co_trm L i)]
    exact tms_trm L (Nat.le_refl _) ht
  unfold prP
  rw [e]
theorem prL_iff {L M : List Int} (h : L.length ≤ 1000000) (h' : M.length ≤ 1000000) : prL L = prL M ↔ trm L = trm M := by
  constructor
  · rw [prL_prP h, prL_prP h']
    exact prP_inj digs_DZ
  · intro e
    rw [← prL_trm h, ← prL_trm h', e]
end Go.Proofs.YtiekphjhhpledaaGreatDoor

namespace Go.Proofs.YtiekphjhhpledaaGreatDoor
open Go.RowKit Go.Shelf
set_option linter.unusedSimpArgs false
set_option linter.unusedVariables false

theorem divR_bd {M : List Int} {n k m : Nat} {c : Int} (hc : c.natAbs < 4294967296 ^ k) (hM : PB M k) (hn : (trm M).length = n + 1) : ∀ (st kj : Nat) (Q R : List Int), PB Q kj → PB R kj → Q.length ≤ m → R.length ≤ m → st + n ≤ m →
    PB (divR M n c st Q R).1 (kj + st * (k + 1)) ∧ PB (divR M n c st Q R).2 (kj + st * (k + 1)) ∧ (divR M n c st Q R).1.length ≤ m ∧ (divR M n c st Q R).2.length ≤ m := by
  intro st
  induction st with
  | zero => intro kj Q R h1 h2 h3 h4 _; exact ⟨by simpa [divR] using h1, by simpa [divR] using h2, h3, h4⟩
  | succ st ih =>
    intro kj Q R h1 h2 h3 h4 h5
    obtain ⟨q1, q2, -⟩ := stepQ_facts (p := st) (m := m) hc (h2 (st + n)) h1 h3 (by omega)
    obtain ⟨r1, r2, -⟩ := stepR_facts (p := st) (m := m) hc (h2 (st + n)) hM h2 h4 (by omega)
    have e : kj + (st + 1) * (k + 1) = k + kj + 1 + st * (k + 1) := by rw [Nat.add_mul]; omega
    rw [e]
    exact ih (k + kj + 1) _ _ q1 r1 q2 r2 (by omega)
theorem pow_bd {z : Int} (h : z.natAbs < 4294967296 ^ 4) {i : Nat} (hi : i ≤ 60) : (z ^ i).natAbs < 4294967296 ^ 241 := by
  rw [Int.natAbs_pow]
  refine Nat.lt_of_le_of_lt (Nat.pow_le_pow_left (Nat.le_of_lt h) i) ?_
  rw [← Nat.pow_mul]
  exact Nat.pow_lt_pow_right (by decide) (by omega)
theorem power_list {W : World} {n : Nat} {z : Int} {T : TypeId} : PolyS (W.alloc (.cells #[.bool (sg (z ^ n)), .string (mg (z ^ n))] T)) (.slice (some ⟨W.heap.size, 0, none⟩) 1 1) [z ^ n] := by
  refine ⟨_, 1, rfl, Nat.le_refl _, fun i hi => ⟨W.heap.size, rfl, ?_⟩⟩
  obtain rfl : i = 0 := by simpa using hi
  exact ⟨by simp [co], by simp [co]⟩
set_option maxRecDepth 100000 in
set_option maxHeartbeats 3200000 in
theorem power_any (v : Value) (z : Int) (n : Nat) (w : World) (h : IsInt v z 4) (hn : n ≤ 60) :
    Calls Tryz.prog 15 #[v, .int .i64 (n : Int)] w (ListOut w [z ^ n]) := by
  have H := Lib.hid h
  obtain ⟨g, s, rfl, -⟩ := h
  have HO := Lib.hid (fun W => iof_any 1 W (by omega) (by omega))
  have h1z : z ^ 0 = 1 := Int.pow_zero z
  have HM := Lib.hid (fun (i : Nat) (W : World) (hi : i ≤ 60) => imul_any (.agg #[.bool (sg (z ^ i)), .string (mg (z ^ i))]) (.agg #[.bool g, .string s]) (z ^ i) z 241 4 W (isInt_mg (pow_bd H.out.bd hi) (by omega)) H.out)
  simp only [← Int.pow_succ] at HM
  go_enter Tryz.func15, Tryz.ntmps15
  go_wp2_with (go_at_call 32; (with_reducible refine (HO.out _).mono ?_); rintro e W1 ⟨rfl, b1⟩; (have hbw := below_more (below1 _ _) (Nat.le_refl _) b1); (have hsz := b1.size); (rw [World.size_alloc] at hsz); (have cg : W1.cell? ⟨w.heap.size, 0, none⟩ = some (.bool g) := cell_keep (by simp) b1); (have cs : W1.cell? ⟨w.heap.size, 1, none⟩ = some (.string s) := cell_keep (by simp) b1))
  obtain ⟨p, hp⟩ : ∃ p, W1.heap.size = p := ⟨_, rfl⟩
  rw [hp]
  rw [hp] at hsz
  go_loopg [8] n (fun q s8 wx => ∃ i : Nat, i + q = n ∧ s8 = .int .i64 (i : Int) ∧ wx.cell? ⟨p, 0, none⟩ = some (.bool (sg (z ^ i))) ∧ wx.cell? ⟨p, 1, none⟩ = some (.string (mg (z ^ i))) ∧ wx.cell? ⟨w.heap.size, 0, none⟩ = some (.bool g) ∧ wx.cell? ⟨w.heap.size, 1, none⟩ = some (.string s) ∧ wx.frozen? ⟨p, 0, none⟩ = false ∧ wx.frozen? ⟨p, 1, none⟩ = false ∧ Below w.heap.size w wx ∧ p < wx.heap.size)
  case atStart =>
    subst hp
    exact ⟨0, by omega, rfl, by rw [h1z]; simp, by rw [h1z]; simp, cell_keep cg (below1 _ _), cell_keep cs (below1 _ _), by rw [frozen?_alloc_cells]; simp [World.frozen?], by rw [frozen?_alloc_cells]; simp [World.frozen?], below_more hbw (Nat.le_refl _) (below1 _ _), by rw [World.size_alloc]; omega⟩
  case round =>
    obtain ⟨i, hin, rfl, t1, t2, t3, t4, hfz, hfy, hb, hps⟩ := hrel
    rcases gk with _ | q
    · obtain rfl : i = n := by omega
      go_wp2
      go_ret
      exact ⟨_, rfl, power_list, below_more hb (Nat.le_refl _) (below1 _ _)⟩
    · have HMi := Lib.hid (HM.out i wr (by omega))
      go_wp2_with (go_at_call 26; (with_reducible refine (HMi.out).mono ?_); rintro e W2 ⟨rfl, b2⟩; (have hfz := frozen_keep t1 hfz b2); (have hfy := frozen_keep t2 hfy b2); (have t1 := cell_keep t1 b2); (have t2 := cell_keep t2 b2); (have t3 := cell_keep t3 b2); (have t4 := cell_keep t4 b2); (have hb2 := below_more hb (Nat.le_refl _) b2); (have hs2 := b2.size))
      obtain ⟨⟨u1, u2⟩, u3, u4⟩ := stI_same (y := z ^ (i + 1)) ⟨t1, t2, hfz, hfy⟩
      have x3 : (stI W2 p (z ^ (i + 1))).cell? ⟨w.heap.size, 0, none⟩ = some (.bool g) := by
        unfold stI
        rw [World.cell?_setCell_far _ _ _ _ (show p ≠ w.heap.size by omega), World.cell?_setCell_far _ _ _ _ (show p ≠ w.heap.size by omega)]
        exact t3
      have x4 : (stI W2 p (z ^ (i + 1))).cell? ⟨w.heap.size, 1, none⟩ = some (.string s) := by
        unfold stI
        rw [World.cell?_setCell_far _ _ _ _ (show p ≠ w.heap.size by omega), World.cell?_setCell_far _ _ _ _ (show p ≠ w.heap.size by omega)]
        exact t4
      have x5 : Below w.heap.size w (stI W2 p (z ^ (i + 1))) := hb2.trans (stI_below (by omega))
      have x6 : (stI W2 p (z ^ (i + 1))).heap.size = W2.heap.size := by unfold stI; rw [World.size_setCell, World.size_setCell]
      go_roundg q
      case measure => omega
      case rel => exact ⟨i + 1, by omega, by go_num, u1, u2, x3, x4, u3, u4, x5, by show p < (stI W2 p (z ^ (i + 1))).heap.size; rw [x6]; omega⟩
/-- What returns two lists that can be read. -/
def DvOut2 (w : World) (Q R : List Int) (e : Ending) (w' : World) : Prop := ∃ q r, e = .returned (.tuple #[q, r, .int .i64 0]) ∧ PolyS w' q Q ∧ PolyS w' r R ∧ Below w.heap.size w w'
theorem divG {v1 v2 : Value} {L M Q R : List Int} {n : Nat} {w : World} (h1 : PolyAt w v1 L 4) (h2 : PolyAt w v2 M 4) (hL : L.length ≤ 40) (hM : M.length ≤ 40) (hm : (trm M).length = n + 1) (hrun : divR M n (co M n) ((trm L).length - n) [] (trm L) = (Q, R)) :
    Calls Tryz.prog 14 #[v1, v2] w (DvOut2 w Q R) := by
  have t1 := trm_len L
  have t2 := trm_len M
  refine (pDivide_any v1 v2 L M Q R n 4 (co M n) w h1 h2 (by omega) (by omega) (by omega) hm (by omega) (by omega) (by omega) rfl hrun).mono ?_
  rintro e W ⟨q, r, rfl, hq, hr, hb⟩
  exact ⟨q, r, rfl, hq.polyS, hr.polyS, hb⟩
theorem mulK {v1 v2 : Value} {L M : List Int} {w : World} {k : Nat} (h1 : PolyAt w v1 L k) (h2 : PolyAt w v2 M k) (hk : k ≤ 1000) (hL : L.length ≤ 33) (hM : M.length ≤ 33) :
    Calls Tryz.prog 8 #[v1, v2] w (MulOut w (trm (prodL L M))) := by
  have t1 := trm_len L
  have t2 := trm_len M
  by_cases h0 : trm L = []
  · refine (pmul_zero1 v1 v2 L M k w h1 h2 (by omega) h0).mono ?_
    rintro e W ⟨rfl, hb⟩
    exact ⟨_, rfl, by rw [trm_mul_zero L M (.inl h0)]; exact polyS_nil _, hb⟩
  · by_cases h00 : trm M = []
    · refine (pmul_zero2 v1 v2 L M k w h1 h2 (by omega) (by omega) h0 h00).mono ?_
      rintro e W ⟨rfl, hb⟩
      exact ⟨_, rfl, by rw [trm_mul_zero L M (.inr h00)]; exact polyS_nil _, hb⟩
    · refine (pmul_pos v1 v2 L M _ k w h1 h2 (by omega) (by omega) (by omega) h0 h00 (by omega) rfl).mono ?_
      rintro e W ⟨v, rfl, hP, hb⟩
      exact ⟨v, rfl, hP.polyS, hb⟩
theorem addK {v1 v2 : Value} {L M : List Int} {w : World} {k : Nat} (h1 : PolyAt w v1 L k) (h2 : PolyAt w v2 M k) (hk : k ≤ 1000) (hL : L.length ≤ 100) (hM : M.length ≤ 100) (hb : PB (addL L M) k) :
    Calls Tryz.prog 9 #[v1, v2] w (ListOut w (trm (addL L M))) := by
  refine (padd_any v1 v2 L M _ k k w h1 h2 (by omega) (by omega) (by omega) (trm_trm _) (fun i => by rw [co_trm, co_addL]) (pb_trm hb) (by omega)).mono ?_
  rintro e W ⟨v, rfl, hP, hb⟩
  exact ⟨v, rfl, hP.polyS, hb⟩
theorem mulL_nil (g : Nat → Int) (i : Nat) : mulL [] g i = 0 := rfl
theorem mulL_single (z : Int) (g : Nat → Int) (i : Nat) : mulL [z] g i = z * g i := by
  cases i with
  | zero => rw [mulL_0]
  | succ i => rw [mulL_S, mulL_nil, Int.add_zero]
/-- The law's equation, its rest's degree, what is bounded. -/
theorem div_facts {A B Q R : List Int} {n st : Nat} (hm : (trm B).length = n + 1) (hst : (trm A).length - n = st) (hrun : divR B n (co B n) st [] (trm A) = (Q, R)) (lA : A.length ≤ 8) (lB : B.length ≤ 8) (pA : PB A 4) (pB : PB B 4) :
    trm (prodL [co B n ^ st] A) = trm (addL (trm (prodL Q B)) R) ∧ degZ R < (n : Int) ∧ PB Q 44 ∧ PB R 44 ∧ Q.length ≤ 20 ∧ R.length ≤ 20 := by
  have t1 := trm_len A
  have t2 := trm_len B
  obtain ⟨e1, e2⟩ := divR_eq (b := B) (n := n) (c := co B n) (fun i hi => trm_above B (by omega)) rfl st [] (trm A) (fun i hi => by rw [co_trm]; exact trm_above A (by omega))
  obtain ⟨q1, q2, q3, q4⟩ := divR_bd (M := B) (n := n) (k := 4) (m := 20) (c := co B n) (pB n) pB hm st 4 [] (trm A) (fun i => by rw [co_nil]; exact Nat.pow_pos (by omega)) (pb_trm pA) (by simp) (by omega) (by omega)
  rw [hrun] at e1 e2 q1 q2 q3 q4
  have hw : ∀ {L : List Int}, PB L (4 + st * (4 + 1)) → PB L 44 := fun h i => Nat.lt_of_lt_of_le (h i) (Nat.pow_le_pow_right (by decide) (by omega))
  refine ⟨trm_eq fun i => ?_, ?_, hw q1, hw q2, q3, q4⟩
  · have := e1 i
    rw [co_prodL, mulL_single, co_addL, co_trm, co_prodL, ← this, mulL_nil, Int.zero_add, co_trm]
  · have : (trm R).length ≤ n := by
      rcases Nat.lt_or_ge n (trm R).length with h | h
      · exfalso
        obtain ⟨j, hj⟩ : ∃ j, (trm R).length = j + 1 := ⟨(trm R).length - 1, by omega⟩
        exact trm_last R hj (e2 j (by omega))
      · exact h
    unfold degZ
    omega
/-- A product leaves no rest. -/
theorem none_facts {A B Q R : List Int} {n st : Nat} (hm : (trm B).length = n + 1) (hst : (trm (trm (prodL A B))).length - n = st) (hrun : divR B n (co B n) st [] (trm (trm (prodL A B))) = (Q, R)) : R = [] := by
  have h := divR_none (a := A) (b := B) (n := n) (c := co B n) (fun i hi => trm_above B (by omega)) rfl (trm_last B hm) st (trm (trm (prodL A B))) (fun i => by rw [co_trm, co_trm, co_prodL]) (fun i hi => by
    rw [co_trm]; exact trm_above _ (by omega))
  obtain ⟨-, t⟩ := divR_trm (b := B) (n := n) (c := co B n) st [] (trm (trm (prodL A B))) rfl (trm_trm _)
  rw [hrun] at h t
  dsimp only at h t
  rw [← t]
  exact (trm_nil_iff _).2 h
end Go.Proofs.YtiekphjhhpledaaGreatDoor
