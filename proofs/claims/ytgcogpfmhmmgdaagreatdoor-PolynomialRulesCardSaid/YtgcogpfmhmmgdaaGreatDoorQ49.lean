/- groovelaw03.awake: the calls' contracts at its examples. PolynomialRules: what its walk wants: contracts in the law's form, values, the product rule, and a variable of a rational number that a drawn region makes. Condition: at most 33 coefficients below 2^128. PolynomialRules returns true for small polynomials and short numbers. Condition: its own table, and what is in memory. -/
import Derived.Test.YtgcogpfmhmmgdaaGreatDoorQ39
import Derived.Test.YtgcogpfmhmmgdaaGreatDoorQ31
import Derived.Test.YtgcogpfmhmmgdaaGreatDoorQ48
import Derived.Test.YtgcogpfmhmmgdaaGreatDoorQ40
import Derived.Test.YtgcogpfmhmmgdaaGreatDoorQ23
import Derived.Deep.RegionHeld3

namespace Go.Proofs.YtgcogpfmhmmgdaaGreatDoor
open Go.RowKit Go.Shelf
set_option linter.unusedSimpArgs false
set_option linter.unusedVariables false

theorem of_new (L : List Int) (n : Nat) (w : World) (hn : L.length = n) (hL : n ≤ 1000) (hb : ∀ z ∈ L, -9223372036854775808 ≤ z ∧ z ≤ 9223372036854775807) :
    Calls Tryz.prog 30 #[.slice (some ⟨w.heap.size, 0, none⟩) n n] (w.alloc (.cells (L.map fun z => Value.int .i64 z).toArray 3)) fun e w' => ∃ v, e = .returned v ∧ PolyS w' v L ∧ Below w.heap.size w w' := by
  have hbb : ∀ i, i < n → -9223372036854775808 ≤ co L i ∧ co L i ≤ 9223372036854775807 := fun i hi => hb _ (by
    have h := co_get (L := L) (i := i) (by omega)
    exact List.mem_of_getElem? h)
  refine (of_any w.heap.size n n L (w.alloc (.cells (L.map fun z => Value.int .i64 z).toArray 3)) hn hL hbb (fun i hi => ?_)).mono ?_
  · have h := co_get (L := L) (i := i) (by omega)
    simp [h]
  · rintro e w' ⟨v, rfl, h1, h2⟩
    exact ⟨v, rfl, h1, below_more (below1 w _) (Nat.le_refl _) h2⟩
theorem ex_divide {W : World} {v1 v2 : Value} (h1 : PolyS W v1 [1, -2, 0, 1]) (h2 : PolyS W v2 [-1, 1]) :
    Calls Tryz.prog 29 #[v1, v2] W fun e W' => ∃ q r, e = .returned (.tuple #[q, r, .int .i64 0]) ∧ PolyS W' q [-1, 1, 1] ∧ PolyS W' r [] ∧ Below W.heap.size W W' := by
  refine (pDivide_any v1 v2 [1, -2, 0, 1] [-1, 1] [-1, 1, 1] [] 1 1 1 W (h1.at (by omega) (pb_all (by decide))) (h2.at (by omega) (pb_all (by decide))) (by decide) (by decide) (by decide) (by decide) (by omega) (by omega) (by omega) (by decide) ex_div1).mono ?_
  rintro e W' ⟨q, r, rfl, h3, h4, h5⟩
  exact ⟨q, r, rfl, h3.polyS, h4.polyS, h5⟩
theorem ex_gcd {W : World} {v1 v2 : Value} (h1 : PolyS W v1 [-2, 0, 2]) (h2 : PolyS W v2 [-3, 3]) :
    Calls Tryz.prog 31 #[v1, v2] W fun e W' => ∃ v, e = .returned (.tuple #[v, .int .i64 0]) ∧ PolyS W' v [-1, 1] ∧ Below W.heap.size W W' := by
  refine (pGcd_any v1 v2 [-2, 0, 2] [-3, 3] [-1, 1] [] 1 1 W (h1.at (by omega) (pb_all (by decide))) (h2.at (by omega) (pb_all (by decide))) (by decide) (by decide) (by omega) (by omega) (by decide) (by decide) (by rw [ex_prim1, ex_prim2]; decide) (by rw [ex_prim1, ex_prim2]; exact run_gcd)).mono ?_
  rw [ex_cd1]
  rintro e W' ⟨v, rfl, h3, h5⟩
  exact ⟨v, rfl, h3.polyS, h5⟩
theorem ex_sqf {W : World} {v1 : Value} (h1 : PolyS W v1 [0, 0, -4, 4]) :
    Calls Tryz.prog 32 #[v1] W fun e W' => ∃ v, e = .returned (.tuple #[v, .int .i64 0]) ∧ PolyS W' v [0, -1, 1] ∧ Below W.heap.size W W' := by
  refine (psqf_any v1 [0, 0, -4, 4] [0, -2] [] [0, -4, 4] [] 1 2 1 1 W (h1.at (by omega) (pb_all (by decide))) (by decide) (by omega) (by omega) (by decide) (by decide) (by rw [ex_der]; exact pb_all (by decide)) (by rw [ex_der, ex_prim3, ex_prim4]; decide) (by rw [ex_der, ex_prim3, ex_prim4]; exact run_sqf) (by rw [ex_cd2]; decide) (by rw [ex_cd2]; decide) (by rw [ex_cd2]; exact pb_all (by decide)) (by omega) (by rw [ex_cd2]; decide) (by rw [ex_cd2]; exact ex_div2) (pb_all (by decide)) (by decide)).mono ?_
  rw [ex_prim5]
  rintro e W' ⟨v, rfl, h3, h5⟩
  exact ⟨v, rfl, h3.polyS, h5⟩
theorem ex_prL : prL [1, -2, 0, 1] = [120, 94, 51, 32, 45, 32, 50, 42, 120, 32, 43, 32, 49] := by kernel_rfl
theorem ex_print {W : World} {v1 : Value} (h1 : PolyS W v1 [1, -2, 0, 1]) (htab : Lib.TabIs Tryz.prog W "internal/strconv.uint64pow10" .u64 Lib.pow10Tab) :
    Calls Tryz.prog 18 #[v1] W fun e W' => e = .returned (.string ⟨#[120, 94, 51, 32, 45, 32, 50, 42, 120, 32, 43, 32, 49]⟩) ∧ Below W.heap.size W W' := by
  refine (pPrint_any v1 [1, -2, 0, 1] 1 W (h1.at (by omega) (pb_all (by decide))) (by decide) (by omega) htab ?_).mono ?_
  · have e1 : prZ 1 = [49] := by kernel_rfl
    have e2 : prZ 2 = [50] := by kernel_rfl
    rintro ⟨x, hx⟩
    rcases x with _ | _ | _ | _ | x
    · show (prZ 1).length ≤ 100000
      rw [e1]; decide
    · show (prZ 2).length ≤ 100000
      rw [e2]; decide
    · exact absurd rfl hx
    · show (prZ 1).length ≤ 100000
      rw [e1]; decide
    · exact absurd rfl hx
  · rw [ex_prL]
    exact fun e W' h => h
set_option maxRecDepth 100000 in
set_option maxHeartbeats 12800000 in
theorem awake_any (w : World) (htab : Lib.TabIs Tryz.prog w "internal/strconv.uint64pow10" .u64 Lib.pow10Tab) :
    Calls Tryz.prog 6 #[] w fun e w' => e = .returned (.bool true) ∧ Below w.heap.size w w' := by
  have HT := Lib.hid htab
  have HO1 := Lib.hid (fun W => of_new [1, -2, 0, 1] 4 W rfl (by omega) (by decide))
  have HO2 := Lib.hid (fun W => of_new [-1, 1] 2 W rfl (by omega) (by decide))
  have HO3 := Lib.hid (fun W => of_new [-2, 0, 2] 3 W rfl (by omega) (by decide))
  have HO4 := Lib.hid (fun W => of_new [-3, 3] 2 W rfl (by omega) (by decide))
  have HO5 := Lib.hid (fun W => of_new [0, 0, -4, 4] 4 W rfl (by omega) (by decide))
  have HO6 := Lib.hid (fun W => of_new [-1, 1, 1] 3 W rfl (by omega) (by decide))
  have HO7 := Lib.hid (fun W => of_new [-1, 1] 2 W rfl (by omega) (by decide))
  have HO8 := Lib.hid (fun W => of_new [0, -1, 1] 3 W rfl (by omega) (by decide))
  have HO9 := Lib.hid (fun W => of_new [1, -2, 0, 1] 4 W rfl (by omega) (by decide))
  simp only [List.map_cons, List.map_nil] at HO1 HO2 HO3 HO4 HO5 HO6 HO7 HO8 HO9
  go_enter Tryz.func6, Tryz.ntmps6
  go_wp2_with (first
    | (go_at_call 30; (with_reducible refine (HO1.out _).mono ?_); rintro e W1 ⟨v1, rfl, p1, b1⟩; (clear HO1); (have B := b1))
    | (go_at_call 30; (with_reducible refine (HO2.out _).mono ?_); rintro e W2 ⟨v2, rfl, p2, b2⟩; (clear HO2); (have p1 := p1.keep b2); (have B := below_more B (Nat.le_refl _) b2))
    | (go_at_call 29; (with_reducible refine (ex_divide p1 p2).mono ?_); rintro e W3 ⟨q, r, rfl, pq, pr, b3⟩; (obtain ⟨Ar, cr, rfl⟩ := pr.slice); (clear p1 p2); (have B := below_more B (Nat.le_refl _) b3))
    | (go_at_call 30; (with_reducible refine (HO3.out _).mono ?_); rintro e W4 ⟨v3, rfl, pv3, bb⟩; (clear HO3); (have pq := pq.keep bb); (have B := below_more B (Nat.le_refl _) bb))
    | (go_at_call 30; (with_reducible refine (HO4.out _).mono ?_); rintro e W5 ⟨v4, rfl, pv4, bb⟩; (clear HO4); (have pq := pq.keep bb); (have pv3 := pv3.keep bb); (have B := below_more B (Nat.le_refl _) bb))
    | (go_at_call 31; (with_reducible refine (ex_gcd pv3 pv4).mono ?_); rintro e W6 ⟨g, rfl, pg, bb⟩; (clear pv3 pv4); (have pq := pq.keep bb); (have B := below_more B (Nat.le_refl _) bb))
    | (go_at_call 30; (with_reducible refine (HO5.out _).mono ?_); rintro e W7 ⟨v5, rfl, pv5, bb⟩; (clear HO5); (have pq := pq.keep bb); (have pg := pg.keep bb); (have B := below_more B (Nat.le_refl _) bb))
    | (go_at_call 32; (with_reducible refine (ex_sqf pv5).mono ?_); rintro e W8 ⟨sq, rfl, ps, bb⟩; (clear pv5); (have pq := pq.keep bb); (have pg := pg.keep bb); (have B := below_more B (Nat.le_refl _) bb))
    | (go_at_call 30; (with_reducible refine (HO6.out _).mono ?_); rintro e W9 ⟨v6, rfl, pv6, bb⟩; (clear HO6); (have pq := pq.keep bb); (have pg := pg.keep bb); (have ps := ps.keep bb); (have B := below_more B (Nat.le_refl _) bb))
    | (go_at_call 7; (with_reducible refine (equalP_any pq pv6 (by decide)).mono ?_); rintro e W10 ⟨rfl, bb⟩; (clear pq pv6); (have pg := pg.keep bb); (have ps := ps.keep bb); (have B := below_more B (Nat.le_refl _) bb))
    | (go_at_call 30; (with_reducible refine (HO7.out _).mono ?_); rintro e W11 ⟨v7, rfl, pv7, bb⟩; (clear HO7); (have pg := pg.keep bb); (have ps := ps.keep bb); (have B := below_more B (Nat.le_refl _) bb))
    | (go_at_call 7; (with_reducible refine (equalP_any pg pv7 (by decide)).mono ?_); rintro e W12 ⟨rfl, bb⟩; (clear pg pv7); (have ps := ps.keep bb); (have B := below_more B (Nat.le_refl _) bb))
    | (go_at_call 30; (with_reducible refine (HO8.out _).mono ?_); rintro e W13 ⟨v8, rfl, pv8, bb⟩; (clear HO8); (have ps := ps.keep bb); (have B := below_more B (Nat.le_refl _) bb))
    | (go_at_call 7; (with_reducible refine (equalP_any ps pv8 (by decide)).mono ?_); rintro e W14 ⟨rfl, bb⟩; (clear ps pv8); (have B := below_more B (Nat.le_refl _) bb))
    | (go_at_call 30; (with_reducible refine (HO9.out _).mono ?_); rintro e W15 ⟨v9, rfl, pv9, bb⟩; (clear HO9); (have B := below_more B (Nat.le_refl _) bb))
    | (go_at_call 18; (with_reducible refine (ex_print pv9 (tab_keep HT.out B)).mono ?_); rintro e W16 ⟨rfl, bb⟩; (clear pv9); (have B := below_more B (Nat.le_refl _) bb)))
  go_ret
  exact ⟨rfl, B⟩
end Go.Proofs.YtgcogpfmhmmgdaaGreatDoor

namespace Go.Proofs.YtgcogpfmhmmgdaaGreatDoor
open Go.RowKit Go.Shelf
set_option linter.unusedSimpArgs false
set_option linter.unusedVariables false

/-- What At returns for a list of small integers. -/
theorem atG {v vr : Value} {L : List Int} {q : Rat} {w : World} (h : PolyAt w v L 4) (hr : IsRat vr q 4) (hq : RatBd q 4) (hL : L.length ≤ 33) :
    Calls Tryz.prog 23 #[v, vr] w fun e w' => e = .returned (.tuple #[ratV (evL q L), .int .i64 0]) ∧ Below w.heap.size w w' :=
  at_any v vr L q 4 w h hr hq (by omega) (by have := trm_len L; omega) (by omega) (by omega)
theorem ev_sum (q : Rat) (A B : List Int) : evL q (trm (addL A B)) = evL q A + evL q B := by rw [evL_trm, evL_addL]
theorem ev_prod (q : Rat) (A B : List Int) : evL q (trm (prodL A B)) = evL q A * evL q B := by rw [evL_trm, evL_prodL]
theorem co_prod_congr {A A' B B' : List Int} (h1 : ∀ i, co A i = co A' i) (h2 : ∀ i, co B i = co B' i) (i : Nat) : co (prodL A B) i = co (prodL A' B') i := by
  rw [co_prodL, co_prodL, mulL_congr1 _ h1, mulL_congr _ h2]
/-- The derivative of a product. -/
theorem der_rule (A B : List Int) : trm (derX (trm (prodL A B))) = trm (addL (trm (prodL (trm (derX A)) B)) (trm (prodL A (trm (derX B))))) := trm_eq fun i => by
  rw [co_derX, co_trm, co_derProd, co_addL, co_addL, co_trm, co_trm]
  congr 1
  · exact co_prod_congr (fun j => by rw [co_trm, co_derX, co_dX]) (fun _ => rfl) i
  · exact co_prod_congr (fun _ => rfl) (fun j => by rw [co_trm, co_derX, co_dX]) i
/-- A number in lowest terms passes Check. -/
theorem check_ratV {q : Rat} {k : Nat} (h : RatBd q k) (hk : k ≤ 1000000) (w : World) :
    Calls Tryz.prog 26 #[ratV q] w fun e w' => e = .returned (.int .i64 0) ∧ Below w.heap.size w w' := by
  have := rcheck_anyP (sg q.num) (sg (q.den : Int)) (mg q.num) (mg (q.den : Int)) q true k w (isRat_ratV h (by omega)) (by simp [sameR])
  exact this
/-- A rational number's variable whose number has come up, or not yet. -/
def RFr (W : World) (p : Nat) : Prop := W.frozen? ⟨p, 0, none⟩ = false ∧ W.frozen? ⟨p, 1, none⟩ = false ∧ W.frozen? ⟨p, 2, none⟩ = false ∧ W.frozen? ⟨p, 3, none⟩ = false
def RIs (W : World) (p : Nat) (z : Rat) : Prop := RIn W p (sg z.num) (mg z.num) (sg (z.den : Int)) (mg (z.den : Int))
def SlR (B : Nat) (z : Rat) (F : Prop) (u : Value) (W : World) : Prop := ∃ p, u = .pointer (some ⟨p, 0, none⟩) ∧ B ≤ p ∧ (∃ g1 s1 g2 s2, RIn W p g1 s1 g2 s2 ∧ RFr W p) ∧ (F → RIs W p z)
theorem rfr_keep {W X : World} {p : Nat} {g1 g2 : Bool} {s1 s2 : ByteArray} (h : RIn W p g1 s1 g2 s2 ∧ RFr W p) (hb : Below W.heap.size W X) : RIn X p g1 s1 g2 s2 ∧ RFr X p :=
  ⟨h.1.keep hb, frozen_keep h.1.1 h.2.1 hb, frozen_keep h.1.2.1 h.2.2.1 hb, frozen_keep h.1.2.2.1 h.2.2.2.1 hb, frozen_keep h.1.2.2.2 h.2.2.2.2 hb⟩
theorem SlR.keep {B : Nat} {z : Rat} {F : Prop} {u : Value} {W X : World} (h : SlR B z F u W) (hb : Below W.heap.size W X) : SlR B z F u X := by
  obtain ⟨p, h1, h2, ⟨g1, s1, g2, s2, h3⟩, h4⟩ := h
  exact ⟨p, h1, h2, ⟨g1, s1, g2, s2, rfr_keep h3 hb⟩, fun f => (h4 f).keep hb⟩
theorem SlR.imp {B : Nat} {z : Rat} {F F' : Prop} {u : Value} {W : World} (h : SlR B z F u W) (hf : F' → F) : SlR B z F' u W := by
  obtain ⟨p, h1, h2, h3, h4⟩ := h
  exact ⟨p, h1, h2, h3, fun f => h4 (hf f)⟩
theorem SlR.new {B : Nat} {z : Rat} {F : Prop} {W : World} {t : TypeId} {g1 g2 : Bool} {s1 s2 : ByteArray} (hF : ¬F) (hb : B ≤ W.heap.size) : SlR B z F (.pointer (some ⟨W.heap.size, 0, none⟩)) (W.alloc (.cells #[.bool g1, .string s1, .bool g2, .string s2] t)) := by
  refine ⟨_, rfl, hb, ⟨g1, s1, g2, s2, ⟨?_, ?_, ?_, ?_⟩, ?_, ?_, ?_, ?_⟩, fun f => absurd f hF⟩ <;> simp [go_sem]
/-- A rational number stored in a variable. -/
def stR (W : World) (p : Nat) (z : Rat) : World := (((W.setCell ⟨p, 0, none⟩ (.bool (sg z.num))).setCell ⟨p, 1, none⟩ (.string (mg z.num))).setCell ⟨p, 2, none⟩ (.bool (sg (z.den : Int)))).setCell ⟨p, 3, none⟩ (.string (mg (z.den : Int)))
theorem stR_below {B p : Nat} {W : World} {z : Rat} (h : B ≤ p) : Below B W (stR W p z) := below4s (Below.refl B W) p h _ _ _ _
theorem SlR.put {B p : Nat} {z : Rat} {F F' : Prop} {W : World} (h : SlR B z F (.pointer (some ⟨p, 0, none⟩)) W) : SlR B z F' (.pointer (some ⟨p, 0, none⟩)) (stR W p z) := by
  obtain ⟨p', e, h2, ⟨g1, s1, g2, s2, ⟨a1, a2, a3, a4⟩, a5, a6, a7, a8⟩, -⟩ := h
  obtain rfl : p = p' := by injection e with e; injection e with e; injection e
  have key : RIs (stR W p z) p z ∧ RFr (stR W p z) p := by
    unfold stR RIs RFr
    refine ⟨⟨?_, ?_, ?_, ?_⟩, ?_, ?_, ?_, ?_⟩ <;> simp [go_sem, a1, a2, a3, a4, a5, a6, a7, a8]
  exact ⟨p, rfl, h2, ⟨_, _, _, _, key⟩, fun _ => key.1⟩
theorem RIs.far {W : World} {p q : Nat} {z y : Rat} (h : RIs W p z) (hne : p ≠ q) : RIs (stR W q y) p z :=
  RIn.set (RIn.set (RIn.set (RIn.set h _ (by exact hne) _) _ (by exact hne) _) _ (by exact hne) _) _ (by exact hne) _
/-- How large a value is. -/
theorem ev_bd {q : Rat} {L : List Int} (hq : RatBd q 4) (hb : PB L 4) (hl : L.length ≤ 33) : RatBd (evL q L) (65 * 4 + 1 + 1) := by
  have h := hzR_end L q.num q.den q.den_pos
  rw [Rat.num_divInt_den] at h
  rw [← h]
  have hB := hzR_bd L q.num (q.den : Int) (4294967296 ^ 4) (Nat.le_of_lt hq.1) (by rw [Int.natAbs_natCast]; exact Nat.le_of_lt hq.2) (fun i => Nat.le_of_lt (hb i)) L.length
  refine ratBd_divInt (k := 65 * 4 + 1) (Nat.lt_of_le_of_lt hB.1 (at_pow (k := 4) (by omega))) ?_
  rw [Int.natAbs_natCast]
  exact Nat.lt_of_le_of_lt (Nat.pow_le_pow_left (Nat.le_of_lt hq.2) _) (at_pow1 (k := 4) (by omega))
theorem prod_len (A B : List Int) : (trm (prodL A B)).length ≤ A.length + B.length := by
  have h1 := trm_len A
  have h2 := trm_len B
  by_cases ha : trm A = []
  · rw [trm_mul_zero A B (.inl ha)]; simp
  · by_cases hb : trm B = []
    · rw [trm_mul_zero A B (.inr hb)]; simp
    · rw [trm_len_mul A B ha hb]; omega
theorem derK {v1 : Value} {L : List Int} {w : World} (h1 : PolyAt w v1 L 4) (hL : L.length ≤ 100) :
    Calls Tryz.prog 16 #[v1] w (ListOut w (trm (derX L))) := by
  refine (deriv_any v1 L (trm (derX L)) 4 w h1 (by omega) (by omega) (trm_derX L) (fun i _ => by rw [co_trm, co_derX])).mono ?_
  rintro e W ⟨v, rfl, hP, hb⟩
  exact ⟨v, rfl, hP.polyS, hb⟩
theorem bd_derK {L : List Int} {N : Nat} (h : BD L N) (hL : L.length ≤ 100) : BD (trm (derX L)) (N * 100) := fun i => by
  rw [co_trm, co_derX]
  rcases Nat.lt_or_ge (i + 1) L.length with h1 | h1
  · rw [Int.natAbs_mul]
    exact Nat.mul_le_mul (h (i + 1)) (by omega)
  · rw [co_ge h1, Int.zero_mul]; exact Nat.zero_le _
theorem derX_le (L : List Int) : (trm (derX L)).length ≤ L.length := by rw [trm_derX]; have := trm_len L; omega
end Go.Proofs.YtgcogpfmhmmgdaaGreatDoor

namespace Go.Proofs.YtgcogpfmhmmgdaaGreatDoor
open Go.RowKit Go.Shelf
set_option linter.unusedSimpArgs false
set_option linter.unusedVariables false

/-- What the walk has: the number's box and the values' variables. -/
def RK (w : World) (p5 p9 p11 : Nat) (na : Bool) (sa : ByteArray) (nb : Bool) (sb : ByteArray) (x y : Rat) (W : World) : Prop :=
  (Below w.heap.size w W ∧ p11 + 1 ≤ W.heap.size) ∧ RIn W p5 na sa nb sb ∧ RIs W p9 x ∧ RIs W p11 y ∧ w.heap.size ≤ p5 ∧ p5 < p9 ∧ p9 < p11
theorem RK.keep {w W X : World} {p5 p9 p11 : Nat} {na nb : Bool} {sa sb : ByteArray} {x y : Rat} (h : RK w p5 p9 p11 na sa nb sb x y W) (hb : Below W.heap.size W X) : RK w p5 p9 p11 na sa nb sb x y X :=
  ⟨⟨below_more h.1.1 (Nat.le_refl _) hb, Nat.le_trans h.1.2 hb.size⟩, h.2.1.keep hb, h.2.2.1.keep hb, h.2.2.2.1.keep hb, h.2.2.2.2⟩
theorem RK.drew {w W : World} {p5 p9 p11 : Nat} {na nb : Bool} {sa sb : ByteArray} {x y : Rat} (h : RK w p5 p9 p11 na sa nb sb x y W) : RK w p5 p9 p11 na sa nb sb x y W.drew := h.keep (Below.refl _ _).drew
theorem addL_lenR (a b : List Int) : (addL a b).length ≤ a.length + b.length := by
  induction a generalizing b with
  | nil => unfold addL; simp
  | cons x a ih =>
    cases b with
    | nil => unfold addL; simp
    | cons y b => unfold addL; have := ih b; simp only [List.length_cons]; omega
theorem ratBd_up {q : Rat} {k k' : Nat} (h : RatBd q k) (hk : k ≤ k') : RatBd q k' := ⟨Nat.lt_of_lt_of_le h.1 (Nat.pow_le_pow_right (by omega) hk), Nat.lt_of_lt_of_le h.2 (Nat.pow_le_pow_right (by omega) hk)⟩
theorem max_sevenR {P : Program} (ts : Array TypeId) (t : TypeId) (k : IntKind) (w : World) :
    (Builtin.max_ ts t #[.int k 0, .int k 0, .int k 0, .int k 0, .int k 0, .int k 0, .int k 0]).run P w = .ok (.int k 0) w := by
  simp [Builtin.max_, Builtin.max2]
attribute [local go_sem] max_sevenR
theorem RK.far {w W : World} {p5 p9 p11 q : Nat} {na nb : Bool} {sa sb : ByteArray} {x y z : Rat} (h : RK w p5 p9 p11 na sa nb sb x y W) (hq : p11 + 1 ≤ q) : RK w p5 p9 p11 na sa nb sb x y (stR W q z) := by
  obtain ⟨⟨h1, h2⟩, h3, h4, h5, h6, h7, h8⟩ := h
  refine ⟨⟨h1.trans (stR_below (by omega)), by unfold stR; simp only [World.size_setCell]; exact h2⟩, ?_, h4.far (by omega), h5.far (by omega), h6, h7, h8⟩
  exact RIn.set (RIn.set (RIn.set (RIn.set h3 _ (by show p5 ≠ q; omega) _) _ (by show p5 ≠ q; omega) _) _ (by show p5 ≠ q; omega) _) _ (by show p5 ≠ q; omega) _
set_option maxRecDepth 100000 in
set_option maxHeartbeats 12800000 in
theorem prules_main (n1 n2 c1 c2 : Nat) (A1 A2 : Option Addr) (A B : List Int) (na nb : Bool) (sa sb : ByteArray) (q : Rat) (w : World) (P1' : PolyAt w (.slice A1 n1 c1) A 4) (P2' : PolyAt w (.slice A2 n2 c2) B 4)
    (hr : IsRat (.agg #[.bool na, .string sa, .bool nb, .string sb]) q 4) (hq : RatBd q 4)
    (l1 : A.length ≤ 8) (l2 : B.length ≤ 8) (D1 : BD A 4294967296) (D2 : BD B 4294967296) (htab : Lib.TabIs Tryz.prog w "internal/strconv.uint64pow10" .u64 Lib.pow10Tab)
    (HS' : ∀ (W : World) (T : TypeId) (p : Nat), Below w.heap.size w W → p = W.heap.size → Calls Tryz.prog 20 #[.slice (some ⟨p, 0, none⟩) 2 2] (W.alloc (.cells #[.slice A1 n1 c1, .slice A2 n2 c2] T)) fun e w' => e = .returned (.bool true) ∧ Below (W.alloc (.cells #[.slice A1 n1 c1, .slice A2 n2 c2] T)).heap.size (W.alloc (.cells #[.slice A1 n1 c1, .slice A2 n2 c2] T)) w')
    (HL' : ∀ (W : World) (T : TypeId), Calls Tryz.prog 21 #[.slice (some ⟨W.heap.size, 0, none⟩) 1 1] (W.alloc (.cells #[.bool na, .string sa, .bool nb, .string sb] T)) fun e w' => e = .returned (.bool false) ∧ Below (W.alloc (.cells #[.bool na, .string sa, .bool nb, .string sb] T)).heap.size (W.alloc (.cells #[.bool na, .string sa, .bool nb, .string sb] T)) w') :
    Calls Tryz.prog 4 #[.slice A1 n1 c1, .slice A2 n2 c2, .agg #[.bool na, .string sa, .bool nb, .string sb]] w fun e w' => e = .returned (.bool true) ∧ Below w.heap.size w w' := by
  have HT := Lib.hid htab
  have HS := Lib.hid HS'
  have HL := Lib.hid HL'
  have P1 := Lib.hid P1'
  have P2 := Lib.hid P2'
  have HR := Lib.hid (And.intro hr hq)
  have HBD := Lib.hid (And.intro D1 D2)
  clear htab HS' HL' P1' P2' hr hq D1 D2
  have R0 := RIn.new (W := w) (t := 33) (g1 := na) (s1 := sa) (g2 := nb) (s2 := sb) rfl
  have B0 := below1 w (.cells #[.bool na, .string sa, .bool nb, .string sb] 33)
  go_enter Tryz.func4, Tryz.ntmps4
  obtain ⟨t1, t2, t3, t4⟩ := id R0
  go_wp2_with fail
  refine (HS.out _ _ _ B0 (by rw [World.size_alloc])).mono ?_
  rintro e W1 ⟨rfl, b1⟩
  have R1 := (R0.keep (below1 _ _)).keep b1
  have B1 := below_more (below_more B0 (Nat.le_refl _) (below1 _ _)) (Nat.le_refl _) b1
  clear R0 B0 b1 t1 t2 t3 t4
  obtain ⟨t1, t2, t3, t4⟩ := id R1
  go_wp2_with fail
  refine (HL.out _ _).mono ?_
  rintro e W2 ⟨rfl, b2⟩
  have R2 := (R1.keep (below1 _ _)).keep b2
  have B2 := below_more (below_more B1 (Nat.le_refl _) (below1 _ _)) (Nat.le_refl _) b2
  clear R1 B1 b2 t1 t2 t3 t4
  go_wp2_with fail
  refine (mulG (P1.out.keep B2) (P2.out.keep B2) (by omega) (by omega)).mono ?_
  rintro e W3 ⟨v7, rfl, p7, b3⟩
  have R3 := R2.keep b3
  have B3 := below_more B2 (Nat.le_refl _) b3
  clear R2 B2 b3
  obtain ⟨t1, t2, t3, t4⟩ := id R3
  go_wp2_with fail
  refine (atG (P1.out.keep B3) HR.out.1 HR.out.2 (by omega)).mono ?_
  rintro e W4 ⟨rfl, b4⟩
  unfold ratV
  go_upto_region 5 with fail
  obtain ⟨x, hx⟩ : ∃ x, evL q A = x := ⟨_, rfl⟩
  rw [hx]
  have HX := Lib.hid hx
  clear hx
  have R4 := (R3.keep b4).keep (below1 _ (.cells #[.bool (sg x.num), .string (mg x.num), .bool (sg (x.den : Int)), .string (mg (x.den : Int))] 33))
  have X4 : RIs (W4.alloc (.cells #[.bool (sg x.num), .string (mg x.num), .bool (sg (x.den : Int)), .string (mg (x.den : Int))] 33)) W4.heap.size x := RIn.new rfl
  have B4 := below_more (below_more B3 (Nat.le_refl _) b4) (Nat.le_refl _) (below1 _ (.cells #[.bool (sg x.num), .string (mg x.num), .bool (sg (x.den : Int)), .string (mg (x.den : Int))] 33))
  have p74 := (p7.keep b4).keep (below1 _ (.cells #[.bool (sg x.num), .string (mg x.num), .bool (sg (x.den : Int)), .string (mg (x.den : Int))] 33))
  have l5 : w.heap.size < W4.heap.size := (R3.keep b4).lt
  clear R3 B3 b4 p7 t1 t2 t3 t4
  obtain ⟨W5, hW5⟩ : ∃ W5, W4.alloc (.cells #[.bool (sg x.num), .string (mg x.num), .bool (sg (x.den : Int)), .string (mg (x.den : Int))] 33) = W5 := ⟨_, rfl⟩
  rw [hW5] at R4 X4 B4 p74 ⊢
  obtain ⟨p9, hp9⟩ : ∃ p9, W4.heap.size = p9 := ⟨_, rfl⟩
  rw [hp9] at X4 l5 ⊢
  clear hW5 hp9
  obtain ⟨t1, t2, t3, t4⟩ := id R4
  go_wp2_with fail
  refine (atG (P2.out.keep B4) HR.out.1 HR.out.2 (by omega)).mono ?_
  rintro e W6 ⟨rfl, b6⟩
  unfold ratV
  go_upto_region 6 with fail
  obtain ⟨y, hy⟩ : ∃ y, evL q B = y := ⟨_, rfl⟩
  rw [hy]
  have HY := Lib.hid hy
  clear hy
  have bb := below1 W6 (.cells #[.bool (sg y.num), .string (mg y.num), .bool (sg (y.den : Int)), .string (mg (y.den : Int))] 33)
  have Y6 : RIs (W6.alloc (.cells #[.bool (sg y.num), .string (mg y.num), .bool (sg (y.den : Int)), .string (mg (y.den : Int))] 33)) W6.heap.size y := RIn.new rfl
  have K6 : RK w w.heap.size p9 W6.heap.size na sa nb sb x y (W6.alloc (.cells #[.bool (sg y.num), .string (mg y.num), .bool (sg (y.den : Int)), .string (mg (y.den : Int))] 33)) :=
    ⟨⟨below_more (below_more B4 (Nat.le_refl _) b6) (Nat.le_refl _) bb, by rw [World.size_alloc]; omega⟩, (R4.keep b6).keep bb, RIn.keep (RIn.keep X4 b6) bb, Y6, Nat.le_refl _, l5, RIn.lt (RIn.keep X4 b6)⟩
  have p76 := (p74.keep b6).keep bb
  clear R4 X4 B4 p74 b6 bb Y6 l5 t1 t2 t3 t4
  obtain ⟨W7, hW7⟩ : ∃ W7, W6.alloc (.cells #[.bool (sg y.num), .string (mg y.num), .bool (sg (y.den : Int)), .string (mg (y.den : Int))] 33) = W7 := ⟨_, rfl⟩
  rw [hW7] at K6 p76 ⊢
  obtain ⟨p11, hp11⟩ : ∃ p11, W6.heap.size = p11 := ⟨_, rfl⟩
  rw [hp11] at K6 ⊢
  clear hW7 hp11
  have HAdd := Lib.hid (fun W (b : Below w.heap.size w W) => addG (w := W) (P1.out.keep b) (P2.out.keep b) (by omega) (by omega) ((HBD.out.1.add HBD.out.2).pb (k := 5) (by decide)))
  obtain ⟨S, hS⟩ : ∃ S, trm (addL A B) = S := ⟨_, rfl⟩
  simp only [hS] at HAdd
  have HPS := Lib.hid (show PB S 4 by rw [← hS]; exact pb_trm ((HBD.out.1.add HBD.out.2).pb (k := 4) (by decide)))
  have HSl := Lib.hid (show S.length ≤ 33 by rw [← hS]; exact Nat.le_trans (trm_len _) (by have := addL_lenR A B; omega))
  have HAt := Lib.hid (fun W v (h : PolyS W v S) => atG (w := W) (h.at (by omega) HPS.out) HR.out.1 HR.out.2 HSl.out)
  have HSv := Lib.hid hS
  clear hS
  obtain ⟨z, hz⟩ : ∃ z, evL q S = z := ⟨_, rfl⟩
  simp only [hz] at HAt
  have HZ := Lib.hid hz
  clear hz
  obtain ⟨C, hC⟩ : ∃ C, trm (prodL A B) = C := ⟨_, rfl⟩
  rw [hC] at p76
  have HCv := Lib.hid hC
  clear hC
  have hB := K6.1.2
  have KB := And.intro K6.drew (Below.refl W7.heap.size W7).drew
  have HC7 := Lib.hid p76
  clear K6 p76
  unfold ratV at HAt
  have hmx : Tryz.prog.follows .mixedOrders = true := by kernel_rfl
  refine region_inv' (J := (fun L act wx => ∃ u51 u52 u53 u54 u55 u50 u56 u57 u13 u14, act = { tmps := #[.slice A1 n1 c1, .slice A2 n2 c2, .agg #[.bool na, .string sa, .bool nb, .string sb], undef, undef, .pointer (some ⟨w.heap.size, 0, none⟩), .bool false, v7, .int .i64 0, .pointer (some ⟨p9, 0, none⟩), .int .i64 0, .pointer (some ⟨p11, 0, none⟩), .int .i64 0, u13, u14, undef, undef, undef, undef, undef, undef, .slice A1 n1 c1, .slice A2 n2 c2, .slice (some ⟨w.heap.size + 1, 0, none⟩) 2 2, .bool true, .bool false, .bool false, .agg #[.bool na, .string sa, .bool nb, .string sb], .slice (some ⟨W1.heap.size, 0, none⟩) 1 1, .bool false, .bool false, undef, .tuple #[v7, .int .i64 0], .slice A1 n1 c1, .slice A2 n2 c2, .tuple #[v7, .int .i64 0], v7, .int .i64 0, .tuple #[.agg #[.bool (sg x.num), .string (mg x.num), .bool (sg (x.den : Int)), .string (mg (x.den : Int))], .int .i64 0], .slice A1 n1 c1, .agg #[.bool na, .string sa, .bool nb, .string sb], .tuple #[.agg #[.bool (sg x.num), .string (mg x.num), .bool (sg (x.den : Int)), .string (mg (x.den : Int))], .int .i64 0], .agg #[.bool (sg x.num), .string (mg x.num), .bool (sg (x.den : Int)), .string (mg (x.den : Int))], .int .i64 0, .tuple #[.agg #[.bool (sg y.num), .string (mg y.num), .bool (sg (y.den : Int)), .string (mg (y.den : Int))], .int .i64 0], .slice A2 n2 c2, .agg #[.bool na, .string sa, .bool nb, .string sb], .tuple #[.agg #[.bool (sg y.num), .string (mg y.num), .bool (sg (y.den : Int)), .string (mg (y.den : Int))], .int .i64 0], .agg #[.bool (sg y.num), .string (mg y.num), .bool (sg (y.den : Int)), .string (mg (y.den : Int))], .int .i64 0, u50, u51, u52, u53, u54, u55, u56, u57, undef, undef, undef, undef, undef, undef, undef, undef, undef, undef, undef, undef, undef, undef, undef, undef, undef, undef, undef, undef, undef, undef, undef, undef, undef, undef, undef, undef, undef, undef, undef, undef, undef, undef, undef, undef, undef, undef, undef, undef, undef, undef, undef, undef, undef, undef, undef, undef, undef, undef, undef, undef, undef, undef, undef, undef, undef, undef, undef], defers := [] } ∧ (RK w w.heap.size p9 p11 na sa nb sb x y wx ∧ Below W7.heap.size W7 wx) ∧
      (L.getD 0 false = true → u51 = .slice A1 n1 c1) ∧ (L.getD 1 false = true → u52 = .slice A2 n2 c2) ∧ (L.getD 2 false = true → L.getD 4 false = false → PolyS wx u53 S) ∧ (L.getD 3 false = true → u54 = .agg #[.bool na, .string sa, .bool nb, .string sb]) ∧ (L.getD 4 false = true → u55 = .tuple #[.agg #[.bool (sg z.num), .string (mg z.num), .bool (sg (z.den : Int)), .string (mg (z.den : Int))], .int .i64 0]) ∧ (L.getD 5 false = true → u50 = .tuple #[.agg #[.bool (sg z.num), .string (mg z.num), .bool (sg (z.den : Int)), .string (mg (z.den : Int))], .int .i64 0]) ∧ (L.getD 6 false = true → u56 = .agg #[.bool (sg z.num), .string (mg z.num), .bool (sg (z.den : Int)), .string (mg (z.den : Int))]) ∧ (L.getD 7 false = true → u57 = .int .i64 0) ∧ (L.getD 8 false = true → SlR W7.heap.size z (L.getD 9 false = true) u13 wx) ∧ (L.getD 10 false = true → u14 = .int .i64 0) ∧ (L.getD 9 false = true → L.getD 8 false = true))) hmx (by kernel_rfl) ?_ ?_ ?_
  · exact ⟨undef, undef, undef, undef, undef, undef, undef, undef, undef, undef, rfl, KB, fun h => absurd h (by decide), fun h => absurd h (by decide), fun h _ => absurd h (by decide), fun h => absurd h (by decide), fun h => absurd h (by decide), fun h => absurd h (by decide), fun h => absurd h (by decide), fun h => absurd h (by decide), fun h => absurd h (by decide), fun h => absurd h (by decide), fun h => absurd h (by decide)⟩
  · intro i hi L a wx hl hw ⟨u51, u52, u53, u54, u55, u50, u56, u57, u13, u14, ha, lo, c0, c1, c2, c3, c4, c5, c6, c7, s8, c10, k9⟩
    subst ha
    clear KB
    have hi' : i = 0 ∨ i = 1 ∨ i = 2 ∨ i = 3 ∨ i = 4 ∨ i = 5 ∨ i = 6 ∨ i = 7 ∨ i = 8 ∨ i = 9 ∨ i = 10 := by
      have : i < 11 := hi
      omega
    rcases hi' with rfl | rfl | rfl | rfl | rfl | rfl | rfl | rfl | rfl | rfl | rfl
    · refine stepJ (i := 0) rfl (fun K hK => ?_)
      go_simp
      refine hK.out _ _ ⟨_, u52, u53, u54, u55, u50, u56, u57, u13, u14, rfl, lo, fun _ => rfl, fun h => c1 (fl (by decide) h), fun h h' => (c2 (fl (by decide) h) (flF (by decide) h')), fun h => c3 (fl (by decide) h), fun h => c4 (fl (by decide) h), fun h => c5 (fl (by decide) h), fun h => c6 (fl (by decide) h), fun h => c7 (fl (by decide) h), fun h => ((s8 (fl (by decide) h)).imp (fl (by decide))), fun h => c10 (fl (by decide) h), fun h => getD_set_true (k9 (fl (by decide) h))⟩
    · refine stepJ (i := 1) rfl (fun K hK => ?_)
      go_simp
      refine hK.out _ _ ⟨u51, _, u53, u54, u55, u50, u56, u57, u13, u14, rfl, lo, fun h => c0 (fl (by decide) h), fun _ => rfl, fun h h' => (c2 (fl (by decide) h) (flF (by decide) h')), fun h => c3 (fl (by decide) h), fun h => c4 (fl (by decide) h), fun h => c5 (fl (by decide) h), fun h => c6 (fl (by decide) h), fun h => c7 (fl (by decide) h), fun h => ((s8 (fl (by decide) h)).imp (fl (by decide))), fun h => c10 (fl (by decide) h), fun h => getD_set_true (k9 (fl (by decide) h))⟩
    · refine stepJ (i := 2) rfl (fun K hK => ?_)
      obtain rfl := c0 (hw 0 (by kernel_rfl))
      obtain rfl := c1 (hw 1 (by kernel_rfl))
      go_simp
      go_at_call 12
      refine (HAdd.out _ lo.1.1.1).mono ?_
      rintro e W8 ⟨v5, rfl, ps, b2⟩
      go_wp2_with fail
      refine hK.out _ _ ⟨_, _, _, u54, u55, u50, u56, u57, u13, u14, rfl, ⟨lo.1.keep b2, below_more lo.2 (Nat.le_refl _) b2⟩, fun _ => rfl, fun _ => rfl, fun _ _ => ps, fun h => c3 (fl (by decide) h), fun h => c4 (fl (by decide) h), fun h => c5 (fl (by decide) h), fun h => c6 (fl (by decide) h), fun h => c7 (fl (by decide) h), fun h => ((s8 (fl (by decide) h)).imp (fl (by decide))).keep b2, fun h => c10 (fl (by decide) h), fun h => getD_set_true (k9 (fl (by decide) h))⟩
    · refine stepJ (i := 3) rfl (fun K hK => ?_)
      obtain ⟨x1, x2, x3, x4⟩ := lo.1.2.1
      go_simp
      refine hK.out _ _ ⟨u51, u52, u53, _, u55, u50, u56, u57, u13, u14, rfl, lo, fun h => c0 (fl (by decide) h), fun h => c1 (fl (by decide) h), fun h h' => (c2 (fl (by decide) h) (flF (by decide) h')), fun _ => rfl, fun h => c4 (fl (by decide) h), fun h => c5 (fl (by decide) h), fun h => c6 (fl (by decide) h), fun h => c7 (fl (by decide) h), fun h => ((s8 (fl (by decide) h)).imp (fl (by decide))), fun h => c10 (fl (by decide) h), fun h => getD_set_true (k9 (fl (by decide) h))⟩
    · refine stepJ (i := 4) rfl (fun K hK => ?_)
      obtain rfl := c3 (hw 3 (by kernel_rfl))
      have ps := c2 (hw 2 (by kernel_rfl)) hl
      go_simp
      go_at_call 23
      refine (HAt.out _ _ ps).mono ?_
      rintro e W8 ⟨rfl, b2⟩
      go_wp2_with fail
      refine hK.out _ _ ⟨u51, u52, u53, _, _, u50, u56, u57, u13, u14, rfl, ⟨lo.1.keep b2, below_more lo.2 (Nat.le_refl _) b2⟩, fun h => c0 (fl (by decide) h), fun h => c1 (fl (by decide) h), fun _ _ => ps.keep b2, fun _ => rfl, fun _ => rfl, fun h => c5 (fl (by decide) h), fun h => c6 (fl (by decide) h), fun h => c7 (fl (by decide) h), fun h => ((s8 (fl (by decide) h)).imp (fl (by decide))).keep b2, fun h => c10 (fl (by decide) h), fun h => getD_set_true (k9 (fl (by decide) h))⟩
    · refine stepJ (i := 5) rfl (fun K hK => ?_)
      obtain rfl := c4 (hw 4 (by kernel_rfl))
      go_simp
      refine hK.out _ _ ⟨u51, u52, u53, u54, _, _, u56, u57, u13, u14, rfl, lo, fun h => c0 (fl (by decide) h), fun h => c1 (fl (by decide) h), fun h h' => (c2 (fl (by decide) h) (flF (by decide) h')), fun h => c3 (fl (by decide) h), fun _ => rfl, fun _ => rfl, fun h => c6 (fl (by decide) h), fun h => c7 (fl (by decide) h), fun h => ((s8 (fl (by decide) h)).imp (fl (by decide))), fun h => c10 (fl (by decide) h), fun h => getD_set_true (k9 (fl (by decide) h))⟩
    · refine stepJ (i := 6) rfl (fun K hK => ?_)
      obtain rfl := c5 (hw 5 (by kernel_rfl))
      go_simp
      refine hK.out _ _ ⟨u51, u52, u53, u54, u55, _, _, u57, u13, u14, rfl, lo, fun h => c0 (fl (by decide) h), fun h => c1 (fl (by decide) h), fun h h' => (c2 (fl (by decide) h) (flF (by decide) h')), fun h => c3 (fl (by decide) h), fun h => c4 (fl (by decide) h), fun _ => rfl, fun _ => rfl, fun h => c7 (fl (by decide) h), fun h => ((s8 (fl (by decide) h)).imp (fl (by decide))), fun h => c10 (fl (by decide) h), fun h => getD_set_true (k9 (fl (by decide) h))⟩
    · refine stepJ (i := 7) rfl (fun K hK => ?_)
      obtain rfl := c5 (hw 5 (by kernel_rfl))
      go_simp
      refine hK.out _ _ ⟨u51, u52, u53, u54, u55, _, u56, _, u13, u14, rfl, lo, fun h => c0 (fl (by decide) h), fun h => c1 (fl (by decide) h), fun h h' => (c2 (fl (by decide) h) (flF (by decide) h')), fun h => c3 (fl (by decide) h), fun h => c4 (fl (by decide) h), fun _ => rfl, fun h => c6 (fl (by decide) h), fun _ => rfl, fun h => ((s8 (fl (by decide) h)).imp (fl (by decide))), fun h => c10 (fl (by decide) h), fun h => getD_set_true (k9 (fl (by decide) h))⟩
    · refine stepJ (i := 8) rfl (fun K hK => ?_)
      go_simp
      refine hK.out _ _ ⟨u51, u52, u53, u54, u55, u50, u56, u57, _, u14, rfl, ⟨lo.1.keep (below1 wx _), below_more lo.2 (Nat.le_refl _) (below1 wx _)⟩, fun h => c0 (fl (by decide) h), fun h => c1 (fl (by decide) h), fun h h' => (c2 (fl (by decide) h) (flF (by decide) h')).keep (below1 wx _), fun h => c3 (fl (by decide) h), fun h => c4 (fl (by decide) h), fun h => c5 (fl (by decide) h), fun h => c6 (fl (by decide) h), fun h => c7 (fl (by decide) h), fun _ => SlR.new (fun h => absurd ((k9 (fl (by decide) h)).symm.trans hl) (by decide)) lo.2.size, fun h => c10 (fl (by decide) h), fun h => getD_set_true (k9 (fl (by decide) h))⟩
    · refine stepJ (i := 9) rfl (fun K hK => ?_)
      obtain rfl := c6 (hw 6 (by kernel_rfl))
      obtain ⟨pp, rfl, hpp, ⟨g9, t9, g10, t10, ⟨y1, y2, y3, y4⟩, y5, y6, y7, y8⟩, _⟩ := id (s8 (hw 8 (by kernel_rfl)))
      go_simp
      refine hK.out _ _ ⟨u51, u52, u53, u54, u55, u50, _, u57, _, u14, rfl, ⟨lo.1.far (Nat.le_trans hB hpp), lo.2.trans (stR_below hpp)⟩, fun h => c0 (fl (by decide) h), fun h => c1 (fl (by decide) h), fun h h' => absurd ((hw 4 (by kernel_rfl)).symm.trans (flF (by decide) h')) (by decide), fun h => c3 (fl (by decide) h), fun h => c4 (fl (by decide) h), fun h => c5 (fl (by decide) h), fun _ => rfl, fun h => c7 (fl (by decide) h), fun _ => (s8 (hw 8 (by kernel_rfl))).put, fun h => c10 (fl (by decide) h), fun _ => getD_set_true (hw 8 (by kernel_rfl))⟩
    · refine stepJ (i := 10) rfl (fun K hK => ?_)
      obtain rfl := c7 (hw 7 (by kernel_rfl))
      go_simp
      refine hK.out _ _ ⟨u51, u52, u53, u54, u55, u50, u56, _, u13, _, rfl, lo, fun h => c0 (fl (by decide) h), fun h => c1 (fl (by decide) h), fun h h' => (c2 (fl (by decide) h) (flF (by decide) h')), fun h => c3 (fl (by decide) h), fun h => c4 (fl (by decide) h), fun h => c5 (fl (by decide) h), fun h => c6 (fl (by decide) h), fun _ => rfl, fun h => ((s8 (fl (by decide) h)).imp (fl (by decide))), fun _ => rfl, fun h => getD_set_true (k9 (fl (by decide) h))⟩
  · rintro L a wx hall ⟨u51, u52, u53, u54, u55, u50, u56, u57, u13, u14, rfl, lo, c0, c1, c2, c3, c4, c5, c6, c7, s8, c10, k9⟩
    obtain rfl := c0 (hall 0 (by decide))
    obtain rfl := c1 (hall 1 (by decide))
    obtain rfl := c3 (hall 3 (by decide))
    obtain rfl := c4 (hall 4 (by decide))
    obtain rfl := c5 (hall 5 (by decide))
    obtain rfl := c6 (hall 6 (by decide))
    obtain rfl := c7 (hall 7 (by decide))
    obtain rfl := c10 (hall 10 (by decide))
    obtain ⟨p13, rfl, hp13, -, Z13⟩ := s8 (hall 8 (by decide))
    have Z := Z13 (hall 9 (by decide))
    have K := lo.1
    have pC := HC7.out.keep lo.2
    have hne : p11 + 1 ≤ p13 := Nat.le_trans hB hp13
    have hlt : p13 < wx.heap.size := RIn.lt Z
    clear lo hall s8 Z13 c2 k9 KB hp13 hB HC7
    have HPC := Lib.hid (show PB C 4 by rw [← HCv.out]; exact pb_trm ((HBD.out.1.mul HBD.out.2 l1 l2).pb (k := 4) (by decide)))
    have HCl := Lib.hid (show C.length ≤ 16 by rw [← HCv.out]; have := prod_len A B; omega)
    obtain ⟨t1, t2, t3, t4⟩ := id K.2.1
    go_wp2_with fail
    refine (atG (pC.at (by omega) HPC.out) HR.out.1 HR.out.2 (by have := HCl.out; omega)).mono ?_
    rintro e W9 ⟨rfl, b9⟩
    unfold ratV
    go_upto_region 8 with fail
    obtain ⟨m, hm⟩ : ∃ m, evL q C = m := ⟨_, rfl⟩
    rw [hm]
    have HMv := Lib.hid hm
    clear hm t1 t2 t3 t4
    have bb := below1 W9 (.cells #[.bool (sg m.num), .string (mg m.num), .bool (sg (m.den : Int)), .string (mg (m.den : Int))] 33)
    have M9 : RIs (W9.alloc (.cells #[.bool (sg m.num), .string (mg m.num), .bool (sg (m.den : Int)), .string (mg (m.den : Int))] 33)) W9.heap.size m := RIn.new rfl
    have K9 := (K.keep b9).keep bb
    have Z9 : RIs (W9.alloc (.cells #[.bool (sg m.num), .string (mg m.num), .bool (sg (m.den : Int)), .string (mg (m.den : Int))] 33)) p13 z := RIn.keep (RIn.keep Z b9) bb
    have pC9 := (pC.keep b9).keep bb
    clear K Z pC b9 bb hlt
    obtain ⟨W10, hW10⟩ : ∃ W10, W9.alloc (.cells #[.bool (sg m.num), .string (mg m.num), .bool (sg (m.den : Int)), .string (mg (m.den : Int))] 33) = W10 := ⟨_, rfl⟩
    rw [hW10] at K9 Z9 pC9 M9 ⊢
    obtain ⟨p15, hp15⟩ : ∃ p15, W9.heap.size = p15 := ⟨_, rfl⟩
    rw [hp15] at M9 ⊢
    clear hW10 hp15
    go_wp2_with fail
    refine (derK (P1.out.keep K9.1.1) (by omega)).mono ?_
    rintro e W11 ⟨v66, rfl, p66, b11⟩
    have K11 := K9.keep b11
    have Z11 : RIs W11 p13 z := RIn.keep Z9 b11
    have M11 : RIs W11 p15 m := RIn.keep M9 b11
    have pC11 := pC9.keep b11
    clear K9 Z9 M9 pC9 b11
    have HDA := Lib.hid ((bd_derK HBD.out.1 (show A.length ≤ 100 by omega)).pb (k := 4) (by decide))
    have HDB := Lib.hid ((bd_derK HBD.out.2 (show B.length ≤ 100 by omega)).pb (k := 4) (by decide))
    have dla := derX_le A
    have dlb := derX_le B
    go_wp2_with fail
    refine (mulG (p66.at (by omega) HDA.out) (P2.out.keep K11.1.1) (by omega) (by omega)).mono ?_
    rintro e W12 ⟨v17, rfl, p17, b12⟩
    have K12 := K11.keep b12
    have Z12 : RIs W12 p13 z := RIn.keep Z11 b12
    have M12 : RIs W12 p15 m := RIn.keep M11 b12
    have pC12 := pC11.keep b12
    clear K11 Z11 M11 pC11 b12 p66
    go_wp2_with fail
    refine (derK (P2.out.keep K12.1.1) (by omega)).mono ?_
    rintro e W13 ⟨v74, rfl, p74, b13⟩
    have K13 := K12.keep b13
    have Z13 : RIs W13 p13 z := RIn.keep Z12 b13
    have M13 : RIs W13 p15 m := RIn.keep M12 b13
    have pC13 := pC12.keep b13
    have p173 := p17.keep b13
    clear K12 Z12 M12 pC12 p17 b13
    go_wp2_with fail
    refine (mulG (P1.out.keep K13.1.1) (p74.at (by omega) HDB.out) (by omega) (by omega)).mono ?_
    rintro e W14 ⟨v19, rfl, p19, b14⟩
    have K14 := K13.keep b14
    have Z14 : RIs W14 p13 z := RIn.keep Z13 b14
    have M14 : RIs W14 p15 m := RIn.keep M13 b14
    have pC14 := pC13.keep b14
    have p174 := p173.keep b14
    clear K13 Z13 M13 pC13 p173 p74 b14
    have HXB := Lib.hid (show RatBd x 300 from by have h := ev_bd HR.out.2 (P1.out.pb) (show A.length ≤ 33 by omega); rw [HX.out] at h; exact ratBd_up h (by omega))
    have HYB := Lib.hid (show RatBd y 300 from by have h := ev_bd HR.out.2 (P2.out.pb) (show B.length ≤ 33 by omega); rw [HY.out] at h; exact ratBd_up h (by omega))
    have HZB := Lib.hid (show RatBd z 300 from by have h := ev_bd HR.out.2 HPS.out HSl.out; rw [HZ.out] at h; exact ratBd_up h (by omega))
    have Ix := Lib.hid (show IsRat (.agg #[.bool (sg x.num), .string (mg x.num), .bool (sg (x.den : Int)), .string (mg (x.den : Int))]) x 300 from isRat_ratV HXB.out (by omega))
    have Iy := Lib.hid (show IsRat (.agg #[.bool (sg y.num), .string (mg y.num), .bool (sg (y.den : Int)), .string (mg (y.den : Int))]) y 300 from isRat_ratV HYB.out (by omega))
    have Esum := Lib.hid (show x + y = z by rw [← HX.out, ← HY.out, ← HZ.out, ← HSv.out, ev_sum])
    have Epro := Lib.hid (show x * y = m by rw [← HX.out, ← HY.out, ← HMv.out, ← HCv.out, ev_prod])
    have HCk := Lib.hid (fun W => show Calls Tryz.prog 26 #[.agg #[.bool (sg z.num), .string (mg z.num), .bool (sg (z.den : Int)), .string (mg (z.den : Int))]] W fun e w' => e = .returned (.int .i64 0) ∧ Below W.heap.size W w' from check_ratV HZB.out (by omega) W)
    have Sz := sameR_self (sg z.num) (sg (z.den : Int)) (mg z.num) (mg (z.den : Int))
    have Sm := sameR_self (sg m.num) (sg (m.den : Int)) (mg m.num) (mg (m.den : Int))
    have hder := der_rule A B
    rw [HCv.out] at hder
    obtain ⟨E, hE⟩ : ∃ E, trm (derX C) = E := ⟨_, rfl⟩
    rw [hE] at hder
    have HDe := Lib.hid (fun W (b : Below W14.heap.size W14 W) => derK (w := W) ((pC14.keep b).at (k := 4) (by omega) HPC.out) (show C.length ≤ 100 by have := HCl.out; omega))
    simp only [hE] at HDe
    have BD17 : BD (trm (prodL (trm (derX A)) B)) (8 * (8 * (4294967296 * 100 * 4294967296))) := ((bd_derK HBD.out.1 (show A.length ≤ 100 by omega)).mul HBD.out.2 (Nat.le_trans dla l1) l2).trm
    have BD19 : BD (trm (prodL A (trm (derX B)))) (8 * (8 * (4294967296 * (4294967296 * 100)))) := (HBD.out.1.mul (bd_derK HBD.out.2 (show B.length ≤ 100 by omega)) l1 (Nat.le_trans dlb l2)).trm
    have q17 := prod_len (trm (derX A)) B
    have q19 := prod_len A (trm (derX B))
    have HPA := Lib.hid (fun W (b : Below W14.heap.size W14 W) => addG (w := W) ((p174.keep b).at (k := 4) (by omega) (BD17.pb (by decide))) ((p19.keep b).at (k := 4) (by omega) (BD19.pb (by decide))) (by omega) (by omega) ((BD17.add BD19).pb (k := 5) (by decide)))
    rw [← hder] at HPA
    have HEl : E.length ≤ 1000000 := by rw [← hE]; have := derX_le C; have := HCl.out; omega
    have HEq := Lib.hid (fun W v v' (h : PolyS W v E) (h' : PolyS W v' E) => equalP_any h h' HEl)
    have HAw := Lib.hid (fun W (b : Below W14.heap.size W14 W) => awake_any W (tab_keep HT.out (below_more K14.1.1 (Nat.le_refl _) b)))
    have KX := Lib.hid (fun W (b : Below W14.heap.size W14 W) => show W.cell? ⟨p9, 0, none⟩ = some (.bool (sg x.num)) ∧ W.cell? ⟨p9, 1, none⟩ = some (.string (mg x.num)) ∧ W.cell? ⟨p9, 2, none⟩ = some (.bool (sg (x.den : Int))) ∧ W.cell? ⟨p9, 3, none⟩ = some (.string (mg (x.den : Int))) ∧ W.cell? ⟨p11, 0, none⟩ = some (.bool (sg y.num)) ∧ W.cell? ⟨p11, 1, none⟩ = some (.string (mg y.num)) ∧ W.cell? ⟨p11, 2, none⟩ = some (.bool (sg (y.den : Int))) ∧ W.cell? ⟨p11, 3, none⟩ = some (.string (mg (y.den : Int))) ∧ W.cell? ⟨p13, 0, none⟩ = some (.bool (sg z.num)) ∧ W.cell? ⟨p13, 1, none⟩ = some (.string (mg z.num)) ∧ W.cell? ⟨p13, 2, none⟩ = some (.bool (sg (z.den : Int))) ∧ W.cell? ⟨p13, 3, none⟩ = some (.string (mg (z.den : Int))) ∧ W.cell? ⟨p15, 0, none⟩ = some (.bool (sg m.num)) ∧ W.cell? ⟨p15, 1, none⟩ = some (.string (mg m.num)) ∧ W.cell? ⟨p15, 2, none⟩ = some (.bool (sg (m.den : Int))) ∧ W.cell? ⟨p15, 3, none⟩ = some (.string (mg (m.den : Int))) from by
      obtain ⟨a1, a2, a3, a4⟩ := RIn.keep K14.2.2.1 b
      obtain ⟨b1, b2, b3, b4⟩ := RIn.keep K14.2.2.2.1 b
      obtain ⟨d1, d2, d3, d4⟩ := RIn.keep Z14 b
      obtain ⟨e1, e2, e3, e4⟩ := RIn.keep M14 b
      exact ⟨a1, a2, a3, a4, b1, b2, b3, b4, d1, d2, d3, d4, e1, e2, e3, e4⟩)
    have BF := Lib.hid K14.1.1
    have BB := (Below.refl W14.heap.size W14).drew
    clear K14 Z14 M14 pC14 p174 p19 hder hE BD17 BD19 q17 q19 HEl dla dlb
    go_upto_region 10 with fail
    go_region_held3 (fun W => W.cell? ⟨p9, 0, none⟩ = some (.bool (sg x.num)) ∧ W.cell? ⟨p9, 1, none⟩ = some (.string (mg x.num)) ∧ W.cell? ⟨p9, 2, none⟩ = some (.bool (sg (x.den : Int))) ∧ W.cell? ⟨p9, 3, none⟩ = some (.string (mg (x.den : Int))) ∧ W.cell? ⟨p11, 0, none⟩ = some (.bool (sg y.num)) ∧ W.cell? ⟨p11, 1, none⟩ = some (.string (mg y.num)) ∧ W.cell? ⟨p11, 2, none⟩ = some (.bool (sg (y.den : Int))) ∧ W.cell? ⟨p11, 3, none⟩ = some (.string (mg (y.den : Int))) ∧ W.cell? ⟨p13, 0, none⟩ = some (.bool (sg z.num)) ∧ W.cell? ⟨p13, 1, none⟩ = some (.string (mg z.num)) ∧ W.cell? ⟨p13, 2, none⟩ = some (.bool (sg (z.den : Int))) ∧ W.cell? ⟨p13, 3, none⟩ = some (.string (mg (z.den : Int))) ∧ W.cell? ⟨p15, 0, none⟩ = some (.bool (sg m.num)) ∧ W.cell? ⟨p15, 1, none⟩ = some (.string (mg m.num)) ∧ W.cell? ⟨p15, 2, none⟩ = some (.bool (sg (m.den : Int))) ∧ W.cell? ⟨p15, 3, none⟩ = some (.string (mg (m.den : Int)))) (first | exact KX.out _ BB | exact KX.out _ (Below.refl _ _) | exact KX.out _ (by assumption) | go_keep)
      (first
        | (go_at_call 24; refine (radd_any _ _ x y z 300 _ Ix.out Iy.out (by omega) Esum.out).mono ?_; rintro e Z1 ⟨rfl, bz⟩; (try unfold ratV); (have BB := below_more BB (Nat.le_refl _) bz))
        | (go_at_call 25; refine (rmul_any _ _ x y m 300 _ Ix.out Iy.out (by omega) Epro.out).mono ?_; rintro e Z2 ⟨rfl, bz⟩; (try unfold ratV); (have BB := below_more BB (Nat.le_refl _) bz))
        | (go_at_call 26; refine (HCk.out _).mono ?_; rintro e Z3 ⟨rfl, bz⟩; (have BB := below_more BB (Nat.le_refl _) bz))
        | (go_at_call 16; refine (HDe.out _ BB).mono ?_; rintro e Z4 ⟨v108, rfl, pd, bz⟩; (have BB := below_more BB (Nat.le_refl _) bz))
        | (go_at_call 12; refine (HPA.out _ BB).mono ?_; rintro e Z5 ⟨v111, rfl, pa, bz⟩; (have pd := pd.keep bz); (have BB := below_more BB (Nat.le_refl _) bz))
        | (go_at_call 7; refine (HEq.out _ _ _ pd pa).mono ?_; rintro e Z6 ⟨rfl, bz⟩; (have BB := below_more BB (Nat.le_refl _) bz))
        | (go_at_call 6; refine (HAw.out _ BB).mono ?_; rintro e Z7 ⟨rfl, bz⟩; (have BB := below_more BB (Nat.le_refl _) bz)))
    all_goals
      go_wp2
      go_ret
      exact ⟨rfl, below_more BF.out (Nat.le_refl _) BB⟩
end Go.Proofs.YtgcogpfmhmmgdaaGreatDoor
