/- What rational.Floor, Power, Check and Print return. Condition: the integers have at most 4*10^6 digits to the base 2^32. The simplest number between two others: the run of the two continued fractions. Plain facts; no condition. A region that draws its order, in the body of a range over a function: by the laws of regions outside of one. No condition. -/
import Derived.Test.YtabmhckgdncjlaaGreatDoorQ30
import Derived.Test.YtabmhckgdncjlaaGreatDoorQ13
import Derived.Test.YtabmhckgdncjlaaGreatDoorQ21
import Derived.Test.YtabmhckgdncjlaaGreatDoorQ20
import Derived.OrdersIn
import Derived.OrdersHeld
import Derived.Deep.RegionHeld3

namespace Go.Proofs.YtabmhckgdncjlaaGreatDoor
open Go.RowKit
set_option linter.unusedSimpArgs false

theorem print_is {v : Value} {z : Int} {k : Nat} {w : World} {T : List UInt8} (h : IsInt v z k) (htab : Lib.TabIs Tryz.prog w "internal/strconv.uint64pow10" .u64 Lib.pow10Tab) (e : prZ z = T) :
    Calls Tryz.prog 50 #[v] w fun e w' => e = .returned (.string ⟨T.toArray⟩) ∧ Below w.heap.size w w' := e ▸ print_any v z k w h htab

set_option maxRecDepth 100000 in
theorem rfloor_any (v1 : Value) (q : Rat) (f : Int) (k : Nat) (w : World) (h1 : IsRat v1 q k) (hf : q.floor = f) : Calls Tryz.prog 19 #[v1] w (IntOut w f) := by
  obtain ⟨na, sa, nb, sb, n, d, rfl, hn, hd, hq⟩ := h1
  have In := Lib.hid hn
  have Id := Lib.hid hd
  clear hn hd
  have P0 := ResCell.new (w.alloc (.cells #[.bool na, .string sa, .bool nb, .string sb] 25)) 23
  rw [World.size_alloc] at P0
  have B0 := below2 w (.cells #[.bool na, .string sa, .bool nb, .string sb] 25) (.cells #[.bool false, .string ⟨#[]⟩] 23)
  have hpair : ∃ r er : Int, Hid (∀ W : World, Calls Tryz.prog 39 #[.agg #[.bool na, .string sa], .agg #[.bool nb, .string sb]] W fun e W' => e = .returned (.tuple #[.agg #[.bool (sg f), .string (mg f)], .agg #[.bool (sg r), .string (mg r)], .int .i64 er]) ∧ Below W.heap.size W W') := by
    by_cases h0 : d = 0
    · refine ⟨0, 9, Lib.hid fun W => ?_⟩
      have e0 : f = 0 := by rw [← hf, ← hq, h0, Rat.divInt_zero]; rfl
      rw [e0, sg_zero, mg_zero]
      exact ezero_eq In.out Id.out h0
    · exact ⟨rD n d, 0, Lib.hid fun W => ediv_eq In.out Id.out h0 (by rw [qD_floor h0, hq, hf]) rfl⟩
  obtain ⟨r, er, Hd⟩ := hpair
  clear hq hf
  go_enter Tryz.func19, Tryz.ntmps19
  go_wp2_with fail
  refine (Hd.out _).mono ?_
  rintro e W1 ⟨rfl, b1⟩
  have hbl := below2 W1 (.cells #[.bool (sg f), .string (mg f)] 23) (.cells #[.bool (sg r), .string (mg r)] 23)
  have L1 := World.block_lt_of_cell? W1 _ (P0.keep b1).1
  have P1 := (P0.keep b1).keep hbl
  have S1 : ((W1.alloc (.cells #[.bool (sg f), .string (mg f)] 23)).alloc (.cells #[.bool (sg r), .string (mg r)] 23)).cell? ⟨W1.heap.size, 0, none⟩ = some (.bool (sg f)) := by simp [go_sem]
  have S2 : ((W1.alloc (.cells #[.bool (sg f), .string (mg f)] 23)).alloc (.cells #[.bool (sg r), .string (mg r)] 23)).cell? ⟨W1.heap.size, 1, none⟩ = some (.string (mg f)) := by simp [go_sem]
  have B1 := below_more (below_more B0 (Nat.le_refl _) b1) (Nat.le_refl _) hbl
  clear P0 B0 b1 hbl
  go_upto_region 2 with fail
  generalize ((W1.alloc (.cells #[.bool (sg f), .string (mg f)] 23)).alloc (.cells #[.bool (sg r), .string (mg r)] 23)) = W2 at *
  generalize W1.heap.size = p3 at *
  obtain ⟨r1, r2, r3, r4⟩ := P1
  go_wp2
  exact bodyPost_ret (v := .agg #[.bool (sg f), .string (mg f)]) (by simp [results, Tryz.results19, go_sem, r1, r2]) rfl ⟨rfl, (B1.setCell (by dsimp only; omega) _).setCell (by dsimp only; omega) _⟩

theorem pw_num (q : Rat) (m : Nat) : (q ^ m).num = q.num ^ m := rfl
theorem pw_den (q : Rat) (m : Nat) : (((q ^ m).den : Nat) : Int) = (q.den : Int) ^ m := by rw [Rat.den_pow]; exact Int.natCast_pow _ _
set_option maxRecDepth 100000 in
theorem rpow_any (v1 : Value) (q r : Rat) (k m : Nat) (w : World) (h1 : IsRat v1 q k) (hk : k ≤ 4000000) (hm : m ≤ 4096) (hb1 : m * nbits q.num.natAbs ≤ 65536) (hb2 : m * nbits q.den ≤ 65536) (hr : q ^ m = r) :
    Calls Tryz.prog 28 #[v1, .int .i64 (m : Int)] w (RatGood w r) := by
  have Hn := Lib.hid (show q.num ^ m = r.num by rw [← hr]; rfl)
  have Hd := Lib.hid (show (q.den : Int) ^ m = (r.den : Int) by rw [← hr]; exact (pw_den q m).symm)
  have H1 := Lib.hid h1
  have Hb := Lib.hid (show RatBd q (k + 1) by
    obtain ⟨_, _, _, _, n, d, _, h2, h3, rfl⟩ := h1
    exact ratBd_divInt h2.bd h3.bd)
  have Hb1 := Lib.hid hb1
  have Hb2 := Lib.hid (show m * nbits (q.den : Int).natAbs ≤ 65536 by rw [Int.natAbs_natCast]; exact hb2)
  clear hr hb1 hb2
  obtain ⟨na, sa, nb, sb, -, -, rfl, -⟩ := h1
  have P0 := ResRat.new (w.alloc (.cells #[.bool na, .string sa, .bool nb, .string sb] 25))
  rw [World.size_alloc] at P0
  have B0 := below2 w (.cells #[.bool na, .string sa, .bool nb, .string sb] 25) (.cells #[.bool false, .string ⟨#[]⟩, .bool false, .string ⟨#[]⟩] 25)
  have I1 := Lib.hid (isInt_mg Hb.out.1 (by omega))
  have I2 := Lib.hid (isInt_mg (show (q.den : Int).natAbs < _ by rw [Int.natAbs_natCast]; exact Hb.out.2) (by omega))
  go_enter Tryz.func28, Tryz.ntmps28
  go_wp2_with fail
  refine (rcanon_any _ q k _ H1.out).mono ?_
  rintro e W1 ⟨rfl, b1⟩
  have hbl := below1 W1 (.cells #[.bool (sg q.num), .string (mg q.num), .bool (sg (q.den : Int)), .string (mg (q.den : Int))] 25)
  have P1 := (P0.keep b1).keep hbl
  have S1 : RIn (W1.alloc (.cells #[.bool (sg q.num), .string (mg q.num), .bool (sg (q.den : Int)), .string (mg (q.den : Int))] 25)) W1.heap.size (sg q.num) (mg q.num) (sg (q.den : Int)) (mg (q.den : Int)) := RIn.new rfl
  have B1 := below_more (below_more B0 (Nat.le_refl _) b1) (Nat.le_refl _) hbl
  clear P0 B0 b1 hbl
  unfold ratV
  go_upto_region 2 with fail
  generalize W1.alloc (.cells #[.bool (sg q.num), .string (mg q.num), .bool (sg (q.den : Int)), .string (mg (q.den : Int))] 25) = W2 at *
  generalize W1.heap.size = p6 at *
  obtain ⟨t1, t2, t3, t4⟩ := id S1
  go_wp2_with fail
  refine (ipow_any _ q.num (k + 1) m _ I1.out hm Hb1.out).mono ?_
  rw [Hn.out]
  rintro e W3 ⟨rfl, b3⟩
  have hbl := below1 W3 (.cells #[.bool (sg r.num), .string (mg r.num)] 23)
  have P2 := (P1.keep b3).keep hbl
  have S2 := (S1.keep b3).keep hbl
  have x1 : (W3.alloc (.cells #[.bool (sg r.num), .string (mg r.num)] 23)).cell? ⟨W3.heap.size, 0, none⟩ = some (.bool (sg r.num)) := by simp [go_sem]
  have x2 : (W3.alloc (.cells #[.bool (sg r.num), .string (mg r.num)] 23)).cell? ⟨W3.heap.size, 1, none⟩ = some (.string (mg r.num)) := by simp [go_sem]
  have B2 := below_more (below_more B1 (Nat.le_refl _) b3) (Nat.le_refl _) hbl
  clear P1 S1 B1 b3 hbl t1 t2 t3 t4
  go_upto_region 3 with fail
  generalize W3.alloc (.cells #[.bool (sg r.num), .string (mg r.num)] 23) = W4 at *
  generalize W3.heap.size = p7 at *
  obtain ⟨t1, t2, t3, t4⟩ := id S2
  go_wp2_with fail
  refine (ipow_any _ (q.den : Int) (k + 1) m _ I2.out hm Hb2.out).mono ?_
  rw [Hd.out]
  rintro e W5 ⟨rfl, b5⟩
  have hbl := below1 W5 (.cells #[.bool (sg (r.den : Int)), .string (mg (r.den : Int))] 23)
  have P3 := (P2.keep b5).keep hbl
  have y1 := cell_keep (cell_keep x1 b5) hbl
  have y2 := cell_keep (cell_keep x2 b5) hbl
  have y3 : (W5.alloc (.cells #[.bool (sg (r.den : Int)), .string (mg (r.den : Int))] 23)).cell? ⟨W5.heap.size, 0, none⟩ = some (.bool (sg (r.den : Int))) := by simp [go_sem]
  have y4 : (W5.alloc (.cells #[.bool (sg (r.den : Int)), .string (mg (r.den : Int))] 23)).cell? ⟨W5.heap.size, 1, none⟩ = some (.string (mg (r.den : Int))) := by simp [go_sem]
  have B3 := below_more (below_more B2 (Nat.le_refl _) b5) (Nat.le_refl _) hbl
  clear P2 S2 B2 b5 hbl t1 t2 t3 t4 x1 x2
  go_upto_region 6 with fail
  generalize W5.alloc (.cells #[.bool (sg (r.den : Int)), .string (mg (r.den : Int))] 23) = W6 at *
  generalize W5.heap.size = p9 at *
  obtain ⟨⟨r1, r2, r3, r4⟩, r5, r6, r7, r8⟩ := P3
  go_wp2
  exact bodyPost_ret (v := .tuple #[ratV r, .int .i64 0]) (by simp [results, Tryz.results28, go_sem, r1, r2, r3, r4, ratV]) rfl ⟨rfl, below4s B3 _ (by omega) _ _ _ _⟩

set_option maxRecDepth 100000 in
theorem rcheck_any (na nb : Bool) (sa sb : ByteArray) (q : Rat) (c : Bool) (k : Nat) (w : World) (h1 : IsRat (.agg #[.bool na, .string sa, .bool nb, .string sb]) q k) (hc : sameR na sa nb sb (sg q.num) (mg q.num) (sg (q.den : Int)) (mg (q.den : Int)) = c) :
    Calls Tryz.prog 22 #[.agg #[.bool na, .string sa, .bool nb, .string sb]] w fun e w' => e = .returned (.int .i64 (if c then 0 else 1)) ∧ Below w.heap.size w w' := by
  have Hc := Lib.hid hc
  have H1 := Lib.hid h1
  clear hc h1
  have B0 := below1 w (.cells #[.bool na, .string sa, .bool nb, .string sb] 25)
  have S0 : RIn (w.alloc (.cells #[.bool na, .string sa, .bool nb, .string sb] 25)) w.heap.size na sa nb sb := RIn.new rfl
  go_enter Tryz.func22, Tryz.ntmps22
  go_upto_region 1 with fail
  generalize w.alloc (.cells #[.bool na, .string sa, .bool nb, .string sb] 25) = W0 at *
  have S1 : RIn W0.drew w.heap.size na sa nb sb := S0
  go_region_held3 (fun W => W.cell? ⟨w.heap.size, 0, none⟩ = some (.bool na) ∧ W.cell? ⟨w.heap.size, 1, none⟩ = some (.string sa) ∧ W.cell? ⟨w.heap.size, 2, none⟩ = some (.bool nb) ∧ W.cell? ⟨w.heap.size, 3, none⟩ = some (.string sb)) (first | exact S0 | exact S1 | exact RIn.keep S1 (by assumption) | go_keep)
    (first
      | (go_at_call 36; refine (rcanon_any _ q k _ H1.out).mono ?_; rintro e W1 ⟨rfl, b1⟩; unfold ratV))
  all_goals
    rw [Hc.out]
    cases c
    · go_wp2
      go_ret
      exact ⟨rfl, below_more B0.drew (Nat.le_refl _) b1⟩
    · go_wp2
      go_ret
      exact ⟨rfl, below_more B0.drew (Nat.le_refl _) b1⟩
end Go.Proofs.YtabmhckgdncjlaaGreatDoor

namespace Go.Proofs.YtabmhckgdncjlaaGreatDoor
open Go.RowKit

/-- What the run leads to: low a / b, high c / d, the last two convergents ln / ld and nn / nd. -/
inductive Sim : Int → Int → Int → Int → Int → Int → Int → Int → Int → Int → Prop
  | whole {a b c d ln ld nn nd : Int} (h : a % b = 0) : Sim a b c d ln ld nn nd (a / b * nn + ln) (a / b * nd + ld)
  | above {a b c d ln ld nn nd : Int} (h : a % b ≠ 0) (h2 : a / b ≠ c / d) : Sim a b c d ln ld nn nd ((a / b + 1) * nn + ln) ((a / b + 1) * nd + ld)
  | more {a b c d ln ld nn nd rn rd : Int} (h : a % b ≠ 0) (h2 : a / b = c / d) (k : Sim d (c % d) b (a % b) nn nd (a / b * nn + ln) (a / b * nd + ld) rn rd) : Sim a b c d ln ld nn nd rn rd

/-- What holds between two rounds. -/
def Inv (M a b c d ln ld nn nd : Int) : Prop :=
  (0 < a ∧ 0 < b ∧ 0 < c ∧ 0 < d) ∧ (0 ≤ ln ∧ 0 ≤ ld ∧ 0 ≤ nn ∧ 0 ≤ nd) ∧ a * d ≤ c * b ∧ (a ≤ M ∧ b ≤ M ∧ c ≤ M ∧ d ≤ M) ∧
  (nn * a + ln * b ≤ M ∧ nd * a + ld * b ≤ M) ∧ (nn * c + ln * d ≤ M ∧ nd * c + ld * d ≤ M)
theorem inv_start {M a b c d : Int} (h1 : 0 < a) (h2 : 0 < b) (h3 : 0 < c) (h4 : 0 < d) (h5 : a * d ≤ c * b) (m1 : a ≤ M) (m2 : b ≤ M) (m3 : c ≤ M) (m4 : d ≤ M) : Inv M a b c d 0 1 1 0 := by
  refine ⟨⟨h1, h2, h3, h4⟩, ⟨by omega, by omega, by omega, by omega⟩, h5, ⟨m1, m2, m3, m4⟩, ⟨?_, ?_⟩, ⟨?_, ?_⟩⟩ <;> simp <;> omega
theorem comb_le {p q a b M : Int} (hp : 0 ≤ p) (hq : 0 ≤ q) (ha : 0 < a) (hb : 0 < b) (h : p * a + q * b ≤ M) : p ≤ M ∧ q ≤ M := by
  have h1 : p * 1 ≤ p * a := Int.mul_le_mul_of_nonneg_left (by omega) hp
  have h2 : q * 1 ≤ q * b := Int.mul_le_mul_of_nonneg_left (by omega) hq
  have h3 : 0 ≤ p * a := Int.mul_nonneg hp (by omega)
  have h4 : 0 ≤ q * b := Int.mul_nonneg hq (by omega)
  omega
theorem Inv.le {M a b c d ln ld nn nd : Int} (h : Inv M a b c d ln ld nn nd) : ln ≤ M ∧ ld ≤ M ∧ nn ≤ M ∧ nd ≤ M := by
  obtain ⟨⟨h1, h2, _, _⟩, ⟨k1, k2, k3, k4⟩, _, _, ⟨c1, c2⟩, _⟩ := h
  have e1 := comb_le k3 k1 h1 h2 c1
  have e2 := comb_le k4 k2 h1 h2 c2
  exact ⟨e1.2, e2.2, e1.1, e2.1⟩
theorem quot_le {a b c d : Int} (hb : 0 < b) (hd : 0 < d) (h : a * d ≤ c * b) : a / b ≤ c / d := by
  rw [Int.le_ediv_iff_mul_le hd]
  have h1 : a / b * b ≤ a := Int.ediv_mul_le a (by omega)
  have h2 : a / b * b * d ≤ a * d := Int.mul_le_mul_of_nonneg_right h1 (by omega)
  have h3 : a / b * d * b ≤ c * b := by rw [Int.mul_right_comm]; omega
  exact Int.le_of_mul_le_mul_right h3 hb
theorem Inv.terms {M a b c d ln ld nn nd : Int} (h : Inv M a b c d ln ld nn nd) : 0 ≤ a / b ∧ a / b ≤ M ∧ 0 ≤ c / d ∧ c / d ≤ M ∧ 0 ≤ a % b ∧ a % b < b ∧ 0 ≤ c % d ∧ c % d < d ∧ a / b ≤ c / d := by
  obtain ⟨⟨h1, h2, h3, h4⟩, _, h5, ⟨m1, m2, m3, m4⟩, _⟩ := h
  have e1 : a / b ≤ a := Int.ediv_le_self _ (by omega)
  have e2 : c / d ≤ c := Int.ediv_le_self _ (by omega)
  exact ⟨Int.ediv_nonneg (by omega) (by omega), by omega, Int.ediv_nonneg (by omega) (by omega), by omega, Int.emod_nonneg _ (by omega), Int.emod_lt_of_pos _ h2, Int.emod_nonneg _ (by omega), Int.emod_lt_of_pos _ h4, quot_le h2 h4 h5⟩
theorem Inv.step {M a b c d ln ld nn nd : Int} (h : Inv M a b c d ln ld nn nd) (h0 : a % b ≠ 0) (he : a / b = c / d) : Inv M d (c % d) b (a % b) nn nd (a / b * nn + ln) (a / b * nd + ld) := by
  obtain ⟨t1, t2, t3, t4, t5, t6, t7, t8, t9⟩ := h.terms
  obtain ⟨⟨h1, h2, h3, h4⟩, ⟨k1, k2, k3, k4⟩, h5, ⟨m1, m2, m3, m4⟩, ⟨c1, c2⟩, ⟨c3, c4⟩⟩ := h
  have ea := Int.mul_ediv_add_emod a b
  have ec := Int.mul_ediv_add_emod c d
  rw [← he] at ec
  generalize a / b = t at *
  generalize a % b = r at *
  generalize c % d = s at *
  clear he
  subst ea
  subst ec
  have hrs : r * d ≤ s * b := by
    have e1 : (b * t + r) * d = b * t * d + r * d := Int.add_mul _ _ _
    have e2 : (d * t + s) * b = b * t * d + s * b := by rw [Int.add_mul, Int.mul_right_comm, Int.mul_comm d b, Int.mul_right_comm]
    omega
  have hs0 : 0 < s := by
    rcases Int.lt_or_le 0 s with h9 | h9
    · exact h9
    · exfalso
      have h10 : s = 0 := by omega
      rw [h10, Int.zero_mul] at hrs
      have h11 : 0 < r * d := Int.mul_pos (by omega) h4
      omega
  have n1 : 0 ≤ t * nn := Int.mul_nonneg t1 k3
  have n2 : 0 ≤ t * nd := Int.mul_nonneg t1 k4
  refine ⟨⟨h4, hs0, h2, by omega⟩, ⟨k3, k4, by omega, by omega⟩, ?_, ⟨m4, by omega, m2, by omega⟩, ⟨?_, ?_⟩, ⟨?_, ?_⟩⟩
  · rw [Int.mul_comm d r, Int.mul_comm b s]; exact hrs
  · have e : (t * nn + ln) * d + nn * s = nn * (d * t + s) + ln * d := by grind
    omega
  · have e : (t * nd + ld) * d + nd * s = nd * (d * t + s) + ld * d := by grind
    omega
  · have e : (t * nn + ln) * b + nn * r = nn * (b * t + r) + ln * b := by grind
    omega
  · have e : (t * nd + ld) * b + nd * r = nd * (b * t + r) + ld * b := by grind
    omega
theorem qD_pos {a b : Int} (h : 0 < b) : qD a b = a / b ∧ rD a b = a % b := by
  obtain ⟨s1, s2, s3⟩ := qD_spec (a := a) (b := b) (by omega)
  have e1 := Int.mul_ediv_add_emod a b
  have e2 := Int.emod_nonneg a (b := b) (by omega)
  have e3 := Int.emod_lt_of_pos a h
  exact div_one s1 (by rw [Int.mul_comm]; exact e1) ⟨s2, s3⟩ ⟨fun _ => by omega, fun _ => by omega⟩ (by omega)
end Go.Proofs.YtabmhckgdncjlaaGreatDoor

namespace Go.Proofs.YtabmhckgdncjlaaGreatDoor
open Go.RowKit

/-- No deferred call. -/
def plainOp (o : Oper) : Bool := match o.op with
  | .defer _ => false
  | _ => true
theorem row_in_round {l n : Nat} {P : Program} {row : String} {args : Array Value} {w : World} {R : Value → World → Prop} (h : Rows P row args w R) : RowsIn (Fence.wide.inRound l) n P row args w R := by
  have h' : RowsIn Fence.wide n P row args w R := fun c cs _ => let ⟨v, w', r, s⟩ := h c cs; ⟨v, w', r, stepsIn_wide.2 s⟩
  exact h'
theorem no_depth {l n : Nat} (e : (Fence.wide.inRound l).depth.isSome = true) : 1 ≤ n := by simp [Fence.inRound, Fence.wide] at e

theorem op_in_round {l n : Nat} {P : Program} {o : Oper} {a : Act} {w : World} {K : Act → World → Prop} {Q : Exit → Act → World → Prop} (hd : plainOp o = true) (h : o.wp P a w K Q) :
    o.wpIn (Fence.wide.inRound l) n P a w K Q := by
  unfold Oper.wp at h
  unfold Oper.wpIn
  refine ⟨fun _ _ => trivial, ?_⟩
  rw [show (Fence.wide.inRound l).round = some l from rfl, Oper.semAt_some l _ _ (fun c e => by unfold plainOp at hd; rw [e] at hd; cases hd)]
  generalize (execOp a.eval o).run P w = r at *
  cases r with
  | ok x w' =>
    cases x <;> simp only [Oper.upon, Oper.uponIn] at h ⊢
    all_goals first
      | exact h
      | exact ⟨no_depth, CallsIn.inRound l (callsIn_wide.2 h)⟩
      | exact ⟨no_depth, row_in_round h⟩
      | exact h.elim
  | halt x w' => cases x <;> simp only [Oper.upon, Oper.uponIn] at h ⊢ <;> exact h

theorem any_in_round {l n : Nat} {P : Program} {md : Region.Mode} {ops : Array Oper} {Q : Exit → Act → World → Prop} (hd : ∀ (i : Nat) o, ops[i]? = some o → plainOp o = true) (hq : ¬ LetsOut Q) :
    ∀ (fuel : Nat) (listed : Array Bool) (a : Act) (w : World), wpAny P md ops Q fuel listed a w → wpAnyIn (Fence.wide.inRound l) n P md ops Q fuel listed a w
  | 0, _, _, _, h => h
  | fuel + 1, _, _, _, h => ⟨h.1, fun i hi => by
    have h1 := h.2 i hi
    unfold wpOp at h1
    unfold wpOpIn
    cases ho : ops[i]? with
    | none => rw [ho] at h1; exact any_in_round hd hq fuel _ _ _ h1
    | some o =>
      rw [ho] at h1
      dsimp only at h1 ⊢
      split
      · rename_i hw
        rw [if_pos hw] at h1
        rcases h1 with h1 | h1
        · exact Oper.wpIn_mono (fun a w => any_in_round hd hq fuel _ a w) (op_in_round (hd i o ho) h1)
        · exact absurd h1.2 hq
      · rename_i hw
        rw [if_neg hw] at h1
        exact ⟨fun _ _ => trivial, any_in_round hd hq fuel _ _ _ h1⟩⟩

theorem region_in_round {l n : Nat} {P : Program} {id : Nat} {ops : Array Oper} {Q : Exit → Act → World → Prop} {S : World → Prop} {a : Act} {w : World} (hm : P.follows .mixedOrders = true)
    (hd : ∀ (i : Nat) o, ops[i]? = some o → plainOp o = true) (hq : ¬ LetsOut Q) (hS : S w.drew) (h : S w.drew → wpAnyH P .any ops Q S ops.size (Array.replicate ops.size false) a w.drew) :
    (Code.region id ops true).wpIn (Fence.wide.inRound l) n P Q a w :=
  wpIn_region_any hm (any_in_round hd hq _ _ _ _ (wpAny_of_held _ _ _ _ (h hS)))

/-- Whatever order is picked, T holding behind every operation: T may hang on what has come up, so that what a late store overwrites need hold before it alone. -/
def wpAnyT (P : Program) (md : Region.Mode) (ops : Array Oper) (Q : Exit → Act → World → Prop) (T : Array Bool → World → Prop) : Nat → Array Bool → Act → World → Prop
  | 0, listed, a, w => Region.ready md ops listed = [] ∧ Q .normal a w
  | fuel + 1, listed, a, w =>
    (Region.ready md ops listed = [] → Q .normal a w) ∧
    ∀ i ∈ Region.ready md ops listed, wpOp P ops Q i (fun a' w' => T (listed.setIfInBounds i true) w' ∧ wpAnyT P md ops Q T fuel (listed.setIfInBounds i true) a' w') a w

section
variable {P : Program} {md : Region.Mode} {ops : Array Oper} {Q : Exit → Act → World → Prop} {T : Array Bool → World → Prop} {S : World → Prop}

theorem any_of_T : ∀ (fuel : Nat) (listed : Array Bool) (a : Act) (w : World), wpAnyT P md ops Q T fuel listed a w → wpAny P md ops Q fuel listed a w
  | 0, _, _, _, h => h
  | fuel + 1, _, _, _, h => ⟨h.1, fun i hi => wpOp_mono (fun a' w' h' => any_of_T fuel _ a' w' h'.2) (h.2 i hi)⟩

/-- An operation i may be taken first while a later one, s, that waits for it has not come up. -/
theorem firstT {i s : Nat} {oi : Oper} {v : Value} (hi : ops[i]? = some oi) (hsel : ∀ (j : Nat) (o : Oper) cs b, ops[j]? = some o → o.op ≠ .select cs b)
    (hQ : ∀ c a w, Q (.panic c) (a.put oi.dst v) w → Q (.panic c) a w)
    (hdep : ∃ os, ops[s]? = some os ∧ ∃ e ∈ os.after, Region.binds md e = true ∧ e.on = i) (his : i ≠ s)
    (hT : ∀ l w, l.getD s true = false → T l w → S w) (hind : ∀ l w, T (l.setIfInBounds i true) w ↔ T l w) :
    ∀ (fuel : Nat) (listed : Array Bool) (a : Act) (w : World),
      (∀ j oj, ops[j]? = some oj → j ≠ i → listed.getD j true = false → (∀ e ∈ oj.after, Region.binds md e = true → e.on ≠ i) → oi.apart ops oj = true) →
      i ∈ Region.ready md ops listed → YieldsIf P ops S oi v a → listed.getD s true = false → T listed w →
      wpAnyT P md ops Q T fuel (listed.setIfInBounds i true) (a.put oi.dst v) w → wpAnyT P md ops Q T (fuel + 1) listed a w := by
  intro fuel
  induction fuel with
  | zero =>
    intro listed a w _ hr hy hs hTw H
    refine ⟨fun h => (by rw [h] at hr; cases hr), fun j hj => ?_⟩
    by_cases hji : j = i
    · subst hji; exact hy.wpOp hi (hT _ _ hs hTw) ⟨(hind _ _).2 hTw, H⟩
    · have := ready_mono hj hji
      rw [H.1] at this
      cases this
  | succ fuel ih =>
    intro listed a w hfree hr hy hs hTw H
    refine ⟨fun h => (by rw [h] at hr; cases hr), fun j hj => ?_⟩
    by_cases hji : j = i
    · subst hji; exact hy.wpOp hi (hT _ _ hs hTw) ⟨(hind _ _).2 hTw, H⟩
    · have h1 := H.2 j (ready_mono hj hji)
      obtain ⟨hjun, oj, hoj, hall⟩ := mem_ready.1 hj
      have hnot : ∀ e ∈ oj.after, Region.binds md e = true → e.on ≠ i := fun e he hb heq => by
        have k1 := hall e he hb
        have k0 := (mem_ready.1 hr).1
        rw [heq] at k1
        rcases Nat.lt_or_ge i listed.size with h' | h'
        · simp [h'] at k0 k1; rw [k0] at k1; cases k1
        · simp [Array.getElem?_eq_none h'] at k1
      have hjs : j ≠ s := fun e => by
        obtain ⟨os, hos, e1, he1, hb1, hon⟩ := hdep
        subst e
        rw [hoj] at hos
        injection hos with hos
        subst hos
        exact hnot e1 he1 hb1 hon
      have h2 := wpOp_putIf hoj (hfree j oj hoj hji hjun hnot) (fun cs b => hsel i oi cs b hi) (fun cs b => hsel j oj cs b hoj) hQ hy h1
      refine wpOp_mono (fun a' w' h3 => ?_) h2
      have hcomm := Array.setIfInBounds_comm (xs := listed) true true (Ne.symm hji)
      obtain ⟨h4, h5, h6⟩ := h3
      rw [hcomm] at h5 h6
      have h7 := (hind _ _).1 h5
      refine ⟨h7, ih (listed.setIfInBounds j true) a' w' (fun k ok hk hki hun hno => hfree k ok hk hki ?_ hno) (ready_mono hr (Ne.symm hji)) h4 ?_ h7 h6⟩
      · by_cases hjk : j = k
        · subst hjk; exact hjun
        · rw [getD_set_ne true hjk] at hun; exact hun
      · rw [getD_set_ne true hjs]; exact hs

/-- What holds till the operation s1, and what holds till s2. -/
def T2 (s1 s2 : Nat) (S1 S2 : World → Prop) (l : Array Bool) (w : World) : Prop := (l.getD s1 true = false → S1 w) ∧ (l.getD s2 true = false → S2 w)
def waitsFor (md : Region.Mode) (ops : Array Oper) (s i : Nat) : Bool := match ops[s]? with
  | some o => o.after.any fun e => Region.binds md e && e.on == i
  | none => false
theorem waitsFor_spec {s i : Nat} (h : waitsFor md ops s i = true) : ∃ os, ops[s]? = some os ∧ ∃ e ∈ os.after, Region.binds md e = true ∧ e.on = i := by
  unfold waitsFor at h
  cases ho : ops[s]? with
  | none => rw [ho] at h; cases h
  | some o =>
    rw [ho] at h
    rw [Array.any_eq_true'] at h
    obtain ⟨e, he, h1⟩ := h
    rw [Bool.and_eq_true, beq_iff_eq] at h1
    exact ⟨o, rfl, e, he, h1.1, h1.2⟩
theorem T2_ind {s1 s2 i : Nat} {S1 S2 : World → Prop} (h1 : i ≠ s1) (h2 : i ≠ s2) (l : Array Bool) (w : World) : T2 s1 s2 S1 S2 (l.setIfInBounds i true) w ↔ T2 s1 s2 S1 S2 l w := by
  unfold T2
  rw [getD_set_ne true h1, getD_set_ne true h2]
theorem take1 {i s1 s2 : Nat} {S1 S2 : World → Prop} {oi : Oper} {v : Value} {fuel : Nat} {listed : Array Bool} {a : Act} {w : World} (hi : ops[i]? = some oi)
    (hs : Region.noSelect ops = true) (hf : Region.free md ops listed i = true) (hr : (Region.ready md ops listed).contains i = true) (hw : waitsFor md ops s1 i = true) (hl : listed.getD s1 true = false) (h1 : i ≠ s1) (h2 : i ≠ s2)
    (hQ : ∀ c a w, Q (.panic c) (a.put oi.dst v) w → Q (.panic c) a w) (hy : YieldsIf P ops S1 oi v a) (hS1 : S1 w) (hS2 : S2 w)
    (h : wpAnyT P md ops Q (T2 s1 s2 S1 S2) fuel (listed.setIfInBounds i true) (a.put oi.dst v) w) : wpAnyT P md ops Q (T2 s1 s2 S1 S2) (fuel + 1) listed a w :=
  firstT hi (Region.noSelect_spec hs) hQ (waitsFor_spec hw) h1 (fun _ _ hl hT => hT.1 hl) (T2_ind h1 h2) fuel listed a w (Region.free_spec hi hf) (by simpa using hr) hy hl ⟨fun _ => hS1, fun _ => hS2⟩ h
theorem take2 {i s1 s2 : Nat} {S1 S2 : World → Prop} {oi : Oper} {v : Value} {fuel : Nat} {listed : Array Bool} {a : Act} {w : World} (hi : ops[i]? = some oi)
    (hs : Region.noSelect ops = true) (hf : Region.free md ops listed i = true) (hr : (Region.ready md ops listed).contains i = true) (hw : waitsFor md ops s2 i = true) (hl : listed.getD s2 true = false) (h1 : i ≠ s1) (h2 : i ≠ s2)
    (hQ : ∀ c a w, Q (.panic c) (a.put oi.dst v) w → Q (.panic c) a w) (hy : YieldsIf P ops S2 oi v a) (hS1 : S1 w) (hS2 : S2 w)
    (h : wpAnyT P md ops Q (T2 s1 s2 S1 S2) fuel (listed.setIfInBounds i true) (a.put oi.dst v) w) : wpAnyT P md ops Q (T2 s1 s2 S1 S2) (fuel + 1) listed a w :=
  firstT hi (Region.noSelect_spec hs) hQ (waitsFor_spec hw) h2 (fun _ _ hl hT => hT.2 hl) (T2_ind h1 h2) fuel listed a w (Region.free_spec hi hf) (by simpa using hr) hy hl ⟨fun _ => hS1, fun _ => hS2⟩ h
/-- One operation alone can come up. -/
theorem stepT {i : Nat} {o : Oper} {fuel : Nat} {listed : Array Bool} {a : Act} {w : World} (hr : Region.ready md ops listed = [i]) (ho : ops[i]? = some o)
    (h : ∀ K' : Act → World → Prop, Shut (∀ a w, T (listed.setIfInBounds i true) w → wpAnyT P md ops Q T fuel (listed.setIfInBounds i true) a w → K' a w) → if Region.wanted o (yielded ops a.tmps) = true then Oper.wp P o a w K' Q else K' (a.put o.dst undef) w) :
    wpAnyT P md ops Q T (fuel + 1) listed a w :=
  by
  refine ⟨fun h0 => (by rw [hr] at h0; cases h0), fun j hj => ?_⟩
  rw [hr] at hj
  obtain rfl : j = i := by simpa using hj
  exact wpOp_step ho (fun K' hK => h K' (fun a w hS hW => hK a w ⟨hS, hW⟩))
theorem doneT {listed : Array Bool} {a : Act} {w : World} (hr : Region.ready md ops listed = []) (h : Q .normal a w) : ∀ fuel, wpAnyT P md ops Q T fuel listed a w
  | 0 => ⟨hr, h⟩
  | _ + 1 => ⟨fun _ => h, by rw [hr]; simp⟩
theorem all_plain (h : ops.all plainOp = true) : ∀ (i : Nat) o, ops[i]? = some o → plainOp o = true := fun i o ho => by
  rw [Array.all_eq_true'] at h
  exact h o (Array.mem_of_getElem? ho)
theorem regionT_in_round {l n id : Nat} {a : Act} {w : World} (hm : P.follows .mixedOrders = true) (hd : ops.all plainOp = true) (hq : ¬ LetsOut Q)
    (h : wpAnyT P .any ops Q T ops.size (Array.replicate ops.size false) a w.drew) : (Code.region id ops true).wpIn (Fence.wide.inRound l) n P Q a w :=
  wpIn_region_any hm (any_in_round (all_plain hd) hq _ _ _ _ (any_of_T _ _ _ _ h))
theorem regionT {id : Nat} {a : Act} {w : World} (hm : P.follows .mixedOrders = true) (h : wpAnyT P .any ops Q T ops.size (Array.replicate ops.size false) a w.drew) : (Code.region id ops true).wp P Q a w :=
  wp_region_any hm (any_of_T _ _ _ _ h)
end
end Go.Proofs.YtabmhckgdncjlaaGreatDoor
