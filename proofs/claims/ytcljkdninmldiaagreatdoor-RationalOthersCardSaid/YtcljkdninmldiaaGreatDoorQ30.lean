/- Plain facts on rational numbers: what is in lowest terms, and what integers in memory make a rational number. No condition. What rational.lowest, upright and canonical return. Condition: the integers have at most 10^7 digits to the base 2^32. What rational.Of, isZero, upright, canonical and New return. Condition: the integers have at most 10^7 digits to the base 2^32. -/
import Derived.Test.YtcljkdninmldiaaGreatDoorQ29
import Derived.Test.YtcljkdninmldiaaGreatDoorQ12
import Derived.Test.YtcljkdninmldiaaGreatDoorQ09
import Derived.Deep.RegionHeld3
import Derived.Deep.DeepCutAuto

namespace Go.Proofs.YtcljkdninmldiaaGreatDoor
open Go.RowKit

theorem dv_dvd {n d : Int} : ((Nat.gcd n.natAbs d.natAbs : Nat) : Int) ∣ n := Int.ofNat_dvd_left.2 (Nat.gcd_dvd_left _ _)
theorem dv_dvd' {n d : Int} : ((Nat.gcd n.natAbs d.natAbs : Nat) : Int) ∣ d := Int.ofNat_dvd_left.2 (Nat.gcd_dvd_right _ _)
theorem dv_pos {n d : Int} (h : 0 < d) : (0 : Int) < ((Nat.gcd n.natAbs d.natAbs : Nat) : Int) := by
  have : 0 < Nat.gcd n.natAbs d.natAbs := Nat.gcd_pos_of_pos_right _ (by omega)
  omega
theorem low_num {n d : Int} (h : 0 < d) : (Rat.divInt n d).num = n / ((Nat.gcd n.natAbs d.natAbs : Nat) : Int) := by
  rw [Rat.num_divInt, Int.sign_eq_one_of_pos h, Int.one_mul, Int.gcd_comm]; rfl
theorem low_den {n d : Int} (h : 0 < d) : ((Rat.divInt n d).den : Int) = d / ((Nat.gcd n.natAbs d.natAbs : Nat) : Int) := by
  rw [Rat.den_divInt, if_neg (by omega), Int.gcd_comm, Int.natCast_ediv]
  show ((d.natAbs : Nat) : Int) / _ = _
  rw [show ((d.natAbs : Nat) : Int) = d by omega]; rfl
theorem low_num_mul {n d : Int} (h : 0 < d) : (Rat.divInt n d).num * ((Nat.gcd n.natAbs d.natAbs : Nat) : Int) = n := by
  rw [low_num h]; exact Int.ediv_mul_cancel dv_dvd
theorem low_den_mul {n d : Int} (h : 0 < d) : ((Rat.divInt n d).den : Int) * ((Nat.gcd n.natAbs d.natAbs : Nat) : Int) = d := by
  rw [low_den h]; exact Int.ediv_mul_cancel dv_dvd'
theorem divInt_pos_iff {a b : Int} (hb : 0 < b) : 0 < Rat.divInt a b ↔ 0 < a := by
  rw [← Rat.not_le, Rat.le_iff_sub_nonneg, Rat.sub_eq_add_neg, Rat.zero_add, Rat.neg_divInt, Rat.divInt_nonneg_iff_of_pos_right hb]
  omega
theorem divInt_lt_iff {n1 d1 n2 d2 : Int} (h1 : 0 < d1) (h2 : 0 < d2) : Rat.divInt n1 d1 < Rat.divInt n2 d2 ↔ n1 * d2 < n2 * d1 := by
  rw [Rat.lt_iff_sub_pos, Rat.divInt_sub_divInt _ _ (by omega) (by omega), divInt_pos_iff (Int.mul_pos h2 h1)]
  omega
theorem floor_divInt {n d : Int} (h : 0 < d) : (Rat.divInt n d).floor = n / d := by
  rw [Rat.floor_def]
  have e1 := low_num_mul (n := n) h
  have e2 := low_den_mul (n := n) h
  have hp := dv_pos (n := n) h
  generalize ((Nat.gcd n.natAbs d.natAbs : Nat) : Int) = g at *
  generalize hr : Rat.divInt n d = r at *
  rw [← e1, ← e2, Int.mul_ediv_mul_of_pos_left _ _ hp]
theorem low_num_le {n d : Int} (h : 0 < d) : (Rat.divInt n d).num.natAbs ≤ n.natAbs := by
  have e := low_num_mul (n := n) h
  have hp := dv_pos (n := n) h
  generalize ((Nat.gcd n.natAbs d.natAbs : Nat) : Int) = g at *
  have e2 := congrArg Int.natAbs e
  rw [Int.natAbs_mul] at e2
  rw [← e2]
  exact Nat.le_mul_of_pos_right _ (by omega)
theorem low_den_le {n d : Int} (h : 0 < d) : (Rat.divInt n d).den ≤ d.natAbs := by
  have e := low_den_mul (n := n) h
  have hp := dv_pos (n := n) h
  generalize ((Nat.gcd n.natAbs d.natAbs : Nat) : Int) = g at *
  have e2 := congrArg Int.natAbs e
  rw [Int.natAbs_mul, Int.natAbs_natCast] at e2
  rw [← e2]
  exact Nat.le_mul_of_pos_right _ (by omega)
theorem divInt_quot {n1 d1 n2 d2 : Int} : Rat.divInt (n1 * d2) (d1 * n2) = Rat.divInt n1 d1 / Rat.divInt n2 d2 := by
  rw [Rat.div_def, Rat.inv_divInt, Rat.divInt_mul_divInt]
theorem qD_floor {n d : Int} (h : d ≠ 0) : qD n d = (Rat.divInt n d).floor := by
  obtain ⟨s1, s2, s3⟩ := qD_spec (a := n) (b := d) h
  rcases Int.lt_or_gt_of_ne h with h1 | h1
  · rw [← Rat.neg_divInt_neg, floor_divInt (by omega)]
    have e1 := Int.mul_ediv_add_emod (-n) (-d)
    have e2 := Int.emod_nonneg (-n) (b := -d) (by omega)
    have e3 := Int.emod_lt_of_pos (-n) (b := -d) (by omega)
    refine (div_one s1 (q' := -n / -d) (r' := -(-n % -d)) ?_ ⟨s2, s3⟩ ⟨fun _ => by omega, fun _ => by omega⟩ h).1
    have e4 : -d * (-n / -d) = -((-n / -d) * d) := by rw [Int.neg_mul, Int.mul_comm]
    omega
  · rw [floor_divInt h1]
    have e1 := Int.mul_ediv_add_emod n d
    have e2 := Int.emod_nonneg n (b := d) (by omega)
    have e3 := Int.emod_lt_of_pos n (b := d) (by omega)
    refine (div_one s1 (q' := n / d) (r' := n % d) ?_ ⟨s2, s3⟩ ⟨fun _ => by omega, fun _ => by omega⟩ h).1
    rw [Int.mul_comm]; omega

/-- The value of a rational number in lowest terms. -/
def ratV (q : Rat) : Value := .agg #[.bool (sg q.num), .string (mg q.num), .bool (sg (q.den : Int)), .string (mg (q.den : Int))]
/-- v is an api.Rat with the value q, of integers of at most k digits to the base 2^32. -/
def IsRat (v : Value) (q : Rat) (k : Nat) : Prop := ∃ na sa nb sb n d, v = .agg #[.bool na, .string sa, .bool nb, .string sb] ∧ IsInt (.agg #[.bool na, .string sa]) n k ∧ IsInt (.agg #[.bool nb, .string sb]) d k ∧ Rat.divInt n d = q
/-- .. whose denominator is greater than 0. -/
def IsUp (v : Value) (q : Rat) (k : Nat) : Prop := ∃ na sa nb sb n d, v = .agg #[.bool na, .string sa, .bool nb, .string sb] ∧ IsInt (.agg #[.bool na, .string sa]) n k ∧ IsInt (.agg #[.bool nb, .string sb]) d k ∧ 0 < d ∧ Rat.divInt n d = q
def RatOut (w : World) (q : Rat) (e : Ending) (w' : World) : Prop := e = .returned (ratV q) ∧ Below w.heap.size w w'
/-- How large a rational number is in lowest terms. -/
def RatBd (q : Rat) (k : Nat) : Prop := q.num.natAbs < 4294967296 ^ k ∧ q.den < 4294967296 ^ k
theorem IsUp.rat {v : Value} {q : Rat} {k : Nat} (h : IsUp v q k) : IsRat v q k := by
  obtain ⟨na, sa, nb, sb, n, d, h1, h2, h3, _, h4⟩ := h
  exact ⟨na, sa, nb, sb, n, d, h1, h2, h3, h4⟩
theorem isUp_ratV {q : Rat} {k : Nat} (h : RatBd q k) (hk : k ≤ 10000000) : IsUp (ratV q) q k :=
  ⟨_, _, _, _, q.num, (q.den : Int), rfl, isInt_mg h.1 hk, isInt_mg (by rw [Int.natAbs_natCast]; exact h.2) hk, by have := q.den_pos; omega, Rat.num_divInt_den q⟩
theorem isRat_ratV {q : Rat} {k : Nat} (h : RatBd q k) (hk : k ≤ 10000000) : IsRat (ratV q) q k := (isUp_ratV h hk).rat
theorem divInt_norm (n d : Int) : ∃ n' d' : Int, Rat.divInt n' d' = Rat.divInt n d ∧ 0 < d' ∧ n'.natAbs ≤ n.natAbs ∧ (d' = 1 ∨ d'.natAbs = d.natAbs) := by
  rcases Int.lt_trichotomy d 0 with h | h | h
  · exact ⟨-n, -d, Rat.neg_divInt_neg n d, by omega, by omega, by omega⟩
  · subst h; exact ⟨0, 1, by simp, by omega, by omega, by omega⟩
  · exact ⟨n, d, rfl, h, by omega, by omega⟩
theorem ratBd_divInt {n d : Int} {k : Nat} (hn : n.natAbs < 4294967296 ^ k) (hd : d.natAbs < 4294967296 ^ k) : RatBd (Rat.divInt n d) (k + 1) := by
  obtain ⟨n', d', e, hp, h1, h2⟩ := divInt_norm n d
  rw [← e]
  have l1 := low_num_le (n := n') hp
  have l2 := low_den_le (n := n') hp
  have hP : 1 ≤ 4294967296 ^ k := Nat.pow_pos (by omega)
  constructor
  · rw [Nat.pow_succ]; omega
  · rw [Nat.pow_succ]; rcases h2 with h2 | h2 <;> omega
/-- The order of two rational numbers. -/
def cmpQ (p q : Rat) : Int := if p < q then -1 else if q < p then 1 else 0
theorem cmpQ_eq {n1 d1 n2 d2 : Int} (h1 : 0 < d1) (h2 : 0 < d2) : cmpZ (n1 * d2) (n2 * d1) = cmpQ (Rat.divInt n1 d1) (Rat.divInt n2 d2) := by
  unfold cmpZ cmpQ
  simp only [divInt_lt_iff h1 h2, divInt_lt_iff h2 h1]
end Go.Proofs.YtcljkdninmldiaaGreatDoor

namespace Go.Proofs.YtcljkdninmldiaaGreatDoor
open Go.RowKit
set_option linter.unusedSimpArgs false

/-- A rational number in a box. -/
def RIn (W : World) (p : Nat) (g1 : Bool) (s1 : ByteArray) (g2 : Bool) (s2 : ByteArray) : Prop :=
  W.cell? ⟨p, 0, none⟩ = some (.bool g1) ∧ W.cell? ⟨p, 1, none⟩ = some (.string s1) ∧ W.cell? ⟨p, 2, none⟩ = some (.bool g2) ∧ W.cell? ⟨p, 3, none⟩ = some (.string s2)
theorem RIn.keep {W W1 : World} {p : Nat} {g1 g2 : Bool} {s1 s2 : ByteArray} (h : RIn W p g1 s1 g2 s2) (hb : Below W.heap.size W W1) : RIn W1 p g1 s1 g2 s2 :=
  ⟨cell_keep h.1 hb, cell_keep h.2.1 hb, cell_keep h.2.2.1 hb, cell_keep h.2.2.2 hb⟩
theorem RIn.lt {W : World} {p : Nat} {g1 g2 : Bool} {s1 s2 : ByteArray} (h : RIn W p g1 s1 g2 s2) : p < W.heap.size := World.block_lt_of_cell? W ⟨p, 0, none⟩ h.1
theorem RIn.set {W : World} {p : Nat} {g1 g2 : Bool} {s1 s2 : ByteArray} (h : RIn W p g1 s1 g2 s2) (a : Addr) (ha : p ≠ a.block) (u : Value) : RIn (W.setCell a u) p g1 s1 g2 s2 := by
  refine ⟨?_, ?_, ?_, ?_⟩ <;> rw [World.cell?_setCell_far _ _ _ _ (by dsimp only; exact fun e => ha e.symm)]
  · exact h.1
  · exact h.2.1
  · exact h.2.2.1
  · exact h.2.2.2
/-- A box that a result is stored in. -/
def ResRat (w : World) (b : Nat) : Prop := RIn w b false ⟨#[]⟩ false ⟨#[]⟩ ∧ w.frozen? ⟨b, 0, none⟩ = false ∧ w.frozen? ⟨b, 1, none⟩ = false ∧ w.frozen? ⟨b, 2, none⟩ = false ∧ w.frozen? ⟨b, 3, none⟩ = false
theorem ResRat.keep {w w' : World} {b : Nat} (h : ResRat w b) (hb : Below w.heap.size w w') : ResRat w' b :=
  ⟨h.1.keep hb, frozen_keep h.1.1 h.2.1 hb, frozen_keep h.1.2.1 h.2.2.1 hb, frozen_keep h.1.2.2.1 h.2.2.2.1 hb, frozen_keep h.1.2.2.2 h.2.2.2.2 hb⟩
theorem ResRat.new (w : World) : ResRat (w.alloc (.cells #[.bool false, .string ⟨#[]⟩, .bool false, .string ⟨#[]⟩] 25)) w.heap.size := by
  refine ⟨⟨?_, ?_, ?_, ?_⟩, ?_, ?_, ?_, ?_⟩ <;> simp [go_sem]
theorem ResRat.drew {w : World} {b : Nat} (h : ResRat w b) : ResRat w.drew b := h
theorem below4s {B : Nat} {w w1 : World} (hb : Below B w w1) (p : Nat) (hp : B ≤ p) (u1 u2 u3 u4 : Value) :
    Below B w ((((w1.setCell ⟨p, 0, none⟩ u1).setCell ⟨p, 1, none⟩ u2).setCell ⟨p, 2, none⟩ u3).setCell ⟨p, 3, none⟩ u4) :=
  (((hb.setCell (by exact hp) _).setCell (by exact hp) _).setCell (by exact hp) _).setCell (by exact hp) _

set_option maxRecDepth 100000 in
set_option maxHeartbeats 3200000 in
theorem lowest_any (v : Value) (q : Rat) (k : Nat) (w : World) (h : IsUp v q k) : Calls Tryz.prog 45 #[v] w (RatOut w q) := by
  obtain ⟨na, sa, nb, sb, n, d, rfl, hn, hd, hpos, hq⟩ := h
  have Dn := Lib.hid (show n.natAbs < 4294967296 ^ k ∧ k ≤ 10000000 from by obtain ⟨_, _, _, _, _, h1, h2⟩ := hn; exact ⟨h1, h2⟩)
  have Dd := Lib.hid (show d.natAbs < 4294967296 ^ k from by obtain ⟨_, _, _, _, _, h1, h2⟩ := hd; exact h1)
  have In := Lib.hid hn
  have Id := Lib.hid hd
  clear hn hd
  obtain ⟨g, Eg⟩ : ∃ g : Int, Hid (((Nat.gcd n.natAbs d.natAbs : Nat) : Int) = g) := ⟨_, Lib.hid rfl⟩
  have Gp := Lib.hid (show 0 < g by rw [← Eg.out]; exact dv_pos hpos)
  have Ig := Lib.hid (isInt_mg (gcd_bd Dn.out.1 Dd.out Eg.out) Dn.out.2)
  have Q1 := Lib.hid (show qD n g = q.num by rw [(qD_exact Gp.out (by rw [← Eg.out]; exact dv_dvd)).1, ← hq, low_num hpos, Eg.out])
  have R1 := Lib.hid (show rD n g = 0 from (qD_exact Gp.out (by rw [← Eg.out]; exact dv_dvd)).2)
  have Q2 := Lib.hid (show qD d g = (q.den : Int) by rw [(qD_exact Gp.out (by rw [← Eg.out]; exact dv_dvd')).1, ← hq, low_den hpos, Eg.out])
  have R2 := Lib.hid (show rD d g = 0 from (qD_exact Gp.out (by rw [← Eg.out]; exact dv_dvd')).2)
  have G0 := Lib.hid (show g ≠ 0 by have := Gp.out; omega)
  clear hpos hq
  have S0 : RIn ((w.alloc (.cells #[.bool na, .string sa, .bool nb, .string sb] 25)).alloc (.cells #[.bool false, .string ⟨#[]⟩, .bool false, .string ⟨#[]⟩] 25)) w.heap.size na sa nb sb := by
    refine ⟨?_, ?_, ?_, ?_⟩ <;> simp [go_sem]
  have P0 := ResRat.new (w.alloc (.cells #[.bool na, .string sa, .bool nb, .string sb] 25))
  rw [World.size_alloc] at P0
  have B0 := below2 w (.cells #[.bool na, .string sa, .bool nb, .string sb] 25) (.cells #[.bool false, .string ⟨#[]⟩, .bool false, .string ⟨#[]⟩] 25)
  go_enter Tryz.func45, Tryz.ntmps45
  go_wp2_with fail
  refine (gcd_eq In.out Id.out Eg.out).mono ?_
  rintro e W1 ⟨rfl, b1⟩
  have hbl := below1 W1 (.cells #[.bool (sg g), .string (mg g)] 23)
  have S1 := (S0.keep b1).keep hbl
  have P1 := (P0.keep b1).keep hbl
  have B1 := below_more (below_more B0 (Nat.le_refl _) b1) (Nat.le_refl _) hbl
  have h1 : (W1.alloc (.cells #[.bool (sg g), .string (mg g)] 23)).cell? ⟨W1.heap.size, 0, none⟩ = some (.bool (sg g)) := by simp [go_sem]
  have h2 : (W1.alloc (.cells #[.bool (sg g), .string (mg g)] 23)).cell? ⟨W1.heap.size, 1, none⟩ = some (.string (mg g)) := by simp [go_sem]
  clear S0 P0 B0 hbl b1
  go_upto_region 2 with fail
  generalize W1.alloc (.cells #[.bool (sg g), .string (mg g)] 23) = W2 at *
  generalize W1.heap.size = p3 at *
  obtain ⟨t1, t2, t3, t4⟩ := id S1
  go_wp2_with fail
  refine (ediv_eq In.out Ig.out G0.out Q1.out R1.out).mono ?_
  rintro e W3 ⟨rfl, b3⟩
  have hbl := below2 W3 (.cells #[.bool (sg q.num), .string (mg q.num)] 23) (.cells #[.bool (sg 0), .string (mg 0)] 23)
  have S2 := (S1.keep b3).keep hbl
  have P2 := (P1.keep b3).keep hbl
  have B2 := below_more (below_more B1 (Nat.le_refl _) b3) (Nat.le_refl _) hbl
  have k1 := cell_keep (cell_keep h1 b3) hbl
  have k2 := cell_keep (cell_keep h2 b3) hbl
  have j1 : ((W3.alloc (.cells #[.bool (sg q.num), .string (mg q.num)] 23)).alloc (.cells #[.bool (sg 0), .string (mg 0)] 23)).cell? ⟨W3.heap.size, 0, none⟩ = some (.bool (sg q.num)) := by simp [go_sem]
  have j2 : ((W3.alloc (.cells #[.bool (sg q.num), .string (mg q.num)] 23)).alloc (.cells #[.bool (sg 0), .string (mg 0)] 23)).cell? ⟨W3.heap.size, 1, none⟩ = some (.string (mg q.num)) := by simp [go_sem]
  clear S1 P1 B1 hbl b3 h1 h2 t1 t2 t3 t4
  go_upto_region 3 with fail
  generalize ((W3.alloc (.cells #[.bool (sg q.num), .string (mg q.num)] 23)).alloc (.cells #[.bool (sg 0), .string (mg 0)] 23)) = W4 at *
  generalize W3.heap.size = p4 at *
  obtain ⟨t1, t2, t3, t4⟩ := id S2
  go_wp2_with fail
  refine (ediv_eq Id.out Ig.out G0.out Q2.out R2.out).mono ?_
  rintro e W5 ⟨rfl, b5⟩
  have hbl := below2 W5 (.cells #[.bool (sg (q.den : Int)), .string (mg (q.den : Int))] 23) (.cells #[.bool (sg 0), .string (mg 0)] 23)
  have P3 := (P2.keep b5).keep hbl
  have B3 := below_more (below_more B2 (Nat.le_refl _) b5) (Nat.le_refl _) hbl
  have u1 := cell_keep (cell_keep j1 b5) hbl
  have u2 := cell_keep (cell_keep j2 b5) hbl
  have u3 : ((W5.alloc (.cells #[.bool (sg (q.den : Int)), .string (mg (q.den : Int))] 23)).alloc (.cells #[.bool (sg 0), .string (mg 0)] 23)).cell? ⟨W5.heap.size, 0, none⟩ = some (.bool (sg (q.den : Int))) := by simp [go_sem]
  have u4 : ((W5.alloc (.cells #[.bool (sg (q.den : Int)), .string (mg (q.den : Int))] 23)).alloc (.cells #[.bool (sg 0), .string (mg 0)] 23)).cell? ⟨W5.heap.size, 1, none⟩ = some (.string (mg (q.den : Int))) := by simp [go_sem]
  clear S2 P2 B2 hbl b5 j1 j2 t1 t2 t3 t4 k1 k2
  go_upto_region 4 with fail
  generalize ((W5.alloc (.cells #[.bool (sg (q.den : Int)), .string (mg (q.den : Int))] 23)).alloc (.cells #[.bool (sg 0), .string (mg 0)] 23)) = W6 at *
  generalize W5.heap.size = p7 at *
  obtain ⟨⟨r1, r2, r3, r4⟩, r5, r6, r7, r8⟩ := P3
  go_wp2_with fail
  exact bodyPost_ret (v := ratV q) (by simp [results, Tryz.results45, go_sem, r1, r2, r3, r4, ratV]) rfl ⟨rfl, below4s B3 _ (by omega) _ _ _ _⟩
end Go.Proofs.YtcljkdninmldiaaGreatDoor

namespace Go.Proofs.YtcljkdninmldiaaGreatDoor
open Go.RowKit
set_option linter.unusedSimpArgs false

theorem IsInt.wider {v : Value} {z : Int} {k k' : Nat} (h : IsInt v z k) (hk : k ≤ k') (hk' : k' ≤ 10000000) : IsInt v z k' := by
  obtain ⟨g, s, h1, h2, h3, h4, _⟩ := h
  exact ⟨g, s, h1, h2, h3, Nat.lt_of_lt_of_le h4 (Nat.pow_le_pow_right (by omega) hk), hk'⟩
theorem IsInt.le {v : Value} {z : Int} {k : Nat} (h : IsInt v z k) : k ≤ 10000000 := by
  obtain ⟨_, _, _, _, _, _, h5⟩ := h
  exact h5
theorem IsInt.bd {v : Value} {z : Int} {k : Nat} (h : IsInt v z k) : z.natAbs < 4294967296 ^ k := by
  obtain ⟨_, _, _, _, _, h4, _⟩ := h
  exact h4
theorem one_int : IsInt (.agg #[.bool (sg 1), .string (mg 1)]) 1 1 := isInt_mg (by decide) (by omega)
theorem divInt_one (z : Int) : Rat.divInt z 1 = (z : Rat) := by rw [Rat.divInt_eq_div, Rat.intCast_one]; grind

set_option maxRecDepth 100000 in
set_option maxHeartbeats 3200000 in
theorem rof_any (v : Value) (z : Int) (k : Nat) (w : World) (h : IsInt v z k) : Calls Tryz.prog 25 #[v] w (RatOut w (z : Rat)) := by
  have Hv := Lib.hid h
  obtain ⟨na, sa, rfl, _⟩ := h
  have Up := Lib.hid (show IsUp (.agg #[.bool na, .string sa, .bool (sg 1), .string (mg 1)]) (z : Rat) (max k 1) from ⟨na, sa, _, _, z, 1, rfl, Hv.out.wider (by omega) (by have := Hv.out.le; omega), one_int.wider (by omega) (by have := Hv.out.le; omega), by omega, divInt_one z⟩)
  have P0 := ResRat.new (w.alloc (.cells #[.bool na, .string sa] 23))
  rw [World.size_alloc] at P0
  have B0 := below2 w (.cells #[.bool na, .string sa] 23) (.cells #[.bool false, .string ⟨#[]⟩, .bool false, .string ⟨#[]⟩] 25)
  go_enter Tryz.func25, Tryz.ntmps25
  go_upto_region 1 with fail
  go_region_held3 (fun W => W.cell? ⟨w.heap.size, 0, none⟩ = some (.bool na) ∧ W.cell? ⟨w.heap.size, 1, none⟩ = some (.string sa)) (first | exact keep2 (by assumption) (by assumption) | (constructor <;> (simp [go_sem]; done)) | go_keep)
    (first
      | (go_at_call 17; refine (iof_any 1 _ (by omega) (by omega)).mono ?_; rintro e W1 ⟨rfl, b1⟩)
      | (go_at_call 45; refine (lowest_any _ (z : Rat) (max k 1) _ Up.out).mono ?_; rintro e W2 ⟨rfl, b2⟩; obtain ⟨⟨r1, r2, r3, r4⟩, r5, r6, r7, r8⟩ := (P0.drew.keep b1).keep b2; unfold ratV))
  all_goals
    go_wp2
    exact bodyPost_ret (v := ratV (z : Rat)) (by simp [results, Tryz.results25, go_sem, r1, r2, r3, r4, ratV]) rfl ⟨rfl, below4s (below_more (below_more B0.drew (Nat.le_refl _) b1) (Nat.le_refl _) b2) _ (by omega) _ _ _ _⟩

def UpOut (w : World) (q : Rat) (k : Nat) (e : Ending) (w' : World) : Prop := ∃ v, e = .returned v ∧ IsUp v q k ∧ Below w.heap.size w w'
theorem IsUp.wider {v : Value} {q : Rat} {k k' : Nat} (h : IsUp v q k) (hk : k ≤ k') (hk' : k' ≤ 10000000) : IsUp v q k' := by
  obtain ⟨na, sa, nb, sb, n, d, h1, h2, h3, h4, h5⟩ := h
  exact ⟨na, sa, nb, sb, n, d, h1, h2.wider hk hk', h3.wider hk hk', h4, h5⟩
theorem cmpZ_pos0 {d : Int} (h : 0 < d) : cmpZ d 0 = 1 := by unfold cmpZ; rw [if_neg (by omega), if_pos h]
theorem cmpZ_neg0 {d : Int} (h : d < 0) : cmpZ d 0 = -1 := by unfold cmpZ; rw [if_pos h]
theorem ratBd_int0 : RatBd ((0 : Int) : Rat) 1 := by constructor <;> decide

set_option maxRecDepth 100000 in
set_option maxHeartbeats 3200000 in
theorem upright_any (v : Value) (q : Rat) (k : Nat) (w : World) (h : IsRat v q k) : Calls Tryz.prog 24 #[v] w (UpOut w q (max k 1)) := by
  obtain ⟨na, sa, nb, sb, n, d, rfl, hn, hd, hq⟩ := h
  have In := Lib.hid hn
  have Id := Lib.hid hd
  have hk := hn.le
  have S0 : RIn ((w.alloc (.cells #[.bool na, .string sa, .bool nb, .string sb] 25)).alloc (.cells #[.bool false, .string ⟨#[]⟩, .bool false, .string ⟨#[]⟩] 25)) w.heap.size na sa nb sb := by
    refine ⟨?_, ?_, ?_, ?_⟩ <;> simp [go_sem]
  have P0 := ResRat.new (w.alloc (.cells #[.bool na, .string sa, .bool nb, .string sb] 25))
  rw [World.size_alloc] at P0
  have B0 := below2 w (.cells #[.bool na, .string sa, .bool nb, .string sb] 25) (.cells #[.bool false, .string ⟨#[]⟩, .bool false, .string ⟨#[]⟩] 25)
  obtain ⟨c, Ec⟩ : ∃ c : Int, Hid (cmpZ d 0 = c) := ⟨_, Lib.hid rfl⟩
  clear hn hd
  go_enter Tryz.func24, Tryz.ntmps24
  go_wp2_with fail
  refine (icmp_eq Id.out zero_int Ec.out).mono ?_
  rintro e W1 ⟨rfl, b1⟩
  have S1 := S0.keep b1
  have P1 := P0.keep b1
  have B1 := below_more B0 (Nat.le_refl _) b1
  clear S0 P0 B0 b1
  rcases Int.lt_trichotomy d 0 with h0 | h0 | h0
  · have hc : c = -1 := by rw [← Ec.out]; exact cmpZ_neg0 h0
    have Hq := Lib.hid (show 0 < -d ∧ Rat.divInt (-n) (-d) = q from ⟨by omega, by rw [Rat.neg_divInt_neg]; exact hq⟩)
    clear hq h0 Ec
    subst hc
    obtain ⟨zn, En⟩ : ∃ z, Hid (-n = z) := ⟨_, Lib.hid rfl⟩
    obtain ⟨zd, Ed⟩ : ∃ z, Hid (-d = z) := ⟨_, Lib.hid rfl⟩
    have Hf := Lib.hid (show IsUp (.agg #[.bool (sg zn), .string (mg zn), .bool (sg zd), .string (mg zd)]) q (max k 1) from
      ⟨_, _, _, _, zn, zd, rfl, (isInt_mg (db_neg In.out.bd En.out) hk).wider (by omega) (by omega), (isInt_mg (db_neg Id.out.bd Ed.out) hk).wider (by omega) (by omega), by rw [← Ed.out]; exact Hq.out.1, by rw [← Ed.out, ← En.out]; exact Hq.out.2⟩)
    go_upto_region 5 with fail
    have S2 : RIn W1.drew w.heap.size na sa nb sb := S1
    go_region_held3 (fun W => W.cell? ⟨w.heap.size, 0, none⟩ = some (.bool na) ∧ W.cell? ⟨w.heap.size, 1, none⟩ = some (.string sa) ∧ W.cell? ⟨w.heap.size, 2, none⟩ = some (.bool nb) ∧ W.cell? ⟨w.heap.size, 3, none⟩ = some (.string sb)) (first | exact S1 | exact S2 | exact RIn.keep S2 (by assumption) | exact RIn.keep S3 (by assumption) | go_keep)
      (first
        | (go_at_call 55; (first | (with_reducible refine (ineg_eq In.out En.out).mono ?_); rintro e W2 ⟨rfl, b2⟩; have S3 := S2.keep b2; have P2 := P1.drew.keep b2 | (with_reducible refine (ineg_eq Id.out Ed.out).mono ?_); rintro e W3 ⟨rfl, b3⟩; obtain ⟨⟨r1, r2, r3, r4⟩, r5, r6, r7, r8⟩ := P2.keep b3)))
    all_goals
      go_wp2
      exact bodyPost_ret (v := .agg #[.bool (sg zn), .string (mg zn), .bool (sg zd), .string (mg zd)]) (by simp [results, Tryz.results24, go_sem, r1, r2, r3, r4]) rfl ⟨_, rfl, Hf.out, below4s (below_more (below_more B1.drew (Nat.le_refl _) b2) (Nat.le_refl _) b3) _ (by omega) _ _ _ _⟩
  · subst h0
    have hc : c = 0 := by rw [← Ec.out]; rfl
    have Hq := Lib.hid (show q = ((0 : Int) : Rat) by rw [← hq]; simp)
    clear hq Ec
    subst hc
    go_wp2_with fail
    refine (rof_any _ 0 1 _ zero_int).mono ?_
    rintro e W2 ⟨rfl, b2⟩
    obtain ⟨⟨r1, r2, r3, r4⟩, r5, r6, r7, r8⟩ := P1.keep b2
    unfold ratV
    go_wp2
    exact bodyPost_ret (v := ratV ((0 : Int) : Rat)) (by simp [results, Tryz.results24, go_sem, r1, r2, r3, r4, ratV]) rfl ⟨_, rfl, by rw [Hq.out]; exact (isUp_ratV ratBd_int0 (by omega)).wider (by omega) (by omega), below4s (below_more B1 (Nat.le_refl _) b2) _ (by omega) _ _ _ _⟩
  · have hc : c = 1 := by rw [← Ec.out]; exact cmpZ_pos0 h0
    have Hq := Lib.hid (show 0 < d ∧ Rat.divInt n d = q from ⟨h0, hq⟩)
    clear hq h0 Ec
    subst hc
    obtain ⟨⟨r1, r2, r3, r4⟩, r5, r6, r7, r8⟩ := id P1
    obtain ⟨t1, t2, t3, t4⟩ := id S1
    go_wp2_with fail
    exact bodyPost_ret (v := .agg #[.bool na, .string sa, .bool nb, .string sb]) (by simp [results, Tryz.results24, go_sem, r1, r2, r3, r4]) rfl ⟨_, rfl, ⟨na, sa, nb, sb, n, d, rfl, In.out.wider (by omega) (by omega), Id.out.wider (by omega) (by omega), Hq.out.1, Hq.out.2⟩, below4s B1 _ (by omega) _ _ _ _⟩

end Go.Proofs.YtcljkdninmldiaaGreatDoor
