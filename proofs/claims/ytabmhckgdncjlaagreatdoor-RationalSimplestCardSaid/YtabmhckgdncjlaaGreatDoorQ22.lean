/- What rational.Of, isZero, upright, canonical and New return. Condition: the integers have at most 10^7 digits to the base 2^32. What rational.isZero, canonical and New return. Condition: the integers have at most 10^7 digits to the base 2^32. -/
import Derived.Test.YtabmhckgdncjlaaGreatDoorQ21
import Derived.Test.YtabmhckgdncjlaaGreatDoorQ14
import Derived.Test.YtabmhckgdncjlaaGreatDoorQ09
import Derived.Deep.RegionHeld3
import Derived.Deep.DeepCutAuto

namespace Go.Proofs.YtabmhckgdncjlaaGreatDoor
open Go.RowKit
set_option linter.unusedSimpArgs false

theorem IsInt.wider {v : Value} {z : Int} {k k' : Nat} (h : IsInt v z k) (hk : k ≤ k') (hk' : k' ≤ 10000000) : IsInt v z k' := by
  obtain ⟨g, s, h1, h2, h3, h4, _⟩ := h
  exact ⟨g, s, h1, h2, h3, Nat.lt_of_lt_of_le h4 (Nat.pow_le_pow_right (by omega) hk), hk'⟩
theorem IsInt.le {v : Value} {z : Int} {k : Nat} (h : IsInt v z k) : k ≤ 10000000 := by
  obtain ⟨_, _, _, _, _, _, h5⟩ := h
  exact h5
theorem IsInt.bd {v : Value} {z : Int} {k : Nat} (h : IsInt v z k) : z.natAbs < 4294967296 ^ k := by
  obtain ⟨_, _, _, _, _, h4, _⟩ := h
  exact h4
theorem one_int : IsInt (.agg #[.bool (sg 1), .string (mg 1)]) 1 1 := isInt_mg (by decide) (by omega)
theorem divInt_one (z : Int) : Rat.divInt z 1 = (z : Rat) := by rw [Rat.divInt_eq_div, Rat.intCast_one]; grind

set_option maxRecDepth 100000 in
set_option maxHeartbeats 3200000 in
theorem rof_any (v : Value) (z : Int) (k : Nat) (w : World) (h : IsInt v z k) : Calls Tryz.prog 21 #[v] w (RatOut w (z : Rat)) := by
  have Hv := Lib.hid h
  obtain ⟨na, sa, rfl, _⟩ := h
  have Up := Lib.hid (show IsUp (.agg #[.bool na, .string sa, .bool (sg 1), .string (mg 1)]) (z : Rat) (max k 1) from ⟨na, sa, _, _, z, 1, rfl, Hv.out.wider (by omega) (by have := Hv.out.le; omega), one_int.wider (by omega) (by have := Hv.out.le; omega), by omega, divInt_one z⟩)
  have P0 := ResRat.new (w.alloc (.cells #[.bool na, .string sa] 23))
  rw [World.size_alloc] at P0
  have B0 := below2 w (.cells #[.bool na, .string sa] 23) (.cells #[.bool false, .string ⟨#[]⟩, .bool false, .string ⟨#[]⟩] 25)
  go_enter Tryz.func21, Tryz.ntmps21
  go_upto_region 1 with fail
  go_region_held3 (fun W => W.cell? ⟨w.heap.size, 0, none⟩ = some (.bool na) ∧ W.cell? ⟨w.heap.size, 1, none⟩ = some (.string sa)) (first | exact keep2 (by assumption) (by assumption) | (constructor <;> (simp [go_sem]; done)) | go_keep)
    (first
      | (go_at_call 24; refine (iof_any 1 _ (by omega) (by omega)).mono ?_; rintro e W1 ⟨rfl, b1⟩)
      | (go_at_call 41; refine (lowest_any _ (z : Rat) (max k 1) _ Up.out).mono ?_; rintro e W2 ⟨rfl, b2⟩; obtain ⟨⟨r1, r2, r3, r4⟩, r5, r6, r7, r8⟩ := (P0.drew.keep b1).keep b2; unfold ratV))
  all_goals
    go_wp2
    exact bodyPost_ret (v := ratV (z : Rat)) (by simp [results, Tryz.results21, go_sem, r1, r2, r3, r4, ratV]) rfl ⟨rfl, below4s (below_more (below_more B0.drew (Nat.le_refl _) b1) (Nat.le_refl _) b2) _ (by omega) _ _ _ _⟩

def UpOut (w : World) (q : Rat) (k : Nat) (e : Ending) (w' : World) : Prop := ∃ v, e = .returned v ∧ IsUp v q k ∧ Below w.heap.size w w'
theorem IsUp.wider {v : Value} {q : Rat} {k k' : Nat} (h : IsUp v q k) (hk : k ≤ k') (hk' : k' ≤ 10000000) : IsUp v q k' := by
  obtain ⟨na, sa, nb, sb, n, d, h1, h2, h3, h4, h5⟩ := h
  exact ⟨na, sa, nb, sb, n, d, h1, h2.wider hk hk', h3.wider hk hk', h4, h5⟩
theorem cmpZ_pos0 {d : Int} (h : 0 < d) : cmpZ d 0 = 1 := by unfold cmpZ; rw [if_neg (by omega), if_pos h]
theorem cmpZ_neg0 {d : Int} (h : d < 0) : cmpZ d 0 = -1 := by unfold cmpZ; rw [if_pos h]
theorem ratBd_int0 : RatBd ((0 : Int) : Rat) 1 := by constructor <;> decide

set_option maxRecDepth 100000 in
set_option maxHeartbeats 3200000 in
theorem upright_any (v : Value) (q : Rat) (k : Nat) (w : World) (h : IsRat v q k) : Calls Tryz.prog 38 #[v] w (UpOut w q (max k 1)) := by
  obtain ⟨na, sa, nb, sb, n, d, rfl, hn, hd, hq⟩ := h
  have In := Lib.hid hn
  have Id := Lib.hid hd
  have hk := hn.le
  have S0 : RIn ((w.alloc (.cells #[.bool na, .string sa, .bool nb, .string sb] 25)).alloc (.cells #[.bool false, .string ⟨#[]⟩, .bool false, .string ⟨#[]⟩] 25)) w.heap.size na sa nb sb := by
    refine ⟨?_, ?_, ?_, ?_⟩ <;> simp [go_sem]
  have P0 := ResRat.new (w.alloc (.cells #[.bool na, .string sa, .bool nb, .string sb] 25))
  rw [World.size_alloc] at P0
  have B0 := below2 w (.cells #[.bool na, .string sa, .bool nb, .string sb] 25) (.cells #[.bool false, .string ⟨#[]⟩, .bool false, .string ⟨#[]⟩] 25)
  obtain ⟨c, Ec⟩ : ∃ c : Int, Hid (cmpZ d 0 = c) := ⟨_, Lib.hid rfl⟩
  clear hn hd
  go_enter Tryz.func38, Tryz.ntmps38
  go_wp2_with fail
  refine (icmp_eq Id.out zero_int Ec.out).mono ?_
  rintro e W1 ⟨rfl, b1⟩
  have S1 := S0.keep b1
  have P1 := P0.keep b1
  have B1 := below_more B0 (Nat.le_refl _) b1
  clear S0 P0 B0 b1
  rcases Int.lt_trichotomy d 0 with h0 | h0 | h0
  · have hc : c = -1 := by rw [← Ec.out]; exact cmpZ_neg0 h0
    have Hq := Lib.hid (show 0 < -d ∧ Rat.divInt (-n) (-d) = q from ⟨by omega, by rw [Rat.neg_divInt_neg]; exact hq⟩)
    clear hq h0 Ec
    subst hc
    obtain ⟨zn, En⟩ : ∃ z, Hid (-n = z) := ⟨_, Lib.hid rfl⟩
    obtain ⟨zd, Ed⟩ : ∃ z, Hid (-d = z) := ⟨_, Lib.hid rfl⟩
    have Hf := Lib.hid (show IsUp (.agg #[.bool (sg zn), .string (mg zn), .bool (sg zd), .string (mg zd)]) q (max k 1) from
      ⟨_, _, _, _, zn, zd, rfl, (isInt_mg (db_neg In.out.bd En.out) hk).wider (by omega) (by omega), (isInt_mg (db_neg Id.out.bd Ed.out) hk).wider (by omega) (by omega), by rw [← Ed.out]; exact Hq.out.1, by rw [← Ed.out, ← En.out]; exact Hq.out.2⟩)
    go_upto_region 5 with fail
    have S2 : RIn W1.drew w.heap.size na sa nb sb := S1
    go_region_held3 (fun W => W.cell? ⟨w.heap.size, 0, none⟩ = some (.bool na) ∧ W.cell? ⟨w.heap.size, 1, none⟩ = some (.string sa) ∧ W.cell? ⟨w.heap.size, 2, none⟩ = some (.bool nb) ∧ W.cell? ⟨w.heap.size, 3, none⟩ = some (.string sb)) (first | exact S1 | exact S2 | exact RIn.keep S2 (by assumption) | exact RIn.keep S3 (by assumption) | go_keep)
      (first
        | (go_at_call 37; (first | (with_reducible refine (ineg_eq In.out En.out).mono ?_); rintro e W2 ⟨rfl, b2⟩; have S3 := S2.keep b2; have P2 := P1.drew.keep b2 | (with_reducible refine (ineg_eq Id.out Ed.out).mono ?_); rintro e W3 ⟨rfl, b3⟩; obtain ⟨⟨r1, r2, r3, r4⟩, r5, r6, r7, r8⟩ := P2.keep b3)))
    all_goals
      go_wp2
      exact bodyPost_ret (v := .agg #[.bool (sg zn), .string (mg zn), .bool (sg zd), .string (mg zd)]) (by simp [results, Tryz.results38, go_sem, r1, r2, r3, r4]) rfl ⟨_, rfl, Hf.out, below4s (below_more (below_more B1.drew (Nat.le_refl _) b2) (Nat.le_refl _) b3) _ (by omega) _ _ _ _⟩
  · subst h0
    have hc : c = 0 := by rw [← Ec.out]; rfl
    have Hq := Lib.hid (show q = ((0 : Int) : Rat) by rw [← hq]; simp)
    clear hq Ec
    subst hc
    go_wp2_with fail
    refine (rof_any _ 0 1 _ zero_int).mono ?_
    rintro e W2 ⟨rfl, b2⟩
    obtain ⟨⟨r1, r2, r3, r4⟩, r5, r6, r7, r8⟩ := P1.keep b2
    unfold ratV
    go_wp2
    exact bodyPost_ret (v := ratV ((0 : Int) : Rat)) (by simp [results, Tryz.results38, go_sem, r1, r2, r3, r4, ratV]) rfl ⟨_, rfl, by rw [Hq.out]; exact (isUp_ratV ratBd_int0 (by omega)).wider (by omega) (by omega), below4s (below_more B1 (Nat.le_refl _) b2) _ (by omega) _ _ _ _⟩
  · have hc : c = 1 := by rw [← Ec.out]; exact cmpZ_pos0 h0
    have Hq := Lib.hid (show 0 < d ∧ Rat.divInt n d = q from ⟨h0, hq⟩)
    clear hq h0 Ec
    subst hc
    obtain ⟨⟨r1, r2, r3, r4⟩, r5, r6, r7, r8⟩ := id P1
    obtain ⟨t1, t2, t3, t4⟩ := id S1
    go_wp2_with fail
    exact bodyPost_ret (v := .agg #[.bool na, .string sa, .bool nb, .string sb]) (by simp [results, Tryz.results38, go_sem, r1, r2, r3, r4]) rfl ⟨_, rfl, ⟨na, sa, nb, sb, n, d, rfl, In.out.wider (by omega) (by omega), Id.out.wider (by omega) (by omega), Hq.out.1, Hq.out.2⟩, below4s B1 _ (by omega) _ _ _ _⟩

end Go.Proofs.YtabmhckgdncjlaaGreatDoor

namespace Go.Proofs.YtabmhckgdncjlaaGreatDoor
open Go.RowKit
set_option linter.unusedSimpArgs false

theorem nbits_zero {n : Nat} : ((nbits n : Nat) : Int) = 0 ↔ n = 0 := by
  constructor
  · intro h
    rcases Nat.eq_zero_or_pos n with h0 | h0
    · exact h0
    · exfalso
      have h1 := nbits_lt n
      have h2 : nbits n = 0 := by omega
      rw [h2] at h1
      simp at h1
      omega
  · rintro rfl; rfl
set_option maxRecDepth 100000 in
theorem isZero_any (v : Value) (z : Int) (k : Nat) (w : World) (h : IsInt v z k) : Calls Tryz.prog 55 #[v] w fun e w' => e = .returned (.bool (decide (z = 0))) ∧ Below w.heap.size w w' := by
  have Hv := Lib.hid h
  obtain ⟨na, sa, rfl, _⟩ := h
  have B0 := below1 w (.cells #[.bool na, .string sa] 23)
  obtain ⟨nb, En⟩ : ∃ nb : Int, Hid (((nbits z.natAbs : Nat) : Int) = nb) := ⟨_, Lib.hid rfl⟩
  have Hd := Lib.hid (show decide (z = 0) = (nb == 0) by
    rw [← En.out]
    have h1 := nbits_zero (n := z.natAbs)
    by_cases h0 : z = 0
    · rw [decide_eq_true h0, h1.2 (by omega)]; rfl
    · rw [decide_eq_false h0, beq_eq_false_iff_ne.2 (fun e => h0 (by have := h1.1 e; omega))])
  rw [Hd.out]
  go_enter Tryz.func55, Tryz.ntmps55
  go_wp2_with fail
  refine (ibits_any _ z k _ Hv.out).mono ?_
  rintro e W1 ⟨rfl, b1⟩
  rw [En.out]
  have B1 := below_more B0 (Nat.le_refl _) b1
  go_wp2
  go_ret
  exact ⟨rfl, B1⟩

set_option maxRecDepth 100000 in
theorem rcanon_any (v : Value) (q : Rat) (k : Nat) (w : World) (h : IsRat v q k) : Calls Tryz.prog 36 #[v] w (RatOut w q) := by
  have Hv := Lib.hid h
  obtain ⟨na, sa, nb, sb, _, _, rfl, _⟩ := h
  have P0 := ResRat.new (w.alloc (.cells #[.bool na, .string sa, .bool nb, .string sb] 25))
  rw [World.size_alloc] at P0
  have B0 := below2 w (.cells #[.bool na, .string sa, .bool nb, .string sb] 25) (.cells #[.bool false, .string ⟨#[]⟩, .bool false, .string ⟨#[]⟩] 25)
  go_enter Tryz.func36, Tryz.ntmps36
  go_wp2_with fail
  refine (upright_any _ q k _ Hv.out).mono ?_
  rintro e W1 ⟨v1, rfl, hup, b1⟩
  go_wp2_with fail
  refine (lowest_any v1 q _ _ hup).mono ?_
  rintro e W2 ⟨rfl, b2⟩
  obtain ⟨⟨r1, r2, r3, r4⟩, r5, r6, r7, r8⟩ := (P0.keep b1).keep b2
  unfold ratV
  go_wp2
  exact bodyPost_ret (v := ratV q) (by simp [results, Tryz.results36, go_sem, r1, r2, r3, r4, ratV]) rfl ⟨rfl, below4s (below_more (below_more B0 (Nat.le_refl _) b1) (Nat.le_refl _) b2) _ (by omega) _ _ _ _⟩

/-- What New and Ratio return, the number and OK. -/
def RatGood (w : World) (q : Rat) (e : Ending) (w' : World) : Prop := e = .returned (.tuple #[ratV q, .int .i64 0]) ∧ Below w.heap.size w w'
def RatFail (w : World) (n : Int) (e : Ending) (w' : World) : Prop := e = .returned (.tuple #[.agg #[.bool false, .string ⟨#[]⟩, .bool false, .string ⟨#[]⟩], .int .i64 n]) ∧ Below w.heap.size w w'
theorem new_some (v1 v2 : Value) (n d : Int) (k : Nat) (w : World) (h1 : IsInt v1 n k) (h2 : IsInt v2 d k) (h0 : d ≠ 0) : Calls Tryz.prog 32 #[v1, v2] w (RatGood w (Rat.divInt n d)) := by
  have H1 := Lib.hid h1
  have H2 := Lib.hid h2
  obtain ⟨na, sa, rfl, _⟩ := h1
  obtain ⟨nb, sb, rfl, _⟩ := h2
  have Hr := Lib.hid (show IsRat (.agg #[.bool na, .string sa, .bool nb, .string sb]) (Rat.divInt n d) k from ⟨na, sa, nb, sb, n, d, rfl, H1.out, H2.out, rfl⟩)
  have Hd := Lib.hid (decide_eq_false h0)
  generalize Rat.divInt n d = q at *
  have S0 := boxes2 w 23 na nb sa sb
  have S1 := keep4a (o := .cells #[.bool false, .string ⟨#[]⟩, .bool false, .string ⟨#[]⟩] 25) S0
  have P0 := ResRat.new ((w.alloc (.cells #[.bool na, .string sa] 23)).alloc (.cells #[.bool nb, .string sb] 23))
  rw [World.size_alloc, World.size_alloc] at P0
  have B0 := below3 w (.cells #[.bool na, .string sa] 23) (.cells #[.bool nb, .string sb] 23) (.cells #[.bool false, .string ⟨#[]⟩, .bool false, .string ⟨#[]⟩] 25)
  go_enter Tryz.func32, Tryz.ntmps32
  go_wp2_with fail
  refine (isZero_any _ d k _ H2.out).mono ?_
  rintro e W1 ⟨rfl, b1⟩
  rw [Hd.out]
  obtain ⟨t1, t2, t3, t4⟩ := keep4 b1 S1
  have P1 := P0.keep b1
  have B1 := below_more B0 (Nat.le_refl _) b1
  clear S0 S1 P0 B0 b1
  go_wp2_with fail
  refine (rcanon_any _ q k _ Hr.out).mono ?_
  rintro e W2 ⟨rfl, b2⟩
  obtain ⟨⟨r1, r2, r3, r4⟩, r5, r6, r7, r8⟩ := P1.keep b2
  unfold ratV
  go_wp2
  exact bodyPost_ret (v := .tuple #[ratV q, .int .i64 0]) (by simp [results, Tryz.results32, go_sem, r1, r2, r3, r4, ratV]) rfl ⟨rfl, below4s (below_more B1 (Nat.le_refl _) b2) _ (by omega) _ _ _ _⟩
theorem new_none (v1 v2 : Value) (n : Int) (k : Nat) (w : World) (h1 : IsInt v1 n k) (h2 : IsInt v2 0 k) : Calls Tryz.prog 32 #[v1, v2] w (RatFail w 9) := by
  have H2 := Lib.hid h2
  obtain ⟨na, sa, rfl, _⟩ := h1
  obtain ⟨nb, sb, rfl, _⟩ := h2
  have P0 := ResRat.new ((w.alloc (.cells #[.bool na, .string sa] 23)).alloc (.cells #[.bool nb, .string sb] 23))
  rw [World.size_alloc, World.size_alloc] at P0
  have B0 := below3 w (.cells #[.bool na, .string sa] 23) (.cells #[.bool nb, .string sb] 23) (.cells #[.bool false, .string ⟨#[]⟩, .bool false, .string ⟨#[]⟩] 25)
  go_enter Tryz.func32, Tryz.ntmps32
  go_wp2_with fail
  refine (isZero_any _ 0 k _ H2.out).mono ?_
  rintro e W1 ⟨rfl, b1⟩
  rw [show decide ((0 : Int) = 0) = true from rfl]
  have B1 := below_more B0 (Nat.le_refl _) b1
  obtain ⟨⟨r1, r2, r3, r4⟩, r5, r6, r7, r8⟩ := P0.keep b1
  clear P0 B0 b1
  go_wp2
  exact bodyPost_ret (v := .tuple #[.agg #[.bool false, .string ⟨#[]⟩, .bool false, .string ⟨#[]⟩], .int .i64 9]) (by simp [results, Tryz.results32, go_sem, r1, r2, r3, r4]) rfl ⟨rfl, below4s B1 _ (by omega) _ _ _ _⟩
end Go.Proofs.YtabmhckgdncjlaaGreatDoor
