/- What rational.isZero, canonical and New return. Condition: the integers have at most 10^7 digits to the base 2^32. -/
import Derived.Test.YtgcogpfmhmmgdaaGreatDoorQ24

namespace Go.Proofs.YtgcogpfmhmmgdaaGreatDoor
open Go.RowKit
set_option linter.unusedSimpArgs false

theorem nbits_zeroN {n : Nat} : ((nbits n : Nat) : Int) = 0 ↔ n = 0 := by
  constructor
  · intro h
    rcases Nat.eq_zero_or_pos n with h0 | h0
    · exact h0
    · exfalso
      have h1 := nbits_lt n
      have h2 : nbits n = 0 := by omega
      rw [h2] at h1
      simp at h1
      omega
  · rintro rfl; rfl
set_option maxRecDepth 100000 in
theorem isZero_any (v : Value) (z : Int) (k : Nat) (w : World) (h : IsInt v z k) : Calls Tryz.prog 120 #[v] w fun e w' => e = .returned (.bool (decide (z = 0))) ∧ Below w.heap.size w w' := by
  have Hv := Lib.hid h
  obtain ⟨na, sa, rfl, _⟩ := h
  have B0 := below1 w (.cells #[.bool na, .string sa] 27)
  obtain ⟨nb, En⟩ : ∃ nb : Int, Hid (((nbits z.natAbs : Nat) : Int) = nb) := ⟨_, Lib.hid rfl⟩
  have Hd := Lib.hid (show decide (z = 0) = (nb == 0) by
    rw [← En.out]
    have h1 := nbits_zeroN (n := z.natAbs)
    by_cases h0 : z = 0
    · rw [decide_eq_true h0, h1.2 (by omega)]; rfl
    · rw [decide_eq_false h0, beq_eq_false_iff_ne.2 (fun e => h0 (by have := h1.1 e; omega))])
  rw [Hd.out]
  go_enter Tryz.func120, Tryz.ntmps120
  go_wp2_with fail
  refine (ibits_any _ z k _ Hv.out).mono ?_
  rintro e W1 ⟨rfl, b1⟩
  rw [En.out]
  have B1 := below_more B0 (Nat.le_refl _) b1
  go_wp2
  go_ret
  exact ⟨rfl, B1⟩

set_option maxRecDepth 100000 in
theorem rcanon_any (v : Value) (q : Rat) (k : Nat) (w : World) (h : IsRat v q k) : Calls Tryz.prog 60 #[v] w (RatOut w q) := by
  have Hv := Lib.hid h
  obtain ⟨na, sa, nb, sb, _, _, rfl, _⟩ := h
  have P0 := ResRat.new (w.alloc (.cells #[.bool na, .string sa, .bool nb, .string sb] 33))
  rw [World.size_alloc] at P0
  have B0 := below2 w (.cells #[.bool na, .string sa, .bool nb, .string sb] 33) (.cells #[.bool false, .string ⟨#[]⟩, .bool false, .string ⟨#[]⟩] 33)
  go_enter Tryz.func60, Tryz.ntmps60
  go_wp2_with fail
  refine (upright_any _ q k _ Hv.out).mono ?_
  rintro e W1 ⟨v1, rfl, hup, b1⟩
  go_wp2_with fail
  refine (lowest_any v1 q _ _ hup).mono ?_
  rintro e W2 ⟨rfl, b2⟩
  obtain ⟨⟨r1, r2, r3, r4⟩, r5, r6, r7, r8⟩ := (P0.keep b1).keep b2
  unfold ratV
  go_wp2
  exact bodyPost_ret (v := ratV q) (by simp [results, Tryz.results60, go_sem, r1, r2, r3, r4, ratV]) rfl ⟨rfl, below4s (below_more (below_more B0 (Nat.le_refl _) b1) (Nat.le_refl _) b2) _ (by omega) _ _ _ _⟩

/-- What New and Ratio return, the number and OK. -/
def RatGood (w : World) (q : Rat) (e : Ending) (w' : World) : Prop := e = .returned (.tuple #[ratV q, .int .i64 0]) ∧ Below w.heap.size w w'
def RatFail (w : World) (n : Int) (e : Ending) (w' : World) : Prop := e = .returned (.tuple #[.agg #[.bool false, .string ⟨#[]⟩, .bool false, .string ⟨#[]⟩], .int .i64 n]) ∧ Below w.heap.size w w'
theorem new_some (v1 v2 : Value) (n d : Int) (k : Nat) (w : World) (h1 : IsInt v1 n k) (h2 : IsInt v2 d k) (h0 : d ≠ 0) : Calls Tryz.prog 93 #[v1, v2] w (RatGood w (Rat.divInt n d)) := by
  have H1 := Lib.hid h1
  have H2 := Lib.hid h2
  obtain ⟨na, sa, rfl, _⟩ := h1
  obtain ⟨nb, sb, rfl, _⟩ := h2
  have Hr := Lib.hid (show IsRat (.agg #[.bool na, .string sa, .bool nb, .string sb]) (Rat.divInt n d) k from ⟨na, sa, nb, sb, n, d, rfl, H1.out, H2.out, rfl⟩)
  have Hd := Lib.hid (decide_eq_false h0)
  generalize Rat.divInt n d = q at *
  have S0 := boxes2 w 27 na nb sa sb
  have S1 := keep4a (o := .cells #[.bool false, .string ⟨#[]⟩, .bool false, .string ⟨#[]⟩] 33) S0
  have P0 := ResRat.new ((w.alloc (.cells #[.bool na, .string sa] 27)).alloc (.cells #[.bool nb, .string sb] 27))
  rw [World.size_alloc, World.size_alloc] at P0
  have B0 := below3 w (.cells #[.bool na, .string sa] 27) (.cells #[.bool nb, .string sb] 27) (.cells #[.bool false, .string ⟨#[]⟩, .bool false, .string ⟨#[]⟩] 33)
  go_enter Tryz.func93, Tryz.ntmps93
  go_wp2_with fail
  refine (isZero_any _ d k _ H2.out).mono ?_
  rintro e W1 ⟨rfl, b1⟩
  rw [Hd.out]
  obtain ⟨t1, t2, t3, t4⟩ := keep4 b1 S1
  have P1 := P0.keep b1
  have B1 := below_more B0 (Nat.le_refl _) b1
  clear S0 S1 P0 B0 b1
  go_wp2_with fail
  refine (rcanon_any _ q k _ Hr.out).mono ?_
  rintro e W2 ⟨rfl, b2⟩
  obtain ⟨⟨r1, r2, r3, r4⟩, r5, r6, r7, r8⟩ := P1.keep b2
  unfold ratV
  go_wp2
  exact bodyPost_ret (v := .tuple #[ratV q, .int .i64 0]) (by simp [results, Tryz.results93, go_sem, r1, r2, r3, r4, ratV]) rfl ⟨rfl, below4s (below_more B1 (Nat.le_refl _) b2) _ (by omega) _ _ _ _⟩
theorem new_none (v1 v2 : Value) (n : Int) (k : Nat) (w : World) (h1 : IsInt v1 n k) (h2 : IsInt v2 0 k) : Calls Tryz.prog 93 #[v1, v2] w (RatFail w 9) := by
  have H2 := Lib.hid h2
  obtain ⟨na, sa, rfl, _⟩ := h1
  obtain ⟨nb, sb, rfl, _⟩ := h2
  have P0 := ResRat.new ((w.alloc (.cells #[.bool na, .string sa] 27)).alloc (.cells #[.bool nb, .string sb] 27))
  rw [World.size_alloc, World.size_alloc] at P0
  have B0 := below3 w (.cells #[.bool na, .string sa] 27) (.cells #[.bool nb, .string sb] 27) (.cells #[.bool false, .string ⟨#[]⟩, .bool false, .string ⟨#[]⟩] 33)
  go_enter Tryz.func93, Tryz.ntmps93
  go_wp2_with fail
  refine (isZero_any _ 0 k _ H2.out).mono ?_
  rintro e W1 ⟨rfl, b1⟩
  rw [show decide ((0 : Int) = 0) = true from rfl]
  have B1 := below_more B0 (Nat.le_refl _) b1
  obtain ⟨⟨r1, r2, r3, r4⟩, r5, r6, r7, r8⟩ := P0.keep b1
  clear P0 B0 b1
  go_wp2
  exact bodyPost_ret (v := .tuple #[.agg #[.bool false, .string ⟨#[]⟩, .bool false, .string ⟨#[]⟩], .int .i64 9]) (by simp [results, Tryz.results93, go_sem, r1, r2, r3, r4]) rfl ⟨rfl, below4s B1 _ (by omega) _ _ _ _⟩
end Go.Proofs.YtgcogpfmhmmgdaaGreatDoor
