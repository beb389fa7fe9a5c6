/- What groovelaw09.awake returns: true. No condition. -/
import Derived.Test.YtfkplnmhlpabaaaVn
namespace Go.Proofs.Ytfkplnmhlpabaaa
open Go.RowKit
set_option linter.unusedSimpArgs false
set_option linter.unusedVariables false

abbrev gE : List E3 := [(0, 0, 0), (0, 1, 1), (1, 0, 0)]
abbrev mE : List E3 := [(0, 0, 0), (0, 1, 1), (1, 0, 0), (1, 1, 2)]
theorem edgesLit (W : World) (es : List E3) (h0 : 0 < es.length) (hl : es.length ≤ 1000) : EdgesAt (W.alloc (.cells (ecl es).toArray 46)) W.heap.size (.slice (some ⟨W.heap.size, 0, none⟩) es.length es.length) es :=
  ⟨by rw [ecl_len], .inr ⟨W.heap.size, es.length, (ecl es).toArray, rfl, Nat.le_refl _, heap_alloc_new W _, Nat.le_refl _, by unfold maxLen; omega, by rw [List.size_toArray, ecl_len], by
    show (ecl es).take (es.length * 3) = _; rw [← ecl_len, List.take_length]⟩⟩
theorem intsLit (W : World) (l : List Int) (h0 : 0 < l.length) (hl : l.length ≤ 1000) : IntsAt (W.alloc (.cells (intz l).toArray 3)) W.heap.size (.slice (some ⟨W.heap.size, 0, none⟩) l.length l.length) l :=
  ⟨by rw [intz_len, Nat.mul_one], .inr ⟨W.heap.size, l.length, (intz l).toArray, rfl, Nat.le_refl _, heap_alloc_new W _, Nat.le_refl _, by unfold maxLen; omega, by rw [List.size_toArray, intz_len, Nat.mul_one], by
    rw [Nat.mul_one]; show (intz l).take l.length = _; rw [← intz_len, List.take_length]⟩⟩
/-- slices.Equal of two lists of integers. -/
theorem intsEq_any {W : World} {v v' : Value} {l m : List Int} (h : IntsRd W v l) (h' : IntsRd W v' m) (hl : l.length ≤ 1000000) (hm : m.length ≤ 9223372036854775807) :
    Calls Try.prog 29 #[v, v'] W fun e w' => e = .returned (.bool (decide (l = m))) ∧ Below W.heap.size W w' := by
  rcases Nat.eq_zero_or_pos l.length with h0 | h0
  · obtain ⟨a, c, rfl⟩ := h.form
    obtain ⟨a', c', rfl⟩ := h'.form
    obtain rfl : l = [] := List.eq_nil_of_length_eq_zero h0
    refine (Try.slices_Equal_int_empty a a' c m.length c' W hm).mono ?_
    rintro e w' ⟨rfl, rfl⟩
    refine ⟨?_, Below.refl _ _⟩
    congr 2
    rw [decide_eq_decide]
    constructor
    · intro h; exact (List.eq_nil_of_length_eq_zero h).symm
    · rintro rfl; rfl
  · obtain ⟨b1, o1, c1, rfl, -⟩ := h.at (List.getElem?_eq_getElem h0)
    rcases Nat.eq_zero_or_pos m.length with h1 | h1
    · obtain ⟨a', c', rfl⟩ := h'.form
      obtain rfl : m = [] := List.eq_nil_of_length_eq_zero h1
      have hne : ¬ l = [] := fun e => by rw [e] at h0; exact absurd h0 (by decide)
      have HE := Lib.hid (show decide (l = []) = false from decide_eq_false hne)
      have d1 : ((l.length : Int) != 0) = true := by simp; omega
      clear h h' hne h0
      go_enter Try.func29, Try.ntmps29
      go_wp2_with fail
      go_ret
      exact ⟨by rw [HE.out]; rfl, Below.refl _ _⟩
    · obtain ⟨b2, o2, c2, rfl, -⟩ := h'.at (List.getElem?_eq_getElem h1)
      have hc : ∀ {b o c : Nat} {k : List Int}, IntsRd W (.slice (some ⟨b, o, none⟩) k.length c) k → ∀ j, j < k.length → W.cell? ⟨b, o + j, none⟩ = some (.int .i64 (k.getD j 0)) := fun hh j hj => by
        obtain ⟨b9, o9, c9, hv, k9⟩ := hh.at (List.getElem?_eq_getElem hj)
        injection hv with e1 e2 e3
        injection e1 with e1
        injection e1 with e1 e4
        subst e1
        subst e4
        rw [k9, List.getD_eq_getElem?_getD, List.getElem?_eq_getElem hj]; rfl
      refine (Try.slices_Equal_int b1 o1 l.length c1 b2 o2 m.length c2 l m W (Nat.le_refl _) (Nat.le_refl _) (by omega) hm (hc h) (hc h')).mono ?_
      rintro e w' ⟨rfl, q, rfl⟩
      refine ⟨?_, below_drewM (Below.refl _ _) q⟩
      rw [List.take_length, List.take_length]
      congr 2
      rw [Bool.eq_iff_iff, beq_iff_eq, decide_eq_true_iff]
theorem vgG : VG 2 2 gE := chkG_zero (by decide)
theorem vgM : VG 2 3 mE := chkG_zero (by decide)
theorem essM {f : Nat → Bool} (h : Ess 3 mE f) : mems 3 f = [0, 1] := by
  have h2 : f 2 = false := by
    rw [← h.fix 2 (by decide)]
    unfold passF leftF bothF
    simp
  have hT : Closed 3 mE (fun i => decide (i < 2)) := fun i hi h => by
    have : i = 0 ∨ i = 1 := by simp at h; omega
    rcases this with rfl | rfl <;> decide
  have h0 := h.most _ hT 0 (by decide) (by decide)
  have h1 := h.most _ hT 1 (by decide) (by decide)
  unfold mems
  rw [show List.range 3 = [0, 1, 2] from rfl, List.filter_cons, h0, List.filter_cons, h1, List.filter_cons, h2]
  rfl
theorem ecl_enc {es : List E3} {q r : Nat} {u : Value} (hq : q < es.length) (hr : r < 3) (h : (ecl es)[q * 3 + r]? = some u) : (encE es[q]!)[r]? = some u := by
  have e0 : es[q]? = some es[q] := List.getElem?_eq_getElem hq
  have e1 : es[q]! = es[q] := by rw [List.getElem!_eq_getElem?_getD, e0]; rfl
  obtain ⟨k0, k1, k2⟩ := ecl_at e0
  rw [e1]
  rcases (show r = 0 ∨ r = 1 ∨ r = 2 by omega) with rfl | rfl | rfl
  · exact k0.symm.trans h
  · exact k1.symm.trans h
  · exact k2.symm.trans h
theorem awk_eq (W : World) (v1 : Value) (B : Nat) (h1 : IntsAt W B v1 [0, 1]) : Calls Try.prog 29 #[v1, .slice (some ⟨W.heap.size, 0, none⟩) 2 2] (W.alloc (.cells #[.int .i64 0, .int .i64 1] 3)) fun e w' => e = .returned (.bool true) ∧ Below W.heap.size W w' := by
  have k2 := intsLit W [0, 1] (by decide) (by decide)
  have k := intsEq_any (IntsAt.rd (h1.keep (below1 W (.cells #[.int .i64 0, .int .i64 1] 3)))) (IntsAt.rd k2) (by decide) (by decide)
  refine k.mono ?_
  rintro e w' ⟨rfl, hb⟩
  exact ⟨rfl, below_more (below1 W _) (Nat.le_refl _) hb⟩
end Go.Proofs.Ytfkplnmhlpabaaa
