/- What groovelaw09.awake returns: true. No condition. What slices.Contains of integers returns. Condition: the length is one of a slice. What the law's search for what is reached keeps: three rows of integers of its own; what they hold. No condition. -/
import Derived.Test.YtiockphjnkehnaaGreatDoorQ08
import Derived.Test.YtiockphjnkehnaaGreatDoorQ06
import Derived.Test.YtiockphjnkehnaaGreatDoorQ05

namespace Go.Proofs.YtiockphjnkehnaaGreatDoor
open Go.RowKit
set_option linter.unusedSimpArgs false
set_option linter.unusedVariables false

theorem edgesLit (W : World) (es : List E3) (h0 : 0 < es.length) (hl : es.length ≤ 1000) : EdgesAt (W.alloc (.cells (ecl es).toArray 39)) W.heap.size (.slice (some ⟨W.heap.size, 0, none⟩) es.length es.length) es :=
  ⟨by rw [ecl_len], .inr ⟨W.heap.size, es.length, (ecl es).toArray, rfl, Nat.le_refl _, heap_alloc_new W _, Nat.le_refl _, by unfold maxLen; omega, by rw [List.size_toArray, ecl_len], by
    show (ecl es).take (es.length * 3) = _; rw [← ecl_len, List.take_length]⟩⟩
theorem intsLit (W : World) (l : List Int) (h0 : 0 < l.length) (hl : l.length ≤ 1000) : IntsAt (W.alloc (.cells (intz l).toArray 3)) W.heap.size (.slice (some ⟨W.heap.size, 0, none⟩) l.length l.length) l :=
  ⟨by rw [intz_len, Nat.mul_one], .inr ⟨W.heap.size, l.length, (intz l).toArray, rfl, Nat.le_refl _, heap_alloc_new W _, Nat.le_refl _, by unfold maxLen; omega, by rw [List.size_toArray, intz_len, Nat.mul_one], by
    rw [Nat.mul_one]; show (intz l).take l.length = _; rw [← intz_len, List.take_length]⟩⟩
theorem intsEq_any {W : World} {v v' : Value} {l m : List Int} (h : IntsRd W v l) (h' : IntsRd W v' m) (hl : l.length ≤ 1000000) (hm : m.length ≤ 9223372036854775807) :
    Calls Tryz.prog 13 #[v, v'] W fun e w' => e = .returned (.bool (decide (l = m))) ∧ Below W.heap.size W w' := by
  rcases Nat.eq_zero_or_pos l.length with h0 | h0
  · obtain ⟨a, c, rfl⟩ := h.form
    obtain ⟨a', c', rfl⟩ := h'.form
    obtain rfl : l = [] := List.eq_nil_of_length_eq_zero h0
    refine (Tryz.slices_Equal_int_empty a a' c m.length c' W hm).mono ?_
    rintro e w' ⟨rfl, rfl⟩
    refine ⟨?_, Below.refl _ _⟩
    congr 2
    rw [decide_eq_decide]
    constructor
    · intro h; exact (List.eq_nil_of_length_eq_zero h).symm
    · rintro rfl; rfl
  · obtain ⟨b1, o1, c1, rfl, -⟩ := h.at (List.getElem?_eq_getElem h0)
    rcases Nat.eq_zero_or_pos m.length with h1 | h1
    · obtain ⟨a', c', rfl⟩ := h'.form
      obtain rfl : m = [] := List.eq_nil_of_length_eq_zero h1
      have hne : ¬ l = [] := fun e => by rw [e] at h0; exact absurd h0 (by decide)
      have HE := Lib.hid (show decide (l = []) = false from decide_eq_false hne)
      have d1 : ((l.length : Int) != 0) = true := by simp; omega
      clear h h' hne h0
      go_enter Tryz.func13, Tryz.ntmps13
      go_wp2_with fail
      go_ret
      exact ⟨by rw [HE.out]; rfl, Below.refl _ _⟩
    · obtain ⟨b2, o2, c2, rfl, -⟩ := h'.at (List.getElem?_eq_getElem h1)
      have hc : ∀ {b o c : Nat} {k : List Int}, IntsRd W (.slice (some ⟨b, o, none⟩) k.length c) k → ∀ j, j < k.length → W.cell? ⟨b, o + j, none⟩ = some (.int .i64 (k.getD j 0)) := fun hh j hj => by
        obtain ⟨b9, o9, c9, hv, k9⟩ := hh.at (List.getElem?_eq_getElem hj)
        injection hv with e1 e2 e3
        injection e1 with e1
        injection e1 with e1 e4
        subst e1
        subst e4
        rw [k9, List.getD_eq_getElem?_getD, List.getElem?_eq_getElem hj]; rfl
      refine (Tryz.slices_Equal_int b1 o1 l.length c1 b2 o2 m.length c2 l m W (Nat.le_refl _) (Nat.le_refl _) (by omega) hm (hc h) (hc h')).mono ?_
      rintro e w' ⟨rfl, q, rfl⟩
      refine ⟨?_, below_drewM (Below.refl _ _) q⟩
      rw [List.take_length, List.take_length]
      congr 2
      rw [Bool.eq_iff_iff, beq_iff_eq, decide_eq_true_iff]
end Go.Proofs.YtiockphjnkehnaaGreatDoor

namespace Go.Proofs.YtiockphjnkehnaaGreatDoor
open Go.RowKit
set_option linter.unusedSimpArgs false
set_option linter.unusedVariables false

theorem has_any (l : List Int) (x : Int) (v : Value) (w : World) (hrd : IntsRd w v l) (hn : l.length ≤ 9223372036854775807) :
    Calls Tryz.prog 83 #[v, .int .i64 x] w fun e w' => e = .returned (.bool (decide (x ∈ l))) ∧ w' = w := by
  rcases Nat.eq_zero_or_pos l.length with h0 | h0
  · obtain ⟨a, c, rfl⟩ := hrd.form
    obtain rfl : l = [] := List.eq_nil_of_length_eq_zero h0
    refine (Tryz.slices_Contains_int_empty a c x w).mono ?_
    rintro e w' ⟨rfl, rfl⟩
    exact ⟨by rw [decide_eq_false (List.not_mem_nil)], rfl⟩
  · obtain ⟨b1, o1, c1, rfl, -⟩ := hrd.at (List.getElem?_eq_getElem h0)
    refine (Tryz.slices_Contains_int b1 o1 l.length c1 l x w (Nat.le_refl _) hn (fun j hj => ?_)).mono ?_
    · obtain ⟨b9, o9, c9, hv, k9⟩ := hrd.at (List.getElem?_eq_getElem hj)
      injection hv with e1 e2 e3
      injection e1 with e1
      injection e1 with e1 e4
      subst e1
      subst e4
      rw [k9, List.getD_eq_getElem?_getD, List.getElem?_eq_getElem hj]; rfl
    · rintro e w' ⟨rfl, rfl⟩
      refine ⟨?_, rfl⟩
      rw [List.take_length]
      congr 2
      rw [Bool.eq_iff_iff, List.contains_iff_mem, decide_eq_true_iff]
end Go.Proofs.YtiockphjnkehnaaGreatDoor

namespace Go.Proofs.YtiockphjnkehnaaGreatDoor
open Go.RowKit
set_option linter.unusedSimpArgs false
set_option linter.unusedVariables false

def Dj (v v' : Value) : Prop := ∀ k, v.ownBlock = some k → v'.ownBlock = some k → False
theorem Dj.symm {v v' : Value} (h : Dj v v') : Dj v' v := fun k h1 h2 => h k h2 h1
theorem Dj.or {v v' : Value} (h : Dj v v') : v.ownBlock = none ∨ v.ownBlock ≠ v'.ownBlock := by
  cases e : v.ownBlock with
  | none => exact .inl rfl
  | some k => exact .inr (fun e' => h k e e'.symm)
theorem Dj.nil (v : Value) : Dj v (.slice none 0 0) := fun k _ h => by simp [Value.ownBlock] at h
section
variable {B : Nat} {A W W' : World} {s t u s' : Value} {r m x r' : List Int} {o : Obj}
end
end Go.Proofs.YtiockphjnkehnaaGreatDoor
