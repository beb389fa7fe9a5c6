/- Plain: factors of words, words without factors in a list, minimal words of a list; strictly ascending lists are told by their members. No condition. Borders and occurrences of strings: plain facts on lists. No condition. Periods and roots of strings: plain facts on lists. No condition. -/
import Derived.Test.YtkpmapeapiodcaaDoorProg
import Derived.Below

namespace Go.Proofs.YtkpmapeapiodcaaDoor
set_option linter.unusedSimpArgs false
set_option linter.unusedVariables false

abbrev Wd := List UInt8
theorem ascU {α : Type} {lt : α → α → Prop} (irr : ∀ a, ¬ lt a a) (tr : ∀ a b c, lt a b → lt b c → lt a c) : ∀ {l m : List α}, l.Pairwise lt → m.Pairwise lt → (∀ x, x ∈ l ↔ x ∈ m) → l = m
  | [], [], _, _, _ => rfl
  | [], b :: m, _, _, h => absurd ((h b).2 List.mem_cons_self) (fun e => by cases e)
  | a :: l, [], _, _, h => absurd ((h a).1 List.mem_cons_self) (fun e => by cases e)
  | a :: l, b :: m, hl, hm, h => by
    obtain ⟨h1, h2⟩ := List.pairwise_cons.1 hl
    obtain ⟨h3, h4⟩ := List.pairwise_cons.1 hm
    have hab : a = b := by
      rcases List.mem_cons.1 ((h a).1 List.mem_cons_self) with e | ha
      · exact e
      · rcases List.mem_cons.1 ((h b).2 List.mem_cons_self) with e | hb
        · exact e.symm
        · exact absurd (tr _ _ _ (h1 b hb) (h3 a ha)) (irr a)
    subst hab
    have hx : ∀ x, x ∈ l ↔ x ∈ m := fun x => by
      constructor
      · intro hx
        rcases List.mem_cons.1 ((h x).1 (List.mem_cons_of_mem _ hx)) with e | h5
        · subst e; exact absurd (h1 x hx) (irr x)
        · exact h5
      · intro hx
        rcases List.mem_cons.1 ((h x).2 (List.mem_cons_of_mem _ hx)) with e | h5
        · subst e; exact absurd (h3 x hx) (irr x)
        · exact h5
    rw [ascU irr tr h2 h4 hx]
def facB (w u : Wd) : Bool := (List.range (w.length + 1 - u.length)).any fun i => (w.drop i).take u.length == u
theorem facB_iff {w u : Wd} : facB w u = true ↔ u <:+: w := by
  unfold facB
  rw [List.any_eq_true]
  constructor
  · rintro ⟨i, hi, h⟩
    have h1 := eq_of_beq h
    have h2 : w.take i ++ ((w.drop i).take u.length ++ (w.drop i).drop u.length) = w := by rw [List.take_append_drop, List.take_append_drop]
    rw [h1, ← List.append_assoc] at h2
    exact ⟨_, _, h2⟩
  · rintro ⟨s, t, rfl⟩
    refine ⟨s.length, ?_, ?_⟩
    · rw [List.mem_range, List.length_append, List.length_append]; omega
    · rw [List.append_assoc, List.drop_left, List.take_left]
      exact beq_self_eq_true u
theorem facB_no {w u : Wd} : facB w u = false ↔ ¬ u <:+: w := by rw [← facB_iff, Bool.not_eq_true]
def alwB (l : List Wd) (w : Wd) : Bool := l.all fun u => !facB w u
theorem alwB_iff {l : List Wd} {w : Wd} : alwB l w = true ↔ ∀ u ∈ l, ¬ u <:+: w := by
  unfold alwB
  rw [List.all_eq_true]
  exact forall_congr' fun u => imp_congr_right fun _ => by rw [Bool.not_eq_true', facB_no]
theorem cut_iff {F : Wd → Prop} {w : Wd} {n : Nat} : (∃ e s, e ≤ w.length ∧ e - n ≤ s ∧ s < e ∧ F ((w.drop s).take (e - s))) ↔ ∃ u, F u ∧ u ≠ [] ∧ u.length ≤ n ∧ u <:+: w := by
  constructor
  · rintro ⟨e, s, h1, h2, h3, h4⟩
    have hl : ((w.drop s).take (e - s)).length = e - s := by rw [List.length_take, List.length_drop]; omega
    refine ⟨_, h4, fun h => by rw [h] at hl; simp at hl; omega, by omega, ?_⟩
    refine ⟨w.take s, (w.drop s).drop (e - s), ?_⟩
    rw [List.append_assoc, List.take_append_drop, List.take_append_drop]
  · rintro ⟨u, h1, h2, h3, ⟨s, t, rfl⟩⟩
    have h4 : u.length ≠ 0 := fun h => h2 (List.eq_nil_of_length_eq_zero h)
    refine ⟨s.length + u.length, s.length, by rw [List.length_append, List.length_append]; omega, by omega, by omega, ?_⟩
    rw [List.append_assoc, List.drop_left, Nat.add_sub_cancel_left, List.take_left]
    exact h1
def minB (l : List Wd) (w : Wd) : Bool := l.all fun u => u == w || !facB w u
theorem minB_iff {l : List Wd} {w : Wd} : minB l w = true ↔ ∀ u ∈ l, u <:+: w → u = w := by
  unfold minB
  rw [List.all_eq_true]
  refine forall_congr' fun u => imp_congr_right fun _ => ?_
  rw [Bool.or_eq_true, beq_iff_eq, Bool.not_eq_true', facB_no]
  constructor
  · rintro (h | h) h2
    · exact h
    · exact absurd h2 h
  · intro h
    by_cases h2 : u <:+: w
    · exact .inl (h h2)
    · exact .inr h2
theorem min_cut {l : List Wd} {w : Wd} : (¬ ∃ u, u ∈ l ∧ u ≠ [] ∧ u.length ≤ w.length - 1 ∧ u <:+: w) ↔ ∀ u ∈ l, u ≠ [] → u <:+: w → u = w := by
  constructor
  · intro h u hu h0 hf
    by_cases hl : u.length ≤ w.length - 1
    · exact absurd ⟨u, hu, h0, hl, hf⟩ h
    · have h1 := hf.length_le
      have h2 : u.length ≠ 0 := fun e => h0 (List.eq_nil_of_length_eq_zero e)
      exact hf.eq_of_length (by omega)
  · rintro h ⟨u, hu, h0, hl, hf⟩
    have h1 := h u hu h0 hf
    have h2 : u.length ≠ 0 := fun e => h0 (List.eq_nil_of_length_eq_zero e)
    subst h1
    omega
def ltW (v w : Wd) : Prop := v.length < w.length ∨ v.length = w.length ∧ v < w
theorem ltW_irr (a : Wd) : ¬ ltW a a := by
  rintro (h | ⟨-, h⟩)
  · omega
  · exact List.lt_irrefl a h
theorem ltW_tr (a b c : Wd) (h1 : ltW a b) (h2 : ltW b c) : ltW a c := by
  rcases h1 with h1 | ⟨h1, k1⟩ <;> rcases h2 with h2 | ⟨h2, k2⟩
  · left; omega
  · left; omega
  · left; omega
  · right; exact ⟨by omega, List.lt_trans k1 k2⟩
theorem ltW_tri (a b : Wd) : ltW a b ∨ a = b ∨ ltW b a := by
  rcases Nat.lt_trichotomy a.length b.length with h | h | h
  · exact .inl (.inl h)
  · by_cases h1 : a < b
    · exact .inl (.inr ⟨h, h1⟩)
    · by_cases h2 : b < a
      · exact .inr (.inr (.inr ⟨h.symm, h2⟩))
      · exact .inr (.inl (List.le_antisymm (List.not_lt.1 h2) (List.not_lt.1 h1)))
  · exact .inr (.inr (.inl h))
def RedW (l r : List Wd) : Prop := r.Pairwise ltW ∧ ∀ x, x ∈ r ↔ x ∈ l ∧ minB l x = true
theorem RedW.uniq {l r s : List Wd} (h1 : RedW l r) (h2 : RedW l s) : r = s :=
  ascU ltW_irr ltW_tr h1.1 h2.1 (fun x => by rw [h1.2, h2.2])
theorem RedW.has {l r : List Wd} (h : RedW l r) : ∀ (n : Nat) (x : Wd), x.length ≤ n → x ∈ l → ∃ y ∈ r, y <:+: x
  | 0, x, hn, hx => by
    refine ⟨x, (h.2 x).2 ⟨hx, minB_iff.2 fun u hu hf => ?_⟩, List.infix_refl x⟩
    exact hf.eq_of_length (by have := hf.length_le; omega)
  | n + 1, x, hn, hx => by
    by_cases hm : minB l x = true
    · exact ⟨x, (h.2 x).2 ⟨hx, hm⟩, List.infix_refl x⟩
    · have : ∃ u, u ∈ l ∧ u <:+: x ∧ u ≠ x := by
        refine Classical.byContradiction fun hne => hm (minB_iff.2 fun u hu hf => ?_)
        exact Classical.byContradiction fun e => hne ⟨u, hu, hf, e⟩
      obtain ⟨u, hu, hf, hne⟩ := this
      have h1 : u.length < x.length := by
        have := hf.length_le
        refine Nat.lt_of_le_of_ne this fun e => hne (hf.eq_of_length e)
      obtain ⟨y, hy, hyf⟩ := RedW.has h n u (by omega) hu
      exact ⟨y, hy, hyf.trans hf⟩
theorem RedW.sub {l r : List Wd} (h : RedW l r) {x : Wd} (hx : x ∈ r) : x ∈ l := ((h.2 x).1 hx).1
theorem RedW.free {l r : List Wd} (h : RedW l r) {x y : Wd} (hx : x ∈ r) (hy : y ∈ r) (hf : y <:+: x) : y = x := minB_iff.1 ((h.2 x).1 hx).2 y (h.sub hy) hf
end Go.Proofs.YtkpmapeapiodcaaDoor

namespace Go.Proofs.YtkpmapeapiodcaaDoor

def Suf (w t : List UInt8) (k : Nat) : Prop := k ≤ w.length ∧ w.take k <:+ t
instance (w t : List UInt8) (k : Nat) : Decidable (Suf w t k) := inferInstanceAs (Decidable (_ ∧ _))
theorem Suf.len {w t : List UInt8} {k : Nat} (h : Suf w t k) : k ≤ t.length := by
  have := h.2.length_le
  rw [List.length_take] at this
  have := h.1
  omega
theorem Suf.zero (w t : List UInt8) : Suf w t 0 := ⟨Nat.zero_le _, by rw [List.take_zero]; exact List.nil_suffix⟩
theorem Suf.up {w t : List UInt8} {j k : Nat} (hj : Suf w (w.take k) j) (hk : Suf w t k) : Suf w t j := ⟨hj.1, hj.2.trans hk.2⟩

end Go.Proofs.YtkpmapeapiodcaaDoor

namespace Go.Proofs.YtkpmapeapiodcaaDoor

def rp (a : List UInt8) : Nat → List UInt8
  | 0 => []
  | n + 1 => a ++ rp a n
end Go.Proofs.YtkpmapeapiodcaaDoor
