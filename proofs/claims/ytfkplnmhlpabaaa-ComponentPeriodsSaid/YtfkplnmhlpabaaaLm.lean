/- Plain facts for ComponentMutual: where a state lies among the components. No condition. -/
import Derived.Test.YtfkplnmhlpabaaaKb
import Derived.Test.YtfkplnmhlpabaaaVv
namespace Go.Proofs.Ytfkplnmhlpabaaa
set_option linter.unusedVariables false

def posK (K : List (List Int)) : Nat → Nat → Int
  | 0, _ => -1
  | i + 1, t => if (t : Int) ∈ K.getD i [] then (i : Int) else posK K i t
def DjK (K : List (List Int)) : Prop := ∀ (i j : Nat) (x : Int), x ∈ K.getD i [] → x ∈ K.getD j [] → i = j
section
variable {K : List (List Int)}
theorem posK_none : ∀ {i t : Nat}, (∀ j, j < i → (t : Int) ∉ K.getD j []) → posK K i t = -1
  | 0, t, _ => rfl
  | i + 1, t, h => by
    unfold posK
    rw [if_neg (h i (by omega))]
    exact posK_none fun j hj => h j (by omega)
theorem posK_at (hd : DjK K) : ∀ {i j t : Nat}, j < i → (t : Int) ∈ K.getD j [] → posK K i t = j
  | 0, j, t, h, _ => by omega
  | i + 1, j, t, h, hm => by
    unfold posK
    by_cases h1 : (t : Int) ∈ K.getD i []
    · rw [if_pos h1, hd i j _ h1 hm]
    · rw [if_neg h1]
      have : j ≠ i := fun e => h1 (e ▸ hm)
      exact posK_at hd (by omega) hm
theorem posK_new (hd : DjK K) {i t : Nat} (h : (t : Int) ∈ K.getD i []) : posK K i t = -1 := posK_none fun j hj hm => by
  have := hd i j _ h hm; omega
/-- .. after the first states of a component. -/
def midK (K : List (List Int)) (i m : Nat) (t : Nat) : Int := if (t : Int) ∈ (K.getD i []).take m then (i : Int) else posK K i t
theorem midK_zero (i t : Nat) : midK K i 0 t = posK K i t := by unfold midK; simp
theorem midK_all {i m : Nat} (hm : (K.getD i []).length ≤ m) (t : Nat) : midK K i m t = posK K (i + 1) t := by
  unfold midK
  rw [List.take_of_length_le hm]; rfl
theorem midK_step {i m x : Nat} (hx : (K.getD i [])[m]? = some (x : Int)) (t : Nat) : midK K i (m + 1) t = if t = x then (i : Int) else midK K i m t := by
  unfold midK
  rw [take_snoc hx]
  by_cases e : t = x
  · rw [if_pos e, if_pos (by simp [e])]
  · rw [if_neg e]
    have : ((t : Int) ∈ (K.getD i []).take m ++ [(x : Int)]) ↔ ((t : Int) ∈ (K.getD i []).take m) := by
      rw [List.mem_append, List.mem_singleton]
      constructor
      · rintro (h | h)
        · exact h
        · omega
      · exact Or.inl
    by_cases h1 : (t : Int) ∈ (K.getD i []).take m
    · rw [if_pos h1, if_pos (this.2 h1)]
    · rw [if_neg h1, if_neg (fun h => h1 (this.1 h))]
/-- A state that is met has not been met. -/
theorem midK_new (hd : DjK K) {i m x : Nat} (hx : (K.getD i [])[m]? = some (x : Int)) (ha : (K.getD i []).Pairwise (· < ·)) : midK K i m x = -1 := by
  unfold midK
  rw [if_neg, posK_new hd (List.mem_of_getElem? hx)]
  intro h
  obtain ⟨j, hj⟩ := List.mem_iff_getElem?.1 h
  have hjm : j < m := by
    have := (List.getElem?_eq_some_iff.1 hj).1
    rw [List.length_take] at this; omega
  rw [List.getElem?_take_of_lt hjm] at hj
  have := asc_lt ha hj hx hjm
  omega
end
section
variable {L : Int} {n : Nat} {es : List E3}
theorem comps_at {i : Nat} {c : List Int} (h : (comps es n)[i]? = some c) : ∃ r, (repsK es n n)[i]? = some r ∧ r ∈ repsK es n n ∧ c = compF es n r := by
  unfold comps at h
  rw [List.getElem?_map] at h
  cases hr : (repsK es n n)[i]? with
  | none => rw [hr] at h; cases h
  | some r => rw [hr] at h; exact ⟨r, rfl, List.mem_of_getElem? hr, by simpa using h.symm⟩
theorem comps_getD {i : Nat} {x : Int} (h : x ∈ (comps es n).getD i []) : ∃ c, (comps es n)[i]? = some c ∧ x ∈ c := by
  rw [List.getD_eq_getElem?_getD] at h
  cases hc : (comps es n)[i]? with
  | none => rw [hc] at h; cases h
  | some c => rw [hc] at h; exact ⟨c, rfl, h⟩
theorem reps_idx {i j r : Nat} (hi : (repsK es n n)[i]? = some r) (hj : (repsK es n n)[j]? = some r) : i = j := by
  have hp := reps_asc es n n
  rw [List.pairwise_iff_getElem] at hp
  obtain ⟨a1, a2⟩ := List.getElem?_eq_some_iff.1 hi
  obtain ⟨b1, b2⟩ := List.getElem?_eq_some_iff.1 hj
  rcases Nat.lt_trichotomy i j with h | h | h
  · have := hp i j a1 b1 h; omega
  · exact h
  · have := hp j i b1 a1 h; omega
theorem comps_dj (h : ∀ e ∈ es, okE L (n : Int) e = true) : DjK (comps es n) := fun i j x hi hj => by
  obtain ⟨c, hc, hxc⟩ := comps_getD hi
  obtain ⟨d, hd, hxd⟩ := comps_getD hj
  obtain ⟨r, q1, q2, rfl⟩ := comps_at hc
  obtain ⟨s, p1, p2, rfl⟩ := comps_at hd
  have hrn := (reps_lt q2).1
  have hsn := (reps_lt p2).1
  obtain ⟨y, rfl, hy, y1, y2⟩ := (compF_mem h hrn).1 hxc
  obtain ⟨z, hz, hzn, z1, z2⟩ := (compF_mem h hsn).1 hxd
  obtain rfl : y = z := by omega
  have : r = s := rep_one q2 p2 ((compB_iff h hrn hsn).2 ⟨y1.trans z2, z1.trans y2⟩)
  subst this
  exact reps_idx q1 p1
theorem comps_all (h : ∀ e ∈ es, okE L (n : Int) e = true) {t : Nat} (ht : t < n) : ∃ j r, j < (comps es n).length ∧ r ∈ repsK es n n ∧ compB es n r t = true ∧ (comps es n).getD j [] = compF es n r ∧ (t : Int) ∈ (comps es n).getD j [] := by
  obtain ⟨r, hr, hrt⟩ := rep_of h ht
  obtain ⟨j, hj⟩ := List.mem_iff_getElem?.1 hr
  have hc : (comps es n)[j]? = some (compF es n r) := by unfold comps; rw [List.getElem?_map, hj]; rfl
  have hg : (comps es n).getD j [] = compF es n r := by rw [List.getD_eq_getElem?_getD, hc]; rfl
  obtain ⟨a, b⟩ := (compB_iff h (reps_lt hr).1 ht).1 hrt
  exact ⟨j, r, (List.getElem?_eq_some_iff.1 hc).1, hr, hrt, hg, by rw [hg]; exact (compF_mem h (reps_lt hr).1).2 ⟨t, rfl, ht, a, b⟩⟩
theorem pos_ge (h : ∀ e ∈ es, okE L (n : Int) e = true) {t : Nat} (ht : t < n) : 0 ≤ posK (comps es n) (comps es n).length t := by
  obtain ⟨j, r, a1, a2, a3, a4, a5⟩ := comps_all h ht
  rw [posK_at (comps_dj h) a1 a5]; omega
theorem pos_same (h : ∀ e ∈ es, okE L (n : Int) e = true) {s t : Nat} (hs : s < n) (ht : t < n) :
    (posK (comps es n) (comps es n).length s == posK (comps es n) (comps es n).length t) = (rb es n s t && rb es n t s) := by
  obtain ⟨j, r, a1, a2, a3, a4, a5⟩ := comps_all h hs
  obtain ⟨k, q, b1, b2, b3, b4, b5⟩ := comps_all h ht
  have hrn := (reps_lt a2).1
  have hqn := (reps_lt b2).1
  rw [posK_at (comps_dj h) a1 a5, posK_at (comps_dj h) b1 b5]
  show _ = compB es n s t
  rw [Bool.eq_iff_iff, beq_iff_eq]
  constructor
  · intro e
    obtain rfl : j = k := by omega
    rw [a4] at b4 b5
    have h1 : compB es n r t = true := by
      obtain ⟨y, hy, hyn, y1, y2⟩ := (compF_mem h hrn).1 b5
      obtain rfl : t = y := by omega
      exact (compB_iff h hrn ht).2 ⟨y1, y2⟩
    exact compB_trans h hs hrn ht (by rw [compB_symm]; exact a3) h1
  · intro hst
    have h1 : compB es n r t = true := compB_trans h hrn hs ht a3 hst
    have h2 : (t : Int) ∈ (comps es n).getD j [] := by
      rw [a4]
      obtain ⟨u, v⟩ := (compB_iff h hrn ht).1 h1
      exact (compF_mem h hrn).2 ⟨t, rfl, ht, u, v⟩
    have := comps_dj h j k _ h2 b5
    omega
theorem compF_head (h : ∀ e ∈ es, okE L (n : Int) e = true) {r : Nat} (hr : r ∈ repsK es n n) : (compF es n r)[0]? = some (r : Int) := by
  have hrn := (reps_lt hr).1
  have hm := compF_self h hrn
  obtain ⟨j, hj⟩ := List.mem_iff_getElem?.1 hm
  rcases Nat.eq_zero_or_pos j with h0 | h0
  · subst h0; exact hj
  · obtain ⟨x, hx⟩ : ∃ x, (compF es n r)[0]? = some x := ⟨_, List.getElem?_eq_getElem (by have := (List.getElem?_eq_some_iff.1 hj).1; omega)⟩
    have hlt := asc_lt (compF_asc es n r) hx hj h0
    obtain ⟨y, rfl, hy, y1, y2⟩ := (compF_mem h hrn).1 (List.mem_of_getElem? hx)
    have hrep := (reps_lt hr).2
    unfold repB at hrep
    rw [List.any_eq_true.2 ⟨y, List.mem_range.2 (by omega), (compB_iff h hy hrn).2 ⟨y2, y1⟩⟩] at hrep
    cases hrep
theorem heads_lt {i : Nat} {r s : Nat} (hr : (repsK es n n)[i]? = some r) (hs : (repsK es n n)[i + 1]? = some s) : r < s := by
  have hp := reps_asc es n n
  rw [List.pairwise_iff_getElem] at hp
  obtain ⟨a1, a2⟩ := List.getElem?_eq_some_iff.1 hr
  obtain ⟨b1, b2⟩ := List.getElem?_eq_some_iff.1 hs
  have := hp i (i + 1) a1 b1 (by omega)
  omega
theorem mems_dec {f : Nat → Bool} {t : Nat} (ht : t < n) : decide ((t : Int) ∈ mems n f) = f t := by
  rw [Bool.eq_iff_iff, decide_eq_true_iff, mems_iff]
  constructor
  · rintro ⟨i, hi, -, h⟩
    obtain rfl : t = i := by omega
    exact h
  · intro h; exact ⟨t, rfl, ht, h⟩
end
end Go.Proofs.Ytfkplnmhlpabaaa
