/- Strings turned around: plain facts on lists. No condition. -/
import Derived.Test.YtokpfbbhkmlclaaGreatDoorWp
namespace Go.Proofs.YtokpfbbhkmlclaaGreatDoor
theorem suf_rev {w : List UInt8} {k : Nat} : Suf w.reverse w.reverse k ↔ Suf w w k := by
  unfold Suf
  rw [List.length_reverse]
  constructor
  · rintro ⟨h1, h2⟩
    refine ⟨h1, ?_⟩
    rw [List.take_reverse, List.reverse_suffix] at h2
    have h3 := List.prefix_iff_eq_take.1 h2
    rw [List.length_drop, show w.length - (w.length - k) = k by omega] at h3
    rw [← h3]
    exact List.drop_suffix _ _
  · rintro ⟨h1, h2⟩
    refine ⟨h1, ?_⟩
    rw [List.take_reverse, List.reverse_suffix]
    have h3 := List.suffix_iff_eq_drop.1 h2
    rw [List.length_take, Nat.min_eq_left h1] at h3
    rw [← h3]
    exact List.take_prefix _ _
theorem bord_rev (w : List UInt8) : bord w.reverse = bord w := by
  unfold bord
  rw [List.length_reverse]
  congr 1
  funext k
  exact decide_eq_decide.2 suf_rev
theorem rlen_rev (w : List UInt8) : rlen w.reverse = rlen w := by
  unfold rlen per
  rw [bord_rev, List.length_reverse]
theorem rootN_rev (w : List UInt8) : rootN w.reverse = rootN w := by
  unfold rootN
  rw [rlen_rev, List.length_reverse]
theorem mem_occ {w u : List UInt8} {i : Nat} : i ∈ occ w u ↔ i + u.length ≤ w.length ∧ u <+: w.drop i := by
  unfold occ
  rw [mem_endsTo]
  constructor
  · rintro ⟨h1, h2⟩
    refine ⟨by omega, ?_⟩
    have h3 := List.suffix_iff_eq_drop.1 h2
    rw [List.length_take, Nat.min_eq_left (by omega), show i + u.length - u.length = i by omega, List.drop_take, show i + u.length - i = u.length by omega] at h3
    rw [h3]
    exact List.take_prefix _ _
  · rintro ⟨h1, h2⟩
    refine ⟨by omega, ?_⟩
    have h3 := List.prefix_iff_eq_take.1 h2
    rw [List.suffix_iff_eq_drop, List.length_take, Nat.min_eq_left h1, show i + u.length - u.length = i by omega, List.drop_take, show i + u.length - i = u.length by omega]
    exact h3
/-- Two lists in ascending order with the same elements. -/
theorem sorted_same : ∀ {l m : List Nat}, l.Pairwise (· < ·) → m.Pairwise (· < ·) → (∀ x, x ∈ l ↔ x ∈ m) → l = m
  | [], [], _, _, _ => rfl
  | [], b :: m, _, _, h => absurd ((h b).2 List.mem_cons_self) (by simp)
  | a :: l, [], _, _, h => absurd ((h a).1 List.mem_cons_self) (by simp)
  | a :: l, b :: m, h1, h2, h => by
    have h1' := List.pairwise_cons.1 h1
    have h2' := List.pairwise_cons.1 h2
    have e : a = b := by
      rcases List.mem_cons.1 ((h a).1 List.mem_cons_self) with e | e
      · exact e
      · rcases List.mem_cons.1 ((h b).2 List.mem_cons_self) with e2 | e2
        · exact e2.symm
        · have := h1'.1 b e2; have := h2'.1 a e; omega
    subst e
    rw [sorted_same h1'.2 h2'.2 fun x => ?_]
    constructor
    · intro hx
      rcases List.mem_cons.1 ((h x).1 (List.mem_cons_of_mem _ hx)) with e | e
      · have := h1'.1 x hx; omega
      · exact e
    · intro hx
      rcases List.mem_cons.1 ((h x).2 (List.mem_cons_of_mem _ hx)) with e | e
      · have := h2'.1 x hx; omega
      · exact e
theorem occ_sorted (w u : List UInt8) : (occ w u).Pairwise (· < ·) := endsTo_sorted _ _ _
theorem occ_le {w u : List UInt8} {i : Nat} (h : i ∈ occ w u) : i + u.length ≤ w.length := (mem_occ.1 h).1
theorem suf_turn {w u : List UInt8} {i : Nat} (h : i + u.length ≤ w.length) : u.reverse <+: w.reverse.drop (w.length - u.length - i) ↔ u <+: w.drop i := by
  rw [List.drop_reverse, List.reverse_prefix, show w.length - (w.length - u.length - i) = i + u.length by omega, List.suffix_iff_eq_drop, List.length_take, Nat.min_eq_left h, show i + u.length - u.length = i by omega, List.drop_take, show i + u.length - i = u.length by omega, List.prefix_iff_eq_take]
theorem occ_rev (w u : List UInt8) : occ w.reverse u.reverse = ((occ w u).map (fun i => w.length - u.length - i)).reverse := by
  refine sorted_same (occ_sorted _ _) ?_ fun x => ?_
  · rw [List.pairwise_reverse, List.pairwise_map]
    refine (occ_sorted w u).imp_of_mem ?_
    intro a b ha hb hab
    have := occ_le ha; have := occ_le hb
    omega
  · rw [List.mem_reverse, List.mem_map]
    constructor
    · intro h
      have h1 := occ_le h
      have h2 := (mem_occ.1 h).2
      rw [List.length_reverse, List.length_reverse] at h1
      refine ⟨w.length - u.length - x, ?_, by omega⟩
      rw [mem_occ]
      refine ⟨by omega, ?_⟩
      rw [← suf_turn (by omega), show w.length - u.length - (w.length - u.length - x) = x by omega]
      exact h2
    · rintro ⟨i, hi, rfl⟩
      have h1 := occ_le hi
      rw [mem_occ, List.length_reverse, List.length_reverse]
      exact ⟨by omega, (suf_turn h1).2 (mem_occ.1 hi).2⟩
end Go.Proofs.YtokpfbbhkmlclaaGreatDoor
