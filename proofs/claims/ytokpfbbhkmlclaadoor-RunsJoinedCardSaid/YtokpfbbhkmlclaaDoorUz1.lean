/- What is wrong with runs, from the right; the runs of a word have no error: plain facts. No condition. -/
import Derived.Test.YtokpfbbhkmlclaaDoorUb
namespace Go.Proofs.YtokpfbbhkmlclaaDoor

def sumL (rs : List (Int × Int)) : Int := rs.foldl (fun a p => a + p.2) 0
theorem sumL_acc (rs : List (Int × Int)) : ∀ a : Int, rs.foldl (fun a p => a + p.2) a = a + sumL rs := by
  unfold sumL
  induction rs with
  | nil => intro a; simp
  | cons p rs ih => intro a; rw [List.foldl_cons, List.foldl_cons, ih, ih (0 + p.2)]; omega
theorem sumL_cons (p : Int × Int) (rs : List (Int × Int)) : sumL (p :: rs) = p.2 + sumL rs := by
  show (p :: rs).foldl _ 0 = _
  rw [List.foldl_cons, sumL_acc]; omega
theorem sumL_snoc (rs : List (Int × Int)) (p : Int × Int) : sumL (rs ++ [p]) = sumL rs + p.2 := by
  show (rs ++ [p]).foldl _ 0 = _
  rw [List.foldl_append]; rfl
def lastL (pv : Option Int) (rs : List (Int × Int)) : Option Int := match rs.getLast? with
  | some p => some p.1
  | none => pv
theorem lastL_cons (pv : Option Int) (q : Int × Int) (rs : List (Int × Int)) : lastL pv (q :: rs) = lastL (some q.1) rs := by
  unfold lastL
  rw [List.getLast?_cons]
  cases rs.getLast? <;> rfl
theorem chkG_snoc (p : Int × Int) : ∀ (rs : List (Int × Int)) (pv : Option Int) (left : Int), chkG pv left (rs ++ [p]) = 0 ↔ chkG pv left rs = 0 ∧ chkG (lastL pv rs) (left - sumL rs) [p] = 0
  | [], pv, left => by
    show chkG pv left [p] = 0 ↔ chkG pv left [] = 0 ∧ chkG pv (left - 0) [p] = 0
    rw [Int.sub_zero]
    exact ⟨fun h => ⟨rfl, h⟩, fun h => h.2⟩
  | q :: rs, pv, left => by
    rw [List.cons_append, chkG, chkG, lastL_cons, sumL_cons, show left - (q.2 + sumL rs) = left - q.2 - sumL rs by omega]
    split
    · exact ⟨fun h => absurd h (by decide), fun h => absurd h.1 (by decide)⟩
    · split
      · exact ⟨fun h => absurd h (by decide), fun h => absurd h.1 (by decide)⟩
      · split
        · exact ⟨fun h => absurd h (by decide), fun h => absurd h.1 (by decide)⟩
        · split
          · exact ⟨fun h => absurd h (by decide), fun h => absurd h.1 (by decide)⟩
          · exact chkG_snoc p rs _ _
theorem chkG_one {pv : Option Int} {left : Int} {p : Int × Int} : chkG pv left [p] = 0 ↔ 0 ≤ p.1 ∧ p.1 < 16 ∧ 1 ≤ p.2 ∧ pv ≠ some p.1 ∧ p.2 ≤ left := by
  rw [chkG]
  constructor
  · intro h
    split at h
    · exact absurd h (by decide)
    · split at h
      · exact absurd h (by decide)
      · split at h
        · exact absurd h (by decide)
        · split at h
          · exact absurd h (by decide)
          · next h1 h2 h3 h4 => exact ⟨by omega, by omega, by omega, h3, by omega⟩
  · rintro ⟨h1, h2, h3, h4, h5⟩
    rw [if_neg (by omega), if_neg (by omega), if_neg h4, if_neg (by omega)]; rfl
theorem lastL_concat (pv : Option Int) (r : List (Int × Int)) (p : Int × Int) : lastL pv (r ++ [p]) = some p.1 := by unfold lastL; rw [List.getLast?_concat]
/-- The runs of a word have no error, and their lengths add up to its length. -/
theorem chkG_rns {l : List UInt8} (h : Wof 16 l) : sumL (rns l) = l.length ∧ ∀ left : Int, (l.length : Int) ≤ left → chkG none left (rns l) = 0 := by
  rcases List.eq_nil_or_concat l with e | ⟨u, c, e⟩
  · subst e; exact ⟨rfl, fun _ _ => rfl⟩
  · rw [List.concat_eq_append] at e
    subst e
    have hu : Wof 16 u := fun x hx => h x (List.mem_append_left _ hx)
    have hc : dgt c < 16 := h c (List.mem_append_right _ (List.mem_singleton.2 rfl))
    obtain ⟨i1, i2⟩ := chkG_rns hu
    rw [rns_snoc, List.length_append, List.length_singleton]
    rcases List.eq_nil_or_concat u with e | ⟨v, d, e⟩
    · subst e
      refine ⟨rfl, fun left hl => ?_⟩
      show chkG none left [((dgt c : Int), 1)] = 0
      rw [chkG_one]
      exact ⟨by show (0 : Int) ≤ dgt c; omega, by show (dgt c : Int) < 16; omega, Int.le_refl 1, (by intro h; cases h), by show (1 : Int) ≤ left; simp at hl; omega⟩
    · rw [List.concat_eq_append] at e
      subst e
      obtain ⟨r, n, e, h1, h2⟩ := rns_last v d
      rw [e] at i1 i2 ⊢
      rw [sumL_snoc] at i1
      dsimp only at i1
      by_cases hd : (dgt d : Int) = (dgt c : Int)
      · rw [hd] at i2 ⊢
        rw [rstep_same, sumL_snoc]
        refine ⟨by show sumL r + (n + 1) = _; omega, fun left hl => ?_⟩
        obtain ⟨k1, k2⟩ := (chkG_snoc _ r none left).1 (i2 left (by omega))
        rw [chkG_snoc]
        refine ⟨k1, ?_⟩
        rw [chkG_one] at k2 ⊢
        exact ⟨k2.1, k2.2.1, by show 1 ≤ n + 1; omega, k2.2.2.2.1, by show n + 1 ≤ _; omega⟩
      · rw [rstep_other _ _ _ _ hd, sumL_snoc, sumL_snoc]
        refine ⟨by show sumL r + n + 1 = _; omega, fun left hl => ?_⟩
        rw [chkG_snoc]
        refine ⟨i2 left (by omega), ?_⟩
        rw [chkG_one, lastL_concat, sumL_snoc]
        exact ⟨by show (0 : Int) ≤ dgt c; omega, by show (dgt c : Int) < 16; omega, Int.le_refl 1, fun h => hd (by injection h), by show (1 : Int) ≤ left - (sumL r + n); omega⟩
termination_by l.length
decreasing_by simp_all
theorem chkG_all : ∀ (rs : List (Int × Int)) (pv : Option Int) (left : Int), chkG pv left rs = 0 → ∀ p ∈ rs, 0 ≤ p.1 ∧ p.1 < 16 ∧ 1 ≤ p.2 ∧ p.2 ≤ left
  | [], _, _, _ => fun p hp => by cases hp
  | q :: rs, pv, left, h => by
    rw [chkG] at h
    split at h
    · exact absurd h (by decide)
    · split at h
      · exact absurd h (by decide)
      · split at h
        · exact absurd h (by decide)
        · split at h
          · exact absurd h (by decide)
          · intro p hp
            rcases List.mem_cons.1 hp with e | e
            · rw [e]; exact ⟨by omega, by omega, by omega, by omega⟩
            · have := chkG_all rs _ _ h p e
              omega
theorem joinL_len {rs : List (Int × Int)} {k : Nat} (h : ∀ p ∈ rs, p.2 ≤ k) : (joinL rs).length ≤ k * rs.length := by
  induction rs with
  | nil => exact Nat.le_refl _
  | cons p rs ih =>
    rw [joinL, List.length_append, List.length_replicate, List.length_cons, Nat.mul_succ]
    have h1 := h p (List.mem_cons_self ..)
    have h2 := ih (fun q hq => h q (List.mem_cons_of_mem _ hq))
    omega
end Go.Proofs.YtokpfbbhkmlclaaDoor
