/- Runs of words, joined and split, and the changes of levels: plain facts on lists. No condition. -/
import Derived.Test.YtokpfbbhkmlclaaGreatDoorUa
namespace Go.Proofs.YtokpfbbhkmlclaaGreatDoor

/-- The word with some runs. -/
def joinL : List (Int × Int) → List UInt8
  | [] => []
  | p :: rs => List.replicate p.2.toNat (lt p.1.toNat) ++ joinL rs
theorem joinL_append (r s : List (Int × Int)) : joinL (r ++ s) = joinL r ++ joinL s := by
  induction r with
  | nil => rfl
  | cons p r ih => rw [List.cons_append, joinL, joinL, ih, List.append_assoc]
theorem joinL_one (p : Int × Int) : joinL [p] = List.replicate p.2.toNat (lt p.1.toNat) := by rw [joinL, joinL, List.append_nil]
theorem joinL_rns {l : List UInt8} (h : Wof 16 l) : joinL (rns l) = l := by
  rcases List.eq_nil_or_concat l with e | ⟨u, c, e⟩
  · subst e; rfl
  · rw [List.concat_eq_append] at e
    subst e
    have hu : Wof 16 u := fun x hx => h x (List.mem_append_left _ hx)
    have hc : dgt c < 16 := h c (List.mem_append_right _ (List.mem_singleton.2 rfl))
    have ih := joinL_rns hu
    rw [rns_snoc]
    rcases List.eq_nil_or_concat u with e | ⟨v, d, e⟩
    · subst e
      show joinL [((dgt c : Int), 1)] = [c]
      rw [joinL_one]
      show List.replicate 1 (lt ((dgt c : Int)).toNat) = _
      rw [Int.toNat_natCast, lt_dgt hc]; rfl
    · rw [List.concat_eq_append] at e
      subst e
      obtain ⟨r, n, e, h1, h2⟩ := rns_last v d
      rw [e] at ih ⊢
      by_cases hd : (dgt d : Int) = (dgt c : Int)
      · rw [hd] at ih ⊢
        rw [rstep_same, ← ih, joinL_append, joinL_append, joinL_one, joinL_one]
        show _ ++ List.replicate (n + 1).toNat (lt ((dgt c : Int)).toNat) = _ ++ List.replicate n.toNat (lt ((dgt c : Int)).toNat) ++ [c]
        rw [Int.toNat_natCast, lt_dgt hc, show (n + 1).toNat = n.toNat + 1 by omega, List.replicate_succ', List.append_assoc]
      · rw [rstep_other _ _ _ _ hd, joinL_append, ih, joinL_one]
        show _ ++ List.replicate 1 (lt ((dgt c : Int)).toNat) = _
        rw [Int.toNat_natCast, lt_dgt hc]; rfl
termination_by l.length
decreasing_by simp_all
/-- The letter of the last run. -/
def lastR (l : List UInt8) : Option Int := (rns l).getLast?.map Prod.fst
theorem lastR_snoc (u : List UInt8) (c : UInt8) : lastR (u ++ [c]) = some (dgt c : Int) := by
  obtain ⟨r, n, e, -, -⟩ := rns_last u c
  unfold lastR
  rw [e, List.getLast?_concat]; rfl
theorem rns_new {u : List UInt8} {c : UInt8} (h : lastR u ≠ some (dgt c : Int)) : rns (u ++ [c]) = rns u ++ [((dgt c : Int), 1)] := by
  rw [rns_snoc]
  rcases List.eq_nil_or_concat (rns u) with e | ⟨r, p, e⟩
  · rw [e]; rfl
  · rw [List.concat_eq_append] at e
    unfold lastR at h
    rw [e, List.getLast?_concat] at h
    rw [e]
    exact rstep_other r c p.1 p.2 (fun e => h (by rw [← e]; rfl))
theorem rns_rep {u : List UInt8} {c : UInt8} (h : lastR u ≠ some (dgt c : Int)) (n : Nat) : rns (u ++ List.replicate (n + 1) c) = rns u ++ [((dgt c : Int), (n : Int) + 1)] := by
  induction n with
  | zero => exact rns_new h
  | succ n ih => rw [List.replicate_succ', ← List.append_assoc, rns_snoc, ih, rstep_same]; rfl
/-- What is wrong with runs. -/
def chkG : Option Int → Int → List (Int × Int) → Int
  | _, _, [] => 0
  | pv, left, p :: rs => if p.1 < 0 ∨ 15 < p.1 then 13 else if p.2 < 1 then 2 else if pv = some p.1 then 11 else if left < p.2 then 4 else chkG (some p.1) (left - p.2) rs
theorem rns_joined : ∀ (rs : List (Int × Int)) (u : List UInt8) (pv : Option Int) (left : Int), lastR u = pv → chkG pv left rs = 0 → rns (u ++ joinL rs) = rns u ++ rs ∧ (0 ≤ left → ((joinL rs).length : Int) ≤ left) ∧ Wof 16 (joinL rs)
  | [], u, _, _, _, _ => ⟨by rw [joinL, List.append_nil, List.append_nil], fun h => h, fun c hc => by cases hc⟩
  | p :: rs, u, pv, left, hu, h => by
    unfold chkG at h
    split at h
    · exact absurd h (by decide)
    · next h1 =>
      split at h
      · exact absurd h (by decide)
      · next h2 =>
        split at h
        · exact absurd h (by decide)
        · next h3 =>
          split at h
          · exact absurd h (by decide)
          · next h4 =>
            obtain ⟨d, hd⟩ : ∃ d : Nat, p.1 = (d : Int) := ⟨p.1.toNat, by omega⟩
            obtain ⟨n, hn⟩ : ∃ n : Nat, p.2 = (n : Int) + 1 := ⟨(p.2 - 1).toNat, by omega⟩
            have hd16 : d < 16 := by omega
            have hnew : lastR u ≠ some (dgt (lt d) : Int) := by rw [hu, dgt_lt d hd16, ← hd]; exact h3
            have e1 : List.replicate p.2.toNat (lt p.1.toNat) = List.replicate (n + 1) (lt d) := by rw [hd, hn, Int.toNat_natCast, show ((n : Int) + 1).toNat = n + 1 by omega]
            have e2 := rns_rep hnew n
            have hl : lastR (u ++ List.replicate (n + 1) (lt d)) = some p.1 := by
              rw [List.replicate_succ', ← List.append_assoc, lastR_snoc, dgt_lt d hd16, hd]
            obtain ⟨i1, i2, i3⟩ := rns_joined rs (u ++ List.replicate (n + 1) (lt d)) (some p.1) (left - p.2) hl h
            rw [joinL, e1, ← List.append_assoc, i1, e2, dgt_lt d hd16, List.length_append, List.length_replicate]
            refine ⟨?_, fun h0 => ?_, ?_⟩
            · rw [List.append_assoc, ← hd, ← hn]; rfl
            · have := i2 (by omega); omega
            · rw [Wof.append]; exact ⟨Wof.rep hd16 (by decide), i3⟩
/-- The longest run of a letter. -/
def lngR (d : Int) (rs : List (Int × Int)) : Int := rs.foldl (fun m p => if p.1 = d then max m p.2 else m) 0
theorem lngR_snoc (d : Int) (rs : List (Int × Int)) (p : Int × Int) : lngR d (rs ++ [p]) = if p.1 = d then max (lngR d rs) p.2 else lngR d rs := by unfold lngR; rw [List.foldl_append]; rfl
theorem lngR_next {d : Int} {rs : List (Int × Int)} {i : Nat} {p : Int × Int} (h : rs[i]? = some p) : lngR d (rs.take (i + 1)) = if p.1 = d then max (lngR d (rs.take i)) p.2 else lngR d (rs.take i) := by
  rw [List.take_add_one, h]; exact lngR_snoc _ _ _
theorem rns_wf (l : List UInt8) (h : Wof 16 l) : ∀ p ∈ rns l, 0 ≤ p.1 ∧ p.1 < 16 ∧ 1 ≤ p.2 ∧ p.2 ≤ l.length := by
  rcases List.eq_nil_or_concat l with e | ⟨u, c, e⟩
  · subst e; intro p hp; cases hp
  · rw [List.concat_eq_append] at e
    subst e
    have hu : Wof 16 u := fun x hx => h x (List.mem_append_left _ hx)
    have hc : dgt c < 16 := h c (List.mem_append_right _ (List.mem_singleton.2 rfl))
    have ih := rns_wf u hu
    intro p hp
    rw [rns_snoc] at hp
    rw [List.length_append, List.length_singleton]
    rcases List.eq_nil_or_concat (rns u) with e | ⟨r, q, e⟩
    · rw [e] at hp
      obtain rfl : p = ((dgt c : Int), 1) := List.mem_singleton.1 hp
      exact ⟨by omega, by show (dgt c : Int) < 16; omega, Int.le_refl 1, by show (1 : Int) ≤ _; omega⟩
    · rw [List.concat_eq_append] at e
      have hq := ih q (by rw [e]; simp)
      by_cases hd : q.1 = (dgt c : Int)
      · have hp2 : p ∈ r ++ [((dgt c : Int), q.2 + 1)] := by
          rw [← rstep_same r c q.2, ← hd, ← e]; exact hp
        rcases List.mem_append.1 hp2 with h1 | h1
        · have := ih p (by rw [e]; exact List.mem_append_left _ h1); omega
        · obtain rfl := List.mem_singleton.1 h1
          exact ⟨by omega, by show (dgt c : Int) < 16; omega, by show 1 ≤ q.2 + 1; omega, by show q.2 + 1 ≤ _; omega⟩
      · have hp2 : p ∈ rns u ++ [((dgt c : Int), 1)] := by
          rw [e] at hp ⊢
          rw [rstep_other r c q.1 q.2 hd] at hp
          exact hp
        rcases List.mem_append.1 hp2 with h1 | h1
        · have := ih p h1; omega
        · obtain rfl := List.mem_singleton.1 h1
          exact ⟨by omega, by show (dgt c : Int) < 16; omega, Int.le_refl 1, by show (1 : Int) ≤ _; omega⟩
termination_by l.length
decreasing_by simp_all
theorem rstep_len (r : List (Int × Int)) (c : UInt8) : (rstep r c).length ≤ r.length + 1 := by
  rcases List.eq_nil_or_concat r with e | ⟨u, p, e⟩
  · subst e; exact Nat.le_refl _
  · rw [List.concat_eq_append] at e
    subst e
    by_cases h : p.1 = (dgt c : Int)
    · have := rstep_same u c p.2
      rw [← h] at this
      rw [show u ++ [p] = u ++ [(p.1, p.2)] from rfl, this]; simp
    · rw [show u ++ [p] = u ++ [(p.1, p.2)] from rfl, rstep_other _ _ _ _ h]; simp
theorem rns_len (l : List UInt8) : (rns l).length ≤ l.length := by
  have : ∀ (l : List UInt8) (r : List (Int × Int)), (l.foldl rstep r).length ≤ r.length + l.length := by
    intro l
    induction l with
    | nil => intro r; exact Nat.le_refl _
    | cons c l ih => intro r; rw [List.foldl_cons, List.length_cons]; have := ih (rstep r c); have := rstep_len r c; omega
  have h := this l []
  rw [List.length_nil, Nat.zero_add] at h
  exact h
theorem rns_len_snoc (u : List UInt8) (d c : UInt8) : (rns (u ++ [d] ++ [c])).length = (rns (u ++ [d])).length + (if dgt d = dgt c then 0 else 1) := by
  obtain ⟨r, n, e, -, -⟩ := rns_last u d
  rw [rns_snoc, e]
  by_cases h : dgt d = dgt c
  · rw [if_pos h, h, rstep_same]; simp
  · rw [if_neg h, rstep_other _ _ _ _ (by omega)]; simp
theorem wof2 {c : UInt8} (h : dgt c < 2) : c = 48 ∨ c = 49 := by
  have h1 := lt_dgt (c := c) (by omega)
  rcases (show dgt c = 0 ∨ dgt c = 1 by omega) with e | e <;> rw [e] at h1
  · exact Or.inl h1.symm
  · exact Or.inr h1.symm
/-- The levels of a word, behind the first level, have one run more than the word has letters 1. -/
theorem runs_levs {l : List UInt8} (h : Wof 2 l) {s : Nat} (hs : s < 2) : (rns ([lt s] ++ levs s l)).length = 1 + l.count 49 := by
  suffices ∃ u, [lt s] ++ levs s l = u ++ [lt (lvl s l)] ∧ (rns ([lt s] ++ levs s l)).length = 1 + l.count 49 from this.choose_spec.2
  rcases List.eq_nil_or_concat l with e | ⟨v, c, e⟩
  · subst e; exact ⟨[], rfl, rfl⟩
  · rw [List.concat_eq_append] at e
    subst e
    have hv : Wof 2 v := fun x hx => h x (List.mem_append_left _ hx)
    have hc : dgt c < 2 := h c (List.mem_append_right _ (List.mem_singleton.2 rfl))
    have ih := runs_levs hv hs
    have hl := lvl_lt hs v
    have hlast : ∃ u, [lt s] ++ levs s v = u ++ [lt (lvl s v)] := by
      rcases List.eq_nil_or_concat v with e | ⟨x, d, e⟩
      · subst e; exact ⟨[], rfl⟩
      · rw [List.concat_eq_append] at e
        subst e
        exact ⟨[lt s] ++ levs s x, by rw [levs_snoc, lvl_snoc, List.append_assoc]⟩
    obtain ⟨u, e⟩ := hlast
    have hm := Nat.mod_lt (lvl s v + dgt c) (show 2 > 0 by decide)
    refine ⟨[lt s] ++ levs s v, by rw [levs_snoc, lvl_snoc, List.append_assoc], ?_⟩
    rw [levs_snoc, ← List.append_assoc]
    rw [e] at ih ⊢
    rw [rns_len_snoc, ih, dgt_lt _ (by omega), dgt_lt _ (by omega), List.count_append]
    rcases wof2 hc with e2 | e2
    · subst e2
      have : dgt 48 = 0 := by decide
      rw [if_pos (by omega)]
      simp
    · subst e2
      have : dgt 49 = 1 := by decide
      rw [if_neg (by omega)]
      simp
      omega
termination_by l.length
decreasing_by simp_all
end Go.Proofs.YtokpfbbhkmlclaaGreatDoor
