/- Runs, levels and charges of words: plain facts on lists. No condition. -/
import Derived.Test.YtokpfbbhkmlclaaGreatDoorWn
namespace Go.Proofs.YtokpfbbhkmlclaaGreatDoor

/-! Charges. -/
def ch1 (c : UInt8) : Int := 2 * (dgt c : Int) - 1
def chg (l : List UInt8) : Int := l.foldl (fun a c => a + ch1 c) 0
theorem chg_acc (l : List UInt8) : ∀ a : Int, l.foldl (fun a c => a + ch1 c) a = a + chg l := by
  unfold chg
  induction l with
  | nil => intro a; simp
  | cons c l ih => intro a; rw [List.foldl_cons, List.foldl_cons, ih, ih (0 + ch1 c)]; omega
theorem chg_append (u v : List UInt8) : chg (u ++ v) = chg u + chg v := by
  show (u ++ v).foldl _ 0 = _
  rw [List.foldl_append, chg_acc]; rfl
theorem chg_one (c : UInt8) : chg [c] = ch1 c := by show (0 : Int) + ch1 c = _; omega
theorem chg_snoc (u : List UInt8) (c : UInt8) : chg (u ++ [c]) = chg u + ch1 c := by rw [chg_append, chg_one]
theorem chg_nil : chg [] = 0 := rfl
theorem chg_next {l : List UInt8} {i : Nat} {c : UInt8} (h : l[i]? = some c) : chg (l.take (i + 1)) = chg (l.take i) + ch1 c := by
  rw [List.take_add_one, h]; exact chg_snoc _ _
theorem chg_rev (l : List UInt8) : chg l.reverse = chg l := by
  induction l with
  | nil => rfl
  | cons c l ih => rw [List.reverse_cons, chg_snoc, ih, show c :: l = [c] ++ l from rfl, chg_append, chg_one]; omega
theorem chg_bound {l : List UInt8} (h : Wof 2 l) : -(l.length : Int) ≤ chg l ∧ chg l ≤ l.length := by
  induction l with
  | nil => exact ⟨by decide, by decide⟩
  | cons c l ih =>
    obtain ⟨h1, h2⟩ := ih (fun x hx => h x (List.mem_cons_of_mem _ hx))
    have h3 := h c (List.mem_cons_self ..)
    rw [show c :: l = [c] ++ l from rfl, chg_append, chg_one, List.length_append, List.length_singleton]
    unfold ch1
    omega
theorem Wof.takeU {q : Nat} {l : List UInt8} (h : Wof q l) (n : Nat) : Wof q (l.take n) := fun c hc => h c (List.mem_of_mem_take hc)
/-- The charges of the beginnings. -/
def chgs (l : List UInt8) : List Int := (List.range (l.length + 1)).map fun i => chg (l.take i)
theorem chgs_len (l : List UInt8) : (chgs l).length = l.length + 1 := by unfold chgs; rw [List.length_map, List.length_range]
theorem chgs_at {l : List UInt8} {i : Nat} (h : i ≤ l.length) : (chgs l)[i]? = some (chg (l.take i)) := by
  unfold chgs
  rw [List.getElem?_map, List.getElem?_range (by omega)]; rfl
theorem chgs_snoc (l : List UInt8) (c : UInt8) : chgs (l ++ [c]) = chgs l ++ [chg l + ch1 c] := by
  unfold chgs
  rw [List.length_append, List.length_singleton, List.range_succ, List.map_append]
  congr 1
  · apply List.map_congr_left
    intro i hi
    rw [List.mem_range] at hi
    rw [List.take_append_of_le_length (by omega)]
  · show [chg ((l ++ [c]).take (l.length + 1))] = _
    rw [List.take_of_length_le (by simp), chg_snoc]
theorem chgs_nil : chgs [] = [0] := rfl
theorem mem_chgs {l : List UInt8} {x : Int} : x ∈ chgs l ↔ ∃ i, i ≤ l.length ∧ chg (l.take i) = x := by
  unfold chgs
  rw [List.mem_map]
  constructor
  · rintro ⟨i, hi, e⟩; rw [List.mem_range] at hi; exact ⟨i, by omega, e⟩
  · rintro ⟨i, hi, e⟩; exact ⟨i, by rw [List.mem_range]; omega, e⟩
/-- The least and the greatest charge. -/
def loC (l : List UInt8) : Int := (chgs l).foldl min 0
def hiC (l : List UInt8) : Int := (chgs l).foldl max 0
theorem foldl_min_le (l : List Int) : ∀ a : Int, l.foldl min a ≤ a ∧ ∀ x ∈ l, l.foldl min a ≤ x := by
  induction l with
  | nil => intro a; exact ⟨Int.le_refl _, fun x hx => by cases hx⟩
  | cons c l ih =>
    intro a
    obtain ⟨h1, h2⟩ := ih (min a c)
    rw [List.foldl_cons]
    refine ⟨by omega, fun x hx => ?_⟩
    rcases List.mem_cons.1 hx with h | h
    · subst h; omega
    · exact h2 x h
theorem foldl_min_mem (l : List Int) : ∀ a : Int, l.foldl min a = a ∨ l.foldl min a ∈ l := by
  induction l with
  | nil => intro a; exact Or.inl rfl
  | cons c l ih =>
    intro a
    rw [List.foldl_cons]
    rcases ih (min a c) with h | h
    · rw [h]
      rcases (show min a c = a ∨ min a c = c by omega) with e | e
      · exact Or.inl e
      · rw [e]; exact Or.inr (List.mem_cons_self ..)
    · exact Or.inr (List.mem_cons_of_mem _ h)
theorem foldl_max_ge (l : List Int) : ∀ a : Int, a ≤ l.foldl max a ∧ ∀ x ∈ l, x ≤ l.foldl max a := by
  induction l with
  | nil => intro a; exact ⟨Int.le_refl _, fun x hx => by cases hx⟩
  | cons c l ih =>
    intro a
    obtain ⟨h1, h2⟩ := ih (max a c)
    rw [List.foldl_cons]
    refine ⟨by omega, fun x hx => ?_⟩
    rcases List.mem_cons.1 hx with h | h
    · subst h; omega
    · exact h2 x h
theorem foldl_max_mem (l : List Int) : ∀ a : Int, l.foldl max a = a ∨ l.foldl max a ∈ l := by
  induction l with
  | nil => intro a; exact Or.inl rfl
  | cons c l ih =>
    intro a
    rw [List.foldl_cons]
    rcases ih (max a c) with h | h
    · rw [h]
      rcases (show max a c = a ∨ max a c = c by omega) with e | e
      · exact Or.inl e
      · rw [e]; exact Or.inr (List.mem_cons_self ..)
    · exact Or.inr (List.mem_cons_of_mem _ h)
theorem zero_mem_chgs (l : List UInt8) : (0 : Int) ∈ chgs l := mem_chgs.2 ⟨0, Nat.zero_le _, by rw [List.take_zero]; rfl⟩
theorem last_mem_chgs (l : List UInt8) : chg l ∈ chgs l := mem_chgs.2 ⟨l.length, Nat.le_refl _, by rw [List.take_length]⟩
theorem loC_le {l : List UInt8} {x : Int} (h : x ∈ chgs l) : loC l ≤ x := (foldl_min_le _ 0).2 x h
theorem le_hiC {l : List UInt8} {x : Int} (h : x ∈ chgs l) : x ≤ hiC l := (foldl_max_ge _ 0).2 x h
theorem loC_mem (l : List UInt8) : loC l ∈ chgs l := by
  rcases foldl_min_mem (chgs l) 0 with h | h
  · show (chgs l).foldl min 0 ∈ _; rw [h]; exact zero_mem_chgs l
  · exact h
theorem hiC_mem (l : List UInt8) : hiC l ∈ chgs l := by
  rcases foldl_max_mem (chgs l) 0 with h | h
  · show (chgs l).foldl max 0 ∈ _; rw [h]; exact zero_mem_chgs l
  · exact h
theorem loC_unique {l : List UInt8} {m : Int} (h1 : m ∈ chgs l) (h2 : ∀ x ∈ chgs l, m ≤ x) : loC l = m := by
  have := loC_le h1
  have := h2 _ (loC_mem l)
  omega
theorem hiC_unique {l : List UInt8} {m : Int} (h1 : m ∈ chgs l) (h2 : ∀ x ∈ chgs l, x ≤ m) : hiC l = m := by
  have := le_hiC h1
  have := h2 _ (hiC_mem l)
  omega
theorem chgs_rev {l : List UInt8} {x : Int} : x ∈ chgs l.reverse ↔ chg l - x ∈ chgs l := by
  have key : ∀ i, i ≤ l.length → chg (l.reverse.take i) = chg l - chg (l.take (l.length - i)) := by
    intro i hi
    have h1 : l.reverse.take i = (l.drop (l.length - i)).reverse := by rw [List.take_reverse]
    rw [h1, chg_rev]
    have h2 : chg l = chg (l.take (l.length - i)) + chg (l.drop (l.length - i)) := by rw [← chg_append, List.take_append_drop]
    omega
  rw [mem_chgs, mem_chgs, List.length_reverse]
  constructor
  · rintro ⟨i, hi, e⟩
    rw [key i hi] at e
    exact ⟨l.length - i, by omega, by omega⟩
  · rintro ⟨i, hi, e⟩
    refine ⟨l.length - i, by omega, ?_⟩
    rw [key _ (by omega), show l.length - (l.length - i) = i by omega]
    omega
theorem loC_rev (l : List UInt8) : loC l.reverse = chg l - hiC l := by
  refine loC_unique (chgs_rev.2 ?_) fun x hx => ?_
  · rw [show chg l - (chg l - hiC l) = hiC l by omega]; exact hiC_mem l
  · have := le_hiC (chgs_rev.1 hx); omega
theorem hiC_rev (l : List UInt8) : hiC l.reverse = chg l - loC l := by
  refine hiC_unique (chgs_rev.2 ?_) fun x hx => ?_
  · rw [show chg l - (chg l - loC l) = loC l by omega]; exact loC_mem l
  · have := loC_le (chgs_rev.1 hx); omega
theorem loC_bound {l : List UInt8} (h : Wof 2 l) : -(l.length : Int) ≤ loC l ∧ loC l ≤ 0 := by
  obtain ⟨i, hi, e⟩ := mem_chgs.1 (loC_mem l)
  have h1 := chg_bound (h.takeU i)
  rw [List.length_take] at h1
  exact ⟨by omega, loC_le (zero_mem_chgs l)⟩
theorem hiC_bound {l : List UInt8} (h : Wof 2 l) : 0 ≤ hiC l ∧ hiC l ≤ l.length := by
  obtain ⟨i, hi, e⟩ := mem_chgs.1 (hiC_mem l)
  have h1 := chg_bound (h.takeU i)
  rw [List.length_take] at h1
  exact ⟨le_hiC (zero_mem_chgs l), by omega⟩

/-! Levels. -/
def levs : Nat → List UInt8 → List UInt8
  | _, [] => []
  | s, c :: l => lt ((s + dgt c) % 2) :: levs ((s + dgt c) % 2) l
def lvl (s : Nat) (l : List UInt8) : Nat := l.foldl (fun a c => (a + dgt c) % 2) s
def trs : Nat → List UInt8 → List UInt8
  | _, [] => []
  | s, c :: l => lt ((s + dgt c) % 2) :: trs (dgt c) l
def lastD (s : Nat) (l : List UInt8) : Nat := l.foldl (fun _ c => dgt c) s
theorem levs_len (l : List UInt8) : ∀ s, (levs s l).length = l.length := by
  induction l with
  | nil => intro s; rfl
  | cons c l ih => intro s; rw [levs, List.length_cons, List.length_cons, ih]
theorem trs_len (l : List UInt8) : ∀ s, (trs s l).length = l.length := by
  induction l with
  | nil => intro s; rfl
  | cons c l ih => intro s; rw [trs, List.length_cons, List.length_cons, ih]
theorem lvl_lt {s : Nat} (hs : s < 2) (l : List UInt8) : lvl s l < 2 := by
  unfold lvl
  induction l generalizing s with
  | nil => exact hs
  | cons c l ih => rw [List.foldl_cons]; exact ih (Nat.mod_lt _ (by decide))
theorem lvl_snoc (s : Nat) (l : List UInt8) (c : UInt8) : lvl s (l ++ [c]) = (lvl s l + dgt c) % 2 := by unfold lvl; rw [List.foldl_append]; rfl
theorem lastD_snoc (s : Nat) (l : List UInt8) (c : UInt8) : lastD s (l ++ [c]) = dgt c := by unfold lastD; rw [List.foldl_append]; rfl
theorem levs_snoc (l : List UInt8) (c : UInt8) : ∀ s, levs s (l ++ [c]) = levs s l ++ [lt ((lvl s l + dgt c) % 2)] := by
  induction l with
  | nil => intro s; rfl
  | cons d l ih => intro s; rw [List.cons_append, levs, levs, ih]; rfl
theorem trs_snoc (l : List UInt8) (c : UInt8) : ∀ s, trs s (l ++ [c]) = trs s l ++ [lt ((lastD s l + dgt c) % 2)] := by
  induction l with
  | nil => intro s; rfl
  | cons d l ih => intro s; rw [List.cons_append, trs, trs, ih]; rfl
theorem lastD_lt {s : Nat} (hs : s < 2) {l : List UInt8} (h : Wof 2 l) : lastD s l < 2 := by
  unfold lastD
  induction l generalizing s with
  | nil => exact hs
  | cons c l ih => rw [List.foldl_cons]; exact ih (h c (List.mem_cons_self ..)) (fun x hx => h x (List.mem_cons_of_mem _ hx))
theorem levs_wof (l : List UInt8) : ∀ s, Wof 2 (levs s l) := by
  induction l with
  | nil => intro s c hc; cases hc
  | cons d l ih =>
    intro s c hc
    rw [levs] at hc
    rcases List.mem_cons.1 hc with h | h
    · have := Nat.mod_lt (s + dgt d) (show 2 > 0 by decide)
      rw [h, dgt_lt _ (by omega)]; exact this
    · exact ih _ c h
theorem trs_wof (l : List UInt8) : ∀ s, Wof 2 (trs s l) := by
  induction l with
  | nil => intro s c hc; cases hc
  | cons d l ih =>
    intro s c hc
    rw [trs] at hc
    rcases List.mem_cons.1 hc with h | h
    · have := Nat.mod_lt (s + dgt d) (show 2 > 0 by decide)
      rw [h, dgt_lt _ (by omega)]; exact this
    · exact ih _ c h
theorem trs_levs {l : List UInt8} (h : Wof 2 l) : ∀ s, s < 2 → trs s (levs s l) = l := by
  induction l with
  | nil => intro s _; rfl
  | cons c l ih =>
    intro s hs
    have hc : dgt c < 2 := h c (List.mem_cons_self ..)
    have hm := Nat.mod_lt (s + dgt c) (show 2 > 0 by decide)
    rw [levs, trs, dgt_lt _ (by omega), ih (fun x hx => h x (List.mem_cons_of_mem _ hx)) _ hm, show (s + (s + dgt c) % 2) % 2 = dgt c by omega, lt_dgt (by omega)]
theorem levs_trs {l : List UInt8} (h : Wof 2 l) : ∀ s, s < 2 → levs s (trs s l) = l := by
  induction l with
  | nil => intro s _; rfl
  | cons c l ih =>
    intro s hs
    have hc : dgt c < 2 := h c (List.mem_cons_self ..)
    have hm := Nat.mod_lt (s + dgt c) (show 2 > 0 by decide)
    rw [trs, levs, dgt_lt _ (by omega), show (s + (s + dgt c) % 2) % 2 = dgt c by omega, ih (fun x hx => h x (List.mem_cons_of_mem _ hx)) _ hc, lt_dgt (by omega)]
def flipB (c : UInt8) : UInt8 := if c = 48 then 49 else if c = 49 then 48 else c
theorem flip_lt {d : Nat} (h : d < 2) : flipB (lt d) = lt (1 - d) := by
  rcases (show d = 0 ∨ d = 1 by omega) with rfl | rfl <;> decide
theorem levs_other {l : List UInt8} : ∀ s, s < 2 → levs (1 - s) l = (levs s l).map flipB := by
  induction l with
  | nil => intro s _; rfl
  | cons c l ih =>
    intro s hs
    have hm := Nat.mod_lt (s + dgt c) (show 2 > 0 by decide)
    have e : (1 - s + dgt c) % 2 = 1 - (s + dgt c) % 2 := by omega
    rw [levs, levs, e, List.map_cons, flip_lt hm, ih _ hm]

/-! Runs: letters by their numbers, and lengths. -/
def rstep (r : List (Int × Int)) (c : UInt8) : List (Int × Int) :=
  match r.getLast? with
  | some p => if p.1 = (dgt c : Int) then r.dropLast ++ [(p.1, p.2 + 1)] else r ++ [((dgt c : Int), 1)]
  | none => [((dgt c : Int), 1)]
def rns (l : List UInt8) : List (Int × Int) := l.foldl rstep []
theorem rns_snoc (l : List UInt8) (c : UInt8) : rns (l ++ [c]) = rstep (rns l) c := by unfold rns; rw [List.foldl_append]; rfl
theorem rstep_same (r : List (Int × Int)) (c : UInt8) (n : Int) : rstep (r ++ [((dgt c : Int), n)]) c = r ++ [((dgt c : Int), n + 1)] := by
  unfold rstep
  rw [List.getLast?_concat]
  simp only [if_true, List.dropLast_concat]
theorem rstep_other (r : List (Int × Int)) (c : UInt8) (d n : Int) (h : d ≠ (dgt c : Int)) : rstep (r ++ [(d, n)]) c = r ++ [(d, n)] ++ [((dgt c : Int), 1)] := by
  unfold rstep
  rw [List.getLast?_concat]
  simp only [if_neg h]
theorem rns_nil : rns [] = [] := rfl
theorem rns_one (c : UInt8) : rns [c] = [((dgt c : Int), 1)] := rfl
/-- The last run of a word is that of its last letter. -/
theorem rns_last (l : List UInt8) (c : UInt8) : ∃ (r : List (Int × Int)) (n : Int), rns (l ++ [c]) = r ++ [((dgt c : Int), n)] ∧ 1 ≤ n ∧ n ≤ l.length + 1 := by
  rw [rns_snoc]
  rcases List.eq_nil_or_concat l with h | ⟨u, d, h⟩
  · subst h; exact ⟨[], 1, rfl, by decide, by decide⟩
  · rw [List.concat_eq_append] at h
    subst h
    obtain ⟨r, n, e, h1, h2⟩ := rns_last u d
    rw [e]
    by_cases h : (dgt d : Int) = (dgt c : Int)
    · rw [h, rstep_same]
      exact ⟨r, n + 1, rfl, by omega, by simp; omega⟩
    · rw [rstep_other _ _ _ _ h]
      exact ⟨_, 1, rfl, by decide, by simp; omega⟩
termination_by l.length
decreasing_by simp_all
end Go.Proofs.YtokpfbbhkmlclaaGreatDoor
