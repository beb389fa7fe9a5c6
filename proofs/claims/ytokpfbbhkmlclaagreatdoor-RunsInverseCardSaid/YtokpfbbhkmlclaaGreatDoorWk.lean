/- Borders and occurrences of strings: plain facts on lists. No condition. -/
import Derived.Test.YtokpfbbhkmlclaaGreatDoorProg
import Derived.Below
namespace Go.Proofs.YtokpfbbhkmlclaaGreatDoor

/-- The greatest k up to n with p, or 0. -/
def topOf (p : Nat → Bool) : Nat → Nat
  | 0 => 0
  | n + 1 => if p (n + 1) then n + 1 else topOf p n
theorem topOf_le (p : Nat → Bool) (n : Nat) : topOf p n ≤ n := by
  induction n with
  | zero => exact Nat.le_refl _
  | succ n ih => unfold topOf; split <;> omega
theorem topOf_is (p : Nat → Bool) (n : Nat) : topOf p n = 0 ∨ p (topOf p n) = true := by
  induction n with
  | zero => exact Or.inl rfl
  | succ n ih =>
    unfold topOf
    split
    · next h => exact Or.inr h
    · exact ih
theorem le_topOf {p : Nat → Bool} {n k : Nat} (hk : k ≤ n) (h : p k = true) : k ≤ topOf p n := by
  induction n with
  | zero => omega
  | succ n ih =>
    unfold topOf
    split
    · exact hk
    · next h2 =>
      rcases Nat.lt_or_ge k (n + 1) with h3 | h3
      · exact ih (by omega)
      · obtain rfl : k = n + 1 := by omega
        exact absurd h h2

/-- The first k of w are the end of t. -/
def Suf (w t : List UInt8) (k : Nat) : Prop := k ≤ w.length ∧ w.take k <:+ t
instance (w t : List UInt8) (k : Nat) : Decidable (Suf w t k) := inferInstanceAs (Decidable (_ ∧ _))
theorem Suf.len {w t : List UInt8} {k : Nat} (h : Suf w t k) : k ≤ t.length := by
  have := h.2.length_le
  rw [List.length_take] at this
  have := h.1
  omega
theorem Suf.zero (w t : List UInt8) : Suf w t 0 := ⟨Nat.zero_le _, by rw [List.take_zero]; exact List.nil_suffix⟩
theorem Suf.snoc {w t : List UInt8} {c : UInt8} {k : Nat} : Suf w (t ++ [c]) (k + 1) ↔ Suf w t k ∧ w[k]? = some c := by
  constructor
  · rintro ⟨h1, h2⟩
    have hk : k < w.length := by omega
    obtain ⟨r, hr⟩ := h2
    rw [List.take_add_one, List.getElem?_eq_getElem hk, Option.toList, ← List.append_assoc] at hr
    obtain ⟨e1, e2⟩ := List.append_inj' hr rfl
    injection e2 with e2
    exact ⟨⟨by omega, r, e1⟩, by rw [List.getElem?_eq_getElem hk, e2]⟩
  · rintro ⟨⟨h1, h2⟩, h3⟩
    have hk : k < w.length := (List.getElem?_eq_some_iff.1 h3).1
    refine ⟨hk, ?_⟩
    rw [List.take_add_one, h3]
    obtain ⟨r, hr⟩ := h2
    exact ⟨r, by rw [← hr]; simp⟩
/-- What is shorter is the end of what is longer. -/
theorem Suf.down {w t : List UInt8} {j k : Nat} (hj : Suf w t j) (hk : Suf w t k) (h : j ≤ k) : Suf w (w.take k) j := by
  refine ⟨hj.1, List.suffix_of_suffix_length_le hj.2 hk.2 ?_⟩
  rw [List.length_take, List.length_take]
  omega
theorem Suf.up {w t : List UInt8} {j k : Nat} (hj : Suf w (w.take k) j) (hk : Suf w t k) : Suf w t j := ⟨hj.1, hj.2.trans hk.2⟩

/-- The length of the longest proper border. -/
def bord (l : List UInt8) : Nat := topOf (fun k => decide (Suf l l k)) (l.length - 1)
theorem bord_le (l : List UInt8) : bord l ≤ l.length - 1 := topOf_le _ _
theorem bord_suf (l : List UInt8) : Suf l l (bord l) := by
  rcases topOf_is (fun k => decide (Suf l l k)) (l.length - 1) with h | h
  · have : bord l = 0 := h
    rw [this]; exact Suf.zero _ _
  · exact of_decide_eq_true h
theorem le_bord {l : List UInt8} {k : Nat} (hk : k < l.length) (h : Suf l l k) : k ≤ bord l := le_topOf (p := fun k => decide (Suf l l k)) (by omega) (decide_eq_true h)

/-- The table of a string: -1 for the empty beginning. -/
def tab (w : List UInt8) (i : Nat) : Int := if i = 0 then -1 else (bord (w.take i) : Int)
theorem tab_zero (w : List UInt8) : tab w 0 = -1 := rfl
theorem suf_take {w t : List UInt8} {i k : Nat} (hk : k ≤ i) (hi : i ≤ w.length) : Suf (w.take i) t k ↔ Suf w t k := by
  unfold Suf
  rw [List.take_take, Nat.min_eq_left hk, List.length_take]
  constructor
  · rintro ⟨a, b⟩; exact ⟨by omega, b⟩
  · rintro ⟨a, b⟩; exact ⟨by omega, b⟩
theorem tab_lt {w : List UInt8} {i : Nat} (hi : i ≤ w.length) : -1 ≤ tab w i ∧ tab w i < (i : Int) := by
  unfold tab
  split
  · omega
  · have := bord_le (w.take i)
    rw [List.length_take] at this
    omega
theorem tab_suf {w : List UInt8} {i k : Nat} (hi : i ≤ w.length) (h : tab w i = (k : Int)) : Suf w (w.take i) k := by
  have h2 := tab_lt hi
  unfold tab at h
  split at h
  · omega
  · have h1 := bord_suf (w.take i)
    have h3 : bord (w.take i) = k := by omega
    have h4 := bord_le (w.take i)
    rw [List.length_take] at h4
    rw [h3] at h1
    exact (suf_take (by omega) hi).1 h1
theorem le_tab {w : List UInt8} {i j : Nat} (hi : i ≤ w.length) (hj : j < i) (h : Suf w (w.take i) j) : (j : Int) ≤ tab w i := by
  unfold tab
  rw [if_neg (by omega)]
  have := le_bord (l := w.take i) (k := j) (by rw [List.length_take]; omega) ((suf_take (by omega) hi).2 h)
  omega

/-- What is longest behind one more letter, from a length on. -/
def Ext (w t : List UInt8) (c : UInt8) (k0 : Int) (r : Nat) : Prop :=
  Suf w (t ++ [c]) r ∧ (r : Int) ≤ k0 + 1 ∧ ∀ j, Suf w (t ++ [c]) j → (j : Int) ≤ k0 + 1 → j ≤ r
/-- A length between two rounds. -/
def MidL (w t : List UInt8) (c : UInt8) (k0 k : Int) : Prop :=
  -1 ≤ k ∧ k ≤ k0 ∧ (∀ n : Nat, k = n → Suf w t n) ∧ ∀ j : Nat, (j : Int) ≤ k0 → Suf w t j → w[j]? = some c → (j : Int) ≤ k
theorem MidL.start {w t : List UInt8} {c : UInt8} {k0 : Int} (h : -1 ≤ k0) (hs : ∀ n : Nat, k0 = n → Suf w t n) : MidL w t c k0 k0 := ⟨h, Int.le_refl _, hs, fun _ h _ _ => h⟩
theorem MidL.step {w t : List UInt8} {c d : UInt8} {k0 : Int} {k : Nat} (h : MidL w t c k0 k) (hk : k < w.length) (hd : w[k]? = some d) (hne : d ≠ c) : MidL w t c k0 (tab w k) := by
  obtain ⟨h1, h2, h3, h4⟩ := h
  have hs := h3 k rfl
  have ht := tab_lt (w := w) (i := k) (by omega)
  refine ⟨ht.1, by omega, fun n hn => (tab_suf (by omega) hn).up hs, fun j hj h5 h6 => ?_⟩
  have h7 := h4 j hj h5 h6
  have h8 : j ≠ k := by
    rintro rfl
    rw [hd] at h6
    injection h6 with h6
    exact hne h6
  exact le_tab (by omega) (by omega) (h5.down hs (by omega))
theorem MidL.found {w t : List UInt8} {c : UInt8} {k0 : Int} {k : Nat} (h : MidL w t c k0 k) (hd : w[k]? = some c) : Ext w t c k0 (k + 1) := by
  obtain ⟨h1, h2, h3, h4⟩ := h
  refine ⟨Suf.snoc.2 ⟨h3 k rfl, hd⟩, by omega, fun j hj h5 => ?_⟩
  rcases j with _ | j
  · omega
  · obtain ⟨h6, h7⟩ := Suf.snoc.1 hj
    have := h4 j (by omega) h6 h7
    omega
theorem MidL.none {w t : List UInt8} {c : UInt8} {k0 : Int} (h : MidL w t c k0 (-1)) : Ext w t c k0 0 := by
  obtain ⟨h1, h2, h3, h4⟩ := h
  refine ⟨Suf.zero _ _, by omega, fun j hj h5 => ?_⟩
  rcases j with _ | j
  · omega
  · obtain ⟨h6, h7⟩ := Suf.snoc.1 hj
    have := h4 j (by omega) h6 h7
    omega

/-- The table's next entry. -/
theorem tab_next {w : List UInt8} {i r : Nat} {c : UInt8} (hc : w[i]? = some c) (h : Ext w (w.take i) c (tab w i) r) : tab w (i + 1) = (r : Int) := by
  have hi : i < w.length := (List.getElem?_eq_some_iff.1 hc).1
  obtain ⟨h1, h2, h3⟩ := h
  have ht : w.take (i + 1) = w.take i ++ [c] := by rw [List.take_add_one, hc]; rfl
  have hl := tab_lt (w := w) (i := i) (by omega)
  rw [← ht] at h1 h3
  have h4 := le_tab (w := w) (i := i + 1) (j := r) (by omega) (by omega) h1
  have h5 := tab_lt (w := w) (i := i + 1) (by omega)
  obtain ⟨m, hm⟩ : ∃ m : Nat, tab w (i + 1) = m := ⟨(tab w (i + 1)).toNat, by omega⟩
  have h6 := tab_suf (by omega) hm
  have h7 : (m : Int) ≤ tab w i + 1 := by
    rcases m with _ | m
    · omega
    · rw [ht] at h6
      have := le_tab (w := w) (i := i) (by omega) (by omega) (Suf.snoc.1 h6).1
      omega
  have h8 := h3 m h6 h7
  omega

/-- The longest beginning of u with which t ends. -/
def Best (u t : List UInt8) (k : Nat) : Prop := Suf u t k ∧ ∀ j, Suf u t j → j ≤ k
theorem Best.start (u : List UInt8) : Best u [] 0 := ⟨Suf.zero _ _, fun _ h => h.len⟩
/-- A step from a length that is not the whole. -/
theorem Best.step {u t : List UInt8} {c : UInt8} {k r : Nat} (h : Best u t k) (he : Ext u t c k r) : Best u (t ++ [c]) r := by
  refine ⟨he.1, fun j hj => he.2.2 j hj ?_⟩
  rcases j with _ | j
  · omega
  · have := h.2 j (Suf.snoc.1 hj).1
    omega
/-- A step behind an occurrence. -/
theorem Best.again {u t : List UInt8} {c : UInt8} {r : Nat} (h : Best u t u.length) (he : Ext u t c (tab u u.length) r) : Best u (t ++ [c]) r := by
  refine ⟨he.1, fun j hj => he.2.2 j hj ?_⟩
  rcases j with _ | j
  · have := tab_lt (w := u) (i := u.length) (Nat.le_refl _); omega
  · have h1 := (Suf.snoc.1 hj)
    have h2 : j < u.length := (List.getElem?_eq_some_iff.1 h1.2).1
    have := le_tab (w := u) (Nat.le_refl _) h2 (h1.1.down h.1 (by omega))
    omega
theorem Best.tab {u t : List UInt8} (h : Best u t u.length) : ∀ n : Nat, tab u u.length = n → Suf u t n := fun _ hn => (tab_suf (Nat.le_refl _) hn).up h.1
/-- Whether u ends at e. -/
theorem Best.whole {u t : List UInt8} {k : Nat} (h : Best u t k) : k = u.length ↔ u <:+ t := by
  constructor
  · rintro rfl
    have := h.1.2
    rwa [List.take_length] at this
  · intro h1
    have := h.2 u.length ⟨Nat.le_refl _, by rw [List.take_length]; exact h1⟩
    have := h.1.1
    omega

/-- The ends (up to e) at which u occurs. -/
def endsTo (w u : List UInt8) : Nat → List Nat
  | 0 => []
  | e + 1 => endsTo w u e ++ (if u <:+ w.take e then [e - u.length] else [])
/-- The offsets at which u occurs in w. -/
def occ (w u : List UInt8) : List Nat := endsTo w u (w.length + 1)
theorem mem_endsTo {w u : List UInt8} {e i : Nat} : i ∈ endsTo w u e ↔ i + u.length < e ∧ u <:+ w.take (i + u.length) := by
  induction e with
  | zero => simp [endsTo]
  | succ e ih =>
    unfold endsTo
    rw [List.mem_append, ih]
    by_cases h : u <:+ w.take e
    · have hl := h.length_le
      rw [List.length_take] at hl
      rw [if_pos h, List.mem_singleton]
      constructor
      · rintro (⟨h1, h2⟩ | rfl)
        · exact ⟨by omega, h2⟩
        · exact ⟨by omega, by rw [Nat.sub_add_cancel (by omega)]; exact h⟩
      · rintro ⟨h1, h2⟩
        rcases Nat.lt_or_ge (i + u.length) e with h3 | h3
        · exact Or.inl ⟨h3, h2⟩
        · exact Or.inr (by omega)
    · rw [if_neg h]
      constructor
      · rintro (⟨h1, h2⟩ | h1)
        · exact ⟨by omega, h2⟩
        · cases h1
      · rintro ⟨h1, h2⟩
        left
        refine ⟨?_, h2⟩
        rcases Nat.lt_or_ge (i + u.length) e with h3 | h3
        · exact h3
        · exact absurd (by rwa [show i + u.length = e by omega] at h2) h
theorem endsTo_sorted (w u : List UInt8) (e : Nat) : (endsTo w u e).Pairwise (· < ·) := by
  induction e with
  | zero => exact List.Pairwise.nil
  | succ e ih =>
    unfold endsTo
    split
    · next h =>
      have hl := h.length_le
      rw [List.length_take] at hl
      rw [List.pairwise_append]
      refine ⟨ih, List.pairwise_singleton _ _, fun a ha b hb => ?_⟩
      rw [List.mem_singleton] at hb
      have := (mem_endsTo.1 ha).1
      omega
    · rw [List.append_nil]; exact ih
theorem endsTo_len (w u : List UInt8) (e : Nat) : (endsTo w u e).length ≤ e := by
  induction e with
  | zero => exact Nat.le_refl _
  | succ e ih => unfold endsTo; rw [List.length_append]; split <;> simp <;> omega
end Go.Proofs.YtokpfbbhkmlclaaGreatDoor
