/- Plain facts on the lengths of closed paths: all great multiples of the period. No condition. -/
import Derived.Test.YtfkplnmhlpabaaaKp
namespace Go.Proofs.Ytfkplnmhlpabaaa
set_option linter.unusedVariables false

theorem least_nat {Q : Nat → Prop} (h : ∃ m, Q m) : ∃ m, Q m ∧ ∀ j, j < m → ¬ Q j := by
  obtain ⟨m, hm⟩ := h
  induction m using Nat.strongRecOn with
  | ind m ih =>
    by_cases h1 : ∃ j, j < m ∧ Q j
    · obtain ⟨j, hj, hq⟩ := h1
      exact ih j hj hq
    · exact ⟨m, hm, fun j hj hq => h1 ⟨j, hj, hq⟩⟩
open Classical in
/-- A growing family of sets of states that is determined by its steps stands still from n - 1 on. -/
theorem stab {n : Nat} {F : Nat → Nat → Prop} (h0 : ∃ x, x < n ∧ F 0 x) (hm : ∀ k x, F k x → F (k + 1) x) (hd : ∀ k, (∀ x, x < n → (F (k + 1) x → F k x)) → ∀ x, x < n → (F (k + 2) x → F (k + 1) x)) :
    ∀ k x, x < n → F k x → F (n - 1) x := by
  have mono : ∀ j k x, j ≤ k → F j x → F k x := by
    intro j k x hjk h
    induction hjk with
    | refl => exact h
    | step _ ih => exact hm _ _ ih
  have key : ∀ k, (∃ k0, k0 < k ∧ ∀ x, x < n → (F (k0 + 1) x → F k0 x)) ∨ k + 1 ≤ cntF n (fun x => decide (F k x)) := by
    intro k
    induction k with
    | zero =>
      right
      obtain ⟨x, hx, hF⟩ := h0
      unfold cntF
      exact List.length_pos_of_mem (List.mem_filter.2 ⟨List.mem_range.2 hx, decide_eq_true hF⟩)
    | succ k ih =>
      rcases ih with ⟨k0, h1, h2⟩ | ih
      · exact .inl ⟨k0, by omega, h2⟩
      · by_cases hs : ∀ x, x < n → (F (k + 1) x → F k x)
        · exact .inl ⟨k, by omega, hs⟩
        · right
          have hs' : ∃ x, x < n ∧ F (k + 1) x ∧ ¬ F k x := by
            refine byContradiction fun hno => hs fun x hx h1 => byContradiction fun h2 => hno ⟨x, hx, h1, h2⟩
          obtain ⟨x, hx, h1, h2⟩ := hs'
          have : cntF n (fun x => decide (F k x)) < cntF n (fun x => decide (F (k + 1) x)) := by
            unfold cntF
            refine filter_less _ (fun y _ hy => ?_) ⟨x, List.mem_range.2 hx, ?_⟩
            · exact decide_eq_true (hm k y (of_decide_eq_true hy))
            · rw [decide_eq_false h2, decide_eq_true h1]; decide
          omega
  rcases key n with ⟨k0, h1, h2⟩ | h1
  · have still : ∀ j, (∀ x, x < n → (F (k0 + j + 1) x → F (k0 + j) x)) := by
      intro j
      induction j with
      | zero => exact h2
      | succ j ih => exact hd (k0 + j) ih
    have down : ∀ j x, x < n → F (k0 + j) x → F k0 x := by
      intro j
      induction j with
      | zero => intro x _ h; exact h
      | succ j ih => intro x hx h; exact ih x hx (still j x hx h)
    intro k x hx h
    rcases Nat.le_total k k0 with h3 | h3
    · exact mono k (n - 1) x (by omega) h
    · exact mono k0 (n - 1) x (by omega) (down (k - k0) x hx (by rw [show k0 + (k - k0) = k by omega]; exact h))
  · have := cntF_le n (fun x => decide (F n x)); omega
section
variable {L : Int} {n : Nat} {es : List E3}
theorem Pth.end_nat (h : ∀ e ∈ es, okE L (n : Int) e = true) {s : Nat} (hs : s < n) {k : Nat} {x : Int} (hp : Pth es (s : Int) k x) : ∃ y : Nat, y < n ∧ x = (y : Int) := by
  cases hp with
  | nil => exact ⟨s, hs, rfl⟩
  | step h1 he =>
    obtain ⟨a1, a2, a3, a4⟩ := okE_st (h _ he)
    exact ⟨_, a2, a4⟩
theorem Pth.split {s x : Int} : ∀ {j k : Nat}, Pth es s (j + k) x → ∃ y, Pth es s j y ∧ Pth es y k x
  | j, 0, h => ⟨x, h, .nil⟩
  | j, k + 1, h => by
    cases h with
    | step h1 he =>
      obtain ⟨y, a, b⟩ := Pth.split (j := j) (k := k) h1
      exact ⟨y, a, .step b he⟩
/-- Short paths. -/
theorem short_path (h : ∀ e ∈ es, okE L (n : Int) e = true) (hc : ∀ s t, s < n → t < n → Rc es (s : Int) (t : Int)) {s t : Nat} (hs : s < n) (ht : t < n) : ∃ j, j ≤ n - 1 ∧ Pth es (s : Int) j (t : Int) := by
  obtain ⟨k, hk⟩ := hc s t hs ht
  exact stab (n := n) (F := fun k x => ∃ j, j ≤ k ∧ Pth es (s : Int) j (x : Int)) ⟨s, hs, 0, Nat.le_refl _, .nil⟩ (fun k x ⟨j, h1, h2⟩ => ⟨j, by omega, h2⟩)
    (fun k hst x hx ⟨j, h1, h2⟩ => by
      cases j with
      | zero => exact ⟨0, by omega, h2⟩
      | succ j =>
        generalize hxx : (x : Int) = xx at h2
        cases h2 with
        | @step _ e h3 he =>
          obtain ⟨a1, a2, a3, a4⟩ := okE_st (h _ he)
          rw [a3] at h3
          obtain ⟨j', h4, h5⟩ := hst e.1.toNat a1 ⟨j, by omega, h3⟩
          refine ⟨j' + 1, by omega, ?_⟩
          exact .step (by rw [a3]; exact h5) he) k t ht ⟨k, Nat.le_refl _, hk⟩
theorem short_cycle (h : ∀ e ∈ es, okE L (n : Int) e = true) (hc : ∀ s t, s < n → t < n → Rc es (s : Int) (t : Int)) (h0 : es ≠ []) {s : Nat} (hs : s < n) : ∃ g, 1 ≤ g ∧ g ≤ n ∧ Pth es (s : Int) g (s : Int) := by
  obtain ⟨e, he, h1⟩ := out_edge h hc h0 hs
  obtain ⟨a1, a2, a3, a4⟩ := okE_st (h e he)
  obtain ⟨j, hj, hp⟩ := short_path h hc a2 hs
  refine ⟨j + 1, by omega, by omega, ?_⟩
  rw [← h1]
  rw [← h1] at hp
  exact Pth.front he (by rw [a4]; exact hp)
theorem Pth.rep {s : Int} {g : Nat} (hg : Pth es s g s) : ∀ u : Nat, Pth es s (u * g) s
  | 0 => by rw [Nat.zero_mul]; exact .nil
  | u + 1 => by rw [Nat.succ_mul]; exact (Pth.rep hg u).trans hg
theorem in_path (h : ∀ e ∈ es, okE L (n : Int) e = true) (hc : ∀ s t, s < n → t < n → Rc es (s : Int) (t : Int)) (h0 : es ≠ []) {s : Nat} (hs : s < n) : ∀ r : Nat, ∃ y : Nat, y < n ∧ Pth es (y : Int) r (s : Int) := by
  intro r
  obtain ⟨g, g1, g2, hg⟩ := short_cycle h hc h0 hs
  have h1 : Pth es (s : Int) ((r * g - r) + r) (s : Int) := by
    rw [show r * g - r + r = r * g by have : r * 1 ≤ r * g := Nat.mul_le_mul_left r g1; omega]
    exact hg.rep r
  obtain ⟨y, a, b⟩ := Pth.split h1
  obtain ⟨z, hz, rfl⟩ := a.end_nat h hs
  exact ⟨z, hz, b⟩
/-- A state that is reached by a multiple of the period is reached by a multiple of the length of a closed path. -/
theorem reach_mult (h : ∀ e ∈ es, okE L (n : Int) e = true) (hc : ∀ s t, s < n → t < n → Rc es (s : Int) (t : Int)) {s : Nat} (hs : s < n) {g : Nat} (hg1 : 1 ≤ g) (hg : Pth es (s : Int) g (s : Int)) {x : Int} {l : Nat} (hl : Pth es (s : Int) l x) (hp : perN es n ∣ l) :
    ∃ k, Pth es (s : Int) (k * g) x := by
  obtain ⟨m0, ⟨hm1, h0, hh0, hmod⟩, hleast⟩ := least_nat (Q := fun m => 1 ≤ m ∧ ∃ h, Pth es (s : Int) h (s : Int) ∧ h % g = m % g) ⟨g, hg1, 0, .nil, by simp⟩
  have hdiv : ∀ c, Pth es (s : Int) c (s : Int) → m0 ∣ c := by
    intro c hcp
    by_cases hr : c % m0 = 0
    · exact Nat.dvd_of_mod_eq_zero hr
    · refine absurd ⟨by omega, c + (c / m0) * ((g - 1) * h0), hcp.trans (by rw [← Nat.mul_assoc]; exact Pth.rep hh0 _), ?_⟩ (hleast (c % m0) (Nat.mod_lt _ (by omega)))
      -- the sum has the rest's residue
      have e1 : ((g - 1) * h0) % g = ((g - 1) * m0) % g := by rw [Nat.mul_mod, hmod, ← Nat.mul_mod]
      have e2 : (c + (c / m0) * ((g - 1) * h0)) % g = (c + (c / m0) * ((g - 1) * m0)) % g := by
        rw [Nat.add_mod, Nat.mul_mod (c / m0), e1, ← Nat.mul_mod, ← Nat.add_mod]
      rw [e2]
      have e3 : c + (c / m0) * ((g - 1) * m0) = c % m0 + g * ((c / m0) * m0) := by
        have h1 : c = m0 * (c / m0) + c % m0 := (Nat.div_add_mod c m0).symm
        obtain ⟨q, hq⟩ : ∃ q, c / m0 = q := ⟨_, rfl⟩
        obtain ⟨r, hr2⟩ : ∃ r, c % m0 = r := ⟨_, rfl⟩
        rw [hq, hr2] at h1
        rw [hq, hr2, h1]
        obtain ⟨g', rfl⟩ : ∃ g', g = g' + 1 := ⟨g - 1, by omega⟩
        rw [Nat.add_sub_cancel, Nat.add_mul, Nat.one_mul, Nat.mul_comm m0 q, Nat.mul_left_comm q g' m0]
        omega
      rw [e3, Nat.add_mul_mod_self_left]
  have hper : m0 ∣ perN es n := by
    have hn0 : 0 < n := by omega
    refine per_most h hc (lenF_pot h hc) (fun k hk => ?_)
    obtain ⟨a, ha⟩ := hc s 0 hs hn0
    obtain ⟨b, hb⟩ := hc 0 s hn0 hs
    have d1 := hdiv _ ((ha.trans (show Pth es ((0 : Nat) : Int) k ((0 : Nat) : Int) from hk)).trans hb)
    have d2 := hdiv _ (ha.trans hb)
    have d3 := Nat.dvd_sub d1 d2
    rwa [show a + k + b - (a + b) = k by omega] at d3
  obtain ⟨v, hv⟩ := Nat.dvd_trans hper hp
  refine ⟨(v * ((g - 1) * h0) + l) / g, ?_⟩
  have hd : g ∣ v * ((g - 1) * h0) + l := by
    refine Nat.dvd_of_mod_eq_zero ?_
    have e1 : ((g - 1) * h0) % g = ((g - 1) * m0) % g := by rw [Nat.mul_mod, hmod, ← Nat.mul_mod]
    rw [Nat.add_mod, Nat.mul_mod v, e1, ← Nat.mul_mod, ← Nat.add_mod, hv]
    obtain ⟨g', rfl⟩ : ∃ g', g = g' + 1 := ⟨g - 1, by omega⟩
    rw [Nat.add_sub_cancel, show v * (g' * m0) + m0 * v = (g' + 1) * (m0 * v) by rw [Nat.add_mul, Nat.one_mul, Nat.mul_left_comm v g' m0, Nat.mul_comm v m0]]
    exact Nat.mul_mod_right _ _
  rw [Nat.div_mul_cancel hd]
  exact Pth.trans (by rw [← Nat.mul_assoc]; exact Pth.rep hh0 _) hl
/-- Every multiple of the period from n (n - 1) on is the length of a closed path. -/
theorem cycles_all (h : ∀ e ∈ es, okE L (n : Int) e = true) (hc : ∀ s t, s < n → t < n → Rc es (s : Int) (t : Int)) (h0 : es ≠ []) {s : Nat} (hs : s < n) {m : Nat} (hm : n * (n - 1) ≤ m) (hp : perN es n ∣ m) : Pth es (s : Int) m (s : Int) := by
  obtain ⟨g, g1, g2, hg⟩ := short_cycle h hc h0 hs
  have hcg : (n - 1) * g ≤ m := Nat.le_trans (by rw [Nat.mul_comm n]; exact Nat.mul_le_mul_left _ g2) hm
  obtain ⟨y, hy, hr⟩ := in_path h hc h0 hs (m - (n - 1) * g)
  obtain ⟨l, hl⟩ := hc s y hs hy
  have pg : perN es n ∣ g := per_closed hg
  have p1 : perN es n ∣ l + (m - (n - 1) * g) := per_closed (hl.trans hr)
  have p2 : perN es n ∣ m - (n - 1) * g := Nat.dvd_sub hp (Nat.dvd_trans pg (Nat.dvd_mul_left _ _))
  have p3 : perN es n ∣ l := by
    have := Nat.dvd_sub p1 p2
    rwa [Nat.add_sub_cancel] at this
  obtain ⟨k, hk⟩ := reach_mult h hc hs g1 hg hl p3
  have hst := stab (n := n) (F := fun k x => Pth es (s : Int) (k * g) (x : Int)) ⟨s, hs, by rw [Nat.zero_mul]; exact .nil⟩
    (fun k x hx => by rw [Nat.succ_mul, Nat.add_comm]; exact hg.trans hx)
    (fun k hst x hx hx2 => by
      rw [Nat.succ_mul] at hx2
      obtain ⟨z, a, b⟩ := Pth.split hx2
      obtain ⟨z', hz', rfl⟩ := a.end_nat h hs
      rw [Nat.succ_mul]
      exact (hst z' hz' a).trans b) k y hy hk
  have := hst.trans hr
  rwa [show (n - 1) * g + (m - (n - 1) * g) = m by omega] at this
end
end Go.Proofs.Ytfkplnmhlpabaaa
