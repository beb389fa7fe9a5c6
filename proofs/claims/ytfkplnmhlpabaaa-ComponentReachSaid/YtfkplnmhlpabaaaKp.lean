/- Plain facts on the classes of an irreducible graph. No condition. -/
import Derived.Test.YtfkplnmhlpabaaaKl
namespace Go.Proofs.Ytfkplnmhlpabaaa
set_option linter.unusedVariables false
section
variable {L : Int} {n : Nat} {es : List E3}
theorem Rc.first {s x : Int} (h : Rc es s x) (hne : s ≠ x) : ∃ e ∈ es, e.1 = s := by
  obtain ⟨k, h⟩ := h
  induction h with
  | nil => exact absurd rfl hne
  | @step k e h he ih =>
    by_cases h1 : s = e.1
    · exact ⟨e, he, h1.symm⟩
    · exact ih h1
theorem out_edge (h : ∀ e ∈ es, okE L (n : Int) e = true) (hc : ∀ s t, s < n → t < n → Rc es (s : Int) (t : Int)) (h0 : es ≠ []) {t : Nat} (ht : t < n) : ∃ e ∈ es, e.1 = (t : Int) := by
  obtain ⟨e, he⟩ : ∃ e, e ∈ es := by
    cases es with
    | nil => exact absurd rfl h0
    | cons e es => exact ⟨e, List.mem_cons_self⟩
  obtain ⟨a1, a2, a3, a4⟩ := okE_st (h e he)
  by_cases h1 : (t : Int) = e.1
  · exact ⟨e, he, h1.symm⟩
  · have := hc t e.1.toNat ht a1
    rw [← a3] at this
    exact this.first h1
theorem long_path (h : ∀ e ∈ es, okE L (n : Int) e = true) (hc : ∀ s t, s < n → t < n → Rc es (s : Int) (t : Int)) (h0 : es ≠ []) {s : Nat} (hs : s < n) : ∀ k : Nat, ∃ x : Nat, x < n ∧ Pth es (s : Int) k (x : Int)
  | 0 => ⟨s, hs, .nil⟩
  | k + 1 => by
    obtain ⟨x, hx, hp⟩ := long_path h hc h0 hs k
    obtain ⟨e, he, h1⟩ := out_edge h hc h0 hx
    obtain ⟨a1, a2, a3, a4⟩ := okE_st (h e he)
    refine ⟨e.2.2.toNat, a2, ?_⟩
    rw [← a4]
    exact .step (by rw [h1]; exact hp) he
theorem cls_zero (h : ∀ e ∈ es, okE L (n : Int) e = true) (hn : 0 < n) : clsF es n 0 = 0 := by unfold clsF; rw [lenF_zero h hn]; simp
theorem cls_path (h : ∀ e ∈ es, okE L (n : Int) e = true) (hn : 0 < n) {k : Nat} {x : Nat} (hp : Pth es 0 k (x : Int)) : clsF es n x = (k : Int) % ((perN es n : Nat) : Int) := by
  have h1 := perF_path (d := lenF es n 0) hp
  rw [Int.toNat_natCast, show (0 : Int).toNat = 0 from rfl, lenF_zero h hn] at h1
  unfold clsF
  symm
  refine (Int.emod_eq_emod_iff_emod_sub_eq_zero).2 ?_
  refine Int.emod_eq_zero_of_dvd ?_
  rwa [Int.zero_add] at h1
theorem cls_edge {e : E3} (he : e ∈ es) : clsF es n e.2.2.toNat = (clsF es n e.1.toNat + 1) % ((perN es n : Nat) : Int) := by
  obtain ⟨z, hz⟩ := perF_dvd (d := lenF es n 0) he
  have hz' : lenF es n 0 e.1.toNat + 1 - lenF es n 0 e.2.2.toNat = ((perN es n : Nat) : Int) * z := hz
  unfold clsF
  rw [Int.emod_add_emod]
  symm
  refine (Int.emod_eq_emod_iff_emod_sub_eq_zero).2 ?_
  exact Int.emod_eq_zero_of_dvd ⟨z, hz'⟩
theorem cls_all (h : ∀ e ∈ es, okE L (n : Int) e = true) (hc : ∀ s t, s < n → t < n → Rc es (s : Int) (t : Int)) (h0 : es ≠ []) (hn : 0 < n) {c : Nat} (hcP : c < perN es n) : ∃ t, t < n ∧ clsF es n t = (c : Int) := by
  obtain ⟨x, hx, hp⟩ := long_path h hc h0 hn c
  refine ⟨x, hx, ?_⟩
  rw [cls_path h hn hp]
  exact Int.emod_eq_of_lt (by omega) (by omega)
end
end Go.Proofs.Ytfkplnmhlpabaaa
