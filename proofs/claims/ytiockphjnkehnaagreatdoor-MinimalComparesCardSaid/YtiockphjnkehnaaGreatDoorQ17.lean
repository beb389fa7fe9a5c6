/- Plain facts on graphs of sets: they are valid and deterministic, their edges are the steps. No condition. Plain facts on the graph of sets of a graph of sets, and of a deterministic graph. No condition. Plain facts on the graph of sets of a deterministic graph, from one state on; From at a graph of sets and at one state. No condition. -/
import Derived.Test.YtiockphjnkehnaaGreatDoorQ14
import Derived.Test.YtiockphjnkehnaaGreatDoorQ05
import Derived.Laws.IdiomCopy
import Derived.Lib.LazyBuf
import Derived.Test.YtiockphjnkehnaaGreatDoorQ08
import Derived.Test.YtiockphjnkehnaaGreatDoorQ16

namespace Go.Proofs.YtiockphjnkehnaaGreatDoor
set_option linter.unusedVariables false

theorem mem_edsN {es : List E3} {sets : List Nat} {i c : Nat} {e : E3} (h : e ∈ edsN es sets i c) : ∃ l : Nat, l < c ∧ stN es (sets.getD i 0) l ≠ 0 ∧ e = ((i : Int), (l : Int), ((sets.idxOf (stN es (sets.getD i 0) l) : Nat) : Int)) := by
  unfold edsN at h
  rw [List.mem_filterMap] at h
  obtain ⟨l, hl, h⟩ := h
  unfold edN at h
  split at h
  · cases h
  · rename_i h0
    injection h with h
    exact ⟨l, List.mem_range.1 hl, h0, h.symm⟩
theorem mem_allN {es : List E3} {La : Nat} {sets : List Nat} {i : Nat} {e : E3} (h : e ∈ allN es La sets i) : ∃ j l : Nat, j < i ∧ l < La ∧ stN es (sets.getD j 0) l ≠ 0 ∧ e = ((j : Int), (l : Int), ((sets.idxOf (stN es (sets.getD j 0) l) : Nat) : Int)) := by
  unfold allN at h
  rw [List.mem_flatMap] at h
  obtain ⟨j, hj, h⟩ := h
  obtain ⟨l, hl, h0, h1⟩ := mem_edsN h
  exact ⟨j, l, List.mem_range.1 hj, hl, h0, h1⟩
def ltFL (a b : E3) : Prop := a.1 < b.1 ∨ (a.1 = b.1 ∧ a.2.1 < b.2.1)
theorem edsN_asc (es : List E3) (sets : List Nat) (i : Nat) : ∀ c, (edsN es sets i c).Pairwise ltFL
  | 0 => by unfold edsN; simp
  | c + 1 => by
    rw [edsN_succ, List.pairwise_append]
    refine ⟨edsN_asc es sets i c, ?_, fun a ha b hb => ?_⟩
    · cases edN es sets i c <;> simp
    · obtain ⟨l, hl, -, rfl⟩ := mem_edsN ha
      rw [Option.mem_toList] at hb
      unfold edN at hb
      split at hb
      · cases hb
      · injection hb with hb
        subst hb
        exact .inr ⟨rfl, by show (l : Int) < (c : Int); omega⟩
theorem allN_asc (es : List E3) (La : Nat) (sets : List Nat) : ∀ i, (allN es La sets i).Pairwise ltFL
  | 0 => by unfold allN; simp
  | i + 1 => by
    rw [allN_succ, List.pairwise_append]
    refine ⟨allN_asc es La sets i, edsN_asc es sets i La, fun a ha b hb => ?_⟩
    obtain ⟨j, l, hj, -, -, rfl⟩ := mem_allN ha
    obtain ⟨l2, -, -, rfl⟩ := mem_edsN hb
    exact .inl (by show (j : Int) < (i : Int); omega)
theorem ltFL_ltE {a b : E3} (h : ltFL a b) : ltE a b = true := by
  rw [ltE_iff]
  unfold ltFL at h
  omega
theorem detE_asc : ∀ {l : List E3}, l.Pairwise ltFL → detE l = true
  | [], _ => rfl
  | [_], _ => rfl
  | a :: b :: r, h => by
    rw [List.pairwise_cons] at h
    have h1 : ltFL a b := h.1 b (by simp)
    have h2 : (a.1 == b.1 && a.2.1 == b.2.1) = false := by
      unfold ltFL at h1
      rw [Bool.and_eq_false_iff, beq_eq_false_iff_ne, beq_eq_false_iff_ne]
      omega
    unfold detE
    rw [h2, detE_asc h.2]; rfl
section
variable {es : List E3} {La S : Nat} {b : Bs}
theorem ResN.vg (h : ResN es La S b) (h1 : 1 ≤ La) (h2 : La ≤ 256) : VG (La : Int) ((b.1.length : Nat) : Int) b.2 := by
  refine ⟨by omega, by omega, by omega, by have := h.n; omega, h.m, fun e he => ?_, ?_⟩
  · rw [h.ed] at he
    obtain ⟨j, l, hj, hl, h0, rfl⟩ := mem_allN he
    rw [okE_iff]
    have hx : stN es (b.1.getD j 0) l ∈ b.1 := (h.cl j l hj hl).resolve_left h0
    have hi := List.idxOf_lt_length_iff.2 hx
    dsimp only
    omega
  · rw [h.ed]
    exact (allN_asc es La b.1 _).imp (fun h => ltFL_ltE h)
theorem ResN.det (h : ResN es La S b) : detE b.2 = true := by
  rw [h.ed]
  exact detE_asc (allN_asc es La b.1 _)
theorem getD_idx {l : List Nat} {T : Nat} (h : T ∈ l) : l[l.idxOf T]? = some T := by
  have hi := List.idxOf_lt_length_iff.2 h
  rw [List.getElem?_eq_getElem hi, List.getElem_idxOf]
theorem ResN.edge (h : ResN es La S b) {e : E3} (he : e ∈ b.2) : ∃ j l T : Nat, j < b.1.length ∧ l < La ∧ b.1[j]? = some T ∧ e.1 = (j : Int) ∧ e.2.1 = (l : Int) ∧ stN es T l ≠ 0 ∧ ∃ t : Nat, e.2.2 = (t : Int) ∧ b.1[t]? = some (stN es T l) := by
  rw [h.ed] at he
  obtain ⟨j, l, hj, hl, h0, rfl⟩ := mem_allN he
  have hx : stN es (b.1.getD j 0) l ∈ b.1 := (h.cl j l hj hl).resolve_left h0
  obtain ⟨T, hT⟩ : ∃ T, b.1[j]? = some T := ⟨_, List.getElem?_eq_getElem hj⟩
  have hg : b.1.getD j 0 = T := by rw [List.getD_eq_getElem?_getD, hT]; rfl
  rw [hg] at h0 hx
  rw [hg]
  exact ⟨j, l, T, hj, hl, hT, rfl, rfl, h0, _, rfl, getD_idx hx⟩
end
theorem memN_sg {n S : Nat} (h : ∀ i, S.testBit i = true → i < n) : SG (n : Int) (memN S) :=
  ⟨fun x hx => by obtain ⟨i, rfl, -, h2⟩ := mems_mem.1 hx; have := h i h2; omega, memN_asc S⟩
theorem stepR_memN {es : List E3} {La n S l : Nat} (hvg : VG (La : Int) (n : Int) es) (hS : S < 18446744073709551616) (hb : ∀ i, S.testBit i = true → i < n) (hl : l < La) : stepR (La : Int) (n : Int) es (memN S) (l : Int) = (memN (stN es S l), 0) := by
  have hn : n ≤ 64 := by have := hvg.s2; omega
  rw [stepR_good hvg.chk (memN_sg hb).chk ⟨by omega, by omega⟩, Int.toNat_natCast]
  congr 1
  refine asc_ext (mems_asc _ _) (memN_asc _) (fun x => ?_)
  rw [mems_mem]
  have hx : ∀ t : Nat, stepF es (memN S) (l : Int) t = true ↔ t < 64 ∧ (stN es S l).testBit t = true := fun t => by
    rw [stN_bit]
    unfold stepF
    rw [Bool.and_eq_true, decide_eq_true_iff, List.any_eq_true, List.any_eq_true]
    constructor
    · rintro ⟨e, he, h⟩
      simp only [Bool.and_eq_true, beq_iff_eq, decide_eq_true_iff] at h
      have h3 := okE_iff.1 (hvg.ok e he)
      obtain ⟨i, hi⟩ : ∃ i : Nat, e.1 = (i : Int) := ⟨e.1.toNat, by omega⟩
      have h4 : S.testBit i = true := (memN_mem hS).1 (by rw [← hi]; exact h.1.1)
      refine ⟨by omega, by omega, e, he, ?_⟩
      simp only [Bool.and_eq_true, beq_iff_eq, decide_eq_true_iff]
      exact ⟨⟨⟨⟨by omega, by omega⟩, by rw [hi, Int.toNat_natCast]; exact h4⟩, h.1.2⟩, h.2⟩
    · rintro ⟨h1, -, e, he, h⟩
      simp only [Bool.and_eq_true, beq_iff_eq, decide_eq_true_iff] at h
      refine ⟨e, he, ?_⟩
      simp only [Bool.and_eq_true, beq_iff_eq, decide_eq_true_iff]
      refine ⟨⟨?_, h.1.2⟩, h.2⟩
      have h4 := (memN_mem (s := e.1.toNat) hS).2 h.1.1.2
      rwa [show ((e.1.toNat : Nat) : Int) = e.1 by omega] at h4
  constructor
  · rintro ⟨t, rfl, h1, h2⟩
    exact mems_mem.2 ⟨t, rfl, (hx t).1 h2⟩
  · intro h
    obtain ⟨t, rfl, h1, h2⟩ := mems_mem.1 h
    exact ⟨t, rfl, stN_small hvg.ok t h2, (hx t).2 ⟨h1, h2⟩⟩
end Go.Proofs.YtiockphjnkehnaaGreatDoor

namespace Go.Proofs.YtiockphjnkehnaaGreatDoor
set_option linter.unusedVariables false

theorem nodup_le {α : Type} [DecidableEq α] : ∀ {l m : List α}, l.Nodup → (∀ x ∈ l, x ∈ m) → l.length ≤ m.length
  | [], _, _, _ => Nat.zero_le _
  | a :: l, m, h, hs => by
    have ha := hs a (by simp)
    rw [List.nodup_cons] at h
    have h1 := nodup_le (l := l) (m := m.erase a) h.2 (fun x hx => (List.mem_erase_of_ne (fun e => by subst e; exact h.1 hx)).2 (hs x (by simp [hx])))
    rw [List.length_erase_of_mem ha] at h1
    have := List.length_pos_of_mem ha
    simp only [List.length_cons]; omega
def sg1 (k : Nat) : List Nat := (List.range k).map (2 ^ ·)
theorem sg1_len (k : Nat) : (sg1 k).length = k := by unfold sg1; rw [List.length_map, List.length_range]
theorem pow_inj2 {i j : Nat} (h : 2 ^ i = 2 ^ j) : i = j := by
  have h1 : (2 ^ i).testBit i = true := by rw [Nat.testBit_two_pow]; simp
  rw [h, Nat.testBit_two_pow] at h1
  exact (decide_eq_true_iff.1 h1).symm
theorem sg1_mem {k t : Nat} : 2 ^ t ∈ sg1 k ↔ t < k := by
  unfold sg1
  rw [List.mem_map]
  constructor
  · rintro ⟨x, hx, he⟩
    rw [← pow_inj2 he]; exact List.mem_range.1 hx
  · intro h; exact ⟨t, List.mem_range.2 h, rfl⟩
theorem idx_nd {l : List Nat} (h : l.Nodup) {i x : Nat} (hx : l[i]? = some x) : l.idxOf x = i :=
  (List.getElem?_inj (List.idxOf_lt_length_iff.2 (List.mem_of_getElem? hx)) h).1 ((getD_idx (List.mem_of_getElem? hx)).trans hx.symm)
section
variable {es : List E3} {La : Nat} {F : List Nat}
end
end Go.Proofs.YtiockphjnkehnaaGreatDoor

namespace Go.Proofs.YtiockphjnkehnaaGreatDoor
set_option linter.unusedVariables false

theorem detE_pw2 : ∀ {es : List E3}, es.Pairwise (fun a b => ltE a b = true) → (detE es = true ↔ es.Pairwise (fun a b => ¬ (a.1 = b.1 ∧ a.2.1 = b.2.1)))
  | [], _ => by simp [detE]
  | [a], _ => by simp [detE]
  | a :: b :: r, h => by
    obtain ⟨h1, h2⟩ := List.pairwise_cons.1 h
    obtain ⟨h3, h4⟩ := List.pairwise_cons.1 h2
    have ih := detE_pw2 h2
    rw [detE, Bool.and_eq_true, ih, List.pairwise_cons (a := a) (l := b :: r)]
    refine and_congr_left (fun hp => ?_)
    simp only [Bool.not_eq_true', Bool.and_eq_false_imp, beq_iff_eq, beq_eq_false_iff_ne]
    constructor
    · intro hab x hx hxx
      rcases List.mem_cons.1 hx with rfl | hx
      · exact hab hxx.1 hxx.2
      · have k1 := (ltE_iff _ _).1 (h1 b List.mem_cons_self)
        have k2 := (ltE_iff _ _).1 (h3 x hx)
        have e1 : a.1 = b.1 := by omega
        exact hab e1 (by omega)
    · intro hab h1 h2
      exact hab b List.mem_cons_self ⟨h1, h2⟩
section
variable {es : List E3} {La n : Nat}
theorem det_uq (hvg : VG (La : Int) (n : Int) es) (hd : detE es = true) {e f : E3} (he : e ∈ es) (hf : f ∈ es) (h1 : e.1 = f.1) (h2 : e.2.1 = f.2.1) : e = f := by
  have hp := (detE_pw2 hvg.asc).1 hd
  rw [List.pairwise_iff_getElem] at hp
  obtain ⟨i, hi, rfl⟩ := List.mem_iff_getElem.1 he
  obtain ⟨j, hj, rfl⟩ := List.mem_iff_getElem.1 hf
  rcases Nat.lt_trichotomy i j with h | h | h
  · exact absurd ⟨h1, h2⟩ (hp i j hi hj h)
  · subst h; rfl
  · exact absurd ⟨h1.symm, h2.symm⟩ (hp j i hj hi h)
theorem stN_one {t l u : Nat} : (stN es (2 ^ t) l).testBit u = true → ∃ e ∈ es, e.1 = (t : Int) ∧ e.2.1 = (l : Int) ∧ e.2.2 = (u : Int) := by
  intro h
  rw [stN_bit, Bool.and_eq_true, List.any_eq_true] at h
  obtain ⟨-, e, he, h⟩ := h
  simp only [Bool.and_eq_true, beq_iff_eq, decide_eq_true_iff, Nat.testBit_two_pow] at h
  exact ⟨e, he, by omega, h.1.2, h.2⟩
theorem ne_bit {x : Nat} (h : x ≠ 0) : ∃ u, x.testBit u = true := by
  by_cases hx : ∃ u, x.testBit u = true
  · exact hx
  · refine absurd (Nat.eq_of_testBit_eq fun u => ?_) h
    rw [Nat.zero_testBit]
    cases hb : x.testBit u
    · rfl
    · exact absurd ⟨u, hb⟩ hx
theorem st_det (hvg : VG (La : Int) (n : Int) es) (hd : detE es = true) (t l : Nat) (h : stN es (2 ^ t) l ≠ 0) : ∃ u, u < n ∧ stN es (2 ^ t) l = 2 ^ u := by
  obtain ⟨u, hu⟩ := ne_bit h
  refine ⟨u, stN_small hvg.ok u hu, Nat.eq_of_testBit_eq fun v => ?_⟩
  rw [Nat.testBit_two_pow]
  by_cases huv : u = v
  · rw [← huv, hu]; simp
  · rw [decide_eq_false huv]
    cases hb : (stN es (2 ^ t) l).testBit v
    · rfl
    · obtain ⟨e, he, h1, h2, h3⟩ := stN_one hu
      obtain ⟨f, hf, k1, k2, k3⟩ := stN_one hb
      have hef := det_uq hvg hd he hf (by omega) (by omega)
      subst hef
      omega
def One (n : Nat) (b : Bs) : Prop := ∀ T ∈ b.1, ∃ t, t < n ∧ T = 2 ^ t
theorem One.len {b : Bs} (h : One n b) (hd : b.1.Nodup) : b.1.length ≤ n := by
  have := nodup_le hd (m := sg1 n) (fun x hx => by obtain ⟨t, ht, rfl⟩ := h x hx; exact sg1_mem.2 ht)
  rwa [sg1_len] at this
theorem One.vis {b : Bs} (h : One n b) (hvg : VG (La : Int) (n : Int) es) (hd : detE es = true) {i c : Nat} (hi : i < b.1.length) : One n (visN es i b c) := by
  unfold visN
  split
  · exact h
  · rename_i h0
    have hm : b.1.getD i 0 ∈ b.1 := by
      rw [List.getD_eq_getElem?_getD, List.getElem?_eq_getElem hi]; exact List.getElem_mem _
    obtain ⟨t, -, ht⟩ := h _ hm
    rw [ht] at h0 ⊢
    obtain ⟨u, hu, hst⟩ := st_det hvg hd t c h0
    intro T hT
    dsimp only at hT
    split at hT
    · exact h T hT
    · rcases List.mem_append.1 hT with hT | hT
      · exact h T hT
      · rw [List.mem_singleton] at hT
        exact ⟨u, hu, hT.trans hst⟩
theorem One.row {b : Bs} (h : One n b) (hvg : VG (La : Int) (n : Int) es) (hd : detE es = true) {i : Nat} (hi : i < b.1.length) : ∀ c, One n (rowN es i b c)
  | 0 => h
  | c + 1 => by
    rw [rowN_succ]
    exact (One.row h hvg hd hi c).vis hvg hd (by have := (rowN_len es i b c).1; omega)
theorem edges_le {b : Bs} {i c : Nat} (h : One n b) (hI : InvN es La i c b) (hi : i < b.1.length) : b.2.length ≤ es.length := by
  have hmem : ∀ e ∈ b.2, ∃ j l : Nat, j ≤ i ∧ stN es (b.1.getD j 0) l ≠ 0 ∧ e.1 = (j : Int) ∧ e.2.1 = (l : Int) := by
    intro e he
    rw [hI.ed] at he
    rcases List.mem_append.1 he with he | he
    · obtain ⟨j, l, hj, -, h0, rfl⟩ := mem_allN he
      exact ⟨j, l, by omega, h0, rfl, rfl⟩
    · obtain ⟨l, -, h0, rfl⟩ := mem_edsN he
      exact ⟨i, l, Nat.le_refl _, h0, rfl, rfl⟩
  have hpw : b.2.Pairwise ltFL := by
    rw [hI.ed, List.pairwise_append]
    refine ⟨allN_asc es La b.1 i, edsN_asc es b.1 i c, fun a ha b hb => ?_⟩
    obtain ⟨j, l, hj, -, -, rfl⟩ := mem_allN ha
    obtain ⟨l2, -, -, rfl⟩ := mem_edsN hb
    exact .inl (by show (j : Int) < (i : Int); omega)
  have hat : ∀ j, j ≤ i → b.1[j]? = some (b.1.getD j 0) := fun j hj => by
    rw [List.getD_eq_getElem?_getD, List.getElem?_eq_getElem (by omega)]; rfl
  have hnd : (b.2.map fun e : E3 => (b.1.getD e.1.toNat 0, e.2.1)).Nodup := by
    refine List.pairwise_map.2 (hpw.imp_of_mem fun {x y} hx hy hlt he => ?_)
    obtain ⟨j, l, hj, -, e1, e2⟩ := hmem x hx
    obtain ⟨j2, l2, hj2, -, f1, f2⟩ := hmem y hy
    injection he with k1 k2
    rw [e1, f1, Int.toNat_natCast, Int.toNat_natCast] at k1
    have hjj : j = j2 := (List.getElem?_inj (by omega) hI.nd).1 ((hat j hj).trans (by rw [k1]; exact (hat j2 hj2).symm))
    unfold ltFL at hlt
    omega
  have := nodup_le hnd (m := es.map fun e : E3 => (2 ^ e.1.toNat, e.2.1)) (fun x hx => by
    obtain ⟨e, he, rfl⟩ := List.mem_map.1 hx
    obtain ⟨j, l, hj, h0, e1, e2⟩ := hmem e he
    obtain ⟨t, -, ht⟩ := h _ (List.mem_of_getElem? (hat j hj))
    rw [ht] at h0
    obtain ⟨u, hu⟩ := ne_bit h0
    obtain ⟨f, hf, f1, f2, -⟩ := stN_one hu
    refine List.mem_map.2 ⟨f, hf, ?_⟩
    rw [e1, e2, f1, f2, Int.toNat_natCast, Int.toNat_natCast, ht])
  rwa [List.length_map, List.length_map] at this
theorem det_run (hvg : VG (La : Int) (n : Int) es) (hd : detE es = true) : ∀ (k i : Nat) (b : Bs), InvN es La i 0 b → One n b → i ≤ b.1.length → k + i = 66 → ∃ b', runN es La k i b = some b' ∧ One n b'
  | 0, i, b, hI, h, hi, hk => by
    have := h.len hI.nd
    have := hvg.s2
    omega
  | k + 1, i, b, hI, h, hi, hk => by
    by_cases h1 : i < b.1.length
    · have hr := h.row hvg hd h1 La
      have hI2 := hI.row h1 La
      have hl := (rowN_len es i b La).1
      have h2 : ¬ tooN (rowN es i b La) := by
        have k1 := hr.len hI2.nd
        have k2 := edges_le hr hI2 (by omega)
        have k3 := hvg.s2
        have k4 := hvg.len
        unfold tooN
        omega
      rw [runN_more h1 h2]
      exact det_run hvg hd k (i + 1) _ hI2.next hr (by omega) (by omega)
    · exact ⟨b, runN_end h1, h⟩
theorem det_built (hvg : VG (La : Int) (n : Int) es) (hd : detE es = true) {s : Nat} (hs : s < n) : ∃ b, builtN es La (2 ^ s) = some b ∧ One n b := by
  have h64 : s < 64 := by have := hvg.s2; omega
  have hlt : 2 ^ s < 18446744073709551616 := Nat.pow_lt_pow_right (m := s) (n := 64) (by decide) h64
  exact det_run hvg hd 66 0 _ (InvN.start es La _ (Nat.ne_of_gt (Nat.two_pow_pos _)) hlt) (fun T hT => by rw [List.mem_singleton] at hT; exact ⟨s, hs, hT⟩) (Nat.zero_le _) rfl
theorem ofN_one (s : Nat) : ofN [(s : Int)] = 2 ^ s := by
  unfold ofN
  simp
theorem sg_one {m s : Nat} (h : s < m) : SG (m : Int) [(s : Int)] := ⟨fun x hx => by rw [List.mem_singleton] at hx; omega, by simp⟩
end
end Go.Proofs.YtiockphjnkehnaaGreatDoor
