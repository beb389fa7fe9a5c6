/- Plain facts on the graph of sets of a graph of sets, and of a deterministic graph. No condition. Plain facts on the graph of sets of a deterministic graph, from one state on; From at a graph of sets and at one state. No condition. SubsetAgain: its function value, and the law where little is examined. Conditions: the edges can be read; the library's table reads as its text lays it. -/
import Derived.Test.YtbcbeffoacfpdaaDoorQ20
import Derived.Test.YtbcbeffoacfpdaaDoorQ23

namespace Go.Proofs.YtbcbeffoacfpdaaDoor
set_option linter.unusedVariables false

theorem nodup_le {α : Type} [DecidableEq α] : ∀ {l m : List α}, l.Nodup → (∀ x ∈ l, x ∈ m) → l.length ≤ m.length
  | [], _, _, _ => Nat.zero_le _
  | a :: l, m, h, hs => by
    have ha := hs a (by simp)
    rw [List.nodup_cons] at h
    have h1 := nodup_le (l := l) (m := m.erase a) h.2 (fun x hx => (List.mem_erase_of_ne (fun e => by subst e; exact h.1 hx)).2 (hs x (by simp [hx])))
    rw [List.length_erase_of_mem ha] at h1
    have := List.length_pos_of_mem ha
    simp only [List.length_cons]; omega
theorem visN_pre (es : List E3) (i : Nat) (b : Bs) (l : Nat) : b.1 <+: (visN es i b l).1 := by
  unfold visN
  split
  · exact List.prefix_rfl
  · dsimp only
    split
    · exact List.prefix_rfl
    · exact List.prefix_append _ _
theorem rowN_pre2 (es : List E3) (i : Nat) (b : Bs) (c : Nat) : ∀ k, (rowN es i b c).1 <+: (rowN es i b (c + k)).1
  | 0 => List.prefix_rfl
  | k + 1 => by rw [← Nat.add_assoc, rowN_succ]; exact (rowN_pre2 es i b c k).trans (visN_pre _ _ _ _)
theorem runN_pre {es : List E3} {La : Nat} : ∀ {k i : Nat} {b b' : Bs}, runN es La k i b = some b' → b.1 <+: b'.1
  | 0, _, _, _, h => by cases h
  | k + 1, i, b, b', h => by
    by_cases h1 : i < b.1.length
    · by_cases h2 : tooN (rowN es i b La)
      · rw [runN_many h1 h2] at h; cases h
      · rw [runN_more h1 h2] at h
        have h3 := rowN_pre2 es i b 0 La
        rw [Nat.zero_add, rowN_zero] at h3
        exact h3.trans (runN_pre h)
    · rw [runN_end h1] at h
      injection h with h
      rw [h]
      exact List.prefix_rfl
/-- The sets of one state: 0, 1, .. -/
def sg1 (k : Nat) : List Nat := (List.range k).map (2 ^ ·)
theorem sg1_len (k : Nat) : (sg1 k).length = k := by unfold sg1; rw [List.length_map, List.length_range]
theorem sg1_at {k i : Nat} (h : i < k) : (sg1 k)[i]? = some (2 ^ i) := by
  unfold sg1; rw [List.getElem?_map, List.getElem?_range h]; rfl
theorem sg1_get {k i : Nat} (h : i < k) : (sg1 k).getD i 0 = 2 ^ i := by rw [List.getD_eq_getElem?_getD, sg1_at h]; rfl
theorem pow_inj2 {i j : Nat} (h : 2 ^ i = 2 ^ j) : i = j := by
  have h1 : (2 ^ i).testBit i = true := by rw [Nat.testBit_two_pow]; simp
  rw [h, Nat.testBit_two_pow] at h1
  exact (decide_eq_true_iff.1 h1).symm
theorem sg1_mem {k t : Nat} : 2 ^ t ∈ sg1 k ↔ t < k := by
  unfold sg1
  rw [List.mem_map]
  constructor
  · rintro ⟨x, hx, he⟩
    rw [← pow_inj2 he]; exact List.mem_range.1 hx
  · intro h; exact ⟨t, List.mem_range.2 h, rfl⟩
theorem sg1_succ (k : Nat) : sg1 (k + 1) = sg1 k ++ [2 ^ k] := by unfold sg1; rw [List.range_succ, List.map_append]; rfl
theorem sg1_nd : ∀ k, (sg1 k).Nodup
  | 0 => by unfold sg1; simp
  | k + 1 => by
    rw [sg1_succ, List.nodup_append]
    refine ⟨sg1_nd k, by simp, fun a ha b hb e => ?_⟩
    rw [List.mem_singleton] at hb
    subst hb
    subst e
    have := sg1_mem.1 ha
    omega
theorem idx_nd {l : List Nat} (h : l.Nodup) {i x : Nat} (hx : l[i]? = some x) : l.idxOf x = i :=
  (List.getElem?_inj (List.idxOf_lt_length_iff.2 (List.mem_of_getElem? hx)) h).1 ((getD_idx (List.mem_of_getElem? hx)).trans hx.symm)
theorem allN_mk {es : List E3} {La : Nat} {F : List Nat} {n i c : Nat} (hi : i < n) (hc : c < La) (h : stN es (F.getD i 0) c ≠ 0) : (((i : Int), (c : Int), ((F.idxOf (stN es (F.getD i 0) c) : Nat) : Int)) : E3) ∈ allN es La F n := by
  unfold allN edsN
  exact List.mem_flatMap.2 ⟨i, List.mem_range.2 hi, List.mem_filterMap.2 ⟨c, List.mem_range.2 hc, by unfold edN; rw [if_neg h]⟩⟩
section
variable {es : List E3} {La : Nat} {F : List Nat}
theorem stAll (hn : F.length ≤ 64) (hcl : ∀ j l, j < F.length → l < La → stN es (F.getD j 0) l = 0 ∨ stN es (F.getD j 0) l ∈ F) {i c : Nat} (hi : i < F.length) (hc : c < La) :
    stN (allN es La F F.length) (2 ^ i) c = if stN es (F.getD i 0) c = 0 then 0 else 2 ^ (F.idxOf (stN es (F.getD i 0) c)) := by
  refine Nat.eq_of_testBit_eq fun t => ?_
  rw [stN_bit]
  have key : ∀ e ∈ allN es La F F.length, (decide (0 ≤ e.1) && decide (e.1 < 64) && (2 ^ i).testBit e.1.toNat && e.2.1 == (c : Int) && e.2.2 == (t : Int)) = true → stN es (F.getD i 0) c ≠ 0 ∧ F.idxOf (stN es (F.getD i 0) c) = t := by
    intro e he h
    obtain ⟨j, l, hj, hl, h0, rfl⟩ := mem_allN he
    simp only [Bool.and_eq_true, beq_iff_eq, decide_eq_true_iff, Int.toNat_natCast, Nat.testBit_two_pow] at h
    obtain ⟨⟨⟨-, h1⟩, h2⟩, h3⟩ := h
    obtain rfl : i = j := h1
    obtain rfl : l = c := by omega
    exact ⟨h0, by omega⟩
  split
  · rename_i h0
    rw [Nat.zero_testBit, Bool.and_eq_false_iff]
    right
    rw [List.any_eq_false]
    intro e he h
    exact (key e he h).1 h0
  · rename_i h0
    rw [Nat.testBit_two_pow, Bool.eq_iff_iff, Bool.and_eq_true, decide_eq_true_iff, List.any_eq_true, decide_eq_true_iff]
    constructor
    · rintro ⟨-, e, he, h⟩
      exact (key e he h).2
    · intro h
      have hx := List.idxOf_lt_length_iff.2 ((hcl i c hi hc).resolve_left h0)
      refine ⟨by omega, _, allN_mk hi hc h0, ?_⟩
      simp only [Bool.and_eq_true, beq_iff_eq, decide_eq_true_iff, Int.toNat_natCast, Nat.testBit_two_pow]
      exact ⟨⟨⟨⟨by omega, by omega⟩, trivial⟩, trivial⟩, by rw [h]⟩
theorem again_vis (hnd : F.Nodup) (hn : F.length ≤ 64) (hcl : ∀ j l, j < F.length → l < La → stN es (F.getD j 0) l = 0 ∨ stN es (F.getD j 0) l ∈ F) {i c k : Nat} {ed : List E3} (hi : i < k) (hk : k ≤ F.length) (hc : c < La) (hpre : (visN es i (F.take k, ed) c).1 <+: F) :
    visN (allN es La F F.length) i (sg1 k, ed) c = (sg1 (visN es i (F.take k, ed) c).1.length, (visN es i (F.take k, ed) c).2) := by
  have hlk : (F.take k).length = k := by rw [List.length_take]; omega
  have hg : (F.take k).getD i 0 = F.getD i 0 := by rw [List.getD_eq_getElem?_getD, List.getElem?_take_of_lt hi, ← List.getD_eq_getElem?_getD]
  have hs : (sg1 k).getD i 0 = 2 ^ i := sg1_get hi
  have hst := stAll (es := es) (La := La) hn hcl (i := i) (c := c) (by omega) hc
  by_cases hT : stN es (F.getD i 0) c = 0
  · rw [if_pos hT] at hst
    rw [visN_none (b := (F.take k, ed)) (by dsimp only; rw [hg]; exact hT), visN_none (b := (sg1 k, ed)) (by dsimp only; rw [hs]; exact hst)]
    dsimp only
    rw [hlk]
  · rw [if_neg hT] at hst
    have h2 : (2 : Nat) ^ (F.idxOf (stN es (F.getD i 0) c)) ≠ 0 := Nat.ne_of_gt (Nat.two_pow_pos _)
    by_cases hm : stN es (F.getD i 0) c ∈ F.take k
    · have ht := List.idxOf_lt_length_iff.2 hm
      have hx := getD_idx hm
      rw [hlk] at ht
      rw [List.getElem?_take_of_lt ht] at hx
      have hix := idx_nd hnd hx
      rw [hix] at hst
      rw [visN_old (b := (F.take k, ed)) (by dsimp only; rw [hg]; exact hT) (by dsimp only; rw [hg]; exact hm), visN_old (b := (sg1 k, ed)) (by dsimp only; rw [hs, hst]; exact Nat.ne_of_gt (Nat.two_pow_pos _)) (by dsimp only; rw [hs, hst]; exact sg1_mem.2 ht)]
      dsimp only
      rw [hlk, hg, hs, hst, idx_nd (sg1_nd k) (sg1_at ht)]
    · rw [visN_new (b := (F.take k, ed)) (by dsimp only; rw [hg]; exact hT) (by dsimp only; rw [hg]; exact hm)] at hpre ⊢
      dsimp only at hpre ⊢
      rw [hg] at hpre ⊢
      have hF : F[k]? = some (stN es (F.getD i 0) c) := by
        obtain ⟨r, hr⟩ := hpre
        have h5 : ((F.take k ++ [stN es (F.getD i 0) c]) ++ r)[k]? = F[k]? := by rw [hr]
        rw [← h5, List.append_assoc, List.getElem?_append_right (by omega), hlk, Nat.sub_self]; rfl
      have hix := idx_nd hnd hF
      rw [hix] at hst
      rw [visN_new (b := (sg1 k, ed)) (by dsimp only; rw [hs, hst]; exact Nat.ne_of_gt (Nat.two_pow_pos _)) (by dsimp only; rw [hs, hst, sg1_mem]; omega)]
      dsimp only
      rw [hs, hst, List.length_append, hlk, sg1_len, ← sg1_succ]; rfl
theorem again_row (hnd : F.Nodup) (hn : F.length ≤ 64) (hcl : ∀ j l, j < F.length → l < La → stN es (F.getD j 0) l = 0 ∨ stN es (F.getD j 0) l ∈ F) {i : Nat} {b : Bs} (hi : i < b.1.length) (hpre : (rowN es i b La).1 <+: F) :
    ∀ c, c ≤ La → rowN (allN es La F F.length) i (sg1 b.1.length, b.2) c = (sg1 (rowN es i b c).1.length, (rowN es i b c).2)
  | 0, _ => rfl
  | c + 1, h => by
    have ih := again_row hnd hn hcl hi hpre c (by omega)
    have hp1 : (rowN es i b c).1 <+: F := by
      have := rowN_pre2 es i b c (La - c)
      rw [show c + (La - c) = La by omega] at this
      exact this.trans hpre
    have hp2 : (rowN es i b (c + 1)).1 <+: F := by
      have := rowN_pre2 es i b (c + 1) (La - (c + 1))
      rw [show c + 1 + (La - (c + 1)) = La by omega] at this
      exact this.trans hpre
    have hl := (rowN_len es i b c).1
    have e1 : rowN es i b c = (F.take (rowN es i b c).1.length, (rowN es i b c).2) := Prod.ext (List.prefix_iff_eq_take.1 hp1) rfl
    rw [rowN_succ, rowN_succ, ih]
    rw [rowN_succ, e1] at hp2
    have := again_vis hnd hn hcl (i := i) (c := c) (k := (rowN es i b c).1.length) (ed := (rowN es i b c).2) (by omega) hp1.length_le (by omega) hp2
    rw [← e1] at this
    exact this
theorem again_run (hnd : F.Nodup) (hn : F.length ≤ 64) (hcl : ∀ j l, j < F.length → l < La → stN es (F.getD j 0) l = 0 ∨ stN es (F.getD j 0) l ∈ F) : ∀ {k i : Nat} {b b' : Bs}, runN es La k i b = some b' → b'.1 = F →
    runN (allN es La F F.length) La k i (sg1 b.1.length, b.2) = some (sg1 F.length, b'.2)
  | 0, _, _, _, h, _ => by cases h
  | k + 1, i, b, b', h, hF => by
    by_cases h1 : i < b.1.length
    · by_cases h2 : tooN (rowN es i b La)
      · rw [runN_many h1 h2] at h; cases h
      · rw [runN_more h1 h2] at h
        have hp := runN_pre h
        rw [hF] at hp
        have hr := again_row hnd hn hcl h1 hp La (Nat.le_refl _)
        have h3 : i < (sg1 b.1.length, b.2).1.length := by dsimp only; rw [sg1_len]; exact h1
        rw [runN_more h3 (by rw [hr]; unfold tooN at h2 ⊢; dsimp only; rw [sg1_len]; exact h2), hr]
        exact again_run hnd hn hcl h hF
    · rw [runN_end h1] at h
      injection h with h
      subst h
      rw [runN_end (by dsimp only; rw [sg1_len]; exact h1), hF]
end
theorem again_built {es : List E3} {La S : Nat} {b : Bs} (h : ResN es La S b) (hb : builtN es La S = some b) : builtN b.2 La 1 = some (sg1 b.1.length, b.2) := by
  have h1 := again_run (F := b.1) h.nd h.n h.cl hb rfl
  rw [← h.ed] at h1
  exact h1
end Go.Proofs.YtbcbeffoacfpdaaDoor

namespace Go.Proofs.YtbcbeffoacfpdaaDoor
set_option linter.unusedVariables false

theorem detE_pw2 : ∀ {es : List E3}, es.Pairwise (fun a b => ltE a b = true) → (detE es = true ↔ es.Pairwise (fun a b => ¬ (a.1 = b.1 ∧ a.2.1 = b.2.1)))
  | [], _ => by simp [detE]
  | [a], _ => by simp [detE]
  | a :: b :: r, h => by
    obtain ⟨h1, h2⟩ := List.pairwise_cons.1 h
    obtain ⟨h3, h4⟩ := List.pairwise_cons.1 h2
    have ih := detE_pw2 h2
    rw [detE, Bool.and_eq_true, ih, List.pairwise_cons (a := a) (l := b :: r)]
    refine and_congr_left (fun hp => ?_)
    simp only [Bool.not_eq_true', Bool.and_eq_false_imp, beq_iff_eq, beq_eq_false_iff_ne]
    constructor
    · intro hab x hx hxx
      rcases List.mem_cons.1 hx with rfl | hx
      · exact hab hxx.1 hxx.2
      · have k1 := (ltE_iff _ _).1 (h1 b List.mem_cons_self)
        have k2 := (ltE_iff _ _).1 (h3 x hx)
        have e1 : a.1 = b.1 := by omega
        exact hab e1 (by omega)
    · intro hab h1 h2
      exact hab b List.mem_cons_self ⟨h1, h2⟩
section
variable {es : List E3} {La n : Nat}
theorem det_uq (hvg : VG (La : Int) (n : Int) es) (hd : detE es = true) {e f : E3} (he : e ∈ es) (hf : f ∈ es) (h1 : e.1 = f.1) (h2 : e.2.1 = f.2.1) : e = f := by
  have hp := (detE_pw2 hvg.asc).1 hd
  rw [List.pairwise_iff_getElem] at hp
  obtain ⟨i, hi, rfl⟩ := List.mem_iff_getElem.1 he
  obtain ⟨j, hj, rfl⟩ := List.mem_iff_getElem.1 hf
  rcases Nat.lt_trichotomy i j with h | h | h
  · exact absurd ⟨h1, h2⟩ (hp i j hi hj h)
  · subst h; rfl
  · exact absurd ⟨h1.symm, h2.symm⟩ (hp j i hj hi h)
/-- A step from one state. -/
theorem stN_one {t l u : Nat} : (stN es (2 ^ t) l).testBit u = true → ∃ e ∈ es, e.1 = (t : Int) ∧ e.2.1 = (l : Int) ∧ e.2.2 = (u : Int) := by
  intro h
  rw [stN_bit, Bool.and_eq_true, List.any_eq_true] at h
  obtain ⟨-, e, he, h⟩ := h
  simp only [Bool.and_eq_true, beq_iff_eq, decide_eq_true_iff, Nat.testBit_two_pow] at h
  exact ⟨e, he, by omega, h.1.2, h.2⟩
theorem ne_bit {x : Nat} (h : x ≠ 0) : ∃ u, x.testBit u = true := by
  by_cases hx : ∃ u, x.testBit u = true
  · exact hx
  · refine absurd (Nat.eq_of_testBit_eq fun u => ?_) h
    rw [Nat.zero_testBit]
    cases hb : x.testBit u
    · rfl
    · exact absurd ⟨u, hb⟩ hx
theorem st_det (hvg : VG (La : Int) (n : Int) es) (hd : detE es = true) (t l : Nat) (h : stN es (2 ^ t) l ≠ 0) : ∃ u, u < n ∧ stN es (2 ^ t) l = 2 ^ u := by
  obtain ⟨u, hu⟩ := ne_bit h
  refine ⟨u, stN_small hvg.ok u hu, Nat.eq_of_testBit_eq fun v => ?_⟩
  rw [Nat.testBit_two_pow]
  by_cases huv : u = v
  · rw [← huv, hu]; simp
  · rw [decide_eq_false huv]
    cases hb : (stN es (2 ^ t) l).testBit v
    · rfl
    · obtain ⟨e, he, h1, h2, h3⟩ := stN_one hu
      obtain ⟨f, hf, k1, k2, k3⟩ := stN_one hb
      have hef := det_uq hvg hd he hf (by omega) (by omega)
      subst hef
      omega
/-- All sets have one state. -/
def One (n : Nat) (b : Bs) : Prop := ∀ T ∈ b.1, ∃ t, t < n ∧ T = 2 ^ t
theorem One.len {b : Bs} (h : One n b) (hd : b.1.Nodup) : b.1.length ≤ n := by
  have := nodup_le hd (m := sg1 n) (fun x hx => by obtain ⟨t, ht, rfl⟩ := h x hx; exact sg1_mem.2 ht)
  rwa [sg1_len] at this
theorem One.vis {b : Bs} (h : One n b) (hvg : VG (La : Int) (n : Int) es) (hd : detE es = true) {i c : Nat} (hi : i < b.1.length) : One n (visN es i b c) := by
  unfold visN
  split
  · exact h
  · rename_i h0
    have hm : b.1.getD i 0 ∈ b.1 := by
      rw [List.getD_eq_getElem?_getD, List.getElem?_eq_getElem hi]; exact List.getElem_mem _
    obtain ⟨t, -, ht⟩ := h _ hm
    rw [ht] at h0 ⊢
    obtain ⟨u, hu, hst⟩ := st_det hvg hd t c h0
    intro T hT
    dsimp only at hT
    split at hT
    · exact h T hT
    · rcases List.mem_append.1 hT with hT | hT
      · exact h T hT
      · rw [List.mem_singleton] at hT
        exact ⟨u, hu, hT.trans hst⟩
theorem One.row {b : Bs} (h : One n b) (hvg : VG (La : Int) (n : Int) es) (hd : detE es = true) {i : Nat} (hi : i < b.1.length) : ∀ c, One n (rowN es i b c)
  | 0 => h
  | c + 1 => by
    rw [rowN_succ]
    exact (One.row h hvg hd hi c).vis hvg hd (by have := (rowN_len es i b c).1; omega)
theorem edges_le {b : Bs} {i c : Nat} (h : One n b) (hI : InvN es La i c b) (hi : i < b.1.length) : b.2.length ≤ es.length := by
  have hmem : ∀ e ∈ b.2, ∃ j l : Nat, j ≤ i ∧ stN es (b.1.getD j 0) l ≠ 0 ∧ e.1 = (j : Int) ∧ e.2.1 = (l : Int) := by
    intro e he
    rw [hI.ed] at he
    rcases List.mem_append.1 he with he | he
    · obtain ⟨j, l, hj, -, h0, rfl⟩ := mem_allN he
      exact ⟨j, l, by omega, h0, rfl, rfl⟩
    · obtain ⟨l, -, h0, rfl⟩ := mem_edsN he
      exact ⟨i, l, Nat.le_refl _, h0, rfl, rfl⟩
  have hpw : b.2.Pairwise ltFL := by
    rw [hI.ed, List.pairwise_append]
    refine ⟨allN_asc es La b.1 i, edsN_asc es b.1 i c, fun a ha b hb => ?_⟩
    obtain ⟨j, l, hj, -, -, rfl⟩ := mem_allN ha
    obtain ⟨l2, -, -, rfl⟩ := mem_edsN hb
    exact .inl (by show (j : Int) < (i : Int); omega)
  have hat : ∀ j, j ≤ i → b.1[j]? = some (b.1.getD j 0) := fun j hj => by
    rw [List.getD_eq_getElem?_getD, List.getElem?_eq_getElem (by omega)]; rfl
  have hnd : (b.2.map fun e : E3 => (b.1.getD e.1.toNat 0, e.2.1)).Nodup := by
    refine List.pairwise_map.2 (hpw.imp_of_mem fun {x y} hx hy hlt he => ?_)
    obtain ⟨j, l, hj, -, e1, e2⟩ := hmem x hx
    obtain ⟨j2, l2, hj2, -, f1, f2⟩ := hmem y hy
    injection he with k1 k2
    rw [e1, f1, Int.toNat_natCast, Int.toNat_natCast] at k1
    have hjj : j = j2 := (List.getElem?_inj (by omega) hI.nd).1 ((hat j hj).trans (by rw [k1]; exact (hat j2 hj2).symm))
    unfold ltFL at hlt
    omega
  have := nodup_le hnd (m := es.map fun e : E3 => (2 ^ e.1.toNat, e.2.1)) (fun x hx => by
    obtain ⟨e, he, rfl⟩ := List.mem_map.1 hx
    obtain ⟨j, l, hj, h0, e1, e2⟩ := hmem e he
    obtain ⟨t, -, ht⟩ := h _ (List.mem_of_getElem? (hat j hj))
    rw [ht] at h0
    obtain ⟨u, hu⟩ := ne_bit h0
    obtain ⟨f, hf, f1, f2, -⟩ := stN_one hu
    refine List.mem_map.2 ⟨f, hf, ?_⟩
    rw [e1, e2, f1, f2, Int.toNat_natCast, Int.toNat_natCast, ht])
  rwa [List.length_map, List.length_map] at this
theorem det_run (hvg : VG (La : Int) (n : Int) es) (hd : detE es = true) : ∀ (k i : Nat) (b : Bs), InvN es La i 0 b → One n b → i ≤ b.1.length → k + i = 66 → ∃ b', runN es La k i b = some b' ∧ One n b'
  | 0, i, b, hI, h, hi, hk => by
    have := h.len hI.nd
    have := hvg.s2
    omega
  | k + 1, i, b, hI, h, hi, hk => by
    by_cases h1 : i < b.1.length
    · have hr := h.row hvg hd h1 La
      have hI2 := hI.row h1 La
      have hl := (rowN_len es i b La).1
      have h2 : ¬ tooN (rowN es i b La) := by
        have k1 := hr.len hI2.nd
        have k2 := edges_le hr hI2 (by omega)
        have k3 := hvg.s2
        have k4 := hvg.len
        unfold tooN
        omega
      rw [runN_more h1 h2]
      exact det_run hvg hd k (i + 1) _ hI2.next hr (by omega) (by omega)
    · exact ⟨b, runN_end h1, h⟩
theorem det_built (hvg : VG (La : Int) (n : Int) es) (hd : detE es = true) {s : Nat} (hs : s < n) : ∃ b, builtN es La (2 ^ s) = some b ∧ One n b := by
  have h64 : s < 64 := by have := hvg.s2; omega
  have hlt : 2 ^ s < 18446744073709551616 := Nat.pow_lt_pow_right (m := s) (n := 64) (by decide) h64
  exact det_run hvg hd 66 0 _ (InvN.start es La _ (Nat.ne_of_gt (Nat.two_pow_pos _)) hlt) (fun T hT => by rw [List.mem_singleton] at hT; exact ⟨s, hs, hT⟩) (Nat.zero_le _) rfl
theorem ofN_one (s : Nat) : ofN [(s : Int)] = 2 ^ s := by
  unfold ofN
  simp
theorem sg_one {m s : Nat} (h : s < m) : SG (m : Int) [(s : Int)] := ⟨fun x hx => by rw [List.mem_singleton] at hx; omega, by simp⟩
theorem from_det (hvg : VG (La : Int) (n : Int) es) (hd : detE es = true) {s : Nat} (hs : s < n) : ∃ b, fromR (La : Int) (n : Int) es [(s : Int)] = (0, b) ∧ One n b := by
  obtain ⟨b, hb, h1⟩ := det_built hvg hd hs
  refine ⟨b, ?_, h1⟩
  unfold fromR
  rw [if_pos hvg.chk, if_pos (sg_one hs).chk, if_neg (by simp), Int.toNat_natCast, ofN_one, hb]; rfl
theorem from_again {S : Nat} {b : Bs} (h : ResN es La S b) (hb : builtN es La S = some b) (h1 : 1 ≤ La) (h2 : La ≤ 256) : fromR (La : Int) ((b.1.length : Nat) : Int) b.2 [0] = (0, (sg1 b.1.length, b.2)) := by
  have hpos : 0 < b.1.length := by
    rcases Nat.eq_zero_or_pos b.1.length with h0 | h0
    · have := h.hd
      rw [List.eq_nil_of_length_eq_zero h0] at this
      cases this
    · exact h0
  unfold fromR
  rw [if_pos (h.vg h1 h2).chk, if_pos (show chkS ((b.1.length : Nat) : Int) none [0] = 0 from (sg_one (s := 0) hpos).chk), if_neg (by simp), Int.toNat_natCast, show ofN [(0 : Int)] = 1 from ofN_one 0, again_built h hb]; rfl
theorem memN_one {t : Nat} (h : t < 64) : memN (2 ^ t) = [(t : Int)] := by
  have := memN_ofN (sg_one h) (Nat.le_refl 64)
  rwa [ofN_one] at this
end
end Go.Proofs.YtbcbeffoacfpdaaDoor

namespace Go.Proofs.YtbcbeffoacfpdaaDoor
open Go.RowKit
set_option linter.unusedSimpArgs false
set_option linter.unusedVariables false

theorem Tryd.aga1E (args : Array Value) (w : World) : (callFunc 34 args).run Tryd.prog w = .ok (.enter 34 args) w := by
  simp [callFunc, go_sem, Tryd.func34, Tryd.f34]
theorem notOne_any (a : Option Addr) (n c : Nat) (w : World) : Calls Tryd.prog 34 #[.slice a n c] w fun e w' => e = .returned (.bool (n != 1)) ∧ w' = w := by
  have HE := Lib.hid (show ((n : Int) != 1) = (n != 1) by rw [Bool.eq_iff_iff, bne_iff_ne, bne_iff_ne]; omega)
  go_enter Tryd.func34, Tryd.ntmps34
  go_wp2
  go_ret
  exact ⟨by rw [← HE.out]; rfl, rfl⟩
set_option maxRecDepth 100000 in
set_option maxHeartbeats 3200000 in
theorem idxA_any (rows : List (List Int)) (v : Value) (w : World) (h : RowsRd w v rows) (hn : rows.length ≤ 100000) (h1 : ∀ r ∈ rows, r.length = 1) :
    Calls Tryd.prog 44 #[v, .func (.func 34) #[] #[]] w fun e w' => e = .returned (.int .i64 (-1)) ∧ w' = w := by
  have hE := Tryd.aga1E
  have HR := Lib.hid h
  have H1 := Lib.hid h1
  obtain ⟨a, c, rfl⟩ := h.form
  clear h h1
  go_enter Tryd.func44, Tryd.ntmps44
  go_wp2_with fail
  go_loopg [8] rows.length (fun q s8 wx => ∃ i : Nat, i + q = rows.length ∧ s8 = .int .i64 (i : Int) ∧ wx = w)
  case atStart => exact ⟨0, by omega, rfl, rfl⟩
  case round =>
    obtain ⟨i, hin, rfl, rfl⟩ := hrel
    rcases gk with _ | q
    · obtain rfl : i = rows.length := by omega
      go_wp2_with fail
      go_ret
      exact ⟨rfl, rfl⟩
    · obtain ⟨r, hr⟩ : ∃ r, rows[i]? = some r := ⟨_, List.getElem?_eq_getElem (by omega)⟩
      obtain ⟨b, off, cc, u, hv, k1, k2⟩ := HR.out.at hr
      injection hv with e1 e2 e3
      subst e1
      obtain ⟨a8, c8, rfl⟩ := k2.form
      have HC := Lib.hid (notOne_any a8 r.length c8 wr)
      rw [show (r.length != 1) = false by rw [H1.out r (List.mem_of_getElem? hr)]; rfl] at HC
      have j1 : (i : Int) < (rows.length : Int) := by omega
      clear hr e2 e3 k2
      go_wp2_with ((with_reducible refine HC.out.mono ?_); rintro e W1 ⟨rfl, rfl⟩)
      go_roundg q
      case measure => omega
      case rel => exact ⟨i + 1, by omega, by go_num, rfl⟩
set_option maxRecDepth 100000 in
theorem contA_any (rows : List (List Int)) (v : Value) (w : World) (h : RowsRd w v rows) (hn : rows.length ≤ 100000) (h1 : ∀ r ∈ rows, r.length = 1) :
    Calls Tryd.prog 33 #[v, .func (.func 34) #[] #[]] w fun e w' => e = .returned (.bool false) ∧ w' = w := by
  have HI := Lib.hid (idxA_any rows v w h hn h1)
  obtain ⟨a, c, rfl⟩ := h.form
  clear h h1
  go_enter Tryd.func33, Tryd.ntmps33
  go_wp2_with (go_at_call 44; (with_reducible refine HI.out.mono ?_); rintro e W1 ⟨rfl, rfl⟩)
  go_ret
  exact ⟨rfl, rfl⟩
set_option maxRecDepth 100000 in
set_option maxHeartbeats 3200000 in
theorem again_great (La S : Int) (es : List E3) (v : Value) (s : Nat) (w : World) (hrd : EdgesRd w v es) (hn : es.length ≤ 9223372036854775807) (hT : TabD w) (h : greatB S es.length = true ∨ chkG La S es ≠ 0 ∨ S = 0) :
    Calls Tryd.prog 8 #[grV La S v, .int .u8 (s : Int)] w fun e w' => e = .returned (.bool true) ∧ Below w.heap.size w w' := by
  have HCK := Lib.hid (fun W h => gcheck_any La S es v W h hn)
  have HRD := Lib.hid hrd
  obtain ⟨a, c, rfl⟩ := hrd.form
  have HG := Lib.hid (fun W => great12_any La S a es.length c W)
  have HA := Lib.hid (fun W h => awake12_any W h)
  have HT := Lib.hid hT
  have B0 := Lib.hid (below1 w (.cells #[.int .i64 La, .int .i64 S, .slice a es.length c] 24))
  have G0 := Lib.hid (BoxG.new w La S (.slice a es.length c) 24)
  obtain ⟨x1, x2, x3⟩ := id G0.out
  clear hrd hT
  cases hg : greatB S es.length
  · rw [hg] at HG
    have h := h.resolve_left (by rw [hg]; exact Bool.false_ne_true)
    clear hg
    by_cases hz : chkG La S es = 0
    · obtain rfl : S = 0 := h.resolve_left (fun h => h hz)
      rw [hz] at HCK
      clear h hz
      go_enter Tryd.func8, Tryd.ntmps8
      go_wp2_with (first
        | (go_at_call 9; (refine (HG.out _).mono ?_); rintro e W1 ⟨rfl, b1⟩; (have B1 := Lib.hid (below_more B0.out (Nat.le_refl _) b1)); (have G1 := Lib.hid (G0.out.keep b1)); clear b1 x1 x2 x3; (obtain ⟨x1, x2, x3⟩ := id G1.out))
        | (go_at_call 29; (refine (HCK.out _ (HRD.out.keep B1.out)).mono ?_); rintro e W2 ⟨rfl, b2⟩; (have B2 := Lib.hid (B1.out.trans (b2.mono B1.out.size))); (obtain ⟨y1, y2, y3⟩ := G1.out.keep b2); clear b2 x1 x2 x3)
        | (go_at_call 10; (refine (HA.out _ (HT.out.keep B2.out)).mono ?_); rintro e W3 ⟨rfl, b3⟩; (have B3 := Lib.hid (B2.out.trans (b3.mono B2.out.size)))))
      go_ret
      exact ⟨rfl, B3.out⟩
    · obtain ⟨z, hzz⟩ : ∃ z, chkG La S es = z := ⟨_, rfl⟩
      simp only [hzz] at HCK
      rw [hzz] at hz
      have d1 : (z != 0) = true := by simpa using hz
      clear h hz hzz
      go_enter Tryd.func8, Tryd.ntmps8
      go_wp2_with (first
        | (go_at_call 9; (refine (HG.out _).mono ?_); rintro e W1 ⟨rfl, b1⟩; (have B1 := Lib.hid (below_more B0.out (Nat.le_refl _) b1)); (have G1 := Lib.hid (G0.out.keep b1)); clear b1 x1 x2 x3; (obtain ⟨x1, x2, x3⟩ := id G1.out))
        | (go_at_call 29; (refine (HCK.out _ (HRD.out.keep B1.out)).mono ?_); rintro e W2 ⟨rfl, b2⟩; (have B2 := Lib.hid (B1.out.trans (b2.mono B1.out.size))); clear b2 x1 x2 x3)
        | (go_at_call 10; (refine (HA.out _ (HT.out.keep B2.out)).mono ?_); rintro e W3 ⟨rfl, b3⟩; (have B3 := Lib.hid (B2.out.trans (b3.mono B2.out.size)))))
      go_ret
      exact ⟨rfl, B3.out⟩
  · rw [hg] at HG
    clear h hg
    go_enter Tryd.func8, Tryd.ntmps8
    go_wp2_with (first
      | (go_at_call 9; (refine (HG.out _).mono ?_); rintro e W1 ⟨rfl, b1⟩; (have B1 := Lib.hid (below_more B0.out (Nat.le_refl _) b1)))
      | (go_at_call 10; (refine (HA.out _ (HT.out.keep B1.out)).mono ?_); rintro e W3 ⟨rfl, b3⟩; (have B3 := Lib.hid (B1.out.trans (b3.mono B1.out.size)))))
    go_ret
    exact ⟨rfl, B3.out⟩
set_option maxRecDepth 100000 in
set_option maxHeartbeats 3200000 in
theorem again_many (La S : Int) (es : List E3) (v : Value) (s : Nat) (w : World) (hrd : EdgesRd w v es) (hn : es.length ≤ 9223372036854775807) (hT : TabD w) (hg : greatB S es.length = false) (hz : chkG La S es = 0) (hS : S ≠ 0) (hk : (buildR La S es).1 ≠ 0) :
    Calls Tryd.prog 8 #[grV La S v, .int .u8 (s : Int)] w fun e w' => e = .returned (.bool true) ∧ Below w.heap.size w w' := by
  have HCK := Lib.hid (fun W h => gcheck_any La S es v W h hn)
  have HB := Lib.hid (fun W h h2 => Build_any La S es v W h hn h2)
  have HRD := Lib.hid hrd
  obtain ⟨a, c, rfl⟩ := hrd.form
  have HG := Lib.hid (fun W => great12_any La S a es.length c W)
  have HA := Lib.hid (fun W h => awake12_any W h)
  have HT := Lib.hid hT
  have B0 := Lib.hid (below1 w (.cells #[.int .i64 La, .int .i64 S, .slice a es.length c] 24))
  have G0 := Lib.hid (BoxG.new w La S (.slice a es.length c) 24)
  obtain ⟨x1, x2, x3⟩ := id G0.out
  rw [hg] at HG
  rw [hz] at HCK
  obtain ⟨z, hzz⟩ : ∃ z, (buildR La S es).1 = z := ⟨_, rfl⟩
  obtain ⟨bb, hbb⟩ : ∃ b, (buildR La S es).2 = b := ⟨_, rfl⟩
  simp only [hzz, hbb] at HB
  rw [hzz] at hk
  have d1 : (z != 0) = true := by simpa using hk
  have d2 : (S == 0) = false := by rw [beq_eq_false_iff_ne]; exact hS
  clear hrd hT hg hz hk hzz hbb
  go_enter Tryd.func8, Tryd.ntmps8
  go_wp2_with (first
    | (go_at_call 9; (refine (HG.out _).mono ?_); rintro e W1 ⟨rfl, b1⟩; (have B1 := Lib.hid (below_more B0.out (Nat.le_refl _) b1)); (have G1 := Lib.hid (G0.out.keep b1)); clear b1 x1 x2 x3; (obtain ⟨x1, x2, x3⟩ := id G1.out))
    | (go_at_call 29; (refine (HCK.out _ (HRD.out.keep B1.out)).mono ?_); rintro e W2 ⟨rfl, b2⟩; (have B2 := Lib.hid (B1.out.trans (b2.mono B1.out.size))); (have G2 := Lib.hid (G1.out.keep b2)); clear b2 x1 x2 x3; (obtain ⟨x1, x2, x3⟩ := id G2.out))
    | (go_at_call 11; (refine (HB.out _ (HRD.out.keep B2.out) (HT.out.keep B2.out)).mono ?_); rintro e W3 ⟨hv, lv, rfl, he3, hr3, b3⟩; (obtain ⟨ah, ch, rfl⟩ := he3.slice); (have B3 := Lib.hid ((B2.out.trans (b3.mono B2.out.size)).alloc (by have := B2.out.size; have := b3.size; omega) (.cells #[.int .i64 (onOk z La), .int .i64 ((bb.1.length : Nat) : Int), .slice ah bb.2.length ch] 24))); clear b3 he3 hr3)
    | (go_at_call 10; (refine (HA.out _ (HT.out.keep B3.out)).mono ?_); rintro e W4 ⟨rfl, b4⟩; (have B4 := Lib.hid (B3.out.trans (b4.mono B3.out.size)))))
  go_ret
  exact ⟨rfl, B4.out⟩
end Go.Proofs.YtbcbeffoacfpdaaDoor
