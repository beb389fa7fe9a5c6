/- Plain facts on the graph of sets of a deterministic graph, from one state on; From at a graph of sets and at one state. No condition. Plain facts: the labels of a graph of sets lead to the sets, and are the least ones. No condition. What cmp.Compare and slices.Compare return at ints. Condition: the lists can be read. -/
import Derived.Test.YtblkijdodojaeaaDoorQ20
import Derived.Test.YtblkijdodojaeaaDoorQ01
import Derived.Test.YtblkijdodojaeaaDoorQ15
import Derived.Test.YtblkijdodojaeaaDoorQ07

namespace Go.Proofs.YtblkijdodojaeaaDoor
set_option linter.unusedVariables false

theorem detE_pw2 : ∀ {es : List E3}, es.Pairwise (fun a b => ltE a b = true) → (detE es = true ↔ es.Pairwise (fun a b => ¬ (a.1 = b.1 ∧ a.2.1 = b.2.1)))
  | [], _ => by simp [detE]
  | [a], _ => by simp [detE]
  | a :: b :: r, h => by
    obtain ⟨h1, h2⟩ := List.pairwise_cons.1 h
    obtain ⟨h3, h4⟩ := List.pairwise_cons.1 h2
    have ih := detE_pw2 h2
    rw [detE, Bool.and_eq_true, ih, List.pairwise_cons (a := a) (l := b :: r)]
    refine and_congr_left (fun hp => ?_)
    simp only [Bool.not_eq_true', Bool.and_eq_false_imp, beq_iff_eq, beq_eq_false_iff_ne]
    constructor
    · intro hab x hx hxx
      rcases List.mem_cons.1 hx with rfl | hx
      · exact hab hxx.1 hxx.2
      · have k1 := (ltE_iff _ _).1 (h1 b List.mem_cons_self)
        have k2 := (ltE_iff _ _).1 (h3 x hx)
        have e1 : a.1 = b.1 := by omega
        exact hab e1 (by omega)
    · intro hab h1 h2
      exact hab b List.mem_cons_self ⟨h1, h2⟩
section
variable {es : List E3} {La n : Nat}
theorem det_uq (hvg : VG (La : Int) (n : Int) es) (hd : detE es = true) {e f : E3} (he : e ∈ es) (hf : f ∈ es) (h1 : e.1 = f.1) (h2 : e.2.1 = f.2.1) : e = f := by
  have hp := (detE_pw2 hvg.asc).1 hd
  rw [List.pairwise_iff_getElem] at hp
  obtain ⟨i, hi, rfl⟩ := List.mem_iff_getElem.1 he
  obtain ⟨j, hj, rfl⟩ := List.mem_iff_getElem.1 hf
  rcases Nat.lt_trichotomy i j with h | h | h
  · exact absurd ⟨h1, h2⟩ (hp i j hi hj h)
  · subst h; rfl
  · exact absurd ⟨h1.symm, h2.symm⟩ (hp j i hj hi h)
/-- A step from one state. -/
theorem stN_one {t l u : Nat} : (stN es (2 ^ t) l).testBit u = true → ∃ e ∈ es, e.1 = (t : Int) ∧ e.2.1 = (l : Int) ∧ e.2.2 = (u : Int) := by
  intro h
  rw [stN_bit, Bool.and_eq_true, List.any_eq_true] at h
  obtain ⟨-, e, he, h⟩ := h
  simp only [Bool.and_eq_true, beq_iff_eq, decide_eq_true_iff, Nat.testBit_two_pow] at h
  exact ⟨e, he, by omega, h.1.2, h.2⟩
theorem ne_bit {x : Nat} (h : x ≠ 0) : ∃ u, x.testBit u = true := by
  by_cases hx : ∃ u, x.testBit u = true
  · exact hx
  · refine absurd (Nat.eq_of_testBit_eq fun u => ?_) h
    rw [Nat.zero_testBit]
    cases hb : x.testBit u
    · rfl
    · exact absurd ⟨u, hb⟩ hx
theorem st_det (hvg : VG (La : Int) (n : Int) es) (hd : detE es = true) (t l : Nat) (h : stN es (2 ^ t) l ≠ 0) : ∃ u, u < n ∧ stN es (2 ^ t) l = 2 ^ u := by
  obtain ⟨u, hu⟩ := ne_bit h
  refine ⟨u, stN_small hvg.ok u hu, Nat.eq_of_testBit_eq fun v => ?_⟩
  rw [Nat.testBit_two_pow]
  by_cases huv : u = v
  · rw [← huv, hu]; simp
  · rw [decide_eq_false huv]
    cases hb : (stN es (2 ^ t) l).testBit v
    · rfl
    · obtain ⟨e, he, h1, h2, h3⟩ := stN_one hu
      obtain ⟨f, hf, k1, k2, k3⟩ := stN_one hb
      have hef := det_uq hvg hd he hf (by omega) (by omega)
      subst hef
      omega
/-- All sets have one state. -/
def One (n : Nat) (b : Bs) : Prop := ∀ T ∈ b.1, ∃ t, t < n ∧ T = 2 ^ t
theorem One.len {b : Bs} (h : One n b) (hd : b.1.Nodup) : b.1.length ≤ n := by
  have := nodup_le hd (m := sg1 n) (fun x hx => by obtain ⟨t, ht, rfl⟩ := h x hx; exact sg1_mem.2 ht)
  rwa [sg1_len] at this
theorem One.vis {b : Bs} (h : One n b) (hvg : VG (La : Int) (n : Int) es) (hd : detE es = true) {i c : Nat} (hi : i < b.1.length) : One n (visN es i b c) := by
  unfold visN
  split
  · exact h
  · rename_i h0
    have hm : b.1.getD i 0 ∈ b.1 := by
      rw [List.getD_eq_getElem?_getD, List.getElem?_eq_getElem hi]; exact List.getElem_mem _
    obtain ⟨t, -, ht⟩ := h _ hm
    rw [ht] at h0 ⊢
    obtain ⟨u, hu, hst⟩ := st_det hvg hd t c h0
    intro T hT
    dsimp only at hT
    split at hT
    · exact h T hT
    · rcases List.mem_append.1 hT with hT | hT
      · exact h T hT
      · rw [List.mem_singleton] at hT
        exact ⟨u, hu, hT.trans hst⟩
theorem One.row {b : Bs} (h : One n b) (hvg : VG (La : Int) (n : Int) es) (hd : detE es = true) {i : Nat} (hi : i < b.1.length) : ∀ c, One n (rowN es i b c)
  | 0 => h
  | c + 1 => by
    rw [rowN_succ]
    exact (One.row h hvg hd hi c).vis hvg hd (by have := (rowN_len es i b c).1; omega)
theorem edges_le {b : Bs} {i c : Nat} (h : One n b) (hI : InvN es La i c b) (hi : i < b.1.length) : b.2.length ≤ es.length := by
  have hmem : ∀ e ∈ b.2, ∃ j l : Nat, j ≤ i ∧ stN es (b.1.getD j 0) l ≠ 0 ∧ e.1 = (j : Int) ∧ e.2.1 = (l : Int) := by
    intro e he
    rw [hI.ed] at he
    rcases List.mem_append.1 he with he | he
    · obtain ⟨j, l, hj, -, h0, rfl⟩ := mem_allN he
      exact ⟨j, l, by omega, h0, rfl, rfl⟩
    · obtain ⟨l, -, h0, rfl⟩ := mem_edsN he
      exact ⟨i, l, Nat.le_refl _, h0, rfl, rfl⟩
  have hpw : b.2.Pairwise ltFL := by
    rw [hI.ed, List.pairwise_append]
    refine ⟨allN_asc es La b.1 i, edsN_asc es b.1 i c, fun a ha b hb => ?_⟩
    obtain ⟨j, l, hj, -, -, rfl⟩ := mem_allN ha
    obtain ⟨l2, -, -, rfl⟩ := mem_edsN hb
    exact .inl (by show (j : Int) < (i : Int); omega)
  have hat : ∀ j, j ≤ i → b.1[j]? = some (b.1.getD j 0) := fun j hj => by
    rw [List.getD_eq_getElem?_getD, List.getElem?_eq_getElem (by omega)]; rfl
  have hnd : (b.2.map fun e : E3 => (b.1.getD e.1.toNat 0, e.2.1)).Nodup := by
    refine List.pairwise_map.2 (hpw.imp_of_mem fun {x y} hx hy hlt he => ?_)
    obtain ⟨j, l, hj, -, e1, e2⟩ := hmem x hx
    obtain ⟨j2, l2, hj2, -, f1, f2⟩ := hmem y hy
    injection he with k1 k2
    rw [e1, f1, Int.toNat_natCast, Int.toNat_natCast] at k1
    have hjj : j = j2 := (List.getElem?_inj (by omega) hI.nd).1 ((hat j hj).trans (by rw [k1]; exact (hat j2 hj2).symm))
    unfold ltFL at hlt
    omega
  have := nodup_le hnd (m := es.map fun e : E3 => (2 ^ e.1.toNat, e.2.1)) (fun x hx => by
    obtain ⟨e, he, rfl⟩ := List.mem_map.1 hx
    obtain ⟨j, l, hj, h0, e1, e2⟩ := hmem e he
    obtain ⟨t, -, ht⟩ := h _ (List.mem_of_getElem? (hat j hj))
    rw [ht] at h0
    obtain ⟨u, hu⟩ := ne_bit h0
    obtain ⟨f, hf, f1, f2, -⟩ := stN_one hu
    refine List.mem_map.2 ⟨f, hf, ?_⟩
    rw [e1, e2, f1, f2, Int.toNat_natCast, Int.toNat_natCast, ht])
  rwa [List.length_map, List.length_map] at this
theorem det_run (hvg : VG (La : Int) (n : Int) es) (hd : detE es = true) : ∀ (k i : Nat) (b : Bs), InvN es La i 0 b → One n b → i ≤ b.1.length → k + i = 66 → ∃ b', runN es La k i b = some b' ∧ One n b'
  | 0, i, b, hI, h, hi, hk => by
    have := h.len hI.nd
    have := hvg.s2
    omega
  | k + 1, i, b, hI, h, hi, hk => by
    by_cases h1 : i < b.1.length
    · have hr := h.row hvg hd h1 La
      have hI2 := hI.row h1 La
      have hl := (rowN_len es i b La).1
      have h2 : ¬ tooN (rowN es i b La) := by
        have k1 := hr.len hI2.nd
        have k2 := edges_le hr hI2 (by omega)
        have k3 := hvg.s2
        have k4 := hvg.len
        unfold tooN
        omega
      rw [runN_more h1 h2]
      exact det_run hvg hd k (i + 1) _ hI2.next hr (by omega) (by omega)
    · exact ⟨b, runN_end h1, h⟩
theorem det_built (hvg : VG (La : Int) (n : Int) es) (hd : detE es = true) {s : Nat} (hs : s < n) : ∃ b, builtN es La (2 ^ s) = some b ∧ One n b := by
  have h64 : s < 64 := by have := hvg.s2; omega
  have hlt : 2 ^ s < 18446744073709551616 := Nat.pow_lt_pow_right (m := s) (n := 64) (by decide) h64
  exact det_run hvg hd 66 0 _ (InvN.start es La _ (Nat.ne_of_gt (Nat.two_pow_pos _)) hlt) (fun T hT => by rw [List.mem_singleton] at hT; exact ⟨s, hs, hT⟩) (Nat.zero_le _) rfl
theorem ofN_one (s : Nat) : ofN [(s : Int)] = 2 ^ s := by
  unfold ofN
  simp
theorem sg_one {m s : Nat} (h : s < m) : SG (m : Int) [(s : Int)] := ⟨fun x hx => by rw [List.mem_singleton] at hx; omega, by simp⟩
theorem from_det (hvg : VG (La : Int) (n : Int) es) (hd : detE es = true) {s : Nat} (hs : s < n) : ∃ b, fromR (La : Int) (n : Int) es [(s : Int)] = (0, b) ∧ One n b := by
  obtain ⟨b, hb, h1⟩ := det_built hvg hd hs
  refine ⟨b, ?_, h1⟩
  unfold fromR
  rw [if_pos hvg.chk, if_pos (sg_one hs).chk, if_neg (by simp), Int.toNat_natCast, ofN_one, hb]; rfl
theorem from_again {S : Nat} {b : Bs} (h : ResN es La S b) (hb : builtN es La S = some b) (h1 : 1 ≤ La) (h2 : La ≤ 256) : fromR (La : Int) ((b.1.length : Nat) : Int) b.2 [0] = (0, (sg1 b.1.length, b.2)) := by
  have hpos : 0 < b.1.length := by
    rcases Nat.eq_zero_or_pos b.1.length with h0 | h0
    · have := h.hd
      rw [List.eq_nil_of_length_eq_zero h0] at this
      cases this
    · exact h0
  unfold fromR
  rw [if_pos (h.vg h1 h2).chk, if_pos (show chkS ((b.1.length : Nat) : Int) none [0] = 0 from (sg_one (s := 0) hpos).chk), if_neg (by simp), Int.toNat_natCast, show ofN [(0 : Int)] = 1 from ofN_one 0, again_built h hb]; rfl
theorem memN_one {t : Nat} (h : t < 64) : memN (2 ^ t) = [(t : Int)] := by
  have := memN_ofN (sg_one h) (Nat.le_refl 64)
  rwa [ofN_one] at this
end
end Go.Proofs.YtblkijdodojaeaaDoor

namespace Go.Proofs.YtblkijdodojaeaaDoor
set_option linter.unusedVariables false

/-- The set to which a label leads, if it has members. -/
def sstep (es : List E3) (S l : Nat) : Option Nat := if stN es S l = 0 then none else some (stN es S l)
def runN' (es : List E3) (S : Nat) (w : List Nat) : Nat := w.foldl (stN es) S
theorem stN_zeroH (es : List E3) (l : Nat) : stN es 0 l = 0 := by
  refine Nat.eq_of_testBit_eq fun t => ?_
  rw [stN_bit]
  simp
theorem runN'_zero (es : List E3) : ∀ w, runN' es 0 w = 0
  | [] => rfl
  | l :: w => by
    unfold runN'
    rw [List.foldl_cons, stN_zeroH]
    exact runN'_zero es w
theorem runN'_snoc (es : List E3) (S : Nat) (w : List Nat) (l : Nat) : runN' es S (w ++ [l]) = stN es (runN' es S w) l := by
  unfold runN'; rw [List.foldl_append]; rfl
theorem runS_runN (es : List E3) : ∀ (w : List Nat) (S : Nat), S ≠ 0 → runS (sstep es) S w = if runN' es S w = 0 then none else some (runN' es S w)
  | [], S, h => by
    show some S = if S = 0 then none else some S
    rw [if_neg h]
  | l :: w, S, h => by
    unfold runS sstep
    by_cases h0 : stN es S l = 0
    · rw [if_pos h0]
      have : runN' es S (l :: w) = 0 := by
        unfold runN'
        rw [List.foldl_cons, h0]
        exact runN'_zero es w
      rw [if_pos this]; rfl
    · rw [if_neg h0]
      exact runS_runN es w _ h0
/-- The sets that are found, with their labels. -/
def quN (b : Bs) : List (List Int × Nat) := (List.range b.1.length).map fun k => (labF b.2 k, b.1.getD k 0)
theorem quN_len (b : Bs) : (quN b).length = b.1.length := by unfold quN; rw [List.length_map, List.length_range]
theorem quN_at {b : Bs} {k : Nat} (h : k < b.1.length) : (quN b)[k]? = some (labF b.2 k, b.1.getD k 0) := by
  unfold quN; rw [List.getElem?_map, List.getElem?_range h]; rfl
theorem labP_app {b : Bs} (hf : FFN b) (es2 : List E3) : ∀ (k s : Nat), s < b.1.length → labP (b.2 ++ es2) k s = labP b.2 k s
  | 0, _, _ => rfl
  | k + 1, s, hs => by
    by_cases h0 : s = 0
    · subst h0; rw [labP_zero, labP_zero]
    · obtain ⟨e, h1, h2, h3⟩ := hf.ff s (by omega) hs
      have h4 : fstE (b.2 ++ es2) (s : Int) = some e := by
        unfold fstE at h1 ⊢
        rw [List.find?_append, h1]; rfl
      rw [labP_step h0 h1, labP_step h0 h4, labP_app hf es2 k _ (by omega)]
theorem labF_app {b : Bs} (hf : FFN b) (es2 : List E3) {s : Nat} (h : s < b.1.length) : labF (b.2 ++ es2) s = labF b.2 s := by
  unfold labF; rw [labP_app hf es2 s s h]
theorem labF_new {b b2 : Bs} (hf : FFN b) (hf2 : FFN b2) {i l : Nat} (hi : i < b.1.length) (hb1 : b2.1.length = b.1.length + 1) (hb : b2.2 = b.2 ++ [((i : Int), (l : Int), ((b.1.length : Nat) : Int))]) :
    labF b2.2 b.1.length = labF b.2 i ++ [(l : Int)] := by
  have hn : fstE b.2 ((b.1.length : Nat) : Int) = none := by
    unfold fstE
    rw [List.find?_eq_none]
    intro e he
    have := hf.tgt e he
    simp; omega
  have h1 : fstE b2.2 ((b.1.length : Nat) : Int) = some ((i : Int), (l : Int), ((b.1.length : Nat) : Int)) := by
    rw [hb, fstE_snoc, hn, if_pos rfl]; rfl
  obtain ⟨m, hm⟩ : ∃ m, b.1.length = m + 1 := ⟨b.1.length - 1, by omega⟩
  unfold labF
  rw [hm] at h1 hi ⊢
  rw [labP_step (by omega) h1, List.reverse_cons]
  have h2 : labP b2.2 m ((i : Int)).toNat = labP b.2 i i := by
    rw [show ((i : Int)).toNat = i from rfl, labP_more hf2 m i (by omega) (by omega), hb, labP_app hf _ i i (by omega)]
  rw [h2]
theorem getD_endH (l : List Nat) (x : Nat) : (l ++ [x]).getD l.length 0 = x := by
  rw [List.getD_eq_getElem?_getD, List.getElem?_append_right (Nat.le_refl _), Nat.sub_self]; rfl
/-- Labels are labels, and lead to the sets. -/
structure LabN (es : List E3) (La S : Nat) (b : Bs) : Prop where
  ff : FFN b
  nz : ∀ k, k < b.1.length → b.1.getD k 0 ≠ 0
  run : ∀ k, k < b.1.length → ∃ w : List Nat, labF b.2 k = labsI w ∧ (∀ l ∈ w, l < La) ∧ runN' es S w = b.1.getD k 0
theorem LabN.vis {es : List E3} {La S i l : Nat} {b : Bs} (h : LabN es La S b) (hi : i < b.1.length) (hl : l < La) : LabN es La S (visN es i b l) := by
  have hf2 := FFN.vis (es := es) i l b hi h.ff
  by_cases h0 : stN es (b.1.getD i 0) l = 0
  · rw [visN_none h0]; exact h
  · by_cases h1 : stN es (b.1.getD i 0) l ∈ b.1
    · rw [visN_old h0 h1] at hf2 ⊢
      refine ⟨hf2, h.nz, fun k hk => ?_⟩
      show ∃ w : List Nat, labF (b.2 ++ _) k = _ ∧ _
      rw [labF_app h.ff _ hk]
      exact h.run k hk
    · rw [visN_new h0 h1] at hf2 ⊢
      refine ⟨hf2, fun k hk => ?_, fun k hk => ?_⟩
      · have hk2 : k < b.1.length + 1 := by rwa [List.length_append, List.length_singleton] at hk
        show (b.1 ++ [_]).getD k 0 ≠ 0
        by_cases hkl : k = b.1.length
        · subst hkl
          rw [List.getD_eq_getElem?_getD, List.getElem?_append_right (Nat.le_refl _), Nat.sub_self]
          exact h0
        · rw [getD_app (by omega)]; exact h.nz k (by omega)
      · have hk2 : k < b.1.length + 1 := by rwa [List.length_append, List.length_singleton] at hk
        by_cases hkl : k = b.1.length
        · subst hkl
          rw [labF_new h.ff hf2 hi (by rw [List.length_append, List.length_singleton]) rfl]
          obtain ⟨w, h2, h3, h4⟩ := h.run i hi
          refine ⟨w ++ [l], ?_, fun x hx => ?_, ?_⟩
          · rw [h2]; unfold labsI; rw [List.map_append]; rfl
          · rw [List.mem_append, List.mem_singleton] at hx
            rcases hx with hx | rfl
            · exact h3 x hx
            · exact hl
          · rw [runN'_snoc, h4]
            exact (getD_endH b.1 _).symm
        · obtain ⟨w, e1, e2, e3⟩ := h.run k (by omega)
          exact ⟨w, (labF_app h.ff _ (show k < b.1.length by omega)).trans e1, e2, e3.trans (getD_app (show k < b.1.length by omega)).symm⟩
theorem quN_old {b : Bs} (hf : FFN b) (e : E3) : quN (b.1, b.2 ++ [e]) = quN b := by
  unfold quN
  refine List.map_congr_left fun k hk => ?_
  rw [List.mem_range] at hk
  show (labF (b.2 ++ [e]) k, _) = _
  rw [labF_app hf _ hk]
theorem quN_new {b : Bs} {i l T : Nat} (hf : FFN b) (hf2 : FFN (b.1 ++ [T], b.2 ++ [((i : Int), (l : Int), ((b.1.length : Nat) : Int))])) (hi : i < b.1.length) :
    quN (b.1 ++ [T], b.2 ++ [((i : Int), (l : Int), ((b.1.length : Nat) : Int))]) = quN b ++ [(labF b.2 i ++ [(l : Int)], T)] := by
  have hl := labF_new hf hf2 hi (by rw [List.length_append, List.length_singleton]) rfl
  unfold quN
  rw [show (b.1 ++ [T], b.2 ++ [((i : Int), (l : Int), ((b.1.length : Nat) : Int))]).1.length = b.1.length + 1 by rw [List.length_append, List.length_singleton], List.range_succ, List.map_append]
  congr 1
  · refine List.map_congr_left fun k hk => ?_
    rw [List.mem_range] at hk
    show (labF (b.2 ++ _) k, (b.1 ++ [T]).getD k 0) = _
    rw [labF_app hf _ hk, getD_app hk]
  · rw [List.map_singleton]
    show [(labF (b.2 ++ _) b.1.length, (b.1 ++ [T]).getD b.1.length 0)] = _
    rw [show labF (b.2 ++ [((i : Int), (l : Int), ((b.1.length : Nat) : Int))]) b.1.length = _ from hl, List.getD_eq_getElem?_getD, List.getElem?_append_right (Nat.le_refl _), Nat.sub_self]
    rfl
theorem bfs_vis {es : List E3} {La S i c : Nat} {b : Bs} (h : LabN es La S b) (hq : Bfs (sstep es) La i c (quN b)) (hi : i < b.1.length) : Bfs (sstep es) La i (c + 1) (quN (visN es i b c)) := by
  have hf2 := FFN.vis (es := es) i c b hi h.ff
  by_cases h0 : stN es (b.1.getD i 0) c = 0
  · rw [visN_none h0]
    exact hq.skip (quN_at hi) (fun x hx => by unfold sstep at hx; rw [if_pos h0] at hx; cases hx)
  · have hs : sstep es (b.1.getD i 0) c = some (stN es (b.1.getD i 0) c) := by unfold sstep; rw [if_neg h0]
    by_cases h1 : stN es (b.1.getD i 0) c ∈ b.1
    · rw [visN_old h0 h1, quN_old h.ff]
      refine hq.skip (quN_at hi) (fun x hx => ?_)
      dsimp only at hx
      rw [hs] at hx
      injection hx with hx
      subst hx
      have hk : b.1.idxOf (stN es (b.1.getD i 0) c) < b.1.length := List.idxOf_lt_length_iff.2 h1
      refine ⟨_, List.mem_of_getElem? (quN_at hk), ?_⟩
      show b.1.getD _ 0 = _
      rw [List.getD_eq_getElem?_getD, getD_idx h1]; rfl
    · rw [visN_new h0 h1] at hf2 ⊢
      rw [quN_new h.ff hf2 hi]
      exact hq.add (quN_at hi) hs
theorem bfs_row {es : List E3} {La S i : Nat} {b : Bs} (h : LabN es La S b) (hq : Bfs (sstep es) La i 0 (quN b)) (hi : i < b.1.length) : ∀ c, c ≤ La → LabN es La S (rowN es i b c) ∧ Bfs (sstep es) La i c (quN (rowN es i b c))
  | 0, _ => ⟨h, hq⟩
  | c + 1, hc => by
    have h2 := rowN_len es i b c
    obtain ⟨h3, h4⟩ := bfs_row h hq hi c (by omega)
    rw [rowN_succ]
    exact ⟨h3.vis (by omega) (by omega), bfs_vis h3 h4 (by omega)⟩
theorem bfs_run {es : List E3} {La S : Nat} : ∀ {k i : Nat} {b b' : Bs}, LabN es La S b → Bfs (sstep es) La i 0 (quN b) → i ≤ b.1.length → runN es La k i b = some b' → LabN es La S b' ∧ Bfs (sstep es) La b'.1.length 0 (quN b')
  | 0, _, _, _, _, _, _, h => by cases h
  | k + 1, i, b, b', h1, h2, hi, h => by
    by_cases h3 : i < b.1.length
    · by_cases h4 : tooN (rowN es i b La)
      · rw [runN_many h3 h4] at h; cases h
      · rw [runN_more h3 h4] at h
        obtain ⟨h5, h6⟩ := bfs_row h1 h2 h3 La (Nat.le_refl _)
        have := rowN_len es i b La
        exact bfs_run h5 h6.next (by omega) h
    · rw [runN_end h3] at h
      injection h with h
      subst h
      obtain rfl : i = b.1.length := by omega
      exact ⟨h1, h2⟩
theorem built_bfs {es : List E3} {La S : Nat} {b : Bs} (h0 : S ≠ 0) (hb : builtN es La S = some b) : LabN es La S b ∧ Bfs (sstep es) La b.1.length 0 (quN b) := by
  unfold builtN at hb
  generalize (66 : Nat) = k at hb
  refine bfs_run (b := ([S], [])) ⟨⟨fun e he => (by cases he), fun t h1 h2 => (by have h3 : t < 1 := h2; omega)⟩, fun k hk => ?_, fun k hk => ?_⟩ (Bfs.start (sstep es) La S) (Nat.zero_le _) hb
  · obtain rfl : k = 0 := by have h3 : k < 1 := hk; omega
    exact h0
  · obtain rfl : k = 0 := by have h3 : k < 1 := hk; omega
    exact ⟨[], rfl, (fun l hl => by cases hl), rfl⟩
/-- What labels lead to is found, by labels that are not greater. -/
theorem built_least {es : List E3} {La S : Nat} {b : Bs} (h0 : S ≠ 0) (hb : builtN es La S = some b) {w : List Nat} (hw : ∀ l ∈ w, l < La) (hr : runN' es S w ≠ 0) :
    ∃ k, k < b.1.length ∧ b.1.getD k 0 = runN' es S w ∧ sle (labF b.2 k) (labsI w) := by
  obtain ⟨h1, h2⟩ := built_bfs h0 hb
  have hne : 0 < b.1.length := by
    have := (runN_pre (by unfold builtN at hb; exact hb)).length_le
    exact this
  have hg0 : b.1.getD 0 0 = S := by
    have h3 := runN_pre (by unfold builtN at hb; exact hb)
    obtain ⟨t, ht⟩ := h3
    rw [← ht]; rfl
  have h4 := h2.least (a := S) ⟨_, List.mem_of_getElem? (quN_at hne), hg0, rfl⟩ w hw (runN' es S w) (by rw [runS_runN es w S h0, if_neg hr])
  rcases h4 with ⟨j, q, hj, hq, e, hle⟩ | ⟨j, q, hj, hq, hle⟩
  · rw [quN_at hj] at hq
    injection hq with hq
    subst hq
    exact ⟨j, hj, e, hle⟩
  · have := (List.getElem?_eq_some_iff.1 hq).1
    rw [quN_len] at this
    omega
theorem built_asc {es : List E3} {La S : Nat} {b : Bs} (h0 : S ≠ 0) (hb : builtN es La S = some b) {i k : Nat} (hik : i ≤ k) (hk : k < b.1.length) : sle (labF b.2 i) (labF b.2 k) := by
  by_cases e : i = k
  · subst e; exact sle_refl _
  · have h2 := (built_bfs h0 hb).2.asc
    have h3 := List.pairwise_iff_getElem.1 h2 i k (by rw [quN_len]; omega) (by rw [quN_len]; omega) (by omega)
    have ha := quN_at (show i < b.1.length by omega)
    have hb := quN_at hk
    rw [List.getElem?_eq_getElem (by rw [quN_len]; omega)] at ha hb
    injection ha with ha
    injection hb with hb
    rw [ha, hb] at h3
    exact slt_sle h3
end Go.Proofs.YtblkijdodojaeaaDoor

namespace Go.Proofs.YtblkijdodojaeaaDoor
open Go.RowKit
set_option linter.unusedSimpArgs false
set_option linter.unusedVariables false

theorem nanI_any (x : Int) (w : World) : Calls Tryd.prog 105 #[.int .i64 x] w fun e w' => e = .returned (.bool false) ∧ w' = w := by
  have d : (x != x) = false := by simp
  go_enter Tryd.func105, Tryd.ntmps105
  go_wp2
  go_ret
  exact ⟨by first | rfl | simp, rfl⟩
def cmp1 (x y : Int) : Int := if x < y then -1 else if y < x then 1 else 0
theorem cmpI_any (x y : Int) (w : World) : Calls Tryd.prog 70 #[.int .i64 x, .int .i64 y] w fun e w' => e = .returned (.int .i64 (cmp1 x y)) ∧ w' = w := by
  have h1 := nanI_any x w
  have h2 := nanI_any y w
  by_cases a1 : x < y
  · have HE := Lib.hid (show cmp1 x y = -1 from if_pos a1)
    go_enter Tryd.func70, Tryd.ntmps70
    go_wp2_with (first
      | (go_at_call 105; (with_reducible refine h1.mono ?_); rintro e W1 ⟨rfl, rfl⟩; clear h1)
      | (go_at_call 105; (with_reducible refine h2.mono ?_); rintro e W2 ⟨rfl, rfl⟩; clear h2))
    go_ret
    exact ⟨by rw [HE.out]; rfl, rfl⟩
  · by_cases a2 : y < x
    · have HE := Lib.hid (show cmp1 x y = 1 by unfold cmp1; rw [if_neg a1, if_pos a2])
      go_enter Tryd.func70, Tryd.ntmps70
      go_wp2_with (first
        | (go_at_call 105; (with_reducible refine h1.mono ?_); rintro e W1 ⟨rfl, rfl⟩; clear h1)
        | (go_at_call 105; (with_reducible refine h2.mono ?_); rintro e W2 ⟨rfl, rfl⟩; clear h2))
      go_ret
      exact ⟨by rw [HE.out]; rfl, rfl⟩
    · have HE := Lib.hid (show cmp1 x y = 0 by unfold cmp1; rw [if_neg a1, if_neg a2])
      go_enter Tryd.func70, Tryd.ntmps70
      go_wp2_with (first
        | (go_at_call 105; (with_reducible refine h1.mono ?_); rintro e W1 ⟨rfl, rfl⟩; clear h1)
        | (go_at_call 105; (with_reducible refine h2.mono ?_); rintro e W2 ⟨rfl, rfl⟩; clear h2))
      go_ret
      exact ⟨by rw [HE.out]; rfl, rfl⟩
theorem cmpL_cons (x y : Int) (xs ys : List Int) : cmpL (x :: xs) (y :: ys) = if cmp1 x y = 0 then cmpL xs ys else cmp1 x y := by
  unfold cmp1
  rw [cmpL]
  by_cases h1 : x < y
  · rw [if_pos h1, if_pos h1, if_neg (by decide)]
  · by_cases h2 : y < x
    · rw [if_neg h1, if_pos h2, if_neg h1, if_pos h2, if_neg (by decide)]
    · rw [if_neg h1, if_neg h2, if_neg h1, if_neg h2, if_pos rfl]
set_option maxRecDepth 100000 in
set_option maxHeartbeats 3200000 in
theorem cmpS_any (l m : List Int) (u v : Value) (w : World) (hu : IntsRd w u l) (hv : IntsRd w v m) (hl : l.length ≤ 1000000) (hm : m.length ≤ 1000000) :
    Calls Tryd.prog 34 #[u, v] w fun e w' => e = .returned (.int .i64 (cmpL l m)) ∧ w' = w := by
  have HU := Lib.hid hu
  have HV := Lib.hid hv
  have hc := Lib.hid (fun x y => cmpI_any x y w)
  obtain ⟨a, c, rfl⟩ := hu.form
  obtain ⟨a2, c2, rfl⟩ := hv.form
  obtain ⟨R, hR⟩ : ∃ R, cmpL l m = R := ⟨_, rfl⟩
  have HRR := Lib.hid hR
  rw [hR]
  clear hR hu hv
  go_enter Tryd.func34, Tryd.ntmps34
  go_wp2_with fail
  go_loopg [11] l.length (fun q s11 wx => ∃ i : Nat, i + q = l.length ∧ s11 = .int .i64 (i : Int) ∧ i ≤ m.length ∧ Hid (cmpL (l.drop i) (m.drop i) = R) ∧ wx = w)
  case atStart => exact ⟨0, by omega, rfl, Nat.zero_le _, Lib.hid (by rw [List.drop_zero, List.drop_zero]; exact HRR.out), rfl⟩
  case round =>
    obtain ⟨i, hin, rfl, him, HF, rfl⟩ := hrel
    rcases gk with _ | q
    · obtain rfl : i = l.length := by omega
      have j0 : ¬ ((l.length : Int) < (l.length : Int)) := by omega
      have h9 := HF.out
      rw [List.drop_length] at h9
      by_cases h1 : l.length < m.length
      · have HE := Lib.hid (show R = -1 by
          rw [← h9, List.drop_eq_getElem_cons h1]; rfl)
        have d1 : (l.length : Int) < (m.length : Int) := by omega
        clear h9 HF HRR
        go_wp2_with fail
        go_ret
        exact ⟨by rw [HE.out]; rfl, rfl⟩
      · have HE := Lib.hid (show R = 0 by
          rw [← h9, List.drop_eq_nil_of_le (by omega)]; rfl)
        have d1 : ¬ (l.length : Int) < (m.length : Int) := by omega
        clear h9 HF HRR
        go_wp2_with fail
        go_ret
        exact ⟨by rw [HE.out]; rfl, rfl⟩
    · obtain ⟨x, hx⟩ : ∃ x, l[i]? = some x := ⟨_, List.getElem?_eq_getElem (by omega)⟩
      obtain ⟨b, off, cc, hv1, k1⟩ := HU.out.at hx
      injection hv1 with e1 e2 e3
      subst e1
      have h9 := HF.out
      have j1 : (i : Int) < (l.length : Int) := by omega
      by_cases h1 : i < m.length
      · obtain ⟨y, hy⟩ : ∃ y, m[i]? = some y := ⟨_, List.getElem?_eq_getElem h1⟩
        obtain ⟨b4, off4, cc4, hv4, k4⟩ := HV.out.at hy
        injection hv4 with e4 e5 e6
        subst e4
        have d1 : (i : Int) < (m.length : Int) := by omega
        have d2 : ¬ ((m.length : Int) ≤ (i : Int)) := by omega
        rw [drop_at hx, drop_at hy, cmpL_cons] at h9
        have HC := hc.out x y
        clear hx hy e2 e3 e5 e6
        obtain ⟨z, hz⟩ : ∃ z, cmp1 x y = z := ⟨_, rfl⟩
        rw [hz] at h9 HC
        by_cases h2 : z = 0
        · rw [if_pos h2] at h9
          subst h2
          have HF2 := Lib.hid h9
          clear h9 HF hz
          go_wp2_with (go_at_call 70; (with_reducible refine HC.mono ?_); rintro e W1 ⟨rfl, rfl⟩)
          go_roundg q
          case measure => omega
          case rel => exact ⟨i + 1, by omega, by go_num, by omega, HF2, rfl⟩
        · rw [if_neg h2] at h9
          have d3 : (z != 0) = true := by simpa using h2
          have HE := Lib.hid h9
          clear h9 HF HRR hz h2
          go_wp2_with (go_at_call 70; (with_reducible refine HC.mono ?_); rintro e W1 ⟨rfl, rfl⟩)
          go_ret
          exact ⟨by rw [HE.out]; rfl, rfl⟩
      · obtain rfl : i = m.length := by omega
        have d2 : (m.length : Int) ≤ (m.length : Int) := by omega
        rw [drop_at hx, List.drop_length] at h9
        have HE := Lib.hid (show R = 1 from h9.symm)
        clear h9 HF HRR hx
        go_wp2_with fail
        go_ret
        exact ⟨by rw [HE.out]; rfl, rfl⟩
end Go.Proofs.YtblkijdodojaeaaDoor
