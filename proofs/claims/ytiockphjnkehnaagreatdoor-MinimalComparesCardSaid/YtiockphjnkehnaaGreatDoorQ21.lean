/- Plain facts on deterministic graphs: by pairs of edges, their parts, and single steps. No condition. Plain: the classes that the reference finds, round by round, are those of the states that no labels tell apart. No condition. What minimal.split returns: classes that a label divides. Conditions: the machine and the classes can be read; at most 64 states and 256 labels. -/
import Derived.Test.YtiockphjnkehnaaGreatDoorQ08
import Derived.Test.YtiockphjnkehnaaGreatDoorQ20
import Derived.Test.YtiockphjnkehnaaGreatDoorQ18
import Derived.Test.YtiockphjnkehnaaGreatDoorQ19
import Derived.Maps.OwnSet
import Derived.Maps.OwnOps
import Derived.WideKeyPair

namespace Go.Proofs.YtiockphjnkehnaaGreatDoor
set_option linter.unusedVariables false

theorem detE_pw : ∀ {es : List E3}, es.Pairwise (fun a b => ltE a b = true) → (detE es = true ↔ es.Pairwise (fun a b => ¬ (a.1 = b.1 ∧ a.2.1 = b.2.1)))
  | [], _ => by simp [detE]
  | [a], _ => by simp [detE]
  | a :: b :: r, h => by
    obtain ⟨h1, h2⟩ := List.pairwise_cons.1 h
    obtain ⟨h3, h4⟩ := List.pairwise_cons.1 h2
    have ih := detE_pw h2
    rw [detE, Bool.and_eq_true, ih, List.pairwise_cons (a := a) (l := b :: r)]
    refine and_congr_left (fun hp => ?_)
    simp only [Bool.not_eq_true', Bool.and_eq_false_imp, beq_iff_eq, beq_eq_false_iff_ne]
    constructor
    · intro hab x hx hxx
      rcases List.mem_cons.1 hx with rfl | hx
      · exact hab hxx.1 hxx.2
      · have k1 := (ltE_iff _ _).1 (h1 b List.mem_cons_self)
        have k2 := (ltE_iff _ _).1 (h3 x hx)
        have e1 : a.1 = b.1 := by omega
        exact hab e1 (by omega)
    · intro hab h1 h2
      exact hab b List.mem_cons_self ⟨h1, h2⟩
theorem idx_inj {l : List Int} {a b : Int} (ha : a ∈ l) (hb : b ∈ l) (h : l.idxOf a = l.idxOf b) : a = b := by
  have k1 := idx_get ha
  rw [h, idx_get hb] at k1
  injection k1 with k1
  exact k1.symm
theorem det_part {st : List Int} {es : List E3} (hs : st.Pairwise (· < ·)) (he : es.Pairwise (fun a b => ltE a b = true)) (h : detE es = true) : detE (partE st es) = true := by
  rw [detE_pw (part_asc hs he)]
  rw [detE_pw he] at h
  unfold partE
  rw [List.pairwise_filterMap]
  refine h.imp ?_
  intro a b hab x hx y hy
  split at hx
  · split at hy
    · rename_i ha hb
      injection hx with hx
      injection hy with hy
      subst hx
      subst hy
      rintro ⟨h1, h2⟩
      dsimp only at h1 h2
      exact hab ⟨idx_inj ha.1 hb.1 (by omega), h2⟩
    · cases hy
  · cases hx
end Go.Proofs.YtiockphjnkehnaaGreatDoor

namespace Go.Proofs.YtiockphjnkehnaaGreatDoor
set_option linter.unusedSimpArgs false
set_option linter.unusedVariables false

def sgC (m : Nat → Nat → Nat) (n : Nat) (c : List Nat) (s l : Nat) : Option Nat := if m s l = n then none else some (c.getD (m s l) 0)
def sigC (m : Nat → Nat → Nat) (n La : Nat) (c : List Nat) (s : Nat) : Nat × List (Option Nat) := (c.getD s 0, (List.range La).map (sgC m n c s))
def sigs (m : Nat → Nat → Nat) (n La : Nat) (c : List Nat) : List (Nat × List (Option Nat)) := (List.range n).map (sigC m n La c)
def refR (m : Nat → Nat → Nat) (n La : Nat) (c : List Nat) : List Nat := canon (sigs m n La c)
def refC (m : Nat → Nat → Nat) (n La : Nat) : Nat → List Nat
  | 0 => List.replicate n 0
  | k + 1 => refR m n La (refC m n La k)
section
variable {m : Nat → Nat → Nat} {n La : Nat} {c : List Nat}
theorem sigs_len : (sigs m n La c).length = n := by unfold sigs; rw [List.length_map, List.length_range]
theorem sigs_at {s : Nat} (h : s < n) : (sigs m n La c)[s]? = some (sigC m n La c s) := by unfold sigs; rw [List.getElem?_map, List.getElem?_range h]; rfl
theorem refR_len : (refR m n La c).length = n := by unfold refR; rw [canon_len, sigs_len]
theorem refC_len : ∀ k, (refC m n La k).length = n
  | 0 => List.length_replicate
  | k + 1 => refR_len
theorem refR_at {s : Nat} (h : s < n) : (refR m n La c)[s]? = some ((refR m n La c).getD s 0) := getD_opt (by rw [refR_len]; exact h)
theorem refR_iff {s t : Nat} (hs : s < n) (ht : t < n) : (refR m n La c).getD s 0 = (refR m n La c).getD t 0 ↔ sigC m n La c s = sigC m n La c t := by
  constructor
  · intro e
    have h := (canon_ker (sigs m n La c)).1 s t (by rw [canon_len, sigs_len]; exact hs) (by rw [canon_len, sigs_len]; exact ht) (by
      show (refR m n La c)[s]? = (refR m n La c)[t]?
      rw [refR_at hs, refR_at ht, e])
    rw [sigs_at hs, sigs_at ht] at h
    injection h
  · intro e
    have h := (canon_ker (sigs m n La c)).2 s t (by rw [sigs_len]; exact hs) (by rw [sigs_len]; exact ht) (by rw [sigs_at hs, sigs_at ht, e])
    have h2 : (refR m n La c)[s]? = (refR m n La c)[t]? := h
    rw [refR_at hs, refR_at ht] at h2
    injection h2
theorem sgC_iff {s t l : Nat} : sgC m n c s l = sgC m n c t l ↔ (m s l = n ↔ m t l = n) ∧ (m s l ≠ n → c.getD (m s l) 0 = c.getD (m t l) 0) := by
  unfold sgC
  by_cases h1 : m s l = n <;> by_cases h2 : m t l = n
  · rw [if_pos h1, if_pos h2]; exact ⟨fun _ => ⟨⟨fun _ => h2, fun _ => h1⟩, fun h => absurd h1 h⟩, fun _ => rfl⟩
  · rw [if_pos h1, if_neg h2]; exact ⟨fun h => (by cases h), fun h => absurd (h.1.1 h1) h2⟩
  · rw [if_neg h1, if_pos h2]; exact ⟨fun h => (by cases h), fun h => absurd (h.1.2 h2) h1⟩
  · rw [if_neg h1, if_neg h2]
    exact ⟨fun h => ⟨⟨fun e => absurd e h1, fun e => absurd e h2⟩, fun _ => by injection h⟩, fun h => by rw [h.2 h1]⟩
theorem sig2_iff {s t : Nat} : (sigC m n La c s).2 = (sigC m n La c t).2 ↔ ∀ l, l < La → sgC m n c s l = sgC m n c t l := by
  show (List.range La).map (sgC m n c s) = (List.range La).map (sgC m n c t) ↔ _
  constructor
  · intro h l hl
    have h2 : ((List.range La).map (sgC m n c s))[l]? = ((List.range La).map (sgC m n c t))[l]? := by rw [h]
    rw [List.getElem?_map, List.getElem?_map, List.getElem?_range hl] at h2
    simpa using h2
  · intro h
    exact List.map_congr_left (fun l hl => h l (List.mem_range.1 hl))
theorem sig_iff {s t : Nat} : sigC m n La c s = sigC m n La c t ↔ c.getD s 0 = c.getD t 0 ∧ (sigC m n La c s).2 = (sigC m n La c t).2 := by
  constructor
  · intro h; exact ⟨congrArg Prod.fst h, congrArg Prod.snd h⟩
  · rintro ⟨h1, h2⟩; exact Prod.ext h1 h2
theorem refR_canon : canon (refR m n La c) = refR m n La c := canon_canon _
theorem refR_same (hcl : c.length = n) (hc : canon c = c) (h : (firsts (refR m n La c)).length ≤ (firsts c).length) : refR m n La c = c := by
  have hk : KerLe (refR m n La c) c := fun i j hi hj e => by
    rw [refR_len] at hi hj
    rw [getD_opt (by rw [hcl]; exact hi), getD_opt (by rw [hcl]; exact hj)]
    rw [refR_at hi, refR_at hj] at e
    injection e with e
    rw [(sig_iff.1 ((refR_iff hi hj).1 e)).1]
  have hl : (refR m n La c).length = c.length := by rw [refR_len, hcl]
  have h1 := ker_count hl hk c.length (by rw [hl]; exact Nat.le_refl _)
  rw [List.take_length, List.take_of_length_le (by rw [hl]; exact Nat.le_refl _)] at h1
  have hk2 : KerLe c (refR m n La c) := fun i j hi hj e => h1.2 (by omega) i j hi hj e
  have := canon_same hl hk hk2
  rw [refR_canon, hc] at this
  exact this
end
theorem refC_stops (m : Nat → Nat → Nat) (n La : Nat) : ∃ k, k ≤ n + 1 ∧ refC m n La (k + 1) = refC m n La k := by
  refine Classical.byContradiction fun hn => ?_
  have hne : ∀ k, k ≤ n + 1 → refC m n La (k + 1) ≠ refC m n La k := fun k hk e => hn ⟨k, hk, e⟩
  have hgrow : ∀ k, k ≤ n + 1 → k ≤ (firsts (refC m n La (k + 1))).length := fun k => by
    induction k with
    | zero => intro _; exact Nat.zero_le _
    | succ k ih =>
      intro hk
      refine Nat.lt_of_not_le fun h => hne (k + 1) hk ?_
      exact refR_same (refC_len (k + 1)) refR_canon (Nat.le_trans h (ih (by omega)))
  have h1 := hgrow (n + 1) (Nat.le_refl _)
  have h2 := firsts_le (refC m n La (n + 1 + 1))
  rw [refC_len] at h2
  omega
theorem refC_iff {m : Nat → Nat → Nat} {n La k : Nat} (hm : ∀ s l, m s l ≤ n) (hn : ∀ l, m n l = n) (hk : refC m n La (k + 1) = refC m n La k) {s t : Nat} (hs : s < n) (ht : t < n) :
    (refC m n La k).getD s 0 = (refC m n La k).getD t 0 ↔ ∀ w : List Nat, (∀ l ∈ w, l < La) → (mrun m s w = n ↔ mrun m t w = n) := by
  constructor
  · intro e w
    induction w generalizing s t with
    | nil =>
      intro _
      show s = n ↔ t = n
      exact ⟨fun h => absurd h (by omega), fun h => absurd h (by omega)⟩
    | cons l w ih =>
      intro hw
      rw [mrun_cons, mrun_cons]
      rw [← hk] at e
      have h1 := sgC_iff.1 (sig2_iff.1 (sig_iff.1 ((refR_iff hs ht).1 e)).2 l (hw l (by simp)))
      by_cases h2 : m s l = n
      · rw [h2, h1.1.1 h2]
      · have h3 : m t l ≠ n := fun h => h2 (h1.1.2 h)
        refine ih (by have := hm s l; omega) (by have := hm t l; omega) (h1.2 h2) (fun x hx => hw x (by simp [hx]))
  · have key : ∀ j s t, s < n → t < n → (∀ w : List Nat, (∀ l ∈ w, l < La) → (mrun m s w = n ↔ mrun m t w = n)) → (refC m n La j).getD s 0 = (refC m n La j).getD t 0 := fun j => by
      induction j with
      | zero =>
        intro s t hs ht _
        show (List.replicate n 0).getD s 0 = (List.replicate n 0).getD t 0
        rw [List.getD_eq_getElem?_getD, List.getD_eq_getElem?_getD, List.getElem?_replicate, List.getElem?_replicate, if_pos hs, if_pos ht]
      | succ j ih =>
        intro s t hs ht h
        refine (refR_iff hs ht).2 (sig_iff.2 ⟨ih s t hs ht h, sig2_iff.2 fun l hl => sgC_iff.2 ⟨h [l] (fun x hx => by rw [List.mem_singleton] at hx; rw [hx]; exact hl), fun h2 => ?_⟩⟩)
        have h3 : m s l = n ↔ m t l = n := h [l] (fun x hx => by rw [List.mem_singleton] at hx; rw [hx]; exact hl)
        refine ih _ _ (by have := hm s l; omega) (by have := hm t l; have : m t l ≠ n := fun e => h2 (h3.2 e); omega) (fun w hw => ?_)
        exact h (l :: w) (fun x hx => by rw [List.mem_cons] at hx; rcases hx with rfl | hx; exact hl; exact hw x hx)
    exact key k s t hs ht
theorem canon_takeN {α : Type} [DecidableEq α] (l : List α) (k : Nat) : canon (l.take k) = (canon l).take k := by
  refine List.ext_getElem? fun i => ?_
  by_cases hi : i < k
  · rw [List.getElem?_take_of_lt hi]
    by_cases hl : i < l.length
    · have hx := List.getElem?_eq_getElem hl
      generalize l[i] = x at hx
      have hx2 : (l.take k)[i]? = some x := by rw [List.getElem?_take_of_lt hi]; exact hx
      rw [canon_at hx, canon_at hx2]
      congr 1
      exact (idx_pre (firsts_preAll l k) ((firsts_mem _ _).2 (mem_take_iff.2 ⟨i, hi, hx⟩))).symm
    · rw [List.getElem?_eq_none (by rw [canon_len, List.length_take]; omega), List.getElem?_eq_none (by rw [canon_len]; omega)]
  · rw [List.getElem?_eq_none (by rw [canon_len, List.length_take]; omega), List.getElem?_eq_none (by rw [List.length_take, canon_len]; omega)]
theorem canon_uniq {a b : List Nat} (hl : a.length = b.length) (ha : canon a = a) (hb : canon b = b) (h : ∀ s t, s < a.length → t < a.length → (a.getD s 0 = a.getD t 0 ↔ b.getD s 0 = b.getD t 0)) : a = b := by
  have h1 : KerLe a b := fun i j hi hj e => by
    rw [getD_opt hi, getD_opt hj] at e
    injection e with e
    rw [getD_opt (by rw [← hl]; exact hi), getD_opt (by rw [← hl]; exact hj), (h i j hi hj).1 e]
  have h2 : KerLe b a := fun i j hi hj e => by
    rw [getD_opt hi, getD_opt hj] at e
    injection e with e
    rw [getD_opt (by rw [hl]; exact hi), getD_opt (by rw [hl]; exact hj), (h i j (by omega) (by omega)).2 e]
  rw [← ha, ← hb]
  exact canon_same hl h1 h2
theorem refC_eq {m : Nat → Nat → Nat} {n La k : Nat} (hL : 1 ≤ La) (hm : ∀ s l, m s l ≤ n) (hn : ∀ l, m n l = n) (hk : refC m n La (k + 1) = refC m n La k) : refC m n La k = classN m La n := by
  obtain ⟨C, h1, h2, h3, -⟩ := classN_get m La n hL
  refine canon_uniq (by rw [refC_len, classN_len m La n hL]) (by rw [← hk]; exact refR_canon) (by rw [h2, canon_takeN, h3]) (fun s t hs ht => ?_)
  rw [refC_len] at hs ht
  rw [refC_iff hm hn hk hs ht, classN_iff hL (fun s l _ => Nat.lt_succ_of_le (hm s l)) hn hs ht]
theorem refC_get (m : Nat → Nat → Nat) (n La : Nat) (hL : 1 ≤ La) (hm : ∀ s l, m s l ≤ n) (hn : ∀ l, m n l = n) : ∃ K, K ≤ n + 1 ∧ refC m n La (K + 1) = refC m n La K ∧ (∀ j, j < K → refC m n La (j + 1) ≠ refC m n La j) ∧ refC m n La K = classN m La n := by
  obtain ⟨K, hK, hmin⟩ := leastN (P := fun k => refC m n La (k + 1) = refC m n La k) (by obtain ⟨k, -, h⟩ := refC_stops m n La; exact ⟨k, h⟩)
  obtain ⟨k, hk1, hk2⟩ := refC_stops m n La
  exact ⟨K, by
    have : ¬ k < K := fun h => hmin k h hk2
    omega, hK, hmin, refC_eq hL hm hn hK⟩
end Go.Proofs.YtiockphjnkehnaaGreatDoor

namespace Go.Proofs.YtiockphjnkehnaaGreatDoor
open Go.RowKit Go.Maps
set_option linter.unusedSimpArgs false
set_option linter.unusedVariables false

theorem Tryz.arrP : WideMaps.ArrKey Tryz.prog 67 3 2 := ⟨Tryz.underlying67, by kernel_rfl, by kernel_rfl, by kernel_rfl⟩
theorem Tryz.keyLawP : Keyed Tryz.prog 67 := Keyed.of_law Tryz.arrP.law
abbrev prV (x y : Nat) : Value := .agg #[.int .i64 (x : Int), .int .i64 (y : Int)]
abbrev kyP (p : Nat × Nat) : Lit := .string (keyBytes [.int .i64 (p.1 : Int), .int .i64 (p.2 : Int)])
def SmP (p : Nat × Nat) : Prop := p.1 ≤ 100000 ∧ p.2 ≤ 100000
theorem wfN {x : Nat} (h : x ≤ 100000) : (Lit.int .i64 (x : Int)).wf = true := by
  unfold Lit.wf IntKind.min IntKind.max
  simp [IntKind.signed, IntKind.bits]
  omega
theorem kyP_of {p : Nat × Nat} (h : SmP p) : keyOf Tryz.prog 67 (prV p.1 p.2) = some (kyP p) :=
  WideMaps.keyOf_pair Tryz.arrP Tryz.underlying3 ⟨Tryz.prog.types.size - 1, (Nat.sub_add_cancel (of_decide_eq_true (by kernel_rfl))).symm⟩ (wfN h.1) (wfN h.2)
theorem kyP_ne {p q : Nat × Nat} (hp : SmP p) (hq : SmP q) (h : p ≠ q) : kyP p ≠ kyP q := fun e => by
  have h1 := kyP_of hp
  rw [e] at h1
  have h2 := Tryz.keyLawP.inj h1 (kyP_of hq)
  injection h2 with h2
  simp only [Array.mk.injEq, List.cons.injEq, Value.int.injEq, and_true, true_and] at h2
  refine h (Prod.ext ?_ ?_)
  · have := h2.1; omega
  · have := h2.2; omega
abbrev MapH : Type := DataW Unit
def ixD (p : MapH × Nat) (x : Nat × Nat) : MapH × Nat := (p.1.put (kyP x) (.lit (.int .i64 (p.2 : Int))), p.2 + 1)
def mapP (K : List (Nat × Nat)) : MapH := (K.foldl ixD (.map [], 0)).1
theorem mapP_len : ∀ (K : List (Nat × Nat)) (p : MapH × Nat), (K.foldl ixD p).2 = p.2 + K.length
  | [], p => rfl
  | S :: r, p => by rw [List.foldl_cons, mapP_len r, List.length_cons]; show p.2 + 1 + r.length = _; omega
theorem mapP_snoc (K : List (Nat × Nat)) (x : Nat × Nat) : mapP (K ++ [x]) = (mapP K).put (kyP x) (.lit (.int .i64 ((K.length : Nat) : Int))) := by
  unfold mapP
  rw [List.foldl_append]
  show ((K.foldl ixD (.map [], 0)).1.put _ _) = _
  rw [mapP_len K (.map [], 0), Nat.zero_add]
theorem snocP {P : List (Nat × Nat) → Prop} (h0 : P []) (h1 : ∀ l x, P l → P (l ++ [x])) : ∀ l, P l := by
  intro l
  have : ∀ n (l : List (Nat × Nat)), l.length = n → P l := by
    intro n
    induction n with
    | zero => intro l hl; rw [List.length_eq_zero_iff.1 hl]; exact h0
    | succ n ih =>
      intro l hl
      have hne : l ≠ [] := fun e => by rw [e] at hl; cases hl
      rw [← List.dropLast_concat_getLast hne]
      exact h1 _ _ (ih _ (by rw [List.length_dropLast]; omega))
  exact this _ l rfl
theorem kyP_key (p : Nat × Nat) : WideAt.IsKeyLit (kyP p) := trivial
theorem mapP_tidy : ∀ (K : List (Nat × Nat)), Tidy (mapP K) :=
  snocP tidy_empty (fun l x ih => by rw [mapP_snoc]; exact ih.put (kyP_key _) _)
theorem mapP_has {p : Nat × Nat} (hp : SmP p) : ∀ (K : List (Nat × Nat)), (∀ x ∈ K, SmP x) → Maps.has (mapP K) (kyP p) = decide (p ∈ K) :=
  snocP (fun _ => by simp [mapP, Maps.has]) (fun l x ih hs => by
    rw [mapP_snoc]
    by_cases h : p = x
    · subst h
      rw [has_put_same (mapP_tidy l).isMap (kyP_key _)]; simp
    · rw [has_put_other (kyP_ne hp (hs x (by simp)) h), ih (fun y hy => hs y (List.mem_append_left _ hy))]; simp [h])
theorem mapP_at {p : Nat × Nat} (hp : SmP p) (z : MapH) : ∀ (K : List (Nat × Nat)), (∀ x ∈ K, SmP x) → K.Nodup → p ∈ K → (mapP K).atKey (kyP p) z = .lit (.int .i64 ((ixA K p : Nat) : Int)) :=
  snocP (fun _ _ h => by cases h) (fun l x ih hs hn h => by
    rw [mapP_snoc]
    rw [List.nodup_append] at hn
    by_cases e : p = x
    · subst e
      have hx : p ∉ l := fun h2 => hn.2.2 p h2 p (by simp) rfl
      rw [atKey_put_same (mapP_tidy l).isMap (kyP_key _), ixA_new hx]
    · have hl : p ∈ l := by
        rw [List.mem_append, List.mem_singleton] at h
        exact h.resolve_right e
      rw [atKey_put_other (kyP_ne hp (hs x (by simp)) e), ih (fun y hy => hs y (List.mem_append_left _ hy)) hn.1 hl, ixA_old hl])
theorem mapP_size : ∀ (K : List (Nat × Nat)), (∀ x ∈ K, SmP x) → K.Nodup → Maps.size (mapP K) = K.length :=
  snocP (fun _ _ => rfl) (fun l x ih hs hn => by
    rw [mapP_snoc, size_put (mapP_tidy l), mapP_has (hs x (by simp)) l (fun y hy => hs y (List.mem_append_left _ hy))]
    rw [List.nodup_append] at hn
    have hx : x ∉ l := fun h2 => hn.2.2 x h2 x (by simp) rfl
    rw [decide_eq_false hx, ih (fun y hy => hs y (List.mem_append_left _ hy)) hn.1, List.length_append]; rfl)
theorem firsts_nd {α : Type} [DecidableEq α] (l : List α) : (firsts l).Nodup := by
  refine snocI (P := fun l => (firsts l).Nodup) ?_ (fun w x ih => ?_) l
  · unfold firsts; exact List.nodup_nil
  · rw [firsts_snoc]
    split
    · exact ih
    · rename_i h
      rw [List.nodup_append]
      exact ⟨ih, by simp, fun y hy z hz => by rw [List.mem_singleton] at hz; subst hz; exact fun e => h (e ▸ hy)⟩
theorem Tryz.zeroIH (w : World) : (zeroValue 3).run Tryz.prog w = .ok (.int .i64 0) w := by kernel_rfl
theorem map_not_cellsH {W : World} {b n : Nat} {D : MapH} {R : Value → Option (MapH × List MemPlace)} {k : TypeId} (h : W.ownsMap Tryz.prog k R b n D) {c : Array Value} {t : TypeId} {fr : Nat × Nat} : W.heap[b]? ≠ some (.cells c t fr) := by
  obtain ⟨es, clock, hb, _⟩ := h
  rw [hb]; simp
theorem natR {c : List Nat} {i : Nat} (h : i < c.length) : (labsI c)[i]? = some ((c.getD i 0 : Nat) : Int) := by
  unfold labsI
  rw [List.getElem?_map, getD_opt h]; rfl
theorem labsI_lenH (w : List Nat) : (labsI w).length = w.length := by unfold labsI; rw [List.length_map]
set_option maxRecDepth 100000 in
set_option maxHeartbeats 6400000 in
theorem split_any (m : Nat → Nat → Nat) (n La l : Nat) (c : List Nat) (vm vc : Value) (w : World) (hrm : RowsRd w vm (mRows m n La)) (hrc : IntsRd w vc (labsI c)) (hc : c.length = n + 1) (hcs : ∀ x ∈ c, x ≤ n + 1) (hl : l < La) (hm : ∀ s l, s < n + 1 → m s l < n + 1) (hn : n ≤ 64) (hL : La ≤ 256) :
    Calls Tryz.prog 91 #[vm, vc, .int .i64 (l : Int)] w fun e w' => ∃ R, e = .returned (.slice (some ⟨R, 0, none⟩) (n + 1) (n + 1)) ∧ w.heap.size ≤ R ∧ IntsRd w' (.slice (some ⟨R, 0, none⟩) (n + 1) (n + 1)) (labsI (splitC m c l)) ∧ Below w.heap.size w w' := by
  have hmk := make_intsH (n + 1) (by omega)
  have hmm := @run_makeMap Tryz.prog
  have HRM := Lib.hid hrm
  have HRC := Lib.hid hrc
  have HM := Lib.hid hm
  obtain ⟨am, cm, hvm⟩ := hrm.form
  rw [mRows_len] at hvm
  subst hvm
  obtain ⟨ac, cc, hvc⟩ := hrc.form
  rw [labsI_lenH, hc] at hvc
  subst hvc
  obtain ⟨N, hN⟩ : ∃ N, n + 1 = N := ⟨_, rfl⟩
  rw [hN] at hmk hc hcs HM HRM HRC ⊢
  have HNN := Lib.hid hN
  have hN2 : N ≤ 65 := by omega
  have HCS := Lib.hid hcs
  have HC := Lib.hid hc
  have hgetc : ∀ i, i < N → c.getD i 0 ≤ N := fun i hi => by
    rw [List.getD_eq_getElem?_getD, List.getElem?_eq_getElem (by omega)]
    exact hcs _ (List.getElem_mem _)
  have HGC := Lib.hid hgetc
  obtain ⟨R, hR⟩ : ∃ R, w.heap.size = R := ⟨_, rfl⟩
  have R0 := Lib.hid ((IRow.made w N).keep (below1 (w.alloc (.cells (madeCells #[.int .i64 0] N) 3)) (.map #[] 0)))
  have M0 := Lib.hid (World.ownsMap_made (H := Unit) (w.alloc (.cells (madeCells #[.int .i64 0] N) 3)) Tryz.prog 67 (plainElem Tryz.prog 3))
  have B0 := Lib.hid (below_more (below1 w (.cells (madeCells #[.int .i64 0] N) 3)) (Nat.le_refl _) (below1 (w.alloc (.cells (madeCells #[.int .i64 0] N) 3)) (.map #[] 0)))
  rw [World.size_alloc, hR] at M0
  rw [hR] at R0
  have HRR := Lib.hid hR
  clear hrm hrc hm hN hcs hc hgetc
  go_enter Tryz.func91, Tryz.ntmps91
  go_wp2_with fail
  clear hmk hmm hR
  generalize ((w.alloc (.cells (madeCells #[.int .i64 0] N) 3)).alloc (.map #[] 0)) = X at *
  go_loopg [20] N (fun q s20 wx => ∃ i : Nat, i + q = N ∧ s20 = .int .i64 (i : Int) ∧ Hid (IRow wx R N (fun j => if j < i then (((splitC m c l).getD j 0 : Nat) : Int) else 0)) ∧ Hid (wx.ownsMap Tryz.prog 67 (plainElem Tryz.prog 3) (R + 1) i (mapP (firsts ((pairsC m c l).take i)))) ∧ Hid (Below w.heap.size w wx))
  case atStart => exact ⟨0, by omega, rfl, Lib.hid (R0.out.congr (fun j _ => by rw [if_neg (by omega)])), M0, B0⟩
  case round =>
    clear R0 M0 B0
    obtain ⟨i, hin, rfl, HR, HP, HB⟩ := hrel
    rcases gk with _ | q
    · obtain rfl : i = N := by omega
      have j0 : ¬ ((i : Int) < (i : Int)) := by omega
      have hl2 : (splitC m c l).length = i := by rw [splitC_len, HC.out]
      have HI := Lib.hid (show IntsRd wr (.slice (some ⟨R, 0, none⟩) i i) (labsI (splitC m c l)) by
        refine ⟨_, _, by rw [labsI_lenH, hl2], fun j x hx => ⟨R, 0, rfl, ?_⟩⟩
        have hj : j < i := by
          have := (List.getElem?_eq_some_iff.1 hx).1
          rwa [labsI_lenH, hl2] at this
        rw [natR (by omega)] at hx
        injection hx with hx
        rw [Nat.zero_add, HR.out.cell hj, if_pos hj, ← hx])
      clear hl2
      go_wp2_with fail
      go_ret
      exact ⟨R, rfl, by rw [HRR.out]; exact Nat.le_refl _, HI.out, HB.out⟩
    · obtain ⟨x, hx⟩ : ∃ x, c.getD i 0 = x := ⟨_, rfl⟩
      obtain ⟨t, ht⟩ : ∃ t, m i l = t := ⟨_, rfl⟩
      obtain ⟨y, hy⟩ : ∃ y, c.getD t 0 = y := ⟨_, rfl⟩
      have hiN : i < N := by omega
      have htN : t < N := by rw [← ht]; exact HM.out i l hiN
      have hxs : x ≤ N := by rw [← hx]; exact HGC.out i hiN
      have hys : y ≤ N := by rw [← hy]; exact HGC.out t htN
      have hs : SmP (x, y) := ⟨by show x ≤ 100000; omega, by show y ≤ 100000; omega⟩
      have hpa : (pairsC m c l)[i]? = some (x, y) := by rw [pairsC_at (by rw [HC.out]; exact hiN), hx, ht, hy]
      obtain ⟨K, hK⟩ : ∃ K, firsts ((pairsC m c l).take i) = K := ⟨_, rfl⟩
      have hKs : ∀ z ∈ K, SmP z := fun z hz => by
        rw [← hK, firsts_mem, mem_take_iff] at hz
        obtain ⟨j, hj, e⟩ := hz
        rw [pairsC_at (by rw [HC.out]; omega)] at e
        injection e with e
        subst e
        have h1 := HGC.out j (by omega)
        have h2 := HGC.out (m j l) (HM.out j l (by omega))
        exact ⟨by show c.getD j 0 ≤ 100000; omega, by show c.getD (m j l) 0 ≤ 100000; omega⟩
      have hKn : K.Nodup := by rw [← hK]; exact firsts_nd _
      have hgs : ∀ k, ixA (firsts (pairsC m c l)) (x, y) = k → (splitC m c l).getD i 0 = k := fun k hk => by
        have h1 : (canon (pairsC m c l))[i]? = some (ixA (firsts (pairsC m c l)) (x, y)) := canon_at hpa
        rw [hk] at h1
        have h2 := getD_opt (c := splitC m c l) (s := i) (by rw [splitC_len, HC.out]; exact hiN)
        have h3 : (splitC m c l)[i]? = some k := h1
        rw [h2] at h3
        injection h3
      have hgT := firsts_take hpa
      have hold : (x, y) ∈ firsts ((pairsC m c l).take i) → ixA (firsts (pairsC m c l)) (x, y) = ixA (firsts ((pairsC m c l).take i)) (x, y) := canon_old hpa
      have hnew : (x, y) ∉ firsts ((pairsC m c l).take i) → ixA (firsts (pairsC m c l)) (x, y) = (firsts ((pairsC m c l).take i)).length := canon_new hpa
      rw [hK] at HP hgT hold hnew
      have HPO := Lib.hid HP.out
      have hmp := HP.out.alloc (.cells #[.int .i64 (x : Int), .int .i64 (y : Int)] 67)
      have hkey := kyP_of hs
      have hlt := HR.out.lt
      have f4 := (HR.out.keep (below1 wr (.cells #[.int .i64 (x : Int), .int .i64 (y : Int)] 67))).frozen i
      have c4 := (HR.out.keep (below1 wr (.cells #[.int .i64 (x : Int), .int .i64 (y : Int)] 67))).cell hiN
      have HR1 := Lib.hid (HR.out.keep (below1 wr (.cells #[.int .i64 (x : Int), .int .i64 (y : Int)] 67)))
      have HB1 := Lib.hid (below_more HB.out (Nat.le_refl _) (below1 wr (.cells #[.int .i64 (x : Int), .int .i64 (y : Int)] 67)))
      obtain ⟨b1, o1, k1, hv1, p1⟩ := (HRC.out.keep HB.out).at (natR (i := i) (by rw [HC.out]; exact hiN))
      rw [labsI_lenH, HC.out] at hv1
      injection hv1 with e1 e2 e3
      subst e1
      obtain ⟨b3, o3, k3, hv3, p3⟩ := (HRC.out.keep HB.out).at (natR (i := t) (by rw [HC.out]; exact htN))
      injection hv3 with e7 e8 e9
      injection e7 with e7
      injection e7 with e7 e10
      subst e7
      subst e10
      obtain ⟨b2, o2, k2, u2, hv2, p2, r2⟩ := (HRM.out.keep HB.out).at (mRows_at (m := m) (La := La) (j := i) (by rw [HNN.out]; exact hiN))
      injection hv2 with e4 e5 e6
      subst e4
      obtain ⟨a7, c7, hu7⟩ := r2.form
      rw [mRow_len] at hu7
      subst hu7
      obtain ⟨b8, o8, k8, hv8, p8⟩ := r2.at (mRow_at hl)
      injection hv8 with e11 e12 e13
      subst e11
      rw [ht] at p8
      rw [hx] at p1
      rw [hy] at p3
      have j1 : (i : Int) < (N : Int) := by omega
      have j2 : (t : Int) < (N : Int) := by omega
      have j3 : (l : Int) < (La : Int) := by omega
      have hz := HRR.out
      have hKK := hK
      clear e2 e3 e5 e6 e8 e9 e12 e13 r2 hx ht hy hK HP hpa
      by_cases hin2 : (x, y) ∈ K
      · have hhas := mapP_has hs K hKs
        rw [decide_eq_true hin2] at hhas
        have HAT := Lib.hid (fun z => mapP_at hs z K hKs hKn hin2)
        have HGS := Lib.hid (hgs _ (hold hin2))
        have HGT := Lib.hid (show firsts ((pairsC m c l).take (i + 1)) = K by rw [hgT, if_pos hin2])
        have HMP := Lib.hid (fun (u : Value) => (HPO.out.setCell (a := ⟨R, i, none⟩) (by show R + 1 ≠ R; omega) u).alloc (.cells #[.int .i64 (x : Int), .int .i64 (y : Int)] 67))
        have HRS := Lib.hid (fun (u : Int) => (HR.out.set i u).keep (below1 _ (.cells #[.int .i64 (x : Int), .int .i64 (y : Int)] 67)))
        have HBS := Lib.hid (fun (u : Value) => below_more (HB.out.setCell (p := ⟨R, i, none⟩) (by show w.heap.size ≤ R; omega) u) (Nat.le_refl _) (below1 _ (.cells #[.int .i64 (x : Int), .int .i64 (y : Int)] 67)))
        clear hgs hold hnew hgT hKs hKn hin2 hs HR1 HB1
        go_wp2_with (at_lookup; refine wpList_lookup_own_ok_int _ rfl _ _ 137 rfl 67 3 .i64 Tryz.keyLawP Tryz.underlying137 Tryz.underlying3 (Tryz.zeroIH _) (R + 1) i (mapP K) rfl hmp _ _ rfl hkey ?_; intro z hat hwz; rw [hhas])
        have hz2 : z = ((ixA K (x, y) : Nat) : Int) := by
          rw [HAT.out] at hat
          injection hat with hat
          injection hat with _ hat
          exact hat.symm
        go_roundg q
        case measure => omega
        case rel =>
          refine ⟨i + 1, by omega, by go_num, Lib.hid ((HRS.out z).congr (fun j _ => ?_)), Lib.hid (by rw [HGT.out]; exact (HMP.out _).mono (Nat.le_succ _)), Lib.hid (HBS.out _)⟩
          try dsimp only
          by_cases e : j = i
          · subst e
            rw [if_pos rfl, if_pos (by omega), HGS.out]; exact hz2
          · rw [if_neg e]
            by_cases e2 : j < i
            · rw [if_pos e2, if_pos (by omega)]
            · rw [if_neg e2, if_neg (by omega)]
      · have hhas := mapP_has hs K hKs
        rw [decide_eq_false hin2] at hhas
        have HGS := Lib.hid (hgs _ (hnew hin2))
        have HGT := Lib.hid (show firsts ((pairsC m c l).take (i + 1)) = K ++ [(x, y)] by rw [hgT, if_neg hin2])
        have hsize := mapP_size K hKs hKn
        have HSZ := Lib.hid hsize
        have hKl : K.length ≤ i := by
          have h1 := firsts_le ((pairsC m c l).take i)
          rw [hKK] at h1
          rw [List.length_take] at h1
          omega
        obtain ⟨z, hz9⟩ : ∃ z, K.length = z := ⟨_, rfl⟩
        have HKL := Lib.hid hz9
        have hze : (Maps.size (mapP K) : Int) = (z : Int) := by rw [hsize, hz9]
        have hzi : z ≤ i := by omega
        clear hgs hold hnew hgT hKs hKn hin2 hsize hz9 hKl hKK
        go_wp2_with (first
          | (at_lookup; refine wpList_lookup_own_ok_int _ rfl _ _ 137 rfl 67 3 .i64 Tryz.keyLawP Tryz.underlying137 Tryz.underlying3 (Tryz.zeroIH _) (R + 1) i (mapP K) rfl hmp _ _ rfl hkey ?_; intro z0 hat hwz; rw [hhas])
          | (at_len; refine wpList_len_own _ rfl _ 137 rfl 67 3 Tryz.underlying137 _ (R + 1) i (mapP K) rfl hmp ?_; rw [hze])
          | (at_mapUpdate; refine wpList_mapUpdate_own _ rfl _ _ _ 137 rfl 67 3 Tryz.keyLawP Tryz.underlying137 _ (R + 1) i _ rfl hmp (by unfold maxLen; omega) _ _ _ rfl rfl hkey _ [] (plainElem_int Tryz.underlying3 (WalkArith.wf_i64 (by omega))) ?_; intro w1 hown1 hgrow1; (have HR5 := Lib.hid (show IRow w1 R N (fun j => if j < i then (((splitC m c l).getD j 0 : Nat) : Int) else 0) from World.rowIs.of_block HR1.out (hgrow1.block R HR1.out.lt (by intro e; injection e with e; omega)))); (have f5 := HR5.out.frozen i); (have c5 := HR5.out.cell hiN)))
        go_roundg q
        case measure => omega
        case rel =>
          refine ⟨i + 1, by omega, by go_num, Lib.hid ((HR5.out.set i (z : Int)).congr (fun j _ => ?_)), Lib.hid ?_, Lib.hid ((HB1.out.grown hgrow1 (by rw [World.size_alloc]; have := HB.out.size; omega) (fun k e => by injection e with e; omega)).setCell (p := ⟨R, i, none⟩) (by show w.heap.size ≤ R; omega) _)⟩
          · try dsimp only
            by_cases e : j = i
            · subst e
              rw [if_pos rfl, if_pos (by omega), HGS.out, HKL.out]
            · rw [if_neg e]
              by_cases e2 : j < i
              · rw [if_pos e2, if_pos (by omega)]
              · rw [if_neg e2, if_neg (by omega)]
          · rw [HGT.out, mapP_snoc, HKL.out]
            exact hown1.setCell (by show R + 1 ≠ R; omega) _
end Go.Proofs.YtiockphjnkehnaaGreatDoor
