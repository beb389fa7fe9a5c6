/- What minimal.checkDeterministic and Partition return. Condition: the edges can be read. Plain: edges sorted and each once (mkE), reversed edges (revE), and what slices.Compact makes of a list (ddE). No condition. Plain facts on merged graphs. No condition. -/
import Derived.Test.YtblkijdodojaeaaDoorQ29
import Derived.Test.YtblkijdodojaeaaDoorQ09
import Derived.Test.YtblkijdodojaeaaDoorQ01
import Derived.Test.YtblkijdodojaeaaDoorQ28

namespace Go.Proofs.YtblkijdodojaeaaDoor
open Go.RowKit Go.Maps Go.Lib
set_option linter.unusedSimpArgs false
set_option linter.unusedVariables false

/-- Why a graph is not a deterministic one. -/
def cdR (La S : Int) (es : List E3) : Int := if chkG La S es = 0 then (if detE es = true then 0 else 8) else 1
theorem cdR_zero {La S : Int} {es : List E3} (h : cdR La S es = 0) : VG La S es ∧ detE es = true := by
  unfold cdR at h
  by_cases h1 : chkG La S es = 0
  · rw [if_pos h1] at h
    by_cases h2 : detE es = true
    · exact ⟨chkG_zero h1, h2⟩
    · rw [if_neg h2] at h; cases h
  · rw [if_neg h1] at h; cases h
theorem cdR_ok {La S : Int} {es : List E3} (hvg : VG La S es) (hd : detE es = true) : cdR La S es = 0 := by
  unfold cdR; rw [if_pos hvg.chk, if_pos hd]
set_option maxRecDepth 100000 in
set_option maxHeartbeats 3200000 in
theorem checkDet_any (La S : Int) (es : List E3) (v : Value) (w : World) (hrd : EdgesRd w v es) (hn : es.length ≤ 9223372036854775807) :
    Calls Tryd.prog 74 #[grV La S v] w fun e w' => e = .returned (.int .i64 (cdR La S es)) ∧ Below w.heap.size w w' := by
  have HD := Lib.hid (deterministic_any La S es v _ (hrd.keep (below1 w (.cells #[.int .i64 La, .int .i64 S, v] 24))) hn)
  have B0 := Lib.hid (below1 w (.cells #[.int .i64 La, .int .i64 S, v] 24))
  obtain ⟨x1, x2, x3⟩ := BoxG.new w La S v 24
  obtain ⟨z, hz⟩ : ∃ z, cdR La S es = z := ⟨_, rfl⟩
  have HZ := Lib.hid hz
  rw [hz]
  obtain ⟨a, c, rfl⟩ := hrd.form
  clear hrd hz
  by_cases h1 : chkG La S es = 0
  · by_cases h2 : detE es = true
    · have e1 : detR La S es = (true, 0) := by unfold detR; rw [if_pos h1, h2]
      have HE := Lib.hid (show z = 0 by rw [← HZ.out]; unfold cdR; rw [if_pos h1, if_pos h2])
      rw [e1] at HD
      clear HZ h1 h2 e1
      go_enter Tryd.func74, Tryd.ntmps74
      go_wp2_with (go_at_call 60; (with_reducible refine HD.out.mono ?_); rintro e W1 ⟨rfl, b1⟩; (have B1 := Lib.hid (below_more B0.out (Nat.le_refl _) b1)); clear b1 x1 x2 x3)
      go_ret
      exact ⟨by rw [HE.out]; rfl, B1.out⟩
    · have e1 : detR La S es = (false, 0) := by unfold detR; rw [if_pos h1, Bool.eq_false_iff.2 h2]
      have HE := Lib.hid (show z = 8 by rw [← HZ.out]; unfold cdR; rw [if_pos h1, if_neg h2])
      rw [e1] at HD
      clear HZ h1 h2 e1
      go_enter Tryd.func74, Tryd.ntmps74
      go_wp2_with (go_at_call 60; (with_reducible refine HD.out.mono ?_); rintro e W1 ⟨rfl, b1⟩; (have B1 := Lib.hid (below_more B0.out (Nat.le_refl _) b1)); clear b1 x1 x2 x3)
      go_ret
      exact ⟨by rw [HE.out]; rfl, B1.out⟩
  · have e1 : detR La S es = (false, 1) := by unfold detR; rw [if_neg h1]
    have HE := Lib.hid (show z = 1 by rw [← HZ.out]; unfold cdR; rw [if_neg h1])
    rw [e1] at HD
    clear HZ h1 e1
    go_enter Tryd.func74, Tryd.ntmps74
    go_wp2_with (go_at_call 60; (with_reducible refine HD.out.mono ?_); rintro e W1 ⟨rfl, b1⟩; (have B1 := Lib.hid (below_more B0.out (Nat.le_refl _) b1)); clear b1 x1 x2 x3)
    go_ret
    exact ⟨by rw [HE.out]; rfl, B1.out⟩
set_option maxRecDepth 100000 in
set_option maxHeartbeats 3200000 in
theorem part_yes (La n : Nat) (es : List E3) (v : Value) (w : World) (hrd : EdgesRd w v es) (hvg : VG (La : Int) (n : Int) es) (hd : detE es = true) :
    Calls Tryd.prog 72 #[grV (La : Int) (n : Int) v] w fun e w' => ∃ g c, e = .returned (.tuple #[.slice (some ⟨g, 0, none⟩) n c, .int .i64 0]) ∧ w.heap.size ≤ g ∧ IntsRd w' (.slice (some ⟨g, 0, none⟩) n c) (labsI (classN (mT n es) La n)) ∧ Below w.heap.size w w' := by
  have hn64 : n ≤ 64 := by have := hvg.s2; omega
  have hL256 : La ≤ 256 := by have := hvg.l2; omega
  have hL1 : 1 ≤ La := by have := hvg.l1; omega
  have hl := hvg.len
  have HCD : Hid (∀ W, EdgesRd W v es → Calls Tryd.prog 74 #[grV (La : Int) (n : Int) v] W fun e W' => e = .returned (.int .i64 0) ∧ Below W.heap.size W W') := Lib.hid (fun W h => by
    refine (checkDet_any La n es v W h (by omega)).mono ?_
    rw [cdR_ok hvg hd]
    exact fun e W' h => h)
  have HMO := Lib.hid (fun W h => machineOf_any (La : Int) La n es v W h hvg.ok hn64 hL256 (by omega))
  have HCO := Lib.hid (fun M W h => classesOf_any (mT n es) n La (some ⟨M, 0, none⟩) (n + 1) W h (fun s l _ => Nat.lt_succ_of_le (mT_le hvg.ok s l)) hn64 hL1 hL256)
  have HRD := Lib.hid hrd
  have B0 := Lib.hid (below1 w (.cells #[.int .i64 (La : Int), .int .i64 (n : Int), v] 24))
  have G0 := Lib.hid (BoxG.new w (La : Int) (n : Int) v 24)
  obtain ⟨x1, x2, x3⟩ := id G0.out
  obtain ⟨a, c, rfl⟩ := hrd.form
  clear hrd hvg hd
  go_enter Tryd.func72, Tryd.ntmps72
  go_wp2_with (first
    | (go_at_call 74; (with_reducible refine (HCD.out _ (HRD.out.keep B0.out)).mono ?_); rintro e W1 ⟨rfl, b1⟩; (have B1 := Lib.hid (below_more B0.out (Nat.le_refl _) b1)); (have G1 := Lib.hid (G0.out.keep b1)); clear b1 x1 x2 x3; (obtain ⟨x1, x2, x3⟩ := id G1.out))
    | (go_at_call 75; (with_reducible refine (HMO.out _ (HRD.out.keep B1.out)).mono ?_); rintro e W2 ⟨M, rfl, r2, b2⟩; (have B2 := Lib.hid (B1.out.trans (b2.mono B1.out.size))); (have R2 := Lib.hid r2); clear b2 r2 x1 x2 x3)
    | (go_at_call 106; (with_reducible refine (HCO.out _ _ R2.out).mono ?_); rintro e W3 ⟨g3, c3, rfl, hg3, i3, b3⟩; (have B3 := Lib.hid (B2.out.trans (b3.mono B2.out.size))); (have I3 := Lib.hid i3); clear b3 i3))
  exact bodyPost_ret (v := .tuple #[.slice (some ⟨g3, 0, none⟩) n c3, .int .i64 0]) (by simp [results, Tryd.results72, go_sem]) rfl ⟨g3, c3, rfl, by have := B2.out.size; omega, I3.out, B3.out⟩
set_option maxRecDepth 100000 in
set_option maxHeartbeats 3200000 in
theorem part_no (La S z : Int) (es : List E3) (v : Value) (w : World) (hrd : EdgesRd w v es) (hn : es.length ≤ 9223372036854775807) (hz : cdR La S es = z) (h0 : z ≠ 0) :
    Calls Tryd.prog 72 #[grV La S v] w fun e w' => e = .returned (.tuple #[.slice none 0 0, .int .i64 z]) ∧ Below w.heap.size w w' := by
  have HCD := Lib.hid (checkDet_any La S es v _ (hrd.keep (below1 w (.cells #[.int .i64 La, .int .i64 S, v] 24))) hn)
  rw [hz] at HCD
  have B0 := Lib.hid (below1 w (.cells #[.int .i64 La, .int .i64 S, v] 24))
  obtain ⟨x1, x2, x3⟩ := BoxG.new w La S v 24
  have d1 : (z != 0) = true := by simpa using h0
  obtain ⟨a, c, rfl⟩ := hrd.form
  clear hrd hz h0
  go_enter Tryd.func72, Tryd.ntmps72
  go_wp2_with (go_at_call 74; (with_reducible refine HCD.out.mono ?_); rintro e W1 ⟨rfl, b1⟩; (have B1 := Lib.hid (below_more B0.out (Nat.le_refl _) b1)); clear b1 x1 x2 x3)
  exact bodyPost_ret (v := .tuple #[.slice none 0 0, .int .i64 z]) (by simp [results, Tryd.results72, go_sem]) rfl ⟨rfl, B1.out⟩
end Go.Proofs.YtblkijdodojaeaaDoor

namespace Go.Proofs.YtblkijdodojaeaaDoor
open Go

/-- The edges in order, each as often as it occurs. -/
def srtE (es : List E3) : List E3 := es.mergeSort (fun x y => !ltE y x)
/-- .. each once. -/
def ddE : List E3 → List E3
  | [] => []
  | [a] => [a]
  | a :: b :: r => if a = b then ddE (b :: r) else a :: ddE (b :: r)
def mkE (es : List E3) : List E3 := ddE (srtE es)
theorem ltE_trans' {a b c : E3} (h1 : ltE a b = true) (h2 : ltE b c = true) : ltE a c = true := by
  unfold ltE at *
  simp only [decide_eq_true_eq] at *
  omega
theorem ltE_total' {a b : E3} (h1 : ltE a b = false) (h2 : ltE b a = false) : a = b := by
  unfold ltE at *
  simp only [decide_eq_false_iff_not] at *
  obtain ⟨x, y, z⟩ := a
  obtain ⟨x', y', z'⟩ := b
  dsimp only at *
  have e1 : x = x' := by omega
  have e2 : y = y' := by omega
  have e3 : z = z' := by omega
  rw [e1, e2, e3]
theorem ltE_irr' (a : E3) : ltE a a = false := by
  unfold ltE
  simp only [decide_eq_false_iff_not]
  omega
theorem ltE_asym' {a b : E3} (h : ltE a b = true) : ltE b a = false := by
  cases h2 : ltE b a with
  | false => rfl
  | true => exact absurd (ltE_trans' h h2) (by rw [ltE_irr']; decide)
theorem srtE_perm (es : List E3) : (srtE es).Perm es := List.mergeSort_perm _ _
theorem srtE_pw (es : List E3) : (srtE es).Pairwise (fun a b => ltE b a = false) := by
  have := List.pairwise_mergeSort (le := fun x y => !ltE y x) (fun a b c h1 h2 => ?_) (fun a b => ?_) es
  · refine this.imp ?_
    intro a b h
    simpa using h
  · simp only [Bool.not_eq_true'] at *
    cases h : ltE c a with
    | false => rfl
    | true =>
      cases h3 : ltE c b with
      | true => rw [h3] at h2; cases h2
      | false =>
        cases h4 : ltE b c with
        | true => have := ltE_trans' h4 h; rw [this] at h1; cases h1
        | false => have := ltE_total' h3 h4; subst this; rw [h] at h1; cases h1
  · cases h : ltE b a with
    | false => rfl
    | true => rw [ltE_asym' h]; rfl
theorem srtE_len (es : List E3) : (srtE es).length = es.length := (srtE_perm es).length_eq
theorem ddE_mem : ∀ (l : List E3) (x : E3), x ∈ ddE l ↔ x ∈ l
  | [], x => Iff.rfl
  | [a], x => Iff.rfl
  | a :: b :: r, x => by
    unfold ddE
    by_cases h : a = b
    · rw [if_pos h, ddE_mem (b :: r) x, h]
      simp
    · rw [if_neg h, List.mem_cons, ddE_mem (b :: r) x, List.mem_cons (b := a)]
theorem ddE_len : ∀ (l : List E3), (ddE l).length ≤ l.length
  | [] => Nat.le_refl _
  | [a] => Nat.le_refl _
  | a :: b :: r => by
    unfold ddE
    have := ddE_len (b :: r)
    split
    · exact Nat.le_trans this (by simp)
    · simp only [List.length_cons] at *
      omega
theorem ddE_pw : ∀ {l : List E3}, l.Pairwise (fun a b => ltE b a = false) → (ddE l).Pairwise (fun a b => ltE a b = true)
  | [], _ => List.Pairwise.nil
  | [a], _ => List.pairwise_singleton _ _
  | a :: b :: r, h => by
    obtain ⟨h1, h2⟩ := List.pairwise_cons.1 h
    have ih := ddE_pw h2
    unfold ddE
    by_cases hab : a = b
    · rw [if_pos hab]; exact ih
    · rw [if_neg hab]
      refine List.Pairwise.cons (fun x hx => ?_) ih
      rw [ddE_mem] at hx
      have hb := h1 b List.mem_cons_self
      have hlt : ltE a b = true := by
        cases h3 : ltE a b with
        | true => rfl
        | false => exact absurd (ltE_total' h3 hb) hab
      rcases List.mem_cons.1 hx with rfl | hx
      · exact hlt
      · have hbx := (List.pairwise_cons.1 h2).1 x hx
        cases h3 : ltE b x with
        | true => exact ltE_trans' hlt h3
        | false => rw [← ltE_total' h3 hbx]; exact hlt
theorem mkE_mem {es : List E3} {x : E3} : x ∈ mkE es ↔ x ∈ es := by unfold mkE; rw [ddE_mem]; exact (srtE_perm es).mem_iff
theorem mkE_pw (es : List E3) : (mkE es).Pairwise (fun a b => ltE a b = true) := ddE_pw (srtE_pw es)
theorem mkE_len (es : List E3) : (mkE es).length ≤ es.length := by unfold mkE; have := ddE_len (srtE es); rw [srtE_len] at this; exact this
/-- Ascending lists with the same members are equal. -/
theorem asc_eq : ∀ {l m : List E3}, l.Pairwise (fun a b => ltE a b = true) → m.Pairwise (fun a b => ltE a b = true) → (∀ x, x ∈ l ↔ x ∈ m) → l = m
  | [], [], _, _, _ => rfl
  | [], b :: m, _, _, h => absurd ((h b).2 List.mem_cons_self) (by simp)
  | a :: l, [], _, _, h => absurd ((h a).1 List.mem_cons_self) (by simp)
  | a :: l, b :: m, h1, h2, h => by
    obtain ⟨p1, q1⟩ := List.pairwise_cons.1 h1
    obtain ⟨p2, q2⟩ := List.pairwise_cons.1 h2
    have hab : a = b := by
      rcases List.mem_cons.1 ((h a).1 List.mem_cons_self) with e | ha
      · exact e
      · rcases List.mem_cons.1 ((h b).2 List.mem_cons_self) with e | hb
        · exact e.symm
        · have := ltE_asym' (p1 b hb)
          rw [p2 a ha] at this
          cases this
    subst hab
    rw [asc_eq q1 q2]
    intro x
    constructor
    · intro hx
      rcases List.mem_cons.1 ((h x).1 (List.mem_cons_of_mem _ hx)) with e | hx2
      · subst e; have := p1 x hx; rw [ltE_irr'] at this; cases this
      · exact hx2
    · intro hx
      rcases List.mem_cons.1 ((h x).2 (List.mem_cons_of_mem _ hx)) with e | hx2
      · subst e; have := p2 x hx; rw [ltE_irr'] at this; cases this
      · exact hx2
theorem mkE_same {es fs : List E3} (h : ∀ x, x ∈ es ↔ x ∈ fs) : mkE es = mkE fs := asc_eq (mkE_pw es) (mkE_pw fs) (fun x => by rw [mkE_mem, mkE_mem]; exact h x)
theorem mkE_self {es : List E3} (h : es.Pairwise (fun a b => ltE a b = true)) : mkE es = es := asc_eq (mkE_pw es) h (fun _ => mkE_mem)
/-! ### Reversing -/
def trnE (e : E3) : E3 := (e.2.2, e.2.1, e.1)
theorem trnE_trnE (e : E3) : trnE (trnE e) = e := rfl
def revE (es : List E3) : List E3 := mkE (es.map trnE)
theorem revE_mem {es : List E3} {x : E3} : x ∈ revE es ↔ trnE x ∈ es := by
  unfold revE
  rw [mkE_mem, List.mem_map]
  constructor
  · rintro ⟨a, ha, rfl⟩; exact ha
  · intro h; exact ⟨trnE x, h, rfl⟩
theorem revE_len (es : List E3) : (revE es).length ≤ es.length := by unfold revE; have := mkE_len (es.map trnE); rwa [List.length_map] at this
theorem revE_vg {L S : Int} {es : List E3} (h : VG L S es) : VG L S (revE es) := by
  refine ⟨h.l1, h.l2, h.s1, h.s2, Nat.le_trans (revE_len es) h.len, fun e he => ?_, mkE_pw _⟩
  have := okE_iff.1 (h.ok _ (revE_mem.1 he))
  unfold trnE at this
  rw [okE_iff]
  dsimp only at this
  omega
theorem revE_revE {L S : Int} {es : List E3} (h : VG L S es) : revE (revE es) = es := asc_eq (mkE_pw _) h.asc (fun x => by rw [revE_mem, revE_mem, trnE_trnE])
/-- Compact, element by element: what stands in front is kept. -/
theorem ddE_take : ∀ (l : List E3) (k : Nat), (∀ i, i < k → i + 1 < l.length → l[i]? ≠ l[i + 1]?) → k < l.length → ddE l = l.take k ++ ddE (l.drop k)
  | l, 0, _, _ => by simp
  | [], k + 1, _, h => by simp at h
  | [a], k + 1, _, h => by simp at h
  | a :: b :: r, k + 1, h, hk => by
    have h0 := h 0 (by omega) (by simp)
    have hab : a ≠ b := by simpa using h0
    rw [ddE, if_neg hab, ddE_take (b :: r) k (fun i hi hl => h (i + 1) (by omega) (by simp at hl ⊢; omega)) (by simpa using hk)]
    simp
theorem ddE_whole (l : List E3) (h : ∀ i, i + 1 < l.length → l[i]? ≠ l[i + 1]?) : ddE l = l := by
  match l with
  | [] => rfl
  | [a] => rfl
  | a :: b :: r =>
    have h0 : a ≠ b := by simpa using h 0 (by simp)
    rw [ddE, if_neg h0, ddE_whole (b :: r) (fun i hi => h (i + 1) (by simp at hi ⊢; omega))]
end Go.Proofs.YtblkijdodojaeaaDoor

namespace Go.Proofs.YtblkijdodojaeaaDoor
set_option linter.unusedVariables false

def mgE (es : List E3) (c : List Nat) : List E3 := es.map fun e => (((c.getD e.1.toNat 0 : Nat) : Int), e.2.1, ((c.getD e.2.2.toNat 0 : Nat) : Int))
def numC (c : List Nat) : Nat := c.foldl (fun m x => max m (x + 1)) 0
theorem numC_snoc (c : List Nat) (x : Nat) : numC (c ++ [x]) = max (numC c) (x + 1) := by unfold numC; rw [List.foldl_append]; rfl
theorem numC_lt : ∀ c : List Nat, ∀ x ∈ c, x < numC c := by
  intro c
  refine snocI (P := fun c => ∀ x ∈ c, x < numC c) (fun x hx => by cases hx) (fun w l ih x hx => ?_) c
  rw [numC_snoc]
  rw [List.mem_append, List.mem_singleton] at hx
  rcases hx with hx | rfl
  · have := ih x hx; omega
  · omega
theorem numC_le {B : Nat} : ∀ c : List Nat, (∀ x ∈ c, x < B) → numC c ≤ B := by
  intro c
  refine snocI (P := fun c => (∀ x ∈ c, x < B) → numC c ≤ B) (fun _ => Nat.zero_le _) (fun w l ih h => ?_) c
  rw [numC_snoc]
  have h1 := ih (fun x hx => h x (List.mem_append_left _ hx))
  have h2 := h l (by simp)
  omega
theorem canon_small {α : Type} [DecidableEq α] (l : List α) {i x : Nat} (h : (canon l)[i]? = some x) : x ≤ i := by
  have hi : i < l.length := by
    have := (List.getElem?_eq_some_iff.1 h).1
    rwa [canon_len] at this
  have hx := List.getElem?_eq_getElem hi
  rw [canon_at hx] at h
  injection h with h
  rw [canon_step hx] at h
  have h1 := firsts_le (l.take (i + 1))
  rw [List.length_take] at h1
  have h2 : (firsts (l.take (i + 1))).idxOf l[i] < (firsts (l.take (i + 1))).length := List.idxOf_lt_length_iff.2 ((firsts_mem _ _).2 (mem_take_iff.2 ⟨i, by omega, hx⟩))
  omega
/-- What is known of the classes: those of states that no labels tell apart, numbered in the order of their least states. -/
theorem classN_get (m : Nat → Nat → Nat) (La n : Nat) (hL : 1 ≤ La) : ∃ C : List Nat, C.length = n + 1 ∧ classN m La n = C.take n ∧ canon C = C ∧ ((∀ s l, s < n + 1 → m s l < n + 1) → (∀ l, m n l = n) → ∀ s t, s < n + 1 → t < n + 1 →
    (C.getD s 0 = C.getD t 0 ↔ ∀ w : List Nat, (∀ l ∈ w, l < La) → (mrun m s w = n ↔ mrun m t w = n))) := by
  obtain ⟨K, -, h2, -, h4⟩ := stopC_get m La n hL
  refine ⟨rndC m La (startC n) K, by rw [rndC_len, startC_len], h4, ?_, fun hm hn s t hs ht => rndC_iff hm hn h2 hs ht⟩
  rw [← h2]
  exact roundC_canon m La _ hL
theorem classN_len (m : Nat → Nat → Nat) (La n : Nat) (hL : 1 ≤ La) : (classN m La n).length = n := by
  obtain ⟨C, h1, h2, -⟩ := classN_get m La n hL
  rw [h2, List.length_take, h1]; omega
theorem classN_small {m : Nat → Nat → Nat} {La n : Nat} (hL : 1 ≤ La) {i x : Nat} (h : (classN m La n)[i]? = some x) : x ≤ i := by
  obtain ⟨C, h1, h2, h3, -⟩ := classN_get m La n hL
  have hi : i < n := by
    have := (List.getElem?_eq_some_iff.1 h).1
    rwa [classN_len m La n hL] at this
  rw [h2, List.getElem?_take_of_lt hi, ← h3] at h
  exact canon_small C h
theorem classN_num (m : Nat → Nat → Nat) (La n : Nat) (hL : 1 ≤ La) : numC (classN m La n) ≤ n := by
  refine numC_le _ (fun x hx => ?_)
  obtain ⟨i, hi⟩ := List.mem_iff_getElem?.1 hx
  have h1 := classN_small hL hi
  have h2 := (List.getElem?_eq_some_iff.1 hi).1
  rw [classN_len m La n hL] at h2
  omega
/-- Classes are those of states that no labels tell apart. -/
theorem classN_iff {m : Nat → Nat → Nat} {La n : Nat} (hL : 1 ≤ La) (hm : ∀ s l, s < n + 1 → m s l < n + 1) (hn : ∀ l, m n l = n) {s t : Nat} (hs : s < n) (ht : t < n) :
    (classN m La n).getD s 0 = (classN m La n).getD t 0 ↔ ∀ w : List Nat, (∀ l ∈ w, l < La) → (mrun m s w = n ↔ mrun m t w = n) := by
  obtain ⟨C, h1, h2, h3, h4⟩ := classN_get m La n hL
  have hg : ∀ k, k < n → (classN m La n).getD k 0 = C.getD k 0 := fun k hk => by
    rw [h2, List.getD_eq_getElem?_getD, List.getElem?_take_of_lt hk, ← List.getD_eq_getElem?_getD]
  rw [hg s hs, hg t ht]
  exact h4 hm hn s t (by omega) (by omega)
theorem mgE_len (es : List E3) (c : List Nat) : (mgE es c).length = es.length := by unfold mgE; rw [List.length_map]
theorem getD_mem {c : List Nat} {i : Nat} (h : i < c.length) : c.getD i 0 ∈ c := by
  rw [List.getD_eq_getElem?_getD, List.getElem?_eq_getElem h]
  exact List.getElem_mem h
theorem merged_vg {La n : Nat} {es : List E3} {c : List Nat} (hvg : VG (La : Int) (n : Int) es) (hc : c.length = n) (hnc : numC c ≤ 64) : VG (La : Int) ((numC c : Nat) : Int) (mkE (mgE es c)) := by
  refine ⟨hvg.l1, hvg.l2, by omega, by omega, ?_, fun e he => ?_, mkE_pw _⟩
  · have h1 := mkE_len (mgE es c)
    rw [mgE_len] at h1
    have := hvg.len
    omega
  · rw [mkE_mem] at he
    unfold mgE at he
    obtain ⟨f, hf, rfl⟩ := List.mem_map.1 he
    have h1 := okE_iff.1 (hvg.ok f hf)
    have h2 := numC_lt c _ (getD_mem (c := c) (i := f.1.toNat) (by omega))
    have h3 := numC_lt c _ (getD_mem (c := c) (i := f.2.2.toNat) (by omega))
    refine okE_iff.2 ?_
    dsimp only
    omega
end Go.Proofs.YtblkijdodojaeaaDoor
