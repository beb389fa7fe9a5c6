/- What graph.Essential returns for a valid graph. No further condition. Plain facts on the essential part: it is valid, every state is entered and left, its essential part is itself; a closed path lies in it. No condition. What groovelaw09.awake returns: true. No condition. -/
import Derived.Test.YthhbbiafffpknaaDoorQ07
import Derived.Test.YthhbbiafffpknaaDoorQ06

namespace Go.Proofs.YthhbbiafffpknaaDoor
open Go.RowKit
set_option linter.unusedSimpArgs false
set_option linter.unusedVariables false

theorem mems_iff {n : Nat} {f : Nat → Bool} {x : Int} : x ∈ mems n f ↔ ∃ i : Nat, x = (i : Int) ∧ i < n ∧ f i = true := by
  unfold mems
  rw [List.mem_map]
  constructor
  · rintro ⟨i, h, rfl⟩
    obtain ⟨h1, h2⟩ := List.mem_filter.1 h
    exact ⟨i, rfl, List.mem_range.1 h1, h2⟩
  · rintro ⟨i, rfl, h1, h2⟩
    exact ⟨i, List.mem_filter.2 ⟨List.mem_range.2 h1, h2⟩, rfl⟩
theorem mems_asc (n : Nat) (f : Nat → Bool) : (mems n f).Pairwise (· < ·) := by
  unfold mems
  rw [List.pairwise_map]
  refine (List.Pairwise.filter f List.pairwise_lt_range).imp ?_
  intro a b h
  omega
theorem mems_sg (n : Nat) (f : Nat → Bool) : SG (n : Int) (mems n f) := ⟨fun x hx => by obtain ⟨i, rfl, h, -⟩ := mems_iff.1 hx; omega, mems_asc n f⟩
theorem ints_over {W : World} {A b : Nat} {v : Value} {l : List Int} (h : IntsAt W A v l) (hb : b < A) (x y z : Value) {B : Nat} (hB : B ≤ A) : IntsAt (((W.setCell ⟨b, 0, none⟩ x).setCell ⟨b, 1, none⟩ y).setCell ⟨b, 2, none⟩ z) B v l :=
  own_low (ownsRow_setCell_below (ownsRow_setCell_below (ownsRow_setCell_below h (a := ⟨b, 0, none⟩) hb _) (a := ⟨b, 1, none⟩) hb _) (a := ⟨b, 2, none⟩) hb _) hB
/-- The essential part, and its states. -/
def EOut (w : World) (L : Int) (n : Nat) (es : List E3) (e : Ending) (w' : World) : Prop := ∃ f v u, Ess n es f ∧ e = .returned (.tuple #[grV L ((mems n f).length : Int) v, u, .int .i64 0]) ∧ EdgesAt w' w.heap.size v (partE (mems n f) es) ∧ IntsAt w' w.heap.size u (mems n f) ∧ Below w.heap.size w w'
end Go.Proofs.YthhbbiafffpknaaDoor

namespace Go.Proofs.YthhbbiafffpknaaDoor
set_option linter.unusedVariables false

theorem idx_lt {l : List Int} {a : Int} (h : a ∈ l) : l.idxOf a < l.length := List.idxOf_lt_length_of_mem h
theorem idx_get {l : List Int} {a : Int} (h : a ∈ l) : l[l.idxOf a]? = some a := by
  rw [List.getElem?_eq_getElem (idx_lt h), List.getElem_idxOf]
theorem asc_lt {l : List Int} (h : l.Pairwise (· < ·)) {i j : Nat} {a b : Int} (ha : l[i]? = some a) (hb : l[j]? = some b) (hij : i < j) : a < b := by
  obtain ⟨hi, rfl⟩ := List.getElem?_eq_some_iff.1 ha
  obtain ⟨hj, rfl⟩ := List.getElem?_eq_some_iff.1 hb
  exact List.pairwise_iff_getElem.1 h i j hi hj hij
theorem idx_mono {l : List Int} (h : l.Pairwise (· < ·)) {a b : Int} (ha : a ∈ l) (hb : b ∈ l) (hab : a < b) : l.idxOf a < l.idxOf b := by
  rcases Nat.lt_or_ge (l.idxOf a) (l.idxOf b) with h1 | h1
  · exact h1
  · rcases Nat.lt_or_ge (l.idxOf b) (l.idxOf a) with h2 | h2
    · have := asc_lt h (idx_get hb) (idx_get ha) h2
      omega
    · have e : l.idxOf a = l.idxOf b := by omega
      have k1 := idx_get ha
      rw [e, idx_get hb] at k1
      injection k1 with k1
      omega
theorem idx_of {l : List Int} (h : l.Pairwise (· < ·)) {i : Nat} {a : Int} (ha : l[i]? = some a) : l.idxOf a = i := by
  have hm : a ∈ l := List.mem_of_getElem? ha
  rcases Nat.lt_or_ge (l.idxOf a) i with h1 | h1
  · have := asc_lt h (idx_get hm) ha h1; omega
  · rcases Nat.lt_or_ge i (l.idxOf a) with h2 | h2
    · have := asc_lt h ha (idx_get hm) h2; omega
    · omega
theorem partE_mem {st : List Int} {es : List E3} {x : E3} : x ∈ partE st es ↔ ∃ e ∈ es, (e.1 ∈ st ∧ e.2.2 ∈ st) ∧ x = ((st.idxOf e.1 : Int), e.2.1, (st.idxOf e.2.2 : Int)) := by
  unfold partE
  rw [List.mem_filterMap]
  constructor
  · rintro ⟨e, he, h⟩
    split at h
    · injection h with h
      exact ⟨e, he, by assumption, h.symm⟩
    · cases h
  · rintro ⟨e, he, h, rfl⟩
    exact ⟨e, he, by rw [if_pos h]⟩
theorem part_ltE {st : List Int} (h : st.Pairwise (· < ·)) {a b : E3} (ha : a.1 ∈ st ∧ a.2.2 ∈ st) (hb : b.1 ∈ st ∧ b.2.2 ∈ st) (hab : ltE a b = true) :
    ltE ((st.idxOf a.1 : Int), a.2.1, (st.idxOf a.2.2 : Int)) ((st.idxOf b.1 : Int), b.2.1, (st.idxOf b.2.2 : Int)) = true := by
  rw [ltE_iff] at hab ⊢
  dsimp only
  rcases hab with h1 | ⟨h1, h2 | ⟨h2, h3⟩⟩
  · have := idx_mono h ha.1 hb.1 h1
    left; omega
  · right; exact ⟨by rw [h1], .inl h2⟩
  · right
    have := idx_mono h ha.2 hb.2 h3
    exact ⟨by rw [h1], .inr ⟨h2, by omega⟩⟩
theorem part_asc {st : List Int} (h : st.Pairwise (· < ·)) {es : List E3} (hes : es.Pairwise (fun a b => ltE a b = true)) : (partE st es).Pairwise (fun a b => ltE a b = true) := by
  unfold partE
  rw [List.pairwise_filterMap]
  refine hes.imp ?_
  intro a b hab x hx y hy
  split at hx
  · split at hy
    · injection hx with hx
      injection hy with hy
      subst hx
      subst hy
      exact part_ltE h (by assumption) (by assumption) hab
    · cases hy
  · cases hx
/-- A part of a valid graph is valid. -/
theorem part_vg {L : Int} {n : Nat} {es : List E3} {st : List Int} (h : VG L (n : Int) es) (hs : SG (n : Int) st) : VG L (st.length : Int) (partE st es) := by
  have hl := hs.len
  have := h.s2
  refine ⟨h.l1, h.l2, by omega, by omega, Nat.le_trans (partE_len st es) h.len, fun x hx => ?_, part_asc hs.2 h.asc⟩
  obtain ⟨e, he, ⟨h1, h2⟩, rfl⟩ := partE_mem.1 hx
  have := okE_iff.1 (h.ok e he)
  have := idx_lt h1
  have := idx_lt h2
  rw [okE_iff]
  dsimp only
  omega
section
variable {L : Int} {n : Nat} {es : List E3} {f : Nat → Bool}
/-- Every state of the essential part is entered, and left. -/
theorem ess_in (h : VG L (n : Int) es) (hf : Ess n es f) {t : Nat} (ht : t < (mems n f).length) :
    (∃ e ∈ partE (mems n f) es, e.1 = (t : Int)) ∧ (∃ e ∈ partE (mems n f) es, e.2.2 = (t : Int)) := by
  have hg := mems_asc n f
  have ha : (mems n f)[t]? = some (mems n f)[t] := List.getElem?_eq_getElem ht
  obtain ⟨i, hi, hin, hfi⟩ := mems_iff.1 (List.mem_of_getElem? ha)
  rw [hi] at ha
  have hix := idx_of hg ha
  have hp := hf.fix i hin
  rw [hfi] at hp
  obtain ⟨⟨e, he, ⟨h1, h2⟩, h3⟩, ⟨d, hd, ⟨k1, k2⟩, k3⟩⟩ := passF_iff.1 hp
  obtain ⟨a1, a2, a3, a4⟩ := okE_st (h.ok e he)
  obtain ⟨b1, b2, b3, b4⟩ := okE_st (h.ok d hd)
  have m1 : e.1 ∈ mems n f := mems_iff.2 ⟨_, a3, a1, h1⟩
  have m2 : e.2.2 ∈ mems n f := mems_iff.2 ⟨_, a4, a2, h2⟩
  have m3 : d.1 ∈ mems n f := mems_iff.2 ⟨_, b3, b1, k1⟩
  have m4 : d.2.2 ∈ mems n f := mems_iff.2 ⟨_, b4, b2, k2⟩
  exact ⟨⟨_, partE_mem.2 ⟨d, hd, ⟨m3, m4⟩, rfl⟩, by dsimp only; rw [k3, hix]⟩, ⟨_, partE_mem.2 ⟨e, he, ⟨m1, m2⟩, rfl⟩, by dsimp only; rw [h3, hix]⟩⟩
end
theorem filterMap_same {α : Type} {g : α → Option α} : ∀ {l : List α}, (∀ e ∈ l, g e = some e) → l.filterMap g = l
  | [], _ => rfl
  | a :: l, h => by
    rw [List.filterMap_cons_some (h a List.mem_cons_self), filterMap_same (fun e he => h e (List.mem_cons_of_mem _ he))]
/-- All numbers below k. -/
def allI (k : Nat) : List Int := (List.range k).map fun (i : Nat) => (i : Int)
theorem allI_len (k : Nat) : (allI k).length = k := by unfold allI; rw [List.length_map, List.length_range]
theorem mems_all {k : Nat} {f : Nat → Bool} (h : ∀ i, i < k → f i = true) : mems k f = allI k := by
  unfold mems allI
  rw [List.filter_eq_self.2 (fun x hx => h x (List.mem_range.1 hx))]
theorem allI_get {k i : Nat} (h : i < k) : (allI k)[i]? = some (i : Int) := by
  unfold allI
  rw [List.getElem?_map, List.getElem?_range h]; rfl
theorem allI_mem {k : Nat} {x : Int} : x ∈ allI k ↔ 0 ≤ x ∧ x < (k : Int) := by
  unfold allI
  rw [List.mem_map]
  constructor
  · rintro ⟨a, ha, rfl⟩
    rw [List.mem_range] at ha
    omega
  · rintro ⟨h1, h2⟩
    exact ⟨x.toNat, List.mem_range.2 (by omega), by omega⟩
theorem allI_asc (k : Nat) : (allI k).Pairwise (· < ·) := by
  have := mems_asc k (fun _ => true)
  rw [mems_all (fun _ _ => rfl)] at this
  exact this
theorem part_all {L : Int} {k : Nat} {es : List E3} (h : ∀ e ∈ es, okE L (k : Int) e = true) : partE (allI k) es = es := by
  unfold partE
  have : ∀ e ∈ es, (if e.1 ∈ allI k ∧ e.2.2 ∈ allI k then some (((allI k).idxOf e.1 : Int), e.2.1, ((allI k).idxOf e.2.2 : Int)) else none) = some e := fun e he => by
    obtain ⟨a1, a2, a3, a4⟩ := okE_st (h e he)
    have m1 : e.1 ∈ allI k := allI_mem.2 (by omega)
    have m2 : e.2.2 ∈ allI k := allI_mem.2 (by omega)
    have g1 := allI_get a1
    have g2 := allI_get a2
    rw [← a3] at g1
    rw [← a4] at g2
    rw [if_pos ⟨m1, m2⟩, idx_of (allI_asc k) g1, idx_of (allI_asc k) g2, ← a3, ← a4]
  exact filterMap_same this
/-- The essential part of an essential part has all of its states. -/
theorem ess_again {L : Int} {n : Nat} {es : List E3} {f f' : Nat → Bool} (h : VG L (n : Int) es) (hf : Ess n es f) (hf' : Ess (mems n f).length (partE (mems n f) es) f') : mems (mems n f).length f' = allI (mems n f).length ∧ partE (mems (mems n f).length f') (partE (mems n f) es) = partE (mems n f) es := by
  have h1 : mems (mems n f).length f' = allI (mems n f).length := mems_all (fun i hi => hf'.most (fun _ => true) (fun j hj _ => by
    obtain ⟨⟨e, he, h1⟩, ⟨d, hd, h2⟩⟩ := ess_in h hf hj
    exact passF_iff.2 ⟨⟨d, hd, ⟨rfl, rfl⟩, h2⟩, ⟨e, he, ⟨rfl, rfl⟩, h1⟩⟩) i hi rfl)
  refine ⟨h1, ?_⟩
  rw [h1]
  exact part_all (part_vg h (mems_sg n f)).ok
/-- What is reached from s in one or more steps. -/
inductive Rch (es : List E3) (s : Int) : Int → Prop
  | one {e : E3} : e ∈ es → e.1 = s → Rch es s e.2.2
  | more {x : Int} {e : E3} : Rch es s x → e ∈ es → e.1 = x → Rch es s e.2.2
theorem Rch.front {es : List E3} {e : E3} (he : e ∈ es) {x : Int} (h : Rch es e.2.2 x) : Rch es e.1 x := by
  induction h with
  | one hd h1 => exact .more (.one he rfl) hd h1
  | more _ hd h1 ih => exact .more ih hd h1
theorem Rch.last {es : List E3} {s x : Int} (h : Rch es s x) : ∃ e ∈ es, e.2.2 = x ∧ (e.1 = s ∨ Rch es s e.1) := by
  cases h with
  | one he h1 => exact ⟨_, he, rfl, .inl h1⟩
  | more h0 he h1 => exact ⟨_, he, rfl, .inr (by rw [h1]; exact h0)⟩
theorem Rch.first {es : List E3} {s x : Int} (h : Rch es s x) : ∃ e ∈ es, e.1 = s ∧ (e.2.2 = x ∨ Rch es e.2.2 x) := by
  induction h with
  | one he h1 => exact ⟨_, he, h1, .inl rfl⟩
  | more h0 he h1 ih =>
    obtain ⟨d, hd, k1, k2 | k2⟩ := ih
    · exact ⟨d, hd, k1, .inr (.one he (by rw [h1, k2]))⟩
    · exact ⟨d, hd, k1, .inr (.more k2 he h1)⟩
open Classical in
/-- The states of a closed path are essential. -/
theorem ess_closed {L : Int} {n : Nat} {es : List E3} {f : Nat → Bool} (h : VG L (n : Int) es) (hf : Ess n es f) {s : Nat} (hs : s < n) (hr : Rch es (s : Int) (s : Int)) : (s : Int) ∈ mems n f := by
  refine mems_iff.2 ⟨s, rfl, hs, hf.most (fun i => decide (Rch es (s : Int) (i : Int) ∧ Rch es (i : Int) (s : Int))) (fun i hi hT => ?_) s hs (decide_eq_true ⟨hr, hr⟩)⟩
  obtain ⟨h1, h2⟩ := of_decide_eq_true hT
  obtain ⟨e, he, e1, e2⟩ := h1.last
  obtain ⟨d, hd, d1, d2⟩ := h2.first
  obtain ⟨a1, a2, a3, a4⟩ := okE_st (h.ok e he)
  obtain ⟨b1, b2, b3, b4⟩ := okE_st (h.ok d hd)
  refine passF_iff.2 ⟨⟨e, he, ⟨decide_eq_true ?_, decide_eq_true ?_⟩, e1⟩, ⟨d, hd, ⟨decide_eq_true ?_, decide_eq_true ?_⟩, d1⟩⟩
  · rw [← a3]
    exact ⟨by rcases e2 with e2 | e2; · rw [e2]; exact hr
              · exact e2, Rch.front he (by rw [e1]; exact h2)⟩
  · rw [← a4, e1]; exact ⟨h1, h2⟩
  · rw [← b3, d1]; exact ⟨h1, h2⟩
  · rw [← b4]
    exact ⟨.more h1 hd d1, by rcases d2 with d2 | d2; · rw [d2]; exact hr
                              · exact d2⟩
end Go.Proofs.YthhbbiafffpknaaDoor

namespace Go.Proofs.YthhbbiafffpknaaDoor
open Go.RowKit
set_option linter.unusedSimpArgs false
set_option linter.unusedVariables false

abbrev gE : List E3 := [(0, 0, 0), (0, 1, 1), (1, 0, 0)]
abbrev mE : List E3 := [(0, 0, 0), (0, 1, 1), (1, 0, 0), (1, 1, 2)]
theorem edgesLit (W : World) (es : List E3) (h0 : 0 < es.length) (hl : es.length ≤ 1000) : EdgesAt (W.alloc (.cells (ecl es).toArray 57)) W.heap.size (.slice (some ⟨W.heap.size, 0, none⟩) es.length es.length) es :=
  ⟨by rw [ecl_len], .inr ⟨W.heap.size, es.length, (ecl es).toArray, rfl, Nat.le_refl _, heap_alloc_new W _, Nat.le_refl _, by unfold maxLen; omega, by rw [List.size_toArray, ecl_len], by
    show (ecl es).take (es.length * 3) = _; rw [← ecl_len, List.take_length]⟩⟩
theorem intsLit (W : World) (l : List Int) (h0 : 0 < l.length) (hl : l.length ≤ 1000) : IntsAt (W.alloc (.cells (intz l).toArray 3)) W.heap.size (.slice (some ⟨W.heap.size, 0, none⟩) l.length l.length) l :=
  ⟨by rw [intz_len, Nat.mul_one], .inr ⟨W.heap.size, l.length, (intz l).toArray, rfl, Nat.le_refl _, heap_alloc_new W _, Nat.le_refl _, by unfold maxLen; omega, by rw [List.size_toArray, intz_len, Nat.mul_one], by
    rw [Nat.mul_one]; show (intz l).take l.length = _; rw [← intz_len, List.take_length]⟩⟩
theorem vgG : VG 2 2 gE := chkG_zero (by decide)
theorem vgM : VG 2 3 mE := chkG_zero (by decide)
theorem essM {f : Nat → Bool} (h : Ess 3 mE f) : mems 3 f = [0, 1] := by
  have h2 : f 2 = false := by
    rw [← h.fix 2 (by decide)]
    unfold passF leftF bothF
    simp
  have hT : Closed 3 mE (fun i => decide (i < 2)) := fun i hi h => by
    have : i = 0 ∨ i = 1 := by simp at h; omega
    rcases this with rfl | rfl <;> decide
  have h0 := h.most _ hT 0 (by decide) (by decide)
  have h1 := h.most _ hT 1 (by decide) (by decide)
  unfold mems
  rw [show List.range 3 = [0, 1, 2] from rfl, List.filter_cons, h0, List.filter_cons, h1, List.filter_cons, h2]
  rfl
theorem ecl_enc {es : List E3} {q r : Nat} {u : Value} (hq : q < es.length) (hr : r < 3) (h : (ecl es)[q * 3 + r]? = some u) : (encE es[q]!)[r]? = some u := by
  have e0 : es[q]? = some es[q] := List.getElem?_eq_getElem hq
  have e1 : es[q]! = es[q] := by rw [List.getElem!_eq_getElem?_getD, e0]; rfl
  obtain ⟨k0, k1, k2⟩ := ecl_at e0
  rw [e1]
  rcases (show r = 0 ∨ r = 1 ∨ r = 2 by omega) with rfl | rfl | rfl
  · exact k0.symm.trans h
  · exact k1.symm.trans h
  · exact k2.symm.trans h
end Go.Proofs.YthhbbiafffpknaaDoor
