/- What slices.Equal of rows of truth values and slices.Repeat of one that is true return. Condition: at most 64. What graph.essential returns: the states of the greatest set in which every state is entered and left. Conditions: at most 64 states, edges between states. The part of a graph on a set of states: plain facts, and rows of integers. No condition. -/
import Derived.Test.YtiockphjnkehnaaGreatDoorQ04
import Derived.Test.YtiockphjnkehnaaGreatDoorQ05
import Derived.Lib.SlBuf
import Derived.BigCall
import Derived.BigGuard
import Derived.Deep.Draws

namespace Go.Proofs.YtiockphjnkehnaaGreatDoor
open Go.RowKit
set_option linter.unusedSimpArgs false
set_option linter.unusedVariables false

theorem step_copy {P : Program} (w : World) {ops : Array Oper} {o : Oper} {a : Act} {K : Act → World → Prop} {Q : Exit → Act → World → Prop} {E : Prop} (hgd : o.guard = none) (d s : Operand) (t t' : TypeId)
    (ho : o.op = .call { callee := .builtin .copy, args := #[d, s], argTypes := #[t, t'] }) (v u : Value) (hd : a.eval d = v) (hs : a.eval s = u) {v' : Value} {w' : World}
    (hr : (Builtin.copy_ #[t, t'] o.type #[v, u]).run P w = .ok v' w') (h : K (a.put o.dst v') w') : if Region.wanted o (yielded ops a.tmps) = true then Oper.wp P o a w K Q else E := by
  have hw : Region.wanted o (yielded ops a.tmps) = true := by simp [Region.wanted, hgd]
  rw [if_pos hw]
  exact Lib.wp_copy_run w d s t t' ho v u hd hs hr h
end Go.Proofs.YtiockphjnkehnaaGreatDoor

namespace Go.Proofs.YtiockphjnkehnaaGreatDoor
open Go.RowKit
set_option linter.unusedSimpArgs false
set_option linter.unusedVariables false

theorem okE_st {L : Int} {n : Nat} {e : E3} (h : okE L (n : Int) e = true) : e.1.toNat < n ∧ e.2.2.toNat < n ∧ e.1 = (e.1.toNat : Int) ∧ e.2.2 = (e.2.2.toNat : Int) := by
  rw [okE_iff] at h; omega
def cntF (n : Nat) (f : Nat → Bool) : Nat := ((List.range n).filter f).length
theorem cntF_le (n : Nat) (f : Nat → Bool) : cntF n f ≤ n := by
  unfold cntF; exact Nat.le_trans (List.length_filter_le _ _) (by simp)
theorem filter_sub {α : Type} (l : List α) {f g : α → Bool} (h : ∀ x ∈ l, f x = true → g x = true) : (l.filter f).length ≤ (l.filter g).length := by
  induction l with
  | nil => exact Nat.le_refl _
  | cons a l ih =>
    have ih2 := ih (fun x hx => h x (List.mem_cons_of_mem _ hx))
    have ha := h a List.mem_cons_self
    rw [List.filter_cons, List.filter_cons]
    cases hf : f a with
    | true =>
      rw [ha hf]
      simpa using ih2
    | false =>
      cases hg : g a with
      | true => simp; omega
      | false => simpa using ih2
theorem filter_less {α : Type} (l : List α) {f g : α → Bool} (h : ∀ x ∈ l, f x = true → g x = true) (h2 : ∃ x ∈ l, f x ≠ g x) : (l.filter f).length < (l.filter g).length := by
  induction l with
  | nil => obtain ⟨x, hx, _⟩ := h2; cases hx
  | cons a l ih =>
    have hs := filter_sub l (fun x hx => h x (List.mem_cons_of_mem _ hx))
    have ha := h a List.mem_cons_self
    obtain ⟨x, hx, hne⟩ := h2
    rw [List.filter_cons, List.filter_cons]
    cases hf : f a with
    | true =>
      rw [ha hf]
      have : ∃ x ∈ l, f x ≠ g x := by
        rcases List.mem_cons.1 hx with rfl | hx
        · exact absurd (hf.trans (ha hf).symm) hne
        · exact ⟨x, hx, hne⟩
      have := ih (fun x hx => h x (List.mem_cons_of_mem _ hx)) this
      simpa using this
    | false =>
      cases hg : g a with
      | true => simp; omega
      | false =>
        have : ∃ x ∈ l, f x ≠ g x := by
          rcases List.mem_cons.1 hx with rfl | hx
          · exact absurd (hf.trans hg.symm) hne
          · exact ⟨x, hx, hne⟩
        have := ih (fun x hx => h x (List.mem_cons_of_mem _ hx)) this
        simpa using this
end Go.Proofs.YtiockphjnkehnaaGreatDoor

namespace Go.Proofs.YtiockphjnkehnaaGreatDoor
open Go.RowKit
set_option linter.unusedSimpArgs false
set_option linter.unusedVariables false

def IRow (W : World) (b n : Nat) (f : Nat → Int) : Prop := W.rowIs b 3 n (fun i => .int .i64 (f i))
section
variable {W W' : World} {b n : Nat} {f g : Nat → Int}
theorem IRow.keep (h : IRow W b n f) (hb : Below W.heap.size W W') : IRow W' b n f := World.rowIs.of_block h (hb.block b (World.rowIs.lt h))
theorem IRow.made (w : World) (n : Nat) : IRow (w.alloc (.cells (madeCells #[.int .i64 0] n) 3)) w.heap.size n (fun _ => 0) := World.rowIs_made w _ n _
theorem IRow.set (h : IRow W b n f) (i : Nat) (x : Int) : IRow (W.setCell ⟨b, i, none⟩ (.int .i64 x)) b n (fun j => if j = i then x else f j) :=
  World.rowIs.congr (World.rowIs.set h i (.int .i64 x)) (fun j _ => by dsimp only; split <;> rfl)
theorem IRow.other (h : IRow W b n f) {a : Addr} (ha : b ≠ a.block) (v : Value) : IRow (W.setCell a v) b n f := World.rowIs.setOther h ha v
theorem IRow.congr (h : IRow W b n f) (e : ∀ i, i < n → f i = g i) : IRow W b n g := World.rowIs.congr h (fun i hi => by rw [e i hi])
theorem IRow.cell (h : IRow W b n f) {i : Nat} (hi : i < n) : W.cell? ⟨b, i, none⟩ = some (.int .i64 (f i)) := World.rowIs.cell h hi
theorem IRow.frozen (h : IRow W b n f) (i : Nat) : W.frozen? ⟨b, i, none⟩ = false := World.rowIs.frozen h i
theorem IRow.lt (h : IRow W b n f) : b < W.heap.size := World.rowIs.lt h
end
theorem IntsRd.at {W : World} {v : Value} {l : List Int} (h : IntsRd W v l) {i : Nat} {x : Int} (he : l[i]? = some x) : ∃ b off c, v = .slice (some ⟨b, off, none⟩) l.length c ∧ W.cell? ⟨b, off + i, none⟩ = some (.int .i64 x) := by
  obtain ⟨a, c, rfl, h1⟩ := h
  obtain ⟨b, off, rfl, k⟩ := h1 i x he
  exact ⟨b, off, c, rfl, k⟩
theorem IntsRd.form {W : World} {v : Value} {l : List Int} (h : IntsRd W v l) : ∃ a c, v = .slice a l.length c := by
  obtain ⟨a, c, rfl, h1⟩ := h
  exact ⟨a, c, rfl⟩
def hasF (st : List Int) (j : Nat) : Bool := decide ((j : Int) ∈ st)
def numF (st : List Int) (j : Nat) : Int := if (j : Int) ∈ st then (st.idxOf (j : Int) : Int) else 0
theorem hasF_snoc (st : List Int) (s : Nat) (j : Nat) : hasF (st ++ [(s : Int)]) j = if j = s then true else hasF st j := by
  unfold hasF
  by_cases e : j = s
  · subst e; simp
  · rw [if_neg e, decide_eq_decide, List.mem_append, List.mem_singleton]
    constructor
    · rintro (h | h)
      · exact h
      · exact absurd (show j = s by omega) e
    · exact Or.inl
theorem numF_snoc {st : List Int} {s : Nat} (h : (s : Int) ∉ st) (j : Nat) : numF (st ++ [(s : Int)]) j = if j = s then (st.length : Int) else numF st j := by
  unfold numF
  by_cases e : j = s
  · subst e
    rw [if_pos rfl, if_pos (by simp), List.idxOf_append, if_neg h]
    simp
  · rw [if_neg e]
    by_cases h2 : (j : Int) ∈ st
    · rw [if_pos h2, if_pos (by simp [h2]), List.idxOf_append, if_pos h2]
    · rw [if_neg h2, if_neg]
      rw [List.mem_append, List.mem_singleton]
      rintro (h | h)
      · exact h2 h
      · exact e (by omega)
def partE (st : List Int) (es : List E3) : List E3 := es.filterMap fun e => if e.1 ∈ st ∧ e.2.2 ∈ st then some ((st.idxOf e.1 : Int), e.2.1, (st.idxOf e.2.2 : Int)) else none
theorem partE_snoc (st : List Int) (es : List E3) (e : E3) : partE st (es ++ [e]) = partE st es ++ (if e.1 ∈ st ∧ e.2.2 ∈ st then [((st.idxOf e.1 : Int), e.2.1, (st.idxOf e.2.2 : Int))] else []) := by
  unfold partE
  rw [List.filterMap_append]
  congr 1
  by_cases h : e.1 ∈ st ∧ e.2.2 ∈ st
  · rw [if_pos h]; simp [h]
  · rw [if_neg h]; simp [h]
theorem partE_len (st : List Int) (es : List E3) : (partE st es).length ≤ es.length := List.length_filterMap_le _ _
theorem asc_not_mem {l : List Int} (h : l.Pairwise (· < ·)) {i : Nat} {x : Int} (hx : l[i]? = some x) : x ∉ l.take i := by
  intro hm
  obtain ⟨j, hj, e⟩ := List.mem_take_iff_getElem.1 hm
  have hi := (List.getElem?_eq_some_iff.1 hx).1
  have h1 := List.pairwise_iff_getElem.1 h j i (by omega) hi (by omega)
  rw [e] at h1
  rw [List.getElem?_eq_getElem hi] at hx
  injection hx with hx
  omega
theorem asc_len : ∀ {l : List Int} {a b : Int}, l.Pairwise (· < ·) → (∀ x ∈ l, a ≤ x ∧ x < b) → a ≤ b → (l.length : Int) ≤ b - a
  | [], a, b, _, _, h => by simp; omega
  | x :: l, a, b, h1, h2, h3 => by
    obtain ⟨k1, k2⟩ := List.pairwise_cons.1 h1
    have hx := h2 x List.mem_cons_self
    have := asc_len (a := x + 1) (b := b) k2 (fun y hy => ⟨by have := k1 y hy; omega, (h2 y (List.mem_cons_of_mem _ hy)).2⟩) (by omega)
    rw [List.length_cons]
    omega
theorem SG.len {n : Nat} {l : List Int} (h : SG (n : Int) l) : l.length ≤ n := by
  have := asc_len h.asc h.bd (by omega)
  omega
def BoxF (W : World) (p : Nat) (L S : Int) (v : Value) : Prop := BoxG W p L S v ∧ W.frozen? ⟨p, 0, none⟩ = false ∧ W.frozen? ⟨p, 1, none⟩ = false ∧ W.frozen? ⟨p, 2, none⟩ = false
section
variable {W W' : World} {p : Nat} {L S : Int} {v : Value}
theorem BoxF.keep (h : BoxF W p L S v) (hb : Below W.heap.size W W') : BoxF W' p L S v :=
  ⟨h.1.keep hb, frozen_keep h.1.1 h.2.1 hb, frozen_keep h.1.2.1 h.2.2.1 hb, frozen_keep h.1.2.2 h.2.2.2 hb⟩
theorem BoxF.new (W : World) (L S : Int) (v : Value) (t : TypeId) : BoxF (W.alloc (.cells #[.int .i64 L, .int .i64 S, v] t)) W.heap.size L S v := by
  refine ⟨BoxG.new W L S v t, ?_, ?_, ?_⟩ <;> simp [go_sem]
theorem BoxF.other (h : BoxF W p L S v) {a : Addr} (ha : a.block ≠ p) (x : Value) : BoxF (W.setCell a x) p L S v :=
  ⟨boxG_other h.1 ha x, by rw [World.frozen?_setCell]; exact h.2.1, by rw [World.frozen?_setCell]; exact h.2.2.1, by rw [World.frozen?_setCell]; exact h.2.2.2⟩
theorem BoxF.lt (h : BoxF W p L S v) : p < W.heap.size := World.block_lt_of_cell? W ⟨p, 0, none⟩ h.1.1
end
end Go.Proofs.YtiockphjnkehnaaGreatDoor
