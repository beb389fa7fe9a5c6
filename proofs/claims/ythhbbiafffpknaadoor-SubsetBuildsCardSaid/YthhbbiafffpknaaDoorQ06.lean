/- What slices.Equal of rows of truth values and slices.Repeat of one that is true return. Condition: at most 64. What graph.essential returns: the states of the greatest set in which every state is entered and left. Conditions: at most 64 states, edges between states. The part of a graph on a set of states: plain facts, and rows of integers. No condition. -/
import Derived.Test.YthhbbiafffpknaaDoorQ04
import Derived.Test.YthhbbiafffpknaaDoorQ05
import Derived.Lib.SlBuf
import Derived.BigCall
import Derived.BigGuard
import Derived.Deep.Draws

namespace Go.Proofs.YthhbbiafffpknaaDoor
open Go.RowKit
set_option linter.unusedSimpArgs false
set_option linter.unusedVariables false

def sameF (n : Nat) (f g : Nat → Bool) : Bool := (List.range n).all fun i => f i == g i
theorem sameF_true {n : Nat} {f g : Nat → Bool} : sameF n f g = true ↔ ∀ i, i < n → f i = g i := by
  unfold sameF
  rw [List.all_eq_true]
  constructor
  · intro h i hi; simpa using h i (List.mem_range.2 hi)
  · intro h i hi; simpa using h i (List.mem_range.1 hi)
theorem sameF_no {n i : Nat} {f g : Nat → Bool} (hi : i < n) (h : f i ≠ g i) : sameF n f g = false := by
  cases e : sameF n f g with
  | false => rfl
  | true => exact absurd (sameF_true.1 e i hi) h
/-- A row whose first k truth values are true, as far as copied. -/
structure CB (w : World) (R n k : Nat) (W : World) : Prop where
  b : Below w.heap.size w W
  c : ∀ j, j < n → W.cell? ⟨R, j, none⟩ = some (.bool (decide (j < k)))
  f : ∀ j, j < n → W.frozen? ⟨R, j, none⟩ = false
theorem infoBools : (Tryd.prog.info? 4).map (·.size) = some 1 := by kernel_rfl
theorem sizeBool : ∀ w, (Go.sizeOf 4).run Tryd.prog w = .ok 1 w := fun w => by kernel_rfl
set_option maxRecDepth 100000 in
theorem copy_bools {w W : World} {R n k : Nat} (h : CB w R n k W) (hR : w.heap.size ≤ R) (hk : k ≤ n) (a : Addr) (sLen cap : Nat) (ty : TypeId) (m : Nat) (hm : m = Nat.min sLen (n - k)) (hc : ∀ j, j < m → W.cell? (a.add j) = some (.bool true)) :
    ∃ W', (Builtin.copy_ #[101, 101] ty #[.slice (some ⟨R, k, none⟩) (n - k) (n - k), .slice (some a) sLen cap]).run Tryd.prog W = .ok (.int .i64 (m : Int)) W' ∧ CB w R n (k + m) W' := by
  have hm2 : m ≤ n - k := by rw [hm]; exact Nat.min_le_right _ _
  have hr := run_copy_cells (P := Tryd.prog) W 101 101 ty 4 R k (n - k) (n - k) a sLen cap (List.replicate m (.bool true)) Tryd.underlying101 infoBools (by rw [List.length_replicate]; exact hm)
    (fun j u hj => by
      have hj2 : j < m := by have := (List.getElem?_eq_some_iff.1 hj).1; rwa [List.length_replicate] at this
      rw [List.getElem?_replicate, if_pos hj2] at hj
      injection hj with hj
      subst hj
      exact hc j hj2)
    (fun j hj => by rw [List.length_replicate] at hj; rw [h.c _ (by omega)]; rfl) (fun j hj => by rw [List.length_replicate] at hj; exact h.f _ (by omega))
    (fun u hu => by rw [List.eq_of_mem_replicate hu]; rfl)
  rw [List.length_replicate] at hr
  refine ⟨_, hr, ?_⟩
  have hin := World.cell?_setCells_in R (List.replicate m (Value.bool true)) k W (fun j hj => by rw [List.length_replicate] at hj; rw [h.c _ (by omega)]; rfl)
  have hout := World.cell?_setCells_out R (List.replicate m (Value.bool true)) k W
  refine ⟨Lib.below_setCells R hR _ _ h.b, fun j hj => ?_, fun j hj => ?_⟩
  · by_cases h1 : k ≤ j ∧ j < k + m
    · obtain ⟨d, rfl⟩ : ∃ d, j = k + d := ⟨j - k, by omega⟩
      refine (hin d (by rw [List.length_replicate]; omega)).trans ?_
      rw [show decide (k + d < k + m) = true from decide_eq_true (by omega), List.getElem_replicate]
    · rw [hout ⟨R, j, none⟩ (fun _ _ => by rw [List.length_replicate]; show j < _ ∨ _ ≤ j; omega), h.c j hj]
      congr 2
      rw [decide_eq_decide]
      omega
  · rw [World.frozen?_setCells]
    exact h.f j hj
theorem CB.drew {w W : World} {R n k : Nat} (h : CB w R n k W) : CB w R n k W.drew := ⟨h.b.drew, h.c, h.f⟩
/-- copy, at a step of a region that draws its order. -/
theorem step_copy {P : Program} (w : World) {ops : Array Oper} {o : Oper} {a : Act} {K : Act → World → Prop} {Q : Exit → Act → World → Prop} {E : Prop} (hgd : o.guard = none) (d s : Operand) (t t' : TypeId)
    (ho : o.op = .call { callee := .builtin .copy, args := #[d, s], argTypes := #[t, t'] }) (v u : Value) (hd : a.eval d = v) (hs : a.eval s = u) {v' : Value} {w' : World}
    (hr : (Builtin.copy_ #[t, t'] o.type #[v, u]).run P w = .ok v' w') (h : K (a.put o.dst v') w') : if Region.wanted o (yielded ops a.tmps) = true then Oper.wp P o a w K Q else E := by
  have hw : Region.wanted o (yielded ops a.tmps) = true := by simp [Region.wanted, hgd]
  rw [if_pos hw]
  exact Lib.wp_copy_run w d s t t' ho v u hd hs hr h
end Go.Proofs.YthhbbiafffpknaaDoor

namespace Go.Proofs.YthhbbiafffpknaaDoor
open Go.RowKit
set_option linter.unusedSimpArgs false
set_option linter.unusedVariables false

/-- Every state of T has an edge to it, and one from it, between states of T. -/
def Closed (n : Nat) (es : List E3) (T : Nat → Bool) : Prop := ∀ i, i < n → T i = true → passF T es i = true
structure Ess (n : Nat) (es : List E3) (f : Nat → Bool) : Prop where
  fix : ∀ i, i < n → passF f es i = f i
  most : ∀ T, Closed n es T → ∀ i, i < n → T i = true → f i = true
theorem passF_iff {f : Nat → Bool} {es : List E3} {s : Nat} : passF f es s = true ↔ (∃ e ∈ es, (f e.1.toNat = true ∧ f e.2.2.toNat = true) ∧ e.2.2 = (s : Int)) ∧ (∃ e ∈ es, (f e.1.toNat = true ∧ f e.2.2.toNat = true) ∧ e.1 = (s : Int)) := by
  unfold passF enteredF leftF bothF
  simp only [Bool.and_eq_true, List.any_eq_true, decide_eq_true_eq]
theorem okE_st {L : Int} {n : Nat} {e : E3} (h : okE L (n : Int) e = true) : e.1.toNat < n ∧ e.2.2.toNat < n ∧ e.1 = (e.1.toNat : Int) ∧ e.2.2 = (e.2.2.toNat : Int) := by
  rw [okE_iff] at h; omega
theorem passF_le {L : Int} {n : Nat} {es : List E3} (hok : ∀ e ∈ es, okE L (n : Int) e = true) {f : Nat → Bool} {s : Nat} (h : passF f es s = true) : f s = true := by
  obtain ⟨⟨e, he, ⟨-, h2⟩, h3⟩, -⟩ := passF_iff.1 h
  rw [h3] at h2; simpa using h2
theorem passF_mono {L : Int} {n : Nat} {es : List E3} (hok : ∀ e ∈ es, okE L (n : Int) e = true) {f g : Nat → Bool} (hfg : ∀ i, i < n → f i = true → g i = true) {s : Nat} (h : passF f es s = true) : passF g es s = true := by
  obtain ⟨⟨e, he, ⟨h1, h2⟩, h3⟩, ⟨d, hd, ⟨k1, k2⟩, k3⟩⟩ := passF_iff.1 h
  obtain ⟨a1, a2, -, -⟩ := okE_st (hok e he)
  obtain ⟨b1, b2, -, -⟩ := okE_st (hok d hd)
  exact passF_iff.2 ⟨⟨e, he, ⟨hfg _ a1 h1, hfg _ a2 h2⟩, h3⟩, ⟨d, hd, ⟨hfg _ b1 k1, hfg _ b2 k2⟩, k3⟩⟩
theorem passF_congr {L : Int} {n : Nat} {es : List E3} (hok : ∀ e ∈ es, okE L (n : Int) e = true) {f g : Nat → Bool} (hfg : ∀ i, i < n → f i = g i) (s : Nat) : passF f es s = passF g es s := by
  rw [Bool.eq_iff_iff]
  exact ⟨passF_mono hok (fun i hi h => (hfg i hi) ▸ h), passF_mono hok (fun i hi h => (hfg i hi) ▸ h)⟩
def cntF (n : Nat) (f : Nat → Bool) : Nat := ((List.range n).filter f).length
theorem cntF_le (n : Nat) (f : Nat → Bool) : cntF n f ≤ n := by
  unfold cntF; exact Nat.le_trans (List.length_filter_le _ _) (by simp)
theorem filter_sub {α : Type} (l : List α) {f g : α → Bool} (h : ∀ x ∈ l, f x = true → g x = true) : (l.filter f).length ≤ (l.filter g).length := by
  induction l with
  | nil => exact Nat.le_refl _
  | cons a l ih =>
    have ih2 := ih (fun x hx => h x (List.mem_cons_of_mem _ hx))
    have ha := h a List.mem_cons_self
    rw [List.filter_cons, List.filter_cons]
    cases hf : f a with
    | true =>
      rw [ha hf]
      simpa using ih2
    | false =>
      cases hg : g a with
      | true => simp; omega
      | false => simpa using ih2
theorem filter_less {α : Type} (l : List α) {f g : α → Bool} (h : ∀ x ∈ l, f x = true → g x = true) (h2 : ∃ x ∈ l, f x ≠ g x) : (l.filter f).length < (l.filter g).length := by
  induction l with
  | nil => obtain ⟨x, hx, _⟩ := h2; cases hx
  | cons a l ih =>
    have hs := filter_sub l (fun x hx => h x (List.mem_cons_of_mem _ hx))
    have ha := h a List.mem_cons_self
    obtain ⟨x, hx, hne⟩ := h2
    rw [List.filter_cons, List.filter_cons]
    cases hf : f a with
    | true =>
      rw [ha hf]
      have : ∃ x ∈ l, f x ≠ g x := by
        rcases List.mem_cons.1 hx with rfl | hx
        · exact absurd (hf.trans (ha hf).symm) hne
        · exact ⟨x, hx, hne⟩
      have := ih (fun x hx => h x (List.mem_cons_of_mem _ hx)) this
      simpa using this
    | false =>
      cases hg : g a with
      | true => simp; omega
      | false =>
        have : ∃ x ∈ l, f x ≠ g x := by
          rcases List.mem_cons.1 hx with rfl | hx
          · exact absurd (hf.trans hg.symm) hne
          · exact ⟨x, hx, hne⟩
        have := ih (fun x hx => h x (List.mem_cons_of_mem _ hx)) this
        simpa using this
theorem cntF_less {n : Nat} {f g : Nat → Bool} (h : ∀ i, i < n → f i = true → g i = true) (h2 : sameF n f g = false) : cntF n f < cntF n g := by
  refine filter_less _ (fun x hx => h x (List.mem_range.1 hx)) ?_
  have : ¬ ∀ i, i < n → f i = g i := fun h3 => by rw [sameF_true.2 h3] at h2; cases h2
  simp only [Classical.not_forall] at this
  obtain ⟨x, hx, hne⟩ := this
  exact ⟨x, List.mem_range.2 hx, hne⟩
end Go.Proofs.YthhbbiafffpknaaDoor

namespace Go.Proofs.YthhbbiafffpknaaDoor
open Go.RowKit
set_option linter.unusedSimpArgs false
set_option linter.unusedVariables false

/-- Integers in a row of one's own. -/
def IRow (W : World) (b n : Nat) (f : Nat → Int) : Prop := W.rowIs b 3 n (fun i => .int .i64 (f i))
section
variable {W W' : World} {b n : Nat} {f g : Nat → Int}
theorem IRow.keep (h : IRow W b n f) (hb : Below W.heap.size W W') : IRow W' b n f := World.rowIs.of_block h (hb.block b (World.rowIs.lt h))
theorem IRow.made (w : World) (n : Nat) : IRow (w.alloc (.cells (madeCells #[.int .i64 0] n) 3)) w.heap.size n (fun _ => 0) := World.rowIs_made w _ n _
theorem IRow.set (h : IRow W b n f) (i : Nat) (x : Int) : IRow (W.setCell ⟨b, i, none⟩ (.int .i64 x)) b n (fun j => if j = i then x else f j) :=
  World.rowIs.congr (World.rowIs.set h i (.int .i64 x)) (fun j _ => by dsimp only; split <;> rfl)
theorem IRow.other (h : IRow W b n f) {a : Addr} (ha : b ≠ a.block) (v : Value) : IRow (W.setCell a v) b n f := World.rowIs.setOther h ha v
theorem IRow.congr (h : IRow W b n f) (e : ∀ i, i < n → f i = g i) : IRow W b n g := World.rowIs.congr h (fun i hi => by rw [e i hi])
theorem IRow.cell (h : IRow W b n f) {i : Nat} (hi : i < n) : W.cell? ⟨b, i, none⟩ = some (.int .i64 (f i)) := World.rowIs.cell h hi
theorem IRow.frozen (h : IRow W b n f) (i : Nat) : W.frozen? ⟨b, i, none⟩ = false := World.rowIs.frozen h i
theorem IRow.lt (h : IRow W b n f) : b < W.heap.size := World.rowIs.lt h
end
theorem IntsRd.at {W : World} {v : Value} {l : List Int} (h : IntsRd W v l) {i : Nat} {x : Int} (he : l[i]? = some x) : ∃ b off c, v = .slice (some ⟨b, off, none⟩) l.length c ∧ W.cell? ⟨b, off + i, none⟩ = some (.int .i64 x) := by
  obtain ⟨a, c, rfl, h1⟩ := h
  obtain ⟨b, off, rfl, k⟩ := h1 i x he
  exact ⟨b, off, c, rfl, k⟩
theorem IntsRd.form {W : World} {v : Value} {l : List Int} (h : IntsRd W v l) : ∃ a c, v = .slice a l.length c := by
  obtain ⟨a, c, rfl, h1⟩ := h
  exact ⟨a, c, rfl⟩
/-- Whether a state belongs to a set, and its number there. -/
def hasF (st : List Int) (j : Nat) : Bool := decide ((j : Int) ∈ st)
def numF (st : List Int) (j : Nat) : Int := if (j : Int) ∈ st then (st.idxOf (j : Int) : Int) else 0
theorem hasF_snoc (st : List Int) (s : Nat) (j : Nat) : hasF (st ++ [(s : Int)]) j = if j = s then true else hasF st j := by
  unfold hasF
  by_cases e : j = s
  · subst e; simp
  · rw [if_neg e, decide_eq_decide, List.mem_append, List.mem_singleton]
    constructor
    · rintro (h | h)
      · exact h
      · exact absurd (show j = s by omega) e
    · exact Or.inl
theorem numF_snoc {st : List Int} {s : Nat} (h : (s : Int) ∉ st) (j : Nat) : numF (st ++ [(s : Int)]) j = if j = s then (st.length : Int) else numF st j := by
  unfold numF
  by_cases e : j = s
  · subst e
    rw [if_pos rfl, if_pos (by simp), List.idxOf_append, if_neg h]
    simp
  · rw [if_neg e]
    by_cases h2 : (j : Int) ∈ st
    · rw [if_pos h2, if_pos (by simp [h2]), List.idxOf_append, if_pos h2]
    · rw [if_neg h2, if_neg]
      rw [List.mem_append, List.mem_singleton]
      rintro (h | h)
      · exact h2 h
      · exact e (by omega)
/-- The edges of the part. -/
def partE (st : List Int) (es : List E3) : List E3 := es.filterMap fun e => if e.1 ∈ st ∧ e.2.2 ∈ st then some ((st.idxOf e.1 : Int), e.2.1, (st.idxOf e.2.2 : Int)) else none
theorem partE_snoc (st : List Int) (es : List E3) (e : E3) : partE st (es ++ [e]) = partE st es ++ (if e.1 ∈ st ∧ e.2.2 ∈ st then [((st.idxOf e.1 : Int), e.2.1, (st.idxOf e.2.2 : Int))] else []) := by
  unfold partE
  rw [List.filterMap_append]
  congr 1
  by_cases h : e.1 ∈ st ∧ e.2.2 ∈ st
  · rw [if_pos h]; simp [h]
  · rw [if_neg h]; simp [h]
theorem partE_len (st : List Int) (es : List E3) : (partE st es).length ≤ es.length := List.length_filterMap_le _ _
theorem asc_not_mem {l : List Int} (h : l.Pairwise (· < ·)) {i : Nat} {x : Int} (hx : l[i]? = some x) : x ∉ l.take i := by
  intro hm
  obtain ⟨j, hj, e⟩ := List.mem_take_iff_getElem.1 hm
  have hi := (List.getElem?_eq_some_iff.1 hx).1
  have h1 := List.pairwise_iff_getElem.1 h j i (by omega) hi (by omega)
  rw [e] at h1
  rw [List.getElem?_eq_getElem hi] at hx
  injection hx with hx
  omega
theorem asc_len : ∀ {l : List Int} {a b : Int}, l.Pairwise (· < ·) → (∀ x ∈ l, a ≤ x ∧ x < b) → a ≤ b → (l.length : Int) ≤ b - a
  | [], a, b, _, _, h => by simp; omega
  | x :: l, a, b, h1, h2, h3 => by
    obtain ⟨k1, k2⟩ := List.pairwise_cons.1 h1
    have hx := h2 x List.mem_cons_self
    have := asc_len (a := x + 1) (b := b) k2 (fun y hy => ⟨by have := k1 y hy; omega, (h2 y (List.mem_cons_of_mem _ hy)).2⟩) (by omega)
    rw [List.length_cons]
    omega
theorem SG.len {n : Nat} {l : List Int} (h : SG (n : Int) l) : l.length ≤ n := by
  have := asc_len h.asc h.bd (by omega)
  omega
/-- A graph in a variable that can be written. -/
def BoxF (W : World) (p : Nat) (L S : Int) (v : Value) : Prop := BoxG W p L S v ∧ W.frozen? ⟨p, 0, none⟩ = false ∧ W.frozen? ⟨p, 1, none⟩ = false ∧ W.frozen? ⟨p, 2, none⟩ = false
section
variable {W W' : World} {p : Nat} {L S : Int} {v : Value}
theorem BoxF.keep (h : BoxF W p L S v) (hb : Below W.heap.size W W') : BoxF W' p L S v :=
  ⟨h.1.keep hb, frozen_keep h.1.1 h.2.1 hb, frozen_keep h.1.2.1 h.2.2.1 hb, frozen_keep h.1.2.2 h.2.2.2 hb⟩
theorem BoxF.new (W : World) (L S : Int) (v : Value) (t : TypeId) : BoxF (W.alloc (.cells #[.int .i64 L, .int .i64 S, v] t)) W.heap.size L S v := by
  refine ⟨BoxG.new W L S v t, ?_, ?_, ?_⟩ <;> simp [go_sem]
theorem BoxF.other (h : BoxF W p L S v) {a : Addr} (ha : a.block ≠ p) (x : Value) : BoxF (W.setCell a x) p L S v :=
  ⟨boxG_other h.1 ha x, by rw [World.frozen?_setCell]; exact h.2.1, by rw [World.frozen?_setCell]; exact h.2.2.1, by rw [World.frozen?_setCell]; exact h.2.2.2⟩
theorem BoxF.lt (h : BoxF W p L S v) : p < W.heap.size := World.block_lt_of_cell? W ⟨p, 0, none⟩ h.1.1
end
end Go.Proofs.YthhbbiafffpknaaDoor
