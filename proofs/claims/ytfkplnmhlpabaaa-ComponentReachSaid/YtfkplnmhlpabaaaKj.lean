/- What component.chosen returns: the components for which a function returns true. Condition: the edges can be read. -/
import Derived.Test.YtfkplnmhlpabaaaKi
import Derived.RangeFuncBox
namespace Go.Proofs.Ytfkplnmhlpabaaa
open Go.RowKit Go.Shelf
attribute [local go_sem] Oper.semAt_some
set_option linter.unusedSimpArgs false
set_option linter.unusedVariables false

theorem components_any (L S : Int) (v : Value) (w : World) :
    Calls Try.prog 72 #[grV L S v] w fun e w' =>
      e = .returned (.func (.func 93) #[] #[.pointer (some ⟨w.heap.size, 0, none⟩)]) ∧ w' = w.alloc (.cells #[.int .i64 L, .int .i64 S, v] 24) := by
  go_enter Try.func72, Try.ntmps72
  go_wp2
  go_ret
  exact ⟨rfl, rfl⟩
theorem gb_putObj (W : World) (l : Nat) (o : Obj) : W.grownBy (W.putObj l o) (some l) := grownBy_putObj' W l o
theorem below_putK {B : Nat} {W W' : World} (h : Below B W W') (l : Nat) (hl : B ≤ l) (o : Obj) : Below B W (W'.putObj l o) :=
  h.trans ⟨rfl, rfl, rfl, by simp, fun k hk => World.putObj_heap_other (by omega)⟩
/-- Rows of two types share no block. -/
theorem row_types {W : World} {A1 A2 e1 e2 s1 s2 k1 k2 : Nat} {v1 v2 : Value} {x1 x2 : List Value} (h1 : W.ownsRow A1 e1 s1 v1 k1 x1) (h2 : W.ownsRow A2 e2 s2 v2 k2 x2) (he : e1 ≠ e2) : v1.ownBlock = none ∨ v1.ownBlock ≠ v2.ownBlock := by
  rcases h1.2 with ⟨rfl, -⟩ | ⟨g1, c1, q1, rfl, -, p1, -⟩
  · exact .inl rfl
  rcases h2.2 with ⟨rfl, -⟩ | ⟨g2, c2, q2, rfl, -, p2, -⟩
  · exact .inr (fun h => by simp [Value.ownBlock] at h)
  refine .inr (fun h => ?_)
  simp only [Value.ownBlock, Option.some.injEq] at h
  subst h
  rw [p1] at p2
  injection p2 with p2
  injection p2 with _ p2 _
  exact he p2
/-- Between the rounds of chosen's loop: its loop's object and marks, its variables, the list so far. -/
structure CJ (w : World) (l D p3 p6 : Nat) (fv : Value) (LO : Obj) (R : Nat) (cs : List (List Int)) (X : World) : Prop where
  lp : X.heap[l]? = some LO
  dp : X.heap[D]? = some (.deferred (some []))
  b : Below w.heap.size w X
  i3 : X.cell? ⟨p3, 0, none⟩ = some fv
  ls : ∃ lv us, Boxed X p6 27 lv ∧ X.ownsRow (R + 1) 34 1 lv us.length us ∧ us.length = cs.length ∧ ∀ (i : Nat) u c, us[i]? = some u → cs[i]? = some c → IntsAt X (R + 1) u c
section
variable {w X Y : World} {l D p3 p6 R : Nat} {fv : Value} {LO LO2 : Obj} {cs : List (List Int)}
theorem CJ.turn (h : CJ w l D p3 p6 fv LO R cs X) {row : Option Nat} (hg : X.grownBy Y row) (hl : Y.heap[l]? = some LO2) (hr : ∀ k, row = some k → k ≠ p3 ∧ k ≠ p6 ∧ k ≠ D ∧ w.heap.size ≤ k ∧ k ≤ R) : CJ w l D p3 p6 fv LO2 R cs Y := by
  obtain ⟨lv, us, h1, h2, h3, h4⟩ := h.ls
  have hb : ∀ k, k < X.heap.size → (∀ q, row = some q → k ≠ q) → Y.heap[k]? = X.heap[k]? := fun k hk hne => hg.block k hk (fun e => hne k e.symm rfl)
  have hrow : ∀ {A e s k : Nat} {v : Value} {xs : List Value}, X.ownsRow A e s v k xs → R + 1 ≤ A → v.ownBlock = none ∨ v.ownBlock ≠ row := fun {A e s k v xs} ho hA => by
    cases hv : v.ownBlock with
    | none => exact .inl rfl
    | some g =>
      refine .inr (fun e => ?_)
      have h5 := (ho.lt g hv).1
      have := (hr g e.symm).2.2.2.2
      omega
  have l3 := World.block_lt_of_cell? _ _ h.i3
  refine ⟨hl, ?_, h.b.grown hg h.b.size (fun k e => (hr k e).2.2.2.1), ?_, lv, us, h1.kept hg (fun e => (hr p6 e.symm).2.1 rfl), h2.kept hg (hrow h2 (Nat.le_refl _)), h3, fun i u c hu hc => World.ownsRow.kept (h4 i u c hu hc) hg (hrow (h4 i u c hu hc) (Nat.le_refl _))⟩
  · exact (hb D (Array.getElem?_eq_some_iff.1 h.dp).1 (fun q e => fun e2 => (hr q e).2.2.1 e2.symm)).trans h.dp
  · exact (World.cell?_of_block (w := X) (hb p3 l3 (fun q e => fun e2 => (hr q e).1 e2.symm))).trans h.i3
theorem CJ.keep (h : CJ w l D p3 p6 fv LO R cs X) (hb : Below X.heap.size X Y) : CJ w l D p3 p6 fv LO R cs Y :=
  h.turn (grown_none hb) ((hb.block l (Array.getElem?_eq_some_iff.1 h.lp).1).trans h.lp) (fun k e => by cases e)
theorem CJ.put (h : CJ w l D p3 p6 fv LO R cs X) (o : Obj) (h3 : l ≠ p3) (h6 : l ≠ p6) (hD : l ≠ D) (hw : w.heap.size ≤ l) (hR : l ≤ R) : CJ w l D p3 p6 fv o R cs (X.putObj l o) :=
  h.turn (gb_putObj X l o) (World.putObj_heap_same (Array.getElem?_eq_some_iff.1 h.lp).1) (fun k e => by cases e; exact ⟨h3, h6, hD, hw, hR⟩)
theorem CJ.abide (h : CJ w l D p3 p6 fv LO R cs X) {row : Option Nat} (hg : X.grownBy Y row) (hr : row = none ∨ row = some R) (hl : l < R) (h3 : p3 < R) (h6 : p6 < R) (hD : D < R) (hw : w.heap.size ≤ R) : CJ w l D p3 p6 fv LO R cs Y := by
  refine h.turn hg ((hg.block l (Array.getElem?_eq_some_iff.1 h.lp).1 (fun e => ?_)).trans h.lp) (fun k e => ?_)
  · rcases hr with rfl | rfl
    · cases e
    · injection e with e; omega
  · rcases hr with rfl | rfl
    · cases e
    · injection e with e; subst e; exact ⟨by omega, by omega, by omega, hw, Nat.le_refl _⟩
end
/-- The list, read. -/
theorem rows_of {Y : World} {R : Nat} {lv : Value} {us : List Value} {cs : List (List Int)} (h2 : Y.ownsRow (R + 1) 34 1 lv us.length us) (h3 : us.length = cs.length) (h4 : ∀ (i : Nat) u c, us[i]? = some u → cs[i]? = some c → IntsAt Y (R + 1) u c) : RowsRd Y lv cs := by
  obtain ⟨a, c, rfl⟩ := own_slice h2
  rw [h3]
  refine ⟨a, c, rfl, fun i r hr => ?_⟩
  have hi : i < cs.length := (List.getElem?_eq_some_iff.1 hr).1
  obtain ⟨u, hu⟩ : ∃ u, us[i]? = some u := ⟨_, List.getElem?_eq_getElem (by omega)⟩
  obtain ⟨g, c2, hv, -⟩ := World.ownsRow.form h2 (by omega)
  injection hv with e1 e2 e3
  subst e1
  exact ⟨g, 0, u, rfl, by rw [Nat.zero_add, World.ownsRow.cellAt h2 i (by omega)]; exact hu, (h4 i u r hu hr).rd⟩
theorem CJ.rows {w X : World} {l D p3 p6 R : Nat} {fv : Value} {LO : Obj} {cs : List (List Int)} (h : CJ w l D p3 p6 fv LO R cs X) (hD : D ≤ R) (hw : w.heap.size ≤ D) (hne : D ≠ p6) : ∃ a c, cs.length ≤ c ∧ X.cell? ⟨p6, 0, none⟩ = some (.slice a cs.length c) ∧ RowsRd (X.putObj D (.deferred none)) (.slice a cs.length c) cs ∧ Below w.heap.size w (X.putObj D (.deferred none)) := by
  obtain ⟨lv, us, h1, h2, h3, h4⟩ := h.ls
  obtain ⟨a, c, hv⟩ := own_slice h2
  have hg := gb_putObj X D (.deferred none)
  have hrow : ∀ {A e s k : Nat} {v : Value} {xs : List Value}, X.ownsRow A e s v k xs → R + 1 ≤ A → v.ownBlock = none ∨ v.ownBlock ≠ some D := fun {A e s k v xs} ho hA => by
    cases hv : v.ownBlock with
    | none => exact .inl rfl
    | some g => exact .inr (fun e => by injection e with e; have := (ho.lt g hv).1; omega)
  have hr := rows_of (Y := X.putObj D (.deferred none)) (h2.kept hg (hrow h2 (Nat.le_refl _))) h3 (fun i u c hu hc => World.ownsRow.kept (h4 i u c hu hc) hg (hrow (h4 i u c hu hc) (Nat.le_refl _)))
  rw [hv, h3] at hr
  have hcap : us.length ≤ c := by
    rcases h2.2 with ⟨h5, h6⟩ | ⟨g, cap, cur, h5, _, _, h6, _⟩
    · omega
    · rw [hv] at h5
      injection h5 with _ _ h5
      omega
  refine ⟨a, c, by omega, by rw [h1.cell, hv, h3], hr, below_putK h.b _ hw _⟩
/-- A row more in the list. -/
theorem CJ.app {w X w4 : World} {l D p3 p6 R : Nat} {fv lv v' u : Value} {LO tmp : Obj} {cs : List (List Int)} {us : List Value} {c : List Int} (h : CJ w l D p3 p6 fv LO R cs X) (h1 : Boxed X p6 27 lv) (h2 : X.ownsRow (R + 1) 34 1 lv us.length us) (h3 : us.length = cs.length)
    (h4 : ∀ (i : Nat) u c, us[i]? = some u → cs[i]? = some c → IntsAt X (R + 1) u c) (hRX : R < X.heap.size) (hu : IntsAt X (R + 1) u c)
    (hg4 : (X.alloc tmp).grownBy w4 lv.ownBlock) (ho4 : w4.ownsRow (R + 1) 34 1 v' (us.length + 1) (us ++ [u])) (e1 : l ≠ p6) (e2 : D ≠ p6) (e3 : p3 ≠ p6) (q1 : l ≤ R) (q2 : D ≤ R) (q3 : p3 ≤ R) (q6 : p6 ≤ R) (hw : w.heap.size ≤ p6) :
    CJ w l D p3 p6 fv LO R (cs ++ [c]) (w4.setCell ⟨p6, 0, none⟩ v') ∧ w4.cell? ⟨p6, 0, none⟩ = some lv ∧ w4.frozen? ⟨p6, 0, none⟩ = false ∧ (∀ j, j ≤ R → j ≠ p6 → (w4.setCell ⟨p6, 0, none⟩ v').heap[j]? = X.heap[j]?) ∧ Below w.heap.size X (w4.setCell ⟨p6, 0, none⟩ v') := by
  obtain ⟨b1, b2, b3, b4, b5, b6⟩ : Boxed w4 p6 27 lv ∧ Boxed (w4.setCell ⟨p6, 0, none⟩ v') p6 27 v' ∧ (w4.setCell ⟨p6, 0, none⟩ v').ownsRow (R + 1) 34 1 v' (us.length + 1) (us ++ [u]) ∧ KeepsOthers X (w4.setCell ⟨p6, 0, none⟩ v') ∧ Below w.heap.size X (w4.setCell ⟨p6, 0, none⟩ v') ∧
      ∀ j, j < R + 1 → j ≠ p6 → (w4.setCell ⟨p6, 0, none⟩ v').heap[j]? = X.heap[j]? := by
    obtain ⟨k1, k2, k3, k4, k5⟩ := Boxed.appended h1 (by decide) (own_low h2 (show w.heap.size ≤ R + 1 by omega)) (by omega) hw (own_low ho4 (show w.heap.size ≤ R + 1 by omega)) hg4
    refine ⟨k1, k2, ho4.kept (grownBy_setCell' w4 p6 v') (.inr (k1.not_row (by decide) ho4).symm), k4, k5, fun j hj hjB => ?_⟩
    rw [Below.heap_setCell _ _ _ _ (show j ≠ p6 from hjB)]
    rw [hg4.block j (by rw [World.size_alloc]; omega) (fun hb => by have := (h2.lt j hb.symm).1; omega)]
    exact (World.grownBy_alloc X tmp none).block j (by omega) (by simp)
  have l3 := World.block_lt_of_cell? _ _ h.i3
  have hint : ∀ {x : Value} {d : List Int}, IntsAt X (R + 1) x d → IntsAt (w4.setCell ⟨p6, 0, none⟩ v') (R + 1) x d := fun {x d} hx =>
    ownsRow_setCell_below (World.ownsRow.kept (hx.keep (below1 X tmp)) hg4 (row_types hx h2 (by decide))) (by show p6 < R + 1; omega) v'
  refine ⟨⟨(b6 l (by omega) e1).trans h.lp, (b6 D (by omega) e2).trans h.dp, h.b.trans b5, (World.cell?_of_block (w := X) (b6 p3 (by omega) e3)).trans h.i3, v', us ++ [u], b2, by rw [List.length_append]; exact b3, by rw [List.length_append, List.length_append, h3]; rfl, fun i x d hx hd => ?_⟩, b1.cell, b1.frozen, fun j hj hne => b6 j (by omega) hne, b5⟩
  by_cases hi : i < us.length
  · rw [List.getElem?_append_left hi] at hx
    rw [List.getElem?_append_left (by omega)] at hd
    exact hint (h4 i x d hx hd)
  · rw [List.getElem?_append_right (by omega)] at hx
    rw [List.getElem?_append_right (by omega)] at hd
    have e0 : i - us.length = 0 := by
      have := (List.getElem?_eq_some_iff.1 hx).1
      simp at this; omega
    rw [e0] at hx
    rw [← h3, e0] at hd
    simp at hx hd
    subst hx hd
    exact hint hu
theorem filter_map_snoc {α β : Type} (f : α → β) (q : β → Bool) (l : List α) (x : α) : ((l ++ [x]).map f).filter q = if q (f x) = true then (l.map f).filter q ++ [f x] else (l.map f).filter q := by
  rw [List.map_append, List.filter_append]
  by_cases h : q (f x) = true
  · rw [if_pos h]; simp [h]
  · rw [if_neg h]; simp [h]
/-- The slice's capacity. -/
def CapOk (v : Value) : Prop := ∃ a n c, v = .slice a n c ∧ n ≤ c
def RowsOut (w : World) (cs : List (List Int)) (k : Int) (e : Ending) (w' : World) : Prop := ∃ v, e = .returned (.tuple #[v, .int .i64 k]) ∧ RowsRd w' v cs ∧ Below w.heap.size w w' ∧ CapOk v
set_option maxRecDepth 100000 in
set_option maxHeartbeats 12800000 in
theorem chosen_good (La : Int) (n : Nat) (es : List E3) (v : Value) (f : FuncId) (caps : Array Value) (q : List Int → Bool) (w : World) (hrd : EdgesRd w v es) (hvg : VG La (n : Int) es)
    (hE : ∀ args w, (callFunc f args).run Try.prog w = .ok (.enter f args) w)
    (hq : ∀ X u c, Below w.heap.size w X → IntsRd X u c → c.length ≤ 64 → Calls Try.prog f (#[u] ++ caps) X fun e X' => e = .returned (.bool (q c)) ∧ Below X.heap.size X X') :
    Calls Try.prog 47 #[grV La (n : Int) v, .func (.func f) #[] caps] w (RowsOut w ((comps es n).filter q) 0) := by
  obtain ⟨i0, hi, hz0, hz1, hz2⟩ := info_parts Try.infoRow
  have hlen := hvg.len
  have hn64 : n ≤ 64 := by have := hvg.s2; omega
  have HRD := Lib.hid hrd
  have HVG := Lib.hid hvg
  have HV := Lib.hid (fun W h => hvg.chk ▸ gcheck_any La (n : Int) es v W h (by omega))
  have HQ := Lib.hid hq
  obtain ⟨a, c, rfl⟩ := hrd.form
  have K0 := BoxG.new w La (n : Int) (.slice a es.length c) 24
  have k1 := below1 (w.alloc (.cells #[.int .i64 La, .int .i64 (n : Int), .slice a es.length c] 24)) (.cells #[.func (.func f) #[] caps] 42)
  have K1 := Lib.hid (K0.keep k1)
  have B1 := Lib.hid (below_more (below1 w (.cells #[.int .i64 La, .int .i64 (n : Int), .slice a es.length c] 24)) (Nat.le_refl _) k1)
  have C1 := Lib.hid (show ((w.alloc (.cells #[.int .i64 La, .int .i64 (n : Int), .slice a es.length c] 24)).alloc (.cells #[.func (.func f) #[] caps] 42)).cell? ⟨w.heap.size + 1, 0, none⟩ = some (.func (.func f) #[] caps) by
    rw [← World.size_alloc w (.cells #[.int .i64 La, .int .i64 (n : Int), .slice a es.length c] 24)]; simp [go_sem])
  have Z1 := Lib.hid (show ((w.alloc (.cells #[.int .i64 La, .int .i64 (n : Int), .slice a es.length c] 24)).alloc (.cells #[.func (.func f) #[] caps] 42)).heap.size = w.heap.size + 2 by rw [World.size_alloc, World.size_alloc])
  clear hrd hvg K0 k1 hq
  refine (callsIn_wide (n := 8)).1 ?_
  refine callsIn_of_wp_marks Try.func47 rfl trivial ?_ rfl
  simp only [Try.ntmps47, List.size_toArray, List.length_cons, List.length_nil, Nat.reduceAdd, Nat.reduceSub, Array.replicate_succ, Array.replicate_zero, List.push_toArray, List.append_toArray, List.nil_append, List.cons_append]
  obtain ⟨g1, g2, g3⟩ := id K1.out
  gi_wp2_with (first
    | (refine ⟨trivial, ?_⟩; gi_at_call 55; (with_reducible refine (callsIn_wide.2 (HV.out _ (HRD.out.keep B1.out))).mono ?_); rintro e W2 ⟨rfl, b2⟩; (have K2 := Lib.hid ((K1.out.keep b2).keep (below1 W2 (.cells #[.slice none 0 0] 27)))); (have C2 := Lib.hid (cell_keep (cell_keep C1.out b2) (below1 W2 (.cells #[.slice none 0 0] 27)))); (have B2 := Lib.hid (below_more (below_more B1.out (Nat.le_refl _) b2) (Nat.le_refl _) (below1 W2 (.cells #[.slice none 0 0] 27)))); (have X2 := Lib.hid (Boxed.new W2 27 (.slice none 0 0))); (have S2 := Lib.hid (show w.heap.size + 2 ≤ W2.heap.size by have := b2.size; have := Z1.out; omega)); (clear b2 g1 g2 g3); (obtain ⟨g1, g2, g3⟩ := id K2.out))
    | (refine ⟨trivial, ?_⟩; gi_at_call 72; (with_reducible refine (callsIn_wide.2 (components_any La (n : Int) (.slice a es.length c) _)).mono ?_); rintro e W5 ⟨rfl, rfl⟩))
  obtain ⟨p6, hp6⟩ : ∃ p6, W2.heap.size = p6 := ⟨_, rfl⟩
  obtain ⟨W3, hW3⟩ : ∃ W3, W2.alloc (.cells #[.slice none 0 0] 27) = W3 := ⟨_, rfl⟩
  have hZ3 : W3.heap.size = p6 + 1 := by rw [← hW3, World.size_alloc, hp6]
  rw [hW3] at K2 B2 X2 C2 ⊢
  rw [hp6] at X2 S2 ⊢
  clear hW3 hp6 g1 g2 g3
  have bg := below1 W3 (.cells #[.int .i64 La, .int .i64 (n : Int), .slice a es.length c] 24)
  have G5 := Lib.hid (BoxG.new W3 La (n : Int) (.slice a es.length c) 24)
  have C5 := Lib.hid (cell_keep C2.out bg)
  have hZ5 : (W3.alloc (.cells #[.int .i64 La, .int .i64 (n : Int), .slice a es.length c] 24)).heap.size = p6 + 2 := by rw [World.size_alloc, hZ3]
  have X5 := Lib.hid (X2.out.alloc (.cells #[.int .i64 La, .int .i64 (n : Int), .slice a es.length c] 24))
  have B5 := Lib.hid (below_more B2.out (Nat.le_refl _) bg)
  obtain ⟨W5, hW5⟩ : ∃ W5, W3.alloc (.cells #[.int .i64 La, .int .i64 (n : Int), .slice a es.length c] 24) = W5 := ⟨_, rfl⟩
  rw [hZ3] at G5
  rw [hW5] at G5 C5 hZ5 X5 B5 ⊢
  clear hW5 bg K2 B2 X2 C2 hZ3
  obtain ⟨p3, hp3⟩ : ∃ p3, w.heap.size + 1 = p3 := ⟨_, rfl⟩
  rw [hp3] at C5 ⊢
  have hS2 := S2.out
  refine rangeFunc_on rfl (by omega) (gf := 93) (lb := #[.pointer (some ⟨p6 + 1, 0, none⟩)]) rfl trivial (enters_of Try.func93 (by kernel_rfl) rfl)
    (R := fun _ W' => ∃ R LO, p6 + 3 < R ∧ CJ w (p6 + 3) (p6 + 2) p3 p6 (.func (.func f) #[] caps) LO R ((comps es n).filter q) W') ?_ ?_
  · intro fn hfn REC hREC
    have HREC := Lib.hid hREC
    clear hREC
    rw [hZ5]
    obtain ⟨W6, hW6⟩ : ∃ W6, (W5.alloc (.deferred (some []))).alloc (.loop REC) = W6 := ⟨_, rfl⟩
    have b6 : Below W5.heap.size W5 W6 := by rw [← hW6]; exact below_more (below1 W5 _) (Nat.le_refl _) (below1 _ _)
    have z6 : W6.heap.size = p6 + 4 := by rw [← hW6, World.size_alloc, World.size_alloc, hZ5]
    have l6 : W6.heap[p6 + 3]? = some (.loop REC) := by
      have := World.alloc_heap_new (W5.alloc (.deferred (some []))) (.loop REC)
      rw [World.size_alloc, hZ5] at this
      rw [← hW6]; exact this
    have d6 : W6.heap[p6 + 2]? = some (.deferred (some [])) := by
      have := World.alloc_heap_new W5 (.deferred (some []))
      rw [hZ5] at this
      rw [← hW6]; exact (Below.heap_alloc _ _ _ (by rw [World.size_alloc]; omega)).trans this
    rw [hW6]
    clear hW6
    have CJ0 : ∀ R, CJ w (p6 + 3) (p6 + 2) p3 p6 (.func (.func f) #[] caps) (.loop REC) R [] W6 := fun R =>
      ⟨l6, d6, below_more B5.out (Nat.le_refl _) b6, cell_keep C5.out b6, _, [], X5.out.kept (grown_none b6) (by simp), World.ownsRow_nil _ _ _ _, rfl, fun i u c hu => by simp at hu⟩
    refine (comps_in 7 (p6 + 3) (p6 + 1) w W6 La n (.slice a es.length c) es (fun R pre X => p6 + 3 < R → CJ w (p6 + 3) (p6 + 2) p3 p6 (.func (.func f) #[] caps) (.loop REC) R ((pre.map (compF es n)).filter q) X) (by omega) hn64 HVG.out.ok hlen ?_ ?_ HRD.out (below_more B5.out (Nat.le_refl _) b6) (by omega) (G5.out.keep b6) (fun R _ => CJ0 R)).mono ?_
    · intro R pre X Y row hWR hJ hg hr hR
      exact (hJ hR).abide hg hr (by omega) (by omega) (by omega) (by omega) (by omega)
    · intro R pre s u X hWR hRX hJ hpl hs hu
      have hR : p6 + 3 < R := by omega
      have HJ := Lib.hid (hJ hR)
      clear hJ CJ0 l6 d6 b6
      obtain ⟨PR, hPR⟩ : ∃ PR : World → Prop, PR = fun X' => (p6 + 3 < R → CJ w (p6 + 3) (p6 + 2) p3 p6 (.func (.func f) #[] caps) (.loop REC) R (((pre ++ [s]).map (compF es n)).filter q) X') ∧ KpC w.heap.size (p6 + 1) W6.heap.size R X X' := ⟨_, rfl⟩
      have HPR := Lib.hid (fun Y (h1 : CJ w (p6 + 3) (p6 + 2) p3 p6 (.func (.func f) #[] caps) (.loop REC) R (((pre ++ [s]).map (compF es n)).filter q) Y) (h2 : KpC w.heap.size (p6 + 1) W6.heap.size R X Y) => show PR Y by rw [hPR]; exact ⟨fun _ => h1, h2⟩)
      suffices hst : YieldAt Fence.wide (7 - 1) Try.prog (p6 + 3) #[u] X (fun e X' => e = .returned (.bool true) ∧ PR X') by rw [hPR] at hst; exact hst
      clear hPR
      obtain ⟨au, cu, rfl⟩ := own_slice hu
      have hcl := compF_len es n s
      refine round_on HREC.out trivial HJ.out.lp rfl fun RB => ?_
      have HP := Lib.hid (HJ.out.put (.loop RB) (by omega) (by omega) (by omega) (by omega) (by omega))
      have gP := gb_putObj X (p6 + 3) (.loop RB)
      have hszP : (X.putObj (p6 + 3) (.loop RB)).heap.size = X.heap.size := by simp
      have HKX := Lib.hid (show ∀ j, j ≠ p6 + 3 → (X.putObj (p6 + 3) (.loop RB)).heap[j]? = X.heap[j]? from fun j hj => World.putObj_heap_other hj)
      have HBP := Lib.hid (below_putK (Below.refl w.heap.size X) (p6 + 3) (by omega) (.loop RB))
      have HU := Lib.hid (show IntsAt (X.putObj (p6 + 3) (.loop RB)) (R + 1) (.slice au (compF es n s).length cu) (compF es n s) from World.ownsRow.kept hu gP (by
        cases hv : (Value.slice au (compF es n s).length cu).ownBlock with
        | none => exact .inl rfl
        | some g => exact .inr (fun e => by injection e with e; have := (hu.lt g hv).1; omega)))
      have HCQ := Lib.hid (HQ.out _ (.slice au (compF es n s).length cu) (compF es n s) HP.out.b HU.out.rd (by omega))
      have HFM := Lib.hid (filter_map_snoc (compF es n) q pre s)
      have x3 := HP.out.i3
      have HJl := HJ.out.lp
      have hcs : ((pre.map (compF es n)).filter q).length ≤ 64 := Nat.le_trans (List.length_filter_le _ _) (by rw [List.length_map]; exact hpl)
      clear hu gP
      obtain ⟨kc, hkc⟩ : ∃ kc, (compF es n s).length = kc := ⟨_, rfl⟩
      rw [hkc] at HU HCQ ⊢
      cases hqc : q (compF es n s) with
      | false =>
        rw [hqc] at HCQ HFM
        have HFM2 := Lib.hid (show ((pre ++ [s]).map (compF es n)).filter q = (pre.map (compF es n)).filter q by rw [HFM.out, if_neg (by decide)])
        clear HFM hqc
        gi_wp2_with (first
          | exact HJl
          | (refine ⟨trivial, ?_⟩; (with_reducible refine (CallsIn.inRound (p6 + 3) (callsIn_wide.2 HCQ.out)).mono ?_); rintro e W7 ⟨rfl, b7⟩; clear x3))
        have hP7 := HP.out.keep b7
        have hl7 : p6 + 3 < W7.heap.size := (Array.getElem?_eq_some_iff.1 hP7.lp).1
        refine ⟨hP7.lp, HPR.out _ ?_ ⟨below_putK (HBP.out.trans (b7.mono (by have := HP.out.b.size; omega))) _ (by omega) _, ?_, fun j h1 h2 => ?_⟩⟩
        · rw [HFM2.out]
          exact hP7.put _ (by omega) (by omega) (by omega) (by omega) (by omega)
        · rw [World.putObj_heap_other (by omega)]
          exact (b7.block _ (by rw [hszP]; omega)).trans (HKX.out _ (by omega))
        · rw [World.putObj_heap_other (by omega)]
          exact (b7.block _ (by rw [hszP]; omega)).trans (HKX.out _ (by omega))
      | true =>
        rw [hqc] at HCQ HFM
        have HFM2 := Lib.hid (show ((pre ++ [s]).map (compF es n)).filter q = (pre.map (compF es n)).filter q ++ [compF es n s] by rw [HFM.out, if_pos rfl])
        clear HFM hqc
        gi_wp2_with (first
          | exact HJl
          | (refine ⟨trivial, ?_⟩; (with_reducible refine (CallsIn.inRound (p6 + 3) (callsIn_wide.2 HCQ.out)).mono ?_); rintro e W7 ⟨rfl, b7⟩; clear x3; (have hP7 := HP.out.keep b7); (obtain ⟨lv, us, q1, q2, q3, q4⟩ := hP7.ls); (have HQ3 := Lib.hid q3); (obtain ⟨m9, hm9⟩ : ∃ m9, us.length = m9 := ⟨_, rfl⟩); (have HM9 := Lib.hid hm9); (have hm64 : m9 ≤ 64 := by rw [← hm9, q3]; exact hcs); (have HQ2 := Lib.hid q2); (rw [hm9] at q2); clear q3 hm9; (obtain ⟨a9, c9, rfl⟩ := own_slice q2); (have c7 := q1.cell); (have HP7 := Lib.hid hP7); (have HQ1 := Lib.hid q1); (have HQ4 := Lib.hid q4); (have hz7 := b7.size); clear hP7 q1 q4)
          | (gi_at_builtin; refine wpListIn_append_own _ rfl _ _ 27 rfl (R + 1) 34 i0 (.slice none 0 0) 1 24 Try.underlying27 hi hz0 hz1 hz2 rfl (by decide) _ _ _ rfl (q2.alloc _) ⟨W7.heap.size, 0, none⟩ 1 1 [.slice au kc cu] rfl rfl (World.news_of_block (cs := #[.slice au kc cu]) (t := 34) (fr := (0, 0)) (heap_alloc_new W7 _)) (by simp [Value.oneCell']) (by unfold maxLen; omega) (by omega) (by rw [World.size_alloc]; omega) ?_; intro v' w4 hown4 hgrow4 hv4; (obtain ⟨hC, y1, y2, hsm, hbw⟩ := HP7.out.app (c := compF es n s) HQ1.out HQ2.out HQ3.out HQ4.out (by omega) (HU.out.keep b7) hgrow4 (by rw [HM9.out]; exact hown4) (by omega) (by omega) (by omega) (by omega) (by omega) (by omega) (by omega) (by omega)); (have HC := Lib.hid hC); (have HSM := Lib.hid hsm); (have HBW := Lib.hid hbw); (obtain ⟨g', cap', rfl, -, -⟩ := hown4.form (Nat.succ_pos _)); clear hC hsm hbw hown4 hgrow4 hv4))
        refine ⟨HC.out.lp, HPR.out _ ?_ ⟨below_putK ((HBP.out.trans (b7.mono (by have := HP.out.b.size; omega))).trans HBW.out) _ (by omega) _, ?_, fun j h1 h2 => ?_⟩⟩
        · rw [HFM2.out]
          exact HC.out.put _ (by omega) (by omega) (by omega) (by omega) (by omega)
        · rw [World.putObj_heap_other (by omega)]
          exact (HSM.out _ (by omega) (by omega)).trans ((b7.block _ (by rw [hszP]; omega)).trans (HKX.out _ (by omega)))
        · rw [World.putObj_heap_other (by omega)]
          exact (HSM.out _ (by omega) (by omega)).trans ((b7.block _ (by rw [hszP]; omega)).trans (HKX.out _ (by omega)))
    · rintro e W' ⟨hv, R, hWR, hJ⟩
      have hJ' := hJ (by omega)
      exact ⟨hv, hJ'.lp, R, _, by omega, hJ'⟩
  · rintro fn W' o r ⟨R, LO, hR, hJ⟩ hl
    have hK := hJ.put o (by omega) (by omega) (by omega) (by omega) (by omega)
    rw [hZ5]
    obtain ⟨a9, c9, hcp, x6, hr, hb⟩ := hK.rows (by omega) (by omega) (by omega)
    have IX := Lib.hid hK.dp
    have HR2 := Lib.hid hr
    have HB2 := Lib.hid hb
    clear hK hJ hr hb hl
    gi_wp2
    refine ⟨by simp, .inl ⟨_, _, rfl, run_takeDeferred IX.out, ?_⟩⟩
    exact ⟨_, by simp [results, Try.results47, go_sem], _, rfl, HR2.out, HB2.out, _, _, _, rfl, hcp⟩
/-- What chosen returns. -/
theorem chosen_any (La S : Int) (es : List E3) (v : Value) (f : FuncId) (caps : Array Value) (q : List Int → Bool) (w : World) (hrd : EdgesRd w v es) (hn : es.length ≤ 9223372036854775807)
    (hE : ∀ args w, (callFunc f args).run Try.prog w = .ok (.enter f args) w)
    (hq : chkG La S es = 0 → ∀ X u c, Below w.heap.size w X → IntsRd X u c → c.length ≤ 64 → Calls Try.prog f (#[u] ++ caps) X fun e X' => e = .returned (.bool (q c)) ∧ Below X.heap.size X X') :
    Calls Try.prog 47 #[grV La S v, .func (.func f) #[] caps] w (RowsOut w (if chkG La S es = 0 then (comps es S.toNat).filter q else []) (if chkG La S es = 0 then 0 else 1)) := by
  by_cases h0 : chkG La S es = 0
  · rw [if_pos h0, if_pos h0]
    have hvg := chkG_zero h0
    have hs1 := hvg.s1
    obtain ⟨n, rfl⟩ : ∃ n : Nat, S = (n : Int) := ⟨S.toNat, by omega⟩
    rw [Int.toNat_natCast]
    exact chosen_good La n es v f caps q w hrd hvg hE (hq h0)
  · rw [if_neg h0, if_neg h0]
    obtain ⟨z, hz⟩ : ∃ z, chkG La S es = z := ⟨_, rfl⟩
    have HRD := Lib.hid hrd
    have HV := Lib.hid (fun W h => hz ▸ gcheck_any La S es v W h hn)
    rw [hz] at h0
    have d0 : (z != 0) = true := by simpa using h0
    have k1 := below1 (w.alloc (.cells #[.int .i64 La, .int .i64 S, v] 24)) (.cells #[.func (.func f) #[] caps] 42)
    have K1 := Lib.hid ((BoxG.new w La S v 24).keep k1)
    have B1 := Lib.hid (below_more (below1 w (.cells #[.int .i64 La, .int .i64 S, v] 24)) (Nat.le_refl _) k1)
    obtain ⟨a, c, rfl⟩ := hrd.form
    clear hrd k1 hq hz h0
    refine (callsIn_wide (n := 8)).1 ?_
    refine callsIn_of_wp_marks Try.func47 rfl trivial ?_ rfl
    simp only [Try.ntmps47, List.size_toArray, List.length_cons, List.length_nil, Nat.reduceAdd, Nat.reduceSub, Array.replicate_succ, Array.replicate_zero, List.push_toArray, List.append_toArray, List.nil_append, List.cons_append]
    obtain ⟨g1, g2, g3⟩ := id K1.out
    gi_wp2_with (refine ⟨trivial, ?_⟩; gi_at_call 55; (with_reducible refine (callsIn_wide.2 (HV.out _ (HRD.out.keep B1.out))).mono ?_); rintro e W2 ⟨rfl, b2⟩; (have B2 := Lib.hid (below_more B1.out (Nat.le_refl _) b2)); (clear b2 g1 g2 g3))
    exact ⟨.tuple #[.slice none 0 0, .int .i64 1], by simp [results, Try.results47, go_sem], _, rfl, ⟨none, 0, rfl, fun i r hr => by simp at hr⟩, B2.out, _, _, _, rfl, Nat.le_refl _⟩
end Go.Proofs.Ytfkplnmhlpabaaa
