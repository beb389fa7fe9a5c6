/- What subset.build's function numberOf does: the number of a set, which is new if it was not found before. Conditions: at most 1000 sets. What the function does that subset.build hands to Follow: an edge more, and its set, if it is new. Conditions: at most 1000 sets and 100000 edges. What states.Moves.Follow does with the function of subset.build; what subset.members returns. Conditions: as Step; at most 1000 sets. -/
import Derived.Test.YtblkijdodojaeaaDoorQ13
import Derived.Maps.OwnSet

namespace Go.Proofs.YtblkijdodojaeaaDoor
open Go.RowKit Go.Maps
set_option linter.unusedSimpArgs false
set_option linter.unusedVariables false

/-- An entry of a map's literal. -/
theorem wpList_insert_own {H : Type} {P : Program} (w : World) {ops : Array Oper} {rest : List Oper} {o : Oper} {a : Act} {Q : Exit → Act → World → Prop}
    (hg : o.guard = none) (m x v : Operand) (t : TypeId) (hop : o.op = Op.insert t m x v)
    (k e : TypeId) (K : Keyed P k) (ht : P.underlying t = some (.map k e)) (R : Value → Option (DataW H × List MemPlace)) (b n : Nat) (D : DataW H)
    (hm : a.eval m = .map (some b)) (hown : w.ownsMap P k R b n D) (hn : n < maxLen) (key val : Value) (kl : Lit) (hx : a.eval x = key) (hv : a.eval v = val) (hkey : keyOf P k key = some kl)
    (d : DataW H) (ps : List MemPlace) (hval : R val = some (d, ps))
    (hK : ∀ w', w'.ownsMap P k R b (n + 1) (D.put kl d) → w.grownBy w' (some b) → wpList P ops Q rest (a.put o.dst undef) w') :
    wpList P ops Q (o :: rest) a w := by
  refine wpList_plain hg fun K' hK' => ?_
  obtain ⟨w', hrun, r1, r2⟩ := hown.update K ht hn hkey hval
  unfold Oper.wp
  simp [execOp, hop, hm, hx, hv, hrun, Result.andThen]
  exact hK' _ _ (hK w' r1 r2)
abbrev MapD : Type := DataW Unit
abbrev keyN (S : Nat) : Lit := .int .u64 (S : Int)
def stepD (p : MapD × Nat) (S : Nat) : MapD × Nat := (p.1.put (keyN S) (.lit (.int .i64 (p.2 : Int))), p.2 + 1)
def mapD (sets : List Nat) : MapD := (sets.foldl stepD (.map [], 0)).1
theorem mapD_len : ∀ (sets : List Nat) (p : MapD × Nat), (sets.foldl stepD p).2 = p.2 + sets.length
  | [], p => rfl
  | S :: r, p => by rw [List.foldl_cons, mapD_len r, List.length_cons]; show p.2 + 1 + r.length = _; omega
theorem mapD_snoc (sets : List Nat) (S : Nat) : mapD (sets ++ [S]) = (mapD sets).put (keyN S) (.lit (.int .i64 ((sets.length : Nat) : Int))) := by
  unfold mapD
  rw [List.foldl_append]
  show ((sets.foldl stepD (.map [], 0)).1.put _ _) = _
  rw [mapD_len sets (.map [], 0), Nat.zero_add]
theorem keyN_wf {S : Nat} (h : S < 18446744073709551616) : (Lit.int .u64 (S : Int)).wf = true := by
  unfold Lit.wf IntKind.min IntKind.max
  simp [IntKind.signed, IntKind.bits]
  omega
theorem keyN_ne {S T : Nat} (h : S ≠ T) : keyN S ≠ keyN T := fun e => by injection e with _ e; omega
theorem snoc_ind {p : List Nat → Prop} (h0 : p []) (h1 : ∀ l x, p l → p (l ++ [x])) : ∀ l, p l := by
  intro l
  have : ∀ n (l : List Nat), l.length = n → p l := by
    intro n
    induction n with
    | zero => intro l hl; rw [List.length_eq_zero_iff.1 hl]; exact h0
    | succ n ih =>
      intro l hl
      have hne : l ≠ [] := fun e => by rw [e] at hl; cases hl
      rw [← List.dropLast_concat_getLast hne]
      exact h1 _ _ (ih _ (by rw [List.length_dropLast]; omega))
  exact this _ l rfl
theorem mapD_is : ∀ (sets : List Nat), IsMap (mapD sets) :=
  snoc_ind isMap_empty (fun l x ih => by rw [mapD_snoc]; exact ih.put _ _)
theorem keyN_key (S : Nat) : WideAt.IsKeyLit (keyN S) := trivial
theorem mapD_has (T : Nat) : ∀ (sets : List Nat), Maps.has (mapD sets) (keyN T) = decide (T ∈ sets) :=
  snoc_ind (by simp [mapD, Maps.has]) (fun l x ih => by
    rw [mapD_snoc]
    by_cases h : T = x
    · subst h
      rw [has_put_same (mapD_is l) (keyN_key _)]; simp
    · rw [has_put_other (keyN_ne h), ih]; simp [h])
theorem mapD_at (T : Nat) (z : MapD) : ∀ (sets : List Nat), sets.Nodup → T ∈ sets → (mapD sets).atKey (keyN T) z = .lit (.int .i64 ((sets.idxOf T : Nat) : Int)) :=
  snoc_ind (fun _ h => by cases h) (fun l x ih hn h => by
    rw [mapD_snoc]
    rw [List.nodup_append] at hn
    by_cases e : T = x
    · subst e
      have hx : T ∉ l := fun h2 => hn.2.2 T h2 T (by simp) rfl
      rw [atKey_put_same (mapD_is l) (keyN_key _), List.idxOf_append, if_neg hx]; simp
    · have hl : T ∈ l := by
        rw [List.mem_append, List.mem_singleton] at h
        exact h.resolve_right e
      rw [atKey_put_other (keyN_ne e), ih hn.1 hl, List.idxOf_append, if_pos hl])
theorem Tryd.keyLaw : Keyed Tryd.prog 75 := int_keyed Tryd.underlying75
theorem Tryd.zeroI (w : World) : (zeroValue 3).run Tryd.prog w = .ok (.int .i64 0) w := by kernel_rfl
/-- All cells but those of rows of sets, and of their variables, are kept. -/
def KO (W W' : World) : Prop := W.heap.size ≤ W'.heap.size ∧ ∀ (k : Nat) (c : Array Value) (t : TypeId) (fr : Nat × Nat), W.heap[k]? = some (Obj.cells c t fr) → t ≠ 75 → t ≠ 117 → W'.heap[k]? = some (Obj.cells c t fr)
theorem KO.refl (W : World) : KO W W := ⟨Nat.le_refl _, fun k c t fr h _ _ => h⟩
theorem KO.trans {W W1 W2 : World} (h : KO W W1) (h2 : KO W1 W2) : KO W W2 := ⟨Nat.le_trans h.1 h2.1, fun k c t fr hk h3 h4 => h2.2 k c t fr (h.2 k c t fr hk h3 h4) h3 h4⟩
theorem KO.grown {W W' : World} {row : Option Nat} (hg : W.grownBy W' row) (hr : ∀ k, row = some k → ∀ c t fr, W.heap[k]? = some (.cells c t fr) → t = 75 ∨ t = 117) : KO W W' :=
  ⟨hg.size, fun k c t fr hk h3 h4 => (hg.block k (Array.getElem?_eq_some_iff.1 hk).1 (fun e => by
    rcases hr k e.symm c t fr hk with h | h
    · exact h3 h
    · exact h4 h)).trans hk⟩
theorem KO.boxed {W W' : World} (h : KO W W') {p : Nat} {t : TypeId} {v : Value} (hb : Boxed W p t v) (h3 : t ≠ 75) (h4 : t ≠ 117) : Boxed W' p t v := h.2 p _ t _ hb h3 h4
theorem KO.gbox {W W' : World} (h : KO W W') {p : Nat} {x y z : Value} (hb : GBox W p x y z) : GBox W' p x y z := h.2 p _ _ _ hb (by decide) (by decide)
theorem KO.row {W W' : World} (h : KO W W') {A t s k : Nat} {v : Value} {xs : List Value} (hr : W.ownsRow A t s v k xs) (h3 : t ≠ 75) (h4 : t ≠ 117) : W'.ownsRow A t s v k xs := by
  refine ⟨hr.1, ?_⟩
  rcases hr.2 with h1 | ⟨g, cap, cur, h1, h2, h5, h6⟩
  · exact .inl h1
  · exact .inr ⟨g, cap, cur, h1, h2, h.2 g _ _ _ h5 h3 h4, h6⟩
theorem map_not_cells {W : World} {b n : Nat} {D : MapD} {R : Value → Option (MapD × List MemPlace)} {k : TypeId} (h : W.ownsMap Tryd.prog k R b n D) {c : Array Value} {t : TypeId} {fr : Nat × Nat} : W.heap[b]? ≠ some (.cells c t fr) := by
  obtain ⟨es, clock, hb, _⟩ := h
  rw [hb]; simp
theorem row_cells {W : World} {A t s k g : Nat} {v : Value} {xs : List Value} (hr : W.ownsRow A t s v k xs) (hg : v.ownBlock = some g) : ∃ c fr, W.heap[g]? = some (.cells c t fr) := by
  rcases hr.2 with ⟨rfl, _⟩ | ⟨g2, cap, cur, rfl, _, hgb, _⟩
  · simp [Value.ownBlock] at hg
  · obtain rfl : g2 = g := by simpa [Value.ownBlock] using hg
    exact ⟨_, _, hgb⟩
def setz (l : List Nat) : List Value := l.map u64v
theorem setz_snoc (l : List Nat) (S : Nat) : setz (l ++ [S]) = setz l ++ [u64v S] := by unfold setz; rw [List.map_append]; rfl
/-- The sets that are found so far, and their numbers. -/
structure NS (lo p8 p9 Bm : Nat) (sets : List Nat) (W : World) : Prop where
  x8 : Boxed W p8 116 (.map (some Bm))
  mp : W.ownsMap Tryd.prog 75 (plainElem Tryd.prog 3) Bm sets.length (mapD sets)
  st : ∃ v, Boxed W p9 117 v ∧ W.ownsRow lo 75 1 v sets.length (setz sets)
theorem NS.grown {lo p8 p9 Bm : Nat} {sets : List Nat} {W W' : World} {row : Option Nat} (h : NS lo p8 p9 Bm sets W) (hg : W.grownBy W' row)
    (hr : ∀ k, row = some k → ∃ c t fr, W.heap[k]? = some (.cells c t fr) ∧ t ≠ 75 ∧ t ≠ 117 ∧ t ≠ 116) : NS lo p8 p9 Bm sets W' := by
  obtain ⟨v, h1, h2⟩ := h.st
  have hne : ∀ {p : Nat} {t : TypeId} {u : Value}, Boxed W p t u → (t = 117 ∨ t = 116) → some p ≠ row := fun {p t u} hb ht e => by
    obtain ⟨c, t2, fr, h3, h4, h5, h6⟩ := hr p e.symm
    rw [show W.heap[p]? = _ from hb] at h3
    injection h3 with h3
    injection h3 with _ h3 _
    rcases ht with ht | ht
    · exact h5 (h3 ▸ ht)
    · exact h6 (h3 ▸ ht)
  refine ⟨h.x8.kept hg (hne h.x8 (.inr rfl)), h.mp.kept hg (fun e => ?_), v, h1.kept hg (hne h1 (.inl rfl)), World.ownsRow.kept h2 hg ?_⟩
  · obtain ⟨c, t2, fr, h3, _⟩ := hr Bm e.symm
    exact map_not_cells h.mp h3
  · cases hv : v.ownBlock with
    | none => exact .inl rfl
    | some g =>
      refine .inr (fun e => ?_)
      obtain ⟨c, t2, fr, h3, h4, h5, h6⟩ := hr g e.symm
      obtain ⟨c2, fr2, h7⟩ := row_cells h2 hv
      rw [h7] at h3
      injection h3 with h3
      injection h3 with _ h3 _
      exact h4 h3.symm
theorem NS.keep {lo p8 p9 Bm : Nat} {sets : List Nat} {W W' : World} (h : NS lo p8 p9 Bm sets W) (hb : Below W.heap.size W W') : NS lo p8 p9 Bm sets W' := h.grown (grown_none hb) (fun k e => by cases e)
def addN (sets : List Nat) (T : Nat) : List Nat := if T ∈ sets then sets else sets ++ [T]
theorem Tryd.infoSetV : (Tryd.prog.info? 75).map (fun i => (i.zero, i.size, i.bytes)) = some (some (.int .u64 0), 1, 8) := by kernel_rfl
set_option maxRecDepth 100000 in
set_option maxHeartbeats 6400000 in
theorem number_any (lo p8 p9 Bm : Nat) (sets : List Nat) (T : Nat) (Wm W : World) (h : NS lo p8 p9 Bm sets W) (hb : Below lo Wm W) (hlo : lo ≤ W.heap.size) (h9 : lo ≤ p9) (hB : lo ≤ Bm) (hT : T < 18446744073709551616) (hd : sets.Nodup) (hl : sets.length ≤ 1000) :
    Calls Tryd.prog 79 #[u64v T, .pointer (some ⟨p8, 0, none⟩), .pointer (some ⟨p9, 0, none⟩)] W fun e W' => e = .returned (.int .i64 ((sets.idxOf T : Nat) : Int)) ∧ NS lo p8 p9 Bm (addN sets T) W' ∧ Below lo Wm W' ∧ KO W W' := by
  obtain ⟨i0, hi, hz0, hz1, hz2⟩ := info_parts Tryd.infoSetV
  have hkey : keyOf Tryd.prog 75 (.int .u64 (T : Int)) = some (keyN T) := keyOf_int_mk Tryd.underlying75 (keyN_wf hT)
  have x8 := h.x8.cell
  obtain ⟨v, h9b, hrow⟩ := h.st
  have hmp := h.mp
  have x9 := h9b.cell
  by_cases hin : T ∈ sets
  · have hhas := mapD_has T sets
    rw [decide_eq_true hin] at hhas
    have hat2 := Lib.hid (fun z => mapD_at T z sets hd hin)
    have HA := Lib.hid (show addN sets T = sets from if_pos hin)
    have HN := Lib.hid h
    have HB := Lib.hid hb
    clear h h9b hrow hin hd hb
    go_enter Tryd.func79, Tryd.ntmps79
    go_wp2_with (first
      | (at_lookup; refine wpList_lookup_own_ok_int _ rfl _ _ 116 rfl 75 3 .i64 Tryd.keyLaw Tryd.underlying116 Tryd.underlying3 (Tryd.zeroI _) Bm sets.length (mapD sets) rfl hmp _ _ rfl hkey ?_; intro c hat hwc; rw [hhas])
      | (at_lookup; refine wpList_lookup_own_int _ rfl _ _ 116 rfl 75 3 .i64 Tryd.keyLaw Tryd.underlying116 Tryd.underlying3 (Tryd.zeroI _) Bm sets.length (mapD sets) rfl hmp _ _ rfl hkey ?_; intro c2 hat3 hwc2))
    go_ret
    rw [hat2.out] at hat3
    injection hat3 with hat3
    injection hat3 with _ hat3
    exact ⟨by rw [hat3]; rfl, by rw [HA.out]; exact HN.out, HB.out, KO.refl _⟩
  · have hhas := mapD_has T sets
    rw [decide_eq_false hin] at hhas
    have HA := Lib.hid (show addN sets T = sets ++ [T] from if_neg hin)
    have HI := Lib.hid (show sets.idxOf T = sets.length from List.idxOf_eq_length hin)
    have hd2 : (sets ++ [T]).Nodup := by
      rw [List.nodup_append]
      exact ⟨hd, by simp, fun x hx y hy => by rw [List.mem_singleton] at hy; subst hy; exact fun e => hin (e ▸ hx)⟩
    have HAT := Lib.hid (fun z => mapD_at T z (sets ++ [T]) hd2 (by simp))
    rw [mapD_snoc, List.idxOf_append, if_neg hin] at HAT
    have hl9 := hrow.lt
    have HB := Lib.hid hb
    have HX8 := Lib.hid h.x8
    have hn8 : some p8 ≠ some Bm := fun e => by injection e with e; subst e; exact map_not_cells hmp h.x8
    have hn9 : some p9 ≠ some Bm := fun e => by injection e with e; subst e; exact map_not_cells hmp h9b
    have hnr : v.ownBlock ≠ some Bm := fun e => by
      obtain ⟨c, fr, h1⟩ := row_cells hrow e
      exact map_not_cells hmp h1
    obtain ⟨a9, c9, rfl⟩ := own_slice hrow
    have hnr1 : ∀ (w1 : World) {D : MapD} {n : Nat}, w1.ownsRow lo 75 1 (.slice a9 sets.length c9) sets.length (setz sets) → w1.ownsMap Tryd.prog 75 (plainElem Tryd.prog 3) Bm n D → some Bm ≠ (Value.slice a9 sets.length c9).ownBlock := fun w1 D n h1 h2 e => by
      obtain ⟨c, fr, h3⟩ := row_cells h1 e.symm
      exact map_not_cells h2 h3
    have HX8F := Lib.hid (fun (w1 w4 : World) (o : Obj) (u : Value) (hg1 : W.grownBy w1 (some Bm)) (hg4 : (w1.alloc o).grownBy w4 (Value.slice a9 sets.length c9).ownBlock) (hr1 : w1.ownsRow lo 75 1 (.slice a9 sets.length c9) sets.length (setz sets)) (k1 : Boxed w4 p9 117 (.slice a9 sets.length c9)) =>
      show Boxed (w4.setCell ⟨p9, 0, none⟩ u) p8 116 (.map (some Bm)) by
        have e1 := HX8.out.kept hg1 hn8
        have e2 := (e1.alloc o).kept hg4 (e1.not_row (by decide) hr1)
        exact e2.kept (grownBy_setCell' w4 p9 _) (fun e => by injection e with e; subst e; have h5 := (show w4.heap[p8]? = _ from e2).symm.trans k1; simp at h5))
    have HK1 := Lib.hid (fun w1 (hg : W.grownBy w1 (some Bm)) => show KO W w1 from KO.grown hg (fun k e c t fr hk => by injection e with e; subst e; exact absurd hk (map_not_cells hmp)))
    clear h hin hd hb
    go_enter Tryd.func79, Tryd.ntmps79
    go_wp2_with (first
      | (at_lookup; refine wpList_lookup_own_ok_int _ rfl _ _ 116 rfl 75 3 .i64 Tryd.keyLaw Tryd.underlying116 Tryd.underlying3 (Tryd.zeroI _) Bm sets.length (mapD sets) rfl hmp _ _ rfl hkey ?_; intro c hat hwc; rw [hhas])
      | (at_mapUpdate; refine wpList_mapUpdate_own _ rfl _ _ _ 116 rfl 75 3 Tryd.keyLaw Tryd.underlying116 _ Bm sets.length _ rfl hmp (by unfold maxLen; omega) _ _ _ rfl rfl hkey _ [] (plainElem_int Tryd.underlying3 (WalkArith.wf_i64 (by omega))) ?_; intro w1 hown1 hgrow1; (have h9c := h9b.kept hgrow1 hn9); (have hrow1 := World.ownsRow.kept hrow hgrow1 (.inr hnr)); (have x9b := h9c.cell); (have hs1 := hgrow1.size))
      | (at_builtin; refine wpList_append_own_at _ rfl _ _ 117 rfl lo 75 i0 (.int .u64 0) 1 8 Tryd.underlying117 hi hz0 hz1 hz2 rfl (by decide) _ _ _ rfl (hrow1.alloc _) ⟨w1.heap.size, 0, none⟩ 1 1 [u64v T] rfl rfl (cell_one_new _ _ _) (by intro u hu; simp at hu; subst hu; rfl) (by unfold maxLen; omega) (by omega) (by rw [World.size_alloc]; omega) ?_; intro v' w4 hown4 hgrow4 hnil4 hloc4; (obtain ⟨g4, cap4, rfl, -, -⟩ := hown4.form (Nat.succ_pos _)); (obtain ⟨k1, k2, k3, k4, k5⟩ := Boxed.appended (n₀ := lo) (B := p9) (t := 117) h9c (by decide) hrow1 (by omega) h9 hown4 hgrow4); (have hmp4 := World.ownsMap.setCell (a := ⟨p9, 0, none⟩) (World.ownsMap.kept (hown1.alloc _) hgrow4 (hnr1 w1 hrow1 hown1)) (fun e => hn9 (by rw [e])) (.slice (some ⟨g4, 0, none⟩) (sets.length + 1) cap4)); (have hx8 := HX8F.out w1 w4 _ (.slice (some ⟨g4, 0, none⟩) (sets.length + 1) cap4) hgrow1 hgrow4 hrow1 k1); (have x8f := hx8.cell); (have x9d := k1.cell); (have f9d := k1.frozen))
      | (at_lookup; refine wpList_lookup_own_int _ rfl _ _ 116 rfl 75 3 .i64 Tryd.keyLaw Tryd.underlying116 Tryd.underlying3 (Tryd.zeroI _) Bm (sets.length + 1) _ rfl hmp4 _ _ rfl hkey ?_; intro c2 hat3 hwc2))
    go_ret
    rw [HAT.out] at hat3
    injection hat3 with hat3
    injection hat3 with _ hat3
    refine ⟨by rw [← hat3, HI.out]; simp, ?_, ?_, ?_⟩
    · rw [HA.out]
      refine ⟨hx8, ?_, _, k2, ?_⟩
      · rw [List.length_append, mapD_snoc]; exact hmp4
      · rw [setz_snoc, List.length_append]; exact k3
    · exact HB.out.trans ((((Below.refl lo W).grown hgrow1 hlo (fun k e => by injection e with e; omega)).trans (k5.mono (Nat.le_refl _))))
    · refine (HK1.out w1 hgrow1).trans ?_
      have g1 : KO w1 (w1.alloc (.cells #[u64v T] 75)) := KO.grown (World.grownBy_alloc w1 _ none) (fun k e => by cases e)
      have g2 : KO (w1.alloc (.cells #[u64v T] 75)) w4 := KO.grown hgrow4 (fun k e c t fr hk => by
        obtain ⟨c2, fr2, h7⟩ := row_cells (hrow1.alloc (.cells #[u64v T] 75)) e
        rw [h7] at hk
        injection hk with hk
        injection hk with _ hk _
        exact .inl hk.symm)
      have g3 := KO.grown (grownBy_setCell' w4 p9 (.slice (some ⟨g4, 0, none⟩) (sets.length + 1) cap4)) (fun k e c t fr hk => by
        injection e with e
        subst e
        rw [show w4.heap[p9]? = _ from k1] at hk
        injection hk with hk
        injection hk with _ hk _
        exact .inr hk.symm)
      exact (g1.trans g2).trans g3
end Go.Proofs.YtblkijdodojaeaaDoor

namespace Go.Proofs.YtblkijdodojaeaaDoor
open Go.RowKit Go.Maps
set_option linter.unusedSimpArgs false
set_option linter.unusedVariables false

/-- Between the labels of a set. -/
structure VB (lo p8 p9 p10 p11 p12 Bm : Nat) (La : Int) (i : Nat) (b : Bs) (Wm W : World) : Prop where
  bl : Below lo Wm W
  ns : NS lo p8 p9 Bm b.1 W
  x10 : Boxed W p10 119 (.func (.func 79) #[] #[.pointer (some ⟨p8, 0, none⟩), .pointer (some ⟨p9, 0, none⟩)])
  x12 : Boxed W p12 3 (.int .i64 (i : Int))
  gr : ∃ v, GBox W p11 (.int .i64 La) (.int .i64 0) v ∧ EdgesAt W lo v b.2
/-- Where its variables lie. -/
structure PB (lo p8 p9 p10 p11 p12 Bm : Nat) : Prop where
  l8 : lo ≤ p8
  l9 : lo ≤ p9
  l10 : lo ≤ p10
  l11 : lo ≤ p11
  l12 : lo ≤ p12
  lB : lo ≤ Bm
theorem VB.drew {lo p8 p9 p10 p11 p12 Bm i : Nat} {La : Int} {b : Bs} {Wm W : World} (h : VB lo p8 p9 p10 p11 p12 Bm La i b Wm W) : VB lo p8 p9 p10 p11 p12 Bm La i b Wm W.drew :=
  ⟨h.bl.drew, ⟨h.ns.x8, h.ns.mp, h.ns.st⟩, h.x10, h.x12, h.gr⟩
theorem VB.keep {lo p8 p9 p10 p11 p12 Bm i : Nat} {La : Int} {b : Bs} {Wm W W' : World} (h : VB lo p8 p9 p10 p11 p12 Bm La i b Wm W) (hlo : lo ≤ W.heap.size) (hb : Below W.heap.size W W') : VB lo p8 p9 p10 p11 p12 Bm La i b Wm W' := by
  obtain ⟨v, h1, h2⟩ := h.gr
  have hg := grown_none hb
  exact ⟨h.bl.trans (hb.mono hlo), h.ns.keep hb, h.x10.kept hg (by simp), h.x12.kept hg (by simp), v, h1.keep hb, h2.keep hb⟩
def SV (p10 p11 p12 : Nat) (v f : Value) (i : Nat) (W : World) : Prop := W.cell? ⟨p11, 2, none⟩ = some v ∧ W.cell? ⟨p12, 0, none⟩ = some (.int .i64 (i : Int)) ∧ W.cell? ⟨p10, 0, none⟩ = some f
theorem SV.keep {p10 p11 p12 i : Nat} {v f : Value} {W W' : World} (h : SV p10 p11 p12 v f i W) (hb : Below W.heap.size W W') : SV p10 p11 p12 v f i W' := ⟨cell_keep h.1 hb, cell_keep h.2.1 hb, cell_keep h.2.2 hb⟩
theorem boxed_app {W5 W4 : World} {p : Nat} {t e : TypeId} {u v : Value} {A s k : Nat} {xs : List Value} {o : Obj} (h : Boxed W5 p t u) (hr : W5.ownsRow A e s v k xs) (hte : t ≠ e) (hg : (W5.alloc o).grownBy W4 v.ownBlock) : Boxed W4 p t u :=
  (h.alloc o).kept hg ((h.alloc o).not_row hte (hr.alloc o))
theorem GBox.grow {W W' : World} {p : Nat} {x y z : Value} (h : GBox W p x y z) {t : TypeId} {A s k : Nat} {v : Value} {xs : List Value} (hr : W.ownsRow A t s v k xs) (ht : t ≠ 24) (hg : W.grownBy W' v.ownBlock) : GBox W' p x y z :=
  (hg.block p h.lt (fun e => h.not_row ht hr e.symm)).trans h
theorem vb_end {lo p8 p9 p10 p11 p12 Bm i l z m : Nat} {La : Int} {sets : List Nat} {es : List E3} {Wm W5 W4 : World} {v v4 : Value} {o : Obj} (hp : PB lo p8 p9 p10 p11 p12 Bm) (hlo : lo ≤ (W5.alloc o).heap.size) (hb : Below lo Wm W5) (hn : NS lo p8 p9 Bm sets W5)
    (h10 : Boxed W5 p10 119 (.func (.func 79) #[] #[.pointer (some ⟨p8, 0, none⟩), .pointer (some ⟨p9, 0, none⟩)])) (h12 : Boxed W5 p12 3 (.int .i64 (i : Int)))
    (hg : GBox W5 p11 (.int .i64 La) (.int .i64 0) v) (hl5 : lo ≤ W5.heap.size) (hown : W5.ownsRow lo 63 3 v m (ecl es)) (hm : es.length = m)
    (r1 : W4.ownsRow lo 63 3 v4 (m + 1) (ecl es ++ [.int .i64 (i : Int), .int .i64 (l : Int), .int .i64 (z : Int)])) (r2 : (W5.alloc o).grownBy W4 v.ownBlock) :
    VB lo p8 p9 p10 p11 p12 Bm La i (sets, es ++ [((i : Int), (l : Int), (z : Int))]) Wm (W4.setCell ⟨p11, 2, none⟩ v4) := by
  have ho := hown.alloc o
  have hn1 : NS lo p8 p9 Bm sets (W5.alloc o) := hn.keep (below1 W5 o)
  have e10 := (h10.alloc o).kept r2 ((h10.alloc o).not_row (by decide) ho)
  have e12 := (h12.alloc o).kept r2 ((h12.alloc o).not_row (by decide) ho)
  have hg4 := (hg.keep (below1 W5 o)).grow ho (by decide) r2
  have hn4 : NS lo p8 p9 Bm sets W4 := hn1.grown r2 (fun k e => by
    obtain ⟨c, fr, h⟩ := row_cells ho e
    exact ⟨c, _, fr, h, by decide, by decide, by decide⟩)
  have hb4 : Below lo Wm W4 := (hb.alloc hl5 o).grown r2 hlo (fun k e => (ho.lt k e).1)
  have ge : ∀ {p : Nat} {t : TypeId} {u : Value}, Boxed W4 p t u → t ≠ 24 → some p ≠ some p11 := fun {p t u} h ht e => by
    injection e with e
    subst e
    have h5 := (show W4.heap[p]? = _ from h).symm.trans hg4
    simp at h5
  refine ⟨hb4.setCell hp.l11 _, hn4.grown (grownBy_setCellJ W4 p11 2 v4) (fun k e => by injection e with e; subst e; exact ⟨_, _, _, hg4, by decide, by decide, by decide⟩), e10.kept (grownBy_setCellJ W4 p11 2 v4) (ge e10 (by decide)), e12.kept (grownBy_setCellJ W4 p11 2 v4) (ge e12 (by decide)), v4, ?_, ?_⟩
  · obtain ⟨hlt, hk⟩ := Array.getElem?_eq_some_iff.1 hg4
    unfold GBox World.setCell
    simp [Array.getElem?_modify, Array.getElem?_eq_getElem hlt, hk]
  · unfold EdgesAt
    rw [List.length_append, ecl_snoc, hm]
    exact r1.kept (grownBy_setCellJ W4 p11 2 v4) (.inr (hg4.not_row (by decide) r1))
set_option maxRecDepth 100000 in
set_option maxHeartbeats 6400000 in
theorem edge_any (lo p8 p9 p10 p11 p12 Bm : Nat) (La : Int) (i l T : Nat) (b : Bs) (Wm W : World) (h : VB lo p8 p9 p10 p11 p12 Bm La i b Wm W) (hp : PB lo p8 p9 p10 p11 p12 Bm) (hlo : lo ≤ W.heap.size) (hT : T < 18446744073709551616) (hd : b.1.Nodup) (hl : b.1.length ≤ 1000) (hm : b.2.length ≤ 100000) :
    Calls Tryd.prog 81 #[.int .i64 (l : Int), u64v T, .pointer (some ⟨p11, 0, none⟩), .pointer (some ⟨p12, 0, none⟩), .pointer (some ⟨p10, 0, none⟩)] W fun e W' => (∃ u, e = .returned u) ∧
      VB lo p8 p9 p10 p11 p12 Bm La i (addN b.1 T, b.2 ++ [((i : Int), (l : Int), ((b.1.idxOf T : Nat) : Int))]) Wm W' := by
  obtain ⟨i0, hi, hz0, hz1, hz2⟩ := info_parts Tryd.infoEdge
  have hmx : Tryd.prog.follows .mixedOrders = true := by kernel_rfl
  have hD := h.drew
  obtain ⟨v, hg, he⟩ := h.gr
  obtain ⟨a9, c9, rfl⟩ := own_slice he
  obtain ⟨g1, g2, g3, f1, f2, f3⟩ := hg.cells
  have x10 := h.x10.cell
  have x12 := h.x12.cell
  have HN := Lib.hid (number_any lo p8 p9 Bm b.1 T Wm W.drew hD.ns hD.bl hlo hp.l9 hp.lB hT hd hl)
  have HV := Lib.hid h
  have HP := Lib.hid hp
  have HG := Lib.hid hg
  have HE := Lib.hid he
  obtain ⟨z, hz⟩ : ∃ z, b.1.idxOf T = z := ⟨_, rfl⟩
  rw [hz] at HN ⊢
  obtain ⟨m, hmm⟩ : ∃ m, b.2.length = m := ⟨_, rfl⟩
  have HM := Lib.hid hmm
  rw [hmm] at hm HG g3 HE
  clear h hd he hD hz hp hmm hg
  go_enter Tryd.func81, Tryd.ntmps81
  have hR0 : SV p10 p11 p12 (.slice a9 m c9) (.func (.func 79) #[] #[.pointer (some ⟨p8, 0, none⟩), .pointer (some ⟨p9, 0, none⟩)]) i W.drew := ⟨g3, x12, x10⟩
  clear g1 g2 g3 f1 f2 f3 x10 x12
  refine regionT (T := T2 11 11 (SV p10 p11 p12 (.slice a9 m c9) (.func (.func 79) #[] #[.pointer (some ⟨p8, 0, none⟩), .pointer (some ⟨p9, 0, none⟩)]) i) (SV p10 p11 p12 (.slice a9 m c9) (.func (.func 79) #[] #[.pointer (some ⟨p8, 0, none⟩), .pointer (some ⟨p9, 0, none⟩)]) i)) hmx ?_
  have hR := hR0
  refine take1 (i := 0) (v := ?_) rfl (by kernel_rfl) (by kernel_rfl) (by kernel_rfl) (by kernel_rfl) (by kernel_rfl) (by decide) (by decide) (fun _ _ _ h => h) (Or.inl ⟨by rfl, ?_⟩) hR hR ?_
  rotate_left
  · intro w hSw
    (try unfold SV at hSw)
    go_simp
    all_goals with_reducible rfl
  (try simp only [Act.put, List.setIfInBounds_toArray, List.set_cons_zero, List.set_cons_succ])
  refine take1 (i := 1) (v := ?_) rfl (by kernel_rfl) (by kernel_rfl) (by kernel_rfl) (by kernel_rfl) (by kernel_rfl) (by decide) (by decide) (fun _ _ _ h => h) (Or.inl ⟨by rfl, ?_⟩) hR hR ?_
  rotate_left
  · intro w hSw
    (try unfold SV at hSw)
    go_simp
    all_goals with_reducible rfl
  (try simp only [Act.put, List.setIfInBounds_toArray, List.set_cons_zero, List.set_cons_succ])
  refine take1 (i := 2) (v := ?_) rfl (by kernel_rfl) (by kernel_rfl) (by kernel_rfl) (by kernel_rfl) (by kernel_rfl) (by decide) (by decide) (fun _ _ _ h => h) (Or.inl ⟨by rfl, ?_⟩) hR hR ?_
  rotate_left
  · intro w hSw
    (try unfold SV at hSw)
    go_simp
    all_goals with_reducible rfl
  (try simp only [Act.put, List.setIfInBounds_toArray, List.set_cons_zero, List.set_cons_succ])
  refine take1 (i := 3) (v := ?_) rfl (by kernel_rfl) (by kernel_rfl) (by kernel_rfl) (by kernel_rfl) (by kernel_rfl) (by decide) (by decide) (fun _ _ _ h => h) (Or.inl ⟨by rfl, ?_⟩) hR hR ?_
  rotate_left
  · intro w hSw
    (try unfold SV at hSw)
    go_simp
    all_goals with_reducible rfl
  (try simp only [Act.put, List.setIfInBounds_toArray, List.set_cons_zero, List.set_cons_succ])
  refine take1 (i := 4) (v := ?_) rfl (by kernel_rfl) (by kernel_rfl) (by kernel_rfl) (by kernel_rfl) (by kernel_rfl) (by decide) (by decide) (fun _ _ _ h => h) (Or.inl ⟨by rfl, ?_⟩) hR hR ?_
  rotate_left
  · intro w hSw
    (try unfold SV at hSw)
    go_simp
    all_goals with_reducible rfl
  (try simp only [Act.put, List.setIfInBounds_toArray, List.set_cons_zero, List.set_cons_succ])
  refine take1 (i := 5) (v := ?_) rfl (by kernel_rfl) (by kernel_rfl) (by kernel_rfl) (by kernel_rfl) (by kernel_rfl) (by decide) (by decide) (fun _ _ _ h => h) (Or.inl ⟨by rfl, ?_⟩) hR hR ?_
  rotate_left
  · intro w hSw
    (try unfold SV at hSw)
    go_simp
    all_goals with_reducible rfl
  (try simp only [Act.put, List.setIfInBounds_toArray, List.set_cons_zero, List.set_cons_succ])
  refine stepT (i := 6) (by kernel_rfl) rfl (fun K hK => ?_)
  go_simp
  go_at_call 79
  (with_reducible refine HN.out.mono ?_)
  rintro e0 W5 ⟨rfl, n5, b5, k5⟩
  have hg5 := k5.gbox (W := W.drew) (show GBox W.drew p11 _ _ _ from HG.out)
  have he5 : EdgesAt W5 lo (.slice a9 m c9) b.2 := k5.row (W := W.drew) (show W.drew.ownsRow _ _ _ _ _ _ from HE.out) (by decide) (by decide)
  have h10 := k5.boxed (W := W.drew) HV.out.drew.x10 (by decide) (by decide)
  have h12 := k5.boxed (W := W.drew) HV.out.drew.x12 (by decide) (by decide)
  have hR5 : SV p10 p11 p12 (.slice a9 m c9) (.func (.func 79) #[] #[.pointer (some ⟨p8, 0, none⟩), .pointer (some ⟨p9, 0, none⟩)]) i W5 := ⟨hg5.cells.2.2.1, h12.cell, h10.cell⟩
  have hl5 := k5.1
  have hown : W5.ownsRow lo 63 3 (.slice a9 m c9) m (ecl b.2) := by have h0 := he5; unfold EdgesAt at h0; rw [HM.out] at h0; exact h0
  go_wp2_with fail
  refine hK.out _ _ ⟨fun _ => hR5, fun _ => hR5⟩ ?_
  clear hK K hR
  have hR := hR5
  (try simp only [Act.put, List.setIfInBounds_toArray, List.set_cons_zero, List.set_cons_succ])
  refine take1 (i := 7) (v := ?_) rfl (by kernel_rfl) (by kernel_rfl) (by kernel_rfl) (by kernel_rfl) (by kernel_rfl) (by decide) (by decide) (fun _ _ _ h => h) (Or.inl ⟨by rfl, ?_⟩) hR hR ?_
  rotate_left
  · intro w hSw
    (try unfold SV at hSw)
    go_simp
    all_goals with_reducible rfl
  (try simp only [Act.put, List.setIfInBounds_toArray, List.set_cons_zero, List.set_cons_succ])
  refine stepT (i := 8) (by kernel_rfl) rfl (fun K hK => ?_)
  go_simp
  have hR6 := hR5.keep (below1 W5 (.cells #[.int .i64 (i : Int), .int .i64 (l : Int), .int .i64 (z : Int)] 63))
  refine hK.out _ _ ⟨fun _ => hR6, fun _ => hR6⟩ ?_
  clear hK K hR
  have hR := hR6
  (try simp only [Act.put, List.setIfInBounds_toArray, List.set_cons_zero, List.set_cons_succ])
  refine stepT (i := 9) (by kernel_rfl) rfl (fun K hK => ?_)
  refine step_append_lies _ (by rfl) (.tmp 8) (.tmp 15) 22 (by rfl) lo 63 i0 (.agg #[.int .i64 0, .int .i64 0, .int .i64 0]) 3 24 Tryd.underlying22 hi hz0 hz1 hz2 rfl (by decide) (.slice a9 m c9) m (ecl b.2) (by rfl) (hown.alloc _) ⟨W5.heap.size, 0, none⟩ 1 1 [.int .i64 (i : Int), .int .i64 (l : Int), .int .i64 (z : Int)] (by rfl) (by rfl) (cell_three_new _ _ _ _ _) (by intro u hu; simp at hu; rcases hu with rfl | rfl | rfl <;> rfl) (by decide) (by unfold maxLen; omega) (by omega) (by rw [World.size_alloc]; have h7 : W.drew.heap.size = W.heap.size := rfl; omega) _ rfl ?_
  intro g9 d9 W4 r1 r2 r3 r4
  have hG4 := (hg5.keep (below1 W5 (.cells #[.int .i64 (i : Int), .int .i64 (l : Int), .int .i64 (z : Int)] 63))).grow (hown.alloc _) (by decide) r2
  have hR4 : SV p10 p11 p12 (.slice a9 m c9) (.func (.func 79) #[] #[.pointer (some ⟨p8, 0, none⟩), .pointer (some ⟨p9, 0, none⟩)]) i W4 := ⟨hG4.cells.2.2.1, (boxed_app h12 hown (by decide) r2).cell, (boxed_app h10 hown (by decide) r2).cell⟩
  have f4 := hG4.cells.2.2.2.2.2
  have c4 := hG4.cells.2.2.1
  have HF := Lib.hid (vb_end HP.out (by rw [World.size_alloc]; have h7 : W.drew.heap.size = W.heap.size := rfl; omega : lo ≤ (W5.alloc (.cells #[.int .i64 (i : Int), .int .i64 (l : Int), .int .i64 (z : Int)] 63)).heap.size) b5 n5 h10 h12 hg5 (by have h7 : W.drew.heap.size = W.heap.size := rfl; omega) hown (by have h0 := HM.out; exact h0) r1 r2)
  refine hK.out _ _ ⟨fun _ => hR4, fun _ => hR4⟩ ?_
  clear hK K hR
  have hR := hR4
  (try simp only [Act.put, List.setIfInBounds_toArray, List.set_cons_zero, List.set_cons_succ])
  refine take1 (i := 10) (v := ?_) rfl (by kernel_rfl) (by kernel_rfl) (by kernel_rfl) (by kernel_rfl) (by kernel_rfl) (by decide) (by decide) (fun _ _ _ h => h) (Or.inl ⟨by rfl, ?_⟩) hR hR ?_
  rotate_left
  · intro w hSw
    (try unfold SV at hSw)
    go_simp
    all_goals with_reducible rfl
  (try simp only [Act.put, List.setIfInBounds_toArray, List.set_cons_zero, List.set_cons_succ])
  refine stepT (i := 11) (by kernel_rfl) rfl (fun K hK => ?_)
  go_simp
  refine hK.out _ _ ⟨fun h => absurd h (by decide), fun h => absurd h (by decide)⟩ ?_
  clear hK K
  (try simp only [Act.put, List.setIfInBounds_toArray, List.set_cons_zero, List.set_cons_succ])
  refine doneT (by kernel_rfl) ?_ _
  go_wp2_with fail
  go_end0
  refine ⟨⟨_, rfl⟩, ?_⟩
  exact HF.out
end Go.Proofs.YtblkijdodojaeaaDoor

namespace Go.Proofs.YtblkijdodojaeaaDoor
open Go.RowKit Go.Maps
set_option linter.unusedSimpArgs false
set_option linter.unusedVariables false

theorem Tryd.build2E (args : Array Value) (w : World) : (callFunc 81 args).run Tryd.prog w = .ok (.enter 81 args) w := by
  simp [callFunc, go_sem, Tryd.func81, Tryd.f81]
set_option maxRecDepth 100000 in
set_option maxHeartbeats 3200000 in
theorem follow_any (es : List E3) (L n : Nat) (v c1 c2 c3 : Value) (S : Nat) (w : World) (J : Nat → World → Prop) (hS : S < 18446744073709551616) (hbit : ∀ i, S.testBit i = true → i < n) (hn : n ≤ 64) (hL : L ≤ 256)
    (hJ : J 0 w) (hM : ∀ k X, J k X → MvRd X v es L n) (hT : ∀ k X, J k X → TabD X) (hK : ∀ k X Y, J k X → Below X.heap.size X Y → J k Y)
    (hdo : ∀ k X, k < L → J k X → stN es S k ≠ 0 → Calls Tryd.prog 81 #[.int .i64 (k : Int), u64v (stN es S k), c1, c2, c3] X fun e X' => (∃ u, e = .returned u) ∧ J (k + 1) X')
    (hno : ∀ k X, k < L → J k X → stN es S k = 0 → J (k + 1) X) :
    Calls Tryd.prog 80 #[v, u64v S, .func (.func 81) #[] #[c1, c2, c3]] w fun e w' => (∃ u, e = .returned u) ∧ J L w' := by
  have hE := Tryd.build2E
  obtain ⟨b0, rfl, -⟩ := hM 0 w hJ
  have HST := Lib.hid (fun k X (hk : k < L) (h : J k X) => mstep_any es L n (.slice (some ⟨b0, 0, none⟩) L L) S k X (hM k X h) hS hbit hn hk (hT k X h))
  have HK := Lib.hid hK
  have HD := Lib.hid hdo
  have HNO := Lib.hid hno
  have HJ := Lib.hid hJ
  have HLT := Lib.hid (fun k => stN_lt es S k)
  clear hJ hM hT hK hdo hno hbit hS
  go_enter Tryd.func80, Tryd.ntmps80
  go_wp2_with fail
  go_loopg [10] L (fun q s10 wx => ∃ i : Nat, i + q = L ∧ s10 = .int .i64 (i : Int) ∧ Hid (J i wx))
  case atStart => exact ⟨0, by omega, rfl, HJ⟩
  case round =>
    clear HJ
    obtain ⟨i, hin, rfl, hJ⟩ := hrel
    rcases gk with _ | q
    · obtain rfl : i = L := by omega
      go_wp2_with fail
      go_end0
      exact ⟨⟨_, rfl⟩, hJ.out⟩
    · have j1 : (i : Int) < (L : Int) := by omega
      have hil : i < L := by omega
      have HC := Lib.hid (HST.out i wr hil hJ.out)
      by_cases h0 : stN es S i = 0
      · rw [h0] at HC
        have HN := Lib.hid (fun X hX => HNO.out i X hil hX h0)
        clear h0
        go_wp2_with (go_at_call 110; (with_reducible refine HC.out.mono ?_); rintro e W1 ⟨rfl, b1⟩; (have HJ2 := Lib.hid (HN.out W1 (HK.out i wr W1 hJ.out b1))))
        go_roundg q
        case measure => omega
        case rel => exact ⟨i + 1, by omega, by go_num, HJ2⟩
      · have HDD := Lib.hid (fun X hX => HD.out i X hil hX h0)
        obtain ⟨T, hT⟩ : ∃ T, stN es S i = T := ⟨_, rfl⟩
        rw [hT] at HC HDD h0
        have j0 : ((T : Int) != 0) = true := by rw [bne_iff_ne]; omega
        clear hT h0
        go_wp2_with (first
          | (go_at_call 110; (with_reducible refine HC.out.mono ?_); rintro e W1 ⟨rfl, b1⟩; (have HJ1 := Lib.hid (HK.out i wr W1 hJ.out b1)))
          | ((with_reducible refine (HDD.out _ HJ1.out).mono ?_); rintro e W2 ⟨⟨u2, rfl⟩, hj2⟩; (have HJ2 := Lib.hid hj2)))
        go_roundg q
        case measure => omega
        case rel => exact ⟨i + 1, by omega, by go_num, HJ2⟩
/-- Sets that can be read. -/
def SetsRd (W : World) (v : Value) (l : List Nat) : Prop := ∃ a c, v = .slice a l.length c ∧ ∀ (i : Nat) (S : Nat), l[i]? = some S → ∃ b off, a = some ⟨b, off, none⟩ ∧ W.cell? ⟨b, off + i, none⟩ = some (u64v S)
theorem SetsRd.keep {W W' : World} {v : Value} {l : List Nat} (h : SetsRd W v l) (hb : Below W.heap.size W W') : SetsRd W' v l := by
  obtain ⟨a, c, rfl, h1⟩ := h
  refine ⟨a, c, rfl, fun i x hx => ?_⟩
  obtain ⟨b, off, rfl, k⟩ := h1 i x hx
  exact ⟨b, off, rfl, cell_keep k hb⟩
theorem sets_rd {W : World} {lo : Nat} {v : Value} {l : List Nat} (h : W.ownsRow lo 75 1 v l.length (setz l)) : SetsRd W v l := by
  obtain ⟨a, c, rfl⟩ := own_slice h
  refine ⟨a, c, rfl, fun i x hx => ?_⟩
  have hi : i < l.length := (List.getElem?_eq_some_iff.1 hx).1
  obtain ⟨g, c2, hv, -, -⟩ := World.ownsRow.form h (by omega)
  injection hv with e1 e2 e3
  subst e1
  refine ⟨g, 0, rfl, ?_⟩
  rw [Nat.zero_add, World.ownsRow.cellAt h i (by omega)]
  unfold setz
  rw [List.getElem?_map, hx]; rfl
structure MB (w : World) (b n i : Nat) (sets : List Nat) (vs : Nat → Value) (W : World) : Prop where
  bl : Below w.heap.size w W
  row : W.rowIs b 28 n vs
  own : ∀ j, j < i → IntsAt W (b + 1) (vs j) (memN (sets.getD j 0))
theorem rows_hi {W : World} {b n : Nat} {sets : List Nat} {vs : Nat → Value} (hn : sets.length = n) (hrow : W.rowIs b 28 n vs) (hown : ∀ j, j < n → IntsAt W (b + 1) (vs j) (memN (sets.getD j 0))) : RowsRd W (.slice (some ⟨b, 0, none⟩) n n) (sets.map memN) := by
  subst hn
  refine ⟨_, _, by rw [List.length_map], fun i r hr => ?_⟩
  rw [List.getElem?_map] at hr
  obtain ⟨S, hS, rfl⟩ := Option.map_eq_some_iff.1 hr
  have hi : i < sets.length := (List.getElem?_eq_some_iff.1 hS).1
  refine ⟨b, 0, vs i, rfl, by rw [Nat.zero_add]; exact World.rowIs.cell hrow hi, ?_⟩
  have h2 := (hown i hi).rd
  rw [List.getD_eq_getElem?_getD, hS] at h2
  exact h2
theorem rows_over {W : World} {b n : Nat} {sets : List Nat} {vs : Nat → Value} (hrow : W.rowIs b 28 n vs) (hown : ∀ j, j < n → IntsAt W (b + 1) (vs j) (memN (sets.getD j 0))) (a : Addr) (ha : a.block < b) (u : Value) :
    (W.setCell a u).rowIs b 28 n vs ∧ ∀ j, j < n → IntsAt (W.setCell a u) (b + 1) (vs j) (memN (sets.getD j 0)) :=
  ⟨World.rowIs.setOther hrow (by omega) u, fun j hj => ownsRow_setCell_below (hown j hj) (by omega) u⟩
/-- Rows of the members of sets, above A. -/
def RowsAt (W : World) (A : Nat) (v : Value) (sets : List Nat) : Prop := (v = .slice none 0 0 ∧ sets = []) ∨ ∃ b vs, v = .slice (some ⟨b, 0, none⟩) sets.length sets.length ∧ A ≤ b ∧ W.rowIs b 28 sets.length vs ∧ ∀ j, j < sets.length → IntsAt W (b + 1) (vs j) (memN (sets.getD j 0))
section
variable {W W' : World} {A B : Nat} {v : Value} {sets : List Nat}
theorem RowsAt.keep (h : RowsAt W A v sets) (hb : Below W.heap.size W W') : RowsAt W' A v sets := by
  rcases h with h | ⟨b, vs, h1, h2, h3, h4⟩
  · exact .inl h
  · exact .inr ⟨b, vs, h1, h2, World.rowIs.of_block h3 (hb.block b (World.rowIs.lt h3)), fun j hj => (h4 j hj).keep hb⟩
theorem RowsAt.low (h : RowsAt W A v sets) (hB : B ≤ A) : RowsAt W B v sets := by
  rcases h with h | ⟨b, vs, h1, h2, h3, h4⟩
  · exact .inl h
  · exact .inr ⟨b, vs, h1, by omega, h3, h4⟩
theorem RowsAt.set (h : RowsAt W A v sets) (a : Addr) (ha : a.block < A) (u : Value) : RowsAt (W.setCell a u) A v sets := by
  rcases h with h | ⟨b, vs, h1, h2, h3, h4⟩
  · exact .inl h
  · obtain ⟨o1, o2⟩ := rows_over h3 h4 a (by omega) u
    exact .inr ⟨b, vs, h1, h2, o1, o2⟩
theorem RowsAt.over (h : RowsAt W A v sets) {b : Nat} (hb : b < A) (x y z : Value) (hB : B ≤ A) : RowsAt (((W.setCell ⟨b, 0, none⟩ x).setCell ⟨b, 1, none⟩ y).setCell ⟨b, 2, none⟩ z) B v sets :=
  (((h.set ⟨b, 0, none⟩ hb x).set ⟨b, 1, none⟩ hb y).set ⟨b, 2, none⟩ hb z).low hB
theorem RowsAt.rd (h : RowsAt W A v sets) : RowsRd W v (sets.map memN) := by
  rcases h with ⟨rfl, rfl⟩ | ⟨b, vs, rfl, h2, h3, h4⟩
  · exact ⟨none, 0, rfl, fun i r hr => by simp at hr⟩
  · exact rows_hi rfl h3 h4
theorem RowsAt.form (h : RowsAt W A v sets) : ∃ a, v = .slice a sets.length sets.length := by
  rcases h with ⟨rfl, rfl⟩ | ⟨b, vs, rfl, _⟩
  · exact ⟨_, rfl⟩
  · exact ⟨_, rfl⟩
theorem RowsAt.nil (W : World) (A : Nat) : RowsAt W A (.slice none 0 0) [] := .inl ⟨rfl, rfl⟩
end
set_option maxRecDepth 100000 in
set_option maxHeartbeats 3200000 in
theorem membs_any (sets : List Nat) (v : Value) (w : World) (h : SetsRd w v sets) (hl : sets.length ≤ 1000) (hs : ∀ S ∈ sets, S < 18446744073709551616) (hT : TabD w) :
    Calls Tryd.prog 82 #[v] w fun e w' => ∃ vs, e = .returned (.slice (some ⟨w.heap.size, 0, none⟩) sets.length sets.length) ∧ MB w w.heap.size sets.length sets.length sets vs w' := by
  have HMR := make_rows sets.length (by omega)
  have HR := Lib.hid h
  obtain ⟨a, c, rfl, -⟩ := h
  have HS := Lib.hid hs
  have HT := Lib.hid hT
  have M0 := Lib.hid (show MB w w.heap.size sets.length 0 sets (fun _ => .slice none 0 0) (w.alloc (.cells (madeCells #[.slice none 0 0] sets.length) 28)) from ⟨below1 w _, World.rowIs_made w _ _ _, fun j hj => absurd hj (Nat.not_lt_zero _)⟩)
  clear hs hT
  go_enter Tryd.func82, Tryd.ntmps82
  go_wp2_with fail
  go_loopg [11] sets.length (fun q s11 wx => ∃ (i : Nat) (vs : Nat → Value), i + q = sets.length ∧ s11 = .int .i64 (i : Int) ∧ Hid (MB w w.heap.size sets.length i sets vs wx))
  case atStart => exact ⟨0, _, by omega, rfl, M0⟩
  case round =>
    clear M0
    obtain ⟨i, vs, hin, rfl, M⟩ := hrel
    rcases gk with _ | q
    · obtain rfl : i = sets.length := by omega
      go_wp2_with fail
      go_ret
      exact ⟨vs, rfl, M.out⟩
    · obtain ⟨S, hx⟩ : ∃ S, sets[i]? = some S := ⟨_, List.getElem?_eq_getElem (by omega)⟩
      obtain ⟨b, off, hv, k1⟩ : ∃ b off, a = some ⟨b, off, none⟩ ∧ wr.cell? ⟨b, off + i, none⟩ = some (u64v S) := by
        obtain ⟨a2, c2, he, h2⟩ := HR.out.keep M.out.bl
        injection he with e1 _ _
        subst e1
        exact h2 i S hx
      subst hv
      have hS64 := HS.out S (List.mem_of_getElem? hx)
      have HC := Lib.hid (memb_any S wr hS64 (HT.out.keep M.out.bl))
      have j1 : (i : Int) < (sets.length : Int) := by omega
      have hil : i < sets.length := by omega
      have HX := Lib.hid hx
      clear hx hS64
      go_wp2_with (go_at_call 111; (with_reducible refine HC.out.mono ?_); rintro e W1 ⟨u, rfl, hu, b1⟩; (have HU := Lib.hid hu); (have hrow := World.rowIs.of_block M.out.row (b1.block w.heap.size (World.rowIs.lt M.out.row))); (have c1 := World.rowIs.cell hrow hil); (have f1 := World.rowIs.frozen hrow i); (have HW := Lib.hid (World.rowIs.lt M.out.row)); (obtain ⟨au, cu, rfl⟩ := hu.slice))
      go_roundg q
      case measure => omega
      case rel =>
        refine ⟨i + 1, _, by omega, by go_num, Lib.hid ⟨(M.out.bl.trans (b1.mono M.out.bl.size)).setCell (Nat.le_refl _) _, World.rowIs.set hrow i _, fun j hj => ?_⟩⟩
        by_cases e : j = i
        · subst e
          rw [if_pos rfl, List.getD_eq_getElem?_getD, HX.out]
          exact ownsRow_setCell_below (own_low HU.out (by exact HW.out)) (by exact Nat.lt_succ_self _) _
        · rw [if_neg e]
          exact ownsRow_setCell_below ((M.out.own j (by omega)).keep b1) (by exact Nat.lt_succ_self _) _
end Go.Proofs.YtblkijdodojaeaaDoor
