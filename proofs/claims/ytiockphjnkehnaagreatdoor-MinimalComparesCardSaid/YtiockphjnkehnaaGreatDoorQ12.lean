/- What states.Moves.Step and Follow do. Conditions: the moves can be read; the set is one of states; the library's table reads as its text lays it. Graphs' variables that lie beside rows of their own. No condition. What subset.build's function numberOf does: the number of a set, which is new if it was not found before. Conditions: at most 1000 sets. -/
import Derived.Test.YtiockphjnkehnaaGreatDoorQ11
import Derived.Test.YtiockphjnkehnaaGreatDoorQ03
import Derived.RangeFuncBox
import Derived.Maps.OwnSet

namespace Go.Proofs.YtiockphjnkehnaaGreatDoor
open Go.RowKit
set_option linter.unusedSimpArgs false
set_option linter.unusedVariables false

set_option maxRecDepth 100000 in
set_option maxHeartbeats 6400000 in
theorem mstep_any (es : List E3) (L n : Nat) (v : Value) (S l : Nat) (w : World) (hm : MvRd w v es L n) (hS : S < 18446744073709551616) (hbit : ∀ i, S.testBit i = true → i < n) (hn : n ≤ 64) (hl : l < L) (hT : TabD w) :
    Calls Tryz.prog 99 #[v, u64v S, .int .i64 (l : Int)] w fun e w' => e = .returned (u64v (stN es S l)) ∧ Below w.heap.size w w' := by
  have hmx : Tryz.prog.follows .mixedOrders = true := by kernel_rfl
  obtain ⟨b, rfl, hM⟩ := hm
  have HM := Lib.hid hM
  have HT := Lib.hid hT
  have HB := Lib.hid hbit
  have HF := Lib.hid (fromN_start hS)
  have HZ := Lib.hid (accN_zero es l S)
  clear hM hT hbit hS
  go_enter Tryz.func99, Tryz.ntmps99
  go_wp2_with fail
  go_loopg [1, 7] 64 (fun q s1 s7 wx => ∃ c cur : Nat, c + q = 64 ∧ s1 = .int .u64 (cur : Int) ∧ Hid (fromN S c cur) ∧ s7 = .int .u64 ((accN es l S c : Nat) : Int) ∧ Hid (Below w.heap.size w wx))
  case atStart => exact ⟨0, S, by omega, rfl, HF, by rw [HZ.out]; rfl, Lib.hid (Below.refl _ _)⟩
  case round =>
    clear HF HZ
    obtain ⟨c, cur, hcq, rfl, HF, rfl, hb⟩ := hrel
    by_cases h0 : cur = 0
    · subst h0
      have HE := Lib.hid (fromN_accEnd (es := es) (l := l) HF.out (by omega))
      clear HF
      go_wp2_with fail
      go_ret
      exact ⟨by rw [HE.out]; rfl, hb.out⟩
    · have j0 : ((cur : Int) != 0) = true := by rw [bne_iff_ne]; omega
      obtain ⟨f1, f2, f3, f4⟩ := fromN_ctz HF.out h0
      have HTZ := Lib.hid (tz_any cur h0 HF.out.1)
      have HS := Lib.hid (fromN_acc (es := es) (l := l) HF.out h0)
      have HC := Lib.hid (clr_op h0 HF.out.1)
      have HF2 := Lib.hid (fromN_step HF.out h0)
      have hA := accN_lt es l S c
      generalize Lib.ctz 64 cur = k at *
      have hkn := HB.out k f3
      have HO := Lib.hid (bits_or_u64_nat (accN es l S c) (mvN es l k) hA (mvN_lt es l k))
      have j1 : (l : Int) < (L : Int) := by omega
      have j2 : (k : Int) < (n : Int) := by omega
      have hM2 := HM.out.keep hb.out
      have KX := Lib.hid (fun W (bb : Below wr.heap.size wr W) => show W.cell? ⟨b, l, none⟩ = some (rowV b n l) ∧ W.cell? ⟨b + 1 + l, k, none⟩ = some (u64v (mvN es l k)) from ⟨cell_keep (hM2.cell hl (Nat.le_refl _)) bb, cell_keep (hM2.at hl hkn) bb⟩)
      have KT := Lib.hid (fun W (bb : Below wr.heap.size wr W) => HTZ.out W ((HT.out.keep hb.out).keep bb))
      clear HF f4 hM2
      generalize accN es l S c = A at *
      generalize mvN es l k = M at *
      go_upto_region 4 with fail
      obtain ⟨Wo, hWo⟩ : ∃ Wo, Wo = wr := ⟨_, rfl⟩
      rw [← hWo] at KX KT hb ⊢
      clear hWo
      have BB := (Below.refl Wo.heap.size Wo).drew
      go_region_held3 (fun W => W.cell? ⟨b, l, none⟩ = some (rowV b n l) ∧ W.cell? ⟨b + 1 + l, k, none⟩ = some (u64v M)) (first | exact KX.out _ BB | exact KX.out _ (by assumption) | go_keep)
        (first
          | (go_at_call 113; (with_reducible refine (KT.out _ BB).mono ?_); rintro e0 W5 ⟨rfl, rfl⟩))
      all_goals
        go_wp2_with fail
        go_roundg (64 - (k + 1))
        case measure => omega
        case rel => exact ⟨k + 1, clr cur, by omega, by rw [HC.out], HF2, by rw [HO.out, HS.out], Lib.hid hb.out.drew⟩
end Go.Proofs.YtiockphjnkehnaaGreatDoor

namespace Go.Proofs.YtiockphjnkehnaaGreatDoor
open Go.RowKit
set_option linter.unusedSimpArgs false
set_option linter.unusedVariables false

def GBox (W : World) (p : Nat) (x y z : Value) : Prop := W.heap[p]? = some (.cells #[x, y, z] 24 (0, 0))
theorem GBox.new (W : World) (x y z : Value) : GBox (W.alloc (.cells #[x, y, z] 24)) W.heap.size x y z := heap_alloc_new W _
theorem GBox.keep {W W' : World} {p : Nat} {x y z : Value} (h : GBox W p x y z) (hb : Below W.heap.size W W') : GBox W' p x y z := (hb.block p (Array.getElem?_eq_some_iff.1 h).1).trans h
theorem GBox.lt {W : World} {p : Nat} {x y z : Value} (h : GBox W p x y z) : p < W.heap.size := (Array.getElem?_eq_some_iff.1 h).1
theorem GBox.cells {W : World} {p : Nat} {x y z : Value} (h : GBox W p x y z) : W.cell? ⟨p, 0, none⟩ = some x ∧ W.cell? ⟨p, 1, none⟩ = some y ∧ W.cell? ⟨p, 2, none⟩ = some z ∧ W.frozen? ⟨p, 0, none⟩ = false ∧ W.frozen? ⟨p, 1, none⟩ = false ∧ W.frozen? ⟨p, 2, none⟩ = false := by
  refine ⟨?_, ?_, ?_, ?_, ?_, ?_⟩ <;> simp [World.cell?, World.frozen?, show W.heap[p]? = _ from h]
theorem GBox.g {W : World} {p : Nat} {L S : Int} {v : Value} (h : GBox W p (.int .i64 L) (.int .i64 S) v) : BoxG W p L S v := ⟨h.cells.1, h.cells.2.1, h.cells.2.2.1⟩
theorem grownBy_setCellJ (W : World) (b j : Nat) (v : Value) : W.grownBy (W.setCell ⟨b, j, none⟩ v) (some b) :=
  ⟨rfl, rfl, rfl, (KeepsWalks.setCell W _ v).size, fun k _ hk => Below.heap_setCell _ _ _ k (fun e => hk (by rw [e]))⟩
theorem GBox.not_row {W : World} {p : Nat} {x y z : Value} (h : GBox W p x y z) {t : TypeId} (ht : t ≠ 24) {base size k : Nat} {v : Value} {xs : List Value} (hr : W.ownsRow base t size v k xs) : v.ownBlock ≠ some p := by
  rcases hr.2 with ⟨rfl, _⟩ | ⟨g, cap, cur, rfl, _, hgb, _⟩
  · simp [Value.ownBlock]
  · intro e
    obtain rfl : g = p := by simpa [Value.ownBlock] using e
    have := (show W.heap[g]? = _ from h).symm.trans hgb
    simp at this
    exact ht this.2.symm
theorem GBox.set {W : World} {p : Nat} {x y z : Value} (h : GBox W p x y z) (x' y' z' : Value) : GBox (((W.setCell ⟨p, 0, none⟩ x').setCell ⟨p, 1, none⟩ y').setCell ⟨p, 2, none⟩ z') p x' y' z' := by
  obtain ⟨hlt, hk⟩ := Array.getElem?_eq_some_iff.1 h
  unfold GBox World.setCell
  simp [Array.getElem?_modify, Array.getElem?_eq_getElem hlt, hk]
theorem GBox.row {W : World} {p : Nat} {x y z : Value} (h : GBox W p x y z) {t : TypeId} (ht : t ≠ 24) {base size k : Nat} {v : Value} {xs : List Value} (hr : W.ownsRow base t size v k xs) (x' y' z' : Value) :
    (((W.setCell ⟨p, 0, none⟩ x').setCell ⟨p, 1, none⟩ y').setCell ⟨p, 2, none⟩ z').ownsRow base t size v k xs :=
  ((hr.kept (grownBy_setCellJ W p 0 x') (.inr (h.not_row ht hr))).kept (grownBy_setCellJ _ p 1 y') (.inr (h.not_row ht hr))).kept (grownBy_setCellJ _ p 2 z') (.inr (h.not_row ht hr))
end Go.Proofs.YtiockphjnkehnaaGreatDoor

namespace Go.Proofs.YtiockphjnkehnaaGreatDoor
open Go.RowKit Go.Maps
set_option linter.unusedSimpArgs false
set_option linter.unusedVariables false

theorem wpList_insert_own {H : Type} {P : Program} (w : World) {ops : Array Oper} {rest : List Oper} {o : Oper} {a : Act} {Q : Exit → Act → World → Prop}
    (hg : o.guard = none) (m x v : Operand) (t : TypeId) (hop : o.op = Op.insert t m x v)
    (k e : TypeId) (K : Keyed P k) (ht : P.underlying t = some (.map k e)) (R : Value → Option (DataW H × List MemPlace)) (b n : Nat) (D : DataW H)
    (hm : a.eval m = .map (some b)) (hown : w.ownsMap P k R b n D) (hn : n < maxLen) (key val : Value) (kl : Lit) (hx : a.eval x = key) (hv : a.eval v = val) (hkey : keyOf P k key = some kl)
    (d : DataW H) (ps : List MemPlace) (hval : R val = some (d, ps))
    (hK : ∀ w', w'.ownsMap P k R b (n + 1) (D.put kl d) → w.grownBy w' (some b) → wpList P ops Q rest (a.put o.dst undef) w') :
    wpList P ops Q (o :: rest) a w := by
  refine wpList_plain hg fun K' hK' => ?_
  obtain ⟨w', hrun, r1, r2⟩ := hown.update K ht hn hkey hval
  unfold Oper.wp
  simp [execOp, hop, hm, hx, hv, hrun, Result.andThen]
  exact hK' _ _ (hK w' r1 r2)
abbrev MapD : Type := DataW Unit
abbrev keyN (S : Nat) : Lit := .int .u64 (S : Int)
def stepD (p : MapD × Nat) (S : Nat) : MapD × Nat := (p.1.put (keyN S) (.lit (.int .i64 (p.2 : Int))), p.2 + 1)
def mapD (sets : List Nat) : MapD := (sets.foldl stepD (.map [], 0)).1
theorem mapD_len : ∀ (sets : List Nat) (p : MapD × Nat), (sets.foldl stepD p).2 = p.2 + sets.length
  | [], p => rfl
  | S :: r, p => by rw [List.foldl_cons, mapD_len r, List.length_cons]; show p.2 + 1 + r.length = _; omega
theorem mapD_snoc (sets : List Nat) (S : Nat) : mapD (sets ++ [S]) = (mapD sets).put (keyN S) (.lit (.int .i64 ((sets.length : Nat) : Int))) := by
  unfold mapD
  rw [List.foldl_append]
  show ((sets.foldl stepD (.map [], 0)).1.put _ _) = _
  rw [mapD_len sets (.map [], 0), Nat.zero_add]
theorem keyN_wf {S : Nat} (h : S < 18446744073709551616) : (Lit.int .u64 (S : Int)).wf = true := by
  unfold Lit.wf IntKind.min IntKind.max
  simp [IntKind.signed, IntKind.bits]
  omega
theorem keyN_ne {S T : Nat} (h : S ≠ T) : keyN S ≠ keyN T := fun e => by injection e with _ e; omega
theorem snoc_ind {p : List Nat → Prop} (h0 : p []) (h1 : ∀ l x, p l → p (l ++ [x])) : ∀ l, p l := by
  intro l
  have : ∀ n (l : List Nat), l.length = n → p l := by
    intro n
    induction n with
    | zero => intro l hl; rw [List.length_eq_zero_iff.1 hl]; exact h0
    | succ n ih =>
      intro l hl
      have hne : l ≠ [] := fun e => by rw [e] at hl; cases hl
      rw [← List.dropLast_concat_getLast hne]
      exact h1 _ _ (ih _ (by rw [List.length_dropLast]; omega))
  exact this _ l rfl
theorem mapD_is : ∀ (sets : List Nat), IsMap (mapD sets) :=
  snoc_ind isMap_empty (fun l x ih => by rw [mapD_snoc]; exact ih.put _ _)
theorem keyN_key (S : Nat) : WideAt.IsKeyLit (keyN S) := trivial
theorem mapD_has (T : Nat) : ∀ (sets : List Nat), Maps.has (mapD sets) (keyN T) = decide (T ∈ sets) :=
  snoc_ind (by simp [mapD, Maps.has]) (fun l x ih => by
    rw [mapD_snoc]
    by_cases h : T = x
    · subst h
      rw [has_put_same (mapD_is l) (keyN_key _)]; simp
    · rw [has_put_other (keyN_ne h), ih]; simp [h])
theorem mapD_at (T : Nat) (z : MapD) : ∀ (sets : List Nat), sets.Nodup → T ∈ sets → (mapD sets).atKey (keyN T) z = .lit (.int .i64 ((sets.idxOf T : Nat) : Int)) :=
  snoc_ind (fun _ h => by cases h) (fun l x ih hn h => by
    rw [mapD_snoc]
    rw [List.nodup_append] at hn
    by_cases e : T = x
    · subst e
      have hx : T ∉ l := fun h2 => hn.2.2 T h2 T (by simp) rfl
      rw [atKey_put_same (mapD_is l) (keyN_key _), List.idxOf_append, if_neg hx]; simp
    · have hl : T ∈ l := by
        rw [List.mem_append, List.mem_singleton] at h
        exact h.resolve_right e
      rw [atKey_put_other (keyN_ne e), ih hn.1 hl, List.idxOf_append, if_pos hl])
theorem Tryz.keyLaw : Keyed Tryz.prog 70 := int_keyed Tryz.underlying70
theorem Tryz.zeroI (w : World) : (zeroValue 3).run Tryz.prog w = .ok (.int .i64 0) w := by kernel_rfl
def KO (W W' : World) : Prop := W.heap.size ≤ W'.heap.size ∧ ∀ (k : Nat) (c : Array Value) (t : TypeId) (fr : Nat × Nat), W.heap[k]? = some (Obj.cells c t fr) → t ≠ 70 → t ≠ 97 → W'.heap[k]? = some (Obj.cells c t fr)
theorem KO.refl (W : World) : KO W W := ⟨Nat.le_refl _, fun k c t fr h _ _ => h⟩
theorem KO.trans {W W1 W2 : World} (h : KO W W1) (h2 : KO W1 W2) : KO W W2 := ⟨Nat.le_trans h.1 h2.1, fun k c t fr hk h3 h4 => h2.2 k c t fr (h.2 k c t fr hk h3 h4) h3 h4⟩
theorem KO.grown {W W' : World} {row : Option Nat} (hg : W.grownBy W' row) (hr : ∀ k, row = some k → ∀ c t fr, W.heap[k]? = some (.cells c t fr) → t = 70 ∨ t = 97) : KO W W' :=
  ⟨hg.size, fun k c t fr hk h3 h4 => (hg.block k (Array.getElem?_eq_some_iff.1 hk).1 (fun e => by
    rcases hr k e.symm c t fr hk with h | h
    · exact h3 h
    · exact h4 h)).trans hk⟩
theorem KO.boxed {W W' : World} (h : KO W W') {p : Nat} {t : TypeId} {v : Value} (hb : Boxed W p t v) (h3 : t ≠ 70) (h4 : t ≠ 97) : Boxed W' p t v := h.2 p _ t _ hb h3 h4
theorem KO.gbox {W W' : World} (h : KO W W') {p : Nat} {x y z : Value} (hb : GBox W p x y z) : GBox W' p x y z := h.2 p _ _ _ hb (by decide) (by decide)
theorem KO.row {W W' : World} (h : KO W W') {A t s k : Nat} {v : Value} {xs : List Value} (hr : W.ownsRow A t s v k xs) (h3 : t ≠ 70) (h4 : t ≠ 97) : W'.ownsRow A t s v k xs := by
  refine ⟨hr.1, ?_⟩
  rcases hr.2 with h1 | ⟨g, cap, cur, h1, h2, h5, h6⟩
  · exact .inl h1
  · exact .inr ⟨g, cap, cur, h1, h2, h.2 g _ _ _ h5 h3 h4, h6⟩
theorem map_not_cells {W : World} {b n : Nat} {D : MapD} {R : Value → Option (MapD × List MemPlace)} {k : TypeId} (h : W.ownsMap Tryz.prog k R b n D) {c : Array Value} {t : TypeId} {fr : Nat × Nat} : W.heap[b]? ≠ some (.cells c t fr) := by
  obtain ⟨es, clock, hb, _⟩ := h
  rw [hb]; simp
theorem row_cells {W : World} {A t s k g : Nat} {v : Value} {xs : List Value} (hr : W.ownsRow A t s v k xs) (hg : v.ownBlock = some g) : ∃ c fr, W.heap[g]? = some (.cells c t fr) := by
  rcases hr.2 with ⟨rfl, _⟩ | ⟨g2, cap, cur, rfl, _, hgb, _⟩
  · simp [Value.ownBlock] at hg
  · obtain rfl : g2 = g := by simpa [Value.ownBlock] using hg
    exact ⟨_, _, hgb⟩
def setz (l : List Nat) : List Value := l.map u64v
theorem setz_snoc (l : List Nat) (S : Nat) : setz (l ++ [S]) = setz l ++ [u64v S] := by unfold setz; rw [List.map_append]; rfl
structure NS (lo p8 p9 Bm : Nat) (sets : List Nat) (W : World) : Prop where
  x8 : Boxed W p8 96 (.map (some Bm))
  mp : W.ownsMap Tryz.prog 70 (plainElem Tryz.prog 3) Bm sets.length (mapD sets)
  st : ∃ v, Boxed W p9 97 v ∧ W.ownsRow lo 70 1 v sets.length (setz sets)
theorem NS.grown {lo p8 p9 Bm : Nat} {sets : List Nat} {W W' : World} {row : Option Nat} (h : NS lo p8 p9 Bm sets W) (hg : W.grownBy W' row)
    (hr : ∀ k, row = some k → ∃ c t fr, W.heap[k]? = some (.cells c t fr) ∧ t ≠ 70 ∧ t ≠ 97 ∧ t ≠ 96) : NS lo p8 p9 Bm sets W' := by
  obtain ⟨v, h1, h2⟩ := h.st
  have hne : ∀ {p : Nat} {t : TypeId} {u : Value}, Boxed W p t u → (t = 97 ∨ t = 96) → some p ≠ row := fun {p t u} hb ht e => by
    obtain ⟨c, t2, fr, h3, h4, h5, h6⟩ := hr p e.symm
    rw [show W.heap[p]? = _ from hb] at h3
    injection h3 with h3
    injection h3 with _ h3 _
    rcases ht with ht | ht
    · exact h5 (h3 ▸ ht)
    · exact h6 (h3 ▸ ht)
  refine ⟨h.x8.kept hg (hne h.x8 (.inr rfl)), h.mp.kept hg (fun e => ?_), v, h1.kept hg (hne h1 (.inl rfl)), World.ownsRow.kept h2 hg ?_⟩
  · obtain ⟨c, t2, fr, h3, _⟩ := hr Bm e.symm
    exact map_not_cells h.mp h3
  · cases hv : v.ownBlock with
    | none => exact .inl rfl
    | some g =>
      refine .inr (fun e => ?_)
      obtain ⟨c, t2, fr, h3, h4, h5, h6⟩ := hr g e.symm
      obtain ⟨c2, fr2, h7⟩ := row_cells h2 hv
      rw [h7] at h3
      injection h3 with h3
      injection h3 with _ h3 _
      exact h4 h3.symm
theorem NS.keep {lo p8 p9 Bm : Nat} {sets : List Nat} {W W' : World} (h : NS lo p8 p9 Bm sets W) (hb : Below W.heap.size W W') : NS lo p8 p9 Bm sets W' := h.grown (grown_none hb) (fun k e => by cases e)
def addN (sets : List Nat) (T : Nat) : List Nat := if T ∈ sets then sets else sets ++ [T]
theorem Tryz.infoSetV : (Tryz.prog.info? 70).map (fun i => (i.zero, i.size, i.bytes)) = some (some (.int .u64 0), 1, 8) := by kernel_rfl
set_option maxRecDepth 100000 in
set_option maxHeartbeats 6400000 in
theorem number_any (lo p8 p9 Bm : Nat) (sets : List Nat) (T : Nat) (Wm W : World) (h : NS lo p8 p9 Bm sets W) (hb : Below lo Wm W) (hlo : lo ≤ W.heap.size) (h9 : lo ≤ p9) (hB : lo ≤ Bm) (hT : T < 18446744073709551616) (hd : sets.Nodup) (hl : sets.length ≤ 1000) :
    Calls Tryz.prog 76 #[u64v T, .pointer (some ⟨p8, 0, none⟩), .pointer (some ⟨p9, 0, none⟩)] W fun e W' => e = .returned (.int .i64 ((sets.idxOf T : Nat) : Int)) ∧ NS lo p8 p9 Bm (addN sets T) W' ∧ Below lo Wm W' ∧ KO W W' := by
  obtain ⟨i0, hi, hz0, hz1, hz2⟩ := info_parts Tryz.infoSetV
  have hkey : keyOf Tryz.prog 70 (.int .u64 (T : Int)) = some (keyN T) := keyOf_int_mk Tryz.underlying70 (keyN_wf hT)
  have x8 := h.x8.cell
  obtain ⟨v, h9b, hrow⟩ := h.st
  have hmp := h.mp
  have x9 := h9b.cell
  by_cases hin : T ∈ sets
  · have hhas := mapD_has T sets
    rw [decide_eq_true hin] at hhas
    have hat2 := Lib.hid (fun z => mapD_at T z sets hd hin)
    have HA := Lib.hid (show addN sets T = sets from if_pos hin)
    have HN := Lib.hid h
    have HB := Lib.hid hb
    clear h h9b hrow hin hd hb
    go_enter Tryz.func76, Tryz.ntmps76
    go_wp2_with (first
      | (at_lookup; refine wpList_lookup_own_ok_int _ rfl _ _ 96 rfl 70 3 .i64 Tryz.keyLaw Tryz.underlying96 Tryz.underlying3 (Tryz.zeroI _) Bm sets.length (mapD sets) rfl hmp _ _ rfl hkey ?_; intro c hat hwc; rw [hhas])
      | (at_lookup; refine wpList_lookup_own_int _ rfl _ _ 96 rfl 70 3 .i64 Tryz.keyLaw Tryz.underlying96 Tryz.underlying3 (Tryz.zeroI _) Bm sets.length (mapD sets) rfl hmp _ _ rfl hkey ?_; intro c2 hat3 hwc2))
    go_ret
    rw [hat2.out] at hat3
    injection hat3 with hat3
    injection hat3 with _ hat3
    exact ⟨by rw [hat3]; rfl, by rw [HA.out]; exact HN.out, HB.out, KO.refl _⟩
  · have hhas := mapD_has T sets
    rw [decide_eq_false hin] at hhas
    have HA := Lib.hid (show addN sets T = sets ++ [T] from if_neg hin)
    have HI := Lib.hid (show sets.idxOf T = sets.length from List.idxOf_eq_length hin)
    have hd2 : (sets ++ [T]).Nodup := by
      rw [List.nodup_append]
      exact ⟨hd, by simp, fun x hx y hy => by rw [List.mem_singleton] at hy; subst hy; exact fun e => hin (e ▸ hx)⟩
    have HAT := Lib.hid (fun z => mapD_at T z (sets ++ [T]) hd2 (by simp))
    rw [mapD_snoc, List.idxOf_append, if_neg hin] at HAT
    have hl9 := hrow.lt
    have HB := Lib.hid hb
    have HX8 := Lib.hid h.x8
    have hn8 : some p8 ≠ some Bm := fun e => by injection e with e; subst e; exact map_not_cells hmp h.x8
    have hn9 : some p9 ≠ some Bm := fun e => by injection e with e; subst e; exact map_not_cells hmp h9b
    have hnr : v.ownBlock ≠ some Bm := fun e => by
      obtain ⟨c, fr, h1⟩ := row_cells hrow e
      exact map_not_cells hmp h1
    obtain ⟨a9, c9, rfl⟩ := own_slice hrow
    have hnr1 : ∀ (w1 : World) {D : MapD} {n : Nat}, w1.ownsRow lo 70 1 (.slice a9 sets.length c9) sets.length (setz sets) → w1.ownsMap Tryz.prog 70 (plainElem Tryz.prog 3) Bm n D → some Bm ≠ (Value.slice a9 sets.length c9).ownBlock := fun w1 D n h1 h2 e => by
      obtain ⟨c, fr, h3⟩ := row_cells h1 e.symm
      exact map_not_cells h2 h3
    have HX8F := Lib.hid (fun (w1 w4 : World) (o : Obj) (u : Value) (hg1 : W.grownBy w1 (some Bm)) (hg4 : (w1.alloc o).grownBy w4 (Value.slice a9 sets.length c9).ownBlock) (hr1 : w1.ownsRow lo 70 1 (.slice a9 sets.length c9) sets.length (setz sets)) (k1 : Boxed w4 p9 97 (.slice a9 sets.length c9)) =>
      show Boxed (w4.setCell ⟨p9, 0, none⟩ u) p8 96 (.map (some Bm)) by
        have e1 := HX8.out.kept hg1 hn8
        have e2 := (e1.alloc o).kept hg4 (e1.not_row (by decide) hr1)
        exact e2.kept (grownBy_setCell' w4 p9 _) (fun e => by injection e with e; subst e; have h5 := (show w4.heap[p8]? = _ from e2).symm.trans k1; simp at h5))
    have HK1 := Lib.hid (fun w1 (hg : W.grownBy w1 (some Bm)) => show KO W w1 from KO.grown hg (fun k e c t fr hk => by injection e with e; subst e; exact absurd hk (map_not_cells hmp)))
    clear h hin hd hb
    go_enter Tryz.func76, Tryz.ntmps76
    go_wp2_with (first
      | (at_lookup; refine wpList_lookup_own_ok_int _ rfl _ _ 96 rfl 70 3 .i64 Tryz.keyLaw Tryz.underlying96 Tryz.underlying3 (Tryz.zeroI _) Bm sets.length (mapD sets) rfl hmp _ _ rfl hkey ?_; intro c hat hwc; rw [hhas])
      | (at_mapUpdate; refine wpList_mapUpdate_own _ rfl _ _ _ 96 rfl 70 3 Tryz.keyLaw Tryz.underlying96 _ Bm sets.length _ rfl hmp (by unfold maxLen; omega) _ _ _ rfl rfl hkey _ [] (plainElem_int Tryz.underlying3 (WalkArith.wf_i64 (by omega))) ?_; intro w1 hown1 hgrow1; (have h9c := h9b.kept hgrow1 hn9); (have hrow1 := World.ownsRow.kept hrow hgrow1 (.inr hnr)); (have x9b := h9c.cell); (have hs1 := hgrow1.size))
      | (at_builtin; refine wpList_append_own_at _ rfl _ _ 97 rfl lo 70 i0 (.int .u64 0) 1 8 Tryz.underlying97 hi hz0 hz1 hz2 rfl (by decide) _ _ _ rfl (hrow1.alloc _) ⟨w1.heap.size, 0, none⟩ 1 1 [u64v T] rfl rfl (cell_one_new _ _ _) (by intro u hu; simp at hu; subst hu; rfl) (by unfold maxLen; omega) (by omega) (by rw [World.size_alloc]; omega) ?_; intro v' w4 hown4 hgrow4 hnil4 hloc4; (obtain ⟨g4, cap4, rfl, -, -⟩ := hown4.form (Nat.succ_pos _)); (obtain ⟨k1, k2, k3, k4, k5⟩ := Boxed.appended (n₀ := lo) (B := p9) (t := 97) h9c (by decide) hrow1 (by omega) h9 hown4 hgrow4); (have hmp4 := World.ownsMap.setCell (a := ⟨p9, 0, none⟩) (World.ownsMap.kept (hown1.alloc _) hgrow4 (hnr1 w1 hrow1 hown1)) (fun e => hn9 (by rw [e])) (.slice (some ⟨g4, 0, none⟩) (sets.length + 1) cap4)); (have hx8 := HX8F.out w1 w4 _ (.slice (some ⟨g4, 0, none⟩) (sets.length + 1) cap4) hgrow1 hgrow4 hrow1 k1); (have x8f := hx8.cell); (have x9d := k1.cell); (have f9d := k1.frozen))
      | (at_lookup; refine wpList_lookup_own_int _ rfl _ _ 96 rfl 70 3 .i64 Tryz.keyLaw Tryz.underlying96 Tryz.underlying3 (Tryz.zeroI _) Bm (sets.length + 1) _ rfl hmp4 _ _ rfl hkey ?_; intro c2 hat3 hwc2))
    go_ret
    rw [HAT.out] at hat3
    injection hat3 with hat3
    injection hat3 with _ hat3
    refine ⟨by rw [← hat3, HI.out]; simp, ?_, ?_, ?_⟩
    · rw [HA.out]
      refine ⟨hx8, ?_, _, k2, ?_⟩
      · rw [List.length_append, mapD_snoc]; exact hmp4
      · rw [setz_snoc, List.length_append]; exact k3
    · exact HB.out.trans ((((Below.refl lo W).grown hgrow1 hlo (fun k e => by injection e with e; omega)).trans (k5.mono (Nat.le_refl _))))
    · refine (HK1.out w1 hgrow1).trans ?_
      have g1 : KO w1 (w1.alloc (.cells #[u64v T] 70)) := KO.grown (World.grownBy_alloc w1 _ none) (fun k e => by cases e)
      have g2 : KO (w1.alloc (.cells #[u64v T] 70)) w4 := KO.grown hgrow4 (fun k e c t fr hk => by
        obtain ⟨c2, fr2, h7⟩ := row_cells (hrow1.alloc (.cells #[u64v T] 70)) e
        rw [h7] at hk
        injection hk with hk
        injection hk with _ hk _
        exact .inl hk.symm)
      have g3 := KO.grown (grownBy_setCell' w4 p9 (.slice (some ⟨g4, 0, none⟩) (sets.length + 1) cap4)) (fun k e c t fr hk => by
        injection e with e
        subst e
        rw [show w4.heap[p9]? = _ from k1] at hk
        injection hk with hk
        injection hk with _ hk _
        exact .inr hk.symm)
      exact (g1.trans g2).trans g3
end Go.Proofs.YtiockphjnkehnaaGreatDoor
