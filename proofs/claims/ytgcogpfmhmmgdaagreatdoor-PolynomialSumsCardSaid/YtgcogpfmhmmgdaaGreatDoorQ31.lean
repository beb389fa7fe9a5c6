/- What polynomial.term returns: the text of a term. Condition: at most 10^5 digits to the base 2^32. What polynomial.Print returns: the text of a polynomial. Condition: at most 500 coefficients, each with at most 10^5 digits. What polynomial.Print returns: the text of a polynomial. Condition: at most 500 coefficients, each with at most 10^5 digits. -/
import Derived.Test.YtgcogpfmhmmgdaaGreatDoorQ30
import Derived.Test.YtgcogpfmhmmgdaaGreatDoorQ27
import Derived.Test.YtgcogpfmhmmgdaaGreatDoorQ15

namespace Go.Proofs.YtgcogpfmhmmgdaaGreatDoor
open Go.RowKit
set_option linter.unusedSimpArgs false
set_option linter.unusedVariables false

theorem catb (a b : List UInt8) : (⟨a.toArray⟩ : ByteArray) ++ ⟨b.toArray⟩ = ⟨(a ++ b).toArray⟩ := by
  apply ByteArray.ext
  simp
set_option maxRecDepth 100000 in
set_option maxHeartbeats 3200000 in
theorem term_zero (v : Value) (z : Int) (k : Nat) (w : World) (h : IsInt v z k) (htab : Lib.TabIs Tryz.prog w "internal/strconv.uint64pow10" .u64 Lib.pow10Tab) :
    Calls Tryz.prog 52 #[v, .int .i64 0] w fun e w' => e = .returned (.string ⟨(prZ z).toArray⟩) ∧ Below w.heap.size w w' := by
  have H := Lib.hid h
  have HT := Lib.hid htab
  obtain ⟨g, s, rfl, -⟩ := h
  have B0 := below1 w (.cells #[.bool g, .string s] 27)
  clear htab
  go_enter Tryz.func52, Tryz.ntmps52
  go_wp2_with fail
  refine (print_any _ z k _ H.out (tab_keep HT.out B0)).mono ?_
  rintro e W1 ⟨rfl, b1⟩
  have B1 := below_more B0 (Nat.le_refl _) b1
  go_wp2
  go_ret
  exact ⟨rfl, B1⟩
set_option maxRecDepth 100000 in
set_option maxHeartbeats 3200000 in
theorem term_one (v : Value) (z : Int) (k : Nat) (w : World) (h : IsInt v z k) (htab : Lib.TabIs Tryz.prog w "internal/strconv.uint64pow10" .u64 Lib.pow10Tab) (hl : (prZ z).length ≤ 100000000) :
    Calls Tryz.prog 52 #[v, .int .i64 1] w fun e w' => e = .returned (.string ⟨(if prZ z = [49] then [120] else prZ z ++ [42, 120]).toArray⟩) ∧ Below w.heap.size w w' := by
  have H := Lib.hid h
  have HT := Lib.hid htab
  obtain ⟨g, s, rfl, -⟩ := h
  have B0 := below1 w (.cells #[.bool g, .string s] 27)
  obtain ⟨T, ET⟩ : ∃ T : List UInt8, Hid (prZ z = T) := ⟨_, Lib.hid rfl⟩
  rw [ET.out] at hl ⊢
  clear htab
  by_cases h1 : T = [49]
  · subst h1
    rw [if_pos rfl]
    go_enter Tryz.func52, Tryz.ntmps52
    go_wp2_with fail
    refine (print_any _ z k _ H.out (tab_keep HT.out B0)).mono ?_
    rw [ET.out]
    rintro e W1 ⟨rfl, b1⟩
    have B1 := below_more B0 (Nat.le_refl _) b1
    go_wp2
    go_ret
    exact ⟨rfl, B1⟩
  · rw [if_neg h1]
    have h3 : (T == [49]) = false := beq_eq_false_iff_ne.2 h1
    have HS := Lib.hid (catb T [42])
    have HS2 := Lib.hid (catb (T ++ [42]) [120])
    go_enter Tryz.func52, Tryz.ntmps52
    go_wp2_with fail
    refine (print_any _ z k _ H.out (tab_keep HT.out B0)).mono ?_
    rw [ET.out]
    rintro e W1 ⟨rfl, b1⟩
    have B1 := below_more B0 (Nat.le_refl _) b1
    go_wp2
    go_ret
    refine ⟨?_, B1⟩
    have e2 : (⟨T.toArray⟩ : ByteArray) ++ ⟨#[42]⟩ ++ ⟨#[120]⟩ = ⟨(T ++ [42, 120]).toArray⟩ := by
      rw [show (⟨#[42]⟩ : ByteArray) = ⟨[(42 : UInt8)].toArray⟩ from rfl, show (⟨#[120]⟩ : ByteArray) = ⟨[(120 : UInt8)].toArray⟩ from rfl, HS.out, HS2.out, List.append_assoc]
      rfl
    rw [← e2]
    rfl
set_option maxRecDepth 100000 in
set_option maxHeartbeats 3200000 in
theorem term_many (v : Value) (z : Int) (k d : Nat) (w : World) (h : IsInt v z k) (htab : Lib.TabIs Tryz.prog w "internal/strconv.uint64pow10" .u64 Lib.pow10Tab) (hl : (prZ z).length ≤ 100000000) (hd : 1 < d) (hd2 : d ≤ 1000000) :
    Calls Tryz.prog 52 #[v, .int .i64 (d : Int)] w fun e w' => e = .returned (.string ⟨(if prZ z = [49] then 120 :: 94 :: Lib.decDigits d else prZ z ++ 42 :: 120 :: 94 :: Lib.decDigits d).toArray⟩) ∧ Below w.heap.size w w' := by
  have H := Lib.hid h
  have HT := Lib.hid htab
  obtain ⟨g, s, rfl, -⟩ := h
  have B0 := below1 w (.cells #[.bool g, .string s] 27)
  obtain ⟨T, ET⟩ : ∃ T : List UInt8, Hid (prZ z = T) := ⟨_, Lib.hid rfl⟩
  obtain ⟨U, EU⟩ : ∃ U : List UInt8, Hid (Lib.decDigits d = U) := ⟨_, Lib.hid rfl⟩
  have hu : U.length ≤ 20 := by
    have h1 := Lib.decDigits_length d
    have h2 := nDigits_le 20 d (by omega) (by omega)
    rw [← EU.out]; omega
  rw [ET.out, EU.out]
  rw [ET.out] at hl
  have hd0 : (1 : Int) < (d : Int) := by omega
  have hd3 : ((d : Int) == 0) = false := beq_eq_false_iff_ne.2 (by omega)
  have HS0 := Lib.hid (catb [94] U)
  have HS1 := Lib.hid (catb [120] ([94] ++ U))
  have HS2 := Lib.hid (catb T [42])
  have HS3 := Lib.hid (catb (T ++ [42]) ([120] ++ ([94] ++ U)))
  clear htab
  by_cases h1 : T = [49]
  · subst h1
    rw [if_pos rfl]
    go_enter Tryz.func52, Tryz.ntmps52
    go_wp2_with fail
    refine (print_any _ z k _ H.out (tab_keep HT.out B0)).mono ?_
    rw [ET.out]
    rintro e W1 ⟨rfl, b1⟩
    have B1 := below_more B0 (Nat.le_refl _) b1
    go_wp2_with fail
    refine (Tryz.strconv_Itoa (d : Int) (by omega) (by omega) _ (tab_keep HT.out B1)).mono ?_
    rintro e W4 ⟨rfl, q, os, hw⟩
    have b4 : Below W1.heap.size W1 W4 := by rw [hw]; exact Lib.below_grow _ _ (Nat.le_refl _) _ _
    have B4 := below_more B1 (Nat.le_refl _) b4
    clear hw
    rw [Lib.itoa_nonneg, EU.out]
    go_wp2
    go_ret
    refine ⟨?_, B4⟩
    have e2 : (⟨#[120]⟩ : ByteArray) ++ (⟨#[94]⟩ ++ ⟨U.toArray⟩) = ⟨(120 :: 94 :: U).toArray⟩ := by
      rw [show (⟨#[94]⟩ : ByteArray) = ⟨[(94 : UInt8)].toArray⟩ from rfl, show (⟨#[120]⟩ : ByteArray) = ⟨[(120 : UInt8)].toArray⟩ from rfl, HS0.out, HS1.out]
      rfl
    rw [← e2]
    rfl
  · rw [if_neg h1]
    have h3 : (T == [49]) = false := beq_eq_false_iff_ne.2 h1
    go_enter Tryz.func52, Tryz.ntmps52
    go_wp2_with fail
    refine (print_any _ z k _ H.out (tab_keep HT.out B0)).mono ?_
    rw [ET.out]
    rintro e W1 ⟨rfl, b1⟩
    have B1 := below_more B0 (Nat.le_refl _) b1
    go_wp2_with fail
    refine (Tryz.strconv_Itoa (d : Int) (by omega) (by omega) _ (tab_keep HT.out B1)).mono ?_
    rintro e W4 ⟨rfl, q, os, hw⟩
    have b4 : Below W1.heap.size W1 W4 := by rw [hw]; exact Lib.below_grow _ _ (Nat.le_refl _) _ _
    have B4 := below_more B1 (Nat.le_refl _) b4
    clear hw
    rw [Lib.itoa_nonneg, EU.out]
    go_wp2
    go_ret
    refine ⟨?_, B4⟩
    have e2 : (⟨T.toArray⟩ : ByteArray) ++ ⟨#[42]⟩ ++ (⟨#[120]⟩ ++ (⟨#[94]⟩ ++ ⟨U.toArray⟩)) = ⟨(T ++ 42 :: 120 :: 94 :: U).toArray⟩ := by
      rw [show (⟨#[94]⟩ : ByteArray) = ⟨[(94 : UInt8)].toArray⟩ from rfl, show (⟨#[120]⟩ : ByteArray) = ⟨[(120 : UInt8)].toArray⟩ from rfl, show (⟨#[42]⟩ : ByteArray) = ⟨[(42 : UInt8)].toArray⟩ from rfl, HS0.out, HS1.out, HS2.out, HS3.out, List.append_assoc]
      rfl
    rw [← e2]
    rfl
end Go.Proofs.YtgcogpfmhmmgdaaGreatDoor

namespace Go.Proofs.YtgcogpfmhmmgdaaGreatDoor
open Go.RowKit Go.Shelf
set_option linter.unusedSimpArgs false
set_option linter.unusedVariables false

/-- The text of a term. -/
def tmW (c e : Nat) : List UInt8 :=
  if e = 0 then prZ (c : Int) else if e = 1 then (if prZ (c : Int) = [49] then [120] else prZ (c : Int) ++ [42, 120]) else (if prZ (c : Int) = [49] then 120 :: 94 :: Lib.decDigits e else prZ (c : Int) ++ 42 :: 120 :: 94 :: Lib.decDigits e)
theorem term_any (v : Value) (c k d : Nat) (w : World) (h : IsInt v (c : Int) k) (htab : Lib.TabIs Tryz.prog w "internal/strconv.uint64pow10" .u64 Lib.pow10Tab) (hl : (prZ (c : Int)).length ≤ 100000000) (hd2 : d ≤ 1000000) :
    Calls Tryz.prog 52 #[v, .int .i64 (d : Int)] w fun e w' => e = .returned (.string ⟨(tmW c d).toArray⟩) ∧ Below w.heap.size w w' := by
  unfold tmW
  rcases (show d = 0 ∨ d = 1 ∨ 1 < d by omega) with rfl | rfl | h1
  · rw [if_pos rfl]; exact term_zero v c k w h htab
  · rw [if_neg (by omega), if_pos rfl]; exact term_one v c k w h htab hl
  · rw [if_neg (by omega), if_neg (by omega)]; exact term_many v c k d w h htab hl h1 hd2
theorem tmW_len {c e : Nat} (h : (prZ (c : Int)).length ≤ 100000) (he : e ≤ 1000000) : (tmW c e).length ≤ 100100 := by
  have h1 : (Lib.decDigits e).length ≤ 20 := by
    have h1 := Lib.decDigits_length e
    have h2 := nDigits_le 20 e (by omega) (by omega)
    omega
  unfold tmW
  split
  · omega
  · split
    · split <;> simp; omega
    · split <;> simp <;> omega
/-- The text of some terms. -/
def prW {L : List Int} (pre : List (Tm L)) : List UInt8 := pre.foldl (fun a x => a ++ sgn1 (decide (a.length = 0)) (decide (co L x.1 < 0)) ++ tmW (co L x.1).natAbs x.1) []
theorem prW_snoc {L : List Int} (pre : List (Tm L)) (x : Tm L) : prW (pre ++ [x]) = prW pre ++ sgn1 (decide ((prW pre).length = 0)) (decide (co L x.1 < 0)) ++ tmW (co L x.1).natAbs x.1 := by
  unfold prW
  rw [List.foldl_append]; rfl
theorem sgn1_len (a b : Bool) : (sgn1 a b).length ≤ 3 := by cases a <;> cases b <;> decide
theorem sgT_eq (neg first : Bool) : sgT neg first = ⟨(sgn1 first neg).toArray⟩ := by cases neg <;> cases first <;> rfl
theorem prW_len {L : List Int} (h : ∀ x : Tm L, (tmW (co L x.1).natAbs x.1).length ≤ 100100) (pre : List (Tm L)) : (prW pre).length ≤ pre.length * 100103 := by
  have key : ∀ (l : List (Tm L)) (a : List UInt8), (l.foldl (fun a x => a ++ sgn1 (decide (a.length = 0)) (decide (co L x.1 < 0)) ++ tmW (co L x.1).natAbs x.1) a).length ≤ a.length + l.length * 100103 := by
    intro l
    induction l with
    | nil => intro a; simp
    | cons x l ih =>
      intro a
      rw [List.foldl_cons]
      refine Nat.le_trans (ih _) ?_
      have h1 := sgn1_len (decide (a.length = 0)) (decide (co L x.1 < 0))
      have h2 := h x
      rw [List.length_append, List.length_append, List.length_cons]
      omega
  have := key pre []
  rw [List.length_nil, Nat.zero_add] at this
  exact this
/-- The text of a polynomial. -/
def prL (L : List Int) : List UInt8 := if (prW (tmx L L.length)).length = 0 then [48] else prW (tmx L L.length)
theorem grown_set2 (w : World) (a : Addr) (v : Value) : w.grownBy (w.setCell a v) (some a.block) :=
  ⟨rfl, rfl, rfl, by rw [World.size_setCell]; exact Nat.le_refl _, fun k hk hne => Below.heap_setCell _ _ _ _ (fun e => hne (by rw [e]))⟩
theorem heap_kept {W W1 : World} {b : Nat} {o : Obj} {row : Option Nat} (h : W.heap[b]? = some o) (hc : o.isCells = true) (hg : W.grownBy W1 row) (hr : ∀ r, row = some r → ∃ o : Obj, W.heap[r]? = some o ∧ o.isCells = false) : W1.heap[b]? = some o :=
  (hg.block b (heap_lt h) (fun e => by
    obtain ⟨o', ho, hc'⟩ := hr b e.symm
    rw [h] at ho
    injection ho with ho
    subst ho
    rw [hc] at hc'; cases hc')).trans h
/-- What a round of the loop over the terms keeps. -/
def PRB (w W : World) (N Bx Sx : Nat) (T : Value) (g gs : Bool) (s ss : ByteArray) (t : List UInt8) (Z : World) : Prop :=
  ((KeepsFrom N W Z ∧ Kt w.heap.size (w.heap.size + 1) W Z) ∧ Bld w.heap.size w.heap.size (Lib.byteCells t) Z ∧ Below w.heap.size w Z) ∧
  Z.heap[w.heap.size + 1]? = some (.cells #[T] 22 (0, 0)) ∧ (w.heap.size + 1 < Bx ∧ Bx ≠ Sx ∧ w.heap.size + 1 < Sx) ∧ Z.heap[Bx]? = some (.cells #[.bool g, .string s] 27 (0, 0)) ∧ Z.heap[Sx]? = some (.cells #[.bool gs, .string ss] 27 (0, 0))
section
variable {w W Z Z' : World} {N Bx Sx : Nat} {T : Value} {g gs : Bool} {s ss : ByteArray} {t : List UInt8}
theorem PRB.keep (h : PRB w W N Bx Sx T g gs s ss t Z) (b : Below Z.heap.size Z Z') : PRB w W N Bx Sx T g gs s ss t Z' := by
  obtain ⟨⟨⟨h1, h2⟩, h3, h4⟩, h5, h6, h7, h8⟩ := h
  exact ⟨⟨⟨h1.trans ((others_of_below b).from _), h2.trans (Kt.of_below b h4.size (heap_lt h5))⟩, bld_below h3 b, below_more h4 (Nat.le_refl _) b⟩, (b.block _ (heap_lt h5)).trans h5, h6, (b.block _ (heap_lt h7)).trans h7, (b.block _ (heap_lt h8)).trans h8⟩
theorem PRB.cellsB (h : PRB w W N Bx Sx T g gs s ss t Z) : Z.cell? ⟨Bx, 0, none⟩ = some (.bool g) ∧ Z.cell? ⟨Bx, 1, none⟩ = some (.string s) := by
  constructor <;> (rw [Lib.cell_of_heap h.2.2.2.1]; rfl)
theorem PRB.cellsS (h : PRB w W N Bx Sx T g gs s ss t Z) : Z.cell? ⟨Sx, 0, none⟩ = some (.bool gs) ∧ Z.cell? ⟨Sx, 1, none⟩ = some (.string ss) ∧ Z.frozen? ⟨Sx, 0, none⟩ = false ∧ Z.frozen? ⟨Sx, 1, none⟩ = false := by
  refine ⟨?_, ?_, Lib.frozen_of_heap h.2.2.2.2 0, Lib.frozen_of_heap h.2.2.2.2 1⟩ <;> (rw [Lib.cell_of_heap h.2.2.2.2]; rfl)
theorem PRB.bld (h : PRB w W N Bx Sx T g gs s ss t Z) : Bld w.heap.size w.heap.size (Lib.byteCells t) Z := h.1.2.1
theorem PRB.low (h : PRB w W N Bx Sx T g gs s ss t Z) : Below w.heap.size w Z := h.1.2.2
theorem PRB.size (h : PRB w W N Bx Sx T g gs s ss t Z) : w.heap.size ≤ Z.heap.size := h.1.2.2.size
theorem heap_set2 {o : Nat} {x y u v : Value} {ty : TypeId} (h : Z.heap[o]? = some (.cells #[x, y] ty (0, 0))) : ((Z.setCell ⟨o, 0, none⟩ u).setCell ⟨o, 1, none⟩ v).heap[o]? = some (.cells #[u, v] ty (0, 0)) := by
  simp [World.setCell, Array.getElem?_modify, h]
theorem heap_far2 {o q : Nat} {u v : Value} (hne : o ≠ q) : ((Z.setCell ⟨q, 0, none⟩ u).setCell ⟨q, 1, none⟩ v).heap[o]? = Z.heap[o]? := by
  rw [Below.heap_setCell _ _ _ _ (by exact hne), Below.heap_setCell _ _ _ _ (by exact hne)]
theorem PRB.setS (h : PRB w W N Bx Sx T g gs s ss t Z) (g' : Bool) (s' : ByteArray) : PRB w W N Bx Sx T g g' s s' t ((Z.setCell ⟨Sx, 0, none⟩ (.bool g')).setCell ⟨Sx, 1, none⟩ (.string s')) := by
  obtain ⟨⟨⟨h1, h2⟩, h3, h4⟩, h5, ⟨h6, h6', h6''⟩, h7, h8⟩ := h
  have hb : Bld w.heap.size w.heap.size (Lib.byteCells t) ((Z.setCell ⟨Sx, 0, none⟩ (.bool g')).setCell ⟨Sx, 1, none⟩ (.string s')) := by
    have key : ∀ p, Lib.BuilderAt 61 5 w.heap.size w.heap.size p (Lib.byteCells t) Z → Lib.BuilderAt 61 5 w.heap.size w.heap.size p (Lib.byteCells t) ((Z.setCell ⟨Sx, 0, none⟩ (.bool g')).setCell ⟨Sx, 1, none⟩ (.string s')) := fun p ⟨hB, v, k1, k2, k3⟩ => by
      refine ⟨hB, v, (heap_far2 (by omega)).trans k1, ?_, k3⟩
      have hv : v.ownBlock ≠ some Sx := by
        rcases k2.2 with ⟨hv, _⟩ | ⟨g, cap, cur, hv, _, hgg, _⟩
        · subst hv; simp [Value.ownBlock]
        · subst hv
          intro e
          simp only [Value.ownBlock, Option.some.injEq] at e
          subst e
          rw [h8] at hgg
          injection hgg with hgg
          injection hgg with _ hgg _
          exact absurd hgg (by decide)
      have g1 := k2.kept (grown_set2 Z ⟨Sx, 0, none⟩ (.bool g')) (Or.inr hv)
      exact g1.kept (grown_set2 _ ⟨Sx, 1, none⟩ (.string s')) (Or.inr hv)
    rcases h3 with h3 | h3
    · exact Or.inl (key _ h3)
    · exact Or.inr (key _ h3)
  have hs : w.heap.size ≤ Sx := by omega
  exact ⟨⟨⟨h1.trans (((KeepsOthers.setCell _ _ _).trans (KeepsOthers.setCell _ _ _)).from _), (h2.set (a := ⟨Sx, 0, none⟩) hs (by dsimp only; omega) _).set (a := ⟨Sx, 1, none⟩) hs (by dsimp only; omega) _⟩, hb, (h4.setCell (p := ⟨Sx, 0, none⟩) hs _).setCell (p := ⟨Sx, 1, none⟩) hs _⟩,
    (heap_far2 (by omega)).trans h5, ⟨h6, h6', h6''⟩, (heap_far2 h6').trans h7, heap_set2 h8⟩
theorem PRB.write (h : PRB w W N Bx Sx T g gs s ss t Z) {u : List UInt8} (hb : BldAt w.heap.size w.heap.size (Lib.byteCells t ++ Lib.strCells ⟨u.toArray⟩) Z') (hk : Below w.heap.size Z Z' ∧ KeepT Z Z') (ho : KeepsOthers Z Z') : PRB w W N Bx Sx T g gs s ss (t ++ u) Z' := by
  obtain ⟨⟨⟨h1, h2⟩, h3, h4⟩, h5, h6, h7, h8⟩ := h
  have k5 := hk.2 _ _ _ _ h5 (by decide) (by decide)
  exact ⟨⟨⟨h1.trans (ho.from _), h2.trans ⟨hk.1, k5.trans h5.symm⟩⟩, by rw [Lib.byteCells_append]; exact Or.inr hb, h4.trans hk.1⟩, k5, h6, hk.2 _ _ _ _ h7 (by decide) (by decide), hk.2 _ _ _ _ h8 (by decide) (by decide)⟩
end
end Go.Proofs.YtgcogpfmhmmgdaaGreatDoor

namespace Go.Proofs.YtgcogpfmhmmgdaaGreatDoor
open Go.RowKit Go.Shelf
attribute [local go_sem] Oper.semAt_some
set_option linter.unusedSimpArgs false
set_option linter.unusedVariables false

set_option maxRecDepth 100000 in
set_option maxHeartbeats 12800000 in
theorem pPrint_any (v1 : Value) (L : List Int) (k : Nat) (w : World) (h1 : PolyAt w v1 L k) (hL : L.length ≤ 500) (hk : k ≤ 1000000) (htab : Lib.TabIs Tryz.prog w "internal/strconv.uint64pow10" .u64 Lib.pow10Tab)
    (hpr : ∀ x : Tm L, (prZ ((co L x.1).natAbs : Int)).length ≤ 100000) :
    Calls Tryz.prog 18 #[v1] w fun e w' => e = .returned (.string ⟨(prL L).toArray⟩) ∧ Below w.heap.size w w' := by
  have H1 := Lib.hid h1
  have HT := Lib.hid htab
  have HPr := Lib.hid hpr
  have HLn := Lib.hid (fun pre => prW_len (L := L) (fun x => tmW_len (hpr x) (by have := x.lt; have := trm_len L; omega)) pre)
  have HTl := Lib.hid (fun x : Tm L => tmW_len (hpr x) (e := x.1) (by have := x.lt; have := trm_len L; omega))
  have HP := Lib.hid h1.pb
  obtain ⟨A, c, g, s, rfl, hcells⟩ := h1.cells
  have HCL := Lib.hid hcells
  clear hcells htab hpr
  refine (callsIn_wide (n := 8)).1 ?_
  refine callsIn_of_wp_marks Tryz.func18 rfl trivial ?_ rfl
  simp only [Tryz.ntmps18, List.size_toArray, List.length_cons, List.length_nil, Nat.reduceAdd, Nat.reduceSub, Array.replicate_succ, Array.replicate_zero, List.push_toArray, List.append_toArray, List.nil_append, List.cons_append]
  gi_wp2_with (refine ⟨trivial, ?_⟩; gi_at_call 46; (with_reducible refine (callsIn_wide.2 (terms_any A L.length c _)).mono ?_); rintro e W3 ⟨rfl, rfl⟩)
  have hfr := Lib.fresh_isBuilder 61 5 w
  have b0 := below1 w (.cells #[.pointer none, .slice none 0 0] 61)
  have b1 := below1 (w.alloc (.cells #[.pointer none, .slice none 0 0] 61)) (.cells #[.slice A L.length c] 22)
  have B4 := below_more b0 (Nat.le_refl _) b1
  have hBl := bld_below hfr b1
  have T4h := heap_alloc_new (w.alloc (.cells #[.pointer none, .slice none 0 0] 61)) (.cells #[.slice A L.length c] 22)
  have T4 := CVar.new (w.alloc (.cells #[.pointer none, .slice none 0 0] 61)) (.slice A L.length c) 22
  rw [World.size_alloc] at T4h T4
  clear hfr b0 b1
  generalize ((w.alloc (.cells #[.pointer none, .slice none 0 0] 61)).alloc (.cells #[.slice A L.length c] 22)) = W4 at *
  have hT := T4.lt
  have C4 := HCL.out.keep B4
  refine wpIn_rangeFunc_ownH rfl (by omega) (gf := 83) (lb := #[.pointer (some ⟨w.heap.size + 1, 0, none⟩)]) rfl trivial (enters_of Tryz.func83 (by kernel_rfl) rfl)
    (terms_stops _ (w.heap.size + 1) w.heap.size c k A L g s W4 (by omega) (by omega) T4 B4.size C4) (fun h h' => h.trans h') (Kt.turn B4.size hT) (Below.refl _ _) (fun _ => rfl)
    (fun pre W => Bld w.heap.size w.heap.size (Lib.byteCells (prW pre)) W ∧ W.heap[w.heap.size + 1]? = some (.cells #[.slice A L.length c] 22 (0, 0)) ∧ Below w.heap.size w W)
    (fun _ _ _ => False)
    (fun pre X Y row hs hg hr => ⟨bld_kept hs.1 hg (fun r e => (hr r e).2), heap_kept hs.2.1 rfl hg (fun r e => (hr r e).2), hs.2.2.grown hg hs.2.2.size (fun r e => Nat.le_trans B4.size (hr r e).1)⟩)
    (fun _ _ _ _ _ hs _ _ => hs)
    ⟨hBl, T4h, B4⟩
    (fun x a' W => ∃ Bx, w.heap.size + 1 < Bx ∧ W.heap[Bx]? = some (.cells #[.bool (g x.1), .string (s x.1)] 27 (0, 0)) ∧ a' = { tmps := #[.slice A L.length c, undef, .string ⟨#[]⟩, .pointer (some ⟨w.heap.size, 0, none⟩), .int .i64 (x.1 : Int), .pointer (some ⟨Bx, 0, none⟩), undef, .slice A L.length c, .func (.func 83) #[] #[.pointer (some ⟨w.heap.size + 1, 0, none⟩)], .int .i64 (x.1 : Int), .agg #[.bool (g x.1), .string (s x.1)], undef, undef, undef, undef, undef, undef, undef, undef, undef, undef, undef, undef, undef, undef, undef, undef, undef, undef], defers := [] })
    (fun x a' _ X Y row hs hg hr => by
      obtain ⟨Bx, h1, h2, h3⟩ := hs
      exact ⟨Bx, h1, heap_kept h2 rfl hg (fun r e => (hr r e).2), h3⟩)
    ?assign ?body ?done ?stop
  case assign =>
    rintro l pre x W K ⟨i1, i4, i5⟩ hK
    have hKK := Lib.hid hK
    clear hK
    gi_wp2
    exact hKK.out _ _ ((KeepsOthers.alloc _ _).from _) (Kt.of_below (below1 W _) i5.size (heap_lt i4)) ⟨bld_below i1 (below1 W _), ((below1 W _).block _ (heap_lt i4)).trans i4, below_more i5 (Nat.le_refl _) (below1 W _)⟩ ⟨W.heap.size, heap_lt i4, heap_alloc_new W _, rfl⟩
  case body =>
    rintro l pre x a' W hl ⟨r, hr⟩ ⟨i1, i4, i5⟩ ⟨Bx, hBx, bX, rfl⟩ hlt
    have hxL : x.1 < L.length := by have := trm_len L; have := x.lt; omega
    obtain ⟨-, -, -, -, -, hI⟩ := HCL.out x.1 hxL
    have HI := Lib.hid hI
    have hpl : pre.length ≤ 500 := by omega
    have htl := HLn.out pre
    have htx := HTl.out x
    have HX := Lib.hid (HPr.out x)
    have S := Lib.hid (show PRB w W W4.heap.size Bx W.heap.size (.slice A L.length c) (g x.1) (g x.1) (s x.1) (s x.1) (prW pre) (W.alloc (.cells #[.bool (g x.1), .string (s x.1)] 27)) from
      ⟨⟨⟨(KeepsOthers.alloc _ _).from _, Kt.of_below (below1 W _) i5.size (heap_lt i4)⟩, bld_below i1 (below1 W _), below_more i5 (Nat.le_refl _) (below1 W _)⟩, ((below1 W _).block _ (heap_lt i4)).trans i4, ⟨hBx, Nat.ne_of_lt (heap_lt bX), heap_lt i4⟩, ((below1 W _).block _ (heap_lt bX)).trans bX, heap_alloc_new W _⟩)
    have x0 : W.cell? ⟨Bx, 0, none⟩ = some (.bool (g x.1)) ∧ W.cell? ⟨Bx, 1, none⟩ = some (.string (s x.1)) := by constructor <;> (rw [Lib.cell_of_heap bX]; rfl)
    obtain ⟨x8, x9⟩ := x0
    obtain ⟨x1, x2⟩ := S.out.cellsB
    obtain ⟨t, ht⟩ : ∃ t, prW pre = t := ⟨_, rfl⟩
    obtain ⟨first, hf⟩ : ∃ first, decide (t.length = 0) = first := ⟨_, rfl⟩
    have hf2 : ((t.length : Int) == 0) = first := by
      rw [← hf]
      rcases Nat.eq_zero_or_pos t.length with h | h
      · rw [h]; rfl
      · rw [decide_eq_false (by omega), beq_eq_false_iff_ne]; omega
    obtain ⟨u2, hu2⟩ : ∃ u2, tmW (co L x.1).natAbs x.1 = u2 := ⟨_, rfl⟩
    have HPW := Lib.hid (prW_snoc pre x)
    rw [ht, hu2] at HPW
    rw [hf] at HPW
    rw [ht] at S htl
    rw [hu2] at htx
    have HLen := Lib.hid (fun Z (hB : Bld w.heap.size w.heap.size (Lib.byteCells t) Z) => len_any _ _ _ Z hB)
    simp only [Lib.byteCells_length] at HLen
    clear ht hf i1 i4 i5 bX hr hI
    have hts : t.length ≤ 60000000 := by omega
    by_cases hneg : co L x.1 < 0
    · have hd : decide (co L x.1 < 0) = true := decide_eq_true hneg
      rw [hd] at HPW
      obtain ⟨u1, hu1⟩ : ∃ u1, sgn1 first true = u1 := ⟨_, rfl⟩
      have hu1l : u1.length ≤ 3 := by rw [← hu1]; exact sgn1_len _ _
      have HSg : Hid (∀ Z, Calls Tryz.prog 50 #[.bool true, .bool first] Z fun e w' => e = .returned (.string ⟨u1.toArray⟩) ∧ w' = Z) := Lib.hid (fun Z => by
        have := sign_any true first Z
        rw [sgT_eq, hu1] at this
        exact this)
      rw [hu1] at HPW
      have HN := Lib.hid (fun Z => isneg_any _ (co L x.1) k Z HI.out)
      simp only [hd] at HN
      have hz : -(co L x.1) = (((co L x.1).natAbs : Nat) : Int) := by omega
      obtain ⟨z, hzz⟩ : ∃ z : Int, (((co L x.1).natAbs : Nat) : Int) = z := ⟨_, rfl⟩
      have HNg := Lib.hid (fun Z => ineg_eq (w := Z) HI.out (hz.trans hzz))
      have HIz : Hid (IsInt (.agg #[.bool (sg z), .string (mg z)]) (((co L x.1).natAbs : Nat) : Int) k) := Lib.hid (by rw [hzz]; exact isInt_mg (by rw [← hzz, Int.natAbs_natCast]; exact HP.out x.1) (by omega))
      have HTm := Lib.hid (fun Z (hb : Below w.heap.size w Z) => term_any _ (co L x.1).natAbs k x.1 Z HIz.out (tab_keep HT.out hb) (Nat.le_trans HX.out (by decide)) (by omega))
      simp only [hu2] at HTm
      have hs1 : (⟨u1.toArray⟩ : ByteArray).size = u1.length := by simp [ByteArray.size]
      have hs2 : (⟨u2.toArray⟩ : ByteArray).size = u2.length := by simp [ByteArray.size]
      clear hd hu1 hu2 hz hzz
      gi_wp2_with (refine ⟨trivial, ?_⟩; first
        | (gi_at_call 47; (with_reducible refine (CallsIn.inRound l (callsIn_wide.2 (HN.out _))).mono ?_); rintro e Z ⟨rfl, bz⟩; (have S := Lib.hid (S.out.keep bz)); (obtain ⟨x1, x2⟩ := S.out.cellsB); (obtain ⟨y1, y2, y3, y4⟩ := S.out.cellsS))
        | (gi_at_call 48; (with_reducible refine (CallsIn.inRound l (callsIn_wide.2 (HNg.out _))).mono ?_); rintro e Z ⟨rfl, bz⟩; (have S := Lib.hid (S.out.keep bz)); (obtain ⟨y1, y2, y3, y4⟩ := S.out.cellsS); (have S := Lib.hid (S.out.setS (sg z) (mg z))); (obtain ⟨x1, x2⟩ := S.out.cellsB))
        | (gi_at_call 51; (with_reducible refine (CallsIn.inRound l (callsIn_wide.2 (HLen.out _ S.out.bld))).mono ?_); rintro e Z ⟨rfl, hW⟩; (rw [hW]); (clear hW))
        | (gi_at_call 50; (with_reducible refine (CallsIn.inRound l (callsIn_wide.2 (HSg.out _))).mono ?_); rintro e Z ⟨rfl, hW⟩; (rw [hW]); (clear hW))
        | (gi_at_call 52; (with_reducible refine (CallsIn.inRound l (callsIn_wide.2 (HTm.out _ S.out.low))).mono ?_); rintro e Z ⟨rfl, bz⟩; (have S := Lib.hid (S.out.keep bz)))
        | (gi_at_call 49; first
          | ((with_reducible refine (CallsIn.inRound l (callsIn_wide.2 (writeString_k w.heap.size w.heap.size (Lib.byteCells t) ⟨u1.toArray⟩ _ S.out.bld (by rw [Lib.byteCells_length, hs1]; omega) S.out.size))).mono ?_); rintro e Z ⟨rfl, hb, hk, ho⟩; (have S := Lib.hid (S.out.write hb hk ho)); (obtain ⟨y1, y2, y3, y4⟩ := S.out.cellsS))
          | ((with_reducible refine (CallsIn.inRound l (callsIn_wide.2 (writeString_k w.heap.size w.heap.size (Lib.byteCells (t ++ u1)) ⟨u2.toArray⟩ _ S.out.bld (by rw [Lib.byteCells_length, List.length_append, hs2]; omega) S.out.size))).mono ?_); rintro e Z ⟨rfl, hb, hk, ho⟩; (have S := Lib.hid (S.out.write hb hk ho)))))
      exact (show KeepsFrom W4.heap.size W _ ∧ Kt w.heap.size (w.heap.size + 1) W _ ∧ _ from ⟨S.out.1.1.1, S.out.1.1.2, by rw [HPW.out]; exact S.out.1.2.1, S.out.2.1, S.out.1.2.2⟩)
    · have hd : decide (co L x.1 < 0) = false := decide_eq_false hneg
      rw [hd] at HPW
      obtain ⟨u1, hu1⟩ : ∃ u1, sgn1 first false = u1 := ⟨_, rfl⟩
      have hu1l : u1.length ≤ 3 := by rw [← hu1]; exact sgn1_len _ _
      have HSg : Hid (∀ Z, Calls Tryz.prog 50 #[.bool false, .bool first] Z fun e w' => e = .returned (.string ⟨u1.toArray⟩) ∧ w' = Z) := Lib.hid (fun Z => by
        have := sign_any false first Z
        rw [sgT_eq, hu1] at this
        exact this)
      rw [hu1] at HPW
      have HN := Lib.hid (fun Z => isneg_any _ (co L x.1) k Z HI.out)
      simp only [hd] at HN
      have hz : co L x.1 = (((co L x.1).natAbs : Nat) : Int) := by omega
      have HIz : Hid (IsInt (.agg #[.bool (g x.1), .string (s x.1)]) (((co L x.1).natAbs : Nat) : Int) k) := Lib.hid (by have := HI.out; rwa [hz] at this)
      have HTm := Lib.hid (fun Z (hb : Below w.heap.size w Z) => term_any _ (co L x.1).natAbs k x.1 Z HIz.out (tab_keep HT.out hb) (Nat.le_trans HX.out (by decide)) (by omega))
      simp only [hu2] at HTm
      have hs1 : (⟨u1.toArray⟩ : ByteArray).size = u1.length := by simp [ByteArray.size]
      have hs2 : (⟨u2.toArray⟩ : ByteArray).size = u2.length := by simp [ByteArray.size]
      clear hd hu1 hu2 hz 
      gi_wp2_with (refine ⟨trivial, ?_⟩; first
        | (gi_at_call 47; (with_reducible refine (CallsIn.inRound l (callsIn_wide.2 (HN.out _))).mono ?_); rintro e Z ⟨rfl, bz⟩; (have S := Lib.hid (S.out.keep bz)); (obtain ⟨x1, x2⟩ := S.out.cellsB); (obtain ⟨y1, y2, y3, y4⟩ := S.out.cellsS))
        | (gi_at_call 51; (with_reducible refine (CallsIn.inRound l (callsIn_wide.2 (HLen.out _ S.out.bld))).mono ?_); rintro e Z ⟨rfl, hW⟩; (rw [hW]); (clear hW))
        | (gi_at_call 50; (with_reducible refine (CallsIn.inRound l (callsIn_wide.2 (HSg.out _))).mono ?_); rintro e Z ⟨rfl, hW⟩; (rw [hW]); (clear hW))
        | (gi_at_call 52; (with_reducible refine (CallsIn.inRound l (callsIn_wide.2 (HTm.out _ S.out.low))).mono ?_); rintro e Z ⟨rfl, bz⟩; (have S := Lib.hid (S.out.keep bz)))
        | (gi_at_call 49; first
          | ((with_reducible refine (CallsIn.inRound l (callsIn_wide.2 (writeString_k w.heap.size w.heap.size (Lib.byteCells t) ⟨u1.toArray⟩ _ S.out.bld (by rw [Lib.byteCells_length, hs1]; omega) S.out.size))).mono ?_); rintro e Z ⟨rfl, hb, hk, ho⟩; (have S := Lib.hid (S.out.write hb hk ho)); (obtain ⟨y1, y2, y3, y4⟩ := S.out.cellsS))
          | ((with_reducible refine (CallsIn.inRound l (callsIn_wide.2 (writeString_k w.heap.size w.heap.size (Lib.byteCells (t ++ u1)) ⟨u2.toArray⟩ _ S.out.bld (by rw [Lib.byteCells_length, List.length_append, hs2]; omega) S.out.size))).mono ?_); rintro e Z ⟨rfl, hb, hk, ho⟩; (have S := Lib.hid (S.out.write hb hk ho)))))
      exact (show KeepsFrom W4.heap.size W _ ∧ Kt w.heap.size (w.heap.size + 1) W _ ∧ _ from ⟨S.out.1.1.1, S.out.1.1.2, by rw [HPW.out]; exact S.out.1.2.1, S.out.2.1, S.out.1.2.2⟩)
  case done =>
    rintro D xs W hD rfl ⟨i1, i4, i5⟩ hK
    obtain ⟨t, ht⟩ : ∃ t, prW (tmx L L.length) = t := ⟨_, rfl⟩
    rw [ht] at i1
    have HLen := Lib.hid (len_any _ _ _ W i1)
    simp only [Lib.byteCells_length] at HLen
    by_cases h0 : t.length = 0
    · have HX := Lib.hid (show prL L = [48] by unfold prL; rw [ht, if_pos h0])
      have hz : ((t.length : Int) == 0) = true := by rw [h0]; rfl
      clear ht h0
      gi_wp2_with (refine ⟨trivial, ?_⟩; gi_at_call 51; (with_reducible refine (callsIn_wide.2 HLen.out).mono ?_); rintro e Z ⟨rfl, hW⟩; (rw [hW]); (clear hW))
      have B10 := below_put i5 D (Nat.le_trans B4.size hD) (.deferred none)
      refine ⟨by simp, .inl ⟨_, _, rfl, run_takeDeferred hK, ?_⟩⟩
      exact ⟨.string ⟨#[48]⟩, by simp [results, Tryz.results18, go_sem], by rw [HX.out], B10⟩
    · have HX := Lib.hid (show prL L = t by unfold prL; rw [ht, if_neg h0])
      have hz : ((t.length : Int) == 0) = false := by rw [beq_eq_false_iff_ne]; omega
      have HSt := Lib.hid (string_k _ _ _ W i1 i5.size)
      clear ht h0
      gi_wp2_with (refine ⟨trivial, ?_⟩; first
        | (gi_at_call 51; (with_reducible refine (callsIn_wide.2 HLen.out).mono ?_); rintro e Z ⟨rfl, hW⟩; (rw [hW]); (clear hW))
        | (gi_at_call 53; (with_reducible refine (callsIn_wide.2 HSt.out).mono ?_); rintro e Z ⟨rfl, bz, oz⟩))
      have hK2 := oz D _ hK (by intro e; injection e with e; have := B4.size; omega) (fun c fz e => by cases e)
      have B10 := below_put (i5.trans bz) D (Nat.le_trans B4.size hD) (.deferred none)
      refine ⟨by simp, .inl ⟨_, _, rfl, run_takeDeferred hK2, ?_⟩⟩
      exact ⟨.string ⟨t.toArray⟩, by simp [results, Tryz.results18, go_sem], by rw [HX.out], B10⟩
  case stop =>
    rintro D cc pre W _ _ h _
    exact h.elim
end Go.Proofs.YtgcogpfmhmmgdaaGreatDoor
