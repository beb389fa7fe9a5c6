/- What polynomial.Print returns: the text of a polynomial. Condition: at most 500 coefficients, each with at most 10^5 digits. What polynomial.Print returns: the text of a polynomial. Condition: at most 500 coefficients, each with at most 10^5 digits. Lists of canonical integers: how the laws make them, and how they are compared. Condition: at most 10^5 of them. -/
import Derived.Test.YtgcogpfmhmmgdaaGreatDoorQ37
import Derived.Test.YtgcogpfmhmmgdaaGreatDoorQ34
import Derived.Test.YtgcogpfmhmmgdaaGreatDoorQ36
import Derived.Maps.AppendAt
import Derived.Deep.QuietTactic
import Derived.BigQuiet

namespace Go.Proofs.YtgcogpfmhmmgdaaGreatDoor
open Go.RowKit Go.Shelf
set_option linter.unusedSimpArgs false
set_option linter.unusedVariables false

/-- The text of a term. -/
def tmW (c e : Nat) : List UInt8 :=
  if e = 0 then prZ (c : Int) else if e = 1 then (if prZ (c : Int) = [49] then [120] else prZ (c : Int) ++ [42, 120]) else (if prZ (c : Int) = [49] then 120 :: 94 :: Lib.decDigits e else prZ (c : Int) ++ 42 :: 120 :: 94 :: Lib.decDigits e)
theorem term_any (v : Value) (c k d : Nat) (w : World) (h : IsInt v (c : Int) k) (htab : Lib.TabIs Tryz.prog w "internal/strconv.uint64pow10" .u64 Lib.pow10Tab) (hl : (prZ (c : Int)).length ≤ 100000000) (hd2 : d ≤ 1000000) :
    Calls Tryz.prog 52 #[v, .int .i64 (d : Int)] w fun e w' => e = .returned (.string ⟨(tmW c d).toArray⟩) ∧ Below w.heap.size w w' := by
  unfold tmW
  rcases (show d = 0 ∨ d = 1 ∨ 1 < d by omega) with rfl | rfl | h1
  · rw [if_pos rfl]; exact term_zero v c k w h htab
  · rw [if_neg (by omega), if_pos rfl]; exact term_one v c k w h htab hl
  · rw [if_neg (by omega), if_neg (by omega)]; exact term_many v c k d w h htab hl h1 hd2
theorem tmW_len {c e : Nat} (h : (prZ (c : Int)).length ≤ 100000) (he : e ≤ 1000000) : (tmW c e).length ≤ 100100 := by
  have h1 : (Lib.decDigits e).length ≤ 20 := by
    have h1 := Lib.decDigits_length e
    have h2 := nDigits_le 20 e (by omega) (by omega)
    omega
  unfold tmW
  split
  · omega
  · split
    · split <;> simp; omega
    · split <;> simp <;> omega
/-- The text of some terms. -/
def prW {L : List Int} (pre : List (Tm L)) : List UInt8 := pre.foldl (fun a x => a ++ sgn1 (decide (a.length = 0)) (decide (co L x.1 < 0)) ++ tmW (co L x.1).natAbs x.1) []
theorem prW_snoc {L : List Int} (pre : List (Tm L)) (x : Tm L) : prW (pre ++ [x]) = prW pre ++ sgn1 (decide ((prW pre).length = 0)) (decide (co L x.1 < 0)) ++ tmW (co L x.1).natAbs x.1 := by
  unfold prW
  rw [List.foldl_append]; rfl
theorem sgn1_len (a b : Bool) : (sgn1 a b).length ≤ 3 := by cases a <;> cases b <;> decide
theorem sgT_eq (neg first : Bool) : sgT neg first = ⟨(sgn1 first neg).toArray⟩ := by cases neg <;> cases first <;> rfl
theorem prW_len {L : List Int} (h : ∀ x : Tm L, (tmW (co L x.1).natAbs x.1).length ≤ 100100) (pre : List (Tm L)) : (prW pre).length ≤ pre.length * 100103 := by
  have key : ∀ (l : List (Tm L)) (a : List UInt8), (l.foldl (fun a x => a ++ sgn1 (decide (a.length = 0)) (decide (co L x.1 < 0)) ++ tmW (co L x.1).natAbs x.1) a).length ≤ a.length + l.length * 100103 := by
    intro l
    induction l with
    | nil => intro a; simp
    | cons x l ih =>
      intro a
      rw [List.foldl_cons]
      refine Nat.le_trans (ih _) ?_
      have h1 := sgn1_len (decide (a.length = 0)) (decide (co L x.1 < 0))
      have h2 := h x
      rw [List.length_append, List.length_append, List.length_cons]
      omega
  have := key pre []
  rw [List.length_nil, Nat.zero_add] at this
  exact this
/-- The text of a polynomial. -/
def prL (L : List Int) : List UInt8 := if (prW (tmx L L.length)).length = 0 then [48] else prW (tmx L L.length)
theorem grown_set2 (w : World) (a : Addr) (v : Value) : w.grownBy (w.setCell a v) (some a.block) :=
  ⟨rfl, rfl, rfl, by rw [World.size_setCell]; exact Nat.le_refl _, fun k hk hne => Below.heap_setCell _ _ _ _ (fun e => hne (by rw [e]))⟩
theorem heap_kept {W W1 : World} {b : Nat} {o : Obj} {row : Option Nat} (h : W.heap[b]? = some o) (hc : o.isCells = true) (hg : W.grownBy W1 row) (hr : ∀ r, row = some r → ∃ o : Obj, W.heap[r]? = some o ∧ o.isCells = false) : W1.heap[b]? = some o :=
  (hg.block b (heap_lt h) (fun e => by
    obtain ⟨o', ho, hc'⟩ := hr b e.symm
    rw [h] at ho
    injection ho with ho
    subst ho
    rw [hc] at hc'; cases hc')).trans h
/-- What a round of the loop over the terms keeps. -/
def PRB (w W : World) (N Bx Sx : Nat) (T : Value) (g gs : Bool) (s ss : ByteArray) (t : List UInt8) (Z : World) : Prop :=
  ((KeepsFrom N W Z ∧ Kt w.heap.size (w.heap.size + 1) W Z) ∧ Bld w.heap.size w.heap.size (Lib.byteCells t) Z ∧ Below w.heap.size w Z) ∧
  Z.heap[w.heap.size + 1]? = some (.cells #[T] 22 (0, 0)) ∧ (w.heap.size + 1 < Bx ∧ Bx ≠ Sx ∧ w.heap.size + 1 < Sx) ∧ Z.heap[Bx]? = some (.cells #[.bool g, .string s] 27 (0, 0)) ∧ Z.heap[Sx]? = some (.cells #[.bool gs, .string ss] 27 (0, 0))
section
variable {w W Z Z' : World} {N Bx Sx : Nat} {T : Value} {g gs : Bool} {s ss : ByteArray} {t : List UInt8}
theorem PRB.keep (h : PRB w W N Bx Sx T g gs s ss t Z) (b : Below Z.heap.size Z Z') : PRB w W N Bx Sx T g gs s ss t Z' := by
  obtain ⟨⟨⟨h1, h2⟩, h3, h4⟩, h5, h6, h7, h8⟩ := h
  exact ⟨⟨⟨h1.trans ((others_of_below b).from _), h2.trans (Kt.of_below b h4.size (heap_lt h5))⟩, bld_below h3 b, below_more h4 (Nat.le_refl _) b⟩, (b.block _ (heap_lt h5)).trans h5, h6, (b.block _ (heap_lt h7)).trans h7, (b.block _ (heap_lt h8)).trans h8⟩
theorem PRB.cellsB (h : PRB w W N Bx Sx T g gs s ss t Z) : Z.cell? ⟨Bx, 0, none⟩ = some (.bool g) ∧ Z.cell? ⟨Bx, 1, none⟩ = some (.string s) := by
  constructor <;> (rw [Lib.cell_of_heap h.2.2.2.1]; rfl)
theorem PRB.cellsS (h : PRB w W N Bx Sx T g gs s ss t Z) : Z.cell? ⟨Sx, 0, none⟩ = some (.bool gs) ∧ Z.cell? ⟨Sx, 1, none⟩ = some (.string ss) ∧ Z.frozen? ⟨Sx, 0, none⟩ = false ∧ Z.frozen? ⟨Sx, 1, none⟩ = false := by
  refine ⟨?_, ?_, Lib.frozen_of_heap h.2.2.2.2 0, Lib.frozen_of_heap h.2.2.2.2 1⟩ <;> (rw [Lib.cell_of_heap h.2.2.2.2]; rfl)
theorem PRB.bld (h : PRB w W N Bx Sx T g gs s ss t Z) : Bld w.heap.size w.heap.size (Lib.byteCells t) Z := h.1.2.1
theorem PRB.low (h : PRB w W N Bx Sx T g gs s ss t Z) : Below w.heap.size w Z := h.1.2.2
theorem PRB.size (h : PRB w W N Bx Sx T g gs s ss t Z) : w.heap.size ≤ Z.heap.size := h.1.2.2.size
theorem heap_set2 {o : Nat} {x y u v : Value} {ty : TypeId} (h : Z.heap[o]? = some (.cells #[x, y] ty (0, 0))) : ((Z.setCell ⟨o, 0, none⟩ u).setCell ⟨o, 1, none⟩ v).heap[o]? = some (.cells #[u, v] ty (0, 0)) := by
  simp [World.setCell, Array.getElem?_modify, h]
theorem heap_far2 {o q : Nat} {u v : Value} (hne : o ≠ q) : ((Z.setCell ⟨q, 0, none⟩ u).setCell ⟨q, 1, none⟩ v).heap[o]? = Z.heap[o]? := by
  rw [Below.heap_setCell _ _ _ _ (by exact hne), Below.heap_setCell _ _ _ _ (by exact hne)]
theorem PRB.setS (h : PRB w W N Bx Sx T g gs s ss t Z) (g' : Bool) (s' : ByteArray) : PRB w W N Bx Sx T g g' s s' t ((Z.setCell ⟨Sx, 0, none⟩ (.bool g')).setCell ⟨Sx, 1, none⟩ (.string s')) := by
  obtain ⟨⟨⟨h1, h2⟩, h3, h4⟩, h5, ⟨h6, h6', h6''⟩, h7, h8⟩ := h
  have hb : Bld w.heap.size w.heap.size (Lib.byteCells t) ((Z.setCell ⟨Sx, 0, none⟩ (.bool g')).setCell ⟨Sx, 1, none⟩ (.string s')) := by
    have key : ∀ p, Lib.BuilderAt 61 5 w.heap.size w.heap.size p (Lib.byteCells t) Z → Lib.BuilderAt 61 5 w.heap.size w.heap.size p (Lib.byteCells t) ((Z.setCell ⟨Sx, 0, none⟩ (.bool g')).setCell ⟨Sx, 1, none⟩ (.string s')) := fun p ⟨hB, v, k1, k2, k3⟩ => by
      refine ⟨hB, v, (heap_far2 (by omega)).trans k1, ?_, k3⟩
      have hv : v.ownBlock ≠ some Sx := by
        rcases k2.2 with ⟨hv, _⟩ | ⟨g, cap, cur, hv, _, hgg, _⟩
        · subst hv; simp [Value.ownBlock]
        · subst hv
          intro e
          simp only [Value.ownBlock, Option.some.injEq] at e
          subst e
          rw [h8] at hgg
          injection hgg with hgg
          injection hgg with _ hgg _
          exact absurd hgg (by decide)
      have g1 := k2.kept (grown_set2 Z ⟨Sx, 0, none⟩ (.bool g')) (Or.inr hv)
      exact g1.kept (grown_set2 _ ⟨Sx, 1, none⟩ (.string s')) (Or.inr hv)
    rcases h3 with h3 | h3
    · exact Or.inl (key _ h3)
    · exact Or.inr (key _ h3)
  have hs : w.heap.size ≤ Sx := by omega
  exact ⟨⟨⟨h1.trans (((KeepsOthers.setCell _ _ _).trans (KeepsOthers.setCell _ _ _)).from _), (h2.set (a := ⟨Sx, 0, none⟩) hs (by dsimp only; omega) _).set (a := ⟨Sx, 1, none⟩) hs (by dsimp only; omega) _⟩, hb, (h4.setCell (p := ⟨Sx, 0, none⟩) hs _).setCell (p := ⟨Sx, 1, none⟩) hs _⟩,
    (heap_far2 (by omega)).trans h5, ⟨h6, h6', h6''⟩, (heap_far2 h6').trans h7, heap_set2 h8⟩
theorem PRB.write (h : PRB w W N Bx Sx T g gs s ss t Z) {u : List UInt8} (hb : BldAt w.heap.size w.heap.size (Lib.byteCells t ++ Lib.strCells ⟨u.toArray⟩) Z') (hk : Below w.heap.size Z Z' ∧ KeepT Z Z') (ho : KeepsOthers Z Z') : PRB w W N Bx Sx T g gs s ss (t ++ u) Z' := by
  obtain ⟨⟨⟨h1, h2⟩, h3, h4⟩, h5, h6, h7, h8⟩ := h
  have k5 := hk.2 _ _ _ _ h5 (by decide) (by decide)
  exact ⟨⟨⟨h1.trans (ho.from _), h2.trans ⟨hk.1, k5.trans h5.symm⟩⟩, by rw [Lib.byteCells_append]; exact Or.inr hb, h4.trans hk.1⟩, k5, h6, hk.2 _ _ _ _ h7 (by decide) (by decide), hk.2 _ _ _ _ h8 (by decide) (by decide)⟩
end
end Go.Proofs.YtgcogpfmhmmgdaaGreatDoor

namespace Go.Proofs.YtgcogpfmhmmgdaaGreatDoor
open Go.RowKit Go.Shelf
attribute [local go_sem] Oper.semAt_some
set_option linter.unusedSimpArgs false
set_option linter.unusedVariables false

set_option maxRecDepth 100000 in
set_option maxHeartbeats 12800000 in
theorem pPrint_any (v1 : Value) (L : List Int) (k : Nat) (w : World) (h1 : PolyAt w v1 L k) (hL : L.length ≤ 500) (hk : k ≤ 1000000) (htab : Lib.TabIs Tryz.prog w "internal/strconv.uint64pow10" .u64 Lib.pow10Tab)
    (hpr : ∀ x : Tm L, (prZ ((co L x.1).natAbs : Int)).length ≤ 100000) :
    Calls Tryz.prog 18 #[v1] w fun e w' => e = .returned (.string ⟨(prL L).toArray⟩) ∧ Below w.heap.size w w' := by
  have H1 := Lib.hid h1
  have HT := Lib.hid htab
  have HPr := Lib.hid hpr
  have HLn := Lib.hid (fun pre => prW_len (L := L) (fun x => tmW_len (hpr x) (by have := x.lt; have := trm_len L; omega)) pre)
  have HTl := Lib.hid (fun x : Tm L => tmW_len (hpr x) (e := x.1) (by have := x.lt; have := trm_len L; omega))
  have HP := Lib.hid h1.pb
  obtain ⟨A, c, g, s, rfl, hcells⟩ := h1.cells
  have HCL := Lib.hid hcells
  clear hcells htab hpr
  refine (callsIn_wide (n := 8)).1 ?_
  refine callsIn_of_wp_marks Tryz.func18 rfl trivial ?_ rfl
  simp only [Tryz.ntmps18, List.size_toArray, List.length_cons, List.length_nil, Nat.reduceAdd, Nat.reduceSub, Array.replicate_succ, Array.replicate_zero, List.push_toArray, List.append_toArray, List.nil_append, List.cons_append]
  gi_wp2_with (refine ⟨trivial, ?_⟩; gi_at_call 46; (with_reducible refine (callsIn_wide.2 (terms_any A L.length c _)).mono ?_); rintro e W3 ⟨rfl, rfl⟩)
  have hfr := Lib.fresh_isBuilder 61 5 w
  have b0 := below1 w (.cells #[.pointer none, .slice none 0 0] 61)
  have b1 := below1 (w.alloc (.cells #[.pointer none, .slice none 0 0] 61)) (.cells #[.slice A L.length c] 22)
  have B4 := below_more b0 (Nat.le_refl _) b1
  have hBl := bld_below hfr b1
  have T4h := heap_alloc_new (w.alloc (.cells #[.pointer none, .slice none 0 0] 61)) (.cells #[.slice A L.length c] 22)
  have T4 := CVar.new (w.alloc (.cells #[.pointer none, .slice none 0 0] 61)) (.slice A L.length c) 22
  rw [World.size_alloc] at T4h T4
  clear hfr b0 b1
  generalize ((w.alloc (.cells #[.pointer none, .slice none 0 0] 61)).alloc (.cells #[.slice A L.length c] 22)) = W4 at *
  have hT := T4.lt
  have C4 := HCL.out.keep B4
  refine wpIn_rangeFunc_ownH rfl (by omega) (gf := 83) (lb := #[.pointer (some ⟨w.heap.size + 1, 0, none⟩)]) rfl trivial (enters_of Tryz.func83 (by kernel_rfl) rfl)
    (terms_stops _ (w.heap.size + 1) w.heap.size c k A L g s W4 (by omega) (by omega) T4 B4.size C4) (fun h h' => h.trans h') (Kt.turn B4.size hT) (Below.refl _ _) (fun _ => rfl)
    (fun pre W => Bld w.heap.size w.heap.size (Lib.byteCells (prW pre)) W ∧ W.heap[w.heap.size + 1]? = some (.cells #[.slice A L.length c] 22 (0, 0)) ∧ Below w.heap.size w W)
    (fun _ _ _ => False)
    (fun pre X Y row hs hg hr => ⟨bld_kept hs.1 hg (fun r e => (hr r e).2), heap_kept hs.2.1 rfl hg (fun r e => (hr r e).2), hs.2.2.grown hg hs.2.2.size (fun r e => Nat.le_trans B4.size (hr r e).1)⟩)
    (fun _ _ _ _ _ hs _ _ => hs)
    ⟨hBl, T4h, B4⟩
    (fun x a' W => ∃ Bx, w.heap.size + 1 < Bx ∧ W.heap[Bx]? = some (.cells #[.bool (g x.1), .string (s x.1)] 27 (0, 0)) ∧ a' = { tmps := #[.slice A L.length c, undef, .string ⟨#[]⟩, .pointer (some ⟨w.heap.size, 0, none⟩), .int .i64 (x.1 : Int), .pointer (some ⟨Bx, 0, none⟩), undef, .slice A L.length c, .func (.func 83) #[] #[.pointer (some ⟨w.heap.size + 1, 0, none⟩)], .int .i64 (x.1 : Int), .agg #[.bool (g x.1), .string (s x.1)], undef, undef, undef, undef, undef, undef, undef, undef, undef, undef, undef, undef, undef, undef, undef, undef, undef, undef], defers := [] })
    (fun x a' _ X Y row hs hg hr => by
      obtain ⟨Bx, h1, h2, h3⟩ := hs
      exact ⟨Bx, h1, heap_kept h2 rfl hg (fun r e => (hr r e).2), h3⟩)
    ?assign ?body ?done ?stop
  case assign =>
    rintro l pre x W K ⟨i1, i4, i5⟩ hK
    have hKK := Lib.hid hK
    clear hK
    gi_wp2
    exact hKK.out _ _ ((KeepsOthers.alloc _ _).from _) (Kt.of_below (below1 W _) i5.size (heap_lt i4)) ⟨bld_below i1 (below1 W _), ((below1 W _).block _ (heap_lt i4)).trans i4, below_more i5 (Nat.le_refl _) (below1 W _)⟩ ⟨W.heap.size, heap_lt i4, heap_alloc_new W _, rfl⟩
  case body =>
    rintro l pre x a' W hl ⟨r, hr⟩ ⟨i1, i4, i5⟩ ⟨Bx, hBx, bX, rfl⟩ hlt
    have hxL : x.1 < L.length := by have := trm_len L; have := x.lt; omega
    obtain ⟨-, -, -, -, -, hI⟩ := HCL.out x.1 hxL
    have HI := Lib.hid hI
    have hpl : pre.length ≤ 500 := by omega
    have htl := HLn.out pre
    have htx := HTl.out x
    have HX := Lib.hid (HPr.out x)
    have S := Lib.hid (show PRB w W W4.heap.size Bx W.heap.size (.slice A L.length c) (g x.1) (g x.1) (s x.1) (s x.1) (prW pre) (W.alloc (.cells #[.bool (g x.1), .string (s x.1)] 27)) from
      ⟨⟨⟨(KeepsOthers.alloc _ _).from _, Kt.of_below (below1 W _) i5.size (heap_lt i4)⟩, bld_below i1 (below1 W _), below_more i5 (Nat.le_refl _) (below1 W _)⟩, ((below1 W _).block _ (heap_lt i4)).trans i4, ⟨hBx, Nat.ne_of_lt (heap_lt bX), heap_lt i4⟩, ((below1 W _).block _ (heap_lt bX)).trans bX, heap_alloc_new W _⟩)
    have x0 : W.cell? ⟨Bx, 0, none⟩ = some (.bool (g x.1)) ∧ W.cell? ⟨Bx, 1, none⟩ = some (.string (s x.1)) := by constructor <;> (rw [Lib.cell_of_heap bX]; rfl)
    obtain ⟨x8, x9⟩ := x0
    obtain ⟨x1, x2⟩ := S.out.cellsB
    obtain ⟨t, ht⟩ : ∃ t, prW pre = t := ⟨_, rfl⟩
    obtain ⟨first, hf⟩ : ∃ first, decide (t.length = 0) = first := ⟨_, rfl⟩
    have hf2 : ((t.length : Int) == 0) = first := by
      rw [← hf]
      rcases Nat.eq_zero_or_pos t.length with h | h
      · rw [h]; rfl
      · rw [decide_eq_false (by omega), beq_eq_false_iff_ne]; omega
    obtain ⟨u2, hu2⟩ : ∃ u2, tmW (co L x.1).natAbs x.1 = u2 := ⟨_, rfl⟩
    have HPW := Lib.hid (prW_snoc pre x)
    rw [ht, hu2] at HPW
    rw [hf] at HPW
    rw [ht] at S htl
    rw [hu2] at htx
    have HLen := Lib.hid (fun Z (hB : Bld w.heap.size w.heap.size (Lib.byteCells t) Z) => len_any _ _ _ Z hB)
    simp only [Lib.byteCells_length] at HLen
    clear ht hf i1 i4 i5 bX hr hI
    have hts : t.length ≤ 60000000 := by omega
    by_cases hneg : co L x.1 < 0
    · have hd : decide (co L x.1 < 0) = true := decide_eq_true hneg
      rw [hd] at HPW
      obtain ⟨u1, hu1⟩ : ∃ u1, sgn1 first true = u1 := ⟨_, rfl⟩
      have hu1l : u1.length ≤ 3 := by rw [← hu1]; exact sgn1_len _ _
      have HSg : Hid (∀ Z, Calls Tryz.prog 50 #[.bool true, .bool first] Z fun e w' => e = .returned (.string ⟨u1.toArray⟩) ∧ w' = Z) := Lib.hid (fun Z => by
        have := sign_any true first Z
        rw [sgT_eq, hu1] at this
        exact this)
      rw [hu1] at HPW
      have HN := Lib.hid (fun Z => isneg_any _ (co L x.1) k Z HI.out)
      simp only [hd] at HN
      have hz : -(co L x.1) = (((co L x.1).natAbs : Nat) : Int) := by omega
      obtain ⟨z, hzz⟩ : ∃ z : Int, (((co L x.1).natAbs : Nat) : Int) = z := ⟨_, rfl⟩
      have HNg := Lib.hid (fun Z => ineg_eq (w := Z) HI.out (hz.trans hzz))
      have HIz : Hid (IsInt (.agg #[.bool (sg z), .string (mg z)]) (((co L x.1).natAbs : Nat) : Int) k) := Lib.hid (by rw [hzz]; exact isInt_mg (by rw [← hzz, Int.natAbs_natCast]; exact HP.out x.1) (by omega))
      have HTm := Lib.hid (fun Z (hb : Below w.heap.size w Z) => term_any _ (co L x.1).natAbs k x.1 Z HIz.out (tab_keep HT.out hb) (Nat.le_trans HX.out (by decide)) (by omega))
      simp only [hu2] at HTm
      have hs1 : (⟨u1.toArray⟩ : ByteArray).size = u1.length := by simp [ByteArray.size]
      have hs2 : (⟨u2.toArray⟩ : ByteArray).size = u2.length := by simp [ByteArray.size]
      clear hd hu1 hu2 hz hzz
      gi_wp2_with (refine ⟨trivial, ?_⟩; first
        | (gi_at_call 47; (with_reducible refine (CallsIn.inRound l (callsIn_wide.2 (HN.out _))).mono ?_); rintro e Z ⟨rfl, bz⟩; (have S := Lib.hid (S.out.keep bz)); (obtain ⟨x1, x2⟩ := S.out.cellsB); (obtain ⟨y1, y2, y3, y4⟩ := S.out.cellsS))
        | (gi_at_call 48; (with_reducible refine (CallsIn.inRound l (callsIn_wide.2 (HNg.out _))).mono ?_); rintro e Z ⟨rfl, bz⟩; (have S := Lib.hid (S.out.keep bz)); (obtain ⟨y1, y2, y3, y4⟩ := S.out.cellsS); (have S := Lib.hid (S.out.setS (sg z) (mg z))); (obtain ⟨x1, x2⟩ := S.out.cellsB))
        | (gi_at_call 51; (with_reducible refine (CallsIn.inRound l (callsIn_wide.2 (HLen.out _ S.out.bld))).mono ?_); rintro e Z ⟨rfl, hW⟩; (rw [hW]); (clear hW))
        | (gi_at_call 50; (with_reducible refine (CallsIn.inRound l (callsIn_wide.2 (HSg.out _))).mono ?_); rintro e Z ⟨rfl, hW⟩; (rw [hW]); (clear hW))
        | (gi_at_call 52; (with_reducible refine (CallsIn.inRound l (callsIn_wide.2 (HTm.out _ S.out.low))).mono ?_); rintro e Z ⟨rfl, bz⟩; (have S := Lib.hid (S.out.keep bz)))
        | (gi_at_call 49; first
          | ((with_reducible refine (CallsIn.inRound l (callsIn_wide.2 (writeString_k w.heap.size w.heap.size (Lib.byteCells t) ⟨u1.toArray⟩ _ S.out.bld (by rw [Lib.byteCells_length, hs1]; omega) S.out.size))).mono ?_); rintro e Z ⟨rfl, hb, hk, ho⟩; (have S := Lib.hid (S.out.write hb hk ho)); (obtain ⟨y1, y2, y3, y4⟩ := S.out.cellsS))
          | ((with_reducible refine (CallsIn.inRound l (callsIn_wide.2 (writeString_k w.heap.size w.heap.size (Lib.byteCells (t ++ u1)) ⟨u2.toArray⟩ _ S.out.bld (by rw [Lib.byteCells_length, List.length_append, hs2]; omega) S.out.size))).mono ?_); rintro e Z ⟨rfl, hb, hk, ho⟩; (have S := Lib.hid (S.out.write hb hk ho)))))
      exact (show KeepsFrom W4.heap.size W _ ∧ Kt w.heap.size (w.heap.size + 1) W _ ∧ _ from ⟨S.out.1.1.1, S.out.1.1.2, by rw [HPW.out]; exact S.out.1.2.1, S.out.2.1, S.out.1.2.2⟩)
    · have hd : decide (co L x.1 < 0) = false := decide_eq_false hneg
      rw [hd] at HPW
      obtain ⟨u1, hu1⟩ : ∃ u1, sgn1 first false = u1 := ⟨_, rfl⟩
      have hu1l : u1.length ≤ 3 := by rw [← hu1]; exact sgn1_len _ _
      have HSg : Hid (∀ Z, Calls Tryz.prog 50 #[.bool false, .bool first] Z fun e w' => e = .returned (.string ⟨u1.toArray⟩) ∧ w' = Z) := Lib.hid (fun Z => by
        have := sign_any false first Z
        rw [sgT_eq, hu1] at this
        exact this)
      rw [hu1] at HPW
      have HN := Lib.hid (fun Z => isneg_any _ (co L x.1) k Z HI.out)
      simp only [hd] at HN
      have hz : co L x.1 = (((co L x.1).natAbs : Nat) : Int) := by omega
      have HIz : Hid (IsInt (.agg #[.bool (g x.1), .string (s x.1)]) (((co L x.1).natAbs : Nat) : Int) k) := Lib.hid (by have := HI.out; rwa [hz] at this)
      have HTm := Lib.hid (fun Z (hb : Below w.heap.size w Z) => term_any _ (co L x.1).natAbs k x.1 Z HIz.out (tab_keep HT.out hb) (Nat.le_trans HX.out (by decide)) (by omega))
      simp only [hu2] at HTm
      have hs1 : (⟨u1.toArray⟩ : ByteArray).size = u1.length := by simp [ByteArray.size]
      have hs2 : (⟨u2.toArray⟩ : ByteArray).size = u2.length := by simp [ByteArray.size]
      clear hd hu1 hu2 hz 
      gi_wp2_with (refine ⟨trivial, ?_⟩; first
        | (gi_at_call 47; (with_reducible refine (CallsIn.inRound l (callsIn_wide.2 (HN.out _))).mono ?_); rintro e Z ⟨rfl, bz⟩; (have S := Lib.hid (S.out.keep bz)); (obtain ⟨x1, x2⟩ := S.out.cellsB); (obtain ⟨y1, y2, y3, y4⟩ := S.out.cellsS))
        | (gi_at_call 51; (with_reducible refine (CallsIn.inRound l (callsIn_wide.2 (HLen.out _ S.out.bld))).mono ?_); rintro e Z ⟨rfl, hW⟩; (rw [hW]); (clear hW))
        | (gi_at_call 50; (with_reducible refine (CallsIn.inRound l (callsIn_wide.2 (HSg.out _))).mono ?_); rintro e Z ⟨rfl, hW⟩; (rw [hW]); (clear hW))
        | (gi_at_call 52; (with_reducible refine (CallsIn.inRound l (callsIn_wide.2 (HTm.out _ S.out.low))).mono ?_); rintro e Z ⟨rfl, bz⟩; (have S := Lib.hid (S.out.keep bz)))
        | (gi_at_call 49; first
          | ((with_reducible refine (CallsIn.inRound l (callsIn_wide.2 (writeString_k w.heap.size w.heap.size (Lib.byteCells t) ⟨u1.toArray⟩ _ S.out.bld (by rw [Lib.byteCells_length, hs1]; omega) S.out.size))).mono ?_); rintro e Z ⟨rfl, hb, hk, ho⟩; (have S := Lib.hid (S.out.write hb hk ho)); (obtain ⟨y1, y2, y3, y4⟩ := S.out.cellsS))
          | ((with_reducible refine (CallsIn.inRound l (callsIn_wide.2 (writeString_k w.heap.size w.heap.size (Lib.byteCells (t ++ u1)) ⟨u2.toArray⟩ _ S.out.bld (by rw [Lib.byteCells_length, List.length_append, hs2]; omega) S.out.size))).mono ?_); rintro e Z ⟨rfl, hb, hk, ho⟩; (have S := Lib.hid (S.out.write hb hk ho)))))
      exact (show KeepsFrom W4.heap.size W _ ∧ Kt w.heap.size (w.heap.size + 1) W _ ∧ _ from ⟨S.out.1.1.1, S.out.1.1.2, by rw [HPW.out]; exact S.out.1.2.1, S.out.2.1, S.out.1.2.2⟩)
  case done =>
    rintro D xs W hD rfl ⟨i1, i4, i5⟩ hK
    obtain ⟨t, ht⟩ : ∃ t, prW (tmx L L.length) = t := ⟨_, rfl⟩
    rw [ht] at i1
    have HLen := Lib.hid (len_any _ _ _ W i1)
    simp only [Lib.byteCells_length] at HLen
    by_cases h0 : t.length = 0
    · have HX := Lib.hid (show prL L = [48] by unfold prL; rw [ht, if_pos h0])
      have hz : ((t.length : Int) == 0) = true := by rw [h0]; rfl
      clear ht h0
      gi_wp2_with (refine ⟨trivial, ?_⟩; gi_at_call 51; (with_reducible refine (callsIn_wide.2 HLen.out).mono ?_); rintro e Z ⟨rfl, hW⟩; (rw [hW]); (clear hW))
      have B10 := below_put i5 D (Nat.le_trans B4.size hD) (.deferred none)
      refine ⟨by simp, .inl ⟨_, _, rfl, run_takeDeferred hK, ?_⟩⟩
      exact ⟨.string ⟨#[48]⟩, by simp [results, Tryz.results18, go_sem], by rw [HX.out], B10⟩
    · have HX := Lib.hid (show prL L = t by unfold prL; rw [ht, if_neg h0])
      have hz : ((t.length : Int) == 0) = false := by rw [beq_eq_false_iff_ne]; omega
      have HSt := Lib.hid (string_k _ _ _ W i1 i5.size)
      clear ht h0
      gi_wp2_with (refine ⟨trivial, ?_⟩; first
        | (gi_at_call 51; (with_reducible refine (callsIn_wide.2 HLen.out).mono ?_); rintro e Z ⟨rfl, hW⟩; (rw [hW]); (clear hW))
        | (gi_at_call 53; (with_reducible refine (callsIn_wide.2 HSt.out).mono ?_); rintro e Z ⟨rfl, bz, oz⟩))
      have hK2 := oz D _ hK (by intro e; injection e with e; have := B4.size; omega) (fun c fz e => by cases e)
      have B10 := below_put (i5.trans bz) D (Nat.le_trans B4.size hD) (.deferred none)
      refine ⟨by simp, .inl ⟨_, _, rfl, run_takeDeferred hK2, ?_⟩⟩
      exact ⟨.string ⟨t.toArray⟩, by simp [results, Tryz.results18, go_sem], by rw [HX.out], B10⟩
  case stop =>
    rintro D cc pre W _ _ h _
    exact h.elim
end Go.Proofs.YtgcogpfmhmmgdaaGreatDoor

namespace Go.Proofs.YtgcogpfmhmmgdaaGreatDoor
open Go.RowKit Go.Shelf
set_option linter.unusedSimpArgs false
set_option linter.unusedVariables false

/-- A list of canonical integers that can be read in memory. -/
def PolyS (W : World) (v : Value) (L : List Int) : Prop :=
  ∃ (A : Option Addr) (c : Nat), v = .slice A L.length c ∧ L.length ≤ c ∧ ∀ i, i < L.length → ∃ b, A = some ⟨b, 0, none⟩ ∧ W.cell? ⟨b, i * 2, none⟩ = some (.bool (sg (co L i))) ∧ W.cell? ⟨b, i * 2 + 1, none⟩ = some (.string (mg (co L i)))
theorem PolyS.keep {W W1 : World} {v : Value} {L : List Int} (h : PolyS W v L) (hb : Below W.heap.size W W1) : PolyS W1 v L := by
  obtain ⟨A, c, h1, h2, h3⟩ := h
  refine ⟨A, c, h1, h2, fun i hi => ?_⟩
  obtain ⟨b, k1, k2, k3⟩ := h3 i hi
  exact ⟨b, k1, cell_keep k2 hb, cell_keep k3 hb⟩
theorem PolyC.polyS {W : World} {base : Nat} {v : Value} {L : List Int} (h : PolyC W base v L) : PolyS W v L := by
  rcases h with ⟨rfl, rfl⟩ | ⟨b, n, c, rfl, h1, h2, h3, g, s, h4, h5⟩
  · exact ⟨none, 0, rfl, Nat.le_refl _, fun i hi => absurd hi (Nat.not_lt_zero _)⟩
  · refine ⟨_, c, rfl, h2, fun i hi => ⟨b, rfl, ?_⟩⟩
    obtain ⟨k1, k2, -⟩ := h4.cell (i := i) (by omega)
    obtain ⟨e1, e2⟩ := h5 i hi
    rw [e1] at k1
    rw [e2] at k2
    exact ⟨k1, k2⟩
theorem PolyS.at {W : World} {v : Value} {L : List Int} {k : Nat} (h : PolyS W v L) (hk : k ≤ 10000000) (hb : PB L k) : PolyAt W v L k := by
  obtain ⟨A, c, h1, h2, h3⟩ := h
  refine ⟨A, c, fun i => sg (co L i), fun i => mg (co L i), h1, h2, fun i hi => ?_⟩
  obtain ⟨b, k1, k2, k3⟩ := h3 i hi
  have e : (⟨b, 0, none⟩ : Addr).add (i * 2) = ⟨b, i * 2, none⟩ := by unfold Addr.add; split <;> simp_all
  exact ⟨⟨b, 0, none⟩, k1, by rw [e]; exact k2, by rw [e]; exact k3, isInt_mg (hb i) hk⟩
/-- The cells of a list. -/
def pcl (L : List Int) : List Value := L.flatMap fun z => [.bool (sg z), .string (mg z)]
theorem pcl_snoc (L : List Int) (z : Int) : pcl (L ++ [z]) = pcl L ++ [.bool (sg z), .string (mg z)] := by unfold pcl; rw [List.flatMap_append]; rfl
theorem pcl_at (L : List Int) : ∀ i, i < L.length → (pcl L)[i * 2]? = some (.bool (sg (co L i))) ∧ (pcl L)[i * 2 + 1]? = some (.string (mg (co L i))) := by
  induction L with
  | nil => intro i hi; exact absurd hi (Nat.not_lt_zero _)
  | cons x L ih =>
    intro i hi
    cases i with
    | zero => exact ⟨rfl, rfl⟩
    | succ i =>
      have := ih i (by simpa using hi)
      rw [co_consS, show (i + 1) * 2 = i * 2 + 1 + 1 by omega]
      exact this
theorem own_polyS {W : World} {B : Nat} {v : Value} {L : List Int} (h : W.ownsRow B 27 2 v L.length (pcl L)) : PolyS W v L := by
  rcases Nat.eq_zero_or_pos L.length with h0 | h0
  · have := List.eq_nil_of_length_eq_zero h0
    subst this
    rcases h.2 with ⟨h1, h2⟩ | ⟨g, cap, cur, h1, _⟩
    · exact ⟨none, 0, by rw [h1]; rfl, Nat.le_refl _, fun i hi => absurd hi (Nat.not_lt_zero _)⟩
    · exact ⟨_, cap, h1, Nat.zero_le _, fun i hi => absurd hi (Nat.not_lt_zero _)⟩
  · rcases h.2 with ⟨_, h2⟩ | ⟨g, cap, cur, rfl, h3, h4, h5, _⟩
    · omega
    · refine ⟨_, cap, rfl, by omega, fun i hi => ⟨g, rfl, ?_⟩⟩
      obtain ⟨k1, k2⟩ := pcl_at L i hi
      exact ⟨(h.cellAt (i * 2) (by omega)).trans k1, (h.cellAt (i * 2 + 1) (by omega)).trans k2⟩
theorem cell_two_new (w : World) (x y : Value) (t : TypeId) : ∀ j u, [x, y][j]? = some u → (w.alloc (.cells #[x, y] t)).cell? ((⟨w.heap.size, 0, none⟩ : Addr).add j) = some u := by
  intro j u hj
  match j, hj with
  | 0, hj =>
    simp at hj
    subst hj
    simp [Addr.add]
  | 1, hj =>
    simp at hj
    subst hj
    simp [Addr.add]
theorem own_sliceQ {W : World} {B t k n : Nat} {v : Value} {xs : List Value} (h : W.ownsRow B t k v n xs) : ∃ a c, v = .slice a n c := by
  rcases h.2 with ⟨h1, h2⟩ | ⟨g, cap, cur, h1, _⟩
  · exact ⟨none, 0, by rw [h1, h2]⟩
  · exact ⟨_, _, h1⟩
theorem grown_noneQ {w w' : World} (h : Below w.heap.size w w') : w.grownBy w' none := ⟨h.os, h.tape, h.output, h.size, fun k hk _ => h.block k hk⟩
set_option maxRecDepth 100000 in
set_option maxHeartbeats 3200000 in
theorem of_any (b n c : Nat) (L : List Int) (w : World) (hn : L.length = n) (hL : n ≤ 1000) (hb : ∀ i, i < n → -9223372036854775808 ≤ co L i ∧ co L i ≤ 9223372036854775807)
    (hc : ∀ i, i < n → w.cell? ⟨b, i, none⟩ = some (.int .i64 (co L i))) :
    Calls Tryz.prog 30 #[.slice (some ⟨b, 0, none⟩) n c] w fun e w' => ∃ v, e = .returned v ∧ PolyS w' v L ∧ Below w.heap.size w w' := by
  obtain ⟨i0, hi, hz0, hz1, hz2⟩ := info_parts infoI
  have HC := Lib.hid hc
  have HB := Lib.hid hb
  clear hc hb
  go_enter Tryz.func30, Tryz.ntmps30
  go_wp2_with fail
  go_loopg [3, 8] n (fun q s3 s8 wx => ∃ i : Nat, i + q = n ∧ s8 = .int .i64 (i : Int) ∧ (∃ a c, s3 = .slice a i c) ∧ wx.ownsRow w.heap.size 27 2 s3 i (pcl (L.take i)) ∧ Below w.heap.size w wx)
  case atStart => exact ⟨0, by omega, rfl, ⟨none, 0, rfl⟩, World.ownsRow_nil _ _ _ _, Below.refl _ _⟩
  case round =>
    obtain ⟨i, hin, rfl, ⟨a, c3, rfl⟩, hown, hbw⟩ := hrel
    rcases gk with _ | q
    · obtain rfl : i = n := by omega
      have hP := Lib.hid (show PolyS wr (.slice a i c3) L from own_polyS (B := w.heap.size) (by rw [hn]; rw [← hn, List.take_length] at hown; rw [hn] at hown; exact hown))
      clear hown
      go_wp2
      go_ret
      exact ⟨_, rfl, hP.out, hbw⟩
    · have hcell := cell_keep (HC.out i (by omega)) hbw
      obtain ⟨b1, b2⟩ := HB.out i (by omega)
      have hsn := Lib.hid (show L.take (i + 1) = L.take i ++ [co L i] by rw [List.take_add_one, co_get (by omega)]; rfl)
      obtain ⟨z, hz⟩ : ∃ z, co L i = z := ⟨_, rfl⟩
      rw [hz] at hcell b1 b2 hsn
      have HO := Lib.hid (fun W => iof_any z W b1 b2)
      have hlt := hown.lt
      clear hz
      go_wp2_with (first
        | (go_at_call 43; (with_reducible refine (HO.out _).mono ?_); rintro e W1 ⟨rfl, b1'⟩; (have hown1 := hown.kept (grown_noneQ b1') (by cases (Value.slice a i c3).ownBlock <;> simp)); (have hlt1 := hown1.lt); (have hbw1 := below_more hbw (Nat.le_refl _) b1'); (have hbs := hbw1.size))
        | (at_builtin; refine wpList_append_own_at _ rfl _ _ 22 rfl w.heap.size 27 i0 (.agg #[.bool false, .string ⟨#[]⟩]) 2 24 Tryz.underlying22 hi hz0 hz1 hz2 rfl (by decide) _ _ _ rfl (hown1.alloc _) ⟨W1.heap.size, 0, none⟩ 1 1 [.bool (sg z), .string (mg z)] rfl rfl ?c1 ?c2 ?c3 ?c4 ?c5 ?_))
      case c1 => exact cell_two_new _ _ _ _
      case c2 => intro u hu; simp at hu; rcases hu with rfl | rfl <;> rfl
      case c3 => unfold maxLen; omega
      case c4 => omega
      case c5 => rw [World.size_alloc]; omega
      intro v' W2 hown2 hgrow _ hv'
      have hb2 : Below w.heap.size w W2 := (hbw1.alloc hbs _).grown hgrow (by rw [World.size_alloc]; omega) (fun k hk => (hlt1 k hk).1)
      rw [← pcl_snoc, ← hsn.out] at hown2
      obtain ⟨a', c', rfl⟩ := own_sliceQ hown2
      clear hown hown1 hgrow hlt hlt1 hv' hbw hbw1
      go_wp2
      go_roundg q
      case measure => omega
      case rel => exact ⟨i + 1, by omega, rfl, ⟨a', c', rfl⟩, hown2, hb2⟩
end Go.Proofs.YtgcogpfmhmmgdaaGreatDoor
