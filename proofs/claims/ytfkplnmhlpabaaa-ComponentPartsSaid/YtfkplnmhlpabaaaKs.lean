/- What groovelaw10.closed returns: for each length whether a closed path has it. Conditions: at most 64 states, edges between states. -/
import Derived.Test.YtfkplnmhlpabaaaKn
import Derived.Test.YtfkplnmhlpabaaaKr
namespace Go.Proofs.Ytfkplnmhlpabaaa
open Go.RowKit Go.Shelf
set_option linter.unusedSimpArgs false
set_option linter.unusedVariables false

/-- Where paths of a number of edges from s end. -/
def exF (es : List E3) (s : Nat) : Nat → Nat → Bool
  | 0 => fun t => decide (t = s)
  | k + 1 => fun t => es.any fun e => exF es s k e.1.toNat && decide (e.2.2 = (t : Int))
theorem exF_iff {L : Int} {n : Nat} {es : List E3} (h : ∀ e ∈ es, okE L (n : Int) e = true) {s : Nat} : ∀ {k t : Nat}, exF es s k t = true ↔ Pth es (s : Int) k (t : Int)
  | 0, t => by
    unfold exF
    rw [decide_eq_true_iff]
    constructor
    · rintro rfl; exact .nil
    · intro hp
      generalize hx : (t : Int) = x at hp
      cases hp with
      | nil => omega
  | k + 1, t => by
    unfold exF
    rw [List.any_eq_true]
    constructor
    · rintro ⟨e, he, h1⟩
      rw [Bool.and_eq_true, decide_eq_true_iff] at h1
      obtain ⟨a1, a2, a3, a4⟩ := okE_st (h e he)
      rw [← h1.2]
      exact .step (by rw [a3]; exact (exF_iff h).1 h1.1) he
    · intro hp
      generalize hx : (t : Int) = x at hp
      cases hp with
      | step h1 he =>
        obtain ⟨a1, a2, a3, a4⟩ := okE_st (h _ he)
        refine ⟨_, he, ?_⟩
        rw [Bool.and_eq_true, decide_eq_true_iff]
        exact ⟨(exF_iff h).2 (by rw [← a3]; exact h1), rfl⟩
def nxF (f : Nat → Bool) (P : List E3) (t : Nat) : Bool := P.any fun e => f e.1.toNat && decide (e.2.2 = (t : Int))
theorem nxF_snoc (f : Nat → Bool) (P : List E3) (e : E3) (t : Nat) : nxF f (P ++ [e]) t = (nxF f P t || (f e.1.toNat && decide (e.2.2 = (t : Int)))) := by
  unfold nxF; rw [List.any_append]; simp
def boolz (l : List Bool) : List Value := l.map Value.bool
theorem boolz_snoc (l : List Bool) (x : Bool) : boolz (l ++ [x]) = boolz l ++ [.bool x] := by unfold boolz; rw [List.map_append]; rfl
def BoolsAt (W : World) (B : Nat) (v : Value) (l : List Bool) : Prop := W.ownsRow B 4 1 v l.length (boolz l)
theorem BoolsAt.keep {W W' : World} {B : Nat} {v : Value} {l : List Bool} (h : BoolsAt W B v l) (hb : Below W.heap.size W W') : BoolsAt W' B v l := World.ownsRow.kept h (grown_none hb) (by cases v.ownBlock <;> simp)
theorem BoolsAt.cell {W : World} {B g c i : Nat} {x : Bool} {l : List Bool} (h : BoolsAt W B (.slice (some ⟨g, 0, none⟩) l.length c) l) (hx : l[i]? = some x) : W.cell? ⟨g, i, none⟩ = some (.bool x) := by
  have hi : i < l.length := (List.getElem?_eq_some_iff.1 hx).1
  rw [World.ownsRow.cellAt h i (by omega)]
  unfold boolz
  rw [List.getElem?_map, hx]; rfl
/-- Between two statements of closed's loops: the row of marks (block A), the list so far. -/
structure CB1 (w : World) (La : Int) (n : Nat) (v : Value) (A : Nat) (f : Nat → Bool) (u : Value) (l : List Bool) (X : World) : Prop where
  g : BoxG X w.heap.size La (n : Int) v
  b : Below w.heap.size w X
  r : BRow X A n f
  o : BoolsAt X (w.heap.size + 1) u l
  ne : u.ownBlock ≠ some A
  lo : w.heap.size < A
structure CB2 (w : World) (La : Int) (n : Nat) (v : Value) (A A2 : Nat) (f f2 : Nat → Bool) (u : Value) (l : List Bool) (X : World) : Prop where
  c : CB1 w La n v A f u l X
  r2 : BRow X A2 n f2
  ne2 : u.ownBlock ≠ some A2
  n2 : A ≠ A2
  lo2 : w.heap.size < A2
section
variable {w X Y : World} {La : Int} {n A A2 : Nat} {v u : Value} {f f2 f3 : Nat → Bool} {l : List Bool}
theorem CB1.keep (h : CB1 w La n v A f u l X) (hb : Below X.heap.size X Y) : CB1 w La n v A f u l Y := ⟨h.g.keep hb, below_more h.b (Nat.le_refl _) hb, h.r.keep hb, h.o.keep hb, h.ne, h.lo⟩
theorem CB2.keep (h : CB2 w La n v A A2 f f2 u l X) (hb : Below X.heap.size X Y) : CB2 w La n v A A2 f f2 u l Y := ⟨h.c.keep hb, h.r2.keep hb, h.ne2, h.n2, h.lo2⟩
theorem CB2.congr (h : CB2 w La n v A A2 f f2 u l X) (e : ∀ i, i < n → f2 i = f3 i) : CB2 w La n v A A2 f f3 u l X := { h with r2 := h.r2.congr e }
theorem CB1.made (h : CB1 w La n v A f u l X) : CB2 w La n v A X.heap.size f (fun _ => false) u l (X.alloc (.cells (madeCells #[.bool false] n) 4)) := by
  have hA := World.rowIs.lt h.r
  have hb := h.b.size
  refine ⟨h.keep (below1 X _), BRow.made X n, fun e => ?_, by omega, ?_⟩
  · have := (h.o.lt X.heap.size e).2; omega
  · have := h.lo; omega
theorem CB2.set (h : CB2 w La n v A A2 f f2 u l X) (t : Nat) (x : Bool) : CB2 w La n v A A2 f (fun j => if j = t then x else f2 j) u l (X.setCell ⟨A2, t, none⟩ (.bool x)) := by
  have hg := gb_set X A2 t (.bool x)
  refine ⟨⟨?_, h.c.b.setCell (by show _ ≤ A2; have := h.lo2; omega) _, h.c.r.other (by exact h.n2) _, World.ownsRow.kept h.c.o hg (.inr h.ne2), h.c.ne, h.c.lo⟩, h.r2.set t x, h.ne2, h.n2, h.lo2⟩
  exact boxG_other h.c.g (by show A2 ≠ _; have := h.lo2; omega) _
/-- The marks of the next length take the place of the last ones. -/
theorem CB2.next (h : CB2 w La n v A A2 f f2 u l X) : CB1 w La n v A2 f2 u l X := ⟨h.c.g, h.c.b, h.r2, h.c.o, h.ne2, h.lo2⟩
theorem CB1.app (h : CB1 w La n v A f u l X) {o : Obj} {u' : Value} {x : Bool} (hg : (X.alloc o).grownBy Y u.ownBlock) (ho : Y.ownsRow (w.heap.size + 1) 4 1 u' (l.length + 1) (boolz l ++ [.bool x])) (hv : u'.ownBlock = u.ownBlock ∨ u'.ownBlock = some (X.heap.size + 1)) : CB1 w La n v A f u' (l ++ [x]) Y := by
  have hlt := h.o.lt
  have hA := World.rowIs.lt h.r
  have k := below1 X o
  have hblk : ∀ q, q < X.heap.size → u.ownBlock ≠ some q → Y.heap[q]? = X.heap[q]? := fun q hq hne => (hg.block q (by rw [World.size_alloc]; omega) (fun e => hne e.symm)).trans (Below.heap_alloc _ _ _ hq)
  have hw : w.heap.size < X.heap.size := World.block_lt_of_cell? _ ⟨w.heap.size, 0, none⟩ h.g.1
  have hwne : u.ownBlock ≠ some w.heap.size := fun e => by have := (hlt _ e).1; omega
  refine ⟨?_, Below.grown (h.b.alloc h.b.size o) hg (by rw [World.size_alloc]; omega) (fun q e => by have := (hlt q e).1; omega), World.rowIs.of_block h.r (hblk A hA h.ne), ?_, ?_, h.lo⟩
  · have e := hblk w.heap.size hw hwne
    exact ⟨(World.cell?_of_block (a := ⟨w.heap.size, 0, none⟩) e).trans h.g.1, (World.cell?_of_block (a := ⟨w.heap.size, 1, none⟩) e).trans h.g.2.1, (World.cell?_of_block (a := ⟨w.heap.size, 2, none⟩) e).trans h.g.2.2⟩
  · unfold BoolsAt; rw [boolz_snoc, List.length_append]; exact ho
  · rcases hv with hv | hv
    · rw [hv]; exact h.ne
    · rw [hv]; intro e; injection e with e; omega
end
theorem boolsLit (W : World) (x : Bool) : BoolsAt (W.alloc (.cells #[.bool x] 4)) W.heap.size (.slice (some ⟨W.heap.size, 0, none⟩) 1 1) [x] :=
  ⟨rfl, .inr ⟨W.heap.size, 1, #[.bool x], rfl, Nat.le_refl _, World.alloc_heap_new W _, Nat.le_refl 1, by decide, rfl, rfl⟩⟩
set_option maxRecDepth 100000 in
set_option maxHeartbeats 6400000 in
theorem closed_any (La : Int) (n : Nat) (es : List E3) (v : Value) (s m : Nat) (w : World) (hrd : EdgesRd w v es) (hn : n ≤ 64) (hok : ∀ e ∈ es, okE La (n : Int) e = true) (hlen : es.length ≤ 1024) (hs : s < n) (hm : m ≤ 1000) :
    Calls Try.prog 42 #[grV La (n : Int) v, .int .i64 (s : Int), .int .i64 (m : Int)] w fun e w' => ∃ u, e = .returned u ∧ BoolsAt w' w.heap.size u ((List.range (m + 1)).map fun k => exF es s k s) ∧ Below w.heap.size w w' := by
  obtain ⟨i0, hi, hz0, hz1, hz2⟩ := info_parts Try.infoBool
  have HMB := make_bools n (by omega)
  have HRD := Lib.hid hrd
  have HOK := Lib.hid hok
  obtain ⟨a, c, rfl⟩ := hrd.form
  have b1 := below1 w (.cells #[.int .i64 La, .int .i64 (n : Int), .slice a es.length c] 24)
  have g1 := BoxG.new w La (n : Int) (.slice a es.length c) 24
  have W2f : ∃ W2, W2 = (w.alloc (.cells #[.int .i64 La, .int .i64 (n : Int), .slice a es.length c] 24)).alloc (.cells (madeCells #[.bool false] n) 4) := ⟨_, rfl⟩
  obtain ⟨W2, HW2⟩ := W2f
  have j1 : (s : Int) < (n : Int) := by omega
  have k2 := below1 (w.alloc (.cells #[.int .i64 La, .int .i64 (n : Int), .slice a es.length c] 24)) (.cells (madeCells #[.bool false] n) 4)
  have s2 : W2.heap.size = w.heap.size + 1 + 1 := by rw [HW2, World.size_alloc, World.size_alloc]
  have R1 : BRow W2 (w.heap.size + 1) n (fun _ => false) := by
    have R := BRow.made (w.alloc (.cells #[.int .i64 La, .int .i64 (n : Int), .slice a es.length c] 24)) n
    rw [World.size_alloc] at R
    rw [HW2]; exact R
  have g2 : BoxG W2 w.heap.size La (n : Int) (.slice a es.length c) := HW2 ▸ g1.keep k2
  have b2 : Below w.heap.size w W2 := HW2 ▸ below_more b1 (Nat.le_refl _) k2
  obtain ⟨x1, x2, x3⟩ := id g1
  have C1 : CB1 w La n (.slice a es.length c) (w.heap.size + 1) (exF es s 0) (.slice (some ⟨W2.heap.size, 0, none⟩) 1 1) ((List.range (0 + 1)).map fun k => exF es s k s)
      ((W2.setCell ⟨w.heap.size + 1, s, none⟩ (.bool true)).alloc (.cells #[.bool true] 4)) := by
    have R2 := R1.set s true
    have b3 := b2.setCell (p := ⟨w.heap.size + 1, s, none⟩) (by show _ ≤ w.heap.size + 1; omega) (.bool true)
    have g3 := boxG_other g2 (a := ⟨w.heap.size + 1, s, none⟩) (by show w.heap.size + 1 ≠ _; omega) (.bool true)
    have s3 : (W2.setCell ⟨w.heap.size + 1, s, none⟩ (.bool true)).heap.size = W2.heap.size := by simp [go_sem]
    generalize W2.setCell ⟨w.heap.size + 1, s, none⟩ (.bool true) = W3 at *
    have k4 := below1 W3 (.cells #[.bool true] 4)
    have o4 := boolsLit W3 true
    rw [s3] at o4
    refine ⟨g3.keep k4, below_more b3 (Nat.le_refl _) k4, (R2.keep k4).congr (fun i _ => ?_), ?_, ?_, by omega⟩
    · unfold exF
      by_cases h : i = s
      · rw [if_pos h, decide_eq_true h]
      · rw [if_neg h, decide_eq_false h]
    · rw [show (List.range (0 + 1)).map (fun k => exF es s k s) = [true] by show [exF es s 0 s] = [true]; rw [show exF es s 0 s = true from decide_eq_true rfl]]
      exact own_low o4 (by omega)
    · intro e; simp [Value.ownBlock] at e; omega
  have HC1 := Lib.hid C1
  have HR1 := Lib.hid R1
  have HS2 := Lib.hid s2
  clear hrd hok b1 g1 R1 C1 b2 g2 k2 s2
  go_enter Try.func42, Try.ntmps42
  go_upto_region 2 with fail
  rw [← HW2]
  clear x1 x2 x3 HW2
  have c1 := World.rowIs.cell HR1.out hs
  have f1 := World.rowIs.frozen HR1.out s
  go_upto_region 4 with fail
  clear c1 f1
  generalize (W2.setCell ⟨w.heap.size + 1, s, none⟩ (.bool true)).alloc (.cells #[.bool true] 4) = W0 at *
  go_wp2_with fail
  go_loopg [7, 8, 20] m (fun q s7 s8 s20 wx => ∃ (k A : Nat) (u : Value), k + q = m ∧ s20 = .int .i64 (k : Int) ∧ s7 = .slice (some ⟨A, 0, none⟩) n n ∧ s8 = u ∧ Hid (CB1 w La n (.slice a es.length c) A (exF es s k) u ((List.range (k + 1)).map fun k => exF es s k s) wx))
  case atStart => exact ⟨0, _, _, by omega, rfl, rfl, rfl, HC1⟩
  case round =>
    clear HC1
    obtain ⟨k, A, u, hkm, rfl, rfl, hu8, HC⟩ := hrel
    rcases gk with _ | q
    · obtain rfl : k = m := by omega
      obtain ⟨au, cu, hu⟩ := own_slice HC.out.o
      rw [hu] at HC hu8
      subst hu8
      clear hu
      go_wp2_with fail
      go_ret
      exact ⟨_, rfl, own_low HC.out.o (by omega), HC.out.b⟩
    · obtain ⟨l, hl⟩ : ∃ l, (List.range (k + 1)).map (fun k => exF es s k s) = l := ⟨_, rfl⟩
      have hln : l.length = k + 1 := by rw [← hl]; simp
      have HL := Lib.hid (show (List.range (k + 1 + 1)).map (fun k => exF es s k s) = l ++ [exF es s (k + 1) s] by rw [List.range_succ, List.map_append, hl]; rfl)
      rw [hl] at HC
      obtain ⟨au, cu, hu⟩ := own_slice HC.out.o
      rw [hln] at hu
      rw [hu] at HC hu8
      subst hu8
      clear hu hl
      obtain ⟨x1, x2, x3⟩ := id HC.out.g
      have C2 := Lib.hid (HC.out.made)
      obtain ⟨y1, y2, y3⟩ := id C2.out.c.g
      have j2 : (k : Int) < (m : Int) := by omega
      go_wp2_with fail
      clear x1 x2 x3 y1 y2 y3 HC j2
      generalize wr.alloc (.cells (madeCells #[.bool false] n) 4) = W1 at *
      obtain ⟨A2, hA2⟩ : ∃ A2, wr.heap.size = A2 := ⟨_, rfl⟩
      rw [hA2] at C2 ⊢
      clear hA2
      go_loopg [28] es.length (fun r s28 wx => ∃ i : Nat, i + r = es.length ∧ s28 = .int .i64 (i : Int) ∧ Hid (CB2 w La n (.slice a es.length c) A A2 (exF es s k) (nxF (exF es s k) (es.take i)) (.slice au (k + 1) cu) l wx))
      case atStart => exact ⟨0, by omega, rfl, C2⟩
      case round =>
        clear C2
        obtain ⟨i, hin, rfl, D⟩ := hrel
        rcases gk with _ | r
        · obtain rfl : i = es.length := by omega
          rw [List.take_length] at D
          have D' : CB1 w La n (.slice a es.length c) A2 (exF es s (k + 1)) (.slice au (k + 1) cu) l wr := (D.out.congr (f3 := exF es s (k + 1)) (fun _ _ => by simp only [nxF, exF])).next
          have E := Lib.hid D'
          have c1 := World.rowIs.cell E.out.r hs
          have hsz := E.out.b.size
          have hown := E.out.o
          unfold BoolsAt at hown
          rw [hln] at hown
          clear D D'
          go_wp2_with (at_builtin; refine wpList_append_own_at _ rfl _ _ 53 rfl (w.heap.size + 1) 4 i0 (.bool false) 1 1 Try.underlying53 hi hz0 hz1 hz2 rfl (by decide) _ _ _ rfl (hown.alloc _) ⟨wr.heap.size, 0, none⟩ 1 1 [.bool (exF es s (k + 1) s)] rfl rfl (cell_one_new _ _ _) (by intro u hu; simp at hu; subst hu; rfl) (by unfold maxLen; omega) (by omega) (by rw [World.size_alloc]; omega) ?_; intro v' w4 hown4 hgrow4 hv4 hv5; (have H4 := Lib.hid (E.out.app (x := exF es s (k + 1) s) hgrow4 (by rw [hln]; exact hown4) (by (have hq := hv5; rw [World.size_alloc] at hq; exact hq)))); clear hown4 hgrow4 hv4 hv5)
          go_roundg q
          case measure => omega
          case rel => exact ⟨k + 1, A2, _, by omega, by go_num, rfl, rfl, by rw [HL.out]; exact H4⟩
        · obtain ⟨e, he⟩ : ∃ e, es[i]? = some e := ⟨_, List.getElem?_eq_getElem (by omega)⟩
          have hek := HOK.out e (List.mem_of_getElem? he)
          obtain ⟨bb, off, c', hv, k1, k2, k3⟩ := (HRD.out.keep D.out.c.b).at he
          injection hv with e1 e2 e3
          subst e1
          subst e3
          have HT := Lib.hid (fun t => (take_snoc he) ▸ nxF_snoc (exF es s k) (es.take i) e t)
          obtain ⟨x, y, z⟩ := e
          rw [okE_iff] at hek
          dsimp only at hek k1 k2 k3
          obtain ⟨hx0, hx1, -, -, hzz0, hzz1⟩ := hek
          obtain ⟨x, rfl⟩ : ∃ m : Nat, x = (m : Int) := ⟨x.toNat, by omega⟩
          obtain ⟨z, rfl⟩ : ∃ m : Nat, z = (m : Int) := ⟨z.toNat, by omega⟩
          have hxn : x < n := by omega
          have hzn : z < n := by omega
          have o1 := below1 wr (.cells #[.int .i64 (x : Int), .int .i64 y, .int .i64 (z : Int)] 46)
          have D1 := Lib.hid (D.out.keep o1)
          obtain ⟨x1, x2, x3, -, -, -⟩ := id (Box3.new wr (x : Int) y (z : Int) 46)
          have j1 : (i : Int) < (es.length : Int) := by omega
          have j2 : (x : Int) < (n : Int) := by omega
          have j3 : (z : Int) < (n : Int) := by omega
          have c1 := World.rowIs.cell D1.out.c.r hxn
          have c2 := World.rowIs.frozen D1.out.r2 z
          have c3 := World.rowIs.cell D1.out.r2 hzn
          rcases hb : exF es s k x with _ | _
          · rw [hb] at c1
            have D2 := Lib.hid (D1.out.congr (f3 := nxF (exF es s k) (es.take (i + 1))) (fun t _ => by rw [HT.out]; simp [hb]))
            clear D D1 HT hb
            go_wp2_with fail
            go_roundg r
            case measure => omega
            case rel => exact ⟨i + 1, by omega, by go_num, D2⟩
          · rw [hb] at c1
            have D2 := Lib.hid ((D1.out.set z true).congr (f3 := nxF (exF es s k) (es.take (i + 1))) (fun t _ => by
              rw [HT.out]
              by_cases h : t = z
              · subst h; simp [hb]
              · rw [if_neg h, decide_eq_false (by dsimp only; omega), Bool.and_false, Bool.or_false]))
            clear D D1 HT hb
            go_wp2_with fail
            go_roundg r
            case measure => omega
            case rel => exact ⟨i + 1, by omega, by go_num, D2⟩
end Go.Proofs.Ytfkplnmhlpabaaa
