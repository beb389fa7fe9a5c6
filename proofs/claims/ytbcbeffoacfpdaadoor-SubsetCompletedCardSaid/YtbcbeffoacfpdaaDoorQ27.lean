/- What subset.Complete returns. Condition: the edges can be read. What subset.Complete returns of a graph that is not deterministic. Condition: the edges can be read. Plain facts for SubsetCompleted: the completed automaton goes where the step goes, and to the further state where there is no edge. No condition. -/
import Derived.Test.YtbcbeffoacfpdaaDoorQ26
import Derived.Test.YtbcbeffoacfpdaaDoorQ13
import Derived.Test.YtbcbeffoacfpdaaDoorQ25

namespace Go.Proofs.YtbcbeffoacfpdaaDoor
open Go.RowKit
set_option linter.unusedSimpArgs false
set_option linter.unusedVariables false

/-- The cells that the statement with the append reads. -/
def SZ (p g : Nat) (lv : Value) (La : Int) (W : World) : Prop := W.cell? ⟨p, 1, none⟩ = some lv ∧ W.cell? ⟨g, 0, none⟩ = some (.int .i64 La)
theorem SZ.keep {p g : Nat} {lv : Value} {La : Int} {W W' : World} (h : SZ p g lv La W) (k : Below W.heap.size W W') : SZ p g lv La W' := ⟨cell_keep h.1 k, cell_keep h.2 k⟩
section
variable {w W W' : World} {p La i : Nat} {rs : Nat → Nat} {f : Nat → Nat → Int} {lv : Value}
theorem AB.cells (h : AB w p La i rs f lv W) : W.cell? ⟨p, 0, none⟩ = some (.int .i64 (La : Int)) ∧ W.cell? ⟨p, 1, none⟩ = some lv ∧ W.frozen? ⟨p, 1, none⟩ = false := by
  have hx := h.hx
  refine ⟨by simp [World.cell?, hx], by simp [World.cell?, hx], by simp [World.frozen?, hx]⟩
theorem AB.start (W : World) (La : Nat) : AB W W.heap.size La 0 (fun _ => 0) (fun _ _ => 0) (.slice none 0 0) (W.alloc (.cells #[.int .i64 (La : Int), .slice none 0 0] 43)) :=
  ⟨below1 W _, heap_alloc_new W _, World.ownsRow_nil _ _ _ _, fun j hj => absurd hj (Nat.not_lt_zero _), fun j k _ hk => absurd hk (Nat.not_lt_zero _)⟩
theorem AB.recast (h : AB w p La i rs f lv W) {f' : Nat → Nat → Int} (e : ∀ j l, j < i → l < La → f j l = f' j l) : AB w p La i rs f' lv W :=
  ⟨h.hb, h.hx, h.hl, fun j hj => ⟨(h.hr j hj).1, (h.hr j hj).2.congr (fun l hl => e j l hj hl)⟩, h.ha⟩
theorem AB.far (h : AB w p La i rs f lv W) {b : Nat} (hb : b < p) (o : Nat) (u : Value) : AB (W.setCell ⟨b, o, none⟩ u) p La i rs f lv (W.setCell ⟨b, o, none⟩ u) :=
  ⟨Below.refl _ _, (Go.Deep.blk_setCell_other _ _ _ _ (by show p ≠ b; omega)).trans h.hx, h.hl.kept (grownBy_setCellJ W b o u) (by
    cases hv : lv.ownBlock with
    | none => exact .inl rfl
    | some g => exact .inr (fun e => by injection e with e; have := (h.hl.lt g hv).1; omega)), fun j hj => ⟨(h.hr j hj).1, (h.hr j hj).2.other (by show rs j ≠ b; have := (h.hr j hj).1; omega) u⟩, h.ha⟩
theorem ints_nil0 (W : World) : IntsRd W (.slice none 0 0) [] := (ints_nil W 0).rd
theorem cF_out {n : Nat} {es : List E3} (h : ∀ e ∈ es, e.1 < (n : Int)) {l : Nat} : cF n es n l = (n : Int) := by
  have h2 : ∀ k, cF n (es.take k) n l = (n : Int) := fun k => by
    induction k with
    | zero => rfl
    | succ k ih =>
      by_cases hk : k < es.length
      · have hx := List.getElem?_eq_getElem hk
        rw [take_snoc hx, cF_snoc, ih]
        have := h _ (List.getElem_mem hk)
        rw [if_neg (by omega)]
      · rw [List.take_of_length_le (by omega)] at ih ⊢; exact ih
  have := h2 es.length
  rwa [List.take_length] at this
theorem one_litC (W : World) (z : Int) : IntsRd (W.alloc (.cells #[.int .i64 z] 3)) (.slice (some ⟨W.heap.size, 0, none⟩) 1 1) [z] := ints_lit1 W z _
theorem ints_far {W : World} {g : Nat} {x : Int} (h : IntsRd W (.slice (some ⟨g, 0, none⟩) 1 1) [x]) {b : Nat} (hb : b < g) (o : Nat) (u : Value) : IntsRd (W.setCell ⟨b, o, none⟩ u) (.slice (some ⟨g, 0, none⟩) 1 1) [x] := by
  obtain ⟨a, c, hv, h1⟩ := h
  injection hv with e1 e2 e3
  subst e1
  subst e3
  refine ⟨_, _, rfl, fun i y hy => ?_⟩
  obtain ⟨b2, off, e, h2⟩ := h1 i y hy
  injection e with e
  injection e with e4 e5
  subst e4
  exact ⟨g, off, by rw [e5], by rw [World.cell?_setCell_far _ _ _ _ (by show b ≠ g; omega)]; exact h2⟩
/-- A block that is no list of rows stays where the list grows. -/
theorem AB.side {W5 W4 : World} (h : AB w p La i rs f lv W5) (o : Obj) (r2 : (W5.alloc o).grownBy W4 lv.ownBlock) {q j : Nat} {c : Array Value} {t : TypeId} {fr : Nat × Nat} (hq : W5.heap[q]? = some (.cells c t fr)) (ht : t ≠ 25) : W4.heap[q]? = some (.cells c t fr) := by
  have hlt := (Array.getElem?_eq_some_iff.1 hq).1
  have h6 := (Below.heap_alloc W5 o q hlt).trans hq
  exact (r2.block q (by rw [World.size_alloc]; omega) (fun e => own_ne (h.hl.alloc o) h6 ht e.symm)).trans h6
end
/-- The cells that the statement with the store reads. -/
def SY (p P0 g x y : Nat) (z : Int) (lv row : Value) (W : World) : Prop := W.cell? ⟨p, 1, none⟩ = some lv ∧ W.cell? ⟨P0, 0, none⟩ = some (.int .i64 (x : Int)) ∧ W.cell? ⟨P0, 1, none⟩ = some (.int .i64 (y : Int)) ∧ W.cell? ⟨P0, 2, none⟩ = some (.int .i64 z) ∧ W.cell? ⟨g, x, none⟩ = some row
theorem cell_one_row (w : World) (x : Value) (t : TypeId) : ∀ j u, [x][j]? = some u → (w.alloc (.cells #[x] t)).cell? ((⟨w.heap.size, 0, none⟩ : Addr).add j) = some u := by
  intro j u hj
  match j, hj with
  | 0, hj => simp at hj; subst hj; simp [Addr.add]
/-- What Complete returns of a deterministic graph: the rows, the further state. -/
def CompOut (w : World) (La n : Nat) (es : List E3) (e : Ending) (w' : World) : Prop := ∃ (lv sv : Value) (k : Nat) (sink : List Int), e = .returned (.tuple #[.agg #[.int .i64 (La : Int), lv], sv, .int .i64 0]) ∧ RowsRd w' lv ((List.range k).map fun j => (List.range La).map (cF n es j)) ∧ IntsRd w' sv sink ∧ ((k = n ∧ sink = [] ∧ es.length = n * La) ∨ (k = n + 1 ∧ sink = [(n : Int)] ∧ es.length ≠ n * La)) ∧ Below w.heap.size w w'
set_option maxRecDepth 100000 in
set_option maxHeartbeats 12800000 in
theorem Complete_good (La n : Nat) (es : List E3) (v : Value) (w : World) (hrd : EdgesRd w v es) (hvg : VG (La : Int) (n : Int) es) (hd : detE es = true) :
    Calls Tryd.prog 21 #[grV (La : Int) (n : Int) v] w (CompOut w La n es) := by
  have hmx : Tryd.prog.follows .mixedOrders = true := by kernel_rfl
  obtain ⟨i0, hi, hz0, hz1, hz2⟩ := info_parts Tryd.infoRow
  have hn64 : n ≤ 64 := by have := hvg.s2; omega
  have hL256 : La ≤ 256 := by have := hvg.l2; omega
  have hl := hvg.len
  have HOK := Lib.hid hvg.ok
  have hdr : detR (La : Int) (n : Int) es = (true, 0) := by unfold detR; rw [if_pos hvg.chk, hd]
  have HDT : Hid (∀ W, EdgesRd W v es → Calls Tryd.prog 25 #[grV (La : Int) (n : Int) v] W fun e W' => e = .returned (.tuple #[.bool true, .int .i64 0]) ∧ Below W.heap.size W W') := Lib.hid (fun W h => by
    refine (deterministic_any La n es v W h (by omega)).mono ?_
    rw [hdr]
    exact fun e W' h => h)
  have HRD := Lib.hid hrd
  obtain ⟨a, c, hv⟩ := hrd.form
  subst hv
  obtain ⟨W0, hW0⟩ : ∃ W0, (w.alloc (.cells #[.int .i64 (La : Int), .int .i64 (n : Int), .slice a es.length c] 24)).alloc (.cells #[.int .i64 0, .slice none 0 0] 43) = W0 := ⟨_, rfl⟩
  have B0 := Lib.hid (show Below w.heap.size w W0 by rw [← hW0]; exact below_more (below1 w _) (Nat.le_refl _) (below1 _ _))
  have z0 : W0.heap.size = w.heap.size + 2 := by rw [← hW0, World.size_alloc, World.size_alloc]
  have GX0 := Lib.hid (show W0.heap[w.heap.size]? = some (.cells #[.int .i64 (La : Int), .int .i64 (n : Int), .slice a es.length c] 24 (0, 0)) by
    rw [← hW0]
    exact (Below.heap_alloc _ _ _ (by rw [World.size_alloc]; omega)).trans (heap_alloc_new w _))
  have RX0 := Lib.hid (show W0.heap[w.heap.size + 1]? = some (.cells #[.int .i64 0, .slice none 0 0] 43 (0, 0)) by
    rw [← hW0]
    have h := heap_alloc_new (w.alloc (.cells #[.int .i64 (La : Int), .int .i64 (n : Int), .slice a es.length c] 24)) (.cells #[.int .i64 0, .slice none 0 0] 43)
    rw [World.size_alloc] at h
    exact h)
  have gcell : ∀ (W : World), W.heap[w.heap.size]? = some (.cells #[.int .i64 (La : Int), .int .i64 (n : Int), .slice a es.length c] 24 (0, 0)) → BoxG W w.heap.size (La : Int) (n : Int) (.slice a es.length c) := fun W h => ⟨by simp [World.cell?, h], by simp [World.cell?, h], by simp [World.cell?, h]⟩
  have GC := Lib.hid gcell
  obtain ⟨x1, x2, x3⟩ := gcell _ GX0.out
  clear hrd hvg hd hdr gcell
  go_enter Tryd.func21, Tryd.ntmps21
  go_upto_region 9 with (first
    | (go_at_call 25; (with_reducible refine (HDT.out _ (HRD.out.keep B0.out)).mono ?_); rintro e W1 ⟨rfl, b1⟩; (have B1 := Lib.hid (B0.out.trans (b1.mono B0.out.size))); (have GX1 := Lib.hid ((b1.block w.heap.size (by omega)).trans GX0.out)); (have RX1 := Lib.hid ((b1.block (w.heap.size + 1) (by omega)).trans RX0.out)); (have z1 : w.heap.size + 2 ≤ W1.heap.size := by have := b1.size; omega); clear b1 x1 x2 x3; (obtain ⟨x1, x2, x3⟩ := GC.out _ GX1.out); (have GY := Lib.hid ((Below.heap_alloc W1 (.cells #[.int .i64 (La : Int), .slice none 0 0] 43) w.heap.size (by omega)).trans GX1.out)); (have RY := Lib.hid ((Below.heap_alloc W1 (.cells #[.int .i64 (La : Int), .slice none 0 0] 43) (w.heap.size + 1) (by omega)).trans RX1.out)); (obtain ⟨y1, y2, y3⟩ := GC.out _ GY.out)))
  clear x1 x2 x3 y1 y2 y3 hW0
  have A0 := Lib.hid (AB.start W1 La)
  obtain ⟨p, hpp⟩ : ∃ p, W1.heap.size = p := ⟨_, rfl⟩
  have hpw : W1.heap.size ≤ p := by omega
  rw [hpp] at A0 ⊢
  go_loopg [30] n (fun q s30 wx => ∃ (i : Nat) (rs : Nat → Nat) (f : Nat → Nat → Int) (lv : Value), i + q = n ∧ s30 = .int .i64 (i : Int) ∧ Hid (∀ j l, j < i → l < La → f j l = (n : Int)) ∧ Hid (AB W1 p La i rs f lv wx))
  case atStart => exact ⟨0, _, _, _, by omega, rfl, Lib.hid (fun j l hj => absurd hj (Nat.not_lt_zero _)), A0⟩
  case round =>
    clear A0
    obtain ⟨i, rs, f, lv, hin, rfl, HFF, HAB⟩ := hrel
    have HGX := Lib.hid GX1.out
    obtain ⟨x1, x2, x3⟩ := GC.out _ ((HAB.out.hb.block w.heap.size (by omega)).trans GX1.out)
    obtain ⟨p1, p2, p3⟩ := HAB.out.cells
    rcases gk with _ | q
    · obtain rfl : i = n := by omega
      have AB1 := Lib.hid (HAB.out.recast (f' := cF i (es.take 0)) (fun j l hj hl => HFF.out j l hj hl))
      obtain ⟨a9, c9, hlv⟩ : ∃ a9 c9, lv = .slice a9 i c9 := own_slice HAB.out.hl
      subst hlv
      have j1 : ¬ ((i : Int) < (i : Int)) := by omega
      go_upto_region 13 with fail
      clear x1 x2 x3 p1 p2 p3 HAB HFF
      go_loopg [46] es.length (fun q s46 wx => ∃ k : Nat, k + q = es.length ∧ s46 = .int .i64 (k : Int) ∧ Hid (AB W1 p La i rs (cF i (es.take k)) (.slice a9 i c9) wx))
      case atStart => exact ⟨0, by omega, rfl, AB1⟩
      case round =>
        clear AB1
        obtain ⟨k, hkn, rfl, HAB⟩ := hrel
        rcases gk with _ | q2
        · obtain rfl : k = es.length := by omega
          have HAB := Lib.hid (HAB.out.recast (f' := cF i es) (fun j l _ _ => by rw [List.take_length]))
          have hrs := (HAB.out.hb.block (w.heap.size + 1) (by omega)).trans RX1.out
          have HRS := Lib.hid hrs
          have r1 : wr.cell? ⟨w.heap.size + 1, 0, none⟩ = some (.int .i64 0) := by simp [World.cell?, hrs]
          have r2 : wr.cell? ⟨w.heap.size + 1, 1, none⟩ = some (.slice none 0 0) := by simp [World.cell?, hrs]
          have r3 : wr.frozen? ⟨w.heap.size + 1, 0, none⟩ = false := by simp [World.frozen?, hrs]
          have r4 : wr.frozen? ⟨w.heap.size + 1, 1, none⟩ = false := by simp [World.frozen?, hrs]
          have hgx := (HAB.out.hb.block w.heap.size (by omega)).trans GX1.out
          obtain ⟨x1, x2, x3⟩ := GC.out _ hgx
          obtain ⟨p1, p2, p3⟩ := HAB.out.cells
          have BW := Lib.hid (B1.out.trans (HAB.out.hb.mono (by omega)))
          have hmb : i * La ≤ 64 * 256 := Nat.mul_le_mul hn64 hL256
          have hwm : IntKind.i64.wrap ((i : Int) * (La : Int)) = (i : Int) * (La : Int) := IntWalk.i64_in _ (by rw [← Int.natCast_mul]; omega)
          have j5 : ¬ ((es.length : Int) < (es.length : Int)) := by omega
          clear hrs hgx
          by_cases hm : es.length = i * La
          · have d5 : ((es.length : Int) == (i : Int) * (La : Int)) = true := by rw [hm, Int.natCast_mul]; simp
            have HM := Lib.hid hm
            clear hm
            go_wp2_with fail
            refine bodyPost_ret (v := .tuple #[.agg #[.int .i64 (La : Int), .slice a9 i c9], .slice none 0 0, .int .i64 0]) (by simp [results, Tryd.results21, go_sem, r1, r2, r3, r4]) rfl ?_
            exact (show CompOut w La i es _ _ from ⟨.slice a9 i c9, .slice none 0 0, i, [], rfl, ((HAB.out.far (b := w.heap.size + 1) (by omega) 0 _).far (b := w.heap.size + 1) (by omega) 1 _).rd, ints_nil0 _, .inl ⟨rfl, rfl, HM.out⟩, (BW.out.setCell (p := ⟨w.heap.size + 1, 0, none⟩) (Nat.le_succ _) _).setCell (p := ⟨w.heap.size + 1, 1, none⟩) (Nat.le_succ _) _⟩)
          · have d5 : ((es.length : Int) == (i : Int) * (La : Int)) = false := by rw [beq_eq_false_iff_ne, ← Int.natCast_mul]; omega
            have HM := Lib.hid hm
            clear hm
            obtain ⟨R, hR⟩ : ∃ R, (wr.alloc (.cells #[.int .i64 (i : Int)] 3)).drew.heap.size = R := ⟨_, rfl⟩
            have HRR := Lib.hid hR
            have HRP : Hid (Calls Tryd.prog 50 #[.slice (some ⟨wr.heap.size, 0, none⟩) 1 1, .int .i64 (La : Int)] (wr.alloc (.cells #[.int .i64 (i : Int)] 3)).drew fun e w' => e = .returned (rowW La R) ∧ IRow w' R La (fun _ => (i : Int)) ∧ Below (wr.alloc (.cells #[.int .i64 (i : Int)] 3)).drew.heap.size (wr.alloc (.cells #[.int .i64 (i : Int)] 3)).drew w') := Lib.hid (by
              rw [← hR]
              exact repeatC_any La wr.heap.size 1 (i : Int) _ hL256 (by have h := heap_alloc_new wr (.cells #[.int .i64 (i : Int)] 3); show (wr.alloc (.cells #[.int .i64 (i : Int)] 3)).cell? _ = _; unfold World.cell?; rw [h]; rfl))
            go_upto_region 19 with fail
            have HGX := Lib.hid GX1.out
            have hR0 : SZ p w.heap.size (.slice a9 i c9) (La : Int) wr.drew := ⟨p2, x1⟩
            clear x1 x2 x3 p1 p2 p3 hR r1 r2 r3 r4
            refine regionT (T := T2 10 10 (SZ p w.heap.size (.slice a9 i c9) (La : Int)) (SZ p w.heap.size (.slice a9 i c9) (La : Int))) hmx ?_
            have hR := hR0
            refine take1 (i := 0) (v := ?_) rfl (by kernel_rfl) (by kernel_rfl) (by kernel_rfl) (by kernel_rfl) (by kernel_rfl) (by decide) (by decide) (fun _ _ _ h => h) (Or.inl ⟨by rfl, ?_⟩) hR hR ?_
            rotate_left
            · intro w hSw
              (try unfold SZ at hSw)
              go_simp
              all_goals with_reducible rfl
            (try simp only [Act.put, List.setIfInBounds_toArray, List.set_cons_zero, List.set_cons_succ])
            refine take1 (i := 1) (v := ?_) rfl (by kernel_rfl) (by kernel_rfl) (by kernel_rfl) (by kernel_rfl) (by kernel_rfl) (by decide) (by decide) (fun _ _ _ h => h) (Or.inl ⟨by rfl, ?_⟩) hR hR ?_
            rotate_left
            · intro w hSw
              (try unfold SZ at hSw)
              go_simp
              all_goals with_reducible rfl
            (try simp only [Act.put, List.setIfInBounds_toArray, List.set_cons_zero, List.set_cons_succ])
            refine take1 (i := 2) (v := ?_) rfl (by kernel_rfl) (by kernel_rfl) (by kernel_rfl) (by kernel_rfl) (by kernel_rfl) (by decide) (by decide) (fun _ _ _ h => h) (Or.inl ⟨by rfl, ?_⟩) hR hR ?_
            rotate_left
            · intro w hSw
              (try unfold SZ at hSw)
              go_simp
              all_goals with_reducible rfl
            (try simp only [Act.put, List.setIfInBounds_toArray, List.set_cons_zero, List.set_cons_succ])
            refine take1 (i := 4) (v := ?_) rfl (by kernel_rfl) (by kernel_rfl) (by kernel_rfl) (by kernel_rfl) (by kernel_rfl) (by decide) (by decide) (fun _ _ _ h => h) (Or.inl ⟨by rfl, ?_⟩) hR hR ?_
            rotate_left
            · intro w hSw
              (try unfold SZ at hSw)
              go_simp
              all_goals with_reducible rfl
            (try simp only [Act.put, List.setIfInBounds_toArray, List.set_cons_zero, List.set_cons_succ])
            refine take1 (i := 5) (v := ?_) rfl (by kernel_rfl) (by kernel_rfl) (by kernel_rfl) (by kernel_rfl) (by kernel_rfl) (by decide) (by decide) (fun _ _ _ h => h) (Or.inl ⟨by rfl, ?_⟩) hR hR ?_
            rotate_left
            · intro w hSw
              (try unfold SZ at hSw)
              go_simp
              all_goals with_reducible rfl
            (try simp only [Act.put, List.setIfInBounds_toArray, List.set_cons_zero, List.set_cons_succ])
            refine stepT (i := 3) (by kernel_rfl) rfl (fun K hK => ?_)
            go_simp
            have hR3 : SZ p w.heap.size (.slice a9 i c9) (La : Int) (wr.alloc (.cells #[.int .i64 (i : Int)] 3)).drew := (show SZ p w.heap.size (.slice a9 i c9) (La : Int) wr from hR0).keep (below1 wr (.cells #[.int .i64 (i : Int)] 3)).drew
            refine hK.out _ _ ⟨fun _ => hR3, fun _ => hR3⟩ ?_
            clear hK K hR
            have hR := hR3
            (try simp only [Act.put, List.setIfInBounds_toArray, List.set_cons_zero, List.set_cons_succ])
            refine stepT (i := 6) (by kernel_rfl) rfl (fun K hK => ?_)
            go_simp
            go_at_call 50
            (with_reducible refine HRP.out.mono ?_)
            rintro e0 W5 ⟨rfl, hrow, b5⟩
            have hR6 : SZ p w.heap.size (.slice a9 i c9) (La : Int) W5 := hR3.keep b5
            have HW5 := Lib.hid (show Below wr.heap.size wr W5 from ((below1 wr (.cells #[.int .i64 (i : Int)] 3)).drew).trans (b5.mono (below1 wr (.cells #[.int .i64 (i : Int)] 3)).drew.size))
            have h5 := HAB.out.keep HW5.out
            have hown := h5.hl
            refine hK.out _ _ ⟨fun _ => hR6, fun _ => hR6⟩ ?_
            clear hK K hR
            have hR := hR6
            (try simp only [Act.put, List.setIfInBounds_toArray, List.set_cons_zero, List.set_cons_succ])
            refine stepT (i := 7) (by kernel_rfl) rfl (fun K hK => ?_)
            go_simp
            have hR7 := hR6.keep (below1 W5 (.cells #[rowW La R] 25))
            refine hK.out _ _ ⟨fun _ => hR7, fun _ => hR7⟩ ?_
            clear hK K hR
            have hR := hR7
            (try simp only [Act.put, List.setIfInBounds_toArray, List.set_cons_zero, List.set_cons_succ])
            refine stepT (i := 8) (by kernel_rfl) rfl (fun K hK => ?_)
            refine step_append_lies _ (by rfl) (.tmp 73) (.tmp 79) 28 (by rfl) (p + 1) 25 i0 (.slice none 0 0) 1 24 Tryd.underlying28 hi hz0 hz1 hz2 rfl (by decide) (.slice a9 i c9) i _ (by rfl) (hown.alloc _) ⟨W5.heap.size, 0, none⟩ 1 1 [rowW La R] (by rfl) (by rfl) (cell_one_row _ _ _) (by intro u hu; simp at hu; subst hu; rfl) (by decide) (by unfold maxLen; omega) (by omega) (by rw [World.size_alloc]; have h7 := h5.lt; omega) _ rfl ?_
            intro g9 d9 W4 r1 r2 r3 r4
            have hp4 := h5.side (j := 0) _ r2 h5.hx (by decide)
            have hg4 := h5.side (j := 0) _ r2 ((h5.hb.block w.heap.size (by omega)).trans HGX.out) (by decide)
            have hR8 : SZ p w.heap.size (.slice a9 i c9) (La : Int) W4 := ⟨by simp [World.cell?, hp4], by simp [World.cell?, hg4]⟩
            have c4 : W4.cell? ⟨p, 1, none⟩ = some (.slice a9 i c9) := hR8.1
            have f4 : W4.frozen? ⟨p, 1, none⟩ = false := by simp [World.frozen?, hp4]
            have HF := Lib.hid (HAB.out.app hpw (R := R) (by rw [← HRR.out]; exact (below1 wr (.cells #[.int .i64 (i : Int)] 3)).drew.size) HW5.out hrow (.cells #[rowW La R] 25) r1 r2)
            refine hK.out _ _ ⟨fun _ => hR8, fun _ => hR8⟩ ?_
            clear hK K hR
            have hR := hR8
            (try simp only [Act.put, List.setIfInBounds_toArray, List.set_cons_zero, List.set_cons_succ])
            refine take1 (i := 9) (v := ?_) rfl (by kernel_rfl) (by kernel_rfl) (by kernel_rfl) (by kernel_rfl) (by kernel_rfl) (by decide) (by decide) (fun _ _ _ h => h) (Or.inl ⟨by rfl, ?_⟩) hR hR ?_
            rotate_left
            · intro w hSw
              (try unfold SZ at hSw)
              go_simp
              all_goals with_reducible rfl
            (try simp only [Act.put, List.setIfInBounds_toArray, List.set_cons_zero, List.set_cons_succ])
            refine stepT (i := 10) (by kernel_rfl) rfl (fun K hK => ?_)
            go_simp
            refine hK.out _ _ ⟨fun h => absurd h (by decide), fun h => absurd h (by decide)⟩ ?_
            clear hK K
            (try simp only [Act.put, List.setIfInBounds_toArray, List.set_cons_zero, List.set_cons_succ])
            refine doneT (by kernel_rfl) ?_ _
            obtain ⟨X9, hX9⟩ : ∃ X9, W4.setCell ⟨p, 1, none⟩ (.slice (some ⟨g9, 0, none⟩) (i + 1) d9) = X9 := ⟨_, rfl⟩
            rw [hX9] at HF ⊢
            clear hX9 c4 f4 hp4 hg4 hR8 hR7 hR6 hR3 hR0 r1 r2 r3 r4
            have hrs := (HF.out.hb.block (w.heap.size + 1) (by omega)).trans RX1.out
            have hrs2 := (Below.heap_alloc X9 (.cells #[.int .i64 (i : Int)] 3) (w.heap.size + 1) (by have := HF.out.lt; omega)).trans hrs
            have s1 : (X9.alloc (.cells #[.int .i64 (i : Int)] 3)).cell? ⟨w.heap.size + 1, 0, none⟩ = some (.int .i64 0) := by unfold World.cell?; rw [hrs2]; rfl
            have s2 : (X9.alloc (.cells #[.int .i64 (i : Int)] 3)).cell? ⟨w.heap.size + 1, 1, none⟩ = some (.slice none 0 0) := by unfold World.cell?; rw [hrs2]; rfl
            have s3 : (X9.alloc (.cells #[.int .i64 (i : Int)] 3)).frozen? ⟨w.heap.size + 1, 0, none⟩ = false := by unfold World.frozen?; rw [hrs2]; rfl
            have s4 : (X9.alloc (.cells #[.int .i64 (i : Int)] 3)).frozen? ⟨w.heap.size + 1, 1, none⟩ = false := by unfold World.frozen?; rw [hrs2]; rfl
            obtain ⟨q1, q2, q3⟩ := HF.out.cells
            have HF2 := Lib.hid (HF.out.keep (below1 X9 (.cells #[.int .i64 (i : Int)] 3)))
            have BX := Lib.hid (B1.out.trans (HF2.out.hb.mono (by omega)))
            have IL := Lib.hid (one_litC X9 (i : Int))
            clear hrs hrs2
            go_wp2_with fail
            refine bodyPost_ret (v := .tuple #[.agg #[.int .i64 (La : Int), .slice (some ⟨g9, 0, none⟩) (i + 1) d9], .slice (some ⟨X9.heap.size, 0, none⟩) 1 1, .int .i64 0]) (by simp [results, Tryd.results21, go_sem, s1, s2, s3, s4]) rfl ?_
            have HF3 := HF2.out.recast (f' := cF i es) (fun j l hj _ => by
              try dsimp only
              by_cases hji : j = i
              · rw [if_pos hji, hji, cF_out (fun e he => (okE_iff.1 (HOK.out e he)).2.1)]
              · rw [if_neg hji])
            exact (show CompOut w La i es _ _ from ⟨.slice (some ⟨g9, 0, none⟩) (i + 1) d9, .slice (some ⟨X9.heap.size, 0, none⟩) 1 1, i + 1, [(i : Int)], rfl, ((HF3.far (b := w.heap.size + 1) (by omega) 0 _).far (b := w.heap.size + 1) (by omega) 1 _).rd, ints_far (ints_far IL.out (by have := HF.out.lt; omega) 0 _) (by have := HF.out.lt; omega) 1 _, .inr ⟨rfl, rfl, HM.out⟩, (BX.out.setCell (p := ⟨w.heap.size + 1, 0, none⟩) (Nat.le_succ _) _).setCell (p := ⟨w.heap.size + 1, 1, none⟩) (Nat.le_succ _) _⟩)
        · have BWR := Lib.hid (B1.out.trans (HAB.out.hb.mono (by omega)))
          obtain ⟨e, he⟩ : ∃ e, es[k]? = some e := ⟨_, List.getElem?_eq_getElem (by omega)⟩
          have hek := HOK.out e (List.mem_of_getElem? he)
          obtain ⟨be, oe, ce, hve, k1, k2, k3⟩ := (HRD.out.keep BWR.out).at he
          injection hve with e0 e00 e000
          subst e0
          have HT := Lib.hid (take_snoc he)
          obtain ⟨x, y, z⟩ := e
          dsimp only at k1 k2 k3
          rw [okE_iff] at hek
          dsimp only at hek
          obtain ⟨hx0, hx1, hy0, hy1, hzz0, hzz1⟩ := hek
          obtain ⟨x, rfl⟩ : ∃ m : Nat, x = (m : Int) := ⟨x.toNat, by omega⟩
          obtain ⟨y, rfl⟩ : ∃ m : Nat, y = (m : Int) := ⟨y.toNat, by omega⟩
          have hxn : x < i := by omega
          have hyn : y < La := by omega
          obtain ⟨g9, c9', hform, -⟩ := World.ownsRow.form HAB.out.hl (by omega)
          injection hform with e1 e2 e3
          subst e1
          have o1 := below1 wr (.cells #[.int .i64 (x : Int), .int .i64 (y : Int), .int .i64 z] 55)
          have X1 := Box3.new wr (x : Int) (y : Int) z 55
          have A1 := Lib.hid (HAB.out.keep o1)
          have j2 : (k : Int) < (es.length : Int) := by omega
          have j2' : k < es.length := by omega
          clear he e00 e000 e2 e3
          go_upto_region 15 with fail
          obtain ⟨V1, hV1⟩ : ∃ V1, wr.alloc (.cells #[.int .i64 (x : Int), .int .i64 (y : Int), .int .i64 z] 55) = V1 := ⟨_, rfl⟩
          obtain ⟨P0, hP0⟩ : ∃ P0, wr.heap.size = P0 := ⟨_, rfl⟩
          rw [hP0] at X1
          rw [hV1] at X1 A1 ⊢
          rw [hP0]
          have A2 := Lib.hid A1.out.drew
          obtain ⟨z1, z2, z3, -, -, -⟩ := X1.keep (Below.refl _ _).drew
          obtain ⟨p1, p2, p3⟩ := A2.out.cells
          have cx : V1.drew.cell? ⟨g9, x, none⟩ = some (rowW La (rs x)) := by
            have h := World.ownsRow.cellAt A2.out.hl x (by omega)
            rw [h, List.getElem?_map, List.getElem?_range hxn]; rfl
          have c4 := (A2.out.hr x hxn).2.cell hyn
          have f4 := (A2.out.hr x hxn).2.frozen y
          have hR0 : SY p P0 g9 x y z (.slice (some ⟨g9, 0, none⟩) i c9) (rowW La (rs x)) V1.drew := ⟨p2, z1, z2, z3, cx⟩
          have HS := Lib.hid (A2.out.set hpw (l := y) hxn z)
          have j3 : (x : Int) < (i : Int) := by omega
          have j4 : (y : Int) < (La : Int) := by omega
          clear hV1 hP0 X1 k1 k2 k3 o1 z1 z2 z3 p1 p2 p3 cx
          refine regionT (T := T2 11 11 (SY p P0 g9 x y z (.slice (some ⟨g9, 0, none⟩) i c9) (rowW La (rs x))) (SY p P0 g9 x y z (.slice (some ⟨g9, 0, none⟩) i c9) (rowW La (rs x)))) hmx ?_
          have hR := hR0
          refine take1 (i := 0) (v := ?_) rfl (by kernel_rfl) (by kernel_rfl) (by kernel_rfl) (by kernel_rfl) (by kernel_rfl) (by decide) (by decide) (fun _ _ _ h => h) (Or.inl ⟨by rfl, ?_⟩) hR hR ?_
          rotate_left
          · intro w hSw
            (try unfold SY at hSw)
            go_simp
            all_goals with_reducible rfl
          (try simp only [Act.put, List.setIfInBounds_toArray, List.set_cons_zero, List.set_cons_succ])
          refine take1 (i := 1) (v := ?_) rfl (by kernel_rfl) (by kernel_rfl) (by kernel_rfl) (by kernel_rfl) (by kernel_rfl) (by decide) (by decide) (fun _ _ _ h => h) (Or.inl ⟨by rfl, ?_⟩) hR hR ?_
          rotate_left
          · intro w hSw
            (try unfold SY at hSw)
            go_simp
            all_goals with_reducible rfl
          (try simp only [Act.put, List.setIfInBounds_toArray, List.set_cons_zero, List.set_cons_succ])
          refine take1 (i := 2) (v := ?_) rfl (by kernel_rfl) (by kernel_rfl) (by kernel_rfl) (by kernel_rfl) (by kernel_rfl) (by decide) (by decide) (fun _ _ _ h => h) (Or.inl ⟨by rfl, ?_⟩) hR hR ?_
          rotate_left
          · intro w hSw
            (try unfold SY at hSw)
            go_simp
            all_goals with_reducible rfl
          (try simp only [Act.put, List.setIfInBounds_toArray, List.set_cons_zero, List.set_cons_succ])
          refine take1 (i := 3) (v := ?_) rfl (by kernel_rfl) (by kernel_rfl) (by kernel_rfl) (by kernel_rfl) (by kernel_rfl) (by decide) (by decide) (fun _ _ _ h => h) (Or.inl ⟨by rfl, ?_⟩) hR hR ?_
          rotate_left
          · intro w hSw
            (try unfold SY at hSw)
            go_simp
            all_goals with_reducible rfl
          (try simp only [Act.put, List.setIfInBounds_toArray, List.set_cons_zero, List.set_cons_succ])
          refine take1 (i := 4) (v := ?_) rfl (by kernel_rfl) (by kernel_rfl) (by kernel_rfl) (by kernel_rfl) (by kernel_rfl) (by decide) (by decide) (fun _ _ _ h => h) (Or.inl ⟨by rfl, ?_⟩) hR hR ?_
          rotate_left
          · intro w hSw
            (try unfold SY at hSw)
            go_simp
            all_goals with_reducible rfl
          (try simp only [Act.put, List.setIfInBounds_toArray, List.set_cons_zero, List.set_cons_succ])
          refine take1 (i := 5) (v := ?_) rfl (by kernel_rfl) (by kernel_rfl) (by kernel_rfl) (by kernel_rfl) (by kernel_rfl) (by decide) (by decide) (fun _ _ _ h => h) (Or.inl ⟨by rfl, ?_⟩) hR hR ?_
          rotate_left
          · intro w hSw
            (try unfold SY at hSw)
            go_simp
            all_goals with_reducible rfl
          (try simp only [Act.put, List.setIfInBounds_toArray, List.set_cons_zero, List.set_cons_succ])
          refine take1 (i := 6) (v := ?_) rfl (by kernel_rfl) (by kernel_rfl) (by kernel_rfl) (by kernel_rfl) (by kernel_rfl) (by decide) (by decide) (fun _ _ _ h => h) (Or.inl ⟨by rfl, ?_⟩) hR hR ?_
          rotate_left
          · intro w hSw
            (try unfold SY at hSw)
            go_simp
            all_goals with_reducible rfl
          (try simp only [Act.put, List.setIfInBounds_toArray, List.set_cons_zero, List.set_cons_succ])
          refine take1 (i := 7) (v := ?_) rfl (by kernel_rfl) (by kernel_rfl) (by kernel_rfl) (by kernel_rfl) (by kernel_rfl) (by decide) (by decide) (fun _ _ _ h => h) (Or.inl ⟨by rfl, ?_⟩) hR hR ?_
          rotate_left
          · intro w hSw
            (try unfold SY at hSw)
            go_simp
            all_goals with_reducible rfl
          (try simp only [Act.put, List.setIfInBounds_toArray, List.set_cons_zero, List.set_cons_succ])
          refine take1 (i := 8) (v := ?_) rfl (by kernel_rfl) (by kernel_rfl) (by kernel_rfl) (by kernel_rfl) (by kernel_rfl) (by decide) (by decide) (fun _ _ _ h => h) (Or.inl ⟨by rfl, ?_⟩) hR hR ?_
          rotate_left
          · intro w hSw
            (try unfold SY at hSw)
            go_simp
            all_goals with_reducible rfl
          (try simp only [Act.put, List.setIfInBounds_toArray, List.set_cons_zero, List.set_cons_succ])
          refine take1 (i := 9) (v := ?_) rfl (by kernel_rfl) (by kernel_rfl) (by kernel_rfl) (by kernel_rfl) (by kernel_rfl) (by decide) (by decide) (fun _ _ _ h => h) (Or.inl ⟨by rfl, ?_⟩) hR hR ?_
          rotate_left
          · intro w hSw
            (try unfold SY at hSw)
            go_simp
            all_goals with_reducible rfl
          (try simp only [Act.put, List.setIfInBounds_toArray, List.set_cons_zero, List.set_cons_succ])
          refine take1 (i := 10) (v := ?_) rfl (by kernel_rfl) (by kernel_rfl) (by kernel_rfl) (by kernel_rfl) (by kernel_rfl) (by decide) (by decide) (fun _ _ _ h => h) (Or.inl ⟨by rfl, ?_⟩) hR hR ?_
          rotate_left
          · intro w hSw
            (try unfold SY at hSw)
            go_simp
            all_goals with_reducible rfl
          (try simp only [Act.put, List.setIfInBounds_toArray, List.set_cons_zero, List.set_cons_succ])
          refine stepT (i := 11) (by kernel_rfl) rfl (fun K hK => ?_)
          go_simp
          refine hK.out _ _ ⟨fun h => absurd h (by decide), fun h => absurd h (by decide)⟩ ?_
          clear hK K
          (try simp only [Act.put, List.setIfInBounds_toArray, List.set_cons_zero, List.set_cons_succ])
          refine doneT (by kernel_rfl) ?_ _
          go_wp2_with fail
          go_roundg q2
          case measure => omega
          case rel => exact ⟨k + 1, by omega, by go_num, Lib.hid (HS.out.recast (fun j l hj hl => by
            rw [HT.out, cF_snoc]
            try dsimp only
            by_cases h : j = x ∧ l = y
            · rw [if_pos h, if_pos (by omega)]
            · rw [if_neg h, if_neg (by omega)]))⟩
    · obtain ⟨a9, c9, hlv⟩ : ∃ a9 c9, lv = .slice a9 i c9 := own_slice HAB.out.hl
      subst hlv
      have j1 : (i : Int) < (n : Int) := by omega
      obtain ⟨R, hR⟩ : ∃ R, (wr.alloc (.cells #[.int .i64 (n : Int)] 3)).drew.heap.size = R := ⟨_, rfl⟩
      have HRR := Lib.hid hR
      have HRP : Hid (Calls Tryd.prog 50 #[.slice (some ⟨wr.heap.size, 0, none⟩) 1 1, .int .i64 (La : Int)] (wr.alloc (.cells #[.int .i64 (n : Int)] 3)).drew fun e w' => e = .returned (rowW La R) ∧ IRow w' R La (fun _ => (n : Int)) ∧ Below (wr.alloc (.cells #[.int .i64 (n : Int)] 3)).drew.heap.size (wr.alloc (.cells #[.int .i64 (n : Int)] 3)).drew w') := Lib.hid (by
        rw [← hR]
        exact repeatC_any La wr.heap.size 1 (n : Int) _ hL256 (by have h := heap_alloc_new wr (.cells #[.int .i64 (n : Int)] 3); show (wr.alloc (.cells #[.int .i64 (n : Int)] 3)).cell? _ = _; unfold World.cell?; rw [h]; rfl))
      go_upto_region 10 with fail
      have hR0 : SZ p w.heap.size (.slice a9 i c9) (La : Int) wr.drew := ⟨p2, x1⟩
      clear x1 x2 x3 p1 p2 p3 hR
      refine regionT (T := T2 10 10 (SZ p w.heap.size (.slice a9 i c9) (La : Int)) (SZ p w.heap.size (.slice a9 i c9) (La : Int))) hmx ?_
      have hR := hR0
      refine take1 (i := 0) (v := ?_) rfl (by kernel_rfl) (by kernel_rfl) (by kernel_rfl) (by kernel_rfl) (by kernel_rfl) (by decide) (by decide) (fun _ _ _ h => h) (Or.inl ⟨by rfl, ?_⟩) hR hR ?_
      rotate_left
      · intro w hSw
        (try unfold SZ at hSw)
        go_simp
        all_goals with_reducible rfl
      (try simp only [Act.put, List.setIfInBounds_toArray, List.set_cons_zero, List.set_cons_succ])
      refine take1 (i := 1) (v := ?_) rfl (by kernel_rfl) (by kernel_rfl) (by kernel_rfl) (by kernel_rfl) (by kernel_rfl) (by decide) (by decide) (fun _ _ _ h => h) (Or.inl ⟨by rfl, ?_⟩) hR hR ?_
      rotate_left
      · intro w hSw
        (try unfold SZ at hSw)
        go_simp
        all_goals with_reducible rfl
      (try simp only [Act.put, List.setIfInBounds_toArray, List.set_cons_zero, List.set_cons_succ])
      refine take1 (i := 2) (v := ?_) rfl (by kernel_rfl) (by kernel_rfl) (by kernel_rfl) (by kernel_rfl) (by kernel_rfl) (by decide) (by decide) (fun _ _ _ h => h) (Or.inl ⟨by rfl, ?_⟩) hR hR ?_
      rotate_left
      · intro w hSw
        (try unfold SZ at hSw)
        go_simp
        all_goals with_reducible rfl
      (try simp only [Act.put, List.setIfInBounds_toArray, List.set_cons_zero, List.set_cons_succ])
      refine take1 (i := 4) (v := ?_) rfl (by kernel_rfl) (by kernel_rfl) (by kernel_rfl) (by kernel_rfl) (by kernel_rfl) (by decide) (by decide) (fun _ _ _ h => h) (Or.inl ⟨by rfl, ?_⟩) hR hR ?_
      rotate_left
      · intro w hSw
        (try unfold SZ at hSw)
        go_simp
        all_goals with_reducible rfl
      (try simp only [Act.put, List.setIfInBounds_toArray, List.set_cons_zero, List.set_cons_succ])
      refine take1 (i := 5) (v := ?_) rfl (by kernel_rfl) (by kernel_rfl) (by kernel_rfl) (by kernel_rfl) (by kernel_rfl) (by decide) (by decide) (fun _ _ _ h => h) (Or.inl ⟨by rfl, ?_⟩) hR hR ?_
      rotate_left
      · intro w hSw
        (try unfold SZ at hSw)
        go_simp
        all_goals with_reducible rfl
      (try simp only [Act.put, List.setIfInBounds_toArray, List.set_cons_zero, List.set_cons_succ])
      refine stepT (i := 3) (by kernel_rfl) rfl (fun K hK => ?_)
      go_simp
      have hR3 : SZ p w.heap.size (.slice a9 i c9) (La : Int) (wr.alloc (.cells #[.int .i64 (n : Int)] 3)).drew := (show SZ p w.heap.size (.slice a9 i c9) (La : Int) wr from hR0).keep (below1 wr (.cells #[.int .i64 (n : Int)] 3)).drew
      refine hK.out _ _ ⟨fun _ => hR3, fun _ => hR3⟩ ?_
      clear hK K hR
      have hR := hR3
      (try simp only [Act.put, List.setIfInBounds_toArray, List.set_cons_zero, List.set_cons_succ])
      refine stepT (i := 6) (by kernel_rfl) rfl (fun K hK => ?_)
      go_simp
      go_at_call 50
      (with_reducible refine HRP.out.mono ?_)
      rintro e0 W5 ⟨rfl, hrow, b5⟩
      have hR6 : SZ p w.heap.size (.slice a9 i c9) (La : Int) W5 := hR3.keep b5
      have HW5 := Lib.hid (show Below wr.heap.size wr W5 from ((below1 wr (.cells #[.int .i64 (n : Int)] 3)).drew).trans (b5.mono (below1 wr (.cells #[.int .i64 (n : Int)] 3)).drew.size))
      have h5 := HAB.out.keep HW5.out
      have hown := h5.hl
      refine hK.out _ _ ⟨fun _ => hR6, fun _ => hR6⟩ ?_
      clear hK K hR
      have hR := hR6
      (try simp only [Act.put, List.setIfInBounds_toArray, List.set_cons_zero, List.set_cons_succ])
      refine stepT (i := 7) (by kernel_rfl) rfl (fun K hK => ?_)
      go_simp
      have hR7 := hR6.keep (below1 W5 (.cells #[rowW La R] 25))
      refine hK.out _ _ ⟨fun _ => hR7, fun _ => hR7⟩ ?_
      clear hK K hR
      have hR := hR7
      (try simp only [Act.put, List.setIfInBounds_toArray, List.set_cons_zero, List.set_cons_succ])
      refine stepT (i := 8) (by kernel_rfl) rfl (fun K hK => ?_)
      refine step_append_lies _ (by rfl) (.tmp 33) (.tmp 39) 28 (by rfl) (p + 1) 25 i0 (.slice none 0 0) 1 24 Tryd.underlying28 hi hz0 hz1 hz2 rfl (by decide) (.slice a9 i c9) i _ (by rfl) (hown.alloc _) ⟨W5.heap.size, 0, none⟩ 1 1 [rowW La R] (by rfl) (by rfl) (cell_one_row _ _ _) (by intro u hu; simp at hu; subst hu; rfl) (by decide) (by unfold maxLen; omega) (by omega) (by rw [World.size_alloc]; have h7 := h5.lt; omega) _ rfl ?_
      intro g9 d9 W4 r1 r2 r3 r4
      have hp4 := h5.side (j := 0) _ r2 h5.hx (by decide)
      have hg4 := h5.side (j := 0) _ r2 ((h5.hb.block w.heap.size (by omega)).trans HGX.out) (by decide)
      have hR8 : SZ p w.heap.size (.slice a9 i c9) (La : Int) W4 := ⟨by simp [World.cell?, hp4], by simp [World.cell?, hg4]⟩
      have c4 : W4.cell? ⟨p, 1, none⟩ = some (.slice a9 i c9) := hR8.1
      have f4 : W4.frozen? ⟨p, 1, none⟩ = false := by simp [World.frozen?, hp4]
      have HF := Lib.hid (HAB.out.app hpw (R := R) (by rw [← HRR.out]; exact (below1 wr (.cells #[.int .i64 (n : Int)] 3)).drew.size) HW5.out hrow (.cells #[rowW La R] 25) r1 r2)
      refine hK.out _ _ ⟨fun _ => hR8, fun _ => hR8⟩ ?_
      clear hK K hR
      have hR := hR8
      (try simp only [Act.put, List.setIfInBounds_toArray, List.set_cons_zero, List.set_cons_succ])
      refine take1 (i := 9) (v := ?_) rfl (by kernel_rfl) (by kernel_rfl) (by kernel_rfl) (by kernel_rfl) (by kernel_rfl) (by decide) (by decide) (fun _ _ _ h => h) (Or.inl ⟨by rfl, ?_⟩) hR hR ?_
      rotate_left
      · intro w hSw
        (try unfold SZ at hSw)
        go_simp
        all_goals with_reducible rfl
      (try simp only [Act.put, List.setIfInBounds_toArray, List.set_cons_zero, List.set_cons_succ])
      refine stepT (i := 10) (by kernel_rfl) rfl (fun K hK => ?_)
      go_simp
      refine hK.out _ _ ⟨fun h => absurd h (by decide), fun h => absurd h (by decide)⟩ ?_
      clear hK K
      (try simp only [Act.put, List.setIfInBounds_toArray, List.set_cons_zero, List.set_cons_succ])
      refine doneT (by kernel_rfl) ?_ _
      go_wp2_with fail
      go_roundg q
      case measure => omega
      case rel => exact ⟨i + 1, _, _, _, by omega, by go_num, Lib.hid (fun j l hj hl => by
        try dsimp only
        by_cases hji : j = i
        · rw [if_pos hji]
        · rw [if_neg hji]; exact HFF.out j l (by omega) hl), HF⟩
end Go.Proofs.YtbcbeffoacfpdaaDoor

namespace Go.Proofs.YtbcbeffoacfpdaaDoor
open Go.RowKit
set_option linter.unusedSimpArgs false
set_option linter.unusedVariables false

set_option maxRecDepth 100000 in
set_option maxHeartbeats 6400000 in
theorem Complete_bad (La n : Nat) (es : List E3) (v : Value) (w : World) (hrd : EdgesRd w v es) (hvg : VG (La : Int) (n : Int) es) (hd : detE es = false) :
    Calls Tryd.prog 21 #[grV (La : Int) (n : Int) v] w fun e w' => e = .returned (.tuple #[.agg #[.int .i64 0, .slice none 0 0], .slice none 0 0, .int .i64 8]) ∧ Below w.heap.size w w' := by
  have hl := hvg.len
  have hdr : detR (La : Int) (n : Int) es = (false, 0) := by unfold detR; rw [if_pos hvg.chk, hd]
  have HDT : Hid (∀ W, EdgesRd W v es → Calls Tryd.prog 25 #[grV (La : Int) (n : Int) v] W fun e W' => e = .returned (.tuple #[.bool false, .int .i64 0]) ∧ Below W.heap.size W W') := Lib.hid (fun W h => by
    refine (deterministic_any La n es v W h (by omega)).mono ?_
    rw [hdr]
    exact fun e W' h => h)
  have HRD := Lib.hid hrd
  obtain ⟨a, c, hv⟩ := hrd.form
  subst hv
  obtain ⟨W0, hW0⟩ : ∃ W0, (w.alloc (.cells #[.int .i64 (La : Int), .int .i64 (n : Int), .slice a es.length c] 24)).alloc (.cells #[.int .i64 0, .slice none 0 0] 43) = W0 := ⟨_, rfl⟩
  have B0 := Lib.hid (show Below w.heap.size w W0 by rw [← hW0]; exact below_more (below1 w _) (Nat.le_refl _) (below1 _ _))
  have z0 : W0.heap.size = w.heap.size + 2 := by rw [← hW0, World.size_alloc, World.size_alloc]
  have GX0 := Lib.hid (show W0.heap[w.heap.size]? = some (.cells #[.int .i64 (La : Int), .int .i64 (n : Int), .slice a es.length c] 24 (0, 0)) by
    rw [← hW0]
    exact (Below.heap_alloc _ _ _ (by rw [World.size_alloc]; omega)).trans (heap_alloc_new w _))
  have RX0 := Lib.hid (show W0.heap[w.heap.size + 1]? = some (.cells #[.int .i64 0, .slice none 0 0] 43 (0, 0)) by
    rw [← hW0]
    have h := heap_alloc_new (w.alloc (.cells #[.int .i64 (La : Int), .int .i64 (n : Int), .slice a es.length c] 24)) (.cells #[.int .i64 0, .slice none 0 0] 43)
    rw [World.size_alloc] at h
    exact h)
  have x1 : W0.cell? ⟨w.heap.size, 0, none⟩ = some (.int .i64 (La : Int)) := by unfold World.cell?; rw [GX0.out]; rfl
  have x2 : W0.cell? ⟨w.heap.size, 1, none⟩ = some (.int .i64 (n : Int)) := by unfold World.cell?; rw [GX0.out]; rfl
  have x3 : W0.cell? ⟨w.heap.size, 2, none⟩ = some (.slice a es.length c) := by unfold World.cell?; rw [GX0.out]; rfl
  clear hrd hvg hd hdr
  go_enter Tryd.func21, Tryd.ntmps21
  go_wp2_with (go_at_call 25; (with_reducible refine (HDT.out _ (HRD.out.keep B0.out)).mono ?_); rintro e W1 ⟨rfl, b1⟩; (have B1 := Lib.hid (B0.out.trans (b1.mono B0.out.size))); (have hrs := (b1.block (w.heap.size + 1) (by omega)).trans RX0.out); (have r1 : W1.cell? ⟨w.heap.size + 1, 0, none⟩ = some (.int .i64 0) := by unfold World.cell?; rw [hrs]; rfl); (have r2 : W1.cell? ⟨w.heap.size + 1, 1, none⟩ = some (.slice none 0 0) := by unfold World.cell?; rw [hrs]; rfl); (have r3 : W1.frozen? ⟨w.heap.size + 1, 0, none⟩ = false := by unfold World.frozen?; rw [hrs]; rfl); (have r4 : W1.frozen? ⟨w.heap.size + 1, 1, none⟩ = false := by unfold World.frozen?; rw [hrs]; rfl); clear b1 hrs)
  refine bodyPost_ret (v := .tuple #[.agg #[.int .i64 0, .slice none 0 0], .slice none 0 0, .int .i64 8]) (by simp [results, Tryd.results21, go_sem, r1, r2, r3, r4]) rfl ?_
  exact ⟨rfl, (B1.out.setCell (p := ⟨w.heap.size + 1, 0, none⟩) (Nat.le_succ _) _).setCell (p := ⟨w.heap.size + 1, 1, none⟩) (Nat.le_succ _) _⟩
end Go.Proofs.YtbcbeffoacfpdaaDoor

namespace Go.Proofs.YtbcbeffoacfpdaaDoor
set_option linter.unusedVariables false

theorem foldl_same {j l : Nat} {u : Int} : ∀ (es : List E3) (x0 : Int), (∀ e ∈ es, e.1 = (j : Int) → e.2.1 = (l : Int) → e.2.2 = u) → ((∃ e ∈ es, e.1 = (j : Int) ∧ e.2.1 = (l : Int)) ∨ x0 = u) → es.foldl (fun x e => if e.1 = (j : Int) ∧ e.2.1 = (l : Int) then e.2.2 else x) x0 = u
  | [], x0, _, h => by
    rcases h with ⟨e, he, -⟩ | h
    · cases he
    · exact h
  | e :: r, x0, hall, h => by
    rw [List.foldl_cons]
    refine foldl_same r _ (fun e2 he2 => hall e2 (List.mem_cons_of_mem _ he2)) ?_
    by_cases hm : e.1 = (j : Int) ∧ e.2.1 = (l : Int)
    · right; rw [if_pos hm]; exact hall e List.mem_cons_self hm.1 hm.2
    · rw [if_neg hm]
      rcases h with ⟨e2, he2, h2⟩ | h
      · rcases List.mem_cons.1 he2 with rfl | he2
        · exact absurd h2 hm
        · exact .inl ⟨e2, he2, h2⟩
      · exact .inr h
theorem cF_hit {n j l : Nat} {es : List E3} {u : Int} (hall : ∀ e ∈ es, e.1 = (j : Int) → e.2.1 = (l : Int) → e.2.2 = u) (h : ∃ e ∈ es, e.1 = (j : Int) ∧ e.2.1 = (l : Int)) : cF n es j l = u := foldl_same es _ hall (.inl h)
theorem cF_miss {n j l : Nat} {es : List E3} (h : ∀ e ∈ es, ¬ (e.1 = (j : Int) ∧ e.2.1 = (l : Int))) : cF n es j l = (n : Int) := foldl_same es _ (fun e he h1 h2 => absurd ⟨h1, h2⟩ (h e he)) (.inr rfl)
theorem code_inj {La j l j2 l2 : Nat} (hl : l < La) (hl2 : l2 < La) (h : j * La + l = j2 * La + l2) : j = j2 ∧ l = l2 := by
  rcases Nat.lt_trichotomy j j2 with h1 | h1 | h1
  · have := Nat.mul_le_mul_right La (show j + 1 ≤ j2 from h1)
    rw [Nat.succ_mul] at this
    omega
  · subst h1; omega
  · have := Nat.mul_le_mul_right La (show j2 + 1 ≤ j from h1)
    rw [Nat.succ_mul] at this
    omega
theorem code_lt {La n j l : Nat} (hj : j < n) (hl : l < La) : j * La + l < n * La := by
  have := Nat.mul_le_mul_right La (show j + 1 ≤ n from hj)
  rw [Nat.succ_mul] at this
  omega
section
variable {es : List E3} {La n : Nat}
/-- Where an edge is missing there are fewer than there can be. -/
theorem missing_lt (hvg : VG (La : Int) (n : Int) es) (hd : detE es = true) {s l : Nat} (hs : s < n) (hl : l < La) (h : ∀ e ∈ es, ¬ (e.1 = (s : Int) ∧ e.2.1 = (l : Int))) : es.length ≠ n * La := by
  have hb : ∀ e ∈ es, e.1.toNat < n ∧ e.2.1.toNat < La ∧ e.1 = (e.1.toNat : Int) ∧ e.2.1 = (e.2.1.toNat : Int) := fun e he => by
    have := okE_iff.1 (hvg.ok e he); omega
  have hnd : (es.map fun e : E3 => e.1.toNat * La + e.2.1.toNat).Nodup := by
    refine List.pairwise_map.2 (((detE_pw2 hvg.asc).1 hd).imp_of_mem fun {x y} hx hy hne he => hne ?_)
    obtain ⟨a1, a2, a3, a4⟩ := hb x hx
    obtain ⟨b1, b2, b3, b4⟩ := hb y hy
    obtain ⟨c1, c2⟩ := code_inj a2 b2 he
    omega
  have hnd2 : ((s * La + l) :: (es.map fun e : E3 => e.1.toNat * La + e.2.1.toNat)).Nodup := by
    rw [List.nodup_cons]
    refine ⟨fun hm => ?_, hnd⟩
    obtain ⟨e, he, h1⟩ := List.mem_map.1 hm
    obtain ⟨a1, a2, a3, a4⟩ := hb e he
    obtain ⟨c1, c2⟩ := code_inj a2 hl h1
    exact h e he ⟨by omega, by omega⟩
  have := nodup_le hnd2 (m := List.range (n * La)) (fun x hx => by
    rw [List.mem_range]
    rcases List.mem_cons.1 hx with rfl | hx
    · exact code_lt hs hl
    · obtain ⟨e, he, rfl⟩ := List.mem_map.1 hx
      obtain ⟨a1, a2, -, -⟩ := hb e he
      exact code_lt a1 a2)
  rw [List.length_cons, List.length_map, List.length_range] at this
  omega
/-- The automaton goes where the step goes. -/
theorem step_cases (hvg : VG (La : Int) (n : Int) es) (hd : detE es = true) {s l : Nat} (hs : s < n) (hl : l < La) :
    (∃ u : Nat, u < n ∧ stN es (2 ^ s) l = 2 ^ u ∧ cF n es s l = (u : Int)) ∨ (stN es (2 ^ s) l = 0 ∧ cF n es s l = (n : Int) ∧ es.length ≠ n * La) := by
  have hs64 : s < 64 := by have := hvg.s2; omega
  by_cases h0 : stN es (2 ^ s) l = 0
  · right
    have hno : ∀ e ∈ es, ¬ (e.1 = (s : Int) ∧ e.2.1 = (l : Int)) := fun e he hm => by
      have hk := okE_iff.1 (hvg.ok e he)
      have hn64 := hvg.s2
      have hbit : (stN es (2 ^ s) l).testBit e.2.2.toNat = true := by
        rw [stN_bit, Bool.and_eq_true, decide_eq_true_iff, List.any_eq_true]
        refine ⟨by omega, e, he, ?_⟩
        simp only [Bool.and_eq_true, beq_iff_eq, decide_eq_true_iff, Nat.testBit_two_pow]
        exact ⟨⟨⟨⟨by omega, by omega⟩, by omega⟩, hm.2⟩, by omega⟩
      rw [h0, Nat.zero_testBit] at hbit
      cases hbit
    exact ⟨h0, cF_miss hno, missing_lt hvg hd hs hl hno⟩
  · left
    obtain ⟨u, hu, hst⟩ := st_det hvg hd s l h0
    refine ⟨u, hu, hst, ?_⟩
    have hbit : (stN es (2 ^ s) l).testBit u = true := by rw [hst, Nat.testBit_two_pow]; simp
    obtain ⟨e, he, h1, h2, h3⟩ := stN_one hbit
    exact cF_hit (fun f hf k1 k2 => by
      have := det_uq hvg hd hf he (by omega) (by omega)
      rw [this, h3]) ⟨e, he, h1, h2⟩
end
end Go.Proofs.YtbcbeffoacfpdaaDoor
