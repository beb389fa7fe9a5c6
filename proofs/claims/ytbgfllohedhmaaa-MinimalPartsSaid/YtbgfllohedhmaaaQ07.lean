/- What slices.Repeat of one int returns. Condition: the int can be read. What graph.part returns. Conditions: at most 64 states, edges between states. What graph.checkSet, Keep and Essential return. Conditions: the graph is valid; a list's length is one of a slice. -/
import Derived.Test.YtbgfllohedhmaaaQ06
import Derived.Test.YtbgfllohedhmaaaQ05

namespace Go.Proofs.Ytbgfllohedhmaaa
open Go.RowKit
set_option linter.unusedSimpArgs false
set_option linter.unusedVariables false

theorem rowIs_repH {t : TypeId} {g n : Nat} (v : Value) : ∀ (m o : Nat) (W : World) (F : Nat → Value), W.rowIs g t n F → (W.setCells g o (List.replicate m v)).rowIs g t n (fun i => if o ≤ i ∧ i < o + m then v else F i)
  | 0, o, W, F, h => World.rowIs.congr h (fun i _ => by rw [if_neg (by omega)])
  | m + 1, o, W, F, h => by
    rw [List.replicate_succ]
    refine World.rowIs.congr (rowIs_repH v m (o + 1) _ _ (World.rowIs.set h o v)) (fun i _ => ?_)
    by_cases h1 : i = o
    · subst h1
      rw [if_neg (by omega), if_pos rfl, if_pos (by omega)]
    · by_cases h2 : o + 1 ≤ i ∧ i < o + 1 + m
      · rw [if_pos h2, if_pos (by omega)]
      · rw [if_neg h2, if_neg h1, if_neg (by omega)]
theorem make_intsH (n : Nat) (hn : n ≤ 100000) (W : World) : (Instr.makeSlice 27 (.int .i64 (n : Int)) (.int .i64 (n : Int))).run Try.prog W = .ok (.slice (some ⟨W.heap.size, 0, none⟩) n n) (W.alloc (.cells (madeCells #[(.int .i64 0)] n) 3)) :=
  run_make_row' _ _ _ 8 Try.underlying27 Try.infoI64 rfl _ _ n (by omega) (by omega) W
structure CIH (w : World) (z : Int) (R n k : Nat) (W : World) : Prop where
  b : Below w.heap.size w W
  r : W.rowIs R 3 n (fun j => if j < k then (.int .i64 z) else .int .i64 0)
theorem infoIntsH : (Try.prog.info? 3).map (·.size) = some 1 := by kernel_rfl
theorem sizeIntH : ∀ w, (Go.sizeOf 3).run Try.prog w = .ok 1 w := fun w => by kernel_rfl
set_option maxRecDepth 100000 in
theorem copy_intsH {w W : World} {z : Int} {R n k : Nat} (h : CIH w z R n k W) (hR : w.heap.size ≤ R) (hk : k ≤ n) (a : Addr) (sLen cap : Nat) (ty : TypeId) (m : Nat) (hm : m = Nat.min sLen (n - k)) (hc : ∀ j, j < m → W.cell? (a.add j) = some (.int .i64 z)) :
    ∃ W', (Builtin.copy_ #[27, 27] ty #[.slice (some ⟨R, k, none⟩) (n - k) (n - k), .slice (some a) sLen cap]).run Try.prog W = .ok (.int .i64 (m : Int)) W' ∧ CIH w z R n (k + m) W' := by
  have hm2 : m ≤ n - k := by rw [hm]; exact Nat.min_le_right _ _
  have hr := run_copy_cells (P := Try.prog) W 27 27 ty 3 R k (n - k) (n - k) a sLen cap (List.replicate m (.int .i64 z)) Try.underlying27 infoIntsH (by rw [List.length_replicate]; exact hm)
    (fun j u hj => by
      have hj2 : j < m := by have := (List.getElem?_eq_some_iff.1 hj).1; rwa [List.length_replicate] at this
      rw [List.getElem?_replicate, if_pos hj2] at hj
      injection hj with hj
      subst hj
      exact hc j hj2)
    (fun j hj => by rw [List.length_replicate] at hj; rw [World.rowIs.cell h.r (show k + j < n by omega)]; rfl) (fun j hj => by rw [List.length_replicate] at hj; exact World.rowIs.frozen h.r _)
    (fun u hu => by rw [List.eq_of_mem_replicate hu]; rfl)
  rw [List.length_replicate] at hr
  refine ⟨_, hr, ?_⟩
  refine ⟨Lib.below_setCells R hR _ _ h.b, World.rowIs.congr (rowIs_repH _ m k W _ h.r) (fun i _ => ?_)⟩
  by_cases h1 : k ≤ i ∧ i < k + m
  · rw [if_pos h1]
    rw [if_pos (by omega)]
  · rw [if_neg h1]
    by_cases h2 : i < k
    · rw [if_pos h2, if_pos (by omega)]
    · rw [if_neg h2, if_neg (by omega)]
theorem CIH.drew {w W : World} {z : Int} {R n k : Nat} (h : CIH w z R n k W) : CIH w z R n k W.drew := ⟨h.b.drew, h.r⟩
set_option maxRecDepth 100000 in
set_option maxHeartbeats 6400000 in
theorem repeatH_any (n b cap : Nat) (z : Int) (w : World) (hn : n ≤ 256) (hcell : w.cell? ⟨b, 0, none⟩ = some (.int .i64 z)) :
    Calls Try.prog 31 #[.slice (some ⟨b, 0, none⟩) 1 cap, .int .i64 (n : Int)] w fun e w' => e = .returned (.slice (some ⟨w.heap.size, 0, none⟩) n n) ∧ w'.rowIs w.heap.size 3 n (fun _ => (.int .i64 z)) ∧ Below w.heap.size w w' := by
  have hM : ∀ W, Calls Try.prog 44 #[.int .u64 1, .int .u64 (n : Int)] W fun e w' => e = .returned (.tuple #[.int .u64 0, .int .u64 (n : Int)]) ∧ w' = W := fun W => by
    have k := Try.bits_Mul 1 n (by omega) (by omega) W
    rw [show 1 * n / 18446744073709551616 = 0 by omega, show 1 * n % 18446744073709551616 = n by omega] at k
    exact k
  have HM := Lib.hid hM
  clear hM
  have hmx : Try.prog.follows .mixedOrders = true := by kernel_rfl
  have hmk := make_intsH n (by omega)
  have C0 : CIH w z w.heap.size n 0 (w.alloc (.cells (madeCells #[(.int .i64 0)] n) 3)) :=
    ⟨below1 w _, World.rowIs.congr (World.rowIs_made w _ n _) (fun j _ => by rw [if_neg (by omega)])⟩
  obtain ⟨m, hm⟩ : ∃ m, m = Nat.min 1 (n - 0) := ⟨_, rfl⟩
  obtain ⟨w1, hr1, C1⟩ := copy_intsH C0 (Nat.le_refl _) (Nat.zero_le _) ⟨b, 0, none⟩ 1 cap 3 m hm (fun j hj => by
    have h1 : m ≤ 1 := by rw [hm]; exact Nat.min_le_left _ _
    obtain rfl : j = 0 := by omega
    exact cell_keep hcell (below1 w _))
  have hm2 : m ≤ n ∧ (n = m ∨ (1 ≤ m ∧ m ≤ n)) := by
    rcases Nat.eq_zero_or_pos n with h | h
    · subst h; have : m = 0 := hm; omega
    · have : m = 1 := by rw [hm, Nat.sub_zero]; exact Nat.min_eq_left h
      omega
  rw [Nat.sub_zero] at hr1
  rw [Nat.zero_add] at C1
  have HC1 := Lib.hid C1
  have d0 : decide ((9223372036854775807 : Int) < (n : Int)) = false := decide_eq_false (by omega)
  clear C0 C1 hcell hm
  go_enter Try.func31, Try.ntmps31
  go_wp2_with (first
    | (go_at_call 44; (with_reducible refine (HM.out _).mono ?_); rintro e W0 ⟨rfl, hW⟩; (rw [hW]); (clear hW))
    | (at_builtin; refine Lib.wpList_copy_run _ rfl _ _ 27 27 rfl _ _ rfl rfl hr1 ?_))
  clear hr1 HM hmk
  go_loopg [8] n (fun q s8 wx => ∃ k : Nat, k ≤ n ∧ n - k ≤ q ∧ (n = k ∨ 1 ≤ k) ∧ s8 = .int .i64 (k : Int) ∧ Hid (CIH w z w.heap.size n k wx))
  case atStart => exact ⟨m, hm2.1, by omega, by omega, rfl, HC1⟩
  case round =>
    clear HC1
    obtain ⟨k, hkn, hgk, hk1, rfl, HB⟩ := hrel
    by_cases hlt : k < n
    · have hmin : min (k : Int) (n : Int) = (k : Int) := by omega
      obtain ⟨m', hm'⟩ : ∃ m', m' = Nat.min k (n - k) := ⟨_, rfl⟩
      have hmk : m' ≤ k := by rw [hm']; exact Nat.min_le_left _ _
      have hmn : m' ≤ n - k := by rw [hm']; exact Nat.min_le_right _ _
      have hm1 : 1 ≤ m' := by
        rw [hm']
        exact Nat.le_min.2 ⟨by omega, by omega⟩
      obtain ⟨w2, hr2, C2⟩ := copy_intsH HB.out.drew (Nat.le_refl _) hkn ⟨w.heap.size, 0, none⟩ k n 3 m' hm' (fun j hj => by
        rw [show (⟨w.heap.size, 0, none⟩ : Addr).add j = ⟨w.heap.size, j, none⟩ by unfold Addr.add; split <;> simp_all]
        rw [World.rowIs.cell HB.out.drew.r (show j < n by omega), if_pos (by omega)])
      have hsl1 : ∀ W, (Instr.slice 27 (.slice (some ⟨w.heap.size, 0, none⟩) n n) (some (.int .i64 (k : Int))) none none).run Try.prog W = .ok (.slice (some ⟨w.heap.size, k, none⟩) (n - k) (n - k)) W := fun W => by
        have h := Lib.run_slice_tailV W 27 3 Try.underlying27 sizeIntH w.heap.size n k (by omega)
        unfold Lib.tailV at h
        rw [if_neg (by omega)] at h
        exact h
      have hB2 := Lib.hid C2
      have dk : (0 : Int) ≤ (k : Int) := by omega
      have hw : IntKind.i64.wrap ((k : Int) + (m' : Int)) = (k : Int) + (m' : Int) := by clear hmin; rw [IntKind.wrap_i64]; omega
      have dkn : (k : Int) ≤ (n : Int) := by omega
      clear C2 HB hm'
      go_wp2_with fail
      go_region_law (refine step_copy _ rfl (.tmp 41) (.tmp 44) 27 27 rfl (.slice (some ⟨w.heap.size, k, none⟩) (n - k) (n - k)) (.slice (some ⟨w.heap.size, 0, none⟩) k n) (by simp [Act.eval, Act.put]) (by simp [Act.eval, Act.put]) hr2 ?_)
      clear hr2 hsl1 hmin
      go_wp2
      go_roundg (n - (k + m'))
      case measure => omega
      case rel => exact ⟨k + m', by omega, by omega, by omega, by go_num, hB2⟩
    · obtain rfl : k = n := by omega
      have HB2 := Lib.hid (show wr.rowIs w.heap.size 3 k (fun _ => (.int .i64 z)) from World.rowIs.congr HB.out.r (fun i hi => by rw [if_pos hi]))
      have hb := HB.out.b
      clear HB
      go_wp2
      go_ret
      exact ⟨rfl, HB2.out, hb⟩
end Go.Proofs.Ytbgfllohedhmaaa

namespace Go.Proofs.Ytbgfllohedhmaaa
open Go.RowKit
set_option linter.unusedSimpArgs false
set_option linter.unusedVariables false

/-- Between two rounds of part's first loop. -/
structure P1 (w : World) (n : Nat) (L : Int) (v : Value) (p q : Nat) (f : Nat → Bool) (g : Nat → Int) (W : World) : Prop where
  rp : BRow W p n f
  rq : IRow W q n g
  ne : p ≠ q
  lp : w.heap.size + 1 < p
  lq : w.heap.size + 1 < q
  box : BoxG W w.heap.size L (n : Int) v
  res : BoxF W (w.heap.size + 1) 0 0 (.slice none 0 0)
  b : Below w.heap.size w W
section
variable {w W W' : World} {n p q : Nat} {L : Int} {v : Value} {f f' : Nat → Bool} {g g' : Nat → Int}
theorem P1.keep (h : P1 w n L v p q f g W) (hb : Below W.heap.size W W') : P1 w n L v p q f g W' :=
  ⟨h.rp.keep hb, h.rq.keep hb, h.ne, h.lp, h.lq, h.box.keep hb, h.res.keep hb, h.b.trans (hb.mono h.b.size)⟩
theorem P1.setP (h : P1 w n L v p q f g W) (i : Nat) (x : Bool) : P1 w n L v p q (fun j => if j = i then x else f j) g (W.setCell ⟨p, i, none⟩ (.bool x)) :=
  ⟨h.rp.set i x, h.rq.other (by exact Ne.symm h.ne) _, h.ne, h.lp, h.lq, boxG_other h.box (by have := h.lp; show p ≠ _; omega) _, h.res.other (by have := h.lp; show p ≠ _; omega) _, h.b.setCell (by have := h.lp; show _ ≤ p; omega) _⟩
theorem P1.setQ (h : P1 w n L v p q f g W) (i : Nat) (x : Int) : P1 w n L v p q f (fun j => if j = i then x else g j) (W.setCell ⟨q, i, none⟩ (.int .i64 x)) :=
  ⟨h.rp.other (by exact h.ne) _, h.rq.set i x, h.ne, h.lp, h.lq, boxG_other h.box (by have := h.lq; show q ≠ _; omega) _, h.res.other (by have := h.lq; show q ≠ _; omega) _, h.b.setCell (by have := h.lq; show _ ≤ q; omega) _⟩
theorem P1.congr (h : P1 w n L v p q f g W) (e1 : ∀ i, i < n → f i = f' i) (e2 : ∀ i, i < n → g i = g' i) : P1 w n L v p q f' g' W := { h with rp := h.rp.congr e1, rq := h.rq.congr e2 }
end
/-- Between two rounds of its second loop. -/
structure P2 (w : World) (n : Nat) (L : Int) (k : Nat) (v : Value) (p q pb : Nat) (f : Nat → Bool) (g : Nat → Int) (s : Value) (es : List E3) (W : World) : Prop where
  one : P1 w n L v p q f g W
  out : BoxF W pb L (k : Int) s
  hpb : p < pb ∧ q < pb
  own : EdgesAt W (pb + 1) s es
theorem P2.keep {w W W' : World} {n p q pb k : Nat} {L : Int} {v s : Value} {f : Nat → Bool} {g : Nat → Int} {es : List E3} (h : P2 w n L k v p q pb f g s es W) (hb : Below W.heap.size W W') : P2 w n L k v p q pb f g s es W' :=
  ⟨h.one.keep hb, h.out.keep hb, h.hpb, h.own.keep hb⟩
theorem BoxF.of_block {W W' : World} {p : Nat} {L S : Int} {v : Value} (h : BoxF W p L S v) (e : W'.heap[p]? = W.heap[p]?) : BoxF W' p L S v :=
  ⟨⟨(World.cell?_of_block (w := W) e).trans h.1.1, (World.cell?_of_block (w := W) e).trans h.1.2.1, (World.cell?_of_block (w := W) e).trans h.1.2.2⟩,
    (World.frozen?_of_block (w := W) e).trans h.2.1, (World.frozen?_of_block (w := W) e).trans h.2.2.1, (World.frozen?_of_block (w := W) e).trans h.2.2.2⟩
theorem BoxF.set2 {W : World} {p : Nat} {L S : Int} {v : Value} (h : BoxF W p L S v) (u : Value) : BoxF (W.setCell ⟨p, 2, none⟩ u) p L S u := by
  obtain ⟨⟨h1, h2, h3⟩, h4, h5, h6⟩ := h
  refine ⟨⟨?_, ?_, ?_⟩, ?_, ?_, ?_⟩ <;> simp [go_sem, h1, h2, h3, h4, h5, h6]
theorem P2.app {w W W4 : World} {n p q pb k : Nat} {L : Int} {v s s' : Value} {f : Nat → Bool} {g : Nat → Int} {es es' : List E3} (T : P2 w n L k v p q pb f g s es W) (o : Obj) (r2 : (W.alloc o).grownBy W4 s.ownBlock) (r1 : EdgesAt W4 (pb + 1) s' es') :
    P2 w n L k v p q pb f g s' es' (W4.setCell ⟨pb, 2, none⟩ s') ∧ W4.cell? ⟨pb, 2, none⟩ = some s ∧ W4.frozen? ⟨pb, 2, none⟩ = false := by
  have hlt := T.own.lt
  have hpb := T.out.lt
  have hk : ∀ k, k ≤ pb → W4.heap[k]? = W.heap[k]? := fun k h => (r2.block k (by rw [World.size_alloc]; omega) (fun e => by have := (hlt k e.symm).1; omega)).trans (Below.heap_alloc _ _ _ (by omega))
  obtain ⟨hp, hq⟩ := T.hpb
  have lp := T.one.lp
  have b4 : Below w.heap.size w W4 := (T.one.b.alloc T.one.b.size o).grown r2 (by rw [World.size_alloc]; have := T.one.b.size; omega) (fun k e => by have := (hlt k e).1; omega)
  have o4 := T.out.of_block (hk pb (Nat.le_refl _))
  have ow : BoxG W4 w.heap.size L (n : Int) v := ⟨(World.cell?_of_block (w := W) (hk w.heap.size (by omega))).trans T.one.box.1, (World.cell?_of_block (w := W) (hk w.heap.size (by omega))).trans T.one.box.2.1, (World.cell?_of_block (w := W) (hk w.heap.size (by omega))).trans T.one.box.2.2⟩
  have rs := T.one.res.of_block (hk (w.heap.size + 1) (by omega))
  refine ⟨⟨⟨BRow.other (World.rowIs.of_block T.one.rp (hk p (by omega))) (by exact Nat.ne_of_lt hp) _, IRow.other (World.rowIs.of_block T.one.rq (hk q (by omega))) (by exact Nat.ne_of_lt hq) _, T.one.ne, lp, T.one.lq,
    boxG_other ow (by show pb ≠ _; omega) _, rs.other (by show pb ≠ _; omega) _, b4.setCell (by show _ ≤ pb; omega) _⟩, o4.set2 _, T.hpb, ownsRow_setCell_below r1 (by exact Nat.lt_succ_self _) _⟩, o4.1.2.2, o4.2.2.2⟩
theorem P2.app' {w W W4 : World} {n p q pb k : Nat} {L : Int} {v : Value} {f : Nat → Bool} {g : Nat → Int} {es : List E3} {a9 : Option Addr} {m c9 g9 d9 : Nat} {x y z : Int} {o : Obj} (T : P2 w n L k v p q pb f g (.slice a9 m c9) es W.drew) (hm : es.length = m) (r2 : ((W.alloc o).drew).grownBy W4 (Value.slice a9 m c9).ownBlock)
    (r1 : W4.ownsRow (pb + 1) 42 3 (.slice (some ⟨g9, 0, none⟩) (m + 1) d9) (m + 1) (ecl es ++ [.int .i64 x, .int .i64 y, .int .i64 z])) :
    P2 w n L k v p q pb f g (.slice (some ⟨g9, 0, none⟩) (m + 1) d9) (es ++ [(x, y, z)]) (W4.setCell ⟨pb, 2, none⟩ (.slice (some ⟨g9, 0, none⟩) (m + 1) d9)) ∧ W4.cell? ⟨pb, 2, none⟩ = some (.slice a9 m c9) ∧ W4.frozen? ⟨pb, 2, none⟩ = false :=
  T.app o (show (W.drew.alloc o).grownBy W4 _ from r2) (by unfold EdgesAt; rw [ecl_snoc, List.length_append, hm]; exact r1)
/-- The cells that the statement of part's second loop reads, but for the list itself. -/
def S5 (P0 q x z : Nat) (y : Int) (nx nz : Nat) (W : World) : Prop := W.cell? ⟨P0, 0, none⟩ = some (.int .i64 (x : Int)) ∧ W.cell? ⟨P0, 1, none⟩ = some (.int .i64 y) ∧ W.cell? ⟨P0, 2, none⟩ = some (.int .i64 (z : Int)) ∧ W.cell? ⟨q, x, none⟩ = some (.int .i64 (nx : Int)) ∧ W.cell? ⟨q, z, none⟩ = some (.int .i64 (nz : Int))
theorem S5.keep {P0 q x z : Nat} {y : Int} {nx nz : Nat} {W W' : World} (h : S5 P0 q x z y nx nz W) (hb : Below W.heap.size W W') : S5 P0 q x z y nx nz W' := ⟨cell_keep h.1 hb, cell_keep h.2.1 hb, cell_keep h.2.2.1 hb, cell_keep h.2.2.2.1 hb, cell_keep h.2.2.2.2 hb⟩
theorem S5.blocks {P0 q x z : Nat} {y : Int} {nx nz : Nat} {W W' : World} (h : S5 P0 q x z y nx nz W) (h1 : W'.heap[P0]? = W.heap[P0]?) (h2 : W'.heap[q]? = W.heap[q]?) : S5 P0 q x z y nx nz W' :=
  ⟨(World.cell?_of_block (w := W) h1).trans h.1, (World.cell?_of_block (w := W) h1).trans h.2.1, (World.cell?_of_block (w := W) h1).trans h.2.2.1, (World.cell?_of_block (w := W) h2).trans h.2.2.2.1, (World.cell?_of_block (w := W) h2).trans h.2.2.2.2⟩
theorem S5.grown {P0 q x z : Nat} {y : Int} {nx nz : Nat} {W W' : World} {o : Obj} {row : Option Nat} (h : S5 P0 q x z y nx nz W) (r : ((W.alloc o).drew).grownBy W' row) (h1 : row ≠ some P0) (h2 : row ≠ some q) : S5 P0 q x z y nx nz W' := by
  have hp : P0 < W.heap.size := World.block_lt_of_cell? W ⟨P0, 0, none⟩ h.1
  have hq : q < W.heap.size := World.block_lt_of_cell? W ⟨q, x, none⟩ h.2.2.2.1
  have hs : ((W.alloc o).drew).heap.size = W.heap.size + 1 := World.size_alloc W o
  exact h.blocks ((r.block P0 (by omega) (Ne.symm h1)).trans (Below.heap_alloc _ _ _ hp)) ((r.block q (by omega) (Ne.symm h2)).trans (Below.heap_alloc _ _ _ hq))
theorem S5.far {P0 q x z : Nat} {y : Int} {nx nz : Nat} {W : World} {a : Addr} (h : S5 P0 q x z y nx nz W) (h1 : a.block ≠ P0) (h2 : a.block ≠ q) (v : Value) : S5 P0 q x z y nx nz (W.setCell a v) := by
  unfold S5
  rw [World.cell?_setCell_far _ _ _ _ (by exact h1), World.cell?_setCell_far _ _ _ _ (by exact h1), World.cell?_setCell_far _ _ _ _ (by exact h1), World.cell?_setCell_far _ _ _ _ (by exact h2), World.cell?_setCell_far _ _ _ _ (by exact h2)]
  exact h
def S6 (P0 q x z : Nat) (y : Int) (nx nz pb : Nat) (s : Value) (W : World) : Prop := S5 P0 q x z y nx nz W ∧ W.cell? ⟨pb, 2, none⟩ = some s
def NewGraph (w : World) (L S : Int) (es : List E3) (e : Ending) (w' : World) : Prop := ∃ v, e = .returned (grV L S v) ∧ EdgesAt w' w.heap.size v es ∧ Below w.heap.size w w'
end Go.Proofs.Ytbgfllohedhmaaa

namespace Go.Proofs.Ytbgfllohedhmaaa
open Go.RowKit
set_option linter.unusedSimpArgs false
set_option linter.unusedVariables false

/-- What Keep returns: labels, states, edges, the error. -/
def keepR (L S : Int) (es : List E3) (st : List Int) : Int × Int × List E3 × Int :=
  if chkG L S es = 0 then (if chkS S none st = 0 then (L, (st.length : Int), partE st es, 0) else (0, 0, [], chkS S none st)) else (0, 0, [], 1)
def GOut (w : World) (r : Int × Int × List E3 × Int) (e : Ending) (w' : World) : Prop := ∃ v, e = .returned (.tuple #[grV r.1 r.2.1 v, .int .i64 r.2.2.2]) ∧ EdgesAt w' w.heap.size v r.2.2.1 ∧ Below w.heap.size w w'
/-- The graph's variable and the result's. -/
def KB (w : World) (L S : Int) (v : Value) (W : World) : Prop := BoxG W w.heap.size L S v ∧ BoxF W (w.heap.size + 1) 0 0 (.slice none 0 0) ∧ Below w.heap.size w W ∧ w.heap.size + 2 ≤ W.heap.size
section
variable {w W W' : World} {L S : Int} {v : Value}
theorem KB.keep (h : KB w L S v W) (hb : Below W.heap.size W W') : KB w L S v W' := ⟨h.1.keep hb, h.2.1.keep hb, h.2.2.1.trans (hb.mono h.2.2.1.size), Nat.le_trans h.2.2.2 hb.size⟩
theorem KB.bel (h : KB w L S v W) : Below w.heap.size w W := h.2.2.1
theorem KB.start (w : World) (L S : Int) (v : Value) (t : TypeId) : KB w L S v ((w.alloc (.cells #[.int .i64 L, .int .i64 S, v] t)).alloc (.cells #[.int .i64 0, .int .i64 0, .slice none 0 0] t)) := by
  have g1 := BoxG.new w L S v t
  have b1 := below1 w (.cells #[.int .i64 L, .int .i64 S, v] t)
  have s1 := World.size_alloc w (.cells #[.int .i64 L, .int .i64 S, v] t)
  generalize w.alloc (.cells #[.int .i64 L, .int .i64 S, v] t) = W1 at *
  have g2 := BoxF.new W1 0 0 (.slice none 0 0) t
  rw [s1] at g2
  exact ⟨g1.keep (below1 _ _), g2, below_more b1 (Nat.le_refl _) (below1 _ _), by rw [World.size_alloc]; omega⟩
end
theorem edges_over {W : World} {A b : Nat} {v : Value} {es : List E3} (h : EdgesAt W A v es) (hb : b < A) (x y z : Value) {B : Nat} (hB : B ≤ A) : EdgesAt (((W.setCell ⟨b, 0, none⟩ x).setCell ⟨b, 1, none⟩ y).setCell ⟨b, 2, none⟩ z) B v es :=
  own_low (ownsRow_setCell_below (ownsRow_setCell_below (ownsRow_setCell_below h (a := ⟨b, 0, none⟩) hb _) (a := ⟨b, 1, none⟩) hb _) (a := ⟨b, 2, none⟩) hb _) hB
theorem below_over {w W : World} {B b : Nat} (h : Below B w W) (hb : B ≤ b) (x y z : Value) : Below B w (((W.setCell ⟨b, 0, none⟩ x).setCell ⟨b, 1, none⟩ y).setCell ⟨b, 2, none⟩ z) :=
  ((h.setCell (p := ⟨b, 0, none⟩) hb _).setCell (p := ⟨b, 1, none⟩) hb _).setCell (p := ⟨b, 2, none⟩) hb _
end Go.Proofs.Ytbgfllohedhmaaa
