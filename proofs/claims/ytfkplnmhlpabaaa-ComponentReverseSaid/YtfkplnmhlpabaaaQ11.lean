/- What component.targets returns. Conditions: at most 64 states, at most 1024 edges, between states. What slices.Repeat of one integer that is -1 returns. Condition: at most 64. What component.lengths returns: the search in depth. Conditions: at most 64 states, rows of states. -/
import Derived.Test.YtfkplnmhlpabaaaQ10

namespace Go.Proofs.Ytfkplnmhlpabaaa
open Go.RowKit
set_option linter.unusedSimpArgs false
set_option linter.unusedVariables false

theorem Try.infoRow : (Try.prog.info? 34).map (fun i => (i.zero, i.size, i.bytes)) = some (some (.slice none 0 0), 1, 24) := by kernel_rfl
theorem make_rows (n : Nat) (hn : n ≤ 100000) (W : World) : (Instr.makeSlice 27 (.int .i64 (n : Int)) (.int .i64 (n : Int))).run Try.prog W = .ok (.slice (some ⟨W.heap.size, 0, none⟩) n n) (W.alloc (.cells (madeCells #[.slice none 0 0] n) 34)) :=
  run_make_row' _ _ _ 24 Try.underlying27 Try.infoRow rfl _ _ n (by omega) (by omega) W
theorem cell_one_new (w : World) (x : Value) (t : TypeId) : ∀ j u, [x][j]? = some u → (w.alloc (.cells #[x] t)).cell? ((⟨w.heap.size, 0, none⟩ : Addr).add j) = some u := by
  intro j u hj
  match j, hj with
  | 0, hj => simp at hj; subst hj; simp [Addr.add]
/-- The cells that the statement of the loop reads. -/
def S7 (P0 b x : Nat) (z : Int) (s : Value) (W : World) : Prop := W.cell? ⟨P0, 0, none⟩ = some (.int .i64 (x : Int)) ∧ W.cell? ⟨P0, 2, none⟩ = some (.int .i64 z) ∧ W.cell? ⟨b, x, none⟩ = some s
theorem S7.keep {P0 b x : Nat} {z : Int} {s : Value} {W W' : World} (h : S7 P0 b x z s W) (hb : Below W.heap.size W W') : S7 P0 b x z s W' := ⟨cell_keep h.1 hb, cell_keep h.2.1 hb, cell_keep h.2.2 hb⟩
theorem S7.block {P0 b x : Nat} {z : Int} {s : Value} {W W' : World} {o : Obj} {row : Option Nat} (h : S7 P0 b x z s W) (r : ((W.alloc o).drew).grownBy W' row) (h2 : row ≠ some b) : W'.heap[b]? = W.heap[b]? := by
  have hq : b < W.heap.size := World.block_lt_of_cell? W ⟨b, x, none⟩ h.2.2
  have hs : ((W.alloc o).drew).heap.size = W.heap.size + 1 := World.size_alloc W o
  exact (r.block b (by omega) (Ne.symm h2)).trans (Below.heap_alloc _ _ _ hq)
theorem S7.grown {P0 b x : Nat} {z : Int} {s : Value} {W W' : World} {o : Obj} {row : Option Nat} (h : S7 P0 b x z s W) (r : ((W.alloc o).drew).grownBy W' row) (h1 : row ≠ some P0) (h2 : row ≠ some b) : S7 P0 b x z s W' := by
  have hp : P0 < W.heap.size := World.block_lt_of_cell? W ⟨P0, 0, none⟩ h.1
  have hs : ((W.alloc o).drew).heap.size = W.heap.size + 1 := World.size_alloc W o
  have e1 := (r.block P0 (by omega) (Ne.symm h1)).trans (Below.heap_alloc _ _ _ hp)
  have e2 := h.block r h2
  exact ⟨(World.cell?_of_block (w := W) e1).trans h.1, (World.cell?_of_block (w := W) e1).trans h.2.1, (World.cell?_of_block (w := W) e2).trans h.2.2⟩
set_option maxRecDepth 100000 in
set_option maxHeartbeats 6400000 in
theorem targets_any (L : Int) (n : Nat) (es : List E3) (v : Value) (w : World) (hrd : EdgesRd w v es) (hn : n ≤ 64) (hok : ∀ e ∈ es, okE L (n : Int) e = true) (hlen : es.length ≤ 1024) :
    Calls Try.prog 57 #[grV L (n : Int) v] w fun e w' => ∃ vs, e = .returned (.slice (some ⟨w.heap.size + 1, 0, none⟩) n n) ∧ RowsI (w.heap.size + 1) n vs (fun s => tgE es (s : Int)) w' ∧ Below w.heap.size w w' := by
  obtain ⟨i0, hi, hz0, hz1, hz2⟩ := info_parts Try.infoI64
  have hmx : Try.prog.follows .mixedOrders = true := by kernel_rfl
  have HMR := make_rows n (by omega)
  have HRD := Lib.hid hrd
  have HOK := Lib.hid hok
  obtain ⟨a, c, rfl⟩ := hrd.form
  have T0 : RowsI (w.heap.size + 1) n (fun _ => .slice none 0 0) (fun s => tgE (es.take 0) (s : Int)) ((w.alloc (.cells #[.int .i64 L, .int .i64 (n : Int), .slice a es.length c] 24)).alloc (.cells (madeCells #[.slice none 0 0] n) 34)) := by
    have h := RowsI.made (w.alloc (.cells #[.int .i64 L, .int .i64 (n : Int), .slice a es.length c] 24)) n
    rw [World.size_alloc] at h
    exact h
  have HT0 := Lib.hid T0
  have B0 := Lib.hid (below_more (below1 w (.cells #[.int .i64 L, .int .i64 (n : Int), .slice a es.length c] 24)) (Nat.le_refl _) (below1 _ (.cells (madeCells #[.slice none 0 0] n) 34)))
  obtain ⟨x1, x2, x3⟩ := id (BoxG.new w L (n : Int) (.slice a es.length c) 24)
  have x3' := cell_keep x3 (below1 _ (.cells (madeCells #[.slice none 0 0] n) 34))
  clear T0 hrd hok
  go_enter Try.func57, Try.ntmps57
  go_wp2_with fail
  clear x1 x2 x3 x3'
  generalize ((w.alloc (.cells #[.int .i64 L, .int .i64 (n : Int), .slice a es.length c] 24)).alloc (.cells (madeCells #[.slice none 0 0] n) 34)) = W0 at *
  obtain ⟨b, hb⟩ : ∃ b, w.heap.size + 1 = b := ⟨_, rfl⟩
  rw [hb] at HT0
  rw [hb]
  have hwb : w.heap.size ≤ b := by omega
  go_loopg [12] es.length (fun k s12 wx => ∃ (i : Nat) (vs : Nat → Value), i + k = es.length ∧ s12 = .int .i64 (i : Int) ∧ RowsI b n vs (fun s => tgE (es.take i) (s : Int)) wx ∧ Below w.heap.size w wx)
  case atStart => exact ⟨0, _, by omega, rfl, HT0.out, B0.out⟩
  case round =>
    clear HT0 B0
    obtain ⟨i, vs, hin, rfl, T, hB⟩ := hrel
    rcases gk with _ | k
    · obtain rfl : i = es.length := by omega
      rw [List.take_length] at T
      have HTE := Lib.hid T
      have HBE := Lib.hid hB
      clear T hB
      go_wp2_with fail
      go_ret
      exact ⟨vs, by rw [hb]; rfl, by rw [hb]; exact HTE.out, HBE.out⟩
    · obtain ⟨e, he⟩ : ∃ e, es[i]? = some e := ⟨_, List.getElem?_eq_getElem (by omega)⟩
      have hek := HOK.out e (List.mem_of_getElem? he)
      obtain ⟨bb, off, c', hv, k1, k2, k3⟩ := (HRD.out.keep hB).at he
      injection hv with e1 e2 e3
      subst e1
      subst e3
      have HT := take_snoc he
      have hps := tgE_snoc (es.take i) e
      rw [← HT] at hps
      obtain ⟨x, y, z⟩ := e
      rw [okE_iff] at hek
      dsimp only at hek k1 k2 k3 hps
      obtain ⟨hx0, hx1, -, -, hzz0, hzz1⟩ := hek
      obtain ⟨x, rfl⟩ : ∃ m : Nat, x = (m : Int) := ⟨x.toNat, by omega⟩
      have hxn : x < n := by omega
      have o1 := below1 wr (.cells #[.int .i64 (x : Int), .int .i64 y, .int .i64 z] 46)
      have T1 := T.keep o1
      have X1 := Box3.new wr (x : Int) y z 46
      have B1 := below_more hB (Nat.le_refl _) o1
      have j1 : (i : Int) < (es.length : Int) := by omega
      have j2 : (x : Int) < (n : Int) := by omega
      go_upto_region 5 with fail
      obtain ⟨W1, hW1⟩ : ∃ W1, wr.alloc (.cells #[.int .i64 (x : Int), .int .i64 y, .int .i64 z] 46) = W1 := ⟨_, rfl⟩
      obtain ⟨P0, hP0⟩ : ∃ P0, wr.heap.size = P0 := ⟨_, rfl⟩
      rw [hP0] at X1
      rw [hW1] at T1 X1 B1 ⊢
      rw [hP0]
      obtain ⟨x1, x2, x3, -, -, -⟩ := id X1
      have TD := Lib.hid (T1.keep (Below.refl _ _).drew)
      have TB := Lib.hid (show Below w.heap.size w (W1.drew.alloc (.cells #[.int .i64 z] 3)) from B1.drew.alloc B1.size _)
      obtain ⟨a9, c9, hvx⟩ := (T1.own x hxn).slice
      have HVX := Lib.hid hvx
      have g3 := T1.cell hxn
      have hfz := T1.frozen x
      rw [hvx] at g3
      have hmm : (tgE (List.take i es) (x : Int)).length ≤ 1024 := by
        have := tgE_len (List.take i es) (x : Int)
        rw [List.length_take] at this; omega
      have HPS := Lib.hid hps
      have hown := (TD.out.own x hxn)
      unfold IntsAt at hown
      rw [hvx] at hown
      have hsz : b + 1 ≤ W1.heap.size := TD.out.lt
      have hPB := Lib.hid (show b < P0 by rw [← hP0]; exact T.lt)
      have hOB := Lib.hid (show ∀ k, (vs x).ownBlock = some k → k < P0 from fun k e => by
        have h := ((T.own x hxn).lt k e).2
        rw [← hP0]; exact h)
      obtain ⟨m, hm⟩ : ∃ m, (tgE (List.take i es) (x : Int)).length = m := ⟨_, rfl⟩
      have HM := Lib.hid hm
      rw [hvx] at hOB
      rw [hm] at hown g3 hmm hOB HVX
      have hWS := B1.size
      clear hW1 hP0 k1 k2 k3 X1 T1 T HT hps e2 he hm o1 hB B1 hvx
      have hS : S7 P0 b x z (.slice a9 m c9) W1 := ⟨x1, x3, g3⟩
      have hl9 := hown.lt
      have hP9 : (Value.slice a9 m c9).ownBlock ≠ some P0 := fun e => by have := (hOB.out P0 e); omega
      have hb9 : (Value.slice a9 m c9).ownBlock ≠ some b := fun e => by have := (hl9 b e).1; omega
      have hR : S7 P0 b x z (.slice a9 m c9) W1.drew := hS
      have hRA : ∀ o, S7 P0 b x z (.slice a9 m c9) (W1.alloc o).drew := fun o => hS.keep (below1 W1 o).drew
      -- region 5
      refine regionT (T := T2 13 13 (S7 P0 b x z (.slice a9 m c9)) (S7 P0 b x z (.slice a9 m c9))) hmx ?_
      refine take1 (i := 0) (v := ?_) rfl (by kernel_rfl) (by kernel_rfl) (by kernel_rfl) (by kernel_rfl) (by kernel_rfl) (by decide) (by decide) (fun _ _ _ h => h) (Or.inl ⟨by rfl, ?_⟩) hR hR ?_
      rotate_left
      · intro w hSw
        (try unfold S7 at hSw)
        go_simp
        all_goals with_reducible rfl
      (try simp only [Act.put, List.setIfInBounds_toArray, List.set_cons_zero, List.set_cons_succ])
      refine take1 (i := 1) (v := ?_) rfl (by kernel_rfl) (by kernel_rfl) (by kernel_rfl) (by kernel_rfl) (by kernel_rfl) (by decide) (by decide) (fun _ _ _ h => h) (Or.inl ⟨by rfl, ?_⟩) hR hR ?_
      rotate_left
      · intro w hSw
        (try unfold S7 at hSw)
        go_simp
        all_goals with_reducible rfl
      (try simp only [Act.put, List.setIfInBounds_toArray, List.set_cons_zero, List.set_cons_succ])
      refine take1 (i := 2) (v := ?_) rfl (by kernel_rfl) (by kernel_rfl) (by kernel_rfl) (by kernel_rfl) (by kernel_rfl) (by decide) (by decide) (fun _ _ _ h => h) (Or.inl ⟨by rfl, ?_⟩) hR hR ?_
      rotate_left
      · intro w hSw
        (try unfold S7 at hSw)
        go_simp
        all_goals with_reducible rfl
      (try simp only [Act.put, List.setIfInBounds_toArray, List.set_cons_zero, List.set_cons_succ])
      refine take1 (i := 3) (v := ?_) rfl (by kernel_rfl) (by kernel_rfl) (by kernel_rfl) (by kernel_rfl) (by kernel_rfl) (by decide) (by decide) (fun _ _ _ h => h) (Or.inl ⟨by rfl, ?_⟩) hR hR ?_
      rotate_left
      · intro w hSw
        (try unfold S7 at hSw)
        go_simp
        all_goals with_reducible rfl
      (try simp only [Act.put, List.setIfInBounds_toArray, List.set_cons_zero, List.set_cons_succ])
      refine take1 (i := 4) (v := ?_) rfl (by kernel_rfl) (by kernel_rfl) (by kernel_rfl) (by kernel_rfl) (by kernel_rfl) (by decide) (by decide) (fun _ _ _ h => h) (Or.inl ⟨by rfl, ?_⟩) hR hR ?_
      rotate_left
      · intro w hSw
        (try unfold S7 at hSw)
        go_simp
        all_goals with_reducible rfl
      (try simp only [Act.put, List.setIfInBounds_toArray, List.set_cons_zero, List.set_cons_succ])
      refine take1 (i := 5) (v := ?_) rfl (by kernel_rfl) (by kernel_rfl) (by kernel_rfl) (by kernel_rfl) (by kernel_rfl) (by decide) (by decide) (fun _ _ _ h => h) (Or.inl ⟨by rfl, ?_⟩) hR hR ?_
      rotate_left
      · intro w hSw
        (try unfold S7 at hSw)
        go_simp
        all_goals with_reducible rfl
      (try simp only [Act.put, List.setIfInBounds_toArray, List.set_cons_zero, List.set_cons_succ])
      refine take1 (i := 6) (v := ?_) rfl (by kernel_rfl) (by kernel_rfl) (by kernel_rfl) (by kernel_rfl) (by kernel_rfl) (by decide) (by decide) (fun _ _ _ h => h) (Or.inl ⟨by rfl, ?_⟩) hR hR ?_
      rotate_left
      · intro w hSw
        (try unfold S7 at hSw)
        go_simp
        all_goals with_reducible rfl
      (try simp only [Act.put, List.setIfInBounds_toArray, List.set_cons_zero, List.set_cons_succ])
      refine take1 (i := 7) (v := ?_) rfl (by kernel_rfl) (by kernel_rfl) (by kernel_rfl) (by kernel_rfl) (by kernel_rfl) (by decide) (by decide) (fun _ _ _ h => h) (Or.inl ⟨by rfl, ?_⟩) hR hR ?_
      rotate_left
      · intro w hSw
        (try unfold S7 at hSw)
        go_simp
        all_goals with_reducible rfl
      (try simp only [Act.put, List.setIfInBounds_toArray, List.set_cons_zero, List.set_cons_succ])
      refine take1 (i := 8) (v := ?_) rfl (by kernel_rfl) (by kernel_rfl) (by kernel_rfl) (by kernel_rfl) (by kernel_rfl) (by decide) (by decide) (fun _ _ _ h => h) (Or.inl ⟨by rfl, ?_⟩) hR hR ?_
      rotate_left
      · intro w hSw
        (try unfold S7 at hSw)
        go_simp
        all_goals with_reducible rfl
      (try simp only [Act.put, List.setIfInBounds_toArray, List.set_cons_zero, List.set_cons_succ])
      refine take1 (i := 9) (v := ?_) rfl (by kernel_rfl) (by kernel_rfl) (by kernel_rfl) (by kernel_rfl) (by kernel_rfl) (by decide) (by decide) (fun _ _ _ h => h) (Or.inl ⟨by rfl, ?_⟩) hR hR ?_
      rotate_left
      · intro w hSw
        (try unfold S7 at hSw)
        go_simp
        all_goals with_reducible rfl
      (try simp only [Act.put, List.setIfInBounds_toArray, List.set_cons_zero, List.set_cons_succ])
      refine stepT (i := 10) (by kernel_rfl) rfl (fun K hK => ?_)
      go_simp
      refine hK.out _ _ ⟨fun _ => hRA _, fun _ => hRA _⟩ ?_
      clear hK K
      (try simp only [Act.put, List.setIfInBounds_toArray, List.set_cons_zero, List.set_cons_succ])
      refine stepT (i := 11) (by kernel_rfl) rfl (fun K hK => ?_)
      refine step_append_lies _ (by rfl) (.tmp 23) (.tmp 26) 34 (by rfl) (b + 1) 3 i0 (.int .i64 0) 1 8 Try.underlying34 hi hz0 hz1 hz2 rfl (by decide) (.slice a9 m c9) m (intz (tgE (List.take i es) (x : Int))) (by rfl) (hown.alloc _) ⟨W1.drew.heap.size, 0, none⟩ 1 1 [.int .i64 z] (by rfl) (by rfl) (cell_one_new _ _ _) (by intro u hu; simp at hu; subst hu; rfl) (by decide) (by unfold maxLen; omega) (by omega) (by show b + 1 ≤ (W1.alloc _).heap.size; rw [World.size_alloc]; omega) _ rfl ?_
      intro g9 d9 W4 r1 r2 r3 r4
      have hR4 : (S7 P0 b x z (.slice a9 m c9)) W4 := hS.grown r2 hP9 hb9
      have hA := Lib.hid (TD.out.app (i := x) hxn (o := (.cells #[.int .i64 z] 3)) (s' := .slice (some ⟨g9, 0, none⟩) (m + 1) d9) (r' := tgE (List.take i es) (x : Int) ++ [z]) (by rw [HVX.out]; exact r2) (by unfold IntsAt; rw [intz_snoc, List.length_append, HM.out]; exact r1)
            (by rw [HVX.out]; exact r3.elim (fun r => .inl r.symm) (fun r => .inr (by rw [r]; exact congrArg some (World.size_alloc _ _)))))
      have hB4 := Lib.hid (Below.grown (w' := W4) TB.out (show (W1.drew.alloc (.cells #[.int .i64 z] 3)).grownBy W4 _ from r2) (by rw [World.size_alloc]; show _ ≤ W1.heap.size + 1; omega) (fun k e => by have := (hl9 k e).1; omega))
      have hF4 := Lib.hid ((World.frozen?_of_block (w := W1) (a := ⟨b, x, none⟩) (hS.block r2 hb9)).trans hfz)
      have c4 : W4.cell? ⟨b, x, none⟩ = some (.slice a9 m c9) := hR4.2.2
      have f4 := hF4.out
      clear r1 r2 r3 r4
      refine hK.out _ _ ⟨fun _ => hR4, fun _ => hR4⟩ ?_
      clear hK K
      (try simp only [Act.put, List.setIfInBounds_toArray, List.set_cons_zero, List.set_cons_succ])
      refine take1 (i := 12) (v := ?_) rfl (by kernel_rfl) (by kernel_rfl) (by kernel_rfl) (by kernel_rfl) (by kernel_rfl) (by decide) (by decide) (fun _ _ _ h => h) (Or.inl ⟨by rfl, ?_⟩) hR4 hR4 ?_
      rotate_left
      · intro w hSw
        (try unfold S7 at hSw)
        go_simp
        all_goals with_reducible rfl
      (try simp only [Act.put, List.setIfInBounds_toArray, List.set_cons_zero, List.set_cons_succ])
      refine stepT (i := 13) (by kernel_rfl) rfl (fun K hK => ?_)
      go_simp
      refine hK.out _ _ ⟨fun h => absurd h (by decide), fun h => absurd h (by decide)⟩ ?_
      clear hK K
      (try simp only [Act.put, List.setIfInBounds_toArray, List.set_cons_zero, List.set_cons_succ])
      refine doneT (by kernel_rfl) ?_ _
      -- behind region 5
      go_wp2_with fail
      go_roundg k
      case measure => omega
      case rel =>
        refine ⟨i + 1, _, by omega, by go_num, hA.out.congr (fun _ _ => rfl) (fun j _ => ?_), hB4.out.setCell (by show w.heap.size ≤ b; omega) _⟩
        rw [HPS.out (j : Int)]
        unfold upd
        by_cases hj : j = x
        · subst hj; rw [if_pos rfl, if_pos rfl]
        · rw [if_neg hj, if_neg (by omega)]
end Go.Proofs.Ytfkplnmhlpabaaa

namespace Go.Proofs.Ytfkplnmhlpabaaa
open Go.RowKit
set_option linter.unusedSimpArgs false
set_option linter.unusedVariables false

theorem rowIs_rep {t : TypeId} {g n : Nat} (v : Value) : ∀ (m o : Nat) (W : World) (F : Nat → Value), W.rowIs g t n F → (W.setCells g o (List.replicate m v)).rowIs g t n (fun i => if o ≤ i ∧ i < o + m then v else F i)
  | 0, o, W, F, h => World.rowIs.congr h (fun i _ => by rw [if_neg (by omega)])
  | m + 1, o, W, F, h => by
    rw [List.replicate_succ]
    refine World.rowIs.congr (rowIs_rep v m (o + 1) _ _ (World.rowIs.set h o v)) (fun i _ => ?_)
    by_cases h1 : i = o
    · subst h1
      rw [if_neg (by omega), if_pos rfl, if_pos (by omega)]
    · by_cases h2 : o + 1 ≤ i ∧ i < o + 1 + m
      · rw [if_pos h2, if_pos (by omega)]
      · rw [if_neg h2, if_neg h1, if_neg (by omega)]
structure CI (w : World) (R n k : Nat) (W : World) : Prop where
  b : Below w.heap.size w W
  r : IRow W R n (fun j => if j < k then -1 else 0)
theorem infoInts : (Try.prog.info? 3).map (·.size) = some 1 := by kernel_rfl
theorem sizeInt : ∀ w, (Go.sizeOf 3).run Try.prog w = .ok 1 w := fun w => by kernel_rfl
set_option maxRecDepth 100000 in
theorem copy_ints {w W : World} {R n k : Nat} (h : CI w R n k W) (hR : w.heap.size ≤ R) (hk : k ≤ n) (a : Addr) (sLen cap : Nat) (ty : TypeId) (m : Nat) (hm : m = Nat.min sLen (n - k)) (hc : ∀ j, j < m → W.cell? (a.add j) = some (.int .i64 (-1))) :
    ∃ W', (Builtin.copy_ #[34, 34] ty #[.slice (some ⟨R, k, none⟩) (n - k) (n - k), .slice (some a) sLen cap]).run Try.prog W = .ok (.int .i64 (m : Int)) W' ∧ CI w R n (k + m) W' := by
  have hm2 : m ≤ n - k := by rw [hm]; exact Nat.min_le_right _ _
  have hr := run_copy_cells (P := Try.prog) W 34 34 ty 3 R k (n - k) (n - k) a sLen cap (List.replicate m (.int .i64 (-1))) Try.underlying34 infoInts (by rw [List.length_replicate]; exact hm)
    (fun j u hj => by
      have hj2 : j < m := by have := (List.getElem?_eq_some_iff.1 hj).1; rwa [List.length_replicate] at this
      rw [List.getElem?_replicate, if_pos hj2] at hj
      injection hj with hj
      subst hj
      exact hc j hj2)
    (fun j hj => by rw [List.length_replicate] at hj; rw [h.r.cell (by omega)]; rfl) (fun j hj => by rw [List.length_replicate] at hj; exact h.r.frozen _)
    (fun u hu => by rw [List.eq_of_mem_replicate hu]; rfl)
  rw [List.length_replicate] at hr
  refine ⟨_, hr, ?_⟩
  refine ⟨Lib.below_setCells R hR _ _ h.b, World.rowIs.congr (rowIs_rep _ m k W _ h.r) (fun i _ => ?_)⟩
  by_cases h1 : k ≤ i ∧ i < k + m
  · rw [if_pos h1]
    dsimp only
    rw [if_pos (by omega)]
  · rw [if_neg h1]
    dsimp only
    by_cases h2 : i < k
    · rw [if_pos h2, if_pos (by omega)]
    · rw [if_neg h2, if_neg (by omega)]
theorem CI.drew {w W : World} {R n k : Nat} (h : CI w R n k W) : CI w R n k W.drew := ⟨h.b.drew, h.r⟩
set_option maxRecDepth 100000 in
set_option maxHeartbeats 6400000 in
theorem repeatI_any (n b cap : Nat) (w : World) (hn : n ≤ 64) (hcell : w.cell? ⟨b, 0, none⟩ = some (.int .i64 (-1))) :
    Calls Try.prog 78 #[.slice (some ⟨b, 0, none⟩) 1 cap, .int .i64 (n : Int)] w fun e w' => e = .returned (.slice (some ⟨w.heap.size, 0, none⟩) n n) ∧ IRow w' w.heap.size n (fun _ => -1) ∧ Below w.heap.size w w' := by
  have hM : ∀ W, Calls Try.prog 97 #[.int .u64 1, .int .u64 (n : Int)] W fun e w' => e = .returned (.tuple #[.int .u64 0, .int .u64 (n : Int)]) ∧ w' = W := fun W => by
    have k := Try.bits_Mul 1 n (by omega) (by omega) W
    rw [show 1 * n / 18446744073709551616 = 0 by omega, show 1 * n % 18446744073709551616 = n by omega] at k
    exact k
  have HM := Lib.hid hM
  clear hM
  have hmx : Try.prog.follows .mixedOrders = true := by kernel_rfl
  have hmk := make_ints n (by omega)
  have C0 : CI w w.heap.size n 0 (w.alloc (.cells (madeCells #[.int .i64 0] n) 3)) :=
    ⟨below1 w _, (IRow.made w n).congr (fun j _ => by rw [if_neg (by omega)])⟩
  obtain ⟨m, hm⟩ : ∃ m, m = Nat.min 1 (n - 0) := ⟨_, rfl⟩
  obtain ⟨w1, hr1, C1⟩ := copy_ints C0 (Nat.le_refl _) (Nat.zero_le _) ⟨b, 0, none⟩ 1 cap 3 m hm (fun j hj => by
    have h1 : m ≤ 1 := by rw [hm]; exact Nat.min_le_left _ _
    obtain rfl : j = 0 := by omega
    exact cell_keep hcell (below1 w _))
  have hm2 : m ≤ n ∧ (n = m ∨ (1 ≤ m ∧ m ≤ n)) := by
    rcases Nat.eq_zero_or_pos n with h | h
    · subst h; have : m = 0 := hm; omega
    · have : m = 1 := by rw [hm, Nat.sub_zero]; exact Nat.min_eq_left h
      omega
  rw [Nat.sub_zero] at hr1
  rw [Nat.zero_add] at C1
  have HC1 := Lib.hid C1
  have d0 : decide ((9223372036854775807 : Int) < (n : Int)) = false := decide_eq_false (by omega)
  clear C0 C1 hcell hm
  go_enter Try.func78, Try.ntmps78
  go_wp2_with (first
    | (go_at_call 97; (with_reducible refine (HM.out _).mono ?_); rintro e W0 ⟨rfl, hW⟩; (rw [hW]); (clear hW))
    | (at_builtin; refine Lib.wpList_copy_run _ rfl _ _ 34 34 rfl _ _ rfl rfl hr1 ?_))
  clear hr1 HM hmk
  go_loopg [8] n (fun q s8 wx => ∃ k : Nat, k ≤ n ∧ n - k ≤ q ∧ (n = k ∨ 1 ≤ k) ∧ s8 = .int .i64 (k : Int) ∧ Hid (CI w w.heap.size n k wx))
  case atStart => exact ⟨m, hm2.1, by omega, by omega, rfl, HC1⟩
  case round =>
    clear HC1
    obtain ⟨k, hkn, hgk, hk1, rfl, HB⟩ := hrel
    by_cases hlt : k < n
    · have hmin : min (k : Int) (n : Int) = (k : Int) := by omega
      obtain ⟨m', hm'⟩ : ∃ m', m' = Nat.min k (n - k) := ⟨_, rfl⟩
      have hmk : m' ≤ k := by rw [hm']; exact Nat.min_le_left _ _
      have hmn : m' ≤ n - k := by rw [hm']; exact Nat.min_le_right _ _
      have hm1 : 1 ≤ m' := by
        rw [hm']
        exact Nat.le_min.2 ⟨by omega, by omega⟩
      obtain ⟨w2, hr2, C2⟩ := copy_ints HB.out.drew (Nat.le_refl _) hkn ⟨w.heap.size, 0, none⟩ k n 3 m' hm' (fun j hj => by
        rw [show (⟨w.heap.size, 0, none⟩ : Addr).add j = ⟨w.heap.size, j, none⟩ by unfold Addr.add; split <;> simp_all]
        rw [HB.out.drew.r.cell (by omega), if_pos (by omega)])
      have hsl1 : ∀ W, (Instr.slice 34 (.slice (some ⟨w.heap.size, 0, none⟩) n n) (some (.int .i64 (k : Int))) none none).run Try.prog W = .ok (.slice (some ⟨w.heap.size, k, none⟩) (n - k) (n - k)) W := fun W => by
        have h := Lib.run_slice_tailV W 34 3 Try.underlying34 sizeInt w.heap.size n k (by omega)
        unfold Lib.tailV at h
        rw [if_neg (by omega)] at h
        exact h
      have hB2 := Lib.hid C2
      have dk : (0 : Int) ≤ (k : Int) := by omega
      have hw : IntKind.i64.wrap ((k : Int) + (m' : Int)) = (k : Int) + (m' : Int) := by clear hmin; rw [IntKind.wrap_i64]; omega
      have dkn : (k : Int) ≤ (n : Int) := by omega
      clear C2 HB hm'
      go_wp2_with fail
      go_region_law (refine step_copy _ rfl (.tmp 41) (.tmp 44) 34 34 rfl (.slice (some ⟨w.heap.size, k, none⟩) (n - k) (n - k)) (.slice (some ⟨w.heap.size, 0, none⟩) k n) (by simp [Act.eval, Act.put]) (by simp [Act.eval, Act.put]) hr2 ?_)
      clear hr2 hsl1 hmin
      go_wp2
      go_roundg (n - (k + m'))
      case measure => omega
      case rel => exact ⟨k + m', by omega, by omega, by omega, by go_num, hB2⟩
    · obtain rfl : k = n := by omega
      have HB2 := Lib.hid (show IRow wr w.heap.size k (fun _ => -1) from HB.out.r.congr (fun i hi => by rw [if_pos hi]))
      have hb := HB.out.b
      clear HB
      go_wp2
      go_ret
      exact ⟨rfl, HB2.out, hb⟩
end Go.Proofs.Ytfkplnmhlpabaaa

namespace Go.Proofs.Ytfkplnmhlpabaaa
open Go.RowKit
set_option linter.unusedSimpArgs false
set_option linter.unusedVariables false

@[go_sem] theorem run_store_func {P : Program} {w : World} (a : Addr) (m : Mode) (f : Fn) (ts cs : Array Value) : (store a (.func f ts cs) m).run P w = stored P w a (.func f ts cs) m := run_store P w a _ m rfl
/-- Between the calls of visit: its three variables, and the row of what is found. -/
structure VS (w : World) (n p2 g p5 p6 : Nat) (vn : Value) (f : Nat → Int) (W : World) : Prop where
  b : Below w.heap.size w W
  x2 : W.cell? ⟨p2, 0, none⟩ = some vn
  x5 : W.cell? ⟨p5, 0, none⟩ = some (.slice (some ⟨g, 0, none⟩) n n)
  x6 : W.cell? ⟨p6, 0, none⟩ = some (.func (.func 79) #[] #[.pointer (some ⟨p5, 0, none⟩), .pointer (some ⟨p2, 0, none⟩), .pointer (some ⟨p6, 0, none⟩)])
  r : IRow W g n f
  n2 : g ≠ p2
  n5 : g ≠ p5
  n6 : g ≠ p6
  lo : w.heap.size ≤ g
section
variable {w W W' : World} {n p2 g p5 p6 : Nat} {vn : Value} {f f' : Nat → Int}
theorem VS.keep (h : VS w n p2 g p5 p6 vn f W) (hb : Below W.heap.size W W') : VS w n p2 g p5 p6 vn f W' :=
  ⟨h.b.trans (hb.mono h.b.size), cell_keep h.x2 hb, cell_keep h.x5 hb, cell_keep h.x6 hb, h.r.keep hb, h.n2, h.n5, h.n6, h.lo⟩
theorem VS.set (h : VS w n p2 g p5 p6 vn f W) (s : Nat) (l : Int) : VS w n p2 g p5 p6 vn (setN f s l) (W.setCell ⟨g, s, none⟩ (.int .i64 l)) := by
  refine ⟨h.b.setCell h.lo _, ?_, ?_, ?_, h.r.set s l, h.n2, h.n5, h.n6, h.lo⟩
  · rw [World.cell?_setCell_far _ _ _ _ (by exact h.n2)]; exact h.x2
  · rw [World.cell?_setCell_far _ _ _ _ (by exact h.n5)]; exact h.x5
  · rw [World.cell?_setCell_far _ _ _ _ (by exact h.n6)]; exact h.x6
end
def foldG (nx : Nat → List Int) (k : Nat) (l : Int) (ts : List Int) (f : Nat → Int) : Nat → Int := ts.foldl (fun g t => dfsA nx k g t.toNat (l + 1)) f
theorem foldG_snoc (nx : Nat → List Int) (k : Nat) (l : Int) (ts : List Int) (t : Int) (f : Nat → Int) : foldG nx k l (ts ++ [t]) f = dfsA nx k (foldG nx k l ts f) t.toNat (l + 1) := by
  unfold foldG; rw [List.foldl_append]; rfl
theorem foldG_unf (nx : Nat → List Int) (n k : Nat) (l : Int) : ∀ (ts : List Int) (f : Nat → Int), unf n (foldG nx k l ts f) ≤ unf n f
  | [], f => Nat.le_refl _
  | t :: ts, f => Nat.le_trans (foldG_unf nx n k l ts _) (unf_dfs nx n k f t.toNat (l + 1))
set_option maxRecDepth 100000 in
set_option maxHeartbeats 6400000 in
theorem visit_step (w : World) (n p2 g p5 p6 : Nat) (vn : Value) (nx : Nat → List Int) (hn : n ≤ 64) (hrd : RowsRd w vn ((List.range n).map nx)) (hnx : ∀ s, s < n → ∀ u ∈ nx s, 0 ≤ u ∧ u < (n : Int)) (hlen : ∀ s, (nx s).length ≤ 100000) (k : Nat)
    (IH : ∀ (f : Nat → Int) (s : Nat) (l : Nat) (W : World), VS w n p2 g p5 p6 vn f W → s < n → l + unf n f ≤ 64 → unf n f ≤ k →
      Calls Try.prog 79 #[.int .i64 (s : Int), .int .i64 (l : Int), .pointer (some ⟨p5, 0, none⟩), .pointer (some ⟨p2, 0, none⟩), .pointer (some ⟨p6, 0, none⟩)] W fun e W' => (∃ u, e = .returned u) ∧ VS w n p2 g p5 p6 vn (dfsA nx (k + 1) f s (l : Int)) W')
    (f : Nat → Int) (s : Nat) (l : Nat) (W : World) (hV : VS w n p2 g p5 p6 vn f W) (hs : s < n) (hl : l + unf n f ≤ 64) (hk : unf n f ≤ k + 1) (hf : f s = -1) :
    Calls Try.prog 79 #[.int .i64 (s : Int), .int .i64 (l : Int), .pointer (some ⟨p5, 0, none⟩), .pointer (some ⟨p2, 0, none⟩), .pointer (some ⟨p6, 0, none⟩)] W fun e W' => (∃ u, e = .returned u) ∧ VS w n p2 g p5 p6 vn (dfsA nx (k + 2) f s (l : Int)) W' := by
  have HIH := Lib.hid IH
  have HNX := Lib.hid (hnx s hs)
  have h0 := unf_set (l := (l : Int)) hs hf (by omega)
  have hu : unf n (setN f s (l : Int)) ≤ k := by omega
  have hlu : l + 1 + unf n (setN f s (l : Int)) ≤ 64 := by omega
  have hl64 : l ≤ 64 := by omega
  have HD := Lib.hid (show dfsA nx (k + 2) f s (l : Int) = foldG nx (k + 1) (l : Int) (nx s) (setN f s (l : Int)) from dfsA_new hf)
  have hL := hlen s
  have x5 := hV.x5
  have x2 := hV.x2
  have c0 := hV.r.cell hs
  rw [hf] at c0
  have f0 := hV.r.frozen s
  have V1 := hV.set s (l : Int)
  have x22 := V1.x2
  obtain ⟨rb, off, c, u, hvn, k1, k2⟩ := hrd.at (i := s) (r := nx s) (by rw [List.getElem?_map, List.getElem?_range hs]; rfl)
  have hrl : ((List.range n).map nx).length = n := by rw [List.length_map, List.length_range]
  rw [hrl] at hvn
  have HK2 := Lib.hid k2
  have k1W := cell_keep k1 hV.b
  have k1V := cell_keep k1 V1.b
  obtain ⟨a9, c9, rfl⟩ := k2.form
  subst hvn
  have HV1 := Lib.hid V1
  have j0 : (s : Int) < (n : Int) := by omega
  clear hV V1 IH hrd hnx hlen hf h0 k1 k2 hrl
  go_enter Try.func79, Try.ntmps79
  go_wp2_with fail
  clear x5 x2 c0 f0 x22 k1W k1V
  generalize W.setCell ⟨g, s, none⟩ (.int .i64 (l : Int)) = W1 at *
  go_loopg [23] (nx s).length (fun q s23 wx => ∃ i : Nat, i + q = (nx s).length ∧ s23 = .int .i64 (i : Int) ∧ Hid (VS w n p2 g p5 p6 (.slice (some ⟨rb, off, none⟩) n c) (foldG nx (k + 1) (l : Int) ((nx s).take i) (setN f s (l : Int))) wx))
  case atStart => exact ⟨0, by omega, rfl, HV1⟩
  case round =>
    clear HV1
    obtain ⟨i, hin, rfl, HV⟩ := hrel
    rcases gk with _ | q
    · obtain rfl : i = (nx s).length := by omega
      rw [List.take_length] at HV
      go_wp2_with fail
      go_end0
      exact ⟨⟨_, rfl⟩, by rw [HD.out]; exact HV.out⟩
    · obtain ⟨t, ht⟩ : ∃ t, (nx s)[i]? = some t := ⟨_, List.getElem?_eq_getElem (by omega)⟩
      obtain ⟨t0, t1⟩ := HNX.out t (List.mem_of_getElem? ht)
      obtain ⟨b, o, cc, hv, k1⟩ := (HK2.out.keep HV.out.b).at ht
      injection hv with e1 e2 e3
      subst e1
      have HT := Lib.hid (take_snoc ht)
      obtain ⟨t, rfl⟩ : ∃ m : Nat, t = (m : Int) := ⟨t.toNat, by omega⟩
      have htn : t < n := by omega
      have hfu := foldG_unf nx n (k + 1) (l : Int) ((nx s).take i) (setN f s (l : Int))
      have x6 := HV.out.x6
      have HC := Lib.hid (fun X hX => HIH.out (foldG nx (k + 1) (l : Int) ((nx s).take i) (setN f s (l : Int))) t (l + 1) X hX htn (by omega) (by omega))
      rw [show ((l + 1 : Nat) : Int) = (l : Int) + 1 by omega] at HC
      have j1 : (i : Int) < ((nx s).length : Int) := by omega
      clear ht hfu e2 e3
      go_wp2_with (go_at_call 79; (with_reducible refine (HC.out _ HV.out).mono ?_); rintro e W5 ⟨⟨u5, rfl⟩, hv5⟩; (have HV5 := Lib.hid hv5); clear hv5)
      go_roundg q
      case measure => omega
      case rel => exact ⟨i + 1, by omega, by go_num, by rw [HT.out, foldG_snoc]; exact HV5⟩
/-- What a call of visit does. -/
theorem visit_any (w : World) (n p2 g p5 p6 : Nat) (vn : Value) (nx : Nat → List Int) (hn : n ≤ 64) (hrd : RowsRd w vn ((List.range n).map nx)) (hnx : ∀ s, s < n → ∀ u ∈ nx s, 0 ≤ u ∧ u < (n : Int)) (hlen : ∀ s, (nx s).length ≤ 100000) : ∀ (k : Nat)
    (f : Nat → Int) (s : Nat) (l : Nat) (W : World), VS w n p2 g p5 p6 vn f W → s < n → l + unf n f ≤ 64 → unf n f ≤ k →
      Calls Try.prog 79 #[.int .i64 (s : Int), .int .i64 (l : Int), .pointer (some ⟨p5, 0, none⟩), .pointer (some ⟨p2, 0, none⟩), .pointer (some ⟨p6, 0, none⟩)] W fun e W' => (∃ u, e = .returned u) ∧ VS w n p2 g p5 p6 vn (dfsA nx (k + 1) f s (l : Int)) W' := by
  have found : ∀ (k : Nat) (f : Nat → Int) (s : Nat) (l : Nat) (W : World), VS w n p2 g p5 p6 vn f W → s < n → f s ≠ -1 →
      Calls Try.prog 79 #[.int .i64 (s : Int), .int .i64 (l : Int), .pointer (some ⟨p5, 0, none⟩), .pointer (some ⟨p2, 0, none⟩), .pointer (some ⟨p6, 0, none⟩)] W fun e W' => (∃ u, e = .returned u) ∧ VS w n p2 g p5 p6 vn (dfsA nx (k + 1) f s (l : Int)) W' := by
    intro k f s l W hV hs hf
    rw [dfsA_found hf]
    have x5 := hV.x5
    have c0 := hV.r.cell hs
    have j0 : (s : Int) < (n : Int) := by omega
    obtain ⟨z, hz⟩ : ∃ z, f s = z := ⟨_, rfl⟩
    rw [hz] at c0 hf
    have j1 : (z != -1) = true := by simpa using hf
    have HV := Lib.hid hV
    clear hV hrd hnx hlen hz
    go_enter Try.func79, Try.ntmps79
    go_wp2_with fail
    refine bodyPost_ret (results_none rfl _ _ _) rfl ?_
    exact ⟨⟨_, rfl⟩, HV.out⟩
  intro k
  induction k with
  | zero =>
    intro f s l W hV hs hl hk
    refine found 0 f s l W hV hs (fun h => ?_)
    have := unf_set (l := (0 : Int)) hs h (by omega)
    omega
  | succ k ih =>
    intro f s l W hV hs hl hk
    by_cases hf : f s = -1
    · exact visit_step w n p2 g p5 p6 vn nx hn hrd hnx hlen k ih f s l W hV hs hl hk hf
    · exact found (k + 1) f s l W hV hs hf
theorem vs_start {w W4 : World} {n p5 : Nat} {vn : Value} (b4 : Below w.heap.size w W4) (hlt : w.heap.size + 2 < p5) (h5 : p5 < W4.heap.size) (c0 : W4.cell? ⟨w.heap.size, 0, none⟩ = some vn) (c5 : W4.cell? ⟨p5, 0, none⟩ = some (.slice (some ⟨w.heap.size + 2, 0, none⟩) n n)) (i4 : IRow W4 (w.heap.size + 2) n (fun _ => -1)) :
    VS w n w.heap.size (w.heap.size + 2) p5 W4.heap.size vn (fun _ => -1) (W4.alloc (.cells #[.func (.func 79) #[] #[.pointer (some ⟨p5, 0, none⟩), .pointer (some ⟨w.heap.size, 0, none⟩), .pointer (some ⟨W4.heap.size, 0, none⟩)]] 85)) := by
  have k5 := below1 W4 (.cells #[.func (.func 79) #[] #[.pointer (some ⟨p5, 0, none⟩), .pointer (some ⟨w.heap.size, 0, none⟩), .pointer (some ⟨W4.heap.size, 0, none⟩)]] 85)
  refine ⟨below_more b4 (Nat.le_refl _) k5, cell_keep c0 k5, cell_keep c5 k5, ?_, i4.keep k5, by omega, by omega, by omega, by omega⟩
  simp [go_sem]
set_option maxRecDepth 100000 in
set_option maxHeartbeats 6400000 in
theorem lengths_any (n : Nat) (vn : Value) (nx : Nat → List Int) (s : Nat) (w : World) (hn : n ≤ 64) (hrd : RowsRd w vn ((List.range n).map nx)) (hnx : ∀ s, s < n → ∀ u ∈ nx s, 0 ≤ u ∧ u < (n : Int)) (hlen : ∀ s, (nx s).length ≤ 100000) (hs : s < n) :
    Calls Try.prog 56 #[vn, .int .i64 (s : Int)] w fun e w' => e = .returned (.slice (some ⟨w.heap.size + 2, 0, none⟩) n n) ∧ IRow w' (w.heap.size + 2) n (dfsA nx (n + 1) (fun _ => -1) s 0) ∧ Below w.heap.size w w' := by
  obtain ⟨a, c, hvn⟩ := hrd.form
  rw [List.length_map, List.length_range] at hvn
  subst hvn
  have HRD := Lib.hid hrd
  have HNX := Lib.hid hnx
  have HL := Lib.hid hlen
  have hnp : (-1 : Int) < 0 := by decide
  obtain ⟨W1, hW1⟩ : ∃ W1, w.alloc (.cells #[.slice a n c] 27) = W1 := ⟨_, rfl⟩
  have z1 : W1.heap.size = w.heap.size + 1 := by rw [← hW1, World.size_alloc]
  have c1 : W1.cell? ⟨w.heap.size, 0, none⟩ = some (.slice a n c) := by rw [← hW1]; simp [go_sem]
  have b1 : Below w.heap.size w W1 := by rw [← hW1]; exact below1 _ _
  obtain ⟨W2, hW2⟩ : ∃ W2, W1.alloc (.cells #[.int .i64 (-1)] 3) = W2 := ⟨_, rfl⟩
  have z2 : W2.heap.size = w.heap.size + 2 := by rw [← hW2, World.size_alloc]; omega
  have c2 : W2.cell? ⟨w.heap.size + 1, 0, none⟩ = some (.int .i64 (-1)) := by rw [← hW2, ← z1]; simp [go_sem]
  have c1' : W2.cell? ⟨w.heap.size, 0, none⟩ = some (.slice a n c) := by rw [← hW2]; exact cell_keep c1 (below1 _ _)
  have b2 : Below w.heap.size w W2 := by rw [← hW2]; exact below_more b1 (Nat.le_refl _) (below1 _ _)
  have hr := repeatI_any n (w.heap.size + 1) 1 W2 hn c2
  rw [z2] at hr
  rw [← hW2, ← hW1] at hr
  have HR := Lib.hid hr
  have HB2 := Lib.hid b2
  have HC1 := Lib.hid c1'
  have HZ2 := Lib.hid z2
  rw [← hW2, ← hW1] at HB2 HC1 HZ2
  clear hrd hnx hlen b1 b2 hr hW1 hW2 c1 c1' c2 z1 z2
  clear W2 W1
  have c1 : (w.alloc (.cells #[.slice a n c] 27)).cell? ⟨w.heap.size, 0, none⟩ = some (.slice a n c) := by simp [go_sem]
  have hb3 := Lib.hid (fun W3 (h : Below (w.heap.size + 2) ((w.alloc (.cells #[.slice a n c] 27)).alloc (.cells #[.int .i64 (-1)] 3)) W3) => show Below w.heap.size w W3 from below_more HB2.out (by omega) (by rw [HZ2.out]; exact h))
  have hc3 := Lib.hid (fun W3 (h : Below (w.heap.size + 2) ((w.alloc (.cells #[.slice a n c] 27)).alloc (.cells #[.int .i64 (-1)] 3)) W3) => show W3.cell? ⟨w.heap.size, 0, none⟩ = some (.slice a n c) from cell_keep HC1.out (by rw [HZ2.out]; exact h))
  have hu := Lib.hid (unf_le n (fun _ => -1))
  have HVA := Lib.hid (fun p5 p6 W hW => visit_any w n w.heap.size (w.heap.size + 2) p5 p6 (.slice a n c) nx hn HRD.out HNX.out HL.out n (fun _ => -1) s 0 W hW hs (by have := hu.out; omega) hu.out)
  rw [show ((0 : Nat) : Int) = 0 from rfl] at HVA
  clear HB2 HC1 HZ2 hu HNX HL HRD
  go_enter Try.func56, Try.ntmps56
  go_upto_region 2 with (go_at_call 78; (with_reducible refine HR.out.mono ?_); rintro e W3 ⟨rfl, i3, b3⟩; clear c1)
  have hlt := i3.lt
  have b4 := below_more (hb3.out W3 b3) (Nat.le_refl _) (below1 W3 (.cells #[.slice (some ⟨w.heap.size + 2, 0, none⟩) n n] 34))
  have c4 := cell_keep (hc3.out W3 b3) (below1 W3 (.cells #[.slice (some ⟨w.heap.size + 2, 0, none⟩) n n] 34))
  have i4 := i3.keep (below1 W3 (.cells #[.slice (some ⟨w.heap.size + 2, 0, none⟩) n n] 34))
  have c5 : (W3.alloc (.cells #[.slice (some ⟨w.heap.size + 2, 0, none⟩) n n] 34)).cell? ⟨W3.heap.size, 0, none⟩ = some (.slice (some ⟨w.heap.size + 2, 0, none⟩) n n) := by simp [go_sem]
  have z4 := World.size_alloc W3 (.cells #[.slice (some ⟨w.heap.size + 2, 0, none⟩) n n] 34)
  generalize W3.alloc (.cells #[.slice (some ⟨w.heap.size + 2, 0, none⟩) n n] 34) = W4 at *
  obtain ⟨p5, hp5⟩ : ∃ p5, W3.heap.size = p5 := ⟨_, rfl⟩
  rw [hp5] at hlt c5 z4 ⊢
  have hv := vs_start b4 hlt (by omega) c4 c5 i4
  have x6 := hv.x6
  have HV := Lib.hid hv
  clear hv b4 c4 c5 i4 i3 b3 hp5 hb3 hc3 HR hlt z4
  go_wp2_with (go_at_call 79; (with_reducible refine (HVA.out _ _ _ HV.out).mono ?_); rintro e W5 ⟨⟨u5, rfl⟩, hv5⟩; clear x6; (have x5 := hv5.x5); (have HV5 := Lib.hid hv5); clear hv5)
  go_ret
  exact ⟨rfl, HV5.out.r, HV5.out.b⟩
end Go.Proofs.Ytfkplnmhlpabaaa
