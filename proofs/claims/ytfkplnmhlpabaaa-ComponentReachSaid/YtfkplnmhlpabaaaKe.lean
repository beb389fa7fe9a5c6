/- What component.targets returns. Conditions: at most 64 states, at most 1024 edges, between states. -/
import Derived.Test.YtfkplnmhlpabaaaKd
namespace Go.Proofs.Ytfkplnmhlpabaaa
open Go.RowKit
set_option linter.unusedSimpArgs false
set_option linter.unusedVariables false

theorem Try.infoRow : (Try.prog.info? 34).map (fun i => (i.zero, i.size, i.bytes)) = some (some (.slice none 0 0), 1, 24) := by kernel_rfl
theorem make_rows (n : Nat) (hn : n ≤ 100000) (W : World) : (Instr.makeSlice 27 (.int .i64 (n : Int)) (.int .i64 (n : Int))).run Try.prog W = .ok (.slice (some ⟨W.heap.size, 0, none⟩) n n) (W.alloc (.cells (madeCells #[.slice none 0 0] n) 34)) :=
  run_make_row' _ _ _ 24 Try.underlying27 Try.infoRow rfl _ _ n (by omega) (by omega) W
theorem cell_one_new (w : World) (x : Value) (t : TypeId) : ∀ j u, [x][j]? = some u → (w.alloc (.cells #[x] t)).cell? ((⟨w.heap.size, 0, none⟩ : Addr).add j) = some u := by
  intro j u hj
  match j, hj with
  | 0, hj => simp at hj; subst hj; simp [Addr.add]
/-- The cells that the statement of the loop reads. -/
def S7 (P0 b x : Nat) (z : Int) (s : Value) (W : World) : Prop := W.cell? ⟨P0, 0, none⟩ = some (.int .i64 (x : Int)) ∧ W.cell? ⟨P0, 2, none⟩ = some (.int .i64 z) ∧ W.cell? ⟨b, x, none⟩ = some s
theorem S7.keep {P0 b x : Nat} {z : Int} {s : Value} {W W' : World} (h : S7 P0 b x z s W) (hb : Below W.heap.size W W') : S7 P0 b x z s W' := ⟨cell_keep h.1 hb, cell_keep h.2.1 hb, cell_keep h.2.2 hb⟩
theorem S7.block {P0 b x : Nat} {z : Int} {s : Value} {W W' : World} {o : Obj} {row : Option Nat} (h : S7 P0 b x z s W) (r : ((W.alloc o).drew).grownBy W' row) (h2 : row ≠ some b) : W'.heap[b]? = W.heap[b]? := by
  have hq : b < W.heap.size := World.block_lt_of_cell? W ⟨b, x, none⟩ h.2.2
  have hs : ((W.alloc o).drew).heap.size = W.heap.size + 1 := World.size_alloc W o
  exact (r.block b (by omega) (Ne.symm h2)).trans (Below.heap_alloc _ _ _ hq)
theorem S7.grown {P0 b x : Nat} {z : Int} {s : Value} {W W' : World} {o : Obj} {row : Option Nat} (h : S7 P0 b x z s W) (r : ((W.alloc o).drew).grownBy W' row) (h1 : row ≠ some P0) (h2 : row ≠ some b) : S7 P0 b x z s W' := by
  have hp : P0 < W.heap.size := World.block_lt_of_cell? W ⟨P0, 0, none⟩ h.1
  have hs : ((W.alloc o).drew).heap.size = W.heap.size + 1 := World.size_alloc W o
  have e1 := (r.block P0 (by omega) (Ne.symm h1)).trans (Below.heap_alloc _ _ _ hp)
  have e2 := h.block r h2
  exact ⟨(World.cell?_of_block (w := W) e1).trans h.1, (World.cell?_of_block (w := W) e1).trans h.2.1, (World.cell?_of_block (w := W) e2).trans h.2.2⟩
set_option maxRecDepth 100000 in
set_option maxHeartbeats 6400000 in
theorem targets_any (L : Int) (n : Nat) (es : List E3) (v : Value) (w : World) (hrd : EdgesRd w v es) (hn : n ≤ 64) (hok : ∀ e ∈ es, okE L (n : Int) e = true) (hlen : es.length ≤ 1024) :
    Calls Try.prog 57 #[grV L (n : Int) v] w fun e w' => ∃ vs, e = .returned (.slice (some ⟨w.heap.size + 1, 0, none⟩) n n) ∧ RowsI (w.heap.size + 1) n vs (fun s => tgE es (s : Int)) w' ∧ Below w.heap.size w w' := by
  obtain ⟨i0, hi, hz0, hz1, hz2⟩ := info_parts Try.infoI64
  have hmx : Try.prog.follows .mixedOrders = true := by kernel_rfl
  have HMR := make_rows n (by omega)
  have HRD := Lib.hid hrd
  have HOK := Lib.hid hok
  obtain ⟨a, c, rfl⟩ := hrd.form
  have T0 : RowsI (w.heap.size + 1) n (fun _ => .slice none 0 0) (fun s => tgE (es.take 0) (s : Int)) ((w.alloc (.cells #[.int .i64 L, .int .i64 (n : Int), .slice a es.length c] 24)).alloc (.cells (madeCells #[.slice none 0 0] n) 34)) := by
    have h := RowsI.made (w.alloc (.cells #[.int .i64 L, .int .i64 (n : Int), .slice a es.length c] 24)) n
    rw [World.size_alloc] at h
    exact h
  have HT0 := Lib.hid T0
  have B0 := Lib.hid (below_more (below1 w (.cells #[.int .i64 L, .int .i64 (n : Int), .slice a es.length c] 24)) (Nat.le_refl _) (below1 _ (.cells (madeCells #[.slice none 0 0] n) 34)))
  obtain ⟨x1, x2, x3⟩ := id (BoxG.new w L (n : Int) (.slice a es.length c) 24)
  have x3' := cell_keep x3 (below1 _ (.cells (madeCells #[.slice none 0 0] n) 34))
  clear T0 hrd hok
  go_enter Try.func57, Try.ntmps57
  go_wp2_with fail
  clear x1 x2 x3 x3'
  generalize ((w.alloc (.cells #[.int .i64 L, .int .i64 (n : Int), .slice a es.length c] 24)).alloc (.cells (madeCells #[.slice none 0 0] n) 34)) = W0 at *
  obtain ⟨b, hb⟩ : ∃ b, w.heap.size + 1 = b := ⟨_, rfl⟩
  rw [hb] at HT0
  rw [hb]
  have hwb : w.heap.size ≤ b := by omega
  go_loopg [12] es.length (fun k s12 wx => ∃ (i : Nat) (vs : Nat → Value), i + k = es.length ∧ s12 = .int .i64 (i : Int) ∧ RowsI b n vs (fun s => tgE (es.take i) (s : Int)) wx ∧ Below w.heap.size w wx)
  case atStart => exact ⟨0, _, by omega, rfl, HT0.out, B0.out⟩
  case round =>
    clear HT0 B0
    obtain ⟨i, vs, hin, rfl, T, hB⟩ := hrel
    rcases gk with _ | k
    · obtain rfl : i = es.length := by omega
      rw [List.take_length] at T
      have HTE := Lib.hid T
      have HBE := Lib.hid hB
      clear T hB
      go_wp2_with fail
      go_ret
      exact ⟨vs, by rw [hb]; rfl, by rw [hb]; exact HTE.out, HBE.out⟩
    · obtain ⟨e, he⟩ : ∃ e, es[i]? = some e := ⟨_, List.getElem?_eq_getElem (by omega)⟩
      have hek := HOK.out e (List.mem_of_getElem? he)
      obtain ⟨bb, off, c', hv, k1, k2, k3⟩ := (HRD.out.keep hB).at he
      injection hv with e1 e2 e3
      subst e1
      subst e3
      have HT := take_snoc he
      have hps := tgE_snoc (es.take i) e
      rw [← HT] at hps
      obtain ⟨x, y, z⟩ := e
      rw [okE_iff] at hek
      dsimp only at hek k1 k2 k3 hps
      obtain ⟨hx0, hx1, -, -, hzz0, hzz1⟩ := hek
      obtain ⟨x, rfl⟩ : ∃ m : Nat, x = (m : Int) := ⟨x.toNat, by omega⟩
      have hxn : x < n := by omega
      have o1 := below1 wr (.cells #[.int .i64 (x : Int), .int .i64 y, .int .i64 z] 46)
      have T1 := T.keep o1
      have X1 := Box3.new wr (x : Int) y z 46
      have B1 := below_more hB (Nat.le_refl _) o1
      have j1 : (i : Int) < (es.length : Int) := by omega
      have j2 : (x : Int) < (n : Int) := by omega
      go_upto_region 5 with fail
      obtain ⟨W1, hW1⟩ : ∃ W1, wr.alloc (.cells #[.int .i64 (x : Int), .int .i64 y, .int .i64 z] 46) = W1 := ⟨_, rfl⟩
      obtain ⟨P0, hP0⟩ : ∃ P0, wr.heap.size = P0 := ⟨_, rfl⟩
      rw [hP0] at X1
      rw [hW1] at T1 X1 B1 ⊢
      rw [hP0]
      obtain ⟨x1, x2, x3, -, -, -⟩ := id X1
      have TD := Lib.hid (T1.keep (Below.refl _ _).drew)
      have TB := Lib.hid (show Below w.heap.size w (W1.drew.alloc (.cells #[.int .i64 z] 3)) from B1.drew.alloc B1.size _)
      obtain ⟨a9, c9, hvx⟩ := (T1.own x hxn).slice
      have HVX := Lib.hid hvx
      have g3 := T1.cell hxn
      have hfz := T1.frozen x
      rw [hvx] at g3
      have hmm : (tgE (List.take i es) (x : Int)).length ≤ 1024 := by
        have := tgE_len (List.take i es) (x : Int)
        rw [List.length_take] at this; omega
      have HPS := Lib.hid hps
      have hown := (TD.out.own x hxn)
      unfold IntsAt at hown
      rw [hvx] at hown
      have hsz : b + 1 ≤ W1.heap.size := TD.out.lt
      have hPB := Lib.hid (show b < P0 by rw [← hP0]; exact T.lt)
      have hOB := Lib.hid (show ∀ k, (vs x).ownBlock = some k → k < P0 from fun k e => by
        have h := ((T.own x hxn).lt k e).2
        rw [← hP0]; exact h)
      obtain ⟨m, hm⟩ : ∃ m, (tgE (List.take i es) (x : Int)).length = m := ⟨_, rfl⟩
      have HM := Lib.hid hm
      rw [hvx] at hOB
      rw [hm] at hown g3 hmm hOB HVX
      have hWS := B1.size
      clear hW1 hP0 k1 k2 k3 X1 T1 T HT hps e2 he hm o1 hB B1 hvx
      have hS : S7 P0 b x z (.slice a9 m c9) W1 := ⟨x1, x3, g3⟩
      have hl9 := hown.lt
      have hP9 : (Value.slice a9 m c9).ownBlock ≠ some P0 := fun e => by have := (hOB.out P0 e); omega
      have hb9 : (Value.slice a9 m c9).ownBlock ≠ some b := fun e => by have := (hl9 b e).1; omega
      have hR : S7 P0 b x z (.slice a9 m c9) W1.drew := hS
      have hRA : ∀ o, S7 P0 b x z (.slice a9 m c9) (W1.alloc o).drew := fun o => hS.keep (below1 W1 o).drew
      -- region 5
      refine regionT (T := T2 13 13 (S7 P0 b x z (.slice a9 m c9)) (S7 P0 b x z (.slice a9 m c9))) hmx ?_
      refine take1 (i := 0) (v := ?_) rfl (by kernel_rfl) (by kernel_rfl) (by kernel_rfl) (by kernel_rfl) (by kernel_rfl) (by decide) (by decide) (fun _ _ _ h => h) (Or.inl ⟨by rfl, ?_⟩) hR hR ?_
      rotate_left
      · intro w hSw
        (try unfold S7 at hSw)
        go_simp
        all_goals with_reducible rfl
      (try simp only [Act.put, List.setIfInBounds_toArray, List.set_cons_zero, List.set_cons_succ])
      refine take1 (i := 1) (v := ?_) rfl (by kernel_rfl) (by kernel_rfl) (by kernel_rfl) (by kernel_rfl) (by kernel_rfl) (by decide) (by decide) (fun _ _ _ h => h) (Or.inl ⟨by rfl, ?_⟩) hR hR ?_
      rotate_left
      · intro w hSw
        (try unfold S7 at hSw)
        go_simp
        all_goals with_reducible rfl
      (try simp only [Act.put, List.setIfInBounds_toArray, List.set_cons_zero, List.set_cons_succ])
      refine take1 (i := 2) (v := ?_) rfl (by kernel_rfl) (by kernel_rfl) (by kernel_rfl) (by kernel_rfl) (by kernel_rfl) (by decide) (by decide) (fun _ _ _ h => h) (Or.inl ⟨by rfl, ?_⟩) hR hR ?_
      rotate_left
      · intro w hSw
        (try unfold S7 at hSw)
        go_simp
        all_goals with_reducible rfl
      (try simp only [Act.put, List.setIfInBounds_toArray, List.set_cons_zero, List.set_cons_succ])
      refine take1 (i := 3) (v := ?_) rfl (by kernel_rfl) (by kernel_rfl) (by kernel_rfl) (by kernel_rfl) (by kernel_rfl) (by decide) (by decide) (fun _ _ _ h => h) (Or.inl ⟨by rfl, ?_⟩) hR hR ?_
      rotate_left
      · intro w hSw
        (try unfold S7 at hSw)
        go_simp
        all_goals with_reducible rfl
      (try simp only [Act.put, List.setIfInBounds_toArray, List.set_cons_zero, List.set_cons_succ])
      refine take1 (i := 4) (v := ?_) rfl (by kernel_rfl) (by kernel_rfl) (by kernel_rfl) (by kernel_rfl) (by kernel_rfl) (by decide) (by decide) (fun _ _ _ h => h) (Or.inl ⟨by rfl, ?_⟩) hR hR ?_
      rotate_left
      · intro w hSw
        (try unfold S7 at hSw)
        go_simp
        all_goals with_reducible rfl
      (try simp only [Act.put, List.setIfInBounds_toArray, List.set_cons_zero, List.set_cons_succ])
      refine take1 (i := 5) (v := ?_) rfl (by kernel_rfl) (by kernel_rfl) (by kernel_rfl) (by kernel_rfl) (by kernel_rfl) (by decide) (by decide) (fun _ _ _ h => h) (Or.inl ⟨by rfl, ?_⟩) hR hR ?_
      rotate_left
      · intro w hSw
        (try unfold S7 at hSw)
        go_simp
        all_goals with_reducible rfl
      (try simp only [Act.put, List.setIfInBounds_toArray, List.set_cons_zero, List.set_cons_succ])
      refine take1 (i := 6) (v := ?_) rfl (by kernel_rfl) (by kernel_rfl) (by kernel_rfl) (by kernel_rfl) (by kernel_rfl) (by decide) (by decide) (fun _ _ _ h => h) (Or.inl ⟨by rfl, ?_⟩) hR hR ?_
      rotate_left
      · intro w hSw
        (try unfold S7 at hSw)
        go_simp
        all_goals with_reducible rfl
      (try simp only [Act.put, List.setIfInBounds_toArray, List.set_cons_zero, List.set_cons_succ])
      refine take1 (i := 7) (v := ?_) rfl (by kernel_rfl) (by kernel_rfl) (by kernel_rfl) (by kernel_rfl) (by kernel_rfl) (by decide) (by decide) (fun _ _ _ h => h) (Or.inl ⟨by rfl, ?_⟩) hR hR ?_
      rotate_left
      · intro w hSw
        (try unfold S7 at hSw)
        go_simp
        all_goals with_reducible rfl
      (try simp only [Act.put, List.setIfInBounds_toArray, List.set_cons_zero, List.set_cons_succ])
      refine take1 (i := 8) (v := ?_) rfl (by kernel_rfl) (by kernel_rfl) (by kernel_rfl) (by kernel_rfl) (by kernel_rfl) (by decide) (by decide) (fun _ _ _ h => h) (Or.inl ⟨by rfl, ?_⟩) hR hR ?_
      rotate_left
      · intro w hSw
        (try unfold S7 at hSw)
        go_simp
        all_goals with_reducible rfl
      (try simp only [Act.put, List.setIfInBounds_toArray, List.set_cons_zero, List.set_cons_succ])
      refine take1 (i := 9) (v := ?_) rfl (by kernel_rfl) (by kernel_rfl) (by kernel_rfl) (by kernel_rfl) (by kernel_rfl) (by decide) (by decide) (fun _ _ _ h => h) (Or.inl ⟨by rfl, ?_⟩) hR hR ?_
      rotate_left
      · intro w hSw
        (try unfold S7 at hSw)
        go_simp
        all_goals with_reducible rfl
      (try simp only [Act.put, List.setIfInBounds_toArray, List.set_cons_zero, List.set_cons_succ])
      refine stepT (i := 10) (by kernel_rfl) rfl (fun K hK => ?_)
      go_simp
      refine hK.out _ _ ⟨fun _ => hRA _, fun _ => hRA _⟩ ?_
      clear hK K
      (try simp only [Act.put, List.setIfInBounds_toArray, List.set_cons_zero, List.set_cons_succ])
      refine stepT (i := 11) (by kernel_rfl) rfl (fun K hK => ?_)
      refine step_append_lies _ (by rfl) (.tmp 23) (.tmp 26) 34 (by rfl) (b + 1) 3 i0 (.int .i64 0) 1 8 Try.underlying34 hi hz0 hz1 hz2 rfl (by decide) (.slice a9 m c9) m (intz (tgE (List.take i es) (x : Int))) (by rfl) (hown.alloc _) ⟨W1.drew.heap.size, 0, none⟩ 1 1 [.int .i64 z] (by rfl) (by rfl) (cell_one_new _ _ _) (by intro u hu; simp at hu; subst hu; rfl) (by decide) (by unfold maxLen; omega) (by omega) (by show b + 1 ≤ (W1.alloc _).heap.size; rw [World.size_alloc]; omega) _ rfl ?_
      intro g9 d9 W4 r1 r2 r3 r4
      have hR4 : (S7 P0 b x z (.slice a9 m c9)) W4 := hS.grown r2 hP9 hb9
      have hA := Lib.hid (TD.out.app (i := x) hxn (o := (.cells #[.int .i64 z] 3)) (s' := .slice (some ⟨g9, 0, none⟩) (m + 1) d9) (r' := tgE (List.take i es) (x : Int) ++ [z]) (by rw [HVX.out]; exact r2) (by unfold IntsAt; rw [intz_snoc, List.length_append, HM.out]; exact r1)
            (by rw [HVX.out]; exact r3.elim (fun r => .inl r.symm) (fun r => .inr (by rw [r]; exact congrArg some (World.size_alloc _ _)))))
      have hB4 := Lib.hid (Below.grown (w' := W4) TB.out (show (W1.drew.alloc (.cells #[.int .i64 z] 3)).grownBy W4 _ from r2) (by rw [World.size_alloc]; show _ ≤ W1.heap.size + 1; omega) (fun k e => by have := (hl9 k e).1; omega))
      have hF4 := Lib.hid ((World.frozen?_of_block (w := W1) (a := ⟨b, x, none⟩) (hS.block r2 hb9)).trans hfz)
      have c4 : W4.cell? ⟨b, x, none⟩ = some (.slice a9 m c9) := hR4.2.2
      have f4 := hF4.out
      clear r1 r2 r3 r4
      refine hK.out _ _ ⟨fun _ => hR4, fun _ => hR4⟩ ?_
      clear hK K
      (try simp only [Act.put, List.setIfInBounds_toArray, List.set_cons_zero, List.set_cons_succ])
      refine take1 (i := 12) (v := ?_) rfl (by kernel_rfl) (by kernel_rfl) (by kernel_rfl) (by kernel_rfl) (by kernel_rfl) (by decide) (by decide) (fun _ _ _ h => h) (Or.inl ⟨by rfl, ?_⟩) hR4 hR4 ?_
      rotate_left
      · intro w hSw
        (try unfold S7 at hSw)
        go_simp
        all_goals with_reducible rfl
      (try simp only [Act.put, List.setIfInBounds_toArray, List.set_cons_zero, List.set_cons_succ])
      refine stepT (i := 13) (by kernel_rfl) rfl (fun K hK => ?_)
      go_simp
      refine hK.out _ _ ⟨fun h => absurd h (by decide), fun h => absurd h (by decide)⟩ ?_
      clear hK K
      (try simp only [Act.put, List.setIfInBounds_toArray, List.set_cons_zero, List.set_cons_succ])
      refine doneT (by kernel_rfl) ?_ _
      -- behind region 5
      go_wp2_with fail
      go_roundg k
      case measure => omega
      case rel =>
        refine ⟨i + 1, _, by omega, by go_num, hA.out.congr (fun _ _ => rfl) (fun j _ => ?_), hB4.out.setCell (by show w.heap.size ≤ b; omega) _⟩
        rw [HPS.out (j : Int)]
        unfold upd
        by_cases hj : j = x
        · subst hj; rw [if_pos rfl, if_pos rfl]
        · rw [if_neg hj, if_neg (by omega)]
end Go.Proofs.Ytfkplnmhlpabaaa
