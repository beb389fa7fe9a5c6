/- Rows of integers that lie in a row: slices of slices. No condition. What component.targets returns. Conditions: at most 64 states, at most 1024 edges, between states. What states.MovesOf, Step and Follow do. Conditions: a valid graph's sizes; the library's table reads as its text lays it. -/
import Derived.Test.YtiockphjnkehnaaGreatDoorQ09
import Derived.Test.YtiockphjnkehnaaGreatDoorQ10

namespace Go.Proofs.YtiockphjnkehnaaGreatDoor
open Go.RowKit
set_option linter.unusedSimpArgs false
set_option linter.unusedVariables false

def upd {α : Type} (f : Nat → α) (i : Nat) (x : α) : Nat → α := fun j => if j = i then x else f j
structure RowsI (b n : Nat) (vs : Nat → Value) (rows : Nat → List Int) (W : World) : Prop where
  row : W.rowIs b 30 n vs
  own : ∀ i, i < n → IntsAt W (b + 1) (vs i) (rows i)
  apart : ∀ i j, i < n → j < n → i ≠ j → Dj (vs i) (vs j)
section
variable {b n : Nat} {vs vs' : Nat → Value} {rows rows' : Nat → List Int} {W W' : World}
theorem RowsI.keep (h : RowsI b n vs rows W) (hb : Below W.heap.size W W') : RowsI b n vs rows W' :=
  ⟨World.rowIs.of_block h.row (hb.block b (World.rowIs.lt h.row)), fun i hi => (h.own i hi).keep hb, h.apart⟩
theorem RowsI.lt (h : RowsI b n vs rows W) : b < W.heap.size := World.rowIs.lt h.row
theorem RowsI.cell (h : RowsI b n vs rows W) {i : Nat} (hi : i < n) : W.cell? ⟨b, i, none⟩ = some (vs i) := World.rowIs.cell h.row hi
theorem RowsI.frozen (h : RowsI b n vs rows W) (i : Nat) : W.frozen? ⟨b, i, none⟩ = false := World.rowIs.frozen h.row i
theorem RowsI.congr (h : RowsI b n vs rows W) (e1 : ∀ i, i < n → vs i = vs' i) (e2 : ∀ i, i < n → rows i = rows' i) : RowsI b n vs' rows' W :=
  ⟨World.rowIs.congr h.row e1, fun i hi => by rw [← e1 i hi, ← e2 i hi]; exact h.own i hi, fun i j hi hj hij => by rw [← e1 i hi, ← e1 j hj]; exact h.apart i j hi hj hij⟩
theorem RowsI.made (w : World) (n : Nat) : RowsI w.heap.size n (fun _ => .slice none 0 0) (fun _ => []) (w.alloc (.cells (madeCells #[.slice none 0 0] n) 30)) :=
  ⟨World.rowIs_made w _ n _, fun i hi => ints_nil _ _, fun i j _ _ _ => Dj.nil _⟩
theorem RowsI.app (h : RowsI b n vs rows W) {i : Nat} (hi : i < n) {o : Obj} (hg : (W.alloc o).grownBy W' (vs i).ownBlock) {s' : Value} {r' : List Int} (hr : IntsAt W' (b + 1) s' r')
    (hv : s'.ownBlock = (vs i).ownBlock ∨ s'.ownBlock = some (W.heap.size + 1)) : RowsI b n (upd vs i s') (upd rows i r') (W'.setCell ⟨b, i, none⟩ s') := by
  have hlt := h.lt
  have hbk : (vs i).ownBlock ≠ some b := fun e => by have := ((h.own i hi).lt b e).1; omega
  have hrow : W'.rowIs b 30 n vs := World.rowIs.of_block h.row ((hg.block b (by rw [World.size_alloc]; omega) (fun e => hbk e.symm)).trans (Below.heap_alloc _ _ _ hlt))
  refine ⟨World.rowIs.congr (World.rowIs.set hrow i s') (fun j _ => by unfold upd; dsimp only), fun j hj => ?_, fun j k hj hk hjk => ?_⟩
  · unfold upd
    by_cases hji : j = i
    · rw [if_pos hji, if_pos hji]
      exact ownsRow_setCell_below hr (by exact Nat.lt_succ_self _) _
    · rw [if_neg hji, if_neg hji]
      have h1 := (h.own j hj).keep (below1 W o)
      have h2 : IntsAt W' (b + 1) (vs j) (rows j) := World.ownsRow.kept h1 hg (h.apart j i hj hi hji).or
      exact ownsRow_setCell_below h2 (by exact Nat.lt_succ_self _) _
  · unfold upd
    have hs : ∀ q, q < n → q ≠ i → Dj s' (vs q) := fun q hq hqi k h1 h2 => by
      rcases hv with hv | hv
      · exact h.apart i q hi hq (Ne.symm hqi) k (hv ▸ h1) h2
      · rw [hv] at h1
        injection h1 with h1
        have := ((h.own q hq).lt k h2).2
        omega
    by_cases hji : j = i
    · by_cases hki : k = i
      · exact absurd (hji.trans hki.symm) hjk
      · rw [if_pos hji, if_neg hki]; exact hs k hk hki
    · by_cases hki : k = i
      · rw [if_neg hji, if_pos hki]; exact (hs j hj hji).symm
      · rw [if_neg hji, if_neg hki]; exact h.apart j k hj hk hjk
end
def RowsRd (W : World) (v : Value) (rows : List (List Int)) : Prop := ∃ a c, v = .slice a rows.length c ∧ ∀ (i : Nat) (r : List Int), rows[i]? = some r → ∃ b off u, a = some ⟨b, off, none⟩ ∧ W.cell? ⟨b, off + i, none⟩ = some u ∧ IntsRd W u r
theorem RowsRd.keep {W W' : World} {v : Value} {rows : List (List Int)} (h : RowsRd W v rows) (hb : Below W.heap.size W W') : RowsRd W' v rows := by
  obtain ⟨a, c, rfl, h1⟩ := h
  refine ⟨a, c, rfl, fun i r hr => ?_⟩
  obtain ⟨b, off, u, rfl, k1, k2⟩ := h1 i r hr
  exact ⟨b, off, u, rfl, cell_keep k1 hb, k2.keep hb⟩
theorem RowsRd.form {W : World} {v : Value} {rows : List (List Int)} (h : RowsRd W v rows) : ∃ a c, v = .slice a rows.length c := by
  obtain ⟨a, c, hv, -⟩ := h; exact ⟨a, c, hv⟩
theorem RowsRd.at {W : World} {v : Value} {rows : List (List Int)} (h : RowsRd W v rows) {i : Nat} {r : List Int} (hr : rows[i]? = some r) : ∃ b off c u, v = .slice (some ⟨b, off, none⟩) rows.length c ∧ W.cell? ⟨b, off + i, none⟩ = some u ∧ IntsRd W u r := by
  obtain ⟨a, c, rfl, h1⟩ := h
  obtain ⟨b, off, u, rfl, k1, k2⟩ := h1 i r hr
  exact ⟨b, off, c, u, rfl, k1, k2⟩
theorem rows_rd {b n : Nat} {vs : Nat → Value} {rows : Nat → List Int} {W : World} (h : RowsI b n vs rows W) (c : Nat) : RowsRd W (.slice (some ⟨b, 0, none⟩) n c) ((List.range n).map rows) := by
  refine ⟨some ⟨b, 0, none⟩, c, by rw [List.length_map, List.length_range], fun i r hr => ?_⟩
  rw [List.getElem?_map] at hr
  by_cases hi : i < n
  · rw [List.getElem?_range hi] at hr
    simp at hr
    subst hr
    exact ⟨b, 0, vs i, rfl, by rw [Nat.zero_add]; exact h.cell hi, (h.own i hi).rd⟩
  · rw [List.getElem?_eq_none (by rw [List.length_range]; omega)] at hr
    cases hr
end Go.Proofs.YtiockphjnkehnaaGreatDoor

namespace Go.Proofs.YtiockphjnkehnaaGreatDoor
open Go.RowKit
set_option linter.unusedSimpArgs false
set_option linter.unusedVariables false

theorem Tryz.infoRow : (Tryz.prog.info? 30).map (fun i => (i.zero, i.size, i.bytes)) = some (some (.slice none 0 0), 1, 24) := by kernel_rfl
theorem make_rows (n : Nat) (hn : n ≤ 100000) (W : World) : (Instr.makeSlice 45 (.int .i64 (n : Int)) (.int .i64 (n : Int))).run Tryz.prog W = .ok (.slice (some ⟨W.heap.size, 0, none⟩) n n) (W.alloc (.cells (madeCells #[.slice none 0 0] n) 30)) :=
  run_make_row' _ _ _ 24 Tryz.underlying45 Tryz.infoRow rfl _ _ n (by omega) (by omega) W
theorem cell_one_new (w : World) (x : Value) (t : TypeId) : ∀ j u, [x][j]? = some u → (w.alloc (.cells #[x] t)).cell? ((⟨w.heap.size, 0, none⟩ : Addr).add j) = some u := by
  intro j u hj
  match j, hj with
  | 0, hj => simp at hj; subst hj; simp [Addr.add]
def S7 (P0 b x : Nat) (z : Int) (s : Value) (W : World) : Prop := W.cell? ⟨P0, 0, none⟩ = some (.int .i64 (x : Int)) ∧ W.cell? ⟨P0, 2, none⟩ = some (.int .i64 z) ∧ W.cell? ⟨b, x, none⟩ = some s
theorem S7.keep {P0 b x : Nat} {z : Int} {s : Value} {W W' : World} (h : S7 P0 b x z s W) (hb : Below W.heap.size W W') : S7 P0 b x z s W' := ⟨cell_keep h.1 hb, cell_keep h.2.1 hb, cell_keep h.2.2 hb⟩
theorem S7.block {P0 b x : Nat} {z : Int} {s : Value} {W W' : World} {o : Obj} {row : Option Nat} (h : S7 P0 b x z s W) (r : ((W.alloc o).drew).grownBy W' row) (h2 : row ≠ some b) : W'.heap[b]? = W.heap[b]? := by
  have hq : b < W.heap.size := World.block_lt_of_cell? W ⟨b, x, none⟩ h.2.2
  have hs : ((W.alloc o).drew).heap.size = W.heap.size + 1 := World.size_alloc W o
  exact (r.block b (by omega) (Ne.symm h2)).trans (Below.heap_alloc _ _ _ hq)
theorem S7.grown {P0 b x : Nat} {z : Int} {s : Value} {W W' : World} {o : Obj} {row : Option Nat} (h : S7 P0 b x z s W) (r : ((W.alloc o).drew).grownBy W' row) (h1 : row ≠ some P0) (h2 : row ≠ some b) : S7 P0 b x z s W' := by
  have hp : P0 < W.heap.size := World.block_lt_of_cell? W ⟨P0, 0, none⟩ h.1
  have hs : ((W.alloc o).drew).heap.size = W.heap.size + 1 := World.size_alloc W o
  have e1 := (r.block P0 (by omega) (Ne.symm h1)).trans (Below.heap_alloc _ _ _ hp)
  have e2 := h.block r h2
  exact ⟨(World.cell?_of_block (w := W) e1).trans h.1, (World.cell?_of_block (w := W) e1).trans h.2.1, (World.cell?_of_block (w := W) e2).trans h.2.2⟩
set_option maxRecDepth 100000 in
set_option maxHeartbeats 6400000 in
theorem targets_any (L : Int) (n : Nat) (es : List E3) (v : Value) (w : World) (hrd : EdgesRd w v es) (hn : n ≤ 64) (hok : ∀ e ∈ es, okE L (n : Int) e = true) (hlen : es.length ≤ 1024) :
    Calls Tryz.prog 114 #[grV L (n : Int) v] w fun e w' => ∃ vs, e = .returned (.slice (some ⟨w.heap.size + 1, 0, none⟩) n n) ∧ RowsI (w.heap.size + 1) n vs (fun s => tgE es (s : Int)) w' ∧ Below w.heap.size w w' := by
  obtain ⟨i0, hi, hz0, hz1, hz2⟩ := info_parts Tryz.infoI64
  have hmx : Tryz.prog.follows .mixedOrders = true := by kernel_rfl
  have HMR := make_rows n (by omega)
  have HRD := Lib.hid hrd
  have HOK := Lib.hid hok
  obtain ⟨a, c, rfl⟩ := hrd.form
  have T0 : RowsI (w.heap.size + 1) n (fun _ => .slice none 0 0) (fun s => tgE (es.take 0) (s : Int)) ((w.alloc (.cells #[.int .i64 L, .int .i64 (n : Int), .slice a es.length c] 24)).alloc (.cells (madeCells #[.slice none 0 0] n) 30)) := by
    have h := RowsI.made (w.alloc (.cells #[.int .i64 L, .int .i64 (n : Int), .slice a es.length c] 24)) n
    rw [World.size_alloc] at h
    exact h
  have HT0 := Lib.hid T0
  have B0 := Lib.hid (below_more (below1 w (.cells #[.int .i64 L, .int .i64 (n : Int), .slice a es.length c] 24)) (Nat.le_refl _) (below1 _ (.cells (madeCells #[.slice none 0 0] n) 30)))
  obtain ⟨x1, x2, x3⟩ := id (BoxG.new w L (n : Int) (.slice a es.length c) 24)
  have x3' := cell_keep x3 (below1 _ (.cells (madeCells #[.slice none 0 0] n) 30))
  clear T0 hrd hok
  go_enter Tryz.func114, Tryz.ntmps114
  go_wp2_with fail
  clear x1 x2 x3 x3'
  generalize ((w.alloc (.cells #[.int .i64 L, .int .i64 (n : Int), .slice a es.length c] 24)).alloc (.cells (madeCells #[.slice none 0 0] n) 30)) = W0 at *
  obtain ⟨b, hb⟩ : ∃ b, w.heap.size + 1 = b := ⟨_, rfl⟩
  rw [hb] at HT0
  rw [hb]
  have hwb : w.heap.size ≤ b := by omega
  go_loopg [12] es.length (fun k s12 wx => ∃ (i : Nat) (vs : Nat → Value), i + k = es.length ∧ s12 = .int .i64 (i : Int) ∧ RowsI b n vs (fun s => tgE (es.take i) (s : Int)) wx ∧ Below w.heap.size w wx)
  case atStart => exact ⟨0, _, by omega, rfl, HT0.out, B0.out⟩
  case round =>
    clear HT0 B0
    obtain ⟨i, vs, hin, rfl, T, hB⟩ := hrel
    rcases gk with _ | k
    · obtain rfl : i = es.length := by omega
      rw [List.take_length] at T
      have HTE := Lib.hid T
      have HBE := Lib.hid hB
      clear T hB
      go_wp2_with fail
      go_ret
      exact ⟨vs, by rw [hb]; rfl, by rw [hb]; exact HTE.out, HBE.out⟩
    · obtain ⟨e, he⟩ : ∃ e, es[i]? = some e := ⟨_, List.getElem?_eq_getElem (by omega)⟩
      have hek := HOK.out e (List.mem_of_getElem? he)
      obtain ⟨bb, off, c', hv, k1, k2, k3⟩ := (HRD.out.keep hB).at he
      injection hv with e1 e2 e3
      subst e1
      subst e3
      have HT := take_snoc he
      have hps := tgE_snoc (es.take i) e
      rw [← HT] at hps
      obtain ⟨x, y, z⟩ := e
      rw [okE_iff] at hek
      dsimp only at hek k1 k2 k3 hps
      obtain ⟨hx0, hx1, -, -, hzz0, hzz1⟩ := hek
      obtain ⟨x, rfl⟩ : ∃ m : Nat, x = (m : Int) := ⟨x.toNat, by omega⟩
      have hxn : x < n := by omega
      have o1 := below1 wr (.cells #[.int .i64 (x : Int), .int .i64 y, .int .i64 z] 39)
      have T1 := T.keep o1
      have X1 := Box3.new wr (x : Int) y z 39
      have B1 := below_more hB (Nat.le_refl _) o1
      have j1 : (i : Int) < (es.length : Int) := by omega
      have j2 : (x : Int) < (n : Int) := by omega
      go_upto_region 5 with fail
      obtain ⟨W1, hW1⟩ : ∃ W1, wr.alloc (.cells #[.int .i64 (x : Int), .int .i64 y, .int .i64 z] 39) = W1 := ⟨_, rfl⟩
      obtain ⟨P0, hP0⟩ : ∃ P0, wr.heap.size = P0 := ⟨_, rfl⟩
      rw [hP0] at X1
      rw [hW1] at T1 X1 B1 ⊢
      rw [hP0]
      obtain ⟨x1, x2, x3, -, -, -⟩ := id X1
      have TD := Lib.hid (T1.keep (Below.refl _ _).drew)
      have TB := Lib.hid (show Below w.heap.size w (W1.drew.alloc (.cells #[.int .i64 z] 3)) from B1.drew.alloc B1.size _)
      obtain ⟨a9, c9, hvx⟩ := (T1.own x hxn).slice
      have HVX := Lib.hid hvx
      have g3 := T1.cell hxn
      have hfz := T1.frozen x
      rw [hvx] at g3
      have hmm : (tgE (List.take i es) (x : Int)).length ≤ 1024 := by
        have := tgE_len (List.take i es) (x : Int)
        rw [List.length_take] at this; omega
      have HPS := Lib.hid hps
      have hown := (TD.out.own x hxn)
      unfold IntsAt at hown
      rw [hvx] at hown
      have hsz : b + 1 ≤ W1.heap.size := TD.out.lt
      have hPB := Lib.hid (show b < P0 by rw [← hP0]; exact T.lt)
      have hOB := Lib.hid (show ∀ k, (vs x).ownBlock = some k → k < P0 from fun k e => by
        have h := ((T.own x hxn).lt k e).2
        rw [← hP0]; exact h)
      obtain ⟨m, hm⟩ : ∃ m, (tgE (List.take i es) (x : Int)).length = m := ⟨_, rfl⟩
      have HM := Lib.hid hm
      rw [hvx] at hOB
      rw [hm] at hown g3 hmm hOB HVX
      have hWS := B1.size
      clear hW1 hP0 k1 k2 k3 X1 T1 T HT hps e2 he hm o1 hB B1 hvx
      have hS : S7 P0 b x z (.slice a9 m c9) W1 := ⟨x1, x3, g3⟩
      have hl9 := hown.lt
      have hP9 : (Value.slice a9 m c9).ownBlock ≠ some P0 := fun e => by have := (hOB.out P0 e); omega
      have hb9 : (Value.slice a9 m c9).ownBlock ≠ some b := fun e => by have := (hl9 b e).1; omega
      have hR : S7 P0 b x z (.slice a9 m c9) W1.drew := hS
      have hRA : ∀ o, S7 P0 b x z (.slice a9 m c9) (W1.alloc o).drew := fun o => hS.keep (below1 W1 o).drew
      -- region 5
      refine regionT (T := T2 13 13 (S7 P0 b x z (.slice a9 m c9)) (S7 P0 b x z (.slice a9 m c9))) hmx ?_
      refine take1 (i := 0) (v := ?_) rfl (by kernel_rfl) (by kernel_rfl) (by kernel_rfl) (by kernel_rfl) (by kernel_rfl) (by decide) (by decide) (fun _ _ _ h => h) (Or.inl ⟨by rfl, ?_⟩) hR hR ?_
      rotate_left
      · intro w hSw
        (try unfold S7 at hSw)
        go_simp
        all_goals with_reducible rfl
      (try simp only [Act.put, List.setIfInBounds_toArray, List.set_cons_zero, List.set_cons_succ])
      refine take1 (i := 1) (v := ?_) rfl (by kernel_rfl) (by kernel_rfl) (by kernel_rfl) (by kernel_rfl) (by kernel_rfl) (by decide) (by decide) (fun _ _ _ h => h) (Or.inl ⟨by rfl, ?_⟩) hR hR ?_
      rotate_left
      · intro w hSw
        (try unfold S7 at hSw)
        go_simp
        all_goals with_reducible rfl
      (try simp only [Act.put, List.setIfInBounds_toArray, List.set_cons_zero, List.set_cons_succ])
      refine take1 (i := 2) (v := ?_) rfl (by kernel_rfl) (by kernel_rfl) (by kernel_rfl) (by kernel_rfl) (by kernel_rfl) (by decide) (by decide) (fun _ _ _ h => h) (Or.inl ⟨by rfl, ?_⟩) hR hR ?_
      rotate_left
      · intro w hSw
        (try unfold S7 at hSw)
        go_simp
        all_goals with_reducible rfl
      (try simp only [Act.put, List.setIfInBounds_toArray, List.set_cons_zero, List.set_cons_succ])
      refine take1 (i := 3) (v := ?_) rfl (by kernel_rfl) (by kernel_rfl) (by kernel_rfl) (by kernel_rfl) (by kernel_rfl) (by decide) (by decide) (fun _ _ _ h => h) (Or.inl ⟨by rfl, ?_⟩) hR hR ?_
      rotate_left
      · intro w hSw
        (try unfold S7 at hSw)
        go_simp
        all_goals with_reducible rfl
      (try simp only [Act.put, List.setIfInBounds_toArray, List.set_cons_zero, List.set_cons_succ])
      refine take1 (i := 4) (v := ?_) rfl (by kernel_rfl) (by kernel_rfl) (by kernel_rfl) (by kernel_rfl) (by kernel_rfl) (by decide) (by decide) (fun _ _ _ h => h) (Or.inl ⟨by rfl, ?_⟩) hR hR ?_
      rotate_left
      · intro w hSw
        (try unfold S7 at hSw)
        go_simp
        all_goals with_reducible rfl
      (try simp only [Act.put, List.setIfInBounds_toArray, List.set_cons_zero, List.set_cons_succ])
      refine take1 (i := 5) (v := ?_) rfl (by kernel_rfl) (by kernel_rfl) (by kernel_rfl) (by kernel_rfl) (by kernel_rfl) (by decide) (by decide) (fun _ _ _ h => h) (Or.inl ⟨by rfl, ?_⟩) hR hR ?_
      rotate_left
      · intro w hSw
        (try unfold S7 at hSw)
        go_simp
        all_goals with_reducible rfl
      (try simp only [Act.put, List.setIfInBounds_toArray, List.set_cons_zero, List.set_cons_succ])
      refine take1 (i := 6) (v := ?_) rfl (by kernel_rfl) (by kernel_rfl) (by kernel_rfl) (by kernel_rfl) (by kernel_rfl) (by decide) (by decide) (fun _ _ _ h => h) (Or.inl ⟨by rfl, ?_⟩) hR hR ?_
      rotate_left
      · intro w hSw
        (try unfold S7 at hSw)
        go_simp
        all_goals with_reducible rfl
      (try simp only [Act.put, List.setIfInBounds_toArray, List.set_cons_zero, List.set_cons_succ])
      refine take1 (i := 7) (v := ?_) rfl (by kernel_rfl) (by kernel_rfl) (by kernel_rfl) (by kernel_rfl) (by kernel_rfl) (by decide) (by decide) (fun _ _ _ h => h) (Or.inl ⟨by rfl, ?_⟩) hR hR ?_
      rotate_left
      · intro w hSw
        (try unfold S7 at hSw)
        go_simp
        all_goals with_reducible rfl
      (try simp only [Act.put, List.setIfInBounds_toArray, List.set_cons_zero, List.set_cons_succ])
      refine take1 (i := 8) (v := ?_) rfl (by kernel_rfl) (by kernel_rfl) (by kernel_rfl) (by kernel_rfl) (by kernel_rfl) (by decide) (by decide) (fun _ _ _ h => h) (Or.inl ⟨by rfl, ?_⟩) hR hR ?_
      rotate_left
      · intro w hSw
        (try unfold S7 at hSw)
        go_simp
        all_goals with_reducible rfl
      (try simp only [Act.put, List.setIfInBounds_toArray, List.set_cons_zero, List.set_cons_succ])
      refine take1 (i := 9) (v := ?_) rfl (by kernel_rfl) (by kernel_rfl) (by kernel_rfl) (by kernel_rfl) (by kernel_rfl) (by decide) (by decide) (fun _ _ _ h => h) (Or.inl ⟨by rfl, ?_⟩) hR hR ?_
      rotate_left
      · intro w hSw
        (try unfold S7 at hSw)
        go_simp
        all_goals with_reducible rfl
      (try simp only [Act.put, List.setIfInBounds_toArray, List.set_cons_zero, List.set_cons_succ])
      refine stepT (i := 10) (by kernel_rfl) rfl (fun K hK => ?_)
      go_simp
      refine hK.out _ _ ⟨fun _ => hRA _, fun _ => hRA _⟩ ?_
      clear hK K
      (try simp only [Act.put, List.setIfInBounds_toArray, List.set_cons_zero, List.set_cons_succ])
      refine stepT (i := 11) (by kernel_rfl) rfl (fun K hK => ?_)
      refine step_append_lies _ (by rfl) (.tmp 23) (.tmp 26) 30 (by rfl) (b + 1) 3 i0 (.int .i64 0) 1 8 Tryz.underlying30 hi hz0 hz1 hz2 rfl (by decide) (.slice a9 m c9) m (intz (tgE (List.take i es) (x : Int))) (by rfl) (hown.alloc _) ⟨W1.drew.heap.size, 0, none⟩ 1 1 [.int .i64 z] (by rfl) (by rfl) (cell_one_new _ _ _) (by intro u hu; simp at hu; subst hu; rfl) (by decide) (by unfold maxLen; omega) (by omega) (by show b + 1 ≤ (W1.alloc _).heap.size; rw [World.size_alloc]; omega) _ rfl ?_
      intro g9 d9 W4 r1 r2 r3 r4
      have hR4 : (S7 P0 b x z (.slice a9 m c9)) W4 := hS.grown r2 hP9 hb9
      have hA := Lib.hid (TD.out.app (i := x) hxn (o := (.cells #[.int .i64 z] 3)) (s' := .slice (some ⟨g9, 0, none⟩) (m + 1) d9) (r' := tgE (List.take i es) (x : Int) ++ [z]) (by rw [HVX.out]; exact r2) (by unfold IntsAt; rw [intz_snoc, List.length_append, HM.out]; exact r1)
            (by rw [HVX.out]; exact r3.elim (fun r => .inl r.symm) (fun r => .inr (by rw [r]; exact congrArg some (World.size_alloc _ _)))))
      have hB4 := Lib.hid (Below.grown (w' := W4) TB.out (show (W1.drew.alloc (.cells #[.int .i64 z] 3)).grownBy W4 _ from r2) (by rw [World.size_alloc]; show _ ≤ W1.heap.size + 1; omega) (fun k e => by have := (hl9 k e).1; omega))
      have hF4 := Lib.hid ((World.frozen?_of_block (w := W1) (a := ⟨b, x, none⟩) (hS.block r2 hb9)).trans hfz)
      have c4 : W4.cell? ⟨b, x, none⟩ = some (.slice a9 m c9) := hR4.2.2
      have f4 := hF4.out
      clear r1 r2 r3 r4
      refine hK.out _ _ ⟨fun _ => hR4, fun _ => hR4⟩ ?_
      clear hK K
      (try simp only [Act.put, List.setIfInBounds_toArray, List.set_cons_zero, List.set_cons_succ])
      refine take1 (i := 12) (v := ?_) rfl (by kernel_rfl) (by kernel_rfl) (by kernel_rfl) (by kernel_rfl) (by kernel_rfl) (by decide) (by decide) (fun _ _ _ h => h) (Or.inl ⟨by rfl, ?_⟩) hR4 hR4 ?_
      rotate_left
      · intro w hSw
        (try unfold S7 at hSw)
        go_simp
        all_goals with_reducible rfl
      (try simp only [Act.put, List.setIfInBounds_toArray, List.set_cons_zero, List.set_cons_succ])
      refine stepT (i := 13) (by kernel_rfl) rfl (fun K hK => ?_)
      go_simp
      refine hK.out _ _ ⟨fun h => absurd h (by decide), fun h => absurd h (by decide)⟩ ?_
      clear hK K
      (try simp only [Act.put, List.setIfInBounds_toArray, List.set_cons_zero, List.set_cons_succ])
      refine doneT (by kernel_rfl) ?_ _
      -- behind region 5
      go_wp2_with fail
      go_roundg k
      case measure => omega
      case rel =>
        refine ⟨i + 1, _, by omega, by go_num, hA.out.congr (fun _ _ => rfl) (fun j _ => ?_), hB4.out.setCell (by show w.heap.size ≤ b; omega) _⟩
        rw [HPS.out (j : Int)]
        unfold upd
        by_cases hj : j = x
        · subst hj; rw [if_pos rfl, if_pos rfl]
        · rw [if_neg hj, if_neg (by omega)]
end Go.Proofs.YtiockphjnkehnaaGreatDoor

namespace Go.Proofs.YtiockphjnkehnaaGreatDoor
open Go.RowKit
set_option linter.unusedSimpArgs false
set_option linter.unusedVariables false

theorem Tryz.infoSet : (Tryz.prog.info? 70).map (fun i => (i.zero, i.size, i.bytes)) = some (some (.int .u64 0), 1, 8) := by kernel_rfl
theorem Tryz.infoSets : (Tryz.prog.info? 97).map (fun i => (i.zero, i.size, i.bytes)) = some (some (.slice none 0 0), 1, 24) := by kernel_rfl
theorem make_sets (n : Nat) (hn : n ≤ 100000) (W : World) : (Instr.makeSlice 97 (.int .i64 (n : Int)) (.int .i64 (n : Int))).run Tryz.prog W = .ok (.slice (some ⟨W.heap.size, 0, none⟩) n n) (W.alloc (.cells (madeCells #[.int .u64 0] n) 70)) :=
  run_make_row' _ _ _ 8 Tryz.underlying97 Tryz.infoSet rfl _ _ n (by omega) (by omega) W
theorem make_moves (n : Nat) (hn : n ≤ 100000) (W : World) : (Instr.makeSlice 94 (.int .i64 (n : Int)) (.int .i64 (n : Int))).run Tryz.prog W = .ok (.slice (some ⟨W.heap.size, 0, none⟩) n n) (W.alloc (.cells (madeCells #[.slice none 0 0] n) 97)) :=
  run_make_row' _ _ _ 24 Tryz.underlying94 Tryz.infoSets rfl _ _ n (by omega) (by omega) W
abbrev u64v (S : Nat) : Value := .int .u64 (S : Int)
abbrev rowV (b n : Nat) (l : Nat) : Value := .slice (some ⟨b + 1 + l, 0, none⟩) n n
structure MvW (b L n i : Nat) (F : Nat → Nat → Nat) (W : World) : Prop where
  top : W.rowIs b 97 L (fun l => if l < i then rowV b n l else .slice none 0 0)
  rows : ∀ l, l < i → W.rowIs (b + 1 + l) 70 n (fun s => u64v (F l s))
section
variable {b L n i : Nat} {F F' : Nat → Nat → Nat} {W W' : World}
theorem MvW.keep (h : MvW b L n i F W) (hb : Below W.heap.size W W') : MvW b L n i F W' :=
  ⟨World.rowIs.of_block h.top (hb.block b (World.rowIs.lt h.top)), fun l hl => World.rowIs.of_block (h.rows l hl) (hb.block _ (World.rowIs.lt (h.rows l hl)))⟩
theorem MvW.lt (h : MvW b L n i F W) : b < W.heap.size := World.rowIs.lt h.top
theorem MvW.congr (h : MvW b L n i F W) (e : ∀ l s, l < i → s < n → F l s = F' l s) : MvW b L n i F' W :=
  ⟨h.top, fun l hl => World.rowIs.congr (h.rows l hl) (fun s hs => by rw [e l s hl hs])⟩
theorem MvW.cell (h : MvW b L n i F W) {l : Nat} (hl : l < i) (hi : i ≤ L) : W.cell? ⟨b, l, none⟩ = some (rowV b n l) := by
  rw [World.rowIs.cell h.top (show l < L by omega), if_pos hl]
theorem MvW.at (h : MvW b L n i F W) {l s : Nat} (hl : l < i) (hs : s < n) : W.cell? ⟨b + 1 + l, s, none⟩ = some (u64v (F l s)) := World.rowIs.cell (h.rows l hl) hs
theorem MvW.made (w : World) (L n : Nat) (F : Nat → Nat → Nat) : MvW w.heap.size L n 0 F (w.alloc (.cells (madeCells #[.slice none 0 0] L) 97)) :=
  ⟨World.rowIs.congr (World.rowIs_made w _ L _) (fun l _ => by rw [if_neg (by omega)]), fun l hl => absurd hl (by omega)⟩
theorem MvW.more (h : MvW b L n i (fun _ _ => 0) W) (hs : W.heap.size = b + 1 + i) : MvW b L n (i + 1) (fun _ _ => 0) ((W.alloc (.cells (madeCells #[.int .u64 0] n) 70)).setCell ⟨b, i, none⟩ (rowV b n i)) := by
  have hb := below1 W (.cells (madeCells #[.int .u64 0] n) 70)
  have h2 := h.keep hb
  refine ⟨World.rowIs.congr (World.rowIs.set h2.top i _) (fun l _ => ?_), fun l hl => ?_⟩
  · by_cases e : l = i
    · subst e; rw [if_pos rfl, if_pos (by omega)]
    · rw [if_neg e]
      by_cases h3 : l < i
      · rw [if_pos h3, if_pos (by omega)]
      · rw [if_neg h3, if_neg (by omega)]
  · refine World.rowIs.setOther ?_ (by show b + 1 + l ≠ b; omega) _
    by_cases e : l = i
    · subst e
      have h4 := World.rowIs_made W (.int .u64 0) n 70
      rw [hs] at h4
      exact h4
    · exact h2.rows l (by omega)
theorem MvW.set (h : MvW b L n i F W) (x y S : Nat) : MvW b L n i (fun l s => if l = y ∧ s = x then S else F l s) (W.setCell ⟨b + 1 + y, x, none⟩ (u64v S)) := by
  refine ⟨World.rowIs.setOther h.top (by show b ≠ b + 1 + y; omega) _, fun l hl => ?_⟩
  by_cases e : l = y
  · subst e
    exact World.rowIs.congr (World.rowIs.set (h.rows l hl) x _) (fun s _ => by
      by_cases e2 : s = x
      · subst e2; rw [if_pos rfl, if_pos ⟨rfl, rfl⟩]
      · rw [if_neg e2, if_neg (fun h => e2 h.2)])
  · exact World.rowIs.congr (World.rowIs.setOther (h.rows l hl) (by show b + 1 + l ≠ b + 1 + y; omega) _) (fun s _ => by rw [if_neg (fun h => e h.1)])
end
def MvRd (W : World) (v : Value) (es : List E3) (L n : Nat) : Prop := ∃ b, v = .slice (some ⟨b, 0, none⟩) L L ∧ MvW b L n L (mvN es) W
theorem MvRd.keep {W W' : World} {v : Value} {es : List E3} {L n : Nat} (h : MvRd W v es L n) (hb : Below W.heap.size W W') : MvRd W' v es L n := by
  obtain ⟨b, h1, h2⟩ := h
  exact ⟨b, h1, h2.keep hb⟩
def SM (P0 b n x y z S : Nat) (W : World) : Prop := W.cell? ⟨P0, 0, none⟩ = some (.int .i64 (x : Int)) ∧ W.cell? ⟨P0, 1, none⟩ = some (.int .i64 (y : Int)) ∧ W.cell? ⟨P0, 2, none⟩ = some (.int .i64 (z : Int)) ∧ W.cell? ⟨b, y, none⟩ = some (rowV b n y) ∧ W.cell? ⟨b + 1 + y, x, none⟩ = some (u64v S)
theorem SM.keep {P0 b n x y z S : Nat} {W W' : World} (h : SM P0 b n x y z S W) (hb : Below W.heap.size W W') : SM P0 b n x y z S W' := ⟨cell_keep h.1 hb, cell_keep h.2.1 hb, cell_keep h.2.2.1 hb, cell_keep h.2.2.2.1 hb, cell_keep h.2.2.2.2 hb⟩
theorem ints_lit1 (W : World) (z : Int) (t : TypeId) : IntsRd (W.alloc (.cells #[.int .i64 z] t)) (.slice (some ⟨W.heap.size, 0, none⟩) 1 1) [z] := by
  refine ⟨_, _, rfl, fun i x hx => ⟨W.heap.size, 0, rfl, ?_⟩⟩
  cases i with
  | zero => simp at hx; subst hx; simp [go_sem]
  | succ i => simp at hx
theorem mvN_nil (l s : Nat) : mvN [] l s = 0 := by
  apply Nat.eq_of_testBit_eq
  intro i
  unfold mvN
  rw [mkN_bit, Nat.zero_testBit]; simp
theorem mvN_upd {es : List E3} {x y z l s : Nat} (hz : z < 64) : mvN (es ++ [((x : Int), (y : Int), (z : Int))]) l s = if l = y ∧ s = x then mvN es y x ||| 2 ^ z else mvN es l s := by
  rw [mvN_snoc es _ l s (by show (0 : Int) ≤ (z : Int); omega) (by show (z : Int) < 64; omega)]
  dsimp only
  by_cases h : l = y ∧ s = x
  · obtain ⟨rfl, rfl⟩ := h
    rw [if_pos ⟨rfl, rfl⟩, if_pos ⟨rfl, rfl⟩, Int.toNat_natCast]
  · rw [if_neg h, if_neg (fun h2 => h ⟨by omega, by omega⟩)]
set_option maxRecDepth 100000 in
set_option maxHeartbeats 6400000 in
theorem moves_any (L n : Nat) (es : List E3) (v : Value) (w : World) (hrd : EdgesRd w v es) (hL : L ≤ 256) (hn : n ≤ 64) (hok : ∀ e ∈ es, okE (L : Int) (n : Int) e = true) (hlen : es.length ≤ 1024) :
    Calls Tryz.prog 75 #[grV (L : Int) (n : Int) v] w fun e w' => ∃ u, e = .returned u ∧ MvRd w' u es L n ∧ Below w.heap.size w w' := by
  have hmx : Tryz.prog.follows .mixedOrders = true := by kernel_rfl
  have HMM := make_moves L (by omega)
  have HMS := make_sets n (by omega)
  have HRD := Lib.hid hrd
  have HOK := Lib.hid hok
  obtain ⟨a, c, rfl⟩ := hrd.form
  have z0 := World.size_alloc w (.cells #[.int .i64 (L : Int), .int .i64 (n : Int), .slice a es.length c] 24)
  have b0 := below1 w (.cells #[.int .i64 (L : Int), .int .i64 (n : Int), .slice a es.length c] 24)
  have g0 := BoxG.new w (L : Int) (n : Int) (.slice a es.length c) 24
  obtain ⟨x1, x2, x3⟩ := id g0
  clear hrd hok
  go_enter Tryz.func75, Tryz.ntmps75
  go_wp2_with fail
  generalize (w.alloc (.cells #[.int .i64 (L : Int), .int .i64 (n : Int), .slice a es.length c] 24)) = W0 at *
  have T0 := Lib.hid (MvW.made W0 L n (fun _ _ => 0))
  have G0 := Lib.hid (g0.keep (below1 W0 (.cells (madeCells #[.slice none 0 0] L) 97)))
  have B0 := Lib.hid (below_more b0 (Nat.le_refl _) (below1 W0 (.cells (madeCells #[.slice none 0 0] L) 97)))
  have Z0 := Lib.hid (World.size_alloc W0 (.cells (madeCells #[.slice none 0 0] L) 97))
  rw [z0] at T0 Z0
  obtain ⟨p, hp⟩ : ∃ p, w.heap.size = p := ⟨_, rfl⟩
  rw [hp] at T0 Z0 G0 ⊢
  clear x1 x2 x3 g0 b0 z0
  generalize (W0.alloc (.cells (madeCells #[.slice none 0 0] L) 97)) = W1 at *
  go_loopg [12] L (fun q s12 wx => ∃ i : Nat, i + q = L ∧ s12 = .int .i64 (i : Int) ∧ Hid (MvW (p + 1) L n i (fun _ _ => 0) wx) ∧ wx.heap.size = p + 1 + 1 + i ∧ Hid (BoxG wx p (L : Int) (n : Int) (.slice a es.length c)) ∧ Hid (Below p w wx))
  case atStart => exact ⟨0, by omega, rfl, T0, Z0.out, G0, by rw [← hp]; exact B0⟩
  case round =>
    clear T0 Z0 G0 B0
    obtain ⟨i, hin, rfl, T, hsz, G, HB⟩ := hrel
    obtain ⟨x1, x2, x3⟩ := id G.out
    rcases gk with _ | q
    · obtain rfl : i = L := by omega
      clear hsz
      go_upto_region 8 with fail
      clear x1 x2 x3
      obtain ⟨Wo, hWo⟩ : ∃ Wo, Wo = wr := ⟨_, rfl⟩
      have T2 := Lib.hid (T.out.congr (F' := mvN (es.take 0)) (fun l s _ _ => (mvN_nil l s).symm))
      clear T hWo
      go_loopg [25] es.length (fun q s25 wx => ∃ k : Nat, k + q = es.length ∧ s25 = .int .i64 (k : Int) ∧ Hid (MvW (p + 1) i n i (mvN (es.take k)) wx) ∧ Hid (BoxG wx p (i : Int) (n : Int) (.slice a es.length c)) ∧ Hid (Below p w wx))
      case atStart => exact ⟨0, by omega, rfl, T2, G, HB⟩
      case round =>
        clear T2 G HB
        obtain ⟨k, hkn, rfl, T, G, HB⟩ := hrel
        rcases gk with _ | q
        · obtain rfl : k = es.length := by omega
          have HE := Lib.hid (List.take_length (l := es))
          go_wp2_with fail
          go_ret
          exact ⟨_, rfl, ⟨_, rfl, by rw [HE.out] at T; exact T.out⟩, by rw [hp]; exact HB.out⟩
        · obtain ⟨e, he⟩ : ∃ e, es[k]? = some e := ⟨_, List.getElem?_eq_getElem (by omega)⟩
          have hek := HOK.out e (List.mem_of_getElem? he)
          obtain ⟨bb, off, c', hv, k1, k2, k3⟩ := (HRD.out.keep (by rw [hp]; exact HB.out)).at he
          injection hv with e1 e2 e3
          subst e1
          subst e3
          have HT := Lib.hid (take_snoc he)
          obtain ⟨x, y, z⟩ := e
          rw [okE_iff] at hek
          dsimp only at hek k1 k2 k3
          obtain ⟨hx0, hx1, hy0, hy1, hz0, hz1⟩ := hek
          obtain ⟨x, rfl⟩ : ∃ m : Nat, x = (m : Int) := ⟨x.toNat, by omega⟩
          obtain ⟨y, rfl⟩ : ∃ m : Nat, y = (m : Int) := ⟨y.toNat, by omega⟩
          obtain ⟨z, rfl⟩ : ∃ m : Nat, z = (m : Int) := ⟨z.toNat, by omega⟩
          have hxn : x < n := by omega
          have hyn : y < i := by omega
          have hzn : z < 64 := by omega
          have o1 := below1 wr (.cells #[.int .i64 (x : Int), .int .i64 (y : Int), .int .i64 (z : Int)] 39)
          have T1 := Lib.hid (T.out.keep o1)
          have G1 := Lib.hid (G.out.keep o1)
          have B1 := Lib.hid (below_more HB.out (by have := HB.out.size; omega) o1)
          have X1 := Box3.new wr (x : Int) (y : Int) (z : Int) 39
          have j1 : (k : Int) < (es.length : Int) := by omega
          have j2 : (x : Int) < (n : Int) := by omega
          have j3 : (y : Int) < (i : Int) := by omega
          go_upto_region 10 with fail
          obtain ⟨W1, hW1⟩ : ∃ W1, wr.alloc (.cells #[.int .i64 (x : Int), .int .i64 (y : Int), .int .i64 (z : Int)] 39) = W1 := ⟨_, rfl⟩
          obtain ⟨P0, hP0⟩ : ∃ P0, wr.heap.size = P0 := ⟨_, rfl⟩
          rw [hP0] at X1
          rw [hW1] at T1 X1 B1 G1 ⊢
          rw [hP0]
          obtain ⟨x1, x2, x3, -, -, -⟩ := id X1
          obtain ⟨S, hS⟩ : ∃ S, mvN (es.take k) y x = S := ⟨_, rfl⟩
          have hS64 : S < 18446744073709551616 := by rw [← hS]; exact mvN_lt _ _ _
          have hSM : SM P0 (p + 1) n x y z S W1 := ⟨x1, x2, x3, T1.out.cell hyn (Nat.le_refl _), by rw [← hS]; exact T1.out.at hyn hxn⟩
          obtain ⟨Z, hZ⟩ : ∃ Z, 2 ^ z = Z := ⟨_, rfl⟩
          have HOR := Lib.hid (bits_or_u64_nat S Z hS64 (by rw [← hZ]; exact pow_lt64 hzn))
          have HOF := Lib.hid (show ofN [(z : Int)] = Z by rw [← hZ]; unfold ofN; simp)
          have HZ := Lib.hid hZ
          have HS := Lib.hid hS
          have HWB := Lib.hid (B1.out.size)
          clear hW1 hP0 k1 k2 k3 X1 T G HB e2 he o1 hS hZ
          have hR0 : SM P0 (p + 1) n x y z S W1.drew := hSM
          have hRA : ∀ o, SM P0 (p + 1) n x y z S (W1.alloc o).drew := fun o => hSM.keep (below1 W1 o).drew
          have HCO := Lib.hid (setOf_any [(z : Int)] _ (W1.alloc (.cells #[.int .i64 (z : Int)] 3)).drew ((ints_lit1 W1 (z : Int) 3).keep (Below.refl _ _).drew) (fun s hs => by simp at hs; subst hs; omega) (by simp))
          rw [HOF.out] at HCO
          -- region 10
          refine regionT (T := T2 15 15 (SM P0 (p + 1) n x y z S) (SM P0 (p + 1) n x y z S)) hmx ?_
          have hR := hR0
          refine take1 (i := 0) (v := ?_) rfl (by kernel_rfl) (by kernel_rfl) (by kernel_rfl) (by kernel_rfl) (by kernel_rfl) (by decide) (by decide) (fun _ _ _ h => h) (Or.inl ⟨by rfl, ?_⟩) hR hR ?_
          rotate_left
          · intro w hSw
            (try unfold SM at hSw)
            go_simp
            all_goals with_reducible rfl
          (try simp only [Act.put, List.setIfInBounds_toArray, List.set_cons_zero, List.set_cons_succ])
          refine take1 (i := 1) (v := ?_) rfl (by kernel_rfl) (by kernel_rfl) (by kernel_rfl) (by kernel_rfl) (by kernel_rfl) (by decide) (by decide) (fun _ _ _ h => h) (Or.inl ⟨by rfl, ?_⟩) hR hR ?_
          rotate_left
          · intro w hSw
            (try unfold SM at hSw)
            go_simp
            all_goals with_reducible rfl
          (try simp only [Act.put, List.setIfInBounds_toArray, List.set_cons_zero, List.set_cons_succ])
          refine take1 (i := 2) (v := ?_) rfl (by kernel_rfl) (by kernel_rfl) (by kernel_rfl) (by kernel_rfl) (by kernel_rfl) (by decide) (by decide) (fun _ _ _ h => h) (Or.inl ⟨by rfl, ?_⟩) hR hR ?_
          rotate_left
          · intro w hSw
            (try unfold SM at hSw)
            go_simp
            all_goals with_reducible rfl
          (try simp only [Act.put, List.setIfInBounds_toArray, List.set_cons_zero, List.set_cons_succ])
          refine take1 (i := 3) (v := ?_) rfl (by kernel_rfl) (by kernel_rfl) (by kernel_rfl) (by kernel_rfl) (by kernel_rfl) (by decide) (by decide) (fun _ _ _ h => h) (Or.inl ⟨by rfl, ?_⟩) hR hR ?_
          rotate_left
          · intro w hSw
            (try unfold SM at hSw)
            go_simp
            all_goals with_reducible rfl
          (try simp only [Act.put, List.setIfInBounds_toArray, List.set_cons_zero, List.set_cons_succ])
          refine take1 (i := 4) (v := ?_) rfl (by kernel_rfl) (by kernel_rfl) (by kernel_rfl) (by kernel_rfl) (by kernel_rfl) (by decide) (by decide) (fun _ _ _ h => h) (Or.inl ⟨by rfl, ?_⟩) hR hR ?_
          rotate_left
          · intro w hSw
            (try unfold SM at hSw)
            go_simp
            all_goals with_reducible rfl
          (try simp only [Act.put, List.setIfInBounds_toArray, List.set_cons_zero, List.set_cons_succ])
          refine take1 (i := 5) (v := ?_) rfl (by kernel_rfl) (by kernel_rfl) (by kernel_rfl) (by kernel_rfl) (by kernel_rfl) (by decide) (by decide) (fun _ _ _ h => h) (Or.inl ⟨by rfl, ?_⟩) hR hR ?_
          rotate_left
          · intro w hSw
            (try unfold SM at hSw)
            go_simp
            all_goals with_reducible rfl
          (try simp only [Act.put, List.setIfInBounds_toArray, List.set_cons_zero, List.set_cons_succ])
          refine take1 (i := 6) (v := ?_) rfl (by kernel_rfl) (by kernel_rfl) (by kernel_rfl) (by kernel_rfl) (by kernel_rfl) (by decide) (by decide) (fun _ _ _ h => h) (Or.inl ⟨by rfl, ?_⟩) hR hR ?_
          rotate_left
          · intro w hSw
            (try unfold SM at hSw)
            go_simp
            all_goals with_reducible rfl
          (try simp only [Act.put, List.setIfInBounds_toArray, List.set_cons_zero, List.set_cons_succ])
          refine take1 (i := 7) (v := ?_) rfl (by kernel_rfl) (by kernel_rfl) (by kernel_rfl) (by kernel_rfl) (by kernel_rfl) (by decide) (by decide) (fun _ _ _ h => h) (Or.inl ⟨by rfl, ?_⟩) hR hR ?_
          rotate_left
          · intro w hSw
            (try unfold SM at hSw)
            go_simp
            all_goals with_reducible rfl
          (try simp only [Act.put, List.setIfInBounds_toArray, List.set_cons_zero, List.set_cons_succ])
          refine take1 (i := 8) (v := ?_) rfl (by kernel_rfl) (by kernel_rfl) (by kernel_rfl) (by kernel_rfl) (by kernel_rfl) (by decide) (by decide) (fun _ _ _ h => h) (Or.inl ⟨by rfl, ?_⟩) hR hR ?_
          rotate_left
          · intro w hSw
            (try unfold SM at hSw)
            go_simp
            all_goals with_reducible rfl
          (try simp only [Act.put, List.setIfInBounds_toArray, List.set_cons_zero, List.set_cons_succ])
          refine take1 (i := 9) (v := ?_) rfl (by kernel_rfl) (by kernel_rfl) (by kernel_rfl) (by kernel_rfl) (by kernel_rfl) (by decide) (by decide) (fun _ _ _ h => h) (Or.inl ⟨by rfl, ?_⟩) hR hR ?_
          rotate_left
          · intro w hSw
            (try unfold SM at hSw)
            go_simp
            all_goals with_reducible rfl
          (try simp only [Act.put, List.setIfInBounds_toArray, List.set_cons_zero, List.set_cons_succ])
          refine take1 (i := 10) (v := ?_) rfl (by kernel_rfl) (by kernel_rfl) (by kernel_rfl) (by kernel_rfl) (by kernel_rfl) (by decide) (by decide) (fun _ _ _ h => h) (Or.inl ⟨by rfl, ?_⟩) hR hR ?_
          rotate_left
          · intro w hSw
            (try unfold SM at hSw)
            go_simp
            all_goals with_reducible rfl
          (try simp only [Act.put, List.setIfInBounds_toArray, List.set_cons_zero, List.set_cons_succ])
          refine stepT (i := 11) (by kernel_rfl) rfl (fun K hK => ?_)
          go_simp
          refine hK.out _ _ ⟨fun _ => (hRA (.cells #[.int .i64 (z : Int)] 3)), fun _ => (hRA (.cells #[.int .i64 (z : Int)] 3))⟩ ?_
          clear hK K hR
          have hR := (hRA (.cells #[.int .i64 (z : Int)] 3))
          (try simp only [Act.put, List.setIfInBounds_toArray, List.set_cons_zero, List.set_cons_succ])
          refine stepT (i := 12) (by kernel_rfl) rfl (fun K hK => ?_)
          go_simp
          go_at_call 51
          (with_reducible refine HCO.out.mono ?_)
          rintro e0 W4 ⟨rfl, b4⟩
          have HK4 := Lib.hid (below_more (below1 W1 (.cells #[.int .i64 (z : Int)] 3)).drew (Nat.le_refl _) b4)
          have hR4 : SM P0 (p + 1) n x y z S W4 := hSM.keep HK4.out
          have f4 : W4.frozen? ⟨p + 1 + 1 + y, x, none⟩ = false := World.rowIs.frozen ((T1.out.keep HK4.out).rows y hyn) x
          have c4 := hR4.2.2.2.2
          go_wp2_with fail
          refine hK.out _ _ ⟨fun _ => hR4, fun _ => hR4⟩ ?_
          clear hK K hR
          have hR := hR4
          (try simp only [Act.put, List.setIfInBounds_toArray, List.set_cons_zero, List.set_cons_succ])
          refine take1 (i := 13) (v := ?_) rfl (by kernel_rfl) (by kernel_rfl) (by kernel_rfl) (by kernel_rfl) (by kernel_rfl) (by decide) (by decide) (fun _ _ _ h => h) (Or.inl ⟨by rfl, ?_⟩) hR hR ?_
          rotate_left
          · intro w hSw
            (try unfold SM at hSw)
            go_simp
            all_goals with_reducible rfl
          (try simp only [Act.put, List.setIfInBounds_toArray, List.set_cons_zero, List.set_cons_succ])
          refine take1 (i := 14) (v := ?_) rfl (by kernel_rfl) (by kernel_rfl) (by kernel_rfl) (by kernel_rfl) (by kernel_rfl) (by decide) (by decide) (fun _ _ _ h => h) (Or.inl ⟨by rfl, ?_⟩) hR hR ?_
          rotate_left
          · intro w hSw
            (try unfold SM at hSw)
            go_simp
            all_goals with_reducible rfl
          (try simp only [Act.put, List.setIfInBounds_toArray, List.set_cons_zero, List.set_cons_succ])
          refine stepT (i := 15) (by kernel_rfl) rfl (fun K hK => ?_)
          go_simp
          refine hK.out _ _ ⟨fun h => absurd h (by decide), fun h => absurd h (by decide)⟩ ?_
          clear hK K
          (try simp only [Act.put, List.setIfInBounds_toArray, List.set_cons_zero, List.set_cons_succ])
          refine doneT (by kernel_rfl) ?_ _
          -- behind region 10
          go_wp2_with fail
          go_roundg q
          case measure => omega
          case rel =>
            refine ⟨k + 1, by omega, by go_num, Lib.hid ?_, Lib.hid ?_, Lib.hid ?_⟩
            · rw [HOR.out]
              refine ((T1.out.keep (HK4.out)).set x y (S ||| Z)).congr (fun l s _ _ => ?_)
              rw [HT.out, mvN_upd hzn, HS.out, HZ.out]
            · have h4 := G1.out.keep HK4.out
              exact ⟨by rw [World.cell?_setCell_far _ _ _ _ (by show p + 1 + 1 + y ≠ p; omega)]; exact h4.1, by rw [World.cell?_setCell_far _ _ _ _ (by show p + 1 + 1 + y ≠ p; omega)]; exact h4.2.1, by rw [World.cell?_setCell_far _ _ _ _ (by show p + 1 + 1 + y ≠ p; omega)]; exact h4.2.2⟩
            · exact (below_more B1.out (by omega) HK4.out).setCell (by show p ≤ p + 1 + 1 + y; omega) _
    · have j1 : (i : Int) < (L : Int) := by omega
      have hTM := Lib.hid (T.out.more (by omega))
      have f0 := World.rowIs.frozen (T.out.top) i
      have c0 := World.rowIs.cell T.out.top (show i < L by omega)
      rw [if_neg (Nat.lt_irrefl i)] at c0
      have hb1 := below1 wr (.cells (madeCells #[.int .u64 0] n) 70)
      have c1 := cell_keep c0 hb1
      have f1 := frozen_keep c0 f0 hb1
      have hz1 := World.size_alloc wr (.cells (madeCells #[.int .u64 0] n) 70)
      have G1 := Lib.hid (G.out.keep hb1)
      have B1 := Lib.hid (below_more HB.out (by omega) hb1)
      rw [hsz] at hz1
      have HSZ := Lib.hid hsz
      clear T G HB c0 f0 hb1
      go_wp2_with fail
      clear x1 x2 x3
      go_roundg q
      case measure => omega
      case rel =>
        refine ⟨i + 1, by omega, by go_num, ?_, ?_, Lib.hid ?_, Lib.hid ?_⟩
        · exact hTM
        · rw [World.size_setCell]; omega
        · have h4 := G1.out
          exact ⟨by rw [World.cell?_setCell_far _ _ _ _ (by show p + 1 ≠ p; omega)]; exact h4.1, by rw [World.cell?_setCell_far _ _ _ _ (by show p + 1 ≠ p; omega)]; exact h4.2.1, by rw [World.cell?_setCell_far _ _ _ _ (by show p + 1 ≠ p; omega)]; exact h4.2.2⟩
        · exact B1.out.setCell (by show p ≤ p + 1; omega) _
end Go.Proofs.YtiockphjnkehnaaGreatDoor
