/- What graph.Reverse returns for a valid graph: the graph with its edges turned around. No condition. -/
import Derived.Test.YtiebhalefdpjiaaDoorVtf
namespace Go.Proofs.YtiebhalefdpjiaaDoor
open Go.RowKit Go.Shelf
set_option linter.unusedSimpArgs false
set_option linter.unusedVariables false

theorem make_edges (n : Nat) (hn : n ≤ 100000) (W : World) : (Instr.makeSlice 22 (.int .i64 (n : Int)) (.int .i64 (n : Int))).run Tryd.prog W = .ok (.slice (some ⟨W.heap.size, 0, none⟩) n n) (W.alloc (.cells (madeCells #[.int .i64 0, .int .i64 0, .int .i64 0] (n * 3)) 43)) := by
  obtain ⟨i0, hi, hz0, hz1, hz2⟩ := info_parts Tryd.infoEdge
  have h := run_make (P := Tryd.prog) W 22 43 i0 _ Tryd.underlying22 hi hz0 .i64 .i64 (n : Int) (n : Int) (by omega) (Int.le_refl _) (by rw [hz2]; omega) (by omega)
  rw [hz1, show (Value.agg #[.int .i64 0, .int .i64 0, .int .i64 0]).cells = #[.int .i64 0, .int .i64 0, .int .i64 0] from by rfl] at h
  simp only [Int.toNat_natCast] at h
  exact h
theorem ERow.made (W : World) (n : Nat) : ERow (W.alloc (.cells (madeCells #[.int .i64 0, .int .i64 0, .int .i64 0] (n * 3)) 43)) W.heap.size n n (fun _ => (0, 0, 0)) := by
  have hz : ∀ i, i < n * 3 → (madeCells #[Value.int .i64 0, .int .i64 0, .int .i64 0] (n * 3))[i]? = some (.int .i64 0) := fun i hi => by
    have hs := size_madeCells #[Value.int .i64 0, .int .i64 0, .int .i64 0] (n * 3)
    rw [Array.getElem?_eq_getElem (by omega)]
    simp only [madeCells, Array.getElem_map, Array.getElem_range]
    have hm : i % 3 = 0 ∨ i % 3 = 1 ∨ i % 3 = 2 := by omega
    show some (#[Value.int .i64 0, .int .i64 0, .int .i64 0][i % 3]!) = _
    rcases hm with h | h | h <;> rw [h] <;> rfl
  refine ⟨fun _ => .int .i64 0, ⟨_, heap_alloc_new W _, size_madeCells _ _, hz⟩, Nat.le_refl _, fun i hi => ⟨rfl, rfl, rfl⟩⟩
theorem ERow.keep {W W' : World} {g cap n : Nat} {f : Nat → E3} (h : ERow W g cap n f) (hb : Below W.heap.size W W') : ERow W' g cap n f := by
  obtain ⟨F, h1, h2⟩ := h
  exact ⟨F, World.rowIs.of_block h1 (hb.block g h1.lt), h2⟩
theorem ERow.lt {W : World} {g cap n : Nat} {f : Nat → E3} (h : ERow W g cap n f) : g < W.heap.size := by
  obtain ⟨F, h1, -⟩ := h
  exact h1.lt
/-- What Reverse's loop keeps. -/
structure RVs (w : World) (L : Int) (n : Nat) (v : Value) (T m : Nat) (f : Nat → E3) (W : World) : Prop where
  g : BoxG W w.heap.size L (n : Int) v
  r : BoxF W (w.heap.size + 1) 0 0 (.slice none 0 0)
  t : ERow W T m m f
  lo : w.heap.size + 2 ≤ T
  b : Below w.heap.size w W
theorem RVs.keep {w W W' : World} {L : Int} {n : Nat} {v : Value} {T m : Nat} {f : Nat → E3} (h : RVs w L n v T m f W) (hb : Below W.heap.size W W') : RVs w L n v T m f W' :=
  ⟨h.g.keep hb, h.r.keep hb, h.t.keep hb, h.lo, h.b.trans (hb.mono h.b.size)⟩
theorem RVs.set {w W : World} {L : Int} {n : Nat} {v : Value} {T m : Nat} {f : Nat → E3} (h : RVs w L n v T m f W) {i : Nat} (hi : i < m) (x y z : Int) :
    RVs w L n v T m (fun j => if j = i then (x, y, z) else f j) (((W.setCell ⟨T, i * 3, none⟩ (.int .i64 x)).setCell ⟨T, i * 3 + 1, none⟩ (.int .i64 y)).setCell ⟨T, i * 3 + 2, none⟩ (.int .i64 z)) := by
  have hlo := h.lo
  have h1 : T ≠ w.heap.size := by omega
  have h2 : T ≠ w.heap.size + 1 := by omega
  exact ⟨boxG_other (boxG_other (boxG_other h.g (a := ⟨T, i * 3, none⟩) h1 _) (a := ⟨T, i * 3 + 1, none⟩) h1 _) (a := ⟨T, i * 3 + 2, none⟩) h1 _,
    ((h.r.other (a := ⟨T, i * 3, none⟩) h2 _).other (a := ⟨T, i * 3 + 1, none⟩) h2 _).other (a := ⟨T, i * 3 + 2, none⟩) h2 _, h.t.set hi x y z, h.lo, set9_below h.b (by omega) _ _ _ _ _ _⟩
set_option maxRecDepth 100000 in
set_option maxHeartbeats 6400000 in
theorem reverse_good (L : Int) (n : Nat) (es : List E3) (v : Value) (w : World) (hrd : EdgesRd w v es) (hvg : VG L (n : Int) es) :
    Calls Tryd.prog 29 #[grV L (n : Int) v] w fun e w' => ∃ v', e = .returned (.tuple #[grV L (n : Int) v', .int .i64 0]) ∧ EdgesAt w' w.heap.size v' (revE es) ∧ Below w.heap.size w w' := by
  have hlen := hvg.len
  have HRD := Lib.hid hrd
  have HV := Lib.hid (fun W h => isValid_any L (n : Int) es v W h (by omega))
  have H0 := Lib.hid (show (chkG L (n : Int) es == 0) = true by rw [hvg.chk]; rfl)
  have HR0 := Lib.hid (show makeR L (n : Int) (es.map trnE) = (L, (n : Int), revE es, 0) by
    unfold makeR
    show (if chkG L (n : Int) (revE es) = 0 then (L, (n : Int), revE es, 0) else _) = _
    rw [if_pos (revE_vg hvg).chk])
  have HMK := Lib.hid (fun v' W h => make_any L (n : Int) (es.map trnE) v' W h (by rw [List.length_map]; omega))
  have HME := Lib.hid (fun W => make_edges es.length (by omega) W)
  have K0 := Lib.hid (KB.start w L (n : Int) v 24)
  obtain ⟨a, c, rfl⟩ := hrd.form
  clear hrd hvg
  go_enter Tryd.func29, Tryd.ntmps29
  go_upto_region 4 with (go_at_call 44; (with_reducible refine (HV.out _ (HRD.out.keep K0.out.bel)).mono ?_); rintro e0 W1 ⟨rfl, b1⟩; (rw [H0.out]); (have K1 := Lib.hid (K0.out.keep b1)); (clear b1 K0); (obtain ⟨⟨g1, g2, g3⟩, -⟩ := id K1.out); (have hm := HME.out W1))
  have bm := below1 W1 (.cells (madeCells #[.int .i64 0, .int .i64 0, .int .i64 0] (es.length * 3)) 43)
  have R0 := Lib.hid (show RVs w L n (.slice a es.length c) W1.heap.size es.length (fun _ => (0, 0, 0)) _ from ⟨(K1.out.keep bm).1, (K1.out.keep bm).2.1, ERow.made W1 es.length, K1.out.2.2.2, (K1.out.keep bm).2.2.1⟩)
  obtain ⟨T, hT⟩ : ∃ T, W1.heap.size = T := ⟨_, rfl⟩
  obtain ⟨W2, hW2⟩ : ∃ W2, W1.alloc (.cells (madeCells #[.int .i64 0, .int .i64 0, .int .i64 0] (es.length * 3)) 43) = W2 := ⟨_, rfl⟩
  rw [hT, hW2] at R0 ⊢
  clear hT hW2 bm hm K1 g1 g2 g3
  obtain ⟨g1, g2, g3⟩ := id R0.out.g
  go_wp2_with fail
  go_loopg [18] es.length (fun q s18 wx => ∃ (i : Nat) (f : Nat → E3), i + q = es.length ∧ s18 = .int .i64 (i : Int) ∧ RVs w L n (.slice a es.length c) T es.length f wx ∧ Hid (∀ j, j < i → f j = trnE es[j]!))
  case atStart => exact ⟨0, _, by omega, rfl, R0.out, Lib.hid (fun j hj => absurd hj (by omega))⟩
  case round =>
    clear R0 g1 g2 g3
    obtain ⟨i, f, hiq, rfl, hR, HF⟩ := hrel
    have RR := Lib.hid hR
    obtain ⟨g1, g2, g3⟩ := id hR.g
    rcases gk with _ | q
    · obtain ⟨⟨r1, r2, r3⟩, r4, r5, r6⟩ := id hR.r
      obtain ⟨m, hm⟩ : ∃ m, (es.map trnE).length = m := ⟨_, rfl⟩
      have hml : es.length = m := by rw [← hm, List.length_map]
      have ET := Lib.hid (show EdgesAt wr (w.heap.size + 2) (.slice (some ⟨T, 0, none⟩) (es.map trnE).length es.length) (es.map trnE) from
        ERow.at (f := f) (by rw [List.length_map]; exact RR.out.t) RR.out.lo (by unfold maxLen; omega) (fun j hj => by
          rw [List.length_map] at hj
          rw [List.getElem?_map, List.getElem?_eq_getElem hj, HF.out j (by omega), getElem!_pos es j hj]; rfl))
      have HMS := Lib.hid (HMK.out _ wr ET.out.rd)
      rw [List.length_map] at HMS
      have hi : i = es.length := by omega
      have j1 : decide ((i : Int) < (es.length : Int)) = false := decide_eq_false (by omega)
      have j2 : decide (i < es.length) = false := decide_eq_false (by omega)
      clear hm hml hR hi hiq
      go_wp2_with (go_at_call 11; (with_reducible refine HMS.out.mono ?_); rintro e0 W5 ⟨v5, rfl, i5, b5⟩; (rw [HR0.out] at i5 ⊢); (dsimp only at i5 ⊢); (obtain ⟨a5, c5, rfl⟩ := i5.slice); (have I5 := Lib.hid i5); (have B5 := Lib.hid (below_more RR.out.b (Nat.le_refl _) b5)); (obtain ⟨⟨r1, r2, r3⟩, r4, r5, r6⟩ := id (RR.out.r.keep b5)); (clear i5 b5 g1 g2 g3))
      have hTl := RR.out.t.lt
      have hlo := RR.out.lo
      exact bodyPost_ret (v := .tuple #[grV L (n : Int) (.slice a5 (revE es).length c5), .int .i64 0]) (by simp [results, Tryd.results29, go_sem, r1, r2, r3]) rfl
        ⟨_, rfl, edges_over I5.out (by omega) _ _ _ (by omega), below_over B5.out (Nat.le_succ _) _ _ _⟩
    · obtain ⟨e, he⟩ : ∃ e, es[i]? = some e := ⟨_, List.getElem?_eq_getElem (by omega)⟩
      obtain ⟨bb, off, c', hv, k1, k2, k3⟩ := (HRD.out.keep RR.out.b).at he
      injection hv with e1 e2 e3
      subst e1
      subst e3
      have hee : es[i]! = e := by obtain ⟨hi, h2⟩ := List.getElem?_eq_some_iff.1 he; rw [getElem!_pos es i hi, h2]
      obtain ⟨x, y, z⟩ := e
      dsimp only at k1 k2 k3
      have hil : i < es.length := by omega
      have j3 : (i : Int) < (es.length : Int) := by omega
      have HF2 := Lib.hid (show ∀ j, j < i + 1 → (fun j => if j = i then ((z, y, x) : E3) else f j) j = trnE es[j]! from fun j hj => by
        dsimp only
        by_cases hji : j = i
        · subst hji; rw [if_pos rfl, hee]; rfl
        · rw [if_neg hji]; exact HF.out j (by omega))
      obtain ⟨⟨o1, o2, o3⟩, ho⟩ : ∃ o, f i = o := ⟨_, rfl⟩
      have RB := Lib.hid (RR.out.keep (below1 wr (.cells #[.int .i64 x, .int .i64 y, .int .i64 z] 43)))
      obtain ⟨c7, c8, c9⟩ := RB.out.t.cells hil ho
      have f1 := RB.out.t.frozen (i * 3)
      have f2 := RB.out.t.frozen (i * 3 + 1)
      have f3 := RB.out.t.frozen (i * 3 + 2)
      clear he hee ho e2 hR
      go_wp2_with fail
      go_roundg q
      case measure => omega
      case rel => exact ⟨i + 1, _, by omega, by go_num, RB.out.set hil z y x, HF2⟩
end Go.Proofs.YtiebhalefdpjiaaDoor
