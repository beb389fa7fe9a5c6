/- What graph.Make returns: the edges in order, each once, if they make a valid graph. Condition: at most 100000 edges. What graph.Reverse returns for a valid graph: the graph with its edges turned around. No condition. What rows without listed variables share. No condition. -/
import Derived.Test.YtfkplnmhlpabaaaQ21
import Derived.Test.YtfkplnmhlpabaaaQ07
import Derived.Test.YtfkplnmhlpabaaaRows
import Derived.WalkKit
import Derived.ProofKit
import Derived.OpenShut
import Derived.Deep.DeepHandedRow
import Derived.Below
import Derived.Lib.SmallJoins

namespace Go.Proofs.Ytfkplnmhlpabaaa
open Go.RowKit Go.Shelf
set_option linter.unusedSimpArgs false
set_option linter.unusedVariables false

theorem sorted_any (v : Value) (es : List E3) (w : World) (hrd : EdgesRd w v es) (hlen : es.length ≤ 100000) :
    Calls Try.prog 92 #[v, .func (.func 77) #[] #[]] w (NewEdges w (mkE es)) := by
  obtain ⟨a, c, rfl⟩ := hrd.form
  have HV := Lib.hid (values_any (.slice a es.length c) a es.length c rfl w)
  have hB := below1 w (.cells #[.slice a es.length c] 22)
  have HS := Lib.hid (sortedFunc_any w.heap.size (.slice a es.length c) es (w.alloc (.cells #[.slice a es.length c] 22)) (hrd.keep hB) hlen (by simp [go_sem]))
  have B0 := Lib.hid hB
  clear hrd hB
  go_enter Try.func92, Try.ntmps92
  go_wp2_with (first
    | (go_at_call 105; (with_reducible refine HV.out.mono ?_); rintro e W1 ⟨rfl, rfl⟩)
    | (go_at_call 104; (with_reducible refine HS.out.mono ?_); rintro e W2 ⟨v2, rfl, i2, b2⟩; (obtain ⟨a2, c2, rfl⟩ := i2.slice); (have HC := Lib.hid (compact_any w.heap.size _ (srtE es) W2 (own_low i2 (by rw [World.size_alloc]; omega)) (Nat.le_trans B0.out.size b2.size) (by rw [srtE_len]; exact hlen))); (have B2 := Lib.hid (below_more B0.out (Nat.le_refl _) b2)); (clear i2 b2))
    | (go_at_call 103; (with_reducible refine HC.out.mono ?_); rintro e W3 ⟨v3, rfl, i3, b3⟩; (obtain ⟨a3, c3, rfl⟩ := i3.slice); (have I3 := Lib.hid i3); (have B3 := Lib.hid (B2.out.trans b3)); (clear i3 b3)))
  go_ret
  exact ⟨_, rfl, I3.out, B3.out⟩
/-- What Make returns: labels, states, edges, the error. -/
def makeR (L S : Int) (es : List E3) : Int × Int × List E3 × Int := if chkG L S (mkE es) = 0 then (L, S, mkE es, 0) else (0, 0, [], chkG L S (mkE es))
/-- The result's variable, the graph's. -/
structure MK (w : World) (L S : Int) (v : Value) (ms : List E3) (p : Nat) (W : World) : Prop where
  r : BoxF W w.heap.size 0 0 (.slice none 0 0)
  g : BoxG W p L S v
  e : EdgesAt W (w.heap.size + 1) v ms
  b : Below w.heap.size w W
theorem MK.keep {w W W' : World} {L S : Int} {v : Value} {ms : List E3} {p : Nat} (h : MK w L S v ms p W) (hb : Below W.heap.size W W') : MK w L S v ms p W' :=
  ⟨h.r.keep hb, h.g.keep hb, EdgesAt.keep h.e hb, h.b.trans (hb.mono h.b.size)⟩
set_option maxRecDepth 100000 in
set_option maxHeartbeats 3200000 in
theorem make_any (L S : Int) (es : List E3) (v : Value) (w : World) (hrd : EdgesRd w v es) (hlen : es.length ≤ 100000) :
    Calls Try.prog 70 #[.int .i64 L, .int .i64 S, v] w (GOut w (makeR L S es)) := by
  have hB := below1 w (.cells #[.int .i64 0, .int .i64 0, .slice none 0 0] 24)
  have HS := Lib.hid (sorted_any v es _ (hrd.keep hB) hlen)
  have R0 := Lib.hid (BoxF.new w 0 0 (.slice none 0 0) 24)
  have B0 := Lib.hid hB
  have Z0 := Lib.hid (World.size_alloc w (.cells #[.int .i64 0, .int .i64 0, .slice none 0 0] 24))
  have hml := mkE_len es
  have HMR := Lib.hid (show makeR L S es = if chkG L S (mkE es) = 0 then (L, S, mkE es, 0) else (0, 0, [], chkG L S (mkE es)) from rfl)
  obtain ⟨ms, hms⟩ : ∃ ms, mkE es = ms := ⟨_, rfl⟩
  simp only [hms] at HS HMR
  rw [hms] at hml
  have HCK := Lib.hid (fun v' W h => gcheck_any L S ms v' W h (by omega))
  obtain ⟨z, hz⟩ : ∃ z, chkG L S ms = z := ⟨_, rfl⟩
  simp only [hz] at HMR HCK
  obtain ⟨a, c, rfl⟩ := hrd.form
  clear hrd hB hms hz
  by_cases h0 : z = 0
  · subst h0
    have HE := Lib.hid (show makeR L S es = (L, S, ms, 0) from HMR.out)
    go_enter Try.func70, Try.ntmps70
    go_wp2_with (first
      | (go_at_call 92; (with_reducible refine HS.out.mono ?_); rintro e W2 ⟨v2, rfl, i2, b2⟩; (obtain ⟨a2, c2, rfl⟩ := i2.slice); (have bm := below1 W2 (.cells #[.int .i64 L, .int .i64 S, .slice a2 ms.length c2] 24)); (have K2 := Lib.hid (show MK w L S (.slice a2 ms.length c2) ms W2.heap.size (W2.alloc (.cells #[.int .i64 L, .int .i64 S, .slice a2 ms.length c2] 24)) from ⟨(R0.out.keep b2).keep bm, BoxG.new W2 L S _ _, EdgesAt.keep (by rw [Z0.out] at i2; exact i2) bm, below_more (below_more B0.out (Nat.le_refl _) b2) (Nat.le_refl _) bm⟩)); (clear i2 b2 bm); (obtain ⟨g1, g2, g3⟩ := id K2.out.g))
      | (go_at_call 55; (with_reducible refine (HCK.out _ _ (EdgesAt.rd K2.out.e)).mono ?_); rintro e W3 ⟨rfl, b3⟩; (have K3 := Lib.hid (K2.out.keep b3)); (clear b3 g1 g2 g3); (obtain ⟨g1, g2, g3⟩ := id K3.out.g); (obtain ⟨⟨r1, r2, r3⟩, r4, r5, r6⟩ := id K3.out.r)))
    rw [HE.out]
    exact bodyPost_ret (v := .tuple #[grV L S (.slice a2 ms.length c2), .int .i64 0]) (by simp [results, Try.results70, go_sem, r1, r2, r3]) rfl
      ⟨_, rfl, edges_over K3.out.e (Nat.lt_succ_self _) _ _ _ (Nat.le_succ _), below_over K3.out.b (Nat.le_refl _) _ _ _⟩
  · have HE := Lib.hid (show makeR L S es = (0, 0, [], z) by rw [HMR.out, if_neg h0])
    have d1 : (z != 0) = true := by simpa using h0
    clear h0
    go_enter Try.func70, Try.ntmps70
    go_wp2_with (first
      | (go_at_call 92; (with_reducible refine HS.out.mono ?_); rintro e W2 ⟨v2, rfl, i2, b2⟩; (obtain ⟨a2, c2, rfl⟩ := i2.slice); (have bm := below1 W2 (.cells #[.int .i64 L, .int .i64 S, .slice a2 ms.length c2] 24)); (have K2 := Lib.hid (show MK w L S (.slice a2 ms.length c2) ms W2.heap.size (W2.alloc (.cells #[.int .i64 L, .int .i64 S, .slice a2 ms.length c2] 24)) from ⟨(R0.out.keep b2).keep bm, BoxG.new W2 L S _ _, EdgesAt.keep (by rw [Z0.out] at i2; exact i2) bm, below_more (below_more B0.out (Nat.le_refl _) b2) (Nat.le_refl _) bm⟩)); (clear i2 b2 bm); (obtain ⟨g1, g2, g3⟩ := id K2.out.g))
      | (go_at_call 55; (with_reducible refine (HCK.out _ _ (EdgesAt.rd K2.out.e)).mono ?_); rintro e W3 ⟨rfl, b3⟩; (have K3 := Lib.hid (K2.out.keep b3)); (clear b3 g1 g2 g3); (obtain ⟨g1, g2, g3⟩ := id K3.out.g); (obtain ⟨⟨r1, r2, r3⟩, r4, r5, r6⟩ := id K3.out.r)))
    rw [HE.out]
    exact bodyPost_ret (v := .tuple #[grV 0 0 (.slice none 0 0), .int .i64 z]) (by simp [results, Try.results70, go_sem, r1, r2, r3]) rfl
      ⟨_, rfl, edges_nil _ _, below_over K3.out.b (Nat.le_refl _) _ _ _⟩
end Go.Proofs.Ytfkplnmhlpabaaa

namespace Go.Proofs.Ytfkplnmhlpabaaa
open Go.RowKit Go.Shelf
set_option linter.unusedSimpArgs false
set_option linter.unusedVariables false

theorem make_edges (n : Nat) (hn : n ≤ 100000) (W : World) : (Instr.makeSlice 22 (.int .i64 (n : Int)) (.int .i64 (n : Int))).run Try.prog W = .ok (.slice (some ⟨W.heap.size, 0, none⟩) n n) (W.alloc (.cells (madeCells #[.int .i64 0, .int .i64 0, .int .i64 0] (n * 3)) 46)) := by
  obtain ⟨i0, hi, hz0, hz1, hz2⟩ := info_parts Try.infoEdge
  have h := run_make (P := Try.prog) W 22 46 i0 _ Try.underlying22 hi hz0 .i64 .i64 (n : Int) (n : Int) (by omega) (Int.le_refl _) (by rw [hz2]; omega) (by omega)
  rw [hz1, show (Value.agg #[.int .i64 0, .int .i64 0, .int .i64 0]).cells = #[.int .i64 0, .int .i64 0, .int .i64 0] from by rfl] at h
  simp only [Int.toNat_natCast] at h
  exact h
theorem ERow.made (W : World) (n : Nat) : ERow (W.alloc (.cells (madeCells #[.int .i64 0, .int .i64 0, .int .i64 0] (n * 3)) 46)) W.heap.size n n (fun _ => (0, 0, 0)) := by
  have hz : ∀ i, i < n * 3 → (madeCells #[Value.int .i64 0, .int .i64 0, .int .i64 0] (n * 3))[i]? = some (.int .i64 0) := fun i hi => by
    have hs := size_madeCells #[Value.int .i64 0, .int .i64 0, .int .i64 0] (n * 3)
    rw [Array.getElem?_eq_getElem (by omega)]
    simp only [madeCells, Array.getElem_map, Array.getElem_range]
    have hm : i % 3 = 0 ∨ i % 3 = 1 ∨ i % 3 = 2 := by omega
    show some (#[Value.int .i64 0, .int .i64 0, .int .i64 0][i % 3]!) = _
    rcases hm with h | h | h <;> rw [h] <;> rfl
  refine ⟨fun _ => .int .i64 0, ⟨_, heap_alloc_new W _, size_madeCells _ _, hz⟩, Nat.le_refl _, fun i hi => ⟨rfl, rfl, rfl⟩⟩
theorem ERow.keep {W W' : World} {g cap n : Nat} {f : Nat → E3} (h : ERow W g cap n f) (hb : Below W.heap.size W W') : ERow W' g cap n f := by
  obtain ⟨F, h1, h2⟩ := h
  exact ⟨F, World.rowIs.of_block h1 (hb.block g h1.lt), h2⟩
theorem ERow.lt {W : World} {g cap n : Nat} {f : Nat → E3} (h : ERow W g cap n f) : g < W.heap.size := by
  obtain ⟨F, h1, -⟩ := h
  exact h1.lt
/-- What Reverse's loop keeps. -/
structure RVs (w : World) (L : Int) (n : Nat) (v : Value) (T m : Nat) (f : Nat → E3) (W : World) : Prop where
  g : BoxG W w.heap.size L (n : Int) v
  r : BoxF W (w.heap.size + 1) 0 0 (.slice none 0 0)
  t : ERow W T m m f
  lo : w.heap.size + 2 ≤ T
  b : Below w.heap.size w W
theorem RVs.keep {w W W' : World} {L : Int} {n : Nat} {v : Value} {T m : Nat} {f : Nat → E3} (h : RVs w L n v T m f W) (hb : Below W.heap.size W W') : RVs w L n v T m f W' :=
  ⟨h.g.keep hb, h.r.keep hb, h.t.keep hb, h.lo, h.b.trans (hb.mono h.b.size)⟩
theorem RVs.set {w W : World} {L : Int} {n : Nat} {v : Value} {T m : Nat} {f : Nat → E3} (h : RVs w L n v T m f W) {i : Nat} (hi : i < m) (x y z : Int) :
    RVs w L n v T m (fun j => if j = i then (x, y, z) else f j) (((W.setCell ⟨T, i * 3, none⟩ (.int .i64 x)).setCell ⟨T, i * 3 + 1, none⟩ (.int .i64 y)).setCell ⟨T, i * 3 + 2, none⟩ (.int .i64 z)) := by
  have hlo := h.lo
  have h1 : T ≠ w.heap.size := by omega
  have h2 : T ≠ w.heap.size + 1 := by omega
  exact ⟨boxG_other (boxG_other (boxG_other h.g (a := ⟨T, i * 3, none⟩) h1 _) (a := ⟨T, i * 3 + 1, none⟩) h1 _) (a := ⟨T, i * 3 + 2, none⟩) h1 _,
    ((h.r.other (a := ⟨T, i * 3, none⟩) h2 _).other (a := ⟨T, i * 3 + 1, none⟩) h2 _).other (a := ⟨T, i * 3 + 2, none⟩) h2 _, h.t.set hi x y z, h.lo, set9_below h.b (by omega) _ _ _ _ _ _⟩
set_option maxRecDepth 100000 in
set_option maxHeartbeats 6400000 in
theorem reverse_good (L : Int) (n : Nat) (es : List E3) (v : Value) (w : World) (hrd : EdgesRd w v es) (hvg : VG L (n : Int) es) :
    Calls Try.prog 43 #[grV L (n : Int) v] w fun e w' => ∃ v', e = .returned (.tuple #[grV L (n : Int) v', .int .i64 0]) ∧ EdgesAt w' w.heap.size v' (revE es) ∧ Below w.heap.size w w' := by
  have hlen := hvg.len
  have HRD := Lib.hid hrd
  have HV := Lib.hid (fun W h => isValid_any L (n : Int) es v W h (by omega))
  have H0 := Lib.hid (show (chkG L (n : Int) es == 0) = true by rw [hvg.chk]; rfl)
  have HR0 := Lib.hid (show makeR L (n : Int) (es.map trnE) = (L, (n : Int), revE es, 0) by
    unfold makeR
    show (if chkG L (n : Int) (revE es) = 0 then (L, (n : Int), revE es, 0) else _) = _
    rw [if_pos (revE_vg hvg).chk])
  have HMK := Lib.hid (fun v' W h => make_any L (n : Int) (es.map trnE) v' W h (by rw [List.length_map]; omega))
  have HME := Lib.hid (fun W => make_edges es.length (by omega) W)
  have K0 := Lib.hid (KB.start w L (n : Int) v 24)
  obtain ⟨a, c, rfl⟩ := hrd.form
  clear hrd hvg
  go_enter Try.func43, Try.ntmps43
  go_upto_region 4 with (go_at_call 67; (with_reducible refine (HV.out _ (HRD.out.keep K0.out.bel)).mono ?_); rintro e0 W1 ⟨rfl, b1⟩; (rw [H0.out]); (have K1 := Lib.hid (K0.out.keep b1)); (clear b1 K0); (obtain ⟨⟨g1, g2, g3⟩, -⟩ := id K1.out); (have hm := HME.out W1))
  have bm := below1 W1 (.cells (madeCells #[.int .i64 0, .int .i64 0, .int .i64 0] (es.length * 3)) 46)
  have R0 := Lib.hid (show RVs w L n (.slice a es.length c) W1.heap.size es.length (fun _ => (0, 0, 0)) _ from ⟨(K1.out.keep bm).1, (K1.out.keep bm).2.1, ERow.made W1 es.length, K1.out.2.2.2, (K1.out.keep bm).2.2.1⟩)
  obtain ⟨T, hT⟩ : ∃ T, W1.heap.size = T := ⟨_, rfl⟩
  obtain ⟨W2, hW2⟩ : ∃ W2, W1.alloc (.cells (madeCells #[.int .i64 0, .int .i64 0, .int .i64 0] (es.length * 3)) 46) = W2 := ⟨_, rfl⟩
  rw [hT, hW2] at R0 ⊢
  clear hT hW2 bm hm K1 g1 g2 g3
  obtain ⟨g1, g2, g3⟩ := id R0.out.g
  go_wp2_with fail
  go_loopg [18] es.length (fun q s18 wx => ∃ (i : Nat) (f : Nat → E3), i + q = es.length ∧ s18 = .int .i64 (i : Int) ∧ RVs w L n (.slice a es.length c) T es.length f wx ∧ Hid (∀ j, j < i → f j = trnE es[j]!))
  case atStart => exact ⟨0, _, by omega, rfl, R0.out, Lib.hid (fun j hj => absurd hj (by omega))⟩
  case round =>
    clear R0 g1 g2 g3
    obtain ⟨i, f, hiq, rfl, hR, HF⟩ := hrel
    have RR := Lib.hid hR
    obtain ⟨g1, g2, g3⟩ := id hR.g
    rcases gk with _ | q
    · obtain ⟨⟨r1, r2, r3⟩, r4, r5, r6⟩ := id hR.r
      obtain ⟨m, hm⟩ : ∃ m, (es.map trnE).length = m := ⟨_, rfl⟩
      have hml : es.length = m := by rw [← hm, List.length_map]
      have ET := Lib.hid (show EdgesAt wr (w.heap.size + 2) (.slice (some ⟨T, 0, none⟩) (es.map trnE).length es.length) (es.map trnE) from
        ERow.at (f := f) (by rw [List.length_map]; exact RR.out.t) RR.out.lo (by unfold maxLen; omega) (fun j hj => by
          rw [List.length_map] at hj
          rw [List.getElem?_map, List.getElem?_eq_getElem hj, HF.out j (by omega), getElem!_pos es j hj]; rfl))
      have HMS := Lib.hid (HMK.out _ wr ET.out.rd)
      rw [List.length_map] at HMS
      have hi : i = es.length := by omega
      have j1 : decide ((i : Int) < (es.length : Int)) = false := decide_eq_false (by omega)
      have j2 : decide (i < es.length) = false := decide_eq_false (by omega)
      clear hm hml hR hi hiq
      go_wp2_with (go_at_call 70; (with_reducible refine HMS.out.mono ?_); rintro e0 W5 ⟨v5, rfl, i5, b5⟩; (rw [HR0.out] at i5 ⊢); (dsimp only at i5 ⊢); (obtain ⟨a5, c5, rfl⟩ := i5.slice); (have I5 := Lib.hid i5); (have B5 := Lib.hid (below_more RR.out.b (Nat.le_refl _) b5)); (obtain ⟨⟨r1, r2, r3⟩, r4, r5, r6⟩ := id (RR.out.r.keep b5)); (clear i5 b5 g1 g2 g3))
      have hTl := RR.out.t.lt
      have hlo := RR.out.lo
      exact bodyPost_ret (v := .tuple #[grV L (n : Int) (.slice a5 (revE es).length c5), .int .i64 0]) (by simp [results, Try.results43, go_sem, r1, r2, r3]) rfl
        ⟨_, rfl, edges_over I5.out (by omega) _ _ _ (by omega), below_over B5.out (Nat.le_succ _) _ _ _⟩
    · obtain ⟨e, he⟩ : ∃ e, es[i]? = some e := ⟨_, List.getElem?_eq_getElem (by omega)⟩
      obtain ⟨bb, off, c', hv, k1, k2, k3⟩ := (HRD.out.keep RR.out.b).at he
      injection hv with e1 e2 e3
      subst e1
      subst e3
      have hee : es[i]! = e := by obtain ⟨hi, h2⟩ := List.getElem?_eq_some_iff.1 he; rw [getElem!_pos es i hi, h2]
      obtain ⟨x, y, z⟩ := e
      dsimp only at k1 k2 k3
      have hil : i < es.length := by omega
      have j3 : (i : Int) < (es.length : Int) := by omega
      have HF2 := Lib.hid (show ∀ j, j < i + 1 → (fun j => if j = i then ((z, y, x) : E3) else f j) j = trnE es[j]! from fun j hj => by
        dsimp only
        by_cases hji : j = i
        · subst hji; rw [if_pos rfl, hee]; rfl
        · rw [if_neg hji]; exact HF.out j (by omega))
      obtain ⟨⟨o1, o2, o3⟩, ho⟩ : ∃ o, f i = o := ⟨_, rfl⟩
      have RB := Lib.hid (RR.out.keep (below1 wr (.cells #[.int .i64 x, .int .i64 y, .int .i64 z] 46)))
      obtain ⟨c7, c8, c9⟩ := RB.out.t.cells hil ho
      have f1 := RB.out.t.frozen (i * 3)
      have f2 := RB.out.t.frozen (i * 3 + 1)
      have f3 := RB.out.t.frozen (i * 3 + 2)
      clear he hee ho e2 hR
      go_wp2_with fail
      go_roundg q
      case measure => omega
      case rel => exact ⟨i + 1, _, by omega, by go_num, RB.out.set hil z y x, HF2⟩
end Go.Proofs.Ytfkplnmhlpabaaa

namespace Go.Proofs.Ytfkplnmhlpabaaa
open Go.ChangeShapes Go.WideShapes Go.ChangeAt Go.RowKit

theorem ownNone : ownKnob Try.prog.godebug = none := by kernel_rfl
end Go.Proofs.Ytfkplnmhlpabaaa
