/- What graph.Make returns: the edges in order, each once, if they make a valid graph. Condition: at most 100000 edges. -/
import Derived.Test.YtiebhalefdpjiaaDoorVte
import Derived.Test.YtiebhalefdpjiaaDoorVl
namespace Go.Proofs.YtiebhalefdpjiaaDoor
open Go.RowKit Go.Shelf
set_option linter.unusedSimpArgs false
set_option linter.unusedVariables false

theorem sorted_any (v : Value) (es : List E3) (w : World) (hrd : EdgesRd w v es) (hlen : es.length ≤ 100000) :
    Calls Tryd.prog 37 #[v, .func (.func 38) #[] #[]] w (NewEdges w (mkE es)) := by
  obtain ⟨a, c, rfl⟩ := hrd.form
  have HV := Lib.hid (values_any (.slice a es.length c) a es.length c rfl w)
  have hB := below1 w (.cells #[.slice a es.length c] 22)
  have HS := Lib.hid (sortedFunc_any w.heap.size (.slice a es.length c) es (w.alloc (.cells #[.slice a es.length c] 22)) (hrd.keep hB) hlen (by simp [go_sem]))
  have B0 := Lib.hid hB
  clear hrd hB
  go_enter Tryd.func37, Tryd.ntmps37
  go_wp2_with (first
    | (go_at_call 62; (with_reducible refine HV.out.mono ?_); rintro e W1 ⟨rfl, rfl⟩)
    | (go_at_call 61; (with_reducible refine HS.out.mono ?_); rintro e W2 ⟨v2, rfl, i2, b2⟩; (obtain ⟨a2, c2, rfl⟩ := i2.slice); (have HC := Lib.hid (compact_any w.heap.size _ (srtE es) W2 (own_low i2 (by rw [World.size_alloc]; omega)) (Nat.le_trans B0.out.size b2.size) (by rw [srtE_len]; exact hlen))); (have B2 := Lib.hid (below_more B0.out (Nat.le_refl _) b2)); (clear i2 b2))
    | (go_at_call 60; (with_reducible refine HC.out.mono ?_); rintro e W3 ⟨v3, rfl, i3, b3⟩; (obtain ⟨a3, c3, rfl⟩ := i3.slice); (have I3 := Lib.hid i3); (have B3 := Lib.hid (B2.out.trans b3)); (clear i3 b3)))
  go_ret
  exact ⟨_, rfl, I3.out, B3.out⟩
/-- What Make returns: labels, states, edges, the error. -/
def makeR (L S : Int) (es : List E3) : Int × Int × List E3 × Int := if chkG L S (mkE es) = 0 then (L, S, mkE es, 0) else (0, 0, [], chkG L S (mkE es))
/-- The result's variable, the graph's. -/
structure MK (w : World) (L S : Int) (v : Value) (ms : List E3) (p : Nat) (W : World) : Prop where
  r : BoxF W w.heap.size 0 0 (.slice none 0 0)
  g : BoxG W p L S v
  e : EdgesAt W (w.heap.size + 1) v ms
  b : Below w.heap.size w W
theorem MK.keep {w W W' : World} {L S : Int} {v : Value} {ms : List E3} {p : Nat} (h : MK w L S v ms p W) (hb : Below W.heap.size W W') : MK w L S v ms p W' :=
  ⟨h.r.keep hb, h.g.keep hb, EdgesAt.keep h.e hb, h.b.trans (hb.mono h.b.size)⟩
set_option maxRecDepth 100000 in
set_option maxHeartbeats 3200000 in
theorem make_any (L S : Int) (es : List E3) (v : Value) (w : World) (hrd : EdgesRd w v es) (hlen : es.length ≤ 100000) :
    Calls Tryd.prog 11 #[.int .i64 L, .int .i64 S, v] w (GOut w (makeR L S es)) := by
  have hB := below1 w (.cells #[.int .i64 0, .int .i64 0, .slice none 0 0] 24)
  have HS := Lib.hid (sorted_any v es _ (hrd.keep hB) hlen)
  have R0 := Lib.hid (BoxF.new w 0 0 (.slice none 0 0) 24)
  have B0 := Lib.hid hB
  have Z0 := Lib.hid (World.size_alloc w (.cells #[.int .i64 0, .int .i64 0, .slice none 0 0] 24))
  have hml := mkE_len es
  have HMR := Lib.hid (show makeR L S es = if chkG L S (mkE es) = 0 then (L, S, mkE es, 0) else (0, 0, [], chkG L S (mkE es)) from rfl)
  obtain ⟨ms, hms⟩ : ∃ ms, mkE es = ms := ⟨_, rfl⟩
  simp only [hms] at HS HMR
  rw [hms] at hml
  have HCK := Lib.hid (fun v' W h => gcheck_any L S ms v' W h (by omega))
  obtain ⟨z, hz⟩ : ∃ z, chkG L S ms = z := ⟨_, rfl⟩
  simp only [hz] at HMR HCK
  obtain ⟨a, c, rfl⟩ := hrd.form
  clear hrd hB hms hz
  by_cases h0 : z = 0
  · subst h0
    have HE := Lib.hid (show makeR L S es = (L, S, ms, 0) from HMR.out)
    go_enter Tryd.func11, Tryd.ntmps11
    go_wp2_with (first
      | (go_at_call 37; (with_reducible refine HS.out.mono ?_); rintro e W2 ⟨v2, rfl, i2, b2⟩; (obtain ⟨a2, c2, rfl⟩ := i2.slice); (have bm := below1 W2 (.cells #[.int .i64 L, .int .i64 S, .slice a2 ms.length c2] 24)); (have K2 := Lib.hid (show MK w L S (.slice a2 ms.length c2) ms W2.heap.size (W2.alloc (.cells #[.int .i64 L, .int .i64 S, .slice a2 ms.length c2] 24)) from ⟨(R0.out.keep b2).keep bm, BoxG.new W2 L S _ _, EdgesAt.keep (by rw [Z0.out] at i2; exact i2) bm, below_more (below_more B0.out (Nat.le_refl _) b2) (Nat.le_refl _) bm⟩)); (clear i2 b2 bm); (obtain ⟨g1, g2, g3⟩ := id K2.out.g))
      | (go_at_call 13; (with_reducible refine (HCK.out _ _ (EdgesAt.rd K2.out.e)).mono ?_); rintro e W3 ⟨rfl, b3⟩; (have K3 := Lib.hid (K2.out.keep b3)); (clear b3 g1 g2 g3); (obtain ⟨g1, g2, g3⟩ := id K3.out.g); (obtain ⟨⟨r1, r2, r3⟩, r4, r5, r6⟩ := id K3.out.r)))
    rw [HE.out]
    exact bodyPost_ret (v := .tuple #[grV L S (.slice a2 ms.length c2), .int .i64 0]) (by simp [results, Tryd.results11, go_sem, r1, r2, r3]) rfl
      ⟨_, rfl, edges_over K3.out.e (Nat.lt_succ_self _) _ _ _ (Nat.le_succ _), below_over K3.out.b (Nat.le_refl _) _ _ _⟩
  · have HE := Lib.hid (show makeR L S es = (0, 0, [], z) by rw [HMR.out, if_neg h0])
    have d1 : (z != 0) = true := by simpa using h0
    clear h0
    go_enter Tryd.func11, Tryd.ntmps11
    go_wp2_with (first
      | (go_at_call 37; (with_reducible refine HS.out.mono ?_); rintro e W2 ⟨v2, rfl, i2, b2⟩; (obtain ⟨a2, c2, rfl⟩ := i2.slice); (have bm := below1 W2 (.cells #[.int .i64 L, .int .i64 S, .slice a2 ms.length c2] 24)); (have K2 := Lib.hid (show MK w L S (.slice a2 ms.length c2) ms W2.heap.size (W2.alloc (.cells #[.int .i64 L, .int .i64 S, .slice a2 ms.length c2] 24)) from ⟨(R0.out.keep b2).keep bm, BoxG.new W2 L S _ _, EdgesAt.keep (by rw [Z0.out] at i2; exact i2) bm, below_more (below_more B0.out (Nat.le_refl _) b2) (Nat.le_refl _) bm⟩)); (clear i2 b2 bm); (obtain ⟨g1, g2, g3⟩ := id K2.out.g))
      | (go_at_call 13; (with_reducible refine (HCK.out _ _ (EdgesAt.rd K2.out.e)).mono ?_); rintro e W3 ⟨rfl, b3⟩; (have K3 := Lib.hid (K2.out.keep b3)); (clear b3 g1 g2 g3); (obtain ⟨g1, g2, g3⟩ := id K3.out.g); (obtain ⟨⟨r1, r2, r3⟩, r4, r5, r6⟩ := id K3.out.r)))
    rw [HE.out]
    exact bodyPost_ret (v := .tuple #[grV 0 0 (.slice none 0 0), .int .i64 z]) (by simp [results, Tryd.results11, go_sem, r1, r2, r3]) rfl
      ⟨_, rfl, edges_nil _ _, below_over K3.out.b (Nat.le_refl _) _ _ _⟩
end Go.Proofs.YtiebhalefdpjiaaDoor
