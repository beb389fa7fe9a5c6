/- What graph.isState, isLabel and Check return. Condition: the list's length is one of a slice. What graph.members and graph.passed return. Conditions: at most 64 states, edges between states. What graph.passed returns. Conditions: at most 64 states, edges between states. -/
import Derived.Test.YtkpmapeapiodcaaDoorQ09
import Derived.Deep.DeepCutAuto

namespace Go.Proofs.YtkpmapeapiodcaaDoor
open Go.RowKit
set_option linter.unusedSimpArgs false
set_option linter.unusedVariables false

def inB (S s : Int) : Bool := decide (0 ≤ s ∧ s < S)
theorem inB_true {S s : Int} : inB S s = true ↔ 0 ≤ s ∧ s < S := by unfold inB; exact decide_eq_true_iff
theorem inB_false {S s : Int} : inB S s = false ↔ ¬ (0 ≤ s ∧ s < S) := by unfold inB; exact decide_eq_false_iff_not
theorem okE_parts (L S : Int) (e : E3) : okE L S e = (inB S e.1 && inB L e.2.1 && inB S e.2.2) := by
  rw [Bool.eq_iff_iff, Bool.and_eq_true, Bool.and_eq_true, inB_true, inB_true, inB_true, okE_iff]
  omega
abbrev grV (L S : Int) (v : Value) : Value := .agg #[.int .i64 L, .int .i64 S, v]
def BoxG (W : World) (p : Nat) (L S : Int) (v : Value) : Prop := W.cell? ⟨p, 0, none⟩ = some (.int .i64 L) ∧ W.cell? ⟨p, 1, none⟩ = some (.int .i64 S) ∧ W.cell? ⟨p, 2, none⟩ = some v
theorem BoxG.keep {W W' : World} {p : Nat} {L S : Int} {v : Value} (h : BoxG W p L S v) (hb : Below W.heap.size W W') : BoxG W' p L S v := ⟨cell_keep h.1 hb, cell_keep h.2.1 hb, cell_keep h.2.2 hb⟩
theorem BoxG.new (W : World) (L S : Int) (v : Value) (t : TypeId) : BoxG (W.alloc (.cells #[.int .i64 L, .int .i64 S, v] t)) W.heap.size L S v := by
  unfold BoxG
  refine ⟨?_, ?_, ?_⟩ <;> simp [go_sem]
set_option maxRecDepth 100000 in
theorem isState_any (L S : Int) (v : Value) (s : Int) (w : World) : Calls Tryd.prog 102 #[grV L S v, .int .i64 s] w fun e w' => e = .returned (.bool (inB S s)) ∧ Below w.heap.size w w' := by
  by_cases h0 : 0 ≤ s
  · have d1 : decide (0 ≤ s) = true := decide_eq_true h0
    by_cases h1 : s < S
    · have d2 : decide (s < S) = true := decide_eq_true h1
      have HB := Lib.hid (inB_true.2 ⟨h0, h1⟩)
      go_enter Tryd.func102, Tryd.ntmps102
      go_wp2
      go_ret
      exact ⟨by rw [HB.out]; rfl, below1 w _⟩
    · have d2 : decide (s < S) = false := decide_eq_false h1
      have HB := Lib.hid (inB_false.2 (fun h => h1 h.2))
      go_enter Tryd.func102, Tryd.ntmps102
      go_wp2
      go_ret
      exact ⟨by rw [HB.out]; rfl, below1 w _⟩
  · have d1 : decide (0 ≤ s) = false := decide_eq_false h0
    have HB := Lib.hid ((inB_false (S := S)).2 (fun h => h0 h.1))
    go_enter Tryd.func102, Tryd.ntmps102
    go_wp2
    go_ret
    exact ⟨by rw [HB.out]; rfl, below1 w _⟩
set_option maxRecDepth 100000 in
theorem isLabel_any (L S : Int) (v : Value) (s : Int) (w : World) : Calls Tryd.prog 103 #[grV L S v, .int .i64 s] w fun e w' => e = .returned (.bool (inB L s)) ∧ Below w.heap.size w w' := by
  by_cases h0 : 0 ≤ s
  · have d1 : decide (0 ≤ s) = true := decide_eq_true h0
    by_cases h1 : s < L
    · have d2 : decide (s < L) = true := decide_eq_true h1
      have HB := Lib.hid (inB_true.2 ⟨h0, h1⟩)
      go_enter Tryd.func103, Tryd.ntmps103
      go_wp2
      go_ret
      exact ⟨by rw [HB.out]; rfl, below1 w _⟩
    · have d2 : decide (s < L) = false := decide_eq_false h1
      have HB := Lib.hid (inB_false.2 (fun h => h1 h.2))
      go_enter Tryd.func103, Tryd.ntmps103
      go_wp2
      go_ret
      exact ⟨by rw [HB.out]; rfl, below1 w _⟩
  · have d1 : decide (0 ≤ s) = false := decide_eq_false h0
    have HB := Lib.hid ((inB_false (S := L)).2 (fun h => h0 h.1))
    go_enter Tryd.func103, Tryd.ntmps103
    go_wp2
    go_ret
    exact ⟨by rw [HB.out]; rfl, below1 w _⟩
theorem EdgesRd.at {W : World} {v : Value} {es : List E3} (h : EdgesRd W v es) {i : Nat} {e : E3} (he : es[i]? = some e) : ∃ b off c, v = .slice (some ⟨b, off, none⟩) es.length c ∧
    W.cell? ⟨b, off + i * 3, none⟩ = some (.int .i64 e.1) ∧ W.cell? ⟨b, off + i * 3 + 1, none⟩ = some (.int .i64 e.2.1) ∧ W.cell? ⟨b, off + i * 3 + 2, none⟩ = some (.int .i64 e.2.2) := by
  obtain ⟨a, c, rfl, h1⟩ := h
  obtain ⟨b, off, rfl, k⟩ := h1 i e he
  exact ⟨b, off, c, rfl, k⟩
theorem EdgesRd.form {W : World} {v : Value} {es : List E3} (h : EdgesRd W v es) : ∃ a c, v = .slice a es.length c := by
  obtain ⟨a, c, rfl, h1⟩ := h
  exact ⟨a, c, rfl⟩
def CK (w : World) (L S : Int) (v : Value) (p : Nat) (e : E3) (W : World) : Prop := BoxG W w.heap.size L S v ∧ Box3 W p e ∧ Below w.heap.size w W
theorem CK.keep {w W W' : World} {L S : Int} {v : Value} {p : Nat} {e : E3} (h : CK w L S v p e W) (hb : Below W.heap.size W W') : CK w L S v p e W' := ⟨h.1.keep hb, h.2.1.keep hb, h.2.2.trans (hb.mono h.2.2.size)⟩
set_option maxRecDepth 100000 in
set_option maxHeartbeats 6400000 in
theorem check_loop (L S : Int) (es : List E3) (v : Value) (w : World) (hrd : EdgesRd w v es) (l1 : 1 ≤ L) (l2 : L ≤ 256) (s1 : 0 ≤ S) (s2 : S ≤ 64) (hn : es.length ≤ 1024) :
    Calls Tryd.prog 86 #[grV L S v] w fun e w' => e = .returned (.int .i64 (chkF L S none es)) ∧ Below w.heap.size w w' := by
  have HRD := Lib.hid hrd
  obtain ⟨a, c, rfl⟩ := hrd.form
  have K0 := Lib.hid (BoxG.new w L S (.slice a es.length c) 41)
  clear hrd
  have d1 : decide (L < 1) = false := decide_eq_false (by omega)
  have d2 : decide (256 < L) = false := decide_eq_false (by omega)
  have d3 : decide (S < 0) = false := decide_eq_false (by omega)
  have d4 : decide (64 < S) = false := decide_eq_false (by omega)
  have d5 : decide ((1024 : Int) < (es.length : Int)) = false := decide_eq_false (by omega)
  go_enter Tryd.func86, Tryd.ntmps86
  go_wp2_with fail
  go_loopg [28] es.length (fun q s28 wx => ∃ i : Nat, i + q = es.length ∧ s28 = .int .i64 (i : Int) ∧ Hid (chkF L S (prevE es i) (es.drop i) = chkF L S none es) ∧ BoxG wx w.heap.size L S (.slice a es.length c) ∧ Below w.heap.size w wx)
  case atStart => exact ⟨0, by omega, rfl, Lib.hid rfl, K0.out, below1 w _⟩
  case round =>
    clear K0
    obtain ⟨i, hi, rfl, HI, hG, hb⟩ := hrel
    rcases gk with _ | q
    · obtain rfl : i = es.length := by omega
      have HE := Lib.hid (show chkF L S none es = 0 by rw [← HI.out, List.drop_length]; rfl)
      clear HI
      go_wp2_with fail
      go_ret
      exact ⟨by rw [HE.out]; rfl, hb⟩
    · obtain ⟨e, he⟩ : ∃ e, es[i]? = some e := ⟨_, List.getElem?_eq_getElem (by omega)⟩
      have HEE := Lib.hid he
      have hrd := HRD.out.keep hb
      obtain ⟨b, off, c', hv, k1, k2, k3⟩ := hrd.at he
      injection hv with e1 e2 e3
      subst e1
      subst e3
      have HDR := drop_at he
      obtain ⟨x, y, z⟩ := e
      dsimp only at k1 k2 k3
      have j1 : (i : Int) < (es.length : Int) := by omega
      have HS := Lib.hid (fun s W => isState_any L S (.slice (some ⟨b, off, none⟩) es.length c) s W)
      have HL := Lib.hid (fun s W => isLabel_any L S (.slice (some ⟨b, off, none⟩) es.length c) s W)
      have G0 := Lib.hid (show CK w L S (.slice (some ⟨b, off, none⟩) es.length c) wr.heap.size (x, y, z) (wr.alloc (.cells #[.int .i64 x, .int .i64 y, .int .i64 z] 45)) from ⟨hG.keep (below1 wr _), Box3.new _ _ _ _ _, hb.alloc hb.size _⟩)
      obtain ⟨g1, g2, g3⟩ := id hG
      go_upto_region 10 with fail
      have hok := okE_parts L S (x, y, z)
      dsimp only at hok
      clear k1 k2 k3 hG hb g1 g2 g3 hrd e2
      obtain ⟨W0, hW0⟩ : ∃ W0, wr.alloc (.cells #[.int .i64 x, .int .i64 y, .int .i64 z] 45) = W0 := ⟨_, rfl⟩
      rw [hW0] at G0 ⊢
      obtain ⟨P0, hP0⟩ : ∃ P0, wr.heap.size = P0 := ⟨_, rfl⟩
      rw [hP0] at G0 ⊢
      clear hW0 hP0
      obtain ⟨⟨g1, g2, g3⟩, ⟨x1, x2, x3, -, -, -⟩, hb⟩ := id G0.out
      dsimp only at x1 x2 x3
      cases h1 : inB S x with
      | false =>
        have HE := Lib.hid (show chkF L S none es = 2 by rw [← HI.out, HDR]; exact chkF_bad (by rw [hok, h1]; rfl))
        have H1 := Lib.hid h1
        clear HI HDR he hok h1
        go_wp2_with (go_at_call 102; (with_reducible refine (HS.out _ _).mono ?_); rintro e0 W1 ⟨rfl, b1⟩; (rw [H1.out]); (have G1 := G0.out.keep b1))
        go_ret
        exact ⟨by rw [HE.out]; rfl, G1.2.2⟩
      | true =>
        have H1 := Lib.hid h1
        cases h2 : inB L y with
        | false =>
          have HE := Lib.hid (show chkF L S none es = 2 by rw [← HI.out, HDR]; exact chkF_bad (by rw [hok, h1, h2]; rfl))
          have H2 := Lib.hid h2
          clear HI HDR he hok h1 h2
          go_wp2_with (first
            | (go_at_call 102; (with_reducible refine (HS.out _ _).mono ?_); rintro e0 W1 ⟨rfl, b1⟩; (rw [H1.out]); (have G1 := G0.out.keep b1); (obtain ⟨⟨g11, g12, g13⟩, ⟨x11, x12, x13, -, -, -⟩, -⟩ := id G1); (dsimp only at x11 x12 x13))
            | (go_at_call 103; (with_reducible refine (HL.out _ _).mono ?_); rintro e0 W2 ⟨rfl, b2⟩; (rw [H2.out]); (have G2 := G1.keep b2)))
          go_ret
          exact ⟨by rw [HE.out]; rfl, G2.2.2⟩
        | true =>
          have H2 := Lib.hid h2
          cases h3 : inB S z with
          | false =>
            have HE := Lib.hid (show chkF L S none es = 2 by rw [← HI.out, HDR]; exact chkF_bad (by rw [hok, h1, h2, h3]; rfl))
            have H3 := Lib.hid h3
            clear HI HDR he hok h1 h2 h3
            go_wp2_with (first
              | (go_at_call 102; (with_reducible refine (HS.out x _).mono ?_); rintro e0 W1 ⟨rfl, b1⟩; (rw [H1.out]); (have G1 := G0.out.keep b1); (clear b1); (obtain ⟨⟨g11, g12, g13⟩, ⟨x11, x12, x13, -, -, -⟩, -⟩ := id G1); (dsimp only at x11 x12 x13))
              | (go_at_call 103; (with_reducible refine (HL.out _ _).mono ?_); rintro e0 W2 ⟨rfl, b2⟩; (rw [H2.out]); (have G2 := G1.keep b2); (obtain ⟨⟨g21, g22, g23⟩, ⟨x21, x22, x23, -, -, -⟩, -⟩ := id G2); (dsimp only at x21 x22 x23))
              | (go_at_call 102; (with_reducible refine (HS.out z _).mono ?_); rintro e0 W3 ⟨rfl, b3⟩; (rw [H3.out]); (have G3 := G2.keep b3)))
            go_ret
            exact ⟨by rw [HE.out]; rfl, G3.2.2⟩
          | true =>
            have H3 := Lib.hid h3
            have hk : okE L S (x, y, z) = true := by rw [hok, h1, h2, h3]; rfl
            go_upto_region 12 with (first
              | (go_at_call 102; (with_reducible refine (HS.out x _).mono ?_); rintro e0 W1 ⟨rfl, b1⟩; (rw [H1.out]); (have G1 := G0.out.keep b1); (clear b1); (obtain ⟨⟨g11, g12, g13⟩, ⟨x11, x12, x13, -, -, -⟩, -⟩ := id G1); (dsimp only at x11 x12 x13))
              | (go_at_call 103; (with_reducible refine (HL.out _ _).mono ?_); rintro e0 W2 ⟨rfl, b2⟩; (rw [H2.out]); (have G2 := G1.keep b2); (obtain ⟨⟨g21, g22, g23⟩, ⟨x21, x22, x23, -, -, -⟩, -⟩ := id G2); (dsimp only at x21 x22 x23))
              | (go_at_call 102; (with_reducible refine (HS.out z _).mono ?_); rintro e0 W3 ⟨rfl, b3⟩; (rw [H3.out]); (have G3 := G2.keep b3)))
            clear G0 G1 G2 g1 g2 g3 x1 x2 x3 g11 g12 g13 x11 x12 x13 g21 g22 g23 x21 x22 x23 b2 b3 hb
            obtain ⟨⟨g1, g2, g3⟩, ⟨x1, x2, x3, -, -, -⟩, hb⟩ := id G3
            dsimp only at x1 x2 x3
            have hmx : Tryd.prog.follows .mixedOrders = true := by kernel_rfl
            by_cases h0 : i = 0
            · have HI2 := Lib.hid (show chkF L S (prevE es (i + 1)) (es.drop (i + 1)) = chkF L S none es by
                rw [← HI.out, HDR, prevE_succ he, chkF_step hk (fun q hq => by rw [h0, prevE_zero] at hq; cases hq)])
              have d6 : decide ((0 : Int) < (i : Int)) = false := decide_eq_false (by omega)
              have d7 : decide (0 < i) = false := decide_eq_false (by omega)
              clear HI HDR he hok h1 h2 h3 hk h0
              go_quiet (fail)
              go_wp2_with fail
              go_roundg q
              case measure => omega
              case rel => exact ⟨i + 1, by omega, by go_num, HI2, ⟨g1, g2, g3⟩, below_drewM hb _⟩
            · obtain ⟨j, hj⟩ : ∃ j, i = j + 1 := ⟨i - 1, by omega⟩
              obtain ⟨e', he'⟩ : ∃ e', es[j]? = some e' := ⟨_, List.getElem?_eq_getElem (by omega)⟩
              have hpv : prevE es i = some e' := by rw [hj]; exact prevE_succ he'
              obtain ⟨b2, off2, c2, hv, k1, k2, k3⟩ := (HRD.out.keep hb).at he'
              injection hv with e1 e2 e3
              injection e1 with e1
              injection e1 with e1 e4
              subst e1
              subst e4
              subst e3
              have hc := cmpE_ge e' (x, y, z)
              obtain ⟨x', y', z'⟩ := e'
              dsimp only at k1 k2 k3
              have hw : IntKind.i64.wrap ((i : Int) - 1) = (j : Int) := by rw [hj]; simp [IntKind.wrap, IntKind.signed, IntKind.bits]; omega
              have d6 : decide ((0 : Int) < (i : Int)) = true := decide_eq_true (by omega)
              have d7 : decide (0 < i) = true := decide_eq_true (by omega)
              have j2 : (j : Int) < (es.length : Int) := by omega
              have HM := Lib.hid (fun W => compareEdges_any (x', y', z') (x, y, z) W)
              cases hlt : ltE (x', y', z') (x, y, z) with
              | false =>
                have HE := Lib.hid (show chkF L S none es = 10 by rw [← HI.out, HDR, hpv]; exact chkF_order hk hlt)
                rw [hlt] at hc
                obtain ⟨m, hm⟩ : ∃ m, cmpE (x', y', z') (x, y, z) = m := ⟨_, rfl⟩
                rw [hm] at hc
                simp only [hm] at HM
                have hc2 : decide (0 ≤ m) = true := hc
                clear HI HDR he hok h1 h2 h3 hk h0 hj he' hpv hc hlt hm e2
                go_region_held3 (fun W => W.cell? ⟨w.heap.size, 2, none⟩ = some (.slice (some ⟨b, off, none⟩) es.length c) ∧ W.cell? ⟨P0, 0, none⟩ = some (.int .i64 x) ∧ W.cell? ⟨P0, 1, none⟩ = some (.int .i64 y) ∧ W.cell? ⟨P0, 2, none⟩ = some (.int .i64 z) ∧
                    W.cell? ⟨b, off + j * 3, none⟩ = some (.int .i64 x') ∧ W.cell? ⟨b, off + j * 3 + 1, none⟩ = some (.int .i64 y') ∧ W.cell? ⟨b, off + j * 3 + 2, none⟩ = some (.int .i64 z'))
                  (first | exact ⟨g3, x1, x2, x3, k1, k2, k3⟩ | exact ⟨cell_keep (Wp := W3.drew) (by exact g3) b2, cell_keep (Wp := W3.drew) (by exact x1) b2, cell_keep (Wp := W3.drew) (by exact x2) b2, cell_keep (Wp := W3.drew) (by exact x3) b2, cell_keep (Wp := W3.drew) (by exact k1) b2, cell_keep (Wp := W3.drew) (by exact k2) b2, cell_keep (Wp := W3.drew) (by exact k3) b2⟩)
                  (first | (go_at_call 104; (with_reducible refine (HM.out _).mono ?_); rintro e0 W4 ⟨rfl, b2⟩))
                have hb2 := below_more hb.drew (Nat.le_refl _) b2
                go_wp2_with fail
                go_ret
                exact ⟨by rw [HE.out]; rfl, hb2⟩
              | true =>
                have HI2 := Lib.hid (show chkF L S (prevE es (i + 1)) (es.drop (i + 1)) = chkF L S none es by
                  rw [← HI.out, HDR, prevE_succ he, chkF_step hk (fun q hq => by rw [hpv] at hq; injection hq with hq; subst hq; exact hlt)])
                rw [hlt] at hc
                obtain ⟨m, hm⟩ : ∃ m, cmpE (x', y', z') (x, y, z) = m := ⟨_, rfl⟩
                rw [hm] at hc
                simp only [hm] at HM
                have hc2 : decide (0 ≤ m) = false := hc
                clear HI HDR he hok h1 h2 h3 hk h0 hj he' hpv hc hlt hm e2
                go_region_held3 (fun W => W.cell? ⟨w.heap.size, 2, none⟩ = some (.slice (some ⟨b, off, none⟩) es.length c) ∧ W.cell? ⟨P0, 0, none⟩ = some (.int .i64 x) ∧ W.cell? ⟨P0, 1, none⟩ = some (.int .i64 y) ∧ W.cell? ⟨P0, 2, none⟩ = some (.int .i64 z) ∧
                    W.cell? ⟨b, off + j * 3, none⟩ = some (.int .i64 x') ∧ W.cell? ⟨b, off + j * 3 + 1, none⟩ = some (.int .i64 y') ∧ W.cell? ⟨b, off + j * 3 + 2, none⟩ = some (.int .i64 z'))
                  (first | exact ⟨g3, x1, x2, x3, k1, k2, k3⟩ | exact ⟨cell_keep (Wp := W3.drew) (by exact g3) b2, cell_keep (Wp := W3.drew) (by exact x1) b2, cell_keep (Wp := W3.drew) (by exact x2) b2, cell_keep (Wp := W3.drew) (by exact x3) b2, cell_keep (Wp := W3.drew) (by exact k1) b2, cell_keep (Wp := W3.drew) (by exact k2) b2, cell_keep (Wp := W3.drew) (by exact k3) b2⟩)
                  (first | (go_at_call 104; (with_reducible refine (HM.out _).mono ?_); rintro e0 W4 ⟨rfl, b2⟩))
                have hG2 : BoxG W4 w.heap.size L S (.slice (some ⟨b, off, none⟩) es.length c) := BoxG.keep (W := W3.drew) ⟨g1, g2, g3⟩ b2
                have hb2 := below_more hb.drew (Nat.le_refl _) b2
                go_wp2_with fail
                go_roundg q
                case measure => omega
                case rel => exact ⟨i + 1, by omega, by go_num, HI2, hG2, hb2⟩
set_option maxRecDepth 100000 in
set_option maxHeartbeats 1600000 in
theorem gcheck_any (L S : Int) (es : List E3) (v : Value) (w : World) (hrd : EdgesRd w v es) (hn : es.length ≤ 9223372036854775807) :
    Calls Tryd.prog 86 #[grV L S v] w fun e w' => e = .returned (.int .i64 (chkG L S es)) ∧ Below w.heap.size w w' := by
  obtain ⟨a, c, rfl⟩ := hrd.form
  by_cases h1 : L < 1
  · have HE := Lib.hid (show chkG L S es = 12 by unfold chkG; rw [if_pos (Or.inl h1)])
    have d1 : decide (L < 1) = true := decide_eq_true h1
    clear hrd
    go_enter Tryd.func86, Tryd.ntmps86
    go_wp2_with fail
    go_ret
    exact ⟨by rw [HE.out]; rfl, below1 w _⟩
  by_cases h2 : 256 < L
  · have HE := Lib.hid (show chkG L S es = 12 by unfold chkG; rw [if_pos (Or.inr h2)])
    have d1 : decide (L < 1) = false := decide_eq_false h1
    have d2 : decide (256 < L) = true := decide_eq_true h2
    clear hrd
    go_enter Tryd.func86, Tryd.ntmps86
    go_wp2_with fail
    go_ret
    exact ⟨by rw [HE.out]; rfl, below1 w _⟩
  have d1 : decide (L < 1) = false := decide_eq_false h1
  have d2 : decide (256 < L) = false := decide_eq_false h2
  by_cases h3 : S < 0
  · have HE := Lib.hid (show chkG L S es = 2 by unfold chkG; rw [if_neg (by omega), if_pos h3])
    have d3 : decide (S < 0) = true := decide_eq_true h3
    clear hrd
    go_enter Tryd.func86, Tryd.ntmps86
    go_wp2_with fail
    go_ret
    exact ⟨by rw [HE.out]; rfl, below1 w _⟩
  have d3 : decide (S < 0) = false := decide_eq_false h3
  by_cases h4 : 64 < S
  · have HE := Lib.hid (show chkG L S es = 4 by unfold chkG; rw [if_neg (by omega), if_neg h3, if_pos (Or.inl h4)])
    have d4 : decide (64 < S) = true := decide_eq_true h4
    clear hrd
    go_enter Tryd.func86, Tryd.ntmps86
    go_wp2_with fail
    go_ret
    exact ⟨by rw [HE.out]; rfl, below1 w _⟩
  by_cases h5 : 1024 < es.length
  · have HE := Lib.hid (show chkG L S es = 4 by unfold chkG; rw [if_neg (by omega), if_neg h3, if_pos (Or.inr h5)])
    have d4 : decide (64 < S) = false := decide_eq_false h4
    have d5 : decide ((1024 : Int) < (es.length : Int)) = true := decide_eq_true (by omega)
    clear hrd
    go_enter Tryd.func86, Tryd.ntmps86
    go_wp2_with fail
    go_ret
    exact ⟨by rw [HE.out]; rfl, below1 w _⟩
  have HE : chkG L S es = chkF L S none es := by unfold chkG; rw [if_neg (by omega), if_neg h3, if_neg (by omega)]
  rw [HE]
  exact check_loop L S es _ w hrd (by omega) (by omega) (by omega) (by omega) (by omega)
theorem isValid_any (L S : Int) (es : List E3) (v : Value) (w : World) (hrd : EdgesRd w v es) (hn : es.length ≤ 9223372036854775807) :
    Calls Tryd.prog 62 #[grV L S v] w fun e w' => e = .returned (.bool (chkG L S es == 0)) ∧ Below w.heap.size w w' := by
  have HC := Lib.hid (fun W h => gcheck_any L S es v W h hn)
  have HK := Lib.hid (hrd.keep (below1 w (.cells #[.int .i64 L, .int .i64 S, v] 41)))
  obtain ⟨a, c, rfl⟩ := hrd.form
  clear hrd
  obtain ⟨z, hz⟩ : ∃ z, chkG L S es = z := ⟨_, rfl⟩
  simp only [hz] at HC
  have HZ := Lib.hid hz
  clear hz
  go_enter Tryd.func62, Tryd.ntmps62
  go_wp2_with (go_at_call 86; (with_reducible refine (HC.out _ HK.out).mono ?_); rintro e0 W1 ⟨rfl, b1⟩)
  go_ret
  exact ⟨by rw [HZ.out]; rfl, below_more (below1 w _) (Nat.le_refl _) b1⟩
end Go.Proofs.YtkpmapeapiodcaaDoor

namespace Go.Proofs.YtkpmapeapiodcaaDoor
open Go.RowKit
set_option linter.unusedSimpArgs false
set_option linter.unusedVariables false

def BRd (W : World) (v : Value) (n : Nat) (f : Nat → Bool) : Prop := ∃ b c, v = .slice (some ⟨b, 0, none⟩) n c ∧ ∀ i, i < n → W.cell? ⟨b, i, none⟩ = some (.bool (f i))
theorem BRd.keep {W W' : World} {v : Value} {n : Nat} {f : Nat → Bool} (h : BRd W v n f) (hb : Below W.heap.size W W') : BRd W' v n f := by
  obtain ⟨b, c, rfl, h1⟩ := h
  exact ⟨b, c, rfl, fun i hi => cell_keep (h1 i hi) hb⟩
def BRow (W : World) (b n : Nat) (f : Nat → Bool) : Prop := W.rowIs b 4 n (fun i => .bool (f i))
theorem BRow.keep {W W' : World} {b n : Nat} {f : Nat → Bool} (h : BRow W b n f) (hb : Below W.heap.size W W') : BRow W' b n f := World.rowIs.of_block h (hb.block b (World.rowIs.lt h))
theorem BRow.rd {W : World} {b n : Nat} {f : Nat → Bool} (h : BRow W b n f) (c : Nat) : BRd W (.slice (some ⟨b, 0, none⟩) n c) n f := ⟨b, c, rfl, fun i hi => World.rowIs.cell h hi⟩
theorem BRow.made (w : World) (n : Nat) : BRow (w.alloc (.cells (madeCells #[.bool false] n) 4)) w.heap.size n (fun _ => false) := World.rowIs_made w _ n _
theorem BRow.set {W : World} {b n : Nat} {f : Nat → Bool} (h : BRow W b n f) (i : Nat) (x : Bool) : BRow (W.setCell ⟨b, i, none⟩ (.bool x)) b n (fun j => if j = i then x else f j) :=
  World.rowIs.congr (World.rowIs.set h i (.bool x)) (fun j _ => by dsimp only; split <;> rfl)
theorem BRow.other {W : World} {b n : Nat} {f : Nat → Bool} (h : BRow W b n f) {a : Addr} (ha : b ≠ a.block) (v : Value) : BRow (W.setCell a v) b n f := World.rowIs.setOther h ha v
theorem BRow.congr {W : World} {b n : Nat} {f g : Nat → Bool} (h : BRow W b n f) (e : ∀ i, i < n → f i = g i) : BRow W b n g := World.rowIs.congr h (fun i hi => by rw [e i hi])
theorem Tryd.infoBool : (Tryd.prog.info? 4).map (fun i => (i.zero, i.size, i.bytes)) = some (some (.bool false), 1, 1) := by kernel_rfl
theorem make_bools (n : Nat) (hn : n ≤ 100000) (W : World) : (Instr.makeSlice 104 (.int .i64 (n : Int)) (.int .i64 (n : Int))).run Tryd.prog W = .ok (.slice (some ⟨W.heap.size, 0, none⟩) n n) (W.alloc (.cells (madeCells #[.bool false] n) 4)) :=
  run_make_row' _ _ _ 1 Tryd.underlying104 Tryd.infoBool rfl _ _ n (by omega) (by omega) W
theorem make_ints (n : Nat) (hn : n ≤ 100000) (W : World) : (Instr.makeSlice 62 (.int .i64 (n : Int)) (.int .i64 (n : Int))).run Tryd.prog W = .ok (.slice (some ⟨W.heap.size, 0, none⟩) n n) (W.alloc (.cells (madeCells #[.int .i64 0] n) 3)) :=
  run_make_row' _ _ _ 8 Tryd.underlying62 Tryd.infoI64 rfl _ _ n (by omega) (by omega) W
def mems (n : Nat) (f : Nat → Bool) : List Int := ((List.range n).filter f).map fun (i : Nat) => (i : Int)
theorem mems_succ (n : Nat) (f : Nat → Bool) : mems (n + 1) f = mems n f ++ (if f n = true then [(n : Int)] else []) := by
  unfold mems
  rw [List.range_succ, List.filter_append, List.map_append]
  congr 1
  cases h : f n <;> simp [List.filter_cons, h]
theorem mems_len (n : Nat) (f : Nat → Bool) : (mems n f).length ≤ n := by
  unfold mems
  rw [List.length_map]
  exact Nat.le_trans (List.length_filter_le _ _) (by simp)
def NewInts (w : World) (l : List Int) (e : Ending) (w' : World) : Prop := ∃ v, e = .returned v ∧ IntsAt w' w.heap.size v l ∧ Below w.heap.size w w'
set_option maxRecDepth 100000 in
set_option maxHeartbeats 1600000 in
theorem members_any (n : Nat) (f : Nat → Bool) (v : Value) (w : World) (hrd : BRd w v n f) (hn : n ≤ 64) :
    Calls Tryd.prog 90 #[v] w (NewInts w (mems n f)) := by
  obtain ⟨i0, hi, hz0, hz1, hz2⟩ := info_parts Tryd.infoI64
  obtain ⟨b, c, rfl, hc⟩ := hrd
  have HC := Lib.hid hc
  clear hc
  go_enter Tryd.func90, Tryd.ntmps90
  go_wp2_with fail
  go_loopg [3, 8] n (fun q s3 s8 wx => ∃ i : Nat, i + q = n ∧ s8 = .int .i64 (i : Int) ∧ IntsAt wx w.heap.size s3 (mems i f) ∧ Below w.heap.size w wx)
  case atStart => exact ⟨0, by omega, rfl, ints_nil _ _, Below.refl _ _⟩
  case round =>
    obtain ⟨i, hin, rfl, hown, hb⟩ := hrel
    obtain ⟨a3, c3, rfl⟩ := hown.slice
    rcases gk with _ | q
    · obtain rfl : i = n := by omega
      have HI := Lib.hid hown
      clear hown
      obtain ⟨m, hm⟩ : ∃ m, (mems i f).length = m := ⟨_, rfl⟩
      rw [hm] at HI ⊢
      clear hm
      go_wp2_with fail
      go_ret
      exact ⟨_, rfl, HI.out, hb⟩
    · have hcell := (hb.cell (p := ⟨b, i, none⟩) (World.block_lt_of_cell? _ _ (HC.out i (by omega)))).trans (HC.out i (by omega))
      have hml := mems_len i f
      have hsn := mems_succ i f
      have j1 : (i : Int) < (n : Int) := by omega
      cases hfi : f i with
      | true =>
        rw [hfi] at hcell
        have HS := Lib.hid (show mems (i + 1) f = mems i f ++ [(i : Int)] by rw [hsn, hfi]; rfl)
        have hlt := hown.lt
        have hown0 := hown
        unfold IntsAt at hown0
        obtain ⟨m, hm⟩ : ∃ m, (mems i f).length = m := ⟨_, rfl⟩
        rw [hm] at hown0 hml hlt ⊢
        have HM := Lib.hid hm
        clear hfi hsn hown hm
        go_wp2_with (first | (at_builtin; refine wpList_append_own_at _ rfl _ _ 62 rfl w.heap.size 3 i0 (.int .i64 0) 1 8 Tryd.underlying62 hi hz0 hz1 hz2 rfl (by decide) _ _ _ rfl (hown0.alloc _) ⟨wr.heap.size, 0, none⟩ 1 1 [.int .i64 (i : Int)] rfl rfl ?c1 ?c2 ?c3 ?c4 ?c5 ?_))
        case c1 => exact World.news_of_block (cs := #[.int .i64 (i : Int)]) (t := 3) (fr := (0, 0)) (heap_alloc_new wr _)
        case c2 => intro u hu; simp at hu; subst hu; rfl
        case c3 => unfold maxLen; omega
        case c4 => omega
        case c5 => rw [World.size_alloc]; have := hb.size; omega
        intro v' W2 hown2 hgrow _ hv'
        have hb2 : Below w.heap.size w W2 := (hb.alloc hb.size _).grown hgrow (by rw [World.size_alloc]; have := hb.size; omega) (fun k hk => (hlt k hk).1)
        rw [← intz_snoc, ← HS.out] at hown2
        have HI2 := Lib.hid (show IntsAt W2 w.heap.size v' (mems (i + 1) f) by unfold IntsAt; rw [HS.out, List.length_append, HM.out]; rw [HS.out] at hown2; exact hown2)
        obtain ⟨a', c', rfl⟩ := own_slice hown2
        clear hown0 hown2 hgrow hlt hv' hb
        go_wp2_with fail
        go_roundg q
        case measure => omega
        case rel => exact ⟨i + 1, by omega, by go_num, HI2.out, hb2⟩
      | false =>
        rw [hfi] at hcell
        have HI2 := Lib.hid (show IntsAt wr w.heap.size (.slice a3 (mems i f).length c3) (mems (i + 1) f) by rw [hsn, hfi]; simpa using hown)
        obtain ⟨m, hm⟩ : ∃ m, (mems i f).length = m := ⟨_, rfl⟩
        rw [hm] at HI2 ⊢
        clear hfi hsn hown hm
        go_wp2_with fail
        go_roundg q
        case measure => omega
        case rel => exact ⟨i + 1, by omega, by go_num, HI2.out, hb⟩
end Go.Proofs.YtkpmapeapiodcaaDoor

namespace Go.Proofs.YtkpmapeapiodcaaDoor
open Go.RowKit
set_option linter.unusedSimpArgs false
set_option linter.unusedVariables false

def bothF (f : Nat → Bool) (e : E3) : Bool := f e.1.toNat && f e.2.2.toNat
def leftF (f : Nat → Bool) (es : List E3) (s : Nat) : Bool := es.any fun e => bothF f e && decide (e.1 = (s : Int))
def enteredF (f : Nat → Bool) (es : List E3) (s : Nat) : Bool := es.any fun e => bothF f e && decide (e.2.2 = (s : Int))
def passF (f : Nat → Bool) (es : List E3) (s : Nat) : Bool := enteredF f es s && leftF f es s
theorem leftF_snoc (f : Nat → Bool) (es : List E3) (e : E3) (s : Nat) : leftF f (es ++ [e]) s = (leftF f es s || (bothF f e && decide (e.1 = (s : Int)))) := by
  unfold leftF; rw [List.any_append]; simp
theorem enteredF_snoc (f : Nat → Bool) (es : List E3) (e : E3) (s : Nat) : enteredF f (es ++ [e]) s = (enteredF f es s || (bothF f e && decide (e.2.2 = (s : Int)))) := by
  unfold enteredF; rw [List.any_append]; simp
theorem take_snoc {α : Type} {l : List α} {i : Nat} {e : α} (h : l[i]? = some e) : l.take (i + 1) = l.take i ++ [e] := by rw [List.take_add_one, h]; rfl
structure TB (w : World) (n : Nat) (L S : Int) (v : Value) (p q : Nat) (f g : Nat → Bool) (W : World) : Prop where
  rp : BRow W p n f
  rq : BRow W q n g
  ne : p ≠ q
  lp : w.heap.size < p
  lq : w.heap.size < q
  box : BoxG W w.heap.size L S v
  b : Below w.heap.size w W
section
variable {w W W' : World} {n p q : Nat} {L S : Int} {v : Value} {f g : Nat → Bool}
theorem TB.keep (h : TB w n L S v p q f g W) (hb : Below W.heap.size W W') : TB w n L S v p q f g W' :=
  ⟨h.rp.keep hb, h.rq.keep hb, h.ne, h.lp, h.lq, h.box.keep hb, h.b.trans (hb.mono h.b.size)⟩
theorem boxG_other (h : BoxG W p L S v) {a : Addr} (ha : a.block ≠ p) (x : Value) : BoxG (W.setCell a x) p L S v := by
  unfold BoxG
  rw [World.cell?_setCell_far _ _ _ _ (by exact ha), World.cell?_setCell_far _ _ _ _ (by exact ha), World.cell?_setCell_far _ _ _ _ (by exact ha)]
  exact h
theorem TB.setP (h : TB w n L S v p q f g W) (i : Nat) (x : Bool) : TB w n L S v p q (fun j => if j = i then x else f j) g (W.setCell ⟨p, i, none⟩ (.bool x)) :=
  ⟨h.rp.set i x, h.rq.other (by exact Ne.symm h.ne) _, h.ne, h.lp, h.lq, boxG_other h.box (by have := h.lp; show p ≠ _; omega) _, h.b.setCell (by have := h.lp; show _ ≤ p; omega) _⟩
theorem TB.setQ (h : TB w n L S v p q f g W) (i : Nat) (x : Bool) : TB w n L S v p q f (fun j => if j = i then x else g j) (W.setCell ⟨q, i, none⟩ (.bool x)) :=
  ⟨h.rp.other (by exact h.ne) _, h.rq.set i x, h.ne, h.lp, h.lq, boxG_other h.box (by have := h.lq; show q ≠ _; omega) _, h.b.setCell (by have := h.lq; show _ ≤ q; omega) _⟩
theorem TB.far (h : TB w n L S v p q f g W) {a : Addr} (h1 : p ≠ a.block) (h2 : q ≠ a.block) (h3 : w.heap.size < a.block) (x : Value) : TB w n L S v p q f g (W.setCell a x) :=
  ⟨h.rp.other h1 _, h.rq.other h2 _, h.ne, h.lp, h.lq, boxG_other h.box (by omega) _, h.b.setCell (by omega) _⟩
theorem TB.congr {f' g' : Nat → Bool} (h : TB w n L S v p q f g W) (e1 : ∀ i, i < n → f i = f' i) (e2 : ∀ i, i < n → g i = g' i) : TB w n L S v p q f' g' W := { h with rp := h.rp.congr e1, rq := h.rq.congr e2 }
end
set_option maxRecDepth 100000 in
set_option maxHeartbeats 6400000 in
theorem passed_any (L : Int) (n : Nat) (es : List E3) (v vb : Value) (f : Nat → Bool) (w : World) (hrd : EdgesRd w v es) (hbr : BRd w vb n f) (hn : n ≤ 64) (hok : ∀ e ∈ es, okE L (n : Int) e = true) (hlen : es.length ≤ 1024) :
    Calls Tryd.prog 88 #[grV L (n : Int) v, vb] w fun e w' => ∃ r, e = .returned (.slice (some ⟨r, 0, none⟩) n n) ∧ BRow w' r n (passF f es) ∧ w.heap.size ≤ r ∧ Below w.heap.size w w' := by
  have hmx : Tryd.prog.follows .mixedOrders = true := by kernel_rfl
  have HMK := Lib.hid (fun W => make_bools n (by omega) W)
  have HRD := Lib.hid hrd
  have HBR := Lib.hid hbr
  have HOK := Lib.hid hok
  obtain ⟨a, c, rfl⟩ := hrd.form
  obtain ⟨bb, cb, rfl, -⟩ := hbr
  have hg := BoxG.new w L (n : Int) (.slice a es.length c) 41
  have hb0 := below1 w (.cells #[.int .i64 L, .int .i64 (n : Int), .slice a es.length c] 41)
  have hsz := World.size_alloc w (.cells #[.int .i64 L, .int .i64 (n : Int), .slice a es.length c] 41)
  clear hrd hok
  go_enter Tryd.func88, Tryd.ntmps88
  go_upto_region 1 with fail
  generalize w.alloc (.cells #[.int .i64 L, .int .i64 (n : Int), .slice a es.length c] 41) = W0 at *
  go_cut [5, 6] (fun s5 s6 wx => ∃ p q : Nat, s5 = .slice (some ⟨p, 0, none⟩) n n ∧ s6 = .slice (some ⟨q, 0, none⟩) n n ∧ TB w n L (n : Int) (.slice a es.length c) p q (fun _ => false) (fun _ => false) wx)
  case first =>
    obtain ⟨g1, g2, g3⟩ := id hg
    have hmk := HMK.out
    have gA : ∀ o, (W0.alloc o).cell? ⟨w.heap.size, 1, none⟩ = some (.int .i64 (n : Int)) := fun o => cell_keep g2 (below1 W0 o)
    have HSZ := Lib.hid hsz
    clear hsz
    have hW0 : w.heap.size + 1 = W0.heap.size := HSZ.out.symm
    have hW := Lib.hid hW0
    clear hW0
    have M1 := BRow.made W0 n
    have M2 := BRow.made (W0.alloc (.cells (madeCells #[.bool false] n) 4)) n
    rw [World.size_alloc] at M2
    have M1' := Lib.hid (M1.keep (below1 _ (.cells (madeCells #[.bool false] n) 4)))
    have M2' := Lib.hid M2
    have hG := Lib.hid ((hg.keep (below1 W0 (.cells (madeCells #[.bool false] n) 4))).keep (below1 _ (.cells (madeCells #[.bool false] n) 4)))
    have hB := Lib.hid ((hb0.alloc hb0.size (.cells (madeCells #[.bool false] n) 4)).alloc (by rw [World.size_alloc]; have := hb0.size; omega) (.cells (madeCells #[.bool false] n) 4))
    clear M1 M2
    go_region
    all_goals go_wp2_with fail
    all_goals go_meet
    all_goals first
      | exact ⟨_, _, rfl, rfl, ⟨M1'.out, M2'.out, by have := hW.out; omega, by have := hW.out; omega, by have := hW.out; omega, hG.out, hB.out.drew⟩⟩
      | exact ⟨_, _, rfl, rfl, ⟨M2'.out, M1'.out, by have := hW.out; omega, by have := hW.out; omega, by have := hW.out; omega, hG.out, hB.out.drew⟩⟩
  case rest =>
    obtain ⟨p, q, rfl, rfl, T0⟩ := hcut
    clear hg hb0 hsz
    obtain ⟨g1, g2, g3⟩ := id T0.box
    go_wp2_with fail
    have T0' := Lib.hid T0
    clear T0
    go_loopg [20] es.length (fun k s20 wx => ∃ i : Nat, i + k = es.length ∧ s20 = .int .i64 (i : Int) ∧ TB w n L (n : Int) (.slice a es.length c) p q (enteredF f (es.take i)) (leftF f (es.take i)) wx)
    case atStart => exact ⟨0, by omega, rfl, T0'.out.congr (fun _ _ => by rw [List.take_zero]; rfl) (fun _ _ => by rw [List.take_zero]; rfl)⟩
    case round =>
      clear T0' g1 g2 g3
      obtain ⟨i, hi, rfl, T⟩ := hrel
      rcases gk with _ | k
      · obtain rfl : i = es.length := by omega
        rw [List.take_length] at T
        obtain ⟨g1, g2, g3⟩ := id T.box
        have hmk := HMK.out
        have R2 := Lib.hid (BRow.made wr n)
        have T2 := Lib.hid (T.keep (below1 wr (.cells (madeCells #[.bool false] n) 4)))
        have hsz := Lib.hid (T.b.size)
        have hlq := Lib.hid (And.intro T.rp.lt T.rq.lt)
        obtain ⟨W2, hW2⟩ : ∃ W2, wr.alloc (.cells (madeCells #[.bool false] n) 4) = W2 := ⟨_, rfl⟩
        obtain ⟨R, hR⟩ : ∃ R, wr.heap.size = R := ⟨_, rfl⟩
        rw [hW2] at R2 T2
        rw [hR] at R2 hsz hlq
        have HW2 := Lib.hid hW2
        have HR := Lib.hid hR
        clear T hW2 hR
        go_wp2_with fail
        rw [HW2.out, HR.out]
        have hRp : p ≠ R := by have := hlq.out; omega
        have hRq : q ≠ R := by have := hlq.out; omega
        have hwR : w.heap.size < R := by have := hlq.out; have := T2.out.lp; omega
        go_loopg [50] n (fun k s50 wx => ∃ i : Nat, i + k = n ∧ s50 = .int .i64 (i : Int) ∧ TB w n L (n : Int) (.slice a es.length c) p q (enteredF f es) (leftF f es) wx ∧ BRow wx R n (fun j => if j < i then passF f es j else false))
        case atStart => exact ⟨0, by omega, rfl, T2.out, R2.out.congr (fun j _ => by rw [if_neg (by omega)])⟩
        case round =>
          clear T2 R2 HW2 HR g1 g2 g3
          obtain ⟨i, hi, rfl, T, Rw⟩ := hrel
          rcases gk with _ | k
          · obtain rfl : i = n := by omega
            have HRR := Lib.hid (Rw.congr (g := passF f es) (fun j hj => by rw [if_pos hj]))
            have hb := T.b
            clear T Rw
            go_wp2_with fail
            go_ret
            exact ⟨R, rfl, HRR.out, Nat.le_of_lt hwR, hb⟩
          · have cp := T.rp.cell (i := i) (by omega)
            have cq := T.rq.cell (i := i) (by omega)
            have cr := Rw.cell (i := i) (by omega)
            have fr := Rw.frozen i
            dsimp only at cr cp cq
            rw [if_neg (Nat.lt_irrefl i)] at cr
            have j1 : (i : Int) < (n : Int) := by omega
            have HP : passF f es i = (enteredF f es i && leftF f es i) := rfl
            have hset : ∀ x, x = passF f es i → BRow (wr.setCell ⟨R, i, none⟩ (.bool x)) R n (fun j => if j < i + 1 then passF f es j else false) := fun x hx => (Rw.set i x).congr (fun j _ => by
              by_cases e : j = i
              · subst e; rw [if_pos rfl, if_pos (by omega), hx]
              · rw [if_neg e]
                by_cases e2 : j < i
                · rw [if_pos e2, if_pos (by omega)]
                · rw [if_neg e2, if_neg (by omega)])
            have hT : ∀ x, TB w n L (n : Int) (.slice a es.length c) p q (enteredF f es) (leftF f es) (wr.setCell ⟨R, i, none⟩ (.bool x)) := fun x => T.far (a := ⟨R, i, none⟩) hRp hRq hwR _
            have HS := Lib.hid hset
            have HT := Lib.hid hT
            have HPP := Lib.hid HP
            obtain ⟨u1, hu1⟩ : ∃ u, enteredF f es i = u := ⟨_, rfl⟩
            obtain ⟨u2, hu2⟩ : ∃ u, leftF f es i = u := ⟨_, rfl⟩
            rw [hu1] at cp HPP
            rw [hu2] at cq HPP
            clear hset hT HP T Rw hu1 hu2
            cases u1 with
            | false =>
              go_wp2_with fail
              go_roundg k
              case measure => omega
              case rel => exact ⟨i + 1, by omega, by go_num, HT.out _, HS.out _ (by rw [HPP.out]; rfl)⟩
            | true =>
              cases u2 with
              | false =>
                go_wp2_with fail
                go_roundg k
                case measure => omega
                case rel => exact ⟨i + 1, by omega, by go_num, HT.out _, HS.out _ (by rw [HPP.out]; rfl)⟩
              | true =>
                go_wp2_with fail
                go_roundg k
                case measure => omega
                case rel => exact ⟨i + 1, by omega, by go_num, HT.out _, HS.out _ (by rw [HPP.out]; rfl)⟩
      · obtain ⟨e, he⟩ : ∃ e, es[i]? = some e := ⟨_, List.getElem?_eq_getElem (by omega)⟩
        have hek := HOK.out e (List.mem_of_getElem? he)
        obtain ⟨b, off, c', hv, k1, k2, k3⟩ := (HRD.out.keep T.b).at he
        injection hv with e1 e2 e3
        subst e1
        subst e3
        have HT := take_snoc he
        obtain ⟨x, y, z⟩ := e
        rw [okE_iff] at hek
        dsimp only at hek k1 k2 k3
        obtain ⟨hx0, hx1, -, -, hz0, hz1⟩ := hek
        obtain ⟨x, rfl⟩ : ∃ m : Nat, x = (m : Int) := ⟨x.toNat, by omega⟩
        obtain ⟨z, rfl⟩ : ∃ m : Nat, z = (m : Int) := ⟨z.toNat, by omega⟩
        obtain ⟨bb', cb', hv2, hcl⟩ := HBR.out.keep T.b
        injection hv2 with e1 e4 e5
        injection e1 with e1
        injection e1 with e1
        subst e1
        subst e5
        have cx := hcl x (by omega)
        have cz := hcl z (by omega)
        have hbo : bothF f ((x : Int), y, (z : Int)) = (f x && f z) := by unfold bothF; simp
        have T1 := T.keep (below1 wr (.cells #[.int .i64 (x : Int), .int .i64 y, .int .i64 (z : Int)] 45))
        have X1 := Box3.new wr (x : Int) y (z : Int) 45
        have cx1 := cell_keep cx (below1 wr (.cells #[.int .i64 (x : Int), .int .i64 y, .int .i64 (z : Int)] 45))
        have cz1 := cell_keep cz (below1 wr (.cells #[.int .i64 (x : Int), .int .i64 y, .int .i64 (z : Int)] 45))
        have j1 : (i : Int) < (es.length : Int) := by omega
        have j2 : (x : Int) < (n : Int) := by omega
        have j3 : (z : Int) < (n : Int) := by omega
        cases hfx : f x with
        | false =>
          have T2 := Lib.hid (show TB w n L (n : Int) (.slice (some ⟨b, off, none⟩) es.length c) p q (enteredF f (es.take (i + 1))) (leftF f (es.take (i + 1))) _ from
            T1.congr (fun s _ => by rw [HT, enteredF_snoc, hbo, hfx]; simp) (fun s _ => by rw [HT, leftF_snoc, hbo, hfx]; simp))
          rw [hfx] at cx cx1
          clear hcl hfx hbo T T1 HT e2 he hx0 hx1 hz0 hz1
          go_wp2_with fail
          go_roundg k
          case measure => omega
          case rel => exact ⟨i + 1, by omega, by go_num, T2.out⟩
        | true =>
          rw [hfx] at cx cx1
          cases hfz : f z with
          | false =>
            have T2 := Lib.hid (show TB w n L (n : Int) (.slice (some ⟨b, off, none⟩) es.length c) p q (enteredF f (es.take (i + 1))) (leftF f (es.take (i + 1))) _ from
              T1.congr (fun s _ => by rw [HT, enteredF_snoc, hbo, hfz]; simp) (fun s _ => by rw [HT, leftF_snoc, hbo, hfz]; simp))
            rw [hfz] at cz cz1
            clear hcl hfx hfz hbo T T1 HT e2 he hx0 hx1 hz0 hz1
            go_wp2_with fail
            go_roundg k
            case measure => omega
            case rel => exact ⟨i + 1, by omega, by go_num, T2.out⟩
          | true =>
            rw [hfz] at cz cz1
            have T2 := Lib.hid (((T1.setQ x true).setP z true).congr (f' := enteredF f (es.take (i + 1))) (g' := leftF f (es.take (i + 1)))
              (fun s _ => by
                rw [HT, enteredF_snoc, hbo, hfx, hfz]
                by_cases e : s = z
                · subst e; simp
                · rw [if_neg e]; simp; intro h; exact absurd h (by omega))
              (fun s _ => by
                rw [HT, leftF_snoc, hbo, hfx, hfz]
                by_cases e : s = x
                · subst e; simp
                · rw [if_neg e]; simp; intro h; exact absurd h (by omega)))
            have cp := T1.rp.cell (i := z) (by omega)
            have fp := T1.rp.frozen z
            have cq := T1.rq.cell (i := x) (by omega)
            have fq := T1.rq.frozen x
            have hpq := Lib.hid T1.ne
            have hqw := Lib.hid T.rq.lt
            clear hcl hfx hfz hbo T HT e2 he hx0 hx1 hz0 hz1
            go_upto_region 6 with fail
            obtain ⟨W1, hW1⟩ : ∃ W1, wr.alloc (.cells #[.int .i64 (x : Int), .int .i64 y, .int .i64 (z : Int)] 45) = W1 := ⟨_, rfl⟩
            obtain ⟨P0, hP0⟩ : ∃ P0, wr.heap.size = P0 := ⟨_, rfl⟩
            rw [hP0] at X1 hqw
            rw [hW1] at T1 X1 cx1 cz1 T2 cp fp cq fq ⊢
            rw [hP0]
            obtain ⟨x1, x2, x3, -, -, -⟩ := id X1
            have c5 := T1.box
            clear hW1 hP0 k1 k2 k3 cx cz X1 T1
            generalize enteredF f (es.take i) z = u1 at cp
            generalize leftF f (es.take i) x = u2 at cq
            have cpq : ∀ v, (W1.setCell ⟨q, x, none⟩ v).cell? ⟨p, z, none⟩ = some (.bool u1) := fun v => by
              rw [World.cell?_setCell_far _ _ _ _ (by exact Ne.symm hpq.out)]; exact cp
            have x3' : ∀ v, (W1.setCell ⟨q, x, none⟩ v).cell? ⟨P0, 2, none⟩ = some (.int .i64 (z : Int)) := fun v => by
              rw [World.cell?_setCell_far _ _ _ _ (by have := hqw.out; show q ≠ P0; omega)]; exact x3
            go_region
            all_goals go_wp2_with fail
            all_goals go_roundg k
            all_goals (first | (case measure => omega) | (case rel => exact ⟨i + 1, by omega, by go_num, T2.out.keep (Below.refl _ _).drew⟩))
end Go.Proofs.YtkpmapeapiodcaaDoor
