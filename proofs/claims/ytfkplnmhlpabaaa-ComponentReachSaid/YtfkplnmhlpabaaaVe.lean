/- What graph.isState, isLabel and Check return. Condition: the list's length is one of a slice. -/
import Derived.Test.YtfkplnmhlpabaaaVd
namespace Go.Proofs.Ytfkplnmhlpabaaa
open Go.RowKit
set_option linter.unusedSimpArgs false
set_option linter.unusedVariables false

/-- 0 ≤ s < S. -/
def inB (S s : Int) : Bool := decide (0 ≤ s ∧ s < S)
theorem inB_true {S s : Int} : inB S s = true ↔ 0 ≤ s ∧ s < S := by unfold inB; exact decide_eq_true_iff
theorem inB_false {S s : Int} : inB S s = false ↔ ¬ (0 ≤ s ∧ s < S) := by unfold inB; exact decide_eq_false_iff_not
theorem okE_parts (L S : Int) (e : E3) : okE L S e = (inB S e.1 && inB L e.2.1 && inB S e.2.2) := by
  rw [Bool.eq_iff_iff, Bool.and_eq_true, Bool.and_eq_true, inB_true, inB_true, inB_true, okE_iff]
  omega
abbrev grV (L S : Int) (v : Value) : Value := .agg #[.int .i64 L, .int .i64 S, v]
/-- A graph in a variable. -/
def BoxG (W : World) (p : Nat) (L S : Int) (v : Value) : Prop := W.cell? ⟨p, 0, none⟩ = some (.int .i64 L) ∧ W.cell? ⟨p, 1, none⟩ = some (.int .i64 S) ∧ W.cell? ⟨p, 2, none⟩ = some v
theorem BoxG.keep {W W' : World} {p : Nat} {L S : Int} {v : Value} (h : BoxG W p L S v) (hb : Below W.heap.size W W') : BoxG W' p L S v := ⟨cell_keep h.1 hb, cell_keep h.2.1 hb, cell_keep h.2.2 hb⟩
theorem BoxG.new (W : World) (L S : Int) (v : Value) (t : TypeId) : BoxG (W.alloc (.cells #[.int .i64 L, .int .i64 S, v] t)) W.heap.size L S v := by
  unfold BoxG
  refine ⟨?_, ?_, ?_⟩ <;> simp [go_sem]
set_option maxRecDepth 100000 in
theorem isState_any (L S : Int) (v : Value) (s : Int) (w : World) : Calls Try.prog 75 #[grV L S v, .int .i64 s] w fun e w' => e = .returned (.bool (inB S s)) ∧ Below w.heap.size w w' := by
  by_cases h0 : 0 ≤ s
  · have d1 : decide (0 ≤ s) = true := decide_eq_true h0
    by_cases h1 : s < S
    · have d2 : decide (s < S) = true := decide_eq_true h1
      have HB := Lib.hid (inB_true.2 ⟨h0, h1⟩)
      go_enter Try.func75, Try.ntmps75
      go_wp2
      go_ret
      exact ⟨by rw [HB.out]; rfl, below1 w _⟩
    · have d2 : decide (s < S) = false := decide_eq_false h1
      have HB := Lib.hid (inB_false.2 (fun h => h1 h.2))
      go_enter Try.func75, Try.ntmps75
      go_wp2
      go_ret
      exact ⟨by rw [HB.out]; rfl, below1 w _⟩
  · have d1 : decide (0 ≤ s) = false := decide_eq_false h0
    have HB := Lib.hid ((inB_false (S := S)).2 (fun h => h0 h.1))
    go_enter Try.func75, Try.ntmps75
    go_wp2
    go_ret
    exact ⟨by rw [HB.out]; rfl, below1 w _⟩
set_option maxRecDepth 100000 in
theorem isLabel_any (L S : Int) (v : Value) (s : Int) (w : World) : Calls Try.prog 76 #[grV L S v, .int .i64 s] w fun e w' => e = .returned (.bool (inB L s)) ∧ Below w.heap.size w w' := by
  by_cases h0 : 0 ≤ s
  · have d1 : decide (0 ≤ s) = true := decide_eq_true h0
    by_cases h1 : s < L
    · have d2 : decide (s < L) = true := decide_eq_true h1
      have HB := Lib.hid (inB_true.2 ⟨h0, h1⟩)
      go_enter Try.func76, Try.ntmps76
      go_wp2
      go_ret
      exact ⟨by rw [HB.out]; rfl, below1 w _⟩
    · have d2 : decide (s < L) = false := decide_eq_false h1
      have HB := Lib.hid (inB_false.2 (fun h => h1 h.2))
      go_enter Try.func76, Try.ntmps76
      go_wp2
      go_ret
      exact ⟨by rw [HB.out]; rfl, below1 w _⟩
  · have d1 : decide (0 ≤ s) = false := decide_eq_false h0
    have HB := Lib.hid ((inB_false (S := L)).2 (fun h => h0 h.1))
    go_enter Try.func76, Try.ntmps76
    go_wp2
    go_ret
    exact ⟨by rw [HB.out]; rfl, below1 w _⟩
/-- The cells of an edge in a row. -/
theorem EdgesRd.at {W : World} {v : Value} {es : List E3} (h : EdgesRd W v es) {i : Nat} {e : E3} (he : es[i]? = some e) : ∃ b off c, v = .slice (some ⟨b, off, none⟩) es.length c ∧
    W.cell? ⟨b, off + i * 3, none⟩ = some (.int .i64 e.1) ∧ W.cell? ⟨b, off + i * 3 + 1, none⟩ = some (.int .i64 e.2.1) ∧ W.cell? ⟨b, off + i * 3 + 2, none⟩ = some (.int .i64 e.2.2) := by
  obtain ⟨a, c, rfl, h1⟩ := h
  obtain ⟨b, off, rfl, k⟩ := h1 i e he
  exact ⟨b, off, c, rfl, k⟩
theorem EdgesRd.form {W : World} {v : Value} {es : List E3} (h : EdgesRd W v es) : ∃ a c, v = .slice a es.length c := by
  obtain ⟨a, c, rfl, h1⟩ := h
  exact ⟨a, c, rfl⟩
/-- What a round of Check keeps: the graph, the edge, and what lay before. -/
def CK (w : World) (L S : Int) (v : Value) (p : Nat) (e : E3) (W : World) : Prop := BoxG W w.heap.size L S v ∧ Box3 W p e ∧ Below w.heap.size w W
theorem CK.keep {w W W' : World} {L S : Int} {v : Value} {p : Nat} {e : E3} (h : CK w L S v p e W) (hb : Below W.heap.size W W') : CK w L S v p e W' := ⟨h.1.keep hb, h.2.1.keep hb, h.2.2.trans (hb.mono h.2.2.size)⟩
set_option maxRecDepth 100000 in
set_option maxHeartbeats 6400000 in
/-- Behind the tests of the sizes. -/
theorem check_loop (L S : Int) (es : List E3) (v : Value) (w : World) (hrd : EdgesRd w v es) (l1 : 1 ≤ L) (l2 : L ≤ 256) (s1 : 0 ≤ S) (s2 : S ≤ 64) (hn : es.length ≤ 1024) :
    Calls Try.prog 55 #[grV L S v] w fun e w' => e = .returned (.int .i64 (chkF L S none es)) ∧ Below w.heap.size w w' := by
  have HRD := Lib.hid hrd
  obtain ⟨a, c, rfl⟩ := hrd.form
  have K0 := Lib.hid (BoxG.new w L S (.slice a es.length c) 24)
  clear hrd
  have d1 : decide (L < 1) = false := decide_eq_false (by omega)
  have d2 : decide (256 < L) = false := decide_eq_false (by omega)
  have d3 : decide (S < 0) = false := decide_eq_false (by omega)
  have d4 : decide (64 < S) = false := decide_eq_false (by omega)
  have d5 : decide ((1024 : Int) < (es.length : Int)) = false := decide_eq_false (by omega)
  go_enter Try.func55, Try.ntmps55
  go_wp2_with fail
  go_loopg [28] es.length (fun q s28 wx => ∃ i : Nat, i + q = es.length ∧ s28 = .int .i64 (i : Int) ∧ Hid (chkF L S (prevE es i) (es.drop i) = chkF L S none es) ∧ BoxG wx w.heap.size L S (.slice a es.length c) ∧ Below w.heap.size w wx)
  case atStart => exact ⟨0, by omega, rfl, Lib.hid rfl, K0.out, below1 w _⟩
  case round =>
    clear K0
    obtain ⟨i, hi, rfl, HI, hG, hb⟩ := hrel
    rcases gk with _ | q
    · obtain rfl : i = es.length := by omega
      have HE := Lib.hid (show chkF L S none es = 0 by rw [← HI.out, List.drop_length]; rfl)
      clear HI
      go_wp2_with fail
      go_ret
      exact ⟨by rw [HE.out]; rfl, hb⟩
    · obtain ⟨e, he⟩ : ∃ e, es[i]? = some e := ⟨_, List.getElem?_eq_getElem (by omega)⟩
      have HEE := Lib.hid he
      have hrd := HRD.out.keep hb
      obtain ⟨b, off, c', hv, k1, k2, k3⟩ := hrd.at he
      injection hv with e1 e2 e3
      subst e1
      subst e3
      have HDR := drop_at he
      obtain ⟨x, y, z⟩ := e
      dsimp only at k1 k2 k3
      have j1 : (i : Int) < (es.length : Int) := by omega
      have HS := Lib.hid (fun s W => isState_any L S (.slice (some ⟨b, off, none⟩) es.length c) s W)
      have HL := Lib.hid (fun s W => isLabel_any L S (.slice (some ⟨b, off, none⟩) es.length c) s W)
      have G0 := Lib.hid (show CK w L S (.slice (some ⟨b, off, none⟩) es.length c) wr.heap.size (x, y, z) (wr.alloc (.cells #[.int .i64 x, .int .i64 y, .int .i64 z] 46)) from ⟨hG.keep (below1 wr _), Box3.new _ _ _ _ _, hb.alloc hb.size _⟩)
      obtain ⟨g1, g2, g3⟩ := id hG
      go_upto_region 10 with fail
      have hok := okE_parts L S (x, y, z)
      dsimp only at hok
      clear k1 k2 k3 hG hb g1 g2 g3 hrd e2
      obtain ⟨W0, hW0⟩ : ∃ W0, wr.alloc (.cells #[.int .i64 x, .int .i64 y, .int .i64 z] 46) = W0 := ⟨_, rfl⟩
      rw [hW0] at G0 ⊢
      obtain ⟨P0, hP0⟩ : ∃ P0, wr.heap.size = P0 := ⟨_, rfl⟩
      rw [hP0] at G0 ⊢
      clear hW0 hP0
      obtain ⟨⟨g1, g2, g3⟩, ⟨x1, x2, x3, -, -, -⟩, hb⟩ := id G0.out
      dsimp only at x1 x2 x3
      cases h1 : inB S x with
      | false =>
        have HE := Lib.hid (show chkF L S none es = 2 by rw [← HI.out, HDR]; exact chkF_bad (by rw [hok, h1]; rfl))
        have H1 := Lib.hid h1
        clear HI HDR he hok h1
        go_wp2_with (go_at_call 75; (with_reducible refine (HS.out _ _).mono ?_); rintro e0 W1 ⟨rfl, b1⟩; (rw [H1.out]); (have G1 := G0.out.keep b1))
        go_ret
        exact ⟨by rw [HE.out]; rfl, G1.2.2⟩
      | true =>
        have H1 := Lib.hid h1
        cases h2 : inB L y with
        | false =>
          have HE := Lib.hid (show chkF L S none es = 2 by rw [← HI.out, HDR]; exact chkF_bad (by rw [hok, h1, h2]; rfl))
          have H2 := Lib.hid h2
          clear HI HDR he hok h1 h2
          go_wp2_with (first
            | (go_at_call 75; (with_reducible refine (HS.out _ _).mono ?_); rintro e0 W1 ⟨rfl, b1⟩; (rw [H1.out]); (have G1 := G0.out.keep b1); (obtain ⟨⟨g11, g12, g13⟩, ⟨x11, x12, x13, -, -, -⟩, -⟩ := id G1); (dsimp only at x11 x12 x13))
            | (go_at_call 76; (with_reducible refine (HL.out _ _).mono ?_); rintro e0 W2 ⟨rfl, b2⟩; (rw [H2.out]); (have G2 := G1.keep b2)))
          go_ret
          exact ⟨by rw [HE.out]; rfl, G2.2.2⟩
        | true =>
          have H2 := Lib.hid h2
          cases h3 : inB S z with
          | false =>
            have HE := Lib.hid (show chkF L S none es = 2 by rw [← HI.out, HDR]; exact chkF_bad (by rw [hok, h1, h2, h3]; rfl))
            have H3 := Lib.hid h3
            clear HI HDR he hok h1 h2 h3
            go_wp2_with (first
              | (go_at_call 75; (with_reducible refine (HS.out x _).mono ?_); rintro e0 W1 ⟨rfl, b1⟩; (rw [H1.out]); (have G1 := G0.out.keep b1); (clear b1); (obtain ⟨⟨g11, g12, g13⟩, ⟨x11, x12, x13, -, -, -⟩, -⟩ := id G1); (dsimp only at x11 x12 x13))
              | (go_at_call 76; (with_reducible refine (HL.out _ _).mono ?_); rintro e0 W2 ⟨rfl, b2⟩; (rw [H2.out]); (have G2 := G1.keep b2); (obtain ⟨⟨g21, g22, g23⟩, ⟨x21, x22, x23, -, -, -⟩, -⟩ := id G2); (dsimp only at x21 x22 x23))
              | (go_at_call 75; (with_reducible refine (HS.out z _).mono ?_); rintro e0 W3 ⟨rfl, b3⟩; (rw [H3.out]); (have G3 := G2.keep b3)))
            go_ret
            exact ⟨by rw [HE.out]; rfl, G3.2.2⟩
          | true =>
            have H3 := Lib.hid h3
            have hk : okE L S (x, y, z) = true := by rw [hok, h1, h2, h3]; rfl
            go_upto_region 12 with (first
              | (go_at_call 75; (with_reducible refine (HS.out x _).mono ?_); rintro e0 W1 ⟨rfl, b1⟩; (rw [H1.out]); (have G1 := G0.out.keep b1); (clear b1); (obtain ⟨⟨g11, g12, g13⟩, ⟨x11, x12, x13, -, -, -⟩, -⟩ := id G1); (dsimp only at x11 x12 x13))
              | (go_at_call 76; (with_reducible refine (HL.out _ _).mono ?_); rintro e0 W2 ⟨rfl, b2⟩; (rw [H2.out]); (have G2 := G1.keep b2); (obtain ⟨⟨g21, g22, g23⟩, ⟨x21, x22, x23, -, -, -⟩, -⟩ := id G2); (dsimp only at x21 x22 x23))
              | (go_at_call 75; (with_reducible refine (HS.out z _).mono ?_); rintro e0 W3 ⟨rfl, b3⟩; (rw [H3.out]); (have G3 := G2.keep b3)))
            clear G0 G1 G2 g1 g2 g3 x1 x2 x3 g11 g12 g13 x11 x12 x13 g21 g22 g23 x21 x22 x23 b2 b3 hb
            obtain ⟨⟨g1, g2, g3⟩, ⟨x1, x2, x3, -, -, -⟩, hb⟩ := id G3
            dsimp only at x1 x2 x3
            have hmx : Try.prog.follows .mixedOrders = true := by kernel_rfl
            by_cases h0 : i = 0
            · have HI2 := Lib.hid (show chkF L S (prevE es (i + 1)) (es.drop (i + 1)) = chkF L S none es by
                rw [← HI.out, HDR, prevE_succ he, chkF_step hk (fun q hq => by rw [h0, prevE_zero] at hq; cases hq)])
              have d6 : decide ((0 : Int) < (i : Int)) = false := decide_eq_false (by omega)
              have d7 : decide (0 < i) = false := decide_eq_false (by omega)
              clear HI HDR he hok h1 h2 h3 hk h0
              go_quiet (fail)
              go_wp2_with fail
              go_roundg q
              case measure => omega
              case rel => exact ⟨i + 1, by omega, by go_num, HI2, ⟨g1, g2, g3⟩, below_drewM hb _⟩
            · obtain ⟨j, hj⟩ : ∃ j, i = j + 1 := ⟨i - 1, by omega⟩
              obtain ⟨e', he'⟩ : ∃ e', es[j]? = some e' := ⟨_, List.getElem?_eq_getElem (by omega)⟩
              have hpv : prevE es i = some e' := by rw [hj]; exact prevE_succ he'
              obtain ⟨b2, off2, c2, hv, k1, k2, k3⟩ := (HRD.out.keep hb).at he'
              injection hv with e1 e2 e3
              injection e1 with e1
              injection e1 with e1 e4
              subst e1
              subst e4
              subst e3
              have hc := cmpE_ge e' (x, y, z)
              obtain ⟨x', y', z'⟩ := e'
              dsimp only at k1 k2 k3
              have hw : IntKind.i64.wrap ((i : Int) - 1) = (j : Int) := by rw [hj]; simp [IntKind.wrap, IntKind.signed, IntKind.bits]; omega
              have d6 : decide ((0 : Int) < (i : Int)) = true := decide_eq_true (by omega)
              have d7 : decide (0 < i) = true := decide_eq_true (by omega)
              have j2 : (j : Int) < (es.length : Int) := by omega
              have HM := Lib.hid (fun W => compareEdges_any (x', y', z') (x, y, z) W)
              cases hlt : ltE (x', y', z') (x, y, z) with
              | false =>
                have HE := Lib.hid (show chkF L S none es = 10 by rw [← HI.out, HDR, hpv]; exact chkF_order hk hlt)
                rw [hlt] at hc
                obtain ⟨m, hm⟩ : ∃ m, cmpE (x', y', z') (x, y, z) = m := ⟨_, rfl⟩
                rw [hm] at hc
                simp only [hm] at HM
                have hc2 : decide (0 ≤ m) = true := hc
                clear HI HDR he hok h1 h2 h3 hk h0 hj he' hpv hc hlt hm e2
                go_region_held3 (fun W => W.cell? ⟨w.heap.size, 2, none⟩ = some (.slice (some ⟨b, off, none⟩) es.length c) ∧ W.cell? ⟨P0, 0, none⟩ = some (.int .i64 x) ∧ W.cell? ⟨P0, 1, none⟩ = some (.int .i64 y) ∧ W.cell? ⟨P0, 2, none⟩ = some (.int .i64 z) ∧
                    W.cell? ⟨b, off + j * 3, none⟩ = some (.int .i64 x') ∧ W.cell? ⟨b, off + j * 3 + 1, none⟩ = some (.int .i64 y') ∧ W.cell? ⟨b, off + j * 3 + 2, none⟩ = some (.int .i64 z'))
                  (first | exact ⟨g3, x1, x2, x3, k1, k2, k3⟩ | exact ⟨cell_keep (Wp := W3.drew) (by exact g3) b2, cell_keep (Wp := W3.drew) (by exact x1) b2, cell_keep (Wp := W3.drew) (by exact x2) b2, cell_keep (Wp := W3.drew) (by exact x3) b2, cell_keep (Wp := W3.drew) (by exact k1) b2, cell_keep (Wp := W3.drew) (by exact k2) b2, cell_keep (Wp := W3.drew) (by exact k3) b2⟩)
                  (first | (go_at_call 77; (with_reducible refine (HM.out _).mono ?_); rintro e0 W4 ⟨rfl, b2⟩))
                have hb2 := below_more hb.drew (Nat.le_refl _) b2
                go_wp2_with fail
                go_ret
                exact ⟨by rw [HE.out]; rfl, hb2⟩
              | true =>
                have HI2 := Lib.hid (show chkF L S (prevE es (i + 1)) (es.drop (i + 1)) = chkF L S none es by
                  rw [← HI.out, HDR, prevE_succ he, chkF_step hk (fun q hq => by rw [hpv] at hq; injection hq with hq; subst hq; exact hlt)])
                rw [hlt] at hc
                obtain ⟨m, hm⟩ : ∃ m, cmpE (x', y', z') (x, y, z) = m := ⟨_, rfl⟩
                rw [hm] at hc
                simp only [hm] at HM
                have hc2 : decide (0 ≤ m) = false := hc
                clear HI HDR he hok h1 h2 h3 hk h0 hj he' hpv hc hlt hm e2
                go_region_held3 (fun W => W.cell? ⟨w.heap.size, 2, none⟩ = some (.slice (some ⟨b, off, none⟩) es.length c) ∧ W.cell? ⟨P0, 0, none⟩ = some (.int .i64 x) ∧ W.cell? ⟨P0, 1, none⟩ = some (.int .i64 y) ∧ W.cell? ⟨P0, 2, none⟩ = some (.int .i64 z) ∧
                    W.cell? ⟨b, off + j * 3, none⟩ = some (.int .i64 x') ∧ W.cell? ⟨b, off + j * 3 + 1, none⟩ = some (.int .i64 y') ∧ W.cell? ⟨b, off + j * 3 + 2, none⟩ = some (.int .i64 z'))
                  (first | exact ⟨g3, x1, x2, x3, k1, k2, k3⟩ | exact ⟨cell_keep (Wp := W3.drew) (by exact g3) b2, cell_keep (Wp := W3.drew) (by exact x1) b2, cell_keep (Wp := W3.drew) (by exact x2) b2, cell_keep (Wp := W3.drew) (by exact x3) b2, cell_keep (Wp := W3.drew) (by exact k1) b2, cell_keep (Wp := W3.drew) (by exact k2) b2, cell_keep (Wp := W3.drew) (by exact k3) b2⟩)
                  (first | (go_at_call 77; (with_reducible refine (HM.out _).mono ?_); rintro e0 W4 ⟨rfl, b2⟩))
                have hG2 : BoxG W4 w.heap.size L S (.slice (some ⟨b, off, none⟩) es.length c) := BoxG.keep (W := W3.drew) ⟨g1, g2, g3⟩ b2
                have hb2 := below_more hb.drew (Nat.le_refl _) b2
                go_wp2_with fail
                go_roundg q
                case measure => omega
                case rel => exact ⟨i + 1, by omega, by go_num, HI2, hG2, hb2⟩
set_option maxRecDepth 100000 in
set_option maxHeartbeats 1600000 in
theorem gcheck_any (L S : Int) (es : List E3) (v : Value) (w : World) (hrd : EdgesRd w v es) (hn : es.length ≤ 9223372036854775807) :
    Calls Try.prog 55 #[grV L S v] w fun e w' => e = .returned (.int .i64 (chkG L S es)) ∧ Below w.heap.size w w' := by
  obtain ⟨a, c, rfl⟩ := hrd.form
  by_cases h1 : L < 1
  · have HE := Lib.hid (show chkG L S es = 12 by unfold chkG; rw [if_pos (Or.inl h1)])
    have d1 : decide (L < 1) = true := decide_eq_true h1
    clear hrd
    go_enter Try.func55, Try.ntmps55
    go_wp2_with fail
    go_ret
    exact ⟨by rw [HE.out]; rfl, below1 w _⟩
  by_cases h2 : 256 < L
  · have HE := Lib.hid (show chkG L S es = 12 by unfold chkG; rw [if_pos (Or.inr h2)])
    have d1 : decide (L < 1) = false := decide_eq_false h1
    have d2 : decide (256 < L) = true := decide_eq_true h2
    clear hrd
    go_enter Try.func55, Try.ntmps55
    go_wp2_with fail
    go_ret
    exact ⟨by rw [HE.out]; rfl, below1 w _⟩
  have d1 : decide (L < 1) = false := decide_eq_false h1
  have d2 : decide (256 < L) = false := decide_eq_false h2
  by_cases h3 : S < 0
  · have HE := Lib.hid (show chkG L S es = 2 by unfold chkG; rw [if_neg (by omega), if_pos h3])
    have d3 : decide (S < 0) = true := decide_eq_true h3
    clear hrd
    go_enter Try.func55, Try.ntmps55
    go_wp2_with fail
    go_ret
    exact ⟨by rw [HE.out]; rfl, below1 w _⟩
  have d3 : decide (S < 0) = false := decide_eq_false h3
  by_cases h4 : 64 < S
  · have HE := Lib.hid (show chkG L S es = 4 by unfold chkG; rw [if_neg (by omega), if_neg h3, if_pos (Or.inl h4)])
    have d4 : decide (64 < S) = true := decide_eq_true h4
    clear hrd
    go_enter Try.func55, Try.ntmps55
    go_wp2_with fail
    go_ret
    exact ⟨by rw [HE.out]; rfl, below1 w _⟩
  by_cases h5 : 1024 < es.length
  · have HE := Lib.hid (show chkG L S es = 4 by unfold chkG; rw [if_neg (by omega), if_neg h3, if_pos (Or.inr h5)])
    have d4 : decide (64 < S) = false := decide_eq_false h4
    have d5 : decide ((1024 : Int) < (es.length : Int)) = true := decide_eq_true (by omega)
    clear hrd
    go_enter Try.func55, Try.ntmps55
    go_wp2_with fail
    go_ret
    exact ⟨by rw [HE.out]; rfl, below1 w _⟩
  have HE : chkG L S es = chkF L S none es := by unfold chkG; rw [if_neg (by omega), if_neg h3, if_neg (by omega)]
  rw [HE]
  exact check_loop L S es _ w hrd (by omega) (by omega) (by omega) (by omega) (by omega)
theorem isValid_any (L S : Int) (es : List E3) (v : Value) (w : World) (hrd : EdgesRd w v es) (hn : es.length ≤ 9223372036854775807) :
    Calls Try.prog 67 #[grV L S v] w fun e w' => e = .returned (.bool (chkG L S es == 0)) ∧ Below w.heap.size w w' := by
  have HC := Lib.hid (fun W h => gcheck_any L S es v W h hn)
  have HK := Lib.hid (hrd.keep (below1 w (.cells #[.int .i64 L, .int .i64 S, v] 24)))
  obtain ⟨a, c, rfl⟩ := hrd.form
  clear hrd
  obtain ⟨z, hz⟩ : ∃ z, chkG L S es = z := ⟨_, rfl⟩
  simp only [hz] at HC
  have HZ := Lib.hid hz
  clear hz
  go_enter Try.func67, Try.ntmps67
  go_wp2_with (go_at_call 55; (with_reducible refine (HC.out _ HK.out).mono ?_); rintro e0 W1 ⟨rfl, b1⟩)
  go_ret
  exact ⟨by rw [HZ.out]; rfl, below_more (below1 w _) (Nat.le_refl _) b1⟩
end Go.Proofs.Ytfkplnmhlpabaaa
