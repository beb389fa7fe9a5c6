/- What graph.checkSet, Keep and Essential return. Conditions: the graph is valid; a list's length is one of a slice. -/
import Derived.Test.YtfkplnmhlpabaaaVk
namespace Go.Proofs.Ytfkplnmhlpabaaa
open Go.RowKit
set_option linter.unusedSimpArgs false
set_option linter.unusedVariables false

set_option maxRecDepth 100000 in
set_option maxHeartbeats 6400000 in
theorem checkSet_any (L S : Int) (v vs : Value) (l : List Int) (w : World) (hrd : IntsRd w vs l) (hl : l.length ≤ 9223372036854775807) :
    Calls Try.prog 68 #[grV L S v, vs] w fun e w' => e = .returned (.int .i64 (chkS S none l)) ∧ Below w.heap.size w w' := by
  have HRD := Lib.hid hrd
  have HS := Lib.hid (fun s W => isState_any L S v s W)
  obtain ⟨a, c, rfl⟩ := hrd.form
  have K0 := Lib.hid (BoxG.new w L S v 24)
  clear hrd
  go_enter Try.func68, Try.ntmps68
  go_wp2_with fail
  go_loopg [9] l.length (fun q s9 wx => ∃ i : Nat, i + q = l.length ∧ s9 = .int .i64 (i : Int) ∧ Hid (chkS S (prevI l i) (l.drop i) = chkS S none l) ∧ BoxG wx w.heap.size L S v ∧ Below w.heap.size w wx)
  case atStart => exact ⟨0, by omega, rfl, Lib.hid rfl, K0.out, below1 w _⟩
  case round =>
    clear K0
    obtain ⟨i, hi, rfl, HI, hG, hb⟩ := hrel
    rcases gk with _ | q
    · obtain rfl : i = l.length := by omega
      have HE := Lib.hid (show chkS S none l = 0 by rw [← HI.out, List.drop_length]; rfl)
      clear HI
      go_wp2_with fail
      go_ret
      exact ⟨by rw [HE.out]; rfl, hb⟩
    · obtain ⟨x, hx⟩ : ∃ x, l[i]? = some x := ⟨_, List.getElem?_eq_getElem (by omega)⟩
      have hrd := HRD.out.keep hb
      obtain ⟨b, off, c', hv, k1⟩ := hrd.at hx
      injection hv with e1 e2 e3
      subst e1
      subst e3
      have HDR := drop_at hx
      have j1 : (i : Int) < (l.length : Int) := by omega
      have hw1 : IntKind.i64.wrap ((i : Int) + 1) = (i : Int) + 1 := by rw [IntKind.wrap_i64]; omega
      obtain ⟨g1, g2, g3⟩ := id hG
      by_cases h1 : inB S x = true
      · have H1 := Lib.hid h1
        have hin := inB_true.1 h1
        rcases Nat.eq_zero_or_pos i with h0 | h0
        · have HI2 := Lib.hid (show chkS S (prevI l (i + 1)) (l.drop (i + 1)) = chkS S none l by
            rw [← HI.out, HDR, prevI_succ hx, chkS_step (by omega) (fun q hq => by rw [h0, prevI_zero] at hq; cases hq)])
          have d6 : decide ((0 : Int) < (i : Int)) = false := decide_eq_false (by omega)
          have d7 : decide (0 < i) = false := decide_eq_false (by omega)
          clear HI HDR hx h1 h0 hin e2 hrd
          go_wp2_with (go_at_call 75; (with_reducible refine (HS.out _ _).mono ?_); rintro e0 W1 ⟨rfl, b1⟩; (rw [H1.out]); (have G1 := hG.keep b1); (have B1 := below_more hb (Nat.le_refl _) b1))
          go_roundg q
          case measure => omega
          case rel => exact ⟨i + 1, by omega, by go_num, HI2, G1, B1⟩
        · obtain ⟨j, hj⟩ : ∃ j, i = j + 1 := ⟨i - 1, by omega⟩
          obtain ⟨y, hy⟩ : ∃ y, l[j]? = some y := ⟨_, List.getElem?_eq_getElem (by omega)⟩
          have hpv : prevI l i = some y := by rw [hj]; exact prevI_succ hy
          obtain ⟨b2, off2, c2, hv, k2⟩ := hrd.at hy
          injection hv with e1 e2 e3
          injection e1 with e1
          injection e1 with e1 e4
          subst e1
          subst e4
          subst e3
          have hw : (i : Int) - 1 = (j : Int) := by omega
          have HW := Lib.hid hw
          have d6 : decide ((0 : Int) < (i : Int)) = true := decide_eq_true (by omega)
          have d7 : decide (0 < i) = true := decide_eq_true (by omega)
          have j2 : (j : Int) < (l.length : Int) := by omega
          by_cases hlt : y < x
          · have HI2 := Lib.hid (show chkS S (prevI l (i + 1)) (l.drop (i + 1)) = chkS S none l by
              rw [← HI.out, HDR, prevI_succ hx, chkS_step (by omega) (fun q hq => by rw [hpv] at hq; injection hq with hq; omega)])
            have d8 : decide (x ≤ y) = false := decide_eq_false (by omega)
            clear HI HDR hx h1 h0 hin e2 hrd hj hpv hlt hy
            go_wp2_with (go_at_call 75; (with_reducible refine (HS.out _ _).mono ?_); rintro e0 W1 ⟨rfl, b1⟩; (rw [H1.out]); (have G1 := hG.keep b1); (have B1 := below_more hb (Nat.le_refl _) b1); (have k3 := cell_keep k2 b1))
            go_roundg q
            case measure => omega
            case rel => exact ⟨i + 1, by omega, by go_num, HI2, G1, B1⟩
          · have HE := Lib.hid (show chkS S none l = 10 by rw [← HI.out, HDR, hpv]; exact chkS_order (by omega) (by omega))
            have d8 : decide (x ≤ y) = true := decide_eq_true (by omega)
            clear HI HDR hx h1 h0 hin e2 hrd hj hpv hlt hy
            go_wp2_with (go_at_call 75; (with_reducible refine (HS.out _ _).mono ?_); rintro e0 W1 ⟨rfl, b1⟩; (rw [H1.out]); (have G1 := hG.keep b1); (have B1 := below_more hb (Nat.le_refl _) b1); (have k3 := cell_keep k2 b1))
            go_ret
            exact ⟨by rw [HE.out]; rfl, B1⟩
      · have h2 : inB S x = false := by simpa using h1
        have hin := inB_false.1 h2
        have HE := Lib.hid (show chkS S none l = 25 by rw [← HI.out, HDR]; exact chkS_bad (by omega))
        have H1 := Lib.hid h2
        clear HI HDR hx h1 h2 hin e2 hrd
        go_wp2_with (go_at_call 75; (with_reducible refine (HS.out _ _).mono ?_); rintro e0 W1 ⟨rfl, b1⟩; (rw [H1.out]); (have B1 := below_more hb (Nat.le_refl _) b1))
        go_ret
        exact ⟨by rw [HE.out]; rfl, B1⟩
/-- What Keep returns: labels, states, edges, the error. -/
def keepR (L S : Int) (es : List E3) (st : List Int) : Int × Int × List E3 × Int :=
  if chkG L S es = 0 then (if chkS S none st = 0 then (L, (st.length : Int), partE st es, 0) else (0, 0, [], chkS S none st)) else (0, 0, [], 1)
def GOut (w : World) (r : Int × Int × List E3 × Int) (e : Ending) (w' : World) : Prop := ∃ v, e = .returned (.tuple #[grV r.1 r.2.1 v, .int .i64 r.2.2.2]) ∧ EdgesAt w' w.heap.size v r.2.2.1 ∧ Below w.heap.size w w'
/-- The graph's variable and the result's. -/
def KB (w : World) (L S : Int) (v : Value) (W : World) : Prop := BoxG W w.heap.size L S v ∧ BoxF W (w.heap.size + 1) 0 0 (.slice none 0 0) ∧ Below w.heap.size w W ∧ w.heap.size + 2 ≤ W.heap.size
section
variable {w W W' : World} {L S : Int} {v : Value}
theorem KB.keep (h : KB w L S v W) (hb : Below W.heap.size W W') : KB w L S v W' := ⟨h.1.keep hb, h.2.1.keep hb, h.2.2.1.trans (hb.mono h.2.2.1.size), Nat.le_trans h.2.2.2 hb.size⟩
theorem KB.bel (h : KB w L S v W) : Below w.heap.size w W := h.2.2.1
theorem KB.start (w : World) (L S : Int) (v : Value) (t : TypeId) : KB w L S v ((w.alloc (.cells #[.int .i64 L, .int .i64 S, v] t)).alloc (.cells #[.int .i64 0, .int .i64 0, .slice none 0 0] t)) := by
  have g1 := BoxG.new w L S v t
  have b1 := below1 w (.cells #[.int .i64 L, .int .i64 S, v] t)
  have s1 := World.size_alloc w (.cells #[.int .i64 L, .int .i64 S, v] t)
  generalize w.alloc (.cells #[.int .i64 L, .int .i64 S, v] t) = W1 at *
  have g2 := BoxF.new W1 0 0 (.slice none 0 0) t
  rw [s1] at g2
  exact ⟨g1.keep (below1 _ _), g2, below_more b1 (Nat.le_refl _) (below1 _ _), by rw [World.size_alloc]; omega⟩
end
theorem edges_over {W : World} {A b : Nat} {v : Value} {es : List E3} (h : EdgesAt W A v es) (hb : b < A) (x y z : Value) {B : Nat} (hB : B ≤ A) : EdgesAt (((W.setCell ⟨b, 0, none⟩ x).setCell ⟨b, 1, none⟩ y).setCell ⟨b, 2, none⟩ z) B v es :=
  own_low (ownsRow_setCell_below (ownsRow_setCell_below (ownsRow_setCell_below h (a := ⟨b, 0, none⟩) hb _) (a := ⟨b, 1, none⟩) hb _) (a := ⟨b, 2, none⟩) hb _) hB
theorem below_over {w W : World} {B b : Nat} (h : Below B w W) (hb : B ≤ b) (x y z : Value) : Below B w (((W.setCell ⟨b, 0, none⟩ x).setCell ⟨b, 1, none⟩ y).setCell ⟨b, 2, none⟩ z) :=
  ((h.setCell (p := ⟨b, 0, none⟩) hb _).setCell (p := ⟨b, 1, none⟩) hb _).setCell (p := ⟨b, 2, none⟩) hb _
set_option maxRecDepth 100000 in
set_option maxHeartbeats 3200000 in
theorem keep_any (L S : Int) (es : List E3) (v vs : Value) (st : List Int) (w : World) (hrd : EdgesRd w v es) (hn : es.length ≤ 9223372036854775807) (hst : IntsRd w vs st) (hl : st.length ≤ 9223372036854775807) :
    Calls Try.prog 40 #[grV L S v, vs] w (GOut w (keepR L S es st)) := by
  have HRD := Lib.hid hrd
  have HST := Lib.hid hst
  have HV := Lib.hid (fun W h => isValid_any L S es v W h hn)
  have HC := Lib.hid (fun W h => checkSet_any L S v vs st W h hl)
  have K0 := Lib.hid (KB.start w L S v 24)
  obtain ⟨a, c, rfl⟩ := hrd.form
  obtain ⟨a2, c2, rfl⟩ := hst.form
  by_cases h0 : chkG L S es = 0
  · have hvg := chkG_zero h0
    have H0 := Lib.hid (show (chkG L S es == 0) = true by rw [h0]; rfl)
    by_cases h1 : chkS S none st = 0
    · have hsg := chkS_ok h1
      have H1 := Lib.hid h1
      have HE := Lib.hid (show keepR L S es st = (L, (st.length : Int), partE st es, 0) by unfold keepR; rw [if_pos h0, if_pos h1])
      obtain ⟨n, rfl⟩ : ∃ n : Nat, S = (n : Int) := ⟨S.toNat, by have := hvg.s1; omega⟩
      have HP := Lib.hid (fun W h h2 => part_any L n es (.slice a es.length c) (.slice a2 st.length c2) st W h h2 (by have := hvg.s2; omega) hvg.ok hvg.len hsg)
      clear hrd hst h0 h1 hvg hsg
      go_enter Try.func40, Try.ntmps40
      go_wp2_with (first
        | (go_at_call 67; (with_reducible refine (HV.out _ (HRD.out.keep K0.out.bel)).mono ?_); rintro e0 W1 ⟨rfl, b1⟩; (rw [H0.out]); (have K1 := Lib.hid (K0.out.keep b1)); (clear b1); (obtain ⟨⟨g1, g2, g3⟩, -⟩ := id K1.out))
        | (go_at_call 68; (with_reducible refine (HC.out _ (HST.out.keep K1.out.bel)).mono ?_); rintro e0 W2 ⟨rfl, b2⟩; (rw [H1.out]); (have K2 := Lib.hid (K1.out.keep b2)); (clear b2); (obtain ⟨⟨g4, g5, g6⟩, -⟩ := id K2.out))
        | (go_at_call 69; (with_reducible refine (HP.out _ (HRD.out.keep K2.out.bel) (HST.out.keep K2.out.bel)).mono ?_); rintro e0 W3 ⟨v3, rfl, o3, b3⟩; (obtain ⟨a3, c3, rfl⟩ := o3.slice); (have K3 := Lib.hid (K2.out.keep b3)); (have O3 := Lib.hid o3); (clear b3 o3); (obtain ⟨-, ⟨⟨r1, r2, r3⟩, r4, r5, r6⟩, -⟩ := id K3.out)))
      rw [HE.out]
      exact bodyPost_ret (v := .tuple #[grV L (st.length : Int) (.slice a3 (partE st es).length c3), .int .i64 0]) (by simp [results, Try.results40, go_sem, r1, r2, r3]) rfl
        ⟨_, rfl, edges_over O3.out (by have := K2.out.2.2.2; omega) _ _ _ (by have := K2.out.2.2.2; omega), below_over K3.out.2.2.1 (Nat.le_succ _) _ _ _⟩
    · obtain ⟨z, hz⟩ : ∃ z, chkS S none st = z := ⟨_, rfl⟩
      have HE := Lib.hid (show keepR L S es st = (0, 0, [], z) by unfold keepR; rw [if_pos h0, if_neg h1, hz])
      have H1 := Lib.hid hz
      rw [hz] at h1
      have d1 : (z != 0) = true := by simpa using h1
      clear hrd hst h0 h1 hvg hz
      go_enter Try.func40, Try.ntmps40
      go_wp2_with (first
        | (go_at_call 67; (with_reducible refine (HV.out _ (HRD.out.keep K0.out.bel)).mono ?_); rintro e0 W1 ⟨rfl, b1⟩; (rw [H0.out]); (have K1 := Lib.hid (K0.out.keep b1)); (clear b1); (obtain ⟨⟨g1, g2, g3⟩, -⟩ := id K1.out))
        | (go_at_call 68; (with_reducible refine (HC.out _ (HST.out.keep K1.out.bel)).mono ?_); rintro e0 W2 ⟨rfl, b2⟩; (rw [H1.out]); (have K2 := Lib.hid (K1.out.keep b2)); (clear b2); (obtain ⟨⟨g4, g5, g6⟩, ⟨⟨r1, r2, r3⟩, r4, r5, r6⟩, -⟩ := id K2.out)))
      rw [HE.out]
      exact bodyPost_ret (v := .tuple #[grV 0 0 (.slice none 0 0), .int .i64 z]) (by simp [results, Try.results40, go_sem, r1, r2, r3]) rfl
        ⟨_, rfl, edges_nil _ _, below_over K2.out.2.2.1 (Nat.le_succ _) _ _ _⟩
  · have H0 := Lib.hid (show (chkG L S es == 0) = false by simpa using h0)
    have HE := Lib.hid (show keepR L S es st = (0, 0, [], 1) by unfold keepR; rw [if_neg h0])
    clear hrd hst h0
    go_enter Try.func40, Try.ntmps40
    go_wp2_with (first
      | (go_at_call 67; (with_reducible refine (HV.out _ (HRD.out.keep K0.out.bel)).mono ?_); rintro e0 W1 ⟨rfl, b1⟩; (rw [H0.out]); (have K1 := Lib.hid (K0.out.keep b1)); (clear b1); (obtain ⟨⟨g1, g2, g3⟩, ⟨⟨r1, r2, r3⟩, r4, r5, r6⟩, -⟩ := id K1.out)))
    rw [HE.out]
    exact bodyPost_ret (v := .tuple #[grV 0 0 (.slice none 0 0), .int .i64 1]) (by simp [results, Try.results40, go_sem, r1, r2, r3]) rfl
      ⟨_, rfl, edges_nil _ _, below_over K1.out.2.2.1 (Nat.le_succ _) _ _ _⟩
end Go.Proofs.Ytfkplnmhlpabaaa
