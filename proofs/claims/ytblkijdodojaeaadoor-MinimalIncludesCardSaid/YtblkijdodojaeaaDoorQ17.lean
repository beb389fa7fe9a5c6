/- What grooveref09.Check, grooveref09.Great and groovelaw09.fine return. No condition but that the edges can be read. What grooveref09.Great and groovelaw09.fine return. No condition but that the edges can be read. What grooveref09.CheckSet, Has and index return. Condition: a list's length is one of a slice. -/
import Derived.Test.YtblkijdodojaeaaDoorQ16
import Derived.Test.YtblkijdodojaeaaDoorQ08
import Derived.BigQuiet

namespace Go.Proofs.YtblkijdodojaeaaDoor
open Go.RowKit
set_option linter.unusedSimpArgs false
set_option linter.unusedVariables false

set_option maxRecDepth 100000 in
set_option maxHeartbeats 6400000 in
/-- Behind the tests of the sizes. -/
theorem rcheck_loop (L S : Int) (es : List E3) (v : Value) (w : World) (hrd : EdgesRd w v es) (l1 : 1 ≤ L) (l2 : L ≤ 256) (s1 : 0 ≤ S) (s2 : S ≤ 64) (hn : es.length ≤ 1024) :
    Calls Tryd.prog 49 #[grV L S v] w fun e w' => e = .returned (.int .i64 (chkF L S none es)) ∧ Below w.heap.size w w' := by
  have HRD := Lib.hid hrd
  obtain ⟨a, c, rfl⟩ := hrd.form
  have K0 := Lib.hid (BoxG.new w L S (.slice a es.length c) 24)
  clear hrd
  have d1 : decide (L < 1) = false := decide_eq_false (by omega)
  have d2 : decide (256 < L) = false := decide_eq_false (by omega)
  have d3 : decide (S < 0) = false := decide_eq_false (by omega)
  have d4 : decide (64 < S) = false := decide_eq_false (by omega)
  have d5 : decide ((1024 : Int) < (es.length : Int)) = false := decide_eq_false (by omega)
  go_enter Tryd.func49, Tryd.ntmps49
  go_wp2_with fail
  go_loopg [3] es.length (fun q s3 wx => ∃ i : Nat, i + q = es.length ∧ s3 = .int .i64 (i : Int) ∧ Hid (chkF L S (prevE es i) (es.drop i) = chkF L S none es) ∧ BoxG wx w.heap.size L S (.slice a es.length c) ∧ Below w.heap.size w wx)
  case atStart => exact ⟨0, by omega, rfl, Lib.hid rfl, K0.out, below1 w _⟩
  case round =>
    clear K0 d1 d2 d3 d4 d5
    obtain ⟨i, hi, rfl, HI, hG, hb⟩ := hrel
    rcases gk with _ | q
    · obtain rfl : i = es.length := by omega
      have HE := Lib.hid (show chkF L S none es = 0 by rw [← HI.out, List.drop_length]; rfl)
      obtain ⟨g1, g2, g3⟩ := id hG
      clear HI
      go_wp2_with fail
      go_ret
      exact ⟨by rw [HE.out]; rfl, hb⟩
    · obtain ⟨e, he⟩ : ∃ e, es[i]? = some e := ⟨_, List.getElem?_eq_getElem (by omega)⟩
      have HEE := Lib.hid he
      have hrd := HRD.out.keep hb
      obtain ⟨b, off, c', hv, k1, k2, k3⟩ := hrd.at he
      injection hv with e1 e2 e3
      subst e1
      subst e3
      have HDR := drop_at he
      obtain ⟨x, y, z⟩ := e
      dsimp only at k1 k2 k3
      have j1 : (i : Int) < (es.length : Int) := by omega
      have G0 := Lib.hid (show CK w L S (.slice (some ⟨b, off, none⟩) es.length c) wr.heap.size (x, y, z) (wr.alloc (.cells #[.int .i64 x, .int .i64 y, .int .i64 z] 63)) from ⟨hG.keep (below1 wr _), Box3.new _ _ _ _ _, hb.alloc hb.size _⟩)
      obtain ⟨g1, g2, g3⟩ := id hG
      go_upto_region 11 with fail
      clear k1 k2 k3 hG hb g1 g2 g3 hrd e2
      obtain ⟨W0, hW0⟩ : ∃ W0, wr.alloc (.cells #[.int .i64 x, .int .i64 y, .int .i64 z] 63) = W0 := ⟨_, rfl⟩
      rw [hW0] at G0 ⊢
      obtain ⟨P0, hP0⟩ : ∃ P0, wr.heap.size = P0 := ⟨_, rfl⟩
      rw [hP0] at G0 ⊢
      clear hW0 hP0
      obtain ⟨⟨g1, g2, g3⟩, ⟨x1, x2, x3, -, -, -⟩, hb⟩ := id G0.out
      dsimp only at x1 x2 x3
      cases hk : okE L S (x, y, z) with
      | false =>
        have HE := Lib.hid (show chkF L S none es = 2 by rw [← HI.out, HDR]; exact chkF_bad hk)
        rw [okE_not] at hk
        dsimp only at hk
        clear HI HDR he HEE
        by_cases h1 : x < 0
        · have d1 : decide (x < 0) = true := decide_eq_true h1
          clear hk h1
          go_wp2_with fail
          go_ret
          exact ⟨by rw [HE.out]; rfl, hb⟩
        have d1 : decide (x < 0) = false := decide_eq_false h1
        by_cases h2 : S ≤ x
        · have d2 : decide (S ≤ x) = true := decide_eq_true h2
          clear hk h1 h2
          go_wp2_with fail
          go_ret
          exact ⟨by rw [HE.out]; rfl, hb⟩
        have d2 : decide (S ≤ x) = false := decide_eq_false h2
        by_cases h3 : z < 0
        · have d3 : decide (z < 0) = true := decide_eq_true h3
          clear hk h1 h2 h3
          go_wp2_with fail
          go_ret
          exact ⟨by rw [HE.out]; rfl, hb⟩
        have d3 : decide (z < 0) = false := decide_eq_false h3
        by_cases h4 : S ≤ z
        · have d4 : decide (S ≤ z) = true := decide_eq_true h4
          clear hk h1 h2 h3 h4
          go_wp2_with fail
          go_ret
          exact ⟨by rw [HE.out]; rfl, hb⟩
        have d4 : decide (S ≤ z) = false := decide_eq_false h4
        by_cases h5 : y < 0
        · have d5 : decide (y < 0) = true := decide_eq_true h5
          clear hk h1 h2 h3 h4 h5
          go_wp2_with fail
          go_ret
          exact ⟨by rw [HE.out]; rfl, hb⟩
        have d5 : decide (y < 0) = false := decide_eq_false h5
        have d6 : decide (L ≤ y) = true := decide_eq_true (by omega)
        clear hk h1 h2 h3 h4 h5
        go_wp2_with fail
        go_ret
        exact ⟨by rw [HE.out]; rfl, hb⟩
      | true =>
        have hk2 := okE_iff.1 hk
        dsimp only at hk2
        have d1 : decide (x < 0) = false := decide_eq_false (by omega)
        have d2 : decide (S ≤ x) = false := decide_eq_false (by omega)
        have d3 : decide (z < 0) = false := decide_eq_false (by omega)
        have d4 : decide (S ≤ z) = false := decide_eq_false (by omega)
        have d5 : decide (y < 0) = false := decide_eq_false (by omega)
        have d8 : decide (L ≤ y) = false := decide_eq_false (by omega)
        clear hk2
        go_upto_region 13 with fail
        clear d1 d2 d3 d4 d5 d8 G0
        have hmx : Tryd.prog.follows .mixedOrders = true := by kernel_rfl
        by_cases h0 : i = 0
        · have HI2 := Lib.hid (show chkF L S (prevE es (i + 1)) (es.drop (i + 1)) = chkF L S none es by
            rw [← HI.out, HDR, prevE_succ he, chkF_step hk (fun q hq => by rw [h0, prevE_zero] at hq; cases hq)])
          have d6 : decide ((0 : Int) < (i : Int)) = false := decide_eq_false (by omega)
          have d7 : decide (0 < i) = false := decide_eq_false (by omega)
          clear HI HDR he hk h0
          go_quiet (fail)
          go_wp2_with fail
          go_roundg q
          case measure => omega
          case rel => exact ⟨i + 1, by omega, by go_num, HI2, ⟨g1, g2, g3⟩, below_drewM hb _⟩
        · obtain ⟨j, hj⟩ : ∃ j, i = j + 1 := ⟨i - 1, by omega⟩
          obtain ⟨e', he'⟩ : ∃ e', es[j]? = some e' := ⟨_, List.getElem?_eq_getElem (by omega)⟩
          have hpv : prevE es i = some e' := by rw [hj]; exact prevE_succ he'
          obtain ⟨b2, off2, c2, hv, k1, k2, k3⟩ := (HRD.out.keep hb).at he'
          injection hv with e1 e2 e3
          injection e1 with e1
          injection e1 with e1 e4
          subst e1
          subst e4
          subst e3
          have hc := cmpE_ge e' (x, y, z)
          obtain ⟨x', y', z'⟩ := e'
          dsimp only at k1 k2 k3
          have hw : IntKind.i64.wrap ((i : Int) - 1) = (j : Int) := by rw [hj]; simp [IntKind.wrap, IntKind.signed, IntKind.bits]; omega
          have d6 : decide ((0 : Int) < (i : Int)) = true := decide_eq_true (by omega)
          have d7 : decide (0 < i) = true := decide_eq_true (by omega)
          have j2 : (j : Int) < (es.length : Int) := by omega
          have HM := Lib.hid (fun W => rcompare_any (x', y', z') (x, y, z) W)
          cases hlt : ltE (x', y', z') (x, y, z) with
          | false =>
            have HE := Lib.hid (show chkF L S none es = 10 by rw [← HI.out, HDR, hpv]; exact chkF_order hk hlt)
            rw [hlt] at hc
            obtain ⟨m, hm⟩ : ∃ m, cmpE (x', y', z') (x, y, z) = m := ⟨_, rfl⟩
            rw [hm] at hc
            simp only [hm] at HM
            have hc2 : decide (0 ≤ m) = true := hc
            clear HI HDR he hk h0 hj he' hpv hc hlt hm e2
            go_region_held3 (fun W => W.cell? ⟨w.heap.size, 2, none⟩ = some (.slice (some ⟨b, off, none⟩) es.length c) ∧ W.cell? ⟨P0, 0, none⟩ = some (.int .i64 x) ∧ W.cell? ⟨P0, 1, none⟩ = some (.int .i64 y) ∧ W.cell? ⟨P0, 2, none⟩ = some (.int .i64 z) ∧
                W.cell? ⟨b, off + j * 3, none⟩ = some (.int .i64 x') ∧ W.cell? ⟨b, off + j * 3 + 1, none⟩ = some (.int .i64 y') ∧ W.cell? ⟨b, off + j * 3 + 2, none⟩ = some (.int .i64 z'))
              (first | exact ⟨g3, x1, x2, x3, k1, k2, k3⟩ | exact ⟨cell_keep (Wp := W0.drew) (by exact g3) b2, cell_keep (Wp := W0.drew) (by exact x1) b2, cell_keep (Wp := W0.drew) (by exact x2) b2, cell_keep (Wp := W0.drew) (by exact x3) b2, cell_keep (Wp := W0.drew) (by exact k1) b2, cell_keep (Wp := W0.drew) (by exact k2) b2, cell_keep (Wp := W0.drew) (by exact k3) b2⟩)
              (first | (go_at_call 83; (with_reducible refine (HM.out _).mono ?_); rintro e0 W4 ⟨rfl, b2⟩))
            have hb2 := below_more hb.drew (Nat.le_refl _) b2
            go_wp2_with fail
            go_ret
            exact ⟨by rw [HE.out]; rfl, hb2⟩
          | true =>
            have HI2 := Lib.hid (show chkF L S (prevE es (i + 1)) (es.drop (i + 1)) = chkF L S none es by
              rw [← HI.out, HDR, prevE_succ he, chkF_step hk (fun q hq => by rw [hpv] at hq; injection hq with hq; subst hq; exact hlt)])
            rw [hlt] at hc
            obtain ⟨m, hm⟩ : ∃ m, cmpE (x', y', z') (x, y, z) = m := ⟨_, rfl⟩
            rw [hm] at hc
            simp only [hm] at HM
            have hc2 : decide (0 ≤ m) = false := hc
            clear HI HDR he hk h0 hj he' hpv hc hlt hm e2
            go_region_held3 (fun W => W.cell? ⟨w.heap.size, 2, none⟩ = some (.slice (some ⟨b, off, none⟩) es.length c) ∧ W.cell? ⟨P0, 0, none⟩ = some (.int .i64 x) ∧ W.cell? ⟨P0, 1, none⟩ = some (.int .i64 y) ∧ W.cell? ⟨P0, 2, none⟩ = some (.int .i64 z) ∧
                W.cell? ⟨b, off + j * 3, none⟩ = some (.int .i64 x') ∧ W.cell? ⟨b, off + j * 3 + 1, none⟩ = some (.int .i64 y') ∧ W.cell? ⟨b, off + j * 3 + 2, none⟩ = some (.int .i64 z'))
              (first | exact ⟨g3, x1, x2, x3, k1, k2, k3⟩ | exact ⟨cell_keep (Wp := W0.drew) (by exact g3) b2, cell_keep (Wp := W0.drew) (by exact x1) b2, cell_keep (Wp := W0.drew) (by exact x2) b2, cell_keep (Wp := W0.drew) (by exact x3) b2, cell_keep (Wp := W0.drew) (by exact k1) b2, cell_keep (Wp := W0.drew) (by exact k2) b2, cell_keep (Wp := W0.drew) (by exact k3) b2⟩)
              (first | (go_at_call 83; (with_reducible refine (HM.out _).mono ?_); rintro e0 W4 ⟨rfl, b2⟩))
            have hG2 : BoxG W4 w.heap.size L S (.slice (some ⟨b, off, none⟩) es.length c) := BoxG.keep (W := W0.drew) ⟨g1, g2, g3⟩ b2
            have hb2 := below_more hb.drew (Nat.le_refl _) b2
            go_wp2_with fail
            go_roundg q
            case measure => omega
            case rel => exact ⟨i + 1, by omega, by go_num, HI2, hG2, hb2⟩
set_option maxRecDepth 100000 in
set_option maxHeartbeats 1600000 in
theorem rcheck_any (L S : Int) (es : List E3) (v : Value) (w : World) (hrd : EdgesRd w v es) (hn : es.length ≤ 9223372036854775807) :
    Calls Tryd.prog 49 #[grV L S v] w fun e w' => e = .returned (.int .i64 (chkG L S es)) ∧ Below w.heap.size w w' := by
  obtain ⟨a, c, rfl⟩ := hrd.form
  by_cases h1 : L < 1
  · have HE := Lib.hid (show chkG L S es = 12 by unfold chkG; rw [if_pos (Or.inl h1)])
    have d1 : decide (L < 1) = true := decide_eq_true h1
    clear hrd
    go_enter Tryd.func49, Tryd.ntmps49
    go_wp2_with fail
    go_ret
    exact ⟨by rw [HE.out]; rfl, below1 w _⟩
  by_cases h2 : 256 < L
  · have HE := Lib.hid (show chkG L S es = 12 by unfold chkG; rw [if_pos (Or.inr h2)])
    have d1 : decide (L < 1) = false := decide_eq_false h1
    have d2 : decide (256 < L) = true := decide_eq_true h2
    clear hrd
    go_enter Tryd.func49, Tryd.ntmps49
    go_wp2_with fail
    go_ret
    exact ⟨by rw [HE.out]; rfl, below1 w _⟩
  have d1 : decide (L < 1) = false := decide_eq_false h1
  have d2 : decide (256 < L) = false := decide_eq_false h2
  by_cases h3 : S < 0
  · have HE := Lib.hid (show chkG L S es = 2 by unfold chkG; rw [if_neg (by omega), if_pos h3])
    have d3 : decide (S < 0) = true := decide_eq_true h3
    clear hrd
    go_enter Tryd.func49, Tryd.ntmps49
    go_wp2_with fail
    go_ret
    exact ⟨by rw [HE.out]; rfl, below1 w _⟩
  have d3 : decide (S < 0) = false := decide_eq_false h3
  by_cases h4 : 64 < S
  · have HE := Lib.hid (show chkG L S es = 4 by unfold chkG; rw [if_neg (by omega), if_neg h3, if_pos (Or.inl h4)])
    have d4 : decide (64 < S) = true := decide_eq_true h4
    clear hrd
    go_enter Tryd.func49, Tryd.ntmps49
    go_wp2_with fail
    go_ret
    exact ⟨by rw [HE.out]; rfl, below1 w _⟩
  by_cases h5 : 1024 < es.length
  · have HE := Lib.hid (show chkG L S es = 4 by unfold chkG; rw [if_neg (by omega), if_neg h3, if_pos (Or.inr h5)])
    have d4 : decide (64 < S) = false := decide_eq_false h4
    have d5 : decide ((1024 : Int) < (es.length : Int)) = true := decide_eq_true (by omega)
    clear hrd
    go_enter Tryd.func49, Tryd.ntmps49
    go_wp2_with fail
    go_ret
    exact ⟨by rw [HE.out]; rfl, below1 w _⟩
  have HE : chkG L S es = chkF L S none es := by unfold chkG; rw [if_neg (by omega), if_neg h3, if_neg (by omega)]
  rw [HE]
  exact rcheck_loop L S es _ w hrd (by omega) (by omega) (by omega) (by omega) (by omega)
end Go.Proofs.YtblkijdodojaeaaDoor

namespace Go.Proofs.YtblkijdodojaeaaDoor
open Go.RowKit
set_option linter.unusedSimpArgs false
set_option linter.unusedVariables false

/-- Larger than the laws examine. -/
def greatB (S : Int) (k : Nat) : Bool := decide (30 < k ∨ (10 < S ∧ S ≤ 64))
theorem great_any (L S : Int) (a : Option Addr) (k c : Nat) (w : World) :
    Calls Tryd.prog 44 #[grV L S (.slice a k c)] w fun e w' => e = .returned (.bool (greatB S k)) ∧ Below w.heap.size w w' := by
  by_cases h1 : 30 < k
  · have HE := Lib.hid (show greatB S k = true from decide_eq_true (.inl h1))
    have d1 : decide ((30 : Int) < (k : Int)) = true := decide_eq_true (by omega)
    have d1' : decide (30 < k) = true := decide_eq_true h1
    clear h1
    go_enter Tryd.func44, Tryd.ntmps44
    go_wp2_with fail
    go_ret
    exact ⟨by rw [HE.out]; rfl, below1 w _⟩
  have d1 : decide ((30 : Int) < (k : Int)) = false := decide_eq_false (by omega)
  have d1' : decide (30 < k) = false := decide_eq_false h1
  by_cases h2 : 10 < S
  · have d2 : decide (10 < S) = true := decide_eq_true h2
    by_cases h3 : S ≤ 64
    · have HE := Lib.hid (show greatB S k = true from decide_eq_true (.inr ⟨h2, h3⟩))
      have d3 : decide (S ≤ 64) = true := decide_eq_true h3
      clear h1 h2 h3
      go_enter Tryd.func44, Tryd.ntmps44
      go_wp2_with fail
      go_ret
      exact ⟨by rw [HE.out]; rfl, below1 w _⟩
    · have HE := Lib.hid (show greatB S k = false from decide_eq_false (by omega))
      have d3 : decide (S ≤ 64) = false := decide_eq_false h3
      clear h1 h2 h3
      go_enter Tryd.func44, Tryd.ntmps44
      go_wp2_with fail
      go_ret
      exact ⟨by rw [HE.out]; rfl, below1 w _⟩
  · have HE := Lib.hid (show greatB S k = false from decide_eq_false (by omega))
    have d2 : decide (10 < S) = false := decide_eq_false h2
    clear h1 h2
    go_enter Tryd.func44, Tryd.ntmps44
    go_wp2_with fail
    go_ret
    exact ⟨by rw [HE.out]; rfl, below1 w _⟩
/-- Valid, and not larger than the laws examine. -/
def fineB (L S : Int) (es : List E3) : Bool := !greatB S es.length && chkG L S es == 0
end Go.Proofs.YtblkijdodojaeaaDoor

namespace Go.Proofs.YtblkijdodojaeaaDoor
open Go.RowKit
set_option linter.unusedSimpArgs false
set_option linter.unusedVariables false

set_option maxRecDepth 100000 in
set_option maxHeartbeats 6400000 in
theorem rcheckSet_any (L S : Int) (v vs : Value) (l : List Int) (w : World) (hrd : IntsRd w vs l) (hl : l.length ≤ 9223372036854775807) :
    Calls Tryd.prog 112 #[grV L S v, vs] w fun e w' => e = .returned (.int .i64 (chkS S none l)) ∧ Below w.heap.size w w' := by
  have HRD := Lib.hid hrd
  obtain ⟨a, c, rfl⟩ := hrd.form
  have K0 := Lib.hid (BoxG.new w L S v 24)
  clear hrd
  go_enter Tryd.func112, Tryd.ntmps112
  go_wp2_with fail
  go_loopg [5] l.length (fun q s5 wx => ∃ i : Nat, i + q = l.length ∧ s5 = .int .i64 (i : Int) ∧ Hid (chkS S (prevI l i) (l.drop i) = chkS S none l) ∧ BoxG wx w.heap.size L S v ∧ Below w.heap.size w wx)
  case atStart => exact ⟨0, by omega, rfl, Lib.hid rfl, K0.out, below1 w _⟩
  case round =>
    clear K0
    obtain ⟨i, hi, rfl, HI, hG, hb⟩ := hrel
    rcases gk with _ | q
    · obtain rfl : i = l.length := by omega
      have HE := Lib.hid (show chkS S none l = 0 by rw [← HI.out, List.drop_length]; rfl)
      clear HI
      go_wp2_with fail
      go_ret
      exact ⟨by rw [HE.out]; rfl, hb⟩
    · obtain ⟨x, hx⟩ : ∃ x, l[i]? = some x := ⟨_, List.getElem?_eq_getElem (by omega)⟩
      have hrd := HRD.out.keep hb
      obtain ⟨b, off, c', hv, k1⟩ := hrd.at hx
      injection hv with e1 e2 e3
      subst e1
      subst e3
      have HDR := drop_at hx
      have j1 : (i : Int) < (l.length : Int) := by omega
      obtain ⟨g1, g2, g3⟩ := id hG
      by_cases h1 : inB S x = true
      · have hin := inB_true.1 h1
        have d1 : decide (x < 0) = false := decide_eq_false (by omega)
        have d2 : decide (S ≤ x) = false := decide_eq_false (by omega)
        go_upto_region 4 with fail
        go_quiet (fail)
        rename_i nq
        clear d1 d2
        have hb2 : Below w.heap.size w (wr.drewN nq) := below_drewM hb nq
        have hG2 : BoxG (wr.drewN nq) w.heap.size L S v := hG
        rcases Nat.eq_zero_or_pos i with h0 | h0
        · have HI2 := Lib.hid (show chkS S (prevI l (i + 1)) (l.drop (i + 1)) = chkS S none l by
            rw [← HI.out, HDR, prevI_succ hx, chkS_step (by omega) (fun q hq => by rw [h0, prevI_zero] at hq; cases hq)])
          have d6 : decide ((0 : Int) < (i : Int)) = false := decide_eq_false (by omega)
          have d7 : decide (0 < i) = false := decide_eq_false (by omega)
          clear HI HDR hx h1 h0 hin e2 hrd
          go_upto_region 6 with fail
          go_quiet (fail)
          rename_i nq2
          go_wp2_with fail
          go_roundg q
          case measure => omega
          case rel => exact ⟨i + 1, by omega, by go_num, HI2, hG, below_drewM hb _⟩
        · obtain ⟨j, hj⟩ : ∃ j, i = j + 1 := ⟨i - 1, by omega⟩
          obtain ⟨y, hy⟩ : ∃ y, l[j]? = some y := ⟨_, List.getElem?_eq_getElem (by omega)⟩
          have hpv : prevI l i = some y := by rw [hj]; exact prevI_succ hy
          obtain ⟨b2, off2, c2, hv, k2⟩ := hrd.at hy
          injection hv with e1 e2 e3
          injection e1 with e1
          injection e1 with e1 e4
          subst e1
          subst e4
          subst e3
          have hw : IntKind.i64.wrap ((i : Int) - 1) = (j : Int) := by rw [IntKind.wrap_i64]; omega
          have d6 : decide ((0 : Int) < (i : Int)) = true := decide_eq_true (by omega)
          have d7 : decide (0 < i) = true := decide_eq_true (by omega)
          have j2 : (j : Int) < (l.length : Int) := by omega
          by_cases hlt : y < x
          · have HI2 := Lib.hid (show chkS S (prevI l (i + 1)) (l.drop (i + 1)) = chkS S none l by
              rw [← HI.out, HDR, prevI_succ hx, chkS_step (by omega) (fun q hq => by rw [hpv] at hq; injection hq with hq; omega)])
            have d8 : decide (x ≤ y) = false := decide_eq_false (by omega)
            clear HI HDR hx h1 h0 hin e2 hrd hj hpv hlt hy
            go_upto_region 6 with fail
            go_quiet (fail)
            rename_i nq2
            go_wp2_with fail
            go_roundg q
            case measure => omega
            case rel => exact ⟨i + 1, by omega, by go_num, HI2, hG, below_drewM hb _⟩
          · have HE := Lib.hid (show chkS S none l = 10 by rw [← HI.out, HDR, hpv]; exact chkS_order (by omega) (by omega))
            have d8 : decide (x ≤ y) = true := decide_eq_true (by omega)
            clear HI HDR hx h1 h0 hin e2 hrd hj hpv hlt hy
            go_upto_region 6 with fail
            go_quiet (fail)
            rename_i nq2
            go_wp2_with fail
            go_ret
            exact ⟨by rw [HE.out]; rfl, below_drewM hb _⟩
      · have h2 : inB S x = false := by simpa using h1
        have hin := inB_false.1 h2
        have HE := Lib.hid (show chkS S none l = 25 by rw [← HI.out, HDR]; exact chkS_bad (by omega))
        clear HI HDR hx h1 h2 e2 hrd
        by_cases h3 : x < 0
        · have d1 : decide (x < 0) = true := decide_eq_true h3
          clear h3 hin
          go_upto_region 4 with fail
          go_quiet (fail)
          rename_i nq
          go_wp2_with fail
          go_ret
          exact ⟨by rw [HE.out]; rfl, below_drewM hb _⟩
        · have d1 : decide (x < 0) = false := decide_eq_false h3
          have d2 : decide (S ≤ x) = true := decide_eq_true (by omega)
          clear h3 hin
          go_upto_region 4 with fail
          go_quiet (fail)
          rename_i nq
          go_wp2_with fail
          go_ret
          exact ⟨by rw [HE.out]; rfl, below_drewM hb _⟩
theorem mem_take_succI {l : List Int} {i : Nat} {x n : Int} (hx : l[i]? = some x) (h : n ∉ l.take i) (hne : x ≠ n) : n ∉ l.take (i + 1) := by
  rw [List.take_add_one, hx, List.mem_append]
  rintro (h1 | h1)
  · exact h h1
  · simp at h1; exact hne h1.symm
set_option maxRecDepth 100000 in
theorem rhas_any (vs : Value) (l : List Int) (n : Int) (w : World) (hrd : IntsRd w vs l) (hl : l.length ≤ 9223372036854775807) :
    Calls Tryd.prog 129 #[vs, .int .i64 n] w fun e w' => e = .returned (.bool (decide (n ∈ l))) ∧ w' = w := by
  have HRD := Lib.hid hrd
  obtain ⟨a, c, rfl⟩ := hrd.form
  clear hrd
  go_enter Tryd.func129, Tryd.ntmps129
  go_wp2_with fail
  go_loopg [5] l.length (fun q s5 wx => ∃ i : Nat, i + q = l.length ∧ s5 = .int .i64 (i : Int) ∧ Hid (n ∉ l.take i) ∧ wx = w)
  case atStart => exact ⟨0, by omega, rfl, Lib.hid (by simp), rfl⟩
  case round =>
    obtain ⟨i, hi, rfl, HI, rfl⟩ := hrel
    rcases gk with _ | q
    · obtain rfl : i = l.length := by omega
      have HE := Lib.hid (show decide (n ∈ l) = false from decide_eq_false (by have h := HI.out; rwa [List.take_length] at h))
      clear HI
      go_wp2_with fail
      go_ret
      exact ⟨by rw [HE.out]; rfl, rfl⟩
    · obtain ⟨x, hx⟩ : ∃ x, l[i]? = some x := ⟨_, List.getElem?_eq_getElem (by omega)⟩
      obtain ⟨b, off, c', hv, k1⟩ := HRD.out.at hx
      injection hv with e1 e2 e3
      subst e1
      subst e3
      have j1 : (i : Int) < (l.length : Int) := by omega
      by_cases hxn : x = n
      · subst hxn
        have HE := Lib.hid (show decide (x ∈ l) = true from decide_eq_true (List.mem_of_getElem? hx))
        clear HI hx e2
        go_wp2_with fail
        go_ret
        exact ⟨by rw [HE.out]; rfl, rfl⟩
      · have HI2 := Lib.hid (mem_take_succI hx HI.out hxn)
        have d1 : (x == n) = false := by simpa using hxn
        clear HI hx e2 hxn
        go_wp2_with fail
        go_roundg q
        case measure => omega
        case rel => exact ⟨i + 1, by omega, by go_num, HI2, rfl⟩
end Go.Proofs.YtblkijdodojaeaaDoor
