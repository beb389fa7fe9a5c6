/- What grooveref09.Same returns. Condition: at most a million edges each. -/
import Derived.Test.YtiebhalefdpjiaaDoorVm
import Derived.BigQuiet
namespace Go.Proofs.YtiebhalefdpjiaaDoor
open Go.RowKit Go.Shelf
set_option linter.unusedSimpArgs false
set_option linter.unusedVariables false

theorem sameG_of {L S : Int} {es fs : List E3} : sameG L S es L S fs = decide (es = fs) := by
  unfold sameG
  rw [decide_eq_decide]
  exact ⟨fun h => h.2.2, fun h => ⟨rfl, rfl, h⟩⟩
set_option maxRecDepth 100000 in
set_option maxHeartbeats 3200000 in
theorem rsame_any (L S L' S' : Int) (es fs : List E3) (v1 v2 : Value) (w : World) (h1 : EdgesRd w v1 es) (h2 : EdgesRd w v2 fs) (hn : es.length ≤ 1000000) (hm : fs.length ≤ 1000000) :
    Calls Tryd.prog 16 #[grV L S v1, grV L' S' v2] w fun e w' => e = .returned (.bool (sameG L S es L' S' fs)) ∧ Below w.heap.size w w' := by
  have b0 := below_more (below1 w (.cells #[.int .i64 L, .int .i64 S, v1] 24)) (Nat.le_refl _) (below1 _ (.cells #[.int .i64 L', .int .i64 S', v2] 24))
  have HA := Lib.hid (h1.keep b0)
  have HB := Lib.hid (h2.keep b0)
  have B0 := Lib.hid b0
  have K1 := Lib.hid ((BoxG.new w L S v1 24).keep (below1 _ (.cells #[.int .i64 L', .int .i64 S', v2] 24)))
  have K2 := Lib.hid (BoxG.new (w.alloc (.cells #[.int .i64 L, .int .i64 S, v1] 24)) L' S' v2 24)
  obtain ⟨a1, c1, rfl⟩ := h1.form
  obtain ⟨a2, c2, rfl⟩ := h2.form
  clear h1 h2 b0
  by_cases hL : L = L'
  · subst hL
    by_cases hS : S = S'
    · subst hS
      by_cases hl : es.length = fs.length
      · have HE := Lib.hid (sameG_of (L := L) (S := S) (es := es) (fs := fs))
        obtain ⟨n, hn'⟩ : ∃ n, fs.length = n := ⟨_, rfl⟩
        have HN := Lib.hid hn'
        have HM := Lib.hid (hl.trans hn')
        rw [hn'] at hl hm HB K1 K2 B0 HA ⊢
        rw [hl] at hn HA HB K1 K2 B0 ⊢
        clear hl hn'
        obtain ⟨W0, hW0⟩ : ∃ W0, (w.alloc (.cells #[.int .i64 L, .int .i64 S, .slice a1 n c1] 24)).alloc (.cells #[.int .i64 L, .int .i64 S, .slice a2 n c2] 24) = W0 := ⟨_, rfl⟩
        rw [hW0] at HA HB K1 K2 B0
        rw [World.size_alloc] at K2
        obtain ⟨g1, g2, g3⟩ := id K1.out
        obtain ⟨g4, g5, g6⟩ := id K2.out
        have HW := Lib.hid hW0
        clear hW0
        go_enter Tryd.func16, Tryd.ntmps16
        go_wp2_with fail
        rw [HW.out]
        clear HW
        go_loopg [5] n (fun q s5 wx => ∃ (i nq : Nat), i + q = n ∧ s5 = .int .i64 (i : Int) ∧ wx = W0.drewN nq ∧ Hid (∀ j, j < i → es[j]? = fs[j]?))
        case atStart => exact ⟨0, 0, by omega, rfl, rfl, Lib.hid (fun j hj => by omega)⟩
        case round =>
          obtain ⟨i, nq, hiq, rfl, rfl, HQ⟩ := hrel
          rcases gk with _ | q
          · obtain rfl : i = n := by omega
            have HR := Lib.hid (show decide (es = fs) = true from decide_eq_true (List.ext_getElem? (fun j => by
              rcases Nat.lt_or_ge j i with h | h
              · exact HQ.out j h
              · rw [List.getElem?_eq_none (by have := HM.out; omega), List.getElem?_eq_none (by have := HN.out; omega)])))
            clear HQ
            go_wp2_with fail
            go_ret
            exact ⟨by rw [HE.out, HR.out]; rfl, below_drewM B0.out _⟩
          · obtain ⟨x, hx⟩ : ∃ x, es[i]? = some x := ⟨_, List.getElem?_eq_getElem (by have := HM.out; omega)⟩
            obtain ⟨y, hy⟩ : ∃ y, fs[i]? = some y := ⟨_, List.getElem?_eq_getElem (by have := HN.out; omega)⟩
            have HX := Lib.hid hx
            have HY := Lib.hid hy
            obtain ⟨b, off, c', hv, k1, k2, k3⟩ := HA.out.at hx
            injection hv with e1 e2 e3
            subst e1
            subst e3
            obtain ⟨b', off', c'', hv, k4, k5, k6⟩ := HB.out.at hy
            injection hv with e4 e5 e6
            subst e4
            subst e6
            obtain ⟨x1, x2, x3⟩ := x
            obtain ⟨y1, y2, y3⟩ := y
            dsimp only at k1 k2 k3 k4 k5 k6
            have hgd := fun (op : BinOp) (a b : Operand) (w : World) => neqE.2 op a b (x1, x2, x3) (y1, y2, y3) w
            have heq := fun (w : World) => neqE.1 (x1, x2, x3) (y1, y2, y3) w
            simp only [encE] at hgd heq
            have j1 : (i : Int) < (n : Int) := by omega
            have j1' : i < n := by omega
            clear hx hy e2 e5
            cases hq : eqE (x1, x2, x3) (y1, y2, y3) with
            | true =>
              rw [hq] at heq
              have HQ2 := Lib.hid (show ∀ j, j < i + 1 → es[j]? = fs[j]? from fun j hj => by
                rcases Nat.lt_or_ge j i with h | h
                · exact HQ.out j h
                · obtain rfl : j = i := by omega
                  rw [HX.out, HY.out, eqE_iff.1 hq])
              clear hq HQ HX HY
              go_upto_region 6 with fail
              go_quiet (fail)
              go_wp2_with fail
              go_roundg q
              case measure => omega
              case rel => exact ⟨i + 1, _, by omega, by go_num, rfl, HQ2⟩
            | false =>
              rw [hq] at heq
              have HR := Lib.hid (show decide (es = fs) = false from decide_eq_false (fun h => by
                have h1 := HX.out
                rw [h, HY.out] at h1
                injection h1 with h1
                rw [eqE_iff.2 h1.symm] at hq
                cases hq))
              clear hq HQ HX HY
              go_upto_region 6 with fail
              go_quiet (fail)
              go_wp2_with fail
              go_ret
              exact ⟨by rw [HE.out, HR.out]; rfl, below_drewM (below_drewM B0.out _) _⟩
      · have HE := Lib.hid (show sameG L S es L S fs = false from decide_eq_false (fun h => hl (by rw [h.2.2])))
        have d3 : ((es.length : Int) != (fs.length : Int)) = true := by simp; omega
        have d4 : (es.length != fs.length) = true := by simp; omega
        clear hl
        go_enter Tryd.func16, Tryd.ntmps16
        go_wp2_with fail
        go_ret
        exact ⟨by rw [HE.out]; rfl, B0.out⟩
    · have d2 : (S != S') = true := by simpa using hS
      have HE := Lib.hid (show sameG L S es L S' fs = false from decide_eq_false (fun h => hS h.2.1))
      clear hS
      go_enter Tryd.func16, Tryd.ntmps16
      go_wp2_with fail
      go_ret
      exact ⟨by rw [HE.out]; rfl, B0.out⟩
  · have d1 : (L != L') = true := by simpa using hL
    have HE := Lib.hid (show sameG L S es L' S' fs = false from decide_eq_false (fun h => hL h.1))
    clear hL
    go_enter Tryd.func16, Tryd.ntmps16
    go_wp2_with fail
    go_ret
    exact ⟨by rw [HE.out]; rfl, B0.out⟩
end Go.Proofs.YtiebhalefdpjiaaDoor
