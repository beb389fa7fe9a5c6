/- What grooveref09.Out returns. Condition: the edges can be read. -/
import Derived.Test.YtiebhalefdpjiaaDoorVxb
namespace Go.Proofs.YtiebhalefdpjiaaDoor
open Go.RowKit
set_option linter.unusedSimpArgs false
set_option linter.unusedVariables false

theorem outR_out {La S : Int} {es : List E3} {s : Int} (h0 : chkG La S es = 0) (h1 : ¬ (0 ≤ s ∧ s < S)) : outR La S es s = ([], 25) := by unfold outR; rw [if_pos h0, if_neg h1]
theorem outR_in {La S : Int} {es : List E3} {s : Int} (h0 : chkG La S es = 0) (h1 : 0 ≤ s ∧ s < S) : outR La S es s = ((lvF es s 0).map (fun j : Nat => (j : Int)), 0) := by unfold outR; rw [if_pos h0, if_pos h1]
set_option maxRecDepth 100000 in
set_option maxHeartbeats 6400000 in
theorem rout_any (La S s : Int) (es : List E3) (v : Value) (w : World) (hrd : EdgesRd w v es) (hn : es.length ≤ 9223372036854775807) :
    Calls Tryd.prog 18 #[grV La S v, .int .i64 s] w (IOut w (outR La S es s)) := by
  obtain ⟨i0, hi, hz0, hz1, hz2⟩ := info_parts Tryd.infoI64
  have HV := Lib.hid (fun W h => rcheck_any La S es v W h hn)
  have HRD := Lib.hid hrd
  have K0 := Lib.hid (BoxG.new w La S v 24)
  obtain ⟨a, c, rfl⟩ := hrd.form
  clear hrd
  by_cases h0 : chkG La S es = 0
  · have H0 := Lib.hid h0
    have hlen := (chkG_zero h0).len
    by_cases h1 : 0 ≤ s ∧ s < S
    · have HE := Lib.hid (outR_in h0 h1)
      have d1 : decide (s < 0) = false := decide_eq_false (by omega)
      have d2 : decide (S ≤ s) = false := decide_eq_false (by omega)
      clear h0 h1
      go_enter Tryd.func18, Tryd.ntmps18
      go_wp2_with (go_at_call 14; (with_reducible refine (HV.out _ (HRD.out.keep (below1 _ _))).mono ?_); rintro e0 W1 ⟨rfl, b1⟩; (rw [H0.out]); (have G1 := Lib.hid (K0.out.keep b1)); (have B1 := Lib.hid (below_more (below1 w _) (Nat.le_refl _) b1)); (clear b1); (obtain ⟨g1, g2, g3⟩ := id G1.out))
      clear d1 d2
      have hW1 : w.heap.size + 1 ≤ W1.heap.size := World.block_lt_of_cell? W1 _ g1
      go_loopg [6, 7] es.length (fun q s6 s7 wx => ∃ i : Nat, i + q = es.length ∧ s7 = .int .i64 (i : Int) ∧ IntsAt wx (w.heap.size + 1) s6 ((lvF (es.take i) s 0).map (fun j : Nat => (j : Int))) ∧ Below (w.heap.size + 1) W1 wx)
      case atStart => exact ⟨0, by omega, rfl, ints_nil _ _, Below.refl _ _⟩
      case round =>
        clear g1 g2 g3
        obtain ⟨i, hin, rfl, hown, hb⟩ := hrel
        have hbw := B1.out.trans (hb.mono (Nat.le_succ _))
        have g1 := (hb.cell (p := ⟨w.heap.size, 0, none⟩) (Nat.lt_succ_self _)).trans G1.out.1
        have g2 := (hb.cell (p := ⟨w.heap.size, 1, none⟩) (Nat.lt_succ_self _)).trans G1.out.2.1
        have g3 := (hb.cell (p := ⟨w.heap.size, 2, none⟩) (Nat.lt_succ_self _)).trans G1.out.2.2
        obtain ⟨a3, c3, rfl⟩ := hown.slice
        rcases gk with _ | q
        · obtain rfl : i = es.length := by omega
          have HI := Lib.hid (show IntsAt wr w.heap.size _ (outR La S es s).1 from by rw [HE.out]; rw [List.take_length] at hown; exact own_low hown (Nat.le_succ _))
          clear hown
          obtain ⟨m, hm⟩ : ∃ m, ((lvF es s 0).map (fun j : Nat => (j : Int))).length = m := ⟨_, rfl⟩
          rw [List.take_length]
          rw [hm] at HI ⊢
          clear hm
          go_wp2_with fail
          exact bodyPost_ret (v := .tuple #[.slice a3 m c3, .int .i64 0]) (by simp [results, Tryd.results18, go_sem]) rfl ⟨_, by rw [HE.out], HI.out, hbw⟩
        · obtain ⟨e, he⟩ : ∃ e, es[i]? = some e := ⟨_, List.getElem?_eq_getElem (by omega)⟩
          obtain ⟨b, off, c', hv, k1, k2, k3⟩ := (HRD.out.keep hbw).at he
          injection hv with e1 e2 e3
          subst e1
          subst e3
          obtain ⟨x, y, z⟩ := e
          dsimp only at k1 k2 k3
          have j1 : (i : Int) < (es.length : Int) := by omega
          have hsn := lvF_take (s := s) he
          have hml := lvF_len (es := es.take i) (s := s)
          rw [List.length_take] at hml
          dsimp only at hsn
          by_cases hx : x = s
          · have HS := Lib.hid (show (lvF (es.take (i + 1)) s 0).map (fun j : Nat => (j : Int)) = (lvF (es.take i) s 0).map (fun j : Nat => (j : Int)) ++ [(i : Int)] by rw [hsn, if_pos hx, List.map_append]; rfl)
            have hlt := hown.lt
            have hown0 := hown
            unfold IntsAt at hown0
            obtain ⟨m, hm⟩ : ∃ m, ((lvF (es.take i) s 0).map (fun j : Nat => (j : Int))).length = m := ⟨_, rfl⟩
            have hm2 : m ≤ 1024 := by rw [← hm, List.length_map]; omega
            rw [hm] at hown0 hlt ⊢
            have HM := Lib.hid hm
            subst hx
            clear hsn hown hm hml he e2
            go_wp2_with (first | (at_builtin; refine wpList_append_own_at _ rfl _ _ 32 rfl (w.heap.size + 1) 3 i0 (.int .i64 0) 1 8 Tryd.underlying32 hi hz0 hz1 hz2 rfl (by decide) _ _ _ rfl (hown0.alloc _) ⟨wr.heap.size, 0, none⟩ 1 1 [.int .i64 (i : Int)] rfl rfl ?c1 ?c2 ?c3 ?c4 ?c5 ?_))
            case c1 => exact World.news_of_block (cs := #[.int .i64 (i : Int)]) (t := 3) (fr := (0, 0)) (heap_alloc_new wr _)
            case c2 => intro u hu; simp at hu; subst hu; rfl
            case c3 => unfold maxLen; omega
            case c4 => omega
            case c5 => rw [World.size_alloc]; have := hb.size; omega
            intro v' W2 hown2 hgrow _ hv'
            have hb2 : Below (w.heap.size + 1) W1 W2 := (hb.alloc (by have := hb.size; omega) _).grown hgrow (by rw [World.size_alloc]; have := hb.size; omega) (fun k hk => (hlt k hk).1)
            rw [← intz_snoc, ← HS.out] at hown2
            have HI2 := Lib.hid (show IntsAt W2 (w.heap.size + 1) v' ((lvF (es.take (i + 1)) x 0).map (fun j : Nat => (j : Int))) by unfold IntsAt; rw [HS.out, List.length_append, HM.out]; rw [HS.out] at hown2; exact hown2)
            obtain ⟨a', c'', rfl⟩ := own_slice hown2
            clear hown0 hown2 hgrow hlt hv' hb
            go_wp2_with fail
            go_roundg q
            case measure => omega
            case rel => exact ⟨i + 1, by omega, by go_num, HI2.out, hb2⟩
          · have HI2 := Lib.hid (show IntsAt wr (w.heap.size + 1) (.slice a3 ((lvF (es.take i) s 0).map (fun j : Nat => (j : Int))).length c3) ((lvF (es.take (i + 1)) s 0).map (fun j : Nat => (j : Int))) by rw [hsn, if_neg hx]; simpa using hown)
            have d1 : (x == s) = false := by simpa using hx
            obtain ⟨m, hm⟩ : ∃ m, ((lvF (es.take i) s 0).map (fun j : Nat => (j : Int))).length = m := ⟨_, rfl⟩
            rw [hm] at HI2 ⊢
            clear hsn hown hm hml he e2 hx
            go_wp2_with fail
            go_roundg q
            case measure => omega
            case rel => exact ⟨i + 1, by omega, by go_num, HI2.out, hb⟩
    · have HE := Lib.hid (outR_out h0 h1)
      clear h0
      by_cases h2 : s < 0
      · have d1 : decide (s < 0) = true := decide_eq_true h2
        clear h1 h2
        go_enter Tryd.func18, Tryd.ntmps18
        go_wp2_with (go_at_call 14; (with_reducible refine (HV.out _ (HRD.out.keep (below1 _ _))).mono ?_); rintro e0 W1 ⟨rfl, b1⟩; (rw [H0.out]); (have B1 := Lib.hid (below_more (below1 w _) (Nat.le_refl _) b1)); (obtain ⟨g1, g2, g3⟩ := K0.out.keep b1); (clear b1))
        exact bodyPost_ret (v := .tuple #[.slice none 0 0, .int .i64 25]) (by simp [results, Tryd.results18, go_sem]) rfl ⟨_, by rw [HE.out], by rw [HE.out]; exact ints_nil _ _, B1.out⟩
      · have d1 : decide (s < 0) = false := decide_eq_false h2
        have d2 : decide (S ≤ s) = true := decide_eq_true (by omega)
        clear h1 h2
        go_enter Tryd.func18, Tryd.ntmps18
        go_wp2_with (go_at_call 14; (with_reducible refine (HV.out _ (HRD.out.keep (below1 _ _))).mono ?_); rintro e0 W1 ⟨rfl, b1⟩; (rw [H0.out]); (have B1 := Lib.hid (below_more (below1 w _) (Nat.le_refl _) b1)); (obtain ⟨g1, g2, g3⟩ := K0.out.keep b1); (clear b1))
        exact bodyPost_ret (v := .tuple #[.slice none 0 0, .int .i64 25]) (by simp [results, Tryd.results18, go_sem]) rfl ⟨_, by rw [HE.out], by rw [HE.out]; exact ints_nil _ _, B1.out⟩
  · have HE := Lib.hid (show outR La S es s = ([], 1) by unfold outR; rw [if_neg h0])
    obtain ⟨z, hz⟩ : ∃ z, chkG La S es = z := ⟨_, rfl⟩
    simp only [hz] at HV
    rw [hz] at h0
    have d1 : (z != 0) = true := by simpa using h0
    clear h0 hz
    go_enter Tryd.func18, Tryd.ntmps18
    go_wp2_with (go_at_call 14; (with_reducible refine (HV.out _ (HRD.out.keep (below1 _ _))).mono ?_); rintro e0 W1 ⟨rfl, b1⟩; (have B1 := Lib.hid (below_more (below1 w _) (Nat.le_refl _) b1)); (clear b1))
    exact bodyPost_ret (v := .tuple #[.slice none 0 0, .int .i64 1]) (by simp [results, Tryd.results18, go_sem]) rfl ⟨_, by rw [HE.out], by rw [HE.out]; exact ints_nil _ _, B1.out⟩
end Go.Proofs.YtiebhalefdpjiaaDoor
