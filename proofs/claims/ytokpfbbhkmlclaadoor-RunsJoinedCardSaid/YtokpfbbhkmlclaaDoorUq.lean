/- What the reference implementation's Split returns. Condition: at most 1000 letters, or an error of Check. -/
import Derived.Test.YtokpfbbhkmlclaaDoorUm
namespace Go.Proofs.YtokpfbbhkmlclaaDoor
open Go.RowKit
set_option linter.unusedSimpArgs false
set_option linter.unusedVariables false

theorem splitR_zero {l : List UInt8} (h : chk 16 l = 0) : splitR l = (rns l, 0) := by unfold splitR; rw [if_pos h]
theorem splitR_err {l : List UInt8} {c : Int} (h : chk 16 l = c) (h0 : c ≠ 0) : splitR l = ([], c) := by unfold splitR; rw [if_neg (by rw [h]; exact h0), h]
/-- A cell of an owned row is written. -/
theorem own_set {W : World} {B t k n g c : Nat} {xs : List Value} (h : W.ownsRow B t k (.slice (some ⟨g, 0, none⟩) n c) n xs) (j : Nat) (v : Value) :
    (W.setCell ⟨g, j, none⟩ v).ownsRow B t k (.slice (some ⟨g, 0, none⟩) n c) n (xs.set j v) := by
  refine ⟨by rw [List.length_set]; exact h.1, ?_⟩
  rcases h.2 with ⟨h1, -⟩ | ⟨g', cap, cur, h1, h2, h3, h4, h5, h6, h7⟩
  · cases h1
  · injection h1 with e1 _ e2
    injection e1 with e1
    injection e1 with e1 _ _
    subst e1 e2
    refine .inr ⟨g, c, cur.setIfInBounds j v, rfl, h2, ?_, h4, h5, by rw [Array.size_setIfInBounds]; exact h6, ?_⟩
    · show (W.heap.modify g _)[g]? = _
      rw [Array.getElem?_modify, if_pos rfl, h3]
      rfl
    · rw [Array.toList_setIfInBounds, List.take_set, h7]
theorem rcl_set (r : List (Int × Int)) (d n m : Int) : ((rcl (r ++ [(d, n)])).set (r.length * 2) (.int .i64 d)).set (r.length * 2 + 1) (.int .i64 m) = rcl (r ++ [(d, m)]) := by
  rw [rcl_snoc, rcl_snoc, ← rcl_len, List.set_append_right _ _ (Nat.le_refl _), Nat.sub_self, List.set_append_right _ _ (by omega), show (rcl r).length + 1 - (rcl r).length = 1 by omega]
  rfl
theorem rns_prev {l : List UInt8} {i : Nat} {b : UInt8} (h : l[i]? = some b) : ∃ (r : List (Int × Int)) (n : Int), rns (l.take (i + 1)) = r ++ [((dgt b : Int), n)] ∧ 1 ≤ n ∧ n ≤ i + 1 := by
  rw [List.take_add_one, h]
  obtain ⟨r, n, e, h1, h2⟩ := rns_last (l.take i) b
  rw [List.length_take] at h2
  exact ⟨r, n, e, h1, by omega⟩
set_option maxRecDepth 100000 in
set_option maxHeartbeats 6400000 in
theorem refSplit_any (l : List UInt8) (w : World) (hl : l.length ≤ 1000 ∨ (65536 < l.length ∧ l.length ≤ 9223372036854775807)) :
    Calls Tryd.prog 14 #[.string ⟨l.toArray⟩] w (RunsOut w (splitR l)) := by
  have HC := Lib.hid (fun W => refCheck_any 16 l W (by omega))
  by_cases h0 : chk 16 l = 0
  · obtain ⟨m, hm, m1, m2, hl2, hW⟩ := chk_zero h0
    obtain rfl : m = 16 := by omega
    have hl3 : l.length ≤ 1000 := by omega
    rw [splitR_zero h0]
    simp only [h0] at HC
    obtain ⟨i0, hi, hz0, hz1, hz2⟩ := info_parts Tryd.infoRun
    have HW := Lib.hid hW
    clear hW hl h0 hm
    go_enter Tryd.func14, Tryd.ntmps14
    go_wp2_with (go_at_call 31; (with_reducible refine (HC.out _).mono ?_); rintro e W1 ⟨rfl, hW⟩; (rw [hW]); (clear hW))
    go_loopg [5, 6, 7] l.length (fun q s5 s6 s7 wx => ∃ i : Nat, i + q = l.length ∧ s6 = .int .i64 (i : Int) ∧ wx.ownsRow w.heap.size 45 2 s5 (rns (l.take i)).length (rcl (rns (l.take i))) ∧ Below w.heap.size w wx)
    case atStart =>
      refine ⟨0, by omega, rfl, ⟨rfl, .inr ⟨w.heap.size, 0, #[], rfl, Nat.le_refl _, heap_alloc_new w _, Nat.le_refl _, by unfold maxLen; omega, rfl, rfl⟩⟩, below1 w _⟩
    case round =>
      obtain ⟨i, hin, rfl, hown, hb⟩ := hrel
      obtain ⟨a5, c5, rfl⟩ := own_slice hown
      rcases gk with _ | q
      · obtain rfl : i = l.length := by omega
        have HI := Lib.hid (show RunsAt wr w.heap.size (.slice a5 (rns l).length c5) (rns l) by
          rw [List.take_length] at hown
          exact hown)
        rw [List.take_length]
        clear hown
        go_wp2
        exact bodyPost_ret (v := .tuple #[.slice a5 (rns l).length c5, .int .i64 0]) (by simp [results, Tryd.results14, go_sem]) rfl ⟨_, rfl, HI.out, hb⟩
      · have hil : i < l.length := by omega
        obtain ⟨c, hci⟩ : ∃ c, l[i]? = some c := ⟨_, List.getElem?_eq_getElem hil⟩
        have hix := run_at_bytes l i c hci (i : Int) rfl
        have hc16 : dgt c < 16 := HW.out c (List.mem_of_getElem? hci)
        have HN := Lib.hid (fun W => refNumber_any c W hc16)
        have hnx := rns_at hci
        rcases Nat.eq_zero_or_pos i with hi0 | hpos
        · have h00 : rns (l.take i) = [] := by rw [hi0, List.take_zero]; rfl
          have d1 : decide ((0 : Int) < (i : Int)) = false := decide_eq_false (by omega)
          have d2 : decide (0 < i) = false := decide_eq_false (by omega)
          have d3 : (0 < i) = False := eq_false (by omega)
          rw [h00] at hown hnx ⊢
          rw [List.length_nil] at hown ⊢
          clear hi0 h00
          rw [show rstep [] c = [((dgt c : Int), 1)] from rfl] at hnx
          obtain ⟨d, hd⟩ : ∃ d, dgt c = d := ⟨_, rfl⟩
          simp only [hd] at HN
          rw [hd] at hnx
          have HX := Lib.hid hnx
          clear hnx hci hd
          go_wp2_with fail
          go_big_region
          have hlt := hown.lt
          go_wp2_with (first
            | (go_at_call 38; (with_reducible refine (HN.out _).mono ?_); rintro e W1 ⟨rfl, hW⟩; (rw [hW]); (clear hW))
            | (at_builtin; refine wpList_append_own_at _ rfl _ _ 22 rfl w.heap.size 45 i0 (.agg #[.int .i64 0, .int .i64 0]) 2 16 Tryd.underlying22 hi hz0 hz1 hz2 rfl (by decide) _ _ _ rfl (hown.alloc _).drew ⟨wr.heap.size, 0, none⟩ 1 1 [.int .i64 (d : Int), .int .i64 1] rfl rfl ?c1 ?c2 ?c3 ?c4 ?c5 ?_))
          case c1 => exact cell_two_new _ _ _ _
          case c2 => intro u hu; simp at hu; rcases hu with rfl | rfl <;> rfl
          case c3 => unfold maxLen; omega
          case c4 => omega
          case c5 => exact ((hb.alloc hb.size _).drew).size
          intro v' W2 hown2 hgrow _ hv'
          have hb2 : Below w.heap.size w W2 := ((hb.alloc hb.size _).drew).grown hgrow ((hb.alloc hb.size _).drew).size (fun k hk => (hlt k hk).1)
          clear hown hgrow hlt hv' hb
          go_wp2
          go_roundg q
          case measure => omega
          case rel => exact ⟨i + 1, by omega, by go_num, by rw [HX.out]; exact hown2, hb2⟩
        · obtain ⟨j, rfl⟩ : ∃ j, i = j + 1 := ⟨i - 1, by omega⟩
          obtain ⟨c0, hcj⟩ : ∃ c, l[j]? = some c := ⟨_, List.getElem?_eq_getElem (by omega)⟩
          have hix0 := run_at_bytes l j c0 hcj (j : Int) rfl
          have hix1 := run_at_bytes l (j + 1) c hci ((j : Int) + 1) (by omega)
          have d1 : decide ((0 : Int) < (j : Int) + 1) = true := decide_eq_true (by omega)
          clear hix
          have hc016 : dgt c0 < 16 := HW.out c0 (List.mem_of_getElem? hcj)
          obtain ⟨r, n, hr, hn1, hn2⟩ := rns_prev hcj
          have hrl := rns_len (l.take (j + 1))
          rw [List.length_take] at hrl
          rw [hr] at hown hnx hrl ⊢
          rw [List.length_append, List.length_singleton] at hown hrl ⊢
          by_cases hcc : c0 = c
          · subst hcc
            rw [rstep_same] at hnx
            obtain ⟨d, hd⟩ : ∃ d, dgt c0 = d := ⟨_, rfl⟩
            rw [hd] at hnx hown
            have HX := Lib.hid hnx
            obtain ⟨g, c5', e5⟩ : ∃ g c, (Value.slice a5 (r.length + 1) c5) = .slice (some ⟨g, 0, none⟩) (r.length + 1) c := by
              obtain ⟨g, c, hv, _⟩ := hown.form (by omega)
              exact ⟨g, c, hv⟩
            injection e5 with e5 _ e6
            subst e5 e6
            have x1 : wr.cell? ⟨g, r.length * 2, none⟩ = some (.int .i64 (d : Int)) := (hown.cellAt (r.length * 2) (by omega)).trans (rcl_at (rs := r ++ [((d : Int), n)]) (i := r.length) (p := ((d : Int), n)) (by simp)).1
            have x2 : wr.cell? ⟨g, r.length * 2 + 1, none⟩ = some (.int .i64 n) := (hown.cellAt (r.length * 2 + 1) (by omega)).trans (rcl_at (rs := r ++ [((d : Int), n)]) (i := r.length) (p := ((d : Int), n)) (by simp)).2
            have f1 : ∀ j, wr.frozen? ⟨g, j, none⟩ = false := fun j => hown.frozenAt j
            have hs := own_set (own_set hown (r.length * 2) (.int .i64 (d : Int))) (r.length * 2 + 1) (.int .i64 (n + 1))
            rw [rcl_set] at hs
            have hgB : w.heap.size ≤ g := (hown.lt g rfl).1
            clear hnx hci hcj hd hr
            go_wp2_with fail
            go_big_region
            go_wp2_with fail
            go_big_region
            have hb2 : Below w.heap.size w (((wr.setCell ⟨g, r.length * 2, none⟩ (.int .i64 (d : Int))).setCell ⟨g, r.length * 2 + 1, none⟩ (.int .i64 (n + 1))).drew.drew) := ((hb.setCell (p := ⟨g, r.length * 2, none⟩) hgB _).setCell (p := ⟨g, r.length * 2 + 1, none⟩) hgB _).drew.drew
            have hs2 := hs.drew.drew
            clear hs hown hb x1 x2 f1
            go_wp2
            go_roundg q
            case measure => omega
            case rel => exact ⟨j + 1 + 1, by omega, by go_num, by rw [HX.out, List.length_append]; exact hs2, hb2⟩
          · rw [rstep_other _ _ _ _ (fun e => hcc (dgt_inj hc016 (by omega)))] at hnx
            have hne : ((c.toNat : Int) == (c0.toNat : Int)) = false := by
              rw [beq_eq_false_iff_ne]
              intro e
              exact hcc (UInt8.toNat_inj.1 (by omega))
            obtain ⟨d, hd⟩ : ∃ d, dgt c = d := ⟨_, rfl⟩
            simp only [hd] at HN
            rw [hd] at hnx
            have HX := Lib.hid hnx
            obtain ⟨r2, hr2⟩ : ∃ r2, r ++ [((dgt c0 : Int), n)] = r2 := ⟨_, rfl⟩
            have hr2l : r2.length = r.length + 1 := by rw [← hr2]; simp
            rw [hr2] at hown HX
            have hlt := hown.lt
            clear hnx hci hcj hd hr hr2 hcc
            go_wp2_with fail
            go_big_region
            go_wp2_with (first
              | (go_at_call 38; (with_reducible refine (HN.out _).mono ?_); rintro e W1 ⟨rfl, hW⟩; (rw [hW]); (clear hW))
              | (at_builtin; refine wpList_append_own_at _ rfl _ _ 22 rfl w.heap.size 45 i0 (.agg #[.int .i64 0, .int .i64 0]) 2 16 Tryd.underlying22 hi hz0 hz1 hz2 rfl (by decide) _ _ _ rfl (hown.alloc _).drew ⟨wr.heap.size, 0, none⟩ 1 1 [.int .i64 (d : Int), .int .i64 1] rfl rfl ?c1 ?c2 ?c3 ?c4 ?c5 ?_))
            case c1 => exact cell_two_new _ _ _ _
            case c2 => intro u hu; simp at hu; rcases hu with rfl | rfl <;> rfl
            case c3 => unfold maxLen; omega
            case c4 => omega
            case c5 => exact ((hb.alloc hb.size _).drew).size
            intro v' W2 hown2 hgrow _ hv'
            have hb2 : Below w.heap.size w W2 := ((hb.alloc hb.size _).drew).grown hgrow ((hb.alloc hb.size _).drew).size (fun k hk => (hlt k hk).1)
            rw [show rcl r2 ++ [.int .i64 (d : Int), .int .i64 1] = rcl (r2 ++ [((d : Int), 1)]) from (rcl_snoc r2 ((d : Int), 1)).symm] at hown2
            clear hown hgrow hlt hv' hb
            go_wp2
            go_roundg q
            case measure => omega
            case rel => exact ⟨j + 1 + 1, by omega, by go_num, by rw [HX.out, List.length_append, List.length_singleton, hr2l]; exact hown2, hb2⟩
  · obtain ⟨c, hc⟩ : ∃ c, chk 16 l = c := ⟨_, rfl⟩
    rw [hc] at h0
    rw [splitR_err hc h0]
    simp only [hc] at HC
    have h1 : (c == 0) = false := by rw [beq_eq_false_iff_ne]; exact h0
    clear hc h0
    go_enter Tryd.func14, Tryd.ntmps14
    go_wp2_with (go_at_call 31; (with_reducible refine (HC.out _).mono ?_); rintro e W1 ⟨rfl, hW⟩; (rw [hW]); (clear hW))
    exact bodyPost_ret (v := .tuple #[.slice none 0 0, .int .i64 c]) (by simp [results, Tryd.results14, go_sem]) rfl ⟨_, rfl, runs_nil _ _, Below.refl _ _⟩
end Go.Proofs.YtokpfbbhkmlclaaDoor
