/- What grooveref09.Sorted returns: the edges in order, each once. Condition: at most 1000 edges. What grooveref09.Same returns. Condition: at most a million edges each. What grooveref09.Make returns. Condition: at most 1000 edges for Make. -/
import Derived.Test.YtiockphjnkehnaaGreatDoorQ27
import Derived.Test.YtiockphjnkehnaaGreatDoorQ26
import Derived.BigQuiet
import Derived.Deep.CutBlock
import Derived.Test.YtiockphjnkehnaaGreatDoorQ07

namespace Go.Proofs.YtiockphjnkehnaaGreatDoor
open Go.RowKit Go.Shelf
set_option linter.unusedSimpArgs false
set_option linter.unusedVariables false

theorem mkE_nil : mkE [] = [] := List.eq_nil_of_length_eq_zero (Nat.le_zero.1 (mkE_len []))
set_option maxRecDepth 100000 in
set_option maxHeartbeats 6400000 in


theorem rsorted_any (es : List E3) (v : Value) (w : World) (hrd : EdgesRd w v es) (hlen : es.length ≤ 1000) :
    Calls Tryz.prog 89 #[v] w (NewEdges w (mkE es)) := by
  have hmx : Tryz.prog.follows .mixedOrders = true := by kernel_rfl
  have HRD := Lib.hid hrd
  obtain ⟨a, c, rfl⟩ := hrd.form
  obtain ⟨n, hn⟩ : ∃ n, es.length = n := ⟨_, rfl⟩
  have HN := Lib.hid hn
  rw [hn] at hlen HRD ⊢
  clear hrd hn
  go_enter Tryz.func89, Tryz.ntmps89
  go_wp2_with fail
  go_loopg [3, 4, 5] n (fun q s3 s4 s5 wx => ∃ (i : Nat) (O : List E3), i + q = n ∧ s4 = .int .i64 (i : Int) ∧ Hid (mkE (es.take i) = O) ∧ EdgesAt wx w.heap.size s3 O ∧ Below w.heap.size w wx)
  case atStart => exact ⟨0, [], by omega, rfl, Lib.hid (by rw [List.take_zero]; exact mkE_nil), edges_nil _ _, Below.refl _ _⟩
  case round =>
    obtain ⟨i, O, hiq, rfl, HO, hE, hb⟩ := hrel
    rcases gk with _ | q
    · obtain rfl : i = n := by omega
      have HE := Lib.hid (show mkE es = O by rw [← HO.out, List.take_of_length_le (by have := HN.out; omega)])
      obtain ⟨a3, cp3, rfl⟩ := hE.slice
      have HH := Lib.hid hE
      clear hE
      go_wp2_with fail
      go_ret
      exact ⟨_, rfl, by rw [HE.out]; exact HH.out, hb⟩
    · obtain ⟨e, he⟩ : ∃ e, es[i]? = some e := ⟨_, List.getElem?_eq_getElem (by have := HN.out; omega)⟩
      have HEI := Lib.hid he
      have hlO : O.length ≤ i := by
        have h1 := mkE_len (es.take i)
        rw [HO.out, List.length_take] at h1
        omega
      have HRW := Lib.hid (HRD.out.keep hb)
      obtain ⟨b, off, c', hv, k1, k2, k3⟩ := HRW.out.at he
      injection hv with e1 e2 e3
      subst e1
      subst e3
      obtain ⟨x, y, z⟩ := e
      dsimp only at k1 k2 k3
      have j1 : (i : Int) < (n : Int) := by omega
      have j1' : i < n := by omega
      obtain ⟨m, hm⟩ : ∃ m, O.length = m := ⟨_, rfl⟩
      have HM := Lib.hid hm
      obtain ⟨a3, cp3, rfl⟩ := hE.slice
      rw [hm] at hE hlO ⊢
      have HE3 := Lib.hid hE
      obtain ⟨W0, hW0⟩ : ∃ W0, W0 = wr := ⟨_, rfl⟩
      rw [← hW0] at hb HRW k1 k2 k3 HE3
      have HB := Lib.hid hb
      have KC := Lib.hid (show W0.cell? ⟨b, off + i * 3, none⟩ = some (.int .i64 x) ∧ W0.cell? ⟨b, off + i * 3 + 1, none⟩ = some (.int .i64 y) ∧ W0.cell? ⟨b, off + i * 3 + 2, none⟩ = some (.int .i64 z) from ⟨k1, k2, k3⟩)
      clear hE he k1 k2 k3 hm hb e2
      go_upto_block 2 with fail
      subst hW0
      go_cut [5] (fun s5 wx => ∃ (k : Nat), k ≤ m ∧ s5 = .int .i64 (k : Int) ∧ Hid (∀ u, u ∈ O.take k → ltE u (x, y, z) = true) ∧ Hid (∀ u, O[k]? = some u → ltE u (x, y, z) = false) ∧ Below W0.heap.size W0 wx)
      case first =>
        go_wp2_with fail
        go_loopg [5] m (fun q2 s5 wx => ∃ (k : Nat), k + q2 = m ∧ s5 = .int .i64 (k : Int) ∧ Hid (∀ u, u ∈ O.take k → ltE u (x, y, z) = true) ∧ Below W0.heap.size W0 wx)
        case atStart => exact ⟨0, by omega, rfl, Lib.hid (fun u hu => by simp at hu), Below.refl _ _⟩
        case round =>
          obtain ⟨k, hk, rfl, HT, hb2⟩ := hrel
          rcases gk with _ | q2
          · obtain rfl : k = m := by omega
            have HT2 := Lib.hid (show ∀ u, O[k]? = some u → ltE u (x, y, z) = false from fun u hu => by have := (List.getElem?_eq_some_iff.1 hu).1; have := HM.out; omega)
            have d1 : decide ((k : Int) < (k : Int)) = false := decide_eq_false (by omega)
            have d2 : decide (k < k) = false := decide_eq_false (by omega)
            clear hk
            go_upto_region 6 with fail
            go_quiet (fail)
            rename_i nq
            go_wp2_with fail
            go_meet
            exact ⟨k, Nat.le_refl _, rfl, HT, HT2, below_drewM hb2 nq⟩
          · obtain ⟨u, hu⟩ : ∃ u, O[k]? = some u := ⟨_, List.getElem?_eq_getElem (by have := HM.out; omega)⟩
            have HU := Lib.hid hu
            obtain ⟨b3, off3, c4, hv, g1, g2, g3⟩ := EdgesRd.at (show EdgesRd wr (.slice a3 O.length cp3) O by have h := HE3.out.rd; rw [HM.out]; exact h.keep hb2) hu
            injection hv with e1 e2 e3
            subst e1
            subst e3
            obtain ⟨u1, u2, u3⟩ := u
            dsimp only at g1 g2 g3
            obtain ⟨k1, k2, k3⟩ := id KC.out
            have k1 := cell_keep k1 hb2
            have k2 := cell_keep k2 hb2
            have k3 := cell_keep k3 hb2
            have hc := cmpE_lt (u1, u2, u3) (x, y, z)
            have d1 : decide ((k : Int) < (m : Int)) = true := decide_eq_true (by omega)
            have d2 : decide (k < m) = true := decide_eq_true (by omega)
            have j2 : (k : Int) < (m : Int) := by omega
            have j2' : k < m := by omega
            have HM2 := Lib.hid (fun W => rcompare_any (u1, u2, u3) (x, y, z) W)
            obtain ⟨mm, hmm⟩ : ∃ mm, cmpE (u1, u2, u3) (x, y, z) = mm := ⟨_, rfl⟩
            rw [hmm] at hc
            simp only [hmm] at HM2
            clear hmm hu e2
            cases hlt : ltE (u1, u2, u3) (x, y, z) with
            | true =>
              rw [hlt] at hc
              have HT2 := Lib.hid (mem_take_succ HU.out hlt HT.out)
              clear HT hlt
              go_upto_region 6 with fail
              go_region_held3 (fun W => W.cell? ⟨b, off + i * 3, none⟩ = some (.int .i64 x) ∧ W.cell? ⟨b, off + i * 3 + 1, none⟩ = some (.int .i64 y) ∧ W.cell? ⟨b, off + i * 3 + 2, none⟩ = some (.int .i64 z) ∧
                  W.cell? ⟨b3, off3 + k * 3, none⟩ = some (.int .i64 u1) ∧ W.cell? ⟨b3, off3 + k * 3 + 1, none⟩ = some (.int .i64 u2) ∧ W.cell? ⟨b3, off3 + k * 3 + 2, none⟩ = some (.int .i64 u3))
                (first | exact ⟨k1, k2, k3, g1, g2, g3⟩ | exact ⟨cell_keep (Wp := wr.drew) (by exact k1) b2, cell_keep (Wp := wr.drew) (by exact k2) b2, cell_keep (Wp := wr.drew) (by exact k3) b2, cell_keep (Wp := wr.drew) (by exact g1) b2, cell_keep (Wp := wr.drew) (by exact g2) b2, cell_keep (Wp := wr.drew) (by exact g3) b2⟩)
                (first | (go_at_call 52; (with_reducible refine (HM2.out _).mono ?_); rintro e0 W4 ⟨rfl, b2⟩))
              have hb3 := below_more hb2.drew (by have := hb2.size; omega) b2
              go_wp2_with fail
              go_roundg q2
              case measure => omega
              case rel => exact ⟨k + 1, by omega, by go_num, HT2, hb3⟩
            | false =>
              rw [hlt] at hc
              have HT2 := Lib.hid (show ∀ u, O[k]? = some u → ltE u (x, y, z) = false from fun u hu => by rw [HU.out] at hu; injection hu with hu; subst hu; exact hlt)
              clear hlt
              go_upto_region 6 with fail
              go_region_held3 (fun W => W.cell? ⟨b, off + i * 3, none⟩ = some (.int .i64 x) ∧ W.cell? ⟨b, off + i * 3 + 1, none⟩ = some (.int .i64 y) ∧ W.cell? ⟨b, off + i * 3 + 2, none⟩ = some (.int .i64 z) ∧
                  W.cell? ⟨b3, off3 + k * 3, none⟩ = some (.int .i64 u1) ∧ W.cell? ⟨b3, off3 + k * 3 + 1, none⟩ = some (.int .i64 u2) ∧ W.cell? ⟨b3, off3 + k * 3 + 2, none⟩ = some (.int .i64 u3))
                (first | exact ⟨k1, k2, k3, g1, g2, g3⟩ | exact ⟨cell_keep (Wp := wr.drew) (by exact k1) b2, cell_keep (Wp := wr.drew) (by exact k2) b2, cell_keep (Wp := wr.drew) (by exact k3) b2, cell_keep (Wp := wr.drew) (by exact g1) b2, cell_keep (Wp := wr.drew) (by exact g2) b2, cell_keep (Wp := wr.drew) (by exact g3) b2⟩)
                (first | (go_at_call 52; (with_reducible refine (HM2.out _).mono ?_); rintro e0 W4 ⟨rfl, b2⟩))
              have hb3 := below_more hb2.drew (by have := hb2.size; omega) b2
              go_wp2_with fail
              go_meet
              exact ⟨k, by omega, rfl, HT, HT2, hb3⟩
      case rest =>
        obtain ⟨k, hkm, rfl, HT, HT2, hb2⟩ := hcut
        go_upto_region 8 with fail
        go_cut [44] (fun s44 wx => s44 = .bool (decide (O[k]? = some (x, y, z))) ∧ Below W0.heap.size W0 wx)
        case first =>
          by_cases hk : k = m
          · subst hk
            have HE := Lib.hid (show decide (O[k]? = some (x, y, z)) = false from decide_eq_false (fun h => by have := (List.getElem?_eq_some_iff.1 h).1; have := HM.out; omega))
            have d1 : decide ((k : Int) < (k : Int)) = false := decide_eq_false (by omega)
            have d2 : decide (k < k) = false := decide_eq_false (by omega)
            clear HT HT2
            go_quiet (fail)
            rename_i nq
            go_wp2_with fail
            go_meet
            exact ⟨by rw [HE.out], below_drewM hb2 nq⟩
          · obtain ⟨u, hu⟩ : ∃ u, O[k]? = some u := ⟨_, List.getElem?_eq_getElem (by have := HM.out; omega)⟩
            obtain ⟨b3, off3, c4, hv, g1, g2, g3⟩ := EdgesRd.at (show EdgesRd _ (.slice a3 O.length cp3) O by have h := HE3.out.rd; rw [HM.out]; exact h.keep hb2) hu
            injection hv with e1 e2 e3
            subst e1
            subst e3
            have HE := Lib.hid (show decide (O[k]? = some (x, y, z)) = eqE u (x, y, z) by
              rw [hu]
              cases hq : eqE u (x, y, z) with
              | true => rw [eqE_iff.1 hq]; simp
              | false => exact decide_eq_false (fun h => by injection h with h; rw [eqE_iff.2 h] at hq; cases hq))
            obtain ⟨u1, u2, u3⟩ := u
            dsimp only at g1 g2 g3
            obtain ⟨k1, k2, k3⟩ := id KC.out
            have k1 := cell_keep k1 hb2
            have k2 := cell_keep k2 hb2
            have k3 := cell_keep k3 hb2
            have hgd := fun (op : BinOp) (a b : Operand) (w : World) => eqlE.2 op a b (u1, u2, u3) (x, y, z) w
            have heq := fun (w : World) => eqlE.1 (u1, u2, u3) (x, y, z) w
            simp only [encE] at hgd heq
            have d1 : decide ((k : Int) < (m : Int)) = true := decide_eq_true (by omega)
            have d2 : decide (k < m) = true := decide_eq_true (by omega)
            have j2 : (k : Int) < (m : Int) := by omega
            have j2' : k < m := by omega
            clear hu HT HT2 hk hkm e2
            cases hq : eqE (u1, u2, u3) (x, y, z) with
            | true =>
              rw [hq] at heq HE
              clear hq
              go_quiet (fail)
              rename_i nq
              go_wp2_with fail
              go_meet
              exact ⟨by rw [HE.out], below_drewM hb2 nq⟩
            | false =>
              rw [hq] at heq HE
              clear hq
              go_quiet (fail)
              rename_i nq
              go_wp2_with fail
              go_meet
              exact ⟨by rw [HE.out], below_drewM hb2 nq⟩
        case rest =>
          clear hb2
          obtain ⟨rfl, hb2⟩ := hcut
          obtain ⟨bq, hbq⟩ : ∃ bq, decide (O[k]? = some (x, y, z)) = bq := ⟨_, rfl⟩
          rw [hbq]
          cases bq with
          | true =>
            have hx := of_decide_eq_true hbq
            have HO2 := Lib.hid (mkE_skip HO.out HEI.out hx)
            have HE4 := Lib.hid (HE3.out.keep hb2)
            clear hx hbq
            go_wp2_with fail
            go_roundg q
            case measure => omega
            case rel => exact ⟨i + 1, O, by omega, by go_num, HO2, HE4.out, below_more HB.out (by have := HB.out.size; omega) hb2⟩
          | false =>
            have hx := of_decide_eq_false hbq
            have HO2 := Lib.hid (mkE_put HO.out HEI.out HT.out (fun u hu => by
              have h1 := HT2.out u hu
              cases h2 : ltE (x, y, z) u with
              | true => rfl
              | false => exact absurd (by rw [hu, ltE_total' h1 h2]) hx))
            clear hx HT HT2 hbq
            go_upto_region 9 with fail
            obtain ⟨W9, hW9⟩ : ∃ W9, wc = W9 := ⟨_, rfl⟩
            rw [hW9] at hb2 ⊢
            clear hW9
            obtain ⟨mk, hmk⟩ : ∃ mk, k + mk = m := ⟨m - k, by omega⟩
            have HF := Lib.hid (show (a3 = none ∧ m = 0 ∧ k = 0 ∧ cp3 = 0) ∨ ∃ g, a3 = some ⟨g, 0, none⟩ ∧ m ≤ cp3 from by
              rcases HE3.out.2 with ⟨h1, h2⟩ | ⟨g, cap, cur, h1, -, -, h3, -⟩
              · injection h1 with e1 e2 e3
                exact .inl ⟨e1, e2, by omega, e3⟩
              · injection h1 with e1 e2 e3
                rw [HM.out] at h3
                exact .inr ⟨g, e1, by omega⟩)
            have HOR := Lib.hid (show ∀ wy, Below W9.heap.size W9 wy → EdgesRd wy (.slice a3 m cp3) O from fun wy h => by
              have h1 := (HE3.out.rd).keep (below_more hb2 (Nat.le_refl _) h)
              exact h1)
            have HTK := Lib.hid (show ∀ wy, Below W9.heap.size W9 wy → EdgesRd wy (.slice a3 k cp3) (O.take k) from fun wy h => rd_take (HOR.out wy h) (by rw [HM.out]; exact hkm))
            have HXC := Lib.hid (show ∀ wy, Below W9.heap.size W9 wy → wy.cell? ⟨b, off + i * 3, none⟩ = some (.int .i64 x) ∧ wy.cell? ⟨b, off + i * 3 + 1, none⟩ = some (.int .i64 y) ∧ wy.cell? ⟨b, off + i * 3 + 2, none⟩ = some (.int .i64 z) from fun wy h => by
              obtain ⟨k1, k2, k3⟩ := KC.out
              have h1 := below_more hb2 (Nat.le_refl _) h
              exact ⟨cell_keep k1 h1, cell_keep k2 h1, cell_keep k3 h1⟩)
            have HD0 := Lib.hid (show m = 0 → O.drop k = [] from fun h => by rw [List.drop_eq_nil_of_le (by rw [HM.out]; omega)])
            have HDK := Lib.hid (show cp3 = k → O.drop k = [] from fun h => by
              rcases HF.out with ⟨-, h2, h3, h4⟩ | ⟨g, -, h2⟩
              · exact HD0.out h2
              · rw [List.drop_eq_nil_of_le (by rw [HM.out]; omega)])
            have hB9 := Lib.hid (below_more HB.out (by have := HB.out.size; omega) hb2)
            have HOL := Lib.hid (show O.length = k + mk by rw [HM.out]; omega)
            have hkl : O.length ≤ 1000 := by rw [HM.out]; omega
            have KB : Below W9.heap.size W9 W9.drew := (Below.refl _ _).drew
            refine region_inv' (J := (fun Ls act wx => ∃ u45 u46 u47 u48 u49 u50 u51 u52 u53 u54 u55 u56 u57 u58 u59 u3, act = { tmps := #[.slice (some ⟨b, off, none⟩) n c, undef, .slice none 0 0, u3, .int .i64 (i : Int), .int .i64 (k : Int), u6, u7, u8, u9, u10, u11, u12, u13, u14, u15, u16, u17, u18, u19, u20, u21, u22, u23, u24, u25, u26, u27, u28, u29, u30, u31, u32, u33, u34, u35, u36, u37, u38, u39, u40, u41, u42, u43, .bool false, u45, u46, u47, u48, u49, u50, u51, u52, u53, u54, u55, u56, u57, u58, u59, undef], defers := [] } ∧ Below W9.heap.size W9 wx ∧
                  (Ls.getD 0 false = true → Ls.getD 4 false = false → EdgesAt wx W9.heap.size u45 []) ∧ (Ls.getD 1 false = true → u46 = .slice a3 m cp3) ∧ (Ls.getD 2 false = true → u47 = .int .i64 (k : Int)) ∧ (Ls.getD 3 false = true → u48 = .slice a3 k cp3) ∧ (Ls.getD 4 false = true → Ls.getD 10 false = false → EdgesAt wx W9.heap.size u49 (O.take k)) ∧ (Ls.getD 5 false = true → u50 = .slice (some ⟨b, off, none⟩) n c) ∧ (Ls.getD 6 false = true → u51 = .int .i64 (i : Int)) ∧ (Ls.getD 7 false = true → u52 = .pointer (some ⟨b, off + i * 3, none⟩)) ∧ (Ls.getD 8 false = true → u53 = .agg #[.int .i64 x, .int .i64 y, .int .i64 z]) ∧ (Ls.getD 9 false = true → Ls.getD 10 false = false → OneE wx W9.heap.size u54 (x, y, z) ∧ (Ls.getD 0 false = true → Ls.getD 4 false = false → Ap u54 u45) ∧ (Ls.getD 4 false = true → Ap u54 u49)) ∧ (Ls.getD 10 false = true → Ls.getD 14 false = false → EdgesAt wx W9.heap.size u55 (O.take k ++ [(x, y, z)])) ∧ (Ls.getD 11 false = true → u56 = .slice a3 m cp3) ∧ (Ls.getD 12 false = true → u57 = .int .i64 (k : Int)) ∧ (Ls.getD 13 false = true → ∃ A c', u58 = .slice A mk c' ∧ ∀ wy, Below W9.heap.size W9 wy → EdgesRd wy (.slice A mk c') (O.drop k)) ∧ (Ls.getD 14 false = true → EdgesAt wx W9.heap.size u59 (O.take k ++ [(x, y, z)] ++ O.drop k)) ∧ (Ls.getD 15 false = true → u3 = u59) ∧ (Ls.getD 15 false = false → u3 = .slice a3 m cp3) ∧ (Ls.getD 15 false = true → Ls.getD 1 false = true) ∧ (Ls.getD 15 false = true → Ls.getD 11 false = true) ∧ (Ls.getD 15 false = true → Ls.getD 14 false = true) ∧ (Ls.getD 10 false = true → Ls.getD 4 false = true) ∧ (Ls.getD 14 false = true → Ls.getD 10 false = true) ∧ Ls.size = 16)) hmx (by kernel_rfl) ?_ ?_ ?_
            · exact ⟨u45, u46, u47, u48, u49, u50, u51, u52, u53, u54, u55, u56, u57, u58, u59, .slice a3 m cp3, rfl, KB, fun h => absurd h (by decide), fun h => absurd h (by decide), fun h => absurd h (by decide), fun h => absurd h (by decide), fun h => absurd h (by decide), fun h => absurd h (by decide), fun h => absurd h (by decide), fun h => absurd h (by decide), fun h => absurd h (by decide), fun h => absurd h (by decide), fun h => absurd h (by decide), fun h => absurd h (by decide), fun h => absurd h (by decide), fun h => absurd h (by decide), fun h => absurd h (by decide), fun h => absurd h (by decide), fun _ => rfl, fun h => absurd h (by decide), fun h => absurd h (by decide), fun h => absurd h (by decide), fun h => absurd h (by decide), fun h => absurd h (by decide), rfl⟩
            · intro i' hi Ls act wx hl hw ⟨u45, u46, u47, u48, u49, u50, u51, u52, u53, u54, u55, u56, u57, u58, u59, u3, ha, lo, c0, c1, c2, c3, c4, c5, c6, c7, c8, c9, c10, c11, c12, c13, c14, c15, kq, k15_1, k15_11, k15_14, k10_4, k14_10, hz⟩
              subst ha
              clear KB
              have hi' : i' = 0 ∨ i' = 1 ∨ i' = 2 ∨ i' = 3 ∨ i' = 4 ∨ i' = 5 ∨ i' = 6 ∨ i' = 7 ∨ i' = 8 ∨ i' = 9 ∨ i' = 10 ∨ i' = 11 ∨ i' = 12 ∨ i' = 13 ∨ i' = 14 ∨ i' = 15 := by
                have : i' < 16 := hi
                omega
              rcases hi' with rfl | rfl | rfl | rfl | rfl | rfl | rfl | rfl | rfl | rfl | rfl | rfl | rfl | rfl | rfl | rfl
              · refine stepJ (i := 0) rfl (fun K hK => ?_)
                go_simp
                refine hK.out _ _ ⟨_, u46, u47, u48, u49, u50, u51, u52, u53, u54, u55, u56, u57, u58, u59, u3, rfl, lo.alloc lo.size _, fun _ _ => edges_none lo.size rfl, fun h => c1 (fl (by decide) h), fun h => c2 (fl (by decide) h), fun h => c3 (fl (by decide) h), fun h h' => (c4 (fl (by decide) h) (ff (by decide) h')).keep (below1 wx _), fun h => c5 (fl (by decide) h), fun h => c6 (fl (by decide) h), fun h => c7 (fl (by decide) h), fun h => c8 (fl (by decide) h), fun h h' => by obtain ⟨y1, y2, y3⟩ := c9 (fl (by decide) h) (ff (by decide) h'); exact ⟨y1.keep (below1 wx _), fun z1 z2 => y1.apart _ _, fun z1 => y3 (fl (by decide) z1)⟩, fun h h' => (c10 (fl (by decide) h) (ff (by decide) h')).keep (below1 wx _), fun h => c11 (fl (by decide) h), fun h => c12 (fl (by decide) h), fun h => c13 (fl (by decide) h), fun h => (c14 (fl (by decide) h)).keep (below1 wx _), fun h => c15 (fl (by decide) h), fun h => kq (ff (by decide) h), fun h => getD_set_true (k15_1 (fl (by decide) h)), fun h => getD_set_true (k15_11 (fl (by decide) h)), fun h => getD_set_true (k15_14 (fl (by decide) h)), fun h => getD_set_true (k10_4 (fl (by decide) h)), fun h => getD_set_true (k14_10 (fl (by decide) h)), (Array.size_setIfInBounds ..).trans hz⟩
              · refine stepJ (i := 1) rfl (fun K hK => ?_)
                have h15 : Ls.getD 15 false = false := by cases hh : Ls.getD 15 false with | false => rfl | true => exact absurd ((k15_1 hh).symm.trans hl) (by decide)
                obtain rfl := kq h15
                go_simp
                refine hK.out _ _ ⟨u45, _, u47, u48, u49, u50, u51, u52, u53, u54, u55, u56, u57, u58, u59, _, rfl, lo, fun h h' => (c0 (fl (by decide) h) (ff (by decide) h')), fun _ => rfl, fun h => c2 (fl (by decide) h), fun h => c3 (fl (by decide) h), fun h h' => (c4 (fl (by decide) h) (ff (by decide) h')), fun h => c5 (fl (by decide) h), fun h => c6 (fl (by decide) h), fun h => c7 (fl (by decide) h), fun h => c8 (fl (by decide) h), fun h h' => by obtain ⟨y1, y2, y3⟩ := c9 (fl (by decide) h) (ff (by decide) h'); exact ⟨y1, fun z1 z2 => y2 (fl (by decide) z1) (ff (by decide) z2), fun z1 => y3 (fl (by decide) z1)⟩, fun h h' => (c10 (fl (by decide) h) (ff (by decide) h')), fun h => c11 (fl (by decide) h), fun h => c12 (fl (by decide) h), fun h => c13 (fl (by decide) h), fun h => (c14 (fl (by decide) h)), fun h => c15 (fl (by decide) h), fun _ => rfl, fun h => getD_set_true (k15_1 (fl (by decide) h)), fun h => getD_set_true (k15_11 (fl (by decide) h)), fun h => getD_set_true (k15_14 (fl (by decide) h)), fun h => getD_set_true (k10_4 (fl (by decide) h)), fun h => getD_set_true (k14_10 (fl (by decide) h)), (Array.size_setIfInBounds ..).trans hz⟩
              · refine stepJ (i := 2) rfl (fun K hK => ?_)
                go_simp
                refine hK.out _ _ ⟨u45, u46, _, u48, u49, u50, u51, u52, u53, u54, u55, u56, u57, u58, u59, u3, rfl, lo, fun h h' => (c0 (fl (by decide) h) (ff (by decide) h')), fun h => c1 (fl (by decide) h), fun _ => rfl, fun h => c3 (fl (by decide) h), fun h h' => (c4 (fl (by decide) h) (ff (by decide) h')), fun h => c5 (fl (by decide) h), fun h => c6 (fl (by decide) h), fun h => c7 (fl (by decide) h), fun h => c8 (fl (by decide) h), fun h h' => by obtain ⟨y1, y2, y3⟩ := c9 (fl (by decide) h) (ff (by decide) h'); exact ⟨y1, fun z1 z2 => y2 (fl (by decide) z1) (ff (by decide) z2), fun z1 => y3 (fl (by decide) z1)⟩, fun h h' => (c10 (fl (by decide) h) (ff (by decide) h')), fun h => c11 (fl (by decide) h), fun h => c12 (fl (by decide) h), fun h => c13 (fl (by decide) h), fun h => (c14 (fl (by decide) h)), fun h => c15 (fl (by decide) h), fun h => kq (ff (by decide) h), fun h => getD_set_true (k15_1 (fl (by decide) h)), fun h => getD_set_true (k15_11 (fl (by decide) h)), fun h => getD_set_true (k15_14 (fl (by decide) h)), fun h => getD_set_true (k10_4 (fl (by decide) h)), fun h => getD_set_true (k14_10 (fl (by decide) h)), (Array.size_setIfInBounds ..).trans hz⟩
              · refine stepJ (i := 3) rfl (fun K hK => ?_)
                obtain rfl := c1 (hw 1 (by kernel_rfl))
                obtain rfl := c2 (hw 2 (by kernel_rfl))
                rcases HF.out with ⟨rfl, rfl, rfl, rfl⟩ | ⟨g, rfl, hmc⟩
                · go_simp
                  refine hK.out _ _ ⟨u45, _, _, _, u49, u50, u51, u52, u53, u54, u55, u56, u57, u58, u59, u3, rfl, lo, fun h h' => (c0 (fl (by decide) h) (ff (by decide) h')), fun _ => rfl, fun _ => rfl, fun _ => rfl, fun h h' => (c4 (fl (by decide) h) (ff (by decide) h')), fun h => c5 (fl (by decide) h), fun h => c6 (fl (by decide) h), fun h => c7 (fl (by decide) h), fun h => c8 (fl (by decide) h), fun h h' => by obtain ⟨y1, y2, y3⟩ := c9 (fl (by decide) h) (ff (by decide) h'); exact ⟨y1, fun z1 z2 => y2 (fl (by decide) z1) (ff (by decide) z2), fun z1 => y3 (fl (by decide) z1)⟩, fun h h' => (c10 (fl (by decide) h) (ff (by decide) h')), fun h => c11 (fl (by decide) h), fun h => c12 (fl (by decide) h), fun h => c13 (fl (by decide) h), fun h => (c14 (fl (by decide) h)), fun h => c15 (fl (by decide) h), fun h => kq (ff (by decide) h), fun h => getD_set_true (k15_1 (fl (by decide) h)), fun h => getD_set_true (k15_11 (fl (by decide) h)), fun h => getD_set_true (k15_14 (fl (by decide) h)), fun h => getD_set_true (k10_4 (fl (by decide) h)), fun h => getD_set_true (k14_10 (fl (by decide) h)), (Array.size_setIfInBounds ..).trans hz⟩
                · have j1 : k ≤ cp3 := by omega
                  go_simp
                  refine hK.out _ _ ⟨u45, _, _, _, u49, u50, u51, u52, u53, u54, u55, u56, u57, u58, u59, u3, rfl, lo, fun h h' => (c0 (fl (by decide) h) (ff (by decide) h')), fun _ => rfl, fun _ => rfl, fun _ => rfl, fun h h' => (c4 (fl (by decide) h) (ff (by decide) h')), fun h => c5 (fl (by decide) h), fun h => c6 (fl (by decide) h), fun h => c7 (fl (by decide) h), fun h => c8 (fl (by decide) h), fun h h' => by obtain ⟨y1, y2, y3⟩ := c9 (fl (by decide) h) (ff (by decide) h'); exact ⟨y1, fun z1 z2 => y2 (fl (by decide) z1) (ff (by decide) z2), fun z1 => y3 (fl (by decide) z1)⟩, fun h h' => (c10 (fl (by decide) h) (ff (by decide) h')), fun h => c11 (fl (by decide) h), fun h => c12 (fl (by decide) h), fun h => c13 (fl (by decide) h), fun h => (c14 (fl (by decide) h)), fun h => c15 (fl (by decide) h), fun h => kq (ff (by decide) h), fun h => getD_set_true (k15_1 (fl (by decide) h)), fun h => getD_set_true (k15_11 (fl (by decide) h)), fun h => getD_set_true (k15_14 (fl (by decide) h)), fun h => getD_set_true (k10_4 (fl (by decide) h)), fun h => getD_set_true (k14_10 (fl (by decide) h)), (Array.size_setIfInBounds ..).trans hz⟩
              · refine stepJ (i := 4) rfl (fun K hK => ?_)
                have k0 := c0 (hw 0 (by kernel_rfl)) hl
                obtain rfl := c3 (hw 3 (by kernel_rfl))
                refine step_appE (by rfl) (.tmp 45) (.tmp 48) (by rfl) (by rfl) k0 a3 k cp3 (by rfl) (HTK.out wx lo) (by simp only [List.length_nil, List.length_take]; omega) lo.size ?_
                intro v' W2 e2 g2 r2
                (try simp only [Act.put, List.setIfInBounds_toArray, List.set_cons_zero, List.set_cons_succ])
                refine hK.out _ _ ⟨u45, u46, u47, _, _, u50, u51, u52, u53, u54, u55, u56, u57, u58, u59, u3, rfl, lo.grown g2 lo.size (fun p hp => (k0.lt p hp).1), fun _ h' => absurd ((fx (by rw [hz]; decide)).symm.trans h') (by decide), fun h => c1 (fl (by decide) h), fun h => c2 (fl (by decide) h), fun _ => rfl, fun _ _ => by simpa using e2, fun h => c5 (fl (by decide) h), fun h => c6 (fl (by decide) h), fun h => c7 (fl (by decide) h), fun h => c8 (fl (by decide) h), fun h h' => by obtain ⟨y1, y2, y3⟩ := c9 (fl (by decide) h) (ff (by decide) h'); exact ⟨y1.grown g2 (y2 (hw 0 (by kernel_rfl)) hl), fun z1 z2 => absurd ((fx (by rw [hz]; decide)).symm.trans z2) (by decide), fun z1 => y1.ap (y2 (hw 0 (by kernel_rfl)) hl) r2⟩, fun h _ => absurd ((k10_4 (fl (by decide) h)).symm.trans hl) (by decide), fun h => c11 (fl (by decide) h), fun h => c12 (fl (by decide) h), fun h => c13 (fl (by decide) h), fun h => absurd ((k10_4 (k14_10 (fl (by decide) h))).symm.trans hl) (by decide), fun h => c15 (fl (by decide) h), fun h => kq (ff (by decide) h), fun h => getD_set_true (k15_1 (fl (by decide) h)), fun h => getD_set_true (k15_11 (fl (by decide) h)), fun h => getD_set_true (k15_14 (fl (by decide) h)), fun h => getD_set_true (k10_4 (fl (by decide) h)), fun h => getD_set_true (k14_10 (fl (by decide) h)), (Array.size_setIfInBounds ..).trans hz⟩
              · refine stepJ (i := 5) rfl (fun K hK => ?_)
                go_simp
                refine hK.out _ _ ⟨u45, u46, u47, u48, u49, _, u51, u52, u53, u54, u55, u56, u57, u58, u59, u3, rfl, lo, fun h h' => (c0 (fl (by decide) h) (ff (by decide) h')), fun h => c1 (fl (by decide) h), fun h => c2 (fl (by decide) h), fun h => c3 (fl (by decide) h), fun h h' => (c4 (fl (by decide) h) (ff (by decide) h')), fun _ => rfl, fun h => c6 (fl (by decide) h), fun h => c7 (fl (by decide) h), fun h => c8 (fl (by decide) h), fun h h' => by obtain ⟨y1, y2, y3⟩ := c9 (fl (by decide) h) (ff (by decide) h'); exact ⟨y1, fun z1 z2 => y2 (fl (by decide) z1) (ff (by decide) z2), fun z1 => y3 (fl (by decide) z1)⟩, fun h h' => (c10 (fl (by decide) h) (ff (by decide) h')), fun h => c11 (fl (by decide) h), fun h => c12 (fl (by decide) h), fun h => c13 (fl (by decide) h), fun h => (c14 (fl (by decide) h)), fun h => c15 (fl (by decide) h), fun h => kq (ff (by decide) h), fun h => getD_set_true (k15_1 (fl (by decide) h)), fun h => getD_set_true (k15_11 (fl (by decide) h)), fun h => getD_set_true (k15_14 (fl (by decide) h)), fun h => getD_set_true (k10_4 (fl (by decide) h)), fun h => getD_set_true (k14_10 (fl (by decide) h)), (Array.size_setIfInBounds ..).trans hz⟩
              · refine stepJ (i := 6) rfl (fun K hK => ?_)
                go_simp
                refine hK.out _ _ ⟨u45, u46, u47, u48, u49, u50, _, u52, u53, u54, u55, u56, u57, u58, u59, u3, rfl, lo, fun h h' => (c0 (fl (by decide) h) (ff (by decide) h')), fun h => c1 (fl (by decide) h), fun h => c2 (fl (by decide) h), fun h => c3 (fl (by decide) h), fun h h' => (c4 (fl (by decide) h) (ff (by decide) h')), fun h => c5 (fl (by decide) h), fun _ => rfl, fun h => c7 (fl (by decide) h), fun h => c8 (fl (by decide) h), fun h h' => by obtain ⟨y1, y2, y3⟩ := c9 (fl (by decide) h) (ff (by decide) h'); exact ⟨y1, fun z1 z2 => y2 (fl (by decide) z1) (ff (by decide) z2), fun z1 => y3 (fl (by decide) z1)⟩, fun h h' => (c10 (fl (by decide) h) (ff (by decide) h')), fun h => c11 (fl (by decide) h), fun h => c12 (fl (by decide) h), fun h => c13 (fl (by decide) h), fun h => (c14 (fl (by decide) h)), fun h => c15 (fl (by decide) h), fun h => kq (ff (by decide) h), fun h => getD_set_true (k15_1 (fl (by decide) h)), fun h => getD_set_true (k15_11 (fl (by decide) h)), fun h => getD_set_true (k15_14 (fl (by decide) h)), fun h => getD_set_true (k10_4 (fl (by decide) h)), fun h => getD_set_true (k14_10 (fl (by decide) h)), (Array.size_setIfInBounds ..).trans hz⟩
              · refine stepJ (i := 7) rfl (fun K hK => ?_)
                obtain rfl := c5 (hw 5 (by kernel_rfl))
                obtain rfl := c6 (hw 6 (by kernel_rfl))
                go_simp
                refine hK.out _ _ ⟨u45, u46, u47, u48, u49, _, _, _, u53, u54, u55, u56, u57, u58, u59, u3, rfl, lo, fun h h' => (c0 (fl (by decide) h) (ff (by decide) h')), fun h => c1 (fl (by decide) h), fun h => c2 (fl (by decide) h), fun h => c3 (fl (by decide) h), fun h h' => (c4 (fl (by decide) h) (ff (by decide) h')), fun _ => rfl, fun _ => rfl, fun _ => rfl, fun h => c8 (fl (by decide) h), fun h h' => by obtain ⟨y1, y2, y3⟩ := c9 (fl (by decide) h) (ff (by decide) h'); exact ⟨y1, fun z1 z2 => y2 (fl (by decide) z1) (ff (by decide) z2), fun z1 => y3 (fl (by decide) z1)⟩, fun h h' => (c10 (fl (by decide) h) (ff (by decide) h')), fun h => c11 (fl (by decide) h), fun h => c12 (fl (by decide) h), fun h => c13 (fl (by decide) h), fun h => (c14 (fl (by decide) h)), fun h => c15 (fl (by decide) h), fun h => kq (ff (by decide) h), fun h => getD_set_true (k15_1 (fl (by decide) h)), fun h => getD_set_true (k15_11 (fl (by decide) h)), fun h => getD_set_true (k15_14 (fl (by decide) h)), fun h => getD_set_true (k10_4 (fl (by decide) h)), fun h => getD_set_true (k14_10 (fl (by decide) h)), (Array.size_setIfInBounds ..).trans hz⟩
              · refine stepJ (i := 8) rfl (fun K hK => ?_)
                obtain rfl := c7 (hw 7 (by kernel_rfl))
                obtain ⟨g1, g2, g3⟩ := HXC.out wx lo
                go_simp
                refine hK.out _ _ ⟨u45, u46, u47, u48, u49, u50, u51, _, _, u54, u55, u56, u57, u58, u59, u3, rfl, lo, fun h h' => (c0 (fl (by decide) h) (ff (by decide) h')), fun h => c1 (fl (by decide) h), fun h => c2 (fl (by decide) h), fun h => c3 (fl (by decide) h), fun h h' => (c4 (fl (by decide) h) (ff (by decide) h')), fun h => c5 (fl (by decide) h), fun h => c6 (fl (by decide) h), fun _ => rfl, fun _ => rfl, fun h h' => by obtain ⟨y1, y2, y3⟩ := c9 (fl (by decide) h) (ff (by decide) h'); exact ⟨y1, fun z1 z2 => y2 (fl (by decide) z1) (ff (by decide) z2), fun z1 => y3 (fl (by decide) z1)⟩, fun h h' => (c10 (fl (by decide) h) (ff (by decide) h')), fun h => c11 (fl (by decide) h), fun h => c12 (fl (by decide) h), fun h => c13 (fl (by decide) h), fun h => (c14 (fl (by decide) h)), fun h => c15 (fl (by decide) h), fun h => kq (ff (by decide) h), fun h => getD_set_true (k15_1 (fl (by decide) h)), fun h => getD_set_true (k15_11 (fl (by decide) h)), fun h => getD_set_true (k15_14 (fl (by decide) h)), fun h => getD_set_true (k10_4 (fl (by decide) h)), fun h => getD_set_true (k14_10 (fl (by decide) h)), (Array.size_setIfInBounds ..).trans hz⟩
              · refine stepJ (i := 9) rfl (fun K hK => ?_)
                obtain rfl := c8 (hw 8 (by kernel_rfl))
                go_simp
                refine hK.out _ _ ⟨u45, u46, u47, u48, u49, u50, u51, u52, _, _, u55, u56, u57, u58, u59, u3, rfl, lo.alloc lo.size _, fun h h' => (c0 (fl (by decide) h) (ff (by decide) h')).keep (below1 wx _), fun h => c1 (fl (by decide) h), fun h => c2 (fl (by decide) h), fun h => c3 (fl (by decide) h), fun h h' => (c4 (fl (by decide) h) (ff (by decide) h')).keep (below1 wx _), fun h => c5 (fl (by decide) h), fun h => c6 (fl (by decide) h), fun h => c7 (fl (by decide) h), fun _ => rfl, fun _ h' => ⟨OneE.new lo.size, fun z1 z2 => ap_new (c0 (fl (by decide) z1) (ff (by decide) z2)), fun z1 => ap_new (c4 (fl (by decide) z1) (ff (by decide) h'))⟩, fun h h' => (c10 (fl (by decide) h) (ff (by decide) h')).keep (below1 wx _), fun h => c11 (fl (by decide) h), fun h => c12 (fl (by decide) h), fun h => c13 (fl (by decide) h), fun h => (c14 (fl (by decide) h)).keep (below1 wx _), fun h => c15 (fl (by decide) h), fun h => kq (ff (by decide) h), fun h => getD_set_true (k15_1 (fl (by decide) h)), fun h => getD_set_true (k15_11 (fl (by decide) h)), fun h => getD_set_true (k15_14 (fl (by decide) h)), fun h => getD_set_true (k10_4 (fl (by decide) h)), fun h => getD_set_true (k14_10 (fl (by decide) h)), (Array.size_setIfInBounds ..).trans hz⟩
              · refine stepJ (i := 10) rfl (fun K hK => ?_)
                have k4 := c4 (hw 4 (by kernel_rfl)) hl
                obtain ⟨⟨p, rfl, bx, hp⟩, -, hap⟩ := c9 (hw 9 (by kernel_rfl)) hl
                have hap := hap (hw 4 (by kernel_rfl))
                refine step_appE (by rfl) (.tmp 49) (.tmp 54) (by rfl) (by rfl) k4 (some ⟨p, 0, none⟩) 1 1 (by rfl) (OneE.rd ⟨p, rfl, bx, hp⟩) (by simp only [List.length_cons, List.length_nil, List.length_take]; omega) lo.size ?_
                intro v' W2 e2 g2 r2
                (try simp only [Act.put, List.setIfInBounds_toArray, List.set_cons_zero, List.set_cons_succ])
                refine hK.out _ _ ⟨u45, u46, u47, u48, u49, u50, u51, u52, u53, _, _, u56, u57, u58, u59, u3, rfl, lo.grown g2 lo.size (fun p hp => (k4.lt p hp).1), fun _ h' => absurd ((hw 4 (by kernel_rfl)).symm.trans (ff (by decide) h')) (by decide), fun h => c1 (fl (by decide) h), fun h => c2 (fl (by decide) h), fun h => c3 (fl (by decide) h), fun _ h' => absurd ((fx (by rw [hz]; decide)).symm.trans h') (by decide), fun h => c5 (fl (by decide) h), fun h => c6 (fl (by decide) h), fun h => c7 (fl (by decide) h), fun h => c8 (fl (by decide) h), fun _ h' => absurd ((fx (by rw [hz]; decide)).symm.trans h') (by decide), fun _ _ => e2, fun h => c11 (fl (by decide) h), fun h => c12 (fl (by decide) h), fun h => c13 (fl (by decide) h), fun h => absurd ((k14_10 (fl (by decide) h)).symm.trans hl) (by decide), fun h => c15 (fl (by decide) h), fun h => kq (ff (by decide) h), fun h => getD_set_true (k15_1 (fl (by decide) h)), fun h => getD_set_true (k15_11 (fl (by decide) h)), fun h => getD_set_true (k15_14 (fl (by decide) h)), fun _ => getD_set_true (hw 4 (by kernel_rfl)), fun h => getD_set_true (k14_10 (fl (by decide) h)), (Array.size_setIfInBounds ..).trans hz⟩
              · refine stepJ (i := 11) rfl (fun K hK => ?_)
                have h15 : Ls.getD 15 false = false := by cases hh : Ls.getD 15 false with | false => rfl | true => exact absurd ((k15_11 hh).symm.trans hl) (by decide)
                obtain rfl := kq h15
                go_simp
                refine hK.out _ _ ⟨u45, u46, u47, u48, u49, u50, u51, u52, u53, u54, u55, _, u57, u58, u59, _, rfl, lo, fun h h' => (c0 (fl (by decide) h) (ff (by decide) h')), fun h => c1 (fl (by decide) h), fun h => c2 (fl (by decide) h), fun h => c3 (fl (by decide) h), fun h h' => (c4 (fl (by decide) h) (ff (by decide) h')), fun h => c5 (fl (by decide) h), fun h => c6 (fl (by decide) h), fun h => c7 (fl (by decide) h), fun h => c8 (fl (by decide) h), fun h h' => by obtain ⟨y1, y2, y3⟩ := c9 (fl (by decide) h) (ff (by decide) h'); exact ⟨y1, fun z1 z2 => y2 (fl (by decide) z1) (ff (by decide) z2), fun z1 => y3 (fl (by decide) z1)⟩, fun h h' => (c10 (fl (by decide) h) (ff (by decide) h')), fun _ => rfl, fun h => c12 (fl (by decide) h), fun h => c13 (fl (by decide) h), fun h => (c14 (fl (by decide) h)), fun h => c15 (fl (by decide) h), fun _ => rfl, fun h => getD_set_true (k15_1 (fl (by decide) h)), fun h => getD_set_true (k15_11 (fl (by decide) h)), fun h => getD_set_true (k15_14 (fl (by decide) h)), fun h => getD_set_true (k10_4 (fl (by decide) h)), fun h => getD_set_true (k14_10 (fl (by decide) h)), (Array.size_setIfInBounds ..).trans hz⟩
              · refine stepJ (i := 12) rfl (fun K hK => ?_)
                go_simp
                refine hK.out _ _ ⟨u45, u46, u47, u48, u49, u50, u51, u52, u53, u54, u55, u56, _, u58, u59, u3, rfl, lo, fun h h' => (c0 (fl (by decide) h) (ff (by decide) h')), fun h => c1 (fl (by decide) h), fun h => c2 (fl (by decide) h), fun h => c3 (fl (by decide) h), fun h h' => (c4 (fl (by decide) h) (ff (by decide) h')), fun h => c5 (fl (by decide) h), fun h => c6 (fl (by decide) h), fun h => c7 (fl (by decide) h), fun h => c8 (fl (by decide) h), fun h h' => by obtain ⟨y1, y2, y3⟩ := c9 (fl (by decide) h) (ff (by decide) h'); exact ⟨y1, fun z1 z2 => y2 (fl (by decide) z1) (ff (by decide) z2), fun z1 => y3 (fl (by decide) z1)⟩, fun h h' => (c10 (fl (by decide) h) (ff (by decide) h')), fun h => c11 (fl (by decide) h), fun _ => rfl, fun h => c13 (fl (by decide) h), fun h => (c14 (fl (by decide) h)), fun h => c15 (fl (by decide) h), fun h => kq (ff (by decide) h), fun h => getD_set_true (k15_1 (fl (by decide) h)), fun h => getD_set_true (k15_11 (fl (by decide) h)), fun h => getD_set_true (k15_14 (fl (by decide) h)), fun h => getD_set_true (k10_4 (fl (by decide) h)), fun h => getD_set_true (k14_10 (fl (by decide) h)), (Array.size_setIfInBounds ..).trans hz⟩
              · refine stepJ (i := 13) rfl (fun K hK => ?_)
                obtain rfl := c11 (hw 11 (by kernel_rfl))
                obtain rfl := c12 (hw 12 (by kernel_rfl))
                rcases HF.out with ⟨rfl, rfl, rfl, rfl⟩ | ⟨g, rfl, hmc⟩
                · go_simp
                  refine hK.out _ _ ⟨u45, u46, u47, u48, u49, u50, u51, u52, u53, u54, u55, _, _, _, u59, u3, rfl, lo, fun h h' => (c0 (fl (by decide) h) (ff (by decide) h')), fun h => c1 (fl (by decide) h), fun h => c2 (fl (by decide) h), fun h => c3 (fl (by decide) h), fun h h' => (c4 (fl (by decide) h) (ff (by decide) h')), fun h => c5 (fl (by decide) h), fun h => c6 (fl (by decide) h), fun h => c7 (fl (by decide) h), fun h => c8 (fl (by decide) h), fun h h' => by obtain ⟨y1, y2, y3⟩ := c9 (fl (by decide) h) (ff (by decide) h'); exact ⟨y1, fun z1 z2 => y2 (fl (by decide) z1) (ff (by decide) z2), fun z1 => y3 (fl (by decide) z1)⟩, fun h h' => (c10 (fl (by decide) h) (ff (by decide) h')), fun _ => rfl, fun _ => rfl, fun _ => ⟨none, 0, by rw [show mk = 0 by omega], fun wy _ => by rw [show mk = 0 by omega, HD0.out (by omega)]; exact rd_none _ _ _⟩, fun h => (c14 (fl (by decide) h)), fun h => c15 (fl (by decide) h), fun h => kq (ff (by decide) h), fun h => getD_set_true (k15_1 (fl (by decide) h)), fun h => getD_set_true (k15_11 (fl (by decide) h)), fun h => getD_set_true (k15_14 (fl (by decide) h)), fun h => getD_set_true (k10_4 (fl (by decide) h)), fun h => getD_set_true (k14_10 (fl (by decide) h)), (Array.size_setIfInBounds ..).trans hz⟩
                · by_cases hck : cp3 = k
                  · have j0 : mk = 0 := by omega
                    have j2 : m = k := by omega
                    subst j0
                    have j1 : k ≤ cp3 := by omega
                    go_simp
                    refine hK.out _ _ ⟨u45, u46, u47, u48, u49, u50, u51, u52, u53, u54, u55, _, _, _, u59, u3, rfl, lo, fun h h' => (c0 (fl (by decide) h) (ff (by decide) h')), fun h => c1 (fl (by decide) h), fun h => c2 (fl (by decide) h), fun h => c3 (fl (by decide) h), fun h h' => (c4 (fl (by decide) h) (ff (by decide) h')), fun h => c5 (fl (by decide) h), fun h => c6 (fl (by decide) h), fun h => c7 (fl (by decide) h), fun h => c8 (fl (by decide) h), fun h h' => by obtain ⟨y1, y2, y3⟩ := c9 (fl (by decide) h) (ff (by decide) h'); exact ⟨y1, fun z1 z2 => y2 (fl (by decide) z1) (ff (by decide) z2), fun z1 => y3 (fl (by decide) z1)⟩, fun h h' => (c10 (fl (by decide) h) (ff (by decide) h')), fun _ => by rw [j2, hck], fun _ => rfl, fun _ => ⟨_, _, rfl, fun wy _ => by rw [HDK.out hck]; exact rd_none _ _ _⟩, fun h => (c14 (fl (by decide) h)), fun h => c15 (fl (by decide) h), fun h => kq (ff (by decide) h), fun h => getD_set_true (k15_1 (fl (by decide) h)), fun h => getD_set_true (k15_11 (fl (by decide) h)), fun h => getD_set_true (k15_14 (fl (by decide) h)), fun h => getD_set_true (k10_4 (fl (by decide) h)), fun h => getD_set_true (k14_10 (fl (by decide) h)), (Array.size_setIfInBounds ..).trans hz⟩
                  · have j1 : k ≤ cp3 := by omega
                    have j2 : k ≤ m := by omega
                    go_simp
                    refine hK.out _ _ ⟨u45, u46, u47, u48, u49, u50, u51, u52, u53, u54, u55, _, _, _, u59, u3, rfl, lo, fun h h' => (c0 (fl (by decide) h) (ff (by decide) h')), fun h => c1 (fl (by decide) h), fun h => c2 (fl (by decide) h), fun h => c3 (fl (by decide) h), fun h h' => (c4 (fl (by decide) h) (ff (by decide) h')), fun h => c5 (fl (by decide) h), fun h => c6 (fl (by decide) h), fun h => c7 (fl (by decide) h), fun h => c8 (fl (by decide) h), fun h h' => by obtain ⟨y1, y2, y3⟩ := c9 (fl (by decide) h) (ff (by decide) h'); exact ⟨y1, fun z1 z2 => y2 (fl (by decide) z1) (ff (by decide) z2), fun z1 => y3 (fl (by decide) z1)⟩, fun h h' => (c10 (fl (by decide) h) (ff (by decide) h')), fun _ => rfl, fun _ => rfl, fun _ => ⟨some ⟨g, k * 3, none⟩, cp3 - k, by rw [show m - k = mk by omega], fun wy h => by simpa using rd_drop (c' := cp3 - k) (HOR.out wy h) HOL.out.symm⟩, fun h => (c14 (fl (by decide) h)), fun h => c15 (fl (by decide) h), fun h => kq (ff (by decide) h), fun h => getD_set_true (k15_1 (fl (by decide) h)), fun h => getD_set_true (k15_11 (fl (by decide) h)), fun h => getD_set_true (k15_14 (fl (by decide) h)), fun h => getD_set_true (k10_4 (fl (by decide) h)), fun h => getD_set_true (k14_10 (fl (by decide) h)), (Array.size_setIfInBounds ..).trans hz⟩
              · refine stepJ (i := 14) rfl (fun K hK => ?_)
                have k10 := c10 (hw 10 (by kernel_rfl)) hl
                obtain ⟨A, c', rfl, hs⟩ := c13 (hw 13 (by kernel_rfl))
                refine step_appE (by rfl) (.tmp 55) (.tmp 58) (by rfl) (by rfl) k10 A mk c' (by rfl) (hs wx lo) (by simp only [List.length_append, List.length_cons, List.length_nil, List.length_take, List.length_drop]; omega) lo.size ?_
                intro v' W2 e2 g2 r2
                (try simp only [Act.put, List.setIfInBounds_toArray, List.set_cons_zero, List.set_cons_succ])
                refine hK.out _ _ ⟨u45, u46, u47, u48, u49, u50, u51, u52, u53, u54, u55, u56, u57, _, _, u3, rfl, lo.grown g2 lo.size (fun p hp => (k10.lt p hp).1), fun _ h' => absurd ((k10_4 (hw 10 (by kernel_rfl))).symm.trans (ff (by decide) h')) (by decide), fun h => c1 (fl (by decide) h), fun h => c2 (fl (by decide) h), fun h => c3 (fl (by decide) h), fun _ h' => absurd ((hw 10 (by kernel_rfl)).symm.trans (ff (by decide) h')) (by decide), fun h => c5 (fl (by decide) h), fun h => c6 (fl (by decide) h), fun h => c7 (fl (by decide) h), fun h => c8 (fl (by decide) h), fun _ h' => absurd ((hw 10 (by kernel_rfl)).symm.trans (ff (by decide) h')) (by decide), fun _ h' => absurd ((fx (by rw [hz]; decide)).symm.trans h') (by decide), fun h => c11 (fl (by decide) h), fun h => c12 (fl (by decide) h), fun _ => ⟨A, c', rfl, hs⟩, fun _ => e2, fun h => absurd ((k15_14 (fl (by decide) h)).symm.trans hl) (by decide), fun h => kq (ff (by decide) h), fun h => getD_set_true (k15_1 (fl (by decide) h)), fun h => getD_set_true (k15_11 (fl (by decide) h)), fun h => getD_set_true (k15_14 (fl (by decide) h)), fun h => getD_set_true (k10_4 (fl (by decide) h)), fun _ => getD_set_true (hw 10 (by kernel_rfl)), (Array.size_setIfInBounds ..).trans hz⟩
              · refine stepJ (i := 15) rfl (fun K hK => ?_)
                go_simp
                refine hK.out _ _ ⟨u45, u46, u47, u48, u49, u50, u51, u52, u53, u54, u55, u56, u57, u58, u59, _, rfl, lo, fun h h' => (c0 (fl (by decide) h) (ff (by decide) h')), fun h => c1 (fl (by decide) h), fun h => c2 (fl (by decide) h), fun h => c3 (fl (by decide) h), fun h h' => (c4 (fl (by decide) h) (ff (by decide) h')), fun h => c5 (fl (by decide) h), fun h => c6 (fl (by decide) h), fun h => c7 (fl (by decide) h), fun h => c8 (fl (by decide) h), fun h h' => by obtain ⟨y1, y2, y3⟩ := c9 (fl (by decide) h) (ff (by decide) h'); exact ⟨y1, fun z1 z2 => y2 (fl (by decide) z1) (ff (by decide) z2), fun z1 => y3 (fl (by decide) z1)⟩, fun h h' => (c10 (fl (by decide) h) (ff (by decide) h')), fun h => c11 (fl (by decide) h), fun h => c12 (fl (by decide) h), fun h => c13 (fl (by decide) h), fun h => (c14 (fl (by decide) h)), fun _ => rfl, fun h => absurd ((fx (by rw [hz]; decide)).symm.trans h) (by decide), fun _ => getD_set_true (hw 1 (by kernel_rfl)), fun _ => getD_set_true (hw 11 (by kernel_rfl)), fun _ => getD_set_true (hw 14 (by kernel_rfl)), fun h => getD_set_true (k10_4 (fl (by decide) h)), fun h => getD_set_true (k14_10 (fl (by decide) h)), (Array.size_setIfInBounds ..).trans hz⟩
            · rintro Ls act wx hall ⟨u45, u46, u47, u48, u49, u50, u51, u52, u53, u54, u55, u56, u57, u58, u59, u3, rfl, lo, c0, c1, c2, c3, c4, c5, c6, c7, c8, c9, c10, c11, c12, c13, c14, c15, kq, k15_1, k15_11, k15_14, k10_4, k14_10, hz⟩
              obtain rfl := c15 (hall 15 (by decide))
              have P14 := Lib.hid (c14 (hall 14 (by decide)))
              have LO := Lib.hid lo
              obtain rfl := c1 (hall 1 (by decide))
              obtain rfl := c2 (hall 2 (by decide))
              obtain rfl := c3 (hall 3 (by decide))
              obtain rfl := c5 (hall 5 (by decide))
              obtain rfl := c6 (hall 6 (by decide))
              obtain rfl := c7 (hall 7 (by decide))
              obtain rfl := c8 (hall 8 (by decide))
              obtain rfl := c11 (hall 11 (by decide))
              obtain rfl := c12 (hall 12 (by decide))
              clear hall lo c0 c1 c2 c3 c4 c5 c6 c7 c8 c9 c10 c11 c12 c13 c14 c15 kq k15_1 k15_11 k15_14 k10_4 k14_10 hz
              have hsz9 : w.heap.size ≤ W9.heap.size := hB9.out.size
              go_wp2_with fail
              go_roundg q
              case measure => omega
              case rel => exact ⟨i + 1, _, by omega, by go_num, HO2, own_low P14.out hsz9, below_more hB9.out (Nat.le_refl _) LO.out⟩
end Go.Proofs.YtiockphjnkehnaaGreatDoor

namespace Go.Proofs.YtiockphjnkehnaaGreatDoor
open Go.RowKit Go.Shelf
set_option linter.unusedSimpArgs false
set_option linter.unusedVariables false

theorem sameG_of {L S : Int} {es fs : List E3} : sameG L S es L S fs = decide (es = fs) := by
  unfold sameG
  rw [decide_eq_decide]
  exact ⟨fun h => h.2.2, fun h => ⟨rfl, rfl, h⟩⟩
set_option maxRecDepth 100000 in
set_option maxHeartbeats 3200000 in
theorem rsame_any (L S L' S' : Int) (es fs : List E3) (v1 v2 : Value) (w : World) (h1 : EdgesRd w v1 es) (h2 : EdgesRd w v2 fs) (hn : es.length ≤ 1000000) (hm : fs.length ≤ 1000000) :
    Calls Tryz.prog 12 #[grV L S v1, grV L' S' v2] w fun e w' => e = .returned (.bool (sameG L S es L' S' fs)) ∧ Below w.heap.size w w' := by
  have b0 := below_more (below1 w (.cells #[.int .i64 L, .int .i64 S, v1] 24)) (Nat.le_refl _) (below1 _ (.cells #[.int .i64 L', .int .i64 S', v2] 24))
  have HA := Lib.hid (h1.keep b0)
  have HB := Lib.hid (h2.keep b0)
  have B0 := Lib.hid b0
  have K1 := Lib.hid ((BoxG.new w L S v1 24).keep (below1 _ (.cells #[.int .i64 L', .int .i64 S', v2] 24)))
  have K2 := Lib.hid (BoxG.new (w.alloc (.cells #[.int .i64 L, .int .i64 S, v1] 24)) L' S' v2 24)
  obtain ⟨a1, c1, rfl⟩ := h1.form
  obtain ⟨a2, c2, rfl⟩ := h2.form
  clear h1 h2 b0
  by_cases hL : L = L'
  · subst hL
    by_cases hS : S = S'
    · subst hS
      by_cases hl : es.length = fs.length
      · have HE := Lib.hid (sameG_of (L := L) (S := S) (es := es) (fs := fs))
        obtain ⟨n, hn'⟩ : ∃ n, fs.length = n := ⟨_, rfl⟩
        have HN := Lib.hid hn'
        have HM := Lib.hid (hl.trans hn')
        rw [hn'] at hl hm HB K1 K2 B0 HA ⊢
        rw [hl] at hn HA HB K1 K2 B0 ⊢
        clear hl hn'
        obtain ⟨W0, hW0⟩ : ∃ W0, (w.alloc (.cells #[.int .i64 L, .int .i64 S, .slice a1 n c1] 24)).alloc (.cells #[.int .i64 L, .int .i64 S, .slice a2 n c2] 24) = W0 := ⟨_, rfl⟩
        rw [hW0] at HA HB K1 K2 B0
        rw [World.size_alloc] at K2
        obtain ⟨g1, g2, g3⟩ := id K1.out
        obtain ⟨g4, g5, g6⟩ := id K2.out
        have HW := Lib.hid hW0
        clear hW0
        go_enter Tryz.func12, Tryz.ntmps12
        go_wp2_with fail
        rw [HW.out]
        clear HW
        go_loopg [5] n (fun q s5 wx => ∃ (i nq : Nat), i + q = n ∧ s5 = .int .i64 (i : Int) ∧ wx = W0.drewN nq ∧ Hid (∀ j, j < i → es[j]? = fs[j]?))
        case atStart => exact ⟨0, 0, by omega, rfl, rfl, Lib.hid (fun j hj => by omega)⟩
        case round =>
          obtain ⟨i, nq, hiq, rfl, rfl, HQ⟩ := hrel
          rcases gk with _ | q
          · obtain rfl : i = n := by omega
            have HR := Lib.hid (show decide (es = fs) = true from decide_eq_true (List.ext_getElem? (fun j => by
              rcases Nat.lt_or_ge j i with h | h
              · exact HQ.out j h
              · rw [List.getElem?_eq_none (by have := HM.out; omega), List.getElem?_eq_none (by have := HN.out; omega)])))
            clear HQ
            go_wp2_with fail
            go_ret
            exact ⟨by rw [HE.out, HR.out]; rfl, below_drewM B0.out _⟩
          · obtain ⟨x, hx⟩ : ∃ x, es[i]? = some x := ⟨_, List.getElem?_eq_getElem (by have := HM.out; omega)⟩
            obtain ⟨y, hy⟩ : ∃ y, fs[i]? = some y := ⟨_, List.getElem?_eq_getElem (by have := HN.out; omega)⟩
            have HX := Lib.hid hx
            have HY := Lib.hid hy
            obtain ⟨b, off, c', hv, k1, k2, k3⟩ := HA.out.at hx
            injection hv with e1 e2 e3
            subst e1
            subst e3
            obtain ⟨b', off', c'', hv, k4, k5, k6⟩ := HB.out.at hy
            injection hv with e4 e5 e6
            subst e4
            subst e6
            obtain ⟨x1, x2, x3⟩ := x
            obtain ⟨y1, y2, y3⟩ := y
            dsimp only at k1 k2 k3 k4 k5 k6
            have hgd := fun (op : BinOp) (a b : Operand) (w : World) => neqE.2 op a b (x1, x2, x3) (y1, y2, y3) w
            have heq := fun (w : World) => neqE.1 (x1, x2, x3) (y1, y2, y3) w
            simp only [encE] at hgd heq
            have j1 : (i : Int) < (n : Int) := by omega
            have j1' : i < n := by omega
            clear hx hy e2 e5
            cases hq : eqE (x1, x2, x3) (y1, y2, y3) with
            | true =>
              rw [hq] at heq
              have HQ2 := Lib.hid (show ∀ j, j < i + 1 → es[j]? = fs[j]? from fun j hj => by
                rcases Nat.lt_or_ge j i with h | h
                · exact HQ.out j h
                · obtain rfl : j = i := by omega
                  rw [HX.out, HY.out, eqE_iff.1 hq])
              clear hq HQ HX HY
              go_upto_region 6 with fail
              go_quiet (fail)
              go_wp2_with fail
              go_roundg q
              case measure => omega
              case rel => exact ⟨i + 1, _, by omega, by go_num, rfl, HQ2⟩
            | false =>
              rw [hq] at heq
              have HR := Lib.hid (show decide (es = fs) = false from decide_eq_false (fun h => by
                have h1 := HX.out
                rw [h, HY.out] at h1
                injection h1 with h1
                rw [eqE_iff.2 h1.symm] at hq
                cases hq))
              clear hq HQ HX HY
              go_upto_region 6 with fail
              go_quiet (fail)
              go_wp2_with fail
              go_ret
              exact ⟨by rw [HE.out, HR.out]; rfl, below_drewM (below_drewM B0.out _) _⟩
      · have HE := Lib.hid (show sameG L S es L S fs = false from decide_eq_false (fun h => hl (by rw [h.2.2])))
        have d3 : ((es.length : Int) != (fs.length : Int)) = true := by simp; omega
        have d4 : (es.length != fs.length) = true := by simp; omega
        clear hl
        go_enter Tryz.func12, Tryz.ntmps12
        go_wp2_with fail
        go_ret
        exact ⟨by rw [HE.out]; rfl, B0.out⟩
    · have d2 : (S != S') = true := by simpa using hS
      have HE := Lib.hid (show sameG L S es L S' fs = false from decide_eq_false (fun h => hS h.2.1))
      clear hS
      go_enter Tryz.func12, Tryz.ntmps12
      go_wp2_with fail
      go_ret
      exact ⟨by rw [HE.out]; rfl, B0.out⟩
  · have d1 : (L != L') = true := by simpa using hL
    have HE := Lib.hid (show sameG L S es L' S' fs = false from decide_eq_false (fun h => hL h.1))
    clear hL
    go_enter Tryz.func12, Tryz.ntmps12
    go_wp2_with fail
    go_ret
    exact ⟨by rw [HE.out]; rfl, B0.out⟩
end Go.Proofs.YtiockphjnkehnaaGreatDoor

namespace Go.Proofs.YtiockphjnkehnaaGreatDoor
open Go.RowKit Go.Shelf
set_option linter.unusedSimpArgs false
set_option linter.unusedVariables false

set_option maxRecDepth 100000 in
set_option maxHeartbeats 3200000 in
theorem rmake_any (L S : Int) (es : List E3) (v : Value) (w : World) (hrd : EdgesRd w v es) (hlen : es.length ≤ 1000) :
    Calls Tryz.prog 59 #[.int .i64 L, .int .i64 S, v] w (GOut w (makeR L S es)) := by
  have hB := below1 w (.cells #[.int .i64 0, .int .i64 0, .slice none 0 0] 24)
  have HS := Lib.hid (rsorted_any es v _ (hrd.keep hB) hlen)
  have R0 := Lib.hid (BoxF.new w 0 0 (.slice none 0 0) 24)
  have B0 := Lib.hid hB
  have Z0 := Lib.hid (World.size_alloc w (.cells #[.int .i64 0, .int .i64 0, .slice none 0 0] 24))
  have hml := mkE_len es
  have HMR := Lib.hid (show makeR L S es = if chkG L S (mkE es) = 0 then (L, S, mkE es, 0) else (0, 0, [], chkG L S (mkE es)) from rfl)
  obtain ⟨ms, hms⟩ : ∃ ms, mkE es = ms := ⟨_, rfl⟩
  simp only [hms] at HS HMR
  rw [hms] at hml
  have HCK := Lib.hid (fun v' W h => rcheck_any L S ms v' W h (by omega))
  obtain ⟨z, hz⟩ : ∃ z, chkG L S ms = z := ⟨_, rfl⟩
  simp only [hz] at HMR HCK
  obtain ⟨a, c, rfl⟩ := hrd.form
  clear hrd hB hms hz
  by_cases h0 : z = 0
  · subst h0
    have HE := Lib.hid (show makeR L S es = (L, S, ms, 0) from HMR.out)
    go_enter Tryz.func59, Tryz.ntmps59
    go_wp2_with (first
      | (go_at_call 89; (with_reducible refine HS.out.mono ?_); rintro e W2 ⟨v2, rfl, i2, b2⟩; (obtain ⟨a2, c2, rfl⟩ := i2.slice); (have bm := below1 W2 (.cells #[.int .i64 L, .int .i64 S, .slice a2 ms.length c2] 24)); (have K2 := Lib.hid (show MK w L S (.slice a2 ms.length c2) ms W2.heap.size (W2.alloc (.cells #[.int .i64 L, .int .i64 S, .slice a2 ms.length c2] 24)) from ⟨(R0.out.keep b2).keep bm, BoxG.new W2 L S _ _, EdgesAt.keep (by rw [Z0.out] at i2; exact i2) bm, below_more (below_more B0.out (Nat.le_refl _) b2) (Nat.le_refl _) bm⟩)); (clear i2 b2 bm); (obtain ⟨g1, g2, g3⟩ := id K2.out.g))
      | (go_at_call 23; (with_reducible refine (HCK.out _ _ (EdgesAt.rd K2.out.e)).mono ?_); rintro e W3 ⟨rfl, b3⟩; (have K3 := Lib.hid (K2.out.keep b3)); (clear b3 g1 g2 g3); (obtain ⟨g1, g2, g3⟩ := id K3.out.g); (obtain ⟨⟨r1, r2, r3⟩, r4, r5, r6⟩ := id K3.out.r)))
    rw [HE.out]
    exact bodyPost_ret (v := .tuple #[grV L S (.slice a2 ms.length c2), .int .i64 0]) (by simp [results, Tryz.results59, go_sem, r1, r2, r3]) rfl
      ⟨_, rfl, edges_over K3.out.e (Nat.lt_succ_self _) _ _ _ (Nat.le_succ _), below_over K3.out.b (Nat.le_refl _) _ _ _⟩
  · have HE := Lib.hid (show makeR L S es = (0, 0, [], z) by rw [HMR.out, if_neg h0])
    have d1 : (z != 0) = true := by simpa using h0
    clear h0
    go_enter Tryz.func59, Tryz.ntmps59
    go_wp2_with (first
      | (go_at_call 89; (with_reducible refine HS.out.mono ?_); rintro e W2 ⟨v2, rfl, i2, b2⟩; (obtain ⟨a2, c2, rfl⟩ := i2.slice); (have bm := below1 W2 (.cells #[.int .i64 L, .int .i64 S, .slice a2 ms.length c2] 24)); (have K2 := Lib.hid (show MK w L S (.slice a2 ms.length c2) ms W2.heap.size (W2.alloc (.cells #[.int .i64 L, .int .i64 S, .slice a2 ms.length c2] 24)) from ⟨(R0.out.keep b2).keep bm, BoxG.new W2 L S _ _, EdgesAt.keep (by rw [Z0.out] at i2; exact i2) bm, below_more (below_more B0.out (Nat.le_refl _) b2) (Nat.le_refl _) bm⟩)); (clear i2 b2 bm); (obtain ⟨g1, g2, g3⟩ := id K2.out.g))
      | (go_at_call 23; (with_reducible refine (HCK.out _ _ (EdgesAt.rd K2.out.e)).mono ?_); rintro e W3 ⟨rfl, b3⟩; (have K3 := Lib.hid (K2.out.keep b3)); (clear b3 g1 g2 g3); (obtain ⟨g1, g2, g3⟩ := id K3.out.g); (obtain ⟨⟨r1, r2, r3⟩, r4, r5, r6⟩ := id K3.out.r)))
    rw [HE.out]
    exact bodyPost_ret (v := .tuple #[grV 0 0 (.slice none 0 0), .int .i64 z]) (by simp [results, Tryz.results59, go_sem, r1, r2, r3]) rfl
      ⟨_, rfl, edges_nil _ _, below_over K3.out.b (Nat.le_refl _) _ _ _⟩
end Go.Proofs.YtiockphjnkehnaaGreatDoor
