/- What grooveref10.Reach and Classes return, for any graph; ComponentPeriods: the walk. -/
import Derived.Test.YtfkplnmhlpabaaaMg
namespace Go.Proofs.Ytfkplnmhlpabaaa
open Go.RowKit Go.Shelf
set_option linter.unusedSimpArgs false
set_option linter.unusedVariables false

/-- Between two rounds of Reach's loop: the row of marks, the list so far. -/
structure RR (w : World) (L S : Int) (v : Value) (b n : Nat) (f : Nat → Bool) (u : Value) (l : List Int) (X : World) : Prop where
  g : BoxG X w.heap.size L S v
  bl : Below w.heap.size w X
  r : BRow X b n f
  o : IntsAt X (w.heap.size + 1) u l
section
variable {w X Y : World} {L S : Int} {v u u2 : Value} {b n : Nat} {f : Nat → Bool} {l : List Int}
theorem brow_typesI {A g : Nat} {f : Nat → Bool} {v1 : Value} {k : Nat} {xs : List Value} (h1 : BRow X g n f) (h2 : X.ownsRow A 3 1 v1 k xs) : v1.ownBlock ≠ some g := by
  rcases h2.2 with ⟨rfl, -⟩ | ⟨g2, c2, q2, rfl, -, p2, -⟩
  · simp [Value.ownBlock]
  · intro e
    simp [Value.ownBlock] at e
    subst e
    obtain ⟨cs, hc, -⟩ := h1
    rw [p2] at hc
    injection hc with hc
    injection hc with _ hc
    exact absurd hc (by decide)
theorem RR.app (h : RR w L S v b n f u l X) {o : Obj} {x : Int} (hg : (X.alloc o).grownBy Y u.ownBlock) (ho : Y.ownsRow (w.heap.size + 1) 3 1 u2 (l.length + 1) (intz l ++ [.int .i64 x])) : RR w L S v b n f u2 (l ++ [x]) Y := by
  have hlt := h.o.lt
  have hw : w.heap.size < X.heap.size := World.block_lt_of_cell? _ ⟨w.heap.size, 0, none⟩ h.g.1
  have hblk : ∀ q, q < X.heap.size → u.ownBlock ≠ some q → Y.heap[q]? = X.heap[q]? := fun q hq hne => (hg.block q (by rw [World.size_alloc]; omega) (fun e => hne e.symm)).trans (Below.heap_alloc _ _ _ hq)
  have hwne : u.ownBlock ≠ some w.heap.size := fun e => by have := (hlt _ e).1; omega
  have e := hblk w.heap.size hw hwne
  refine ⟨⟨(World.cell?_of_block (a := ⟨w.heap.size, 0, none⟩) e).trans h.g.1, (World.cell?_of_block (a := ⟨w.heap.size, 1, none⟩) e).trans h.g.2.1, (World.cell?_of_block (a := ⟨w.heap.size, 2, none⟩) e).trans h.g.2.2⟩,
    Below.grown (h.bl.alloc h.bl.size o) hg (by rw [World.size_alloc]; have := h.bl.size; omega) (fun q e => by have := (hlt q e).1; omega), World.rowIs.of_block h.r (hblk b (World.rowIs.lt h.r) (brow_typesI h.r h.o)), ?_⟩
  unfold IntsAt
  rw [intz_snoc, List.length_append]
  exact ho
end
set_option maxRecDepth 100000 in
set_option maxHeartbeats 6400000 in
theorem refReach_any (L S s : Int) (es : List E3) (v : Value) (w : World) (hrd : EdgesRd w v es) (hn : es.length ≤ 9223372036854775807) :
    Calls Try.prog 24 #[grV L S v, .int .i64 s] w (IRdC w (reachR L S es s) (reachE L S es s)) := by
  obtain ⟨z, hz⟩ : ∃ z, chkG L S es = z := ⟨_, rfl⟩
  have HCK := Lib.hid (fun W h => hz ▸ rcheck_any L S es v W h hn)
  have b1 := below1 w (.cells #[.int .i64 L, .int .i64 S, v] 24)
  have G1 := Lib.hid (BoxG.new w L S v 24)
  have HB := Lib.hid b1
  have HRD := Lib.hid hrd
  obtain ⟨x1, x2, x3⟩ := id G1.out
  by_cases h0 : chkG L S es = 0
  · by_cases h1 : 0 ≤ s ∧ s < S
    · have hvg := chkG_zero h0
      have hlen := hvg.len
      obtain ⟨n, rfl⟩ : ∃ n : Nat, S = (n : Int) := ⟨S.toNat, by omega⟩
      obtain ⟨x, rfl⟩ : ∃ x : Nat, s = (x : Int) := ⟨s.toNat, by omega⟩
      have e1 : reachR L (n : Int) es (x : Int) = mems n (rb es n x) := by unfold reachR; rw [if_pos h0, if_pos h1]; rfl
      have e2 : reachE L (n : Int) es (x : Int) = 0 := by unfold reachE; rw [if_pos h0, if_pos h1]
      rw [e1, e2]
      have hn64 : n ≤ 64 := by have := hvg.s2; omega
      obtain ⟨iI, ii, iz0, iz1, iz2⟩ := info_parts Try.infoI64
      have HRE := Lib.hid (fun W h => reached_any L n es v x W h hn64 hvg.ok hlen (by omega))
      obtain rfl : z = 0 := hz.symm.trans h0
      have j1 : decide ((x : Int) < 0) = false := decide_eq_false (by omega)
      have j2 : decide ((n : Int) ≤ (x : Int)) = false := decide_eq_false (by omega)
      have j3 : decide (n ≤ x) = false := decide_eq_false (by omega)
      obtain ⟨a, c, rfl⟩ := hrd.form
      clear hrd b1 h0 h1 hvg e1 e2 hz
      go_enter Try.func24, Try.ntmps24
      go_wp2_with (first
        | (go_at_call 49; (with_reducible refine (HCK.out _ (HRD.out.keep HB.out)).mono ?_); rintro e W2 ⟨rfl, b2⟩; (have B2 := Lib.hid (below_more HB.out (Nat.le_refl _) b2)); (have G2 := Lib.hid (G1.out.keep b2)); (have hw2 : w.heap.size < W2.heap.size := World.block_lt_of_cell? _ ⟨w.heap.size, 0, none⟩ G2.out.1); (have o2 := below1 W2 (.cells #[] 3)); (have B3 := Lib.hid (below_more B2.out (Nat.le_refl _) o2)); (have G3 := Lib.hid (G2.out.keep o2)); (have I3 := Lib.hid (show IntsAt (W2.alloc (.cells #[] 3)) (w.heap.size + 1) (.slice (some ⟨W2.heap.size, 0, none⟩) 0 0) [] from own_low (emptyLit W2 3) (by omega))); clear b2 o2 x1 x2 x3; (have y2 := G2.out.2.1); (obtain ⟨x1, x2, x3⟩ := id G3.out))
        | (go_at_call 50; (with_reducible refine (HRE.out _ (HRD.out.keep B3.out)).mono ?_); rintro e W4 ⟨lb, rfl, r4, -, b4⟩; (have T4 := Lib.hid (show RR w L (n : Int) (.slice a es.length c) lb n (rb es n x) _ (mems 0 (rb es n x)) W4 from ⟨G3.out.keep b4, below_more B3.out (Nat.le_refl _) b4, r4, I3.out.keep b4⟩)); clear b4 r4 x1 x2 x3 y2))
      clear HCK HRE HB B2 B3 G1 G2 G3 I3
      go_loopg [6, 8] n (fun q s6 s8 wx => ∃ (t : Nat) (uo : Value), t + q = n ∧ s6 = uo ∧ s8 = .int .i64 (t : Int) ∧ Hid (RR w L (n : Int) (.slice a es.length c) lb n (rb es n x) uo (mems t (rb es n x)) wx))
      case atStart => exact ⟨0, _, by omega, rfl, rfl, T4⟩
      case round =>
        clear T4
        obtain ⟨t, uo, htn, hu6, rfl, HT⟩ := hrel
        obtain ⟨x1, x2, x3⟩ := id HT.out.g
        obtain ⟨ao, co, huo⟩ := own_slice HT.out.o
        have hml := mems_len t (rb es n x)
        have hown := HT.out.o
        unfold IntsAt at hown
        obtain ⟨ml, hml2⟩ : ∃ ml, (mems t (rb es n x)).length = ml := ⟨_, rfl⟩
        have HML := Lib.hid hml2
        rw [hml2] at huo hml hown
        subst huo
        subst hu6
        rcases gk with _ | q
        · obtain rfl : n = t := by omega
          have HBW := Lib.hid HT.out.bl
          have HIR := Lib.hid HT.out.o.rd
          clear hown
          go_wp2_with fail
          exact bodyPost_ret (v := .tuple #[.slice ao ml co, .int .i64 0]) (by simp [results, Try.results24, go_sem]) rfl ⟨_, rfl, HIR.out, HBW.out⟩
        · have ht : t < n := by omega
          have k1 : (t : Int) < (n : Int) := by omega
          have c1 := World.rowIs.cell HT.out.r ht
          have hms := mems_succ t (rb es n x)
          have hsz : w.heap.size < wr.heap.size := World.block_lt_of_cell? _ ⟨w.heap.size, 0, none⟩ HT.out.g.1
          clear hml2
          cases hb : rb es n x t with
          | false =>
            rw [hb] at c1
            have HT2 := Lib.hid (show RR w L (n : Int) (.slice a es.length c) lb n (rb es n x) (.slice ao ml co) (mems (t + 1) (rb es n x)) wr by rw [hms, hb]; simpa using HT.out)
            clear hb hms hown
            go_wp2_with fail
            go_roundg q
            case measure => omega
            case rel => exact ⟨t + 1, _, by omega, rfl, by go_num, HT2⟩
          | true =>
            rw [hb] at c1
            have HM2 := Lib.hid (show mems (t + 1) (rb es n x) = mems t (rb es n x) ++ [(t : Int)] by rw [hms, hb]; simp)
            clear hb hms
            go_wp2_with (at_builtin; refine wpList_append_own_at _ rfl _ _ 34 rfl (w.heap.size + 1) 3 iI (.int .i64 0) 1 8 Try.underlying34 ii iz0 iz1 iz2 rfl (by decide) _ _ _ rfl (hown.alloc _) ⟨wr.heap.size, 0, none⟩ 1 1 [.int .i64 (t : Int)] rfl rfl (cell_one_new _ _ _) (by intro u hu; simp at hu; subst hu; rfl) (by unfold maxLen; omega) (by omega) (by rw [World.size_alloc]; omega) ?_; intro v' w4 hown4 hgrow4 _ _; (have T5 := Lib.hid (HT.out.app (x := (t : Int)) hgrow4 (by rw [HML.out]; exact hown4))); clear hown4 hgrow4)
            go_roundg q
            case measure => omega
            case rel => exact ⟨t + 1, _, by omega, rfl, by go_num, by rw [HM2.out]; exact T5⟩
    · have e1 : reachR L S es s = [] := by unfold reachR; rw [if_pos h0, if_neg h1]
      have e2 : reachE L S es s = 25 := by unfold reachE; rw [if_pos h0, if_neg h1]
      rw [e1, e2]
      obtain rfl : z = 0 := hz.symm.trans h0
      obtain ⟨a, c, rfl⟩ := hrd.form
      clear hrd b1 h0 e1 e2 hz
      rcases (show s < 0 ∨ (¬ s < 0 ∧ S ≤ s) by omega) with h2 | ⟨h2, h3⟩
      · have j4 : decide (s < 0) = true := decide_eq_true h2
        clear h1
        go_enter Try.func24, Try.ntmps24
        go_wp2_with (go_at_call 49; (with_reducible refine (HCK.out _ (HRD.out.keep HB.out)).mono ?_); rintro e W2 ⟨rfl, b2⟩; (have B2 := Lib.hid (below_more (below_more HB.out (Nat.le_refl _) b2) (Nat.le_refl _) (below1 W2 (.cells #[] 3)))); (have G2 := Lib.hid (G1.out.keep b2)); clear b2 x1 x2 x3; (obtain ⟨x1, x2, x3⟩ := id G2.out))
        exact bodyPost_ret (v := .tuple #[.slice (some ⟨W2.heap.size, 0, none⟩) 0 0, .int .i64 25]) (by simp [results, Try.results24, go_sem]) rfl ⟨_, rfl, ⟨_, 0, rfl, fun i r hr => by simp at hr⟩, B2.out⟩
      · have j4 : decide (s < 0) = false := decide_eq_false h2
        have j1 : decide (S ≤ s) = true := decide_eq_true h3
        clear h1
        go_enter Try.func24, Try.ntmps24
        go_wp2_with (go_at_call 49; (with_reducible refine (HCK.out _ (HRD.out.keep HB.out)).mono ?_); rintro e W2 ⟨rfl, b2⟩; (have B2 := Lib.hid (below_more (below_more HB.out (Nat.le_refl _) b2) (Nat.le_refl _) (below1 W2 (.cells #[] 3)))); (have G2 := Lib.hid (G1.out.keep b2)); clear b2 x1 x2 x3; (obtain ⟨x1, x2, x3⟩ := id G2.out))
        exact bodyPost_ret (v := .tuple #[.slice (some ⟨W2.heap.size, 0, none⟩) 0 0, .int .i64 25]) (by simp [results, Try.results24, go_sem]) rfl ⟨_, rfl, ⟨_, 0, rfl, fun i r hr => by simp at hr⟩, B2.out⟩
  · have e1 : reachR L S es s = [] := by unfold reachR; rw [if_neg h0]
    have e2 : reachE L S es s = 1 := by unfold reachE; rw [if_neg h0]
    rw [e1, e2]
    have d0 : (z != 0) = true := by rw [← hz]; simpa using h0
    obtain ⟨a, c, rfl⟩ := hrd.form
    clear hrd b1 h0 e1 e2 hz
    go_enter Try.func24, Try.ntmps24
    go_wp2_with (go_at_call 49; (with_reducible refine (HCK.out _ (HRD.out.keep HB.out)).mono ?_); rintro e W2 ⟨rfl, b2⟩; (have B2 := Lib.hid (below_more (below_more HB.out (Nat.le_refl _) b2) (Nat.le_refl _) (below1 W2 (.cells #[] 3)))); clear b2 x1 x2 x3)
    exact bodyPost_ret (v := .tuple #[.slice (some ⟨W2.heap.size, 0, none⟩) 0 0, .int .i64 1]) (by simp [results, Try.results24, go_sem]) rfl ⟨_, rfl, ⟨_, 0, rfl, fun i r hr => by simp at hr⟩, B2.out⟩
end Go.Proofs.Ytfkplnmhlpabaaa
