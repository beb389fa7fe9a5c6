/- ComponentReach: plain facts on the search, and the walk. Condition: the edges can be read. -/
import Derived.Test.YtfkplnmhlpabaaaMr
namespace Go.Proofs.Ytfkplnmhlpabaaa
open Go.RowKit Go.Shelf
set_option linter.unusedSimpArgs false
set_option linter.unusedVariables false

theorem asc_eqI : ∀ {l m : List Int}, l.Pairwise (· < ·) → m.Pairwise (· < ·) → (∀ x, x ∈ l ↔ x ∈ m) → l = m
  | [], [], _, _, _ => rfl
  | [], b :: m, _, _, h => absurd ((h b).2 List.mem_cons_self) (by simp)
  | a :: l, [], _, _, h => absurd ((h a).1 List.mem_cons_self) (by simp)
  | a :: l, b :: m, h1, h2, h => by
    obtain ⟨p1, q1⟩ := List.pairwise_cons.1 h1
    obtain ⟨p2, q2⟩ := List.pairwise_cons.1 h2
    have hab : a = b := by
      rcases List.mem_cons.1 ((h a).1 List.mem_cons_self) with e | ha
      · exact e
      · rcases List.mem_cons.1 ((h b).2 List.mem_cons_self) with e | hb
        · exact e.symm
        · have := p1 b hb; have := p2 a ha; omega
    subst hab
    rw [asc_eqI q1 q2]
    intro x
    constructor
    · intro hx
      rcases List.mem_cons.1 ((h x).1 (List.mem_cons_of_mem _ hx)) with e | hx2
      · subst e; have := p1 x hx; omega
      · exact hx2
    · intro hx
      rcases List.mem_cons.1 ((h x).2 (List.mem_cons_of_mem _ hx)) with e | hx2
      · subst e; have := p2 x hx; omega
      · exact hx2
theorem sort_eq {fs M : List Int} (hn : fs.Nodup) (hM : M.Pairwise (· < ·)) (h : ∀ x, x ∈ fs ↔ x ∈ M) : (fs.mergeSort fun x y => decide (x ≤ y)) = M := by
  have hp := List.mergeSort_perm fs (fun x y => decide (x ≤ y))
  have hs := List.pairwise_mergeSort (le := fun x y : Int => decide (x ≤ y)) (fun a b c h1 h2 => by
    rw [decide_eq_true_iff] at h1 h2 ⊢; omega) (fun a b => by
    rw [Bool.or_eq_true, decide_eq_true_iff, decide_eq_true_iff]; omega) fs
  have hnd : (fs.mergeSort fun x y => decide (x ≤ y)).Nodup := hp.nodup_iff.2 hn
  refine asc_eqI ?_ hM (fun x => (hp.mem_iff).trans (h x))
  have h2 := List.Pairwise.and hs hnd
  exact h2.imp fun {a b} ⟨h3, h4⟩ => by
    have := of_decide_eq_true h3
    omega
def unfI (n : Nat) (fs : List Int) : Nat := cntF n (fun t => decide ((t : Int) ∉ fs))
theorem unfI_snoc {n : Nat} {fs : List Int} {z : Nat} (hz : z < n) (h : (z : Int) ∉ fs) : unfI n (fs ++ [(z : Int)]) < unfI n fs := by
  unfold unfI cntF
  refine filter_less _ (fun x hx hg => ?_) ⟨z, List.mem_range.2 hz, ?_⟩
  · rw [decide_eq_true_iff] at hg ⊢
    intro h2
    exact hg (List.mem_append_left _ h2)
  · rw [decide_eq_true h, decide_eq_false (by simp)]; decide
structure FI (es : List E3) (n s i : Nat) (fs : List Int) : Prop where
  nd : fs.Nodup
  m0 : (s : Int) ∈ fs
  rc : ∀ x ∈ fs, ∃ y : Nat, x = (y : Int) ∧ y < n ∧ Rc es (s : Int) (y : Int)
  cl : ∀ j, j < i → ∀ x, fs[j]? = some x → ∀ e ∈ es, e.1 = x → e.2.2 ∈ fs
  sz : fs.length + unfI n fs ≤ n
section
variable {es : List E3} {n s i : Nat} {fs : List Int}
theorem FI.start (hs : s < n) : FI es n s 0 [(s : Int)] := by
  refine ⟨List.nodup_cons.2 ⟨by simp, List.nodup_nil⟩, List.mem_singleton_self _, fun x hx => ⟨s, List.mem_singleton.1 hx, hs, Rc.refl _ _⟩, fun j hj => absurd hj (by omega), ?_⟩
  have h1 : unfI n ([] ++ [(s : Int)]) < unfI n [] := unfI_snoc hs (by simp)
  rw [List.nil_append] at h1
  have h2 : unfI n [] ≤ n := cntF_le _ _
  simp only [List.length_cons, List.length_nil]
  omega
theorem FI.app (h : FI es n s i fs) (hi : i ≤ fs.length) {z : Nat} (hz : z < n) (hzf : (z : Int) ∉ fs) (hr : Rc es (s : Int) (z : Int)) : FI es n s i (fs ++ [(z : Int)]) := by
  refine ⟨?_, List.mem_append_left _ h.m0, fun x hx => ?_, fun j hj x hx e he e1 => ?_, ?_⟩
  · rw [List.nodup_append]
    exact ⟨h.nd, List.nodup_cons.2 ⟨by simp, List.nodup_nil⟩, fun a ha b hb => by rw [List.mem_singleton] at hb; subst hb; intro e; exact hzf (e ▸ ha)⟩
  · rcases List.mem_append.1 hx with hx | hx
    · exact h.rc x hx
    · exact ⟨z, List.mem_singleton.1 hx, hz, hr⟩
  · rw [List.getElem?_append_left (by omega)] at hx
    exact List.mem_append_left _ (h.cl j hj x hx e he e1)
  · have := unfI_snoc hz hzf
    have := h.sz
    rw [List.length_append, List.length_singleton]; omega
theorem FI.done {L : Int} (h : FI es n s fs.length fs) (hok : ∀ e ∈ es, okE L (n : Int) e = true) (hs : s < n) : ∀ x, x ∈ fs ↔ x ∈ mems n (rb es n s) := by
  intro x
  rw [mems_iff]
  constructor
  · intro hx
    obtain ⟨y, rfl, hy, hr⟩ := h.rc x hx
    exact ⟨y, rfl, hy, (rb_iff hok hs hy).2 hr⟩
  · rintro ⟨y, rfl, hy, hr⟩
    exact Rc.closed ((rb_iff hok hs hy).1 hr) (P := fun x => x ∈ fs) h.m0 (fun e he h1 => by
      obtain ⟨j, hj⟩ := List.mem_iff_getElem?.1 h1
      exact h.cl j (List.getElem?_eq_some_iff.1 hj).1 _ hj e he rfl)
end
set_option maxRecDepth 100000 in
set_option maxHeartbeats 12800000 in
theorem compReach_any (L S s : Int) (es : List E3) (v : Value) (w : World) (hrd : EdgesRd w v es) (hn : es.length ≤ 9223372036854775807) :
    Calls Try.prog 6 #[grV L S v, .int .i64 s] w fun e w' => e = .returned (.bool true) ∧ Below w.heap.size w w' := by
  have b1 := below1 w (.cells #[.int .i64 L, .int .i64 S, v] 24)
  have G1 := Lib.hid (BoxG.new w L S v 24)
  have HB := Lib.hid b1
  have HRD := Lib.hid hrd
  have HF := Lib.hid (fun W h => fineC_any L S es v W h hn)
  have HAW := Lib.hid (fun W => awake_any W)
  obtain ⟨x1, x2, x3⟩ := id G1.out
  cases hf : fineC L S es with
  | false =>
    rw [hf] at HF
    obtain ⟨a, c, rfl⟩ := hrd.form
    clear hrd b1 hf
    go_enter Try.func6, Try.ntmps6
    go_wp2_with (first
      | (go_at_call 30; (with_reducible refine (HF.out _ (HRD.out.keep HB.out)).mono ?_); rintro e W2 ⟨rfl, b2⟩; (have B2 := Lib.hid (below_more HB.out (Nat.le_refl _) b2)); clear b2 x1 x2 x3)
      | (go_at_call 13; (with_reducible refine (HAW.out _).mono ?_); rintro e W3 ⟨rfl, b3⟩; (have B3 := Lib.hid (below_more B2.out (Nat.le_refl _) b3)); clear b3))
    go_ret
    exact ⟨rfl, B3.out⟩
  | true =>
    rw [hf] at HF
    have h0 := fineC_true hf
    have hvg := chkG_zero h0
    have hs1 := hvg.s1
    have hs2 := hvg.s2
    have hlen := hvg.len
    obtain ⟨n, rfl⟩ : ∃ n : Nat, S = (n : Int) := ⟨S.toNat, by omega⟩
    have hn64 : n ≤ 64 := by omega
    have HRE := Lib.hid (fun W h => reach_any L (n : Int) s es v W h (by omega))
    clear hf
    by_cases h1 : 0 ≤ s ∧ s < (n : Int)
    · obtain ⟨s, rfl⟩ : ∃ x : Nat, s = (x : Int) := ⟨s.toNat, by omega⟩
      have hs : s < n := by omega
      have q1 : reachR L (n : Int) es (s : Int) = mems n (rb es n s) := by unfold reachR; rw [if_pos h0, if_pos h1]; rfl
      have q2 : reachE L (n : Int) es (s : Int) = 0 := by unfold reachE; rw [if_pos h0, if_pos h1]
      rw [q1, q2] at HRE
      have HOK := Lib.hid hvg.ok
      have hin : (s : Int) ∈ mems n (rb es n s) := mems_iff.2 ⟨s, rfl, hs, (rb_iff hvg.ok hs hs).2 (Rc.refl _ _)⟩
      have hasc : (mems n (rb es n s)).Pairwise (· < ·) := mems_asc _ _
      have hml := mems_len n (rb es n s)
      have HDN := Lib.hid (fun fs (h : FI es n s fs.length fs) => sort_eq h.nd hasc (h.done hvg.ok hs))
      obtain ⟨M, hM⟩ : ∃ M, mems n (rb es n s) = M := ⟨_, rfl⟩
      rw [hM] at HRE hin hasc hml HDN
      have hM0 : 0 < M.length := List.length_pos_of_mem hin
      have HIN := Lib.hid (show decide ((s : Int) ∈ M) = true from decide_eq_true hin)
      have HHS := Lib.hid (fun W u (h : IntsRd W u M) => show Calls Try.prog 32 #[u, .int .i64 (s : Int)] W fun e w' => e = .returned (.bool true) ∧ w' = W from by
        have q := has_any M (s : Int) u W h (by omega)
        rwa [HIN.out] at q)
      have HSO := Lib.hid (fun W u (h : IntsRd W u M) => sorted_any M u W h (by omega) hM0 hasc)
      have HCL := Lib.hid (fun W u (h : IntsRd W u M) => cloneI_any M u W h hM0 (by omega))
      have HCO := Lib.hid (fun W u (h : IntsRd W u M) => compactI_any M u W h (by omega) hasc)
      obtain ⟨ml, hml2⟩ : ∃ ml, M.length = ml := ⟨_, rfl⟩
      have HML := Lib.hid hml2
      have j1 : decide ((s : Int) < 0) = false := decide_eq_false (by omega)
      have j2 : decide ((n : Int) ≤ (s : Int)) = false := decide_eq_false (by omega)
      have j3 : decide (n ≤ s) = false := decide_eq_false (by omega)
      have j4 : ((ml : Int) != (ml : Int)) = false := by simp
      obtain ⟨a, c, rfl⟩ := hrd.form
      clear hrd b1 h0 h1 hvg q1 q2 hin hasc hM hml2
      go_enter Try.func6, Try.ntmps6
      go_upto_region 8 with (first
        | (go_at_call 30; (with_reducible refine (HF.out _ (HRD.out.keep HB.out)).mono ?_); rintro e W2 ⟨rfl, b2⟩; (have B2 := Lib.hid (below_more HB.out (Nat.le_refl _) b2)); (have G2 := Lib.hid (G1.out.keep b2)); clear b2 x1 x2 x3; (obtain ⟨x1, x2, x3⟩ := id G2.out))
        | (go_at_call 23; (with_reducible refine (HRE.out _ (HRD.out.keep B2.out)).mono ?_); rintro e W3 ⟨u3, rfl, i3, b3⟩; (have B3 := Lib.hid (below_more B2.out (Nat.le_refl _) b3)); (have G3 := Lib.hid (G2.out.keep b3)); (have R3 := Lib.hid i3.rd); (obtain ⟨a3, c3, hu3⟩ := own_slice i3); (rw [HML.out] at hu3); (subst hu3); clear b3 i3 x1 x2 x3; (obtain ⟨x1, x2, x3⟩ := id G3.out))
        | (go_at_call 32; (with_reducible refine (HHS.out _ _ R3.out).mono ?_); rintro e W4 ⟨rfl, hW4⟩; (rw [hW4]); clear hW4)
        | (go_at_call 31; (with_reducible refine (HSO.out _ _ R3.out).mono ?_); rintro e W5 ⟨rfl, m5, hW5⟩; (have b5 : Below W3.heap.size W3 W5 := by rw [hW5]; exact below_drewM (Below.refl _ _) m5); (have B5 := Lib.hid (below_more B3.out (Nat.le_refl _) b5)); (have G5 := Lib.hid (G3.out.keep b5)); (have R5 := Lib.hid (R3.out.keep b5)); clear b5 hW5)
        | (go_at_call 34; (with_reducible refine (HCL.out _ _ R5.out).mono ?_); rintro e W6 ⟨u6, rfl, i6, b6⟩; (have B6 := Lib.hid (below_more B5.out (Nat.le_refl _) b6)); (have G6 := Lib.hid (G5.out.keep b6)); (have R6 := Lib.hid (R5.out.keep b6)); (have I6 := Lib.hid i6.rd); (obtain ⟨a6, c6, hu6⟩ := own_slice i6); (rw [HML.out] at hu6); (subst hu6); clear b6 i6)
        | (go_at_call 33; (with_reducible refine (HCO.out _ _ I6.out).mono ?_); rintro e W7 ⟨rfl, m7, hW7⟩; (have b7 : Below W6.heap.size W6 W7 := by rw [hW7]; exact below_drewM (Below.refl _ _) m7); (have B7 := Lib.hid (below_more B6.out (Nat.le_refl _) b7)); (have G7 := Lib.hid (G6.out.keep b7)); (have R7 := Lib.hid (R6.out.keep b7)); clear b7 hW7))
      have hwB := B7.out.size
      have hw7 : w.heap.size < W7.heap.size := World.block_lt_of_cell? _ ⟨w.heap.size, 0, none⟩ G7.out.1
      have HBX := Lib.hid (fun X (h : Below W7.heap.size W7 X) => below_more B7.out (Nat.le_refl _) h)
      have HGX := Lib.hid (fun X (h : Below W7.heap.size W7 X) => G7.out.keep h)
      have HRX := Lib.hid (fun X (h : Below W7.heap.size W7 X) => R7.out.keep h)
      have HEX := Lib.hid (fun X (h : Below W7.heap.size W7 X) => HRD.out.keep (below_more B7.out (Nat.le_refl _) h))
      have I0 := Lib.hid (show IntsAt (W7.alloc (.cells #[.int .i64 (s : Int)] 3)) W7.heap.size (.slice (some ⟨W7.heap.size, 0, none⟩) 1 1) [(s : Int)] from ⟨rfl, .inr ⟨W7.heap.size, 1, #[.int .i64 (s : Int)], rfl, Nat.le_refl _, World.alloc_heap_new W7 _, Nat.le_refl 1, by decide, rfl, rfl⟩⟩)
      have BB0 := Lib.hid (below1 W7 (.cells #[.int .i64 (s : Int)] 3))
      have F0 := Lib.hid (FI.start (es := es) hs)
      obtain ⟨iI, ii, iz0, iz1, iz2⟩ := info_parts Try.infoI64
      clear x1 x2 x3 j1 j2 j3 j4 HB B2 B3 B5 B6 B7 G1 G2 G3 G5 G6 G7 R3 R5 R6 R7 I6 HF HRE HHS HSO HCL HCO
      go_wp2_with fail
      generalize W7.alloc (.cells #[.int .i64 (s : Int)] 3) = W8 at *
      go_loopg [7, 8] n (fun q s7 s8 wx => ∃ (i : Nat) (fs : List Int) (uo : Value), s7 = uo ∧ s8 = .int .i64 (i : Int) ∧ i ≤ fs.length ∧ fs.length + unfI n fs ≤ q + i ∧ Hid (FI es n s i fs) ∧ Hid (IntsAt wx W7.heap.size uo fs) ∧ Hid (Below W7.heap.size W7 wx))
      case atStart => exact ⟨0, [(s : Int)], _, rfl, rfl, by simp, by have := F0.out.sz; omega, F0, I0, BB0⟩
      case round =>
        clear I0 BB0 F0
        obtain ⟨i, fs, uo, hu7, rfl, hifs, hq, HFI, HI, HW⟩ := hrel
        have hsz := HFI.out.sz
        obtain ⟨x1, x2, x3⟩ := id (HGX.out _ HW.out)
        obtain ⟨ao, co, huo⟩ := own_slice HI.out
        obtain ⟨nf, hnf⟩ : ∃ nf, fs.length = nf := ⟨_, rfl⟩
        have HNF := Lib.hid hnf
        rw [hnf] at huo hifs hq hsz
        subst huo
        subst hu7
        by_cases hend : i = nf
        · subst hend
          have j5 : decide ((i : Int) < (i : Int)) = false := decide_eq_false (by omega)
          have HDD := Lib.hid (HDN.out fs (by rw [HNF.out]; exact HFI.out))
          have HSRT := Lib.hid (sortI_any fs _ _ _ HI.out (by omega))
          have hlt := HI.out.lt
          have hszW := HW.out.size
          have HRW := Lib.hid (HRX.out)
          clear hnf
          go_wp2_with (first
            | (go_at_call 35; (with_reducible refine HSRT.out.mono ?_); rintro e W9 ⟨rfl, i9, g9⟩; (rw [HDD.out] at i9); (have B9b := Lib.hid (Below.grown HW.out g9 hszW (fun k e => by have := (hlt k e).1; omega))); (have R9 := Lib.hid (HRX.out _ B9b.out)); (have B9 := Lib.hid (HBX.out _ B9b.out)); (have e9 := intsEq_any (l := M) (m := M) i9.rd R9.out (by omega) (by omega)); (rw [decide_eq_true rfl] at e9); (have E9 := Lib.hid e9); clear e9; clear i9 g9 x1 x2 x3)
            | (go_at_call 29; (with_reducible refine E9.out.mono ?_); rintro e W10 ⟨rfl, b10⟩; (have B10 := Lib.hid (below_more B9.out (Nat.le_refl _) b10)); clear b10)
            | (go_at_call 13; (with_reducible refine (HAW.out _).mono ?_); rintro e W11 ⟨rfl, b11⟩; (have B11 := Lib.hid (below_more B10.out (Nat.le_refl _) b11)); clear b11))
          go_ret
          exact ⟨rfl, B11.out⟩
        · rcases gk with _ | q
          · exact absurd hq (by omega)
          · obtain ⟨xv, hxv⟩ : ∃ x, fs[i]? = some x := ⟨_, List.getElem?_eq_getElem (by omega)⟩
            have j5 : (i : Int) < (nf : Int) := by omega
            have HXV := Lib.hid hxv
            have HN0 := Lib.hid (show ∀ e ∈ es.take 0, e.1 = xv → e.2.2 ∈ fs from fun e he => by cases he)
            clear hxv
            go_wp2_with fail
            clear x1 x2 x3
            have hq' : nf + unfI n fs ≤ q + (i + 1) := by omega
            have HQ := Lib.hid (show fs.length + unfI n fs ≤ q + (i + 1) by rw [HNF.out]; exact hq')
            have hif : i < nf := by omega
            have HIF := Lib.hid (show i < fs.length by rw [HNF.out]; exact hif)
            clear hsz hifs hq hq' hif hend j5 hnf HNF
            go_loopg [7, 72] es.length (fun q2 s7 s72 wx => ∃ (k : Nat) (fs : List Int) (uo : Value), k + q2 = es.length ∧ s7 = uo ∧ s72 = .int .i64 (k : Int) ∧ Hid (fs.length + unfI n fs ≤ q + (i + 1)) ∧ Hid (i < fs.length) ∧ Hid (fs[i]? = some xv) ∧ Hid (∀ e ∈ es.take k, e.1 = xv → e.2.2 ∈ fs) ∧ Hid (FI es n s i fs) ∧ Hid (IntsAt wx W7.heap.size uo fs) ∧ Hid (Below W7.heap.size W7 wx))
            case atStart => exact ⟨0, fs, _, by omega, rfl, rfl, HQ, HIF, HXV, HN0, HFI, HI, HW⟩
            case round =>
              clear HQ HIF HXV HN0 HFI HI HW
              clear fs
              obtain ⟨k, fs, uo, hk, hu7, rfl, HQ, HIF, HXV, HN, HFI, HI, HW⟩ := hrel
              have hsz := HFI.out.sz
              have hif := HIF.out
              obtain ⟨x1, x2, x3⟩ := id (HGX.out _ HW.out)
              obtain ⟨ao, co, huo⟩ := own_slice HI.out
              rcases gk with _ | q2
              · obtain rfl : k = es.length := by omega
                have HFI2 := Lib.hid (show FI es n s (i + 1) fs from ⟨HFI.out.nd, HFI.out.m0, HFI.out.rc, fun j hj x hx e he e1 => by
                  by_cases h : j < i
                  · exact HFI.out.cl j h x hx e he e1
                  · obtain rfl : j = i := by omega
                    rw [HXV.out] at hx
                    injection hx with hx
                    exact HN.out e (by rw [List.take_length]; exact he) (by rw [e1, hx]), HFI.out.sz⟩)
                have hi64 : i ≤ 64 := by omega
                clear hif hsz
                go_wp2_with fail
                go_roundg q
                case measure => omega
                case rel => exact ⟨i + 1, fs, uo, hu7, by go_num, HIF.out, HQ.out, HFI2, HI, HW⟩
              · obtain ⟨e, he⟩ : ∃ e, es[k]? = some e := ⟨_, List.getElem?_eq_getElem (by omega)⟩
                have hem := List.mem_of_getElem? he
                have hek := okE_st (HOK.out e hem)
                obtain ⟨bb, off, c', hv, k1, k2, k3⟩ := (HEX.out _ HW.out).at he
                injection hv with e1 e2 e3
                subst e1
                subst e3
                have HTK := Lib.hid (take_snoc he)
                have HED := Lib.hid (Rc.edge hem)
                obtain ⟨nf, hnf⟩ : ∃ nf, fs.length = nf := ⟨_, rfl⟩
                have HNF := Lib.hid hnf
                rw [hnf] at huo hif hsz
                subst huo
                subst hu7
                obtain ⟨x, y, z⟩ := e
                dsimp only at hek k1 k2 k3 HED
                obtain ⟨hx, hz, hx1, hz1⟩ := hek
                obtain ⟨x', hx'⟩ : ∃ x', x.toNat = x' := ⟨_, rfl⟩
                obtain ⟨z', hz'⟩ : ∃ z', z.toNat = z' := ⟨_, rfl⟩
                rw [hx'] at hx hx1
                rw [hz'] at hz hz1
                subst hx1
                subst hz1
                have j3 : (k : Int) < (es.length : Int) := by omega
                have j4 : (i : Int) < (nf : Int) := by omega
                have o1 := below1 wr (.cells #[.int .i64 (x' : Int), .int .i64 y, .int .i64 (z' : Int)] 46)
                obtain ⟨u1, u2, u3, -⟩ := Box3.new wr (x' : Int) y (z' : Int) 46
                dsimp only at u1 u2 u3
                have HI1 := Lib.hid (HI.out.keep o1)
                have HW1 := Lib.hid (below_more HW.out (Nat.le_refl _) o1)
                obtain ⟨bf, of, cf, hvf, kf⟩ := HI1.out.rd.at HXV.out
                injection hvf with f1 f2 f3
                subst f1
                obtain ⟨xn, rfl, hxn, hrx⟩ := HFI.out.rc xv (List.mem_of_getElem? HXV.out)
                have HF1 := Lib.hid (fun q => has_any fs (z' : Int) (.slice (some ⟨bf, of, none⟩) nf co) ((wr.alloc (.cells #[.int .i64 (x' : Int), .int .i64 y, .int .i64 (z' : Int)] 46)).drewN q) (HI1.out.rd.keep (below_drewM (Below.refl _ _) q)) (by rw [HNF.out]; omega))
                have HID := Lib.hid (fun q => HI1.out.keep (below_drewM (Below.refl _ _) q))
                have HWD := Lib.hid (fun q => below_drewM HW1.out q)
                obtain ⟨d, hd⟩ : ∃ d, decide ((z' : Int) ∈ fs) = d := ⟨_, rfl⟩
                rw [hd] at HF1
                by_cases hxx : x' = xn
                · subst hxx
                  have hee : ((x' : Int) == (x' : Int)) = true := by simp
                  cases d with
                  | true =>
                    have HN2 := Lib.hid (show ∀ e ∈ es.take (k + 1), e.1 = (x' : Int) → e.2.2 ∈ fs from fun e he' h => by
                      rw [HTK.out] at he'
                      rcases List.mem_append.1 he' with h2 | h2
                      · exact HN.out e h2 h
                      · obtain rfl := List.mem_singleton.1 h2
                        exact of_decide_eq_true hd)
                    clear he hem e2 hx' hz' hnf hd f2 f3 HN o1 HI HW
                    go_upto_region 15 with fail
                    go_quiet ((go_at_call 32; refine Calls.quiet_of_same (HF1.out _)))
                    go_wp2_with fail
                    go_roundg q2
                    case measure => omega
                    case rel => exact ⟨k + 1, fs, _, by omega, rfl, by go_num, HQ, HIF, HXV, HN2, HFI, Lib.hid (HID.out _), Lib.hid (HWD.out _)⟩
                  | false =>
                    have hnz := of_decide_eq_false hd
                    have HFI2 := Lib.hid (HFI.out.app (by rw [HNF.out]; omega) hz hnz (hrx.trans HED.out))
                    have HQ2 := Lib.hid (show (fs ++ [(z' : Int)]).length + unfI n (fs ++ [(z' : Int)]) ≤ q + (i + 1) by
                      have := unfI_snoc hz hnz
                      have := HQ.out
                      rw [List.length_append, List.length_singleton]; omega)
                    have HIF2 := Lib.hid (show i < (fs ++ [(z' : Int)]).length by rw [List.length_append]; have := HIF.out; omega)
                    have HXV2 := Lib.hid (show (fs ++ [(z' : Int)])[i]? = some (x' : Int) by rw [List.getElem?_append_left HIF.out]; exact HXV.out)
                    have HN2 := Lib.hid (show ∀ e ∈ es.take (k + 1), e.1 = (x' : Int) → e.2.2 ∈ fs ++ [(z' : Int)] from fun e he' h => by
                      rw [HTK.out] at he'
                      rcases List.mem_append.1 he' with h2 | h2
                      · exact List.mem_append_left _ (HN.out e h2 h)
                      · obtain rfl := List.mem_singleton.1 h2
                        exact List.mem_append_right _ (List.mem_singleton_self _))
                    clear he hem e2 hx' hz' hnf hd f2 f3 HN hnz
                    go_upto_region 15 with fail
                    go_quiet ((go_at_call 32; refine Calls.quiet_of_same (HF1.out _)))
                    go_upto_region 16 with fail
                    rename_i nq
                    have v3 := cell_keep u3 (below_drewM (Below.refl (wr.alloc (.cells #[.int .i64 (x' : Int), .int .i64 y, .int .i64 (z' : Int)] 46)).heap.size _) nq)
                    have I9 := Lib.hid (HID.out nq)
                    have B9 := Lib.hid (HWD.out nq)
                    generalize World.drewN (wr.alloc (.cells #[.int .i64 (x' : Int), .int .i64 y, .int .i64 (z' : Int)] 46)) nq = W9 at *
                    have hown := I9.out
                    unfold IntsAt at hown
                    rw [HNF.out] at hown
                    have hlt := hown.lt
                    have hszW := B9.out.size
                    clear u1 u2 u3 kf HID HWD HF1 k1 k2 k3 x1 x2 x3
                    go_wp2_with (at_builtin; refine wpList_append_own_at _ rfl _ _ 34 rfl _ 3 iI (.int .i64 0) 1 8 Try.underlying34 ii iz0 iz1 iz2 rfl (by decide) _ _ _ rfl (hown.alloc _) ⟨W9.heap.size, 0, none⟩ 1 1 [.int .i64 (z' : Int)] rfl rfl (cell_one_new _ _ _) (by intro u hu; simp at hu; subst hu; rfl) (by unfold maxLen; omega) (by omega) (by rw [World.size_alloc]; omega) ?_; intro v' w4 hown4 hgrow4 _ _; (have B4 := Lib.hid (Below.grown (B9.out.alloc B9.out.size (.cells #[.int .i64 (z' : Int)] 3)) hgrow4 (by rw [World.size_alloc]; omega) (fun k e => by have := (hlt k e).1; omega))); (have L4 := Lib.hid (show IntsAt w4 _ v' (fs ++ [(z' : Int)]) by unfold IntsAt; rw [intz_snoc, List.length_append, HNF.out]; exact hown4)); clear hown4 hgrow4)
                    go_roundg q2
                    case measure => omega
                    case rel => exact ⟨k + 1, _, _, by omega, rfl, by go_num, HQ2, HIF2, HXV2, HN2, HFI2, L4, B4⟩
                · have hee : ((x' : Int) == (xn : Int)) = false := by rw [beq_eq_false_iff_ne]; omega
                  have HN2 := Lib.hid (show ∀ e ∈ es.take (k + 1), e.1 = (xn : Int) → e.2.2 ∈ fs from fun e he' h => by
                    rw [HTK.out] at he'
                    rcases List.mem_append.1 he' with h2 | h2
                    · exact HN.out e h2 h
                    · obtain rfl := List.mem_singleton.1 h2
                      exact absurd h (by dsimp only; omega))
                  clear he hem e2 hx' hz' hnf hd f2 f3 HN hxx o1 HI HW
                  go_upto_region 15 with fail
                  go_quiet ((go_at_call 32; refine Calls.quiet_of_same (HF1.out _)))
                  go_wp2_with fail
                  go_roundg q2
                  case measure => omega
                  case rel => exact ⟨k + 1, fs, _, by omega, rfl, by go_num, HQ, HIF, HXV, HN2, HFI, Lib.hid (HID.out _), Lib.hid (HWD.out _)⟩
    · have q1 : reachR L (n : Int) es s = [] := by unfold reachR; rw [if_pos h0, if_neg h1]
      have q2 : reachE L (n : Int) es s = 25 := by unfold reachE; rw [if_pos h0, if_neg h1]
      rw [q1, q2] at HRE
      obtain ⟨a, c, rfl⟩ := hrd.form
      clear hrd b1 h0 hvg q1 q2
      rcases (show s < 0 ∨ (¬ s < 0 ∧ (n : Int) ≤ s) by omega) with h2 | ⟨h2, h3⟩
      · have j4 : decide (s < 0) = true := decide_eq_true h2
        clear h1
        go_enter Try.func6, Try.ntmps6
        go_wp2_with (first
          | (go_at_call 30; (with_reducible refine (HF.out _ (HRD.out.keep HB.out)).mono ?_); rintro e W2 ⟨rfl, b2⟩; (have B2 := Lib.hid (below_more HB.out (Nat.le_refl _) b2)); (have G2 := Lib.hid (G1.out.keep b2)); clear b2 x1 x2 x3; (obtain ⟨x1, x2, x3⟩ := id G2.out))
          | (go_at_call 23; (with_reducible refine (HRE.out _ (HRD.out.keep B2.out)).mono ?_); rintro e W3 ⟨u3, rfl, i3, b3⟩; (have B3 := Lib.hid (below_more B2.out (Nat.le_refl _) b3)); (have G3 := Lib.hid (G2.out.keep b3)); (obtain ⟨a3, c3, hu3⟩ := own_slice i3); (subst hu3); clear b3 i3 x1 x2 x3; (obtain ⟨x1, x2, x3⟩ := id G3.out))
          | (go_at_call 13; (with_reducible refine (HAW.out _).mono ?_); rintro e W5 ⟨rfl, b5⟩; (have B5 := Lib.hid (below_more B3.out (Nat.le_refl _) b5)); clear b5))
        go_ret
        exact ⟨rfl, B5.out⟩
      · have j4 : decide (s < 0) = false := decide_eq_false h2
        have j1 : decide ((n : Int) ≤ s) = true := decide_eq_true h3
        clear h1
        go_enter Try.func6, Try.ntmps6
        go_wp2_with (first
          | (go_at_call 30; (with_reducible refine (HF.out _ (HRD.out.keep HB.out)).mono ?_); rintro e W2 ⟨rfl, b2⟩; (have B2 := Lib.hid (below_more HB.out (Nat.le_refl _) b2)); (have G2 := Lib.hid (G1.out.keep b2)); clear b2 x1 x2 x3; (obtain ⟨x1, x2, x3⟩ := id G2.out))
          | (go_at_call 23; (with_reducible refine (HRE.out _ (HRD.out.keep B2.out)).mono ?_); rintro e W3 ⟨u3, rfl, i3, b3⟩; (have B3 := Lib.hid (below_more B2.out (Nat.le_refl _) b3)); (have G3 := Lib.hid (G2.out.keep b3)); (obtain ⟨a3, c3, hu3⟩ := own_slice i3); (subst hu3); clear b3 i3 x1 x2 x3; (obtain ⟨x1, x2, x3⟩ := id G3.out))
          | (go_at_call 13; (with_reducible refine (HAW.out _).mono ?_); rintro e W5 ⟨rfl, b5⟩; (have B5 := Lib.hid (below_more B3.out (Nat.le_refl _) b5)); clear b5))
        go_ret
        exact ⟨rfl, B5.out⟩
end Go.Proofs.Ytfkplnmhlpabaaa
