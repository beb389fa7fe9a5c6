/- What graph.Essential returns for a valid graph. No further condition. What slices.Compact makes of sorted words; the prefixes that allowedPrefixes collects (plain). Conditions: at most 10^5 words, at least one. What forbidden.allowedPrefixes returns: the states of a list, in order. Conditions: at most 64 words, none empty, of at most 32 letters, that can be read; the variables that the function value reads. -/
import Derived.Test.YtkpmapeapiodcaaDoorQ12
import Derived.Test.YtkpmapeapiodcaaDoorQ08

namespace Go.Proofs.YtkpmapeapiodcaaDoor
open Go.RowKit
set_option linter.unusedSimpArgs false
set_option linter.unusedVariables false

theorem mems_iff {n : Nat} {f : Nat → Bool} {x : Int} : x ∈ mems n f ↔ ∃ i : Nat, x = (i : Int) ∧ i < n ∧ f i = true := by
  unfold mems
  rw [List.mem_map]
  constructor
  · rintro ⟨i, h, rfl⟩
    obtain ⟨h1, h2⟩ := List.mem_filter.1 h
    exact ⟨i, rfl, List.mem_range.1 h1, h2⟩
  · rintro ⟨i, rfl, h1, h2⟩
    exact ⟨i, List.mem_filter.2 ⟨List.mem_range.2 h1, h2⟩, rfl⟩
theorem mems_asc (n : Nat) (f : Nat → Bool) : (mems n f).Pairwise (· < ·) := by
  unfold mems
  rw [List.pairwise_map]
  refine (List.Pairwise.filter f List.pairwise_lt_range).imp ?_
  intro a b h
  omega
theorem mems_sg (n : Nat) (f : Nat → Bool) : SG (n : Int) (mems n f) := ⟨fun x hx => by obtain ⟨i, rfl, h, -⟩ := mems_iff.1 hx; omega, mems_asc n f⟩
theorem ints_over {W : World} {A b : Nat} {v : Value} {l : List Int} (h : IntsAt W A v l) (hb : b < A) (x y z : Value) {B : Nat} (hB : B ≤ A) : IntsAt (((W.setCell ⟨b, 0, none⟩ x).setCell ⟨b, 1, none⟩ y).setCell ⟨b, 2, none⟩ z) B v l :=
  own_low (ownsRow_setCell_below (ownsRow_setCell_below (ownsRow_setCell_below h (a := ⟨b, 0, none⟩) hb _) (a := ⟨b, 1, none⟩) hb _) (a := ⟨b, 2, none⟩) hb _) hB
def EOut (w : World) (L : Int) (n : Nat) (es : List E3) (e : Ending) (w' : World) : Prop := ∃ f v u, Ess n es f ∧ e = .returned (.tuple #[grV L ((mems n f).length : Int) v, u, .int .i64 0]) ∧ EdgesAt w' w.heap.size v (partE (mems n f) es) ∧ IntsAt w' w.heap.size u (mems n f) ∧ Below w.heap.size w w'
set_option maxRecDepth 100000 in
set_option maxHeartbeats 3200000 in
theorem essential_good (L : Int) (n : Nat) (es : List E3) (v : Value) (w : World) (hrd : EdgesRd w v es) (hvg : VG L (n : Int) es) :
    Calls Tryd.prog 44 #[grV L (n : Int) v] w (EOut w L n es) := by
  have hn : n ≤ 64 := by have := hvg.s2; omega
  have HRD := Lib.hid hrd
  have hlen := hvg.len
  have HV := Lib.hid (fun W h => isValid_any L (n : Int) es v W h (by omega))
  have HX := Lib.hid (fun W h => essential_any L n es v W h hn hvg.ok hvg.len)
  have HP := Lib.hid (fun f vs W h h2 => part_any L n es v vs (mems n f) W h h2 hn hvg.ok hvg.len (mems_sg n f))
  have K0 := Lib.hid (KB.start w L (n : Int) v 41)
  have H0 := Lib.hid (show (chkG L (n : Int) es == 0) = true by rw [hvg.chk]; rfl)
  obtain ⟨a, c, rfl⟩ := hrd.form
  clear hrd hvg
  go_enter Tryd.func44, Tryd.ntmps44
  go_wp2_with (first
    | (go_at_call 62; (with_reducible refine (HV.out _ (HRD.out.keep K0.out.bel)).mono ?_); rintro e0 W1 ⟨rfl, b1⟩; (rw [H0.out]); (have K1 := Lib.hid (K0.out.keep b1)); (clear b1); (obtain ⟨⟨g1, g2, g3⟩, -⟩ := id K1.out))
    | (go_at_call 63; (with_reducible refine (HX.out _ (HRD.out.keep K1.out.bel)).mono ?_); rintro e0 W2 ⟨f, hf, v2, rfl, i2, b2⟩; (obtain ⟨a2, c2, rfl⟩ := i2.slice); (have K2 := Lib.hid (K1.out.keep b2)); (have HF := Lib.hid hf); (have I2 := Lib.hid i2); (have RD2 := Lib.hid i2.rd); (clear b2 hf i2); (obtain ⟨⟨g4, g5, g6⟩, -⟩ := id K2.out))
    | (go_at_call 64; (with_reducible refine (HP.out _ _ _ (HRD.out.keep K2.out.bel) RD2.out).mono ?_); rintro e0 W3 ⟨v3, rfl, o3, b3⟩; (obtain ⟨a3, c3, rfl⟩ := o3.slice); (have K3 := Lib.hid (K2.out.keep b3)); (have O3 := Lib.hid o3); (have I3 := Lib.hid (I2.out.keep b3)); (clear b3 o3); (obtain ⟨-, ⟨⟨r1, r2, r3⟩, r4, r5, r6⟩, -⟩ := id K3.out)))
  exact bodyPost_ret (v := .tuple #[grV L ((mems n f).length : Int) (.slice a3 (partE (mems n f) es).length c3), .slice a2 (mems n f).length c2, .int .i64 0]) (by simp [results, Tryd.results44, go_sem, r1, r2, r3]) rfl
    ⟨f, _, _, HF.out, rfl, edges_over O3.out (by have := K2.out.2.2.2; omega) _ _ _ (by have := K2.out.2.2.2; omega), ints_over I3.out (by have := K1.out.2.2.2; omega) _ _ _ (by have := K1.out.2.2.2; omega), below_over K3.out.2.2.1 (Nat.le_succ _) _ _ _⟩
end Go.Proofs.YtkpmapeapiodcaaDoor

namespace Go.Proofs.YtkpmapeapiodcaaDoor
open Go.RowKit Go.Shelf Go.Sort
set_option linter.unusedSimpArgs false
set_option linter.unusedVariables false

theorem comp_len (d : Array Wd) (m : Nat) : (Lib.compactUpTo d m).length ≤ m := by
  unfold Lib.compactUpTo
  rw [List.length_map]
  have := List.length_filter_le (Lib.keeps d) (List.range m)
  rwa [List.length_range] at this
theorem arr_get {zs : List Wd} {j : Nat} {x : Wd} (h : zs[j]? = some x) : (zs.toArray)[j]! = x := by
  have hj := (List.getElem?_eq_some_iff.1 h).1
  rw [getElem!_pos zs.toArray j (by simpa using hj)]
  simpa using (List.getElem?_eq_some_iff.1 h).2
theorem comp_pw {zs : List Wd} (h : zs.Pairwise (fun x y => ¬ ltW y x)) : ∀ m, m ≤ zs.length → (Lib.compactUpTo zs.toArray m).Pairwise ltW ∧ ∀ x, x ∈ Lib.compactUpTo zs.toArray m ↔ x ∈ zs.take m
  | 0, _ => by
    have e : Lib.compactUpTo zs.toArray 0 = [] := List.eq_nil_of_length_eq_zero (Nat.le_zero.1 (comp_len _ 0))
    rw [e]; simp
  | m + 1, hm => by
    obtain ⟨ih1, ih2⟩ := comp_pw h m (by omega)
    obtain ⟨x, hx⟩ : ∃ x, zs[m]? = some x := ⟨_, List.getElem?_eq_getElem (by omega)⟩
    have hlt : ∀ i j a b, i < j → zs[i]? = some a → zs[j]? = some b → ¬ ltW b a := fun i j a b hij ha hb => by
      rw [List.pairwise_iff_getElem] at h
      have hi := (List.getElem?_eq_some_iff.1 ha)
      have hj := (List.getElem?_eq_some_iff.1 hb)
      have := h i j hi.1 hj.1 hij
      rw [hi.2, hj.2] at this
      exact this
    rw [Lib.compactUpTo_succ, take_snoc hx, arr_get hx]
    by_cases hk : Lib.keeps zs.toArray m = true
    · rw [if_pos hk]
      refine ⟨List.pairwise_append.2 ⟨ih1, List.pairwise_singleton _ _, fun a ha b hb => ?_⟩, fun y => by rw [List.mem_append, List.mem_append, ih2]⟩
      rw [List.mem_singleton] at hb
      subst hb
      rw [ih2] at ha
      obtain ⟨j, hj, hja⟩ := List.mem_iff_getElem.1 ha
      have hjm : j < m := by rw [List.length_take] at hj; omega
      have hja2 : zs[j]? = some a := by rw [List.getElem_take] at hja; rw [← hja]; exact List.getElem?_eq_getElem (by omega)
      rcases ltW_tri a b with h1 | h1 | h1
      · exact h1
      · exfalso
        obtain ⟨p, rfl⟩ : ∃ p, m = p + 1 := ⟨m - 1, by omega⟩
        obtain ⟨y, hy⟩ : ∃ y, zs[p]? = some y := ⟨_, List.getElem?_eq_getElem (by omega)⟩
        have h3 : y = b := by
          rcases ltW_tri y b with h2 | h2 | h2
          · rcases Nat.lt_or_ge j p with hjp | hjp
            · rw [h1] at hja2; exact absurd h2 (hlt j p b y hjp hja2 hy)
            · have : j = p := by omega
              rw [this, hy] at hja2
              injection hja2 with e
              rw [e, h1]
          · exact h2
          · exact absurd h2 (hlt p (p + 1) y b (by omega) hy hx)
        unfold Lib.keeps at hk
        rw [arr_get hx, show p + 1 - 1 = p by omega, arr_get hy, h3] at hk
        simp at hk
      · exact absurd h1 (hlt j m a b hjm hja2 hx)
    · rw [if_neg hk, List.append_nil]
      refine ⟨ih1, fun y => ?_⟩
      rw [ih2, List.mem_append, List.mem_singleton]
      refine ⟨.inl, fun h2 => h2.elim id fun e => ?_⟩
      rcases Nat.eq_zero_or_pos m with h0 | h0
      · subst h0; exact absurd (by simp [Lib.keeps]) hk
      · obtain ⟨p, rfl⟩ : ∃ p, m = p + 1 := ⟨m - 1, by omega⟩
        obtain ⟨z, hz⟩ : ∃ z, zs[p]? = some z := ⟨_, List.getElem?_eq_getElem (by omega)⟩
        have h3 : x = z := by
          refine Classical.byContradiction fun hne => hk ?_
          refine Lib.keeps_pos ?_
          rw [arr_get hx, show p + 1 - 1 = p by omega, arr_get hz]
          exact hne
        rw [e, h3]
        exact List.mem_iff_getElem?.2 ⟨p, by rw [List.getElem?_take_of_lt (by omega)]; exact hz⟩
theorem comp_all {zs : List Wd} (h : zs.Pairwise (fun x y => ¬ ltW y x)) : (Lib.compact zs).Pairwise ltW ∧ ∀ x, x ∈ Lib.compact zs ↔ x ∈ zs := by
  have := comp_pw h zs.length (Nat.le_refl _)
  rw [List.take_length] at this
  exact this
set_option maxRecDepth 100000 in
theorem compactW_any (B : Nat) (v : Value) (l : List Wd) (w : World) (h : WdsAt w B v l) (hB : B ≤ w.heap.size) (hlen : l.length ≤ 100000) (h0 : l ≠ []) :
    Calls Tryd.prog 61 #[v] w fun e w' => ∃ u, e = .returned u ∧ WdsRd w' u (Lib.compact l) ∧ Below B w w' := by
  have hpos := List.length_pos_iff.2 h0
  rcases h.2 with ⟨rfl, h0⟩ | ⟨g, cap, cur, rfl, k1, k2, k3, k4, k5, k6⟩
  · omega
  · have hlt := (Array.getElem?_eq_some_iff.1 k2).1
    have hcon := Tryd.slices_Compact_string g 0 cap l w (holds_of_block k2 (by rw [Nat.mul_one] at k6; exact k6)) (by omega) k3
    refine hcon.mono ?_
    rintro e w' ⟨rfl, q, rfl⟩
    obtain ⟨ts, hts⟩ : ∃ ts, Lib.compact l ++ List.replicate (l.length - (Lib.compact l).length) [] = ts := ⟨_, rfl⟩
    have hcl : (Lib.compact l).length ≤ l.length := comp_len _ _
    have htl : ts.length = l.length := by rw [← hts, List.length_append, List.length_replicate]; omega
    rw [hts]
    have hW := ownsRow_sorted (w := w) (base := B) (g := g) (cap := cap) (n := q) (os := #[]) (ss := l) (ts := ts) htl k1 k2 k3 k4 k5
    rw [grow_empty] at hW
    have hA : WdsAt (putRow encStr (Sort.ahead w q) g 0 ts.toArray) B (.slice (some ⟨g, 0, none⟩) ts.length cap) ts := by unfold WdsAt; rw [htl]; exact hW
    refine ⟨_, rfl, ⟨_, _, rfl, fun i x hx => ⟨g, 0, rfl, ?_⟩⟩, ?_⟩
    · have hi := (List.getElem?_eq_some_iff.1 hx).1
      rw [Nat.zero_add]
      refine hA.cell ?_
      rw [← hts, List.getElem?_append_left hi]; exact hx
    · have hg := grownBy_sorted (w := w) (g := g) (n := q) (os := #[]) ts.toArray
      rw [grow_empty] at hg
      exact (Below.refl B w).grown hg hB (fun k e => by cases e; exact k1)
def RawP (l : List Wd) (k j : Nat) (raw : List Wd) : Prop :=
  (∀ x, x ∈ raw ↔ x = [] ∨ ∃ i w n, l[i]? = some w ∧ n < w.length ∧ (i < k ∨ i = k ∧ n < j) ∧ x = w.take n ∧ alwB l x = true) ∧ raw.length ≤ 1 + k * 32 + j
theorem RawP.start (l : List Wd) : RawP l 0 0 [[]] := ⟨fun x => by
  rw [List.mem_singleton]
  refine ⟨.inl, fun h => h.elim id ?_⟩
  rintro ⟨i, w, n, -, -, h, -⟩
  omega, by simp⟩
theorem RawP.skip {l : List Wd} {k j : Nat} {raw : List Wd} {w : Wd} (h : RawP l k j raw) (hw : l[k]? = some w) (ha : alwB l (w.take j) = false) : RawP l k (j + 1) raw := by
  refine ⟨fun x => ?_, by have := h.2; omega⟩
  rw [h.1]
  refine or_congr Iff.rfl ⟨?_, ?_⟩
  · rintro ⟨i, u, n, a1, a2, a3, a4⟩
    exact ⟨i, u, n, a1, a2, by omega, a4⟩
  · rintro ⟨i, u, n, a1, a2, a3, a4, a5⟩
    by_cases hx : i = k ∧ n = j
    · obtain ⟨rfl, rfl⟩ := hx
      rw [hw] at a1
      injection a1 with a1
      subst a1
      rw [a4, ha] at a5
      cases a5
    · exact ⟨i, u, n, a1, a2, by omega, a4, a5⟩
theorem RawP.put {l : List Wd} {k j : Nat} {raw : List Wd} {w : Wd} (h : RawP l k j raw) (hw : l[k]? = some w) (hj : j < w.length) (ha : alwB l (w.take j) = true) : RawP l k (j + 1) (raw ++ [w.take j]) := by
  refine ⟨fun x => ?_, by rw [List.length_append, List.length_singleton]; have := h.2; omega⟩
  rw [List.mem_append, List.mem_singleton, h.1]
  constructor
  · rintro ((h1 | ⟨i, u, n, a1, a2, a3, a4⟩) | h1)
    · exact .inl h1
    · exact .inr ⟨i, u, n, a1, a2, by omega, a4⟩
    · exact .inr ⟨k, w, j, hw, hj, by omega, h1, by rw [h1]; exact ha⟩
  · rintro (h1 | ⟨i, u, n, a1, a2, a3, a4, a5⟩)
    · exact .inl (.inl h1)
    · by_cases hx : i = k ∧ n = j
      · obtain ⟨rfl, rfl⟩ := hx
        rw [hw] at a1
        injection a1 with a1
        subst a1
        exact .inr a4
      · exact .inl (.inr ⟨i, u, n, a1, a2, by omega, a4, a5⟩)
theorem RawP.next {l : List Wd} {k j : Nat} {raw : List Wd} {w : Wd} (h : RawP l k j raw) (hw : l[k]? = some w) (hj : w.length = j) (h32 : j ≤ 32) : RawP l (k + 1) 0 raw := by
  refine ⟨fun x => ?_, by have := h.2; omega⟩
  rw [h.1]
  refine or_congr Iff.rfl ⟨?_, ?_⟩
  · rintro ⟨i, u, n, a1, a2, a3, a4⟩
    exact ⟨i, u, n, a1, a2, by omega, a4⟩
  · rintro ⟨i, u, n, a1, a2, a3, a4⟩
    refine ⟨i, u, n, a1, a2, ?_, a4⟩
    by_cases hx : i = k
    · subst hx
      rw [hw] at a1
      injection a1 with a1
      subst a1
      omega
    · omega
theorem RawP.done {l raw : List Wd} (h : RawP l l.length 0 raw) : StL l (Lib.compact (srtW raw)) := by
  obtain ⟨h1, h2⟩ := comp_all (srtW_le raw)
  refine ⟨h1, fun x => ?_⟩
  rw [h2, srtW_mem, h.1]
  unfold IsSt
  refine or_congr Iff.rfl ⟨?_, ?_⟩
  · rintro ⟨i, w, n, a1, a2, a3, rfl, a5⟩
    refine ⟨w, List.mem_of_getElem? a1, List.take_prefix _ _, fun e => ?_, a5⟩
    have := congrArg List.length e
    rw [List.length_take] at this
    omega
  · rintro ⟨w, hw, hp, hne, ha⟩
    obtain ⟨i, hi⟩ := List.mem_iff_getElem?.1 hw
    have hl := (List.getElem?_eq_some_iff.1 hi).1
    have hxl : x.length ≤ w.length := hp.length_le
    have hxe : x = w.take x.length := (List.prefix_iff_eq_take.1 hp)
    refine ⟨i, w, x.length, hi, ?_, .inl hl, hxe, ha⟩
    rcases Nat.lt_or_ge x.length w.length with h | h
    · exact h
    · exact absurd (by rw [hxe, List.take_of_length_le h]) hne
theorem RawP.ne {l raw : List Wd} {k j : Nat} (h : RawP l k j raw) : raw ≠ [] := fun e => by
  have := (h.1 []).2 (.inl rfl)
  rw [e] at this; cases this
end Go.Proofs.YtkpmapeapiodcaaDoor

namespace Go.Proofs.YtkpmapeapiodcaaDoor
open Go.RowKit Go.Sort
set_option linter.unusedSimpArgs false
set_option linter.unusedVariables false

theorem prefix_one (W : World) : WdsAt (W.alloc (.cells #[.string ⟨#[]⟩] 9)) W.heap.size (.slice (some ⟨W.heap.size, 0, none⟩) 1 1) [[]] :=
  ⟨rfl, .inr ⟨W.heap.size, 1, #[.string ⟨#[]⟩], rfl, Nat.le_refl _, heap_alloc_new W _, Nat.le_refl _, by unfold maxLen; omega, rfl, rfl⟩⟩
set_option maxRecDepth 100000 in
set_option maxHeartbeats 12800000 in
theorem prefixes_any (l : List Wd) (v : Value) (p : Nat) (w : World) (hrd : WdsRd w v l) (hl : l.length ≤ 64) (hne : ∀ u ∈ l, u ≠ [] ∧ u.length ≤ 32) (hg : GV l p w) :
    Calls Tryd.prog 42 #[v, .func (.func 41) #[] #[.pointer (some ⟨p, 0, none⟩), .pointer (some ⟨p + 1, 0, none⟩)]] w fun e w' => ∃ u S, e = .returned u ∧ WdsRd w' u S ∧ StL l S ∧ S.length ≤ 5000 ∧ Below w.heap.size w w' := by
  obtain ⟨i0, hi, hz0, hz1, hz2⟩ := info_parts Tryd.infoStrF
  have HNE := Lib.hid hne
  have HRD := Lib.hid hrd
  have HGV := Lib.hid hg
  have HAL := Lib.hid (fun x W (h : GV l p W) hx => allow1_any l x p W hne h hx)
  have R0 := Lib.hid (RawP.start l)
  have T0 := Lib.hid (prefix_one w)
  have B0 := Lib.hid (below1 w (.cells #[.string ⟨#[]⟩] 9))
  obtain ⟨a, c, rfl⟩ := hrd.form
  clear hrd hne hg
  go_enter Tryd.func42, Tryd.ntmps42
  go_wp2_with fail
  obtain ⟨m, hm⟩ : ∃ m, l.length = m := ⟨_, rfl⟩
  have HM := Lib.hid hm
  rw [hm] at HRD hl ⊢
  clear hm
  go_loopg [5, 7, 8, 12] m (fun q s5 s7 s8 s12 wx => ∃ (k : Nat) (raw : List Wd), k + q = m ∧ s12 = .int .i64 (k : Int) ∧ Hid (RawP l k 0 raw) ∧ Hid (WdsAt wx w.heap.size s5 raw) ∧ Hid (Below w.heap.size w wx))
  case atStart => exact ⟨0, _, by omega, rfl, R0, T0, B0⟩
  case round =>
    clear R0 T0 B0
    obtain ⟨k, raw, hkq, rfl, HR, HT, HB⟩ := hrel
    obtain ⟨a5, c5, rfl⟩ := HT.out.slice
    rcases gk with _ | q
    · obtain rfl : k = m := by omega
      have j0 : ¬ ((k : Int) < (k : Int)) := by omega
      have hrl := HR.out.2
      have HSO := Lib.hid (sortW_any w.heap.size _ raw wr HT.out HB.out.size (by omega))
      have HST := Lib.hid (RawP.done (l := l) (raw := raw) (by rw [HM.out]; exact HR.out))
      have hsn : srtW raw ≠ [] := fun e => HR.out.ne (by have h := congrArg List.length e; rw [srtW_len] at h; exact List.eq_nil_of_length_eq_zero h)
      have HCO := Lib.hid (fun v W (h : WdsAt W w.heap.size v (srtW raw)) hB => compactW_any w.heap.size v (srtW raw) W h hB (by rw [srtW_len]; omega) hsn)
      have hcl : (Lib.compact (srtW raw)).length ≤ 5000 := Nat.le_trans (comp_len _ _) (by rw [srtW_len]; omega)
      clear hsn HAL
      go_wp2_with (first
        | (go_at_call 27; (with_reducible refine HSO.out.mono ?_); rintro e W5 ⟨rfl, i5, b5⟩; (have I5 := Lib.hid i5); (have B5 := Lib.hid (HB.out.trans b5)); clear i5 b5)
        | (go_at_call 61; (with_reducible refine (HCO.out _ _ I5.out B5.out.size).mono ?_); rintro e W6 ⟨u6, rfl, i6, b6⟩; (have I6 := Lib.hid i6); (have B6 := Lib.hid (B5.out.trans b6)); clear i6 b6))
      go_ret
      exact ⟨_, _, rfl, I6.out, HST.out, hcl, B6.out⟩
    · obtain ⟨x, hxx⟩ : ∃ x, l[k]? = some x := ⟨_, List.getElem?_eq_getElem (by rw [HM.out]; omega)⟩
      have hxm := HNE.out x (List.mem_of_getElem? hxx)
      have HX := Lib.hid hxx
      have hrd := HRD.out.keep HB.out
      obtain ⟨b, off, c', hv, k1⟩ := (by have h := hrd; rw [← HM.out] at h; exact h : WdsRd wr (.slice a l.length c) l).at hxx
      injection hv with e1 e2 e3
      subst e1
      subst e3
      obtain ⟨L, hL⟩ : ∃ L, x.length = L := ⟨_, rfl⟩
      have HLL := Lib.hid hL
      have hsz : (⟨x.toArray⟩ : ByteArray).size = L := by rw [← hL]; simp [ByteArray.size]
      have hL32 : L ≤ 32 := by rw [← hL]; exact hxm.2
      have j1 : (k : Int) < (m : Int) := by omega
      obtain ⟨Wo, rfl⟩ : ∃ Wo, Wo = wr := ⟨_, rfl⟩
      clear hxx hxm hrd e2 hL
      go_wp2_with fail
      clear k1
      go_loopg [5, 8, 18] L (fun q2 s5 s8 s18 wx => ∃ (j : Nat) (raw2 : List Wd), j + q2 = L ∧ s18 = .int .i64 (j : Int) ∧ Hid (RawP l k j raw2) ∧ Hid (WdsAt wx w.heap.size s5 raw2) ∧ Hid (Below w.heap.size w wx))
      case atStart => exact ⟨0, raw, by omega, rfl, HR, HT, HB⟩
      case round =>
        clear HR HT HB
        obtain ⟨j, raw2, hjq, rfl, HR, HT, HB⟩ := hrel
        obtain ⟨a6, c6, rfl⟩ := HT.out.slice
        rcases gk with _ | q2
        · obtain rfl : j = L := by omega
          have j0 : ¬ ((j : Int) < (j : Int)) := by omega
          have HN := Lib.hid (HR.out.next HX.out HLL.out hL32)
          go_wp2_with fail
          go_roundg q
          case measure => omega
          case rel => exact ⟨k + 1, raw2, by omega, by go_num, HN, HT, HB⟩
        · have j2 : (j : Int) < (L : Int) := by omega
          obtain ⟨g, hg⟩ : ∃ g, x.take j = g := ⟨_, rfl⟩
          have hsl : ∀ W, (Instr.slice 9 (.string ⟨x.toArray⟩) none (some (.int .i64 (j : Int))) none).run Tryd.prog W = .ok (.string ⟨g.toArray⟩) W := fun W => run_take_atF x g j _ rfl (by rw [HLL.out]; omega) hg W
          have hgl : g.length ≤ 100000 := by rw [← hg, List.length_take, HLL.out]; omega
          have HAX := Lib.hid (HAL.out g wr (HGV.out.keep HB.out) hgl)
          have hrl := HR.out.2
          obtain ⟨M, hM⟩ : ∃ M, alwB l g = M := ⟨_, rfl⟩
          rw [hM] at HAX
          cases M with
          | false =>
            have HS := Lib.hid (HR.out.skip HX.out (by rw [hg]; exact hM))
            clear hM hg
            go_wp2_with (go_at_call 41; (with_reducible refine HAX.out.mono ?_); rintro e W3 ⟨rfl, b3⟩; (have T3 := Lib.hid (HT.out.keep b3)); (have B3 := Lib.hid (below_more HB.out (Nat.le_refl _) b3)); clear b3)
            go_roundg q2
            case measure => omega
            case rel => exact ⟨j + 1, raw2, by omega, by go_num, HS, T3, B3⟩
          | true =>
            have HS := Lib.hid (HR.out.put HX.out (by rw [HLL.out]; omega) (by rw [hg]; exact hM))
            rw [hg] at HS
            obtain ⟨f, hf⟩ : ∃ f, raw2.length = f := ⟨_, rfl⟩
            rw [hf] at HT hrl ⊢
            have HFL := Lib.hid hf
            clear hM hg hf
            go_wp2_with (first
              | (go_at_call 41; (with_reducible refine HAX.out.mono ?_); rintro e W3 ⟨rfl, b3⟩; (have T3 := Lib.hid (HT.out.keep b3)); (have hrow : W3.ownsRow w.heap.size 9 1 (.slice a6 f c6) f (raw2.map encStr) := by have h := T3.out; unfold WdsAt at h; rw [HFL.out] at h; exact h); (have B3 := Lib.hid (below_more HB.out (Nat.le_refl _) b3)); clear b3)
              | (at_builtin; refine wpList_append_lies _ rfl _ _ 22 rfl w.heap.size 9 i0 (.string ⟨#[]⟩) 1 16 Tryd.underlying22 hi hz0 hz1 hz2 rfl (by decide) (.slice a6 f c6) f (raw2.map encStr) rfl (hrow.alloc _) ⟨W3.heap.size, 0, none⟩ 1 1 [.string ⟨g.toArray⟩] rfl rfl (cell_one_new _ _ _) (by intro u hu; simp at hu; rcases hu with rfl; rfl) (by decide) (by unfold maxLen; omega) (by omega) (by have h8 := B3.out.size; rw [World.size_alloc]; omega) _ rfl ?_; intro g9 c9 w6 t1 t2 t3 t4))
            have T6 := Lib.hid (show WdsAt w6 w.heap.size (.slice (some ⟨g9, 0, none⟩) (f + 1) c9) (raw2 ++ [g]) by unfold WdsAt; rw [List.length_append, List.length_singleton, HFL.out, List.map_append]; exact t1)
            have B6 := Lib.hid ((B3.out.alloc B3.out.size (.cells #[.string ⟨g.toArray⟩] 9)).grown t2 (by have h8 := B3.out.size; rw [World.size_alloc]; omega) (fun y hy => (hrow.lt y hy).1))
            clear t1 t2 t3 t4
            go_roundg q2
            case measure => omega
            case rel => exact ⟨j + 1, raw2 ++ [g], by omega, by go_num, HS, T6, B6⟩
end Go.Proofs.YtkpmapeapiodcaaDoor
