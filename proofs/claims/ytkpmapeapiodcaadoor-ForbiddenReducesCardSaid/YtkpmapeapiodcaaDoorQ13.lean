/- What slices.Compact makes of sorted words; the prefixes that allowedPrefixes collects (plain). Conditions: at most 10^5 words, at least one. What forbidden.allowedPrefixes returns: the states of a list, in order. Conditions: at most 64 words, none empty, of at most 32 letters, that can be read; the variables that the function value reads. A map from words to their places; what forbidden.longestSuffix returns: the place of the longest suffix that is a state. Conditions: the words are different, the empty one is among them; the lengths are those of strings. -/
import Derived.Test.YtkpmapeapiodcaaDoorQ07
import Derived.Test.YtkpmapeapiodcaaDoorQ08
import Derived.Test.YtkpmapeapiodcaaDoorQ12

namespace Go.Proofs.YtkpmapeapiodcaaDoor
open Go.RowKit Go.Shelf Go.Sort
set_option linter.unusedSimpArgs false
set_option linter.unusedVariables false

theorem comp_len (d : Array Wd) (m : Nat) : (Lib.compactUpTo d m).length ≤ m := by
  unfold Lib.compactUpTo
  rw [List.length_map]
  have := List.length_filter_le (Lib.keeps d) (List.range m)
  rwa [List.length_range] at this
theorem arr_get {zs : List Wd} {j : Nat} {x : Wd} (h : zs[j]? = some x) : (zs.toArray)[j]! = x := by
  have hj := (List.getElem?_eq_some_iff.1 h).1
  rw [getElem!_pos zs.toArray j (by simpa using hj)]
  simpa using (List.getElem?_eq_some_iff.1 h).2
theorem comp_pw {zs : List Wd} (h : zs.Pairwise (fun x y => ¬ ltW y x)) : ∀ m, m ≤ zs.length → (Lib.compactUpTo zs.toArray m).Pairwise ltW ∧ ∀ x, x ∈ Lib.compactUpTo zs.toArray m ↔ x ∈ zs.take m
  | 0, _ => by
    have e : Lib.compactUpTo zs.toArray 0 = [] := List.eq_nil_of_length_eq_zero (Nat.le_zero.1 (comp_len _ 0))
    rw [e]; simp
  | m + 1, hm => by
    obtain ⟨ih1, ih2⟩ := comp_pw h m (by omega)
    obtain ⟨x, hx⟩ : ∃ x, zs[m]? = some x := ⟨_, List.getElem?_eq_getElem (by omega)⟩
    have hlt : ∀ i j a b, i < j → zs[i]? = some a → zs[j]? = some b → ¬ ltW b a := fun i j a b hij ha hb => by
      rw [List.pairwise_iff_getElem] at h
      have hi := (List.getElem?_eq_some_iff.1 ha)
      have hj := (List.getElem?_eq_some_iff.1 hb)
      have := h i j hi.1 hj.1 hij
      rw [hi.2, hj.2] at this
      exact this
    rw [Lib.compactUpTo_succ, take_snoc hx, arr_get hx]
    by_cases hk : Lib.keeps zs.toArray m = true
    · rw [if_pos hk]
      refine ⟨List.pairwise_append.2 ⟨ih1, List.pairwise_singleton _ _, fun a ha b hb => ?_⟩, fun y => by rw [List.mem_append, List.mem_append, ih2]⟩
      rw [List.mem_singleton] at hb
      subst hb
      rw [ih2] at ha
      obtain ⟨j, hj, hja⟩ := List.mem_iff_getElem.1 ha
      have hjm : j < m := by rw [List.length_take] at hj; omega
      have hja2 : zs[j]? = some a := by rw [List.getElem_take] at hja; rw [← hja]; exact List.getElem?_eq_getElem (by omega)
      rcases ltW_tri a b with h1 | h1 | h1
      · exact h1
      · exfalso
        obtain ⟨p, rfl⟩ : ∃ p, m = p + 1 := ⟨m - 1, by omega⟩
        obtain ⟨y, hy⟩ : ∃ y, zs[p]? = some y := ⟨_, List.getElem?_eq_getElem (by omega)⟩
        have h3 : y = b := by
          rcases ltW_tri y b with h2 | h2 | h2
          · rcases Nat.lt_or_ge j p with hjp | hjp
            · rw [h1] at hja2; exact absurd h2 (hlt j p b y hjp hja2 hy)
            · have : j = p := by omega
              rw [this, hy] at hja2
              injection hja2 with e
              rw [e, h1]
          · exact h2
          · exact absurd h2 (hlt p (p + 1) y b (by omega) hy hx)
        unfold Lib.keeps at hk
        rw [arr_get hx, show p + 1 - 1 = p by omega, arr_get hy, h3] at hk
        simp at hk
      · exact absurd h1 (hlt j m a b hjm hja2 hx)
    · rw [if_neg hk, List.append_nil]
      refine ⟨ih1, fun y => ?_⟩
      rw [ih2, List.mem_append, List.mem_singleton]
      refine ⟨.inl, fun h2 => h2.elim id fun e => ?_⟩
      rcases Nat.eq_zero_or_pos m with h0 | h0
      · subst h0; exact absurd (by simp [Lib.keeps]) hk
      · obtain ⟨p, rfl⟩ : ∃ p, m = p + 1 := ⟨m - 1, by omega⟩
        obtain ⟨z, hz⟩ : ∃ z, zs[p]? = some z := ⟨_, List.getElem?_eq_getElem (by omega)⟩
        have h3 : x = z := by
          refine Classical.byContradiction fun hne => hk ?_
          refine Lib.keeps_pos ?_
          rw [arr_get hx, show p + 1 - 1 = p by omega, arr_get hz]
          exact hne
        rw [e, h3]
        exact List.mem_iff_getElem?.2 ⟨p, by rw [List.getElem?_take_of_lt (by omega)]; exact hz⟩
theorem comp_all {zs : List Wd} (h : zs.Pairwise (fun x y => ¬ ltW y x)) : (Lib.compact zs).Pairwise ltW ∧ ∀ x, x ∈ Lib.compact zs ↔ x ∈ zs := by
  have := comp_pw h zs.length (Nat.le_refl _)
  rw [List.take_length] at this
  exact this
set_option maxRecDepth 100000 in
theorem compactW_any (B : Nat) (v : Value) (l : List Wd) (w : World) (h : WdsAt w B v l) (hB : B ≤ w.heap.size) (hlen : l.length ≤ 100000) (h0 : l ≠ []) :
    Calls Tryd.prog 61 #[v] w fun e w' => ∃ u, e = .returned u ∧ WdsRd w' u (Lib.compact l) ∧ Below B w w' := by
  have hpos := List.length_pos_iff.2 h0
  rcases h.2 with ⟨rfl, h0⟩ | ⟨g, cap, cur, rfl, k1, k2, k3, k4, k5, k6⟩
  · omega
  · have hlt := (Array.getElem?_eq_some_iff.1 k2).1
    have hcon := Tryd.slices_Compact_string g 0 cap l w (holds_of_block k2 (by rw [Nat.mul_one] at k6; exact k6)) (by omega) k3
    refine hcon.mono ?_
    rintro e w' ⟨rfl, q, rfl⟩
    obtain ⟨ts, hts⟩ : ∃ ts, Lib.compact l ++ List.replicate (l.length - (Lib.compact l).length) [] = ts := ⟨_, rfl⟩
    have hcl : (Lib.compact l).length ≤ l.length := comp_len _ _
    have htl : ts.length = l.length := by rw [← hts, List.length_append, List.length_replicate]; omega
    rw [hts]
    have hW := ownsRow_sorted (w := w) (base := B) (g := g) (cap := cap) (n := q) (os := #[]) (ss := l) (ts := ts) htl k1 k2 k3 k4 k5
    rw [grow_empty] at hW
    have hA : WdsAt (putRow encStr (Sort.ahead w q) g 0 ts.toArray) B (.slice (some ⟨g, 0, none⟩) ts.length cap) ts := by unfold WdsAt; rw [htl]; exact hW
    refine ⟨_, rfl, ⟨_, _, rfl, fun i x hx => ⟨g, 0, rfl, ?_⟩⟩, ?_⟩
    · have hi := (List.getElem?_eq_some_iff.1 hx).1
      rw [Nat.zero_add]
      refine hA.cell ?_
      rw [← hts, List.getElem?_append_left hi]; exact hx
    · have hg := grownBy_sorted (w := w) (g := g) (n := q) (os := #[]) ts.toArray
      rw [grow_empty] at hg
      exact (Below.refl B w).grown hg hB (fun k e => by cases e; exact k1)
def RawP (l : List Wd) (k j : Nat) (raw : List Wd) : Prop :=
  (∀ x, x ∈ raw ↔ x = [] ∨ ∃ i w n, l[i]? = some w ∧ n < w.length ∧ (i < k ∨ i = k ∧ n < j) ∧ x = w.take n ∧ alwB l x = true) ∧ raw.length ≤ 1 + k * 32 + j
theorem RawP.start (l : List Wd) : RawP l 0 0 [[]] := ⟨fun x => by
  rw [List.mem_singleton]
  refine ⟨.inl, fun h => h.elim id ?_⟩
  rintro ⟨i, w, n, -, -, h, -⟩
  omega, by simp⟩
theorem RawP.skip {l : List Wd} {k j : Nat} {raw : List Wd} {w : Wd} (h : RawP l k j raw) (hw : l[k]? = some w) (ha : alwB l (w.take j) = false) : RawP l k (j + 1) raw := by
  refine ⟨fun x => ?_, by have := h.2; omega⟩
  rw [h.1]
  refine or_congr Iff.rfl ⟨?_, ?_⟩
  · rintro ⟨i, u, n, a1, a2, a3, a4⟩
    exact ⟨i, u, n, a1, a2, by omega, a4⟩
  · rintro ⟨i, u, n, a1, a2, a3, a4, a5⟩
    by_cases hx : i = k ∧ n = j
    · obtain ⟨rfl, rfl⟩ := hx
      rw [hw] at a1
      injection a1 with a1
      subst a1
      rw [a4, ha] at a5
      cases a5
    · exact ⟨i, u, n, a1, a2, by omega, a4, a5⟩
theorem RawP.put {l : List Wd} {k j : Nat} {raw : List Wd} {w : Wd} (h : RawP l k j raw) (hw : l[k]? = some w) (hj : j < w.length) (ha : alwB l (w.take j) = true) : RawP l k (j + 1) (raw ++ [w.take j]) := by
  refine ⟨fun x => ?_, by rw [List.length_append, List.length_singleton]; have := h.2; omega⟩
  rw [List.mem_append, List.mem_singleton, h.1]
  constructor
  · rintro ((h1 | ⟨i, u, n, a1, a2, a3, a4⟩) | h1)
    · exact .inl h1
    · exact .inr ⟨i, u, n, a1, a2, by omega, a4⟩
    · exact .inr ⟨k, w, j, hw, hj, by omega, h1, by rw [h1]; exact ha⟩
  · rintro (h1 | ⟨i, u, n, a1, a2, a3, a4, a5⟩)
    · exact .inl (.inl h1)
    · by_cases hx : i = k ∧ n = j
      · obtain ⟨rfl, rfl⟩ := hx
        rw [hw] at a1
        injection a1 with a1
        subst a1
        exact .inr a4
      · exact .inl (.inr ⟨i, u, n, a1, a2, by omega, a4, a5⟩)
theorem RawP.next {l : List Wd} {k j : Nat} {raw : List Wd} {w : Wd} (h : RawP l k j raw) (hw : l[k]? = some w) (hj : w.length = j) (h32 : j ≤ 32) : RawP l (k + 1) 0 raw := by
  refine ⟨fun x => ?_, by have := h.2; omega⟩
  rw [h.1]
  refine or_congr Iff.rfl ⟨?_, ?_⟩
  · rintro ⟨i, u, n, a1, a2, a3, a4⟩
    exact ⟨i, u, n, a1, a2, by omega, a4⟩
  · rintro ⟨i, u, n, a1, a2, a3, a4⟩
    refine ⟨i, u, n, a1, a2, ?_, a4⟩
    by_cases hx : i = k
    · subst hx
      rw [hw] at a1
      injection a1 with a1
      subst a1
      omega
    · omega
theorem RawP.done {l raw : List Wd} (h : RawP l l.length 0 raw) : StL l (Lib.compact (srtW raw)) := by
  obtain ⟨h1, h2⟩ := comp_all (srtW_le raw)
  refine ⟨h1, fun x => ?_⟩
  rw [h2, srtW_mem, h.1]
  unfold IsSt
  refine or_congr Iff.rfl ⟨?_, ?_⟩
  · rintro ⟨i, w, n, a1, a2, a3, rfl, a5⟩
    refine ⟨w, List.mem_of_getElem? a1, List.take_prefix _ _, fun e => ?_, a5⟩
    have := congrArg List.length e
    rw [List.length_take] at this
    omega
  · rintro ⟨w, hw, hp, hne, ha⟩
    obtain ⟨i, hi⟩ := List.mem_iff_getElem?.1 hw
    have hl := (List.getElem?_eq_some_iff.1 hi).1
    have hxl : x.length ≤ w.length := hp.length_le
    have hxe : x = w.take x.length := (List.prefix_iff_eq_take.1 hp)
    refine ⟨i, w, x.length, hi, ?_, .inl hl, hxe, ha⟩
    rcases Nat.lt_or_ge x.length w.length with h | h
    · exact h
    · exact absurd (by rw [hxe, List.take_of_length_le h]) hne
theorem RawP.ne {l raw : List Wd} {k j : Nat} (h : RawP l k j raw) : raw ≠ [] := fun e => by
  have := (h.1 []).2 (.inl rfl)
  rw [e] at this; cases this
end Go.Proofs.YtkpmapeapiodcaaDoor

namespace Go.Proofs.YtkpmapeapiodcaaDoor
open Go.RowKit Go.Sort
set_option linter.unusedSimpArgs false
set_option linter.unusedVariables false

theorem prefix_one (W : World) : WdsAt (W.alloc (.cells #[.string ⟨#[]⟩] 9)) W.heap.size (.slice (some ⟨W.heap.size, 0, none⟩) 1 1) [[]] :=
  ⟨rfl, .inr ⟨W.heap.size, 1, #[.string ⟨#[]⟩], rfl, Nat.le_refl _, heap_alloc_new W _, Nat.le_refl _, by unfold maxLen; omega, rfl, rfl⟩⟩
set_option maxRecDepth 100000 in
set_option maxHeartbeats 12800000 in
theorem prefixes_any (l : List Wd) (v : Value) (p : Nat) (w : World) (hrd : WdsRd w v l) (hl : l.length ≤ 64) (hne : ∀ u ∈ l, u ≠ [] ∧ u.length ≤ 32) (hg : GV l p w) :
    Calls Tryd.prog 42 #[v, .func (.func 41) #[] #[.pointer (some ⟨p, 0, none⟩), .pointer (some ⟨p + 1, 0, none⟩)]] w fun e w' => ∃ u S, e = .returned u ∧ WdsRd w' u S ∧ StL l S ∧ S.length ≤ 5000 ∧ Below w.heap.size w w' := by
  obtain ⟨i0, hi, hz0, hz1, hz2⟩ := info_parts Tryd.infoStrF
  have HNE := Lib.hid hne
  have HRD := Lib.hid hrd
  have HGV := Lib.hid hg
  have HAL := Lib.hid (fun x W (h : GV l p W) hx => allow1_any l x p W hne h hx)
  have R0 := Lib.hid (RawP.start l)
  have T0 := Lib.hid (prefix_one w)
  have B0 := Lib.hid (below1 w (.cells #[.string ⟨#[]⟩] 9))
  obtain ⟨a, c, rfl⟩ := hrd.form
  clear hrd hne hg
  go_enter Tryd.func42, Tryd.ntmps42
  go_wp2_with fail
  obtain ⟨m, hm⟩ : ∃ m, l.length = m := ⟨_, rfl⟩
  have HM := Lib.hid hm
  rw [hm] at HRD hl ⊢
  clear hm
  go_loopg [5, 7, 8, 12] m (fun q s5 s7 s8 s12 wx => ∃ (k : Nat) (raw : List Wd), k + q = m ∧ s12 = .int .i64 (k : Int) ∧ Hid (RawP l k 0 raw) ∧ Hid (WdsAt wx w.heap.size s5 raw) ∧ Hid (Below w.heap.size w wx))
  case atStart => exact ⟨0, _, by omega, rfl, R0, T0, B0⟩
  case round =>
    clear R0 T0 B0
    obtain ⟨k, raw, hkq, rfl, HR, HT, HB⟩ := hrel
    obtain ⟨a5, c5, rfl⟩ := HT.out.slice
    rcases gk with _ | q
    · obtain rfl : k = m := by omega
      have j0 : ¬ ((k : Int) < (k : Int)) := by omega
      have hrl := HR.out.2
      have HSO := Lib.hid (sortW_any w.heap.size _ raw wr HT.out HB.out.size (by omega))
      have HST := Lib.hid (RawP.done (l := l) (raw := raw) (by rw [HM.out]; exact HR.out))
      have hsn : srtW raw ≠ [] := fun e => HR.out.ne (by have h := congrArg List.length e; rw [srtW_len] at h; exact List.eq_nil_of_length_eq_zero h)
      have HCO := Lib.hid (fun v W (h : WdsAt W w.heap.size v (srtW raw)) hB => compactW_any w.heap.size v (srtW raw) W h hB (by rw [srtW_len]; omega) hsn)
      have hcl : (Lib.compact (srtW raw)).length ≤ 5000 := Nat.le_trans (comp_len _ _) (by rw [srtW_len]; omega)
      clear hsn HAL
      go_wp2_with (first
        | (go_at_call 27; (with_reducible refine HSO.out.mono ?_); rintro e W5 ⟨rfl, i5, b5⟩; (have I5 := Lib.hid i5); (have B5 := Lib.hid (HB.out.trans b5)); clear i5 b5)
        | (go_at_call 61; (with_reducible refine (HCO.out _ _ I5.out B5.out.size).mono ?_); rintro e W6 ⟨u6, rfl, i6, b6⟩; (have I6 := Lib.hid i6); (have B6 := Lib.hid (B5.out.trans b6)); clear i6 b6))
      go_ret
      exact ⟨_, _, rfl, I6.out, HST.out, hcl, B6.out⟩
    · obtain ⟨x, hxx⟩ : ∃ x, l[k]? = some x := ⟨_, List.getElem?_eq_getElem (by rw [HM.out]; omega)⟩
      have hxm := HNE.out x (List.mem_of_getElem? hxx)
      have HX := Lib.hid hxx
      have hrd := HRD.out.keep HB.out
      obtain ⟨b, off, c', hv, k1⟩ := (by have h := hrd; rw [← HM.out] at h; exact h : WdsRd wr (.slice a l.length c) l).at hxx
      injection hv with e1 e2 e3
      subst e1
      subst e3
      obtain ⟨L, hL⟩ : ∃ L, x.length = L := ⟨_, rfl⟩
      have HLL := Lib.hid hL
      have hsz : (⟨x.toArray⟩ : ByteArray).size = L := by rw [← hL]; simp [ByteArray.size]
      have hL32 : L ≤ 32 := by rw [← hL]; exact hxm.2
      have j1 : (k : Int) < (m : Int) := by omega
      obtain ⟨Wo, rfl⟩ : ∃ Wo, Wo = wr := ⟨_, rfl⟩
      clear hxx hxm hrd e2 hL
      go_wp2_with fail
      clear k1
      go_loopg [5, 8, 18] L (fun q2 s5 s8 s18 wx => ∃ (j : Nat) (raw2 : List Wd), j + q2 = L ∧ s18 = .int .i64 (j : Int) ∧ Hid (RawP l k j raw2) ∧ Hid (WdsAt wx w.heap.size s5 raw2) ∧ Hid (Below w.heap.size w wx))
      case atStart => exact ⟨0, raw, by omega, rfl, HR, HT, HB⟩
      case round =>
        clear HR HT HB
        obtain ⟨j, raw2, hjq, rfl, HR, HT, HB⟩ := hrel
        obtain ⟨a6, c6, rfl⟩ := HT.out.slice
        rcases gk with _ | q2
        · obtain rfl : j = L := by omega
          have j0 : ¬ ((j : Int) < (j : Int)) := by omega
          have HN := Lib.hid (HR.out.next HX.out HLL.out hL32)
          go_wp2_with fail
          go_roundg q
          case measure => omega
          case rel => exact ⟨k + 1, raw2, by omega, by go_num, HN, HT, HB⟩
        · have j2 : (j : Int) < (L : Int) := by omega
          obtain ⟨g, hg⟩ : ∃ g, x.take j = g := ⟨_, rfl⟩
          have hsl : ∀ W, (Instr.slice 9 (.string ⟨x.toArray⟩) none (some (.int .i64 (j : Int))) none).run Tryd.prog W = .ok (.string ⟨g.toArray⟩) W := fun W => run_take_atF x g j _ rfl (by rw [HLL.out]; omega) hg W
          have hgl : g.length ≤ 100000 := by rw [← hg, List.length_take, HLL.out]; omega
          have HAX := Lib.hid (HAL.out g wr (HGV.out.keep HB.out) hgl)
          have hrl := HR.out.2
          obtain ⟨M, hM⟩ : ∃ M, alwB l g = M := ⟨_, rfl⟩
          rw [hM] at HAX
          cases M with
          | false =>
            have HS := Lib.hid (HR.out.skip HX.out (by rw [hg]; exact hM))
            clear hM hg
            go_wp2_with (go_at_call 41; (with_reducible refine HAX.out.mono ?_); rintro e W3 ⟨rfl, b3⟩; (have T3 := Lib.hid (HT.out.keep b3)); (have B3 := Lib.hid (below_more HB.out (Nat.le_refl _) b3)); clear b3)
            go_roundg q2
            case measure => omega
            case rel => exact ⟨j + 1, raw2, by omega, by go_num, HS, T3, B3⟩
          | true =>
            have HS := Lib.hid (HR.out.put HX.out (by rw [HLL.out]; omega) (by rw [hg]; exact hM))
            rw [hg] at HS
            obtain ⟨f, hf⟩ : ∃ f, raw2.length = f := ⟨_, rfl⟩
            rw [hf] at HT hrl ⊢
            have HFL := Lib.hid hf
            clear hM hg hf
            go_wp2_with (first
              | (go_at_call 41; (with_reducible refine HAX.out.mono ?_); rintro e W3 ⟨rfl, b3⟩; (have T3 := Lib.hid (HT.out.keep b3)); (have hrow : W3.ownsRow w.heap.size 9 1 (.slice a6 f c6) f (raw2.map encStr) := by have h := T3.out; unfold WdsAt at h; rw [HFL.out] at h; exact h); (have B3 := Lib.hid (below_more HB.out (Nat.le_refl _) b3)); clear b3)
              | (at_builtin; refine wpList_append_lies _ rfl _ _ 22 rfl w.heap.size 9 i0 (.string ⟨#[]⟩) 1 16 Tryd.underlying22 hi hz0 hz1 hz2 rfl (by decide) (.slice a6 f c6) f (raw2.map encStr) rfl (hrow.alloc _) ⟨W3.heap.size, 0, none⟩ 1 1 [.string ⟨g.toArray⟩] rfl rfl (cell_one_new _ _ _) (by intro u hu; simp at hu; rcases hu with rfl; rfl) (by decide) (by unfold maxLen; omega) (by omega) (by have h8 := B3.out.size; rw [World.size_alloc]; omega) _ rfl ?_; intro g9 c9 w6 t1 t2 t3 t4))
            have T6 := Lib.hid (show WdsAt w6 w.heap.size (.slice (some ⟨g9, 0, none⟩) (f + 1) c9) (raw2 ++ [g]) by unfold WdsAt; rw [List.length_append, List.length_singleton, HFL.out, List.map_append]; exact t1)
            have B6 := Lib.hid ((B3.out.alloc B3.out.size (.cells #[.string ⟨g.toArray⟩] 9)).grown t2 (by have h8 := B3.out.size; rw [World.size_alloc]; omega) (fun y hy => (hrow.lt y hy).1))
            clear t1 t2 t3 t4
            go_roundg q2
            case measure => omega
            case rel => exact ⟨j + 1, raw2 ++ [g], by omega, by go_num, HS, T6, B6⟩
end Go.Proofs.YtkpmapeapiodcaaDoor

namespace Go.Proofs.YtkpmapeapiodcaaDoor
open Go.RowKit Go.Maps
set_option linter.unusedSimpArgs false
set_option linter.unusedVariables false

def stpT (p : MapS × Nat) (x : Wd) : MapS × Nat := (p.1.put (.string x) (.lit (.int .i64 (p.2 : Int))), p.2 + 1)
def mapT (l : List Wd) : MapS := (l.foldl stpT (.map [], 0)).1
theorem mapT_len : ∀ (l : List Wd) (p : MapS × Nat), (l.foldl stpT p).2 = p.2 + l.length
  | [], p => rfl
  | x :: r, p => by rw [List.foldl_cons, mapT_len r, List.length_cons]; show p.2 + 1 + r.length = _; omega
theorem mapT_snoc (l : List Wd) (x : Wd) : mapT (l ++ [x]) = (mapT l).put (.string x) (.lit (.int .i64 ((l.length : Nat) : Int))) := by
  unfold mapT
  rw [List.foldl_append]
  show ((l.foldl stpT (.map [], 0)).1.put _ _) = _
  rw [mapT_len l (.map [], 0), Nat.zero_add]
theorem mapT_is : ∀ (l : List Wd), IsMap (mapT l) :=
  snocS isMap_empty (fun l x ih => by rw [mapT_snoc]; exact ih.put _ _)
theorem mapT_has (x : Wd) : ∀ (l : List Wd), Maps.has (mapT l) (.string x) = decide (x ∈ l) :=
  snocS (by simp [mapT, Maps.has]) (fun l y ih => by
    rw [mapT_snoc]
    by_cases h : x = y
    · subst h
      rw [has_put_same (mapT_is l) (keyS_key _)]; simp
    · rw [has_put_other (keyS_ne h), ih]; simp [h])
theorem mapT_at (x : Wd) (z : MapS) : ∀ (l : List Wd), l.Nodup → x ∈ l → (mapT l).atKey (.string x) z = .lit (.int .i64 ((l.idxOf x : Nat) : Int)) :=
  snocS (fun _ h => by cases h) (fun l y ih hn h => by
    rw [mapT_snoc]
    rw [List.nodup_append] at hn
    by_cases e : x = y
    · subst e
      have hx : x ∉ l := fun h2 => hn.2.2 x h2 x (by simp) rfl
      rw [atKey_put_same (mapT_is l) (keyS_key _), List.idxOf_append, if_neg hx]; simp
    · have hl : x ∈ l := by
        rw [List.mem_append, List.mem_singleton] at h
        exact h.resolve_right e
      rw [atKey_put_other (keyS_ne e), ih hn.1 hl, List.idxOf_append, if_pos hl])
theorem Tryd.zeroIF (w : World) : (zeroValue 3).run Tryd.prog w = .ok (.int .i64 0) w := by kernel_rfl
set_option maxRecDepth 100000 in
theorem tail_of (c : UInt8) (r : Wd) (w : World) : (Instr.slice 9 (.string ⟨(c :: r).toArray⟩) (some (.int .i64 1)) none none).run Tryd.prog w = .ok (.string ⟨r.toArray⟩) w := by
  rw [run_slice_string_l w 9 ⟨(c :: r).toArray⟩ Tryd.underlying9 .i64 1 (by omega) (by simp [ByteArray.size]; omega)]
  simp [ByteArray.extract_mk, ByteArray.size]
set_option maxRecDepth 100000 in
set_option maxHeartbeats 6400000 in
theorem suffix_any (S : List Wd) (x : Wd) (b k : Nat) (w : World) (hn : [] ∈ S) (hd : S.Nodup) (hm : w.ownsMap Tryd.prog 9 (plainElem Tryd.prog 3) b k (mapT S)) (hx : x.length ≤ 100000) :
    Calls Tryd.prog 43 #[.map (some b), .string ⟨x.toArray⟩] w fun e w' => e = .returned (.int .i64 ((S.idxOf (sufW S x) : Nat) : Int)) ∧ w' = w := by
  have HD := Lib.hid hd
  have HN := Lib.hid hn
  obtain ⟨R, hR⟩ : ∃ R, S.idxOf (sufW S x) = R := ⟨_, rfl⟩
  have H0 := Lib.hid hR
  rw [hR]
  obtain ⟨L, hL⟩ : ∃ L, x.length = L := ⟨_, rfl⟩
  have H1 := Lib.hid hL
  rw [hL] at hx
  clear hd hn hR hL
  go_enter Tryd.func43, Tryd.ntmps43
  go_wp2_with fail
  go_loopg [1, 5, 6, 7] L (fun q s1 s5 s6 s7 wx => ∃ y : Wd, s1 = .string ⟨y.toArray⟩ ∧ Hid (y.length = q) ∧ Hid (y.length ≤ L) ∧ Hid (S.idxOf (sufW S y) = R) ∧ wx = w)
  case atStart => exact ⟨x, rfl, H1, Lib.hid (Nat.le_of_eq H1.out), H0, rfl⟩
  case round =>
    clear H0 H1
    obtain ⟨y, rfl, HL, HLe, HR, rfl⟩ := hrel
    obtain ⟨q, rfl⟩ : ∃ q, q = gk := ⟨_, rfl⟩
    have hyl : y.length ≤ 100000 := Nat.le_trans HLe.out hx
    have hkey := keyS_of (x := y) (by omega)
    have hhas := mapT_has y S
    by_cases hin : y ∈ S
    · rw [decide_eq_true hin] at hhas
      have HAT := Lib.hid (fun z => mapT_at y z S HD.out hin)
      have HE := Lib.hid (show S.idxOf y = R by
        have h := HR.out
        cases y with
        | nil => unfold sufW at h; exact h
        | cons c r => unfold sufW at h; rw [if_pos hin] at h; exact h)
      clear hin hyl
      go_wp2_with (at_lookup; refine wpList_lookup_own_ok_int _ rfl _ _ 60 rfl 9 3 .i64 Tryd.keyedS Tryd.underlying60 Tryd.underlying3 (Tryd.zeroIF _) b k (mapT S) rfl hm _ _ rfl hkey ?_; intro z hat hwz; rw [hhas])
      go_ret
      have hz := hat.symm.trans (HAT.out _)
      injection hz with hz
      injection hz with _ hz
      exact ⟨by rw [hz, HE.out]; rfl, rfl⟩
    · rw [decide_eq_false hin] at hhas
      cases y with
      | nil => exact absurd HN.out hin
      | cons c r =>
        have HE := Lib.hid (show S.idxOf (sufW S r) = R by
          have h := HR.out
          unfold sufW at h
          rw [if_neg hin] at h
          exact h)
        have hl9 := HL.out
        rw [List.length_cons] at hl9
        obtain ⟨q, rfl⟩ : ∃ q', q = q' + 1 := ⟨q - 1, by omega⟩
        have HRL := Lib.hid (show r.length = q by omega)
        have HRE := Lib.hid (show r.length ≤ L by have := HLe.out; rw [List.length_cons] at this; omega)
        have htl := fun W => tail_of c r W
        obtain ⟨B, hB⟩ : ∃ B : ByteArray, (⟨(c :: r).toArray⟩ : ByteArray) = B := ⟨_, rfl⟩
        rw [hB] at htl hkey ⊢
        clear hin hyl hl9 hB
        go_wp2_with (at_lookup; refine wpList_lookup_own_ok_int _ rfl _ _ 60 rfl 9 3 .i64 Tryd.keyedS Tryd.underlying60 Tryd.underlying3 (Tryd.zeroIF _) b k (mapT S) rfl hm _ _ rfl hkey ?_; intro z hat hwz; rw [hhas])
        go_roundg q
        case measure => omega
        case rel => exact ⟨r, rfl, HRL, HRE, HE, rfl⟩
end Go.Proofs.YtkpmapeapiodcaaDoor
