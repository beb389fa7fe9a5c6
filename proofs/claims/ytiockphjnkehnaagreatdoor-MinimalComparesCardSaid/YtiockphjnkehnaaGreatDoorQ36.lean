/- What grooveref12.Same and SameSets return; groovelaw12.even; subset.Count where the number is 7. Conditions: all can be read. Plain: the reference's search for sets, which looks at the bounds behind each edge. No condition. What grooveref12.index returns: the number of the first row that is a list, or -1. Condition: all can be read. -/
import Derived.Test.YtiockphjnkehnaaGreatDoorQ14
import Derived.Test.YtiockphjnkehnaaGreatDoorQ09
import Derived.Test.YtiockphjnkehnaaGreatDoorQ13

namespace Go.Proofs.YtiockphjnkehnaaGreatDoor
open Go.RowKit
set_option linter.unusedSimpArgs false
set_option linter.unusedVariables false

theorem take_ne {α : Type} {l m : List α} {i : Nat} {x y : α} (hx : l[i]? = some x) (hy : m[i]? = some y) (h : x ≠ y) : l ≠ m := fun e => h (by rw [e, hy] at hx; injection hx with hx; exact hx.symm)
theorem take_all {α : Type} {l m : List α} (hl : l.length = m.length) (h : l.take l.length = m.take l.length) : l = m := by
  rw [List.take_length, hl, List.take_length] at h; exact h
set_option maxRecDepth 100000 in
set_option maxHeartbeats 3200000 in
theorem same12_any (l m : List Int) (u v : Value) (w : World) (hu : IntsRd w u l) (hv : IntsRd w v m) (hl : l.length ≤ 100000) (hm : m.length ≤ 9223372036854775807) :
    Calls Tryz.prog 118 #[u, v] w fun e w' => e = .returned (.bool (decide (l = m))) ∧ Below w.heap.size w w' := by
  have HU := Lib.hid hu
  have HV := Lib.hid hv
  obtain ⟨a, c, rfl⟩ := hu.form
  obtain ⟨a2, c2, rfl⟩ := hv.form
  clear hu hv
  by_cases h0 : l.length = m.length
  · have d0 : ((l.length : Int) != (m.length : Int)) = false := by rw [h0]; simp
    obtain ⟨R, hR⟩ : ∃ R, decide (l = m) = R := ⟨_, rfl⟩
    have HR := Lib.hid hR
    have HL0 := Lib.hid h0
    rw [hR]
    rw [← h0] at d0 ⊢
    clear hR h0
    go_enter Tryz.func118, Tryz.ntmps118
    go_wp2_with fail
    go_loopg [5] l.length (fun q s5 wx => ∃ i : Nat, i + q = l.length ∧ s5 = .int .i64 (i : Int) ∧ Hid (l.take i = m.take i) ∧ Hid (Below w.heap.size w wx))
    case atStart => exact ⟨0, by omega, rfl, Lib.hid rfl, Lib.hid (Below.refl _ _)⟩
    case round =>
      obtain ⟨i, hin, rfl, HT, HB⟩ := hrel
      rcases gk with _ | q
      · obtain rfl : i = l.length := by omega
        have HE := Lib.hid (show R = true by rw [← HR.out]; exact decide_eq_true (take_all HL0.out HT.out))
        have j1 : ¬ ((l.length : Int) < (l.length : Int)) := by omega
        go_wp2_with fail
        go_ret
        exact ⟨by rw [HE.out]; rfl, HB.out⟩
      · obtain ⟨x, hx⟩ : ∃ x, l[i]? = some x := ⟨_, List.getElem?_eq_getElem (by omega)⟩
        obtain ⟨y, hy⟩ : ∃ y, m[i]? = some y := ⟨_, List.getElem?_eq_getElem (by have := HL0.out; omega)⟩
        obtain ⟨b1, o1, k1, e1, c1⟩ := (HU.out.keep HB.out).at hx
        obtain ⟨b2, o2, k2, e2, c3⟩ := (HV.out.keep HB.out).at hy
        injection e1 with e1 _ e3
        injection e2 with e2 _ e4
        subst e1
        subst e2
        subst e3
        subst e4
        have HX := Lib.hid hx
        have HY := Lib.hid hy
        have HLM := Lib.hid HL0.out
        have j1 : (i : Int) < (l.length : Int) := by omega
        have KX := Lib.hid (show wr.drew.cell? ⟨b1, o1 + i, none⟩ = some (.int .i64 x) ∧ wr.drew.cell? ⟨b2, o2 + i, none⟩ = some (.int .i64 y) from ⟨c1, c3⟩)
        have j2 : i < l.length := by omega
        clear hx hy
        by_cases hxy : x = y
        · have d1 : (x != y) = false := by simpa using hxy
          have HT2 := Lib.hid (show l.take (i + 1) = m.take (i + 1) by rw [take_snoc HX.out, take_snoc HY.out, HT.out, hxy])
          clear hxy
          go_upto_region 6 with fail
          go_region_held3 (fun W => W.cell? ⟨b1, o1 + i, none⟩ = some (.int .i64 x) ∧ W.cell? ⟨b2, o2 + i, none⟩ = some (.int .i64 y)) (first | exact KX.out | go_keep) (fail)
          all_goals
            go_wp2_with fail
            go_roundg q
            case measure => omega
            case rel => exact ⟨i + 1, by omega, by go_num, HT2, Lib.hid HB.out.drew⟩
        · have d1 : (x != y) = true := by simpa using hxy
          have HE := Lib.hid (show R = false by rw [← HR.out]; exact decide_eq_false (take_ne HX.out HY.out hxy))
          clear hxy
          go_upto_region 6 with fail
          go_region_held3 (fun W => W.cell? ⟨b1, o1 + i, none⟩ = some (.int .i64 x) ∧ W.cell? ⟨b2, o2 + i, none⟩ = some (.int .i64 y)) (first | exact KX.out | go_keep) (fail)
          all_goals
            go_wp2_with fail
            go_ret
            exact ⟨by rw [HE.out]; rfl, HB.out.drew⟩
  · have d0 : ((l.length : Int) != (m.length : Int)) = true := by rw [bne_iff_ne]; omega
    have HE := Lib.hid (show decide (l = m) = false from decide_eq_false (fun e => h0 (by rw [e])))
    clear h0
    go_enter Tryz.func118, Tryz.ntmps118
    go_wp2_with fail
    go_ret
    exact ⟨by rw [HE.out]; rfl, Below.refl _ _⟩
end Go.Proofs.YtiockphjnkehnaaGreatDoor

namespace Go.Proofs.YtiockphjnkehnaaGreatDoor
open Go.RowKit
set_option linter.unusedSimpArgs false
set_option linter.unusedVariables false

theorem tooN_mono {es : List E3} {i c : Nat} {b : Bs} (h : tooN (rowN es i b c)) : ∀ d, tooN (rowN es i b (c + d))
  | 0 => h
  | d + 1 => by
    have h1 := tooN_mono h d
    have h2 := visN_len es i (c + d) (rowN es i b (c + d))
    rw [← Nat.add_assoc, rowN_succ]
    unfold tooN at h1 ⊢
    rcases h1 with h1 | h1
    · left; omega
    · right; omega
theorem tooN_row {es : List E3} {i c La : Nat} {b : Bs} (h : tooN (rowN es i b (c + 1))) (hc : c < La) : tooN (rowN es i b La) := by
  have := tooN_mono h (La - (c + 1))
  rwa [show c + 1 + (La - (c + 1)) = La by omega] at this
structure HeadN (es : List E3) (La n S i : Nat) (b : Bs) : Prop where
  run : runN es La (66 - i) i b = builtN es La S
  ok : ¬ tooN b
  le : i ≤ b.1.length
  sm : BN n b.1
  lt : ∀ T ∈ b.1, T < 18446744073709551616
  fst : b.1[0]? = some S
theorem HeadN.start {es : List E3} {La n S : Nat} (hb : ∀ i, S.testBit i = true → i < n) (hS : S < 18446744073709551616) : HeadN es La n S 0 ([S], []) := by
  refine ⟨rfl, fun h => ?_, Nat.zero_le _, fun T hT => ?_, fun T hT => ?_, rfl⟩
  · unfold tooN at h
    rcases h with h | h
    · exact absurd h (by show ¬ 64 < 1; omega)
    · exact absurd h (by show ¬ 1024 < 0; omega)
  · rw [List.mem_singleton] at hT; subst hT; exact hb
  · rw [List.mem_singleton] at hT; subst hT; exact hS
theorem rowN_lt {es : List E3} {i : Nat} {b : Bs} (h : ∀ T ∈ b.1, T < 18446744073709551616) : ∀ c, ∀ T ∈ (rowN es i b c).1, T < 18446744073709551616
  | 0 => h
  | c + 1 => by
    have ih := rowN_lt (es := es) (i := i) h c
    rw [rowN_succ]
    intro T hT
    by_cases h0 : stN es ((rowN es i b c).1.getD i 0) c = 0
    · rw [visN_none h0] at hT; exact ih T hT
    · by_cases h1 : stN es ((rowN es i b c).1.getD i 0) c ∈ (rowN es i b c).1
      · rw [visN_old h0 h1] at hT; exact ih T hT
      · rw [visN_new h0 h1] at hT
        rw [List.mem_append, List.mem_singleton] at hT
        rcases hT with hT | rfl
        · exact ih T hT
        · exact stN_lt _ _ _
theorem HeadN.small {es : List E3} {La n S i : Nat} {b : Bs} (h : HeadN es La n S i b) : b.1.length ≤ 64 ∧ b.2.length ≤ 1024 := by
  have := h.ok
  unfold tooN at this
  omega
theorem HeadN.next {es : List E3} {La n S i : Nat} {b : Bs} {L : Int} (h : HeadN es La n S i b) (hok : ∀ e ∈ es, okE L (n : Int) e = true) (hi : i < b.1.length) (h2 : ¬ tooN (rowN es i b La)) : HeadN es La n S (i + 1) (rowN es i b La) := by
  have hs := h.small
  have hl := rowN_len es i b La
  refine ⟨?_, h2, by omega, rowN_small hok h.sm La, rowN_lt h.lt La, ?_⟩
  · have h3 := h.run
    rw [show 66 - i = (66 - (i + 1)) + 1 by omega, runN_more hi h2] at h3
    exact h3
  · have h3 := rowN_get (es := es) (i := i) (j := 0) (b := b) (by omega) La
    have h4 : (rowN es i b La).1[0]? = some ((rowN es i b La).1.getD 0 0) := by
      rw [List.getD_eq_getElem?_getD, List.getElem?_eq_getElem (show 0 < (rowN es i b La).1.length by omega)]; rfl
    have h5 : b.1.getD 0 0 = S := by rw [List.getD_eq_getElem?_getD, h.fst]; rfl
    rw [h4, h3, h5]
theorem HeadN.many {es : List E3} {La n S i c : Nat} {b : Bs} (h : HeadN es La n S i b) (hi : i < b.1.length) (hc : c < La) (h2 : tooN (rowN es i b (c + 1))) : builtN es La S = none := by
  have hs := h.small
  rw [← h.run, show 66 - i = (66 - (i + 1)) + 1 by omega]
  exact runN_many hi (tooN_row h2 hc)
theorem HeadN.done {es : List E3} {La n S i : Nat} {b : Bs} (h : HeadN es La n S i b) (hi : ¬ i < b.1.length) : builtN es La S = some b := by
  have hs := h.small
  have hle := h.le
  rw [← h.run, show 66 - i = (66 - (i + 1)) + 1 by omega]
  exact runN_end hi
structure PO (w : World) (La S : Int) (k : Nat) (v u : Value) (W : World) : Prop where
  g : BoxG W w.heap.size La S v
  r : BoxF W (w.heap.size + 1) 0 0 (.slice none 0 0)
  o : BoxF W (w.heap.size + 2) La (k : Int) u
  b : Below w.heap.size w W
  z : w.heap.size + 3 ≤ W.heap.size
section
variable {w W W' : World} {La S : Int} {k : Nat} {v u : Value}
theorem boxG_lowO {M p : Nat} {L S : Int} {v : Value} (h : BoxG W p L S v) (hp : p < M) (hb : Below M W W') : BoxG W' p L S v :=
  ⟨(hb.cell (p := ⟨p, 0, none⟩) hp).trans h.1, (hb.cell (p := ⟨p, 1, none⟩) hp).trans h.2.1, (hb.cell (p := ⟨p, 2, none⟩) hp).trans h.2.2⟩
theorem boxF_lowO {M p : Nat} {L S : Int} {v : Value} (h : BoxF W p L S v) (hp : p < M) (hb : Below M W W') : BoxF W' p L S v :=
  ⟨boxG_lowO h.1 hp hb, (World.frozen?_of_block (hb.block _ hp)).trans h.2.1, (World.frozen?_of_block (hb.block _ hp)).trans h.2.2.1, (World.frozen?_of_block (hb.block _ hp)).trans h.2.2.2⟩
theorem PO.low (h : PO w La S k v u W) (hb : Below (w.heap.size + 3) W W') : PO w La S k v u W' :=
  ⟨boxG_lowO h.g (by omega) hb, boxF_lowO h.r (by omega) hb, boxF_lowO h.o (by omega) hb, h.b.trans (hb.mono (by omega)), Nat.le_trans h.z hb.size⟩
theorem PO.keep (h : PO w La S k v u W) (hb : Below W.heap.size W W') : PO w La S k v u W' := h.low (hb.mono h.z)
theorem PO.start (w : World) (La S : Int) (k : Nat) (v : Value) (t : TypeId) :
    PO w La S k v (.slice none 0 0) (((w.alloc (.cells #[.int .i64 La, .int .i64 S, v] t)).alloc (.cells #[.int .i64 0, .int .i64 0, .slice none 0 0] t)).alloc (.cells #[.int .i64 La, .int .i64 (k : Int), .slice none 0 0] t)) := by
  have g1 := BoxG.new w La S v t
  have b1 := below1 w (.cells #[.int .i64 La, .int .i64 S, v] t)
  have s1 := World.size_alloc w (.cells #[.int .i64 La, .int .i64 S, v] t)
  generalize w.alloc (.cells #[.int .i64 La, .int .i64 S, v] t) = W1 at *
  have g2 := BoxF.new W1 0 0 (.slice none 0 0) t
  have b2 := below1 W1 (.cells #[.int .i64 0, .int .i64 0, .slice none 0 0] t)
  have s2 := World.size_alloc W1 (.cells #[.int .i64 0, .int .i64 0, .slice none 0 0] t)
  generalize W1.alloc (.cells #[.int .i64 0, .int .i64 0, .slice none 0 0] t) = W2 at *
  have g3 := BoxF.new W2 La (k : Int) (.slice none 0 0) t
  have b3 := below1 W2 (.cells #[.int .i64 La, .int .i64 (k : Int), .slice none 0 0] t)
  rw [s1] at g2
  rw [s2, s1] at g3
  exact ⟨(g1.keep b2).keep b3, g2.keep b3, g3, below_more (below_more b1 (Nat.le_refl _) b2) (Nat.le_refl _) b3, by rw [World.size_alloc, s2, s1]; omega⟩
theorem boxG_setO {p q : Nat} {L S : Int} {v : Value} (h : BoxG W p L S v) (hne : q ≠ p) (x : Value) : BoxG (W.setCell ⟨q, 2, none⟩ x) p L S v :=
  ⟨(World.cell?_setCell_far _ _ _ _ (by exact hne)).trans h.1, (World.cell?_setCell_far _ _ _ _ (by exact hne)).trans h.2.1, (World.cell?_setCell_far _ _ _ _ (by exact hne)).trans h.2.2⟩
theorem PO.set (h : PO w La S k v u W) (u' : Value) : PO w La S k v u' (W.setCell ⟨w.heap.size + 2, 2, none⟩ u') :=
  ⟨boxG_setO h.g (by omega) _, h.r.other (by show w.heap.size + 2 ≠ _; omega) _, h.o.set2 _, h.b.setCell (p := ⟨w.heap.size + 2, 2, none⟩) (by show _ ≤ w.heap.size + 2; omega) _, by have := (KeepsWalks.setCell W ⟨w.heap.size + 2, 2, none⟩ u').size; exact Nat.le_trans h.z this⟩
end
end Go.Proofs.YtiockphjnkehnaaGreatDoor

namespace Go.Proofs.YtiockphjnkehnaaGreatDoor
open Go.RowKit
set_option linter.unusedSimpArgs false
set_option linter.unusedVariables false

def idxM (rows : List (List Int)) (r : List Int) : Int := if r ∈ rows then ((rows.idxOf r : Nat) : Int) else -1
theorem idxOf_first {α : Type} [BEq α] [LawfulBEq α] {l : List α} {i : Nat} {x : α} (h : l[i]? = some x) (hn : x ∉ l.take i) : l.idxOf x = i := by
  have hi := (List.getElem?_eq_some_iff.1 h).1
  have h1 : l = l.take i ++ l.drop i := (List.take_append_drop i l).symm
  have h2 : l.drop i = x :: l.drop (i + 1) := by
    rw [List.drop_eq_getElem_cons hi, (List.getElem?_eq_some_iff.1 h).2]
  rw [h1, List.idxOf_append, if_neg hn, h2, List.idxOf_cons_self, List.length_take]
  omega
set_option maxRecDepth 100000 in
set_option maxHeartbeats 3200000 in
theorem index12_any (rows : List (List Int)) (r : List Int) (u v : Value) (w : World) (hu : RowsRd w u rows) (hv : IntsRd w v r) (hl : rows.length ≤ 100000) (hl2 : ∀ x ∈ rows, x.length ≤ 100000) (hr : r.length ≤ 100000) :
    Calls Tryz.prog 106 #[u, v] w fun e w' => e = .returned (.int .i64 (idxM rows r)) ∧ Below w.heap.size w w' := by
  have HU := Lib.hid hu
  have HV := Lib.hid hv
  have HL2 := Lib.hid hl2
  obtain ⟨a, c, rfl⟩ := hu.form
  obtain ⟨a2, c2, rfl⟩ := hv.form
  obtain ⟨X, hX⟩ : ∃ X, idxM rows r = X := ⟨_, rfl⟩
  have HX := Lib.hid hX
  rw [hX]
  clear hu hv hl2 hX
  go_enter Tryz.func106, Tryz.ntmps106
  go_wp2_with fail
  go_loopg [5] rows.length (fun q s5 wx => ∃ i : Nat, i + q = rows.length ∧ s5 = .int .i64 (i : Int) ∧ Hid (r ∉ rows.take i) ∧ Hid (Below w.heap.size w wx))
  case atStart => exact ⟨0, by omega, rfl, Lib.hid (by simp), Lib.hid (Below.refl _ _)⟩
  case round =>
    obtain ⟨i, hin, rfl, HI, HB⟩ := hrel
    rcases gk with _ | q
    · obtain rfl : i = rows.length := by omega
      have HE := Lib.hid (show X = -1 by
        have h := HI.out
        rw [List.take_length] at h
        rw [← HX.out]; unfold idxM; rw [if_neg h])
      have j1 : ¬ ((rows.length : Int) < (rows.length : Int)) := by omega
      clear HI HX
      go_wp2_with fail
      go_ret
      exact ⟨by rw [HE.out]; rfl, HB.out⟩
    · obtain ⟨x, hx⟩ : ∃ x, rows[i]? = some x := ⟨_, List.getElem?_eq_getElem (by omega)⟩
      obtain ⟨b1, o1, k1, u1, e1, c1, r1⟩ := (HU.out.keep HB.out).at hx
      injection e1 with e1 _ e3
      subst e1
      subst e3
      have hmx := List.mem_of_getElem? hx
      have HS := Lib.hid (same12_any x r u1 (.slice a2 r.length c2) wr r1 (HV.out.keep HB.out) (HL2.out x hmx) (by omega))
      obtain ⟨a1, k1', rfl⟩ := r1.form
      have j1 : (i : Int) < (rows.length : Int) := by omega
      by_cases hxr : x = r
      · have HE := Lib.hid (show X = (i : Int) by
          rw [← HX.out]; unfold idxM
          have h9 := hx
          rw [hxr] at h9
          rw [if_pos (List.mem_of_getElem? h9), idxOf_first h9 HI.out])
        rw [decide_eq_true hxr] at HS
        clear HI HX hxr r1 hmx hx
        go_wp2_with (go_at_call 118; (with_reducible refine HS.out.mono ?_); rintro e0 W5 ⟨rfl, b5⟩; (have B5 := Lib.hid (HB.out.trans (b5.mono HB.out.size))); clear b5 c1)
        go_ret
        exact ⟨by rw [HE.out]; rfl, B5.out⟩
      · have HI2 := Lib.hid (show r ∉ rows.take (i + 1) by
          rw [List.take_add_one, hx, List.mem_append]
          rintro (h | h)
          · exact HI.out h
          · simp at h; exact hxr h.symm)
        rw [decide_eq_false hxr] at HS
        clear HI hxr r1 hmx hx
        go_wp2_with (go_at_call 118; (with_reducible refine HS.out.mono ?_); rintro e0 W5 ⟨rfl, b5⟩; (have B5 := Lib.hid (HB.out.trans (b5.mono HB.out.size))); clear b5 c1)
        go_roundg q
        case measure => omega
        case rel => exact ⟨i + 1, by omega, by go_num, HI2, B5⟩
set_option maxRecDepth 100000 in
set_option maxHeartbeats 3200000 in
theorem states12_any (La : Int) (n : Nat) (v : Value) (w : World) (hv : ∃ a k c, v = .slice a k c) (hn : n ≤ 64) :
    Calls Tryz.prog 56 #[grV La (n : Int) v] w fun e w' => ∃ a c, e = .returned (.slice a (mems n (fun _ => true)).length c) ∧ IntsAt w' w.heap.size (.slice a (mems n (fun _ => true)).length c) (mems n (fun _ => true)) ∧ Below w.heap.size w w' := by
  obtain ⟨i0, hi, hz0, hz1, hz2⟩ := info_parts Tryz.infoI64
  obtain ⟨a, k, c, rfl⟩ := hv
  have b0 := below1 w (.cells #[.int .i64 La, .int .i64 (n : Int), .slice a k c] 24)
  have G1 := BoxG.new w La (n : Int) (.slice a k c) 24
  have b1 := below1 (w.alloc (.cells #[.int .i64 La, .int .i64 (n : Int), .slice a k c] 24)) (.cells #[] 3)
  have G0 := Lib.hid (G1.keep b1)
  have B0 := Lib.hid (below_more b0 (Nat.le_refl _) b1)
  have I0 : IntsAt ((w.alloc (.cells #[.int .i64 La, .int .i64 (n : Int), .slice a k c] 24)).alloc (.cells #[] 3)) (w.heap.size + 1) (.slice (some ⟨w.heap.size + 1, 0, none⟩) 0 0) [] := by
    have h := World.ownsRow_made (w.alloc (.cells #[.int .i64 La, .int .i64 (n : Int), .slice a k c] 24)) (base := w.heap.size + 1) (e := 3) (size := 1) #[] 0 (by rw [World.size_alloc]; exact Nat.le_refl _) (by unfold maxLen; omega) rfl
    rw [World.size_alloc] at h
    exact h
  have II := Lib.hid I0
  obtain ⟨x1, x2, x3⟩ := id G1
  clear b0 b1 G1 I0
  go_enter Tryz.func56, Tryz.ntmps56
  go_wp2_with fail
  clear x1 x2 x3
  generalize ((w.alloc (.cells #[.int .i64 La, .int .i64 (n : Int), .slice a k c] 24)).alloc (.cells #[] 3)) = W0 at *
  go_loopg [3, 4] n (fun q s3 s4 wx => ∃ i : Nat, i + q = n ∧ s4 = .int .i64 (i : Int) ∧ IntsAt wx (w.heap.size + 1) s3 (mems i (fun _ => true)) ∧ Hid (BoxG wx w.heap.size La (n : Int) (.slice a k c)) ∧ Hid (Below w.heap.size w wx) ∧ w.heap.size + 1 ≤ wx.heap.size)
  case atStart => exact ⟨0, by omega, rfl, II.out, G0, B0, by have h : w.heap.size + 1 < W0.heap.size := (II.out.lt (w.heap.size + 1) rfl).2; omega⟩
  case round =>
    clear II G0 B0
    obtain ⟨i, hin, rfl, hown, HG, HB, hz⟩ := hrel
    obtain ⟨x1, x2, x3⟩ := id HG.out
    obtain ⟨a3, c3, rfl⟩ := hown.slice
    have hml := mems_len i (fun _ => true)
    have hsn := mems_succ i (fun _ => true)
    obtain ⟨m, hm⟩ : ∃ m, (mems i (fun _ => true)).length = m := ⟨_, rfl⟩
    have HM := Lib.hid hm
    rcases gk with _ | q
    · obtain rfl : i = n := by omega
      have j0 : ¬ ((i : Int) < (i : Int)) := by omega
      have HI := Lib.hid (own_low hown (Nat.le_succ w.heap.size))
      rw [hm] at HI ⊢
      clear hown hsn hm
      go_wp2_with fail
      go_ret
      exact ⟨a3, c3, by rw [HM.out]; rfl, by unfold IntsAt; rw [HM.out]; exact HI.out, HB.out⟩
    · have j0 : (i : Int) < (n : Int) := by omega
      have hown0 := hown
      unfold IntsAt at hown0
      rw [hm] at hown0 hml ⊢
      have hlt := hown0.lt
      have HS := Lib.hid (show mems (i + 1) (fun _ => true) = mems i (fun _ => true) ++ [(i : Int)] by rw [hsn]; rfl)
      clear hown hsn hm
      go_wp2_with (at_builtin; refine wpList_append_own_at _ rfl _ _ 30 rfl (w.heap.size + 1) 3 i0 (.int .i64 0) 1 8 Tryz.underlying30 hi hz0 hz1 hz2 rfl (by decide) _ _ _ rfl (hown0.alloc _) ⟨wr.heap.size, 0, none⟩ 1 1 [.int .i64 (i : Int)] rfl rfl (cell_one_new _ _ _) (by intro u hu; simp at hu; subst hu; rfl) (by unfold maxLen; omega) (by omega) (by rw [World.size_alloc]; omega) ?_; intro v' W2 hown2 hgrow _ hv')
      have E2 := Lib.hid (show IntsAt W2 (w.heap.size + 1) v' (mems (i + 1) (fun _ => true)) by unfold IntsAt; rw [HS.out, List.length_append, HM.out, intz_snoc]; exact hown2)
      have hbM : Below (w.heap.size + 1) wr W2 := ((Below.refl (w.heap.size + 1) wr).alloc hz _).grown hgrow (by rw [World.size_alloc]; omega) (fun k hk => (hlt k hk).1)
      have G2 := Lib.hid (boxG_lowO HG.out (Nat.lt_succ_self _) hbM)
      have B2 := Lib.hid (HB.out.trans (hbM.mono (Nat.le_succ _)))
      have hz2 : w.heap.size + 1 ≤ W2.heap.size := Nat.le_trans hz hbM.size
      obtain ⟨a', c', rfl⟩ := own_slice hown2
      clear hown0 hown2 hgrow hlt hv' hbM x1 x2 x3
      go_wp2_with fail
      go_roundg q
      case measure => omega
      case rel => exact ⟨i + 1, by omega, by go_num, E2.out, G2, B2, hz2⟩
end Go.Proofs.YtiockphjnkehnaaGreatDoor
