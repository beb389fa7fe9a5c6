/- What graph.Deterministic returns. Condition: a list's length is one of a slice. What groovelaw09.awake returns: true. No condition. What slices.Contains of integers returns. Condition: the length is one of a slice. -/
import Derived.Test.YtbgfllohedhmaaaQ08
import Derived.Test.YtbgfllohedhmaaaQ02
import Derived.Test.YtbgfllohedhmaaaQ06
import Derived.Test.YtbgfllohedhmaaaQ05

namespace Go.Proofs.Ytbgfllohedhmaaa
open Go.RowKit
set_option linter.unusedSimpArgs false
set_option linter.unusedVariables false

/-- No two neighbours leave one state with one label. -/
def detE : List E3 → Bool
  | [] => true
  | [_] => true
  | a :: b :: r => !(a.1 == b.1 && a.2.1 == b.2.1) && detE (b :: r)
theorem detE_drop {es : List E3} {j : Nat} {d e : E3} (h1 : es[j]? = some d) (h2 : es[j + 1]? = some e) : detE (es.drop j) = (!(d.1 == e.1 && d.2.1 == e.2.1) && detE (es.drop (j + 1))) := by
  rw [drop_at h1, drop_at h2]; rfl
theorem detE_end {es : List E3} {j : Nat} (h : es.length ≤ j + 1) : detE (es.drop j) = true := by
  have hl : (es.drop j).length ≤ 1 := by rw [List.length_drop]; omega
  match es.drop j, hl with
  | [], _ => rfl
  | [_], _ => rfl
/-- What a round of Deterministic reads, and what lay before. -/
def LD (w : World) (L S : Int) (v : Value) (b off j k : Nat) (d e : E3) (W : World) : Prop := Below w.heap.size w W ∧ BoxG W w.heap.size L S v ∧
  W.cell? ⟨b, off + j * 3, none⟩ = some (.int .i64 d.1) ∧ W.cell? ⟨b, off + j * 3 + 1, none⟩ = some (.int .i64 d.2.1) ∧ W.cell? ⟨b, off + j * 3 + 2, none⟩ = some (.int .i64 d.2.2) ∧
  W.cell? ⟨b, off + k * 3, none⟩ = some (.int .i64 e.1) ∧ W.cell? ⟨b, off + k * 3 + 1, none⟩ = some (.int .i64 e.2.1) ∧ W.cell? ⟨b, off + k * 3 + 2, none⟩ = some (.int .i64 e.2.2) ∧ w.heap.size + 1 ≤ W.heap.size
section
variable {w W W' : World} {L S : Int} {v : Value} {b off j k : Nat} {d e : E3}
theorem LD.keep (h : LD w L S v b off j k d e W) (hb : Below W.heap.size W W') : LD w L S v b off j k d e W' := by
  obtain ⟨h0, h1, h2, h3, h4, h5, h6, h7, h8⟩ := h
  exact ⟨h0.trans (hb.mono h0.size), h1.keep hb, cell_keep h2 hb, cell_keep h3 hb, cell_keep h4 hb, cell_keep h5 hb, cell_keep h6 hb, cell_keep h7 hb, Nat.le_trans h8 hb.size⟩
theorem LD.alloc (h : LD w L S v b off j k d e W) (o : Obj) : LD w L S v b off j k d e (W.alloc o) := h.keep (below1 W o)
theorem LD.drew (h : LD w L S v b off j k d e W) : LD w L S v b off j k d e W.drew := h.keep (Below.refl _ _).drew
theorem LD.size (h : LD w L S v b off j k d e W) : w.heap.size + 1 ≤ W.heap.size := h.2.2.2.2.2.2.2.2
theorem LD.far {q : Nat} (h : LD w L S v b off j k d e W) (hq : w.heap.size + 1 ≤ q) (hb : b < w.heap.size) (f : E3) : LD w L S v b off j k d e (stE W q f) := by
  obtain ⟨h0, h1, h2, h3, h4, h5, h6, h7, h8⟩ := h
  have hqb : q ≠ b := by omega
  have hqw : q ≠ w.heap.size := by omega
  have fc : ∀ {i : Nat} {u : Value}, W.cell? ⟨b, i, none⟩ = some u → (stE W q f).cell? ⟨b, i, none⟩ = some u := fun hu => by
    unfold stE
    rw [World.cell?_setCell_far _ _ _ _ (by exact hqb), World.cell?_setCell_far _ _ _ _ (by exact hqb), World.cell?_setCell_far _ _ _ _ (by exact hqb)]
    exact hu
  exact ⟨h0.trans (stE_below (by omega)), boxG_other (boxG_other (boxG_other h1 (by exact hqw) _) (by exact hqw) _) (by exact hqw) _, fc h2, fc h3, fc h4, fc h5, fc h6, fc h7, by unfold stE; simpa using h8⟩
end
/-- What Deterministic returns. -/
def detR (L S : Int) (es : List E3) : Bool × Int := if chkG L S es = 0 then (detE es, 0) else (false, 1)
set_option maxRecDepth 100000 in
set_option maxHeartbeats 6400000 in
theorem deterministic_any (La S : Int) (es : List E3) (v : Value) (w : World) (hrd : EdgesRd w v es) (hn : es.length ≤ 9223372036854775807) :
    Calls Try.prog 28 #[grV La S v] w fun e w' => e = .returned (.tuple #[.bool (detR La S es).1, .int .i64 (detR La S es).2]) ∧ Below w.heap.size w w' := by
  have HV := Lib.hid (fun W h => isValid_any La S es v W h hn)
  have HRD := Lib.hid hrd
  have K0 := Lib.hid (BoxG.new w La S v 24)
  obtain ⟨a, c, rfl⟩ := hrd.form
  clear hrd
  by_cases h0 : chkG La S es = 0
  · have H0 := Lib.hid (show (chkG La S es == 0) = true by rw [h0]; rfl)
    have hlen := (chkG_zero h0).len
    have HE := Lib.hid (show detR La S es = (detE es, 0) by unfold detR; rw [if_pos h0])
    have hmx : Try.prog.follows .mixedOrders = true := by kernel_rfl
    clear h0
    go_enter Try.func28, Try.ntmps28
    go_wp2_with (go_at_call 43; (with_reducible refine (HV.out _ (HRD.out.keep (below1 _ _))).mono ?_); rintro e0 W1 ⟨rfl, b1⟩; (rw [H0.out]); (have G1 := Lib.hid (K0.out.keep b1)); (have B1 := Lib.hid (below_more (below1 w _) (Nat.le_refl _) b1)); (clear b1); (obtain ⟨g1, g2, g3⟩ := id G1.out))
    go_loopg [4] es.length (fun q s4 wx => ∃ k j : Nat, s4 = .int .i64 (k : Int) ∧ Hid (k = j + 1) ∧ es.length - k ≤ q ∧ k ≤ es.length + 1 ∧ Hid (detE (es.drop j) = detE es) ∧ BoxG wx w.heap.size La S (.slice a es.length c) ∧ Below w.heap.size w wx)
    case atStart => exact ⟨1, 0, rfl, Lib.hid rfl, by omega, by omega, Lib.hid rfl, G1.out, B1.out⟩
    case round =>
      clear g1 g2 g3 G1 B1
      obtain ⟨k, j, rfl, Hkj, hq, hk1, HD, hG, hb⟩ := hrel
      by_cases hlt : k < es.length
      · have hkj := Hkj.out
        obtain ⟨d, hd⟩ : ∃ d, es[j]? = some d := ⟨_, List.getElem?_eq_getElem (by omega)⟩
        obtain ⟨e, he⟩ : ∃ e, es[k]? = some e := ⟨_, List.getElem?_eq_getElem hlt⟩
        obtain ⟨b, off, c', hv, k1, k2, k3⟩ := (HRD.out.keep hb).at hd
        injection hv with e1 e2 e3
        subst e1
        subst e3
        obtain ⟨b2, off2, c2, hv, k4, k5, k6⟩ := (HRD.out.keep hb).at he
        injection hv with e1 e2 e3
        injection e1 with e1
        injection e1 with e1 e4
        subst e1
        subst e4
        obtain ⟨b3, off3, c3, hv, k7, -, -⟩ := HRD.out.at hd
        injection hv with e1 e4 e5
        injection e1 with e1
        injection e1 with e1 e6
        subst e1
        have hbw := World.block_lt_of_cell? w _ k7
        dsimp only at hbw
        have hdd := detE_drop hd (by rw [← hkj]; exact he)
        rw [← hkj] at hdd
        have KB0 := Lib.hid (show LD w La S (.slice (some ⟨b, off, none⟩) es.length c) b off j k d e wr from ⟨hb, hG, k1, k2, k3, k4, k5, k6, Nat.lt_of_lt_of_le (World.block_lt_of_cell? _ _ hG.1) (Nat.le_refl _)⟩)
        have hw : IntKind.i64.wrap ((k : Int) - 1) = (j : Int) := by rw [hkj, IntKind.wrap_i64]; omega
        have j1 : (k : Int) < (es.length : Int) := by omega
        have j2 : (j : Int) < (es.length : Int) := by omega
        have HDD := Lib.hid hdd
        obtain ⟨g1, g2, g3⟩ := id hG
        clear hd he hdd e2 e3 e4 e5 e6 k7 hkj k1 k2 k3 k4 k5 k6 hlt
        go_upto_region 6 with fail
        clear g1 g2 g3 hG hb
        have KB := KB0.out.drew
        clear KB0
        refine region_inv' (J := (fun L act wx => ∃ u17 u18 u19 u20 u21 u22 u23 u24 u25 u26 u27 u5 u6, act = { tmps := #[grV La S (.slice (some ⟨b, off, none⟩) es.length c), .pointer (some ⟨w.heap.size, 0, none⟩), u2, u3, .int .i64 (k : Int), u5, u6, .agg #[.int .i64 La, .int .i64 S, .slice (some ⟨b, off, none⟩) es.length c], .bool true, .bool false, .int .i64 (k : Int), .pointer (some ⟨w.heap.size, 2, none⟩), .slice (some ⟨b, off, none⟩) es.length c, .int .i64 (es.length : Int), .bool true, u15, u16, u17, u18, u19, u20, u21, u22, u23, u24, u25, u26, u27, u28, u29, u30, u31, u32, u33, u34, u35, u36, u37, u38, u39], defers := [] } ∧ LD w La S (.slice (some ⟨b, off, none⟩) es.length c) b off j k d e wx ∧
        (L.getD 0 false = true → u17 = .pointer (some ⟨w.heap.size, 2, none⟩)) ∧ (L.getD 1 false = true → u18 = .slice (some ⟨b, off, none⟩) es.length c) ∧ (L.getD 2 false = true → u19 = .int .i64 (k : Int)) ∧ (L.getD 3 false = true → u20 = .int .i64 (j : Int)) ∧ (L.getD 4 false = true → u21 = .pointer (some ⟨b, off + j * 3, none⟩)) ∧ (L.getD 5 false = true → u22 = .agg #[.int .i64 d.1, .int .i64 d.2.1, .int .i64 d.2.2]) ∧ (L.getD 6 false = true → u23 = .pointer (some ⟨w.heap.size, 2, none⟩)) ∧ (L.getD 7 false = true → u24 = .slice (some ⟨b, off, none⟩) es.length c) ∧ (L.getD 8 false = true → u25 = .int .i64 (k : Int)) ∧ (L.getD 9 false = true → u26 = .pointer (some ⟨b, off + k * 3, none⟩)) ∧ (L.getD 10 false = true → u27 = .agg #[.int .i64 e.1, .int .i64 e.2.1, .int .i64 e.2.2]) ∧ (L.getD 11 false = true → SlW (w.heap.size + 1) (d) (L.getD 13 false = true) u5 wx) ∧ (L.getD 12 false = true → SlW (w.heap.size + 1) (e) (L.getD 14 false = true) u6 wx) ∧ (L.getD 11 false = true → L.getD 12 false = true → u5 ≠ u6) ∧ (L.getD 13 false = true → L.getD 11 false = true) ∧ (L.getD 14 false = true → L.getD 12 false = true))) hmx (by kernel_rfl) ?_ ?_ ?_
        · exact ⟨_, _, _, _, _, _, _, _, _, _, _, _, _, rfl, KB, fun h => absurd h (by decide), fun h => absurd h (by decide), fun h => absurd h (by decide), fun h => absurd h (by decide), fun h => absurd h (by decide), fun h => absurd h (by decide), fun h => absurd h (by decide), fun h => absurd h (by decide), fun h => absurd h (by decide), fun h => absurd h (by decide), fun h => absurd h (by decide), fun h => absurd h (by decide), fun h => absurd h (by decide), fun h _ => absurd h (by decide), fun h => absurd h (by decide), fun h => absurd h (by decide)⟩
        · intro i hi L a wx hl hw ⟨u17, u18, u19, u20, u21, u22, u23, u24, u25, u26, u27, u5, u6, ha, lo, c0, c1, c2, c3, c4, c5, c6, c7, c8, c9, c10, s11, s12, d11_12, k13, k14⟩
          subst ha
          obtain ⟨⟨g1, g2, g3⟩, x1, x2, x3, y1', y2', y3', -⟩ := id lo.2
          clear KB
          have hi' : i = 0 ∨ i = 1 ∨ i = 2 ∨ i = 3 ∨ i = 4 ∨ i = 5 ∨ i = 6 ∨ i = 7 ∨ i = 8 ∨ i = 9 ∨ i = 10 ∨ i = 11 ∨ i = 12 ∨ i = 13 ∨ i = 14 := by
            have : i < 15 := hi
            omega
          rcases hi' with rfl | rfl | rfl | rfl | rfl | rfl | rfl | rfl | rfl | rfl | rfl | rfl | rfl | rfl | rfl
          · refine stepJ (i := 0) rfl (fun K hK => ?_)
            go_simp
            refine hK.out _ _ ⟨_, u18, u19, u20, u21, u22, u23, u24, u25, u26, u27, u5, u6, rfl, lo, fun _ => rfl, fun h => c1 (fl (by decide) h), fun h => c2 (fl (by decide) h), fun h => c3 (fl (by decide) h), fun h => c4 (fl (by decide) h), fun h => c5 (fl (by decide) h), fun h => c6 (fl (by decide) h), fun h => c7 (fl (by decide) h), fun h => c8 (fl (by decide) h), fun h => c9 (fl (by decide) h), fun h => c10 (fl (by decide) h), fun h => ((s11 (fl (by decide) h)).imp (fl (by decide))), fun h => ((s12 (fl (by decide) h)).imp (fl (by decide))), fun h h' => d11_12 (fl (by decide) h) (fl (by decide) h'), fun h => getD_set_true (k13 (fl (by decide) h)), fun h => getD_set_true (k14 (fl (by decide) h))⟩
          · refine stepJ (i := 1) rfl (fun K hK => ?_)
            obtain rfl := c0 (hw 0 (by kernel_rfl))
            go_simp
            refine hK.out _ _ ⟨_, _, u19, u20, u21, u22, u23, u24, u25, u26, u27, u5, u6, rfl, lo, fun _ => rfl, fun _ => rfl, fun h => c2 (fl (by decide) h), fun h => c3 (fl (by decide) h), fun h => c4 (fl (by decide) h), fun h => c5 (fl (by decide) h), fun h => c6 (fl (by decide) h), fun h => c7 (fl (by decide) h), fun h => c8 (fl (by decide) h), fun h => c9 (fl (by decide) h), fun h => c10 (fl (by decide) h), fun h => ((s11 (fl (by decide) h)).imp (fl (by decide))), fun h => ((s12 (fl (by decide) h)).imp (fl (by decide))), fun h h' => d11_12 (fl (by decide) h) (fl (by decide) h'), fun h => getD_set_true (k13 (fl (by decide) h)), fun h => getD_set_true (k14 (fl (by decide) h))⟩
          · refine stepJ (i := 2) rfl (fun K hK => ?_)
            go_simp
            refine hK.out _ _ ⟨u17, u18, _, u20, u21, u22, u23, u24, u25, u26, u27, u5, u6, rfl, lo, fun h => c0 (fl (by decide) h), fun h => c1 (fl (by decide) h), fun _ => rfl, fun h => c3 (fl (by decide) h), fun h => c4 (fl (by decide) h), fun h => c5 (fl (by decide) h), fun h => c6 (fl (by decide) h), fun h => c7 (fl (by decide) h), fun h => c8 (fl (by decide) h), fun h => c9 (fl (by decide) h), fun h => c10 (fl (by decide) h), fun h => ((s11 (fl (by decide) h)).imp (fl (by decide))), fun h => ((s12 (fl (by decide) h)).imp (fl (by decide))), fun h h' => d11_12 (fl (by decide) h) (fl (by decide) h'), fun h => getD_set_true (k13 (fl (by decide) h)), fun h => getD_set_true (k14 (fl (by decide) h))⟩
          · refine stepJ (i := 3) rfl (fun K hK => ?_)
            obtain rfl := c2 (hw 2 (by kernel_rfl))
            go_simp
            refine hK.out _ _ ⟨u17, u18, _, _, u21, u22, u23, u24, u25, u26, u27, u5, u6, rfl, lo, fun h => c0 (fl (by decide) h), fun h => c1 (fl (by decide) h), fun _ => rfl, fun _ => rfl, fun h => c4 (fl (by decide) h), fun h => c5 (fl (by decide) h), fun h => c6 (fl (by decide) h), fun h => c7 (fl (by decide) h), fun h => c8 (fl (by decide) h), fun h => c9 (fl (by decide) h), fun h => c10 (fl (by decide) h), fun h => ((s11 (fl (by decide) h)).imp (fl (by decide))), fun h => ((s12 (fl (by decide) h)).imp (fl (by decide))), fun h h' => d11_12 (fl (by decide) h) (fl (by decide) h'), fun h => getD_set_true (k13 (fl (by decide) h)), fun h => getD_set_true (k14 (fl (by decide) h))⟩
          · refine stepJ (i := 4) rfl (fun K hK => ?_)
            obtain rfl := c1 (hw 1 (by kernel_rfl))
            obtain rfl := c3 (hw 3 (by kernel_rfl))
            go_simp
            refine hK.out _ _ ⟨u17, _, u19, _, _, u22, u23, u24, u25, u26, u27, u5, u6, rfl, lo, fun h => c0 (fl (by decide) h), fun _ => rfl, fun h => c2 (fl (by decide) h), fun _ => rfl, fun _ => rfl, fun h => c5 (fl (by decide) h), fun h => c6 (fl (by decide) h), fun h => c7 (fl (by decide) h), fun h => c8 (fl (by decide) h), fun h => c9 (fl (by decide) h), fun h => c10 (fl (by decide) h), fun h => ((s11 (fl (by decide) h)).imp (fl (by decide))), fun h => ((s12 (fl (by decide) h)).imp (fl (by decide))), fun h h' => d11_12 (fl (by decide) h) (fl (by decide) h'), fun h => getD_set_true (k13 (fl (by decide) h)), fun h => getD_set_true (k14 (fl (by decide) h))⟩
          · refine stepJ (i := 5) rfl (fun K hK => ?_)
            obtain rfl := c4 (hw 4 (by kernel_rfl))
            go_simp
            refine hK.out _ _ ⟨u17, u18, u19, u20, _, _, u23, u24, u25, u26, u27, u5, u6, rfl, lo, fun h => c0 (fl (by decide) h), fun h => c1 (fl (by decide) h), fun h => c2 (fl (by decide) h), fun h => c3 (fl (by decide) h), fun _ => rfl, fun _ => rfl, fun h => c6 (fl (by decide) h), fun h => c7 (fl (by decide) h), fun h => c8 (fl (by decide) h), fun h => c9 (fl (by decide) h), fun h => c10 (fl (by decide) h), fun h => ((s11 (fl (by decide) h)).imp (fl (by decide))), fun h => ((s12 (fl (by decide) h)).imp (fl (by decide))), fun h h' => d11_12 (fl (by decide) h) (fl (by decide) h'), fun h => getD_set_true (k13 (fl (by decide) h)), fun h => getD_set_true (k14 (fl (by decide) h))⟩
          · refine stepJ (i := 6) rfl (fun K hK => ?_)
            go_simp
            refine hK.out _ _ ⟨u17, u18, u19, u20, u21, u22, _, u24, u25, u26, u27, u5, u6, rfl, lo, fun h => c0 (fl (by decide) h), fun h => c1 (fl (by decide) h), fun h => c2 (fl (by decide) h), fun h => c3 (fl (by decide) h), fun h => c4 (fl (by decide) h), fun h => c5 (fl (by decide) h), fun _ => rfl, fun h => c7 (fl (by decide) h), fun h => c8 (fl (by decide) h), fun h => c9 (fl (by decide) h), fun h => c10 (fl (by decide) h), fun h => ((s11 (fl (by decide) h)).imp (fl (by decide))), fun h => ((s12 (fl (by decide) h)).imp (fl (by decide))), fun h h' => d11_12 (fl (by decide) h) (fl (by decide) h'), fun h => getD_set_true (k13 (fl (by decide) h)), fun h => getD_set_true (k14 (fl (by decide) h))⟩
          · refine stepJ (i := 7) rfl (fun K hK => ?_)
            obtain rfl := c6 (hw 6 (by kernel_rfl))
            go_simp
            refine hK.out _ _ ⟨u17, u18, u19, u20, u21, u22, _, _, u25, u26, u27, u5, u6, rfl, lo, fun h => c0 (fl (by decide) h), fun h => c1 (fl (by decide) h), fun h => c2 (fl (by decide) h), fun h => c3 (fl (by decide) h), fun h => c4 (fl (by decide) h), fun h => c5 (fl (by decide) h), fun _ => rfl, fun _ => rfl, fun h => c8 (fl (by decide) h), fun h => c9 (fl (by decide) h), fun h => c10 (fl (by decide) h), fun h => ((s11 (fl (by decide) h)).imp (fl (by decide))), fun h => ((s12 (fl (by decide) h)).imp (fl (by decide))), fun h h' => d11_12 (fl (by decide) h) (fl (by decide) h'), fun h => getD_set_true (k13 (fl (by decide) h)), fun h => getD_set_true (k14 (fl (by decide) h))⟩
          · refine stepJ (i := 8) rfl (fun K hK => ?_)
            go_simp
            refine hK.out _ _ ⟨u17, u18, u19, u20, u21, u22, u23, u24, _, u26, u27, u5, u6, rfl, lo, fun h => c0 (fl (by decide) h), fun h => c1 (fl (by decide) h), fun h => c2 (fl (by decide) h), fun h => c3 (fl (by decide) h), fun h => c4 (fl (by decide) h), fun h => c5 (fl (by decide) h), fun h => c6 (fl (by decide) h), fun h => c7 (fl (by decide) h), fun _ => rfl, fun h => c9 (fl (by decide) h), fun h => c10 (fl (by decide) h), fun h => ((s11 (fl (by decide) h)).imp (fl (by decide))), fun h => ((s12 (fl (by decide) h)).imp (fl (by decide))), fun h h' => d11_12 (fl (by decide) h) (fl (by decide) h'), fun h => getD_set_true (k13 (fl (by decide) h)), fun h => getD_set_true (k14 (fl (by decide) h))⟩
          · refine stepJ (i := 9) rfl (fun K hK => ?_)
            obtain rfl := c7 (hw 7 (by kernel_rfl))
            obtain rfl := c8 (hw 8 (by kernel_rfl))
            go_simp
            refine hK.out _ _ ⟨u17, u18, u19, u20, u21, u22, u23, _, _, _, u27, u5, u6, rfl, lo, fun h => c0 (fl (by decide) h), fun h => c1 (fl (by decide) h), fun h => c2 (fl (by decide) h), fun h => c3 (fl (by decide) h), fun h => c4 (fl (by decide) h), fun h => c5 (fl (by decide) h), fun h => c6 (fl (by decide) h), fun _ => rfl, fun _ => rfl, fun _ => rfl, fun h => c10 (fl (by decide) h), fun h => ((s11 (fl (by decide) h)).imp (fl (by decide))), fun h => ((s12 (fl (by decide) h)).imp (fl (by decide))), fun h h' => d11_12 (fl (by decide) h) (fl (by decide) h'), fun h => getD_set_true (k13 (fl (by decide) h)), fun h => getD_set_true (k14 (fl (by decide) h))⟩
          · refine stepJ (i := 10) rfl (fun K hK => ?_)
            obtain rfl := c9 (hw 9 (by kernel_rfl))
            go_simp
            refine hK.out _ _ ⟨u17, u18, u19, u20, u21, u22, u23, u24, u25, _, _, u5, u6, rfl, lo, fun h => c0 (fl (by decide) h), fun h => c1 (fl (by decide) h), fun h => c2 (fl (by decide) h), fun h => c3 (fl (by decide) h), fun h => c4 (fl (by decide) h), fun h => c5 (fl (by decide) h), fun h => c6 (fl (by decide) h), fun h => c7 (fl (by decide) h), fun h => c8 (fl (by decide) h), fun _ => rfl, fun _ => rfl, fun h => ((s11 (fl (by decide) h)).imp (fl (by decide))), fun h => ((s12 (fl (by decide) h)).imp (fl (by decide))), fun h h' => d11_12 (fl (by decide) h) (fl (by decide) h'), fun h => getD_set_true (k13 (fl (by decide) h)), fun h => getD_set_true (k14 (fl (by decide) h))⟩
          · refine stepJ (i := 11) rfl (fun K hK => ?_)
            go_simp
            refine hK.out _ _ ⟨u17, u18, u19, u20, u21, u22, u23, u24, u25, u26, u27, _, u6, rfl, lo.alloc _, fun h => c0 (fl (by decide) h), fun h => c1 (fl (by decide) h), fun h => c2 (fl (by decide) h), fun h => c3 (fl (by decide) h), fun h => c4 (fl (by decide) h), fun h => c5 (fl (by decide) h), fun h => c6 (fl (by decide) h), fun h => c7 (fl (by decide) h), fun h => c8 (fl (by decide) h), fun h => c9 (fl (by decide) h), fun h => c10 (fl (by decide) h), fun _ => SlW.new (fun h => absurd ((k13 (fl (by decide) h)).symm.trans hl) (by decide)) lo.size, fun h => ((s12 (fl (by decide) h)).imp (fl (by decide))).keep (below1 wx _), fun _ h' => Ne.symm (s12 (fl (by decide) h')).ne_new, fun h => getD_set_true (k13 (fl (by decide) h)), fun h => getD_set_true (k14 (fl (by decide) h))⟩
          · refine stepJ (i := 12) rfl (fun K hK => ?_)
            go_simp
            refine hK.out _ _ ⟨u17, u18, u19, u20, u21, u22, u23, u24, u25, u26, u27, u5, _, rfl, lo.alloc _, fun h => c0 (fl (by decide) h), fun h => c1 (fl (by decide) h), fun h => c2 (fl (by decide) h), fun h => c3 (fl (by decide) h), fun h => c4 (fl (by decide) h), fun h => c5 (fl (by decide) h), fun h => c6 (fl (by decide) h), fun h => c7 (fl (by decide) h), fun h => c8 (fl (by decide) h), fun h => c9 (fl (by decide) h), fun h => c10 (fl (by decide) h), fun h => ((s11 (fl (by decide) h)).imp (fl (by decide))).keep (below1 wx _), fun _ => SlW.new (fun h => absurd ((k14 (fl (by decide) h)).symm.trans hl) (by decide)) lo.size, fun h _ => (s11 (fl (by decide) h)).ne_new, fun h => getD_set_true (k13 (fl (by decide) h)), fun h => getD_set_true (k14 (fl (by decide) h))⟩
          · refine stepJ (i := 13) rfl (fun K hK => ?_)
            obtain rfl := c5 (hw 5 (by kernel_rfl))
            obtain ⟨pp, rfl, hpp, ⟨z9, y1, y2, y3, y4, y5, y6⟩, _⟩ := id (s11 (hw 11 (by kernel_rfl)))
            go_simp
            refine hK.out _ _ ⟨u17, u18, u19, u20, u21, _, u23, u24, u25, u26, u27, _, u6, rfl, lo.far hpp hbw _, fun h => c0 (fl (by decide) h), fun h => c1 (fl (by decide) h), fun h => c2 (fl (by decide) h), fun h => c3 (fl (by decide) h), fun h => c4 (fl (by decide) h), fun _ => rfl, fun h => c6 (fl (by decide) h), fun h => c7 (fl (by decide) h), fun h => c8 (fl (by decide) h), fun h => c9 (fl (by decide) h), fun h => c10 (fl (by decide) h), fun _ => (s11 (hw 11 (by kernel_rfl))).put, fun h => ((s12 (fl (by decide) h)).imp (fl (by decide))).far (Ne.symm (d11_12 (hw 11 (by kernel_rfl)) (fl (by decide) h))), fun h h' => d11_12 (fl (by decide) h) (fl (by decide) h'), fun _ => getD_set_true (hw 11 (by kernel_rfl)), fun h => getD_set_true (k14 (fl (by decide) h))⟩
          · refine stepJ (i := 14) rfl (fun K hK => ?_)
            obtain rfl := c10 (hw 10 (by kernel_rfl))
            obtain ⟨pp, rfl, hpp, ⟨z9, y1, y2, y3, y4, y5, y6⟩, _⟩ := id (s12 (hw 12 (by kernel_rfl)))
            go_simp
            refine hK.out _ _ ⟨u17, u18, u19, u20, u21, u22, u23, u24, u25, u26, _, u5, _, rfl, lo.far hpp hbw _, fun h => c0 (fl (by decide) h), fun h => c1 (fl (by decide) h), fun h => c2 (fl (by decide) h), fun h => c3 (fl (by decide) h), fun h => c4 (fl (by decide) h), fun h => c5 (fl (by decide) h), fun h => c6 (fl (by decide) h), fun h => c7 (fl (by decide) h), fun h => c8 (fl (by decide) h), fun h => c9 (fl (by decide) h), fun _ => rfl, fun h => ((s11 (fl (by decide) h)).imp (fl (by decide))).far (d11_12 (fl (by decide) h) (hw 12 (by kernel_rfl))), fun _ => (s12 (hw 12 (by kernel_rfl))).put, fun h h' => d11_12 (fl (by decide) h) (fl (by decide) h'), fun h => getD_set_true (k13 (fl (by decide) h)), fun _ => getD_set_true (hw 12 (by kernel_rfl))⟩
        · rintro L a wx hall ⟨u17, u18, u19, u20, u21, u22, u23, u24, u25, u26, u27, u5, u6, rfl, lo, c0, c1, c2, c3, c4, c5, c6, c7, c8, c9, c10, s11, s12, d11_12, k13, k14⟩
          obtain rfl := c0 (hall 0 (by decide))
          obtain rfl := c1 (hall 1 (by decide))
          obtain rfl := c2 (hall 2 (by decide))
          obtain rfl := c3 (hall 3 (by decide))
          obtain rfl := c4 (hall 4 (by decide))
          obtain rfl := c5 (hall 5 (by decide))
          obtain rfl := c6 (hall 6 (by decide))
          obtain rfl := c7 (hall 7 (by decide))
          obtain rfl := c8 (hall 8 (by decide))
          obtain rfl := c9 (hall 9 (by decide))
          obtain rfl := c10 (hall 10 (by decide))
          obtain ⟨p11, rfl, hp11, -, H11⟩ := s11 (hall 11 (by decide))
          have V11 := H11 (hall 13 (by decide))
          obtain ⟨p12, rfl, hp12, -, H12⟩ := s12 (hall 12 (by decide))
          have V12 := H12 (hall 14 (by decide))
          have n11_12 : p11 ≠ p12 := fun e => d11_12 (hall 11 (by decide)) (hall 12 (by decide)) (by rw [e])
          clear hall c0 c1 c2 c3 c4 c5 c6 c7 c8 c9 c10 s11 H11 s12 H12 d11_12 k13 k14
          have hb := lo.1
          have hG := lo.2.1
          obtain ⟨z1, z2, z3, -, -, -⟩ := id V11
          obtain ⟨z4, z5, z6, -, -, -⟩ := id V12
          clear V11 V12 lo KB
          by_cases h1 : d.1 = e.1
          · have d1 : (d.1 == e.1) = true := by simpa using h1
            by_cases h2 : d.2.1 = e.2.1
            · have d2 : (d.2.1 == e.2.1) = true := by simpa using h2
              have HE2 := Lib.hid (show detE es = false by rw [← HD.out, HDD.out, d1, d2]; rfl)
              clear HD HDD h1 h2
              dsimp only
              go_wp2_with fail
              exact bodyPost_ret (v := .tuple #[.bool false, .int .i64 0]) (by simp [results, Try.results28, go_sem]) rfl ⟨by rw [HE.out, HE2.out], hb⟩
            · have d2 : (d.2.1 == e.2.1) = false := by simpa using h2
              have HD2 := Lib.hid (show detE (es.drop k) = detE es by rw [← HD.out, HDD.out, d1, d2]; rfl)
              clear HD HDD h1 h2
              dsimp only
              go_wp2_with fail
              go_roundg (gk - 1)
              case measure => omega
              case rel => exact ⟨k + 1, k, by go_num, Lib.hid rfl, by omega, by omega, HD2, hG, hb⟩
          · have d1 : (d.1 == e.1) = false := by simpa using h1
            have HD2 := Lib.hid (show detE (es.drop k) = detE es by rw [← HD.out, HDD.out, d1]; rfl)
            clear HD HDD h1
            dsimp only
            go_wp2_with fail
            go_roundg (gk - 1)
            case measure => omega
            case rel => exact ⟨k + 1, k, by go_num, Lib.hid rfl, by omega, by omega, HD2, hG, hb⟩
      · have HE2 := Lib.hid (show detE es = true by rw [← HD.out]; exact detE_end (by have := Hkj.out; omega))
        have j1 : ¬ (k : Int) < (es.length : Int) := by omega
        have hb2 := hb
        obtain ⟨g1, g2, g3⟩ := id hG
        clear HD Hkj hlt
        go_wp2_with fail
        exact bodyPost_ret (v := .tuple #[.bool true, .int .i64 0]) (by simp [results, Try.results28, go_sem]) rfl ⟨by rw [HE.out, HE2.out], hb2⟩
  · have H0 := Lib.hid (show (chkG La S es == 0) = false by simpa using h0)
    have HE := Lib.hid (show detR La S es = (false, 1) by unfold detR; rw [if_neg h0])
    rw [HE.out]
    clear h0
    go_enter Try.func28, Try.ntmps28
    go_wp2_with (go_at_call 43; (with_reducible refine (HV.out _ (HRD.out.keep (below1 _ _))).mono ?_); rintro e0 W1 ⟨rfl, b1⟩; (rw [H0.out]); (have B1 := Lib.hid (below_more (below1 w _) (Nat.le_refl _) b1)); (clear b1))
    exact bodyPost_ret (v := .tuple #[.bool false, .int .i64 1]) (by simp [results, Try.results28, go_sem]) rfl ⟨rfl, B1.out⟩
end Go.Proofs.Ytbgfllohedhmaaa

namespace Go.Proofs.Ytbgfllohedhmaaa
open Go.RowKit
set_option linter.unusedSimpArgs false
set_option linter.unusedVariables false

abbrev gE : List E3 := [(0, 0, 0), (0, 1, 1), (1, 0, 0)]
abbrev mE : List E3 := [(0, 0, 0), (0, 1, 1), (1, 0, 0), (1, 1, 2)]
theorem edgesLit (W : World) (es : List E3) (h0 : 0 < es.length) (hl : es.length ≤ 1000) : EdgesAt (W.alloc (.cells (ecl es).toArray 42)) W.heap.size (.slice (some ⟨W.heap.size, 0, none⟩) es.length es.length) es :=
  ⟨by rw [ecl_len], .inr ⟨W.heap.size, es.length, (ecl es).toArray, rfl, Nat.le_refl _, heap_alloc_new W _, Nat.le_refl _, by unfold maxLen; omega, by rw [List.size_toArray, ecl_len], by
    show (ecl es).take (es.length * 3) = _; rw [← ecl_len, List.take_length]⟩⟩
theorem intsLit (W : World) (l : List Int) (h0 : 0 < l.length) (hl : l.length ≤ 1000) : IntsAt (W.alloc (.cells (intz l).toArray 3)) W.heap.size (.slice (some ⟨W.heap.size, 0, none⟩) l.length l.length) l :=
  ⟨by rw [intz_len, Nat.mul_one], .inr ⟨W.heap.size, l.length, (intz l).toArray, rfl, Nat.le_refl _, heap_alloc_new W _, Nat.le_refl _, by unfold maxLen; omega, by rw [List.size_toArray, intz_len, Nat.mul_one], by
    rw [Nat.mul_one]; show (intz l).take l.length = _; rw [← intz_len, List.take_length]⟩⟩
/-- slices.Equal of two lists of integers. -/
theorem intsEq_any {W : World} {v v' : Value} {l m : List Int} (h : IntsRd W v l) (h' : IntsRd W v' m) (hl : l.length ≤ 1000000) (hm : m.length ≤ 9223372036854775807) :
    Calls Try.prog 12 #[v, v'] W fun e w' => e = .returned (.bool (decide (l = m))) ∧ Below W.heap.size W w' := by
  rcases Nat.eq_zero_or_pos l.length with h0 | h0
  · obtain ⟨a, c, rfl⟩ := h.form
    obtain ⟨a', c', rfl⟩ := h'.form
    obtain rfl : l = [] := List.eq_nil_of_length_eq_zero h0
    refine (Try.slices_Equal_int_empty a a' c m.length c' W hm).mono ?_
    rintro e w' ⟨rfl, rfl⟩
    refine ⟨?_, Below.refl _ _⟩
    congr 2
    rw [decide_eq_decide]
    constructor
    · intro h; exact (List.eq_nil_of_length_eq_zero h).symm
    · rintro rfl; rfl
  · obtain ⟨b1, o1, c1, rfl, -⟩ := h.at (List.getElem?_eq_getElem h0)
    rcases Nat.eq_zero_or_pos m.length with h1 | h1
    · obtain ⟨a', c', rfl⟩ := h'.form
      obtain rfl : m = [] := List.eq_nil_of_length_eq_zero h1
      have hne : ¬ l = [] := fun e => by rw [e] at h0; exact absurd h0 (by decide)
      have HE := Lib.hid (show decide (l = []) = false from decide_eq_false hne)
      have d1 : ((l.length : Int) != 0) = true := by simp; omega
      clear h h' hne h0
      go_enter Try.func12, Try.ntmps12
      go_wp2_with fail
      go_ret
      exact ⟨by rw [HE.out]; rfl, Below.refl _ _⟩
    · obtain ⟨b2, o2, c2, rfl, -⟩ := h'.at (List.getElem?_eq_getElem h1)
      have hc : ∀ {b o c : Nat} {k : List Int}, IntsRd W (.slice (some ⟨b, o, none⟩) k.length c) k → ∀ j, j < k.length → W.cell? ⟨b, o + j, none⟩ = some (.int .i64 (k.getD j 0)) := fun hh j hj => by
        obtain ⟨b9, o9, c9, hv, k9⟩ := hh.at (List.getElem?_eq_getElem hj)
        injection hv with e1 e2 e3
        injection e1 with e1
        injection e1 with e1 e4
        subst e1
        subst e4
        rw [k9, List.getD_eq_getElem?_getD, List.getElem?_eq_getElem hj]; rfl
      refine (Try.slices_Equal_int b1 o1 l.length c1 b2 o2 m.length c2 l m W (Nat.le_refl _) (Nat.le_refl _) (by omega) hm (hc h) (hc h')).mono ?_
      rintro e w' ⟨rfl, q, rfl⟩
      refine ⟨?_, below_drewM (Below.refl _ _) q⟩
      rw [List.take_length, List.take_length]
      congr 2
      rw [Bool.eq_iff_iff, beq_iff_eq, decide_eq_true_iff]
theorem vgG : VG 2 2 gE := chkG_zero (by decide)
theorem vgM : VG 2 3 mE := chkG_zero (by decide)
theorem essM {f : Nat → Bool} (h : Ess 3 mE f) : mems 3 f = [0, 1] := by
  have h2 : f 2 = false := by
    rw [← h.fix 2 (by decide)]
    unfold passF leftF bothF
    simp
  have hT : Closed 3 mE (fun i => decide (i < 2)) := fun i hi h => by
    have : i = 0 ∨ i = 1 := by simp at h; omega
    rcases this with rfl | rfl <;> decide
  have h0 := h.most _ hT 0 (by decide) (by decide)
  have h1 := h.most _ hT 1 (by decide) (by decide)
  unfold mems
  rw [show List.range 3 = [0, 1, 2] from rfl, List.filter_cons, h0, List.filter_cons, h1, List.filter_cons, h2]
  rfl
theorem awk_det (W : World) (v : Value) (h : EdgesRd W v gE) : Calls Try.prog 28 #[grV 2 2 v] W fun e w' => e = .returned (.tuple #[.bool true, .int .i64 0]) ∧ Below W.heap.size W w' := by
  have k := deterministic_any 2 2 gE v W h (by decide)
  rw [show detR 2 2 gE = (true, 0) by decide] at k
  exact k
theorem ecl_enc {es : List E3} {q r : Nat} {u : Value} (hq : q < es.length) (hr : r < 3) (h : (ecl es)[q * 3 + r]? = some u) : (encE es[q]!)[r]? = some u := by
  have e0 : es[q]? = some es[q] := List.getElem?_eq_getElem hq
  have e1 : es[q]! = es[q] := by rw [List.getElem!_eq_getElem?_getD, e0]; rfl
  obtain ⟨k0, k1, k2⟩ := ecl_at e0
  rw [e1]
  rcases (show r = 0 ∨ r = 1 ∨ r = 2 by omega) with rfl | rfl | rfl
  · exact k0.symm.trans h
  · exact k1.symm.trans h
  · exact k2.symm.trans h
theorem awk_eq (W : World) (v1 : Value) (B : Nat) (h1 : IntsAt W B v1 [0, 1]) : Calls Try.prog 12 #[v1, .slice (some ⟨W.heap.size, 0, none⟩) 2 2] (W.alloc (.cells #[.int .i64 0, .int .i64 1] 3)) fun e w' => e = .returned (.bool true) ∧ Below W.heap.size W w' := by
  have k2 := intsLit W [0, 1] (by decide) (by decide)
  have k := intsEq_any (IntsAt.rd (h1.keep (below1 W (.cells #[.int .i64 0, .int .i64 1] 3)))) (IntsAt.rd k2) (by decide) (by decide)
  refine k.mono ?_
  rintro e w' ⟨rfl, hb⟩
  exact ⟨rfl, below_more (below1 W _) (Nat.le_refl _) hb⟩
end Go.Proofs.Ytbgfllohedhmaaa

namespace Go.Proofs.Ytbgfllohedhmaaa
open Go.RowKit
set_option linter.unusedSimpArgs false
set_option linter.unusedVariables false

end Go.Proofs.Ytbgfllohedhmaaa
