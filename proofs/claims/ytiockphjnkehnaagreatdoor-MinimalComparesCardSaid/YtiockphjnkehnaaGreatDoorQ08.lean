/- What graph.Essential returns for a valid graph. No further condition. Plain facts on the essential part: it is valid, every state is entered and left, its essential part is itself; a closed path lies in it. No condition. What graph.Deterministic returns. Condition: a list's length is one of a slice. -/
import Derived.Test.YtiockphjnkehnaaGreatDoorQ07
import Derived.Test.YtiockphjnkehnaaGreatDoorQ06
import Derived.Test.YtiockphjnkehnaaGreatDoorQ02

namespace Go.Proofs.YtiockphjnkehnaaGreatDoor
open Go.RowKit
set_option linter.unusedSimpArgs false
set_option linter.unusedVariables false

theorem mems_iff {n : Nat} {f : Nat → Bool} {x : Int} : x ∈ mems n f ↔ ∃ i : Nat, x = (i : Int) ∧ i < n ∧ f i = true := by
  unfold mems
  rw [List.mem_map]
  constructor
  · rintro ⟨i, h, rfl⟩
    obtain ⟨h1, h2⟩ := List.mem_filter.1 h
    exact ⟨i, rfl, List.mem_range.1 h1, h2⟩
  · rintro ⟨i, rfl, h1, h2⟩
    exact ⟨i, List.mem_filter.2 ⟨List.mem_range.2 h1, h2⟩, rfl⟩
theorem mems_asc (n : Nat) (f : Nat → Bool) : (mems n f).Pairwise (· < ·) := by
  unfold mems
  rw [List.pairwise_map]
  refine (List.Pairwise.filter f List.pairwise_lt_range).imp ?_
  intro a b h
  omega
theorem mems_sg (n : Nat) (f : Nat → Bool) : SG (n : Int) (mems n f) := ⟨fun x hx => by obtain ⟨i, rfl, h, -⟩ := mems_iff.1 hx; omega, mems_asc n f⟩
end Go.Proofs.YtiockphjnkehnaaGreatDoor

namespace Go.Proofs.YtiockphjnkehnaaGreatDoor
set_option linter.unusedVariables false

theorem idx_lt {l : List Int} {a : Int} (h : a ∈ l) : l.idxOf a < l.length := List.idxOf_lt_length_of_mem h
theorem idx_get {l : List Int} {a : Int} (h : a ∈ l) : l[l.idxOf a]? = some a := by
  rw [List.getElem?_eq_getElem (idx_lt h), List.getElem_idxOf]
theorem asc_lt {l : List Int} (h : l.Pairwise (· < ·)) {i j : Nat} {a b : Int} (ha : l[i]? = some a) (hb : l[j]? = some b) (hij : i < j) : a < b := by
  obtain ⟨hi, rfl⟩ := List.getElem?_eq_some_iff.1 ha
  obtain ⟨hj, rfl⟩ := List.getElem?_eq_some_iff.1 hb
  exact List.pairwise_iff_getElem.1 h i j hi hj hij
theorem idx_mono {l : List Int} (h : l.Pairwise (· < ·)) {a b : Int} (ha : a ∈ l) (hb : b ∈ l) (hab : a < b) : l.idxOf a < l.idxOf b := by
  rcases Nat.lt_or_ge (l.idxOf a) (l.idxOf b) with h1 | h1
  · exact h1
  · rcases Nat.lt_or_ge (l.idxOf b) (l.idxOf a) with h2 | h2
    · have := asc_lt h (idx_get hb) (idx_get ha) h2
      omega
    · have e : l.idxOf a = l.idxOf b := by omega
      have k1 := idx_get ha
      rw [e, idx_get hb] at k1
      injection k1 with k1
      omega
theorem idx_of {l : List Int} (h : l.Pairwise (· < ·)) {i : Nat} {a : Int} (ha : l[i]? = some a) : l.idxOf a = i := by
  have hm : a ∈ l := List.mem_of_getElem? ha
  rcases Nat.lt_or_ge (l.idxOf a) i with h1 | h1
  · have := asc_lt h (idx_get hm) ha h1; omega
  · rcases Nat.lt_or_ge i (l.idxOf a) with h2 | h2
    · have := asc_lt h ha (idx_get hm) h2; omega
    · omega
theorem partE_mem {st : List Int} {es : List E3} {x : E3} : x ∈ partE st es ↔ ∃ e ∈ es, (e.1 ∈ st ∧ e.2.2 ∈ st) ∧ x = ((st.idxOf e.1 : Int), e.2.1, (st.idxOf e.2.2 : Int)) := by
  unfold partE
  rw [List.mem_filterMap]
  constructor
  · rintro ⟨e, he, h⟩
    split at h
    · injection h with h
      exact ⟨e, he, by assumption, h.symm⟩
    · cases h
  · rintro ⟨e, he, h, rfl⟩
    exact ⟨e, he, by rw [if_pos h]⟩
theorem part_ltE {st : List Int} (h : st.Pairwise (· < ·)) {a b : E3} (ha : a.1 ∈ st ∧ a.2.2 ∈ st) (hb : b.1 ∈ st ∧ b.2.2 ∈ st) (hab : ltE a b = true) :
    ltE ((st.idxOf a.1 : Int), a.2.1, (st.idxOf a.2.2 : Int)) ((st.idxOf b.1 : Int), b.2.1, (st.idxOf b.2.2 : Int)) = true := by
  rw [ltE_iff] at hab ⊢
  dsimp only
  rcases hab with h1 | ⟨h1, h2 | ⟨h2, h3⟩⟩
  · have := idx_mono h ha.1 hb.1 h1
    left; omega
  · right; exact ⟨by rw [h1], .inl h2⟩
  · right
    have := idx_mono h ha.2 hb.2 h3
    exact ⟨by rw [h1], .inr ⟨h2, by omega⟩⟩
theorem part_asc {st : List Int} (h : st.Pairwise (· < ·)) {es : List E3} (hes : es.Pairwise (fun a b => ltE a b = true)) : (partE st es).Pairwise (fun a b => ltE a b = true) := by
  unfold partE
  rw [List.pairwise_filterMap]
  refine hes.imp ?_
  intro a b hab x hx y hy
  split at hx
  · split at hy
    · injection hx with hx
      injection hy with hy
      subst hx
      subst hy
      exact part_ltE h (by assumption) (by assumption) hab
    · cases hy
  · cases hx
theorem part_vg {L : Int} {n : Nat} {es : List E3} {st : List Int} (h : VG L (n : Int) es) (hs : SG (n : Int) st) : VG L (st.length : Int) (partE st es) := by
  have hl := hs.len
  have := h.s2
  refine ⟨h.l1, h.l2, by omega, by omega, Nat.le_trans (partE_len st es) h.len, fun x hx => ?_, part_asc hs.2 h.asc⟩
  obtain ⟨e, he, ⟨h1, h2⟩, rfl⟩ := partE_mem.1 hx
  have := okE_iff.1 (h.ok e he)
  have := idx_lt h1
  have := idx_lt h2
  rw [okE_iff]
  dsimp only
  omega
section
variable {L : Int} {n : Nat} {es : List E3} {f : Nat → Bool}
end
def allI (k : Nat) : List Int := (List.range k).map fun (i : Nat) => (i : Int)
theorem allI_len (k : Nat) : (allI k).length = k := by unfold allI; rw [List.length_map, List.length_range]
theorem mems_all {k : Nat} {f : Nat → Bool} (h : ∀ i, i < k → f i = true) : mems k f = allI k := by
  unfold mems allI
  rw [List.filter_eq_self.2 (fun x hx => h x (List.mem_range.1 hx))]
theorem allI_mem {k : Nat} {x : Int} : x ∈ allI k ↔ 0 ≤ x ∧ x < (k : Int) := by
  unfold allI
  rw [List.mem_map]
  constructor
  · rintro ⟨a, ha, rfl⟩
    rw [List.mem_range] at ha
    omega
  · rintro ⟨h1, h2⟩
    exact ⟨x.toNat, List.mem_range.2 (by omega), by omega⟩
end Go.Proofs.YtiockphjnkehnaaGreatDoor

namespace Go.Proofs.YtiockphjnkehnaaGreatDoor
open Go.RowKit
set_option linter.unusedSimpArgs false
set_option linter.unusedVariables false

def detE : List E3 → Bool
  | [] => true
  | [_] => true
  | a :: b :: r => !(a.1 == b.1 && a.2.1 == b.2.1) && detE (b :: r)
theorem detE_drop {es : List E3} {j : Nat} {d e : E3} (h1 : es[j]? = some d) (h2 : es[j + 1]? = some e) : detE (es.drop j) = (!(d.1 == e.1 && d.2.1 == e.2.1) && detE (es.drop (j + 1))) := by
  rw [drop_at h1, drop_at h2]; rfl
theorem detE_end {es : List E3} {j : Nat} (h : es.length ≤ j + 1) : detE (es.drop j) = true := by
  have hl : (es.drop j).length ≤ 1 := by rw [List.length_drop]; omega
  match es.drop j, hl with
  | [], _ => rfl
  | [_], _ => rfl
def LD (w : World) (L S : Int) (v : Value) (b off j k : Nat) (d e : E3) (W : World) : Prop := Below w.heap.size w W ∧ BoxG W w.heap.size L S v ∧
  W.cell? ⟨b, off + j * 3, none⟩ = some (.int .i64 d.1) ∧ W.cell? ⟨b, off + j * 3 + 1, none⟩ = some (.int .i64 d.2.1) ∧ W.cell? ⟨b, off + j * 3 + 2, none⟩ = some (.int .i64 d.2.2) ∧
  W.cell? ⟨b, off + k * 3, none⟩ = some (.int .i64 e.1) ∧ W.cell? ⟨b, off + k * 3 + 1, none⟩ = some (.int .i64 e.2.1) ∧ W.cell? ⟨b, off + k * 3 + 2, none⟩ = some (.int .i64 e.2.2) ∧ w.heap.size + 1 ≤ W.heap.size
section
variable {w W W' : World} {L S : Int} {v : Value} {b off j k : Nat} {d e : E3}
theorem LD.keep (h : LD w L S v b off j k d e W) (hb : Below W.heap.size W W') : LD w L S v b off j k d e W' := by
  obtain ⟨h0, h1, h2, h3, h4, h5, h6, h7, h8⟩ := h
  exact ⟨h0.trans (hb.mono h0.size), h1.keep hb, cell_keep h2 hb, cell_keep h3 hb, cell_keep h4 hb, cell_keep h5 hb, cell_keep h6 hb, cell_keep h7 hb, Nat.le_trans h8 hb.size⟩
theorem LD.alloc (h : LD w L S v b off j k d e W) (o : Obj) : LD w L S v b off j k d e (W.alloc o) := h.keep (below1 W o)
theorem LD.drew (h : LD w L S v b off j k d e W) : LD w L S v b off j k d e W.drew := h.keep (Below.refl _ _).drew
theorem LD.size (h : LD w L S v b off j k d e W) : w.heap.size + 1 ≤ W.heap.size := h.2.2.2.2.2.2.2.2
theorem LD.far {q : Nat} (h : LD w L S v b off j k d e W) (hq : w.heap.size + 1 ≤ q) (hb : b < w.heap.size) (f : E3) : LD w L S v b off j k d e (stE W q f) := by
  obtain ⟨h0, h1, h2, h3, h4, h5, h6, h7, h8⟩ := h
  have hqb : q ≠ b := by omega
  have hqw : q ≠ w.heap.size := by omega
  have fc : ∀ {i : Nat} {u : Value}, W.cell? ⟨b, i, none⟩ = some u → (stE W q f).cell? ⟨b, i, none⟩ = some u := fun hu => by
    unfold stE
    rw [World.cell?_setCell_far _ _ _ _ (by exact hqb), World.cell?_setCell_far _ _ _ _ (by exact hqb), World.cell?_setCell_far _ _ _ _ (by exact hqb)]
    exact hu
  exact ⟨h0.trans (stE_below (by omega)), boxG_other (boxG_other (boxG_other h1 (by exact hqw) _) (by exact hqw) _) (by exact hqw) _, fc h2, fc h3, fc h4, fc h5, fc h6, fc h7, by unfold stE; simpa using h8⟩
end
def detR (L S : Int) (es : List E3) : Bool × Int := if chkG L S es = 0 then (detE es, 0) else (false, 1)
set_option maxRecDepth 100000 in
set_option maxHeartbeats 6400000 in
theorem deterministic_any (La S : Int) (es : List E3) (v : Value) (w : World) (hrd : EdgesRd w v es) (hn : es.length ≤ 9223372036854775807) :
    Calls Tryz.prog 68 #[grV La S v] w fun e w' => e = .returned (.tuple #[.bool (detR La S es).1, .int .i64 (detR La S es).2]) ∧ Below w.heap.size w w' := by
  have HV := Lib.hid (fun W h => isValid_any La S es v W h hn)
  have HRD := Lib.hid hrd
  have K0 := Lib.hid (BoxG.new w La S v 24)
  obtain ⟨a, c, rfl⟩ := hrd.form
  clear hrd
  by_cases h0 : chkG La S es = 0
  · have H0 := Lib.hid (show (chkG La S es == 0) = true by rw [h0]; rfl)
    have hlen := (chkG_zero h0).len
    have HE := Lib.hid (show detR La S es = (detE es, 0) by unfold detR; rw [if_pos h0])
    have hmx : Tryz.prog.follows .mixedOrders = true := by kernel_rfl
    clear h0
    go_enter Tryz.func68, Tryz.ntmps68
    go_wp2_with (go_at_call 48; (with_reducible refine (HV.out _ (HRD.out.keep (below1 _ _))).mono ?_); rintro e0 W1 ⟨rfl, b1⟩; (rw [H0.out]); (have G1 := Lib.hid (K0.out.keep b1)); (have B1 := Lib.hid (below_more (below1 w _) (Nat.le_refl _) b1)); (clear b1); (obtain ⟨g1, g2, g3⟩ := id G1.out))
    go_loopg [4] es.length (fun q s4 wx => ∃ k j : Nat, s4 = .int .i64 (k : Int) ∧ Hid (k = j + 1) ∧ es.length - k ≤ q ∧ k ≤ es.length + 1 ∧ Hid (detE (es.drop j) = detE es) ∧ BoxG wx w.heap.size La S (.slice a es.length c) ∧ Below w.heap.size w wx)
    case atStart => exact ⟨1, 0, rfl, Lib.hid rfl, by omega, by omega, Lib.hid rfl, G1.out, B1.out⟩
    case round =>
      clear g1 g2 g3 G1 B1
      obtain ⟨k, j, rfl, Hkj, hq, hk1, HD, hG, hb⟩ := hrel
      by_cases hlt : k < es.length
      · have hkj := Hkj.out
        obtain ⟨d, hd⟩ : ∃ d, es[j]? = some d := ⟨_, List.getElem?_eq_getElem (by omega)⟩
        obtain ⟨e, he⟩ : ∃ e, es[k]? = some e := ⟨_, List.getElem?_eq_getElem hlt⟩
        obtain ⟨b, off, c', hv, k1, k2, k3⟩ := (HRD.out.keep hb).at hd
        injection hv with e1 e2 e3
        subst e1
        subst e3
        obtain ⟨b2, off2, c2, hv, k4, k5, k6⟩ := (HRD.out.keep hb).at he
        injection hv with e1 e2 e3
        injection e1 with e1
        injection e1 with e1 e4
        subst e1
        subst e4
        obtain ⟨b3, off3, c3, hv, k7, -, -⟩ := HRD.out.at hd
        injection hv with e1 e4 e5
        injection e1 with e1
        injection e1 with e1 e6
        subst e1
        have hbw := World.block_lt_of_cell? w _ k7
        dsimp only at hbw
        have hdd := detE_drop hd (by rw [← hkj]; exact he)
        rw [← hkj] at hdd
        have KB0 := Lib.hid (show LD w La S (.slice (some ⟨b, off, none⟩) es.length c) b off j k d e wr from ⟨hb, hG, k1, k2, k3, k4, k5, k6, Nat.lt_of_lt_of_le (World.block_lt_of_cell? _ _ hG.1) (Nat.le_refl _)⟩)
        have hw : IntKind.i64.wrap ((k : Int) - 1) = (j : Int) := by rw [hkj, IntKind.wrap_i64]; omega
        have j1 : (k : Int) < (es.length : Int) := by omega
        have j2 : (j : Int) < (es.length : Int) := by omega
        have HDD := Lib.hid hdd
        obtain ⟨g1, g2, g3⟩ := id hG
        clear hd he hdd e2 e3 e4 e5 e6 k7 hkj k1 k2 k3 k4 k5 k6 hlt
        go_upto_region 6 with fail
        clear g1 g2 g3 hG hb
        have KB := KB0.out.drew
        clear KB0
        refine region_inv' (J := (fun L act wx => ∃ u17 u18 u19 u20 u21 u22 u23 u24 u25 u26 u27 u5 u6, act = { tmps := #[grV La S (.slice (some ⟨b, off, none⟩) es.length c), .pointer (some ⟨w.heap.size, 0, none⟩), u2, u3, .int .i64 (k : Int), u5, u6, .agg #[.int .i64 La, .int .i64 S, .slice (some ⟨b, off, none⟩) es.length c], .bool true, .bool false, .int .i64 (k : Int), .pointer (some ⟨w.heap.size, 2, none⟩), .slice (some ⟨b, off, none⟩) es.length c, .int .i64 (es.length : Int), .bool true, u15, u16, u17, u18, u19, u20, u21, u22, u23, u24, u25, u26, u27, u28, u29, u30, u31, u32, u33, u34, u35, u36, u37, u38, u39], defers := [] } ∧ LD w La S (.slice (some ⟨b, off, none⟩) es.length c) b off j k d e wx ∧
        (L.getD 0 false = true → u17 = .pointer (some ⟨w.heap.size, 2, none⟩)) ∧ (L.getD 1 false = true → u18 = .slice (some ⟨b, off, none⟩) es.length c) ∧ (L.getD 2 false = true → u19 = .int .i64 (k : Int)) ∧ (L.getD 3 false = true → u20 = .int .i64 (j : Int)) ∧ (L.getD 4 false = true → u21 = .pointer (some ⟨b, off + j * 3, none⟩)) ∧ (L.getD 5 false = true → u22 = .agg #[.int .i64 d.1, .int .i64 d.2.1, .int .i64 d.2.2]) ∧ (L.getD 6 false = true → u23 = .pointer (some ⟨w.heap.size, 2, none⟩)) ∧ (L.getD 7 false = true → u24 = .slice (some ⟨b, off, none⟩) es.length c) ∧ (L.getD 8 false = true → u25 = .int .i64 (k : Int)) ∧ (L.getD 9 false = true → u26 = .pointer (some ⟨b, off + k * 3, none⟩)) ∧ (L.getD 10 false = true → u27 = .agg #[.int .i64 e.1, .int .i64 e.2.1, .int .i64 e.2.2]) ∧ (L.getD 11 false = true → SlW (w.heap.size + 1) (d) (L.getD 13 false = true) u5 wx) ∧ (L.getD 12 false = true → SlW (w.heap.size + 1) (e) (L.getD 14 false = true) u6 wx) ∧ (L.getD 11 false = true → L.getD 12 false = true → u5 ≠ u6) ∧ (L.getD 13 false = true → L.getD 11 false = true) ∧ (L.getD 14 false = true → L.getD 12 false = true))) hmx (by kernel_rfl) ?_ ?_ ?_
        · exact ⟨_, _, _, _, _, _, _, _, _, _, _, _, _, rfl, KB, fun h => absurd h (by decide), fun h => absurd h (by decide), fun h => absurd h (by decide), fun h => absurd h (by decide), fun h => absurd h (by decide), fun h => absurd h (by decide), fun h => absurd h (by decide), fun h => absurd h (by decide), fun h => absurd h (by decide), fun h => absurd h (by decide), fun h => absurd h (by decide), fun h => absurd h (by decide), fun h => absurd h (by decide), fun h _ => absurd h (by decide), fun h => absurd h (by decide), fun h => absurd h (by decide)⟩
        · intro i hi L a wx hl hw ⟨u17, u18, u19, u20, u21, u22, u23, u24, u25, u26, u27, u5, u6, ha, lo, c0, c1, c2, c3, c4, c5, c6, c7, c8, c9, c10, s11, s12, d11_12, k13, k14⟩
          subst ha
          obtain ⟨⟨g1, g2, g3⟩, x1, x2, x3, y1', y2', y3', -⟩ := id lo.2
          clear KB
          have hi' : i = 0 ∨ i = 1 ∨ i = 2 ∨ i = 3 ∨ i = 4 ∨ i = 5 ∨ i = 6 ∨ i = 7 ∨ i = 8 ∨ i = 9 ∨ i = 10 ∨ i = 11 ∨ i = 12 ∨ i = 13 ∨ i = 14 := by
            have : i < 15 := hi
            omega
          rcases hi' with rfl | rfl | rfl | rfl | rfl | rfl | rfl | rfl | rfl | rfl | rfl | rfl | rfl | rfl | rfl
          · refine stepJ (i := 0) rfl (fun K hK => ?_)
            go_simp
            refine hK.out _ _ ⟨_, u18, u19, u20, u21, u22, u23, u24, u25, u26, u27, u5, u6, rfl, lo, fun _ => rfl, fun h => c1 (fl (by decide) h), fun h => c2 (fl (by decide) h), fun h => c3 (fl (by decide) h), fun h => c4 (fl (by decide) h), fun h => c5 (fl (by decide) h), fun h => c6 (fl (by decide) h), fun h => c7 (fl (by decide) h), fun h => c8 (fl (by decide) h), fun h => c9 (fl (by decide) h), fun h => c10 (fl (by decide) h), fun h => ((s11 (fl (by decide) h)).imp (fl (by decide))), fun h => ((s12 (fl (by decide) h)).imp (fl (by decide))), fun h h' => d11_12 (fl (by decide) h) (fl (by decide) h'), fun h => getD_set_true (k13 (fl (by decide) h)), fun h => getD_set_true (k14 (fl (by decide) h))⟩
          · refine stepJ (i := 1) rfl (fun K hK => ?_)
            obtain rfl := c0 (hw 0 (by kernel_rfl))
            go_simp
            refine hK.out _ _ ⟨_, _, u19, u20, u21, u22, u23, u24, u25, u26, u27, u5, u6, rfl, lo, fun _ => rfl, fun _ => rfl, fun h => c2 (fl (by decide) h), fun h => c3 (fl (by decide) h), fun h => c4 (fl (by decide) h), fun h => c5 (fl (by decide) h), fun h => c6 (fl (by decide) h), fun h => c7 (fl (by decide) h), fun h => c8 (fl (by decide) h), fun h => c9 (fl (by decide) h), fun h => c10 (fl (by decide) h), fun h => ((s11 (fl (by decide) h)).imp (fl (by decide))), fun h => ((s12 (fl (by decide) h)).imp (fl (by decide))), fun h h' => d11_12 (fl (by decide) h) (fl (by decide) h'), fun h => getD_set_true (k13 (fl (by decide) h)), fun h => getD_set_true (k14 (fl (by decide) h))⟩
          · refine stepJ (i := 2) rfl (fun K hK => ?_)
            go_simp
            refine hK.out _ _ ⟨u17, u18, _, u20, u21, u22, u23, u24, u25, u26, u27, u5, u6, rfl, lo, fun h => c0 (fl (by decide) h), fun h => c1 (fl (by decide) h), fun _ => rfl, fun h => c3 (fl (by decide) h), fun h => c4 (fl (by decide) h), fun h => c5 (fl (by decide) h), fun h => c6 (fl (by decide) h), fun h => c7 (fl (by decide) h), fun h => c8 (fl (by decide) h), fun h => c9 (fl (by decide) h), fun h => c10 (fl (by decide) h), fun h => ((s11 (fl (by decide) h)).imp (fl (by decide))), fun h => ((s12 (fl (by decide) h)).imp (fl (by decide))), fun h h' => d11_12 (fl (by decide) h) (fl (by decide) h'), fun h => getD_set_true (k13 (fl (by decide) h)), fun h => getD_set_true (k14 (fl (by decide) h))⟩
          · refine stepJ (i := 3) rfl (fun K hK => ?_)
            obtain rfl := c2 (hw 2 (by kernel_rfl))
            go_simp
            refine hK.out _ _ ⟨u17, u18, _, _, u21, u22, u23, u24, u25, u26, u27, u5, u6, rfl, lo, fun h => c0 (fl (by decide) h), fun h => c1 (fl (by decide) h), fun _ => rfl, fun _ => rfl, fun h => c4 (fl (by decide) h), fun h => c5 (fl (by decide) h), fun h => c6 (fl (by decide) h), fun h => c7 (fl (by decide) h), fun h => c8 (fl (by decide) h), fun h => c9 (fl (by decide) h), fun h => c10 (fl (by decide) h), fun h => ((s11 (fl (by decide) h)).imp (fl (by decide))), fun h => ((s12 (fl (by decide) h)).imp (fl (by decide))), fun h h' => d11_12 (fl (by decide) h) (fl (by decide) h'), fun h => getD_set_true (k13 (fl (by decide) h)), fun h => getD_set_true (k14 (fl (by decide) h))⟩
          · refine stepJ (i := 4) rfl (fun K hK => ?_)
            obtain rfl := c1 (hw 1 (by kernel_rfl))
            obtain rfl := c3 (hw 3 (by kernel_rfl))
            go_simp
            refine hK.out _ _ ⟨u17, _, u19, _, _, u22, u23, u24, u25, u26, u27, u5, u6, rfl, lo, fun h => c0 (fl (by decide) h), fun _ => rfl, fun h => c2 (fl (by decide) h), fun _ => rfl, fun _ => rfl, fun h => c5 (fl (by decide) h), fun h => c6 (fl (by decide) h), fun h => c7 (fl (by decide) h), fun h => c8 (fl (by decide) h), fun h => c9 (fl (by decide) h), fun h => c10 (fl (by decide) h), fun h => ((s11 (fl (by decide) h)).imp (fl (by decide))), fun h => ((s12 (fl (by decide) h)).imp (fl (by decide))), fun h h' => d11_12 (fl (by decide) h) (fl (by decide) h'), fun h => getD_set_true (k13 (fl (by decide) h)), fun h => getD_set_true (k14 (fl (by decide) h))⟩
          · refine stepJ (i := 5) rfl (fun K hK => ?_)
            obtain rfl := c4 (hw 4 (by kernel_rfl))
            go_simp
            refine hK.out _ _ ⟨u17, u18, u19, u20, _, _, u23, u24, u25, u26, u27, u5, u6, rfl, lo, fun h => c0 (fl (by decide) h), fun h => c1 (fl (by decide) h), fun h => c2 (fl (by decide) h), fun h => c3 (fl (by decide) h), fun _ => rfl, fun _ => rfl, fun h => c6 (fl (by decide) h), fun h => c7 (fl (by decide) h), fun h => c8 (fl (by decide) h), fun h => c9 (fl (by decide) h), fun h => c10 (fl (by decide) h), fun h => ((s11 (fl (by decide) h)).imp (fl (by decide))), fun h => ((s12 (fl (by decide) h)).imp (fl (by decide))), fun h h' => d11_12 (fl (by decide) h) (fl (by decide) h'), fun h => getD_set_true (k13 (fl (by decide) h)), fun h => getD_set_true (k14 (fl (by decide) h))⟩
          · refine stepJ (i := 6) rfl (fun K hK => ?_)
            go_simp
            refine hK.out _ _ ⟨u17, u18, u19, u20, u21, u22, _, u24, u25, u26, u27, u5, u6, rfl, lo, fun h => c0 (fl (by decide) h), fun h => c1 (fl (by decide) h), fun h => c2 (fl (by decide) h), fun h => c3 (fl (by decide) h), fun h => c4 (fl (by decide) h), fun h => c5 (fl (by decide) h), fun _ => rfl, fun h => c7 (fl (by decide) h), fun h => c8 (fl (by decide) h), fun h => c9 (fl (by decide) h), fun h => c10 (fl (by decide) h), fun h => ((s11 (fl (by decide) h)).imp (fl (by decide))), fun h => ((s12 (fl (by decide) h)).imp (fl (by decide))), fun h h' => d11_12 (fl (by decide) h) (fl (by decide) h'), fun h => getD_set_true (k13 (fl (by decide) h)), fun h => getD_set_true (k14 (fl (by decide) h))⟩
          · refine stepJ (i := 7) rfl (fun K hK => ?_)
            obtain rfl := c6 (hw 6 (by kernel_rfl))
            go_simp
            refine hK.out _ _ ⟨u17, u18, u19, u20, u21, u22, _, _, u25, u26, u27, u5, u6, rfl, lo, fun h => c0 (fl (by decide) h), fun h => c1 (fl (by decide) h), fun h => c2 (fl (by decide) h), fun h => c3 (fl (by decide) h), fun h => c4 (fl (by decide) h), fun h => c5 (fl (by decide) h), fun _ => rfl, fun _ => rfl, fun h => c8 (fl (by decide) h), fun h => c9 (fl (by decide) h), fun h => c10 (fl (by decide) h), fun h => ((s11 (fl (by decide) h)).imp (fl (by decide))), fun h => ((s12 (fl (by decide) h)).imp (fl (by decide))), fun h h' => d11_12 (fl (by decide) h) (fl (by decide) h'), fun h => getD_set_true (k13 (fl (by decide) h)), fun h => getD_set_true (k14 (fl (by decide) h))⟩
          · refine stepJ (i := 8) rfl (fun K hK => ?_)
            go_simp
            refine hK.out _ _ ⟨u17, u18, u19, u20, u21, u22, u23, u24, _, u26, u27, u5, u6, rfl, lo, fun h => c0 (fl (by decide) h), fun h => c1 (fl (by decide) h), fun h => c2 (fl (by decide) h), fun h => c3 (fl (by decide) h), fun h => c4 (fl (by decide) h), fun h => c5 (fl (by decide) h), fun h => c6 (fl (by decide) h), fun h => c7 (fl (by decide) h), fun _ => rfl, fun h => c9 (fl (by decide) h), fun h => c10 (fl (by decide) h), fun h => ((s11 (fl (by decide) h)).imp (fl (by decide))), fun h => ((s12 (fl (by decide) h)).imp (fl (by decide))), fun h h' => d11_12 (fl (by decide) h) (fl (by decide) h'), fun h => getD_set_true (k13 (fl (by decide) h)), fun h => getD_set_true (k14 (fl (by decide) h))⟩
          · refine stepJ (i := 9) rfl (fun K hK => ?_)
            obtain rfl := c7 (hw 7 (by kernel_rfl))
            obtain rfl := c8 (hw 8 (by kernel_rfl))
            go_simp
            refine hK.out _ _ ⟨u17, u18, u19, u20, u21, u22, u23, _, _, _, u27, u5, u6, rfl, lo, fun h => c0 (fl (by decide) h), fun h => c1 (fl (by decide) h), fun h => c2 (fl (by decide) h), fun h => c3 (fl (by decide) h), fun h => c4 (fl (by decide) h), fun h => c5 (fl (by decide) h), fun h => c6 (fl (by decide) h), fun _ => rfl, fun _ => rfl, fun _ => rfl, fun h => c10 (fl (by decide) h), fun h => ((s11 (fl (by decide) h)).imp (fl (by decide))), fun h => ((s12 (fl (by decide) h)).imp (fl (by decide))), fun h h' => d11_12 (fl (by decide) h) (fl (by decide) h'), fun h => getD_set_true (k13 (fl (by decide) h)), fun h => getD_set_true (k14 (fl (by decide) h))⟩
          · refine stepJ (i := 10) rfl (fun K hK => ?_)
            obtain rfl := c9 (hw 9 (by kernel_rfl))
            go_simp
            refine hK.out _ _ ⟨u17, u18, u19, u20, u21, u22, u23, u24, u25, _, _, u5, u6, rfl, lo, fun h => c0 (fl (by decide) h), fun h => c1 (fl (by decide) h), fun h => c2 (fl (by decide) h), fun h => c3 (fl (by decide) h), fun h => c4 (fl (by decide) h), fun h => c5 (fl (by decide) h), fun h => c6 (fl (by decide) h), fun h => c7 (fl (by decide) h), fun h => c8 (fl (by decide) h), fun _ => rfl, fun _ => rfl, fun h => ((s11 (fl (by decide) h)).imp (fl (by decide))), fun h => ((s12 (fl (by decide) h)).imp (fl (by decide))), fun h h' => d11_12 (fl (by decide) h) (fl (by decide) h'), fun h => getD_set_true (k13 (fl (by decide) h)), fun h => getD_set_true (k14 (fl (by decide) h))⟩
          · refine stepJ (i := 11) rfl (fun K hK => ?_)
            go_simp
            refine hK.out _ _ ⟨u17, u18, u19, u20, u21, u22, u23, u24, u25, u26, u27, _, u6, rfl, lo.alloc _, fun h => c0 (fl (by decide) h), fun h => c1 (fl (by decide) h), fun h => c2 (fl (by decide) h), fun h => c3 (fl (by decide) h), fun h => c4 (fl (by decide) h), fun h => c5 (fl (by decide) h), fun h => c6 (fl (by decide) h), fun h => c7 (fl (by decide) h), fun h => c8 (fl (by decide) h), fun h => c9 (fl (by decide) h), fun h => c10 (fl (by decide) h), fun _ => SlW.new (fun h => absurd ((k13 (fl (by decide) h)).symm.trans hl) (by decide)) lo.size, fun h => ((s12 (fl (by decide) h)).imp (fl (by decide))).keep (below1 wx _), fun _ h' => Ne.symm (s12 (fl (by decide) h')).ne_new, fun h => getD_set_true (k13 (fl (by decide) h)), fun h => getD_set_true (k14 (fl (by decide) h))⟩
          · refine stepJ (i := 12) rfl (fun K hK => ?_)
            go_simp
            refine hK.out _ _ ⟨u17, u18, u19, u20, u21, u22, u23, u24, u25, u26, u27, u5, _, rfl, lo.alloc _, fun h => c0 (fl (by decide) h), fun h => c1 (fl (by decide) h), fun h => c2 (fl (by decide) h), fun h => c3 (fl (by decide) h), fun h => c4 (fl (by decide) h), fun h => c5 (fl (by decide) h), fun h => c6 (fl (by decide) h), fun h => c7 (fl (by decide) h), fun h => c8 (fl (by decide) h), fun h => c9 (fl (by decide) h), fun h => c10 (fl (by decide) h), fun h => ((s11 (fl (by decide) h)).imp (fl (by decide))).keep (below1 wx _), fun _ => SlW.new (fun h => absurd ((k14 (fl (by decide) h)).symm.trans hl) (by decide)) lo.size, fun h _ => (s11 (fl (by decide) h)).ne_new, fun h => getD_set_true (k13 (fl (by decide) h)), fun h => getD_set_true (k14 (fl (by decide) h))⟩
          · refine stepJ (i := 13) rfl (fun K hK => ?_)
            obtain rfl := c5 (hw 5 (by kernel_rfl))
            obtain ⟨pp, rfl, hpp, ⟨z9, y1, y2, y3, y4, y5, y6⟩, _⟩ := id (s11 (hw 11 (by kernel_rfl)))
            go_simp
            refine hK.out _ _ ⟨u17, u18, u19, u20, u21, _, u23, u24, u25, u26, u27, _, u6, rfl, lo.far hpp hbw _, fun h => c0 (fl (by decide) h), fun h => c1 (fl (by decide) h), fun h => c2 (fl (by decide) h), fun h => c3 (fl (by decide) h), fun h => c4 (fl (by decide) h), fun _ => rfl, fun h => c6 (fl (by decide) h), fun h => c7 (fl (by decide) h), fun h => c8 (fl (by decide) h), fun h => c9 (fl (by decide) h), fun h => c10 (fl (by decide) h), fun _ => (s11 (hw 11 (by kernel_rfl))).put, fun h => ((s12 (fl (by decide) h)).imp (fl (by decide))).far (Ne.symm (d11_12 (hw 11 (by kernel_rfl)) (fl (by decide) h))), fun h h' => d11_12 (fl (by decide) h) (fl (by decide) h'), fun _ => getD_set_true (hw 11 (by kernel_rfl)), fun h => getD_set_true (k14 (fl (by decide) h))⟩
          · refine stepJ (i := 14) rfl (fun K hK => ?_)
            obtain rfl := c10 (hw 10 (by kernel_rfl))
            obtain ⟨pp, rfl, hpp, ⟨z9, y1, y2, y3, y4, y5, y6⟩, _⟩ := id (s12 (hw 12 (by kernel_rfl)))
            go_simp
            refine hK.out _ _ ⟨u17, u18, u19, u20, u21, u22, u23, u24, u25, u26, _, u5, _, rfl, lo.far hpp hbw _, fun h => c0 (fl (by decide) h), fun h => c1 (fl (by decide) h), fun h => c2 (fl (by decide) h), fun h => c3 (fl (by decide) h), fun h => c4 (fl (by decide) h), fun h => c5 (fl (by decide) h), fun h => c6 (fl (by decide) h), fun h => c7 (fl (by decide) h), fun h => c8 (fl (by decide) h), fun h => c9 (fl (by decide) h), fun _ => rfl, fun h => ((s11 (fl (by decide) h)).imp (fl (by decide))).far (d11_12 (fl (by decide) h) (hw 12 (by kernel_rfl))), fun _ => (s12 (hw 12 (by kernel_rfl))).put, fun h h' => d11_12 (fl (by decide) h) (fl (by decide) h'), fun h => getD_set_true (k13 (fl (by decide) h)), fun _ => getD_set_true (hw 12 (by kernel_rfl))⟩
        · rintro L a wx hall ⟨u17, u18, u19, u20, u21, u22, u23, u24, u25, u26, u27, u5, u6, rfl, lo, c0, c1, c2, c3, c4, c5, c6, c7, c8, c9, c10, s11, s12, d11_12, k13, k14⟩
          obtain rfl := c0 (hall 0 (by decide))
          obtain rfl := c1 (hall 1 (by decide))
          obtain rfl := c2 (hall 2 (by decide))
          obtain rfl := c3 (hall 3 (by decide))
          obtain rfl := c4 (hall 4 (by decide))
          obtain rfl := c5 (hall 5 (by decide))
          obtain rfl := c6 (hall 6 (by decide))
          obtain rfl := c7 (hall 7 (by decide))
          obtain rfl := c8 (hall 8 (by decide))
          obtain rfl := c9 (hall 9 (by decide))
          obtain rfl := c10 (hall 10 (by decide))
          obtain ⟨p11, rfl, hp11, -, H11⟩ := s11 (hall 11 (by decide))
          have V11 := H11 (hall 13 (by decide))
          obtain ⟨p12, rfl, hp12, -, H12⟩ := s12 (hall 12 (by decide))
          have V12 := H12 (hall 14 (by decide))
          have n11_12 : p11 ≠ p12 := fun e => d11_12 (hall 11 (by decide)) (hall 12 (by decide)) (by rw [e])
          clear hall c0 c1 c2 c3 c4 c5 c6 c7 c8 c9 c10 s11 H11 s12 H12 d11_12 k13 k14
          have hb := lo.1
          have hG := lo.2.1
          obtain ⟨z1, z2, z3, -, -, -⟩ := id V11
          obtain ⟨z4, z5, z6, -, -, -⟩ := id V12
          clear V11 V12 lo KB
          by_cases h1 : d.1 = e.1
          · have d1 : (d.1 == e.1) = true := by simpa using h1
            by_cases h2 : d.2.1 = e.2.1
            · have d2 : (d.2.1 == e.2.1) = true := by simpa using h2
              have HE2 := Lib.hid (show detE es = false by rw [← HD.out, HDD.out, d1, d2]; rfl)
              clear HD HDD h1 h2
              dsimp only
              go_wp2_with fail
              exact bodyPost_ret (v := .tuple #[.bool false, .int .i64 0]) (by simp [results, Tryz.results68, go_sem]) rfl ⟨by rw [HE.out, HE2.out], hb⟩
            · have d2 : (d.2.1 == e.2.1) = false := by simpa using h2
              have HD2 := Lib.hid (show detE (es.drop k) = detE es by rw [← HD.out, HDD.out, d1, d2]; rfl)
              clear HD HDD h1 h2
              dsimp only
              go_wp2_with fail
              go_roundg (gk - 1)
              case measure => omega
              case rel => exact ⟨k + 1, k, by go_num, Lib.hid rfl, by omega, by omega, HD2, hG, hb⟩
          · have d1 : (d.1 == e.1) = false := by simpa using h1
            have HD2 := Lib.hid (show detE (es.drop k) = detE es by rw [← HD.out, HDD.out, d1]; rfl)
            clear HD HDD h1
            dsimp only
            go_wp2_with fail
            go_roundg (gk - 1)
            case measure => omega
            case rel => exact ⟨k + 1, k, by go_num, Lib.hid rfl, by omega, by omega, HD2, hG, hb⟩
      · have HE2 := Lib.hid (show detE es = true by rw [← HD.out]; exact detE_end (by have := Hkj.out; omega))
        have j1 : ¬ (k : Int) < (es.length : Int) := by omega
        have hb2 := hb
        obtain ⟨g1, g2, g3⟩ := id hG
        clear HD Hkj hlt
        go_wp2_with fail
        exact bodyPost_ret (v := .tuple #[.bool true, .int .i64 0]) (by simp [results, Tryz.results68, go_sem]) rfl ⟨by rw [HE.out, HE2.out], hb2⟩
  · have H0 := Lib.hid (show (chkG La S es == 0) = false by simpa using h0)
    have HE := Lib.hid (show detR La S es = (false, 1) by unfold detR; rw [if_neg h0])
    rw [HE.out]
    clear h0
    go_enter Tryz.func68, Tryz.ntmps68
    go_wp2_with (go_at_call 48; (with_reducible refine (HV.out _ (HRD.out.keep (below1 _ _))).mono ?_); rintro e0 W1 ⟨rfl, b1⟩; (rw [H0.out]); (have B1 := Lib.hid (below_more (below1 w _) (Nat.le_refl _) b1)); (clear b1))
    exact bodyPost_ret (v := .tuple #[.bool false, .int .i64 1]) (by simp [results, Tryz.results68, go_sem]) rfl ⟨rfl, B1.out⟩
end Go.Proofs.YtiockphjnkehnaaGreatDoor
