/- What functions of package slices return for lists of numbers in ascending order. No condition but the list's length. -/
import Derived.Test.YtigdjlhihhakmaaDoorWh
import Derived.Deep.QuietTactic
import Derived.BigQuiet
import Derived.Shelf.Slices.CompactI
namespace Go.Proofs.YtigdjlhihhakmaaDoor
open Go.RowKit
set_option linter.unusedSimpArgs false
set_option linter.unusedVariables false

theorem below_drewM {B : Nat} {w W : World} (h : Below B w W) (q : Nat) : Below B w (W.drewN q) := ⟨h.os, h.tape, h.output, h.size, h.block⟩
/-- A list of numbers, as integers. -/
def zl (l : List Nat) : List Int := l.map fun (i : Nat) => (i : Int)
theorem zl_len (l : List Nat) : (zl l).length = l.length := List.length_map _
theorem ints_zl (l : List Nat) : ints l = (zl l).map (Value.int .i64) := by unfold ints zl; rw [List.map_map]; rfl
theorem zl_getD (l : List Nat) (j : Nat) (h : j < l.length) : (ints l)[j]? = some (.int .i64 ((zl l).getD j 0)) := by
  rw [ints_zl, List.getElem?_map, List.getD_eq_getElem?_getD, List.getElem?_eq_getElem (by rw [zl_len]; exact h)]; rfl
/-- A list of numbers in memory. -/
def NumsAt (W : World) (B : Nat) (v : Value) (l : List Nat) : Prop := W.ownsRow B 3 1 v l.length (ints l)
theorem NumsAt.keep {W W' : World} {B : Nat} {v : Value} {l : List Nat} (h : NumsAt W B v l) (hb : Below W.heap.size W W') : NumsAt W' B v l := World.ownsRow.kept h (grown_none hb) (by cases v.ownBlock <;> simp)
theorem NumsAt.cases {W : World} {B : Nat} {v : Value} {l : List Nat} (h : NumsAt W B v l) : (l = [] ∧ ∃ a c, v = .slice a 0 c) ∨ (0 < l.length ∧ ∃ g c, v = .slice (some ⟨g, 0, none⟩) l.length c ∧ B ≤ g ∧ ∀ j, j < (zl l).length → W.cell? ⟨g, 0 + j, none⟩ = some (.int .i64 ((zl l).getD j 0))) := by
  rcases Nat.eq_zero_or_pos l.length with h0 | h0
  · left
    refine ⟨List.eq_nil_of_length_eq_zero h0, ?_⟩
    rcases h.2 with ⟨h1, _⟩ | ⟨g, cap, cur, h1, _⟩
    · exact ⟨_, _, h1⟩
    · rw [h0] at h1; exact ⟨_, _, h1⟩
  · right
    obtain ⟨g, cap, hv, hB, _⟩ := World.ownsRow.form h h0
    refine ⟨h0, g, cap, hv, hB, fun j hj => ?_⟩
    subst hv
    rw [zl_len] at hj
    rw [Nat.zero_add, World.ownsRow.cellAt h j (by omega), zl_getD l j hj]
theorem mem_zl {l : List Nat} {x : Nat} : (x : Int) ∈ zl l ↔ x ∈ l := by
  unfold zl
  rw [List.mem_map]
  constructor
  · rintro ⟨y, hy, e⟩
    have : y = x := by omega
    rwa [← this]
  · exact fun h => ⟨x, h, rfl⟩
theorem contains_any {W : World} {B : Nat} {v : Value} {l : List Nat} (h : NumsAt W B v l) (hl : l.length ≤ 100000) (x : Nat) :
    Calls Tryd.prog 35 #[v, .int .i64 (x : Int)] W fun e W' => e = .returned (.bool (decide (x ∈ l))) ∧ W' = W := by
  rcases h.cases with ⟨rfl, a, c, rfl⟩ | ⟨h0, g, c, rfl, hB, hc⟩
  · exact Tryd.slices_Contains_int_empty a c x W
  · have k := Tryd.slices_Contains_int g 0 l.length c (zl l) x W (by rw [zl_len]; exact Nat.le_refl _) (by omega) hc
    have e : ((zl l).take l.length).contains (x : Int) = decide (x ∈ l) := by
      rw [List.take_of_length_le (by rw [zl_len]; exact Nat.le_refl _), Bool.eq_iff_iff, List.contains_iff_mem, mem_zl, decide_eq_true_iff]
    rw [e] at k
    exact k
theorem inc_zl {l : List Nat} (h : l.Pairwise (· < ·)) : ∀ j, j < (zl l).toArray.toList.length → Lib.keeps (zl l).toArray j = true := fun j hj => by
  rcases j with _ | j
  · exact Lib.keeps_lt_one _ 0 (by omega)
  · refine Lib.keeps_pos ?_
    have hj' : j + 1 < l.length := by simpa [zl_len] using hj
    have h1 := List.pairwise_iff_getElem.1 h j (j + 1) (by omega) hj' (by omega)
    rw [Nat.add_sub_cancel, getElem!_pos _ (j + 1) (by simpa [zl_len] using hj'), getElem!_pos _ j (by simp [zl_len]; omega)]
    unfold zl
    simp
    omega
/-- Clone and Compact. -/
theorem clone_any {W : World} {B : Nat} {v : Value} {l : List Nat} (h : NumsAt W B v l) (hl : l.length ≤ 100000) :
    Calls Tryd.prog 39 #[v] W fun e W' => ∃ v', e = .returned v' ∧ NumsAt W' W.heap.size v' l ∧ Below W.heap.size W W' := by
  rcases h.cases with ⟨rfl, a, c, rfl⟩ | ⟨h0, g, c, rfl, hB, hc⟩
  · cases a with
    | none =>
      refine (Tryd.slices_Clone_int_nil 0 c W).mono ?_
      rintro e W' ⟨rfl, rfl⟩
      exact ⟨_, rfl, World.ownsRow_nil _ _ _ _, Below.refl _ _⟩
    | some a =>
      refine (Tryd.slices_Clone_int_zero a c W).mono ?_
      rintro e W' ⟨v', rfl, h1, _, h2⟩
      exact ⟨_, rfl, h1, h2⟩
  · refine (Tryd.slices_Clone_int g 0 l.length c (zl l) W (by rw [zl_len]; exact Nat.le_refl _) (by omega) hc).mono ?_
    rintro e W' ⟨v', rfl, h1, _, h2⟩
    rw [List.take_of_length_le (by rw [zl_len]; exact Nat.le_refl _), ← ints_zl] at h1
    exact ⟨_, rfl, h1, h2⟩
theorem compact_any {W : World} {B : Nat} {v : Value} {l : List Nat} (h : NumsAt W B v l) (hl : l.length ≤ 100000) (hs : l.Pairwise (· < ·)) :
    Calls Tryd.prog 38 #[v] W fun e W' => (∃ a c, e = .returned (.slice a l.length c)) ∧ Below W.heap.size W W' := by
  rcases h.cases with ⟨rfl, a, c, rfl⟩ | ⟨h0, g, c, rfl, hB, hc⟩
  · refine (Tryd.slices_Compact_int_empty a c W).mono ?_
    rintro e W' ⟨rfl, rfl⟩
    exact ⟨⟨_, _, rfl⟩, Below.refl _ _⟩
  · have hcap : l.length ≤ c := by
      rcases h.2 with ⟨h1, _⟩ | ⟨g', cap, cur, h1, _, _, h2, _⟩
      · cases h1
      · injection h1 with _ _ h1; omega
    have hH : Sort.Holds (Value.int .i64) W g 0 (zl l).toArray := fun j hj => by
      have hj' : j < (zl l).length := by simpa using hj
      refine ⟨?_, World.ownsRow.frozenAt h _⟩
      rw [hc j hj', List.getD_eq_getElem?_getD, List.getElem?_eq_getElem hj', getElem!_pos _ j hj]
      rfl
    have hco : Lib.compact (zl l) = zl l := Lib.compact_all _ (fun j hj => inc_zl hs j (by simpa using hj))
    have k := Tryd.slices_Compact_int g 0 c (zl l) W hH (by rw [zl_len]; omega) (by rw [zl_len]; exact hcap)
    rw [hco, zl_len, Nat.sub_self, List.replicate_zero, List.append_nil] at k
    refine k.mono ?_
    rintro e W' ⟨rfl, q, rfl⟩
    refine ⟨⟨_, _, rfl⟩, ?_⟩
    rw [Sort.putRow_self (Value.int .i64) (Sort.ahead W q) g 0 (zl l).toArray (fun j hj => hH j hj)]
    exact ⟨rfl, rfl, rfl, Nat.le_refl _, fun _ _ => rfl⟩
theorem less_any (x y : Int) (w : World) : Calls Tryd.prog 67 #[.int .i64 x, .int .i64 y] w fun e w' => e = .returned (.bool (decide (x < y))) ∧ w' = w := by
  go_enter Tryd.func67, Tryd.ntmps67
  go_wp2_with (go_at_call 96; (with_reducible refine (Tryd.cmp_isNaN_int _ _).mono ?_); rintro e W1 ⟨rfl, rfl⟩)
  go_ret
  exact ⟨rfl, rfl⟩
set_option maxRecDepth 100000 in
set_option maxHeartbeats 1600000 in
theorem isSorted_any {W : World} {B : Nat} {v : Value} {l : List Nat} (h : NumsAt W B v l) (hl : l.length ≤ 100000) (hs : l.Pairwise (· < ·)) :
    Calls Tryd.prog 37 #[v] W fun e W' => e = .returned (.bool true) ∧ Below W.heap.size W W' := by
  rcases h.cases with ⟨rfl, a, c, rfl⟩ | ⟨h0, g, c, rfl, hB, hc⟩
  · go_enter Tryd.func37, Tryd.ntmps37
    go_wp2_with fail
    go_loopg [3] 0 (fun q s3 wx => q = 0 ∧ wx = W ∧ s3 = .int .i64 (-1))
    case atStart => exact ⟨rfl, rfl, rfl⟩
    case round =>
      obtain ⟨rfl, rfl, rfl⟩ := hrel
      go_wp2
      go_ret
      exact ⟨rfl, Below.refl _ _⟩
  · have HC := Lib.hid hc
    have HS := Lib.hid hs
    have HL := Lib.hid (zl_len l)
    clear hc hs h
    go_enter Tryd.func37, Tryd.ntmps37
    go_wp2_with fail
    go_loopg [3] (l.length - 1) (fun q s3 wx => s3 = .int .i64 (q : Int) ∧ q < l.length ∧ Below W.heap.size W wx)
    case atStart => exact ⟨by rw [show ((l.length - 1 : Nat) : Int) = (l.length : Int) - 1 by omega], by omega, Below.refl _ _⟩
    case round =>
      obtain ⟨rfl, hq, hb⟩ := hrel
      rcases gk with _ | q
      · go_wp2
        go_ret
        exact ⟨rfl, hb⟩
      · have c1 := cell_keep (HC.out (q + 1) (by rw [HL.out]; exact hq)) hb
        have c2 := cell_keep (HC.out q (by rw [HL.out]; omega)) hb
        have hlt := List.pairwise_iff_getElem.1 HS.out q (q + 1) (by omega) hq (by omega)
        obtain ⟨x, hx⟩ : ∃ x : Int, (zl l).getD q 0 = x := ⟨_, rfl⟩
        obtain ⟨y, hy⟩ : ∃ y : Int, (zl l).getD (q + 1) 0 = y := ⟨_, rfl⟩
        have hxy : x < y := by
          rw [← hx, ← hy, List.getD_eq_getElem?_getD, List.getD_eq_getElem?_getD, List.getElem?_eq_getElem (by rw [HL.out]; omega), List.getElem?_eq_getElem (by rw [HL.out]; exact hq)]
          simp only [zl, List.getElem_map, Option.getD_some]
          omega
        rw [hy, Nat.zero_add] at c1
        rw [hx, Nat.zero_add] at c2
        have hd := Lib.hid (decide_eq_false (show ¬ y < x by omega))
        have HLS := Lib.hid (fun W => less_any y x W)
        simp only [hd.out] at HLS
        have hq1 : IntKind.i64.wrap (((q + 1 : Nat) : Int) - 1) = (q : Int) := by rw [IntKind.wrap_i64]; omega
        have hq2 : IntKind.i64.wrap ((q : Int) + 1 - 1) = (q : Int) := by rw [IntKind.wrap_i64]; omega
        have hq3 : (q : Int) + 1 - 1 = (q : Int) := by omega
        have hql : (q : Int) + 1 < (l.length : Int) := by omega
        have hq8 : IntKind.i64.wrap (q : Int) = (q : Int) := by rw [IntKind.wrap_i64]; omega
        have hq0 : (0 : Int) ≤ (q : Int) + 1 := by omega
        have hq5 : (0 : Int) ≤ (q : Int) := by omega
        have hq6 : (q : Int) < (l.length : Int) := by omega
        have hq7 : ((q : Int) + 1).toNat = q + 1 := by omega
        clear hx hy hlt hxy
        go_wp2_with fail
        go_quiet (first | (go_at_call 67; refine Calls.quiet_of_same (HLS.out _)))
        go_wp2_with fail
        go_roundg q
        case measure => omega
        case rel => exact ⟨by go_num, by omega, below_drewM hb _⟩
end Go.Proofs.YtigdjlhihhakmaaDoor
