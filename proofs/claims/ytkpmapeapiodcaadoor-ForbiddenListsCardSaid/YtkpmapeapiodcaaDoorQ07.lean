/- What forbidden.isAllowed and isMinimal return. Conditions: the word has at most 10^5 letters; the set is a map that can be read. Words in an own row of memory; what slices.SortFunc makes of them by forbidden.compare. Condition: at most 10^5 words. What forbidden.Reduce returns: the minimal words in order. Conditions: the words can be read, are at most 10^5, and have lengths of strings. -/
import Derived.Test.YtkpmapeapiodcaaDoorQ06
import Derived.Test.YtkpmapeapiodcaaDoorQ04
import Derived.Sort.OwnSorted
import Derived.Maps.RangeWalk
import Derived.Sort.KeysCollected
import Derived.Maps.AppendAt
import Derived.Deep.AppendLies

namespace Go.Proofs.YtkpmapeapiodcaaDoor
open Go.RowKit Go.Shelf Go.Maps
attribute [local go_sem] Oper.semAt_some
set_option linter.unusedSimpArgs false
set_option linter.unusedVariables false

theorem below_putF {B : Nat} {W W' : World} (h : Below B W W') (l : Nat) (hl : B ≤ l) (o : Obj) : Below B W (W'.putObj l o) :=
  h.trans ⟨rfl, rfl, rfl, by simp, fun k hk => World.putObj_heap_other (by omega)⟩
set_option maxRecDepth 100000 in
set_option maxHeartbeats 6400000 in
theorem isAllowed_any (l : List Wd) (x : Wd) (n b k : Nat) (R : Bool) (w : World) (hR : R = true ↔ ∀ u, CutP x n u → u ∉ l) (hm : w.ownsMap Tryd.prog 9 (plainElem Tryd.prog 4) b k (mapS l)) (hx : x.length ≤ 100000) (hn : n ≤ 100000) :
    Calls Tryd.prog 32 #[.map (some b), .int .i64 (n : Int), .string ⟨x.toArray⟩] w fun e w' => e = .returned (.bool R) ∧ Below w.heap.size w w' := by
  have HM := Lib.hid hm
  have HRR := Lib.hid hR
  obtain ⟨W0, hW0⟩ : ∃ W0, (w.alloc (.cells #[.map (some b)] 48)).alloc (.cells #[.bool false] 4) = W0 := ⟨_, rfl⟩
  have HW := Lib.hid hW0
  have hz0 : W0.heap.size = w.heap.size + 1 + 1 := by rw [← hW0, World.size_alloc, World.size_alloc]
  have B0 := Lib.hid (show Below w.heap.size w W0 by rw [← hW0]; exact below_more (below1 w _) (Nat.le_refl _) (below1 _ _))
  have C0 := Lib.hid (show W0.cell? ⟨w.heap.size, 0, none⟩ = some (.map (some b)) by rw [← hW0]; simp [go_sem])
  have C1 := Lib.hid (show W0.cell? ⟨w.heap.size + 1, 0, none⟩ = some (.bool false) by
    rw [← hW0, ← World.size_alloc w (.cells #[.map (some b)] 48)]; simp [go_sem])
  have F1 := Lib.hid (show W0.frozen? ⟨w.heap.size + 1, 0, none⟩ = false by
    rw [← hW0, ← World.size_alloc w (.cells #[.map (some b)] 48)]; simp [go_sem])
  have bs := below1 W0 (.cells #[.string ⟨x.toArray⟩] 9)
  have bn := below1 (W0.alloc (.cells #[.string ⟨x.toArray⟩] 9)) (.cells #[.int .i64 (n : Int)] 3)
  have bb := below_more bs (Nat.le_refl _) bn
  have C2 := Lib.hid (show ((W0.alloc (.cells #[.string ⟨x.toArray⟩] 9)).alloc (.cells #[.int .i64 (n : Int)] 3)).cell? ⟨W0.heap.size, 0, none⟩ = some (.string ⟨x.toArray⟩) by simp [go_sem])
  have C3 := Lib.hid (show ((W0.alloc (.cells #[.string ⟨x.toArray⟩] 9)).alloc (.cells #[.int .i64 (n : Int)] 3)).cell? ⟨W0.heap.size + 1, 0, none⟩ = some (.int .i64 (n : Int)) by
    rw [← World.size_alloc W0 (.cells #[.string ⟨x.toArray⟩] 9)]; simp [go_sem])
  have C4 := Lib.hid (cell_keep C0.out bb)
  have C5 := Lib.hid (cell_keep C1.out bb)
  have F5 := Lib.hid (frozen_keep C1.out F1.out bb)
  have B5 := Lib.hid (below_more B0.out (Nat.le_refl _) bb)
  have hz5 : ((W0.alloc (.cells #[.string ⟨x.toArray⟩] 9)).alloc (.cells #[.int .i64 (n : Int)] 3)).heap.size = w.heap.size + 4 := by rw [World.size_alloc, World.size_alloc, hz0]
  clear hm hR hW0 bs bn bb
  refine (callsIn_wide (n := 8)).1 ?_
  refine callsIn_of_wp_marks Tryd.func32 rfl trivial ?_ rfl
  simp only [Tryd.ntmps32, List.size_toArray, List.length_cons, List.length_nil, Nat.reduceAdd, Nat.reduceSub, Array.replicate_succ, Array.replicate_zero, List.push_toArray, List.append_toArray, List.nil_append, List.cons_append]
  gi_wp2_with (refine ⟨trivial, ?_⟩; gi_at_call 51; (with_reducible refine (callsIn_wide.2 (factors_any x (n : Int) _)).mono ?_); rintro e W1 ⟨rfl, rfl⟩)
  rw [HW.out]
  rw [hz0] at C2 C3
  generalize ((W0.alloc (.cells #[.string ⟨x.toArray⟩] 9)).alloc (.cells #[.int .i64 (n : Int)] 3)) = W5 at *
  clear HW C0 C1 F1 hz0 B0
  refine wpIn_rangeFunc_ownH rfl (by omega) (gf := 77) (lb := #[.pointer (some ⟨w.heap.size + 1 + 1, 0, none⟩), .pointer (some ⟨w.heap.size + 1 + 1 + 1, 0, none⟩)]) rfl trivial (enters_of Tryd.func77 (by kernel_rfl) rfl)
    (factors_stops _ (w.heap.size + 1 + 1) w.heap.size x n W5 (by omega) C2.out C3.out hx hn) (fun h h' => h.trans h') (KtF.turn (by omega) (by omega)) (Below.refl _ _) (fun _ => rfl)
    (fun (pre : List (Cut x n)) X => (∀ u ∈ pre.map (fun (v : Cut x n) => v.1), u ∉ l) ∧ X.cell? ⟨w.heap.size, 0, none⟩ = some (.map (some b)) ∧ X.cell? ⟨w.heap.size + 1, 0, none⟩ = some (.bool false) ∧ X.frozen? ⟨w.heap.size + 1, 0, none⟩ = false ∧ Below w.heap.size w X ∧ w.heap.size + 4 ≤ X.heap.size)
    (fun c pre X => c = .ret ∧ (∃ u, CutP x n u ∧ u ∈ l) ∧ X.cell? ⟨w.heap.size + 1, 0, none⟩ = some (.bool false) ∧ Below w.heap.size w X)
    (fun (pre : List (Cut x n)) X Y row hs hg hr => ⟨hs.1, cell_kept hs.2.1 hg (fun r e => (hr r e).2), cell_kept hs.2.2.1 hg (fun r e => (hr r e).2), (frozen_kept hs.2.2.1 hg (fun r e => (hr r e).2)).trans hs.2.2.2.1, hs.2.2.2.2.1.grown hg hs.2.2.2.2.1.size (fun r e => by have := (hr r e).1; omega), Nat.le_trans hs.2.2.2.2.2 hg.size⟩)
    (fun c pre X Y row hs hg hr => ⟨hs.1, hs.2.1, cell_kept hs.2.2.1 hg (fun r e => (hr r e).2), hs.2.2.2.grown hg hs.2.2.2.size (fun r e => by have := (hr r e).1; omega)⟩)
    ⟨fun u hu => by simp at hu, C4.out, C5.out, F5.out, B5.out, by omega⟩
    (fun u a' X => a' = { tmps := #[.map (some b), .int .i64 (n : Int), .string ⟨x.toArray⟩, .pointer (some ⟨w.heap.size, 0, none⟩), undef, undef, .pointer (some ⟨w.heap.size + 1, 0, none⟩), .string ⟨u.1.toArray⟩, .string ⟨x.toArray⟩, .int .i64 (n : Int), .func (.func 77) #[] #[.pointer (some ⟨w.heap.size + 1 + 1, 0, none⟩), .pointer (some ⟨w.heap.size + 1 + 1 + 1, 0, none⟩)], .string ⟨u.1.toArray⟩, undef, undef, undef], defers := [] })
    (fun u a' _ X Y row hs hg hr => hs)
    ?assign ?body ?done ?stop
  case assign =>
    rintro ll pre u X K hI hK'
    have HKK := Lib.hid hK'
    have HI := Lib.hid hI
    clear hK' hI
    gi_wp2
    exact HKK.out _ _ (KeepsFrom.refl _ _) ⟨Below.refl _ _, rfl, rfl⟩ HI.out rfl
  case body =>
    rintro ll pre u a' X hl ⟨r, hr⟩ ⟨i1, i2, i3, i4, i5, i6⟩ rfl hlt
    have hul : u.1.length ≤ 9223372036854775807 := by have := u.2.len; omega
    have hlk := lookS (x := u.1) (World.ownsMap.kept HM.out (grown_none i5) (by simp)) hul
    have HI1 := Lib.hid i1
    have HI4 := Lib.hid i5
    obtain ⟨g, hg⟩ : ∃ g, u.1 = g := ⟨_, rfl⟩
    have HC := Lib.hid (show CutP x n g by rw [← hg]; exact u.2)
    have HG := Lib.hid hg
    rw [hg] at hlk ⊢
    clear i1 i5 hg hr
    by_cases hin : g ∈ l
    · rw [decide_eq_true hin] at hlk
      gi_wp2
      exact ⟨(KeepsOthers.setCell _ _ _).from _, rfl, ⟨g, HC.out, hin⟩, World.cell?_setCell_same' _ _ _ (by rw [i3]; rfl), HI4.out.setCell (p := ⟨w.heap.size + 1, 0, none⟩) (Nat.le_succ _) _⟩
    · rw [decide_eq_false hin] at hlk
      gi_wp2
      refine ⟨KeepsFrom.refl _ _, ⟨Below.refl _ _, rfl, rfl⟩, fun v hv => ?_, i2, i3, i4, HI4.out, i6⟩
      rw [List.map_append, List.mem_append] at hv
      rcases hv with hv | hv
      · exact HI1.out v hv
      · have : v = u.1 := by simpa using hv
        rw [this, HG.out]; exact hin
  case done =>
    rintro D xs X hD hxs ⟨i1, i2, i3, i4, i5, i6⟩ hDX
    have HR1 := Lib.hid (show R = true from HRR.out.2 (fun u hu => i1 u (hxs u hu)))
    have IX := Lib.hid hDX
    have I5 := Lib.hid i5
    clear i1 i5 hDX hxs
    gi_wp2
    have hK' := (KeepsOthers.setCell X ⟨w.heap.size + 1, 0, none⟩ (.bool true)).same D _ IX.out rfl
    refine ⟨by simp, .inl ⟨_, _, rfl, run_takeDeferred hK', ?_⟩⟩
    have hc5 := cell_kept (World.cell?_setCell_same' X ⟨w.heap.size + 1, 0, none⟩ (.bool true) (by rw [i3]; rfl)) (grownBy_putObj' _ D (.deferred none)) (fun r e => by cases e; exact ⟨_, hK', rfl⟩)
    refine ⟨.bool true, ?_, by rw [HR1.out], ?_⟩
    · simp [results, Tryd.f32, go_sem, hc5]
    · exact below_putF (I5.out.setCell (p := ⟨w.heap.size + 1, 0, none⟩) (Nat.le_succ _) _) D (by omega) _
  case stop =>
    rintro D cc pre X hD _ ⟨rfl, ⟨g, g1, g2⟩, i2, i3⟩ hDX
    have HR1 := Lib.hid (show R = false by
      cases hRb : R with
      | false => rfl
      | true => exact absurd g2 (HRR.out.1 hRb g g1))
    have IX := Lib.hid hDX
    clear hDX
    gi_wp2
    refine ⟨by simp, .inl ⟨_, _, rfl, run_takeDeferred IX.out, ?_⟩⟩
    have hc5 := cell_kept i2 (grownBy_putObj' _ D (.deferred none)) (fun r e => by cases e; exact ⟨_, IX.out, rfl⟩)
    refine ⟨.bool false, ?_, by rw [HR1.out], ?_⟩
    · simp [results, Tryd.f32, go_sem, hc5]
    · exact below_putF i3 D (by omega) _
set_option maxRecDepth 100000 in
set_option maxHeartbeats 3200000 in
theorem isMinimal_any (l : List Wd) (x : Wd) (b k : Nat) (w : World) (hne : ∀ u ∈ l, u ≠ []) (hm : w.ownsMap Tryd.prog 9 (plainElem Tryd.prog 4) b k (mapS l)) (hx : x.length ≤ 100000) (hx0 : x ≠ []) :
    Calls Tryd.prog 26 #[.map (some b), .string ⟨x.toArray⟩] w fun e w' => e = .returned (.bool (minB l x)) ∧ Below w.heap.size w w' := by
  have hx1 : 0 < x.length := List.length_pos_iff.2 hx0
  have HA := Lib.hid (isAllowed_any l x (x.length - 1) b k (minB l x) w (min_none hne) hm hx (by omega))
  have hsz : (⟨x.toArray⟩ : ByteArray).size = x.length := by simp [ByteArray.size]
  have hw : IntKind.i64.wrap ((x.length : Int) - 1) = ((x.length - 1 : Nat) : Int) := by rw [IntWalk.i64_in _ (by omega)]; omega
  obtain ⟨L, hL⟩ : ∃ L, x.length = L := ⟨_, rfl⟩
  rw [hL] at HA hsz hw
  clear hm hL hx hx0 hx1
  go_enter Tryd.func26, Tryd.ntmps26
  go_wp2_with (go_at_call 32; (with_reducible refine HA.out.mono ?_); rintro e W1 ⟨rfl, b1⟩; (have B1 := Lib.hid b1); clear b1)
  go_ret
  exact ⟨rfl, B1.out⟩
end Go.Proofs.YtkpmapeapiodcaaDoor

namespace Go.Proofs.YtkpmapeapiodcaaDoor
open Go.RowKit Go.Shelf Go.Sort
set_option linter.unusedSimpArgs false
set_option linter.unusedVariables false

def WdsAt (W : World) (B : Nat) (v : Value) (l : List Wd) : Prop := W.ownsRow B 9 1 v l.length (l.map encStr)
section
variable {W W' : World} {B : Nat} {v : Value} {l : List Wd}
theorem WdsAt.keep (h : WdsAt W B v l) (hb : Below W.heap.size W W') : WdsAt W' B v l := World.ownsRow.kept h (grown_none hb) (by cases v.ownBlock <;> simp)
theorem WdsAt.slice (h : WdsAt W B v l) : ∃ a c, v = .slice a l.length c := own_slice h
theorem WdsAt.row (h : WdsAt W B v l) (h0 : 0 < l.length) : ∃ g c, v = .slice (some ⟨g, 0, none⟩) l.length c := by
  obtain ⟨g, c, hv, _⟩ := World.ownsRow.form h h0
  exact ⟨g, c, hv⟩
theorem WdsAt.cell {g c i : Nat} {x : Wd} (h : WdsAt W B (.slice (some ⟨g, 0, none⟩) l.length c) l) (hx : l[i]? = some x) : W.cell? ⟨g, i, none⟩ = some (.string ⟨x.toArray⟩) := by
  have hi : i < l.length := (List.getElem?_eq_some_iff.1 hx).1
  rw [World.ownsRow.cellAt h i (by omega), List.getElem?_map, hx]; rfl
theorem WdsAt.rd (h : WdsAt W B v l) : WdsRd W v l := by
  obtain ⟨a, c, rfl⟩ := h.slice
  refine ⟨a, c, rfl, fun i x hx => ?_⟩
  have hi : i < l.length := (List.getElem?_eq_some_iff.1 hx).1
  obtain ⟨g, c', hv⟩ := h.row (by omega)
  injection hv with e1 e2 e3
  subst e1
  exact ⟨g, 0, rfl, by rw [Nat.zero_add]; exact h.cell hx⟩
theorem WdsAt.nil (W : World) (B : Nat) : WdsAt W B (.slice none 0 0) [] := World.ownsRow_nil _ _ _ _
end
def srtW (l : List Wd) : List Wd := l.mergeSort fun x y => !(ltOf cmpW) y x
theorem ltOf_cmpW (x y : Wd) : ltOf cmpW x y = true ↔ ltW x y := by
  unfold ltOf
  rw [decide_eq_true_iff, cmpW_neg]
theorem ltOf_cmpF (x y : Wd) : ltOf cmpW x y = false ↔ ¬ ltW x y := by rw [← ltOf_cmpW, Bool.not_eq_true]
theorem swoW : SWO (ltOf cmpW) where
  irrefl x := by rw [ltOf_cmpF]; exact ltW_irr x
  trans x y z h1 h2 := by rw [ltOf_cmpW] at *; exact ltW_tr x y z h1 h2
  ntrans x y z h1 h2 := by
    rw [ltOf_cmpF] at *
    intro h
    rcases ltW_tri z y with h3 | h3 | h3
    · exact h1 (ltW_tr _ _ _ h h3)
    · rw [h3] at h; exact h1 h
    · exact h2 h3
theorem ltOf_totalW {x y : Wd} (h1 : ltOf cmpW x y = false) (h2 : ltOf cmpW y x = false) : x = y := by
  rw [ltOf_cmpF] at h1 h2
  rcases ltW_tri x y with h | h | h
  · exact absurd h h1
  · exact h
  · exact absurd h h2
theorem srtW_perm (l : List Wd) : (srtW l).Perm l := List.mergeSort_perm _ _
theorem srtW_len (l : List Wd) : (srtW l).length = l.length := (srtW_perm l).length_eq
theorem srtW_mem {l : List Wd} {x : Wd} : x ∈ srtW l ↔ x ∈ l := (srtW_perm l).mem_iff
theorem srtW_le (l : List Wd) : (srtW l).Pairwise (fun x y => ¬ ltW y x) := by
  have h := List.pairwise_mergeSort (le := fun x y => !(ltOf cmpW) y x) (fun a b c h1 h2 => by
    simp only [Bool.not_eq_true', ltOf_cmpF] at h1 h2 ⊢
    intro h3
    rcases ltW_tri c b with h | h | h
    · exact h2 h
    · rw [h] at h3; exact h1 h3
    · exact h1 (ltW_tr _ _ _ h h3)) (fun a b => by
    simp only [Bool.or_eq_true, Bool.not_eq_true', ltOf_cmpF]
    rcases ltW_tri a b with h | h | h
    · left; intro h2; exact ltW_irr _ (ltW_tr _ _ _ h h2)
    · left; rw [h]; exact ltW_irr _
    · right; intro h2; exact ltW_irr _ (ltW_tr _ _ _ h h2)) l
  exact h.imp (fun {x y} h => by simpa only [Bool.not_eq_true', ltOf_cmpF] using h)
theorem srtW_pw {l : List Wd} (h : l.Nodup) : (srtW l).Pairwise ltW := by
  have h1 := (srtW_perm l).nodup_iff.2 h
  refine (List.Pairwise.and (srtW_le l) h1).imp (fun {x y} ⟨h2, h3⟩ => ?_)
  rcases ltW_tri x y with h | h | h
  · exact h
  · exact absurd h h3
  · exact absurd h h2
theorem compareF_enters (args : Array Value) (w : World) : (callFunc 28 args).run Tryd.prog w = .ok (.enter 28 args) w := by
  simp [callFunc, go_sem, Tryd.func28, Tryd.f28]
theorem cmpLaysW (blk off size : Nat) (w : World) : CmpLays1 Tryd.prog 28 #[] encStr cmpW blk off size w :=
  fun m os dk _ x y => (compareA_any x y _).mono fun _ _ ⟨he, a, b, hw⟩ => ⟨he, 0, #[.cells #[.int .i64 a, .int .i64 b] 3], by rw [hw]; rfl⟩
set_option maxRecDepth 100000 in
theorem sortW_any (B : Nat) (v : Value) (l : List Wd) (w : World) (h : WdsAt w B v l) (hB : B ≤ w.heap.size) (hlen : l.length ≤ 100000) :
    Calls Tryd.prog 27 #[v, .func (.func 28) #[] #[]] w fun e w' => e = .returned (.tuple #[]) ∧ WdsAt w' B v (srtW l) ∧ Below B w w' := by
  rcases h.2 with ⟨rfl, h0⟩ | ⟨g, cap, cur, rfl, k1, k2, k3, k4, k5, k6⟩
  · obtain rfl : l = [] := List.eq_nil_of_length_eq_zero h0
    refine (Tryd.slices_SortFunc_none (α := Wd) none 0 (.func (.func 28) #[] #[]) w).mono ?_
    rintro e w' ⟨rfl, rfl⟩
    have e1 : srtW [] = [] := by unfold srtW; simp
    rw [e1]
    exact ⟨rfl, h, Below.refl _ _⟩
  · have hlt := (Array.getElem?_eq_some_iff.1 k2).1
    have hcon := Tryd.slices_SortFunc_total encStr (fun x => rfl) cmpW swoW 28 #[] g 0 cap l.toArray w
      compareF_enters (cmpLaysW g 0 _ w) (holds_of_block k2 (by rw [Nat.mul_one] at k6; exact k6)) hlt (by simp; omega) (fun x y h1 h2 => ltOf_totalW h1 h2)
    simp only [List.size_toArray] at hcon
    refine hcon.mono ?_
    rintro e w' ⟨rfl, n, os, rfl⟩
    refine ⟨rfl, ?_, ?_⟩
    · have := ownsRow_sorted (w := w) (base := B) (g := g) (cap := cap) (n := n) (os := os) (ss := l) (ts := srtW l) (srtW_len l) k1 k2 k3 k4 k5
      unfold WdsAt
      rw [srtW_len]
      exact this
    · exact (Below.refl B w).grown (grownBy_sorted (n := n) (os := os) _) hB (fun k e => by cases e; exact k1)
end Go.Proofs.YtkpmapeapiodcaaDoor

namespace Go.Proofs.YtkpmapeapiodcaaDoor
open Go.RowKit Go.Maps Go.Sort
set_option linter.unusedSimpArgs false
set_option linter.unusedVariables false

theorem Tryd.infoStrF : (Tryd.prog.info? 9).map (fun i => (i.zero, i.size, i.bytes)) = some (some (.string ⟨#[]⟩), 1, 16) := by kernel_rfl
theorem clF_words {q : Int} {o : Bool} : ∀ {l : List Wd} {p : Option Wd}, clF q o p l = 0 → ∀ x ∈ l, cwW q x = 0
  | [], _, _, x, hx => by cases hx
  | y :: l, p, h, x, hx => by
    by_cases h0 : cwW q y = 0
    · rcases List.mem_cons.1 hx with rfl | hx
      · exact h0
      · have h2 : clF q o (some y) l = 0 := by
          unfold clF at h
          rw [if_neg (by rw [h0]; simp)] at h
          split at h
          · cases h
          · exact h
        exact clF_words h2 x hx
    · rw [clF_bad h0] at h; exact absurd h h0
theorem cwW_ok {q : Int} {x : Wd} (h : cwW q x = 0) : x ≠ [] ∧ x.length ≤ 32 := by
  unfold cwW at h
  split at h
  · cases h
  · split at h
    · cases h
    · exact ⟨by assumption, by omega⟩
theorem clW_ok {q : Int} {o : Bool} {l : List Wd} (h : clW q o l = 0) : (1 ≤ q ∧ q ≤ 16) ∧ l.length ≤ 64 ∧ (∀ x ∈ l, x ≠ [] ∧ x.length ≤ 32) ∧ clF q o none l = 0 := by
  unfold clW at h
  split at h
  · rename_i hq
    split at h
    · cases h
    · exact ⟨hq, by omega, fun x hx => cwW_ok (clF_words h x hx), h⟩
  · cases h
theorem mapS_strings {l : List Wd} {x : Wd} : has (mapS l) (.string x) = true ↔ x ∈ l := by rw [mapS_has, decide_eq_true_iff]
theorem nodup_leF {α : Type} [DecidableEq α] : ∀ {l m : List α}, l.Nodup → (∀ x ∈ l, x ∈ m) → l.length ≤ m.length
  | [], _, _, _ => Nat.zero_le _
  | a :: l, m, h, hs => by
    have ha := hs a (by simp)
    rw [List.nodup_cons] at h
    have h1 := nodup_leF (l := l) (m := m.erase a) h.2 (fun x hx => (List.mem_erase_of_ne (fun e => by subst e; exact h.1 hx)).2 (hs x (by simp [hx])))
    rw [List.length_erase_of_mem ha] at h1
    have := List.length_pos_of_mem ha
    simp only [List.length_cons]; omega
theorem coll_lenF {l ss : List Wd} {left : Lit → Bool} (h : Collected (mapS l) left ss) : ss.length ≤ l.length :=
  nodup_leF h.1 (fun x hx => mapS_strings.1 ((h.2 x).1 hx).1)
theorem red_of {l ss : List Wd} {left : Lit → Bool} (hC : Collected (mapS l) left ss) (hl : ∀ kl, left kl = false) : RedW l (srtW (ss.filter (minB l))) := by
  refine ⟨srtW_pw (hC.1.filter _), fun x => ?_⟩
  rw [srtW_mem, List.mem_filter, hC.2 x, mapS_strings, hl]
  simp
set_option maxRecDepth 100000 in
set_option maxHeartbeats 6400000 in
theorem reduce_no (q : Int) (l : List Wd) (v : Value) (w : World) (hrd : WdsRd w v l) (hl : l.length ≤ 100000) (hx : ∀ x ∈ l, x.length ≤ 9223372036854775807) (hz : clW q false l ≠ 0) :
    Calls Tryd.prog 7 #[.int .i64 q, v] w fun e w' => e = .returned (.tuple #[.slice none 0 0, .int .i64 (clW q false l)]) ∧ Below w.heap.size w w' := by
  have HC := Lib.hid (checkList_any q false l v w hrd hl hx)
  obtain ⟨z, hz1⟩ : ∃ z, clW q false l = z := ⟨_, rfl⟩
  rw [hz1] at HC hz ⊢
  have d1 : (z != 0) = true := by simpa using hz
  obtain ⟨a, c, rfl⟩ := hrd.form
  clear hrd hz hz1
  go_enter Tryd.func7, Tryd.ntmps7
  go_wp2_with (go_at_call 24; (with_reducible refine HC.out.mono ?_); rintro e W1 ⟨rfl, b1⟩; (have B1 := Lib.hid b1); clear b1)
  exact bodyPost_ret (v := .tuple #[.slice none 0 0, .int .i64 z]) (by simp [results, Tryd.results7, go_sem]) rfl ⟨rfl, B1.out⟩
set_option maxRecDepth 100000 in
set_option maxHeartbeats 6400000 in
theorem reduce_yes (q : Int) (l : List Wd) (v : Value) (w : World) (hrd : WdsRd w v l) (hz : clW q false l = 0) :
    Calls Tryd.prog 7 #[.int .i64 q, v] w fun e w' => ∃ u r, e = .returned (.tuple #[u, .int .i64 0]) ∧ WdsAt w' w.heap.size u r ∧ RedW l r ∧ Below w.heap.size w w' := by
  obtain ⟨hq, hl64, hxs, -⟩ := clW_ok hz
  obtain ⟨i0, hi, hz0, hz1, hz2⟩ := info_parts Tryd.infoStrF
  have HX := Lib.hid hxs
  have HC := Lib.hid (checkList_any q false l v w hrd (by omega) (fun x hx => by have := (hxs x hx).2; omega))
  rw [hz] at HC
  have HRD := Lib.hid hrd
  have HS := Lib.hid (fun W h => setOf_any l v W h (by omega) (fun x hx => by have := (hxs x hx).2; omega))
  have HMI := Lib.hid (fun x b k W (h : x ∈ l) hm => isMinimal_any l x b k W (fun u hu => (hxs u hu).1) hm (by have := (hxs x h).2; omega) (hxs x h).1)
  obtain ⟨a, c, rfl⟩ := hrd.form
  clear hrd hz hxs
  go_enter Tryd.func7, Tryd.ntmps7
  go_wp2_with (first
    | (go_at_call 24; (with_reducible refine HC.out.mono ?_); rintro e W1 ⟨rfl, b1⟩; (have B1 := Lib.hid b1); clear b1)
    | (go_at_call 25; (with_reducible refine (HS.out _ (HRD.out.keep B1.out)).mono ?_); rintro e W2 ⟨rfl, m2, b2⟩; (have B2 := Lib.hid (below_more B1.out (Nat.le_refl _) b2)); (have hb2 := b2.size); clear b2)
    | (at_range; refine wpList_range_own _ rfl _ 48 rfl 9 4 Tryd.keyedS Tryd.underlying48 _ W1.heap.size l.length _ rfl m2 ?_; intro w0 hrg0 hg0 hs0))
  go_frame
  obtain ⟨b, hb⟩ : ∃ b, W1.heap.size = b := ⟨_, rfl⟩
  obtain ⟨r, hr⟩ : ∃ r, W2.heap.size = r := ⟨_, rfl⟩
  obtain ⟨N, hN⟩ : ∃ N, w0.heap.size = N := ⟨_, rfl⟩
  have hwb : w.heap.size ≤ b := by rw [← hb]; exact B1.out.size
  rw [hb] at hrg0 hb2 ⊢
  rw [hr] at hrg0 hb2 hs0 ⊢
  rw [hN] at hs0
  have B3 := Lib.hid (show Below w.heap.size w w0 from B2.out.grown hg0 (by rw [hr]; omega) (fun j hj => by cases hj))
  have T0 := Lib.hid (WdsAt.nil w0 N)
  have hmk := Lib.hid (m2)
  have hbr : b ≤ r := hb2
  clear hb hr m2 hg0 HS
  go_loopw [8, 9] (fun s8 s9 wr => ∃ (left : Lit → Bool) (cnt : Nat) (ss : List Wd), wr.ranges Tryd.prog 9 (plainElem Tryd.prog 4) b r l.length (mapS l) left cnt ∧ Hid (Collected (mapS l) left ss) ∧ Hid (WdsAt wr N s8 (ss.filter (minB l))) ∧ Hid (Below w.heap.size w wr) ∧ N ≤ wr.heap.size) (fun _ _ wr => wr.rangeLeft b r)
  case atStart => exact ⟨_, _, [], hrg0, Lib.hid (Collected.start _), T0, B3, by omega⟩
  case round =>
    clear hrg0 T0 B3
    obtain ⟨left, cnt, ss, hrg, HCo, HT, HB, hNz⟩ := hrel
    obtain ⟨a8, c8, rfl⟩ := HT.out.slice
    have hsl := coll_lenF HCo.out
    have hfl : (ss.filter (minB l)).length ≤ ss.length := List.length_filter_le _ _
    go_wp2_with (at_next; refine wpList_next_ranges _ rfl _ rfl 9 Tryd.keyedS (plainElem Tryd.prog 4) encStr (fun u : Value => u) (fun key kl hk => by obtain ⟨x, hx, _⟩ := Maps.keyOf_str Tryd.underlying9 hk; exact ⟨x, hx⟩) (fun u y hv => ⟨u, rfl⟩) b r l.length _ _ _ rfl hrg ?_ ?_)
    · intro hc0 hl0
      have HSO := Lib.hid (sortW_any N _ _ wr HT.out hNz (by omega))
      have HRE := Lib.hid (red_of HCo.out hl0)
      clear hrg
      go_wp2_with (go_at_call 27; (with_reducible refine HSO.out.mono ?_); rintro e W5 ⟨rfl, i5, b5⟩; (have I5 := Lib.hid i5); (have B5 := Lib.hid (HB.out.trans (b5.mono (show w.heap.size ≤ N by omega)))); clear i5 b5)
      exact bodyPost_ret (v := .tuple #[.slice a8 (ss.filter (minB l)).length c8, .int .i64 0]) (by simp [results, Tryd.results7, go_sem]) rfl ⟨_, _, rfl, own_low I5.out (by omega), HRE.out, B5.out⟩
    · intro x c kl yd yp w2 cnt2 hkey hlk hv hat hrg2 hlt hg2 hs2 hen
      obtain ⟨x', ex, rfl, _⟩ := Maps.keyOf_str Tryd.underlying9 hkey
      obtain rfl : x = x' := encStr_inj ex
      have hxl : x ∈ l := mapS_strings.1 (has_true_of_atKey hat)
      have HCS := Lib.hid (HCo.out.step hlk hat)
      have T2 := Lib.hid (show WdsAt w2 N (.slice a8 (ss.filter (minB l)).length c8) (ss.filter (minB l)) from HT.out.kept hg2 (Or.inr (row_ne_iter HT.out hrg).symm))
      have B4 := Lib.hid (HB.out.grown hg2 HB.out.size (fun j hj => by cases hj; omega))
      have HMX := Lib.hid (HMI.out x b _ w2 hxl hrg2.owns)
      have hen2 : (Instr.entry (.pointer (some ⟨r, 0, none⟩))).run Tryd.prog w2 = .ok (.tuple #[.string ⟨x.toArray⟩, c]) w2 := hen
      have hw2 : N ≤ w2.heap.size := by omega
      clear hs2 hen ex hkey hv
      obtain ⟨M, hM⟩ : ∃ M, minB l x = M := ⟨_, rfl⟩
      rw [hM] at HMX
      have HFF := Lib.hid (show (ss ++ [x]).filter (minB l) = ss.filter (minB l) ++ (if M = true then [x] else []) by rw [List.filter_append, List.filter_cons, hM]; rfl)
      clear hM
      cases M with
      | false =>
        have HF2 := Lib.hid (show (ss ++ [x]).filter (minB l) = ss.filter (minB l) by rw [HFF.out]; simp)
        go_wp2_with (go_at_call 26; (with_reducible refine HMX.out.mono ?_); rintro e W3 ⟨rfl, b3⟩; (have K3 := Lib.hid (hrg2.kept (grown_none b3) (by simp) (by simp))); (have T3 := Lib.hid (T2.out.keep b3)); (have B5 := Lib.hid (below_more B4.out (by omega) b3)); (have h3 := b3.size); clear b3)
        go_roundw
        case rel => exact ⟨_, cnt2, ss ++ [x], K3.out, HCS, Lib.hid (by rw [HF2.out]; exact T3.out), B5, by omega⟩
        case measure => rw [K3.out.left_eq, hrg.left_eq]; exact hlt
      | true =>
        have HF2 := Lib.hid (show (ss ++ [x]).filter (minB l) = ss.filter (minB l) ++ [x] by rw [HFF.out]; simp)
        obtain ⟨F, hF⟩ : ∃ F, ss.filter (minB l) = F := ⟨_, rfl⟩
        rw [hF] at T2 HF2 hfl ⊢
        have hlt3 := hrg.left_eq
        clear hF HFF
        obtain ⟨f, hf⟩ : ∃ f, F.length = f := ⟨_, rfl⟩
        rw [hf] at T2 hfl ⊢
        have HFL := Lib.hid hf
        clear hf hrg
        go_wp2_with (first
          | (go_at_call 26; (with_reducible refine HMX.out.mono ?_); rintro e W3 ⟨rfl, b3⟩; (have K3 := Lib.hid (hrg2.kept (grown_none b3) (by simp) (by simp))); (have T3 := Lib.hid (T2.out.keep b3)); (have hrow : W3.ownsRow N 9 1 (.slice a8 f c8) f (F.map encStr) := by have h := T3.out; unfold WdsAt at h; rw [HFL.out] at h; exact h); (have B5 := Lib.hid (below_more B4.out (by omega) b3)); (have h3 := b3.size); clear b3)
          | (at_builtin; refine wpList_append_lies _ rfl _ _ 22 rfl N 9 i0 (.string ⟨#[]⟩) 1 16 Tryd.underlying22 hi hz0 hz1 hz2 rfl (by decide) (.slice a8 f c8) f (F.map encStr) rfl (hrow.alloc _) ⟨W3.heap.size, 0, none⟩ 1 1 [.string ⟨x.toArray⟩] rfl rfl (cell_one_new _ _ _) (by intro u hu; simp at hu; rcases hu with rfl; rfl) (by decide) (by unfold maxLen; omega) (by omega) (by rw [World.size_alloc]; omega) _ rfl ?_; intro g9 c9 w6 t1 t2 t3 t4))
        have K6 := Lib.hid ((K3.out.alloc (.cells #[.string ⟨x.toArray⟩] 9)).kept t2 (row_ne_low hrow (show b < N by omega)) (row_ne_low hrow (show r < N by omega)))
        have T6 := Lib.hid (show WdsAt w6 N (.slice (some ⟨g9, 0, none⟩) (f + 1) c9) (F ++ [x]) by unfold WdsAt; rw [List.length_append, List.length_singleton, HFL.out, List.map_append]; exact t1)
        have B6 := Lib.hid ((B5.out.alloc B5.out.size (.cells #[.string ⟨x.toArray⟩] 9)).grown t2 (by have h8 := B5.out.size; rw [World.size_alloc]; omega) (fun y hy => by have := (hrow.lt y hy).1; omega))
        have h6 := t2.size
        rw [World.size_alloc] at h6
        clear t1 t2 t3 t4
        go_roundw
        case rel => exact ⟨_, cnt2, ss ++ [x], K6.out, HCS, Lib.hid (by rw [HF2.out]; exact T6.out), B6, by omega⟩
        case measure => rw [K6.out.left_eq, hlt3]; exact hlt
end Go.Proofs.YtkpmapeapiodcaaDoor
