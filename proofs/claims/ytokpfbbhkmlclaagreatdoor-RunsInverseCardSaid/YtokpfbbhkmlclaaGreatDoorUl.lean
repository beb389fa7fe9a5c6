/- What runs.Disparity and runs.Range return. Condition: at most 1000 letters, or an error of Check. -/
import Derived.Test.YtokpfbbhkmlclaaGreatDoorUk
namespace Go.Proofs.YtokpfbbhkmlclaaGreatDoor
open Go.RowKit
set_option linter.unusedSimpArgs false
set_option linter.unusedVariables false

/-- What Disparity and Range return. -/
def dspR (l : List UInt8) : Int × Int := if chk 2 l = 0 then (chg l, 0) else (0, chk 2 l)
def rngR (l : List UInt8) : Int × Int × Int := if chk 2 l = 0 then (loC l, hiC l, 0) else (0, 0, chk 2 l)
def NumOut (w : World) (r : Int × Int) (e : Ending) (w' : World) : Prop := e = .returned (.tuple #[.int .i64 r.1, .int .i64 r.2]) ∧ Below w.heap.size w w'
def TwoOut (w : World) (r : Int × Int × Int) (e : Ending) (w' : World) : Prop := e = .returned (.tuple #[.int .i64 r.1, .int .i64 r.2.1, .int .i64 r.2.2]) ∧ Below w.heap.size w w'
theorem chgR_zero {l : List UInt8} (h : chk 2 l = 0) : chgR l = (chgs l, 0) := by unfold chgR; rw [if_pos h]
theorem chgR_err {l : List UInt8} {c : Int} (h : chk 2 l = c) (h0 : c ≠ 0) : chgR l = ([], c) := by unfold chgR; rw [if_neg (by rw [h]; exact h0), h]
/-- The charges, as they come out. -/
theorem charges_good (l : List UInt8) (w : World) (hl : l.length ≤ 1000) (h0 : chk 2 l = 0) :
    Calls Tryz.prog 13 #[.string ⟨l.toArray⟩] w fun e w' => ∃ g c, e = .returned (.tuple #[.slice (some ⟨g, 0, none⟩) (l.length + 1) c, .int .i64 0]) ∧ IntsAt w' w.heap.size (.slice (some ⟨g, 0, none⟩) (chgs l).length c) (chgs l) ∧ Below w.heap.size w w' := by
  refine (charges_any l w (Or.inl hl)).mono ?_
  rintro e w' ⟨v, rfl, h1, h2⟩
  rw [chgR_zero h0] at h1
  obtain ⟨g, c, rfl⟩ := h1.row (by rw [chgs_len]; omega)
  rw [chgR_zero h0]
  exact ⟨g, c, by rw [chgs_len], h1, h2⟩
theorem charges_bad (l : List UInt8) (w : World) (hl : l.length ≤ 1000 ∨ (65536 < l.length ∧ l.length ≤ 9223372036854775807)) {c : Int} (h : chk 2 l = c) (h0 : c ≠ 0) :
    Calls Tryz.prog 13 #[.string ⟨l.toArray⟩] w fun e w' => (∃ a k, e = .returned (.tuple #[.slice a 0 k, .int .i64 c])) ∧ Below w.heap.size w w' := by
  refine (charges_any l w hl).mono ?_
  rintro e w' ⟨v, rfl, h1, h2⟩
  rw [chgR_err h h0] at h1 ⊢
  obtain ⟨a, k, rfl⟩ := h1.slice
  exact ⟨⟨a, k, rfl⟩, h2⟩
theorem cell_last {W : World} {B g c : Nat} {l : List UInt8} (h : IntsAt W B (.slice (some ⟨g, 0, none⟩) (chgs l).length c) (chgs l)) : W.cell? ⟨g, l.length, none⟩ = some (.int .i64 (chg l)) := by
  have := h.cell (chgs_at (l := l) (i := l.length) (Nat.le_refl _))
  rwa [List.take_length] at this
set_option maxRecDepth 100000 in
set_option maxHeartbeats 3200000 in
theorem disparity_any (l : List UInt8) (w : World) (hl : l.length ≤ 1000 ∨ (65536 < l.length ∧ l.length ≤ 9223372036854775807)) :
    Calls Tryz.prog 15 #[.string ⟨l.toArray⟩] w (NumOut w (dspR l)) := by
  by_cases h0 : chk 2 l = 0
  · obtain ⟨m, hm, m1, m2, hl2, hW⟩ := chk_zero h0
    have hl3 : l.length ≤ 1000 := by omega
    have HX := Lib.hid (show dspR l = (chg l, 0) by unfold dspR; rw [if_pos h0])
    rw [HX.out]
    have HC := Lib.hid (fun W => charges_good l W hl3 h0)
    clear hW hl h0 HX hm m1 m2 hl2
    go_enter Tryz.func15, Tryz.ntmps15
    go_wp2_with (go_at_call 13; (with_reducible refine (HC.out _).mono ?_); rintro e W1 ⟨g, c, rfl, hI, b1⟩; (have hcell := cell_last hI); (have j2 : (l.length : Int) < (l.length : Int) + 1 := by omega))
    exact bodyPost_ret (v := .tuple #[.int .i64 (chg l), .int .i64 0]) (by simp [results, Tryz.results15, go_sem]) rfl ⟨rfl, b1⟩
  · obtain ⟨c, hc⟩ : ∃ c, chk 2 l = c := ⟨_, rfl⟩
    have HX := Lib.hid (show dspR l = (0, c) by unfold dspR; rw [if_neg h0, hc])
    rw [HX.out]
    rw [hc] at h0
    have HC := Lib.hid (fun W => charges_bad l W hl hc h0)
    have h1 : (c == 0) = false := by rw [beq_eq_false_iff_ne]; exact h0
    clear hc h0
    go_enter Tryz.func15, Tryz.ntmps15
    go_wp2_with (go_at_call 13; (with_reducible refine (HC.out _).mono ?_); rintro e W1 ⟨⟨a, k, rfl⟩, b1⟩)
    exact bodyPost_ret (v := .tuple #[.int .i64 0, .int .i64 c]) (by simp [results, Tryz.results15, go_sem]) rfl ⟨rfl, b1⟩
theorem chgs_head (l : List UInt8) : (chgs l).headD 0 = 0 := by
  unfold chgs
  rw [List.range_succ_eq_map, List.map_cons]; rfl
theorem chgs_getD {W : World} {B g c : Nat} {l : List UInt8} (h : IntsAt W B (.slice (some ⟨g, 0, none⟩) (chgs l).length c) (chgs l)) : ∀ j, j < (chgs l).length → W.cell? ⟨g, 0 + j, none⟩ = some (.int .i64 ((chgs l).getD j 0)) := fun j hj => by
  rw [Nat.zero_add, h.cell (List.getElem?_eq_getElem hj), List.getD_eq_getElem?_getD, List.getElem?_eq_getElem hj]; rfl
theorem min_any {W : World} {B g c : Nat} {l : List UInt8} (h : IntsAt W B (.slice (some ⟨g, 0, none⟩) (chgs l).length c) (chgs l)) (hl : l.length ≤ 1000) :
    Calls Tryz.prog 30 #[.slice (some ⟨g, 0, none⟩) (l.length + 1) c] W fun e w' => e = .returned (.int .i64 (loC l)) ∧ w' = W := by
  have k := Tryz.slices_Min_int g 0 (l.length + 1) c (chgs l) W (by omega) (by rw [chgs_len]; exact Nat.le_refl _) (by omega) (chgs_getD h)
  rw [List.take_of_length_le (by rw [chgs_len]; exact Nat.le_refl _)] at k
  unfold Lib.minOf at k
  rw [chgs_head] at k
  exact k
theorem max_any {W : World} {B g c : Nat} {l : List UInt8} (h : IntsAt W B (.slice (some ⟨g, 0, none⟩) (chgs l).length c) (chgs l)) (hl : l.length ≤ 1000) :
    Calls Tryz.prog 31 #[.slice (some ⟨g, 0, none⟩) (l.length + 1) c] W fun e w' => e = .returned (.int .i64 (hiC l)) ∧ w' = W := by
  have k := Tryz.slices_Max_int g 0 (l.length + 1) c (chgs l) W (by omega) (by rw [chgs_len]; exact Nat.le_refl _) (by omega) (chgs_getD h)
  rw [List.take_of_length_le (by rw [chgs_len]; exact Nat.le_refl _)] at k
  unfold Lib.maxOf at k
  rw [chgs_head] at k
  exact k
set_option maxRecDepth 100000 in
set_option maxHeartbeats 3200000 in
theorem range_any (l : List UInt8) (w : World) (hl : l.length ≤ 1000 ∨ (65536 < l.length ∧ l.length ≤ 9223372036854775807)) :
    Calls Tryz.prog 14 #[.string ⟨l.toArray⟩] w (TwoOut w (rngR l)) := by
  by_cases h0 : chk 2 l = 0
  · obtain ⟨m, hm, m1, m2, hl2, hW⟩ := chk_zero h0
    have hl3 : l.length ≤ 1000 := by omega
    have HX := Lib.hid (show rngR l = (loC l, hiC l, 0) by unfold rngR; rw [if_pos h0])
    rw [HX.out]
    have HC := Lib.hid (fun W => charges_good l W hl3 h0)
    clear hW hl h0 HX hm m1 m2 hl2
    go_enter Tryz.func14, Tryz.ntmps14
    go_wp2_with (first
      | (go_at_call 13; (with_reducible refine (HC.out _).mono ?_); rintro e W1 ⟨g, c, rfl, hI, b1⟩; (have HI := Lib.hid hI); (clear hI))
      | (go_at_call 30; (with_reducible refine (min_any HI.out hl3).mono ?_); rintro e W2 ⟨rfl, hW⟩; (rw [hW]); (clear hW))
      | (go_at_call 31; (with_reducible refine (max_any HI.out hl3).mono ?_); rintro e W2 ⟨rfl, hW⟩; (rw [hW]); (clear hW)))
    exact bodyPost_ret (v := .tuple #[.int .i64 (loC l), .int .i64 (hiC l), .int .i64 0]) (by simp [results, Tryz.results14, go_sem]) rfl ⟨rfl, b1⟩
  · obtain ⟨c, hc⟩ : ∃ c, chk 2 l = c := ⟨_, rfl⟩
    have HX := Lib.hid (show rngR l = (0, 0, c) by unfold rngR; rw [if_neg h0, hc])
    rw [HX.out]
    rw [hc] at h0
    have HC := Lib.hid (fun W => charges_bad l W hl hc h0)
    have h1 : (c == 0) = false := by rw [beq_eq_false_iff_ne]; exact h0
    clear hc h0
    go_enter Tryz.func14, Tryz.ntmps14
    go_wp2_with (go_at_call 13; (with_reducible refine (HC.out _).mono ?_); rintro e W1 ⟨⟨a, k, rfl⟩, b1⟩)
    exact bodyPost_ret (v := .tuple #[.int .i64 0, .int .i64 0, .int .i64 c]) (by simp [results, Tryz.results14, go_sem]) rfl ⟨rfl, b1⟩
end Go.Proofs.YtokpfbbhkmlclaaGreatDoor
