/- What slices.Compare of two rows of three numbers, graph.compareAs and graph.compareEdges return. No condition. -/
import Derived.Test.YtfkplnmhlpabaaaVb
namespace Go.Proofs.Ytfkplnmhlpabaaa
open Go.RowKit
set_option linter.unusedSimpArgs false
set_option linter.unusedVariables false

/-- The numbers of an edge, by index. -/
def numE (e : E3) : Nat → Int
  | 0 => e.1
  | 1 => e.2.1
  | _ => e.2.2
theorem cmpI_zero {x y : Int} (h : x = y) : cmpI x y = 0 := by subst h; unfold cmpI; rw [if_neg (by omega), if_neg (by omega)]
theorem cmpI_ne {x y : Int} (h : x ≠ y) : (cmpI x y != 0) = true := by
  unfold cmpI
  by_cases h1 : x < y
  · rw [if_pos h1]; rfl
  · rw [if_neg h1, if_pos (by omega)]; rfl
theorem cmpE_at {a b : E3} {k : Nat} (hk : k < 3) (h : ∀ j, j < k → numE a j = numE b j) (h2 : numE a k ≠ numE b k) : cmpE a b = cmpI (numE a k) (numE b k) := by
  unfold cmpE cmpI
  have e1 : ltE a b = decide (numE a k < numE b k) := by
    unfold ltE
    rw [decide_eq_decide]
    rcases (show k = 0 ∨ k = 1 ∨ k = 2 by omega) with rfl | rfl | rfl
    · have : a.1 ≠ b.1 := h2
      show _ ↔ a.1 < b.1
      omega
    · have := h 0 (by omega)
      have e : a.1 = b.1 := this
      have : a.2.1 ≠ b.2.1 := h2
      show _ ↔ a.2.1 < b.2.1
      omega
    · have e : a.1 = b.1 := h 0 (by omega)
      have e2 : a.2.1 = b.2.1 := h 1 (by omega)
      have : a.2.2 ≠ b.2.2 := h2
      show _ ↔ a.2.2 < b.2.2
      omega
  have e2 : ltE b a = decide (numE b k < numE a k) := by
    unfold ltE
    rw [decide_eq_decide]
    rcases (show k = 0 ∨ k = 1 ∨ k = 2 by omega) with rfl | rfl | rfl
    · have : a.1 ≠ b.1 := h2
      show _ ↔ b.1 < a.1
      omega
    · have e : a.1 = b.1 := h 0 (by omega)
      have : a.2.1 ≠ b.2.1 := h2
      show _ ↔ b.2.1 < a.2.1
      omega
    · have e : a.1 = b.1 := h 0 (by omega)
      have e2 : a.2.1 = b.2.1 := h 1 (by omega)
      have : a.2.2 ≠ b.2.2 := h2
      show _ ↔ b.2.2 < a.2.2
      omega
  rw [e1, e2]
  simp only [decide_eq_true_eq]
theorem cmpE_same {a b : E3} (h : ∀ j, j < 3 → numE a j = numE b j) : cmpE a b = 0 := by
  have e : a = b := e3_ext (h 0 (by omega)) (h 1 (by omega)) (h 2 (by omega))
  subst e
  unfold cmpE
  rw [ltE_irrefl]; rfl
set_option maxRecDepth 100000 in
set_option maxHeartbeats 1600000 in
theorem compare3_any (a b : E3) (p q : Nat) (w : World) (ha : ∀ j, j < 3 → w.cell? ⟨p, j, none⟩ = some (.int .i64 (numE a j))) (hb : ∀ j, j < 3 → w.cell? ⟨q, j, none⟩ = some (.int .i64 (numE b j))) :
    Calls Try.prog 106 #[.slice (some ⟨p, 0, none⟩) 3 3, .slice (some ⟨q, 0, none⟩) 3 3] w fun e w' => e = .returned (.int .i64 (cmpE a b)) ∧ w' = w := by
  have HA := Lib.hid ha
  have HB := Lib.hid hb
  clear ha hb
  go_enter Try.func106, Try.ntmps106
  go_wp2_with fail
  go_loopg [11] 3 (fun k s11 wx => wx = w ∧ ∃ i : Nat, i + k = 3 ∧ s11 = .int .i64 (i : Int) ∧ Hid (∀ j, j < i → numE a j = numE b j))
  case atStart => exact ⟨rfl, 0, by omega, rfl, Lib.hid (fun j hj => absurd hj (by omega))⟩
  case round =>
    obtain ⟨rfl, i, hi, rfl, HI⟩ := hrel
    rcases gk with _ | k
    · obtain rfl : i = 3 := by omega
      have HE := Lib.hid (cmpE_same HI.out)
      clear HI
      go_wp2_with fail
      go_ret
      exact ⟨by rw [HE.out]; rfl, rfl⟩
    · have ca := HA.out i (by omega)
      have cb := HB.out i (by omega)
      have il : decide ((3 : Int) ≤ (i : Int)) = false := decide_eq_false (by omega)
      by_cases h : numE a i = numE b i
      · have HI2 := Lib.hid (show ∀ j, j < i + 1 → numE a j = numE b j from fun j hj => by
          rcases (show j < i ∨ j = i by omega) with h1 | rfl
          · exact HI.out j h1
          · exact h)
        have HC := Lib.hid (cmpI_zero h)
        clear HI h
        generalize numE a i = x at *
        generalize numE b i = y at *
        go_wp2_with (go_at_call 113; (with_reducible refine (cmpInt_any _ _ _).mono ?_); rintro e W1 ⟨rfl, hW⟩; (rw [hW, HC.out]); (clear hW))
        go_roundg k
        case measure => omega
        case rel => exact ⟨rfl, i + 1, by omega, by go_num, HI2⟩
      · have HE := Lib.hid (cmpE_at (by omega) HI.out h)
        have hn := cmpI_ne h
        clear HI h
        generalize numE a i = x at *
        generalize numE b i = y at *
        generalize hz : cmpI x y = z at *
        have HZ := Lib.hid hz
        clear hz
        go_wp2_with (go_at_call 113; (with_reducible refine (cmpInt_any _ _ _).mono ?_); rintro e W1 ⟨rfl, hW⟩; (rw [hW, HZ.out]); (clear hW))
        go_ret
        exact ⟨by rw [HE.out]; rfl, rfl⟩
/-- The three numbers of an edge, as an array. -/
abbrev arrE (e : E3) : Value := .agg #[.int .i64 e.1, .int .i64 e.2.1, .int .i64 e.2.2]
set_option maxRecDepth 100000 in
theorem numbers_any (e : E3) (w : World) : Calls Try.prog 96 #[edgV e] w fun en w' => en = .returned (arrE e) ∧ Below w.heap.size w w' := by
  obtain ⟨x, y, z⟩ := e
  go_enter Try.func96, Try.ntmps96
  go_wp2
  exact bodyPost_ret (v := arrE (x, y, z)) (by simp [results, Try.results96, go_sem]) rfl ⟨rfl, (below1 w _).alloc (by rw [World.size_alloc]; omega) _⟩
end Go.Proofs.Ytfkplnmhlpabaaa
