/- What grooveref09.Great and groovelaw09.fine return. No condition but that the edges can be read. -/
import Derived.Test.YtiebhalefdpjiaaDoorVt
namespace Go.Proofs.YtiebhalefdpjiaaDoor
open Go.RowKit
set_option linter.unusedSimpArgs false
set_option linter.unusedVariables false

/-- Larger than the laws examine. -/
def greatB (S : Int) (k : Nat) : Bool := decide (30 < k ∨ (10 < S ∧ S ≤ 64))
theorem great_any (L S : Int) (a : Option Addr) (k c : Nat) (w : World) :
    Calls Tryd.prog 9 #[grV L S (.slice a k c)] w fun e w' => e = .returned (.bool (greatB S k)) ∧ Below w.heap.size w w' := by
  by_cases h1 : 30 < k
  · have HE := Lib.hid (show greatB S k = true from decide_eq_true (.inl h1))
    have d1 : decide ((30 : Int) < (k : Int)) = true := decide_eq_true (by omega)
    have d1' : decide (30 < k) = true := decide_eq_true h1
    clear h1
    go_enter Tryd.func9, Tryd.ntmps9
    go_wp2_with fail
    go_ret
    exact ⟨by rw [HE.out]; rfl, below1 w _⟩
  have d1 : decide ((30 : Int) < (k : Int)) = false := decide_eq_false (by omega)
  have d1' : decide (30 < k) = false := decide_eq_false h1
  by_cases h2 : 10 < S
  · have d2 : decide (10 < S) = true := decide_eq_true h2
    by_cases h3 : S ≤ 64
    · have HE := Lib.hid (show greatB S k = true from decide_eq_true (.inr ⟨h2, h3⟩))
      have d3 : decide (S ≤ 64) = true := decide_eq_true h3
      clear h1 h2 h3
      go_enter Tryd.func9, Tryd.ntmps9
      go_wp2_with fail
      go_ret
      exact ⟨by rw [HE.out]; rfl, below1 w _⟩
    · have HE := Lib.hid (show greatB S k = false from decide_eq_false (by omega))
      have d3 : decide (S ≤ 64) = false := decide_eq_false h3
      clear h1 h2 h3
      go_enter Tryd.func9, Tryd.ntmps9
      go_wp2_with fail
      go_ret
      exact ⟨by rw [HE.out]; rfl, below1 w _⟩
  · have HE := Lib.hid (show greatB S k = false from decide_eq_false (by omega))
    have d2 : decide (10 < S) = false := decide_eq_false h2
    clear h1 h2
    go_enter Tryd.func9, Tryd.ntmps9
    go_wp2_with fail
    go_ret
    exact ⟨by rw [HE.out]; rfl, below1 w _⟩
/-- Valid, and not larger than the laws examine. -/
def fineB (L S : Int) (es : List E3) : Bool := !greatB S es.length && chkG L S es == 0
theorem fine_any (L S : Int) (es : List E3) (v : Value) (w : World) (hrd : EdgesRd w v es) (hn : es.length ≤ 9223372036854775807) :
    Calls Tryd.prog 28 #[grV L S v] w fun e w' => e = .returned (.bool (fineB L S es)) ∧ Below w.heap.size w w' := by
  have HC := Lib.hid (fun W h => rcheck_any L S es v W h hn)
  have HK := Lib.hid (hrd.keep (below1 w (.cells #[.int .i64 L, .int .i64 S, v] 24)))
  have K0 := Lib.hid (BoxG.new w L S v 24)
  obtain ⟨a, c, rfl⟩ := hrd.form
  have HG := Lib.hid (fun W => great_any L S a es.length c W)
  clear hrd
  cases hg : greatB S es.length with
  | true =>
    have HE := Lib.hid (show fineB L S es = false by unfold fineB; rw [hg]; rfl)
    simp only [hg] at HG
    clear hg HC
    go_enter Tryd.func28, Tryd.ntmps28
    go_wp2_with (go_at_call 9; (with_reducible refine (HG.out _).mono ?_); rintro e0 W1 ⟨rfl, b1⟩)
    go_ret
    exact ⟨by rw [HE.out]; rfl, below_more (below1 w _) (Nat.le_refl _) b1⟩
  | false =>
    have HE := Lib.hid (show fineB L S es = (chkG L S es == 0) by unfold fineB; rw [hg]; rfl)
    simp only [hg] at HG
    clear hg
    obtain ⟨z, hz⟩ : ∃ z, chkG L S es = z := ⟨_, rfl⟩
    simp only [hz] at HC HE
    clear hz
    go_enter Tryd.func28, Tryd.ntmps28
    go_wp2_with (first
      | (go_at_call 9; (with_reducible refine (HG.out _).mono ?_); rintro e0 W1 ⟨rfl, b1⟩; (have K1 := HK.out.keep b1); (obtain ⟨g1, g2, g3⟩ := K0.out.keep b1))
      | (go_at_call 14; (with_reducible refine (HC.out _ K1).mono ?_); rintro e0 W2 ⟨rfl, b2⟩))
    go_ret
    exact ⟨by rw [HE.out]; rfl, below_more (below_more (below1 w _) (Nat.le_refl _) b1) (Nat.le_refl _) b2⟩
end Go.Proofs.YtiebhalefdpjiaaDoor
