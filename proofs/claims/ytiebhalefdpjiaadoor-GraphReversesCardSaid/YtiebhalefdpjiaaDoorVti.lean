/- GraphReverses returns true, whatever the graph and the numbers. Conditions: the edges can be read. -/
import Derived.Test.YtiebhalefdpjiaaDoorVth
namespace Go.Proofs.YtiebhalefdpjiaaDoor
open Go.RowKit
set_option linter.unusedSimpArgs false
set_option linter.unusedVariables false

set_option maxRecDepth 100000 in
theorem grev_any (L S : Int) (es : List E3) (v : Value) (s t lab : Nat) (w : World) (hs : s < 256) (ht : t < 256) (hla : lab < 256) (hrd : EdgesRd w v es) (hn : es.length ≤ 9223372036854775807) :
    Calls Tryd.prog 6 #[grV L S v, .int .u8 (s : Int), .int .u8 (t : Int), .int .u8 (lab : Int)] w fun e w' => e = .returned (.bool true) ∧ Below w.heap.size w w' := by
  have HF := Lib.hid (fun W h => fine_any L S es v W h hn)
  have HAW := Lib.hid (fun W => awake_any W)
  have HRD := Lib.hid (hrd.keep (below1 w (.cells #[.int .i64 L, .int .i64 S, v] 24)))
  have B0 := Lib.hid (below1 w (.cells #[.int .i64 L, .int .i64 S, v] 24))
  have G0 := Lib.hid (BoxG.new w L S v 24)
  cases hf : fineB L S es with
  | true =>
    have hc : chkG L S es = 0 := by
      unfold fineB at hf
      simp at hf
      exact hf.2
    have hvg := chkG_zero hc
    by_cases h0 : S = 0
    · subst h0
      have HFB := Lib.hid hf
      obtain ⟨a, c, rfl⟩ := hrd.form
      clear hrd hf hc hvg
      go_enter Tryd.func6, Tryd.ntmps6
      go_wp2_with (first
        | (go_at_call 28; (with_reducible refine (HF.out _ HRD.out).mono ?_); rintro e0 W1 ⟨rfl, b1⟩; (rw [HFB.out]); (have B1 := Lib.hid (below_more B0.out (Nat.le_refl _) b1)); (obtain ⟨g1, g2, g3⟩ := G0.out.keep b1); (clear b1 B0 G0))
        | (go_at_call 10; (with_reducible refine (HAW.out _).mono ?_); rintro e0 W12 ⟨rfl, b12⟩; (have B12 := Lib.hid (below_more B1.out (Nat.le_refl _) b12)); (clear b12)))
      go_ret
      exact ⟨rfl, B12.out⟩
    · obtain ⟨n, rfl⟩ : ∃ n : Nat, S = (n : Int) := ⟨S.toNat, by have := hvg.s1; omega⟩
      exact grev_small L n es v s t lab w hs ht hla (by omega) hrd hvg hf
  | false =>
    have HFB := Lib.hid hf
    obtain ⟨a, c, rfl⟩ := hrd.form
    clear hrd hf
    go_enter Tryd.func6, Tryd.ntmps6
    go_wp2_with (first
      | (go_at_call 28; (with_reducible refine (HF.out _ HRD.out).mono ?_); rintro e0 W1 ⟨rfl, b1⟩; (rw [HFB.out]); (have B1 := Lib.hid (below_more B0.out (Nat.le_refl _) b1)); (clear b1 B0))
      | (go_at_call 10; (with_reducible refine (HAW.out _).mono ?_); rintro e0 W12 ⟨rfl, b12⟩; (have B12 := Lib.hid (below_more B1.out (Nat.le_refl _) b12)); (clear b12)))
    go_ret
    exact ⟨rfl, B12.out⟩
end Go.Proofs.YtiebhalefdpjiaaDoor
