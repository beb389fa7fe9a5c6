/- GraphParts returns true, whatever the graph and the numbers. Conditions: the edges can be read. -/
import Derived.Test.YtiebhalefdpjiaaDoorVbk
namespace Go.Proofs.YtiebhalefdpjiaaDoor
open Go.RowKit
set_option linter.unusedSimpArgs false
set_option linter.unusedVariables false

set_option maxRecDepth 100000 in
theorem gparts_any (L S : Int) (es : List E3) (v : Value) (one two : Nat) (w : World) (h1 : one < 65536) (h2 : two < 65536) (hrd : EdgesRd w v es) (hn : es.length ≤ 9223372036854775807) :
    Calls Tryd.prog 7 #[grV L S v, .int .u16 (one : Int), .int .u16 (two : Int)] w fun e w' => e = .returned (.bool true) ∧ Below w.heap.size w w' := by
  cases hf : fineB L S es with
  | true =>
    have hc : chkG L S es = 0 := by
      unfold fineB at hf
      simp at hf
      exact hf.2
    have hvg := chkG_zero hc
    obtain ⟨n, rfl⟩ : ∃ n : Nat, S = (n : Int) := ⟨S.toNat, by have := hvg.s1; omega⟩
    exact gparts_small L n es v one two w h1 h2 hrd hvg hf
  | false =>
    have HF := Lib.hid (fun W h => fine_any L S es v W h hn)
    have HFB := Lib.hid hf
    have HAW := Lib.hid (fun W => awake_any W)
    have HRD := Lib.hid (hrd.keep (below1 w (.cells #[.int .i64 L, .int .i64 S, v] 24)))
    have B0 := Lib.hid (below1 w (.cells #[.int .i64 L, .int .i64 S, v] 24))
    obtain ⟨a, c, rfl⟩ := hrd.form
    clear hrd hf
    go_enter Tryd.func7, Tryd.ntmps7
    go_wp2_with (first
      | (go_at_call 28; (with_reducible refine (HF.out _ HRD.out).mono ?_); rintro e0 W1 ⟨rfl, b1⟩; (rw [HFB.out]); (have B1 := Lib.hid (below_more B0.out (Nat.le_refl _) b1)); (clear b1 B0))
      | (go_at_call 10; (with_reducible refine (HAW.out _).mono ?_); rintro e0 W12 ⟨rfl, b12⟩; (have B12 := Lib.hid (below_more B1.out (Nat.le_refl _) b12)); (clear b12)))
    go_ret
    exact ⟨rfl, B12.out⟩
end Go.Proofs.YtiebhalefdpjiaaDoor
