/- GraphMakes returns true, whatever the graph and the numbers. Conditions: the edges can be read; a slice's length is at most its capacity. -/
import Derived.Test.YtiebhalefdpjiaaDoorVtk
namespace Go.Proofs.YtiebhalefdpjiaaDoor
open Go.RowKit
set_option linter.unusedSimpArgs false
set_option linter.unusedVariables false

set_option maxRecDepth 100000 in
theorem gmakes_any (L S : Int) (es : List E3) (v : Value) (s t : Nat) (w : World) (hs : s < 256) (ht : t < 256) (hrd : EdgesRd w v es) (hn : es.length ≤ 9223372036854775807) (hc : ∃ a c, v = .slice a es.length c ∧ es.length ≤ c ∧ c ≤ 9223372036854775807) :
    Calls Tryd.prog 5 #[grV L S v, .int .u8 (s : Int), .int .u8 (t : Int)] w fun e w' => e = .returned (.bool true) ∧ Below w.heap.size w w' := by
  obtain ⟨a, c, rfl, hc1, hc2⟩ := hc
  have HGR := Lib.hid (fun W => great_any L S a es.length c W)
  have HAW := Lib.hid (fun W => awake_any W)
  have B0 := Lib.hid (below1 w (.cells #[.int .i64 L, .int .i64 S, .slice a es.length c] 24))
  have G0 := Lib.hid (BoxG.new w L S (.slice a es.length c) 24)
  cases hg : greatB S es.length with
  | true =>
    have HGB := Lib.hid hg
    clear hrd hg
    go_enter Tryd.func5, Tryd.ntmps5
    go_wp2_with (first
      | (go_at_call 9; (with_reducible refine (HGR.out _).mono ?_); rintro e0 W1 ⟨rfl, b1⟩; (rw [HGB.out]); (have B1 := Lib.hid (below_more B0.out (Nat.le_refl _) b1)); (clear b1 B0))
      | (go_at_call 10; (with_reducible refine (HAW.out _).mono ?_); rintro e0 W12 ⟨rfl, b12⟩; (have B12 := Lib.hid (below_more B1.out (Nat.le_refl _) b12)); (clear b12)))
    go_ret
    exact ⟨rfl, B12.out⟩
  | false =>
    rcases Nat.eq_zero_or_pos es.length with h0 | h0
    · have HGB := Lib.hid hg
      rw [h0] at HGR HGB G0 B0 ⊢
      clear hrd hg h0 hc1 hn
      go_enter Tryd.func5, Tryd.ntmps5
      go_wp2_with (first
        | (go_at_call 9; (with_reducible refine (HGR.out _).mono ?_); rintro e0 W1 ⟨rfl, b1⟩; (rw [HGB.out]); (have B1 := Lib.hid (below_more B0.out (Nat.le_refl _) b1)); (obtain ⟨g1, g2, g3⟩ := G0.out.keep b1); (clear b1 B0 G0))
        | (go_at_call 10; (with_reducible refine (HAW.out _).mono ?_); rintro e0 W12 ⟨rfl, b12⟩; (have B12 := Lib.hid (below_more B1.out (Nat.le_refl _) b12)); (clear b12)))
      go_ret
      exact ⟨rfl, B12.out⟩
    · exact gmakes_small L S es a c s t w hs ht hc1 hc2 h0 hg hrd
end Go.Proofs.YtiebhalefdpjiaaDoor
