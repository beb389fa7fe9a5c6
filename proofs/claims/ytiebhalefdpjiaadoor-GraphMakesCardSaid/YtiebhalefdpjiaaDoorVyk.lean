/- What graph.Keep and Same return for a valid graph and a set of its states. No condition. -/
import Derived.Test.YtiebhalefdpjiaaDoorVl
import Derived.Test.YtiebhalefdpjiaaDoorVm
import Derived.Test.YtiebhalefdpjiaaDoorVv
namespace Go.Proofs.YtiebhalefdpjiaaDoor
open Go.RowKit
set_option linter.unusedSimpArgs false
set_option linter.unusedVariables false

/-- The part on the essential states. -/
theorem keep_ess {L : Int} {n k : Nat} {es ps : List E3} {st : List Int} (hvg : VG L (n : Int) es) (hs : SG (n : Int) st) (hk : st.length = k) (hp : partE st es = ps) (v u : Value) (W : World) (h : EdgesRd W v es) (h2 : IntsRd W u st) :
    Calls Tryd.prog 23 #[grV L (n : Int) v, u] W fun e w' => ∃ v', e = .returned (.tuple #[grV L (k : Int) v', .int .i64 0]) ∧ EdgesAt w' W.heap.size v' ps ∧ Below W.heap.size W w' := by
  have := hvg.len
  have := hs.len
  have := hvg.s2
  have hx := keep_any L (n : Int) es v u st W h (by omega) h2 (by omega)
  rw [show keepR L (n : Int) es st = (L, (k : Int), ps, 0) by unfold keepR; rw [if_pos hvg.chk, if_pos hs.chk, hk, hp]] at hx
  exact hx
theorem same_yes (L S : Int) (es : List E3) (v1 v2 : Value) (w : World) (h1 : EdgesRd w v1 es) (h2 : EdgesRd w v2 es) (hn : es.length ≤ 9223372036854775807) :
    Calls Tryd.prog 15 #[grV L S v1, grV L S v2] w fun e w' => e = .returned (.bool true) ∧ Below w.heap.size w w' := by
  have k := same_any L S L S es es v1 v2 w h1 h2 hn hn
  rw [show sameG L S es L S es = true from decide_eq_true ⟨rfl, rfl, rfl⟩] at k
  exact k
end Go.Proofs.YtiebhalefdpjiaaDoor
