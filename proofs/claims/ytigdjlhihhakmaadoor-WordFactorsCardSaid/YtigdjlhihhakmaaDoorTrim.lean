/- What integer.trim returns: the slice without the zeros at its end. Condition: the slice is not longer than 100000000000. -/
import Derived.Test.YtigdjlhihhakmaaDoorDig
import Derived.WalkKit
import Derived.Deep.LoopGhost

namespace Go.Proofs.YtigdjlhihhakmaaDoor
open Go.RowKit

set_option maxHeartbeats 400000 in
theorem trim_any (A : Option Addr) (n c : Nat) (f : Nat → Nat) (w : World) (hn : n ≤ c) (hc : c ≤ 100000000000) (h : Rd w A n f) :
    Calls Tryd.prog 64 #[.slice A n c] w fun e w' => e = .returned (.slice A (tln f n) c) ∧ w = w' := by
  obtain ⟨b, off, hA, hcell⟩ := h
  go_enter Tryd.func64, Tryd.ntmps64
  go_wp2
  go_loopg [0] n (fun g x wx => wx = w ∧ x = .slice A g c ∧ g ≤ n ∧ tln f g = tln f n)
  case atStart => exact ⟨rfl, rfl, Nat.le_refl _, rfl⟩
  case round =>
    obtain ⟨rfl, rfl, hg, ht⟩ := hrel
    have Ht : Hid (tln f gk = tln f n) := ht
    clear ht
    rcases gk with _ | g
    · go_wp2
      go_ret
      exact ⟨by rw [← Ht.out]; rfl, rfl⟩
    · obtain rfl := hA (by omega)
      have hx := hcell g (by omega)
      by_cases hz : f g = 0
      · go_wp2
        go_roundg g
        case measure => omega
        case rel => exact ⟨rfl, by go_num, by omega, by rw [← Ht.out, tln, if_pos hz]⟩
      · go_wp2
        go_ret
        exact ⟨by rw [← Ht.out, tln, if_neg hz]; rfl, rfl⟩
end Go.Proofs.YtigdjlhihhakmaaDoor
