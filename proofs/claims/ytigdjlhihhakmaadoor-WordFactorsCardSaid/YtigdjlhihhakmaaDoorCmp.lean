/- What integer.compare returns: -1, 0 or 1, by the numbers. Condition: both are numbers in memory without zeros at the end. -/
import Derived.Test.YtigdjlhihhakmaaDoorCmpl
import Derived.WalkKit
import Derived.Deep.LoopGhost
import Derived.Deep.QuietTactic
import Derived.BigQuiet
namespace Go.Proofs.YtigdjlhihhakmaaDoor
open Go.RowKit

set_option maxHeartbeats 800000 in
theorem compare_any (A B : Option Addr) (n m c d N M : Nat) (w : World) (hA : IsNat w A n c N) (hB : IsNat w B m d M) :
    Calls Tryd.prog 62 #[.slice A n c, .slice B m d] w fun e w' => e = .returned (.int .i64 (cmpN N M)) ∧ ∃ k, w' = w.drewN k := by
  obtain ⟨hn, hc, f, ⟨b, off, hAe, hcell⟩, df, tf, rfl⟩ := hA
  obtain ⟨hm, hd, g, ⟨b', off', hBe, hcell'⟩, dg, tg, rfl⟩ := hB
  by_cases hne : n = m
  · subst hne
    have hne' : ((n : Int) != (n : Int)) = false := by simp
    go_enter Tryd.func62, Tryd.ntmps62
    go_wp2
    go_loopg [5] n (fun k i wx => (∃ q, wx = w.drewN q) ∧ k ≤ n ∧ i = .int .i64 ((k : Int) - 1) ∧ ∀ j, k ≤ j → j < n → f j = g j)
    case atStart => exact ⟨⟨0, rfl⟩, Nat.le_refl _, by go_num, fun j a b => by omega⟩
    case round =>
      obtain ⟨⟨q, rfl⟩, hk, rfl, he⟩ := hrel
      rcases gk with _ | k
      · have hv := cmpN_eq (f := f) (g := g) (n := n) (fun j hj => he j (Nat.zero_le _) hj)
        have Hv : Hid (cmpN (val f n) (val g n) = 0) := hv
        clear hv he
        go_wp2
        go_ret
        exact ⟨by rw [Hv.out]; rfl, q, rfl⟩
      · obtain rfl := hAe (by omega)
        obtain rfl := hBe (by omega)
        have hx := hcell k (by omega)
        have hy := hcell' k (by omega)
        by_cases h1 : f k < g k
        · have hv := cmpN_lss df (show k < n by omega) h1 he
          have Hv : Hid (cmpN (val f n) (val g n) = -1) := hv
          clear hv he
          go_wp2
          go_quiet (fail)
          go_wp2
          go_ret
          exact ⟨by rw [Hv.out]; rfl, _, World.drewN_drewN ..⟩
        · by_cases h2 : g k < f k
          · have hv := cmpN_gtr dg (show k < n by omega) h2 he
            have Hv : Hid (cmpN (val f n) (val g n) = 1) := hv
            clear hv he
            go_wp2
            go_quiet (fail)
            go_wp2
            go_quiet (fail)
            go_wp2
            go_ret
            exact ⟨by rw [Hv.out]; rfl, _, (by rw [World.drewN_drewN, World.drewN_drewN])⟩
          · have He : Hid (∀ j, k ≤ j → j < n → f j = g j) := fun j a b => by
              by_cases e : j = k
              · subst e; omega
              · exact he j (by omega) b
            clear he
            go_wp2
            go_quiet (fail)
            go_wp2
            go_quiet (fail)
            go_wp2
            go_roundg k
            case measure => omega
            case rel => exact ⟨⟨_, rfl⟩, by omega, by go_num, He.out⟩
  · have hne' : ((n : Int) != (m : Int)) = true := by simp; omega
    have hv := cmpN_len df dg tf tg hne
    have Hv : Hid (cmpN (val f n) (val g m) = if n < m then -1 else 1) := hv
    clear hv
    by_cases hlt : n < m
    · go_enter Tryd.func62, Tryd.ntmps62
      go_wp2
      go_ret
      exact ⟨by rw [Hv.out, if_pos hlt]; rfl, 0, rfl⟩
    · go_enter Tryd.func62, Tryd.ntmps62
      go_wp2
      go_ret
      exact ⟨by rw [Hv.out, if_neg hlt]; rfl, 0, rfl⟩
end Go.Proofs.YtigdjlhihhakmaaDoor
