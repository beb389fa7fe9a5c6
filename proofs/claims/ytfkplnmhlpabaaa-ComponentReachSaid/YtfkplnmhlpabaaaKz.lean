/- What slices.IsSorted returns for ascending numbers. Condition: the list can be read. -/
import Derived.Test.YtfkplnmhlpabaaaKn
import Derived.Test.YtfkplnmhlpabaaaKv
import Derived.BigQuiet
namespace Go.Proofs.Ytfkplnmhlpabaaa
open Go.RowKit Go.Shelf
set_option linter.unusedSimpArgs false
set_option linter.unusedVariables false

set_option maxRecDepth 100000 in
theorem nanI_any (x : Int) (w : World) : Calls Try.prog 81 #[.int .i64 x] w fun e w' => e = .returned (.bool false) ∧ w' = w := by
  have h : (x != x) = false := by simp
  go_enter Try.func81, Try.ntmps81
  go_wp2_with fail
  go_ret
  exact ⟨rfl, rfl⟩
set_option maxRecDepth 100000 in
theorem lessI_any (x y : Int) (w : World) : Calls Try.prog 61 #[.int .i64 x, .int .i64 y] w fun e w' => e = .returned (.bool (decide (x < y))) ∧ w' = w := by
  have H := Lib.hid (nanI_any x w)
  go_enter Try.func61, Try.ntmps61
  go_wp2_with (go_at_call 81; (with_reducible refine H.out.mono ?_); rintro e W1 ⟨rfl, rfl⟩)
  go_ret
  exact ⟨rfl, rfl⟩
set_option maxRecDepth 100000 in
set_option maxHeartbeats 3200000 in
theorem sorted_any (l : List Int) (v : Value) (w : World) (hrd : IntsRd w v l) (hn : l.length ≤ 100000) (h0 : 0 < l.length) (hs : l.Pairwise (· < ·)) :
    Calls Try.prog 31 #[v] w fun e w' => e = .returned (.bool true) ∧ ∃ m, w' = w.drewN m := by
  have HRD := Lib.hid hrd
  have HS := Lib.hid hs
  obtain ⟨a, c, rfl⟩ := hrd.form
  obtain ⟨n, hl⟩ : ∃ n, l.length = n := ⟨_, rfl⟩
  have HN := Lib.hid hl
  rw [hl] at hn h0 ⊢
  have hw : IntKind.i64.wrap ((n : Int) - 1) = (n : Int) - 1 := by rw [IntKind.wrap_i64]; omega
  clear hrd hs hl
  go_enter Try.func31, Try.ntmps31
  go_wp2_with fail
  clear hw
  go_loopg [3] n (fun q s3 wx => 0 < q ∧ q ≤ n ∧ s3 = .int .i64 ((q : Int) - 1) ∧ Hid (∃ m, wx = w.drewN m))
  case atStart => exact ⟨h0, Nat.le_refl _, rfl, Lib.hid ⟨0, rfl⟩⟩
  case round =>
    obtain ⟨hq0, hqn, rfl, HM⟩ := hrel
    obtain ⟨q, rfl⟩ : ∃ q, gk = q + 1 := ⟨gk - 1, by omega⟩
    have e9 : ((q + 1 : Nat) : Int) - 1 = (q : Int) := by omega
    rw [e9]
    rcases q with _ | q
    · have j1 : decide ((0 : Int) < ((0 : Nat) : Int)) = false := rfl
      go_wp2_with fail
      go_ret
      exact ⟨rfl, HM.out⟩
    · obtain ⟨i, hi⟩ : ∃ i, q + 1 = i := ⟨_, rfl⟩
      rw [hi]
      have j1 : decide ((0 : Int) < (i : Int)) = true := decide_eq_true (by omega)
      have j0 : (0 : Int) < (i : Int) := by omega
      obtain ⟨x, hx⟩ : ∃ x, l[q]? = some x := ⟨_, List.getElem?_eq_getElem (by rw [HN.out]; omega)⟩
      obtain ⟨y, hy⟩ : ∃ y, l[i]? = some y := ⟨_, List.getElem?_eq_getElem (by rw [HN.out]; omega)⟩
      have hxy : x < y := asc_lt HS.out hx hy (by omega)
      have H0 := HRD.out.keep (show Below w.heap.size w wr by obtain ⟨m, hm⟩ := HM.out; rw [hm]; exact below_drewM (Below.refl _ _) m)
      obtain ⟨b, off, c', hv, k1⟩ := H0.at hx
      obtain ⟨b', off', c'', hv', k2⟩ := H0.at hy
      injection hv with e1 e2 e3
      injection hv' with e4 e5 e6
      subst e1
      injection e4 with e4
      injection e4 with e7 e8
      subst e7 e8
      have hd : decide (y < x) = false := decide_eq_false (by omega)
      have HL := Lib.hid (show ∀ W, Calls Try.prog 61 #[.int .i64 y, .int .i64 x] W fun e w' => e = .returned (.bool false) ∧ w' = W from fun W => by have h := lessI_any y x W; rwa [hd] at h)
      have w1 : IntKind.i64.wrap ((i : Int) - 1) = (q : Int) := by rw [IntKind.wrap_i64]; omega
      have j2 : (i : Int) < (n : Int) := by omega
      have j3 : (q : Int) < (n : Int) := by omega
      clear hx hy e2 e3 e5 e6 H0 hd hxy e9
      go_upto_region 4 with fail
      go_quiet ((go_at_call 61; refine Calls.quiet_of_same (HL.out _)))
      go_wp2_with fail
      go_roundg (q + 1)
      case measure => omega
      case rel => exact ⟨by omega, by omega, by go_num, Lib.hid (by obtain ⟨m, hm⟩ := HM.out; rw [hm, World.drewN_drewN]; exact ⟨_, rfl⟩)⟩
end Go.Proofs.Ytfkplnmhlpabaaa
