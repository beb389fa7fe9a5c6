/- Included, Equal, groovelaw13.great of two graphs, less; what the first words of two searches have to do with each other. Conditions: the edges can be read; the library's table reads as its text lays it. MinimalEquals returns true. Conditions: the edges can be read; the library's table reads as its text lays it. What rows without listed variables share. No condition. -/
import Derived.Test.YtiockphjnkehnaaGreatDoorQ32
import Derived.Test.YtiockphjnkehnaaGreatDoorQ41
import Derived.Test.YtiockphjnkehnaaGreatDoorQ42
import Derived.Test.YtiockphjnkehnaaGreatDoorQ43
import Derived.Test.YtiockphjnkehnaaGreatDoorQ19
import Derived.Test.YtiockphjnkehnaaGreatDoorQ06
import Derived.Test.YtiockphjnkehnaaGreatDoorRows
import Derived.WalkKit
import Derived.ProofKit
import Derived.OpenShut
import Derived.Deep.DeepHandedRow
import Derived.Below
import Derived.Lib.SmallJoins

namespace Go.Proofs.YtiockphjnkehnaaGreatDoor
open Go.RowKit
set_option linter.unusedSimpArgs false
set_option linter.unusedVariables false

theorem fwx_xo : FWX (fun x y : Bool => x != y) (.func (.func 33) #[] #[]) := fun a b na nb Lab M M' W h1 h2 h3 h4 h5 h6 h7 h8 h9 =>
  firstWord_xo a b na nb Lab 0 0 (some ⟨M, 0, none⟩) (some ⟨M', 0, none⟩) (na + 1) (nb + 1) W h1 h2 h3 h4 h5 h6 h7 h8 h9 (Nat.zero_le _) (Nat.zero_le _)
theorem fwx_of : FWX (fun x y : Bool => x && !y) (.func (.func 31) #[] #[]) := fun a b na nb Lab M M' W h1 h2 h3 h4 h5 h6 h7 h8 h9 =>
  firstWord_of a b na nb Lab 0 0 (some ⟨M, 0, none⟩) (some ⟨M', 0, none⟩) (na + 1) (nb + 1) W h1 h2 h3 h4 h5 h6 h7 h8 h9 (Nat.zero_le _) (Nat.zero_le _)
set_option maxRecDepth 100000 in
set_option maxHeartbeats 3200000 in
theorem equal_any (La S Lb T : Int) (es fs : List E3) (v u : Value) (w : World) (hrd : EdgesRd w v es) (hru : EdgesRd w u fs) (hn : es.length ≤ 9223372036854775807) (hm : fs.length ≤ 9223372036854775807) (hT : TabD w) :
    Calls Tryz.prog 10 #[grV La S v, grV Lb T u] w (CmpOut (fun x y : Bool => x != y) La S es Lb T fs w) := by
  have HC := Lib.hid (fun W h1 h2 h3 => compare_any _ _ La S Lb T es fs v u W fwx_xo h1 h2 hn hm h3)
  have b0 := below_more (below1 w (.cells #[.int .i64 La, .int .i64 S, v] 24)) (Nat.le_refl _) (below1 _ (.cells #[.int .i64 Lb, .int .i64 T, u] 24))
  have B0 := Lib.hid b0
  have G0 := Lib.hid ((BoxG.new w La S v 24).keep (below1 _ (.cells #[.int .i64 Lb, .int .i64 T, u] 24)))
  have H0 := BoxG.new (w.alloc (.cells #[.int .i64 La, .int .i64 S, v] 24)) Lb T u 24
  rw [World.size_alloc] at H0
  have RA := Lib.hid (hrd.keep b0)
  have RB := Lib.hid (hru.keep b0)
  have HT := Lib.hid (hT.keep b0)
  obtain ⟨x1, x2, x3⟩ := id G0.out
  obtain ⟨y1, y2, y3⟩ := id H0
  clear hrd hru hT b0
  go_enter Tryz.func10, Tryz.ntmps10
  go_wp2_with (go_at_call 30; (with_reducible refine (HC.out _ RA.out RB.out HT.out).mono ?_); rintro e W1 ⟨q, is, g, c, rfl, i1, f1, f2, b1⟩; (have I1 := Lib.hid i1); (have F1 := Lib.hid f1); (have F2 := Lib.hid f2); (have B1 := Lib.hid (below_more B0.out (Nat.le_refl _) b1)); clear i1 f1 f2 b1 x1 x2 x3 y1 y2 y3)
  exact bodyPost_ret (v := .tuple #[.slice g q.length c, .bool is, .int .i64 (cmpZ La S es Lb T fs)]) (by simp [results, Tryz.results10, go_sem]) rfl ⟨q, is, g, c, rfl, I1.out, F1.out, F2.out, B1.out⟩
set_option maxRecDepth 100000 in
set_option maxHeartbeats 3200000 in
theorem included_any (La S Lb T : Int) (es fs : List E3) (v u : Value) (w : World) (hrd : EdgesRd w v es) (hru : EdgesRd w u fs) (hn : es.length ≤ 9223372036854775807) (hm : fs.length ≤ 9223372036854775807) (hT : TabD w) :
    Calls Tryz.prog 8 #[grV La S v, grV Lb T u] w (CmpOut (fun x y : Bool => x && !y) La S es Lb T fs w) := by
  have HC := Lib.hid (fun W h1 h2 h3 => compare_any _ _ La S Lb T es fs v u W fwx_of h1 h2 hn hm h3)
  have b0 := below_more (below1 w (.cells #[.int .i64 La, .int .i64 S, v] 24)) (Nat.le_refl _) (below1 _ (.cells #[.int .i64 Lb, .int .i64 T, u] 24))
  have B0 := Lib.hid b0
  have G0 := Lib.hid ((BoxG.new w La S v 24).keep (below1 _ (.cells #[.int .i64 Lb, .int .i64 T, u] 24)))
  have H0 := BoxG.new (w.alloc (.cells #[.int .i64 La, .int .i64 S, v] 24)) Lb T u 24
  rw [World.size_alloc] at H0
  have RA := Lib.hid (hrd.keep b0)
  have RB := Lib.hid (hru.keep b0)
  have HT := Lib.hid (hT.keep b0)
  obtain ⟨x1, x2, x3⟩ := id G0.out
  obtain ⟨y1, y2, y3⟩ := id H0
  clear hrd hru hT b0
  go_enter Tryz.func8, Tryz.ntmps8
  go_wp2_with (go_at_call 30; (with_reducible refine (HC.out _ RA.out RB.out HT.out).mono ?_); rintro e W1 ⟨q, is, g, c, rfl, i1, f1, f2, b1⟩; (have I1 := Lib.hid i1); (have F1 := Lib.hid f1); (have F2 := Lib.hid f2); (have B1 := Lib.hid (below_more B0.out (Nat.le_refl _) b1)); clear i1 f1 f2 b1 x1 x2 x3 y1 y2 y3)
  exact bodyPost_ret (v := .tuple #[.slice g q.length c, .bool is, .int .i64 (cmpZ La S es Lb T fs)]) (by simp [results, Tryz.results8, go_sem]) rfl ⟨q, is, g, c, rfl, I1.out, F1.out, F2.out, B1.out⟩
def Two (p : Nat) (La S Lb T : Int) (v u : Value) (W : World) : Prop := W.cell? ⟨p, 0, none⟩ = some (.int .i64 La) ∧ W.cell? ⟨p, 1, none⟩ = some (.int .i64 S) ∧ W.cell? ⟨p, 2, none⟩ = some v ∧ W.cell? ⟨p, 3, none⟩ = some (.int .i64 Lb) ∧ W.cell? ⟨p, 4, none⟩ = some (.int .i64 T) ∧ W.cell? ⟨p, 5, none⟩ = some u
theorem Two.keep {p : Nat} {La S Lb T : Int} {v u : Value} {W W' : World} (h : Two p La S Lb T v u W) (hb : Below W.heap.size W W') : Two p La S Lb T v u W' :=
  ⟨cell_keep h.1 hb, cell_keep h.2.1 hb, cell_keep h.2.2.1 hb, cell_keep h.2.2.2.1 hb, cell_keep h.2.2.2.2.1 hb, cell_keep h.2.2.2.2.2 hb⟩
set_option maxRecDepth 100000 in
set_option maxHeartbeats 3200000 in
theorem idx2_any (La S Lb T : Int) (a a' : Option Addr) (k k' c c' p : Nat) (w : World) (h : Two p La S Lb T (.slice a k c) (.slice a' k' c') w) :
    Calls Tryz.prog 34 #[.slice (some ⟨p, 0, none⟩) 2 2, .func (.func 15) #[] #[]] w fun e w' => e = .returned (.int .i64 (if great13B La S k = true then 0 else if great13B Lb T k' = true then 1 else -1)) ∧ Below w.heap.size w w' := by
  have hE : ∀ (args : Array Value) (w : World), (callFunc 15 args).run Tryz.prog w = .ok (.enter 15 args) w := fun args w => by
    simp [callFunc, go_sem, Tryz.func15, Tryz.f15]
  have H1 := Lib.hid (fun W => great13_any La S a k c W)
  have H2 := Lib.hid (fun W => great13_any Lb T a' k' c' W)
  have HT := Lib.hid h
  obtain ⟨x1, x2, x3, x4, x5, x6⟩ := id h
  clear h
  generalize great13B La S k = p1 at *
  generalize great13B Lb T k' = p2 at *
  cases p1
  · cases p2
    · go_enter Tryz.func34, Tryz.ntmps34
      go_wp2_with fail
      refine wp_loop_rounds 3 ?_
      rw [rounds_succ]
      go_wp2_with (go_at_call 15; (with_reducible refine (H1.out _).mono ?_); rintro e W1 ⟨rfl, b1⟩; (have T1 := Lib.hid (HT.out.keep b1)); (have B1 := Lib.hid b1); clear b1 x1 x2 x3 x4 x5 x6; (obtain ⟨x1, x2, x3, x4, x5, x6⟩ := id T1.out))
      rw [rounds_succ]
      go_wp2_with (go_at_call 15; (with_reducible refine (H2.out _).mono ?_); rintro e W2 ⟨rfl, b2⟩; (have B2 := Lib.hid (B1.out.trans (b2.mono B1.out.size))); clear b2 x1 x2 x3 x4 x5 x6)
      rw [rounds_succ]
      go_wp2_with fail
      go_ret
      exact ⟨rfl, B2.out⟩
    · go_enter Tryz.func34, Tryz.ntmps34
      go_wp2_with fail
      refine wp_loop_rounds 2 ?_
      rw [rounds_succ]
      go_wp2_with (go_at_call 15; (with_reducible refine (H1.out _).mono ?_); rintro e W1 ⟨rfl, b1⟩; (have T1 := Lib.hid (HT.out.keep b1)); (have B1 := Lib.hid b1); clear b1 x1 x2 x3 x4 x5 x6; (obtain ⟨x1, x2, x3, x4, x5, x6⟩ := id T1.out))
      rw [rounds_succ]
      go_wp2_with (go_at_call 15; (with_reducible refine (H2.out _).mono ?_); rintro e W2 ⟨rfl, b2⟩; (have B2 := Lib.hid (B1.out.trans (b2.mono B1.out.size))); clear b2 x1 x2 x3 x4 x5 x6)
      go_ret
      exact ⟨rfl, B2.out⟩
  · go_enter Tryz.func34, Tryz.ntmps34
    go_wp2_with fail
    refine wp_loop_rounds 1 ?_
    rw [rounds_succ]
    go_wp2_with (go_at_call 15; (with_reducible refine (H1.out _).mono ?_); rintro e W1 ⟨rfl, b1⟩; (have B1 := Lib.hid b1); clear b1 x1 x2 x3 x4 x5 x6)
    go_ret
    exact ⟨rfl, B1.out⟩
set_option maxRecDepth 100000 in
set_option maxHeartbeats 3200000 in
theorem great2_any (La S Lb T : Int) (a a' : Option Addr) (k k' c c' p : Nat) (w : World) (h : Two p La S Lb T (.slice a k c) (.slice a' k' c') w) :
    Calls Tryz.prog 4 #[.slice (some ⟨p, 0, none⟩) 2 2] w fun e w' => e = .returned (.bool (great13B La S k || great13B Lb T k')) ∧ Below w.heap.size w w' := by
  have HI := Lib.hid (idx2_any La S Lb T a a' k k' c c' p w h)
  have HC : Hid (Calls Tryz.prog 14 #[.slice (some ⟨p, 0, none⟩) 2 2, .func (.func 15) #[] #[]] w fun e w' => e = .returned (.bool (great13B La S k || great13B Lb T k')) ∧ Below w.heap.size w w') := Lib.hid (by
    clear h
    generalize great13B La S k = p1 at *
    generalize great13B Lb T k' = p2 at *
    cases p1 <;> cases p2
    all_goals
      go_enter Tryz.func14, Tryz.ntmps14
      go_wp2_with (go_at_call 34; (with_reducible refine HI.out.mono ?_); rintro e W1 ⟨rfl, b1⟩; (have B1 := Lib.hid b1); clear b1)
      go_ret
      exact ⟨rfl, B1.out⟩)
  clear h HI
  go_enter Tryz.func4, Tryz.ntmps4
  go_wp2_with (go_at_call 14; (with_reducible refine HC.out.mono ?_); rintro e W1 ⟨rfl, b1⟩; (have B1 := Lib.hid b1); clear b1)
  go_ret
  exact ⟨rfl, B1.out⟩
end Go.Proofs.YtiockphjnkehnaaGreatDoor

namespace Go.Proofs.YtiockphjnkehnaaGreatDoor
open Go.RowKit
set_option linter.unusedSimpArgs false
set_option linter.unusedVariables false

theorem cmpZ_zero {La S : Int} {es : List E3} {Lb T : Int} {fs : List E3} (h : cmpZ La S es Lb T fs = 0) : chkG La S es = 0 ∧ chkG Lb T fs = 0 ∧ (buildR La S es).1 = 0 ∧ (buildR Lb T fs).1 = 0 := by
  unfold cmpZ at h
  by_cases h1 : chkG La S es = 0 ∧ chkG Lb T fs = 0
  · rw [if_pos h1] at h
    by_cases h2 : (buildR La S es).1 = 0
    · rw [if_pos h2] at h
      exact ⟨h1.1, h1.2, h2, h⟩
    · rw [if_neg h2] at h
      exact absurd h h2
  · rw [if_neg h1] at h; cases h
theorem cmp_len {D : Bool → Bool → Bool} {La S : Int} {es : List E3} {Lb T : Int} {fs : List E3} {u : List Int} {is : Bool} (h1 : cmpZ La S es Lb T fs ≠ 0 → u = [] ∧ is = false)
    (h2 : cmpZ La S es Lb T fs = 0 → FW D (mT (buildR La S es).2.1.length (buildR La S es).2.2) (mT (buildR Lb T fs).2.1.length (buildR Lb T fs).2.2) (buildR La S es).2.1.length (buildR Lb T fs).2.1.length (max La Lb).toNat 0 0 u (!is)) : u.length ≤ 100000 := by
  by_cases hz : cmpZ La S es Lb T fs = 0
  · obtain ⟨g1, g2, g3, g4⟩ := cmpZ_zero hz
    obtain ⟨f1, -, f2⟩ := build_fit g1 g3
    obtain ⟨f3, -, f4⟩ := build_fit g2 g4
    have h3 := (h2 hz).lenH (fun x l _ => mT_le f2 x l) (fun x l _ => mT_le f4 x l) (Nat.zero_le _) (Nat.zero_le _)
    have h4 := Nat.mul_le_mul (show (buildR La S es).2.1.length + 1 ≤ 65 by omega) (show (buildR Lb T fs).2.1.length + 1 ≤ 65 by omega)
    omega
  · rw [(h1 hz).1]; simp
end Go.Proofs.YtiockphjnkehnaaGreatDoor

namespace Go.Proofs.YtiockphjnkehnaaGreatDoor
open Go.ChangeShapes Go.WideShapes Go.ChangeAt Go.RowKit

theorem ownNone : ownKnob Tryz.prog.godebug = none := by kernel_rfl
end Go.Proofs.YtiockphjnkehnaaGreatDoor
