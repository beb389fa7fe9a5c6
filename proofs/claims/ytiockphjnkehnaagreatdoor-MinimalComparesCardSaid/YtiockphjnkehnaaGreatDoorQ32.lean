/- What component.hasEdge, Of, Cyclic, Sinks and Irreducible return. Condition: the edges can be read. What minimal.compare returns, for a function value of which firstWord's answer is known. Conditions: the edges can be read; the library's table reads as its text lays it. What component.Reach, divisor, measure, Period and Classes return. Condition: the edges can be read. -/
import Derived.Test.YtiockphjnkehnaaGreatDoorQ31
import Derived.Test.YtiockphjnkehnaaGreatDoorQ24
import Derived.BigQuiet
import Derived.Test.YtiockphjnkehnaaGreatDoorQ29
import Derived.Test.YtiockphjnkehnaaGreatDoorQ27
import Derived.Test.YtiockphjnkehnaaGreatDoorQ14
import Derived.Test.YtiockphjnkehnaaGreatDoorQ17

namespace Go.Proofs.YtiockphjnkehnaaGreatDoor
open Go.RowKit Go.Shelf
set_option linter.unusedSimpArgs false
set_option linter.unusedVariables false

set_option maxRecDepth 100000 in
set_option maxHeartbeats 3200000 in
theorem hasE1_any (e : E3) (p4 p5 : Nat) (u : Value) (c : List Int) (wi : Bool) (w : World) (h4 : w.cell? ⟨p4, 0, none⟩ = some u) (h5 : w.cell? ⟨p5, 0, none⟩ = some (.bool wi)) (hrd : IntsRd w u c) (hl : c.length ≤ 64) :
    Calls Tryz.prog 82 #[edgV e, .pointer (some ⟨p4, 0, none⟩), .pointer (some ⟨p5, 0, none⟩)] w fun en w' => en = .returned (.bool (decide (e.1 ∈ c) && (decide (e.2.2 ∈ c) == wi))) ∧ Below w.heap.size w w' := by
  have b1 := below1 w (.cells #[.int .i64 e.1, .int .i64 e.2.1, .int .i64 e.2.2] 39)
  obtain ⟨x1, x2, x3, -⟩ := Box3.new w e.1 e.2.1 e.2.2 39
  have h4' := cell_keep h4 b1
  have h5' := cell_keep h5 b1
  have HR := Lib.hid (hrd.keep b1)
  obtain ⟨a, cc, rfl⟩ := hrd.form
  have hc : ∀ x q, Calls Tryz.prog 83 #[.slice a c.length cc, .int .i64 x] ((w.alloc (.cells #[.int .i64 e.1, .int .i64 e.2.1, .int .i64 e.2.2] 39)).drewN q) fun en w' => en = .returned (.bool (decide (x ∈ c))) ∧ w' = (w.alloc (.cells #[.int .i64 e.1, .int .i64 e.2.1, .int .i64 e.2.2] 39)).drewN q :=
    fun x q => has_any c x (.slice a c.length cc) _ (HR.out.keep (below_drewM (Below.refl _ _) q)) (by omega)
  have HC1 := Lib.hid (hc e.1)
  have HC2 := Lib.hid (hc e.2.2)
  have HB := Lib.hid (fun q => below_drewM b1 q)
  clear h4 h5 hrd b1 hc HR
  obtain ⟨e1, e2, e3⟩ := e
  dsimp only at x1 x2 x3 HC1 HC2 HB ⊢
  obtain ⟨d1, hd1⟩ : ∃ d1, decide (e1 ∈ c) = d1 := ⟨_, rfl⟩
  obtain ⟨d2, hd2⟩ : ∃ d2, decide (e3 ∈ c) = d2 := ⟨_, rfl⟩
  rw [hd1] at HC1
  rw [hd2] at HC2
  rw [hd1, hd2]
  clear hd1 hd2
  cases d1 <;> cases d2 <;> cases wi
  all_goals
    go_enter Tryz.func82, Tryz.ntmps82
    go_wp2_with fail
    go_quiet (first
      | (go_at_call_of 83 e1; refine Calls.quiet_of_same (HC1.out _))
      | (go_at_call_of 83 e3; refine Calls.quiet_of_same (HC2.out _)))
    go_wp2_with fail
    go_ret
    exact ⟨rfl, HB.out _⟩
set_option maxRecDepth 100000 in
theorem indexE_nil (a : Option Addr) (c : Nat) (fv : Value) (w : World) : Calls Tryz.prog 103 #[.slice a 0 c, fv] w fun e w' => e = .returned (.int .i64 (-1)) ∧ w' = w := by
  go_enter Tryz.func103, Tryz.ntmps103
  go_wp2_with fail
  go_loopg [8] 0 (fun q s8 wx => s8 = .int .i64 0 ∧ wx = w)
  case atStart => exact ⟨rfl, rfl⟩
  case round =>
    obtain ⟨rfl, rfl⟩ := hrel
    go_wp2_with fail
    go_ret
    exact ⟨rfl, rfl⟩
theorem anyE_any (g : FuncId) (hE : ∀ args w, (callFunc g args).run Tryz.prog w = .ok (.enter g args) w) (lb : Array Value) (q : E3 → Bool) (es : List E3) (v : Value) (w : World) (hrd : EdgesRd w v es) (hn : es.length ≤ 9223372036854775807)
    (hp : ∀ W, Below w.heap.size w W → ∀ e, Calls Tryz.prog g (#[edgV e] ++ lb) W fun en w' => en = .returned (.bool (q e)) ∧ Below W.heap.size W w') :
    Calls Tryz.prog 81 #[v, .func (.func g) #[] lb] w fun e w' => e = .returned (.bool (es.any q)) ∧ Below w.heap.size w w' := by
  rcases Nat.eq_zero_or_pos es.length with h0 | h0
  · obtain rfl : es = [] := List.eq_nil_of_length_eq_zero h0
    obtain ⟨a, c, rfl⟩ := hrd.form
    have HI := Lib.hid (fun W => indexE_nil a c (.func (.func g) #[] lb) W)
    clear hrd hp
    go_enter Tryz.func81, Tryz.ntmps81
    go_wp2_with (go_at_call 103; (with_reducible refine (HI.out _).mono ?_); rintro e W1 ⟨rfl, rfl⟩)
    go_ret
    exact ⟨rfl, Below.refl _ _⟩
  · obtain ⟨b, o, c, rfl, k⟩ := hrd.cells h0
    have hb : b < w.heap.size := World.block_lt_of_cell? w ⟨b, o + 0 * 3 + 0, none⟩ (k 0 h0 0 (.int .i64 (es[0]!).1) rfl)
    have h := AnyQ.slices_ContainsFunc Tryz.containsFuncE 3 Tryz.isAgg39 Tryz.sizeOf39 encE (fun _ => rfl) q g lb hE b o es.length c es w
      (fun W x hb => (hp W hb x).mono fun e w' ⟨he, hw⟩ => ⟨he, hb.trans (hw.mono hb.size)⟩) (Nat.le_refl _) hn hb k
    rw [List.take_length] at h
    exact h
theorem Tryz.hasE1E (args : Array Value) (w : World) : (callFunc 82 args).run Tryz.prog w = .ok (.enter 82 args) w := by
  simp [callFunc, go_sem, Tryz.func82, Tryz.f82]
theorem Tryz.cyc1E (args : Array Value) (w : World) : (callFunc 72 args).run Tryz.prog w = .ok (.enter 72 args) w := by
  simp [callFunc, go_sem, Tryz.func72, Tryz.f72]
theorem Tryz.snk1E (args : Array Value) (w : World) : (callFunc 46 args).run Tryz.prog w = .ok (.enter 46 args) w := by
  simp [callFunc, go_sem, Tryz.func46, Tryz.f46]
set_option maxRecDepth 100000 in
theorem hasEdge_any (L S : Int) (es : List E3) (v u : Value) (c : List Int) (wi : Bool) (w : World) (hrd : EdgesRd w v es) (hn : es.length ≤ 1024) (hc : IntsRd w u c) (hl : c.length ≤ 64) :
    Calls Tryz.prog 47 #[grV L S v, u, .bool wi] w fun e w' => e = .returned (.bool (hasEd es c wi)) ∧ Below w.heap.size w w' := by
  obtain ⟨W1, hW1⟩ : ∃ W1, w.alloc (.cells #[.int .i64 L, .int .i64 S, v] 24) = W1 := ⟨_, rfl⟩
  obtain ⟨W2, hW2⟩ : ∃ W2, W1.alloc (.cells #[u] 30) = W2 := ⟨_, rfl⟩
  obtain ⟨W3, hW3⟩ : ∃ W3, W2.alloc (.cells #[.bool wi] 4) = W3 := ⟨_, rfl⟩
  have s1 : W1.heap.size = w.heap.size + 1 := by rw [← hW1, World.size_alloc]
  have s2 : W2.heap.size = w.heap.size + 1 + 1 := by rw [← hW2, World.size_alloc, s1]
  have b1 : Below w.heap.size w W1 := by rw [← hW1]; exact below1 _ _
  have b2 : Below W1.heap.size W1 W2 := by rw [← hW2]; exact below1 _ _
  have b3 : Below W2.heap.size W2 W3 := by rw [← hW3]; exact below1 _ _
  have g1 : BoxG W1 w.heap.size L S v := by rw [← hW1]; exact BoxG.new _ _ _ _ _
  have g3 := (g1.keep b2).keep b3
  have c2 : W2.cell? ⟨w.heap.size + 1, 0, none⟩ = some u := by rw [← hW2, ← s1]; simp [go_sem]
  have c23 := cell_keep c2 b3
  have c3 : W3.cell? ⟨w.heap.size + 1 + 1, 0, none⟩ = some (.bool wi) := by rw [← hW3, ← s2]; simp [go_sem]
  have B3 := Lib.hid (below_more (below_more b1 (Nat.le_refl _) b2) (Nat.le_refl _) b3)
  have HA := Lib.hid (anyE_any 82 Tryz.hasE1E #[.pointer (some ⟨w.heap.size + 1, 0, none⟩), .pointer (some ⟨w.heap.size + 1 + 1, 0, none⟩)] (fun e => decide (e.1 ∈ c) && (decide (e.2.2 ∈ c) == wi)) es v W3 (hrd.keep B3.out) (by omega)
    (fun W hb e => hasE1_any e (w.heap.size + 1) (w.heap.size + 1 + 1) u c wi W (cell_keep c23 hb) (cell_keep c3 hb) ((hc.keep B3.out).keep hb) hl))
  have HG3 := Lib.hid g3
  rw [← hW3, ← hW2, ← hW1] at HA B3 HG3
  obtain ⟨a, c', rfl⟩ := hrd.form
  obtain ⟨a2, c2', rfl⟩ := hc.form
  clear hW1 hW2 hW3 b1 b2 b3 g1 g3 c2 c23 c3 hrd hc s1 s2
  clear W3
  clear W2
  clear W1
  obtain ⟨x1, x2, x3⟩ := id HG3.out
  go_enter Tryz.func47, Tryz.ntmps47
  go_wp2_with (go_at_call 81; (with_reducible refine HA.out.mono ?_); rintro e W5 ⟨rfl, b5⟩; (have B5 := Lib.hid (below_more B3.out (Nat.le_refl _) b5)); clear b5)
  go_ret
  exact ⟨rfl, B5.out⟩
def errC (L S : Int) (es : List E3) : Int := if chkG L S es = 0 then 0 else 1
def partsR (L S : Int) (es : List E3) (q : List Int → Bool) : List (List Int) := if chkG L S es = 0 then (comps es S.toNat).filter q else []
theorem cyc1_any (L S : Int) (es : List E3) (v u : Value) (c : List Int) (p : Nat) (X : World) (hg : BoxG X p L S v) (hrd : EdgesRd X v es) (hn : es.length ≤ 1024) (hc : IntsRd X u c) (hl : c.length ≤ 64) :
    Calls Tryz.prog 72 #[u, .pointer (some ⟨p, 0, none⟩)] X fun e X' => e = .returned (.bool (hasEd es c true)) ∧ Below X.heap.size X X' := by
  have HH := Lib.hid (hasEdge_any L S es v u c true X hrd hn hc hl)
  obtain ⟨x1, x2, x3⟩ := id hg
  obtain ⟨a, c', rfl⟩ := hrd.form
  obtain ⟨a2, c2', rfl⟩ := hc.form
  clear hg hrd hc
  go_enter Tryz.func72, Tryz.ntmps72
  go_wp2_with (go_at_call 47; (with_reducible refine HH.out.mono ?_); rintro e W5 ⟨rfl, b5⟩; (have B5 := Lib.hid b5); clear b5)
  go_ret
  exact ⟨rfl, B5.out⟩
theorem cyclic_any (L S : Int) (es : List E3) (v : Value) (w : World) (hrd : EdgesRd w v es) (hn : es.length ≤ 9223372036854775807) :
    Calls Tryz.prog 41 #[grV L S v] w (RowsOut w (partsR L S es (fun c => hasEd es c true)) (errC L S es)) := by
  have b1 := below1 w (.cells #[.int .i64 L, .int .i64 S, v] 24)
  have g1 := BoxG.new w L S v 24
  have hc := chosen_any L S es v 72 #[.pointer (some ⟨w.heap.size, 0, none⟩)] (fun c => hasEd es c true) (w.alloc (.cells #[.int .i64 L, .int .i64 S, v] 24)) (hrd.keep b1) hn Tryz.cyc1E (fun h0 X u c hb hu hl => cyc1_any L S es v u c w.heap.size X (g1.keep hb) ((hrd.keep b1).keep hb) (chkG_zero h0).len hu hl)
  obtain ⟨z, hz⟩ : ∃ z, errC L S es = z := ⟨_, rfl⟩
  have hz' : (if chkG L S es = 0 then (0 : Int) else 1) = z := hz
  rw [hz'] at hc
  rw [hz]
  have HC := Lib.hid hc
  have HB := Lib.hid b1
  obtain ⟨a, c, rfl⟩ := hrd.form
  obtain ⟨x1, x2, x3⟩ := id g1
  clear hc b1 g1 hrd hz hz'
  go_enter Tryz.func41, Tryz.ntmps41
  go_wp2_with (go_at_call 45; (with_reducible refine HC.out.mono ?_); rintro e W5 ⟨v5, rfl, r5, b5, q5⟩; (have R5 := Lib.hid r5); (have B5 := Lib.hid (below_more HB.out (Nat.le_refl _) b5)); clear r5 b5)
  exact bodyPost_ret (v := .tuple #[v5, .int .i64 z]) (by simp [results, Tryz.results41, go_sem]) rfl ⟨v5, rfl, R5.out, B5.out, q5⟩
theorem snk1_any (L S : Int) (es : List E3) (v u : Value) (c : List Int) (p : Nat) (X : World) (hg : BoxG X p L S v) (hrd : EdgesRd X v es) (hn : es.length ≤ 1024) (hc : IntsRd X u c) (hl : c.length ≤ 64) :
    Calls Tryz.prog 46 #[u, .pointer (some ⟨p, 0, none⟩)] X fun e X' => e = .returned (.bool (!hasEd es c false)) ∧ Below X.heap.size X X' := by
  have HH := Lib.hid (hasEdge_any L S es v u c false X hrd hn hc hl)
  obtain ⟨x1, x2, x3⟩ := id hg
  obtain ⟨a, c', rfl⟩ := hrd.form
  obtain ⟨a2, c2', rfl⟩ := hc.form
  clear hg hrd hc
  go_enter Tryz.func46, Tryz.ntmps46
  go_wp2_with (go_at_call 47; (with_reducible refine HH.out.mono ?_); rintro e W5 ⟨rfl, b5⟩; (have B5 := Lib.hid b5); clear b5)
  go_ret
  exact ⟨rfl, B5.out⟩
theorem sinks_any (L S : Int) (es : List E3) (v : Value) (w : World) (hrd : EdgesRd w v es) (hn : es.length ≤ 9223372036854775807) :
    Calls Tryz.prog 20 #[grV L S v] w (RowsOut w (partsR L S es (fun c => !hasEd es c false)) (errC L S es)) := by
  have b1 := below1 w (.cells #[.int .i64 L, .int .i64 S, v] 24)
  have g1 := BoxG.new w L S v 24
  have hc := chosen_any L S es v 46 #[.pointer (some ⟨w.heap.size, 0, none⟩)] (fun c => !hasEd es c false) (w.alloc (.cells #[.int .i64 L, .int .i64 S, v] 24)) (hrd.keep b1) hn Tryz.snk1E (fun h0 X u c hb hu hl => snk1_any L S es v u c w.heap.size X (g1.keep hb) ((hrd.keep b1).keep hb) (chkG_zero h0).len hu hl)
  obtain ⟨z, hz⟩ : ∃ z, errC L S es = z := ⟨_, rfl⟩
  have hz' : (if chkG L S es = 0 then (0 : Int) else 1) = z := hz
  rw [hz'] at hc
  rw [hz]
  have HC := Lib.hid hc
  have HB := Lib.hid b1
  obtain ⟨a, c, rfl⟩ := hrd.form
  obtain ⟨x1, x2, x3⟩ := id g1
  clear hc b1 g1 hrd hz hz'
  go_enter Tryz.func20, Tryz.ntmps20
  go_wp2_with (go_at_call 45; (with_reducible refine HC.out.mono ?_); rintro e W5 ⟨v5, rfl, r5, b5, q5⟩; (have R5 := Lib.hid r5); (have B5 := Lib.hid (below_more HB.out (Nat.le_refl _) b5)); clear r5 b5)
  exact bodyPost_ret (v := .tuple #[v5, .int .i64 z]) (by simp [results, Tryz.results20, go_sem]) rfl ⟨v5, rfl, R5.out, B5.out, q5⟩
def irrR (L S : Int) (es : List E3) : Bool := if chkG L S es = 0 then irrB es S.toNat else false
set_option maxRecDepth 100000 in
set_option maxHeartbeats 3200000 in
theorem irreducible_any (L S : Int) (es : List E3) (v : Value) (w : World) (hrd : EdgesRd w v es) (hn : es.length ≤ 9223372036854775807) :
    Calls Tryz.prog 18 #[grV L S v] w fun e w' => e = .returned (.tuple #[.bool (irrR L S es), .int .i64 (errC L S es)]) ∧ Below w.heap.size w w' := by
  have b1 := below1 w (.cells #[.int .i64 L, .int .i64 S, v] 24)
  have G1 := Lib.hid (BoxG.new w L S v 24)
  have HC := Lib.hid (cyclic_any L S es v (w.alloc (.cells #[.int .i64 L, .int .i64 S, v] 24)) (hrd.keep b1) hn)
  have HB := Lib.hid b1
  obtain ⟨a, c, rfl⟩ := hrd.form
  obtain ⟨x1, x2, x3⟩ := id G1.out
  clear hrd b1
  by_cases h0 : chkG L S es = 0
  · have hs1 := (chkG_zero h0).s1
    have hs2 := (chkG_zero h0).s2
    have hok := (chkG_zero h0).ok
    obtain ⟨n, rfl⟩ : ∃ n : Nat, S = (n : Int) := ⟨S.toNat, by omega⟩
    have e0 : errC L (n : Int) es = 0 := by unfold errC; rw [if_pos h0]
    have e1 : partsR L (n : Int) es (fun c => hasEd es c true) = cycs es n := by unfold partsR; rw [if_pos h0]; rfl
    have e2 : irrR L (n : Int) es = irrB es n := by unfold irrR; rw [if_pos h0]; rfl
    rw [e0, e1] at HC
    rw [e0, e2]
    have hcl : (cycs es n).length ≤ n := Nat.le_trans (List.length_filter_le _ _) (comps_len es n)
    have HI := Lib.hid (show irrB es n = (decide ((cycs es n).length = 1) && decide (((cycs es n).headD []).length = n)) from rfl)
    clear e0 e1 e2 h0 hok
    obtain ⟨cy, hcy⟩ : ∃ cy, cycs es n = cy := ⟨_, rfl⟩
    rw [hcy] at HC hcl HI
    clear hcy
    by_cases hone : cy.length = 1
    · obtain ⟨c0, rfl⟩ := List.length_eq_one_iff.1 hone
      have HI2 := Lib.hid (show irrB es n = decide (c0.length = n) by rw [HI.out]; simp)
      clear hone HI hcl
      obtain ⟨m, hm⟩ : ∃ m, c0.length = m := ⟨_, rfl⟩
      rw [hm] at HI2
      have HM := Lib.hid hm
      clear hm
      obtain ⟨d, hd⟩ : ∃ d, decide (m = n) = d := ⟨_, rfl⟩
      rw [hd] at HI2
      rw [HI2.out]
      have dd : (((m : Int)) == (n : Int)) = d := by
        rw [← hd, Bool.eq_iff_iff]; simp; omega
      clear hd HI2
      cases d
      all_goals
        go_enter Tryz.func18, Tryz.ntmps18
        go_wp2_with (go_at_call 41; (with_reducible refine HC.out.mono ?_); rintro e W5 ⟨v5, rfl, r5, b5, q5⟩; (obtain ⟨b9, o9, c9, u9, rfl, k9, i9⟩ := r5.at (i := 0) (r := c0) rfl); (rw [Nat.add_zero] at k9); (obtain ⟨a8, c8, rfl⟩ := i9.form); (rw [HM.out] at k9); (have B5 := Lib.hid (below_more HB.out (Nat.le_refl _) b5)); (have G5 := Lib.hid (G1.out.keep b5)); clear b5 r5 q5 i9 x1 x2 x3; (obtain ⟨x1, x2, x3⟩ := id G5.out))
        go_quiet (fail)
        go_wp2_with fail
        exact bodyPost_ret (by simp [results, Tryz.results18, go_sem]) rfl ⟨rfl, below_drewM B5.out _⟩
    · have HI2 := Lib.hid (show irrB es n = false by rw [HI.out, decide_eq_false hone]; rfl)
      rw [HI2.out]
      obtain ⟨m, hm⟩ : ∃ m, cy.length = m := ⟨_, rfl⟩
      have dd : ((m : Int) == 1) = false := by rw [beq_eq_false_iff_ne]; omega
      have HM := Lib.hid hm
      clear hone HI hcl hm HI2
      go_enter Tryz.func18, Tryz.ntmps18
      go_wp2_with (go_at_call 41; (with_reducible refine HC.out.mono ?_); rintro e W5 ⟨v5, rfl, r5, b5, q5⟩; (obtain ⟨a9, c9, rfl⟩ := r5.form); (rw [HM.out]); (have B5 := Lib.hid (below_more HB.out (Nat.le_refl _) b5)); (have G5 := Lib.hid (G1.out.keep b5)); clear b5 r5 q5 x1 x2 x3; (obtain ⟨x1, x2, x3⟩ := id G5.out))
      go_quiet (fail)
      go_wp2_with fail
      exact bodyPost_ret (by simp [results, Tryz.results18, go_sem]) rfl ⟨rfl, below_drewM B5.out _⟩
  · have e0 : errC L S es = 1 := by unfold errC; rw [if_neg h0]
    have e2 : irrR L S es = false := by unfold irrR; rw [if_neg h0]
    rw [e0] at HC
    rw [e0, e2]
    clear e0 e2 h0
    go_enter Tryz.func18, Tryz.ntmps18
    go_wp2_with (go_at_call 41; (with_reducible refine HC.out.mono ?_); rintro e W5 ⟨v5, rfl, r5, b5, q5⟩; (obtain ⟨a9, c9, rfl⟩ := r5.form); (have B5 := Lib.hid (below_more HB.out (Nat.le_refl _) b5)); clear b5 r5 q5 x1 x2 x3)
    exact bodyPost_ret (v := .tuple #[.bool false, .int .i64 1]) (by simp [results, Tryz.results18, go_sem]) rfl ⟨rfl, B5.out⟩
end Go.Proofs.YtiockphjnkehnaaGreatDoor

namespace Go.Proofs.YtiockphjnkehnaaGreatDoor
open Go.RowKit
set_option linter.unusedSimpArgs false
set_option linter.unusedVariables false

theorem build_fit {La S : Int} {es : List E3} (hz : chkG La S es = 0) (h : (buildR La S es).1 = 0) : (buildR La S es).2.1.length ≤ 64 ∧ (buildR La S es).2.2.length ≤ 1024 ∧ (∀ e ∈ (buildR La S es).2.2, okE La (((buildR La S es).2.1.length : Nat) : Int) e = true) := by
  have hvg := chkG_zero hz
  by_cases hS : S = 0
  · have e : buildR La S es = (0, ([], [])) := by unfold buildR; rw [if_pos hz, if_pos hS]
    rw [e]
    exact ⟨by simp, by simp, fun e he => by cases he⟩
  · obtain ⟨L, rfl⟩ : ∃ L : Nat, La = (L : Int) := ⟨La.toNat, by have := hvg.l1; omega⟩
    obtain ⟨n, rfl⟩ : ∃ n : Nat, S = (n : Int) := ⟨S.toNat, by have := hvg.s1; omega⟩
    have e : buildR (L : Int) (n : Int) es = (bErr (builtN es L (fullN n)), bSets (builtN es L (fullN n))) := by
      unfold buildR
      rw [if_pos hz, if_neg hS, Int.toNat_natCast, Int.toNat_natCast]
    rw [e] at h ⊢
    cases hb : builtN es L (fullN n) with
    | none => rw [hb] at h; cases h
    | some b =>
      have hres := built_res (fullN_ne (by omega)) (fullN_lt (by have := hvg.s2; omega)) hb
      have hv := hres.vg (by have := hvg.l1; omega) (by have := hvg.l2; omega)
      exact ⟨hres.n, hres.m, hv.ok⟩
theorem buildR_err {La S : Int} {es : List E3} (hz : chkG La S es = 0) : (buildR La S es).1 = 0 ∨ (buildR La S es).1 = 4 := by
  unfold buildR
  rw [if_pos hz]
  split
  · exact .inl rfl
  · cases builtN es La.toNat (fullN S.toNat)
    · exact .inr rfl
    · exact .inl rfl
def cmpZ (La S : Int) (es : List E3) (Lb T : Int) (fs : List E3) : Int := if chkG La S es = 0 ∧ chkG Lb T fs = 0 then (if (buildR La S es).1 = 0 then (buildR Lb T fs).1 else (buildR La S es).1) else 1
def CmpOut (D : Bool → Bool → Bool) (La S : Int) (es : List E3) (Lb T : Int) (fs : List E3) (w : World) (e : Ending) (w' : World) : Prop :=
  ∃ u is g c, e = .returned (.tuple #[.slice g u.length c, .bool is, .int .i64 (cmpZ La S es Lb T fs)]) ∧ IntsRd w' (.slice g u.length c) u ∧ (cmpZ La S es Lb T fs ≠ 0 → u = [] ∧ is = false) ∧
    (cmpZ La S es Lb T fs = 0 → FW D (mT (buildR La S es).2.1.length (buildR La S es).2.2) (mT (buildR Lb T fs).2.1.length (buildR Lb T fs).2.2) (buildR La S es).2.1.length (buildR Lb T fs).2.1.length (max La Lb).toNat 0 0 u (!is)) ∧ Below w.heap.size w w'
theorem intsRd_nilM (W : World) : IntsRd W (.slice none 0 0) [] := ⟨none, 0, rfl, fun i x h => by simp at h⟩
def FWX (D : Bool → Bool → Bool) (fv : Value) : Prop := ∀ (a b : Nat → Nat → Nat) (na nb Lab M M' : Nat) (W : World), RowsRd W (.slice (some ⟨M, 0, none⟩) (na + 1) (na + 1)) (mRows a na Lab) → RowsRd W (.slice (some ⟨M', 0, none⟩) (nb + 1) (nb + 1)) (mRows b nb Lab) →
  (∀ x l, x ≤ na → a x l ≤ na) → (∀ x l, x ≤ nb → b x l ≤ nb) → (∀ l, a na l = na) → (∀ l, b nb l = nb) → na ≤ 64 → nb ≤ 64 → Lab ≤ 256 →
  Calls Tryz.prog 40 #[.slice (some ⟨M, 0, none⟩) (na + 1) (na + 1), .slice (some ⟨M', 0, none⟩) (nb + 1) (nb + 1), .agg #[.int .i64 0, .int .i64 0], fv] W (FWOut D a b na nb Lab 0 0 W)
def GB2 (pg pm : Nat) (La n k Lb : Int) (v vm : Value) (W : World) : Prop := W.cell? ⟨pg, 0, none⟩ = some (.int .i64 La) ∧ W.cell? ⟨pg, 1, none⟩ = some (.int .i64 n) ∧ W.cell? ⟨pg, 2, none⟩ = some v ∧
  W.cell? ⟨pm, 0, none⟩ = some (.int .i64 Lb) ∧ W.cell? ⟨pm, 1, none⟩ = some (.int .i64 k) ∧ W.cell? ⟨pm, 2, none⟩ = some vm
theorem GB2.keep {pg pm : Nat} {La n k Lb : Int} {v vm : Value} {W W' : World} (h : GB2 pg pm La n k Lb v vm W) (hb : Below W.heap.size W W') : GB2 pg pm La n k Lb v vm W' :=
  ⟨cell_keep h.1 hb, cell_keep h.2.1 hb, cell_keep h.2.2.1 hb, cell_keep h.2.2.2.1 hb, cell_keep h.2.2.2.2.1 hb, cell_keep h.2.2.2.2.2 hb⟩
theorem okE_mono {La Lb n : Int} {e : E3} (h : okE La n e = true) (hl : La ≤ Lb) : okE Lb n e = true := by
  rw [okE_iff] at h ⊢
  omega
set_option maxRecDepth 100000 in
set_option maxHeartbeats 12800000 in
theorem compare_any (D : Bool → Bool → Bool) (fv : Value) (La S Lb T : Int) (es fs : List E3) (v u : Value) (w : World) (HFW : FWX D fv) (hrd : EdgesRd w v es) (hru : EdgesRd w u fs) (hn : es.length ≤ 9223372036854775807) (hm : fs.length ≤ 9223372036854775807) (hT : TabD w) :
    Calls Tryz.prog 30 #[grV La S v, grV Lb T u, fv] w (CmpOut D La S es Lb T fs w) := by
  have hmx : Tryz.prog.follows .mixedOrders = true := by kernel_rfl
  have HC1 := Lib.hid (fun W h => gcheck_any La S es v W h hn)
  have HC2 := Lib.hid (fun W h => gcheck_any Lb T fs u W h hm)
  have b0 := below_more (below1 w (.cells #[.int .i64 La, .int .i64 S, v] 24)) (Nat.le_refl _) (below1 _ (.cells #[.int .i64 Lb, .int .i64 T, u] 24))
  have B0 := Lib.hid b0
  have G0 := Lib.hid ((BoxG.new w La S v 24).keep (below1 _ (.cells #[.int .i64 Lb, .int .i64 T, u] 24)))
  have H0 := BoxG.new (w.alloc (.cells #[.int .i64 La, .int .i64 S, v] 24)) Lb T u 24
  rw [World.size_alloc] at H0
  have H0 := Lib.hid H0
  have RA := Lib.hid hrd
  have RB := Lib.hid hru
  have HT := Lib.hid hT
  have HBA := Lib.hid (fun W h h2 => Build_any La S es v W h hn h2)
  have HBB := Lib.hid (fun W h h2 => Build_any Lb T fs u W h hm h2)
  obtain ⟨x1, x2, x3⟩ := id G0.out
  obtain ⟨y1, y2, y3⟩ := id H0.out
  by_cases h1 : chkG La S es = 0
  · rw [h1] at HC1
    by_cases h2 : chkG Lb T fs = 0
    · rw [h2] at HC2
      have hcz : cmpZ La S es Lb T fs = if (buildR La S es).1 = 0 then (buildR Lb T fs).1 else (buildR La S es).1 := by unfold cmpZ; rw [if_pos (And.intro h1 h2)]
      by_cases h3 : (buildR La S es).1 = 0
      · rw [if_pos h3] at hcz
        have f1 := build_fit h1 h3
        obtain ⟨ba, hba⟩ : ∃ ba, (buildR La S es).2 = ba := ⟨_, rfl⟩
        obtain ⟨ea, hea⟩ : ∃ ea, ba.2 = ea := ⟨_, rfl⟩
        obtain ⟨na, hna⟩ : ∃ na, ba.1.length = na := ⟨_, rfl⟩
        rw [hba, hea, hna] at f1
        have HB1 : Hid (∀ W, EdgesRd W v es → TabD W → Calls Tryz.prog 19 #[grV La S v] W fun e W' => ∃ ah ch lv, e = .returned (.tuple #[grV La (na : Int) (.slice ah ea.length ch), lv, .int .i64 0]) ∧ EdgesRd W' (.slice ah ea.length ch) ea ∧ Below W.heap.size W W') := Lib.hid (fun W g1 g2 => by
          refine (HBA.out W g1 g2).mono ?_
          rw [h3, hba]
          rintro e W' ⟨hv, lv, he, g3, g4, g5⟩
          rw [hea] at g3
          obtain ⟨ah, ch, rfl⟩ := g3.slice
          rw [hna] at he
          exact ⟨ah, ch, lv, he, g3.rd, g5⟩)
        by_cases h4 : (buildR Lb T fs).1 = 0
        · rw [h4] at hcz
          have f2 := build_fit h2 h4
          obtain ⟨bb, hbb⟩ : ∃ bb, (buildR Lb T fs).2 = bb := ⟨_, rfl⟩
          obtain ⟨eb, heb⟩ : ∃ eb, bb.2 = eb := ⟨_, rfl⟩
          obtain ⟨nb, hnb⟩ : ∃ nb, bb.1.length = nb := ⟨_, rfl⟩
          rw [hbb, heb, hnb] at f2
          have HB2 : Hid (∀ W, EdgesRd W u fs → TabD W → Calls Tryz.prog 19 #[grV Lb T u] W fun e W' => ∃ ah ch lv, e = .returned (.tuple #[grV Lb (nb : Int) (.slice ah eb.length ch), lv, .int .i64 0]) ∧ EdgesRd W' (.slice ah eb.length ch) eb ∧ Below W.heap.size W W') := Lib.hid (fun W g1 g2 => by
            refine (HBB.out W g1 g2).mono ?_
            rw [h4, hbb]
            rintro e W' ⟨hv, lv, he, g3, g4, g5⟩
            rw [heb] at g3
            obtain ⟨ah, ch, rfl⟩ := g3.slice
            rw [hnb] at he
            exact ⟨ah, ch, lv, he, g3.rd, g5⟩)
          have hva := chkG_zero h1
          have hvb := chkG_zero h2
          obtain ⟨la, rfl⟩ : ∃ la : Nat, La = (la : Int) := ⟨La.toNat, by have := hva.l1; omega⟩
          obtain ⟨lb, rfl⟩ : ∃ lb : Nat, Lb = (lb : Int) := ⟨Lb.toNat, by have := hvb.l1; omega⟩
          obtain ⟨lm, hlm⟩ : ∃ lm : Nat, max la lb = lm := ⟨_, rfl⟩
          have hlm1 : la ≤ lm ∧ lb ≤ lm ∧ lm ≤ 256 := by have := hva.l2; have := hvb.l2; omega
          have hfin : (max (la : Int) (lb : Int)).toNat = lm := by omega
          have hmm := fun (W : World) (ts : Array TypeId) (t : TypeId) => run_maxH (P := Tryz.prog) .i64 la lb lm hlm W ts t
          have HMA := Lib.hid (fun W av ac (h : EdgesRd W (.slice av ea.length ac) ea) => machineOf_any (la : Int) lm na ea (.slice av ea.length ac) W h (fun e he => okE_mono (f1.2.2 e he) (by omega)) f1.1 hlm1.2.2 (by omega))
          have HMB := Lib.hid (fun W av ac (h : EdgesRd W (.slice av eb.length ac) eb) => machineOf_any (lb : Int) lm nb eb (.slice av eb.length ac) W h (fun e he => okE_mono (f2.2.2 e he) (by omega)) f2.1 hlm1.2.2 (by omega))
          have HFI := Lib.hid (fun M M' W h h' => HFW (mT na ea) (mT nb eb) na nb lm M M' W h h' (fun x l _ => mT_le f1.2.2 x l) (fun x l _ => mT_le f2.2.2 x l) (fun l => mT_none f1.2.2 l) (fun l => mT_none f2.2.2 l) f1.1 f2.1 hlm1.2.2)
          have HE := Lib.hid hcz
          have HQ : Hid (∀ q is, FW D (mT na ea) (mT nb eb) na nb lm 0 0 q is → FW D (mT (buildR (la : Int) S es).2.1.length (buildR (la : Int) S es).2.2) (mT (buildR (lb : Int) T fs).2.1.length (buildR (lb : Int) T fs).2.2) (buildR (la : Int) S es).2.1.length (buildR (lb : Int) T fs).2.1.length (max (la : Int) (lb : Int)).toNat 0 0 q (!(!is))) := Lib.hid (fun q is h => by
            rw [hba, hbb, hea, heb, hna, hnb, hfin, Bool.not_not]
            exact h)
          clear hcz h3 h4 h1 h2 hrd hru hT b0 HBA HBB hba hea hna hbb heb hnb f1 f2 hva hvb hlm hlm1 hfin
          go_enter Tryz.func30, Tryz.ntmps30
          go_upto_region 3 with (first
            | (go_at_call 42; (with_reducible refine (HC1.out _ (RA.out.keep B0.out)).mono ?_); rintro e W1 ⟨rfl, b1⟩; (have B1 := Lib.hid (below_more B0.out (Nat.le_refl _) b1)); (have G1 := Lib.hid (G0.out.keep b1)); (have H1 := Lib.hid (H0.out.keep b1)); clear b1 x1 x2 x3 y1 y2 y3; (obtain ⟨y1, y2, y3⟩ := id H1.out))
            | (go_at_call 42; (with_reducible refine (HC2.out _ (RB.out.keep B1.out)).mono ?_); rintro e W2 ⟨rfl, b2⟩; (have B2 := Lib.hid (B1.out.trans (b2.mono B1.out.size))); (have G2 := Lib.hid (G1.out.keep b2)); (have H2 := Lib.hid (H1.out.keep b2)); clear b2 y1 y2 y3; (obtain ⟨x1, x2, x3⟩ := id G2.out)))
          go_upto_region 4 with (go_at_call 19; (with_reducible refine (HB1.out _ (RA.out.keep B2.out) (HT.out.keep B2.out)).mono ?_); rintro e W3 ⟨ah, ch, lv, rfl, e3, b3⟩)
          have k3 := below_more b3 (Nat.le_refl _) (below1 W3 (.cells #[.int .i64 (la : Int), .int .i64 (na : Int), .slice ah ea.length ch] 24))
          have E3' := Lib.hid (e3.keep (below1 W3 (.cells #[.int .i64 (la : Int), .int .i64 (na : Int), .slice ah ea.length ch] 24)))
          have GA3 := Lib.hid (BoxG.new W3 (la : Int) (na : Int) (.slice ah ea.length ch) 24)
          have B3 := Lib.hid (B2.out.trans (k3.mono B2.out.size))
          have H3 := Lib.hid (H2.out.keep k3)
          have G3 := Lib.hid (G2.out.keep k3)
          obtain ⟨P7, hP7⟩ : ∃ P7, W3.heap.size = P7 := ⟨_, rfl⟩
          rw [hP7] at GA3 ⊢
          clear b3 e3 k3 x1 x2 x3 G2 H2 hP7
          generalize (W3.alloc (.cells #[.int .i64 (la : Int), .int .i64 (na : Int), .slice ah ea.length ch] 24)) = X at *
          obtain ⟨y1, y2, y3⟩ := id H3.out
          go_upto_region 7 with (go_at_call 19; (with_reducible refine (HB2.out _ (RB.out.keep B3.out) (HT.out.keep B3.out)).mono ?_); rintro e W4 ⟨ai, ci, lv2, rfl, e4, b4⟩)
          have k4 := below_more b4 (Nat.le_refl _) (below1 W4 (.cells #[.int .i64 (lb : Int), .int .i64 (nb : Int), .slice ai eb.length ci] 24))
          have E4' := Lib.hid (e4.keep (below1 W4 (.cells #[.int .i64 (lb : Int), .int .i64 (nb : Int), .slice ai eb.length ci] 24)))
          have GB4 := Lib.hid (BoxG.new W4 (lb : Int) (nb : Int) (.slice ai eb.length ci) 24)
          have B4 := Lib.hid (B3.out.trans (k4.mono B3.out.size))
          have H4 := Lib.hid (H3.out.keep k4)
          have G4 := Lib.hid (G3.out.keep k4)
          have GA4 := Lib.hid (GA3.out.keep k4)
          have EA4 := Lib.hid (E3'.out.keep k4)
          obtain ⟨P8, hP8⟩ : ∃ P8, W4.heap.size = P8 := ⟨_, rfl⟩
          rw [hP8] at GB4 ⊢
          clear b4 e4 k4 y1 y2 y3 G3 H3 E3' GA3 hP8
          generalize (W4.alloc (.cells #[.int .i64 (lb : Int), .int .i64 (nb : Int), .slice ai eb.length ci] 24)) = Y at *
          obtain ⟨x1, x2, x3⟩ := id G4.out
          obtain ⟨y1, y2, y3⟩ := id H4.out
          go_upto_region 10 with fail
          have HGB := Lib.hid (show GB2 P7 P8 (la : Int) (na : Int) (nb : Int) (lb : Int) (.slice ah ea.length ch) (.slice ai eb.length ci) Y from ⟨GA4.out.1, GA4.out.2.1, GA4.out.2.2, GB4.out.1, GB4.out.2.1, GB4.out.2.2⟩)
          clear x1 x2 x3 y1 y2 y3 G4 H4 GA4 GB4 HC1 HC2 HB1 HB2 RA RB HT hmm
          have G4K : Hid (∀ W, Below Y.heap.size Y W → GB2 P7 P8 (la : Int) (na : Int) (nb : Int) (lb : Int) (.slice ah ea.length ch) (.slice ai eb.length ci) W) := Lib.hid (fun W hb => HGB.out.keep hb)
          have BD := Lib.hid (Below.refl Y.heap.size Y).drew
          have C1 := Lib.hid (HMA.out Y.drew _ _ (EA4.out.keep BD.out))
          have C2 : Hid (∀ W, Below Y.heap.size Y W → _) := Lib.hid (fun W hb => HMB.out W _ _ (E4'.out.keep hb))
          go_region_held3 (fun W => W.cell? ⟨P7, 0, none⟩ = some (.int .i64 (la : Int)) ∧ W.cell? ⟨P7, 1, none⟩ = some (.int .i64 (na : Int)) ∧ W.cell? ⟨P7, 2, none⟩ = some (.slice ah ea.length ch) ∧ W.cell? ⟨P8, 0, none⟩ = some (.int .i64 (lb : Int)) ∧ W.cell? ⟨P8, 1, none⟩ = some (.int .i64 (nb : Int)) ∧ W.cell? ⟨P8, 2, none⟩ = some (.slice ai eb.length ci))
            (first | exact G4K.out _ BD.out | exact G4K.out _ K3.out | exact G4K.out _ K2.out | exact G4K.out _ K1.out)
            (first
              | (go_at_call 39; (with_reducible refine C1.out.mono ?_); rintro e0 Y1 ⟨M1, rfl, r1, q1⟩; (have K1 := Lib.hid (below_more BD.out (Nat.le_refl _) q1)); (have R1 := Lib.hid r1); clear q1 r1 C1)
              | (go_at_call 39; (with_reducible refine (C2.out Y1 K1.out).mono ?_); rintro e0 Y2 ⟨M2, rfl, r2, q2⟩; (have K2 := Lib.hid (below_more K1.out (Nat.le_refl _) q2)); (have R2 := Lib.hid r2); (have R1b := Lib.hid (R1.out.keep q2)); clear q2 r2 C2)
              | (go_at_call 40; (with_reducible refine (HFI.out _ _ _ R1b.out R2.out).mono ?_); rintro e0 Y3 ⟨g9, c9, u9, is9, rfl, i9, fw9, q3⟩; (have K3 := Lib.hid (below_more K2.out (Nat.le_refl _) q3)); (have I9 := Lib.hid i9); (have FW9 := Lib.hid fw9); clear q3 i9 fw9))
          all_goals
            go_wp2_with fail
            exact bodyPost_ret (v := .tuple #[.slice g9 u9.length c9, .bool (!is9), .int .i64 0]) (by simp [results, Tryz.results30, go_sem]) rfl ⟨u9, !is9, g9, c9, by rw [HE.out], I9.out, fun h => absurd HE.out h, fun _ => HQ.out _ _ FW9.out, (B4.out.trans (K3.out.mono B4.out.size))⟩
        · obtain ⟨z, hz⟩ : ∃ z, (buildR Lb T fs).1 = z := ⟨_, rfl⟩
          rw [hz] at hcz h4
          have HB2 : Hid (∀ W, EdgesRd W u fs → TabD W → Calls Tryz.prog 19 #[grV Lb T u] W fun e W' => ∃ gv lv, e = .returned (.tuple #[gv, lv, .int .i64 z]) ∧ (∃ l1 l2 ah k ch, gv = grV l1 l2 (.slice ah k ch)) ∧ Below W.heap.size W W') := Lib.hid (fun W g1 g2 => by
            refine (HBB.out W g1 g2).mono ?_
            rw [hz]
            rintro e W' ⟨hv, lv, he, g3, g4, g5⟩
            obtain ⟨ah, ch, rfl⟩ := g3.slice
            exact ⟨_, lv, he, ⟨_, _, _, _, _, rfl⟩, g5⟩)
          have d1 : (z != 0) = true := by simpa using h4
          have HE := Lib.hid hcz
          have HZ := Lib.hid h4
          clear hcz h3 h4 hz h1 h2 hrd hru hT b0 HBA HBB hba hea hna f1
          go_enter Tryz.func30, Tryz.ntmps30
          go_upto_region 3 with (first
            | (go_at_call 42; (with_reducible refine (HC1.out _ (RA.out.keep B0.out)).mono ?_); rintro e W1 ⟨rfl, b1⟩; (have B1 := Lib.hid (below_more B0.out (Nat.le_refl _) b1)); (have G1 := Lib.hid (G0.out.keep b1)); (have H1 := Lib.hid (H0.out.keep b1)); clear b1 x1 x2 x3 y1 y2 y3; (obtain ⟨y1, y2, y3⟩ := id H1.out))
            | (go_at_call 42; (with_reducible refine (HC2.out _ (RB.out.keep B1.out)).mono ?_); rintro e W2 ⟨rfl, b2⟩; (have B2 := Lib.hid (B1.out.trans (b2.mono B1.out.size))); (have G2 := Lib.hid (G1.out.keep b2)); (have H2 := Lib.hid (H1.out.keep b2)); clear b2 y1 y2 y3; (obtain ⟨x1, x2, x3⟩ := id G2.out)))
          go_upto_region 4 with (go_at_call 19; (with_reducible refine (HB1.out _ (RA.out.keep B2.out) (HT.out.keep B2.out)).mono ?_); rintro e W3 ⟨ah, ch, lv, rfl, e3, b3⟩)
          have k3 := below_more b3 (Nat.le_refl _) (below1 W3 (.cells #[.int .i64 La, .int .i64 (na : Int), .slice ah ea.length ch] 24))
          have B3 := Lib.hid (B2.out.trans (k3.mono B2.out.size))
          have H3 := Lib.hid (H2.out.keep k3)
          clear b3 e3 k3 x1 x2 x3 G2 H2
          generalize (W3.alloc (.cells #[.int .i64 La, .int .i64 (na : Int), .slice ah ea.length ch] 24)) = X at *
          obtain ⟨y1, y2, y3⟩ := id H3.out
          go_wp2_with (go_at_call 19; (with_reducible refine (HB2.out _ (RB.out.keep B3.out) (HT.out.keep B3.out)).mono ?_); rintro e W4 ⟨gv, lv2, rfl, ⟨l1, l2, a9, m9, c9, rfl⟩, b4⟩; (have B4 := Lib.hid (B3.out.trans ((below_more b4 (Nat.le_refl _) (below1 W4 (.cells #[.int .i64 l1, .int .i64 l2, .slice a9 m9 c9] 24))).mono B3.out.size))); clear b4 y1 y2 y3)
          exact bodyPost_ret (v := .tuple #[.slice none 0 0, .bool false, .int .i64 z]) (by simp [results, Tryz.results30, go_sem]) rfl ⟨[], false, none, 0, by rw [HE.out]; rfl, intsRd_nilM _, fun _ => ⟨rfl, rfl⟩, fun h => absurd (HE.out.symm.trans h) HZ.out, B4.out⟩
      · obtain ⟨z, hz⟩ : ∃ z, (buildR La S es).1 = z := ⟨_, rfl⟩
        rw [if_neg h3, hz] at hcz
        rw [hz] at h3
        have HB1 : Hid (∀ W, EdgesRd W v es → TabD W → Calls Tryz.prog 19 #[grV La S v] W fun e W' => ∃ gv lv, e = .returned (.tuple #[gv, lv, .int .i64 z]) ∧ (∃ l1 l2 ah k ch, gv = grV l1 l2 (.slice ah k ch)) ∧ Below W.heap.size W W') := Lib.hid (fun W g1 g2 => by
          refine (HBA.out W g1 g2).mono ?_
          rw [hz]
          rintro e W' ⟨hv, lv, he, g3, g4, g5⟩
          obtain ⟨ah, ch, rfl⟩ := g3.slice
          exact ⟨_, lv, he, ⟨_, _, _, _, _, rfl⟩, g5⟩)
        have d1 : (z != 0) = true := by simpa using h3
        have HE := Lib.hid hcz
        have HZ := Lib.hid h3
        clear hcz h3 hz h1 h2 hrd hru hT b0 HBA HBB
        go_enter Tryz.func30, Tryz.ntmps30
        go_upto_region 3 with (first
          | (go_at_call 42; (with_reducible refine (HC1.out _ (RA.out.keep B0.out)).mono ?_); rintro e W1 ⟨rfl, b1⟩; (have B1 := Lib.hid (below_more B0.out (Nat.le_refl _) b1)); (have G1 := Lib.hid (G0.out.keep b1)); (have H1 := Lib.hid (H0.out.keep b1)); clear b1 x1 x2 x3 y1 y2 y3; (obtain ⟨y1, y2, y3⟩ := id H1.out))
          | (go_at_call 42; (with_reducible refine (HC2.out _ (RB.out.keep B1.out)).mono ?_); rintro e W2 ⟨rfl, b2⟩; (have B2 := Lib.hid (B1.out.trans (b2.mono B1.out.size))); (have G2 := Lib.hid (G1.out.keep b2)); (have H2 := Lib.hid (H1.out.keep b2)); clear b2 y1 y2 y3; (obtain ⟨x1, x2, x3⟩ := id G2.out)))
        go_wp2_with (go_at_call 19; (with_reducible refine (HB1.out _ (RA.out.keep B2.out) (HT.out.keep B2.out)).mono ?_); rintro e W4 ⟨gv, lv2, rfl, ⟨l1, l2, a9, m9, c9, rfl⟩, b4⟩; (have B4 := Lib.hid (B2.out.trans ((below_more b4 (Nat.le_refl _) (below1 W4 (.cells #[.int .i64 l1, .int .i64 l2, .slice a9 m9 c9] 24))).mono B2.out.size))); clear b4 x1 x2 x3)
        exact bodyPost_ret (v := .tuple #[.slice none 0 0, .bool false, .int .i64 z]) (by simp [results, Tryz.results30, go_sem]) rfl ⟨[], false, none, 0, by rw [HE.out]; rfl, intsRd_nilM _, fun _ => ⟨rfl, rfl⟩, fun h => absurd (HE.out.symm.trans h) HZ.out, B4.out⟩
    · obtain ⟨z, hz⟩ : ∃ z, chkG Lb T fs = z := ⟨_, rfl⟩
      have HE := Lib.hid (show cmpZ La S es Lb T fs = 1 by unfold cmpZ; rw [if_neg (fun h => h2 h.2)])
      rw [hz] at h2
      simp only [hz] at HC2
      have d1 : (z != 0) = true := by simpa using h2
      have HZ := Lib.hid (show (1 : Int) ≠ 0 by decide)
      clear h1 h2 hz hrd hru hT b0 HBA HBB
      go_enter Tryz.func30, Tryz.ntmps30
      go_wp2_with (first
        | (go_at_call 42; (with_reducible refine (HC1.out _ (RA.out.keep B0.out)).mono ?_); rintro e W1 ⟨rfl, b1⟩; (have B1 := Lib.hid (below_more B0.out (Nat.le_refl _) b1)); (have G1 := Lib.hid (G0.out.keep b1)); (have H1 := Lib.hid (H0.out.keep b1)); clear b1 x1 x2 x3 y1 y2 y3; (obtain ⟨y1, y2, y3⟩ := id H1.out))
        | (go_at_call 42; (with_reducible refine (HC2.out _ (RB.out.keep B1.out)).mono ?_); rintro e W2 ⟨rfl, b2⟩; (have B2 := Lib.hid (B1.out.trans (b2.mono B1.out.size))); (have G2 := Lib.hid (G1.out.keep b2)); (have H2 := Lib.hid (H1.out.keep b2)); clear b2 y1 y2 y3; (obtain ⟨x1, x2, x3⟩ := id G2.out)))
      exact bodyPost_ret (v := .tuple #[.slice none 0 0, .bool false, .int .i64 1]) (by simp [results, Tryz.results30, go_sem]) rfl ⟨[], false, none, 0, by rw [HE.out]; rfl, intsRd_nilM _, fun _ => ⟨rfl, rfl⟩, fun h => absurd (HE.out.symm.trans h) HZ.out, B2.out⟩
  · obtain ⟨z, hz⟩ : ∃ z, chkG La S es = z := ⟨_, rfl⟩
    have HE := Lib.hid (show cmpZ La S es Lb T fs = 1 by unfold cmpZ; rw [if_neg (fun h => h1 h.1)])
    rw [hz] at h1
    simp only [hz] at HC1
    have d1 : (z != 0) = true := by simpa using h1
    have HZ := Lib.hid (show (1 : Int) ≠ 0 by decide)
    clear h1 hz hrd hru hT b0 HBA HBB
    go_enter Tryz.func30, Tryz.ntmps30
    go_wp2_with (go_at_call 42; (with_reducible refine (HC1.out _ (RA.out.keep B0.out)).mono ?_); rintro e W1 ⟨rfl, b1⟩; (have B1 := Lib.hid (below_more B0.out (Nat.le_refl _) b1)); (have G1 := Lib.hid (G0.out.keep b1)); (have H1 := Lib.hid (H0.out.keep b1)); clear b1 x1 x2 x3 y1 y2 y3; (obtain ⟨y1, y2, y3⟩ := id H1.out))
    exact bodyPost_ret (v := .tuple #[.slice none 0 0, .bool false, .int .i64 1]) (by simp [results, Tryz.results30, go_sem]) rfl ⟨[], false, none, 0, by rw [HE.out]; rfl, intsRd_nilM _, fun _ => ⟨rfl, rfl⟩, fun h => absurd (HE.out.symm.trans h) HZ.out, B1.out⟩
end Go.Proofs.YtiockphjnkehnaaGreatDoor

namespace Go.Proofs.YtiockphjnkehnaaGreatDoor
open Go.RowKit Go.Shelf
set_option linter.unusedSimpArgs false
set_option linter.unusedVariables false

theorem IRow.turn {W W' : World} {g n : Nat} {f : Nat → Int} (h : IRow W g n f) {o : Obj} {row : Option Nat} (hg : (W.alloc o).grownBy W' row) (hr : ∀ k, row = some k → g < k) : IRow W' g n f :=
  World.rowIs.of_block h ((hg.block g (by have := h.lt; rw [World.size_alloc]; omega) (fun e => by have := hr g e.symm; omega)).trans (Below.heap_alloc _ _ _ h.lt))
end Go.Proofs.YtiockphjnkehnaaGreatDoor
