/- What component.hasEdge, Of, Cyclic, Sinks and Irreducible return. Condition: the edges can be read. -/
import Derived.Test.YtfkplnmhlpabaaaKj
import Derived.Test.YtfkplnmhlpabaaaGen
import Derived.BigQuiet
namespace Go.Proofs.Ytfkplnmhlpabaaa
open Go.RowKit Go.Shelf
set_option linter.unusedSimpArgs false
set_option linter.unusedVariables false

set_option maxRecDepth 100000 in
set_option maxHeartbeats 3200000 in
theorem hasE1_any (e : E3) (p4 p5 : Nat) (u : Value) (c : List Int) (wi : Bool) (w : World) (h4 : w.cell? ⟨p4, 0, none⟩ = some u) (h5 : w.cell? ⟨p5, 0, none⟩ = some (.bool wi)) (hrd : IntsRd w u c) (hl : c.length ≤ 64) :
    Calls Try.prog 74 #[edgV e, .pointer (some ⟨p4, 0, none⟩), .pointer (some ⟨p5, 0, none⟩)] w fun en w' => en = .returned (.bool (decide (e.1 ∈ c) && (decide (e.2.2 ∈ c) == wi))) ∧ Below w.heap.size w w' := by
  have b1 := below1 w (.cells #[.int .i64 e.1, .int .i64 e.2.1, .int .i64 e.2.2] 46)
  obtain ⟨x1, x2, x3, -⟩ := Box3.new w e.1 e.2.1 e.2.2 46
  have h4' := cell_keep h4 b1
  have h5' := cell_keep h5 b1
  have HR := Lib.hid (hrd.keep b1)
  obtain ⟨a, cc, rfl⟩ := hrd.form
  have hc : ∀ x q, Calls Try.prog 32 #[.slice a c.length cc, .int .i64 x] ((w.alloc (.cells #[.int .i64 e.1, .int .i64 e.2.1, .int .i64 e.2.2] 46)).drewN q) fun en w' => en = .returned (.bool (decide (x ∈ c))) ∧ w' = (w.alloc (.cells #[.int .i64 e.1, .int .i64 e.2.1, .int .i64 e.2.2] 46)).drewN q :=
    fun x q => has_any c x (.slice a c.length cc) _ (HR.out.keep (below_drewM (Below.refl _ _) q)) (by omega)
  have HC1 := Lib.hid (hc e.1)
  have HC2 := Lib.hid (hc e.2.2)
  have HB := Lib.hid (fun q => below_drewM b1 q)
  clear h4 h5 hrd b1 hc HR
  obtain ⟨e1, e2, e3⟩ := e
  dsimp only at x1 x2 x3 HC1 HC2 HB ⊢
  obtain ⟨d1, hd1⟩ : ∃ d1, decide (e1 ∈ c) = d1 := ⟨_, rfl⟩
  obtain ⟨d2, hd2⟩ : ∃ d2, decide (e3 ∈ c) = d2 := ⟨_, rfl⟩
  rw [hd1] at HC1
  rw [hd2] at HC2
  rw [hd1, hd2]
  clear hd1 hd2
  cases d1 <;> cases d2 <;> cases wi
  all_goals
    go_enter Try.func74, Try.ntmps74
    go_wp2_with fail
    go_quiet (first
      | (go_at_call_of 32 e1; refine Calls.quiet_of_same (HC1.out _))
      | (go_at_call_of 32 e3; refine Calls.quiet_of_same (HC2.out _)))
    go_wp2_with fail
    go_ret
    exact ⟨rfl, HB.out _⟩
set_option maxRecDepth 100000 in
theorem indexE_nil (a : Option Addr) (c : Nat) (fv : Value) (w : World) : Calls Try.prog 71 #[.slice a 0 c, fv] w fun e w' => e = .returned (.int .i64 (-1)) ∧ w' = w := by
  go_enter Try.func71, Try.ntmps71
  go_wp2_with fail
  go_loopg [8] 0 (fun q s8 wx => s8 = .int .i64 0 ∧ wx = w)
  case atStart => exact ⟨rfl, rfl⟩
  case round =>
    obtain ⟨rfl, rfl⟩ := hrel
    go_wp2_with fail
    go_ret
    exact ⟨rfl, rfl⟩
/-- slices.ContainsFunc over edges. -/
theorem anyE_any (g : FuncId) (hE : ∀ args w, (callFunc g args).run Try.prog w = .ok (.enter g args) w) (lb : Array Value) (q : E3 → Bool) (es : List E3) (v : Value) (w : World) (hrd : EdgesRd w v es) (hn : es.length ≤ 9223372036854775807)
    (hp : ∀ W, Below w.heap.size w W → ∀ e, Calls Try.prog g (#[edgV e] ++ lb) W fun en w' => en = .returned (.bool (q e)) ∧ Below W.heap.size W w') :
    Calls Try.prog 44 #[v, .func (.func g) #[] lb] w fun e w' => e = .returned (.bool (es.any q)) ∧ Below w.heap.size w w' := by
  rcases Nat.eq_zero_or_pos es.length with h0 | h0
  · obtain rfl : es = [] := List.eq_nil_of_length_eq_zero h0
    obtain ⟨a, c, rfl⟩ := hrd.form
    have HI := Lib.hid (fun W => indexE_nil a c (.func (.func g) #[] lb) W)
    clear hrd hp
    go_enter Try.func44, Try.ntmps44
    go_wp2_with (go_at_call 71; (with_reducible refine (HI.out _).mono ?_); rintro e W1 ⟨rfl, rfl⟩)
    go_ret
    exact ⟨rfl, Below.refl _ _⟩
  · obtain ⟨b, o, c, rfl, k⟩ := hrd.cells h0
    have hb : b < w.heap.size := World.block_lt_of_cell? w ⟨b, o + 0 * 3 + 0, none⟩ (k 0 h0 0 (.int .i64 (es[0]!).1) rfl)
    have h := AnyQ.slices_ContainsFunc Try.containsFuncE 3 Try.isAgg46 Try.sizeOf46 encE (fun _ => rfl) q g lb hE b o es.length c es w
      (fun W x hb => (hp W hb x).mono fun e w' ⟨he, hw⟩ => ⟨he, hb.trans (hw.mono hb.size)⟩) (Nat.le_refl _) hn hb k
    rw [List.take_length] at h
    exact h
theorem Try.hasE1E (args : Array Value) (w : World) : (callFunc 74 args).run Try.prog w = .ok (.enter 74 args) w := by
  simp [callFunc, go_sem, Try.func74, Try.f74]
theorem Try.of1E (args : Array Value) (w : World) : (callFunc 48 args).run Try.prog w = .ok (.enter 48 args) w := by
  simp [callFunc, go_sem, Try.func48, Try.f48]
theorem Try.cyc1E (args : Array Value) (w : World) : (callFunc 51 args).run Try.prog w = .ok (.enter 51 args) w := by
  simp [callFunc, go_sem, Try.func51, Try.f51]
theorem Try.snk1E (args : Array Value) (w : World) : (callFunc 54 args).run Try.prog w = .ok (.enter 54 args) w := by
  simp [callFunc, go_sem, Try.func54, Try.f54]
set_option maxRecDepth 100000 in
theorem hasEdge_any (L S : Int) (es : List E3) (v u : Value) (c : List Int) (wi : Bool) (w : World) (hrd : EdgesRd w v es) (hn : es.length ≤ 1024) (hc : IntsRd w u c) (hl : c.length ≤ 64) :
    Calls Try.prog 52 #[grV L S v, u, .bool wi] w fun e w' => e = .returned (.bool (hasEd es c wi)) ∧ Below w.heap.size w w' := by
  obtain ⟨W1, hW1⟩ : ∃ W1, w.alloc (.cells #[.int .i64 L, .int .i64 S, v] 24) = W1 := ⟨_, rfl⟩
  obtain ⟨W2, hW2⟩ : ∃ W2, W1.alloc (.cells #[u] 34) = W2 := ⟨_, rfl⟩
  obtain ⟨W3, hW3⟩ : ∃ W3, W2.alloc (.cells #[.bool wi] 4) = W3 := ⟨_, rfl⟩
  have s1 : W1.heap.size = w.heap.size + 1 := by rw [← hW1, World.size_alloc]
  have s2 : W2.heap.size = w.heap.size + 1 + 1 := by rw [← hW2, World.size_alloc, s1]
  have b1 : Below w.heap.size w W1 := by rw [← hW1]; exact below1 _ _
  have b2 : Below W1.heap.size W1 W2 := by rw [← hW2]; exact below1 _ _
  have b3 : Below W2.heap.size W2 W3 := by rw [← hW3]; exact below1 _ _
  have g1 : BoxG W1 w.heap.size L S v := by rw [← hW1]; exact BoxG.new _ _ _ _ _
  have g3 := (g1.keep b2).keep b3
  have c2 : W2.cell? ⟨w.heap.size + 1, 0, none⟩ = some u := by rw [← hW2, ← s1]; simp [go_sem]
  have c23 := cell_keep c2 b3
  have c3 : W3.cell? ⟨w.heap.size + 1 + 1, 0, none⟩ = some (.bool wi) := by rw [← hW3, ← s2]; simp [go_sem]
  have B3 := Lib.hid (below_more (below_more b1 (Nat.le_refl _) b2) (Nat.le_refl _) b3)
  have HA := Lib.hid (anyE_any 74 Try.hasE1E #[.pointer (some ⟨w.heap.size + 1, 0, none⟩), .pointer (some ⟨w.heap.size + 1 + 1, 0, none⟩)] (fun e => decide (e.1 ∈ c) && (decide (e.2.2 ∈ c) == wi)) es v W3 (hrd.keep B3.out) (by omega)
    (fun W hb e => hasE1_any e (w.heap.size + 1) (w.heap.size + 1 + 1) u c wi W (cell_keep c23 hb) (cell_keep c3 hb) ((hc.keep B3.out).keep hb) hl))
  have HG3 := Lib.hid g3
  rw [← hW3, ← hW2, ← hW1] at HA B3 HG3
  obtain ⟨a, c', rfl⟩ := hrd.form
  obtain ⟨a2, c2', rfl⟩ := hc.form
  clear hW1 hW2 hW3 b1 b2 b3 g1 g3 c2 c23 c3 hrd hc s1 s2
  clear W3
  clear W2
  clear W1
  obtain ⟨x1, x2, x3⟩ := id HG3.out
  go_enter Try.func52, Try.ntmps52
  go_wp2_with (go_at_call 44; (with_reducible refine HA.out.mono ?_); rintro e W5 ⟨rfl, b5⟩; (have B5 := Lib.hid (below_more B3.out (Nat.le_refl _) b5)); clear b5)
  go_ret
  exact ⟨rfl, B5.out⟩
/-- The error of a graph. -/
def errC (L S : Int) (es : List E3) : Int := if chkG L S es = 0 then 0 else 1
/-- The components of a graph for which a test is true. -/
def partsR (L S : Int) (es : List E3) (q : List Int → Bool) : List (List Int) := if chkG L S es = 0 then (comps es S.toNat).filter q else []
theorem of1_any (X : World) (u : Value) : Calls Try.prog 48 #[u] X fun e X' => e = .returned (.bool true) ∧ Below X.heap.size X X' := by
  go_enter Try.func48, Try.ntmps48
  go_wp2_with fail
  go_ret
  exact ⟨rfl, Below.refl _ _⟩
theorem of_any (L S : Int) (es : List E3) (v : Value) (w : World) (hrd : EdgesRd w v es) (hn : es.length ≤ 9223372036854775807) :
    Calls Try.prog 14 #[grV L S v] w (RowsOut w (partsR L S es (fun _ => true)) (errC L S es)) := by
  have b1 := below1 w (.cells #[.int .i64 L, .int .i64 S, v] 24)
  have g1 := BoxG.new w L S v 24
  have hc := chosen_any L S es v 48 #[] (fun _ => true) (w.alloc (.cells #[.int .i64 L, .int .i64 S, v] 24)) (hrd.keep b1) hn Try.of1E (fun _ X u c _ _ _ => of1_any X u)
  obtain ⟨z, hz⟩ : ∃ z, errC L S es = z := ⟨_, rfl⟩
  have hz' : (if chkG L S es = 0 then (0 : Int) else 1) = z := hz
  rw [hz'] at hc
  rw [hz]
  have HC := Lib.hid hc
  have HB := Lib.hid b1
  obtain ⟨a, c, rfl⟩ := hrd.form
  obtain ⟨x1, x2, x3⟩ := id g1
  clear hc b1 g1 hrd hz hz'
  go_enter Try.func14, Try.ntmps14
  go_wp2_with (go_at_call 47; (with_reducible refine HC.out.mono ?_); rintro e W5 ⟨v5, rfl, r5, b5, q5⟩; (have R5 := Lib.hid r5); (have B5 := Lib.hid (below_more HB.out (Nat.le_refl _) b5)); clear r5 b5)
  exact bodyPost_ret (v := .tuple #[v5, .int .i64 z]) (by simp [results, Try.results14, go_sem]) rfl ⟨v5, rfl, R5.out, B5.out, q5⟩
theorem cyc1_any (L S : Int) (es : List E3) (v u : Value) (c : List Int) (p : Nat) (X : World) (hg : BoxG X p L S v) (hrd : EdgesRd X v es) (hn : es.length ≤ 1024) (hc : IntsRd X u c) (hl : c.length ≤ 64) :
    Calls Try.prog 51 #[u, .pointer (some ⟨p, 0, none⟩)] X fun e X' => e = .returned (.bool (hasEd es c true)) ∧ Below X.heap.size X X' := by
  have HH := Lib.hid (hasEdge_any L S es v u c true X hrd hn hc hl)
  obtain ⟨x1, x2, x3⟩ := id hg
  obtain ⟨a, c', rfl⟩ := hrd.form
  obtain ⟨a2, c2', rfl⟩ := hc.form
  clear hg hrd hc
  go_enter Try.func51, Try.ntmps51
  go_wp2_with (go_at_call 52; (with_reducible refine HH.out.mono ?_); rintro e W5 ⟨rfl, b5⟩; (have B5 := Lib.hid b5); clear b5)
  go_ret
  exact ⟨rfl, B5.out⟩
theorem cyclic_any (L S : Int) (es : List E3) (v : Value) (w : World) (hrd : EdgesRd w v es) (hn : es.length ≤ 9223372036854775807) :
    Calls Try.prog 16 #[grV L S v] w (RowsOut w (partsR L S es (fun c => hasEd es c true)) (errC L S es)) := by
  have b1 := below1 w (.cells #[.int .i64 L, .int .i64 S, v] 24)
  have g1 := BoxG.new w L S v 24
  have hc := chosen_any L S es v 51 #[.pointer (some ⟨w.heap.size, 0, none⟩)] (fun c => hasEd es c true) (w.alloc (.cells #[.int .i64 L, .int .i64 S, v] 24)) (hrd.keep b1) hn Try.cyc1E (fun h0 X u c hb hu hl => cyc1_any L S es v u c w.heap.size X (g1.keep hb) ((hrd.keep b1).keep hb) (chkG_zero h0).len hu hl)
  obtain ⟨z, hz⟩ : ∃ z, errC L S es = z := ⟨_, rfl⟩
  have hz' : (if chkG L S es = 0 then (0 : Int) else 1) = z := hz
  rw [hz'] at hc
  rw [hz]
  have HC := Lib.hid hc
  have HB := Lib.hid b1
  obtain ⟨a, c, rfl⟩ := hrd.form
  obtain ⟨x1, x2, x3⟩ := id g1
  clear hc b1 g1 hrd hz hz'
  go_enter Try.func16, Try.ntmps16
  go_wp2_with (go_at_call 47; (with_reducible refine HC.out.mono ?_); rintro e W5 ⟨v5, rfl, r5, b5, q5⟩; (have R5 := Lib.hid r5); (have B5 := Lib.hid (below_more HB.out (Nat.le_refl _) b5)); clear r5 b5)
  exact bodyPost_ret (v := .tuple #[v5, .int .i64 z]) (by simp [results, Try.results16, go_sem]) rfl ⟨v5, rfl, R5.out, B5.out, q5⟩
theorem snk1_any (L S : Int) (es : List E3) (v u : Value) (c : List Int) (p : Nat) (X : World) (hg : BoxG X p L S v) (hrd : EdgesRd X v es) (hn : es.length ≤ 1024) (hc : IntsRd X u c) (hl : c.length ≤ 64) :
    Calls Try.prog 54 #[u, .pointer (some ⟨p, 0, none⟩)] X fun e X' => e = .returned (.bool (!hasEd es c false)) ∧ Below X.heap.size X X' := by
  have HH := Lib.hid (hasEdge_any L S es v u c false X hrd hn hc hl)
  obtain ⟨x1, x2, x3⟩ := id hg
  obtain ⟨a, c', rfl⟩ := hrd.form
  obtain ⟨a2, c2', rfl⟩ := hc.form
  clear hg hrd hc
  go_enter Try.func54, Try.ntmps54
  go_wp2_with (go_at_call 52; (with_reducible refine HH.out.mono ?_); rintro e W5 ⟨rfl, b5⟩; (have B5 := Lib.hid b5); clear b5)
  go_ret
  exact ⟨rfl, B5.out⟩
theorem sinks_any (L S : Int) (es : List E3) (v : Value) (w : World) (hrd : EdgesRd w v es) (hn : es.length ≤ 9223372036854775807) :
    Calls Try.prog 18 #[grV L S v] w (RowsOut w (partsR L S es (fun c => !hasEd es c false)) (errC L S es)) := by
  have b1 := below1 w (.cells #[.int .i64 L, .int .i64 S, v] 24)
  have g1 := BoxG.new w L S v 24
  have hc := chosen_any L S es v 54 #[.pointer (some ⟨w.heap.size, 0, none⟩)] (fun c => !hasEd es c false) (w.alloc (.cells #[.int .i64 L, .int .i64 S, v] 24)) (hrd.keep b1) hn Try.snk1E (fun h0 X u c hb hu hl => snk1_any L S es v u c w.heap.size X (g1.keep hb) ((hrd.keep b1).keep hb) (chkG_zero h0).len hu hl)
  obtain ⟨z, hz⟩ : ∃ z, errC L S es = z := ⟨_, rfl⟩
  have hz' : (if chkG L S es = 0 then (0 : Int) else 1) = z := hz
  rw [hz'] at hc
  rw [hz]
  have HC := Lib.hid hc
  have HB := Lib.hid b1
  obtain ⟨a, c, rfl⟩ := hrd.form
  obtain ⟨x1, x2, x3⟩ := id g1
  clear hc b1 g1 hrd hz hz'
  go_enter Try.func18, Try.ntmps18
  go_wp2_with (go_at_call 47; (with_reducible refine HC.out.mono ?_); rintro e W5 ⟨v5, rfl, r5, b5, q5⟩; (have R5 := Lib.hid r5); (have B5 := Lib.hid (below_more HB.out (Nat.le_refl _) b5)); clear r5 b5)
  exact bodyPost_ret (v := .tuple #[v5, .int .i64 z]) (by simp [results, Try.results18, go_sem]) rfl ⟨v5, rfl, R5.out, B5.out, q5⟩
/-- Whether a graph is irreducible. -/
def irrR (L S : Int) (es : List E3) : Bool := if chkG L S es = 0 then irrB es S.toNat else false
set_option maxRecDepth 100000 in
set_option maxHeartbeats 3200000 in
theorem irreducible_any (L S : Int) (es : List E3) (v : Value) (w : World) (hrd : EdgesRd w v es) (hn : es.length ≤ 9223372036854775807) :
    Calls Try.prog 20 #[grV L S v] w fun e w' => e = .returned (.tuple #[.bool (irrR L S es), .int .i64 (errC L S es)]) ∧ Below w.heap.size w w' := by
  have b1 := below1 w (.cells #[.int .i64 L, .int .i64 S, v] 24)
  have G1 := Lib.hid (BoxG.new w L S v 24)
  have HC := Lib.hid (cyclic_any L S es v (w.alloc (.cells #[.int .i64 L, .int .i64 S, v] 24)) (hrd.keep b1) hn)
  have HB := Lib.hid b1
  obtain ⟨a, c, rfl⟩ := hrd.form
  obtain ⟨x1, x2, x3⟩ := id G1.out
  clear hrd b1
  by_cases h0 : chkG L S es = 0
  · have hs1 := (chkG_zero h0).s1
    have hs2 := (chkG_zero h0).s2
    have hok := (chkG_zero h0).ok
    obtain ⟨n, rfl⟩ : ∃ n : Nat, S = (n : Int) := ⟨S.toNat, by omega⟩
    have e0 : errC L (n : Int) es = 0 := by unfold errC; rw [if_pos h0]
    have e1 : partsR L (n : Int) es (fun c => hasEd es c true) = cycs es n := by unfold partsR; rw [if_pos h0]; rfl
    have e2 : irrR L (n : Int) es = irrB es n := by unfold irrR; rw [if_pos h0]; rfl
    rw [e0, e1] at HC
    rw [e0, e2]
    have hcl : (cycs es n).length ≤ n := Nat.le_trans (List.length_filter_le _ _) (comps_len es n)
    have HI := Lib.hid (show irrB es n = (decide ((cycs es n).length = 1) && decide (((cycs es n).headD []).length = n)) from rfl)
    clear e0 e1 e2 h0 hok
    obtain ⟨cy, hcy⟩ : ∃ cy, cycs es n = cy := ⟨_, rfl⟩
    rw [hcy] at HC hcl HI
    clear hcy
    by_cases hone : cy.length = 1
    · obtain ⟨c0, rfl⟩ := List.length_eq_one_iff.1 hone
      have HI2 := Lib.hid (show irrB es n = decide (c0.length = n) by rw [HI.out]; simp)
      clear hone HI hcl
      obtain ⟨m, hm⟩ : ∃ m, c0.length = m := ⟨_, rfl⟩
      rw [hm] at HI2
      have HM := Lib.hid hm
      clear hm
      obtain ⟨d, hd⟩ : ∃ d, decide (m = n) = d := ⟨_, rfl⟩
      rw [hd] at HI2
      rw [HI2.out]
      have dd : (((m : Int)) == (n : Int)) = d := by
        rw [← hd, Bool.eq_iff_iff]; simp; omega
      clear hd HI2
      cases d
      all_goals
        go_enter Try.func20, Try.ntmps20
        go_wp2_with (go_at_call 16; (with_reducible refine HC.out.mono ?_); rintro e W5 ⟨v5, rfl, r5, b5, q5⟩; (obtain ⟨b9, o9, c9, u9, rfl, k9, i9⟩ := r5.at (i := 0) (r := c0) rfl); (rw [Nat.add_zero] at k9); (obtain ⟨a8, c8, rfl⟩ := i9.form); (rw [HM.out] at k9); (have B5 := Lib.hid (below_more HB.out (Nat.le_refl _) b5)); (have G5 := Lib.hid (G1.out.keep b5)); clear b5 r5 q5 i9 x1 x2 x3; (obtain ⟨x1, x2, x3⟩ := id G5.out))
        go_quiet (fail)
        go_wp2_with fail
        exact bodyPost_ret (by simp [results, Try.results20, go_sem]) rfl ⟨rfl, below_drewM B5.out _⟩
    · have HI2 := Lib.hid (show irrB es n = false by rw [HI.out, decide_eq_false hone]; rfl)
      rw [HI2.out]
      obtain ⟨m, hm⟩ : ∃ m, cy.length = m := ⟨_, rfl⟩
      have dd : ((m : Int) == 1) = false := by rw [beq_eq_false_iff_ne]; omega
      have HM := Lib.hid hm
      clear hone HI hcl hm HI2
      go_enter Try.func20, Try.ntmps20
      go_wp2_with (go_at_call 16; (with_reducible refine HC.out.mono ?_); rintro e W5 ⟨v5, rfl, r5, b5, q5⟩; (obtain ⟨a9, c9, rfl⟩ := r5.form); (rw [HM.out]); (have B5 := Lib.hid (below_more HB.out (Nat.le_refl _) b5)); (have G5 := Lib.hid (G1.out.keep b5)); clear b5 r5 q5 x1 x2 x3; (obtain ⟨x1, x2, x3⟩ := id G5.out))
      go_quiet (fail)
      go_wp2_with fail
      exact bodyPost_ret (by simp [results, Try.results20, go_sem]) rfl ⟨rfl, below_drewM B5.out _⟩
  · have e0 : errC L S es = 1 := by unfold errC; rw [if_neg h0]
    have e2 : irrR L S es = false := by unfold irrR; rw [if_neg h0]
    rw [e0] at HC
    rw [e0, e2]
    clear e0 e2 h0
    go_enter Try.func20, Try.ntmps20
    go_wp2_with (go_at_call 16; (with_reducible refine HC.out.mono ?_); rintro e W5 ⟨v5, rfl, r5, b5, q5⟩; (obtain ⟨a9, c9, rfl⟩ := r5.form); (have B5 := Lib.hid (below_more HB.out (Nat.le_refl _) b5)); clear b5 r5 q5 x1 x2 x3)
    exact bodyPost_ret (v := .tuple #[.bool false, .int .i64 1]) (by simp [results, Try.results20, go_sem]) rfl ⟨rfl, B5.out⟩
end Go.Proofs.Ytfkplnmhlpabaaa
