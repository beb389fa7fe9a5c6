/- What the law's searches return: slices.ContainsFunc with its two functions, slices.Contains of integers. No condition but that all can be read. -/
import Derived.Test.YtbinpmlhdiaehaaDoorVu
import Derived.Test.YtbinpmlhdiaehaaDoorVv
namespace Go.Proofs.YtbinpmlhdiaehaaDoor
open Go.RowKit
set_option linter.unusedSimpArgs false
set_option linter.unusedVariables false

theorem Tryd.from1E (args : Array Value) (w : World) : (callFunc 34 args).run Tryd.prog w = .ok (.enter 34 args) w := by
  simp [callFunc, go_sem, Tryd.func34, Tryd.f34]
theorem Tryd.to2E (args : Array Value) (w : World) : (callFunc 35 args).run Tryd.prog w = .ok (.enter 35 args) w := by
  simp [callFunc, go_sem, Tryd.func35, Tryd.f35]
theorem from_any (e : E3) (p : Nat) (t : Int) (w : World) (hp : w.cell? ⟨p, 0, none⟩ = some (.int .i64 t)) : Calls Tryd.prog 34 #[edgV e, .pointer (some ⟨p, 0, none⟩)] w fun en w' => en = .returned (.bool (e.1 == t)) ∧ Below w.heap.size w w' := by
  have h1 := cell_keep hp (below1 w (.cells #[.int .i64 e.1, .int .i64 e.2.1, .int .i64 e.2.2] 43))
  clear hp
  go_enter Tryd.func34, Tryd.ntmps34
  go_wp2_with fail
  go_ret
  exact ⟨rfl, below1 w _⟩
theorem to_any (e : E3) (p : Nat) (t : Int) (w : World) (hp : w.cell? ⟨p, 0, none⟩ = some (.int .i64 t)) : Calls Tryd.prog 35 #[edgV e, .pointer (some ⟨p, 0, none⟩)] w fun en w' => en = .returned (.bool (e.2.2 == t)) ∧ Below w.heap.size w w' := by
  have h1 := cell_keep hp (below1 w (.cells #[.int .i64 e.1, .int .i64 e.2.1, .int .i64 e.2.2] 43))
  clear hp
  go_enter Tryd.func35, Tryd.ntmps35
  go_wp2_with fail
  go_ret
  exact ⟨rfl, below1 w _⟩
theorem cfun_any (g : FuncId) (hE : ∀ args w, (callFunc g args).run Tryd.prog w = .ok (.enter g args) w) (q : E3 → Bool) (p : Nat) (es : List E3) (v : Value) (w : World) (hrd : EdgesRd w v es) (hn : es.length ≤ 9223372036854775807)
    (hp : ∀ W, Below w.heap.size w W → ∀ e, Calls Tryd.prog g #[edgV e, .pointer (some ⟨p, 0, none⟩)] W fun en w' => en = .returned (.bool (q e)) ∧ Below W.heap.size W w') (hx : ∃ e ∈ es, q e = true) :
    Calls Tryd.prog 33 #[v, .func (.func g) #[] #[.pointer (some ⟨p, 0, none⟩)]] w fun e w' => e = .returned (.bool true) ∧ Below w.heap.size w w' := by
  obtain ⟨e0, he0, hq0⟩ := hx
  have h0 : 0 < es.length := List.length_pos_of_mem he0
  obtain ⟨b, o, c, rfl, k⟩ := hrd.cells h0
  have hb : b < w.heap.size := World.block_lt_of_cell? w ⟨b, o + 0 * 3 + 0, none⟩ (k 0 h0 0 (.int .i64 (es[0]!).1) rfl)
  have h := AnyQ.slices_ContainsFunc Tryd.containsFuncE 3 Tryd.isAgg43 Tryd.sizeOf43 encE (fun _ => rfl) q g #[.pointer (some ⟨p, 0, none⟩)] hE b o es.length c es w
    (fun W x hb => (hp W hb x).mono fun e w' ⟨he, hw⟩ => ⟨he, hb.trans (hw.mono hb.size)⟩) (Nat.le_refl _) hn hb k
  rw [List.take_length, show es.any q = true from List.any_eq_true.2 ⟨e0, he0, hq0⟩] at h
  exact h
theorem has_any (l : List Int) (x : Int) (v : Value) (w : World) (hrd : IntsRd w v l) (hn : l.length ≤ 9223372036854775807) :
    Calls Tryd.prog 31 #[v, .int .i64 x] w fun e w' => e = .returned (.bool (decide (x ∈ l))) ∧ w' = w := by
  rcases Nat.eq_zero_or_pos l.length with h0 | h0
  · obtain ⟨a, c, rfl⟩ := hrd.form
    obtain rfl : l = [] := List.eq_nil_of_length_eq_zero h0
    refine (Tryd.slices_Contains_int_empty a c x w).mono ?_
    rintro e w' ⟨rfl, rfl⟩
    exact ⟨by rw [decide_eq_false (List.not_mem_nil)], rfl⟩
  · obtain ⟨b1, o1, c1, rfl, -⟩ := hrd.at (List.getElem?_eq_getElem h0)
    refine (Tryd.slices_Contains_int b1 o1 l.length c1 l x w (Nat.le_refl _) hn (fun j hj => ?_)).mono ?_
    · obtain ⟨b9, o9, c9, hv, k9⟩ := hrd.at (List.getElem?_eq_getElem hj)
      injection hv with e1 e2 e3
      injection e1 with e1
      injection e1 with e1 e4
      subst e1
      subst e4
      rw [k9, List.getD_eq_getElem?_getD, List.getElem?_eq_getElem hj]; rfl
    · rintro e w' ⟨rfl, rfl⟩
      refine ⟨?_, rfl⟩
      rw [List.take_length]
      congr 2
      rw [Bool.eq_iff_iff, List.contains_iff_mem, decide_eq_true_iff]
end Go.Proofs.YtbinpmlhdiaehaaDoor
