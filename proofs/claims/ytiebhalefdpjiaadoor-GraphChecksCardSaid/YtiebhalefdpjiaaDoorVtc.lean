/- What slices.Collect, SortFunc and SortedFunc return for the edges of a list: the edges sorted. Condition: at most 100000 edges. -/
import Derived.Test.YtiebhalefdpjiaaDoorVtb
namespace Go.Proofs.YtiebhalefdpjiaaDoor
open Go.RowKit Go.Shelf
set_option linter.unusedSimpArgs false
set_option linter.unusedVariables false

theorem collect_any (B : Nat) (v : Value) (es : List E3) (w : World) (hrd : EdgesRd w v es) (hlen : es.length ≤ 100000) (hB : w.cell? ⟨B, 0, none⟩ = some v) :
    Calls Tryd.prog 80 #[.func (.func 82) #[] #[.pointer (some ⟨B, 0, none⟩)]] w (NewEdges w es) := by
  have HA := Lib.hid (appendSeq_any B v es w hrd hlen hB)
  clear hrd hB
  go_enter Tryd.func80, Tryd.ntmps80
  go_wp2_with (go_at_call 91; (with_reducible refine HA.out.mono ?_); rintro e W1 ⟨v1, rfl, i1, b1⟩; (obtain ⟨a1, c1, rfl⟩ := i1.slice); (have I1 := Lib.hid i1); (have B1 := Lib.hid b1); (clear i1 b1))
  go_ret
  exact ⟨_, rfl, I1.out, B1.out⟩
theorem ltOf_total {x y : E3} (h1 : ltOf cmpE x y = false) (h2 : ltOf cmpE y x = false) : x = y := by rw [ltOf_cmpE] at h1 h2; exact ltE_total' h1 h2
theorem srtE_eq (es : List E3) : (es.mergeSort fun x y => !(ltOf cmpE) y x) = srtE es := by
  unfold srtE
  congr 1
  funext x y
  rw [ltOf_cmpE]
theorem compareE_enters (args : Array Value) (w : World) : (callFunc 38 args).run Tryd.prog w = .ok (.enter 38 args) w := by
  simp [callFunc, go_sem, Tryd.func38, Tryd.f38]
theorem sortFunc_any (B : Nat) (v : Value) (es : List E3) (w : World) (h : EdgesAt w B v es) (hB : B ≤ w.heap.size) (hlen : es.length ≤ 100000) :
    Calls Tryd.prog 81 #[v, .func (.func 38) #[] #[]] w fun e w' => e = .returned (.tuple #[]) ∧ EdgesAt w' B v (srtE es) ∧ Below B w w' := by
  rcases h.2 with ⟨rfl, h0⟩ | ⟨g, cap, cur, rfl, k1, k2, k3, k4, k5, k6⟩
  · obtain rfl : es = [] := List.eq_nil_of_length_eq_zero h0
    refine (AnyF.slices_SortFunc_none Tryd.sortE none 0 (.func (.func 38) #[] #[]) w).mono ?_
    rintro e w' ⟨rfl, rfl⟩
    have e1 : srtE [] = [] := by unfold srtE; simp
    rw [e1]
    exact ⟨rfl, h, Below.refl _ _⟩
  · have hlt := (Array.getElem?_eq_some_iff.1 k2).1
    have hcon := AnyQ.slices_SortFunc_total Tryd.sortE 3 Tryd.isAgg43 Tryd.sizeOf43 encE (fun _ => rfl) (fun x v hv => by simp [encE] at hv; rcases hv with rfl | rfl | rfl <;> rfl) cmpE swoE 38 #[] g 0 cap es.toArray w
      compareE_enters (cmpLaysE g 0 _ w) (holdsE k2 k6) hlt (by simp; omega) (fun x y h1 h2 => ltOf_total h1 h2)
    simp only [List.size_toArray, srtE_eq] at hcon
    refine hcon.mono ?_
    rintro e w' ⟨rfl, n, os, rfl⟩
    refine ⟨rfl, ?_, ?_⟩
    · have := edges_sorted (w := w) (base := B) (g := g) (cap := cap) (n := n) (os := os) (es := es) (ts := srtE es) (srtE_len es) k1 k2 k3 k4 k5
      rw [srtE_len] at this
      exact this
    · exact (Below.refl B w).grown (grownBy_sortedE (n := n) (os := os) _) hB (fun k e => by cases e; exact k1)
theorem sortedFunc_any (B : Nat) (v : Value) (es : List E3) (w : World) (hrd : EdgesRd w v es) (hlen : es.length ≤ 100000) (hB : w.cell? ⟨B, 0, none⟩ = some v) :
    Calls Tryd.prog 61 #[.func (.func 82) #[] #[.pointer (some ⟨B, 0, none⟩)], .func (.func 38) #[] #[]] w (NewEdges w (srtE es)) := by
  have HC := Lib.hid (collect_any B v es w hrd hlen hB)
  clear hrd hB
  go_enter Tryd.func61, Tryd.ntmps61
  go_wp2_with (first
    | (go_at_call 80; (with_reducible refine HC.out.mono ?_); rintro e W1 ⟨v1, rfl, i1, b1⟩; (obtain ⟨a1, c1, rfl⟩ := i1.slice); (have HS := Lib.hid (sortFunc_any w.heap.size _ es W1 i1 b1.size hlen)); (have B1 := Lib.hid b1); (clear i1 b1))
    | (go_at_call 81; (with_reducible refine HS.out.mono ?_); rintro e W2 ⟨rfl, i2, b2⟩; (have I2 := Lib.hid i2); (have B2 := Lib.hid (B1.out.trans b2)); (clear i2 b2)))
  go_ret
  exact ⟨_, rfl, I2.out, B2.out⟩
end Go.Proofs.YtiebhalefdpjiaaDoor
