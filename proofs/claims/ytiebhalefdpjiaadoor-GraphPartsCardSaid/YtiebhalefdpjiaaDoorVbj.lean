/- Graphs' variables that lie beside rows of their own, and the contracts of GraphParts' calls. Condition: the graph is valid. -/
import Derived.Test.YtiebhalefdpjiaaDoorVbi
import Derived.Test.YtiebhalefdpjiaaDoorVu
import Derived.Test.YtiebhalefdpjiaaDoorVr
namespace Go.Proofs.YtiebhalefdpjiaaDoor
open Go.RowKit
set_option linter.unusedSimpArgs false
set_option linter.unusedVariables false

/-- A graph's variable, whole. -/
def GBox (W : World) (p : Nat) (x y z : Value) : Prop := W.heap[p]? = some (.cells #[x, y, z] 24 (0, 0))
theorem GBox.new (W : World) (x y z : Value) : GBox (W.alloc (.cells #[x, y, z] 24)) W.heap.size x y z := heap_alloc_new W _
theorem GBox.keep {W W' : World} {p : Nat} {x y z : Value} (h : GBox W p x y z) (hb : Below W.heap.size W W') : GBox W' p x y z := (hb.block p (Array.getElem?_eq_some_iff.1 h).1).trans h
theorem GBox.lt {W : World} {p : Nat} {x y z : Value} (h : GBox W p x y z) : p < W.heap.size := (Array.getElem?_eq_some_iff.1 h).1
theorem GBox.cells {W : World} {p : Nat} {x y z : Value} (h : GBox W p x y z) : W.cell? ⟨p, 0, none⟩ = some x ∧ W.cell? ⟨p, 1, none⟩ = some y ∧ W.cell? ⟨p, 2, none⟩ = some z ∧ W.frozen? ⟨p, 0, none⟩ = false ∧ W.frozen? ⟨p, 1, none⟩ = false ∧ W.frozen? ⟨p, 2, none⟩ = false := by
  refine ⟨?_, ?_, ?_, ?_, ?_, ?_⟩ <;> simp [World.cell?, World.frozen?, show W.heap[p]? = _ from h]
theorem GBox.g {W : World} {p : Nat} {L S : Int} {v : Value} (h : GBox W p (.int .i64 L) (.int .i64 S) v) : BoxG W p L S v := ⟨h.cells.1, h.cells.2.1, h.cells.2.2.1⟩
theorem grownBy_setCellJ (W : World) (b j : Nat) (v : Value) : W.grownBy (W.setCell ⟨b, j, none⟩ v) (some b) :=
  ⟨rfl, rfl, rfl, (KeepsWalks.setCell W _ v).size, fun k _ hk => Below.heap_setCell _ _ _ k (fun e => hk (by rw [e]))⟩
theorem GBox.not_row {W : World} {p : Nat} {x y z : Value} (h : GBox W p x y z) {t : TypeId} (ht : t ≠ 24) {base size k : Nat} {v : Value} {xs : List Value} (hr : W.ownsRow base t size v k xs) : v.ownBlock ≠ some p := by
  rcases hr.2 with ⟨rfl, _⟩ | ⟨g, cap, cur, rfl, _, hgb, _⟩
  · simp [Value.ownBlock]
  · intro e
    obtain rfl : g = p := by simpa [Value.ownBlock] using e
    have := (show W.heap[g]? = _ from h).symm.trans hgb
    simp at this
    exact ht this.2.symm
theorem GBox.set {W : World} {p : Nat} {x y z : Value} (h : GBox W p x y z) (x' y' z' : Value) : GBox (((W.setCell ⟨p, 0, none⟩ x').setCell ⟨p, 1, none⟩ y').setCell ⟨p, 2, none⟩ z') p x' y' z' := by
  obtain ⟨hlt, hk⟩ := Array.getElem?_eq_some_iff.1 h
  unfold GBox World.setCell
  simp [Array.getElem?_modify, Array.getElem?_eq_getElem hlt, hk]
theorem GBox.row {W : World} {p : Nat} {x y z : Value} (h : GBox W p x y z) {t : TypeId} (ht : t ≠ 24) {base size k : Nat} {v : Value} {xs : List Value} (hr : W.ownsRow base t size v k xs) (x' y' z' : Value) :
    (((W.setCell ⟨p, 0, none⟩ x').setCell ⟨p, 1, none⟩ y').setCell ⟨p, 2, none⟩ z').ownsRow base t size v k xs :=
  ((hr.kept (grownBy_setCellJ W p 0 x') (.inr (h.not_row ht hr))).kept (grownBy_setCellJ _ p 1 y') (.inr (h.not_row ht hr))).kept (grownBy_setCellJ _ p 2 z') (.inr (h.not_row ht hr))
theorem set3_below {w W : World} {B p : Nat} (h : Below B w W) (hp : B ≤ p) (x y z : Value) : Below B w (((W.setCell ⟨p, 0, none⟩ x).setCell ⟨p, 1, none⟩ y).setCell ⟨p, 2, none⟩ z) :=
  ((h.setCell (p := ⟨p, 0, none⟩) hp _).setCell (p := ⟨p, 1, none⟩) hp _).setCell (p := ⟨p, 2, none⟩) hp _
/-! ### The contracts -/
def ISl (W : World) (B : Nat) (u : Value) (k : Nat) (l : List Int) : Prop := ∃ d f, u = .slice d k f ∧ IntsAt W B u l
theorem ISl.keep {W W' : World} {B k : Nat} {u : Value} {l : List Int} (h : ISl W B u k l) (hb : Below W.heap.size W W') : ISl W' B u k l := by
  obtain ⟨d, f, h1, h2⟩ := h
  exact ⟨d, f, h1, h2.keep hb⟩
theorem choose_sl (n b k : Nat) (l : List Int) (w : World) (hn : n ≤ 64) (hb : b < 65536) (hl : mems n (bitB b) = l) (hk : l.length = k) :
    Calls Tryd.prog 31 #[.int .i64 (n : Int), .int .u16 (b : Int)] w fun e w' => ∃ d f, e = .returned (.slice d k f) ∧ IntsAt w' w.heap.size (.slice d k f) l ∧ Below w.heap.size w w' := by
  refine (choose_any n b w hn hb).mono ?_
  rintro e w' ⟨v, rfl, h1, h2⟩
  rw [hl] at h1
  obtain ⟨d, f, rfl⟩ := h1.slice
  rw [hk] at h1 ⊢
  exact ⟨d, f, rfl, h1, h2⟩
theorem keep_sl {L : Int} {n k m : Nat} {es ps : List E3} {st : List Int} (hvg : VG L (n : Int) es) (hs : SG (n : Int) st) (hk : st.length = k) (hp : partE st es = ps) (hm : ps.length = m) (v u : Value) (W : World) (h : EdgesRd W v es) (h2 : IntsRd W u st) :
    Calls Tryd.prog 23 #[grV L (n : Int) v, u] W fun e w' => ∃ a c, e = .returned (.tuple #[grV L (k : Int) (.slice a m c), .int .i64 0]) ∧ EdgesAt w' W.heap.size (.slice a m c) ps ∧ Below W.heap.size W w' := by
  refine (keep_ess hvg hs hk hp v u W h h2).mono ?_
  rintro e w' ⟨v', rfl, h1, h2⟩
  obtain ⟨a, c, rfl⟩ := h1.slice
  rw [hm] at h1 ⊢
  exact ⟨a, c, rfl, h1, h2⟩
theorem det_sl {L : Int} {n : Nat} {es : List E3} {b : Bool} (hvg : VG L (n : Int) es) (hb : detE es = b) (v : Value) (W : World) (h : EdgesRd W v es) :
    Calls Tryd.prog 21 #[grV L (n : Int) v] W fun e w' => e = .returned (.tuple #[.bool b, .int .i64 0]) ∧ Below W.heap.size W w' := by
  have := hvg.len
  have hx := deterministic_any L (n : Int) es v W h (by omega)
  rw [show detR L (n : Int) es = (b, 0) by unfold detR; rw [if_pos hvg.chk, hb]] at hx
  exact hx
theorem rd_len {W : World} {v : Value} {l : List Int} {k : Nat} (hk : l.length = k) {B : Nat} (h : IntsAt W B v l) : IntsRd W v l := h.rd
theorem one_rd (W : World) (s : Int) : IntsRd (W.alloc (.cells #[.int .i64 s] 3)) (.slice (some ⟨W.heap.size, 0, none⟩) 1 1) [s] :=
  ⟨some ⟨W.heap.size, 0, none⟩, 1, rfl, fun i x hx => by
    match i, hx with
    | 0, hx => simp at hx; subst hx; exact ⟨W.heap.size, 0, rfl, by simp [go_sem]⟩⟩
theorem one_sg {n s : Nat} (h : s < n) : SG (n : Int) [(s : Int)] := ⟨fun x hx => by rw [List.mem_singleton] at hx; subst hx; omega, List.pairwise_singleton _ _⟩
/-- A step from a single state. -/
theorem step_one {L : Int} {n s l : Nat} {es : List E3} (hvg : VG L (n : Int) es) (hs : s < n) (hl : (l : Int) < L) (v : Value) (w : World) (hrd : EdgesRd w v es) :
    Calls Tryd.prog 19 #[grV L (n : Int) v, .slice (some ⟨w.heap.size, 0, none⟩) 1 1, .int .i64 (l : Int)] (w.alloc (.cells #[.int .i64 (s : Int)] 3)) fun e w' => ∃ a k c, e = .returned (.tuple #[.slice a k c, .int .i64 0]) ∧ decide (k < 2) = smL n es s l ∧ Below w.heap.size w w' := by
  have b1 := below1 w (.cells #[.int .i64 (s : Int)] 3)
  refine (step_good L n es v _ [(s : Int)] (l : Int) _ (hrd.keep b1) hvg (one_rd w (s : Int)) (one_sg hs) ⟨by omega, hl⟩).mono ?_
  rintro e w' ⟨u, rfl, h1, h2⟩
  obtain ⟨a, c, rfl⟩ := h1.slice
  exact ⟨a, _, c, rfl, rfl, below_more b1 (Nat.le_refl _) h2⟩
end Go.Proofs.YtiebhalefdpjiaaDoor
