/- A region that draws its order, in the body of a range over a function: by the laws of regions outside of one. No condition. A region that draws its order, by a statement that every operation keeps, whatever has come up before it: one walk for each operation, not one for each order. No condition. What graph.compareAs and graph.compareEdges return. No condition. -/
import Derived.Test.YtkpmapeapiodcaaDoorQ02
import Derived.RangeFuncNested
import Derived.RangeFuncBound
import Derived.RangeFuncCalls
import Derived.RangeFuncLeaves
import Derived.Shelf.Abstract
import Derived.Shelf.RegionOpen
import Derived.WalkKit
import Derived.OwnWalkIn
import Derived.TacticsInMore
import Derived.LoopNIn
import Derived.LoopIn
import Derived.OrdersIn
import Derived.OrdersHeld
import Derived.Deep.RegionHeld3
import Derived.Test.YtkpmapeapiodcaaDoorQ08

namespace Go.Proofs.YtkpmapeapiodcaaDoor
open Go.RowKit

def wpAnyT (P : Program) (md : Region.Mode) (ops : Array Oper) (Q : Exit → Act → World → Prop) (T : Array Bool → World → Prop) : Nat → Array Bool → Act → World → Prop
  | 0, listed, a, w => Region.ready md ops listed = [] ∧ Q .normal a w
  | fuel + 1, listed, a, w =>
    (Region.ready md ops listed = [] → Q .normal a w) ∧
    ∀ i ∈ Region.ready md ops listed, wpOp P ops Q i (fun a' w' => T (listed.setIfInBounds i true) w' ∧ wpAnyT P md ops Q T fuel (listed.setIfInBounds i true) a' w') a w

section
variable {P : Program} {md : Region.Mode} {ops : Array Oper} {Q : Exit → Act → World → Prop} {T : Array Bool → World → Prop} {S : World → Prop}

theorem any_of_T : ∀ (fuel : Nat) (listed : Array Bool) (a : Act) (w : World), wpAnyT P md ops Q T fuel listed a w → wpAny P md ops Q fuel listed a w
  | 0, _, _, _, h => h
  | fuel + 1, _, _, _, h => ⟨h.1, fun i hi => wpOp_mono (fun a' w' h' => any_of_T fuel _ a' w' h'.2) (h.2 i hi)⟩

theorem firstT {i s : Nat} {oi : Oper} {v : Value} (hi : ops[i]? = some oi) (hsel : ∀ (j : Nat) (o : Oper) cs b, ops[j]? = some o → o.op ≠ .select cs b)
    (hQ : ∀ c a w, Q (.panic c) (a.put oi.dst v) w → Q (.panic c) a w)
    (hdep : ∃ os, ops[s]? = some os ∧ ∃ e ∈ os.after, Region.binds md e = true ∧ e.on = i) (his : i ≠ s)
    (hT : ∀ l w, l.getD s true = false → T l w → S w) (hind : ∀ l w, T (l.setIfInBounds i true) w ↔ T l w) :
    ∀ (fuel : Nat) (listed : Array Bool) (a : Act) (w : World),
      (∀ j oj, ops[j]? = some oj → j ≠ i → listed.getD j true = false → (∀ e ∈ oj.after, Region.binds md e = true → e.on ≠ i) → oi.apart ops oj = true) →
      i ∈ Region.ready md ops listed → YieldsIf P ops S oi v a → listed.getD s true = false → T listed w →
      wpAnyT P md ops Q T fuel (listed.setIfInBounds i true) (a.put oi.dst v) w → wpAnyT P md ops Q T (fuel + 1) listed a w := by
  intro fuel
  induction fuel with
  | zero =>
    intro listed a w _ hr hy hs hTw H
    refine ⟨fun h => (by rw [h] at hr; cases hr), fun j hj => ?_⟩
    by_cases hji : j = i
    · subst hji; exact hy.wpOp hi (hT _ _ hs hTw) ⟨(hind _ _).2 hTw, H⟩
    · have := ready_mono hj hji
      rw [H.1] at this
      cases this
  | succ fuel ih =>
    intro listed a w hfree hr hy hs hTw H
    refine ⟨fun h => (by rw [h] at hr; cases hr), fun j hj => ?_⟩
    by_cases hji : j = i
    · subst hji; exact hy.wpOp hi (hT _ _ hs hTw) ⟨(hind _ _).2 hTw, H⟩
    · have h1 := H.2 j (ready_mono hj hji)
      obtain ⟨hjun, oj, hoj, hall⟩ := mem_ready.1 hj
      have hnot : ∀ e ∈ oj.after, Region.binds md e = true → e.on ≠ i := fun e he hb heq => by
        have k1 := hall e he hb
        have k0 := (mem_ready.1 hr).1
        rw [heq] at k1
        rcases Nat.lt_or_ge i listed.size with h' | h'
        · simp [h'] at k0 k1; rw [k0] at k1; cases k1
        · simp [Array.getElem?_eq_none h'] at k1
      have hjs : j ≠ s := fun e => by
        obtain ⟨os, hos, e1, he1, hb1, hon⟩ := hdep
        subst e
        rw [hoj] at hos
        injection hos with hos
        subst hos
        exact hnot e1 he1 hb1 hon
      have h2 := wpOp_putIf hoj (hfree j oj hoj hji hjun hnot) (fun cs b => hsel i oi cs b hi) (fun cs b => hsel j oj cs b hoj) hQ hy h1
      refine wpOp_mono (fun a' w' h3 => ?_) h2
      have hcomm := Array.setIfInBounds_comm (xs := listed) true true (Ne.symm hji)
      obtain ⟨h4, h5, h6⟩ := h3
      rw [hcomm] at h5 h6
      have h7 := (hind _ _).1 h5
      refine ⟨h7, ih (listed.setIfInBounds j true) a' w' (fun k ok hk hki hun hno => hfree k ok hk hki ?_ hno) (ready_mono hr (Ne.symm hji)) h4 ?_ h7 h6⟩
      · by_cases hjk : j = k
        · subst hjk; exact hjun
        · rw [getD_set_ne true hjk] at hun; exact hun
      · rw [getD_set_ne true hjs]; exact hs

def T2 (s1 s2 : Nat) (S1 S2 : World → Prop) (l : Array Bool) (w : World) : Prop := (l.getD s1 true = false → S1 w) ∧ (l.getD s2 true = false → S2 w)
def waitsFor (md : Region.Mode) (ops : Array Oper) (s i : Nat) : Bool := match ops[s]? with
  | some o => o.after.any fun e => Region.binds md e && e.on == i
  | none => false
theorem waitsFor_spec {s i : Nat} (h : waitsFor md ops s i = true) : ∃ os, ops[s]? = some os ∧ ∃ e ∈ os.after, Region.binds md e = true ∧ e.on = i := by
  unfold waitsFor at h
  cases ho : ops[s]? with
  | none => rw [ho] at h; cases h
  | some o =>
    rw [ho] at h
    rw [Array.any_eq_true'] at h
    obtain ⟨e, he, h1⟩ := h
    rw [Bool.and_eq_true, beq_iff_eq] at h1
    exact ⟨o, rfl, e, he, h1.1, h1.2⟩
theorem T2_ind {s1 s2 i : Nat} {S1 S2 : World → Prop} (h1 : i ≠ s1) (h2 : i ≠ s2) (l : Array Bool) (w : World) : T2 s1 s2 S1 S2 (l.setIfInBounds i true) w ↔ T2 s1 s2 S1 S2 l w := by
  unfold T2
  rw [getD_set_ne true h1, getD_set_ne true h2]
theorem take1 {i s1 s2 : Nat} {S1 S2 : World → Prop} {oi : Oper} {v : Value} {fuel : Nat} {listed : Array Bool} {a : Act} {w : World} (hi : ops[i]? = some oi)
    (hs : Region.noSelect ops = true) (hf : Region.free md ops listed i = true) (hr : (Region.ready md ops listed).contains i = true) (hw : waitsFor md ops s1 i = true) (hl : listed.getD s1 true = false) (h1 : i ≠ s1) (h2 : i ≠ s2)
    (hQ : ∀ c a w, Q (.panic c) (a.put oi.dst v) w → Q (.panic c) a w) (hy : YieldsIf P ops S1 oi v a) (hS1 : S1 w) (hS2 : S2 w)
    (h : wpAnyT P md ops Q (T2 s1 s2 S1 S2) fuel (listed.setIfInBounds i true) (a.put oi.dst v) w) : wpAnyT P md ops Q (T2 s1 s2 S1 S2) (fuel + 1) listed a w :=
  firstT hi (Region.noSelect_spec hs) hQ (waitsFor_spec hw) h1 (fun _ _ hl hT => hT.1 hl) (T2_ind h1 h2) fuel listed a w (Region.free_spec hi hf) (by simpa using hr) hy hl ⟨fun _ => hS1, fun _ => hS2⟩ h
theorem stepT {i : Nat} {o : Oper} {fuel : Nat} {listed : Array Bool} {a : Act} {w : World} (hr : Region.ready md ops listed = [i]) (ho : ops[i]? = some o)
    (h : ∀ K' : Act → World → Prop, Shut (∀ a w, T (listed.setIfInBounds i true) w → wpAnyT P md ops Q T fuel (listed.setIfInBounds i true) a w → K' a w) → if Region.wanted o (yielded ops a.tmps) = true then Oper.wp P o a w K' Q else K' (a.put o.dst undef) w) :
    wpAnyT P md ops Q T (fuel + 1) listed a w :=
  by
  refine ⟨fun h0 => (by rw [hr] at h0; cases h0), fun j hj => ?_⟩
  rw [hr] at hj
  obtain rfl : j = i := by simpa using hj
  exact wpOp_step ho (fun K' hK => h K' (fun a w hS hW => hK a w ⟨hS, hW⟩))
theorem doneT {listed : Array Bool} {a : Act} {w : World} (hr : Region.ready md ops listed = []) (h : Q .normal a w) : ∀ fuel, wpAnyT P md ops Q T fuel listed a w
  | 0 => ⟨hr, h⟩
  | _ + 1 => ⟨fun _ => h, by rw [hr]; simp⟩
theorem regionT {id : Nat} {a : Act} {w : World} (hm : P.follows .mixedOrders = true) (h : wpAnyT P .any ops Q T ops.size (Array.replicate ops.size false) a w.drew) : (Code.region id ops true).wp P Q a w :=
  wp_region_any hm (any_of_T _ _ _ _ h)
end
end Go.Proofs.YtkpmapeapiodcaaDoor

namespace Go.Proofs.YtkpmapeapiodcaaDoor
open Go.RowKit

def unl (listed : Array Bool) : Nat := listed.toList.count false
theorem unl_set {listed : Array Bool} {i : Nat} (h : listed.getD i true = false) : unl (listed.setIfInBounds i true) + 1 = unl listed := by
  have hi : i < listed.size := by
    rcases Nat.lt_or_ge i listed.size with h1 | h1
    · exact h1
    · simp [Array.getD, Nat.not_lt.2 h1] at h
  have hl : listed.toList[i]'(by simpa using hi) = false := by
    simp [Array.getD, hi] at h
    simpa using h
  have hp : 0 < listed.toList.count false := List.count_pos_iff.2 (by rw [← hl]; exact List.getElem_mem _)
  unfold unl
  rw [Array.toList_setIfInBounds, List.count_set (by simpa using hi), hl]
  rw [if_pos (by rfl), if_neg (by decide)]
  omega
def backwards (md : Region.Mode) (ops : Array Oper) : Bool := (List.range ops.size).all fun i => ((ops[i]?).map fun o => o.after.all fun e => !Region.binds md e || decide (e.on < i)).getD true

section
variable {P : Program} {md : Region.Mode} {ops : Array Oper} {Q : Exit → Act → World → Prop}

theorem backwards_spec (h : backwards md ops = true) {i : Nat} {o : Oper} (ho : ops[i]? = some o) {e : _} (he : e ∈ o.after) (hb : Region.binds md e = true) : e.on < i := by
  unfold backwards at h
  rw [List.all_eq_true] at h
  have h1 := h i (List.mem_range.2 (Array.getElem?_eq_some_iff.1 ho).1)
  rw [ho] at h1
  simp only [Option.map_some, Option.getD_some, Array.all_eq_true_iff_forall_mem] at h1
  have h2 := h1 e he
  simpa [hb] using h2
theorem all_listed (hbk : backwards md ops = true) {listed : Array Bool} (hs : listed.size = ops.size) (hr : Region.ready md ops listed = []) : ∀ i, i < ops.size → listed.getD i false = true := by
  intro i
  induction i using Nat.strongRecOn with
  | ind i ih =>
    intro hi
    cases hl : listed.getD i true with
    | true => simpa [Array.getD, hs, hi] using hl
    | false =>
      exfalso
      have hm : i ∈ Region.ready md ops listed := mem_ready.2 ⟨hl, ops[i], by simp [hi], fun e he hb => by
        have h1 := backwards_spec hbk (i := i) (o := ops[i]) (by simp [hi]) he hb
        exact ih _ h1 (by omega)⟩
      rw [hr] at hm
      cases hm

theorem any_of_inv {J : Array Bool → Act → World → Prop} (hbk : backwards md ops = true)
    (hstep : ∀ i o listed a w, ops[i]? = some o → listed.size = ops.size → listed.getD i true = false → (∀ e ∈ o.after, Region.binds md e = true → listed.getD e.on false = true) → J listed a w → wpOp P ops Q i (fun a' w' => J (listed.setIfInBounds i true) a' w') a w)
    (hend : ∀ listed a w, listed.size = ops.size → (∀ i, i < ops.size → listed.getD i false = true) → J listed a w → Q .normal a w) :
    ∀ (fuel : Nat) (listed : Array Bool) (a : Act) (w : World), unl listed ≤ fuel → listed.size = ops.size → J listed a w → wpAny P md ops Q fuel listed a w
  | 0, listed, a, w, hu, hs, hJ => by
    have hr : Region.ready md ops listed = [] := by
      rcases hx : Region.ready md ops listed with _ | ⟨i, l⟩
      · rfl
      · have := unl_set (mem_ready.1 (show i ∈ Region.ready md ops listed by rw [hx]; exact List.mem_cons_self)).1
        omega
    exact ⟨hr, hend listed a w hs (all_listed hbk hs hr) hJ⟩
  | fuel + 1, listed, a, w, hu, hs, hJ => by
    refine ⟨fun hr => hend listed a w hs (all_listed hbk hs hr) hJ, fun i hi => ?_⟩
    obtain ⟨h1, o, h2, h3⟩ := mem_ready.1 hi
    have h4 := unl_set h1
    exact wpOp_mono (fun a' w' h => any_of_inv hbk hstep hend fuel _ a' w' (by omega) (by simpa using hs) h) (hstep i o listed a w h2 hs h1 h3 hJ)

theorem region_inv {J : Array Bool → Act → World → Prop} {id : Nat} {a : Act} {w : World} (hm : P.follows .mixedOrders = true) (hbk : backwards .any ops = true) (h0 : J (Array.replicate ops.size false) a w.drew)
    (hstep : ∀ i o listed a w, ops[i]? = some o → listed.size = ops.size → listed.getD i true = false → (∀ e ∈ o.after, Region.binds .any e = true → listed.getD e.on false = true) → J listed a w → wpOp P ops Q i (fun a' w' => J (listed.setIfInBounds i true) a' w') a w)
    (hend : ∀ listed a w, listed.size = ops.size → (∀ i, i < ops.size → listed.getD i false = true) → J listed a w → Q .normal a w) :
    (Code.region id ops true).wp P Q a w :=
  wp_region_any hm (any_of_inv hbk hstep hend _ _ _ _ (by unfold unl; exact Nat.le_trans (List.count_le_length) (by simp)) (by simp) h0)
theorem region_inv' {J : Array Bool → Act → World → Prop} {id : Nat} {a : Act} {w : World} (hm : P.follows .mixedOrders = true) (hbk : backwards .any ops = true) (h0 : J (Array.replicate ops.size false) a w.drew)
    (hstep : ∀ i, i < ops.size → ∀ listed a w, listed.getD i false = false → (∀ j, waitsFor .any ops i j = true → listed.getD j false = true) → J listed a w → wpOp P ops Q i (fun a' w' => J (listed.setIfInBounds i true) a' w') a w)
    (hend : ∀ listed a w, (∀ i, i < ops.size → listed.getD i false = true) → J listed a w → Q .normal a w) :
    (Code.region id ops true).wp P Q a w := by
  refine region_inv hm hbk h0 (fun i o listed a w ho hs hl hw hJ => ?_) (fun listed a w _ h hJ => hend listed a w h hJ)
  have hi := (Array.getElem?_eq_some_iff.1 ho).1
  refine hstep i hi listed a w (by simpa [Array.getD, hs, hi] using hl) (fun j hj => ?_) hJ
  obtain ⟨os, h1, e, h2, h3, h4⟩ := waitsFor_spec hj
  rw [ho] at h1
  injection h1 with h1
  subst h1
  rw [← h4]
  exact hw e h2 h3
theorem stepJ {J : Act → World → Prop} {i : Nat} {o : Oper} {a : Act} {w : World} (ho : ops[i]? = some o)
    (h : ∀ K' : Act → World → Prop, Shut (∀ a w, J a w → K' a w) → if Region.wanted o (yielded ops a.tmps) = true then Oper.wp P o a w K' Q else K' (a.put o.dst undef) w) : wpOp P ops Q i J a w :=
  wpOp_step ho (fun K' hK => h K' (fun a w hJ => hK a w hJ))
theorem fl {L : Array Bool} {i j : Nat} (h : i ≠ j) (hf : (L.setIfInBounds i true).getD j false = true) : L.getD j false = true := by
  simp only [Array.getD_eq_getD_getElem?, Array.getElem?_setIfInBounds_ne h] at hf ⊢
  exact hf
end
end Go.Proofs.YtkpmapeapiodcaaDoor

namespace Go.Proofs.YtkpmapeapiodcaaDoor
open Go.RowKit
set_option linter.unusedSimpArgs false
set_option linter.unusedVariables false

def Box3 (W : World) (p : Nat) (e : E3) : Prop := W.cell? ⟨p, 0, none⟩ = some (.int .i64 e.1) ∧ W.cell? ⟨p, 1, none⟩ = some (.int .i64 e.2.1) ∧ W.cell? ⟨p, 2, none⟩ = some (.int .i64 e.2.2) ∧ W.frozen? ⟨p, 0, none⟩ = false ∧ W.frozen? ⟨p, 1, none⟩ = false ∧ W.frozen? ⟨p, 2, none⟩ = false
def stE (W : World) (q : Nat) (e : E3) : World := ((W.setCell ⟨q, 0, none⟩ (.int .i64 e.1)).setCell ⟨q, 1, none⟩ (.int .i64 e.2.1)).setCell ⟨q, 2, none⟩ (.int .i64 e.2.2)
section
variable {W W' : World} {p q : Nat} {e f : E3}
theorem Box3.keep (h : Box3 W p e) (hb : Below W.heap.size W W') : Box3 W' p e :=
  ⟨cell_keep h.1 hb, cell_keep h.2.1 hb, cell_keep h.2.2.1 hb, frozen_keep h.1 h.2.2.2.1 hb, frozen_keep h.2.1 h.2.2.2.2.1 hb, frozen_keep h.2.2.1 h.2.2.2.2.2 hb⟩
theorem Box3.lt (h : Box3 W p e) : p < W.heap.size := World.block_lt_of_cell? W ⟨p, 0, none⟩ h.1
theorem Box3.new (W : World) (x y z : Int) (t : TypeId) : Box3 (W.alloc (.cells #[.int .i64 x, .int .i64 y, .int .i64 z] t)) W.heap.size (x, y, z) := by
  unfold Box3
  refine ⟨?_, ?_, ?_, ?_, ?_, ?_⟩ <;> simp [go_sem]
theorem stE_below {B : Nat} (h : B ≤ q) : Below B W (stE W q e) := (((Below.refl B W).setCell (p := ⟨q, 0, none⟩) h _).setCell (p := ⟨q, 1, none⟩) h _).setCell (p := ⟨q, 2, none⟩) h _
theorem Box3.far (h : Box3 W p e) (hne : q ≠ p) : Box3 (stE W q f) p e := by
  unfold stE Box3
  simp only [World.frozen?_setCell]
  rw [World.cell?_setCell_far _ _ _ _ (by exact hne), World.cell?_setCell_far _ _ _ _ (by exact hne), World.cell?_setCell_far _ _ _ _ (by exact hne), World.cell?_setCell_far _ _ _ _ (by exact hne), World.cell?_setCell_far _ _ _ _ (by exact hne), World.cell?_setCell_far _ _ _ _ (by exact hne), World.cell?_setCell_far _ _ _ _ (by exact hne), World.cell?_setCell_far _ _ _ _ (by exact hne), World.cell?_setCell_far _ _ _ _ (by exact hne)]
  exact h
theorem Box3.set (h : Box3 W p e) : Box3 (stE W p f) p f := by
  obtain ⟨h1, h2, h3, h4, h5, h6⟩ := h
  unfold stE Box3
  refine ⟨?_, ?_, ?_, ?_, ?_, ?_⟩ <;> simp [go_sem, h1, h2, h3, h4, h5, h6]
end
def SlW (B : Nat) (x : E3) (F : Prop) (u : Value) (W : World) : Prop := ∃ p, u = .pointer (some ⟨p, 0, none⟩) ∧ B ≤ p ∧ (∃ e, Box3 W p e) ∧ (F → Box3 W p x)
section
variable {B p q : Nat} {x y : E3} {F F' : Prop} {u : Value} {W W' : World}
theorem SlW.keep (h : SlW B x F u W) (hb : Below W.heap.size W W') : SlW B x F u W' := by
  obtain ⟨p, h1, h2, ⟨e, h3⟩, h4⟩ := h
  exact ⟨p, h1, h2, ⟨e, h3.keep hb⟩, fun f => (h4 f).keep hb⟩
theorem SlW.imp (h : SlW B x F u W) (hf : F' → F) : SlW B x F' u W := by
  obtain ⟨p, h1, h2, h3, h4⟩ := h
  exact ⟨p, h1, h2, h3, fun f => h4 (hf f)⟩
theorem SlW.new {a b c : Int} {t : TypeId} (hF : ¬F) (hb : B ≤ W.heap.size) : SlW B x F (.pointer (some ⟨W.heap.size, 0, none⟩)) (W.alloc (.cells #[.int .i64 a, .int .i64 b, .int .i64 c] t)) :=
  ⟨_, rfl, hb, ⟨_, Box3.new _ _ _ _ _⟩, fun f => absurd f hF⟩
theorem SlW.ne_new (h : SlW B x F u W) : u ≠ .pointer (some ⟨W.heap.size, 0, none⟩) := by
  obtain ⟨p, rfl, _, ⟨e, h3⟩, _⟩ := h
  have := h3.lt
  intro e
  injection e with e
  injection e with e
  injection e with e
  omega
theorem SlW.far (h : SlW B x F u W) (hne : u ≠ .pointer (some ⟨q, 0, none⟩)) : SlW B x F u (stE W q y) := by
  obtain ⟨p, rfl, h2, ⟨e, h3⟩, h4⟩ := h
  have hpq : q ≠ p := fun e => hne (by rw [e])
  exact ⟨p, rfl, h2, ⟨e, h3.far hpq⟩, fun f => (h4 f).far hpq⟩
theorem SlW.put (h : SlW B x F (.pointer (some ⟨p, 0, none⟩)) W) : SlW B x F' (.pointer (some ⟨p, 0, none⟩)) (stE W p x) := by
  obtain ⟨p', e, h2, ⟨g, h3⟩, _⟩ := h
  injection e with e
  injection e with e
  injection e with e
  subst e
  exact ⟨p, rfl, h2, ⟨_, h3.set⟩, fun _ => h3.set⟩
end
def CA (w : World) (a b : E3) (W : World) : Prop := Below w.heap.size w W ∧ Box3 W w.heap.size a ∧ Box3 W (w.heap.size + 1) b
section
variable {w W W' : World} {a b : E3}
theorem CA.keep (h : CA w a b W) (hb : Below W.heap.size W W') : CA w a b W' := ⟨h.1.trans (hb.mono h.1.size), h.2.1.keep hb, h.2.2.keep hb⟩
theorem CA.alloc (h : CA w a b W) (o : Obj) : CA w a b (W.alloc o) := h.keep (below1 W o)
theorem CA.far {q : Nat} (h : CA w a b W) (hq : w.heap.size + 2 ≤ q) (f : E3) : CA w a b (stE W q f) :=
  ⟨h.1.trans (stE_below (by omega)), h.2.1.far (by omega), h.2.2.far (by omega)⟩
theorem CA.size (h : CA w a b W) : w.heap.size + 2 ≤ W.heap.size := h.2.2.lt
theorem CA.cells (h : CA w a b W) : W.cell? ⟨w.heap.size, 0, none⟩ = some (.int .i64 a.1) ∧ W.cell? ⟨w.heap.size, 1, none⟩ = some (.int .i64 a.2.1) ∧ W.cell? ⟨w.heap.size, 2, none⟩ = some (.int .i64 a.2.2) ∧
    W.cell? ⟨w.heap.size + 1, 0, none⟩ = some (.int .i64 b.1) ∧ W.cell? ⟨w.heap.size + 1, 1, none⟩ = some (.int .i64 b.2.1) ∧ W.cell? ⟨w.heap.size + 1, 2, none⟩ = some (.int .i64 b.2.2) :=
  ⟨h.2.1.1, h.2.1.2.1, h.2.1.2.2.1, h.2.2.1, h.2.2.2.1, h.2.2.2.2.1⟩
theorem CA.drew (h : CA w a b W) : CA w a b W.drew := ⟨h.1.drew, h.2.1, h.2.2⟩
theorem CA.start (w : World) (a b : E3) (t t' : TypeId) : CA w a b ((w.alloc (.cells #[.int .i64 a.1, .int .i64 a.2.1, .int .i64 a.2.2] t)).alloc (.cells #[.int .i64 b.1, .int .i64 b.2.1, .int .i64 b.2.2] t')) := by
  refine ⟨below_more (below1 w _) (Nat.le_refl _) (below1 _ _), (Box3.new w _ _ _ _).keep (below1 _ _), ?_⟩
  have := Box3.new (w.alloc (.cells #[.int .i64 a.1, .int .i64 a.2.1, .int .i64 a.2.2] t)) b.1 b.2.1 b.2.2 t'
  rw [World.size_alloc] at this
  exact this
end
set_option maxRecDepth 100000 in
set_option maxHeartbeats 6400000 in
theorem compareAs_any (a b : E3) (w : World) : Calls Tryd.prog 109 #[edgV a, edgV b, .func (.func 110) #[] #[]] w fun e w' => e = .returned (.int .i64 (cmpE a b)) ∧ Below w.heap.size w w' := by
  have hmx : Tryd.prog.follows .mixedOrders = true := by kernel_rfl
  have K0 := Lib.hid (CA.start w a b 45 45)
  have HN := Lib.hid (fun e W => numbers_any e W)
  go_enter Tryd.func109, Tryd.ntmps109
  go_upto_region 1 with fail
  have KB := K0.out.drew
  clear K0
  refine region_inv' (J := (fun L act wx => ∃ u9 u10 u11 u12 u13 u14 u7 u8, act = { tmps := #[.agg #[.int .i64 a.1, .int .i64 a.2.1, .int .i64 a.2.2], .agg #[.int .i64 b.1, .int .i64 b.2.1, .int .i64 b.2.2], .func (.func 110) #[] #[], .pointer (some ⟨w.heap.size, 0, none⟩), .pointer (some ⟨w.heap.size + 1, 0, none⟩), undef, .int .i64 0, u7, u8, u9, u10, u11, u12, u13, u14, undef, undef, undef], defers := [] } ∧ CA w a b wx ∧
      (L.getD 0 false = true → u9 = .func (.func 110) #[] #[]) ∧ (L.getD 1 false = true → u10 = .agg #[.int .i64 a.1, .int .i64 a.2.1, .int .i64 a.2.2]) ∧ (L.getD 2 false = true → u11 = .agg #[.int .i64 a.1, .int .i64 a.2.1, .int .i64 a.2.2]) ∧ (L.getD 3 false = true → u12 = .func (.func 110) #[] #[]) ∧ (L.getD 4 false = true → u13 = .agg #[.int .i64 b.1, .int .i64 b.2.1, .int .i64 b.2.2]) ∧ (L.getD 5 false = true → u14 = .agg #[.int .i64 b.1, .int .i64 b.2.1, .int .i64 b.2.2]) ∧ (L.getD 6 false = true → SlW (w.heap.size + 2) (a) (L.getD 8 false = true) u7 wx) ∧ (L.getD 7 false = true → SlW (w.heap.size + 2) (b) (L.getD 9 false = true) u8 wx) ∧ (L.getD 6 false = true → L.getD 7 false = true → u7 ≠ u8) ∧ (L.getD 8 false = true → L.getD 6 false = true) ∧ (L.getD 9 false = true → L.getD 7 false = true))) hmx (by kernel_rfl) ?_ ?_ ?_
  · exact ⟨undef, undef, undef, undef, undef, undef, undef, undef, rfl, KB, fun h => absurd h (by decide), fun h => absurd h (by decide), fun h => absurd h (by decide), fun h => absurd h (by decide), fun h => absurd h (by decide), fun h => absurd h (by decide), fun h => absurd h (by decide), fun h => absurd h (by decide), fun h _ => absurd h (by decide), fun h => absurd h (by decide), fun h => absurd h (by decide)⟩
  · intro i hi L a wx hl hw ⟨u9, u10, u11, u12, u13, u14, u7, u8, ha, lo, c0, c1, c2, c3, c4, c5, s6, s7, d6_7, k8, k9⟩
    subst ha
    obtain ⟨x1, x2, x3, y1', y2', y3'⟩ := lo.cells
    clear KB
    have hi' : i = 0 ∨ i = 1 ∨ i = 2 ∨ i = 3 ∨ i = 4 ∨ i = 5 ∨ i = 6 ∨ i = 7 ∨ i = 8 ∨ i = 9 := by
      have : i < 10 := hi
      omega
    rcases hi' with rfl | rfl | rfl | rfl | rfl | rfl | rfl | rfl | rfl | rfl
    · refine stepJ (i := 0) rfl (fun K hK => ?_)
      go_simp
      refine hK.out _ _ ⟨_, u10, u11, u12, u13, u14, u7, u8, rfl, lo, fun _ => rfl, fun h => c1 (fl (by decide) h), fun h => c2 (fl (by decide) h), fun h => c3 (fl (by decide) h), fun h => c4 (fl (by decide) h), fun h => c5 (fl (by decide) h), fun h => ((s6 (fl (by decide) h)).imp (fl (by decide))), fun h => ((s7 (fl (by decide) h)).imp (fl (by decide))), fun h h' => d6_7 (fl (by decide) h) (fl (by decide) h'), fun h => getD_set_true (k8 (fl (by decide) h)), fun h => getD_set_true (k9 (fl (by decide) h))⟩
    · refine stepJ (i := 1) rfl (fun K hK => ?_)
      go_simp
      refine hK.out _ _ ⟨u9, _, u11, u12, u13, u14, u7, u8, rfl, lo, fun h => c0 (fl (by decide) h), fun _ => rfl, fun h => c2 (fl (by decide) h), fun h => c3 (fl (by decide) h), fun h => c4 (fl (by decide) h), fun h => c5 (fl (by decide) h), fun h => ((s6 (fl (by decide) h)).imp (fl (by decide))), fun h => ((s7 (fl (by decide) h)).imp (fl (by decide))), fun h h' => d6_7 (fl (by decide) h) (fl (by decide) h'), fun h => getD_set_true (k8 (fl (by decide) h)), fun h => getD_set_true (k9 (fl (by decide) h))⟩
    · refine stepJ (i := 2) rfl (fun K hK => ?_)
      obtain rfl := c0 (hw 0 (by kernel_rfl))
      obtain rfl := c1 (hw 1 (by kernel_rfl))
      go_simp
      go_at_call 110
      refine (numbers_any a _).mono ?_
      rintro e W2 ⟨rfl, b2⟩
      go_wp2_with fail
      refine hK.out _ _ ⟨_, _, _, u12, u13, u14, u7, u8, rfl, lo.keep b2, fun _ => rfl, fun _ => rfl, fun _ => rfl, fun h => c3 (fl (by decide) h), fun h => c4 (fl (by decide) h), fun h => c5 (fl (by decide) h), fun h => ((s6 (fl (by decide) h)).imp (fl (by decide))).keep b2, fun h => ((s7 (fl (by decide) h)).imp (fl (by decide))).keep b2, fun h h' => d6_7 (fl (by decide) h) (fl (by decide) h'), fun h => getD_set_true (k8 (fl (by decide) h)), fun h => getD_set_true (k9 (fl (by decide) h))⟩
    · refine stepJ (i := 3) rfl (fun K hK => ?_)
      go_simp
      refine hK.out _ _ ⟨u9, u10, u11, _, u13, u14, u7, u8, rfl, lo, fun h => c0 (fl (by decide) h), fun h => c1 (fl (by decide) h), fun h => c2 (fl (by decide) h), fun _ => rfl, fun h => c4 (fl (by decide) h), fun h => c5 (fl (by decide) h), fun h => ((s6 (fl (by decide) h)).imp (fl (by decide))), fun h => ((s7 (fl (by decide) h)).imp (fl (by decide))), fun h h' => d6_7 (fl (by decide) h) (fl (by decide) h'), fun h => getD_set_true (k8 (fl (by decide) h)), fun h => getD_set_true (k9 (fl (by decide) h))⟩
    · refine stepJ (i := 4) rfl (fun K hK => ?_)
      go_simp
      refine hK.out _ _ ⟨u9, u10, u11, u12, _, u14, u7, u8, rfl, lo, fun h => c0 (fl (by decide) h), fun h => c1 (fl (by decide) h), fun h => c2 (fl (by decide) h), fun h => c3 (fl (by decide) h), fun _ => rfl, fun h => c5 (fl (by decide) h), fun h => ((s6 (fl (by decide) h)).imp (fl (by decide))), fun h => ((s7 (fl (by decide) h)).imp (fl (by decide))), fun h h' => d6_7 (fl (by decide) h) (fl (by decide) h'), fun h => getD_set_true (k8 (fl (by decide) h)), fun h => getD_set_true (k9 (fl (by decide) h))⟩
    · refine stepJ (i := 5) rfl (fun K hK => ?_)
      obtain rfl := c3 (hw 3 (by kernel_rfl))
      obtain rfl := c4 (hw 4 (by kernel_rfl))
      go_simp
      go_at_call 110
      refine (numbers_any b _).mono ?_
      rintro e W2 ⟨rfl, b2⟩
      go_wp2_with fail
      refine hK.out _ _ ⟨u9, u10, u11, _, _, _, u7, u8, rfl, lo.keep b2, fun h => c0 (fl (by decide) h), fun h => c1 (fl (by decide) h), fun h => c2 (fl (by decide) h), fun _ => rfl, fun _ => rfl, fun _ => rfl, fun h => ((s6 (fl (by decide) h)).imp (fl (by decide))).keep b2, fun h => ((s7 (fl (by decide) h)).imp (fl (by decide))).keep b2, fun h h' => d6_7 (fl (by decide) h) (fl (by decide) h'), fun h => getD_set_true (k8 (fl (by decide) h)), fun h => getD_set_true (k9 (fl (by decide) h))⟩
    · refine stepJ (i := 6) rfl (fun K hK => ?_)
      go_simp
      refine hK.out _ _ ⟨u9, u10, u11, u12, u13, u14, _, u8, rfl, lo.alloc _, fun h => c0 (fl (by decide) h), fun h => c1 (fl (by decide) h), fun h => c2 (fl (by decide) h), fun h => c3 (fl (by decide) h), fun h => c4 (fl (by decide) h), fun h => c5 (fl (by decide) h), fun _ => SlW.new (fun h => absurd ((k8 (fl (by decide) h)).symm.trans hl) (by decide)) lo.size, fun h => ((s7 (fl (by decide) h)).imp (fl (by decide))).keep (below1 wx _), fun _ h' => Ne.symm (s7 (fl (by decide) h')).ne_new, fun h => getD_set_true (k8 (fl (by decide) h)), fun h => getD_set_true (k9 (fl (by decide) h))⟩
    · refine stepJ (i := 7) rfl (fun K hK => ?_)
      go_simp
      refine hK.out _ _ ⟨u9, u10, u11, u12, u13, u14, u7, _, rfl, lo.alloc _, fun h => c0 (fl (by decide) h), fun h => c1 (fl (by decide) h), fun h => c2 (fl (by decide) h), fun h => c3 (fl (by decide) h), fun h => c4 (fl (by decide) h), fun h => c5 (fl (by decide) h), fun h => ((s6 (fl (by decide) h)).imp (fl (by decide))).keep (below1 wx _), fun _ => SlW.new (fun h => absurd ((k9 (fl (by decide) h)).symm.trans hl) (by decide)) lo.size, fun h _ => (s6 (fl (by decide) h)).ne_new, fun h => getD_set_true (k8 (fl (by decide) h)), fun h => getD_set_true (k9 (fl (by decide) h))⟩
    · refine stepJ (i := 8) rfl (fun K hK => ?_)
      obtain rfl := c2 (hw 2 (by kernel_rfl))
      obtain ⟨pp, rfl, hpp, ⟨z9, y1, y2, y3, y4, y5, y6⟩, _⟩ := id (s6 (hw 6 (by kernel_rfl)))
      go_simp
      refine hK.out _ _ ⟨u9, u10, _, u12, u13, u14, _, u8, rfl, lo.far hpp _, fun h => c0 (fl (by decide) h), fun h => c1 (fl (by decide) h), fun _ => rfl, fun h => c3 (fl (by decide) h), fun h => c4 (fl (by decide) h), fun h => c5 (fl (by decide) h), fun _ => (s6 (hw 6 (by kernel_rfl))).put, fun h => ((s7 (fl (by decide) h)).imp (fl (by decide))).far (Ne.symm (d6_7 (hw 6 (by kernel_rfl)) (fl (by decide) h))), fun h h' => d6_7 (fl (by decide) h) (fl (by decide) h'), fun _ => getD_set_true (hw 6 (by kernel_rfl)), fun h => getD_set_true (k9 (fl (by decide) h))⟩
    · refine stepJ (i := 9) rfl (fun K hK => ?_)
      obtain rfl := c5 (hw 5 (by kernel_rfl))
      obtain ⟨pp, rfl, hpp, ⟨z9, y1, y2, y3, y4, y5, y6⟩, _⟩ := id (s7 (hw 7 (by kernel_rfl)))
      go_simp
      refine hK.out _ _ ⟨u9, u10, u11, u12, u13, _, u7, _, rfl, lo.far hpp _, fun h => c0 (fl (by decide) h), fun h => c1 (fl (by decide) h), fun h => c2 (fl (by decide) h), fun h => c3 (fl (by decide) h), fun h => c4 (fl (by decide) h), fun _ => rfl, fun h => ((s6 (fl (by decide) h)).imp (fl (by decide))).far (d6_7 (fl (by decide) h) (hw 7 (by kernel_rfl))), fun _ => (s7 (hw 7 (by kernel_rfl))).put, fun h h' => d6_7 (fl (by decide) h) (fl (by decide) h'), fun h => getD_set_true (k8 (fl (by decide) h)), fun _ => getD_set_true (hw 7 (by kernel_rfl))⟩
  · rintro L a wx hall ⟨u9, u10, u11, u12, u13, u14, u7, u8, rfl, lo, c0, c1, c2, c3, c4, c5, s6, s7, d6_7, k8, k9⟩
    obtain rfl := c0 (hall 0 (by decide))
    obtain rfl := c1 (hall 1 (by decide))
    obtain rfl := c2 (hall 2 (by decide))
    obtain rfl := c3 (hall 3 (by decide))
    obtain rfl := c4 (hall 4 (by decide))
    obtain rfl := c5 (hall 5 (by decide))
    obtain ⟨p6, rfl, hp6, -, H6⟩ := s6 (hall 6 (by decide))
    have V6 := H6 (hall 8 (by decide))
    obtain ⟨p7, rfl, hp7, -, H7⟩ := s7 (hall 7 (by decide))
    have V7 := H7 (hall 9 (by decide))
    have n6_7 : p6 ≠ p7 := fun e => d6_7 (hall 6 (by decide)) (hall 7 (by decide)) (by rw [e])
    clear hall c0 c1 c2 c3 c4 c5 s6 H6 s7 H7 d6_7 k8 k9
    have HA : ∀ j, j < 3 → wx.cell? ⟨p6, j, none⟩ = some (.int .i64 (numE a j)) := fun j hj => by
      rcases (show j = 0 ∨ j = 1 ∨ j = 2 by omega) with rfl | rfl | rfl
      · exact V6.1
      · exact V6.2.1
      · exact V6.2.2.1
    have HB : ∀ j, j < 3 → wx.cell? ⟨p7, j, none⟩ = some (.int .i64 (numE b j)) := fun j hj => by
      rcases (show j = 0 ∨ j = 1 ∨ j = 2 by omega) with rfl | rfl | rfl
      · exact V7.1
      · exact V7.2.1
      · exact V7.2.2.1
    have HC := Lib.hid (fun n => compare3_any a b p6 p7 (wx.drewN n) HA HB)
    have hb := lo.1
    clear HA HB V6 V7 lo KB hp6 hp7 n6_7 HN
    obtain ⟨z, hz⟩ : ∃ z, cmpE a b = z := ⟨_, rfl⟩
    simp only [hz] at HC
    have HZ := Lib.hid hz
    clear hz
    go_wp2_with fail
    go_quiet ((go_at_call 113; exact Calls.quiet_of_same (HC.out _)))
    go_wp2_with fail
    go_ret
    exact ⟨by rw [HZ.out]; rfl, below_drewM hb _⟩
set_option maxRecDepth 100000 in
theorem compareEdges_any (a b : E3) (w : World) : Calls Tryd.prog 104 #[edgV a, edgV b] w fun e w' => e = .returned (.int .i64 (cmpE a b)) ∧ Below w.heap.size w w' := by
  have HC := Lib.hid (fun W => compareAs_any a b W)
  go_enter Tryd.func104, Tryd.ntmps104
  go_wp2_with (go_at_call 109; (with_reducible refine (HC.out _).mono ?_); rintro e W1 ⟨rfl, b1⟩)
  go_ret
  exact ⟨rfl, below_more (below_more (below1 _ _) (Nat.le_refl _) (below1 _ _)) (Nat.le_refl _) b1⟩
end Go.Proofs.YtkpmapeapiodcaaDoor
