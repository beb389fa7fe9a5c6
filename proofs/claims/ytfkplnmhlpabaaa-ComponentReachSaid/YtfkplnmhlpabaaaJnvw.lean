/- A region that draws its order, by a statement that every operation keeps, whatever has come up before it: one walk for each operation, not one for each order. No condition. -/
import Derived.Test.YtfkplnmhlpabaaaInrw
namespace Go.Proofs.Ytfkplnmhlpabaaa
open Go.RowKit

/-- How many operations have not come up. -/
def unl (listed : Array Bool) : Nat := listed.toList.count false
theorem unl_set {listed : Array Bool} {i : Nat} (h : listed.getD i true = false) : unl (listed.setIfInBounds i true) + 1 = unl listed := by
  have hi : i < listed.size := by
    rcases Nat.lt_or_ge i listed.size with h1 | h1
    · exact h1
    · simp [Array.getD, Nat.not_lt.2 h1] at h
  have hl : listed.toList[i]'(by simpa using hi) = false := by
    simp [Array.getD, hi] at h
    simpa using h
  have hp : 0 < listed.toList.count false := List.count_pos_iff.2 (by rw [← hl]; exact List.getElem_mem _)
  unfold unl
  rw [Array.toList_setIfInBounds, List.count_set (by simpa using hi), hl]
  rw [if_pos (by rfl), if_neg (by decide)]
  omega
/-- Every operation waits for earlier ones alone. -/
def backwards (md : Region.Mode) (ops : Array Oper) : Bool := (List.range ops.size).all fun i => ((ops[i]?).map fun o => o.after.all fun e => !Region.binds md e || decide (e.on < i)).getD true

section
variable {P : Program} {md : Region.Mode} {ops : Array Oper} {Q : Exit → Act → World → Prop}

theorem backwards_spec (h : backwards md ops = true) {i : Nat} {o : Oper} (ho : ops[i]? = some o) {e : _} (he : e ∈ o.after) (hb : Region.binds md e = true) : e.on < i := by
  unfold backwards at h
  rw [List.all_eq_true] at h
  have h1 := h i (List.mem_range.2 (Array.getElem?_eq_some_iff.1 ho).1)
  rw [ho] at h1
  simp only [Option.map_some, Option.getD_some, Array.all_eq_true_iff_forall_mem] at h1
  have h2 := h1 e he
  simpa [hb] using h2
theorem all_listed (hbk : backwards md ops = true) {listed : Array Bool} (hs : listed.size = ops.size) (hr : Region.ready md ops listed = []) : ∀ i, i < ops.size → listed.getD i false = true := by
  intro i
  induction i using Nat.strongRecOn with
  | ind i ih =>
    intro hi
    cases hl : listed.getD i true with
    | true => simpa [Array.getD, hs, hi] using hl
    | false =>
      exfalso
      have hm : i ∈ Region.ready md ops listed := mem_ready.2 ⟨hl, ops[i], by simp [hi], fun e he hb => by
        have h1 := backwards_spec hbk (i := i) (o := ops[i]) (by simp [hi]) he hb
        exact ih _ h1 (by omega)⟩
      rw [hr] at hm
      cases hm

theorem any_of_inv {J : Array Bool → Act → World → Prop} (hbk : backwards md ops = true)
    (hstep : ∀ i o listed a w, ops[i]? = some o → listed.size = ops.size → listed.getD i true = false → (∀ e ∈ o.after, Region.binds md e = true → listed.getD e.on false = true) → J listed a w → wpOp P ops Q i (fun a' w' => J (listed.setIfInBounds i true) a' w') a w)
    (hend : ∀ listed a w, listed.size = ops.size → (∀ i, i < ops.size → listed.getD i false = true) → J listed a w → Q .normal a w) :
    ∀ (fuel : Nat) (listed : Array Bool) (a : Act) (w : World), unl listed ≤ fuel → listed.size = ops.size → J listed a w → wpAny P md ops Q fuel listed a w
  | 0, listed, a, w, hu, hs, hJ => by
    have hr : Region.ready md ops listed = [] := by
      rcases hx : Region.ready md ops listed with _ | ⟨i, l⟩
      · rfl
      · have := unl_set (mem_ready.1 (show i ∈ Region.ready md ops listed by rw [hx]; exact List.mem_cons_self)).1
        omega
    exact ⟨hr, hend listed a w hs (all_listed hbk hs hr) hJ⟩
  | fuel + 1, listed, a, w, hu, hs, hJ => by
    refine ⟨fun hr => hend listed a w hs (all_listed hbk hs hr) hJ, fun i hi => ?_⟩
    obtain ⟨h1, o, h2, h3⟩ := mem_ready.1 hi
    have h4 := unl_set h1
    exact wpOp_mono (fun a' w' h => any_of_inv hbk hstep hend fuel _ a' w' (by omega) (by simpa using hs) h) (hstep i o listed a w h2 hs h1 h3 hJ)

theorem region_inv {J : Array Bool → Act → World → Prop} {id : Nat} {a : Act} {w : World} (hm : P.follows .mixedOrders = true) (hbk : backwards .any ops = true) (h0 : J (Array.replicate ops.size false) a w.drew)
    (hstep : ∀ i o listed a w, ops[i]? = some o → listed.size = ops.size → listed.getD i true = false → (∀ e ∈ o.after, Region.binds .any e = true → listed.getD e.on false = true) → J listed a w → wpOp P ops Q i (fun a' w' => J (listed.setIfInBounds i true) a' w') a w)
    (hend : ∀ listed a w, listed.size = ops.size → (∀ i, i < ops.size → listed.getD i false = true) → J listed a w → Q .normal a w) :
    (Code.region id ops true).wp P Q a w :=
  wp_region_any hm (any_of_inv hbk hstep hend _ _ _ _ (by unfold unl; exact Nat.le_trans (List.count_le_length) (by simp)) (by simp) h0)
/-- As region_inv, with the waiting as a test that computes. -/
theorem region_inv' {J : Array Bool → Act → World → Prop} {id : Nat} {a : Act} {w : World} (hm : P.follows .mixedOrders = true) (hbk : backwards .any ops = true) (h0 : J (Array.replicate ops.size false) a w.drew)
    (hstep : ∀ i, i < ops.size → ∀ listed a w, listed.getD i false = false → (∀ j, waitsFor .any ops i j = true → listed.getD j false = true) → J listed a w → wpOp P ops Q i (fun a' w' => J (listed.setIfInBounds i true) a' w') a w)
    (hend : ∀ listed a w, (∀ i, i < ops.size → listed.getD i false = true) → J listed a w → Q .normal a w) :
    (Code.region id ops true).wp P Q a w := by
  refine region_inv hm hbk h0 (fun i o listed a w ho hs hl hw hJ => ?_) (fun listed a w _ h hJ => hend listed a w h hJ)
  have hi := (Array.getElem?_eq_some_iff.1 ho).1
  refine hstep i hi listed a w (by simpa [Array.getD, hs, hi] using hl) (fun j hj => ?_) hJ
  obtain ⟨os, h1, e, h2, h3, h4⟩ := waitsFor_spec hj
  rw [ho] at h1
  injection h1 with h1
  subst h1
  rw [← h4]
  exact hw e h2 h3
theorem stepJ {J : Act → World → Prop} {i : Nat} {o : Oper} {a : Act} {w : World} (ho : ops[i]? = some o)
    (h : ∀ K' : Act → World → Prop, Shut (∀ a w, J a w → K' a w) → if Region.wanted o (yielded ops a.tmps) = true then Oper.wp P o a w K' Q else K' (a.put o.dst undef) w) : wpOp P ops Q i J a w :=
  wpOp_step ho (fun K' hK => h K' (fun a w hJ => hK a w hJ))
theorem fl {L : Array Bool} {i j : Nat} (h : i ≠ j) (hf : (L.setIfInBounds i true).getD j false = true) : L.getD j false = true := by
  simp only [Array.getD_eq_getD_getElem?, Array.getElem?_setIfInBounds_ne h] at hf ⊢
  exact hf
end
end Go.Proofs.Ytfkplnmhlpabaaa
