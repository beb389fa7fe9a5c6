/- Rows of one's own between the rounds of a range over terms. No condition. A region that draws its order, in the body of a range over a function: by the laws of regions outside of one. No condition. What polynomial.exactQuotient returns. Condition: at most 10^5 coefficients, of at most 10^6 digits to the base 2^32; the divisor is not 0. -/
import Derived.Test.YtgcogpfmhmmgdaaGreatDoorQ22
import Derived.Test.YtgcogpfmhmmgdaaGreatDoorQ23
import Derived.Deep.RegionHeld3
import Derived.Test.YtgcogpfmhmmgdaaGreatDoorQ21
import Derived.OrdersIn
import Derived.OrdersHeld

namespace Go.Proofs.YtgcogpfmhmmgdaaGreatDoor
open Go.RowKit Go.Shelf
set_option linter.unusedSimpArgs false
set_option linter.unusedVariables false

/-- A row of one's own, or none where it has no places. -/
def OwnRow (W : World) (base : Nat) (A : Option Addr) (n : Nat) (g : Nat → Bool) (s : Nat → ByteArray) : Prop := (n = 0 ∧ A = none) ∨ ∃ b, A = some ⟨b, 0, none⟩ ∧ base ≤ b ∧ PRow W b n g s
theorem OwnRow.keep {W W1 : World} {base n : Nat} {A : Option Addr} {g : Nat → Bool} {s : Nat → ByteArray} (h : OwnRow W base A n g s) (hb : Below W.heap.size W W1) : OwnRow W1 base A n g s := by
  rcases h with h | ⟨b, h1, h2, h3⟩
  · exact .inl h
  · exact .inr ⟨b, h1, h2, h3.keep hb⟩
theorem PRow.kept {W W1 : World} {b n : Nat} {g : Nat → Bool} {s : Nat → ByteArray} {row : Option Nat} (h : PRow W b n g s) (hg : W.grownBy W1 row) (hr : ∀ r, row = some r → ∃ o : Obj, W.heap[r]? = some o ∧ o.isCells = false) : PRow W1 b n g s := by
  obtain ⟨c, h1, h2, h3⟩ := h
  exact ⟨c, (grownBy_keeps_cells hg hr h1 rfl).trans h1, h2, h3⟩
theorem OwnRow.kept {W W1 : World} {base n : Nat} {A : Option Addr} {g : Nat → Bool} {s : Nat → ByteArray} {row : Option Nat} (h : OwnRow W base A n g s) (hg : W.grownBy W1 row) (hr : ∀ r, row = some r → ∃ o : Obj, W.heap[r]? = some o ∧ o.isCells = false) : OwnRow W1 base A n g s := by
  rcases h with h | ⟨b, h1, h2, h3⟩
  · exact .inl h
  · exact .inr ⟨b, h1, h2, h3.kept hg hr⟩
theorem OwnRow.congr {W : World} {base n : Nat} {A : Option Addr} {g g' : Nat → Bool} {s s' : Nat → ByteArray} (h : OwnRow W base A n g s) (e : ∀ i, i < n → g i = g' i ∧ s i = s' i) : OwnRow W base A n g' s' := by
  rcases h with h | ⟨b, h1, h2, h3⟩
  · exact .inl h
  · exact .inr ⟨b, h1, h2, h3.congr e⟩
theorem OwnRow.poly {W : World} {base n : Nat} {A : Option Addr} {g : Nat → Bool} {s : Nat → ByteArray} {C : List Int} (h : OwnRow W base A n g s) (hn : C.length = n) (hc : ∀ i, i < n → g i = sg (co C i) ∧ s i = mg (co C i)) : PolyC W base (.slice A n n) C := by
  rcases h with ⟨rfl, rfl⟩ | ⟨b, rfl, h2, h3⟩
  · exact .inl ⟨rfl, List.eq_nil_of_length_eq_zero hn⟩
  · exact .inr ⟨b, n, n, by rw [hn], by omega, by omega, h2, g, s, h3, fun i hi => hc i (by omega)⟩
theorem blank_row (d : Int) (n : Nat) (w : World) (hd : (n : Int) = d + 1 ∨ (n = 0 ∧ d < 0)) (hn : n ≤ 1000000000) (hd0 : -9223372036854775807 ≤ d) :
    Calls Tryz.prog 41 #[.int .i64 d] w fun e w' => ∃ A, e = .returned (.slice A n n) ∧ OwnRow w' w.heap.size A n (fun _ => false) (fun _ => ⟨#[]⟩) ∧ Below w.heap.size w w' := by
  refine (blank_any d n w hd hn hd0).mono ?_
  rintro e w' (⟨rfl, rfl, rfl⟩ | ⟨h0, rfl, rfl⟩)
  · exact ⟨none, rfl, .inl ⟨rfl, rfl⟩, Below.refl _ _⟩
  · exact ⟨_, rfl, .inr ⟨_, rfl, Nat.le_refl _, PRow.made w n⟩, below1 w _⟩
theorem OwnRow.wider {W : World} {base base' n : Nat} {A : Option Addr} {g : Nat → Bool} {s : Nat → ByteArray} (h : OwnRow W base A n g s) (hb : base' ≤ base) : OwnRow W base' A n g s := by
  rcases h with h | ⟨b, h1, h2, h3⟩
  · exact .inl h
  · exact .inr ⟨b, h1, Nat.le_trans hb h2, h3⟩
theorem others_of_below {W W1 : World} (h : Below W.heap.size W W1) : KeepsOthers W W1 := ⟨h.size, fun k o hk _ => (h.block k (Array.getElem?_eq_some_iff.1 hk).1).trans hk⟩
/-- An integer's variable. -/
def IVar (W : World) (p : Nat) (g : Bool) (s : ByteArray) : Prop := W.cell? ⟨p, 0, none⟩ = some (.bool g) ∧ W.cell? ⟨p, 1, none⟩ = some (.string s)
theorem IVar.keep {W W1 : World} {p : Nat} {g : Bool} {s : ByteArray} (h : IVar W p g s) (hb : Below W.heap.size W W1) : IVar W1 p g s := ⟨cell_keep h.1 hb, cell_keep h.2 hb⟩
theorem IVar.new (W : World) (g : Bool) (s : ByteArray) (t : TypeId) : IVar (W.alloc (.cells #[.bool g, .string s] t)) W.heap.size g s := by constructor <;> simp [go_sem]
theorem IVar.kept {W W1 : World} {p : Nat} {g : Bool} {s : ByteArray} {row : Option Nat} (h : IVar W p g s) (hg : W.grownBy W1 row) (hr : ∀ r, row = some r → ∃ o : Obj, W.heap[r]? = some o ∧ o.isCells = false) : IVar W1 p g s := ⟨cell_kept h.1 hg hr, cell_kept h.2 hg hr⟩
theorem IVar.far {W : World} {p : Nat} {g : Bool} {s : ByteArray} (h : IVar W p g s) {a : Addr} (ha : p ≠ a.block) (u : Value) : IVar (W.setCell a u) p g s := ⟨by rw [World.cell?_setCell_far _ _ _ _ (fun e => ha e.symm)]; exact h.1, by rw [World.cell?_setCell_far _ _ _ _ (fun e => ha e.symm)]; exact h.2⟩
theorem IVar.lt {W : World} {p : Nat} {g : Bool} {s : ByteArray} (h : IVar W p g s) : p < W.heap.size := World.block_lt_of_cell? W ⟨p, 0, none⟩ h.1
/-- A variable of one cell. -/
def CVar (W : World) (p : Nat) (v : Value) : Prop := W.cell? ⟨p, 0, none⟩ = some v
theorem CVar.keep {W W1 : World} {p : Nat} {v : Value} (h : CVar W p v) (hb : Below W.heap.size W W1) : CVar W1 p v := cell_keep h hb
theorem CVar.new (W : World) (v : Value) (t : TypeId) : CVar (W.alloc (.cells #[v] t)) W.heap.size v := by unfold CVar; simp [go_sem]
theorem CVar.far {W : World} {p : Nat} {v : Value} (h : CVar W p v) {a : Addr} (ha : p ≠ a.block) (u : Value) : CVar (W.setCell a u) p v := by unfold CVar; rw [World.cell?_setCell_far _ _ _ _ (fun e => ha e.symm)]; exact h
theorem CVar.kept {W W1 : World} {p : Nat} {v : Value} {row : Option Nat} (h : CVar W p v) (hg : W.grownBy W1 row) (hr : ∀ r, row = some r → ∃ o : Obj, W.heap[r]? = some o ∧ o.isCells = false) : CVar W1 p v := cell_kept h hg hr
theorem CVar.lt {W : World} {p : Nat} {v : Value} (h : CVar W p v) : p < W.heap.size := World.block_lt_of_cell? W ⟨p, 0, none⟩ h
theorem qD_zero {d : Int} (hd : d ≠ 0) : qD 0 d = 0 := by
  obtain ⟨s1, s2, s3⟩ := qD_spec (a := 0) (b := d) hd
  exact (div_one s1 (q' := 0) (r' := 0) (by omega) ⟨s2, s3⟩ ⟨fun _ => by omega, fun _ => by omega⟩ hd).1
/-- What some exponents of a list of terms have got. -/
def got {α : Type} {L : List Int} (pre : List (Tm L)) (f : Nat → α) (z : α) (j : Nat) : α := if j ∈ pre.map (·.1) then f j else z
theorem got_nil {α : Type} {L : List Int} (f : Nat → α) (z : α) : got ([] : List (Tm L)) f z = fun _ => z := by
  funext j
  unfold got
  rw [if_neg (by simp)]
theorem got_snoc {α : Type} {L : List Int} (pre : List (Tm L)) (x : Tm L) (f : Nat → α) (z : α) : got (pre ++ [x]) f z = upd2 (got pre f z) x.1 (f x.1) := by
  funext j
  unfold got upd2
  by_cases h : j = x.1
  · subst h; rw [if_pos (by simp), if_pos rfl]
  · rw [if_neg h]
    show _ = if j ∈ pre.map (·.1) then f j else z
    by_cases h2 : j ∈ pre.map (·.1)
    · rw [if_pos h2, if_pos (by rw [List.map_append]; exact List.mem_append_left _ h2)]
    · rw [if_neg h2, if_neg (by rw [List.map_append]; intro h3; rcases List.mem_append.1 h3 with h3 | h3; exact h2 h3; exact h (by simpa using h3))]
theorem got_all {α : Type} {L : List Int} (f : Nat → α) (z : α) (hz : ∀ j, co L j = 0 → f j = z) (j : Nat) : got (tmx L L.length) f z j = f j := by
  unfold got
  by_cases h : co L j = 0
  · split
    · rfl
    · exact (hz j h).symm
  · have hj : j < L.length := by
      rcases Nat.lt_or_ge j L.length with h1 | h1
      · exact h1
      · exact absurd (co_ge h1) h
    have hm : j ∈ (tmx L L.length).map (·.1) := List.mem_map.2 ⟨⟨j, h⟩, tmx_mem L L.length j h hj, rfl⟩
    rw [if_pos hm]
end Go.Proofs.YtgcogpfmhmmgdaaGreatDoor

namespace Go.Proofs.YtgcogpfmhmmgdaaGreatDoor
open Go.RowKit

/-- No deferred call. -/
def plainOp (o : Oper) : Bool := match o.op with
  | .defer _ => false
  | _ => true
theorem row_in_round {l n : Nat} {P : Program} {row : String} {args : Array Value} {w : World} {R : Value → World → Prop} (h : Rows P row args w R) : RowsIn (Fence.wide.inRound l) n P row args w R := by
  have h' : RowsIn Fence.wide n P row args w R := fun c cs _ => let ⟨v, w', r, s⟩ := h c cs; ⟨v, w', r, stepsIn_wide.2 s⟩
  exact h'
theorem no_depth {l n : Nat} (e : (Fence.wide.inRound l).depth.isSome = true) : 1 ≤ n := by simp [Fence.inRound, Fence.wide] at e

theorem op_in_round {l n : Nat} {P : Program} {o : Oper} {a : Act} {w : World} {K : Act → World → Prop} {Q : Exit → Act → World → Prop} (hd : plainOp o = true) (h : o.wp P a w K Q) :
    o.wpIn (Fence.wide.inRound l) n P a w K Q := by
  unfold Oper.wp at h
  unfold Oper.wpIn
  refine ⟨fun _ _ => trivial, ?_⟩
  rw [show (Fence.wide.inRound l).round = some l from rfl, Oper.semAt_some l _ _ (fun c e => by unfold plainOp at hd; rw [e] at hd; cases hd)]
  generalize (execOp a.eval o).run P w = r at *
  cases r with
  | ok x w' =>
    cases x <;> simp only [Oper.upon, Oper.uponIn] at h ⊢
    all_goals first
      | exact h
      | exact ⟨no_depth, CallsIn.inRound l (callsIn_wide.2 h)⟩
      | exact ⟨no_depth, row_in_round h⟩
      | exact h.elim
  | halt x w' => cases x <;> simp only [Oper.upon, Oper.uponIn] at h ⊢ <;> exact h

theorem any_in_round {l n : Nat} {P : Program} {md : Region.Mode} {ops : Array Oper} {Q : Exit → Act → World → Prop} (hd : ∀ (i : Nat) o, ops[i]? = some o → plainOp o = true) (hq : ¬ LetsOut Q) :
    ∀ (fuel : Nat) (listed : Array Bool) (a : Act) (w : World), wpAny P md ops Q fuel listed a w → wpAnyIn (Fence.wide.inRound l) n P md ops Q fuel listed a w
  | 0, _, _, _, h => h
  | fuel + 1, _, _, _, h => ⟨h.1, fun i hi => by
    have h1 := h.2 i hi
    unfold wpOp at h1
    unfold wpOpIn
    cases ho : ops[i]? with
    | none => rw [ho] at h1; exact any_in_round hd hq fuel _ _ _ h1
    | some o =>
      rw [ho] at h1
      dsimp only at h1 ⊢
      split
      · rename_i hw
        rw [if_pos hw] at h1
        rcases h1 with h1 | h1
        · exact Oper.wpIn_mono (fun a w => any_in_round hd hq fuel _ a w) (op_in_round (hd i o ho) h1)
        · exact absurd h1.2 hq
      · rename_i hw
        rw [if_neg hw] at h1
        exact ⟨fun _ _ => trivial, any_in_round hd hq fuel _ _ _ h1⟩⟩

theorem region_in_round {l n : Nat} {P : Program} {id : Nat} {ops : Array Oper} {Q : Exit → Act → World → Prop} {S : World → Prop} {a : Act} {w : World} (hm : P.follows .mixedOrders = true)
    (hd : ∀ (i : Nat) o, ops[i]? = some o → plainOp o = true) (hq : ¬ LetsOut Q) (hS : S w.drew) (h : S w.drew → wpAnyH P .any ops Q S ops.size (Array.replicate ops.size false) a w.drew) :
    (Code.region id ops true).wpIn (Fence.wide.inRound l) n P Q a w :=
  wpIn_region_any hm (any_in_round hd hq _ _ _ _ (wpAny_of_held _ _ _ _ (h hS)))

/-- Whatever order is picked, T holding behind every operation: T may hang on what has come up, so that what a late store overwrites need hold before it alone. -/
def wpAnyT (P : Program) (md : Region.Mode) (ops : Array Oper) (Q : Exit → Act → World → Prop) (T : Array Bool → World → Prop) : Nat → Array Bool → Act → World → Prop
  | 0, listed, a, w => Region.ready md ops listed = [] ∧ Q .normal a w
  | fuel + 1, listed, a, w =>
    (Region.ready md ops listed = [] → Q .normal a w) ∧
    ∀ i ∈ Region.ready md ops listed, wpOp P ops Q i (fun a' w' => T (listed.setIfInBounds i true) w' ∧ wpAnyT P md ops Q T fuel (listed.setIfInBounds i true) a' w') a w

section
variable {P : Program} {md : Region.Mode} {ops : Array Oper} {Q : Exit → Act → World → Prop} {T : Array Bool → World → Prop} {S : World → Prop}

theorem any_of_T : ∀ (fuel : Nat) (listed : Array Bool) (a : Act) (w : World), wpAnyT P md ops Q T fuel listed a w → wpAny P md ops Q fuel listed a w
  | 0, _, _, _, h => h
  | fuel + 1, _, _, _, h => ⟨h.1, fun i hi => wpOp_mono (fun a' w' h' => any_of_T fuel _ a' w' h'.2) (h.2 i hi)⟩

/-- An operation i may be taken first while a later one, s, that waits for it has not come up. -/
theorem firstT {i s : Nat} {oi : Oper} {v : Value} (hi : ops[i]? = some oi) (hsel : ∀ (j : Nat) (o : Oper) cs b, ops[j]? = some o → o.op ≠ .select cs b)
    (hQ : ∀ c a w, Q (.panic c) (a.put oi.dst v) w → Q (.panic c) a w)
    (hdep : ∃ os, ops[s]? = some os ∧ ∃ e ∈ os.after, Region.binds md e = true ∧ e.on = i) (his : i ≠ s)
    (hT : ∀ l w, l.getD s true = false → T l w → S w) (hind : ∀ l w, T (l.setIfInBounds i true) w ↔ T l w) :
    ∀ (fuel : Nat) (listed : Array Bool) (a : Act) (w : World),
      (∀ j oj, ops[j]? = some oj → j ≠ i → listed.getD j true = false → (∀ e ∈ oj.after, Region.binds md e = true → e.on ≠ i) → oi.apart ops oj = true) →
      i ∈ Region.ready md ops listed → YieldsIf P ops S oi v a → listed.getD s true = false → T listed w →
      wpAnyT P md ops Q T fuel (listed.setIfInBounds i true) (a.put oi.dst v) w → wpAnyT P md ops Q T (fuel + 1) listed a w := by
  intro fuel
  induction fuel with
  | zero =>
    intro listed a w _ hr hy hs hTw H
    refine ⟨fun h => (by rw [h] at hr; cases hr), fun j hj => ?_⟩
    by_cases hji : j = i
    · subst hji; exact hy.wpOp hi (hT _ _ hs hTw) ⟨(hind _ _).2 hTw, H⟩
    · have := ready_mono hj hji
      rw [H.1] at this
      cases this
  | succ fuel ih =>
    intro listed a w hfree hr hy hs hTw H
    refine ⟨fun h => (by rw [h] at hr; cases hr), fun j hj => ?_⟩
    by_cases hji : j = i
    · subst hji; exact hy.wpOp hi (hT _ _ hs hTw) ⟨(hind _ _).2 hTw, H⟩
    · have h1 := H.2 j (ready_mono hj hji)
      obtain ⟨hjun, oj, hoj, hall⟩ := mem_ready.1 hj
      have hnot : ∀ e ∈ oj.after, Region.binds md e = true → e.on ≠ i := fun e he hb heq => by
        have k1 := hall e he hb
        have k0 := (mem_ready.1 hr).1
        rw [heq] at k1
        rcases Nat.lt_or_ge i listed.size with h' | h'
        · simp [h'] at k0 k1; rw [k0] at k1; cases k1
        · simp [Array.getElem?_eq_none h'] at k1
      have hjs : j ≠ s := fun e => by
        obtain ⟨os, hos, e1, he1, hb1, hon⟩ := hdep
        subst e
        rw [hoj] at hos
        injection hos with hos
        subst hos
        exact hnot e1 he1 hb1 hon
      have h2 := wpOp_putIf hoj (hfree j oj hoj hji hjun hnot) (fun cs b => hsel i oi cs b hi) (fun cs b => hsel j oj cs b hoj) hQ hy h1
      refine wpOp_mono (fun a' w' h3 => ?_) h2
      have hcomm := Array.setIfInBounds_comm (xs := listed) true true (Ne.symm hji)
      obtain ⟨h4, h5, h6⟩ := h3
      rw [hcomm] at h5 h6
      have h7 := (hind _ _).1 h5
      refine ⟨h7, ih (listed.setIfInBounds j true) a' w' (fun k ok hk hki hun hno => hfree k ok hk hki ?_ hno) (ready_mono hr (Ne.symm hji)) h4 ?_ h7 h6⟩
      · by_cases hjk : j = k
        · subst hjk; exact hjun
        · rw [getD_set_ne true hjk] at hun; exact hun
      · rw [getD_set_ne true hjs]; exact hs

/-- What holds till the operation s1, and what holds till s2. -/
def T2 (s1 s2 : Nat) (S1 S2 : World → Prop) (l : Array Bool) (w : World) : Prop := (l.getD s1 true = false → S1 w) ∧ (l.getD s2 true = false → S2 w)
def waitsFor (md : Region.Mode) (ops : Array Oper) (s i : Nat) : Bool := match ops[s]? with
  | some o => o.after.any fun e => Region.binds md e && e.on == i
  | none => false
theorem waitsFor_spec {s i : Nat} (h : waitsFor md ops s i = true) : ∃ os, ops[s]? = some os ∧ ∃ e ∈ os.after, Region.binds md e = true ∧ e.on = i := by
  unfold waitsFor at h
  cases ho : ops[s]? with
  | none => rw [ho] at h; cases h
  | some o =>
    rw [ho] at h
    rw [Array.any_eq_true'] at h
    obtain ⟨e, he, h1⟩ := h
    rw [Bool.and_eq_true, beq_iff_eq] at h1
    exact ⟨o, rfl, e, he, h1.1, h1.2⟩
theorem T2_ind {s1 s2 i : Nat} {S1 S2 : World → Prop} (h1 : i ≠ s1) (h2 : i ≠ s2) (l : Array Bool) (w : World) : T2 s1 s2 S1 S2 (l.setIfInBounds i true) w ↔ T2 s1 s2 S1 S2 l w := by
  unfold T2
  rw [getD_set_ne true h1, getD_set_ne true h2]
theorem take1 {i s1 s2 : Nat} {S1 S2 : World → Prop} {oi : Oper} {v : Value} {fuel : Nat} {listed : Array Bool} {a : Act} {w : World} (hi : ops[i]? = some oi)
    (hs : Region.noSelect ops = true) (hf : Region.free md ops listed i = true) (hr : (Region.ready md ops listed).contains i = true) (hw : waitsFor md ops s1 i = true) (hl : listed.getD s1 true = false) (h1 : i ≠ s1) (h2 : i ≠ s2)
    (hQ : ∀ c a w, Q (.panic c) (a.put oi.dst v) w → Q (.panic c) a w) (hy : YieldsIf P ops S1 oi v a) (hS1 : S1 w) (hS2 : S2 w)
    (h : wpAnyT P md ops Q (T2 s1 s2 S1 S2) fuel (listed.setIfInBounds i true) (a.put oi.dst v) w) : wpAnyT P md ops Q (T2 s1 s2 S1 S2) (fuel + 1) listed a w :=
  firstT hi (Region.noSelect_spec hs) hQ (waitsFor_spec hw) h1 (fun _ _ hl hT => hT.1 hl) (T2_ind h1 h2) fuel listed a w (Region.free_spec hi hf) (by simpa using hr) hy hl ⟨fun _ => hS1, fun _ => hS2⟩ h
theorem take2 {i s1 s2 : Nat} {S1 S2 : World → Prop} {oi : Oper} {v : Value} {fuel : Nat} {listed : Array Bool} {a : Act} {w : World} (hi : ops[i]? = some oi)
    (hs : Region.noSelect ops = true) (hf : Region.free md ops listed i = true) (hr : (Region.ready md ops listed).contains i = true) (hw : waitsFor md ops s2 i = true) (hl : listed.getD s2 true = false) (h1 : i ≠ s1) (h2 : i ≠ s2)
    (hQ : ∀ c a w, Q (.panic c) (a.put oi.dst v) w → Q (.panic c) a w) (hy : YieldsIf P ops S2 oi v a) (hS1 : S1 w) (hS2 : S2 w)
    (h : wpAnyT P md ops Q (T2 s1 s2 S1 S2) fuel (listed.setIfInBounds i true) (a.put oi.dst v) w) : wpAnyT P md ops Q (T2 s1 s2 S1 S2) (fuel + 1) listed a w :=
  firstT hi (Region.noSelect_spec hs) hQ (waitsFor_spec hw) h2 (fun _ _ hl hT => hT.2 hl) (T2_ind h1 h2) fuel listed a w (Region.free_spec hi hf) (by simpa using hr) hy hl ⟨fun _ => hS1, fun _ => hS2⟩ h
/-- One operation alone can come up. -/
theorem stepT {i : Nat} {o : Oper} {fuel : Nat} {listed : Array Bool} {a : Act} {w : World} (hr : Region.ready md ops listed = [i]) (ho : ops[i]? = some o)
    (h : ∀ K' : Act → World → Prop, Shut (∀ a w, T (listed.setIfInBounds i true) w → wpAnyT P md ops Q T fuel (listed.setIfInBounds i true) a w → K' a w) → if Region.wanted o (yielded ops a.tmps) = true then Oper.wp P o a w K' Q else K' (a.put o.dst undef) w) :
    wpAnyT P md ops Q T (fuel + 1) listed a w :=
  by
  refine ⟨fun h0 => (by rw [hr] at h0; cases h0), fun j hj => ?_⟩
  rw [hr] at hj
  obtain rfl : j = i := by simpa using hj
  exact wpOp_step ho (fun K' hK => h K' (fun a w hS hW => hK a w ⟨hS, hW⟩))
theorem doneT {listed : Array Bool} {a : Act} {w : World} (hr : Region.ready md ops listed = []) (h : Q .normal a w) : ∀ fuel, wpAnyT P md ops Q T fuel listed a w
  | 0 => ⟨hr, h⟩
  | _ + 1 => ⟨fun _ => h, by rw [hr]; simp⟩
theorem all_plain (h : ops.all plainOp = true) : ∀ (i : Nat) o, ops[i]? = some o → plainOp o = true := fun i o ho => by
  rw [Array.all_eq_true'] at h
  exact h o (Array.mem_of_getElem? ho)
theorem regionT_in_round {l n id : Nat} {a : Act} {w : World} (hm : P.follows .mixedOrders = true) (hd : ops.all plainOp = true) (hq : ¬ LetsOut Q)
    (h : wpAnyT P .any ops Q T ops.size (Array.replicate ops.size false) a w.drew) : (Code.region id ops true).wpIn (Fence.wide.inRound l) n P Q a w :=
  wpIn_region_any hm (any_in_round (all_plain hd) hq _ _ _ _ (any_of_T _ _ _ _ h))
theorem regionT {id : Nat} {a : Act} {w : World} (hm : P.follows .mixedOrders = true) (h : wpAnyT P .any ops Q T ops.size (Array.replicate ops.size false) a w.drew) : (Code.region id ops true).wp P Q a w :=
  wp_region_any hm (any_of_T _ _ _ _ h)
end
end Go.Proofs.YtgcogpfmhmmgdaaGreatDoor

namespace Go.Proofs.YtgcogpfmhmmgdaaGreatDoor
open Go.RowKit Go.Shelf
attribute [local go_sem] Oper.semAt_some
set_option linter.unusedSimpArgs false
set_option linter.unusedVariables false

set_option maxRecDepth 100000 in
set_option maxHeartbeats 6400000 in
theorem exq_any (v1 v2 : Value) (L C : List Int) (d : Int) (k : Nat) (w : World) (h1 : PolyAt w v1 L k) (h2 : IsInt v2 d k) (hL : L.length ≤ 100000) (hk : k ≤ 1000000) (hd : trm L ≠ [] → d ≠ 0) (hC : C.length = (trm L).length) (hco : ∀ i, co C i = qD (co L i) d) :
    Calls Tryz.prog 97 #[v1, v2] w (PolyOut w C) := by
  have H1 := Lib.hid h1
  have H2 := Lib.hid h2
  have HO := Lib.hid hco
  have HD := Lib.hid hd
  obtain ⟨n, hn⟩ : ∃ n, n = (trm L).length := ⟨_, rfl⟩
  have HN := Lib.hid (And.intro hC hn)
  have hn1 : n ≤ 100000 := by have := trm_len L; omega
  have HX := Lib.hid (show degZ L = (n : Int) - 1 by unfold degZ; omega)
  obtain ⟨A, c, g, s, rfl, hcells⟩ := h1.cells
  have HCL := Lib.hid hcells
  obtain ⟨gd, sd, rfl, -⟩ := h2
  clear hco hd hC hn hcells
  refine (callsIn_wide (n := 8)).1 ?_
  refine callsIn_of_wp_marks Tryz.func97 rfl trivial ?_ rfl
  simp only [Tryz.ntmps97, List.size_toArray, List.length_cons, List.length_nil, Nat.reduceAdd, Nat.reduceSub, Array.replicate_succ, Array.replicate_zero, List.push_toArray, List.append_toArray, List.nil_append, List.cons_append]
  have X0 := IVar.new w gd sd 27
  have B0 := below1 w (.cells #[.bool gd, .string sd] 27)
  gi_wp2_with (refine ⟨trivial, ?_⟩; first
    | (gi_at_call 10; (with_reducible refine (callsIn_wide.2 (deg_any _ L k _ (H1.out.keep B0) (by omega))).mono ?_); rintro e W1 ⟨rfl, b1⟩; (rw [HX.out]); (have X1 := X0.keep b1); (have B1 := below_more B0 (Nat.le_refl _) b1); (clear X0 B0))
    | (gi_at_call 41; (with_reducible refine (callsIn_wide.2 (blank_row _ n _ (by omega) (by omega) (by omega))).mono ?_); rintro e W2 ⟨A0, rfl, R2, b2⟩; (have X2 := X1.keep b2); (have B2 := below_more B1 (Nat.le_refl _) b2))
    | (gi_at_call 46; (with_reducible refine (callsIn_wide.2 (terms_any A L.length c _)).mono ?_); rintro e W3 ⟨rfl, rfl⟩))
  have X4 := X2.keep (below2 W2 (.cells #[.slice A0 n n] 22) (.cells #[.slice A L.length c] 22))
  have L4 := (CVar.new W2 (.slice A0 n n) 22).keep (below1 _ (.cells #[.slice A L.length c] 22))
  have T4 := CVar.new (W2.alloc (.cells #[.slice A0 n n] 22)) (.slice A L.length c) 22
  rw [World.size_alloc] at T4
  have R4 := ((R2.wider B1.size).keep (below2 W2 (.cells #[.slice A0 n n] 22) (.cells #[.slice A L.length c] 22)))
  have B4 := below_more B2 (Nat.le_refl _) (below2 W2 (.cells #[.slice A0 n n] 22) (.cells #[.slice A L.length c] 22))
  generalize ((W2.alloc (.cells #[.slice A0 n n] 22)).alloc (.cells #[.slice A L.length c] 22)) = W4 at *
  have HA := Lib.hid (show ∀ b, A0 = some ⟨b, 0, none⟩ → w.heap.size < b ∧ b < W2.heap.size by
    intro b hb
    rcases R2 with ⟨_, h⟩ | ⟨b', h1, h2, h3⟩
    · rw [h] at hb; cases hb
    · rw [h1] at hb
      injection hb with hb
      injection hb with hb
      have := h3.lt
      have hs := b1.size
      simp only [World.size_alloc] at hs
      omega)
  generalize W2.heap.size = bl at *
  have hT := T4.lt
  have C4 := HCL.out.keep B4
  have hX := X4.lt
  clear X1 X2 B1 B2 R2 b1 b2 W1
  have HR0 := Lib.hid (show OwnRow W4 w.heap.size A0 n (got ([] : List (Tm L)) (fun j => sg (qD (co L j) d)) false) (got ([] : List (Tm L)) (fun j => mg (qD (co L j) d)) ⟨#[]⟩) by rw [got_nil, got_nil]; exact R4)
  refine wpIn_rangeFunc_ownH rfl (by omega) (gf := 83) (lb := #[.pointer (some ⟨bl + 1, 0, none⟩)]) rfl trivial (enters_of Tryz.func83 (by kernel_rfl) rfl)
    (terms_stops _ (bl + 1) w.heap.size c k A L g s W4 (by omega) (by omega) T4 B4.size C4) (fun h h' => h.trans h') (Kt.turn B4.size hT) (Below.refl _ _) (fun _ => rfl)
    (fun pre W => IVar W w.heap.size gd sd ∧ CVar W bl (.slice A0 n n) ∧ OwnRow W w.heap.size A0 n (got pre (fun j => sg (qD (co L j) d)) false) (got pre (fun j => mg (qD (co L j) d)) ⟨#[]⟩) ∧ CVar W (bl + 1) (.slice A L.length c) ∧ Below w.heap.size w W)
    (fun _ _ _ => False)
    (fun pre X Y row hs hg hr => ⟨hs.1.kept hg (fun r e => (hr r e).2), hs.2.1.kept hg (fun r e => (hr r e).2), hs.2.2.1.kept hg (fun r e => (hr r e).2), hs.2.2.2.1.kept hg (fun r e => (hr r e).2), hs.2.2.2.2.grown hg hs.2.2.2.2.size (fun r e => Nat.le_trans B4.size (hr r e).1)⟩)
    (fun _ _ _ _ _ hs _ _ => hs)
    ⟨X4, L4, HR0.out, T4, B4⟩
    (fun x a' W => ∃ Bx, bl + 1 < Bx ∧ IVar W Bx (g x.1) (s x.1) ∧ a' = { tmps := #[.slice A L.length c, .agg #[.bool gd, .string sd], undef, .pointer (some ⟨w.heap.size, 0, none⟩), .slice none 0 0, .pointer (some ⟨bl, 0, none⟩), .int .i64 (x.1 : Int), .pointer (some ⟨Bx, 0, none⟩), .slice A L.length c, .int .i64 ((n : Int) - 1), .slice A0 n n, .slice A L.length c, .func (.func 83) #[] #[.pointer (some ⟨bl + 1, 0, none⟩)], .int .i64 (x.1 : Int), .agg #[.bool (g x.1), .string (s x.1)], undef, undef, undef, undef, undef, undef, undef, undef, undef, undef, undef], defers := [] })
    (fun x a' _ X Y row hs hg hr => by
      obtain ⟨Bx, h1, h2, h3⟩ := hs
      exact ⟨Bx, h1, h2.kept hg (fun r e => (hr r e).2), h3⟩)
    ?assign ?body ?done ?stop
  case assign =>
    rintro l pre x W K ⟨i1, i2, i3, i4, i5⟩ hK
    have hKK := Lib.hid hK
    clear hK
    gi_wp2
    exact hKK.out _ _ ((KeepsOthers.alloc _ _).from _) (Kt.of_below (below1 W _) i5.size i4.lt) ⟨i1.keep (below1 W _), i2.keep (below1 W _), i3.keep (below1 W _), i4.keep (below1 W _), below_more i5 (Nat.le_refl _) (below1 W _)⟩ ⟨W.heap.size, i4.lt, IVar.new W _ _ _, rfl⟩
  case body =>
    rintro l pre x a' W hl ⟨r, hr⟩ ⟨i1, i2, i3, i4, i5⟩ ⟨Bx, hBx, bX, rfl⟩ hlt
    have hxn : x.1 < n := by rw [HN.out.2]; exact x.lt
    have hd0 := Lib.hid (HD.out (fun h => by have := x.lt; rw [h] at this; simp at this))
    have hxL : x.1 < L.length := by have := trm_len L; have := HN.out.2; omega
    rcases i3 with ⟨h0, -⟩ | ⟨b0, rfl, hb0, P⟩
    · omega
    obtain ⟨hb1, hb2⟩ := HA.out b0 rfl
    obtain ⟨-, -, -, -, -, hI⟩ := HCL.out x.1 hxL
    have HI := Lib.hid hI
    obtain ⟨q, Eq⟩ : ∃ q, Hid (qD (co L x.1) d = q) := ⟨_, Lib.hid rfl⟩
    obtain ⟨r', Er⟩ : ∃ r, Hid (rD (co L x.1) d = r) := ⟨_, Lib.hid rfl⟩
    obtain ⟨x1, x2⟩ := id i1
    obtain ⟨x3, x4⟩ := id bX
    have x5 : W.cell? ⟨bl, 0, none⟩ = some (.slice (some ⟨b0, 0, none⟩) n n) := i2
    have hxi : (x.1 : Int) < (n : Int) := by omega
    have hx0 : (0 : Int) ≤ (x.1 : Int) := by omega
    clear hI
    gi_wp2
    refine region_in_round (S := (fun W' => W'.cell? ⟨w.heap.size, 0, none⟩ = some (.bool gd) ∧ W'.cell? ⟨w.heap.size, 1, none⟩ = some (.string sd) ∧ W'.cell? ⟨bl, 0, none⟩ = some (.slice (some ⟨b0, 0, none⟩) n n) ∧ W'.cell? ⟨Bx, 0, none⟩ = some (.bool (g x.1)) ∧ W'.cell? ⟨Bx, 1, none⟩ = some (.string (s x.1)))) (by kernel_rfl) (all_plain (by kernel_rfl)) (by rintro ⟨_, _, h⟩; exact h) ?_ (fun hHeld => ?_)
    · exact ⟨x1, x2, x5, x3, x4⟩
    refine wpAnyH_take (i := 0) (v := ?_) rfl (by kernel_rfl) (by kernel_rfl) (by kernel_rfl) (fun _ _ _ h => h) (Or.inl ⟨by rfl, ?_⟩) (by assumption) ?_
    rotate_left
    · intro w hSw
      (try dsimp only at hSw)
      go_simp
      all_goals with_reducible rfl
    (try simp only [Act.put, List.setIfInBounds_toArray, List.set_cons_zero, List.set_cons_succ])
    refine wpAnyH_take (i := 1) (v := ?_) rfl (by kernel_rfl) (by kernel_rfl) (by kernel_rfl) (fun _ _ _ h => h) (Or.inl ⟨by rfl, ?_⟩) (by assumption) ?_
    rotate_left
    · intro w hSw
      (try dsimp only at hSw)
      go_simp
      all_goals with_reducible rfl
    (try simp only [Act.put, List.setIfInBounds_toArray, List.set_cons_zero, List.set_cons_succ])
    refine wpAnyH_take (i := 2) (v := ?_) rfl (by kernel_rfl) (by kernel_rfl) (by kernel_rfl) (fun _ _ _ h => h) (Or.inl ⟨by rfl, ?_⟩) (by assumption) ?_
    rotate_left
    · intro w hSw
      (try dsimp only at hSw)
      go_simp
      all_goals with_reducible rfl
    (try simp only [Act.put, List.setIfInBounds_toArray, List.set_cons_zero, List.set_cons_succ])
    refine wpAnyH_take (i := 3) (v := ?_) rfl (by kernel_rfl) (by kernel_rfl) (by kernel_rfl) (fun _ _ _ h => h) (Or.inl ⟨by rfl, ?_⟩) (by assumption) ?_
    rotate_left
    · intro w hSw
      (try dsimp only at hSw)
      go_simp
      all_goals with_reducible rfl
    (try simp only [Act.put, List.setIfInBounds_toArray, List.set_cons_zero, List.set_cons_succ])
    refine wpAnyH_ready (rs := [4]) (by kernel_rfl) (by simp) ?_
    refine AllReadyH.cons rfl (fun K hK => ?_) AllReadyH.nil
    go_simp
    go_at_call 90; refine (ediv_eq HI.out H2.out hd0.out Eq.out Er.out).mono ?_; rintro e W5 ⟨rfl, b5⟩; have b5 := below_more (Below.refl W.heap.size W).drew (Nat.le_refl _) b5; have P5 := P.keep b5; obtain ⟨p1, p2, p3, p4⟩ := P5.cell hxn
    go_wp2_with fail
    refine hK.out _ _ ?_ (fun hHeld => ?_)
    · (try dsimp only)
      exact ⟨cell_keep x1 b5, cell_keep x2 b5, cell_keep x5 b5, cell_keep x3 b5, cell_keep x4 b5⟩
    clear hK K
    (try simp only [Act.put, List.setIfInBounds_toArray, List.set_cons_zero, List.set_cons_succ])
    refine wpAnyH_take (i := 5) (v := ?_) rfl (by kernel_rfl) (by kernel_rfl) (by kernel_rfl) (fun _ _ _ h => h) (Or.inl ⟨by rfl, ?_⟩) (by assumption) ?_
    rotate_left
    · intro w hSw
      (try dsimp only at hSw)
      go_simp
      all_goals with_reducible rfl
    (try simp only [Act.put, List.setIfInBounds_toArray, List.set_cons_zero, List.set_cons_succ])
    refine wpAnyH_take (i := 6) (v := ?_) rfl (by kernel_rfl) (by kernel_rfl) (by kernel_rfl) (fun _ _ _ h => h) (Or.inl ⟨by rfl, ?_⟩) (by assumption) ?_
    rotate_left
    · intro w hSw
      (try dsimp only at hSw)
      go_simp
      all_goals with_reducible rfl
    (try simp only [Act.put, List.setIfInBounds_toArray, List.set_cons_zero, List.set_cons_succ])
    refine wpAnyH_take (i := 7) (v := ?_) rfl (by kernel_rfl) (by kernel_rfl) (by kernel_rfl) (fun _ _ _ h => h) (Or.inl ⟨by rfl, ?_⟩) (by assumption) ?_
    rotate_left
    · intro w hSw
      (try dsimp only at hSw)
      go_simp
      all_goals with_reducible rfl
    (try simp only [Act.put, List.setIfInBounds_toArray, List.set_cons_zero, List.set_cons_succ])
    refine wpAnyH_take (i := 8) (v := ?_) rfl (by kernel_rfl) (by kernel_rfl) (by kernel_rfl) (fun _ _ _ h => h) (Or.inl ⟨by rfl, ?_⟩) (by assumption) ?_
    rotate_left
    · intro w hSw
      (try dsimp only at hSw)
      go_simp
      all_goals with_reducible rfl
    (try simp only [Act.put, List.setIfInBounds_toArray, List.set_cons_zero, List.set_cons_succ])
    refine wpAnyH_take (i := 9) (v := ?_) rfl (by kernel_rfl) (by kernel_rfl) (by kernel_rfl) (fun _ _ _ h => h) (Or.inl ⟨by rfl, ?_⟩) (by assumption) ?_
    rotate_left
    · intro w hSw
      (try dsimp only at hSw)
      go_simp
      all_goals with_reducible rfl
    (try simp only [Act.put, List.setIfInBounds_toArray, List.set_cons_zero, List.set_cons_succ])
    refine wpAnyH_ready (rs := [10]) (by kernel_rfl) (by simp) ?_
    refine AllReadyH.cons rfl (fun K hK => ?_) AllReadyH.nil
    go_simp
    refine hK.out _ _ ?_ (fun hHeld => ?_)
    · (try dsimp only)
      exact ⟨(((i1.keep b5).far (a := ⟨b0, x.1 * 2, none⟩) (by dsimp only; omega) _).far (a := ⟨b0, x.1 * 2 + 1, none⟩) (by dsimp only; omega) _).1, (((i1.keep b5).far (a := ⟨b0, x.1 * 2, none⟩) (by dsimp only; omega) _).far (a := ⟨b0, x.1 * 2 + 1, none⟩) (by dsimp only; omega) _).2, ((i2.keep b5).far (a := ⟨b0, x.1 * 2, none⟩) (by dsimp only; omega) _).far (a := ⟨b0, x.1 * 2 + 1, none⟩) (by dsimp only; omega) _, (((bX.keep b5).far (a := ⟨b0, x.1 * 2, none⟩) (by dsimp only; omega) _).far (a := ⟨b0, x.1 * 2 + 1, none⟩) (by dsimp only; omega) _).1, (((bX.keep b5).far (a := ⟨b0, x.1 * 2, none⟩) (by dsimp only; omega) _).far (a := ⟨b0, x.1 * 2 + 1, none⟩) (by dsimp only; omega) _).2⟩
    clear hK K
    (try simp only [Act.put, List.setIfInBounds_toArray, List.set_cons_zero, List.set_cons_succ])
    refine wpAnyH_done (by kernel_rfl) ?_ _
    have HS := Lib.hid (P5.set x.1 (sg q) (mg q))
    refine (show KeepsFrom W4.heap.size W _ ∧ Kt w.heap.size (bl + 1) W _ ∧ _ from ⟨((others_of_below b5).trans ((KeepsOthers.setCell _ _ _).trans (KeepsOthers.setCell _ _ _))).from _, ((Kt.of_below b5 i5.size i4.lt).set (a := ⟨b0, x.1 * 2, none⟩) hb0 (by dsimp only; omega) _).set (a := ⟨b0, x.1 * 2 + 1, none⟩) hb0 (by dsimp only; omega) _, ((i1.keep b5).far (a := ⟨b0, x.1 * 2, none⟩) (by dsimp only; omega) _).far (a := ⟨b0, x.1 * 2 + 1, none⟩) (by dsimp only; omega) _, ((i2.keep b5).far (a := ⟨b0, x.1 * 2, none⟩) (by dsimp only; omega) _).far (a := ⟨b0, x.1 * 2 + 1, none⟩) (by dsimp only; omega) _, .inr ⟨b0, rfl, hb0, ?_⟩, ((i4.keep b5).far (a := ⟨b0, x.1 * 2, none⟩) (by dsimp only; omega) _).far (a := ⟨b0, x.1 * 2 + 1, none⟩) (by dsimp only; omega) _, ((below_more i5 (Nat.le_refl _) b5).setCell (p := ⟨b0, x.1 * 2, none⟩) hb0 _).setCell (p := ⟨b0, x.1 * 2 + 1, none⟩) hb0 _⟩)
    rw [got_snoc, got_snoc]
    show PRow _ b0 n (upd2 _ x.1 (sg (qD (co L x.1) d))) (upd2 _ x.1 (mg (qD (co L x.1) d)))
    rw [Eq.out]
    exact HS.out
  case done =>
    rintro D xs W hD rfl ⟨i1, i2, i3, i4, i5⟩ hK
    have x5 : W.cell? ⟨bl, 0, none⟩ = some (.slice A0 n n) := i2
    gi_wp2
    refine ⟨by simp, .inl ⟨_, _, rfl, run_takeDeferred hK, ?_⟩⟩
    have R5 := i3.kept (grownBy_putObj' W D (.deferred none)) (fun r e => by cases e; exact ⟨_, hK, rfl⟩)
    have B5 := below_put i5 D (Nat.le_trans B4.size hD) (.deferred none)
    have hd0 : ∀ i, i < n → d ≠ 0 := fun i hi => HD.out (fun h => by have := HN.out.2; rw [h] at this; simp at this; omega)
    exact ⟨.slice A0 n n, by simp [results, Tryz.results97, go_sem], _, rfl, R5.poly (by rw [HN.out.1, HN.out.2]) (fun i hi => by
      rw [got_all _ _ (fun j hj => by rw [hj, qD_zero (hd0 i hi)]; exact sg_zero), got_all _ _ (fun j hj => by rw [hj, qD_zero (hd0 i hi)]; exact mg_zero), HO.out i]
      exact ⟨rfl, rfl⟩), B5⟩
  case stop =>
    rintro D cc pre W _ _ h _
    exact h.elim
end Go.Proofs.YtgcogpfmhmmgdaaGreatDoor
