/- Plain: the states and the edges of the graph of a list of forbidden words. No condition. What slices.Compare of two rows of three numbers, graph.compareAs and graph.compareEdges return. No condition. A region that draws its order, in the body of a range over a function: by the laws of regions outside of one. No condition. -/
import Derived.Test.YtkpmapeapiodcaaDoorQ01
import Derived.Test.YtkpmapeapiodcaaDoorQ02
import Derived.RangeFuncNested
import Derived.RangeFuncBound
import Derived.RangeFuncCalls
import Derived.RangeFuncLeaves
import Derived.Shelf.Abstract
import Derived.Shelf.RegionOpen
import Derived.WalkKit
import Derived.OwnWalkIn
import Derived.TacticsInMore
import Derived.LoopNIn
import Derived.LoopIn
import Derived.OrdersIn
import Derived.OrdersHeld
import Derived.Deep.RegionHeld3

namespace Go.Proofs.YtkpmapeapiodcaaDoor
set_option linter.unusedSimpArgs false
set_option linter.unusedVariables false

def IsSt (l : List Wd) (x : Wd) : Prop := x = [] ∨ ∃ w ∈ l, x <+: w ∧ x ≠ w ∧ alwB l x = true
def StL (l S : List Wd) : Prop := S.Pairwise ltW ∧ ∀ x, x ∈ S ↔ IsSt l x
theorem StL.uniq {l S T : List Wd} (h1 : StL l S) (h2 : StL l T) : S = T := ascU ltW_irr ltW_tr h1.1 h2.1 (fun x => by rw [h1.2, h2.2])
theorem StL.nil {l S : List Wd} (h : StL l S) : [] ∈ S := (h.2 []).2 (.inl rfl)
def sufW (S : List Wd) : Wd → Wd
  | [] => []
  | x :: r => if (x :: r) ∈ S then x :: r else sufW S r
theorem sufW_mem {S : List Wd} (h : [] ∈ S) : ∀ w, sufW S w ∈ S
  | [] => h
  | x :: r => by
    unfold sufW
    split
    · assumption
    · exact sufW_mem h r
def edW (lt : Nat → UInt8) (l S : List Wd) (s a : Nat) : Option E3 :=
  if alwB l (S.getD s [] ++ [lt a]) = true then some ((s : Int), (a : Int), ((S.idxOf (sufW S (S.getD s [] ++ [lt a])) : Nat) : Int)) else none
def rowW (lt : Nat → UInt8) (l S : List Wd) (s q : Nat) : List E3 := (List.range q).filterMap (edW lt l S s)
def edgW (lt : Nat → UInt8) (l S : List Wd) (n q : Nat) : List E3 := (List.range n).flatMap fun s => rowW lt l S s q
theorem rowW_succ (lt : Nat → UInt8) (l S : List Wd) (s q : Nat) : rowW lt l S s (q + 1) = rowW lt l S s q ++ (edW lt l S s q).toList := by
  unfold rowW
  rw [List.range_succ, List.filterMap_append]
  congr 1
theorem edgW_succ (lt : Nat → UInt8) (l S : List Wd) (n q : Nat) : edgW lt l S (n + 1) q = edgW lt l S n q ++ rowW lt l S n q := by
  unfold edgW
  rw [List.range_succ, List.flatMap_append]
  simp
theorem rowW_len (lt : Nat → UInt8) (l S : List Wd) (s q : Nat) : (rowW lt l S s q).length ≤ q := by
  have h : (rowW lt l S s q).length ≤ (List.range q).length := List.length_filterMap_le _ _
  rwa [List.length_range] at h
theorem edgW_len (lt : Nat → UInt8) (l S : List Wd) (q : Nat) : ∀ n, (edgW lt l S n q).length ≤ n * q
  | 0 => by rw [Nat.zero_mul]; exact Nat.le_refl 0
  | n + 1 => by
    rw [edgW_succ, List.length_append, Nat.succ_mul]
    have h1 := edgW_len lt l S q n
    have h2 := rowW_len lt l S n q
    omega
theorem edW_form {lt : Nat → UInt8} {l S : List Wd} {s a : Nat} {e : E3} (h : edW lt l S s a = some e) : e.1 = (s : Int) ∧ e.2.1 = (a : Int) ∧ e.2.2 = ((S.idxOf (sufW S (S.getD s [] ++ [lt a])) : Nat) : Int) := by
  unfold edW at h
  split at h
  · injection h with h; subst h; exact ⟨rfl, rfl, rfl⟩
  · cases h
theorem rowW_mem {lt : Nat → UInt8} {l S : List Wd} {s q : Nat} {e : E3} (h : e ∈ rowW lt l S s q) : ∃ a, a < q ∧ edW lt l S s a = some e := by
  unfold rowW at h
  obtain ⟨a, ha, h1⟩ := List.mem_filterMap.1 h
  exact ⟨a, List.mem_range.1 ha, h1⟩
theorem edgW_mem {lt : Nat → UInt8} {l S : List Wd} {n q : Nat} {e : E3} (h : e ∈ edgW lt l S n q) : ∃ s a, s < n ∧ a < q ∧ edW lt l S s a = some e := by
  unfold edgW at h
  obtain ⟨s, hs, h1⟩ := List.mem_flatMap.1 h
  obtain ⟨a, ha, h2⟩ := rowW_mem h1
  exact ⟨s, a, List.mem_range.1 hs, ha, h2⟩
theorem rowW_pw (lt : Nat → UInt8) (l S : List Wd) (s : Nat) : ∀ q, (rowW lt l S s q).Pairwise (fun a b => ltE a b = true)
  | 0 => List.Pairwise.nil
  | q + 1 => by
    rw [rowW_succ]
    refine List.pairwise_append.2 ⟨rowW_pw lt l S s q, ?_, fun x hx y hy => ?_⟩
    · cases edW lt l S s q with
      | none => exact List.Pairwise.nil
      | some e => exact List.pairwise_singleton _ _
    · obtain ⟨a, ha, h1⟩ := rowW_mem hx
      have h2 : edW lt l S s q = some y := by
        cases h3 : edW lt l S s q with
        | none => rw [h3] at hy; cases hy
        | some e => rw [h3] at hy; simp at hy; subst hy; rfl
      obtain ⟨p1, p2, -⟩ := edW_form h1
      obtain ⟨p3, p4, -⟩ := edW_form h2
      rw [ltE_iff]
      omega
theorem edgW_pw (lt : Nat → UInt8) (l S : List Wd) (q : Nat) : ∀ n, (edgW lt l S n q).Pairwise (fun a b => ltE a b = true)
  | 0 => List.Pairwise.nil
  | n + 1 => by
    rw [edgW_succ]
    refine List.pairwise_append.2 ⟨edgW_pw lt l S q n, rowW_pw lt l S n q, fun x hx y hy => ?_⟩
    obtain ⟨s, a, hs, ha, h1⟩ := edgW_mem hx
    obtain ⟨b, hb, h2⟩ := rowW_mem hy
    obtain ⟨p1, p2, -⟩ := edW_form h1
    obtain ⟨p3, p4, -⟩ := edW_form h2
    rw [ltE_iff]
    omega
theorem edgW_vg {lt : Nat → UInt8} {l S : List Wd} {q : Nat} (hS : [] ∈ S) (hq : 1 ≤ q) (hq2 : q ≤ 16) (hn : S.length ≤ 64) : VG (q : Int) (S.length : Int) (edgW lt l S S.length q) := by
  have hl := edgW_len lt l S q S.length
  have hm : S.length * q ≤ 64 * 16 := Nat.mul_le_mul hn hq2
  refine ⟨by omega, by omega, by omega, by omega, by omega, fun e he => ?_, edgW_pw lt l S q S.length⟩
  obtain ⟨s, a, hs, ha, h1⟩ := edgW_mem he
  obtain ⟨p1, p2, p3⟩ := edW_form h1
  have h2 := List.idxOf_lt_length_iff.2 (sufW_mem hS (S.getD s [] ++ [lt a]))
  rw [okE_iff]
  omega
end Go.Proofs.YtkpmapeapiodcaaDoor

namespace Go.Proofs.YtkpmapeapiodcaaDoor
open Go.RowKit
set_option linter.unusedSimpArgs false
set_option linter.unusedVariables false

def numE (e : E3) : Nat → Int
  | 0 => e.1
  | 1 => e.2.1
  | _ => e.2.2
theorem cmpI_zero {x y : Int} (h : x = y) : cmpI x y = 0 := by subst h; unfold cmpI; rw [if_neg (by omega), if_neg (by omega)]
theorem cmpI_ne {x y : Int} (h : x ≠ y) : (cmpI x y != 0) = true := by
  unfold cmpI
  by_cases h1 : x < y
  · rw [if_pos h1]; rfl
  · rw [if_neg h1, if_pos (by omega)]; rfl
theorem cmpE_at {a b : E3} {k : Nat} (hk : k < 3) (h : ∀ j, j < k → numE a j = numE b j) (h2 : numE a k ≠ numE b k) : cmpE a b = cmpI (numE a k) (numE b k) := by
  unfold cmpE cmpI
  have e1 : ltE a b = decide (numE a k < numE b k) := by
    unfold ltE
    rw [decide_eq_decide]
    rcases (show k = 0 ∨ k = 1 ∨ k = 2 by omega) with rfl | rfl | rfl
    · have : a.1 ≠ b.1 := h2
      show _ ↔ a.1 < b.1
      omega
    · have := h 0 (by omega)
      have e : a.1 = b.1 := this
      have : a.2.1 ≠ b.2.1 := h2
      show _ ↔ a.2.1 < b.2.1
      omega
    · have e : a.1 = b.1 := h 0 (by omega)
      have e2 : a.2.1 = b.2.1 := h 1 (by omega)
      have : a.2.2 ≠ b.2.2 := h2
      show _ ↔ a.2.2 < b.2.2
      omega
  have e2 : ltE b a = decide (numE b k < numE a k) := by
    unfold ltE
    rw [decide_eq_decide]
    rcases (show k = 0 ∨ k = 1 ∨ k = 2 by omega) with rfl | rfl | rfl
    · have : a.1 ≠ b.1 := h2
      show _ ↔ b.1 < a.1
      omega
    · have e : a.1 = b.1 := h 0 (by omega)
      have : a.2.1 ≠ b.2.1 := h2
      show _ ↔ b.2.1 < a.2.1
      omega
    · have e : a.1 = b.1 := h 0 (by omega)
      have e2 : a.2.1 = b.2.1 := h 1 (by omega)
      have : a.2.2 ≠ b.2.2 := h2
      show _ ↔ b.2.2 < a.2.2
      omega
  rw [e1, e2]
  simp only [decide_eq_true_eq]
theorem cmpE_same {a b : E3} (h : ∀ j, j < 3 → numE a j = numE b j) : cmpE a b = 0 := by
  have e : a = b := e3_ext (h 0 (by omega)) (h 1 (by omega)) (h 2 (by omega))
  subst e
  unfold cmpE
  rw [ltE_irrefl]; rfl
set_option maxRecDepth 100000 in
set_option maxHeartbeats 1600000 in
theorem compare3_any (a b : E3) (p q : Nat) (w : World) (ha : ∀ j, j < 3 → w.cell? ⟨p, j, none⟩ = some (.int .i64 (numE a j))) (hb : ∀ j, j < 3 → w.cell? ⟨q, j, none⟩ = some (.int .i64 (numE b j))) :
    Calls Tryd.prog 113 #[.slice (some ⟨p, 0, none⟩) 3 3, .slice (some ⟨q, 0, none⟩) 3 3] w fun e w' => e = .returned (.int .i64 (cmpE a b)) ∧ w' = w := by
  have HA := Lib.hid ha
  have HB := Lib.hid hb
  clear ha hb
  go_enter Tryd.func113, Tryd.ntmps113
  go_wp2_with fail
  go_loopg [11] 3 (fun k s11 wx => wx = w ∧ ∃ i : Nat, i + k = 3 ∧ s11 = .int .i64 (i : Int) ∧ Hid (∀ j, j < i → numE a j = numE b j))
  case atStart => exact ⟨rfl, 0, by omega, rfl, Lib.hid (fun j hj => absurd hj (by omega))⟩
  case round =>
    obtain ⟨rfl, i, hi, rfl, HI⟩ := hrel
    rcases gk with _ | k
    · obtain rfl : i = 3 := by omega
      have HE := Lib.hid (cmpE_same HI.out)
      clear HI
      go_wp2_with fail
      go_ret
      exact ⟨by rw [HE.out]; rfl, rfl⟩
    · have ca := HA.out i (by omega)
      have cb := HB.out i (by omega)
      have il : decide ((3 : Int) ≤ (i : Int)) = false := decide_eq_false (by omega)
      by_cases h : numE a i = numE b i
      · have HI2 := Lib.hid (show ∀ j, j < i + 1 → numE a j = numE b j from fun j hj => by
          rcases (show j < i ∨ j = i by omega) with h1 | rfl
          · exact HI.out j h1
          · exact h)
        have HC := Lib.hid (cmpI_zero h)
        clear HI h
        generalize numE a i = x at *
        generalize numE b i = y at *
        go_wp2_with (go_at_call 49; (with_reducible refine (cmpInt_any _ _ _).mono ?_); rintro e W1 ⟨rfl, hW⟩; (rw [hW, HC.out]); (clear hW))
        go_roundg k
        case measure => omega
        case rel => exact ⟨rfl, i + 1, by omega, by go_num, HI2⟩
      · have HE := Lib.hid (cmpE_at (by omega) HI.out h)
        have hn := cmpI_ne h
        clear HI h
        generalize numE a i = x at *
        generalize numE b i = y at *
        generalize hz : cmpI x y = z at *
        have HZ := Lib.hid hz
        clear hz
        go_wp2_with (go_at_call 49; (with_reducible refine (cmpInt_any _ _ _).mono ?_); rintro e W1 ⟨rfl, hW⟩; (rw [hW, HZ.out]); (clear hW))
        go_ret
        exact ⟨by rw [HE.out]; rfl, rfl⟩
abbrev arrE (e : E3) : Value := .agg #[.int .i64 e.1, .int .i64 e.2.1, .int .i64 e.2.2]
set_option maxRecDepth 100000 in
theorem numbers_any (e : E3) (w : World) : Calls Tryd.prog 110 #[edgV e] w fun en w' => en = .returned (arrE e) ∧ Below w.heap.size w w' := by
  obtain ⟨x, y, z⟩ := e
  go_enter Tryd.func110, Tryd.ntmps110
  go_wp2
  exact bodyPost_ret (v := arrE (x, y, z)) (by simp [results, Tryd.results110, go_sem]) rfl ⟨rfl, (below1 w _).alloc (by rw [World.size_alloc]; omega) _⟩
end Go.Proofs.YtkpmapeapiodcaaDoor

namespace Go.Proofs.YtkpmapeapiodcaaDoor
open Go.RowKit

def wpAnyT (P : Program) (md : Region.Mode) (ops : Array Oper) (Q : Exit → Act → World → Prop) (T : Array Bool → World → Prop) : Nat → Array Bool → Act → World → Prop
  | 0, listed, a, w => Region.ready md ops listed = [] ∧ Q .normal a w
  | fuel + 1, listed, a, w =>
    (Region.ready md ops listed = [] → Q .normal a w) ∧
    ∀ i ∈ Region.ready md ops listed, wpOp P ops Q i (fun a' w' => T (listed.setIfInBounds i true) w' ∧ wpAnyT P md ops Q T fuel (listed.setIfInBounds i true) a' w') a w

section
variable {P : Program} {md : Region.Mode} {ops : Array Oper} {Q : Exit → Act → World → Prop} {T : Array Bool → World → Prop} {S : World → Prop}

theorem any_of_T : ∀ (fuel : Nat) (listed : Array Bool) (a : Act) (w : World), wpAnyT P md ops Q T fuel listed a w → wpAny P md ops Q fuel listed a w
  | 0, _, _, _, h => h
  | fuel + 1, _, _, _, h => ⟨h.1, fun i hi => wpOp_mono (fun a' w' h' => any_of_T fuel _ a' w' h'.2) (h.2 i hi)⟩

theorem firstT {i s : Nat} {oi : Oper} {v : Value} (hi : ops[i]? = some oi) (hsel : ∀ (j : Nat) (o : Oper) cs b, ops[j]? = some o → o.op ≠ .select cs b)
    (hQ : ∀ c a w, Q (.panic c) (a.put oi.dst v) w → Q (.panic c) a w)
    (hdep : ∃ os, ops[s]? = some os ∧ ∃ e ∈ os.after, Region.binds md e = true ∧ e.on = i) (his : i ≠ s)
    (hT : ∀ l w, l.getD s true = false → T l w → S w) (hind : ∀ l w, T (l.setIfInBounds i true) w ↔ T l w) :
    ∀ (fuel : Nat) (listed : Array Bool) (a : Act) (w : World),
      (∀ j oj, ops[j]? = some oj → j ≠ i → listed.getD j true = false → (∀ e ∈ oj.after, Region.binds md e = true → e.on ≠ i) → oi.apart ops oj = true) →
      i ∈ Region.ready md ops listed → YieldsIf P ops S oi v a → listed.getD s true = false → T listed w →
      wpAnyT P md ops Q T fuel (listed.setIfInBounds i true) (a.put oi.dst v) w → wpAnyT P md ops Q T (fuel + 1) listed a w := by
  intro fuel
  induction fuel with
  | zero =>
    intro listed a w _ hr hy hs hTw H
    refine ⟨fun h => (by rw [h] at hr; cases hr), fun j hj => ?_⟩
    by_cases hji : j = i
    · subst hji; exact hy.wpOp hi (hT _ _ hs hTw) ⟨(hind _ _).2 hTw, H⟩
    · have := ready_mono hj hji
      rw [H.1] at this
      cases this
  | succ fuel ih =>
    intro listed a w hfree hr hy hs hTw H
    refine ⟨fun h => (by rw [h] at hr; cases hr), fun j hj => ?_⟩
    by_cases hji : j = i
    · subst hji; exact hy.wpOp hi (hT _ _ hs hTw) ⟨(hind _ _).2 hTw, H⟩
    · have h1 := H.2 j (ready_mono hj hji)
      obtain ⟨hjun, oj, hoj, hall⟩ := mem_ready.1 hj
      have hnot : ∀ e ∈ oj.after, Region.binds md e = true → e.on ≠ i := fun e he hb heq => by
        have k1 := hall e he hb
        have k0 := (mem_ready.1 hr).1
        rw [heq] at k1
        rcases Nat.lt_or_ge i listed.size with h' | h'
        · simp [h'] at k0 k1; rw [k0] at k1; cases k1
        · simp [Array.getElem?_eq_none h'] at k1
      have hjs : j ≠ s := fun e => by
        obtain ⟨os, hos, e1, he1, hb1, hon⟩ := hdep
        subst e
        rw [hoj] at hos
        injection hos with hos
        subst hos
        exact hnot e1 he1 hb1 hon
      have h2 := wpOp_putIf hoj (hfree j oj hoj hji hjun hnot) (fun cs b => hsel i oi cs b hi) (fun cs b => hsel j oj cs b hoj) hQ hy h1
      refine wpOp_mono (fun a' w' h3 => ?_) h2
      have hcomm := Array.setIfInBounds_comm (xs := listed) true true (Ne.symm hji)
      obtain ⟨h4, h5, h6⟩ := h3
      rw [hcomm] at h5 h6
      have h7 := (hind _ _).1 h5
      refine ⟨h7, ih (listed.setIfInBounds j true) a' w' (fun k ok hk hki hun hno => hfree k ok hk hki ?_ hno) (ready_mono hr (Ne.symm hji)) h4 ?_ h7 h6⟩
      · by_cases hjk : j = k
        · subst hjk; exact hjun
        · rw [getD_set_ne true hjk] at hun; exact hun
      · rw [getD_set_ne true hjs]; exact hs

def T2 (s1 s2 : Nat) (S1 S2 : World → Prop) (l : Array Bool) (w : World) : Prop := (l.getD s1 true = false → S1 w) ∧ (l.getD s2 true = false → S2 w)
def waitsFor (md : Region.Mode) (ops : Array Oper) (s i : Nat) : Bool := match ops[s]? with
  | some o => o.after.any fun e => Region.binds md e && e.on == i
  | none => false
theorem waitsFor_spec {s i : Nat} (h : waitsFor md ops s i = true) : ∃ os, ops[s]? = some os ∧ ∃ e ∈ os.after, Region.binds md e = true ∧ e.on = i := by
  unfold waitsFor at h
  cases ho : ops[s]? with
  | none => rw [ho] at h; cases h
  | some o =>
    rw [ho] at h
    rw [Array.any_eq_true'] at h
    obtain ⟨e, he, h1⟩ := h
    rw [Bool.and_eq_true, beq_iff_eq] at h1
    exact ⟨o, rfl, e, he, h1.1, h1.2⟩
theorem T2_ind {s1 s2 i : Nat} {S1 S2 : World → Prop} (h1 : i ≠ s1) (h2 : i ≠ s2) (l : Array Bool) (w : World) : T2 s1 s2 S1 S2 (l.setIfInBounds i true) w ↔ T2 s1 s2 S1 S2 l w := by
  unfold T2
  rw [getD_set_ne true h1, getD_set_ne true h2]
theorem take1 {i s1 s2 : Nat} {S1 S2 : World → Prop} {oi : Oper} {v : Value} {fuel : Nat} {listed : Array Bool} {a : Act} {w : World} (hi : ops[i]? = some oi)
    (hs : Region.noSelect ops = true) (hf : Region.free md ops listed i = true) (hr : (Region.ready md ops listed).contains i = true) (hw : waitsFor md ops s1 i = true) (hl : listed.getD s1 true = false) (h1 : i ≠ s1) (h2 : i ≠ s2)
    (hQ : ∀ c a w, Q (.panic c) (a.put oi.dst v) w → Q (.panic c) a w) (hy : YieldsIf P ops S1 oi v a) (hS1 : S1 w) (hS2 : S2 w)
    (h : wpAnyT P md ops Q (T2 s1 s2 S1 S2) fuel (listed.setIfInBounds i true) (a.put oi.dst v) w) : wpAnyT P md ops Q (T2 s1 s2 S1 S2) (fuel + 1) listed a w :=
  firstT hi (Region.noSelect_spec hs) hQ (waitsFor_spec hw) h1 (fun _ _ hl hT => hT.1 hl) (T2_ind h1 h2) fuel listed a w (Region.free_spec hi hf) (by simpa using hr) hy hl ⟨fun _ => hS1, fun _ => hS2⟩ h
theorem stepT {i : Nat} {o : Oper} {fuel : Nat} {listed : Array Bool} {a : Act} {w : World} (hr : Region.ready md ops listed = [i]) (ho : ops[i]? = some o)
    (h : ∀ K' : Act → World → Prop, Shut (∀ a w, T (listed.setIfInBounds i true) w → wpAnyT P md ops Q T fuel (listed.setIfInBounds i true) a w → K' a w) → if Region.wanted o (yielded ops a.tmps) = true then Oper.wp P o a w K' Q else K' (a.put o.dst undef) w) :
    wpAnyT P md ops Q T (fuel + 1) listed a w :=
  by
  refine ⟨fun h0 => (by rw [hr] at h0; cases h0), fun j hj => ?_⟩
  rw [hr] at hj
  obtain rfl : j = i := by simpa using hj
  exact wpOp_step ho (fun K' hK => h K' (fun a w hS hW => hK a w ⟨hS, hW⟩))
theorem doneT {listed : Array Bool} {a : Act} {w : World} (hr : Region.ready md ops listed = []) (h : Q .normal a w) : ∀ fuel, wpAnyT P md ops Q T fuel listed a w
  | 0 => ⟨hr, h⟩
  | _ + 1 => ⟨fun _ => h, by rw [hr]; simp⟩
theorem regionT {id : Nat} {a : Act} {w : World} (hm : P.follows .mixedOrders = true) (h : wpAnyT P .any ops Q T ops.size (Array.replicate ops.size false) a w.drew) : (Code.region id ops true).wp P Q a w :=
  wp_region_any hm (any_of_T _ _ _ _ h)
end
end Go.Proofs.YtkpmapeapiodcaaDoor
