/- Plain facts on quotients that are rounded down: there is one alone. No condition. What integer.Div returns for the divisor 0. A range over a function whose rounds all go on to their end: the statement, and one round. No condition. -/
import Derived.Test.YtcljkdninmldiaaGreatDoorQ20
import Derived.Test.YtcljkdninmldiaaGreatDoorQ23
import Derived.Deep.RegionHeld3
import Derived.Deep.DeepCutAuto
import Derived.Test.YtcljkdninmldiaaGreatDoorQ18
import Derived.RangeFuncNested
import Derived.RangeFuncBound
import Derived.RangeFuncCalls
import Derived.RangeFuncLeaves
import Derived.Shelf.Abstract
import Derived.Shelf.RegionOpen
import Derived.WalkKit
import Derived.OwnWalkIn
import Derived.TacticsInMore
import Derived.LoopNIn
import Derived.LoopIn

namespace Go.Proofs.YtcljkdninmldiaaGreatDoor
open Go.RowKit

theorem dq_true {N M : Nat} (h : M ≠ 0) : dq true N M * M = N + dr true N M ∧ dr true N M < M := by
  have h1 := Nat.div_add_mod N M
  have h2 := Nat.mod_lt N (show M > 0 by omega)
  unfold dq dr
  by_cases h0 : N % M = 0
  · rw [if_neg (by simp [h0]), if_neg (by simp [h0]), Nat.mul_comm]; omega
  · rw [if_pos ⟨rfl, h0⟩, if_pos ⟨rfl, h0⟩, Nat.add_mul, Nat.one_mul, Nat.mul_comm]; omega
theorem dq_false {N M : Nat} (h : M ≠ 0) : dq false N M * M + dr false N M = N ∧ dr false N M < M := by
  have h1 := Nat.div_add_mod N M
  have h2 := Nat.mod_lt N (show M > 0 by omega)
  unfold dq dr
  rw [if_neg (by simp), if_neg (by simp), Nat.mul_comm]; omega
/-- The quotient and the rest. -/
theorem qD_spec {a b : Int} (h : b ≠ 0) : qD a b * b + rD a b = a ∧ (0 < b → 0 ≤ rD a b ∧ rD a b < b) ∧ (b < 0 → b < rD a b ∧ rD a b ≤ 0) := by
  have hb : b.natAbs ≠ 0 := by omega
  obtain ⟨t1, t2⟩ := dq_true (N := a.natAbs) hb
  obtain ⟨f1, f2⟩ := dq_false (N := a.natAbs) hb
  have t1' : ((dq true a.natAbs b.natAbs : Nat) : Int) * (b.natAbs : Int) = (a.natAbs : Int) + ((dr true a.natAbs b.natAbs : Nat) : Int) := by exact_mod_cast t1
  have f1' : ((dq false a.natAbs b.natAbs : Nat) : Int) * (b.natAbs : Int) + ((dr false a.natAbs b.natAbs : Nat) : Int) = (a.natAbs : Int) := by exact_mod_cast f1
  unfold qD rD
  by_cases ha0 : a < 0 <;> by_cases hb0 : b < 0
  · have eb : (b.natAbs : Int) = -b := by omega
    have ea : (a.natAbs : Int) = -a := by omega
    rw [show sg a = true from decide_eq_true ha0, show sg b = true from decide_eq_true hb0]
    simp only [bne_self_eq_false, Bool.false_eq_true, if_false, if_true]
    rw [eb, ea, Int.mul_neg] at f1'
    generalize dq false a.natAbs b.natAbs = qf at *
    generalize dr false a.natAbs b.natAbs = rf at *
    generalize (qf : Int) * b = p at *
    clear t1 t1' t2 f1
    omega
  · have eb : (b.natAbs : Int) = b := by omega
    have ea : (a.natAbs : Int) = -a := by omega
    rw [show sg a = true from decide_eq_true ha0, show sg b = false from decide_eq_false hb0]
    simp only [Bool.true_bne, Bool.not_false, if_true, Bool.false_eq_true, if_false]
    rw [eb, ea] at t1'
    rw [Int.neg_mul]
    generalize dq true a.natAbs b.natAbs = qf at *
    generalize dr true a.natAbs b.natAbs = rf at *
    generalize (qf : Int) * b = p at *
    clear f1 f1' f2 t1
    omega
  · have eb : (b.natAbs : Int) = -b := by omega
    have ea : (a.natAbs : Int) = a := by omega
    rw [show sg a = false from decide_eq_false ha0, show sg b = true from decide_eq_true hb0]
    simp only [Bool.false_bne, if_true]
    rw [eb, ea, Int.mul_neg] at t1'
    rw [Int.neg_mul]
    generalize dq true a.natAbs b.natAbs = qf at *
    generalize dr true a.natAbs b.natAbs = rf at *
    generalize (qf : Int) * b = p at *
    clear f1 f1' f2 t1
    omega
  · have eb : (b.natAbs : Int) = b := by omega
    have ea : (a.natAbs : Int) = a := by omega
    rw [show sg a = false from decide_eq_false ha0, show sg b = false from decide_eq_false hb0]
    simp only [bne_self_eq_false, Bool.false_eq_true, if_false]
    rw [eb, ea] at f1'
    generalize dq false a.natAbs b.natAbs = qf at *
    generalize dr false a.natAbs b.natAbs = rf at *
    generalize (qf : Int) * b = p at *
    clear t1 t1' t2 f1
    omega
theorem div_one {a b q r q' r' : Int} (h1 : q * b + r = a) (h2 : q' * b + r' = a) (hr : (0 < b → 0 ≤ r ∧ r < b) ∧ (b < 0 → b < r ∧ r ≤ 0)) (hr' : (0 < b → 0 ≤ r' ∧ r' < b) ∧ (b < 0 → b < r' ∧ r' ≤ 0)) (hb : b ≠ 0) : q = q' ∧ r = r' := by
  have h3 : (q - q') * b = r' - r := by rw [Int.sub_mul]; omega
  have h4 : q - q' = 0 := by
    rcases Int.lt_trichotomy (q - q') 0 with h | h | h
    · exfalso
      rcases Int.lt_or_lt_of_ne hb with hb0 | hb0
      · have h5 : -1 * b ≤ (q - q') * b := Int.mul_le_mul_of_nonpos_right (by omega) (by omega)
        have := hr.2 hb0; have := hr'.2 hb0; omega
      · have h5 : (q - q') * b ≤ -1 * b := Int.mul_le_mul_of_nonneg_right (by omega) (by omega)
        have := hr.1 hb0; have := hr'.1 hb0; omega
    · exact h
    · exfalso
      rcases Int.lt_or_lt_of_ne hb with hb0 | hb0
      · have h5 : (q - q') * b ≤ 1 * b := Int.mul_le_mul_of_nonpos_right (by omega) (by omega)
        have := hr.2 hb0; have := hr'.2 hb0; omega
      · have h5 : 1 * b ≤ (q - q') * b := Int.mul_le_mul_of_nonneg_right (by omega) (by omega)
        have := hr.1 hb0; have := hr'.1 hb0; omega
  rw [h4] at h3
  omega
/-- The machine's quotient, rounded down. -/
theorem qD_mach {a b : Int} (h : b ≠ 0) :
    qD a b = (if a.tmod b ≠ 0 ∧ (decide (a.tmod b < 0) != decide (b < 0)) = true then a.tdiv b - 1 else a.tdiv b) ∧
    rD a b = (if a.tmod b ≠ 0 ∧ (decide (a.tmod b < 0) != decide (b < 0)) = true then a.tmod b + b else a.tmod b) := by
  obtain ⟨s1, s2, s3⟩ := qD_spec (a := a) h
  have e := Int.mul_tdiv_add_tmod a b
  have hl : (a.tmod b).natAbs < b.natAbs := by
    have := Int.natAbs_tmod a b
    rw [this]
    exact Nat.mod_lt _ (by omega)
  rw [Int.mul_comm] at e
  split
  · rename_i hc
    obtain ⟨c1, c2⟩ := hc
    refine div_one (a := a) (b := b) s1 ?_ ⟨s2, s3⟩ ?_ h
    · rw [Int.sub_mul, Int.one_mul]; omega
    · by_cases hx : a.tmod b < 0 <;> by_cases hy : b < 0 <;> simp [hx, hy] at c2 <;> constructor <;> intro h9 <;> omega
  · rename_i hc
    refine div_one (a := a) (b := b) s1 e ⟨s2, s3⟩ ?_ h
    by_cases hz : a.tmod b = 0
    · rw [hz]; constructor <;> intro h9 <;> omega
    · by_cases hx : a.tmod b < 0 <;> by_cases hy : b < 0 <;> simp [hx, hy, hz] at hc <;> constructor <;> intro h9 <;> omega
end Go.Proofs.YtcljkdninmldiaaGreatDoor

namespace Go.Proofs.YtcljkdninmldiaaGreatDoor
open Go.RowKit

set_option maxRecDepth 100000 in
set_option maxHeartbeats 3200000 in
theorem idiv_zero (v1 v2 : Value) (z1 : Int) (k1 k2 : Nat) (w : World) (h1 : IsInt v1 z1 k1) (h2 : IsInt v2 0 k2) :
    Calls Tryz.prog 42 #[v1, v2] w fun e w' => e = .returned (.tuple #[.agg #[.bool false, .string ⟨#[]⟩], .agg #[.bool false, .string ⟨#[]⟩], .int .i64 9]) ∧ Below w.heap.size w w' := by
  obtain ⟨na, sa, rfl, hz1, hs1, hk1, hkk1⟩ := h1
  obtain ⟨nb, sb, rfl, hz2, hs2, hk2, hkk2⟩ := h2
  have HM : Hid (vB sb.data.toList = 0) := by show _ = _; rw [← natAbs_zv nb sb, hz2]; rfl
  clear hz1 hz2 hk1 hk2
  have S00 := boxes2 w 23 na nb sa sb
  have hb := (below3 w (.cells #[.bool na, .string sa] 23) (.cells #[.bool nb, .string sb] 23) (.cells #[.bool false, .string ⟨#[]⟩] 23)).alloc (by rw [World.size_alloc, World.size_alloc, World.size_alloc]; omega) (.cells #[.bool false, .string ⟨#[]⟩] 23)
  have r5 := (ResCell.new ((w.alloc (.cells #[.bool na, .string sa] 23)).alloc (.cells #[.bool nb, .string sb] 23)) 23).keep (below1 _ (.cells #[.bool false, .string ⟨#[]⟩] 23))
  have r6 := ResCell.new (((w.alloc (.cells #[.bool na, .string sa] 23)).alloc (.cells #[.bool nb, .string sb] 23)).alloc (.cells #[.bool false, .string ⟨#[]⟩] 23)) 23
  rw [World.size_alloc, World.size_alloc] at r5
  rw [World.size_alloc, World.size_alloc, World.size_alloc] at r6
  have e5 : w.heap.size + 1 + 1 ≠ w.heap.size + 1 + 1 + 1 := by omega
  have e6 : w.heap.size + 1 + 1 + 1 ≠ w.heap.size + 1 + 1 := by omega
  go_enter Tryz.func42, Tryz.ntmps42
  go_upto_region 1 with fail
  go_region_held3 (fun W => W.cell? ⟨w.heap.size, 0, none⟩ = some (.bool na) ∧ W.cell? ⟨w.heap.size, 1, none⟩ = some (.string sa) ∧ W.cell? ⟨w.heap.size + 1, 0, none⟩ = some (.bool nb) ∧ W.cell? ⟨w.heap.size + 1, 1, none⟩ = some (.string sb)) (first | exact keep4 (by assumption) (by assumption) | exact keep4aa S00 | go_keep)
    (first
      | (go_at_call_of 48 (Value.agg #[Value.bool na, Value.string sa]); refine (magnitude_any na sa _ (by omega)).mono ?_; rintro e W1 ⟨A1, n1, c1, rfl, i1, b1⟩)
      | (go_at_call_of 48 (Value.agg #[Value.bool nb, Value.string sb]); refine (magnitude_any nb sb _ (by omega)).mono ?_; rintro e W2 ⟨A2, n2, c2, rfl, i2, b2⟩; rw [HM.out] at i2; obtain rfl := (nat_none i2).2 rfl; obtain ⟨r1, r2, r3, r4⟩ := (r5.drew.keep b1).keep b2; obtain ⟨q1, q2, q3, q4⟩ := (r6.drew.keep b1).keep b2))
  all_goals
    go_wp2
    exact bodyPost_ret (v := .tuple #[.agg #[.bool false, .string ⟨#[]⟩], .agg #[.bool false, .string ⟨#[]⟩], .int .i64 9]) (by simp [results, Tryz.results42, go_sem, r1, r2, q1, q2]) rfl ⟨rfl, below_more2 (below_more2 (below_more hb.drew (Nat.le_refl _) b1) (Nat.le_refl _) b2 (by show w.heap.size ≤ w.heap.size + 1 + 1; omega) (by show w.heap.size ≤ w.heap.size + 1 + 1; omega)) (Nat.le_refl _) (Below.refl _ _) (by show w.heap.size ≤ w.heap.size + 1 + 1 + 1; omega) (by show w.heap.size ≤ w.heap.size + 1 + 1 + 1; omega)⟩
end Go.Proofs.YtcljkdninmldiaaGreatDoor

namespace Go.Proofs.YtcljkdninmldiaaGreatDoor
open Go.RowKit Go.Shelf

/-- The record of a loop over a function. -/
def lrec (fn : FuncId) (tmps : Array Value) (ps : Array Tmp) (assign body : Code) (D : Nat) (st : LoopState) : Loop := { state := st, pending := none, fn, tmps, params := ps, assign, body, defers := D }

/-- One round that goes on to its end. -/
theorem round_on {F : Fence} {m : Nat} {P : Program} {l : Nat} {fn : FuncId} {tmps : Array Value} {ps : Array Tmp} {assign body : Code} {D : Nat} {W : World} {args : Array Value} {R : World → Prop} {REC : Loop}
    (hREC : REC = lrec fn tmps ps assign body D .ready) (hfn : F.fn fn) (hl : W.heap[l]? = some (.loop REC)) (hs : args.size = ps.size)
    (h : ∀ RB, assign.wpIn (F.inRound l) m P (Exit.then (fun a₁ w₁ => w₁.heap[l]? = some (.loop REC) ∧
          body.wpIn (F.inRound l) m P (fun e _ W' => e = .normal ∧ W'.heap[l]? = some (.loop RB) ∧ R (W'.putObj l (.loop REC))) a₁ (w₁.putObj l (.loop RB))) (fun _ _ _ => False))
        { tmps := (ps.zip args).foldl (fun t (p, v) => t.setIfInBounds p v) tmps, defers := [] } W) :
    YieldAt F m P l args W fun e W' => e = .returned (.bool true) ∧ R W' := by
  subst hREC
  refine ⟨fn, _, assign, body, run_yield hl hs, roundIn_of_wpIn hfn (wpIn_mono (h (lrec fn tmps ps assign body D .busy)) ?_)⟩
  intro e a₁ w₁ h1
  cases e with
  | normal =>
    obtain ⟨hl1, hb⟩ := h1
    refine ⟨_, run_beginRound hl1 rfl, wpIn_mono hb ?_⟩
    rintro e a₂ W' ⟨rfl, hl2, hR⟩
    exact ⟨_, _, run_endRound none hl2, rfl, hR⟩
  | exit id => exact h1.elim
  | goto t => exact h1.elim
  | ret => exact h1.elim
  | panic ch => exact h1.elim
  | outgrown => exact h1.elim

/-- The statement. -/
theorem rangeFunc_on {F : Fence} {n : Nat} {P : Program} {g : Operand} {ps : Array Tmp} {assign body : Code} {Q : Exit → Act → World → Prop} {a : Act} {w : World} {R : FuncId → World → Prop}
    (hro : F.round = none) (h1 : 1 ≤ n) {gf : Nat} {lb : Array Value} (hg : a.eval g = .func (.func gf) #[] lb) (hFg : F.fn gf) (eg : ∀ args w, (callFunc gf args).run P w = .ok (.enter gf args) w)
    (hcall : ∀ fn, F.fn fn → ∀ REC, REC = lrec fn a.tmps ps assign body w.heap.size .ready → CallsIn F (n - 1) P gf (#[.func (.yield (w.heap.size + 1)) #[] #[]] ++ lb) ((w.alloc (.deferred (some []))).alloc (.loop REC)) fun e W' =>
      (∃ v, e = .returned v) ∧ W'.heap[w.heap.size + 1]? = some (.loop REC) ∧ R fn W')
    (hdone : ∀ fn W o r, R fn W → W.heap[w.heap.size + 1]? = some (.loop r) → Q .normal { a with defers := { target := .collected w.heap.size, args := #[] } :: a.defers } (W.putObj (w.heap.size + 1) o)) :
    (Code.rangeFunc g ps assign body).wpIn F n P Q a w := by
  refine wpIn_rangeFunc fun fn hfn => ?_
  rw [hro]
  have hc := hcall fn hfn _ rfl
  have he := run_enterLoop_outer (P := P) (w := w) fn a.tmps ps assign body
  have hd := hdone fn
  generalize hW : (w.alloc (.deferred (some []))).alloc (.loop (lrec fn a.tmps ps assign body w.heap.size .ready)) = W1 at hc
  have he' : (Instr.enterLoop fn a.tmps ps assign body none).run P w = .ok (w.heap.size + 1, [{ target := .collected w.heap.size, args := #[] }]) W1 := by rw [← hW]; exact he
  clear he hW
  refine ⟨w.heap.size + 1, [{ target := .collected w.heap.size, args := #[] }], W1, { target := .fn (.func gf) lb, args := #[.func (.yield (w.heap.size + 1)) #[] #[]] }, W1, gf,
    #[.func (.yield (w.heap.size + 1)) #[] #[]] ++ lb, W1, he', ?_, ?_, ?_, fun _ => h1, ?_⟩
  · simp only [resolve, hg]
    simp [go_sem]
  · intro f' hf'; simp [Target.leads] at hf'; subst hf'; exact hFg
  · simp [invoke, go_sem, eg]
  · refine hc.mono ?_
    rintro e W' ⟨⟨v, rfl⟩, hl, hR⟩
    have hend := run_endLoop (P := P) hl (by simp [lrec])
    exact ⟨none, _, hend, hd W' _ _ hR hl⟩
end Go.Proofs.YtcljkdninmldiaaGreatDoor
