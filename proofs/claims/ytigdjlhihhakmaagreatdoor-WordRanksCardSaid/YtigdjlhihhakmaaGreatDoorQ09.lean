/- What integers are as values of the program, by their value in Lean. No condition. A range over a function whose rounds all go on to their end: the statement, and one round. No condition. A region that draws its order, in the body of a range over a function: by the laws of regions outside of one. No condition. -/
import Derived.Test.YtigdjlhihhakmaaGreatDoorQ06
import Derived.Test.YtigdjlhihhakmaaGreatDoorQ07
import Derived.Test.YtigdjlhihhakmaaGreatDoorQ08
import Derived.Deep.RegionHeld3
import Derived.RangeFuncNested
import Derived.RangeFuncBound
import Derived.RangeFuncCalls
import Derived.RangeFuncLeaves
import Derived.Shelf.Abstract
import Derived.Shelf.RegionOpen
import Derived.WalkKit
import Derived.OwnWalkIn
import Derived.TacticsInMore
import Derived.LoopNIn
import Derived.LoopIn
import Derived.OrdersIn
import Derived.OrdersHeld

namespace Go.Proofs.YtigdjlhihhakmaaGreatDoor
open Go.RowKit

/-- The value of an api.Int. -/
def zv (ng : Bool) (s : ByteArray) : Int := if ng then -(vB s.data.toList : Int) else (vB s.data.toList : Int)
/-- The sign and the bytes of the canonical api.Int with the value z. -/
def sg (z : Int) : Bool := decide (z < 0)
def mg (z : Int) : ByteArray := ⟨(bytesOf z.natAbs).toArray⟩
/-- v is an api.Int with the value z, of at most k digits to the base 2^32. -/
def IsInt (v : Value) (z : Int) (k : Nat) : Prop := ∃ ng s, v = .agg #[.bool ng, .string s] ∧ zv ng s = z ∧ s.size ≤ 1000000000 ∧ z.natAbs < 4294967296 ^ k ∧ k ≤ 10000000
def IntOut (w : World) (z : Int) (e : Ending) (w' : World) : Prop := e = .returned (.agg #[.bool (sg z), .string (mg z)]) ∧ Below w.heap.size w w'

theorem vB_mg (z : Int) : vB (mg z).data.toList = z.natAbs := vB_bytesOf _
theorem zv_mg (z : Int) : zv (sg z) (mg z) = z := by
  unfold zv sg
  rw [vB_mg]
  by_cases h : z < 0
  · simp [h]; omega
  · simp [h]; omega
theorem bytesOf_len {n k : Nat} (h : n < 256 ^ k) : (bytesOf n).length ≤ k := by
  rcases Nat.lt_or_ge k (bytesOf n).length with h1 | h1
  · exfalso
    have hh : (bytesOf n).head? ≠ some 0 := by
      have := head_trim (bytesOf n)
      rwa [trim_bytes, vB_bytesOf] at this
    have h2 := vB_len hh (by omega)
    rw [vB_bytesOf] at h2
    have h3 : (256 : Nat) ^ k ≤ 256 ^ ((bytesOf n).length - 1) := Nat.pow_le_pow_right (by omega) (by omega)
    omega
  · exact h1
theorem b256 (k : Nat) : (4294967296 : Nat) ^ k = 256 ^ (4 * k) := by rw [show (4294967296 : Nat) = 256 ^ 4 by rfl, ← Nat.pow_mul]
theorem mg_size {z : Int} {k : Nat} (h : z.natAbs < 4294967296 ^ k) : (mg z).size ≤ 4 * k := by
  rw [b256] at h
  exact bytesOf_len h
theorem isInt_mg {z : Int} {k : Nat} (h : z.natAbs < 4294967296 ^ k) (hk : k ≤ 10000000) : IsInt (.agg #[.bool (sg z), .string (mg z)]) z k :=
  ⟨_, _, rfl, zv_mg z, by have := mg_size h; omega, h, hk⟩
theorem ivN_eq (ng : Bool) (N : Nat) (z : Int) (hz : z = if ng then -(N : Int) else N) : ivN ng N = .agg #[.bool (sg z), .string (mg z)] := by
  subst hz
  have hn : (if ng then -(N : Int) else (N : Int)).natAbs = N := by cases ng <;> simp
  unfold ivN iv mg
  rw [hn]
  have hs : (ng && !(bytesOf N).isEmpty) = sg (if ng then -(N : Int) else (N : Int)) := by
    unfold sg
    by_cases h0 : N = 0
    · subst h0; rw [bytesOf_zero]; cases ng <;> simp
    · have : bytesOf N ≠ [] := fun e => h0 (bytesOf_nil.1 e)
      have h2 : (bytesOf N).isEmpty = false := by simpa using this
      rw [h2]
      cases ng <;> simp <;> omega
  rw [hs]
/-- The length of a number by its size. -/
theorem IsNat.len {w : World} {A : Option Addr} {n c N k : Nat} (h : IsNat w A n c N) (hN : N < 4294967296 ^ k) : n ≤ k := by
  obtain ⟨_, _, f, _, _, tf, hv⟩ := h
  rcases Nat.lt_or_ge k n with h1 | h1
  · exfalso
    have h2 := val_ge (f := f) (n := n) (by omega) (tf (by omega))
    have h3 : 4294967296 ^ k ≤ 4294967296 ^ (n - 1) := Nat.pow_le_pow_right (by omega) (by omega)
    omega
  · exact h1
theorem cell_keep {Wp W1 : World} {p : Addr} {v : Value} (h : Wp.cell? p = some v) (hb : Below Wp.heap.size Wp W1) : W1.cell? p = some v := (hb.cell (World.block_lt_of_cell? _ _ h)).trans h
theorem keep4 {Wp W1 : World} {p1 p2 p3 p4 : Addr} {v1 v2 v3 v4 : Value} (hb : Below Wp.heap.size Wp W1)
    (h : Wp.cell? p1 = some v1 ∧ Wp.cell? p2 = some v2 ∧ Wp.cell? p3 = some v3 ∧ Wp.cell? p4 = some v4) :
    W1.cell? p1 = some v1 ∧ W1.cell? p2 = some v2 ∧ W1.cell? p3 = some v3 ∧ W1.cell? p4 = some v4 :=
  ⟨cell_keep h.1 hb, cell_keep h.2.1 hb, cell_keep h.2.2.1 hb, cell_keep h.2.2.2 hb⟩
/-- A struct of the type api.Int that is new. -/
def ResCell (w : World) (b : Nat) : Prop := w.cell? ⟨b, 0, none⟩ = some (.bool false) ∧ w.cell? ⟨b, 1, none⟩ = some (.string ⟨#[]⟩) ∧ w.frozen? ⟨b, 0, none⟩ = false ∧ w.frozen? ⟨b, 1, none⟩ = false
theorem frozen_keep {Wp W1 : World} {p : Addr} {v : Value} {b : Bool} (h : Wp.cell? p = some v) (hf : Wp.frozen? p = b) (hb : Below Wp.heap.size Wp W1) : W1.frozen? p = b := (hb.frozen (World.block_lt_of_cell? _ _ h)).trans hf
theorem ResCell.keep {w w' : World} {b : Nat} (h : ResCell w b) (hb : Below w.heap.size w w') : ResCell w' b :=
  ⟨cell_keep h.1 hb, cell_keep h.2.1 hb, frozen_keep h.1 h.2.2.1 hb, frozen_keep h.2.1 h.2.2.2 hb⟩
theorem ResCell.new (w : World) (t : TypeId) : ResCell (w.alloc (.cells #[.bool false, .string ⟨#[]⟩] t)) w.heap.size := by
  refine ⟨?_, ?_, ?_, ?_⟩ <;> simp [go_sem]
theorem ResCell.drew {w : World} {b : Nat} (h : ResCell w b) : ResCell w.drew b := h
theorem below1 (w : World) (o1 : Obj) : Below w.heap.size w (w.alloc o1) := (Below.refl _ w).alloc (Nat.le_refl _) _
theorem below2 (w : World) (o1 o2 : Obj) : Below w.heap.size w ((w.alloc o1).alloc o2) := (below1 w o1).alloc (by rw [World.size_alloc]; omega) _
theorem below3 (w : World) (o1 o2 o3 : Obj) : Below w.heap.size w (((w.alloc o1).alloc o2).alloc o3) := (below2 w o1 o2).alloc (by rw [World.size_alloc, World.size_alloc]; omega) _
/-- A call more. -/
theorem below_more {B : Nat} {w w1 w2 : World} (h : Below B w w1) (hB : B ≤ w.heap.size) (k : Below w1.heap.size w1 w2) : Below B w w2 := h.trans (k.mono (by have := h.size; omega))
theorem below_more2 {B : Nat} {w w1 w2 : World} {p q : Addr} {u v : Value} (h : Below B w w1) (hB : B ≤ w.heap.size) (k : Below w1.heap.size w1 w2) (hp : B ≤ p.block) (hq : B ≤ q.block) : Below B w ((w2.setCell p u).setCell q v) :=
  ((below_more h hB k).setCell hp _).setCell hq _
theorem sum_bound {a b k1 k2 : Nat} (h1 : a < 4294967296 ^ k1) (h2 : b < 4294967296 ^ k2) : a + b < 4294967296 ^ (k1 + k2 + 1) := by
  have e1 : (4294967296 : Nat) ^ k1 ≤ 4294967296 ^ (k1 + k2) := Nat.pow_le_pow_right (by omega) (by omega)
  have e2 : (4294967296 : Nat) ^ k2 ≤ 4294967296 ^ (k1 + k2) := Nat.pow_le_pow_right (by omega) (by omega)
  rw [Nat.pow_succ]
  generalize (4294967296 : Nat) ^ (k1 + k2) = P at *
  omega
theorem prod_bound {a b k1 k2 : Nat} (h1 : a < 4294967296 ^ k1) (h2 : b < 4294967296 ^ k2) : a * b < 4294967296 ^ (k1 + k2) := by
  rw [Nat.pow_add]
  exact Nat.mul_lt_mul'' h1 h2
theorem zv_same (g : Bool) (sa sb : ByteArray) : zv g sa + zv g sb = if g then -((vB sa.data.toList + vB sb.data.toList : Nat) : Int) else ((vB sa.data.toList + vB sb.data.toList : Nat) : Int) := by
  unfold zv; cases g <;> simp; omega
theorem zv_lt (g : Bool) (sa sb : ByteArray) (h : vB sa.data.toList < vB sb.data.toList) : zv (!g) sa + zv g sb = if g then -((vB sb.data.toList - vB sa.data.toList : Nat) : Int) else ((vB sb.data.toList - vB sa.data.toList : Nat) : Int) := by
  unfold zv; cases g <;> simp <;> omega
theorem zv_ge (g : Bool) (sa sb : ByteArray) (h : ¬ vB sa.data.toList < vB sb.data.toList) : zv g sa + zv (!g) sb = if g then -((vB sa.data.toList - vB sb.data.toList : Nat) : Int) else ((vB sa.data.toList - vB sb.data.toList : Nat) : Int) := by
  unfold zv; cases g <;> simp <;> omega
theorem stz_eq (s : ByteArray) : stz s = bytesOf (vB s.data.toList) := trim_bytes _
theorem can_any (ng : Bool) (s : ByteArray) (w : World) : Calls Tryz.prog 65 #[.agg #[.bool ng, .string s]] w (IntOut w (zv ng s)) :=
  (canonical_any ng s w).mono fun e w' ⟨he, hb⟩ => ⟨by rw [he, stz_eq]; exact congrArg Ending.returned (ivN_eq ng _ _ rfl), hb⟩
theorem zv_neg (ng : Bool) (s : ByteArray) : zv (!ng) s = - zv ng s := by unfold zv; cases ng <;> simp
theorem zv_mul (na nb : Bool) (sa sb : ByteArray) : zv na sa * zv nb sb = if (na != nb) then -((vB sa.data.toList * vB sb.data.toList : Nat) : Int) else ((vB sa.data.toList * vB sb.data.toList : Nat) : Int) := by
  unfold zv; cases na <;> cases nb <;> simp [Int.mul_neg, Int.neg_mul]
theorem cell_alloc_keep {W : World} {p : Addr} {v : Value} (h : W.cell? p = some v) (o : Obj) : (W.alloc o).cell? p = some v := (World.cell?_alloc_lt W o p (World.block_lt_of_cell? _ _ h)).trans h
theorem keep4a {W : World} {o : Obj} {p1 p2 p3 p4 : Addr} {v1 v2 v3 v4 : Value}
    (h : W.cell? p1 = some v1 ∧ W.cell? p2 = some v2 ∧ W.cell? p3 = some v3 ∧ W.cell? p4 = some v4) :
    (W.alloc o).cell? p1 = some v1 ∧ (W.alloc o).cell? p2 = some v2 ∧ (W.alloc o).cell? p3 = some v3 ∧ (W.alloc o).cell? p4 = some v4 :=
  ⟨cell_alloc_keep h.1 o, cell_alloc_keep h.2.1 o, cell_alloc_keep h.2.2.1 o, cell_alloc_keep h.2.2.2 o⟩
theorem keep4aa {W : World} {o o2 : Obj} {p1 p2 p3 p4 : Addr} {v1 v2 v3 v4 : Value}
    (h : W.cell? p1 = some v1 ∧ W.cell? p2 = some v2 ∧ W.cell? p3 = some v3 ∧ W.cell? p4 = some v4) :
    ((W.alloc o).alloc o2).cell? p1 = some v1 ∧ ((W.alloc o).alloc o2).cell? p2 = some v2 ∧ ((W.alloc o).alloc o2).cell? p3 = some v3 ∧ ((W.alloc o).alloc o2).cell? p4 = some v4 := keep4a (keep4a h)
theorem bcell {W w1 : World} (hb : Below W.heap.size W w1) : (∀ b o, b < W.heap.size → w1.cell? ⟨b, o, none⟩ = W.cell? ⟨b, o, none⟩) ∧ (∀ b o, b < W.heap.size → w1.frozen? ⟨b, o, none⟩ = W.frozen? ⟨b, o, none⟩) :=
  ⟨fun b o h => hb.cell (p := ⟨b, o, none⟩) h, fun b o h => hb.frozen (p := ⟨b, o, none⟩) h⟩
abbrev Boxes2 (W : World) (b : Nat) (na nb : Bool) (sa sb : ByteArray) : Prop :=
  W.cell? ⟨b, 0, none⟩ = some (.bool na) ∧ W.cell? ⟨b, 1, none⟩ = some (.string sa) ∧ W.cell? ⟨b + 1, 0, none⟩ = some (.bool nb) ∧ W.cell? ⟨b + 1, 1, none⟩ = some (.string sb)
theorem boxes2 (w : World) (t : TypeId) (na nb : Bool) (sa sb : ByteArray) :
    (((w.alloc (.cells #[.bool na, .string sa] t)).alloc (.cells #[.bool nb, .string sb] t))).cell? ⟨w.heap.size, 0, none⟩ = some (.bool na) ∧
    (((w.alloc (.cells #[.bool na, .string sa] t)).alloc (.cells #[.bool nb, .string sb] t))).cell? ⟨w.heap.size, 1, none⟩ = some (.string sa) ∧
    (((w.alloc (.cells #[.bool na, .string sa] t)).alloc (.cells #[.bool nb, .string sb] t))).cell? ⟨w.heap.size + 1, 0, none⟩ = some (.bool nb) ∧
    (((w.alloc (.cells #[.bool na, .string sa] t)).alloc (.cells #[.bool nb, .string sb] t))).cell? ⟨w.heap.size + 1, 1, none⟩ = some (.string sb) := by
  refine ⟨?_, ?_, ?_, ?_⟩ <;> simp [go_sem]
theorem boxes_alloc {W : World} {o : Obj} {b : Nat} {na nb : Bool} {sa sb : ByteArray} (h : Boxes2 W b na nb sa sb) : Boxes2 (W.alloc o) b na nb sa sb := keep4a h
theorem boxes_drew {W : World} {b : Nat} {na nb : Bool} {sa sb : ByteArray} (h : Boxes2 W b na nb sa sb) : Boxes2 W.drew b na nb sa sb := h
theorem boxes_set {W : World} {p : Addr} {u : Value} {b : Nat} {na nb : Bool} {sa sb : ByteArray} (h : Boxes2 W b na nb sa sb) (h1 : p.block ≠ b) (h2 : p.block ≠ b + 1) : Boxes2 (W.setCell p u) b na nb sa sb := by
  refine ⟨?_, ?_, ?_, ?_⟩
  · rw [World.cell?_setCell_far _ _ _ _ (by exact h1)]; exact h.1
  · rw [World.cell?_setCell_far _ _ _ _ (by exact h1)]; exact h.2.1
  · rw [World.cell?_setCell_far _ _ _ _ (by exact h2)]; exact h.2.2.1
  · rw [World.cell?_setCell_far _ _ _ _ (by exact h2)]; exact h.2.2.2
theorem natAbs_zv (ng : Bool) (s : ByteArray) : (zv ng s).natAbs = vB s.data.toList := by unfold zv; cases ng <;> simp
end Go.Proofs.YtigdjlhihhakmaaGreatDoor

namespace Go.Proofs.YtigdjlhihhakmaaGreatDoor
open Go.RowKit Go.Shelf

/-- The record of a loop over a function. -/
def lrec (fn : FuncId) (tmps : Array Value) (ps : Array Tmp) (assign body : Code) (D : Nat) (st : LoopState) : Loop := { state := st, pending := none, fn, tmps, params := ps, assign, body, defers := D }

/-- One round that goes on to its end. -/
theorem round_on {F : Fence} {m : Nat} {P : Program} {l : Nat} {fn : FuncId} {tmps : Array Value} {ps : Array Tmp} {assign body : Code} {D : Nat} {W : World} {args : Array Value} {R : World → Prop} {REC : Loop}
    (hREC : REC = lrec fn tmps ps assign body D .ready) (hfn : F.fn fn) (hl : W.heap[l]? = some (.loop REC)) (hs : args.size = ps.size)
    (h : ∀ RB, assign.wpIn (F.inRound l) m P (Exit.then (fun a₁ w₁ => w₁.heap[l]? = some (.loop REC) ∧
          body.wpIn (F.inRound l) m P (fun e _ W' => e = .normal ∧ W'.heap[l]? = some (.loop RB) ∧ R (W'.putObj l (.loop REC))) a₁ (w₁.putObj l (.loop RB))) (fun _ _ _ => False))
        { tmps := (ps.zip args).foldl (fun t (p, v) => t.setIfInBounds p v) tmps, defers := [] } W) :
    YieldAt F m P l args W fun e W' => e = .returned (.bool true) ∧ R W' := by
  subst hREC
  refine ⟨fn, _, assign, body, run_yield hl hs, roundIn_of_wpIn hfn (wpIn_mono (h (lrec fn tmps ps assign body D .busy)) ?_)⟩
  intro e a₁ w₁ h1
  cases e with
  | normal =>
    obtain ⟨hl1, hb⟩ := h1
    refine ⟨_, run_beginRound hl1 rfl, wpIn_mono hb ?_⟩
    rintro e a₂ W' ⟨rfl, hl2, hR⟩
    exact ⟨_, _, run_endRound none hl2, rfl, hR⟩
  | exit id => exact h1.elim
  | goto t => exact h1.elim
  | ret => exact h1.elim
  | panic ch => exact h1.elim
  | outgrown => exact h1.elim

/-- The statement. -/
theorem rangeFunc_on {F : Fence} {n : Nat} {P : Program} {g : Operand} {ps : Array Tmp} {assign body : Code} {Q : Exit → Act → World → Prop} {a : Act} {w : World} {R : FuncId → World → Prop}
    (hro : F.round = none) (h1 : 1 ≤ n) {gf : Nat} {lb : Array Value} (hg : a.eval g = .func (.func gf) #[] lb) (hFg : F.fn gf) (eg : ∀ args w, (callFunc gf args).run P w = .ok (.enter gf args) w)
    (hcall : ∀ fn, F.fn fn → ∀ REC, REC = lrec fn a.tmps ps assign body w.heap.size .ready → CallsIn F (n - 1) P gf (#[.func (.yield (w.heap.size + 1)) #[] #[]] ++ lb) ((w.alloc (.deferred (some []))).alloc (.loop REC)) fun e W' =>
      (∃ v, e = .returned v) ∧ W'.heap[w.heap.size + 1]? = some (.loop REC) ∧ R fn W')
    (hdone : ∀ fn W o r, R fn W → W.heap[w.heap.size + 1]? = some (.loop r) → Q .normal { a with defers := { target := .collected w.heap.size, args := #[] } :: a.defers } (W.putObj (w.heap.size + 1) o)) :
    (Code.rangeFunc g ps assign body).wpIn F n P Q a w := by
  refine wpIn_rangeFunc fun fn hfn => ?_
  rw [hro]
  have hc := hcall fn hfn _ rfl
  have he := run_enterLoop_outer (P := P) (w := w) fn a.tmps ps assign body
  have hd := hdone fn
  generalize hW : (w.alloc (.deferred (some []))).alloc (.loop (lrec fn a.tmps ps assign body w.heap.size .ready)) = W1 at hc
  have he' : (Instr.enterLoop fn a.tmps ps assign body none).run P w = .ok (w.heap.size + 1, [{ target := .collected w.heap.size, args := #[] }]) W1 := by rw [← hW]; exact he
  clear he hW
  refine ⟨w.heap.size + 1, [{ target := .collected w.heap.size, args := #[] }], W1, { target := .fn (.func gf) lb, args := #[.func (.yield (w.heap.size + 1)) #[] #[]] }, W1, gf,
    #[.func (.yield (w.heap.size + 1)) #[] #[]] ++ lb, W1, he', ?_, ?_, ?_, fun _ => h1, ?_⟩
  · simp only [resolve, hg]
    simp [go_sem]
  · intro f' hf'; simp [Target.leads] at hf'; subst hf'; exact hFg
  · simp [invoke, go_sem, eg]
  · refine hc.mono ?_
    rintro e W' ⟨⟨v, rfl⟩, hl, hR⟩
    have hend := run_endLoop (P := P) hl (by simp [lrec])
    exact ⟨none, _, hend, hd W' _ _ hR hl⟩
end Go.Proofs.YtigdjlhihhakmaaGreatDoor

namespace Go.Proofs.YtigdjlhihhakmaaGreatDoor
open Go.RowKit

/-- No deferred call. -/
def plainOp (o : Oper) : Bool := match o.op with
  | .defer _ => false
  | _ => true
theorem row_in_round {l n : Nat} {P : Program} {row : String} {args : Array Value} {w : World} {R : Value → World → Prop} (h : Rows P row args w R) : RowsIn (Fence.wide.inRound l) n P row args w R := by
  have h' : RowsIn Fence.wide n P row args w R := fun c cs _ => let ⟨v, w', r, s⟩ := h c cs; ⟨v, w', r, stepsIn_wide.2 s⟩
  exact h'
theorem no_depth {l n : Nat} (e : (Fence.wide.inRound l).depth.isSome = true) : 1 ≤ n := by simp [Fence.inRound, Fence.wide] at e

theorem op_in_round {l n : Nat} {P : Program} {o : Oper} {a : Act} {w : World} {K : Act → World → Prop} {Q : Exit → Act → World → Prop} (hd : plainOp o = true) (h : o.wp P a w K Q) :
    o.wpIn (Fence.wide.inRound l) n P a w K Q := by
  unfold Oper.wp at h
  unfold Oper.wpIn
  refine ⟨fun _ _ => trivial, ?_⟩
  rw [show (Fence.wide.inRound l).round = some l from rfl, Oper.semAt_some l _ _ (fun c e => by unfold plainOp at hd; rw [e] at hd; cases hd)]
  generalize (execOp a.eval o).run P w = r at *
  cases r with
  | ok x w' =>
    cases x <;> simp only [Oper.upon, Oper.uponIn] at h ⊢
    all_goals first
      | exact h
      | exact ⟨no_depth, CallsIn.inRound l (callsIn_wide.2 h)⟩
      | exact ⟨no_depth, row_in_round h⟩
      | exact h.elim
  | halt x w' => cases x <;> simp only [Oper.upon, Oper.uponIn] at h ⊢ <;> exact h

theorem any_in_round {l n : Nat} {P : Program} {md : Region.Mode} {ops : Array Oper} {Q : Exit → Act → World → Prop} (hd : ∀ (i : Nat) o, ops[i]? = some o → plainOp o = true) (hq : ¬ LetsOut Q) :
    ∀ (fuel : Nat) (listed : Array Bool) (a : Act) (w : World), wpAny P md ops Q fuel listed a w → wpAnyIn (Fence.wide.inRound l) n P md ops Q fuel listed a w
  | 0, _, _, _, h => h
  | fuel + 1, _, _, _, h => ⟨h.1, fun i hi => by
    have h1 := h.2 i hi
    unfold wpOp at h1
    unfold wpOpIn
    cases ho : ops[i]? with
    | none => rw [ho] at h1; exact any_in_round hd hq fuel _ _ _ h1
    | some o =>
      rw [ho] at h1
      dsimp only at h1 ⊢
      split
      · rename_i hw
        rw [if_pos hw] at h1
        rcases h1 with h1 | h1
        · exact Oper.wpIn_mono (fun a w => any_in_round hd hq fuel _ a w) (op_in_round (hd i o ho) h1)
        · exact absurd h1.2 hq
      · rename_i hw
        rw [if_neg hw] at h1
        exact ⟨fun _ _ => trivial, any_in_round hd hq fuel _ _ _ h1⟩⟩

theorem region_in_round {l n : Nat} {P : Program} {id : Nat} {ops : Array Oper} {Q : Exit → Act → World → Prop} {S : World → Prop} {a : Act} {w : World} (hm : P.follows .mixedOrders = true)
    (hd : ∀ (i : Nat) o, ops[i]? = some o → plainOp o = true) (hq : ¬ LetsOut Q) (hS : S w.drew) (h : S w.drew → wpAnyH P .any ops Q S ops.size (Array.replicate ops.size false) a w.drew) :
    (Code.region id ops true).wpIn (Fence.wide.inRound l) n P Q a w :=
  wpIn_region_any hm (any_in_round hd hq _ _ _ _ (wpAny_of_held _ _ _ _ (h hS)))

/-- Whatever order is picked, T holding behind every operation: T may hang on what has come up, so that what a late store overwrites need hold before it alone. -/
def wpAnyT (P : Program) (md : Region.Mode) (ops : Array Oper) (Q : Exit → Act → World → Prop) (T : Array Bool → World → Prop) : Nat → Array Bool → Act → World → Prop
  | 0, listed, a, w => Region.ready md ops listed = [] ∧ Q .normal a w
  | fuel + 1, listed, a, w =>
    (Region.ready md ops listed = [] → Q .normal a w) ∧
    ∀ i ∈ Region.ready md ops listed, wpOp P ops Q i (fun a' w' => T (listed.setIfInBounds i true) w' ∧ wpAnyT P md ops Q T fuel (listed.setIfInBounds i true) a' w') a w

section
variable {P : Program} {md : Region.Mode} {ops : Array Oper} {Q : Exit → Act → World → Prop} {T : Array Bool → World → Prop} {S : World → Prop}

theorem any_of_T : ∀ (fuel : Nat) (listed : Array Bool) (a : Act) (w : World), wpAnyT P md ops Q T fuel listed a w → wpAny P md ops Q fuel listed a w
  | 0, _, _, _, h => h
  | fuel + 1, _, _, _, h => ⟨h.1, fun i hi => wpOp_mono (fun a' w' h' => any_of_T fuel _ a' w' h'.2) (h.2 i hi)⟩

/-- An operation i may be taken first while a later one, s, that waits for it has not come up. -/
theorem firstT {i s : Nat} {oi : Oper} {v : Value} (hi : ops[i]? = some oi) (hsel : ∀ (j : Nat) (o : Oper) cs b, ops[j]? = some o → o.op ≠ .select cs b)
    (hQ : ∀ c a w, Q (.panic c) (a.put oi.dst v) w → Q (.panic c) a w)
    (hdep : ∃ os, ops[s]? = some os ∧ ∃ e ∈ os.after, Region.binds md e = true ∧ e.on = i) (his : i ≠ s)
    (hT : ∀ l w, l.getD s true = false → T l w → S w) (hind : ∀ l w, T (l.setIfInBounds i true) w ↔ T l w) :
    ∀ (fuel : Nat) (listed : Array Bool) (a : Act) (w : World),
      (∀ j oj, ops[j]? = some oj → j ≠ i → listed.getD j true = false → (∀ e ∈ oj.after, Region.binds md e = true → e.on ≠ i) → oi.apart ops oj = true) →
      i ∈ Region.ready md ops listed → YieldsIf P ops S oi v a → listed.getD s true = false → T listed w →
      wpAnyT P md ops Q T fuel (listed.setIfInBounds i true) (a.put oi.dst v) w → wpAnyT P md ops Q T (fuel + 1) listed a w := by
  intro fuel
  induction fuel with
  | zero =>
    intro listed a w _ hr hy hs hTw H
    refine ⟨fun h => (by rw [h] at hr; cases hr), fun j hj => ?_⟩
    by_cases hji : j = i
    · subst hji; exact hy.wpOp hi (hT _ _ hs hTw) ⟨(hind _ _).2 hTw, H⟩
    · have := ready_mono hj hji
      rw [H.1] at this
      cases this
  | succ fuel ih =>
    intro listed a w hfree hr hy hs hTw H
    refine ⟨fun h => (by rw [h] at hr; cases hr), fun j hj => ?_⟩
    by_cases hji : j = i
    · subst hji; exact hy.wpOp hi (hT _ _ hs hTw) ⟨(hind _ _).2 hTw, H⟩
    · have h1 := H.2 j (ready_mono hj hji)
      obtain ⟨hjun, oj, hoj, hall⟩ := mem_ready.1 hj
      have hnot : ∀ e ∈ oj.after, Region.binds md e = true → e.on ≠ i := fun e he hb heq => by
        have k1 := hall e he hb
        have k0 := (mem_ready.1 hr).1
        rw [heq] at k1
        rcases Nat.lt_or_ge i listed.size with h' | h'
        · simp [h'] at k0 k1; rw [k0] at k1; cases k1
        · simp [Array.getElem?_eq_none h'] at k1
      have hjs : j ≠ s := fun e => by
        obtain ⟨os, hos, e1, he1, hb1, hon⟩ := hdep
        subst e
        rw [hoj] at hos
        injection hos with hos
        subst hos
        exact hnot e1 he1 hb1 hon
      have h2 := wpOp_putIf hoj (hfree j oj hoj hji hjun hnot) (fun cs b => hsel i oi cs b hi) (fun cs b => hsel j oj cs b hoj) hQ hy h1
      refine wpOp_mono (fun a' w' h3 => ?_) h2
      have hcomm := Array.setIfInBounds_comm (xs := listed) true true (Ne.symm hji)
      obtain ⟨h4, h5, h6⟩ := h3
      rw [hcomm] at h5 h6
      have h7 := (hind _ _).1 h5
      refine ⟨h7, ih (listed.setIfInBounds j true) a' w' (fun k ok hk hki hun hno => hfree k ok hk hki ?_ hno) (ready_mono hr (Ne.symm hji)) h4 ?_ h7 h6⟩
      · by_cases hjk : j = k
        · subst hjk; exact hjun
        · rw [getD_set_ne true hjk] at hun; exact hun
      · rw [getD_set_ne true hjs]; exact hs

/-- What holds till the operation s1, and what holds till s2. -/
def T2 (s1 s2 : Nat) (S1 S2 : World → Prop) (l : Array Bool) (w : World) : Prop := (l.getD s1 true = false → S1 w) ∧ (l.getD s2 true = false → S2 w)
def waitsFor (md : Region.Mode) (ops : Array Oper) (s i : Nat) : Bool := match ops[s]? with
  | some o => o.after.any fun e => Region.binds md e && e.on == i
  | none => false
theorem waitsFor_spec {s i : Nat} (h : waitsFor md ops s i = true) : ∃ os, ops[s]? = some os ∧ ∃ e ∈ os.after, Region.binds md e = true ∧ e.on = i := by
  unfold waitsFor at h
  cases ho : ops[s]? with
  | none => rw [ho] at h; cases h
  | some o =>
    rw [ho] at h
    rw [Array.any_eq_true'] at h
    obtain ⟨e, he, h1⟩ := h
    rw [Bool.and_eq_true, beq_iff_eq] at h1
    exact ⟨o, rfl, e, he, h1.1, h1.2⟩
theorem T2_ind {s1 s2 i : Nat} {S1 S2 : World → Prop} (h1 : i ≠ s1) (h2 : i ≠ s2) (l : Array Bool) (w : World) : T2 s1 s2 S1 S2 (l.setIfInBounds i true) w ↔ T2 s1 s2 S1 S2 l w := by
  unfold T2
  rw [getD_set_ne true h1, getD_set_ne true h2]
theorem take1 {i s1 s2 : Nat} {S1 S2 : World → Prop} {oi : Oper} {v : Value} {fuel : Nat} {listed : Array Bool} {a : Act} {w : World} (hi : ops[i]? = some oi)
    (hs : Region.noSelect ops = true) (hf : Region.free md ops listed i = true) (hr : (Region.ready md ops listed).contains i = true) (hw : waitsFor md ops s1 i = true) (hl : listed.getD s1 true = false) (h1 : i ≠ s1) (h2 : i ≠ s2)
    (hQ : ∀ c a w, Q (.panic c) (a.put oi.dst v) w → Q (.panic c) a w) (hy : YieldsIf P ops S1 oi v a) (hS1 : S1 w) (hS2 : S2 w)
    (h : wpAnyT P md ops Q (T2 s1 s2 S1 S2) fuel (listed.setIfInBounds i true) (a.put oi.dst v) w) : wpAnyT P md ops Q (T2 s1 s2 S1 S2) (fuel + 1) listed a w :=
  firstT hi (Region.noSelect_spec hs) hQ (waitsFor_spec hw) h1 (fun _ _ hl hT => hT.1 hl) (T2_ind h1 h2) fuel listed a w (Region.free_spec hi hf) (by simpa using hr) hy hl ⟨fun _ => hS1, fun _ => hS2⟩ h
theorem take2 {i s1 s2 : Nat} {S1 S2 : World → Prop} {oi : Oper} {v : Value} {fuel : Nat} {listed : Array Bool} {a : Act} {w : World} (hi : ops[i]? = some oi)
    (hs : Region.noSelect ops = true) (hf : Region.free md ops listed i = true) (hr : (Region.ready md ops listed).contains i = true) (hw : waitsFor md ops s2 i = true) (hl : listed.getD s2 true = false) (h1 : i ≠ s1) (h2 : i ≠ s2)
    (hQ : ∀ c a w, Q (.panic c) (a.put oi.dst v) w → Q (.panic c) a w) (hy : YieldsIf P ops S2 oi v a) (hS1 : S1 w) (hS2 : S2 w)
    (h : wpAnyT P md ops Q (T2 s1 s2 S1 S2) fuel (listed.setIfInBounds i true) (a.put oi.dst v) w) : wpAnyT P md ops Q (T2 s1 s2 S1 S2) (fuel + 1) listed a w :=
  firstT hi (Region.noSelect_spec hs) hQ (waitsFor_spec hw) h2 (fun _ _ hl hT => hT.2 hl) (T2_ind h1 h2) fuel listed a w (Region.free_spec hi hf) (by simpa using hr) hy hl ⟨fun _ => hS1, fun _ => hS2⟩ h
/-- One operation alone can come up. -/
theorem stepT {i : Nat} {o : Oper} {fuel : Nat} {listed : Array Bool} {a : Act} {w : World} (hr : Region.ready md ops listed = [i]) (ho : ops[i]? = some o)
    (h : ∀ K' : Act → World → Prop, Shut (∀ a w, T (listed.setIfInBounds i true) w → wpAnyT P md ops Q T fuel (listed.setIfInBounds i true) a w → K' a w) → if Region.wanted o (yielded ops a.tmps) = true then Oper.wp P o a w K' Q else K' (a.put o.dst undef) w) :
    wpAnyT P md ops Q T (fuel + 1) listed a w :=
  by
  refine ⟨fun h0 => (by rw [hr] at h0; cases h0), fun j hj => ?_⟩
  rw [hr] at hj
  obtain rfl : j = i := by simpa using hj
  exact wpOp_step ho (fun K' hK => h K' (fun a w hS hW => hK a w ⟨hS, hW⟩))
theorem doneT {listed : Array Bool} {a : Act} {w : World} (hr : Region.ready md ops listed = []) (h : Q .normal a w) : ∀ fuel, wpAnyT P md ops Q T fuel listed a w
  | 0 => ⟨hr, h⟩
  | _ + 1 => ⟨fun _ => h, by rw [hr]; simp⟩
theorem all_plain (h : ops.all plainOp = true) : ∀ (i : Nat) o, ops[i]? = some o → plainOp o = true := fun i o ho => by
  rw [Array.all_eq_true'] at h
  exact h o (Array.mem_of_getElem? ho)
theorem regionT_in_round {l n id : Nat} {a : Act} {w : World} (hm : P.follows .mixedOrders = true) (hd : ops.all plainOp = true) (hq : ¬ LetsOut Q)
    (h : wpAnyT P .any ops Q T ops.size (Array.replicate ops.size false) a w.drew) : (Code.region id ops true).wpIn (Fence.wide.inRound l) n P Q a w :=
  wpIn_region_any hm (any_in_round (all_plain hd) hq _ _ _ _ (any_of_T _ _ _ _ h))
theorem regionT {id : Nat} {a : Act} {w : World} (hm : P.follows .mixedOrders = true) (h : wpAnyT P .any ops Q T ops.size (Array.replicate ops.size false) a w.drew) : (Code.region id ops true).wp P Q a w :=
  wp_region_any hm (any_of_T _ _ _ _ h)
end
end Go.Proofs.YtigdjlhihhakmaaGreatDoor
