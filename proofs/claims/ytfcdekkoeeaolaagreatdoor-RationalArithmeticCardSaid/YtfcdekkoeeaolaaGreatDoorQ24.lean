/- What the reference implementation's Power returns. Condition: at most 10^6 bytes. A range over a function whose rounds all go on to their end: the statement, and one round. No condition. A region that draws its order, in the body of a range over a function: by the laws of regions outside of one. No condition. -/
import Derived.Test.YtfcdekkoeeaolaaGreatDoorQ23
import Derived.Test.YtfcdekkoeeaolaaGreatDoorQ18
import Derived.RangeFuncNested
import Derived.RangeFuncBound
import Derived.RangeFuncCalls
import Derived.RangeFuncLeaves
import Derived.Shelf.Abstract
import Derived.Shelf.RegionOpen
import Derived.WalkKit
import Derived.OwnWalkIn
import Derived.TacticsInMore
import Derived.LoopNIn
import Derived.LoopIn
import Derived.OrdersIn
import Derived.OrdersHeld
import Derived.Deep.RegionHeld3

namespace Go.Proofs.YtfcdekkoeeaolaaGreatDoor
open Go.RowKit
set_option linter.unusedSimpArgs false
set_option linter.unusedVariables false

theorem rbits_b {g : Bool} {l : List UInt8} {z n : Int} {w : World} (hl : l.length ≤ 1000000000) (hz : zv g ⟨l.toArray⟩ = z) (e : ((nbits z.natAbs : Nat) : Int) = n) :
    Calls Tryz.prog 75 #[.agg #[.bool g, .string ⟨l.toArray⟩]] w fun e w' => e = .returned (.int .i64 n) ∧ Below w.heap.size w w' := e ▸ rbits_any g l z w hl hz
theorem nbits_bytes_le {l : List UInt8} {g : Bool} {z : Int} (hz : zv g ⟨l.toArray⟩ = z) : nbits z.natAbs ≤ 8 * l.length := by
  rw [← hz, natAbs_zv]
  show nbits (vB l) ≤ _
  have h := vB_lt l
  unfold nbits
  split
  · omega
  · rename_i h0
    have h1 : vB l < 2 ^ (8 * l.length) := by rw [Nat.pow_mul]; exact h
    have := (Nat.log2_lt h0).2 h1
    omega
theorem pow_bytes {z y : Int} {m x : Nat} (hl : m * nbits z.natAbs ≤ 65536) (hx : x ≤ m) (e : z ^ x = y) : (bytesOf y.natAbs).length ≤ 10000000 := by
  have h1 : z.natAbs ^ x ≤ (2 ^ nbits z.natAbs) ^ x := Nat.pow_le_pow_left (Nat.le_of_lt (nbits_lt _)) x
  rw [← Nat.pow_mul] at h1
  have h2 : nbits z.natAbs * x ≤ 65536 := by
    rw [Nat.mul_comm]
    exact Nat.le_trans (Nat.mul_le_mul_right _ hx) hl
  generalize nbits z.natAbs * x = b at *
  have h3 : 2 ^ b < 256 ^ (b + 1) := by
    have h4 : (2 : Nat) ^ b ≤ 256 ^ b := Nat.pow_le_pow_left (by omega) b
    have h5 : 0 < 256 ^ b := Nat.pow_pos (by omega)
    rw [Nat.pow_succ]
    omega
  have h6 := bytesOf_len (n := y.natAbs) (k := b + 1) (by rw [← e, Int.natAbs_pow]; omega)
  omega
theorem rmul_mg {x y z : Int} {w : World} (hx : (bytesOf x.natAbs).length ≤ 10000000) (hy : (bytesOf y.natAbs).length ≤ 10000000) (e : x * y = z) : Calls Tryz.prog 14 #[.agg #[.bool (sg x), .string (mg x)], .agg #[.bool (sg y), .string (mg y)]] w (IntOut w z) :=
  e ▸ rmul01_any (sg x) (sg y) (bytesOf x.natAbs) (bytesOf y.natAbs) x y w (by omega) (by omega) (zv_mg x) (zv_mg y)
/-- The argument and the result's box; further integers, made behind them. -/
def Pw (w W : World) (p : Nat) (g : Bool) (s : ByteArray) : Prop := Box2 W p g s ∧ Box2 W (p + 1) false ⟨#[]⟩ ∧ p + 1 < W.heap.size ∧ Below w.heap.size w W ∧ w.heap.size ≤ p
theorem Pw.keep {w W W1 : World} {p : Nat} {g : Bool} {s : ByteArray} (h : Pw w W p g s) (hb : Below W.heap.size W W1) : Pw w W1 p g s :=
  ⟨h.1.keep hb, h.2.1.keep hb, Nat.lt_of_lt_of_le h.2.2.1 hb.size, below_more h.2.2.2.1 (Nat.le_refl _) hb, h.2.2.2.2⟩
theorem Pw.alloc {w W : World} {p : Nat} {g : Bool} {s : ByteArray} (h : Pw w W p g s) (o : Obj) : Pw w (W.alloc o) p g s := h.keep (below1 _ _)
theorem Pw.drew {w W : World} {p : Nat} {g : Bool} {s : ByteArray} (h : Pw w W p g s) : Pw w W.drew p g s := h.keep (Below.refl _ _).drew
theorem Pw.far {w W : World} {p : Nat} {g : Bool} {s : ByteArray} {a : Addr} (h : Pw w W p g s) (ha : p + 1 < a.block) (u : Value) : Pw w (W.setCell a u) p g s :=
  ⟨h.1.far (by omega) u, h.2.1.far (by omega) u, by rw [World.size_setCell]; exact h.2.2.1, h.2.2.2.1.setCell (by have := h.2.2.2.2; omega) u, h.2.2.2.2⟩
/-- An integer behind them. -/
def Nb (W : World) (p u : Nat) (g : Bool) (s : ByteArray) : Prop := Box2 W u g s ∧ p + 1 < u
theorem Nb.keep {W W1 : World} {p u : Nat} {g : Bool} {s : ByteArray} (h : Nb W p u g s) (hb : Below W.heap.size W W1) : Nb W1 p u g s := ⟨h.1.keep hb, h.2⟩
theorem Nb.alloc {W : World} {p u : Nat} {g : Bool} {s : ByteArray} (h : Nb W p u g s) (o : Obj) : Nb (W.alloc o) p u g s := h.keep (below1 _ _)
theorem Nb.new {w W : World} {p : Nat} {g g' : Bool} {s s' : ByteArray} {t : TypeId} (h : Pw w W p g' s') : Nb (W.alloc (.cells #[.bool g, .string s] t)) p W.heap.size g s := ⟨Box2.new _ _ _ _, h.2.2.1⟩
theorem Nb.lt {W : World} {p u : Nat} {g : Bool} {s : ByteArray} (h : Nb W p u g s) : u < W.heap.size := World.block_lt_of_cell? W ⟨u, 0, none⟩ h.1.1
theorem Nb.set {W : World} {p u : Nat} {g g' : Bool} {s s' : ByteArray} (h : Nb W p u g s) : Nb ((W.setCell ⟨u, 0, none⟩ (.bool g')).setCell ⟨u, 1, none⟩ (.string s')) p u g' s' := ⟨h.1.set, h.2⟩
theorem Nb.far {W : World} {p u : Nat} {g : Bool} {s : ByteArray} {a : Addr} (h : Nb W p u g s) (ha : u ≠ a.block) (x : Value) : Nb (W.setCell a x) p u g s := ⟨h.1.far ha x, h.2⟩
/-- Both of two integers, one stored behind the other. -/
def Tw (w W : World) (p u v : Nat) (g : Bool) (s : ByteArray) (x y : Int) : Prop := Pw w W p g s ∧ Nb W p u (sg x) (mg x) ∧ Nb W p v (sg y) (mg y) ∧ u ≠ v
theorem Tw.ab {w W : World} {p u v : Nat} {g g1 g2 : Bool} {s s1 s2 : ByteArray} (x y : Int) (h : Pw w W p g s) (h1 : Nb W p u g1 s1) (h2 : Nb W p v g2 s2) (hn : u ≠ v) :
    Tw w ((((W.setCell ⟨u, 0, none⟩ (.bool (sg x))).setCell ⟨u, 1, none⟩ (.string (mg x))).setCell ⟨v, 0, none⟩ (.bool (sg y))).setCell ⟨v, 1, none⟩ (.string (mg y))) p u v g s x y :=
  ⟨(((h.far h1.2 _).far h1.2 _).far h2.2 _).far h2.2 _, (h1.set.far hn _).far hn _, ((h2.far (fun e => hn e.symm) _).far (fun e => hn e.symm) _).set, hn⟩
theorem Tw.ba {w W : World} {p u v : Nat} {g g1 g2 : Bool} {s s1 s2 : ByteArray} (x y : Int) (h : Pw w W p g s) (h1 : Nb W p u g1 s1) (h2 : Nb W p v g2 s2) (hn : u ≠ v) :
    Tw w ((((W.setCell ⟨v, 0, none⟩ (.bool (sg y))).setCell ⟨v, 1, none⟩ (.string (mg y))).setCell ⟨u, 0, none⟩ (.bool (sg x))).setCell ⟨u, 1, none⟩ (.string (mg x))) p u v g s x y :=
  ⟨(((h.far h2.2 _).far h2.2 _).far h1.2 _).far h1.2 _, ((h1.far hn _).far hn _).set, (h2.set.far (fun e => hn e.symm) _).far (fun e => hn e.symm) _, hn⟩
theorem Tw.keep {w W W1 : World} {p u v : Nat} {g : Bool} {s : ByteArray} {x y : Int} (h : Tw w W p u v g s x y) (hb : Below W.heap.size W W1) : Tw w W1 p u v g s x y := ⟨h.1.keep hb, h.2.1.keep hb, h.2.2.1.keep hb, h.2.2.2⟩
theorem Tw.setu {w W : World} {p u v : Nat} {g : Bool} {s : ByteArray} {x y : Int} (h : Tw w W p u v g s x y) (x' : Int) : Tw w ((W.setCell ⟨u, 0, none⟩ (.bool (sg x'))).setCell ⟨u, 1, none⟩ (.string (mg x'))) p u v g s x' y :=
  ⟨(h.1.far h.2.1.2 _).far h.2.1.2 _, h.2.1.set, (h.2.2.1.far (fun e => h.2.2.2 e.symm) _).far (fun e => h.2.2.2 e.symm) _, h.2.2.2⟩
theorem Tw.setv {w W : World} {p u v : Nat} {g : Bool} {s : ByteArray} {x y : Int} (h : Tw w W p u v g s x y) (y' : Int) : Tw w ((W.setCell ⟨v, 0, none⟩ (.bool (sg y'))).setCell ⟨v, 1, none⟩ (.string (mg y'))) p u v g s x y' :=
  ⟨(h.1.far h.2.2.1.2 _).far h.2.2.1.2 _, (h.2.1.far h.2.2.2 _).far h.2.2.2 _, h.2.2.1.set, h.2.2.2⟩
theorem Pw.start (w : World) (t : TypeId) (g : Bool) (s : ByteArray) : Pw w ((w.alloc (.cells #[.bool g, .string s] t)).alloc (.cells #[.bool false, .string ⟨#[]⟩] t)) w.heap.size g s := by
  refine ⟨(Box2.new w t g s).keep (below1 _ _), ?_, ?_, below2 w _ _, Nat.le_refl _⟩
  · rw [← World.size_alloc w (.cells #[.bool g, .string s] t)]; exact Box2.new _ _ _ _
  · simp only [World.size_alloc]; omega
theorem sg_one9 : sg 1 = false := by decide

set_option maxRecDepth 100000 in
theorem rpow_range (g : Bool) (l : List UInt8) (m : Int) (w : World) (hm : m < 0 ∨ 4096 < m) :
    Calls Tryz.prog 21 #[.agg #[.bool g, .string ⟨l.toArray⟩], .int .i64 m] w (FailOut w 2) := by
  have hc : decide (m < 0) = true ∨ (¬ m < 0 ∧ decide (4096 < m) = true) := by
    by_cases h : m < 0
    · exact Or.inl (decide_eq_true h)
    · exact Or.inr ⟨h, decide_eq_true (by omega)⟩
  clear hm
  obtain ⟨W0, hW0⟩ : ∃ W0, W0 = (w.alloc (.cells #[.bool g, .string ⟨l.toArray⟩] 23)).alloc (.cells #[.bool false, .string ⟨#[]⟩] 23) := ⟨_, rfl⟩
  have K : Pw w W0 w.heap.size g ⟨l.toArray⟩ := by rw [hW0]; exact Pw.start w _ _ _
  have HW := Lib.hid hW0
  clear hW0
  go_enter Tryz.func21, Tryz.ntmps21
  go_upto_region 1 with fail
  rw [← HW.out]
  obtain ⟨⟨x1, x2, x3, x4⟩, ⟨r1, r2, r3, r4⟩, -⟩ := id K
  rcases hc with hd1 | ⟨hd1, hd2⟩
  all_goals
    go_wp2_with fail
    exact bodyPost_ret (v := .tuple #[.agg #[.bool false, .string ⟨#[]⟩], .int .i64 2]) (by simp [results, Tryz.results21, go_sem, r1, r2, r3, r4]) rfl ⟨rfl, (K.2.2.2.1.setCell (by dsimp only; omega) _).setCell (by dsimp only; omega) _⟩
set_option maxRecDepth 100000 in
set_option maxHeartbeats 3200000 in
theorem rpow_limit (g : Bool) (l : List UInt8) (z : Int) (m : Nat) (w : World) (hl1 : l.length ≤ 1000000) (hz : zv g ⟨l.toArray⟩ = z) (hm : m ≤ 4096) (hl : 65536 < m * nbits z.natAbs) :
    Calls Tryz.prog 21 #[.agg #[.bool g, .string ⟨l.toArray⟩], .int .i64 (m : Int)] w (FailOut w 4) := by
  obtain ⟨nb, Hnb⟩ : ∃ n : Nat, Hid (nbits z.natAbs = n) := ⟨_, Lib.hid rfl⟩
  have hb8 := nbits_bytes_le hz
  rw [Hnb.out] at hl hb8
  have hprod : nb * m ≤ 8000000 * 4096 := Nat.mul_le_mul (by omega) hm
  have Hz := Lib.hid hz
  clear hz
  obtain ⟨P, hP⟩ : ∃ P : Nat, nb * m = P := ⟨_, rfl⟩
  have hPl : 65536 < P := by rw [← hP, Nat.mul_comm]; exact hl
  have hwr : IntKind.i64.wrap ((nb : Int) * (m : Int)) = (P : Int) := by
    rw [show (nb : Int) * (m : Int) = ((nb * m : Nat) : Int) by rw [Int.natCast_mul], hP]
    exact IntWalk.i64_in _ (by omega)
  have hd1 : ¬ (m : Int) < 0 := by omega
  have hd2 : ¬ 4096 < (m : Int) := by omega
  have hd3 : decide (65536 < (P : Int)) = true := decide_eq_true (by omega)
  obtain ⟨W0, hW0⟩ : ∃ W0, W0 = (w.alloc (.cells #[.bool g, .string ⟨l.toArray⟩] 23)).alloc (.cells #[.bool false, .string ⟨#[]⟩] 23) := ⟨_, rfl⟩
  have K : Pw w W0 w.heap.size g ⟨l.toArray⟩ := by rw [hW0]; exact Pw.start w _ _ _
  have HW := Lib.hid hW0
  have Hl := Lib.hid hl1
  clear hW0 hl hprod hP hb8 hl1
  go_enter Tryz.func21, Tryz.ntmps21
  go_upto_region 1 with fail
  rw [← HW.out]
  obtain ⟨⟨x1, x2, x3, x4⟩, ⟨r1, r2, r3, r4⟩, -⟩ := id K
  go_wp2_with fail
  refine (rbits_b (by have := Hl.out; omega) Hz.out (by rw [Hnb.out])).mono ?_
  rintro e X ⟨rfl, bX⟩
  have K := K.keep bX
  obtain ⟨⟨x1, x2, x3, x4⟩, ⟨r1, r2, r3, r4⟩, -⟩ := id K
  go_wp2_with fail
  exact bodyPost_ret (v := .tuple #[.agg #[.bool false, .string ⟨#[]⟩], .int .i64 4]) (by simp [results, Tryz.results21, go_sem, r1, r2, r3, r4]) rfl ⟨rfl, (K.2.2.2.1.setCell (by dsimp only; omega) _).setCell (by dsimp only; omega) _⟩
end Go.Proofs.YtfcdekkoeeaolaaGreatDoor

namespace Go.Proofs.YtfcdekkoeeaolaaGreatDoor
open Go.RowKit Go.Shelf

/-- The record of a loop over a function. -/
def lrec (fn : FuncId) (tmps : Array Value) (ps : Array Tmp) (assign body : Code) (D : Nat) (st : LoopState) : Loop := { state := st, pending := none, fn, tmps, params := ps, assign, body, defers := D }

/-- One round that goes on to its end. -/
theorem round_on {F : Fence} {m : Nat} {P : Program} {l : Nat} {fn : FuncId} {tmps : Array Value} {ps : Array Tmp} {assign body : Code} {D : Nat} {W : World} {args : Array Value} {R : World → Prop} {REC : Loop}
    (hREC : REC = lrec fn tmps ps assign body D .ready) (hfn : F.fn fn) (hl : W.heap[l]? = some (.loop REC)) (hs : args.size = ps.size)
    (h : ∀ RB, assign.wpIn (F.inRound l) m P (Exit.then (fun a₁ w₁ => w₁.heap[l]? = some (.loop REC) ∧
          body.wpIn (F.inRound l) m P (fun e _ W' => e = .normal ∧ W'.heap[l]? = some (.loop RB) ∧ R (W'.putObj l (.loop REC))) a₁ (w₁.putObj l (.loop RB))) (fun _ _ _ => False))
        { tmps := (ps.zip args).foldl (fun t (p, v) => t.setIfInBounds p v) tmps, defers := [] } W) :
    YieldAt F m P l args W fun e W' => e = .returned (.bool true) ∧ R W' := by
  subst hREC
  refine ⟨fn, _, assign, body, run_yield hl hs, roundIn_of_wpIn hfn (wpIn_mono (h (lrec fn tmps ps assign body D .busy)) ?_)⟩
  intro e a₁ w₁ h1
  cases e with
  | normal =>
    obtain ⟨hl1, hb⟩ := h1
    refine ⟨_, run_beginRound hl1 rfl, wpIn_mono hb ?_⟩
    rintro e a₂ W' ⟨rfl, hl2, hR⟩
    exact ⟨_, _, run_endRound none hl2, rfl, hR⟩
  | exit id => exact h1.elim
  | goto t => exact h1.elim
  | ret => exact h1.elim
  | panic ch => exact h1.elim
  | outgrown => exact h1.elim

/-- The statement. -/
theorem rangeFunc_on {F : Fence} {n : Nat} {P : Program} {g : Operand} {ps : Array Tmp} {assign body : Code} {Q : Exit → Act → World → Prop} {a : Act} {w : World} {R : FuncId → World → Prop}
    (hro : F.round = none) (h1 : 1 ≤ n) {gf : Nat} {lb : Array Value} (hg : a.eval g = .func (.func gf) #[] lb) (hFg : F.fn gf) (eg : ∀ args w, (callFunc gf args).run P w = .ok (.enter gf args) w)
    (hcall : ∀ fn, F.fn fn → ∀ REC, REC = lrec fn a.tmps ps assign body w.heap.size .ready → CallsIn F (n - 1) P gf (#[.func (.yield (w.heap.size + 1)) #[] #[]] ++ lb) ((w.alloc (.deferred (some []))).alloc (.loop REC)) fun e W' =>
      (∃ v, e = .returned v) ∧ W'.heap[w.heap.size + 1]? = some (.loop REC) ∧ R fn W')
    (hdone : ∀ fn W o r, R fn W → W.heap[w.heap.size + 1]? = some (.loop r) → Q .normal { a with defers := { target := .collected w.heap.size, args := #[] } :: a.defers } (W.putObj (w.heap.size + 1) o)) :
    (Code.rangeFunc g ps assign body).wpIn F n P Q a w := by
  refine wpIn_rangeFunc fun fn hfn => ?_
  rw [hro]
  have hc := hcall fn hfn _ rfl
  have he := run_enterLoop_outer (P := P) (w := w) fn a.tmps ps assign body
  have hd := hdone fn
  generalize hW : (w.alloc (.deferred (some []))).alloc (.loop (lrec fn a.tmps ps assign body w.heap.size .ready)) = W1 at hc
  have he' : (Instr.enterLoop fn a.tmps ps assign body none).run P w = .ok (w.heap.size + 1, [{ target := .collected w.heap.size, args := #[] }]) W1 := by rw [← hW]; exact he
  clear he hW
  refine ⟨w.heap.size + 1, [{ target := .collected w.heap.size, args := #[] }], W1, { target := .fn (.func gf) lb, args := #[.func (.yield (w.heap.size + 1)) #[] #[]] }, W1, gf,
    #[.func (.yield (w.heap.size + 1)) #[] #[]] ++ lb, W1, he', ?_, ?_, ?_, fun _ => h1, ?_⟩
  · simp only [resolve, hg]
    simp [go_sem]
  · intro f' hf'; simp [Target.leads] at hf'; subst hf'; exact hFg
  · simp [invoke, go_sem, eg]
  · refine hc.mono ?_
    rintro e W' ⟨⟨v, rfl⟩, hl, hR⟩
    have hend := run_endLoop (P := P) hl (by simp [lrec])
    exact ⟨none, _, hend, hd W' _ _ hR hl⟩
end Go.Proofs.YtfcdekkoeeaolaaGreatDoor

namespace Go.Proofs.YtfcdekkoeeaolaaGreatDoor
open Go.RowKit

/-- No deferred call. -/
def plainOp (o : Oper) : Bool := match o.op with
  | .defer _ => false
  | _ => true
theorem row_in_round {l n : Nat} {P : Program} {row : String} {args : Array Value} {w : World} {R : Value → World → Prop} (h : Rows P row args w R) : RowsIn (Fence.wide.inRound l) n P row args w R := by
  have h' : RowsIn Fence.wide n P row args w R := fun c cs _ => let ⟨v, w', r, s⟩ := h c cs; ⟨v, w', r, stepsIn_wide.2 s⟩
  exact h'
theorem no_depth {l n : Nat} (e : (Fence.wide.inRound l).depth.isSome = true) : 1 ≤ n := by simp [Fence.inRound, Fence.wide] at e

theorem op_in_round {l n : Nat} {P : Program} {o : Oper} {a : Act} {w : World} {K : Act → World → Prop} {Q : Exit → Act → World → Prop} (hd : plainOp o = true) (h : o.wp P a w K Q) :
    o.wpIn (Fence.wide.inRound l) n P a w K Q := by
  unfold Oper.wp at h
  unfold Oper.wpIn
  refine ⟨fun _ _ => trivial, ?_⟩
  rw [show (Fence.wide.inRound l).round = some l from rfl, Oper.semAt_some l _ _ (fun c e => by unfold plainOp at hd; rw [e] at hd; cases hd)]
  generalize (execOp a.eval o).run P w = r at *
  cases r with
  | ok x w' =>
    cases x <;> simp only [Oper.upon, Oper.uponIn] at h ⊢
    all_goals first
      | exact h
      | exact ⟨no_depth, CallsIn.inRound l (callsIn_wide.2 h)⟩
      | exact ⟨no_depth, row_in_round h⟩
      | exact h.elim
  | halt x w' => cases x <;> simp only [Oper.upon, Oper.uponIn] at h ⊢ <;> exact h

theorem any_in_round {l n : Nat} {P : Program} {md : Region.Mode} {ops : Array Oper} {Q : Exit → Act → World → Prop} (hd : ∀ (i : Nat) o, ops[i]? = some o → plainOp o = true) (hq : ¬ LetsOut Q) :
    ∀ (fuel : Nat) (listed : Array Bool) (a : Act) (w : World), wpAny P md ops Q fuel listed a w → wpAnyIn (Fence.wide.inRound l) n P md ops Q fuel listed a w
  | 0, _, _, _, h => h
  | fuel + 1, _, _, _, h => ⟨h.1, fun i hi => by
    have h1 := h.2 i hi
    unfold wpOp at h1
    unfold wpOpIn
    cases ho : ops[i]? with
    | none => rw [ho] at h1; exact any_in_round hd hq fuel _ _ _ h1
    | some o =>
      rw [ho] at h1
      dsimp only at h1 ⊢
      split
      · rename_i hw
        rw [if_pos hw] at h1
        rcases h1 with h1 | h1
        · exact Oper.wpIn_mono (fun a w => any_in_round hd hq fuel _ a w) (op_in_round (hd i o ho) h1)
        · exact absurd h1.2 hq
      · rename_i hw
        rw [if_neg hw] at h1
        exact ⟨fun _ _ => trivial, any_in_round hd hq fuel _ _ _ h1⟩⟩

theorem region_in_round {l n : Nat} {P : Program} {id : Nat} {ops : Array Oper} {Q : Exit → Act → World → Prop} {S : World → Prop} {a : Act} {w : World} (hm : P.follows .mixedOrders = true)
    (hd : ∀ (i : Nat) o, ops[i]? = some o → plainOp o = true) (hq : ¬ LetsOut Q) (hS : S w.drew) (h : S w.drew → wpAnyH P .any ops Q S ops.size (Array.replicate ops.size false) a w.drew) :
    (Code.region id ops true).wpIn (Fence.wide.inRound l) n P Q a w :=
  wpIn_region_any hm (any_in_round hd hq _ _ _ _ (wpAny_of_held _ _ _ _ (h hS)))

/-- Whatever order is picked, T holding behind every operation: T may hang on what has come up, so that what a late store overwrites need hold before it alone. -/
def wpAnyT (P : Program) (md : Region.Mode) (ops : Array Oper) (Q : Exit → Act → World → Prop) (T : Array Bool → World → Prop) : Nat → Array Bool → Act → World → Prop
  | 0, listed, a, w => Region.ready md ops listed = [] ∧ Q .normal a w
  | fuel + 1, listed, a, w =>
    (Region.ready md ops listed = [] → Q .normal a w) ∧
    ∀ i ∈ Region.ready md ops listed, wpOp P ops Q i (fun a' w' => T (listed.setIfInBounds i true) w' ∧ wpAnyT P md ops Q T fuel (listed.setIfInBounds i true) a' w') a w

section
variable {P : Program} {md : Region.Mode} {ops : Array Oper} {Q : Exit → Act → World → Prop} {T : Array Bool → World → Prop} {S : World → Prop}

theorem any_of_T : ∀ (fuel : Nat) (listed : Array Bool) (a : Act) (w : World), wpAnyT P md ops Q T fuel listed a w → wpAny P md ops Q fuel listed a w
  | 0, _, _, _, h => h
  | fuel + 1, _, _, _, h => ⟨h.1, fun i hi => wpOp_mono (fun a' w' h' => any_of_T fuel _ a' w' h'.2) (h.2 i hi)⟩

/-- An operation i may be taken first while a later one, s, that waits for it has not come up. -/
theorem firstT {i s : Nat} {oi : Oper} {v : Value} (hi : ops[i]? = some oi) (hsel : ∀ (j : Nat) (o : Oper) cs b, ops[j]? = some o → o.op ≠ .select cs b)
    (hQ : ∀ c a w, Q (.panic c) (a.put oi.dst v) w → Q (.panic c) a w)
    (hdep : ∃ os, ops[s]? = some os ∧ ∃ e ∈ os.after, Region.binds md e = true ∧ e.on = i) (his : i ≠ s)
    (hT : ∀ l w, l.getD s true = false → T l w → S w) (hind : ∀ l w, T (l.setIfInBounds i true) w ↔ T l w) :
    ∀ (fuel : Nat) (listed : Array Bool) (a : Act) (w : World),
      (∀ j oj, ops[j]? = some oj → j ≠ i → listed.getD j true = false → (∀ e ∈ oj.after, Region.binds md e = true → e.on ≠ i) → oi.apart ops oj = true) →
      i ∈ Region.ready md ops listed → YieldsIf P ops S oi v a → listed.getD s true = false → T listed w →
      wpAnyT P md ops Q T fuel (listed.setIfInBounds i true) (a.put oi.dst v) w → wpAnyT P md ops Q T (fuel + 1) listed a w := by
  intro fuel
  induction fuel with
  | zero =>
    intro listed a w _ hr hy hs hTw H
    refine ⟨fun h => (by rw [h] at hr; cases hr), fun j hj => ?_⟩
    by_cases hji : j = i
    · subst hji; exact hy.wpOp hi (hT _ _ hs hTw) ⟨(hind _ _).2 hTw, H⟩
    · have := ready_mono hj hji
      rw [H.1] at this
      cases this
  | succ fuel ih =>
    intro listed a w hfree hr hy hs hTw H
    refine ⟨fun h => (by rw [h] at hr; cases hr), fun j hj => ?_⟩
    by_cases hji : j = i
    · subst hji; exact hy.wpOp hi (hT _ _ hs hTw) ⟨(hind _ _).2 hTw, H⟩
    · have h1 := H.2 j (ready_mono hj hji)
      obtain ⟨hjun, oj, hoj, hall⟩ := mem_ready.1 hj
      have hnot : ∀ e ∈ oj.after, Region.binds md e = true → e.on ≠ i := fun e he hb heq => by
        have k1 := hall e he hb
        have k0 := (mem_ready.1 hr).1
        rw [heq] at k1
        rcases Nat.lt_or_ge i listed.size with h' | h'
        · simp [h'] at k0 k1; rw [k0] at k1; cases k1
        · simp [Array.getElem?_eq_none h'] at k1
      have hjs : j ≠ s := fun e => by
        obtain ⟨os, hos, e1, he1, hb1, hon⟩ := hdep
        subst e
        rw [hoj] at hos
        injection hos with hos
        subst hos
        exact hnot e1 he1 hb1 hon
      have h2 := wpOp_putIf hoj (hfree j oj hoj hji hjun hnot) (fun cs b => hsel i oi cs b hi) (fun cs b => hsel j oj cs b hoj) hQ hy h1
      refine wpOp_mono (fun a' w' h3 => ?_) h2
      have hcomm := Array.setIfInBounds_comm (xs := listed) true true (Ne.symm hji)
      obtain ⟨h4, h5, h6⟩ := h3
      rw [hcomm] at h5 h6
      have h7 := (hind _ _).1 h5
      refine ⟨h7, ih (listed.setIfInBounds j true) a' w' (fun k ok hk hki hun hno => hfree k ok hk hki ?_ hno) (ready_mono hr (Ne.symm hji)) h4 ?_ h7 h6⟩
      · by_cases hjk : j = k
        · subst hjk; exact hjun
        · rw [getD_set_ne true hjk] at hun; exact hun
      · rw [getD_set_ne true hjs]; exact hs

/-- What holds till the operation s1, and what holds till s2. -/
def T2 (s1 s2 : Nat) (S1 S2 : World → Prop) (l : Array Bool) (w : World) : Prop := (l.getD s1 true = false → S1 w) ∧ (l.getD s2 true = false → S2 w)
def waitsFor (md : Region.Mode) (ops : Array Oper) (s i : Nat) : Bool := match ops[s]? with
  | some o => o.after.any fun e => Region.binds md e && e.on == i
  | none => false
theorem waitsFor_spec {s i : Nat} (h : waitsFor md ops s i = true) : ∃ os, ops[s]? = some os ∧ ∃ e ∈ os.after, Region.binds md e = true ∧ e.on = i := by
  unfold waitsFor at h
  cases ho : ops[s]? with
  | none => rw [ho] at h; cases h
  | some o =>
    rw [ho] at h
    rw [Array.any_eq_true'] at h
    obtain ⟨e, he, h1⟩ := h
    rw [Bool.and_eq_true, beq_iff_eq] at h1
    exact ⟨o, rfl, e, he, h1.1, h1.2⟩
theorem T2_ind {s1 s2 i : Nat} {S1 S2 : World → Prop} (h1 : i ≠ s1) (h2 : i ≠ s2) (l : Array Bool) (w : World) : T2 s1 s2 S1 S2 (l.setIfInBounds i true) w ↔ T2 s1 s2 S1 S2 l w := by
  unfold T2
  rw [getD_set_ne true h1, getD_set_ne true h2]
theorem take1 {i s1 s2 : Nat} {S1 S2 : World → Prop} {oi : Oper} {v : Value} {fuel : Nat} {listed : Array Bool} {a : Act} {w : World} (hi : ops[i]? = some oi)
    (hs : Region.noSelect ops = true) (hf : Region.free md ops listed i = true) (hr : (Region.ready md ops listed).contains i = true) (hw : waitsFor md ops s1 i = true) (hl : listed.getD s1 true = false) (h1 : i ≠ s1) (h2 : i ≠ s2)
    (hQ : ∀ c a w, Q (.panic c) (a.put oi.dst v) w → Q (.panic c) a w) (hy : YieldsIf P ops S1 oi v a) (hS1 : S1 w) (hS2 : S2 w)
    (h : wpAnyT P md ops Q (T2 s1 s2 S1 S2) fuel (listed.setIfInBounds i true) (a.put oi.dst v) w) : wpAnyT P md ops Q (T2 s1 s2 S1 S2) (fuel + 1) listed a w :=
  firstT hi (Region.noSelect_spec hs) hQ (waitsFor_spec hw) h1 (fun _ _ hl hT => hT.1 hl) (T2_ind h1 h2) fuel listed a w (Region.free_spec hi hf) (by simpa using hr) hy hl ⟨fun _ => hS1, fun _ => hS2⟩ h
theorem take2 {i s1 s2 : Nat} {S1 S2 : World → Prop} {oi : Oper} {v : Value} {fuel : Nat} {listed : Array Bool} {a : Act} {w : World} (hi : ops[i]? = some oi)
    (hs : Region.noSelect ops = true) (hf : Region.free md ops listed i = true) (hr : (Region.ready md ops listed).contains i = true) (hw : waitsFor md ops s2 i = true) (hl : listed.getD s2 true = false) (h1 : i ≠ s1) (h2 : i ≠ s2)
    (hQ : ∀ c a w, Q (.panic c) (a.put oi.dst v) w → Q (.panic c) a w) (hy : YieldsIf P ops S2 oi v a) (hS1 : S1 w) (hS2 : S2 w)
    (h : wpAnyT P md ops Q (T2 s1 s2 S1 S2) fuel (listed.setIfInBounds i true) (a.put oi.dst v) w) : wpAnyT P md ops Q (T2 s1 s2 S1 S2) (fuel + 1) listed a w :=
  firstT hi (Region.noSelect_spec hs) hQ (waitsFor_spec hw) h2 (fun _ _ hl hT => hT.2 hl) (T2_ind h1 h2) fuel listed a w (Region.free_spec hi hf) (by simpa using hr) hy hl ⟨fun _ => hS1, fun _ => hS2⟩ h
/-- One operation alone can come up. -/
theorem stepT {i : Nat} {o : Oper} {fuel : Nat} {listed : Array Bool} {a : Act} {w : World} (hr : Region.ready md ops listed = [i]) (ho : ops[i]? = some o)
    (h : ∀ K' : Act → World → Prop, Shut (∀ a w, T (listed.setIfInBounds i true) w → wpAnyT P md ops Q T fuel (listed.setIfInBounds i true) a w → K' a w) → if Region.wanted o (yielded ops a.tmps) = true then Oper.wp P o a w K' Q else K' (a.put o.dst undef) w) :
    wpAnyT P md ops Q T (fuel + 1) listed a w :=
  by
  refine ⟨fun h0 => (by rw [hr] at h0; cases h0), fun j hj => ?_⟩
  rw [hr] at hj
  obtain rfl : j = i := by simpa using hj
  exact wpOp_step ho (fun K' hK => h K' (fun a w hS hW => hK a w ⟨hS, hW⟩))
theorem doneT {listed : Array Bool} {a : Act} {w : World} (hr : Region.ready md ops listed = []) (h : Q .normal a w) : ∀ fuel, wpAnyT P md ops Q T fuel listed a w
  | 0 => ⟨hr, h⟩
  | _ + 1 => ⟨fun _ => h, by rw [hr]; simp⟩
theorem all_plain (h : ops.all plainOp = true) : ∀ (i : Nat) o, ops[i]? = some o → plainOp o = true := fun i o ho => by
  rw [Array.all_eq_true'] at h
  exact h o (Array.mem_of_getElem? ho)
theorem regionT_in_round {l n id : Nat} {a : Act} {w : World} (hm : P.follows .mixedOrders = true) (hd : ops.all plainOp = true) (hq : ¬ LetsOut Q)
    (h : wpAnyT P .any ops Q T ops.size (Array.replicate ops.size false) a w.drew) : (Code.region id ops true).wpIn (Fence.wide.inRound l) n P Q a w :=
  wpIn_region_any hm (any_in_round (all_plain hd) hq _ _ _ _ (any_of_T _ _ _ _ h))
theorem regionT {id : Nat} {a : Act} {w : World} (hm : P.follows .mixedOrders = true) (h : wpAnyT P .any ops Q T ops.size (Array.replicate ops.size false) a w.drew) : (Code.region id ops true).wp P Q a w :=
  wp_region_any hm (any_of_T _ _ _ _ h)
end
end Go.Proofs.YtfcdekkoeeaolaaGreatDoor
