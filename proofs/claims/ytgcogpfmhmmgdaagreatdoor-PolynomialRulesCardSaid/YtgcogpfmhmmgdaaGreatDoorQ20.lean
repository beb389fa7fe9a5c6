/- A range over a function whose rounds all go on to their end: the statement, and one round. No condition. What integer.root returns: the greatest number whose power is at most x. Condition: the exponent is from 1 to 4096, x has at most 1000 digits. What integer.Gcd returns: the greatest common divisor of the absolute values. Condition: the integers have at most 10^7 digits to the base 2^32. -/
import Derived.Test.YtgcogpfmhmmgdaaGreatDoorQ10
import Derived.RangeFuncNested
import Derived.RangeFuncBound
import Derived.RangeFuncCalls
import Derived.RangeFuncLeaves
import Derived.Shelf.Abstract
import Derived.Shelf.RegionOpen
import Derived.WalkKit
import Derived.OwnWalkIn
import Derived.TacticsInMore
import Derived.LoopNIn
import Derived.LoopIn
import Derived.Test.YtgcogpfmhmmgdaaGreatDoorQ09
import Derived.Test.YtgcogpfmhmmgdaaGreatDoorQ11
import Derived.Lib.Hide
import Derived.Test.YtgcogpfmhmmgdaaGreatDoorQ12

namespace Go.Proofs.YtgcogpfmhmmgdaaGreatDoor
open Go.RowKit Go.Shelf

/-- The record of a loop over a function. -/
def lrec (fn : FuncId) (tmps : Array Value) (ps : Array Tmp) (assign body : Code) (D : Nat) (st : LoopState) : Loop := { state := st, pending := none, fn, tmps, params := ps, assign, body, defers := D }

/-- One round that goes on to its end. -/
theorem round_on {F : Fence} {m : Nat} {P : Program} {l : Nat} {fn : FuncId} {tmps : Array Value} {ps : Array Tmp} {assign body : Code} {D : Nat} {W : World} {args : Array Value} {R : World → Prop} {REC : Loop}
    (hREC : REC = lrec fn tmps ps assign body D .ready) (hfn : F.fn fn) (hl : W.heap[l]? = some (.loop REC)) (hs : args.size = ps.size)
    (h : ∀ RB, assign.wpIn (F.inRound l) m P (Exit.then (fun a₁ w₁ => w₁.heap[l]? = some (.loop REC) ∧
          body.wpIn (F.inRound l) m P (fun e _ W' => e = .normal ∧ W'.heap[l]? = some (.loop RB) ∧ R (W'.putObj l (.loop REC))) a₁ (w₁.putObj l (.loop RB))) (fun _ _ _ => False))
        { tmps := (ps.zip args).foldl (fun t (p, v) => t.setIfInBounds p v) tmps, defers := [] } W) :
    YieldAt F m P l args W fun e W' => e = .returned (.bool true) ∧ R W' := by
  subst hREC
  refine ⟨fn, _, assign, body, run_yield hl hs, roundIn_of_wpIn hfn (wpIn_mono (h (lrec fn tmps ps assign body D .busy)) ?_)⟩
  intro e a₁ w₁ h1
  cases e with
  | normal =>
    obtain ⟨hl1, hb⟩ := h1
    refine ⟨_, run_beginRound hl1 rfl, wpIn_mono hb ?_⟩
    rintro e a₂ W' ⟨rfl, hl2, hR⟩
    exact ⟨_, _, run_endRound none hl2, rfl, hR⟩
  | exit id => exact h1.elim
  | goto t => exact h1.elim
  | ret => exact h1.elim
  | panic ch => exact h1.elim
  | outgrown => exact h1.elim

/-- The statement. -/
theorem rangeFunc_on {F : Fence} {n : Nat} {P : Program} {g : Operand} {ps : Array Tmp} {assign body : Code} {Q : Exit → Act → World → Prop} {a : Act} {w : World} {R : FuncId → World → Prop}
    (hro : F.round = none) (h1 : 1 ≤ n) {gf : Nat} {lb : Array Value} (hg : a.eval g = .func (.func gf) #[] lb) (hFg : F.fn gf) (eg : ∀ args w, (callFunc gf args).run P w = .ok (.enter gf args) w)
    (hcall : ∀ fn, F.fn fn → ∀ REC, REC = lrec fn a.tmps ps assign body w.heap.size .ready → CallsIn F (n - 1) P gf (#[.func (.yield (w.heap.size + 1)) #[] #[]] ++ lb) ((w.alloc (.deferred (some []))).alloc (.loop REC)) fun e W' =>
      (∃ v, e = .returned v) ∧ W'.heap[w.heap.size + 1]? = some (.loop REC) ∧ R fn W')
    (hdone : ∀ fn W o r, R fn W → W.heap[w.heap.size + 1]? = some (.loop r) → Q .normal { a with defers := { target := .collected w.heap.size, args := #[] } :: a.defers } (W.putObj (w.heap.size + 1) o)) :
    (Code.rangeFunc g ps assign body).wpIn F n P Q a w := by
  refine wpIn_rangeFunc fun fn hfn => ?_
  rw [hro]
  have hc := hcall fn hfn _ rfl
  have he := run_enterLoop_outer (P := P) (w := w) fn a.tmps ps assign body
  have hd := hdone fn
  generalize hW : (w.alloc (.deferred (some []))).alloc (.loop (lrec fn a.tmps ps assign body w.heap.size .ready)) = W1 at hc
  have he' : (Instr.enterLoop fn a.tmps ps assign body none).run P w = .ok (w.heap.size + 1, [{ target := .collected w.heap.size, args := #[] }]) W1 := by rw [← hW]; exact he
  clear he hW
  refine ⟨w.heap.size + 1, [{ target := .collected w.heap.size, args := #[] }], W1, { target := .fn (.func gf) lb, args := #[.func (.yield (w.heap.size + 1)) #[] #[]] }, W1, gf,
    #[.func (.yield (w.heap.size + 1)) #[] #[]] ++ lb, W1, he', ?_, ?_, ?_, fun _ => h1, ?_⟩
  · simp only [resolve, hg]
    simp [go_sem]
  · intro f' hf'; simp [Target.leads] at hf'; subst hf'; exact hFg
  · simp [invoke, go_sem, eg]
  · refine hc.mono ?_
    rintro e W' ⟨⟨v, rfl⟩, hl, hR⟩
    have hend := run_endLoop (P := P) hl (by simp [lrec])
    exact ⟨none, _, hend, hd W' _ _ hR hl⟩
end Go.Proofs.YtgcogpfmhmmgdaaGreatDoor

namespace Go.Proofs.YtgcogpfmhmmgdaaGreatDoor
open Go.RowKit

/-- R is the root of X for the exponent m. -/
def IsRoot (X m R : Nat) : Prop := R ^ m ≤ X ∧ X < (R + 1) ^ m
theorem root_step {X m g R : Nat} (h : IsRoot (X / 2 ^ (m * (g + 1))) m R) :
    IsRoot (X / 2 ^ (m * g)) m (if (R * 2 + 1) ^ m ≤ X / 2 ^ (m * g) then R * 2 + 1 else R * 2) := by
  obtain ⟨h1, h2⟩ := h
  rw [Nat.mul_succ, Nat.pow_add, ← Nat.div_div_eq_div_mul] at h1 h2
  generalize X / 2 ^ (m * g) = Y at *
  have hp : 0 < 2 ^ m := Nat.two_pow_pos m
  have a1 : (R * 2) ^ m ≤ Y := by
    rw [Nat.mul_pow]
    exact Nat.le_trans (Nat.mul_le_mul_right _ h1) (Nat.div_mul_le_self _ _)
  have a2 : Y < (R * 2 + 2) ^ m := by
    rw [show R * 2 + 2 = (R + 1) * 2 by omega, Nat.mul_pow]
    exact (Nat.div_lt_iff_lt_mul hp).1 h2
  split
  · exact ⟨by assumption, a2⟩
  · exact ⟨a1, by omega⟩
theorem root_start {X m : Nat} (hm : 1 ≤ m) : IsRoot (X / 2 ^ (m * (nbits X / m + 1))) m 0 := by
  have h1 := nbits_lt X
  have h2 : nbits X < m * (nbits X / m + 1) := by
    have := Nat.div_add_mod (nbits X) m
    have := Nat.mod_lt (nbits X) (show 0 < m by omega)
    rw [Nat.mul_add]
    omega
  have h3 : (2 : Nat) ^ nbits X ≤ 2 ^ (m * (nbits X / m + 1)) := Nat.pow_le_pow_right (by omega) (by omega)
  rw [Nat.div_eq_of_lt (by omega)]
  refine ⟨?_, by simp⟩
  rw [Nat.zero_pow (by omega)]
  exact Nat.le_refl _
theorem root_le {X m R : Nat} (hm : 1 ≤ m) (h : R ^ m ≤ X) : R ≤ X := by
  rcases Nat.eq_zero_or_pos R with h0 | h0
  · omega
  · exact Nat.le_trans (Nat.le_self_pow (by omega) R) h
theorem two_bound {R X k : Nat} (h : R ≤ X) (hX : X < 4294967296 ^ k) : R * 2 + 1 < 4294967296 ^ (k + 1) := by
  rw [Nat.pow_succ]
  generalize (4294967296 : Nat) ^ k = P at *
  omega
theorem nbits_len {w : World} {A : Option Addr} {n c X : Nat} (h : IsNat w A n c X) : nbits X ≤ 32 * n := by
  obtain ⟨_, _, f, _, df, _, rfl⟩ := h
  have h1 := val_lt df
  by_cases h0 : val f n = 0
  · rw [h0]; show 0 ≤ _; omega
  · have h2 := nbits_ge h0
    rw [show (4294967296 : Nat) = 2 ^ 32 by rfl, ← Nat.pow_mul] at h1
    rcases Nat.lt_or_ge (32 * n) (nbits (val f n)) with h3 | h3
    · have : (2 : Nat) ^ (32 * n) ≤ 2 ^ (nbits (val f n) - 1) := Nat.pow_le_pow_right (by omega) (by omega)
      omega
    · exact h3

theorem isNat_set {w : World} {A : Option Addr} {n c N : Nat} (h : IsNat w A n c N) (p : Addr) (u : Value) (hp : ∀ x, w.cell? p = some x → ∀ d, x ≠ .int .u32 d) : IsNat (w.setCell p u) A n c N := by
  obtain ⟨h1, h2, f, ⟨b, off, hA, hc⟩, h4⟩ := h
  refine ⟨h1, h2, f, ⟨b, off, hA, fun i hi => ?_⟩, h4⟩
  have h5 := hc i hi
  by_cases e : p = ⟨b, off + i, none⟩
  · subst e; exact absurd rfl (hp _ h5 _)
  · rw [World.cell?_setCell_other _ _ _ _ (fun e2 => e (by first | exact e2 | exact e2.symm))]; exact h5

def RootOut (w : World) (X m : Nat) (e : Ending) (w' : World) : Prop := ∃ R, IsRoot X m R ∧ NatOut w R e w'

end Go.Proofs.YtgcogpfmhmmgdaaGreatDoor

namespace Go.Proofs.YtgcogpfmhmmgdaaGreatDoor
open Go.RowKit Go.Shelf
attribute [local go_sem] Oper.semAt_some

/-- What a slice in memory is as a number is one alone. -/
theorem IsNat.one {W : World} {A : Option Addr} {n c c' N M : Nat} (h : IsNat W A n c N) (k : IsNat W A n c' M) : N = M := by
  obtain ⟨_, _, f, ⟨b, off, hA, hc⟩, _, _, rfl⟩ := h
  obtain ⟨_, _, g, ⟨b', off', hA', hc'⟩, _, _, rfl⟩ := k
  refine val_congr fun i hi => ?_
  have e1 := hA (by omega)
  have e2 := hA' (by omega)
  rw [e1] at e2
  injection e2 with e2
  injection e2 with e2 e3
  subst e2 e3
  have h1 := hc i hi
  rw [hc' i hi] at h1
  injection h1 with h1
  injection h1 with _ h1
  omega
/-- The number whose slice a cell holds. -/
noncomputable def natAt (W : World) (p : Addr) : Nat := leastOf (fun M => ∃ A n c, W.cell? p = some (.slice A n c) ∧ IsNat W A n c M)
theorem natAt_eq {W : World} {p : Addr} {A : Option Addr} {n c M : Nat} (h : W.cell? p = some (.slice A n c)) (i : IsNat W A n c M) : natAt W p = M := by
  obtain ⟨⟨A', n', c', h', i'⟩, _⟩ := leastOf_spec (p := fun M => ∃ A n c, W.cell? p = some (.slice A n c) ∧ IsNat W A n c M) ⟨M, A, n, c, h, i⟩
  rw [h] at h'
  injection h' with h'
  injection h' with e1 e2 e3
  subst e1 e2 e3
  exact i'.one i
/-- A number whose digits are as they were. -/
theorem IsNat.same {W W' : World} {A : Option Addr} {n c N : Nat} (h : IsNat W A n c N) (hk : ∀ p d, W.cell? p = some (.int .u32 d) → W'.cell? p = some (.int .u32 d)) : IsNat W' A n c N := by
  obtain ⟨h1, h2, f, ⟨b, off, hA, hc⟩, h4⟩ := h
  exact ⟨h1, h2, f, ⟨b, off, hA, fun i hi => hk _ _ (hc i hi)⟩, h4⟩
theorem cell_put {W : World} {l : Nat} {r : Loop} (h : W.heap[l]? = some (.loop r)) (o : Obj) (p : Addr) {v : Value} (hp : W.cell? p = some v) : (W.putObj l o).cell? p = some v := by
  have hne : p.block ≠ l := fun e => by
    obtain ⟨ob, h1, h2⟩ := cells_of_cell hp
    rw [e, h] at h1
    injection h1 with h1
    rw [← h1] at h2
    cases h2
  exact (World.cell?_of_block (World.putObj_heap_other hne)).trans hp
theorem frozen_put {W : World} {l : Nat} {r : Loop} (h : W.heap[l]? = some (.loop r)) (o : Obj) (p : Addr) {v : Value} (hp : W.cell? p = some v) : (W.putObj l o).frozen? p = W.frozen? p := by
  have hne : p.block ≠ l := fun e => by
    obtain ⟨ob, h1, h2⟩ := cells_of_cell hp
    rw [e, h] at h1
    injection h1 with h1
    rw [← h1] at h2
    cases h2
  exact World.frozen?_of_block (World.putObj_heap_other hne)
theorem below_put {B : Nat} {W W' : World} (h : Below B W W') (l : Nat) (hl : B ≤ l) (o : Obj) : Below B W (W'.putObj l o) :=
  h.trans ⟨rfl, rfl, rfl, by simp, fun k hk => World.putObj_heap_other (by omega)⟩

/-- A variable that holds a slice. -/
def SlAt (W : World) (b : Nat) (A : Option Addr) (n c : Nat) : Prop := W.cell? ⟨b, 0, none⟩ = some (.slice A n c) ∧ W.frozen? ⟨b, 0, none⟩ = false
theorem SlAt.keep {W W' : World} {b : Nat} {A : Option Addr} {n c : Nat} (h : SlAt W b A n c) (hb : Below W.heap.size W W') : SlAt W' b A n c := ⟨cell_keep h.1 hb, frozen_keep h.1 h.2 hb⟩
theorem SlAt.set {W : World} {b : Nat} {A A' : Option Addr} {n c n' c' : Nat} (h : SlAt W b A n c) : SlAt (W.setCell ⟨b, 0, none⟩ (.slice A' n' c')) b A' n' c' :=
  ⟨World.cell?_setCell_same' _ _ _ (by rw [h.1]; rfl), by rw [World.frozen?_setCell]; exact h.2⟩
theorem SlAt.far {W : World} {b : Nat} {A : Option Addr} {n c : Nat} (h : SlAt W b A n c) (b' : Nat) (hne : b' ≠ b) (u : Value) : SlAt (W.setCell ⟨b', 0, none⟩ u) b A n c :=
  ⟨by rw [World.cell?_setCell_far _ _ _ _ (by exact hne)]; exact h.1, by rw [World.frozen?_setCell]; exact h.2⟩
theorem SlAt.put {W : World} {b l : Nat} {r : Loop} {A : Option Addr} {n c : Nat} (h : SlAt W b A n c) (hl : W.heap[l]? = some (.loop r)) (o : Obj) : SlAt (W.putObj l o) b A n c :=
  ⟨cell_put hl o _ h.1, (frozen_put hl o _ h.1).trans h.2⟩
theorem SlAt.nat {W : World} {b : Nat} {A A' : Option Addr} {n c n' c' N : Nat} (h : SlAt W b A n c) (i : IsNat W A' n' c' N) (u : Value) : IsNat (W.setCell ⟨b, 0, none⟩ u) A' n' c' N :=
  isNat_set i _ _ fun x hx d e => by rw [h.1] at hx; injection hx with hx; rw [← hx] at e; cases e

/-- What a round of the loop does: the divisor's variable (b) becomes the first number. -/
def RoundDoes (l D b : Nat) (REC : Loop) (W W' : World) (A : Option Addr) (n c : Nat) : Prop :=
  W'.heap[l]? = some (.loop REC) ∧ W'.heap[D]? = some (.deferred (some [])) ∧ SlAt W' b A n c ∧ Below b W W' ∧
  (∀ b1 A1 n1 c1, b1 ≠ b → SlAt W b1 A1 n1 c1 → SlAt W' b1 A1 n1 c1) ∧ (∀ A1 n1 c1 N, IsNat W A1 n1 c1 N → IsNat W' A1 n1 c1 N)

theorem box_set {W : World} {p : Nat} {v1 v2 u1 u2 : Value} (h1 : W.cell? ⟨p, 0, none⟩ = some u1) (h2 : W.cell? ⟨p, 1, none⟩ = some u2) :
    ((W.setCell ⟨p, 0, none⟩ v1).setCell ⟨p, 1, none⟩ v2).cell? ⟨p, 0, none⟩ = some v1 ∧ ((W.setCell ⟨p, 0, none⟩ v1).setCell ⟨p, 1, none⟩ v2).cell? ⟨p, 1, none⟩ = some v2 := by
  constructor
  · rw [World.cell?_setCell_other _ _ _ _ (by simp)]
    exact World.cell?_setCell_same' _ _ _ (by rw [h1]; rfl)
  · exact World.cell?_setCell_same' _ _ _ (by rw [World.cell?_setCell_other _ _ _ _ (by simp), h2]; rfl)

theorem gcd_step {N M : Nat} (_h : M ≠ 0) : Nat.gcd M (N % M) = Nat.gcd N M := by rw [Nat.gcd_comm N M, Nat.gcd_rec M N, Nat.gcd_comm]

/-- What lies in memory between two rounds. -/
def Between (B l D bx by_ b : Nat) (REC : Loop) (G k N M : Nat) (W0 W : World) : Prop :=
  W.heap[l]? = some (.loop REC) ∧ W.heap[D]? = some (.deferred (some [])) ∧ (∃ A n c, SlAt W b A n c) ∧ Below B W0 W ∧
  (∃ A n c, SlAt W bx A n c ∧ IsNat W A n c N) ∧ (∃ A n c, SlAt W by_ A n c ∧ IsNat W A n c M) ∧ Nat.gcd N M = G ∧ N < 4294967296 ^ k ∧ M < 4294967296 ^ k

theorem divide_all (A B : Option Addr) (n m c d N M k : Nat) (w : World) (hA : IsNat w A n c N) (hB : IsNat w B m d M) (hN : N < 4294967296 ^ k) (hk : k ≤ 10000000) (h0 : M ≠ 0) :
    Calls Tryz.prog 112 #[.slice A n c, .slice B m d] w (DivdOut w (N / M) (N % M)) := by
  have hn := hA.len hN
  by_cases hlt : N < M
  · exact divide_lt A B n m c d N M w hA hB hlt
  · by_cases h9 : M < 4294967296
    · exact divide_one A B n m c d N M w hA hB (by omega) hlt h0 h9
    · exact divide_more A B n m c d N M w hA hB (by omega) hlt (by omega)

set_option maxRecDepth 100000 in
set_option maxHeartbeats 3200000 in
theorem euclid1_any (l D bx by_ b B k G : Nat) (REC : Loop) (W0 : World)
    (hY : ∀ W A n c A' n' c', W.heap[l]? = some (.loop REC) → W.heap[D]? = some (.deferred (some [])) → (∃ A0 n0 c0, SlAt W b A0 n0 c0) →
      YieldAt Fence.wide 6 Tryz.prog l #[.slice A n c, .slice A' n' c'] W fun e W' => e = .returned (.bool true) ∧ RoundDoes l D b REC W W' A n c)
    (e1 : bx ≠ by_) (e2 : bx ≠ b) (e3 : by_ ≠ b) (f1 : B ≤ bx) (f2 : B ≤ by_) (f3 : B ≤ b) (f4 : B ≤ W0.heap.size) (hk : k ≤ 10000000)
    (N M : Nat) (W : World) (h0 : Between B l D bx by_ b REC G k N M W0 W) :
    CallsIn Fence.wide 7 Tryz.prog 132 #[.func (.yield l) #[] #[], .pointer (some ⟨bx, 0, none⟩), .pointer (some ⟨by_, 0, none⟩)] W fun e W' =>
      (∃ v, e = .returned v) ∧ W'.heap[l]? = some (.loop REC) ∧ W'.heap[D]? = some (.deferred (some [])) ∧ (∃ A n c, SlAt W' b A n c ∧ IsNat W' A n c G) ∧ Below B W0 W' := by
  have HY := Lib.hid hY
  clear hY
  refine callsIn_of_wp Tryz.func132 rfl trivial ?_ rfl
  simp only [Tryz.ntmps132, List.size_toArray, List.length_cons, List.length_nil, Nat.reduceAdd, Nat.reduceSub, Array.replicate_succ, Array.replicate_zero, List.push_toArray, List.append_toArray, List.nil_append, List.cons_append]
  gi_wp2
  gi_loopw [4] (fun _ wr => ∃ N M, Between B l D bx by_ b REC G k N M W0 wr) (fun _ wr => natAt wr ⟨by_, 0, none⟩)
  case atStart => exact ⟨N, M, h0⟩
  case round =>
    clear h0
    obtain ⟨N, M, hl, hD, hb, hBe, ⟨A, n, c, hx, iN⟩, ⟨A', n', c', hy, iM⟩, hg, hN, hM⟩ := hrel
    have Hmu := Lib.hid (natAt_eq hy.1 iM)
    obtain ⟨fn, tmps, assign, body, hrun, hR⟩ := HY.out wr A n c A' n' c' hl hD hb
    have q1 := hx.1
    have q2 := hy.1
    have Hg := Lib.hid hg
    have HN := Lib.hid hN
    have HM := Lib.hid hM
    clear hg hN hM
    gi_wp2
    refine hR.mono ?_
    rintro e W1 ⟨rfl, hl1, hD1, hb1, hB1, hs1, hn1⟩
    have hx1 := hs1 bx A n c e2 hx
    have hy1 := hs1 by_ A' n' c' e3 hy
    have iN1 := hn1 A n c N iN
    have iM1 := hn1 A' n' c' M iM
    have hBB : Below B W0 W1 := hBe.trans (hB1.mono f3)
    clear hs1 hn1 hx hy iN iM hBe hB1 q1 q2 hrun hR
    have q1 := hx1.1
    have q2 := hy1.1
    by_cases hM0 : M = 0
    · have hn0 : n' = 0 := (nat_pos iM1).2 hM0
      have Hgn := Lib.hid (show G = N by rw [← Hg.out, hM0, Nat.gcd_zero_right])
      clear hM0
      subst hn0
      gi_wp2
      go_end0
      exact ⟨⟨_, rfl⟩, hl1, hD1, ⟨A, n, c, hb1, by rw [Hgn.out]; exact iN1⟩, hBB⟩
    · have hn0 : 0 < n' := Nat.pos_of_ne_zero fun e => hM0 ((nat_pos iM1).1 e)
      have HM0 := Lib.hid hM0
      clear hM0
      gi_wp2_with (refine ⟨trivial, ?_⟩; gi_at_call 112; refine (callsIn_wide.2 (divide_all A A' n n' c c' N M k _ iN1 iM1 HN.out hk HM0.out)).mono ?_; rintro e W2 ⟨A3, n3, c3, A4, n4, c4, rfl, i3, i4, b2⟩; (have r1 := cell_keep q1 b2); (have r2 := cell_keep q2 b2); (have r3 := frozen_keep q1 hx1.2 b2); (have r4 := frozen_keep q2 hy1.2 b2))
      have X2 : SlAt W2 bx A n c := ⟨r1, r3⟩
      have Y2 : SlAt W2 by_ A' n' c' := ⟨r2, r4⟩
      have D2 := hb1.keep b2
      have hl2 : W2.heap[l]? = some (.loop REC) := (b2.block l (Array.getElem?_eq_some_iff.1 hl1).1).trans hl1
      have hD2 : W2.heap[D]? = some (.deferred (some [])) := (b2.block D (Array.getElem?_eq_some_iff.1 hD1).1).trans hD1
      have hK := (KeepsOthers.setCell W2 ⟨bx, 0, none⟩ (.slice A' n' c')).trans (KeepsOthers.setCell _ ⟨by_, 0, none⟩ (.slice A4 n4 c4))
      have Y3 : SlAt ((W2.setCell ⟨bx, 0, none⟩ (.slice A' n' c')).setCell ⟨by_, 0, none⟩ (.slice A4 n4 c4)) by_ A4 n4 c4 := (Y2.far bx e1 _).set
      have i43 := (Y2.far bx e1 (.slice A' n' c')).nat (X2.nat i4 (.slice A' n' c')) (.slice A4 n4 c4)
      refine ⟨⟨M, N % M, hK.same l _ hl2 rfl, hK.same D _ hD2 rfl, ⟨A, n, c, (D2.far bx e2 _).far by_ e3 _⟩, ((below_more hBB f4 b2).setCell (by exact f1) _).setCell (by exact f2) _, ⟨A', n', c', (X2.set).far by_ (Ne.symm e1) _, (Y2.far bx e1 (.slice A' n' c')).nat (X2.nat (iM1.below (Nat.le_refl _) b2) _) _⟩, ⟨A4, n4, c4, Y3, i43⟩, (gcd_step HM0.out).trans Hg.out, HM.out, Nat.lt_trans (Nat.mod_lt _ (Nat.pos_of_ne_zero HM0.out)) HM.out⟩, ?_⟩
      rw [natAt_eq Y3.1 i43, Hmu.out]
      exact Nat.mod_lt _ (Nat.pos_of_ne_zero HM0.out)

theorem euclid_any (A A' : Option Addr) (n c n' c' : Nat) (w : World) :
    Calls Tryz.prog 111 #[.slice A n c, .slice A' n' c'] w fun e w' =>
      e = .returned (.func (.func 132) #[] #[.pointer (some ⟨w.heap.size, 0, none⟩), .pointer (some ⟨w.heap.size + 1, 0, none⟩)]) ∧
      w' = (w.alloc (.cells #[.slice A n c] 86)).alloc (.cells #[.slice A' n' c'] 86) := by
  go_enter Tryz.func111, Tryz.ntmps111
  go_wp2
  go_ret
  exact ⟨rfl, rfl⟩

set_option maxRecDepth 100000 in
set_option maxHeartbeats 3200000 in
theorem gcd_any (v1 v2 : Value) (z1 z2 : Int) (k1 k2 : Nat) (w : World) (h1 : IsInt v1 z1 k1) (h2 : IsInt v2 z2 k2) :
    Calls Tryz.prog 89 #[v1, v2] w (IntOut w ((Nat.gcd z1.natAbs z2.natAbs : Nat) : Int)) := by
  obtain ⟨na, sa, rfl, hz1, hs1, hk1, hkk1⟩ := h1
  obtain ⟨nb, sb, rfl, hz2, hs2, hk2, hkk2⟩ := h2
  have G1 : Hid (vB sa.data.toList < 4294967296 ^ k1) := by show _ < _; rw [← natAbs_zv na sa, hz1]; exact hk1
  have G2 : Hid (vB sb.data.toList < 4294967296 ^ k2) := by show _ < _; rw [← natAbs_zv nb sb, hz2]; exact hk2
  have E : Hid (Nat.gcd z1.natAbs z2.natAbs = Nat.gcd (vB sa.data.toList) (vB sb.data.toList)) := by show _ = _; rw [← hz1, ← hz2, natAbs_zv, natAbs_zv]
  rw [E.out]
  clear E hz1 hz2 hk1 hk2
  generalize hX : vB sa.data.toList = X at *
  generalize hY : vB sb.data.toList = Y at *
  have HX := Lib.hid hX
  have HY := Lib.hid hY
  clear hX hY
  refine (callsIn_wide (n := 8)).1 ?_
  refine callsIn_of_wp_marks Tryz.func89 rfl trivial ?_ rfl
  simp only [Tryz.ntmps89, List.size_toArray, List.length_cons, List.length_nil, Nat.reduceAdd, Nat.reduceSub, Array.replicate_succ, Array.replicate_zero, List.push_toArray, List.append_toArray, List.nil_append, List.cons_append]
  have hmx : Tryz.prog.follows .mixedOrders = true := by kernel_rfl
  have HG : Hid (X < 4294967296 ^ (max k1 k2) ∧ Y < 4294967296 ^ (max k1 k2)) :=
    ⟨Nat.lt_of_lt_of_le G1.out (Nat.pow_le_pow_right (by omega) (by omega)), Nat.lt_of_lt_of_le G2.out (Nat.pow_le_pow_right (by omega) (by omega))⟩
  have hGl : Hid (X ≠ 0 → Nat.gcd X Y ≤ X) := fun h => Nat.gcd_le_left _ (Nat.pos_of_ne_zero h)
  have S00 : Boxes2 ((((w.alloc (.cells #[.bool na, .string sa] 27)).alloc (.cells #[.bool nb, .string sb] 27)).alloc (.cells #[.bool false, .string ⟨#[]⟩] 27)).alloc (.cells #[.slice none 0 0] 86)) w.heap.size na nb sa sb := keep4aa (boxes2 w 27 na nb sa sb)
  have hr : ResCell ((((w.alloc (.cells #[.bool na, .string sa] 27)).alloc (.cells #[.bool nb, .string sb] 27)).alloc (.cells #[.bool false, .string ⟨#[]⟩] 27)).alloc (.cells #[.slice none 0 0] 86)) (w.heap.size + 1 + 1) := by
    have := (ResCell.new ((w.alloc (.cells #[.bool na, .string sa] 27)).alloc (.cells #[.bool nb, .string sb] 27)) 27).keep (below1 _ (.cells #[.slice none 0 0] 86))
    rwa [World.size_alloc, World.size_alloc] at this
  have hd : SlAt ((((w.alloc (.cells #[.bool na, .string sa] 27)).alloc (.cells #[.bool nb, .string sb] 27)).alloc (.cells #[.bool false, .string ⟨#[]⟩] 27)).alloc (.cells #[.slice none 0 0] 86)) (w.heap.size + 1 + 1 + 1) none 0 0 := by
    constructor <;> simp [go_sem]
  have hb4 : Below w.heap.size w ((((w.alloc (.cells #[.bool na, .string sa] 27)).alloc (.cells #[.bool nb, .string sb] 27)).alloc (.cells #[.bool false, .string ⟨#[]⟩] 27)).alloc (.cells #[.slice none 0 0] 86)) :=
    (below3 w _ _ _).alloc (by simp only [World.size_alloc]; omega) _
  gi_wp2
  generalize ((((w.alloc (.cells #[.bool na, .string sa] 27)).alloc (.cells #[.bool nb, .string sb] 27)).alloc (.cells #[.bool false, .string ⟨#[]⟩] 27)).alloc (.cells #[.slice none 0 0] 86)) = W4 at *
  gi_region_with_o (first
    | (refine ⟨trivial, ?_⟩; gi_at_call 73; first
        | ((with_reducible refine (callsIn_wide.2 (magnitude_any na sa _ (by omega))).mono ?_); rintro e W1 ⟨A1, n1, c1, rfl, i1, b1⟩; obtain ⟨t1, t2, t3, t4⟩ := keep4 b1 S00)
        | ((with_reducible refine (callsIn_wide.2 (magnitude_any nb sb _ (by omega))).mono ?_); rintro e W2 ⟨A2, n2, c2, rfl, i2, b2⟩))
    | (refine ⟨trivial, ?_⟩; gi_at_call 111; (with_reducible refine (callsIn_wide.2 (euclid_any A1 A2 n1 c1 n2 c2 _)).mono ?_); rintro e W3 ⟨rfl, rfl⟩))
  all_goals
    rw [HX.out] at i1
    rw [HY.out] at i2
    have hd2 : SlAt W2 (w.heap.size + 1 + 1 + 1) none 0 0 := (SlAt.keep (W := W4.drew) hd b1).keep b2
    have hr2 : ResCell W2 (w.heap.size + 1 + 1) := (hr.drew.keep b1).keep b2
    have hB2 : Below w.heap.size w W2 := below_more (below_more hb4.drew (Nat.le_refl _) b1) (Nat.le_refl _) b2
    have hlt : w.heap.size + 1 + 1 + 1 < W2.heap.size := World.block_lt_of_cell? W2 ⟨w.heap.size + 1 + 1 + 1, 0, none⟩ hd2.1
    have hbl := below2 W2 (.cells #[.slice A1 n1 c1] 86) (.cells #[.slice A2 n2 c2] 86)
    have hx3 : SlAt ((W2.alloc (.cells #[.slice A1 n1 c1] 86)).alloc (.cells #[.slice A2 n2 c2] 86)) W2.heap.size A1 n1 c1 := by constructor <;> simp [go_sem]
    have hy3 : SlAt ((W2.alloc (.cells #[.slice A1 n1 c1] 86)).alloc (.cells #[.slice A2 n2 c2] 86)) (W2.heap.size + 1) A2 n2 c2 := by constructor <;> simp [go_sem]
    have hd3 := hd2.keep hbl
    have hr3 := hr2.keep hbl
    have iX := (i1.below (Nat.le_refl _) b2).below (Nat.le_refl _) hbl
    have iY := i2.below (Nat.le_refl _) hbl
    have hB3 := below_more hB2 (Nat.le_refl _) hbl
    have hs3 : W2.heap.size + 1 + 1 = ((W2.alloc (.cells #[.slice A1 n1 c1] 86)).alloc (.cells #[.slice A2 n2 c2] 86)).heap.size := by simp only [World.size_alloc]
    clear hd2 hr2 hB2 hbl i1 i2 b1 b2 t1 t2 t3 t4 hd hr hb4 S00
    generalize ((W2.alloc (.cells #[.slice A1 n1 c1] 86)).alloc (.cells #[.slice A2 n2 c2] 86)) = W3 at *
    generalize W2.heap.size = x at *
    clear W1 W2 W4
    have Hs3 := Lib.hid hs3
    clear hs3
    gi_wp2
    refine rangeFunc_on rfl (by omega) (gf := 132) (lb := #[.pointer (some ⟨x, 0, none⟩), .pointer (some ⟨x + 1, 0, none⟩)]) rfl trivial (enters_of Tryz.func132 (by kernel_rfl) rfl)
      (R := fun _ W' => W'.heap[W3.heap.size]? = some (.deferred (some [])) ∧ (∃ A n c, SlAt W' (w.heap.size + 1 + 1 + 1) A n c ∧ IsNat W' A n c (Nat.gcd X Y)) ∧ Below (w.heap.size + 1 + 1 + 1) W3 W') ?_ ?_
    · intro fn hfn REC hREC
      have HREC := Lib.hid hREC
      clear hREC
      refine (euclid1_any (W3.heap.size + 1) W3.heap.size x (x + 1) (w.heap.size + 1 + 1 + 1) (w.heap.size + 1 + 1 + 1) (max k1 k2) (Nat.gcd X Y) REC W3 ?_ (by omega) (by omega) (by omega) (by omega) (by omega) (by omega) (by have := Hs3.out; show _ ≤ _; omega) (by omega) X Y _ ?_).mono ?_
      · rintro W A n c A' n' c' hl hD ⟨A0, n0, c0, hs⟩
        refine round_on HREC.out trivial hl rfl fun RB => ?_
        have hsP := hs.put hl (.loop RB)
        have hlt' : W3.heap.size + 1 < W.heap.size := (Array.getElem?_eq_some_iff.1 hl).1
        have hDP : (W.putObj (W3.heap.size + 1) (.loop RB)).heap[W3.heap.size]? = some (.deferred (some [])) := (World.putObj_heap_other (by omega)).trans hD
        have hlP : (W.putObj (W3.heap.size + 1) (.loop RB)).heap[W3.heap.size + 1]? = some (.loop RB) := World.putObj_heap_same hlt'
        have hBP : Below (w.heap.size + 1 + 1 + 1) W (W.putObj (W3.heap.size + 1) (.loop RB)) := below_put (Below.refl _ _) _ (by have := Hs3.out; omega) _
        have hsk : ∀ b1 A1 n1 c1, SlAt W b1 A1 n1 c1 → SlAt (W.putObj (W3.heap.size + 1) (.loop RB)) b1 A1 n1 c1 := fun _ _ _ _ h => h.put hl _
        have hnk : ∀ A1 n1 c1 N, IsNat W A1 n1 c1 N → IsNat (W.putObj (W3.heap.size + 1) (.loop RB)) A1 n1 c1 N := fun _ _ _ _ h => h.same fun p d hp => cell_put hl _ p hp
        have p1 := hsP.1
        have p2 := hsP.2
        have Hk := Lib.hid (And.intro hsk hnk)
        have Hl := Lib.hid hl
        have Hp := Lib.hid (And.intro hlP hDP)
        clear hsk hnk hl hlt' hlP hDP hD
        gi_wp2
        refine ⟨Hl.out, ?_⟩
        gi_wp2
        have hKK := KeepsOthers.setCell (W.putObj (W3.heap.size + 1) (.loop RB)) ⟨w.heap.size + 1 + 1 + 1, 0, none⟩ (.slice A n c)
        have l1 := hKK.same _ _ Hp.out.1 rfl
        have l2 := hKK.same _ _ Hp.out.2 rfl
        have hne : W3.heap.size ≠ W3.heap.size + 1 := by omega
        refine ⟨l1, World.putObj_heap_same (Array.getElem?_eq_some_iff.1 l1).1, (World.putObj_heap_other hne).trans l2, (hsP.set).put l1 _, below_put (hBP.setCell (Nat.le_refl _) _) _ (by have := Hs3.out; omega) _, fun b1 A1 n1 c1 hne1 h1 => ((Hk.out.1 b1 A1 n1 c1 h1).far _ (Ne.symm hne1) _).put l1 _, fun A1 n1 c1 N h1 => (hsP.nat (Hk.out.2 A1 n1 c1 N h1) _).same fun p d hp => cell_put l1 _ p hp⟩
      · have hbl := below2 W3 (.deferred (some [])) (.loop REC)
        refine ⟨?_, ?_, ⟨_, _, _, hd3.keep hbl⟩, hbl.mono (by have := Hs3.out; omega), ⟨A1, n1, c1, hx3.keep hbl, iX.below (Nat.le_refl _) hbl⟩, ⟨A2, n2, c2, hy3.keep hbl, iY.below (Nat.le_refl _) hbl⟩, rfl, HG.out.1, HG.out.2⟩
        · have := World.alloc_heap_new (W3.alloc (.deferred (some []))) (.loop REC)
          rwa [World.size_alloc] at this
        · exact (Below.heap_alloc _ _ _ (by rw [World.size_alloc]; omega)).trans (World.alloc_heap_new W3 _)
      · rintro e W' ⟨hv, hl, hD, hs, hB⟩
        exact ⟨hv, hl, hD, hs, hB⟩
    · rintro fn W' o r ⟨hD, ⟨A, n, c, hs, hi⟩, hB⟩ hl
      have hs' := hs.put hl o
      have hi' : IsNat (W'.putObj (W3.heap.size + 1) o) A n c (Nat.gcd X Y) := hi.same fun p d hp => cell_put hl o p hp
      have hB' : Below (w.heap.size + 1 + 1 + 1) W3 (W'.putObj (W3.heap.size + 1) o) := below_put hB _ (by have := Hs3.out; omega) _
      have hD' : (W'.putObj (W3.heap.size + 1) o).heap[W3.heap.size]? = some (.deferred (some [])) := (World.putObj_heap_other (by omega)).trans hD
      have hln : n ≤ 1000000000 := by
        have hg : Nat.gcd X Y < 4294967296 ^ (max k1 k2) := by
          by_cases h0 : X = 0
          · rw [h0, Nat.gcd_zero_left]; exact HG.out.2
          · exact Nat.lt_of_le_of_lt (hGl.out h0) HG.out.1
        have := hi.len hg
        omega
      have hr4 : ResCell (W'.putObj (W3.heap.size + 1) o) (w.heap.size + 1 + 1) :=
        ⟨(hB'.cell (p := ⟨w.heap.size + 1 + 1, 0, none⟩) (by dsimp only; omega)).trans hr3.1, (hB'.cell (p := ⟨w.heap.size + 1 + 1, 1, none⟩) (by dsimp only; omega)).trans hr3.2.1, (hB'.frozen (p := ⟨w.heap.size + 1 + 1, 0, none⟩) (by dsimp only; omega)).trans hr3.2.2.1, (hB'.frozen (p := ⟨w.heap.size + 1 + 1, 1, none⟩) (by dsimp only; omega)).trans hr3.2.2.2⟩
      have hB5 : Below w.heap.size w (W'.putObj (W3.heap.size + 1) o) := hB3.trans (hB'.mono (by omega))
      have hB3s := hB3.size
      clear hs hi hB hD hl hB' hd3 hr3 iX iY hB3 hx3 hy3
      generalize W'.putObj (W3.heap.size + 1) o = W5 at *
      obtain ⟨z1', z2'⟩ := hs'
      have Hres := Lib.hid (ivN_eq false (Nat.gcd X Y) ((Nat.gcd X Y : Nat) : Int) rfl)
      gi_wp2_with (refine ⟨trivial, ?_⟩; gi_at_call 74; refine (callsIn_wide.2 (signed_any false A n c _ _ hi' (by omega))).mono ?_; rintro e W6 ⟨rfl, b6⟩; rw [Hres.out]; obtain ⟨r1, r2, r3, r4⟩ := hr4.keep b6)
      have hK6 : W6.heap[W3.heap.size]? = some (.deferred (some [])) := (b6.block _ (Array.getElem?_eq_some_iff.1 hD').1).trans hD'
      have hK := ((KeepsOthers.setCell W6 ⟨w.heap.size + 1 + 1, 0, none⟩ (.bool (sg ((Nat.gcd X Y : Nat) : Int)))).trans (KeepsOthers.setCell _ ⟨w.heap.size + 1 + 1, 1, none⟩ (.string (mg ((Nat.gcd X Y : Nat) : Int))))).same _ _ hK6 rfl
      have hv := box_set (v1 := .bool (sg ((Nat.gcd X Y : Nat) : Int))) (v2 := .string (mg ((Nat.gcd X Y : Nat) : Int))) r1 r2
      have hB7 := below_put (below_more2 (u := .bool (sg ((Nat.gcd X Y : Nat) : Int))) (v := .string (mg ((Nat.gcd X Y : Nat) : Int))) (p := ⟨w.heap.size + 1 + 1, 0, none⟩) (q := ⟨w.heap.size + 1 + 1, 1, none⟩) hB5 (Nat.le_refl _) b6 (by dsimp only; omega) (by dsimp only; omega)) W3.heap.size (by have := hB3s; omega) (.deferred none)
      have v1 := cell_kept hv.1 (grownBy_putObj' _ W3.heap.size (.deferred none)) (fun r e => by cases e; exact ⟨_, hK, rfl⟩)
      have v2 := cell_kept hv.2 (grownBy_putObj' _ W3.heap.size (.deferred none)) (fun r e => by cases e; exact ⟨_, hK, rfl⟩)
      refine ⟨by simp, .inl ⟨_, _, rfl, run_takeDeferred hK, ?_⟩⟩
      exact ⟨.agg #[.bool (sg ((Nat.gcd X Y : Nat) : Int)), .string (mg ((Nat.gcd X Y : Nat) : Int))], by simp [results, Tryz.results89, go_sem, v1, v2], rfl, hB7⟩
end Go.Proofs.YtgcogpfmhmmgdaaGreatDoor
