/- What polynomial.terms yields: the exponents with coefficients that are not 0, the greatest one first. Condition: at most 10^6 coefficients. Plain facts on quotients that are rounded down: there is one alone. No condition. What integer.Div returns for the divisor 0. -/
import Derived.Test.YtgcogpfmhmmgdaaGreatDoorQ21
import Derived.RangeFuncNested
import Derived.RangeFuncBound
import Derived.RangeFuncCalls
import Derived.RangeFuncLeaves
import Derived.RangeFuncOne
import Derived.Shelf.Abstract
import Derived.Shelf.RegionOpen
import Derived.WalkKit
import Derived.OwnWalkIn
import Derived.TacticsInMore
import Derived.LoopNIn
import Derived.LoopIn
import Derived.Test.YtgcogpfmhmmgdaaGreatDoorQ14
import Derived.Test.YtgcogpfmhmmgdaaGreatDoorQ10
import Derived.Deep.RegionHeld3
import Derived.Deep.DeepCutAuto

namespace Go.Proofs.YtgcogpfmhmmgdaaGreatDoor
open Go.RowKit Go.Shelf
attribute [local go_sem] Oper.semAt_some
set_option linter.unusedSimpArgs false
set_option linter.unusedVariables false

/-- An exponent with a coefficient that is not 0. -/
abbrev Tm (L : List Int) : Type := { x : Nat // co L x ≠ 0 }
/-- The exponents of the terms below n, the greatest one first. -/
def tmx (L : List Int) : Nat → List (Tm L)
  | 0 => []
  | n + 1 => if h : co L n = 0 then tmx L n else ⟨n, h⟩ :: tmx L n
theorem tmx_len (L : List Int) (n : Nat) : (tmx L n).length ≤ n := by
  induction n with
  | zero => exact Nat.le_refl _
  | succ n ih =>
    unfold tmx
    split
    · omega
    · rw [List.length_cons]; omega
theorem tmx_mem (L : List Int) (n i : Nat) (h : co L i ≠ 0) : i < n → (⟨i, h⟩ : Tm L) ∈ tmx L n := by
  induction n with
  | zero => intro h1; omega
  | succ n ih =>
    intro h1
    unfold tmx
    by_cases e : i = n
    · subst e
      rw [dif_neg h]
      exact List.mem_cons_self
    · split
      · exact ih (by omega)
      · exact List.mem_cons_of_mem _ (ih (by omega))
theorem Tm.lt {L : List Int} (x : Tm L) : x.1 < (trm L).length := by
  rcases Nat.lt_or_ge x.1 (trm L).length with h | h
  · exact h
  · exact absurd (trm_above L h) x.2
theorem below_grown {W W1 : World} (h : Below W.heap.size W W1) : W.grownBy W1 none := ⟨h.os, h.tape, h.output, h.size, fun k hk _ => h.block k hk⟩
theorem addr_block (a : Addr) (n : Nat) : (a.add n).block = a.block := by unfold Addr.add; split <;> rfl
/-- The cells of a slice of integers, in blocks below n₀. -/
def PCells (W : World) (n₀ : Nat) (A : Option Addr) (L : List Int) (g : Nat → Bool) (s : Nat → ByteArray) (k : Nat) : Prop :=
  ∀ i, i < L.length → ∃ a, A = some a ∧ a.block < n₀ ∧ W.cell? (a.add (i * 2)) = some (.bool (g i)) ∧ W.cell? ⟨(a.add (i * 2)).block, (a.add (i * 2)).off + 1, none⟩ = some (.string (s i)) ∧ IsInt (.agg #[.bool (g i), .string (s i)]) (co L i) k
theorem PCells.keep {W W1 : World} {n₀ : Nat} {A : Option Addr} {L : List Int} {g : Nat → Bool} {s : Nat → ByteArray} {k : Nat} (h : PCells W n₀ A L g s k) (hb : Below n₀ W W1) : PCells W1 n₀ A L g s k := fun i hi => by
  obtain ⟨a, h1, h2, h3, h4, h5⟩ := h i hi
  exact ⟨a, h1, h2, (hb.cell (by rw [addr_block]; exact h2)).trans h3, (hb.cell (by show (a.add _).block < _; rw [addr_block]; exact h2)).trans h4, h5⟩
theorem PolyAt.cells {W : World} {v : Value} {L : List Int} {k : Nat} (h : PolyAt W v L k) : ∃ A c g s, v = .slice A L.length c ∧ PCells W W.heap.size A L g s k := by
  obtain ⟨A, c, g, s, h1, h2, h3⟩ := h
  refine ⟨A, c, g, s, h1, fun i hi => ?_⟩
  obtain ⟨a, ha, c0, c1, hI⟩ := h3 i hi
  exact ⟨a, ha, by have := World.block_lt_of_cell? _ _ c0; rwa [addr_block] at this, c0, c1, hI⟩
/-- What a round keeps: what lay below n₀, and the block Bs. -/
def Kt (n₀ Bs : Nat) (W W1 : World) : Prop := Below n₀ W W1 ∧ W1.heap[Bs]? = W.heap[Bs]?
theorem Kt.refl (n₀ Bs : Nat) (W : World) : Kt n₀ Bs W W := ⟨Below.refl _ _, rfl⟩
theorem Kt.trans {n₀ Bs : Nat} {A B C : World} (h : Kt n₀ Bs A B) (k : Kt n₀ Bs B C) : Kt n₀ Bs A C := ⟨h.1.trans k.1, k.2.trans h.2⟩
theorem Kt.of_below {n₀ Bs : Nat} {W W1 : World} (h : Below W.heap.size W W1) (h0 : n₀ ≤ W.heap.size) (h1 : Bs < W.heap.size) : Kt n₀ Bs W W1 := ⟨h.mono h0, h.block _ h1⟩
theorem Kt.turn {n₀ Bs : Nat} {w : World} (hn : n₀ ≤ w.heap.size) (hB : Bs < w.heap.size) (W : World) (l : Nat) (o o' : Obj) (hl : w.heap.size ≤ l) (h : W.heap[l]? = some o) (h1 : o.isCells = false) (h2 : o.isWalk = false) : Kt n₀ Bs W (W.putObj l o') :=
  ⟨belowK_b hn W l o o' hl h h1 h2, World.putObj_heap_other (by omega)⟩
theorem Kt.set {n₀ Bs : Nat} {W W1 : World} (h : Kt n₀ Bs W W1) {a : Addr} (ha : n₀ ≤ a.block) (hb : Bs ≠ a.block) (u : Value) : Kt n₀ Bs W (W1.setCell a u) := ⟨h.1.setCell ha u, by rw [← h.2]; simp [World.setCell, Array.getElem?_modify, Ne.symm hb]⟩
theorem terms_any (A : Option Addr) (n c : Nat) (w : World) :
    Calls Tryz.prog 46 #[.slice A n c] w fun e w' =>
      e = .returned (.func (.func 83) #[] #[.pointer (some ⟨w.heap.size, 0, none⟩)]) ∧ w' = w.alloc (.cells #[.slice A n c] 22) := by
  go_enter Tryz.func46, Tryz.ntmps46
  go_wp2
  go_ret
  exact ⟨rfl, rfl⟩
set_option maxRecDepth 100000 in
set_option maxHeartbeats 3200000 in
theorem terms1_in (n l Bs n₀ c k : Nat) (A : Option Addr) (L : List Int) (g : Nat → Bool) (s : Nat → ByteArray) (J Jx : List (Tm L) → World → Prop) (hn : 1 ≤ n) (hL : L.length ≤ 1000000)
    (W : World) (hJ : AbidesFrom W.heap.size J)
    (hY : ∀ (pre : List (Tm L)) (x : Tm L) (W1 : World), J pre W1 → pre.length < L.length → YieldAt Fence.wide (n - 1) Tryz.prog l #[.int .i64 (x.1 : Int), .agg #[.bool (g x.1), .string (s x.1)]] W1 fun e W' =>
      (e = .returned (.bool true) ∧ J (pre ++ [x]) W' ∧ Kt n₀ Bs W1 W') ∨ (e = .returned (.bool false) ∧ Jx (pre ++ [x]) W'))
    (hBs : W.cell? ⟨Bs, 0, none⟩ = some (.slice A L.length c)) (hBn : Bs < W.heap.size) (hWn : n₀ ≤ W.heap.size) (hc : PCells W n₀ A L g s k) (h0 : J [] W) :
    CallsIn Fence.wide n Tryz.prog 83 #[.func (.yield l) #[] #[], .pointer (some ⟨Bs, 0, none⟩)] W fun e W' => (∃ v, e = .returned v) ∧
      ((∃ ys, ys = tmx L L.length ∧ J ys W') ∨ (∃ pre, True ∧ Jx pre W')) := by
  have HY := Lib.hid hY
  have HC := Lib.hid hc
  have HJ := Lib.hid hJ
  clear hY hc hJ
  refine callsIn_of_wp Tryz.func83 rfl trivial ?_ rfl
  simp only [Tryz.ntmps83, List.size_toArray, List.length_cons, List.length_nil, Nat.reduceAdd, Nat.reduceSub, Array.replicate_succ, Array.replicate_zero, List.push_toArray, List.append_toArray, List.nil_append, List.cons_append]
  gi_wp2
  gi_loopw [3] (fun i wr => ∃ (q : Nat) (pre : List (Tm L)), i = .int .i64 ((q : Int) - 1) ∧ q ≤ L.length ∧ Hid (pre ++ tmx L q = tmx L L.length) ∧ J pre wr ∧ Kt n₀ Bs W wr) (fun i _ => (intOf i + 1).toNat)
  case atStart => exact ⟨L.length, [], rfl, Nat.le_refl _, rfl, h0, Kt.refl _ _ _⟩
  case round =>
    clear h0
    obtain ⟨q, pre, rfl, hq, HE, hJs, hB⟩ := hrel
    have x0 := (World.cell?_of_block (a := ⟨Bs, 0, none⟩) hB.2).trans hBs
    have hs0 := hB.1.size
    rcases q with _ | q
    · gi_wp2
      go_end0
      exact ⟨⟨_, rfl⟩, .inl ⟨pre, by have := HE.out; rwa [tmx, List.append_nil] at this, hJs⟩⟩
    · obtain ⟨a, rfl, hab, c0, c1, hI⟩ := HC.out q (by omega)
      have x1 := (hB.1.cell (p := a.add (q * 2)) (by rw [addr_block]; exact hab)).trans c0
      have x2 := (hB.1.cell (p := ⟨(a.add (q * 2)).block, (a.add (q * 2)).off + 1, none⟩) (by show (a.add _).block < _; rw [addr_block]; exact hab)).trans c1
      have HI := Lib.hid hI
      obtain ⟨m, Hm⟩ : ∃ m : Int, Hid (((nbits (co L q).natAbs : Nat) : Int) = m) := ⟨_, Lib.hid rfl⟩
      have hq1 : ((q + 1 : Nat) : Int) - 1 = (q : Int) := by omega
      have hq0 : (0 : Int) ≤ (q : Int) := by omega
      have hql : (q : Int) < (L.length : Int) := by omega
      have HQ := Lib.hid hq
      clear hI hq
      rw [hq1]
      by_cases hm : m = 0
      · have HE2 := Lib.hid (show pre ++ tmx L q = tmx L L.length by
          have h := HE.out
          rw [tmx, dif_pos (nbits_zero.1 (Hm.out.trans hm))] at h
          exact h)
        subst hm
        clear HE
        gi_wp2_with (refine ⟨trivial, ?_⟩; gi_at_call 34; refine (callsIn_wide.2 (ibits_any _ _ k _ HI.out)).mono ?_; rw [Hm.out]; rintro e W1 ⟨rfl, b1⟩; (have hJ1 := HJ.out pre _ _ none hJs (below_grown b1) (fun r e => by cases e)); (have B1 := hB.trans (Kt.of_below b1 (by omega) (by omega))))
        refine ⟨fun _ h => (by cases h), ?_⟩
        gi_wp2
        go_roundw
        case rel => exact ⟨q, pre, by go_num, by have := HQ.out; omega, HE2, hJ1, B1⟩
        case measure => simp [intOf]
      · have hz : co L q ≠ 0 := fun h => hm (by rw [← Hm.out]; exact nbits_zero.2 h)
        have HE2 := Lib.hid (show (pre ++ [⟨q, hz⟩]) ++ tmx L q = tmx L L.length by
          have h := HE.out
          rw [tmx, dif_neg hz] at h
          rw [List.append_assoc]
          exact h)
        have hlen : pre.length < L.length := by
          have h1 := congrArg List.length HE2.out
          have h2 := tmx_len L L.length
          simp only [List.length_append, List.length_singleton] at h1
          omega
        have hm0 : 0 < m := by have := Hm.out; omega
        have Hz := Lib.hid hz
        clear HE hm
        gi_wp2_with (refine ⟨trivial, ?_⟩; gi_at_call 34; refine (callsIn_wide.2 (ibits_any _ _ k _ HI.out)).mono ?_; rw [Hm.out]; rintro e W1 ⟨rfl, b1⟩; (have hJ1 := HJ.out pre _ _ none hJs (below_grown b1) (fun r e => by cases e)); (have B1 := hB.trans (Kt.of_below b1 (by omega) (by omega))); (have y0 := cell_keep x0 b1); (have y1 := cell_keep x1 b1); (have y2 := cell_keep x2 b1); (clear x0 x1 x2); (obtain ⟨fn, tmps, assign, body, hy, hR⟩ := HY.out pre ⟨q, Hz.out⟩ W1 hJ1 hlen))
        refine hR.mono ?_
        rintro e W3 (⟨rfl, hJ3, hk3⟩ | ⟨rfl, hJx3⟩)
        · gi_wp2
          go_roundw
          case rel => exact ⟨q, pre ++ [⟨q, Hz.out⟩], by go_num, by have := HQ.out; omega, HE2, hJ3, B1.trans hk3⟩
          case measure => simp [intOf]
        · gi_wp2
          refine bodyPost_ret (results_none rfl _ _ _) rfl ?_
          exact ⟨⟨_, rfl⟩, .inr ⟨_, trivial, hJx3⟩⟩
/-- The contract of the iterator. -/
theorem terms_stops (n Bs n₀ c k : Nat) (A : Option Addr) (L : List Int) (g : Nat → Bool) (s : Nat → ByteArray) (w : World) (hn : 1 ≤ n) (hL : L.length ≤ 1000000) (hBs : w.cell? ⟨Bs, 0, none⟩ = some (.slice A L.length c)) (hwn : n₀ ≤ w.heap.size) (hc : PCells w n₀ A L g s k) :
    SeqStopsK Fence.wide n Tryz.prog 83 #[.pointer (some ⟨Bs, 0, none⟩)] (fun x : Tm L => #[Value.int .i64 (x.1 : Int), .agg #[.bool (g x.1), .string (s x.1)]]) (Kt n₀ Bs) (fun ys => ys = tmx L L.length) (fun _ => True) L.length w :=
  fun l J Jx W hW hJ hJx hY h0 => by
    have hBl : Bs < w.heap.size := World.block_lt_of_cell? w ⟨Bs, 0, none⟩ hBs
    have hs := hW.size
    exact terms1_in n l Bs n₀ c k A L g s J Jx hn hL W hJ hY ((hW.cell (p := ⟨Bs, 0, none⟩) hBl).trans hBs) (by omega) (Nat.le_trans hwn hs) (hc.keep (hW.mono hwn)) h0
end Go.Proofs.YtgcogpfmhmmgdaaGreatDoor

namespace Go.Proofs.YtgcogpfmhmmgdaaGreatDoor
open Go.RowKit

theorem dq_true {N M : Nat} (h : M ≠ 0) : dq true N M * M = N + dr true N M ∧ dr true N M < M := by
  have h1 := Nat.div_add_mod N M
  have h2 := Nat.mod_lt N (show M > 0 by omega)
  unfold dq dr
  by_cases h0 : N % M = 0
  · rw [if_neg (by simp [h0]), if_neg (by simp [h0]), Nat.mul_comm]; omega
  · rw [if_pos ⟨rfl, h0⟩, if_pos ⟨rfl, h0⟩, Nat.add_mul, Nat.one_mul, Nat.mul_comm]; omega
theorem dq_false {N M : Nat} (h : M ≠ 0) : dq false N M * M + dr false N M = N ∧ dr false N M < M := by
  have h1 := Nat.div_add_mod N M
  have h2 := Nat.mod_lt N (show M > 0 by omega)
  unfold dq dr
  rw [if_neg (by simp), if_neg (by simp), Nat.mul_comm]; omega
/-- The quotient and the rest. -/
theorem qD_spec {a b : Int} (h : b ≠ 0) : qD a b * b + rD a b = a ∧ (0 < b → 0 ≤ rD a b ∧ rD a b < b) ∧ (b < 0 → b < rD a b ∧ rD a b ≤ 0) := by
  have hb : b.natAbs ≠ 0 := by omega
  obtain ⟨t1, t2⟩ := dq_true (N := a.natAbs) hb
  obtain ⟨f1, f2⟩ := dq_false (N := a.natAbs) hb
  have t1' : ((dq true a.natAbs b.natAbs : Nat) : Int) * (b.natAbs : Int) = (a.natAbs : Int) + ((dr true a.natAbs b.natAbs : Nat) : Int) := by exact_mod_cast t1
  have f1' : ((dq false a.natAbs b.natAbs : Nat) : Int) * (b.natAbs : Int) + ((dr false a.natAbs b.natAbs : Nat) : Int) = (a.natAbs : Int) := by exact_mod_cast f1
  unfold qD rD
  by_cases ha0 : a < 0 <;> by_cases hb0 : b < 0
  · have eb : (b.natAbs : Int) = -b := by omega
    have ea : (a.natAbs : Int) = -a := by omega
    rw [show sg a = true from decide_eq_true ha0, show sg b = true from decide_eq_true hb0]
    simp only [bne_self_eq_false, Bool.false_eq_true, if_false, if_true]
    rw [eb, ea, Int.mul_neg] at f1'
    generalize dq false a.natAbs b.natAbs = qf at *
    generalize dr false a.natAbs b.natAbs = rf at *
    generalize (qf : Int) * b = p at *
    clear t1 t1' t2 f1
    omega
  · have eb : (b.natAbs : Int) = b := by omega
    have ea : (a.natAbs : Int) = -a := by omega
    rw [show sg a = true from decide_eq_true ha0, show sg b = false from decide_eq_false hb0]
    simp only [Bool.true_bne, Bool.not_false, if_true, Bool.false_eq_true, if_false]
    rw [eb, ea] at t1'
    rw [Int.neg_mul]
    generalize dq true a.natAbs b.natAbs = qf at *
    generalize dr true a.natAbs b.natAbs = rf at *
    generalize (qf : Int) * b = p at *
    clear f1 f1' f2 t1
    omega
  · have eb : (b.natAbs : Int) = -b := by omega
    have ea : (a.natAbs : Int) = a := by omega
    rw [show sg a = false from decide_eq_false ha0, show sg b = true from decide_eq_true hb0]
    simp only [Bool.false_bne, if_true]
    rw [eb, ea, Int.mul_neg] at t1'
    rw [Int.neg_mul]
    generalize dq true a.natAbs b.natAbs = qf at *
    generalize dr true a.natAbs b.natAbs = rf at *
    generalize (qf : Int) * b = p at *
    clear f1 f1' f2 t1
    omega
  · have eb : (b.natAbs : Int) = b := by omega
    have ea : (a.natAbs : Int) = a := by omega
    rw [show sg a = false from decide_eq_false ha0, show sg b = false from decide_eq_false hb0]
    simp only [bne_self_eq_false, Bool.false_eq_true, if_false]
    rw [eb, ea] at f1'
    generalize dq false a.natAbs b.natAbs = qf at *
    generalize dr false a.natAbs b.natAbs = rf at *
    generalize (qf : Int) * b = p at *
    clear t1 t1' t2 f1
    omega
theorem div_one {a b q r q' r' : Int} (h1 : q * b + r = a) (h2 : q' * b + r' = a) (hr : (0 < b → 0 ≤ r ∧ r < b) ∧ (b < 0 → b < r ∧ r ≤ 0)) (hr' : (0 < b → 0 ≤ r' ∧ r' < b) ∧ (b < 0 → b < r' ∧ r' ≤ 0)) (hb : b ≠ 0) : q = q' ∧ r = r' := by
  have h3 : (q - q') * b = r' - r := by rw [Int.sub_mul]; omega
  have h4 : q - q' = 0 := by
    rcases Int.lt_trichotomy (q - q') 0 with h | h | h
    · exfalso
      rcases Int.lt_or_lt_of_ne hb with hb0 | hb0
      · have h5 : -1 * b ≤ (q - q') * b := Int.mul_le_mul_of_nonpos_right (by omega) (by omega)
        have := hr.2 hb0; have := hr'.2 hb0; omega
      · have h5 : (q - q') * b ≤ -1 * b := Int.mul_le_mul_of_nonneg_right (by omega) (by omega)
        have := hr.1 hb0; have := hr'.1 hb0; omega
    · exact h
    · exfalso
      rcases Int.lt_or_lt_of_ne hb with hb0 | hb0
      · have h5 : (q - q') * b ≤ 1 * b := Int.mul_le_mul_of_nonpos_right (by omega) (by omega)
        have := hr.2 hb0; have := hr'.2 hb0; omega
      · have h5 : 1 * b ≤ (q - q') * b := Int.mul_le_mul_of_nonneg_right (by omega) (by omega)
        have := hr.1 hb0; have := hr'.1 hb0; omega
  rw [h4] at h3
  omega
/-- The machine's quotient, rounded down. -/
theorem qD_mach {a b : Int} (h : b ≠ 0) :
    qD a b = (if a.tmod b ≠ 0 ∧ (decide (a.tmod b < 0) != decide (b < 0)) = true then a.tdiv b - 1 else a.tdiv b) ∧
    rD a b = (if a.tmod b ≠ 0 ∧ (decide (a.tmod b < 0) != decide (b < 0)) = true then a.tmod b + b else a.tmod b) := by
  obtain ⟨s1, s2, s3⟩ := qD_spec (a := a) h
  have e := Int.mul_tdiv_add_tmod a b
  have hl : (a.tmod b).natAbs < b.natAbs := by
    have := Int.natAbs_tmod a b
    rw [this]
    exact Nat.mod_lt _ (by omega)
  rw [Int.mul_comm] at e
  split
  · rename_i hc
    obtain ⟨c1, c2⟩ := hc
    refine div_one (a := a) (b := b) s1 ?_ ⟨s2, s3⟩ ?_ h
    · rw [Int.sub_mul, Int.one_mul]; omega
    · by_cases hx : a.tmod b < 0 <;> by_cases hy : b < 0 <;> simp [hx, hy] at c2 <;> constructor <;> intro h9 <;> omega
  · rename_i hc
    refine div_one (a := a) (b := b) s1 e ⟨s2, s3⟩ ?_ h
    by_cases hz : a.tmod b = 0
    · rw [hz]; constructor <;> intro h9 <;> omega
    · by_cases hx : a.tmod b < 0 <;> by_cases hy : b < 0 <;> simp [hx, hy, hz] at hc <;> constructor <;> intro h9 <;> omega
end Go.Proofs.YtgcogpfmhmmgdaaGreatDoor

namespace Go.Proofs.YtgcogpfmhmmgdaaGreatDoor
open Go.RowKit

set_option maxRecDepth 100000 in
set_option maxHeartbeats 3200000 in
theorem idiv_zero (v1 v2 : Value) (z1 : Int) (k1 k2 : Nat) (w : World) (h1 : IsInt v1 z1 k1) (h2 : IsInt v2 0 k2) :
    Calls Tryz.prog 90 #[v1, v2] w fun e w' => e = .returned (.tuple #[.agg #[.bool false, .string ⟨#[]⟩], .agg #[.bool false, .string ⟨#[]⟩], .int .i64 9]) ∧ Below w.heap.size w w' := by
  obtain ⟨na, sa, rfl, hz1, hs1, hk1, hkk1⟩ := h1
  obtain ⟨nb, sb, rfl, hz2, hs2, hk2, hkk2⟩ := h2
  have HM : Hid (vB sb.data.toList = 0) := by show _ = _; rw [← natAbs_zv nb sb, hz2]; rfl
  clear hz1 hz2 hk1 hk2
  have S00 := boxes2 w 27 na nb sa sb
  have hb := (below3 w (.cells #[.bool na, .string sa] 27) (.cells #[.bool nb, .string sb] 27) (.cells #[.bool false, .string ⟨#[]⟩] 27)).alloc (by rw [World.size_alloc, World.size_alloc, World.size_alloc]; omega) (.cells #[.bool false, .string ⟨#[]⟩] 27)
  have r5 := (ResCell.new ((w.alloc (.cells #[.bool na, .string sa] 27)).alloc (.cells #[.bool nb, .string sb] 27)) 27).keep (below1 _ (.cells #[.bool false, .string ⟨#[]⟩] 27))
  have r6 := ResCell.new (((w.alloc (.cells #[.bool na, .string sa] 27)).alloc (.cells #[.bool nb, .string sb] 27)).alloc (.cells #[.bool false, .string ⟨#[]⟩] 27)) 27
  rw [World.size_alloc, World.size_alloc] at r5
  rw [World.size_alloc, World.size_alloc, World.size_alloc] at r6
  have e5 : w.heap.size + 1 + 1 ≠ w.heap.size + 1 + 1 + 1 := by omega
  have e6 : w.heap.size + 1 + 1 + 1 ≠ w.heap.size + 1 + 1 := by omega
  go_enter Tryz.func90, Tryz.ntmps90
  go_upto_region 1 with fail
  go_region_held3 (fun W => W.cell? ⟨w.heap.size, 0, none⟩ = some (.bool na) ∧ W.cell? ⟨w.heap.size, 1, none⟩ = some (.string sa) ∧ W.cell? ⟨w.heap.size + 1, 0, none⟩ = some (.bool nb) ∧ W.cell? ⟨w.heap.size + 1, 1, none⟩ = some (.string sb)) (first | exact keep4 (by assumption) (by assumption) | exact keep4aa S00 | go_keep)
    (first
      | (go_at_call_of 73 (Value.agg #[Value.bool na, Value.string sa]); refine (magnitude_any na sa _ (by omega)).mono ?_; rintro e W1 ⟨A1, n1, c1, rfl, i1, b1⟩)
      | (go_at_call_of 73 (Value.agg #[Value.bool nb, Value.string sb]); refine (magnitude_any nb sb _ (by omega)).mono ?_; rintro e W2 ⟨A2, n2, c2, rfl, i2, b2⟩; rw [HM.out] at i2; obtain rfl := (nat_none i2).2 rfl; obtain ⟨r1, r2, r3, r4⟩ := (r5.drew.keep b1).keep b2; obtain ⟨q1, q2, q3, q4⟩ := (r6.drew.keep b1).keep b2))
  all_goals
    go_wp2
    exact bodyPost_ret (v := .tuple #[.agg #[.bool false, .string ⟨#[]⟩], .agg #[.bool false, .string ⟨#[]⟩], .int .i64 9]) (by simp [results, Tryz.results90, go_sem, r1, r2, q1, q2]) rfl ⟨rfl, below_more2 (below_more2 (below_more hb.drew (Nat.le_refl _) b1) (Nat.le_refl _) b2 (by show w.heap.size ≤ w.heap.size + 1 + 1; omega) (by show w.heap.size ≤ w.heap.size + 1 + 1; omega)) (Nat.le_refl _) (Below.refl _ _) (by show w.heap.size ≤ w.heap.size + 1 + 1 + 1; omega) (by show w.heap.size ≤ w.heap.size + 1 + 1 + 1; omega)⟩
end Go.Proofs.YtgcogpfmhmmgdaaGreatDoor
