/- What a look-up in a set of words gives; the factors of a word that forbidden.factors yields (plain). Conditions: the lengths are those of strings. What forbidden.factors yields; what isAllowed and isMinimal return. Conditions: the words have at most 10^5 letters, the words of the set are none empty; the set is a map that can be read. What forbidden.isAllowed and isMinimal return. Conditions: the word has at most 10^5 letters; the set is a map that can be read. -/
import Derived.Test.YtkpmapeapiodcaaDoorQ05
import Derived.Test.YtkpmapeapiodcaaDoorQ02
import Derived.RangeFuncNested
import Derived.RangeFuncBound
import Derived.RangeFuncCalls
import Derived.RangeFuncLeaves
import Derived.Shelf.Abstract
import Derived.Shelf.RegionOpen
import Derived.WalkKit
import Derived.OwnWalkIn
import Derived.TacticsInMore
import Derived.LoopNIn
import Derived.LoopIn
import Derived.Sort.QuietIn
import Derived.RangeFuncBox

namespace Go.Proofs.YtkpmapeapiodcaaDoor
open Go.RowKit Go.Maps
set_option linter.unusedSimpArgs false
set_option linter.unusedVariables false

theorem Tryd.zeroBF (w : World) : (zeroValue 4).run Tryd.prog w = .ok (.bool false) w := by kernel_rfl
theorem plainB_invF {P : Program} {e : TypeId} (he : P.underlying e = some .bool) {v : Value} {z : MapS × List MemPlace} (h : plainElem P e v = some z) : ∃ x, v = .bool x ∧ z = (.lit (.bool x), []) := by
  unfold plainElem at h
  rw [he] at h
  cases v <;> simp at h
  exact ⟨_, rfl, h.symm⟩
set_option maxRecDepth 100000 in
theorem lookS {W : World} {b n : Nat} {l : List Wd} {x : Wd} (h : W.ownsMap Tryd.prog 9 (plainElem Tryd.prog 4) b n (mapS l)) (hx : x.length ≤ 9223372036854775807) :
    (Instr.lookup 48 (.map (some b)) (.string ⟨x.toArray⟩) false).run Tryd.prog W = .ok (.bool (decide (x ∈ l))) W := by
  obtain ⟨v, ps, hrun, hv⟩ := h.lookup Tryd.keyedS Tryd.underlying48 (Tryd.zeroBF W) (plainElem_bool Tryd.underlying4 false) (keyS_of hx)
  rw [mapS_at] at hv
  obtain ⟨y, hy, hz⟩ := plainB_invF Tryd.underlying4 hv
  have hz2 := congrArg Prod.fst hz
  dsimp only at hz2
  injection hz2 with hz2
  injection hz2 with hz2
  rw [hz2, ← hy]
  exact hrun
def CutP (x : Wd) (n : Nat) (u : Wd) : Prop := ∃ e s, e ≤ x.length ∧ e - n ≤ s ∧ s < e ∧ u = (x.drop s).take (e - s)
abbrev Cut (x : Wd) (n : Nat) : Type := { u : Wd // CutP x n u }
theorem CutP.len {x : Wd} {n : Nat} {u : Wd} (h : CutP x n u) : u.length ≤ x.length := by
  obtain ⟨e, s, h1, -, -, rfl⟩ := h
  rw [List.length_take, List.length_drop]
  omega
def Come (x : Wd) (n : Nat) (pre : List (Cut x n)) (e s : Nat) : Prop := ∀ e' s', e' ≤ x.length → e' - n ≤ s' → s' < e' → (e' < e ∨ e' = e ∧ s' < s) → (x.drop s').take (e' - s') ∈ pre.map (·.1)
theorem Come.start (x : Wd) (n : Nat) : Come x n [] 0 0 := fun e' s' h1 h2 h3 h4 => by omega
theorem Come.row {x : Wd} {n e : Nat} {pre : List (Cut x n)} (h : Come x n pre e 0) : Come x n pre e (e - n) := fun e' s' h1 h2 h3 h4 => h e' s' h1 h2 h3 (by omega)
theorem Come.next {x : Wd} {n e s : Nat} {pre : List (Cut x n)} (h : Come x n pre e s) (hs : e ≤ s) : Come x n pre (e + 1) 0 := fun e' s' h1 h2 h3 h4 => h e' s' h1 h2 h3 (by omega)
theorem Come.step {x : Wd} {n e s : Nat} {pre : List (Cut x n)} (h : Come x n pre e s) (u : Cut x n) (hu : u.1 = (x.drop s).take (e - s)) : Come x n (pre ++ [u]) e (s + 1) := fun e' s' h1 h2 h3 h4 => by
  rw [List.map_append, List.mem_append]
  by_cases hx : e' = e ∧ s' = s
  · obtain ⟨rfl, rfl⟩ := hx
    right
    rw [← hu]; exact List.mem_singleton_self _
  · exact .inl (h e' s' h1 h2 h3 (by omega))
theorem Come.all {x : Wd} {n e : Nat} {pre : List (Cut x n)} (h : Come x n pre e 0) (he : x.length < e) : ∀ u, CutP x n u → u ∈ pre.map (·.1) := by
  rintro u ⟨e', s', h1, h2, h3, rfl⟩
  exact h e' s' h1 h2 h3 (.inl (by omega))
theorem cut_none {l : List Wd} {x : Wd} {n : Nat} (hne : ∀ u ∈ l, u ≠ []) (hn : ∀ u ∈ l, u.length ≤ n) : alwB l x = true ↔ ∀ u, CutP x n u → u ∉ l := by
  rw [alwB_iff]
  have h := cut_iff (F := fun u => u ∈ l) (w := x) (n := n)
  constructor
  · rintro h1 u ⟨e, s, a1, a2, a3, rfl⟩ hu
    obtain ⟨v, v1, -, -, v2⟩ := h.1 ⟨e, s, a1, a2, a3, hu⟩
    exact h1 v v1 v2
  · intro h1 u hu hx
    obtain ⟨e, s, a1, a2, a3, a4⟩ := h.2 ⟨u, hu, hne u hu, hn u hu, hx⟩
    exact h1 _ ⟨e, s, a1, a2, a3, rfl⟩ a4
theorem min_none {l : List Wd} {x : Wd} (hne : ∀ u ∈ l, u ≠ []) : minB l x = true ↔ ∀ u, CutP x (x.length - 1) u → u ∉ l := by
  rw [minB_iff]
  have h := cut_iff (F := fun u => u ∈ l) (w := x) (n := x.length - 1)
  have h2 := min_cut (l := l) (w := x)
  constructor
  · rintro h1 u ⟨e, s, a1, a2, a3, rfl⟩ hu
    exact (h2.2 (fun v hv _ hx => h1 v hv hx)) (h.1 ⟨e, s, a1, a2, a3, hu⟩)
  · intro h1 u hu hx
    exact h2.1 (fun ⟨v, v1, v2, v3, v4⟩ => by
      obtain ⟨e, s, a1, a2, a3, a4⟩ := h.2 ⟨v, v1, v2, v3, v4⟩
      exact h1 _ ⟨e, s, a1, a2, a3, rfl⟩ a4) u hu (hne u hu) hx
end Go.Proofs.YtkpmapeapiodcaaDoor

namespace Go.Proofs.YtkpmapeapiodcaaDoor
open Go.RowKit Go.Shelf Go.Maps
attribute [local go_sem] Oper.semAt_some
set_option linter.unusedSimpArgs false
set_option linter.unusedVariables false

def KtF (n₀ B : Nat) (W W1 : World) : Prop := Below n₀ W W1 ∧ W1.heap[B]? = W.heap[B]? ∧ W1.heap[B + 1]? = W.heap[B + 1]?
theorem KtF.refl (n₀ B : Nat) (W : World) : KtF n₀ B W W := ⟨Below.refl _ _, rfl, rfl⟩
theorem KtF.trans {n₀ B : Nat} {X Y Z : World} (h : KtF n₀ B X Y) (k : KtF n₀ B Y Z) : KtF n₀ B X Z := ⟨h.1.trans k.1, k.2.1.trans h.2.1, k.2.2.trans h.2.2⟩
theorem KtF.turn {n₀ B : Nat} {w : World} (hn : n₀ ≤ w.heap.size) (hB : B + 1 < w.heap.size) (W : World) (l : Nat) (o o' : Obj) (hl : w.heap.size ≤ l) (h : W.heap[l]? = some o) (h1 : o.isCells = false) (h2 : o.isWalk = false) : KtF n₀ B W (W.putObj l o') :=
  ⟨⟨rfl, rfl, rfl, by simp, fun k hk => World.putObj_heap_other (by omega)⟩, World.putObj_heap_other (by omega), World.putObj_heap_other (by omega)⟩
def natF : Value → Nat
  | .int _ z => z.toNat
  | _ => 0
theorem run_maxZ {P : Program} (k : IntKind) (a b c : Int) (h : max a b = c) (w : World) (ts : Array TypeId) (t : TypeId) :
    (Builtin.max_ ts t #[.int k a, .int k b]).run P w = .ok (.int k c) w := by
  by_cases h1 : a < b
  · have e : c = b := by omega
    simp [Builtin.max_, Builtin.max2, h1, e]
  · have e : c = a := by omega
    simp [Builtin.max_, Builtin.max2, h1, e]
theorem factors_any (x : Wd) (n : Int) (w : World) :
    Calls Tryd.prog 51 #[.string ⟨x.toArray⟩, .int .i64 n] w fun e w' =>
      e = .returned (.func (.func 77) #[] #[.pointer (some ⟨w.heap.size, 0, none⟩), .pointer (some ⟨w.heap.size + 1, 0, none⟩)]) ∧ w' = (w.alloc (.cells #[.string ⟨x.toArray⟩] 9)).alloc (.cells #[.int .i64 n] 3) := by
  go_enter Tryd.func51, Tryd.ntmps51
  go_wp2
  go_ret
  exact ⟨rfl, rfl⟩
set_option maxRecDepth 100000 in
set_option maxHeartbeats 3200000 in
theorem factors1_in (nn l B : Nat) (n₀ : Nat) (x : Wd) (n : Nat) (J Jx : List (Cut x n) → World → Prop) (hnn : 1 ≤ nn) (W : World) (hJ : AbidesFrom W.heap.size J)
    (hY : ∀ (pre : List (Cut x n)) (u : Cut x n) (W1 : World), J pre W1 → pre.length < (x.length + 1) * (x.length + 1) → YieldAt Fence.wide (nn - 1) Tryd.prog l #[.string ⟨u.1.toArray⟩] W1 fun e W' =>
      (e = .returned (.bool true) ∧ J (pre ++ [u]) W' ∧ KtF n₀ B W1 W') ∨ (e = .returned (.bool false) ∧ Jx (pre ++ [u]) W'))
    (hxB : W.cell? ⟨B, 0, none⟩ = some (.string ⟨x.toArray⟩)) (hnB : W.cell? ⟨B + 1, 0, none⟩ = some (.int .i64 (n : Int))) (hx : x.length ≤ 100000) (hn : n ≤ 100000) (h0 : J [] W) :
    CallsIn Fence.wide nn Tryd.prog 77 #[.func (.yield l) #[] #[], .pointer (some ⟨B, 0, none⟩), .pointer (some ⟨B + 1, 0, none⟩)] W fun e W' => (∃ u, e = .returned u) ∧
      ((∃ ys : List (Cut x n), (∀ u, CutP x n u → u ∈ ys.map (·.1)) ∧ J ys W') ∨ (∃ pre, True ∧ Jx pre W')) := by
  have HY := Lib.hid hY
  have HXB := Lib.hid hxB
  have HNB := Lib.hid hnB
  obtain ⟨L, hL⟩ : ∃ L, x.length = L := ⟨_, rfl⟩
  have HL := Lib.hid hL
  rw [hL] at HY hx
  clear hY hJ hL
  refine callsIn_of_wp Tryd.func77 rfl trivial ?_ rfl
  simp only [Tryd.ntmps77, List.size_toArray, List.length_cons, List.length_nil, Nat.reduceAdd, Nat.reduceSub, Array.replicate_succ, Array.replicate_zero, List.push_toArray, List.append_toArray, List.nil_append, List.cons_append]
  have hwL : IntKind.i64.wrap ((L : Int) + 1) = (L : Int) + 1 := by rw [IntWalk.i64_in _ (by omega)]
  have hsz : (⟨x.toArray⟩ : ByteArray).size = L := by have := HL.out; simpa [ByteArray.size] using this
  gi_wp2
  clear hxB hnB
  gi_loopw [4, 5, 9] (fun s4 s5 s9 wr => ∃ (e : Nat) (pre : List (Cut x n)), s9 = .int .i64 (e : Int) ∧ e ≤ L + 1 ∧ Hid (Come x n pre e 0) ∧ Hid (pre.length ≤ e * (L + 1)) ∧ J pre wr ∧ KtF n₀ B W wr) (fun s4 s5 s9 _ => L + 1 - natF s9)
  case atStart => exact ⟨0, [], rfl, Nat.zero_le _, Lib.hid (Come.start x n), Lib.hid (Nat.zero_le _), h0, KtF.refl _ _ _⟩
  case round =>
    clear h0
    obtain ⟨e, pre, rfl, heL, HC, HP, hJs, hK⟩ := hrel
    have x1 : wr.cell? ⟨B, 0, none⟩ = some (.string ⟨x.toArray⟩) := (World.cell?_of_block (a := ⟨B, 0, none⟩) hK.2.1).trans HXB.out
    have x2 : wr.cell? ⟨B + 1, 0, none⟩ = some (.int .i64 (n : Int)) := (World.cell?_of_block (a := ⟨B + 1, 0, none⟩) hK.2.2).trans HNB.out
    rcases Nat.lt_or_ge e (L + 1) with hlt | hge
    · have j1 : decide ((e : Int) < (L : Int) + 1) = true := decide_eq_true (by omega)
      obtain ⟨s0, hs0⟩ : ∃ s0, e - n = s0 := ⟨_, rfl⟩
      have hmx : ∀ (W : World) (ts : Array TypeId) (t : TypeId), (Builtin.max_ ts t #[.int .i64 0, .int .i64 ((e : Int) - (n : Int))]).run Tryd.prog W = .ok (.int .i64 (s0 : Int)) W := fun W ts t => run_maxZ .i64 0 _ _ (by omega) W ts t
      have hwe : IntKind.i64.wrap ((e : Int) - (n : Int)) = (e : Int) - (n : Int) := by rw [IntWalk.i64_in _ (by omega)]
      have HR := Lib.hid (show Come x n pre e s0 by rw [← hs0]; exact HC.out.row)
      have HS0 := Lib.hid hs0
      have hse : s0 ≤ e := by omega
      clear hs0
      gi_wp2
      clear x1 x2
      gi_loopw [5] (fun s5 wx => ∃ (s : Nat) (pre2 : List (Cut x n)), s5 = .int .i64 (s : Int) ∧ s0 ≤ s ∧ s ≤ e ∧ Hid (Come x n pre2 e s) ∧ Hid (pre2.length ≤ e * (L + 1) + s) ∧ J pre2 wx ∧ KtF n₀ B W wx) (fun s5 _ => e - natF s5)
      case atStart => exact ⟨s0, pre, rfl, Nat.le_refl _, hse, HR, Lib.hid (Nat.le_trans HP.out (Nat.le_add_right _ _)), hJs, hK⟩
      case round =>
        clear hJs hK HC HP HR
        obtain ⟨s, pre2, rfl, hs1, hs2, HC, HP, hJs, hK⟩ := hrel
        have x1 : wr.cell? ⟨B, 0, none⟩ = some (.string ⟨x.toArray⟩) := (World.cell?_of_block (a := ⟨B, 0, none⟩) hK.2.1).trans HXB.out
        rcases Nat.lt_or_ge s e with hl2 | hg2
        · have j2 : decide ((s : Int) < (e : Int)) = true := decide_eq_true (by omega)
          obtain ⟨g, hg⟩ : ∃ g, (x.drop s).take (e - s) = g := ⟨_, rfl⟩
          have hcut : CutP x n g := ⟨e, s, by rw [HL.out]; omega, by have := HS0.out; omega, hl2, hg.symm⟩
          have hsl : (Instr.slice 9 (.string ⟨x.toArray⟩) (some (.int .i64 (s : Int))) (some (.int .i64 (e : Int))) none).run Tryd.prog wr = .ok (.string ⟨g.toArray⟩) wr := by
            have h := cutF (x := x) rfl s (e - s) (by rw [HL.out]; omega) wr
            rw [hg, show (s : Int) + ((e - s : Nat) : Int) = (e : Int) by omega] at h
            exact h
          have hplen : pre2.length < (L + 1) * (L + 1) := by
            have h1 := HP.out
            have h2 : (e + 1) * (L + 1) ≤ (L + 1) * (L + 1) := Nat.mul_le_mul_right _ (by omega)
            have h3 : (e + 1) * (L + 1) = e * (L + 1) + (L + 1) := Nat.succ_mul _ _
            omega
          have HCS := Lib.hid (HC.out.step (⟨g, hcut⟩ : Cut x n) hg.symm)
          have HPS := Lib.hid (show (pre2 ++ [(⟨g, hcut⟩ : Cut x n)]).length ≤ e * (L + 1) + (s + 1) by rw [List.length_append, List.length_singleton]; have := HP.out; omega)
          obtain ⟨fn, tmps, assign, body, hy, hR⟩ := HY.out pre2 ⟨g, hcut⟩ wr hJs hplen
          dsimp only at hy
          clear hplen hg
          gi_wp2
          refine hR.mono ?_
          rintro e9 W3 (⟨rfl, hJ3, hk3⟩ | ⟨rfl, hJx3⟩)
          · gi_wp2
            go_roundw
            case rel => exact ⟨s + 1, pre2 ++ [⟨g, hcut⟩], by go_num, by omega, by omega, HCS, HPS, hJ3, hK.trans hk3⟩
            case measure => simp [natF]; omega
          · gi_wp2
            refine bodyPost_ret (results_none rfl _ _ _) rfl ?_
            exact ⟨⟨_, rfl⟩, .inr ⟨_, trivial, hJx3⟩⟩
        · have j2 : decide ((s : Int) < (e : Int)) = false := decide_eq_false (by omega)
          have HN := Lib.hid (HC.out.next hg2)
          have HPN := Lib.hid (show pre2.length ≤ (e + 1) * (L + 1) by rw [Nat.succ_mul]; have := HP.out; omega)
          gi_wp2
          go_roundw
          case rel => exact ⟨e + 1, pre2, by go_num, by omega, HN, HPN, hJs, hK⟩
          case measure => simp [natF]; omega
    · have j1 : decide ((e : Int) < (L : Int) + 1) = false := decide_eq_false (by omega)
      have HA := Lib.hid (show ∀ u, CutP x n u → u ∈ pre.map (·.1) from by
        obtain rfl : e = L + 1 := by omega
        exact HC.out.all (by rw [HL.out]; omega))
      gi_wp2
      go_end0
      exact ⟨⟨_, rfl⟩, .inl ⟨pre, HA.out, hJs⟩⟩
theorem factors_stops (nn B n₀ : Nat) (x : Wd) (n : Nat) (w : World) (hnn : 1 ≤ nn) (hxB : w.cell? ⟨B, 0, none⟩ = some (.string ⟨x.toArray⟩)) (hnB : w.cell? ⟨B + 1, 0, none⟩ = some (.int .i64 (n : Int))) (hx : x.length ≤ 100000) (hn : n ≤ 100000) :
    SeqStopsK Fence.wide nn Tryd.prog 77 #[.pointer (some ⟨B, 0, none⟩), .pointer (some ⟨B + 1, 0, none⟩)] (fun u : Cut x n => #[Value.string ⟨u.1.toArray⟩]) (KtF n₀ B) (fun ys => ∀ u, CutP x n u → u ∈ ys.map (·.1)) (fun _ => True) ((x.length + 1) * (x.length + 1)) w :=
  fun l J Jx W hW hJ hJx hY h0 => factors1_in nn l B n₀ x n J Jx hnn W hJ hY (cell_keep hxB hW) (cell_keep hnB hW) hx hn h0
end Go.Proofs.YtkpmapeapiodcaaDoor

namespace Go.Proofs.YtkpmapeapiodcaaDoor
open Go.RowKit Go.Shelf Go.Maps
attribute [local go_sem] Oper.semAt_some
set_option linter.unusedSimpArgs false
set_option linter.unusedVariables false

theorem below_putF {B : Nat} {W W' : World} (h : Below B W W') (l : Nat) (hl : B ≤ l) (o : Obj) : Below B W (W'.putObj l o) :=
  h.trans ⟨rfl, rfl, rfl, by simp, fun k hk => World.putObj_heap_other (by omega)⟩
set_option maxRecDepth 100000 in
set_option maxHeartbeats 6400000 in
theorem isAllowed_any (l : List Wd) (x : Wd) (n b k : Nat) (R : Bool) (w : World) (hR : R = true ↔ ∀ u, CutP x n u → u ∉ l) (hm : w.ownsMap Tryd.prog 9 (plainElem Tryd.prog 4) b k (mapS l)) (hx : x.length ≤ 100000) (hn : n ≤ 100000) :
    Calls Tryd.prog 32 #[.map (some b), .int .i64 (n : Int), .string ⟨x.toArray⟩] w fun e w' => e = .returned (.bool R) ∧ Below w.heap.size w w' := by
  have HM := Lib.hid hm
  have HRR := Lib.hid hR
  obtain ⟨W0, hW0⟩ : ∃ W0, (w.alloc (.cells #[.map (some b)] 48)).alloc (.cells #[.bool false] 4) = W0 := ⟨_, rfl⟩
  have HW := Lib.hid hW0
  have hz0 : W0.heap.size = w.heap.size + 1 + 1 := by rw [← hW0, World.size_alloc, World.size_alloc]
  have B0 := Lib.hid (show Below w.heap.size w W0 by rw [← hW0]; exact below_more (below1 w _) (Nat.le_refl _) (below1 _ _))
  have C0 := Lib.hid (show W0.cell? ⟨w.heap.size, 0, none⟩ = some (.map (some b)) by rw [← hW0]; simp [go_sem])
  have C1 := Lib.hid (show W0.cell? ⟨w.heap.size + 1, 0, none⟩ = some (.bool false) by
    rw [← hW0, ← World.size_alloc w (.cells #[.map (some b)] 48)]; simp [go_sem])
  have F1 := Lib.hid (show W0.frozen? ⟨w.heap.size + 1, 0, none⟩ = false by
    rw [← hW0, ← World.size_alloc w (.cells #[.map (some b)] 48)]; simp [go_sem])
  have bs := below1 W0 (.cells #[.string ⟨x.toArray⟩] 9)
  have bn := below1 (W0.alloc (.cells #[.string ⟨x.toArray⟩] 9)) (.cells #[.int .i64 (n : Int)] 3)
  have bb := below_more bs (Nat.le_refl _) bn
  have C2 := Lib.hid (show ((W0.alloc (.cells #[.string ⟨x.toArray⟩] 9)).alloc (.cells #[.int .i64 (n : Int)] 3)).cell? ⟨W0.heap.size, 0, none⟩ = some (.string ⟨x.toArray⟩) by simp [go_sem])
  have C3 := Lib.hid (show ((W0.alloc (.cells #[.string ⟨x.toArray⟩] 9)).alloc (.cells #[.int .i64 (n : Int)] 3)).cell? ⟨W0.heap.size + 1, 0, none⟩ = some (.int .i64 (n : Int)) by
    rw [← World.size_alloc W0 (.cells #[.string ⟨x.toArray⟩] 9)]; simp [go_sem])
  have C4 := Lib.hid (cell_keep C0.out bb)
  have C5 := Lib.hid (cell_keep C1.out bb)
  have F5 := Lib.hid (frozen_keep C1.out F1.out bb)
  have B5 := Lib.hid (below_more B0.out (Nat.le_refl _) bb)
  have hz5 : ((W0.alloc (.cells #[.string ⟨x.toArray⟩] 9)).alloc (.cells #[.int .i64 (n : Int)] 3)).heap.size = w.heap.size + 4 := by rw [World.size_alloc, World.size_alloc, hz0]
  clear hm hR hW0 bs bn bb
  refine (callsIn_wide (n := 8)).1 ?_
  refine callsIn_of_wp_marks Tryd.func32 rfl trivial ?_ rfl
  simp only [Tryd.ntmps32, List.size_toArray, List.length_cons, List.length_nil, Nat.reduceAdd, Nat.reduceSub, Array.replicate_succ, Array.replicate_zero, List.push_toArray, List.append_toArray, List.nil_append, List.cons_append]
  gi_wp2_with (refine ⟨trivial, ?_⟩; gi_at_call 51; (with_reducible refine (callsIn_wide.2 (factors_any x (n : Int) _)).mono ?_); rintro e W1 ⟨rfl, rfl⟩)
  rw [HW.out]
  rw [hz0] at C2 C3
  generalize ((W0.alloc (.cells #[.string ⟨x.toArray⟩] 9)).alloc (.cells #[.int .i64 (n : Int)] 3)) = W5 at *
  clear HW C0 C1 F1 hz0 B0
  refine wpIn_rangeFunc_ownH rfl (by omega) (gf := 77) (lb := #[.pointer (some ⟨w.heap.size + 1 + 1, 0, none⟩), .pointer (some ⟨w.heap.size + 1 + 1 + 1, 0, none⟩)]) rfl trivial (enters_of Tryd.func77 (by kernel_rfl) rfl)
    (factors_stops _ (w.heap.size + 1 + 1) w.heap.size x n W5 (by omega) C2.out C3.out hx hn) (fun h h' => h.trans h') (KtF.turn (by omega) (by omega)) (Below.refl _ _) (fun _ => rfl)
    (fun (pre : List (Cut x n)) X => (∀ u ∈ pre.map (fun (v : Cut x n) => v.1), u ∉ l) ∧ X.cell? ⟨w.heap.size, 0, none⟩ = some (.map (some b)) ∧ X.cell? ⟨w.heap.size + 1, 0, none⟩ = some (.bool false) ∧ X.frozen? ⟨w.heap.size + 1, 0, none⟩ = false ∧ Below w.heap.size w X ∧ w.heap.size + 4 ≤ X.heap.size)
    (fun c pre X => c = .ret ∧ (∃ u, CutP x n u ∧ u ∈ l) ∧ X.cell? ⟨w.heap.size + 1, 0, none⟩ = some (.bool false) ∧ Below w.heap.size w X)
    (fun (pre : List (Cut x n)) X Y row hs hg hr => ⟨hs.1, cell_kept hs.2.1 hg (fun r e => (hr r e).2), cell_kept hs.2.2.1 hg (fun r e => (hr r e).2), (frozen_kept hs.2.2.1 hg (fun r e => (hr r e).2)).trans hs.2.2.2.1, hs.2.2.2.2.1.grown hg hs.2.2.2.2.1.size (fun r e => by have := (hr r e).1; omega), Nat.le_trans hs.2.2.2.2.2 hg.size⟩)
    (fun c pre X Y row hs hg hr => ⟨hs.1, hs.2.1, cell_kept hs.2.2.1 hg (fun r e => (hr r e).2), hs.2.2.2.grown hg hs.2.2.2.size (fun r e => by have := (hr r e).1; omega)⟩)
    ⟨fun u hu => by simp at hu, C4.out, C5.out, F5.out, B5.out, by omega⟩
    (fun u a' X => a' = { tmps := #[.map (some b), .int .i64 (n : Int), .string ⟨x.toArray⟩, .pointer (some ⟨w.heap.size, 0, none⟩), undef, undef, .pointer (some ⟨w.heap.size + 1, 0, none⟩), .string ⟨u.1.toArray⟩, .string ⟨x.toArray⟩, .int .i64 (n : Int), .func (.func 77) #[] #[.pointer (some ⟨w.heap.size + 1 + 1, 0, none⟩), .pointer (some ⟨w.heap.size + 1 + 1 + 1, 0, none⟩)], .string ⟨u.1.toArray⟩, undef, undef, undef], defers := [] })
    (fun u a' _ X Y row hs hg hr => hs)
    ?assign ?body ?done ?stop
  case assign =>
    rintro ll pre u X K hI hK'
    have HKK := Lib.hid hK'
    have HI := Lib.hid hI
    clear hK' hI
    gi_wp2
    exact HKK.out _ _ (KeepsFrom.refl _ _) ⟨Below.refl _ _, rfl, rfl⟩ HI.out rfl
  case body =>
    rintro ll pre u a' X hl ⟨r, hr⟩ ⟨i1, i2, i3, i4, i5, i6⟩ rfl hlt
    have hul : u.1.length ≤ 9223372036854775807 := by have := u.2.len; omega
    have hlk := lookS (x := u.1) (World.ownsMap.kept HM.out (grown_none i5) (by simp)) hul
    have HI1 := Lib.hid i1
    have HI4 := Lib.hid i5
    obtain ⟨g, hg⟩ : ∃ g, u.1 = g := ⟨_, rfl⟩
    have HC := Lib.hid (show CutP x n g by rw [← hg]; exact u.2)
    have HG := Lib.hid hg
    rw [hg] at hlk ⊢
    clear i1 i5 hg hr
    by_cases hin : g ∈ l
    · rw [decide_eq_true hin] at hlk
      gi_wp2
      exact ⟨(KeepsOthers.setCell _ _ _).from _, rfl, ⟨g, HC.out, hin⟩, World.cell?_setCell_same' _ _ _ (by rw [i3]; rfl), HI4.out.setCell (p := ⟨w.heap.size + 1, 0, none⟩) (Nat.le_succ _) _⟩
    · rw [decide_eq_false hin] at hlk
      gi_wp2
      refine ⟨KeepsFrom.refl _ _, ⟨Below.refl _ _, rfl, rfl⟩, fun v hv => ?_, i2, i3, i4, HI4.out, i6⟩
      rw [List.map_append, List.mem_append] at hv
      rcases hv with hv | hv
      · exact HI1.out v hv
      · have : v = u.1 := by simpa using hv
        rw [this, HG.out]; exact hin
  case done =>
    rintro D xs X hD hxs ⟨i1, i2, i3, i4, i5, i6⟩ hDX
    have HR1 := Lib.hid (show R = true from HRR.out.2 (fun u hu => i1 u (hxs u hu)))
    have IX := Lib.hid hDX
    have I5 := Lib.hid i5
    clear i1 i5 hDX hxs
    gi_wp2
    have hK' := (KeepsOthers.setCell X ⟨w.heap.size + 1, 0, none⟩ (.bool true)).same D _ IX.out rfl
    refine ⟨by simp, .inl ⟨_, _, rfl, run_takeDeferred hK', ?_⟩⟩
    have hc5 := cell_kept (World.cell?_setCell_same' X ⟨w.heap.size + 1, 0, none⟩ (.bool true) (by rw [i3]; rfl)) (grownBy_putObj' _ D (.deferred none)) (fun r e => by cases e; exact ⟨_, hK', rfl⟩)
    refine ⟨.bool true, ?_, by rw [HR1.out], ?_⟩
    · simp [results, Tryd.f32, go_sem, hc5]
    · exact below_putF (I5.out.setCell (p := ⟨w.heap.size + 1, 0, none⟩) (Nat.le_succ _) _) D (by omega) _
  case stop =>
    rintro D cc pre X hD _ ⟨rfl, ⟨g, g1, g2⟩, i2, i3⟩ hDX
    have HR1 := Lib.hid (show R = false by
      cases hRb : R with
      | false => rfl
      | true => exact absurd g2 (HRR.out.1 hRb g g1))
    have IX := Lib.hid hDX
    clear hDX
    gi_wp2
    refine ⟨by simp, .inl ⟨_, _, rfl, run_takeDeferred IX.out, ?_⟩⟩
    have hc5 := cell_kept i2 (grownBy_putObj' _ D (.deferred none)) (fun r e => by cases e; exact ⟨_, IX.out, rfl⟩)
    refine ⟨.bool false, ?_, by rw [HR1.out], ?_⟩
    · simp [results, Tryd.f32, go_sem, hc5]
    · exact below_putF i3 D (by omega) _
set_option maxRecDepth 100000 in
set_option maxHeartbeats 3200000 in
theorem isMinimal_any (l : List Wd) (x : Wd) (b k : Nat) (w : World) (hne : ∀ u ∈ l, u ≠ []) (hm : w.ownsMap Tryd.prog 9 (plainElem Tryd.prog 4) b k (mapS l)) (hx : x.length ≤ 100000) (hx0 : x ≠ []) :
    Calls Tryd.prog 26 #[.map (some b), .string ⟨x.toArray⟩] w fun e w' => e = .returned (.bool (minB l x)) ∧ Below w.heap.size w w' := by
  have hx1 : 0 < x.length := List.length_pos_iff.2 hx0
  have HA := Lib.hid (isAllowed_any l x (x.length - 1) b k (minB l x) w (min_none hne) hm hx (by omega))
  have hsz : (⟨x.toArray⟩ : ByteArray).size = x.length := by simp [ByteArray.size]
  have hw : IntKind.i64.wrap ((x.length : Int) - 1) = ((x.length - 1 : Nat) : Int) := by rw [IntWalk.i64_in _ (by omega)]; omega
  obtain ⟨L, hL⟩ : ∃ L, x.length = L := ⟨_, rfl⟩
  rw [hL] at HA hsz hw
  clear hm hL hx hx0 hx1
  go_enter Tryd.func26, Tryd.ntmps26
  go_wp2_with (go_at_call 32; (with_reducible refine HA.out.mono ?_); rintro e W1 ⟨rfl, b1⟩; (have B1 := Lib.hid b1); clear b1)
  go_ret
  exact ⟨rfl, B1.out⟩
end Go.Proofs.YtkpmapeapiodcaaDoor
