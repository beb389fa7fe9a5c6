/- What grooveref14.factor returns. Conditions: the word has at most 100000 letters; lengths are those of strings. What a look-up in a set of words gives; the factors of a word that forbidden.factors yields (plain). Conditions: the lengths are those of strings. What forbidden.factors yields; what isAllowed and isMinimal return. Conditions: the words have at most 10^5 letters, the words of the set are none empty; the set is a map that can be read. -/
import Derived.Test.YtkpmapeapiodcaaDoorQ05
import Derived.Test.YtkpmapeapiodcaaDoorQ02
import Derived.RangeFuncNested
import Derived.RangeFuncBound
import Derived.RangeFuncCalls
import Derived.RangeFuncLeaves
import Derived.Shelf.Abstract
import Derived.Shelf.RegionOpen
import Derived.WalkKit
import Derived.OwnWalkIn
import Derived.TacticsInMore
import Derived.LoopNIn
import Derived.LoopIn
import Derived.Sort.QuietIn
import Derived.RangeFuncBox

namespace Go.Proofs.YtkpmapeapiodcaaDoor
open Go.RowKit
set_option linter.unusedSimpArgs false
set_option linter.unusedVariables false

theorem facB_from (x u : Wd) : facB x u = (List.range' 0 (x.length + 1 - u.length)).any fun i => (x.drop i).take u.length == u := by
  unfold facB
  rw [List.range_eq_range']
theorem cutF {x : Wd} {s : ByteArray} (h : ⟨x.toArray⟩ = s) (a n : Nat) (h2 : a + n ≤ x.length) (w : World) :
    (Instr.slice 9 (.string s) (some (.int .i64 (a : Int))) (some (.int .i64 ((a : Int) + (n : Int)))) none).run Tryd.prog w = .ok (.string ⟨((x.drop a).take n).toArray⟩) w := by
  subst h
  rw [run_slice_string w 9 ⟨x.toArray⟩ .i64 .i64 (a : Int) ((a : Int) + (n : Int)) Tryd.underlying9 (by omega) (by omega) (by simp [ByteArray.size]; omega), show ((a : Int) + (n : Int)).toNat = a + n by omega, Int.toNat_natCast, ByteArray.extract_mk, Nat.add_sub_cancel_left]
set_option maxRecDepth 100000 in
set_option maxHeartbeats 6400000 in
theorem rfactor_any (x y : Wd) (w : World) (hx : x.length ≤ 100000) (hy : y.length ≤ 9223372036854775807) :
    Calls Tryd.prog 30 #[.string ⟨x.toArray⟩, .string ⟨y.toArray⟩] w fun e w' => e = .returned (.bool (facB x y)) ∧ w' = w := by
  obtain ⟨sx, hsx⟩ : ∃ s : ByteArray, ⟨x.toArray⟩ = s := ⟨_, rfl⟩
  obtain ⟨sy, hsy⟩ : ∃ s : ByteArray, ⟨y.toArray⟩ = s := ⟨_, rfl⟩
  obtain ⟨m, hm⟩ : ∃ m, x.length = m := ⟨_, rfl⟩
  obtain ⟨n, hn⟩ : ∃ n, y.length = n := ⟨_, rfl⟩
  have h1 : sx.size = m := by rw [← hsx, ← hm]; simp [ByteArray.size]
  have h2 : sy.size = n := by rw [← hsy, ← hn]; simp [ByteArray.size]
  obtain ⟨Z, hZ⟩ : ∃ Z, facB x y = Z := ⟨_, rfl⟩
  have HF := Lib.hid (facB_from x y ▸ hZ)
  rw [hZ]
  rw [hm, hn] at HF
  rw [hm] at hx
  rw [hn] at hy
  have HX := Lib.hid (fun a h w => cutF hsx a n (by rw [hm]; exact h) w)
  have HY := Lib.hid hsy
  rw [hsx, hsy]
  obtain ⟨K, hK⟩ : ∃ K, m + 1 - n = K := ⟨_, rfl⟩
  rw [hK] at HF
  clear hZ hsx hsy hm hn
  go_enter Tryd.func30, Tryd.ntmps30
  go_wp2_with fail
  go_loopg [5] K (fun g s5 wx => ∃ i : Nat, i + g = K ∧ s5 = .int .i64 (i : Int) ∧ Hid ((List.range' i g).any (fun i => (x.drop i).take n == y) = Z) ∧ wx = w)
  case atStart => exact ⟨0, by omega, rfl, HF, rfl⟩
  case round =>
    clear HF
    obtain ⟨i, hi, rfl, HI, rfl⟩ := hrel
    rcases gk with _ | g
    · have HE := Lib.hid (show Z = false by rw [← HI.out]; rfl)
      have j1 : ¬ (i : Int) + (n : Int) ≤ (m : Int) := by omega
      have j2 : ¬ i + n ≤ m := by omega
      clear HI
      go_wp2_with fail
      go_ret
      exact ⟨by rw [HE.out]; try rfl, rfl⟩
    · have j1 : (i : Int) + (n : Int) ≤ (m : Int) := by omega
      have j2 : i + n ≤ m := by omega
      have HS : Hid (((x.drop i).take n == y || (List.range' (i + 1) g).any (fun i => (x.drop i).take n == y)) = Z) := Lib.hid (by rw [← HI.out, List.range'_succ, List.any_cons])
      clear HI
      have hsl := HX.out i j2 wr
      obtain ⟨u, hu⟩ : ∃ u, (x.drop i).take n = u := ⟨_, rfl⟩
      rw [hu] at hsl HS
      obtain ⟨su, hsu⟩ : ∃ s : ByteArray, ⟨u.toArray⟩ = s := ⟨_, rfl⟩
      rw [hsu] at hsl
      have HQ := Lib.hid (show (su.toList == sy.toList) = (u == y) by rw [tl_of hsu, tl_of HY.out])
      clear hu hsu
      by_cases he : (u == y) = true
      · have HE := Lib.hid (show Z = true by rw [← HS.out, he]; rfl)
        rw [he] at HQ
        have hq := HQ.out
        clear HS he
        go_wp2_with fail
        go_ret
        exact ⟨by rw [HE.out]; try rfl, rfl⟩
      · have he2 : (u == y) = false := by simpa using he
        have HN := Lib.hid (show (List.range' (i + 1) g).any (fun i => (x.drop i).take n == y) = Z by rw [← HS.out, he2, Bool.false_or])
        rw [he2] at HQ
        have hq := HQ.out
        clear HS he he2
        go_wp2_with fail
        go_roundg g
        case measure => omega
        case rel => exact ⟨i + 1, by omega, by go_num, HN, rfl⟩
set_option maxRecDepth 100000 in
set_option maxHeartbeats 6400000 in
theorem rallowed_any (l : List Wd) (x : Wd) (v : Value) (w : World) (hrd : WdsRd w v l) (hl : l.length ≤ 100000) (hlx : ∀ u ∈ l, u.length ≤ 9223372036854775807) (hx : x.length ≤ 100000) :
    Calls Tryd.prog 34 #[v, .string ⟨x.toArray⟩] w fun e w' => e = .returned (.bool (alwB l x)) ∧ w' = w := by
  have HF := Lib.hid (fun W u (h : u ∈ l) => rfactor_any x u W hx (hlx u h))
  have HRD := Lib.hid hrd
  obtain ⟨a, c, rfl⟩ := hrd.form
  clear hrd
  obtain ⟨sx, hsx⟩ : ∃ s : ByteArray, ⟨x.toArray⟩ = s := ⟨_, rfl⟩
  rw [hsx] at HF ⊢
  obtain ⟨Z, hZ⟩ : ∃ Z, alwB l x = Z := ⟨_, rfl⟩
  have HZ : Hid ((l.drop 0).all (fun u => !facB x u) = Z) := Lib.hid hZ
  rw [hZ]
  clear hZ hsx hx
  go_enter Tryd.func34, Tryd.ntmps34
  go_wp2_with fail
  go_loopg [5] l.length (fun g s5 wx => ∃ i : Nat, i + g = l.length ∧ s5 = .int .i64 (i : Int) ∧ Hid ((l.drop i).all (fun u => !facB x u) = Z) ∧ wx = w)
  case atStart => exact ⟨0, by omega, rfl, HZ, rfl⟩
  case round =>
    clear HZ
    obtain ⟨i, hi, rfl, HI, rfl⟩ := hrel
    rcases gk with _ | g
    · obtain rfl : i = l.length := by omega
      have HE := Lib.hid (show Z = true by rw [← HI.out, List.drop_length]; rfl)
      have j0 : ¬ ((l.length : Int) < (l.length : Int)) := by omega
      clear HI
      go_wp2_with fail
      go_ret
      exact ⟨by rw [HE.out]; try rfl, rfl⟩
    · obtain ⟨u, huu⟩ : ∃ u, l[i]? = some u := ⟨_, List.getElem?_eq_getElem (by omega)⟩
      have hm := List.mem_of_getElem? huu
      obtain ⟨b, off, c', hv, k1⟩ := HRD.out.at huu
      injection hv with e1 e2 e3
      subst e1
      subst e3
      have j1 : (i : Int) < (l.length : Int) := by omega
      have HS : Hid ((!facB x u && (l.drop (i + 1)).all (fun u => !facB x u)) = Z) := Lib.hid (by rw [← HI.out, dropW_at huu, List.all_cons])
      obtain ⟨f, hf⟩ : ∃ f, facB x u = f := ⟨_, rfl⟩
      have HC := Lib.hid (hf ▸ HF.out wr u hm)
      rw [hf] at HS
      clear HI huu hm hf e2
      cases f
      · have HN := Lib.hid (show (l.drop (i + 1)).all (fun u => !facB x u) = Z by rw [← HS.out]; rfl)
        clear HS
        go_wp2_with (go_at_call 30; (with_reducible refine HC.out.mono ?_); rintro e0 W5 ⟨rfl, rfl⟩)
        go_roundg g
        case measure => omega
        case rel => exact ⟨i + 1, by omega, by go_num, HN, rfl⟩
      · have HE := Lib.hid (show Z = false by rw [← HS.out]; rfl)
        clear HS
        go_wp2_with (go_at_call 30; (with_reducible refine HC.out.mono ?_); rintro e0 W5 ⟨rfl, rfl⟩)
        go_ret
        exact ⟨by rw [HE.out]; try rfl, rfl⟩
end Go.Proofs.YtkpmapeapiodcaaDoor

namespace Go.Proofs.YtkpmapeapiodcaaDoor
open Go.RowKit Go.Maps
set_option linter.unusedSimpArgs false
set_option linter.unusedVariables false

theorem Tryd.zeroBF (w : World) : (zeroValue 4).run Tryd.prog w = .ok (.bool false) w := by kernel_rfl
theorem plainB_invF {P : Program} {e : TypeId} (he : P.underlying e = some .bool) {v : Value} {z : MapS × List MemPlace} (h : plainElem P e v = some z) : ∃ x, v = .bool x ∧ z = (.lit (.bool x), []) := by
  unfold plainElem at h
  rw [he] at h
  cases v <;> simp at h
  exact ⟨_, rfl, h.symm⟩
set_option maxRecDepth 100000 in
theorem lookS {W : World} {b n : Nat} {l : List Wd} {x : Wd} (h : W.ownsMap Tryd.prog 9 (plainElem Tryd.prog 4) b n (mapS l)) (hx : x.length ≤ 9223372036854775807) :
    (Instr.lookup 48 (.map (some b)) (.string ⟨x.toArray⟩) false).run Tryd.prog W = .ok (.bool (decide (x ∈ l))) W := by
  obtain ⟨v, ps, hrun, hv⟩ := h.lookup Tryd.keyedS Tryd.underlying48 (Tryd.zeroBF W) (plainElem_bool Tryd.underlying4 false) (keyS_of hx)
  rw [mapS_at] at hv
  obtain ⟨y, hy, hz⟩ := plainB_invF Tryd.underlying4 hv
  have hz2 := congrArg Prod.fst hz
  dsimp only at hz2
  injection hz2 with hz2
  injection hz2 with hz2
  rw [hz2, ← hy]
  exact hrun
def CutP (x : Wd) (n : Nat) (u : Wd) : Prop := ∃ e s, e ≤ x.length ∧ e - n ≤ s ∧ s < e ∧ u = (x.drop s).take (e - s)
abbrev Cut (x : Wd) (n : Nat) : Type := { u : Wd // CutP x n u }
theorem CutP.len {x : Wd} {n : Nat} {u : Wd} (h : CutP x n u) : u.length ≤ x.length := by
  obtain ⟨e, s, h1, -, -, rfl⟩ := h
  rw [List.length_take, List.length_drop]
  omega
def Come (x : Wd) (n : Nat) (pre : List (Cut x n)) (e s : Nat) : Prop := ∀ e' s', e' ≤ x.length → e' - n ≤ s' → s' < e' → (e' < e ∨ e' = e ∧ s' < s) → (x.drop s').take (e' - s') ∈ pre.map (·.1)
theorem Come.start (x : Wd) (n : Nat) : Come x n [] 0 0 := fun e' s' h1 h2 h3 h4 => by omega
theorem Come.row {x : Wd} {n e : Nat} {pre : List (Cut x n)} (h : Come x n pre e 0) : Come x n pre e (e - n) := fun e' s' h1 h2 h3 h4 => h e' s' h1 h2 h3 (by omega)
theorem Come.next {x : Wd} {n e s : Nat} {pre : List (Cut x n)} (h : Come x n pre e s) (hs : e ≤ s) : Come x n pre (e + 1) 0 := fun e' s' h1 h2 h3 h4 => h e' s' h1 h2 h3 (by omega)
theorem Come.step {x : Wd} {n e s : Nat} {pre : List (Cut x n)} (h : Come x n pre e s) (u : Cut x n) (hu : u.1 = (x.drop s).take (e - s)) : Come x n (pre ++ [u]) e (s + 1) := fun e' s' h1 h2 h3 h4 => by
  rw [List.map_append, List.mem_append]
  by_cases hx : e' = e ∧ s' = s
  · obtain ⟨rfl, rfl⟩ := hx
    right
    rw [← hu]; exact List.mem_singleton_self _
  · exact .inl (h e' s' h1 h2 h3 (by omega))
theorem Come.all {x : Wd} {n e : Nat} {pre : List (Cut x n)} (h : Come x n pre e 0) (he : x.length < e) : ∀ u, CutP x n u → u ∈ pre.map (·.1) := by
  rintro u ⟨e', s', h1, h2, h3, rfl⟩
  exact h e' s' h1 h2 h3 (.inl (by omega))
theorem cut_none {l : List Wd} {x : Wd} {n : Nat} (hne : ∀ u ∈ l, u ≠ []) (hn : ∀ u ∈ l, u.length ≤ n) : alwB l x = true ↔ ∀ u, CutP x n u → u ∉ l := by
  rw [alwB_iff]
  have h := cut_iff (F := fun u => u ∈ l) (w := x) (n := n)
  constructor
  · rintro h1 u ⟨e, s, a1, a2, a3, rfl⟩ hu
    obtain ⟨v, v1, -, -, v2⟩ := h.1 ⟨e, s, a1, a2, a3, hu⟩
    exact h1 v v1 v2
  · intro h1 u hu hx
    obtain ⟨e, s, a1, a2, a3, a4⟩ := h.2 ⟨u, hu, hne u hu, hn u hu, hx⟩
    exact h1 _ ⟨e, s, a1, a2, a3, rfl⟩ a4
theorem min_none {l : List Wd} {x : Wd} (hne : ∀ u ∈ l, u ≠ []) : minB l x = true ↔ ∀ u, CutP x (x.length - 1) u → u ∉ l := by
  rw [minB_iff]
  have h := cut_iff (F := fun u => u ∈ l) (w := x) (n := x.length - 1)
  have h2 := min_cut (l := l) (w := x)
  constructor
  · rintro h1 u ⟨e, s, a1, a2, a3, rfl⟩ hu
    exact (h2.2 (fun v hv _ hx => h1 v hv hx)) (h.1 ⟨e, s, a1, a2, a3, hu⟩)
  · intro h1 u hu hx
    exact h2.1 (fun ⟨v, v1, v2, v3, v4⟩ => by
      obtain ⟨e, s, a1, a2, a3, a4⟩ := h.2 ⟨v, v1, v2, v3, v4⟩
      exact h1 _ ⟨e, s, a1, a2, a3, rfl⟩ a4) u hu (hne u hu) hx
end Go.Proofs.YtkpmapeapiodcaaDoor

namespace Go.Proofs.YtkpmapeapiodcaaDoor
open Go.RowKit Go.Shelf Go.Maps
attribute [local go_sem] Oper.semAt_some
set_option linter.unusedSimpArgs false
set_option linter.unusedVariables false

def KtF (n₀ B : Nat) (W W1 : World) : Prop := Below n₀ W W1 ∧ W1.heap[B]? = W.heap[B]? ∧ W1.heap[B + 1]? = W.heap[B + 1]?
theorem KtF.refl (n₀ B : Nat) (W : World) : KtF n₀ B W W := ⟨Below.refl _ _, rfl, rfl⟩
theorem KtF.trans {n₀ B : Nat} {X Y Z : World} (h : KtF n₀ B X Y) (k : KtF n₀ B Y Z) : KtF n₀ B X Z := ⟨h.1.trans k.1, k.2.1.trans h.2.1, k.2.2.trans h.2.2⟩
theorem KtF.turn {n₀ B : Nat} {w : World} (hn : n₀ ≤ w.heap.size) (hB : B + 1 < w.heap.size) (W : World) (l : Nat) (o o' : Obj) (hl : w.heap.size ≤ l) (h : W.heap[l]? = some o) (h1 : o.isCells = false) (h2 : o.isWalk = false) : KtF n₀ B W (W.putObj l o') :=
  ⟨⟨rfl, rfl, rfl, by simp, fun k hk => World.putObj_heap_other (by omega)⟩, World.putObj_heap_other (by omega), World.putObj_heap_other (by omega)⟩
def natF : Value → Nat
  | .int _ z => z.toNat
  | _ => 0
theorem run_maxZ {P : Program} (k : IntKind) (a b c : Int) (h : max a b = c) (w : World) (ts : Array TypeId) (t : TypeId) :
    (Builtin.max_ ts t #[.int k a, .int k b]).run P w = .ok (.int k c) w := by
  by_cases h1 : a < b
  · have e : c = b := by omega
    simp [Builtin.max_, Builtin.max2, h1, e]
  · have e : c = a := by omega
    simp [Builtin.max_, Builtin.max2, h1, e]
theorem factors_any (x : Wd) (n : Int) (w : World) :
    Calls Tryd.prog 51 #[.string ⟨x.toArray⟩, .int .i64 n] w fun e w' =>
      e = .returned (.func (.func 77) #[] #[.pointer (some ⟨w.heap.size, 0, none⟩), .pointer (some ⟨w.heap.size + 1, 0, none⟩)]) ∧ w' = (w.alloc (.cells #[.string ⟨x.toArray⟩] 9)).alloc (.cells #[.int .i64 n] 3) := by
  go_enter Tryd.func51, Tryd.ntmps51
  go_wp2
  go_ret
  exact ⟨rfl, rfl⟩
set_option maxRecDepth 100000 in
set_option maxHeartbeats 3200000 in
theorem factors1_in (nn l B : Nat) (n₀ : Nat) (x : Wd) (n : Nat) (J Jx : List (Cut x n) → World → Prop) (hnn : 1 ≤ nn) (W : World) (hJ : AbidesFrom W.heap.size J)
    (hY : ∀ (pre : List (Cut x n)) (u : Cut x n) (W1 : World), J pre W1 → pre.length < (x.length + 1) * (x.length + 1) → YieldAt Fence.wide (nn - 1) Tryd.prog l #[.string ⟨u.1.toArray⟩] W1 fun e W' =>
      (e = .returned (.bool true) ∧ J (pre ++ [u]) W' ∧ KtF n₀ B W1 W') ∨ (e = .returned (.bool false) ∧ Jx (pre ++ [u]) W'))
    (hxB : W.cell? ⟨B, 0, none⟩ = some (.string ⟨x.toArray⟩)) (hnB : W.cell? ⟨B + 1, 0, none⟩ = some (.int .i64 (n : Int))) (hx : x.length ≤ 100000) (hn : n ≤ 100000) (h0 : J [] W) :
    CallsIn Fence.wide nn Tryd.prog 77 #[.func (.yield l) #[] #[], .pointer (some ⟨B, 0, none⟩), .pointer (some ⟨B + 1, 0, none⟩)] W fun e W' => (∃ u, e = .returned u) ∧
      ((∃ ys : List (Cut x n), (∀ u, CutP x n u → u ∈ ys.map (·.1)) ∧ J ys W') ∨ (∃ pre, True ∧ Jx pre W')) := by
  have HY := Lib.hid hY
  have HXB := Lib.hid hxB
  have HNB := Lib.hid hnB
  obtain ⟨L, hL⟩ : ∃ L, x.length = L := ⟨_, rfl⟩
  have HL := Lib.hid hL
  rw [hL] at HY hx
  clear hY hJ hL
  refine callsIn_of_wp Tryd.func77 rfl trivial ?_ rfl
  simp only [Tryd.ntmps77, List.size_toArray, List.length_cons, List.length_nil, Nat.reduceAdd, Nat.reduceSub, Array.replicate_succ, Array.replicate_zero, List.push_toArray, List.append_toArray, List.nil_append, List.cons_append]
  have hwL : IntKind.i64.wrap ((L : Int) + 1) = (L : Int) + 1 := by rw [IntWalk.i64_in _ (by omega)]
  have hsz : (⟨x.toArray⟩ : ByteArray).size = L := by have := HL.out; simpa [ByteArray.size] using this
  gi_wp2
  clear hxB hnB
  gi_loopw [4, 5, 9] (fun s4 s5 s9 wr => ∃ (e : Nat) (pre : List (Cut x n)), s9 = .int .i64 (e : Int) ∧ e ≤ L + 1 ∧ Hid (Come x n pre e 0) ∧ Hid (pre.length ≤ e * (L + 1)) ∧ J pre wr ∧ KtF n₀ B W wr) (fun s4 s5 s9 _ => L + 1 - natF s9)
  case atStart => exact ⟨0, [], rfl, Nat.zero_le _, Lib.hid (Come.start x n), Lib.hid (Nat.zero_le _), h0, KtF.refl _ _ _⟩
  case round =>
    clear h0
    obtain ⟨e, pre, rfl, heL, HC, HP, hJs, hK⟩ := hrel
    have x1 : wr.cell? ⟨B, 0, none⟩ = some (.string ⟨x.toArray⟩) := (World.cell?_of_block (a := ⟨B, 0, none⟩) hK.2.1).trans HXB.out
    have x2 : wr.cell? ⟨B + 1, 0, none⟩ = some (.int .i64 (n : Int)) := (World.cell?_of_block (a := ⟨B + 1, 0, none⟩) hK.2.2).trans HNB.out
    rcases Nat.lt_or_ge e (L + 1) with hlt | hge
    · have j1 : decide ((e : Int) < (L : Int) + 1) = true := decide_eq_true (by omega)
      obtain ⟨s0, hs0⟩ : ∃ s0, e - n = s0 := ⟨_, rfl⟩
      have hmx : ∀ (W : World) (ts : Array TypeId) (t : TypeId), (Builtin.max_ ts t #[.int .i64 0, .int .i64 ((e : Int) - (n : Int))]).run Tryd.prog W = .ok (.int .i64 (s0 : Int)) W := fun W ts t => run_maxZ .i64 0 _ _ (by omega) W ts t
      have hwe : IntKind.i64.wrap ((e : Int) - (n : Int)) = (e : Int) - (n : Int) := by rw [IntWalk.i64_in _ (by omega)]
      have HR := Lib.hid (show Come x n pre e s0 by rw [← hs0]; exact HC.out.row)
      have HS0 := Lib.hid hs0
      have hse : s0 ≤ e := by omega
      clear hs0
      gi_wp2
      clear x1 x2
      gi_loopw [5] (fun s5 wx => ∃ (s : Nat) (pre2 : List (Cut x n)), s5 = .int .i64 (s : Int) ∧ s0 ≤ s ∧ s ≤ e ∧ Hid (Come x n pre2 e s) ∧ Hid (pre2.length ≤ e * (L + 1) + s) ∧ J pre2 wx ∧ KtF n₀ B W wx) (fun s5 _ => e - natF s5)
      case atStart => exact ⟨s0, pre, rfl, Nat.le_refl _, hse, HR, Lib.hid (Nat.le_trans HP.out (Nat.le_add_right _ _)), hJs, hK⟩
      case round =>
        clear hJs hK HC HP HR
        obtain ⟨s, pre2, rfl, hs1, hs2, HC, HP, hJs, hK⟩ := hrel
        have x1 : wr.cell? ⟨B, 0, none⟩ = some (.string ⟨x.toArray⟩) := (World.cell?_of_block (a := ⟨B, 0, none⟩) hK.2.1).trans HXB.out
        rcases Nat.lt_or_ge s e with hl2 | hg2
        · have j2 : decide ((s : Int) < (e : Int)) = true := decide_eq_true (by omega)
          obtain ⟨g, hg⟩ : ∃ g, (x.drop s).take (e - s) = g := ⟨_, rfl⟩
          have hcut : CutP x n g := ⟨e, s, by rw [HL.out]; omega, by have := HS0.out; omega, hl2, hg.symm⟩
          have hsl : (Instr.slice 9 (.string ⟨x.toArray⟩) (some (.int .i64 (s : Int))) (some (.int .i64 (e : Int))) none).run Tryd.prog wr = .ok (.string ⟨g.toArray⟩) wr := by
            have h := cutF (x := x) rfl s (e - s) (by rw [HL.out]; omega) wr
            rw [hg, show (s : Int) + ((e - s : Nat) : Int) = (e : Int) by omega] at h
            exact h
          have hplen : pre2.length < (L + 1) * (L + 1) := by
            have h1 := HP.out
            have h2 : (e + 1) * (L + 1) ≤ (L + 1) * (L + 1) := Nat.mul_le_mul_right _ (by omega)
            have h3 : (e + 1) * (L + 1) = e * (L + 1) + (L + 1) := Nat.succ_mul _ _
            omega
          have HCS := Lib.hid (HC.out.step (⟨g, hcut⟩ : Cut x n) hg.symm)
          have HPS := Lib.hid (show (pre2 ++ [(⟨g, hcut⟩ : Cut x n)]).length ≤ e * (L + 1) + (s + 1) by rw [List.length_append, List.length_singleton]; have := HP.out; omega)
          obtain ⟨fn, tmps, assign, body, hy, hR⟩ := HY.out pre2 ⟨g, hcut⟩ wr hJs hplen
          dsimp only at hy
          clear hplen hg
          gi_wp2
          refine hR.mono ?_
          rintro e9 W3 (⟨rfl, hJ3, hk3⟩ | ⟨rfl, hJx3⟩)
          · gi_wp2
            go_roundw
            case rel => exact ⟨s + 1, pre2 ++ [⟨g, hcut⟩], by go_num, by omega, by omega, HCS, HPS, hJ3, hK.trans hk3⟩
            case measure => simp [natF]; omega
          · gi_wp2
            refine bodyPost_ret (results_none rfl _ _ _) rfl ?_
            exact ⟨⟨_, rfl⟩, .inr ⟨_, trivial, hJx3⟩⟩
        · have j2 : decide ((s : Int) < (e : Int)) = false := decide_eq_false (by omega)
          have HN := Lib.hid (HC.out.next hg2)
          have HPN := Lib.hid (show pre2.length ≤ (e + 1) * (L + 1) by rw [Nat.succ_mul]; have := HP.out; omega)
          gi_wp2
          go_roundw
          case rel => exact ⟨e + 1, pre2, by go_num, by omega, HN, HPN, hJs, hK⟩
          case measure => simp [natF]; omega
    · have j1 : decide ((e : Int) < (L : Int) + 1) = false := decide_eq_false (by omega)
      have HA := Lib.hid (show ∀ u, CutP x n u → u ∈ pre.map (·.1) from by
        obtain rfl : e = L + 1 := by omega
        exact HC.out.all (by rw [HL.out]; omega))
      gi_wp2
      go_end0
      exact ⟨⟨_, rfl⟩, .inl ⟨pre, HA.out, hJs⟩⟩
theorem factors_stops (nn B n₀ : Nat) (x : Wd) (n : Nat) (w : World) (hnn : 1 ≤ nn) (hxB : w.cell? ⟨B, 0, none⟩ = some (.string ⟨x.toArray⟩)) (hnB : w.cell? ⟨B + 1, 0, none⟩ = some (.int .i64 (n : Int))) (hx : x.length ≤ 100000) (hn : n ≤ 100000) :
    SeqStopsK Fence.wide nn Tryd.prog 77 #[.pointer (some ⟨B, 0, none⟩), .pointer (some ⟨B + 1, 0, none⟩)] (fun u : Cut x n => #[Value.string ⟨u.1.toArray⟩]) (KtF n₀ B) (fun ys => ∀ u, CutP x n u → u ∈ ys.map (·.1)) (fun _ => True) ((x.length + 1) * (x.length + 1)) w :=
  fun l J Jx W hW hJ hJx hY h0 => factors1_in nn l B n₀ x n J Jx hnn W hJ hY (cell_keep hxB hW) (cell_keep hnB hW) hx hn h0
end Go.Proofs.YtkpmapeapiodcaaDoor
