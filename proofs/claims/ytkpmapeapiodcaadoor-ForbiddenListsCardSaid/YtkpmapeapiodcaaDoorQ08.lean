/- What forbidden.Check, Allowed and the function of Graph that asks for allowed words return. Conditions: the words can be read, are at most 10^5, and have lengths of strings; the word asked for has at most 10^5 letters. Plain: the states and the edges of the graph of a list of forbidden words. No condition. What slices.Compare of two rows of three numbers, graph.compareAs and graph.compareEdges return. No condition. -/
import Derived.Test.YtkpmapeapiodcaaDoorQ07
import Derived.Test.YtkpmapeapiodcaaDoorQ01
import Derived.Test.YtkpmapeapiodcaaDoorQ02

namespace Go.Proofs.YtkpmapeapiodcaaDoor
open Go.RowKit Go.Maps Go.Sort
set_option linter.unusedSimpArgs false
set_option linter.unusedVariables false

theorem longW_ge {l : List Wd} : ∀ u ∈ l, u.length ≤ longW l := by
  refine snocS (P := fun l => ∀ u ∈ l, u.length ≤ longW l) (by simp) (fun l x ih u hu => ?_) l
  rw [longW_snoc]
  rcases List.mem_append.1 hu with hu | hu
  · have := ih u hu; omega
  · rw [List.mem_singleton] at hu; subst hu; omega
theorem longW_le {l : List Wd} {n : Nat} : (∀ u ∈ l, u.length ≤ n) → longW l ≤ n := by
  refine snocS (P := fun l => (∀ u ∈ l, u.length ≤ n) → longW l ≤ n) (fun _ => Nat.zero_le _) (fun l x ih h => ?_) l
  rw [longW_snoc]
  have h1 := ih (fun u hu => h u (List.mem_append_left _ hu))
  have h2 := h x (by simp)
  omega
set_option maxRecDepth 100000 in
theorem checkF_any (q : Int) (l : List Wd) (v : Value) (w : World) (hrd : WdsRd w v l) (hl : l.length ≤ 100000) (hx : ∀ x ∈ l, x.length ≤ 9223372036854775807) :
    Calls Tryd.prog 11 #[.int .i64 q, v] w fun e w' => e = .returned (.int .i64 (clW q true l)) ∧ Below w.heap.size w w' := by
  have HC := Lib.hid (checkList_any q true l v w hrd hl hx)
  obtain ⟨a, c, rfl⟩ := hrd.form
  clear hrd
  go_enter Tryd.func11, Tryd.ntmps11
  go_wp2_with (go_at_call 24; (with_reducible refine HC.out.mono ?_); rintro e W1 ⟨rfl, b1⟩; (have B1 := Lib.hid b1); clear b1)
  go_ret
  exact ⟨rfl, B1.out⟩
structure GV (l : List Wd) (p : Nat) (W : World) : Prop where
  m : ∃ b k, W.cell? ⟨p, 0, none⟩ = some (.map (some b)) ∧ W.ownsMap Tryd.prog 9 (plainElem Tryd.prog 4) b k (mapS l)
  n : W.cell? ⟨p + 1, 0, none⟩ = some (.int .i64 (longW l : Int))
theorem GV.keep {l : List Wd} {p : Nat} {W W' : World} (h : GV l p W) (hb : Below W.heap.size W W') : GV l p W' := by
  obtain ⟨b, k, h1, h2⟩ := h.m
  exact ⟨⟨b, k, cell_keep h1 hb, h2.kept (grown_none hb) (by simp)⟩, cell_keep h.n hb⟩
set_option maxRecDepth 100000 in
set_option maxHeartbeats 3200000 in
theorem allow1_any (l : List Wd) (x : Wd) (p : Nat) (w : World) (hne : ∀ u ∈ l, u ≠ [] ∧ u.length ≤ 32) (h : GV l p w) (hx : x.length ≤ 100000) :
    Calls Tryd.prog 41 #[.string ⟨x.toArray⟩, .pointer (some ⟨p, 0, none⟩), .pointer (some ⟨p + 1, 0, none⟩)] w fun e w' => e = .returned (.bool (alwB l x)) ∧ Below w.heap.size w w' := by
  obtain ⟨⟨b, k, h1, h2⟩, h3⟩ := h
  have HA := Lib.hid (isAllowed_any l x (longW l) b k (alwB l x) w (cut_none (fun u hu => (hne u hu).1) longW_ge) h2 hx (by have := longW_le (fun u hu => (hne u hu).2); omega))
  obtain ⟨L, hL⟩ : ∃ L, longW l = L := ⟨_, rfl⟩
  rw [hL] at HA h3
  clear h2 hL
  go_enter Tryd.func41, Tryd.ntmps41
  go_wp2_with (go_at_call 32; (with_reducible refine HA.out.mono ?_); rintro e W1 ⟨rfl, b1⟩; (have B1 := Lib.hid b1); clear b1)
  go_ret
  exact ⟨rfl, B1.out⟩
set_option maxRecDepth 100000 in
set_option maxHeartbeats 6400000 in
theorem allowed_any (q : Int) (l : List Wd) (x : Wd) (v : Value) (w : World) (hrd : WdsRd w v l) (hl : l.length ≤ 100000) (hls : ∀ x ∈ l, x.length ≤ 9223372036854775807) (hx : x.length ≤ 9223372036854775807) (hc : clW q true l = 0) (hw : chk q x = 0) :
    Calls Tryd.prog 9 #[.int .i64 q, v, .string ⟨x.toArray⟩] w fun e w' => e = .returned (.tuple #[.bool (alwB l x), .int .i64 0]) ∧ Below w.heap.size w w' := by
  obtain ⟨hq, hl64, hxs, -⟩ := clW_ok hc
  have hx2 : x.length ≤ 100000 := by obtain ⟨_, _, _, _, h, _⟩ := chk_zero hw; omega
  have HC := Lib.hid (checkF_any q l v w hrd hl hls)
  rw [hc] at HC
  have HW := Lib.hid (fun W => wcheck_any q x W hx)
  rw [hw] at HW
  have HRD := Lib.hid hrd
  have HS := Lib.hid (fun W h => setOf_any l v W h hl hls)
  have HL := Lib.hid (fun W h => longest_any l v W h hl)
  have HA := Lib.hid (fun b k W hm => isAllowed_any l x (longW l) b k (alwB l x) W (cut_none (fun u hu => (hxs u hu).1) longW_ge) hm hx2 (by have := longW_le (fun u hu => (hxs u hu).2); omega))
  obtain ⟨L, hL⟩ : ∃ L, longW l = L := ⟨_, rfl⟩
  rw [hL] at HA HL
  obtain ⟨a, c, rfl⟩ := hrd.form
  clear hrd hL hxs
  go_enter Tryd.func9, Tryd.ntmps9
  go_wp2_with (first
    | (go_at_call 11; (with_reducible refine HC.out.mono ?_); rintro e W1 ⟨rfl, b1⟩; (have B1 := Lib.hid b1); clear b1)
    | (go_at_call 20; (with_reducible refine (HW.out _).mono ?_); rintro e W2 ⟨rfl, b2⟩; (have B2 := Lib.hid (below_more B1.out (Nat.le_refl _) b2)); clear b2)
    | (go_at_call 25; (with_reducible refine (HS.out _ (HRD.out.keep B2.out)).mono ?_); rintro e W3 ⟨rfl, m3, b3⟩; (have M3 := Lib.hid m3); (have B3 := Lib.hid (below_more B2.out (Nat.le_refl _) b3)); clear b3 m3)
    | (go_at_call 14; (with_reducible refine (HL.out _ (HRD.out.keep B3.out)).mono ?_); rintro e W4 ⟨rfl, hw4⟩; try subst hw4)
    | (go_at_call 32; (with_reducible refine (HA.out _ _ _ M3.out).mono ?_); rintro e W5 ⟨rfl, b5⟩; (have B5 := Lib.hid (below_more B3.out (Nat.le_refl _) b5)); clear b5))
  exact bodyPost_ret (v := .tuple #[.bool (alwB l x), .int .i64 0]) (by simp [results, Tryd.results9, go_sem]) rfl ⟨rfl, B5.out⟩
end Go.Proofs.YtkpmapeapiodcaaDoor

namespace Go.Proofs.YtkpmapeapiodcaaDoor
set_option linter.unusedSimpArgs false
set_option linter.unusedVariables false

def IsSt (l : List Wd) (x : Wd) : Prop := x = [] ∨ ∃ w ∈ l, x <+: w ∧ x ≠ w ∧ alwB l x = true
def StL (l S : List Wd) : Prop := S.Pairwise ltW ∧ ∀ x, x ∈ S ↔ IsSt l x
theorem StL.uniq {l S T : List Wd} (h1 : StL l S) (h2 : StL l T) : S = T := ascU ltW_irr ltW_tr h1.1 h2.1 (fun x => by rw [h1.2, h2.2])
theorem StL.nil {l S : List Wd} (h : StL l S) : [] ∈ S := (h.2 []).2 (.inl rfl)
def sufW (S : List Wd) : Wd → Wd
  | [] => []
  | x :: r => if (x :: r) ∈ S then x :: r else sufW S r
theorem sufW_mem {S : List Wd} (h : [] ∈ S) : ∀ w, sufW S w ∈ S
  | [] => h
  | x :: r => by
    unfold sufW
    split
    · assumption
    · exact sufW_mem h r
def edW (lt : Nat → UInt8) (l S : List Wd) (s a : Nat) : Option E3 :=
  if alwB l (S.getD s [] ++ [lt a]) = true then some ((s : Int), (a : Int), ((S.idxOf (sufW S (S.getD s [] ++ [lt a])) : Nat) : Int)) else none
def rowW (lt : Nat → UInt8) (l S : List Wd) (s q : Nat) : List E3 := (List.range q).filterMap (edW lt l S s)
def edgW (lt : Nat → UInt8) (l S : List Wd) (n q : Nat) : List E3 := (List.range n).flatMap fun s => rowW lt l S s q
theorem rowW_succ (lt : Nat → UInt8) (l S : List Wd) (s q : Nat) : rowW lt l S s (q + 1) = rowW lt l S s q ++ (edW lt l S s q).toList := by
  unfold rowW
  rw [List.range_succ, List.filterMap_append]
  congr 1
theorem edgW_succ (lt : Nat → UInt8) (l S : List Wd) (n q : Nat) : edgW lt l S (n + 1) q = edgW lt l S n q ++ rowW lt l S n q := by
  unfold edgW
  rw [List.range_succ, List.flatMap_append]
  simp
theorem rowW_len (lt : Nat → UInt8) (l S : List Wd) (s q : Nat) : (rowW lt l S s q).length ≤ q := by
  have h : (rowW lt l S s q).length ≤ (List.range q).length := List.length_filterMap_le _ _
  rwa [List.length_range] at h
theorem edgW_len (lt : Nat → UInt8) (l S : List Wd) (q : Nat) : ∀ n, (edgW lt l S n q).length ≤ n * q
  | 0 => by rw [Nat.zero_mul]; exact Nat.le_refl 0
  | n + 1 => by
    rw [edgW_succ, List.length_append, Nat.succ_mul]
    have h1 := edgW_len lt l S q n
    have h2 := rowW_len lt l S n q
    omega
theorem edW_form {lt : Nat → UInt8} {l S : List Wd} {s a : Nat} {e : E3} (h : edW lt l S s a = some e) : e.1 = (s : Int) ∧ e.2.1 = (a : Int) ∧ e.2.2 = ((S.idxOf (sufW S (S.getD s [] ++ [lt a])) : Nat) : Int) := by
  unfold edW at h
  split at h
  · injection h with h; subst h; exact ⟨rfl, rfl, rfl⟩
  · cases h
theorem rowW_mem {lt : Nat → UInt8} {l S : List Wd} {s q : Nat} {e : E3} (h : e ∈ rowW lt l S s q) : ∃ a, a < q ∧ edW lt l S s a = some e := by
  unfold rowW at h
  obtain ⟨a, ha, h1⟩ := List.mem_filterMap.1 h
  exact ⟨a, List.mem_range.1 ha, h1⟩
theorem edgW_mem {lt : Nat → UInt8} {l S : List Wd} {n q : Nat} {e : E3} (h : e ∈ edgW lt l S n q) : ∃ s a, s < n ∧ a < q ∧ edW lt l S s a = some e := by
  unfold edgW at h
  obtain ⟨s, hs, h1⟩ := List.mem_flatMap.1 h
  obtain ⟨a, ha, h2⟩ := rowW_mem h1
  exact ⟨s, a, List.mem_range.1 hs, ha, h2⟩
theorem rowW_pw (lt : Nat → UInt8) (l S : List Wd) (s : Nat) : ∀ q, (rowW lt l S s q).Pairwise (fun a b => ltE a b = true)
  | 0 => List.Pairwise.nil
  | q + 1 => by
    rw [rowW_succ]
    refine List.pairwise_append.2 ⟨rowW_pw lt l S s q, ?_, fun x hx y hy => ?_⟩
    · cases edW lt l S s q with
      | none => exact List.Pairwise.nil
      | some e => exact List.pairwise_singleton _ _
    · obtain ⟨a, ha, h1⟩ := rowW_mem hx
      have h2 : edW lt l S s q = some y := by
        cases h3 : edW lt l S s q with
        | none => rw [h3] at hy; cases hy
        | some e => rw [h3] at hy; simp at hy; subst hy; rfl
      obtain ⟨p1, p2, -⟩ := edW_form h1
      obtain ⟨p3, p4, -⟩ := edW_form h2
      rw [ltE_iff]
      omega
theorem edgW_pw (lt : Nat → UInt8) (l S : List Wd) (q : Nat) : ∀ n, (edgW lt l S n q).Pairwise (fun a b => ltE a b = true)
  | 0 => List.Pairwise.nil
  | n + 1 => by
    rw [edgW_succ]
    refine List.pairwise_append.2 ⟨edgW_pw lt l S q n, rowW_pw lt l S n q, fun x hx y hy => ?_⟩
    obtain ⟨s, a, hs, ha, h1⟩ := edgW_mem hx
    obtain ⟨b, hb, h2⟩ := rowW_mem hy
    obtain ⟨p1, p2, -⟩ := edW_form h1
    obtain ⟨p3, p4, -⟩ := edW_form h2
    rw [ltE_iff]
    omega
theorem edgW_vg {lt : Nat → UInt8} {l S : List Wd} {q : Nat} (hS : [] ∈ S) (hq : 1 ≤ q) (hq2 : q ≤ 16) (hn : S.length ≤ 64) : VG (q : Int) (S.length : Int) (edgW lt l S S.length q) := by
  have hl := edgW_len lt l S q S.length
  have hm : S.length * q ≤ 64 * 16 := Nat.mul_le_mul hn hq2
  refine ⟨by omega, by omega, by omega, by omega, by omega, fun e he => ?_, edgW_pw lt l S q S.length⟩
  obtain ⟨s, a, hs, ha, h1⟩ := edgW_mem he
  obtain ⟨p1, p2, p3⟩ := edW_form h1
  have h2 := List.idxOf_lt_length_iff.2 (sufW_mem hS (S.getD s [] ++ [lt a]))
  rw [okE_iff]
  omega
end Go.Proofs.YtkpmapeapiodcaaDoor

namespace Go.Proofs.YtkpmapeapiodcaaDoor
open Go.RowKit
set_option linter.unusedSimpArgs false
set_option linter.unusedVariables false

def numE (e : E3) : Nat → Int
  | 0 => e.1
  | 1 => e.2.1
  | _ => e.2.2
theorem cmpI_zero {x y : Int} (h : x = y) : cmpI x y = 0 := by subst h; unfold cmpI; rw [if_neg (by omega), if_neg (by omega)]
theorem cmpI_ne {x y : Int} (h : x ≠ y) : (cmpI x y != 0) = true := by
  unfold cmpI
  by_cases h1 : x < y
  · rw [if_pos h1]; rfl
  · rw [if_neg h1, if_pos (by omega)]; rfl
theorem cmpE_at {a b : E3} {k : Nat} (hk : k < 3) (h : ∀ j, j < k → numE a j = numE b j) (h2 : numE a k ≠ numE b k) : cmpE a b = cmpI (numE a k) (numE b k) := by
  unfold cmpE cmpI
  have e1 : ltE a b = decide (numE a k < numE b k) := by
    unfold ltE
    rw [decide_eq_decide]
    rcases (show k = 0 ∨ k = 1 ∨ k = 2 by omega) with rfl | rfl | rfl
    · have : a.1 ≠ b.1 := h2
      show _ ↔ a.1 < b.1
      omega
    · have := h 0 (by omega)
      have e : a.1 = b.1 := this
      have : a.2.1 ≠ b.2.1 := h2
      show _ ↔ a.2.1 < b.2.1
      omega
    · have e : a.1 = b.1 := h 0 (by omega)
      have e2 : a.2.1 = b.2.1 := h 1 (by omega)
      have : a.2.2 ≠ b.2.2 := h2
      show _ ↔ a.2.2 < b.2.2
      omega
  have e2 : ltE b a = decide (numE b k < numE a k) := by
    unfold ltE
    rw [decide_eq_decide]
    rcases (show k = 0 ∨ k = 1 ∨ k = 2 by omega) with rfl | rfl | rfl
    · have : a.1 ≠ b.1 := h2
      show _ ↔ b.1 < a.1
      omega
    · have e : a.1 = b.1 := h 0 (by omega)
      have : a.2.1 ≠ b.2.1 := h2
      show _ ↔ b.2.1 < a.2.1
      omega
    · have e : a.1 = b.1 := h 0 (by omega)
      have e2 : a.2.1 = b.2.1 := h 1 (by omega)
      have : a.2.2 ≠ b.2.2 := h2
      show _ ↔ b.2.2 < a.2.2
      omega
  rw [e1, e2]
  simp only [decide_eq_true_eq]
theorem cmpE_same {a b : E3} (h : ∀ j, j < 3 → numE a j = numE b j) : cmpE a b = 0 := by
  have e : a = b := e3_ext (h 0 (by omega)) (h 1 (by omega)) (h 2 (by omega))
  subst e
  unfold cmpE
  rw [ltE_irrefl]; rfl
set_option maxRecDepth 100000 in
set_option maxHeartbeats 1600000 in
theorem compare3_any (a b : E3) (p q : Nat) (w : World) (ha : ∀ j, j < 3 → w.cell? ⟨p, j, none⟩ = some (.int .i64 (numE a j))) (hb : ∀ j, j < 3 → w.cell? ⟨q, j, none⟩ = some (.int .i64 (numE b j))) :
    Calls Tryd.prog 113 #[.slice (some ⟨p, 0, none⟩) 3 3, .slice (some ⟨q, 0, none⟩) 3 3] w fun e w' => e = .returned (.int .i64 (cmpE a b)) ∧ w' = w := by
  have HA := Lib.hid ha
  have HB := Lib.hid hb
  clear ha hb
  go_enter Tryd.func113, Tryd.ntmps113
  go_wp2_with fail
  go_loopg [11] 3 (fun k s11 wx => wx = w ∧ ∃ i : Nat, i + k = 3 ∧ s11 = .int .i64 (i : Int) ∧ Hid (∀ j, j < i → numE a j = numE b j))
  case atStart => exact ⟨rfl, 0, by omega, rfl, Lib.hid (fun j hj => absurd hj (by omega))⟩
  case round =>
    obtain ⟨rfl, i, hi, rfl, HI⟩ := hrel
    rcases gk with _ | k
    · obtain rfl : i = 3 := by omega
      have HE := Lib.hid (cmpE_same HI.out)
      clear HI
      go_wp2_with fail
      go_ret
      exact ⟨by rw [HE.out]; rfl, rfl⟩
    · have ca := HA.out i (by omega)
      have cb := HB.out i (by omega)
      have il : decide ((3 : Int) ≤ (i : Int)) = false := decide_eq_false (by omega)
      by_cases h : numE a i = numE b i
      · have HI2 := Lib.hid (show ∀ j, j < i + 1 → numE a j = numE b j from fun j hj => by
          rcases (show j < i ∨ j = i by omega) with h1 | rfl
          · exact HI.out j h1
          · exact h)
        have HC := Lib.hid (cmpI_zero h)
        clear HI h
        generalize numE a i = x at *
        generalize numE b i = y at *
        go_wp2_with (go_at_call 49; (with_reducible refine (cmpInt_any _ _ _).mono ?_); rintro e W1 ⟨rfl, hW⟩; (rw [hW, HC.out]); (clear hW))
        go_roundg k
        case measure => omega
        case rel => exact ⟨rfl, i + 1, by omega, by go_num, HI2⟩
      · have HE := Lib.hid (cmpE_at (by omega) HI.out h)
        have hn := cmpI_ne h
        clear HI h
        generalize numE a i = x at *
        generalize numE b i = y at *
        generalize hz : cmpI x y = z at *
        have HZ := Lib.hid hz
        clear hz
        go_wp2_with (go_at_call 49; (with_reducible refine (cmpInt_any _ _ _).mono ?_); rintro e W1 ⟨rfl, hW⟩; (rw [hW, HZ.out]); (clear hW))
        go_ret
        exact ⟨by rw [HE.out]; rfl, rfl⟩
abbrev arrE (e : E3) : Value := .agg #[.int .i64 e.1, .int .i64 e.2.1, .int .i64 e.2.2]
set_option maxRecDepth 100000 in
theorem numbers_any (e : E3) (w : World) : Calls Tryd.prog 110 #[edgV e] w fun en w' => en = .returned (arrE e) ∧ Below w.heap.size w w' := by
  obtain ⟨x, y, z⟩ := e
  go_enter Tryd.func110, Tryd.ntmps110
  go_wp2
  exact bodyPost_ret (v := arrE (x, y, z)) (by simp [results, Tryd.results110, go_sem]) rfl ⟨rfl, (below1 w _).alloc (by rw [World.size_alloc]; omega) _⟩
end Go.Proofs.YtkpmapeapiodcaaDoor
