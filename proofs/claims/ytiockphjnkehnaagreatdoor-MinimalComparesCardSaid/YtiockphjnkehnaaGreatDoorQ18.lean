/- What slices.Repeat of one int returns. Condition: the int can be read. Plain facts on classes of states that are made finer, until nothing changes. No condition. What minimal.machineOf returns: the machine of a deterministic graph. Conditions: the edges can be read, lead from states with labels to states; at most 64 states and 256 labels. -/
import Derived.Test.YtiockphjnkehnaaGreatDoorQ06
import Derived.Test.YtiockphjnkehnaaGreatDoorQ05
import Derived.Test.YtiockphjnkehnaaGreatDoorQ01
import Derived.Test.YtiockphjnkehnaaGreatDoorQ11
import Derived.BigRegion

namespace Go.Proofs.YtiockphjnkehnaaGreatDoor
open Go.RowKit
set_option linter.unusedSimpArgs false
set_option linter.unusedVariables false

theorem rowIs_repH {t : TypeId} {g n : Nat} (v : Value) : ∀ (m o : Nat) (W : World) (F : Nat → Value), W.rowIs g t n F → (W.setCells g o (List.replicate m v)).rowIs g t n (fun i => if o ≤ i ∧ i < o + m then v else F i)
  | 0, o, W, F, h => World.rowIs.congr h (fun i _ => by rw [if_neg (by omega)])
  | m + 1, o, W, F, h => by
    rw [List.replicate_succ]
    refine World.rowIs.congr (rowIs_repH v m (o + 1) _ _ (World.rowIs.set h o v)) (fun i _ => ?_)
    by_cases h1 : i = o
    · subst h1
      rw [if_neg (by omega), if_pos rfl, if_pos (by omega)]
    · by_cases h2 : o + 1 ≤ i ∧ i < o + 1 + m
      · rw [if_pos h2, if_pos (by omega)]
      · rw [if_neg h2, if_neg h1, if_neg (by omega)]
theorem make_intsH (n : Nat) (hn : n ≤ 100000) (W : World) : (Instr.makeSlice 30 (.int .i64 (n : Int)) (.int .i64 (n : Int))).run Tryz.prog W = .ok (.slice (some ⟨W.heap.size, 0, none⟩) n n) (W.alloc (.cells (madeCells #[(.int .i64 0)] n) 3)) :=
  run_make_row' _ _ _ 8 Tryz.underlying30 Tryz.infoI64 rfl _ _ n (by omega) (by omega) W
structure CIH (w : World) (z : Int) (R n k : Nat) (W : World) : Prop where
  b : Below w.heap.size w W
  r : W.rowIs R 3 n (fun j => if j < k then (.int .i64 z) else .int .i64 0)
theorem infoIntsH : (Tryz.prog.info? 3).map (·.size) = some 1 := by kernel_rfl
theorem sizeIntH : ∀ w, (Go.sizeOf 3).run Tryz.prog w = .ok 1 w := fun w => by kernel_rfl
set_option maxRecDepth 100000 in
theorem copy_intsH {w W : World} {z : Int} {R n k : Nat} (h : CIH w z R n k W) (hR : w.heap.size ≤ R) (hk : k ≤ n) (a : Addr) (sLen cap : Nat) (ty : TypeId) (m : Nat) (hm : m = Nat.min sLen (n - k)) (hc : ∀ j, j < m → W.cell? (a.add j) = some (.int .i64 z)) :
    ∃ W', (Builtin.copy_ #[30, 30] ty #[.slice (some ⟨R, k, none⟩) (n - k) (n - k), .slice (some a) sLen cap]).run Tryz.prog W = .ok (.int .i64 (m : Int)) W' ∧ CIH w z R n (k + m) W' := by
  have hm2 : m ≤ n - k := by rw [hm]; exact Nat.min_le_right _ _
  have hr := run_copy_cells (P := Tryz.prog) W 30 30 ty 3 R k (n - k) (n - k) a sLen cap (List.replicate m (.int .i64 z)) Tryz.underlying30 infoIntsH (by rw [List.length_replicate]; exact hm)
    (fun j u hj => by
      have hj2 : j < m := by have := (List.getElem?_eq_some_iff.1 hj).1; rwa [List.length_replicate] at this
      rw [List.getElem?_replicate, if_pos hj2] at hj
      injection hj with hj
      subst hj
      exact hc j hj2)
    (fun j hj => by rw [List.length_replicate] at hj; rw [World.rowIs.cell h.r (show k + j < n by omega)]; rfl) (fun j hj => by rw [List.length_replicate] at hj; exact World.rowIs.frozen h.r _)
    (fun u hu => by rw [List.eq_of_mem_replicate hu]; rfl)
  rw [List.length_replicate] at hr
  refine ⟨_, hr, ?_⟩
  refine ⟨Lib.below_setCells R hR _ _ h.b, World.rowIs.congr (rowIs_repH _ m k W _ h.r) (fun i _ => ?_)⟩
  by_cases h1 : k ≤ i ∧ i < k + m
  · rw [if_pos h1]
    rw [if_pos (by omega)]
  · rw [if_neg h1]
    by_cases h2 : i < k
    · rw [if_pos h2, if_pos (by omega)]
    · rw [if_neg h2, if_neg (by omega)]
theorem CIH.drew {w W : World} {z : Int} {R n k : Nat} (h : CIH w z R n k W) : CIH w z R n k W.drew := ⟨h.b.drew, h.r⟩
set_option maxRecDepth 100000 in
set_option maxHeartbeats 6400000 in
theorem repeatH_any (n b cap : Nat) (z : Int) (w : World) (hn : n ≤ 256) (hcell : w.cell? ⟨b, 0, none⟩ = some (.int .i64 z)) :
    Calls Tryz.prog 69 #[.slice (some ⟨b, 0, none⟩) 1 cap, .int .i64 (n : Int)] w fun e w' => e = .returned (.slice (some ⟨w.heap.size, 0, none⟩) n n) ∧ w'.rowIs w.heap.size 3 n (fun _ => (.int .i64 z)) ∧ Below w.heap.size w w' := by
  have hM : ∀ W, Calls Tryz.prog 97 #[.int .u64 1, .int .u64 (n : Int)] W fun e w' => e = .returned (.tuple #[.int .u64 0, .int .u64 (n : Int)]) ∧ w' = W := fun W => by
    have k := Tryz.bits_Mul 1 n (by omega) (by omega) W
    rw [show 1 * n / 18446744073709551616 = 0 by omega, show 1 * n % 18446744073709551616 = n by omega] at k
    exact k
  have HM := Lib.hid hM
  clear hM
  have hmx : Tryz.prog.follows .mixedOrders = true := by kernel_rfl
  have hmk := make_intsH n (by omega)
  have C0 : CIH w z w.heap.size n 0 (w.alloc (.cells (madeCells #[(.int .i64 0)] n) 3)) :=
    ⟨below1 w _, World.rowIs.congr (World.rowIs_made w _ n _) (fun j _ => by rw [if_neg (by omega)])⟩
  obtain ⟨m, hm⟩ : ∃ m, m = Nat.min 1 (n - 0) := ⟨_, rfl⟩
  obtain ⟨w1, hr1, C1⟩ := copy_intsH C0 (Nat.le_refl _) (Nat.zero_le _) ⟨b, 0, none⟩ 1 cap 3 m hm (fun j hj => by
    have h1 : m ≤ 1 := by rw [hm]; exact Nat.min_le_left _ _
    obtain rfl : j = 0 := by omega
    exact cell_keep hcell (below1 w _))
  have hm2 : m ≤ n ∧ (n = m ∨ (1 ≤ m ∧ m ≤ n)) := by
    rcases Nat.eq_zero_or_pos n with h | h
    · subst h; have : m = 0 := hm; omega
    · have : m = 1 := by rw [hm, Nat.sub_zero]; exact Nat.min_eq_left h
      omega
  rw [Nat.sub_zero] at hr1
  rw [Nat.zero_add] at C1
  have HC1 := Lib.hid C1
  have d0 : decide ((9223372036854775807 : Int) < (n : Int)) = false := decide_eq_false (by omega)
  clear C0 C1 hcell hm
  go_enter Tryz.func69, Tryz.ntmps69
  go_wp2_with (first
    | (go_at_call 97; (with_reducible refine (HM.out _).mono ?_); rintro e W0 ⟨rfl, hW⟩; (rw [hW]); (clear hW))
    | (at_builtin; refine Lib.wpList_copy_run _ rfl _ _ 30 30 rfl _ _ rfl rfl hr1 ?_))
  clear hr1 HM hmk
  go_loopg [8] n (fun q s8 wx => ∃ k : Nat, k ≤ n ∧ n - k ≤ q ∧ (n = k ∨ 1 ≤ k) ∧ s8 = .int .i64 (k : Int) ∧ Hid (CIH w z w.heap.size n k wx))
  case atStart => exact ⟨m, hm2.1, by omega, by omega, rfl, HC1⟩
  case round =>
    clear HC1
    obtain ⟨k, hkn, hgk, hk1, rfl, HB⟩ := hrel
    by_cases hlt : k < n
    · have hmin : min (k : Int) (n : Int) = (k : Int) := by omega
      obtain ⟨m', hm'⟩ : ∃ m', m' = Nat.min k (n - k) := ⟨_, rfl⟩
      have hmk : m' ≤ k := by rw [hm']; exact Nat.min_le_left _ _
      have hmn : m' ≤ n - k := by rw [hm']; exact Nat.min_le_right _ _
      have hm1 : 1 ≤ m' := by
        rw [hm']
        exact Nat.le_min.2 ⟨by omega, by omega⟩
      obtain ⟨w2, hr2, C2⟩ := copy_intsH HB.out.drew (Nat.le_refl _) hkn ⟨w.heap.size, 0, none⟩ k n 3 m' hm' (fun j hj => by
        rw [show (⟨w.heap.size, 0, none⟩ : Addr).add j = ⟨w.heap.size, j, none⟩ by unfold Addr.add; split <;> simp_all]
        rw [World.rowIs.cell HB.out.drew.r (show j < n by omega), if_pos (by omega)])
      have hsl1 : ∀ W, (Instr.slice 30 (.slice (some ⟨w.heap.size, 0, none⟩) n n) (some (.int .i64 (k : Int))) none none).run Tryz.prog W = .ok (.slice (some ⟨w.heap.size, k, none⟩) (n - k) (n - k)) W := fun W => by
        have h := Lib.run_slice_tailV W 30 3 Tryz.underlying30 sizeIntH w.heap.size n k (by omega)
        unfold Lib.tailV at h
        rw [if_neg (by omega)] at h
        exact h
      have hB2 := Lib.hid C2
      have dk : (0 : Int) ≤ (k : Int) := by omega
      have hw : IntKind.i64.wrap ((k : Int) + (m' : Int)) = (k : Int) + (m' : Int) := by clear hmin; rw [IntKind.wrap_i64]; omega
      have dkn : (k : Int) ≤ (n : Int) := by omega
      clear C2 HB hm'
      go_wp2_with fail
      go_region_law (refine step_copy _ rfl (.tmp 41) (.tmp 44) 30 30 rfl (.slice (some ⟨w.heap.size, k, none⟩) (n - k) (n - k)) (.slice (some ⟨w.heap.size, 0, none⟩) k n) (by simp [Act.eval, Act.put]) (by simp [Act.eval, Act.put]) hr2 ?_)
      clear hr2 hsl1 hmin
      go_wp2
      go_roundg (n - (k + m'))
      case measure => omega
      case rel => exact ⟨k + m', by omega, by omega, by omega, by go_num, hB2⟩
    · obtain rfl : k = n := by omega
      have HB2 := Lib.hid (show wr.rowIs w.heap.size 3 k (fun _ => (.int .i64 z)) from World.rowIs.congr HB.out.r (fun i hi => by rw [if_pos hi]))
      have hb := HB.out.b
      clear HB
      go_wp2
      go_ret
      exact ⟨rfl, HB2.out, hb⟩
end Go.Proofs.YtiockphjnkehnaaGreatDoor

namespace Go.Proofs.YtiockphjnkehnaaGreatDoor
set_option linter.unusedVariables false
set_option linter.unusedSectionVars false

section
variable {α β : Type} [DecidableEq α] [DecidableEq β]
def firsts (l : List α) : List α := l.foldl (fun K p => if p ∈ K then K else K ++ [p]) []
theorem firsts_snoc (l : List α) (x : α) : firsts (l ++ [x]) = if x ∈ firsts l then firsts l else firsts l ++ [x] := by
  unfold firsts; rw [List.foldl_append]; rfl
theorem firsts_mem (l : List α) : ∀ x, x ∈ firsts l ↔ x ∈ l := by
  have h : ∀ n (l : List α), l.length = n → ∀ x, x ∈ firsts l ↔ x ∈ l := fun n => by
    induction n with
    | zero =>
      intro l hl x
      rw [List.length_eq_zero_iff] at hl
      subst hl
      exact Iff.rfl
    | succ n ih =>
      intro l hl x
      have hne : l ≠ [] := fun e => by subst e; cases hl
      rw [← List.dropLast_concat_getLast hne, firsts_snoc]
      have ih2 := ih l.dropLast (by rw [List.length_dropLast]; omega)
      split
      · rename_i h
        rw [ih2 x, List.mem_append, List.mem_singleton]
        constructor
        · exact .inl
        · rintro (h3 | rfl)
          · exact h3
          · exact (ih2 _).1 h
      · rw [List.mem_append, List.mem_append, ih2 x]
  exact h _ l rfl
theorem firsts_take {l : List α} {i : Nat} {x : α} (h : l[i]? = some x) : firsts (l.take (i + 1)) = if x ∈ firsts (l.take i) then firsts (l.take i) else firsts (l.take i) ++ [x] := by
  rw [List.take_add_one, h]
  exact firsts_snoc _ _
theorem mem_take_iff {l : List α} {i : Nat} {x : α} : x ∈ l.take i ↔ ∃ j, j < i ∧ l[j]? = some x := by
  rw [List.mem_iff_getElem?]
  constructor
  · rintro ⟨j, h⟩
    rw [List.getElem?_take] at h
    split at h
    · exact ⟨j, by assumption, h⟩
    · cases h
  · rintro ⟨j, hj, h⟩
    exact ⟨j, by rw [List.getElem?_take, if_pos hj]; exact h⟩
def canon (l : List α) : List Nat := l.map (firsts l).idxOf
theorem canon_len (l : List α) : (canon l).length = l.length := List.length_map ..
theorem canon_at {l : List α} {i : Nat} {x : α} (h : l[i]? = some x) : (canon l)[i]? = some ((firsts l).idxOf x) := by
  unfold canon; rw [List.getElem?_map, h]; rfl
theorem idxInj {l : List α} {x y : α} (hx : x ∈ l) (h : l.idxOf x = l.idxOf y) : x = y := by
  have h1 : l.idxOf x < l.length := List.idxOf_lt_length_iff.2 hx
  have h2 : l[l.idxOf x] = x := List.getElem_idxOf h1
  have h3 : l.idxOf y < l.length := by omega
  have h4 : l[l.idxOf y] = y := List.getElem_idxOf h3
  rw [← h2, ← h4]
  congr 1
def ixA {α : Type} [DecidableEq α] (K : List α) (x : α) : Nat := K.idxOf x
theorem ixA_old {K : List α} {x p : α} (h : p ∈ K) : ixA (K ++ [x]) p = ixA K p := by unfold ixA; rw [List.idxOf_append, if_pos h]
theorem ixA_new {K : List α} {p : α} (h : p ∉ K) : ixA (K ++ [p]) p = K.length := by unfold ixA; rw [List.idxOf_append, if_neg h]; simp
def KerLe (l : List α) (m : List β) : Prop := ∀ i j, i < l.length → j < l.length → l[i]? = l[j]? → m[i]? = m[j]?
theorem canon_ker (l : List α) : KerLe (canon l) l ∧ KerLe l (canon l) := by
  constructor
  · intro i j hi hj h
    rw [canon_len] at hi hj
    have hx := List.getElem?_eq_getElem hi
    have hy := List.getElem?_eq_getElem hj
    rw [canon_at hx, canon_at hy] at h
    injection h with h
    rw [hx, hy, idxInj ((firsts_mem l _).2 (List.getElem_mem hi)) h]
  · intro i j hi hj h
    have hx := List.getElem?_eq_getElem hi
    have hy := List.getElem?_eq_getElem hj
    rw [canon_at hx, canon_at hy]
    rw [hx, hy] at h
    injection h with h
    rw [h]
theorem firsts_pre (l : List α) (i k : Nat) : firsts (l.take i) <+: firsts (l.take (i + k)) := by
  induction k with
  | zero => exact List.prefix_refl _
  | succ k ih =>
    rw [← Nat.add_assoc]
    refine List.IsPrefix.trans ih ?_
    cases hx : l[i + k]? with
    | none => rw [List.take_add_one, hx, Option.toList_none, List.append_nil]; exact List.prefix_refl _
    | some x =>
      rw [firsts_take hx]
      split
      · exact List.prefix_refl _
      · exact List.prefix_append _ _
theorem firsts_preAll (l : List α) (i : Nat) : firsts (l.take i) <+: firsts l := by
  have := firsts_pre l i l.length
  rwa [List.take_of_length_le (show l.length ≤ i + l.length by omega)] at this
theorem idx_pre {l m : List α} {x : α} (h : l <+: m) (hx : x ∈ l) : m.idxOf x = l.idxOf x := by
  obtain ⟨t, rfl⟩ := h
  rw [List.idxOf_append, if_pos hx]
theorem canon_step {l : List α} {i : Nat} {x : α} (h : l[i]? = some x) : (firsts l).idxOf x = (firsts (l.take (i + 1))).idxOf x := by
  refine idx_pre (firsts_preAll l (i + 1)) ?_
  rw [firsts_mem, mem_take_iff]
  exact ⟨i, by omega, h⟩
theorem canon_old {l : List α} {i : Nat} {x : α} (h : l[i]? = some x) (h2 : x ∈ firsts (l.take i)) : (firsts l).idxOf x = (firsts (l.take i)).idxOf x := idx_pre (firsts_preAll l i) h2
theorem canon_new {l : List α} {i : Nat} {x : α} (h : l[i]? = some x) (h2 : x ∉ firsts (l.take i)) : (firsts l).idxOf x = (firsts (l.take i)).length := by
  rw [canon_step h, firsts_take h, if_neg h2, List.idxOf_append, if_neg h2]; simp
theorem ker_count {l : List α} {m : List β} (hl : l.length = m.length) (h : KerLe l m) : ∀ i, i ≤ l.length → (firsts (m.take i)).length ≤ (firsts (l.take i)).length ∧
    ((firsts (m.take i)).length = (firsts (l.take i)).length → ∀ j k, j < i → k < i → m[j]? = m[k]? → l[j]? = l[k]?)
  | 0, _ => ⟨by simp [firsts], fun _ j k hj => absurd hj (Nat.not_lt_zero _)⟩
  | i + 1, hi => by
    obtain ⟨ih1, ih2⟩ := ker_count hl h i (by omega)
    have hx := List.getElem?_eq_getElem (show i < l.length by omega)
    have hy := List.getElem?_eq_getElem (show i < m.length by omega)
    generalize l[i]'(by omega) = x at hx
    generalize m[i]'(by omega) = y at hy
    rw [firsts_take hx, firsts_take hy]
    by_cases h1 : x ∈ firsts (l.take i)
    · have h2 : y ∈ firsts (m.take i) := by
        rw [firsts_mem, mem_take_iff] at h1 ⊢
        obtain ⟨j, hj, e⟩ := h1
        refine ⟨j, hj, ?_⟩
        rw [← hy]
        exact h j i (by omega) (by omega) (e.trans hx.symm)
      rw [if_pos h1, if_pos h2]
      refine ⟨ih1, fun e j k hj hk hjk => ?_⟩
      have ih3 := ih2 e
      rw [firsts_mem, mem_take_iff] at h1
      obtain ⟨j0, hj0, e0⟩ := h1
      have hi0 : l[i]? = l[j0]? := hx.trans e0.symm
      have hm0 : m[i]? = m[j0]? := h i j0 (by omega) (by omega) hi0
      by_cases hji : j = i <;> by_cases hki : k = i
      · rw [hji, hki]
      · subst hji
        rw [hi0]; exact ih3 j0 k hj0 (by omega) (hm0.symm.trans hjk)
      · subst hki
        rw [hi0]; exact ih3 j j0 (by omega) hj0 (hjk.trans hm0)
      · exact ih3 j k (by omega) (by omega) hjk
    · rw [if_neg h1, List.length_append, List.length_singleton]
      by_cases h2 : y ∈ firsts (m.take i)
      · rw [if_pos h2]
        exact ⟨by omega, fun e => by omega⟩
      · rw [if_neg h2, List.length_append, List.length_singleton]
        refine ⟨by omega, fun e j k hj hk hjk => ?_⟩
        have ih3 := ih2 (by omega)
        have hno : ∀ j, j < i → m[j]? ≠ m[i]? := fun j hj e => h2 (by rw [firsts_mem, mem_take_iff]; exact ⟨j, hj, e.trans hy⟩)
        by_cases hji : j = i <;> by_cases hki : k = i
        · rw [hji, hki]
        · subst hji; exact absurd hjk.symm (hno k (by omega))
        · subst hki; exact absurd hjk (hno j (by omega))
        · exact ih3 j k (by omega) (by omega) hjk
theorem firsts_le (l : List α) : (firsts l).length ≤ l.length := by
  have h : ∀ i, i ≤ l.length → (firsts (l.take i)).length ≤ i := fun i => by
    induction i with
    | zero => intro _; simp [firsts]
    | succ i ih =>
      intro hi
      rw [firsts_take (List.getElem?_eq_getElem (show i < l.length by omega))]
      have := ih (by omega)
      split
      · omega
      · rw [List.length_append, List.length_singleton]; omega
  have := h l.length (Nat.le_refl _)
  rwa [List.take_length] at this
theorem canon_le (l : List α) : ∀ x ∈ canon l, x ≤ l.length := fun x hx => by
  unfold canon at hx
  obtain ⟨p, hp, rfl⟩ := List.mem_map.1 hx
  have h1 := List.idxOf_lt_length_iff.2 ((firsts_mem l p).2 hp)
  have h2 := firsts_le l
  omega
theorem canon_same {l : List α} {m : List β} (hl : l.length = m.length) (h1 : KerLe l m) (h2 : KerLe m l) : canon l = canon m := by
  have key : ∀ i, i ≤ l.length → (firsts (l.take i)).length = (firsts (m.take i)).length := fun i hi => by
    have a := (ker_count hl h1 i hi).1
    have b := (ker_count hl.symm h2 i (by omega)).1
    omega
  refine List.ext_getElem? fun i => ?_
  by_cases hi : i < l.length
  · have hx := List.getElem?_eq_getElem hi
    have hy := List.getElem?_eq_getElem (show i < m.length by omega)
    generalize l[i]'(by omega) = x at hx
    generalize m[i]'(by omega) = y at hy
    rw [canon_at hx, canon_at hy]
    have hst : ∀ (n i : Nat) (x : α) (y : β), i < n → l[i]? = some x → m[i]? = some y → (firsts l).idxOf x = (firsts m).idxOf y := fun n => by
      induction n with
      | zero => intro i x y hi; omega
      | succ n ih =>
        intro i x y hi hx hy
        have hil := (List.getElem?_eq_some_iff.1 hx).1
        by_cases h3 : x ∈ firsts (l.take i)
        · rw [firsts_mem, mem_take_iff] at h3
          obtain ⟨j, hj, e⟩ := h3
          exact ih j x y (by omega) e ((h1 j i (by omega) hil (e.trans hx.symm)).trans hy)
        · have h4 : y ∉ firsts (m.take i) := fun h4 => h3 (by
            rw [firsts_mem, mem_take_iff] at h4 ⊢
            obtain ⟨j, hj, e⟩ := h4
            exact ⟨j, hj, (h2 j i (by omega) (by omega) (e.trans hy.symm)).trans hx⟩)
          rw [canon_new hx h3, canon_new hy h4, key i (by omega)]
    rw [hst (i + 1) i x y (by omega) hx hy]
  · rw [List.getElem?_eq_none (by rw [canon_len]; omega), List.getElem?_eq_none (by rw [canon_len]; omega)]
end
def pairsC (m : Nat → Nat → Nat) (c : List Nat) (l : Nat) : List (Nat × Nat) := (List.range c.length).map fun s => (c.getD s 0, c.getD (m s l) 0)
def splitC (m : Nat → Nat → Nat) (c : List Nat) (l : Nat) : List Nat := canon (pairsC m c l)
def roundC (m : Nat → Nat → Nat) (La : Nat) (c : List Nat) : List Nat := (List.range La).foldl (splitC m) c
theorem pairsC_len (m : Nat → Nat → Nat) (c : List Nat) (l : Nat) : (pairsC m c l).length = c.length := by unfold pairsC; rw [List.length_map, List.length_range]
theorem pairsC_at {m : Nat → Nat → Nat} {c : List Nat} {l s : Nat} (h : s < c.length) : (pairsC m c l)[s]? = some (c.getD s 0, c.getD (m s l) 0) := by
  unfold pairsC; rw [List.getElem?_map, List.getElem?_range h]; rfl
theorem splitC_len (m : Nat → Nat → Nat) (c : List Nat) (l : Nat) : (splitC m c l).length = c.length := by unfold splitC; rw [canon_len, pairsC_len]
theorem getD_opt {c : List Nat} {s : Nat} (h : s < c.length) : c[s]? = some (c.getD s 0) := by
  rw [List.getD_eq_getElem?_getD, List.getElem?_eq_getElem h]; rfl
theorem splitC_iff {m : Nat → Nat → Nat} {c : List Nat} {l s t : Nat} (hs : s < c.length) (ht : t < c.length) :
    (splitC m c l).getD s 0 = (splitC m c l).getD t 0 ↔ c.getD s 0 = c.getD t 0 ∧ c.getD (m s l) 0 = c.getD (m t l) 0 := by
  have hl := splitC_len m c l
  have h1 := getD_opt (c := splitC m c l) (s := s) (by omega)
  have h2 := getD_opt (c := splitC m c l) (s := t) (by omega)
  have k := canon_ker (pairsC m c l)
  constructor
  · intro e
    have h3 := k.1 s t (by rw [canon_len, pairsC_len]; omega) (by rw [canon_len, pairsC_len]; omega) (by show (splitC m c l)[s]? = (splitC m c l)[t]?; rw [h1, h2, e])
    rw [pairsC_at hs, pairsC_at ht] at h3
    injection h3 with h3
    injection h3 with h3 h4
    exact ⟨h3, h4⟩
  · rintro ⟨e1, e2⟩
    have h3 : (splitC m c l)[s]? = (splitC m c l)[t]? := k.2 s t (by rw [pairsC_len]; omega) (by rw [pairsC_len]; omega) (by rw [pairsC_at hs, pairsC_at ht, e1, e2])
    rw [h1, h2] at h3
    injection h3
theorem upC_len (m : Nat → Nat → Nat) (c : List Nat) : ∀ k, ((List.range k).foldl (splitC m) c).length = c.length
  | 0 => rfl
  | k + 1 => by rw [List.range_succ, List.foldl_append]; show (splitC m _ _).length = _; rw [splitC_len, upC_len]
theorem roundC_len (m : Nat → Nat → Nat) (La : Nat) (c : List Nat) : (roundC m La c).length = c.length := upC_len m c La
theorem upC_fine (m : Nat → Nat → Nat) (c : List Nat) {s t : Nat} (hs : s < c.length) (ht : t < c.length) (j : Nat) : ∀ k, ((List.range (j + k)).foldl (splitC m) c).getD s 0 = ((List.range (j + k)).foldl (splitC m) c).getD t 0 →
    ((List.range j).foldl (splitC m) c).getD s 0 = ((List.range j).foldl (splitC m) c).getD t 0
  | 0, h => h
  | k + 1, h => by
    rw [← Nat.add_assoc, List.range_succ, List.foldl_append] at h
    exact upC_fine m c hs ht j k ((splitC_iff (by rw [upC_len]; exact hs) (by rw [upC_len]; exact ht)).1 h).1
theorem roundC_fine {m : Nat → Nat → Nat} {La : Nat} {c : List Nat} {s t : Nat} (hs : s < c.length) (ht : t < c.length) (h : (roundC m La c).getD s 0 = (roundC m La c).getD t 0) : c.getD s 0 = c.getD t 0 := by
  unfold roundC at h
  rw [← Nat.zero_add La] at h
  exact upC_fine m c hs ht 0 La h
theorem roundC_stable {m : Nat → Nat → Nat} {La : Nat} {c : List Nat} (hm : ∀ s l, s < c.length → m s l < c.length) (h : roundC m La c = c) {s t l : Nat} (hs : s < c.length) (ht : t < c.length) (hl : l < La) (e : c.getD s 0 = c.getD t 0) : c.getD (m s l) 0 = c.getD (m t l) 0 := by
  have h1 : (roundC m La c).getD s 0 = (roundC m La c).getD t 0 := by rw [h]; exact e
  unfold roundC at h1
  have e2 : La = (l + 1) + (La - (l + 1)) := by omega
  rw [e2] at h1
  have h2 := upC_fine m c hs ht (l + 1) _ h1
  rw [List.range_succ, List.foldl_append] at h2
  have h3 := ((splitC_iff (m := m) (c := (List.range l).foldl (splitC m) c) (l := l) (by rw [upC_len]; exact hs) (by rw [upC_len]; exact ht)).1 h2).2
  rw [← Nat.zero_add l] at h3
  have := upC_fine m c (hm s l hs) (hm t l ht) 0 l (by rw [Nat.zero_add] at h3 ⊢; exact h3)
  exact this
theorem upC_coarse {m : Nat → Nat → Nat} {c : List Nat} {La : Nat} {E : Nat → Nat → Prop} (hE : ∀ s t, E s t → s < c.length ∧ t < c.length) (hst : ∀ s t l, E s t → l < La → E (m s l) (m t l)) (h0 : ∀ s t, E s t → c.getD s 0 = c.getD t 0) : ∀ k, k ≤ La → ∀ s t, E s t → ((List.range k).foldl (splitC m) c).getD s 0 = ((List.range k).foldl (splitC m) c).getD t 0
  | 0, _, s, t, h => h0 s t h
  | k + 1, hk, s, t, h => by
    rw [List.range_succ, List.foldl_append]
    exact (splitC_iff (by rw [upC_len]; exact (hE s t h).1) (by rw [upC_len]; exact (hE s t h).2)).2 ⟨upC_coarse hE hst h0 k (by omega) s t h, upC_coarse hE hst h0 k (by omega) _ _ (hst s t k h (by omega))⟩
def rndC (m : Nat → Nat → Nat) (La : Nat) (c : List Nat) : Nat → List Nat
  | 0 => c
  | k + 1 => roundC m La (rndC m La c k)
theorem rndC_len (m : Nat → Nat → Nat) (La : Nat) (c : List Nat) : ∀ k, (rndC m La c k).length = c.length
  | 0 => rfl
  | k + 1 => by show (roundC m La _).length = _; rw [roundC_len, rndC_len]
theorem canon_canon {α : Type} [DecidableEq α] (l : List α) : canon (canon l) = canon l :=
  canon_same (canon_len l) (canon_ker l).1 (canon_ker l).2
theorem roundC_canon (m : Nat → Nat → Nat) (La : Nat) (c : List Nat) (h : 1 ≤ La) : canon (roundC m La c) = roundC m La c := by
  obtain ⟨k, rfl⟩ : ∃ k, La = k + 1 := ⟨La - 1, by omega⟩
  unfold roundC
  rw [List.range_succ, List.foldl_append]
  exact canon_canon _
theorem roundC_same {m : Nat → Nat → Nat} {La : Nat} {c : List Nat} (hL : 1 ≤ La) (hc : canon c = c) (h : (firsts (roundC m La c)).length ≤ (firsts c).length) : roundC m La c = c := by
  have hk : KerLe (roundC m La c) c := fun i j hi hj e => by
    rw [roundC_len] at hi hj
    rw [getD_opt hi, getD_opt hj]
    rw [getD_opt (by rw [roundC_len]; exact hi), getD_opt (by rw [roundC_len]; exact hj)] at e
    injection e with e
    rw [roundC_fine hi hj e]
  have h1 := ker_count (roundC_len m La c) hk c.length (by rw [roundC_len]; exact Nat.le_refl _)
  rw [List.take_length, List.take_of_length_le (by rw [roundC_len]; exact Nat.le_refl _)] at h1
  have hk2 : KerLe c (roundC m La c) := fun i j hi hj e => h1.2 (by omega) i j hi hj e
  have := canon_same (roundC_len m La c) hk hk2
  rw [roundC_canon m La c hL, hc] at this
  exact this
theorem rndC_stops (m : Nat → Nat → Nat) (La : Nat) (c : List Nat) (hL : 1 ≤ La) : ∃ k, k ≤ c.length + 1 ∧ rndC m La c (k + 1) = rndC m La c k := by
  refine Classical.byContradiction fun hn => ?_
  have hne : ∀ k, k ≤ c.length + 1 → rndC m La c (k + 1) ≠ rndC m La c k := fun k hk e => hn ⟨k, hk, e⟩
  have hgrow : ∀ k, k ≤ c.length + 1 → k ≤ (firsts (rndC m La c (k + 1))).length := fun k => by
    induction k with
    | zero => intro _; exact Nat.zero_le _
    | succ k ih =>
      intro hk
      refine Nat.lt_of_not_le fun h => hne (k + 1) hk ?_
      exact roundC_same hL (roundC_canon m La _ hL) (Nat.le_trans h (ih (by omega)))
  have h1 := hgrow (c.length + 1) (Nat.le_refl _)
  have h2 := firsts_le (rndC m La c (c.length + 1 + 1))
  rw [rndC_len] at h2
  omega
theorem leastN {P : Nat → Prop} (h : ∃ k, P k) : ∃ k, P k ∧ ∀ j, j < k → ¬ P j := by
  obtain ⟨k, hk⟩ := h
  have : ∀ n, ∀ k, k ≤ n → P k → ∃ k, P k ∧ ∀ j, j < k → ¬ P j := fun n => by
    induction n with
    | zero => intro k hk h; exact ⟨k, h, fun j hj => by omega⟩
    | succ n ih =>
      intro k hk h
      by_cases h2 : ∃ j, j < k ∧ P j
      · obtain ⟨j, hj, h3⟩ := h2
        exact ih j (by omega) h3
      · exact ⟨k, h, fun j hj h3 => h2 ⟨j, hj, h3⟩⟩
  exact this k k (Nat.le_refl _) hk
def startC (n : Nat) : List Nat := List.replicate n 0 ++ [1]
theorem startC_len (n : Nat) : (startC n).length = n + 1 := by unfold startC; simp
theorem startC_at {n s : Nat} (h : s < n + 1) : (startC n).getD s 0 = if s = n then 1 else 0 := by
  unfold startC
  rw [List.getD_eq_getElem?_getD]
  by_cases e : s = n
  · subst e
    rw [if_pos rfl, List.getElem?_append_right (by simp)]; simp
  · rw [if_neg e, List.getElem?_append_left (by simp; omega), List.getElem?_replicate, if_pos (by omega)]; rfl
theorem stopC_ex (m : Nat → Nat → Nat) (La n : Nat) (hL : 1 ≤ La) : ∃ k, (k ≤ n + 2 ∧ rndC m La (startC n) (k + 1) = rndC m La (startC n) k) ∧ ∀ j, j < k → ¬ (j ≤ n + 2 ∧ rndC m La (startC n) (j + 1) = rndC m La (startC n) j) := by
  have h := rndC_stops m La (startC n) hL
  rw [startC_len] at h
  exact leastN h
def loopC (m : Nat → Nat → Nat) (La : Nat) : Nat → List Nat → List Nat
  | 0, c => c
  | k + 1, c => if roundC m La c = c then c else loopC m La k (roundC m La c)
theorem loopC_eq {m : Nat → Nat → Nat} {La n K : Nat} (hK : rndC m La (startC n) (K + 1) = rndC m La (startC n) K) (hm : ∀ j, j < K → rndC m La (startC n) (j + 1) ≠ rndC m La (startC n) j) : ∀ d k, K ≤ k + d → k ≤ K → loopC m La d (rndC m La (startC n) k) = rndC m La (startC n) K
  | 0, k, h1, h2 => by
    obtain rfl : k = K := by omega
    rfl
  | d + 1, k, h1, h2 => by
    unfold loopC
    by_cases h : k = K
    · subst h
      rw [if_pos (show roundC m La (rndC m La (startC n) k) = rndC m La (startC n) k from hK)]
    · rw [if_neg (show ¬ roundC m La (rndC m La (startC n) k) = rndC m La (startC n) k from hm k (by omega))]
      exact loopC_eq hK hm d (k + 1) (by omega) (by omega)
def classN (m : Nat → Nat → Nat) (La n : Nat) : List Nat := (loopC m La (n + 3) (startC n)).take n
theorem classN_eq {m : Nat → Nat → Nat} {La n K : Nat} (hn : K ≤ n + 2) (hK : rndC m La (startC n) (K + 1) = rndC m La (startC n) K) (hm : ∀ j, j < K → rndC m La (startC n) (j + 1) ≠ rndC m La (startC n) j) : classN m La n = (rndC m La (startC n) K).take n := by
  unfold classN
  rw [show startC n = rndC m La (startC n) 0 from rfl, loopC_eq hK hm (n + 3) 0 (by omega) (Nat.zero_le _)]
  rfl
theorem stopC_get (m : Nat → Nat → Nat) (La n : Nat) (hL : 1 ≤ La) : ∃ K, K ≤ n + 2 ∧ rndC m La (startC n) (K + 1) = rndC m La (startC n) K ∧ (∀ j, j < K → rndC m La (startC n) (j + 1) ≠ rndC m La (startC n) j) ∧ classN m La n = (rndC m La (startC n) K).take n := by
  obtain ⟨K, ⟨h1, h2⟩, h3⟩ := stopC_ex m La n hL
  have h4 : ∀ j, j < K → rndC m La (startC n) (j + 1) ≠ rndC m La (startC n) j := fun j hj e => h3 j hj ⟨by omega, e⟩
  exact ⟨K, h1, h2, h4, classN_eq h1 h2 h4⟩
theorem splitC_le (m : Nat → Nat → Nat) (c : List Nat) (l : Nat) : ∀ x ∈ splitC m c l, x ≤ c.length := fun x hx => by
  have h := canon_le (pairsC m c l) x hx
  rwa [pairsC_len] at h
theorem upC_le {m : Nat → Nat → Nat} {c : List Nat} {B : Nat} (hB : c.length ≤ B) (hc : ∀ x ∈ c, x ≤ B) : ∀ k, ∀ x ∈ (List.range k).foldl (splitC m) c, x ≤ B
  | 0 => hc
  | k + 1 => fun x hx => by
    rw [List.range_succ, List.foldl_append] at hx
    have h : x ≤ ((List.range k).foldl (splitC m) c).length := splitC_le m _ k x hx
    rw [upC_len] at h
    exact Nat.le_trans h hB
theorem rndC_le {m : Nat → Nat → Nat} {La n : Nat} : ∀ k, ∀ x ∈ rndC m La (startC n) k, x ≤ n + 1
  | 0 => fun x hx => by
    have hx2 : x ∈ startC n := hx
    unfold startC at hx2
    rw [List.mem_append, List.mem_singleton] at hx2
    rcases hx2 with h | h
    · have := List.eq_of_mem_replicate h; omega
    · omega
  | k + 1 => upC_le (by rw [rndC_len, startC_len]; exact Nat.le_refl _) (rndC_le k) La
def mrun (m : Nat → Nat → Nat) (s : Nat) (w : List Nat) : Nat := w.foldl m s
theorem mrun_cons (m : Nat → Nat → Nat) (s l : Nat) (w : List Nat) : mrun m s (l :: w) = mrun m (m s l) w := rfl
theorem mrun_snoc (m : Nat → Nat → Nat) (s l : Nat) (w : List Nat) : mrun m s (w ++ [l]) = m (mrun m s w) l := by unfold mrun; rw [List.foldl_append]; rfl
theorem rndC_coarse {m : Nat → Nat → Nat} {n La : Nat} {E : Nat → Nat → Prop} (hE : ∀ s t, E s t → s < n + 1 ∧ t < n + 1) (hst : ∀ s t l, E s t → l < La → E (m s l) (m t l)) (h0 : ∀ s t, E s t → (s = n ↔ t = n)) : ∀ k s t, E s t → (rndC m La (startC n) k).getD s 0 = (rndC m La (startC n) k).getD t 0
  | 0, s, t, h => by
    show (startC n).getD s 0 = (startC n).getD t 0
    rw [startC_at (hE s t h).1, startC_at (hE s t h).2]
    have := h0 s t h
    by_cases e : s = n
    · rw [if_pos e, if_pos (this.1 e)]
    · rw [if_neg e, if_neg (fun e2 => e (this.2 e2))]
  | k + 1, s, t, h => by
    refine upC_coarse (fun s t h => ?_) hst (fun s t h => rndC_coarse hE hst h0 k s t h) La (Nat.le_refl _) s t h
    rw [rndC_len, startC_len]; exact hE s t h
theorem rndC_iff {m : Nat → Nat → Nat} {n La k : Nat} (hm : ∀ s l, s < n + 1 → m s l < n + 1) (hn : ∀ l, m n l = n) (hk : rndC m La (startC n) (k + 1) = rndC m La (startC n) k) {s t : Nat} (hs : s < n + 1) (ht : t < n + 1) :
    (rndC m La (startC n) k).getD s 0 = (rndC m La (startC n) k).getD t 0 ↔ ∀ w : List Nat, (∀ l ∈ w, l < La) → (mrun m s w = n ↔ mrun m t w = n) := by
  have hlen : (rndC m La (startC n) k).length = n + 1 := by rw [rndC_len, startC_len]
  constructor
  · intro e w
    induction w generalizing s t with
    | nil =>
      intro _
      show s = n ↔ t = n
      have hfine : ∀ j, (rndC m La (startC n) j).getD s 0 = (rndC m La (startC n) j).getD t 0 → (startC n).getD s 0 = (startC n).getD t 0 := fun j => by
        induction j with
        | zero => exact fun h => h
        | succ j ih => exact fun h => ih (roundC_fine (by rw [rndC_len, startC_len]; exact hs) (by rw [rndC_len, startC_len]; exact ht) h)
      have h1 := hfine k e
      rw [startC_at hs, startC_at ht] at h1
      by_cases e1 : s = n <;> by_cases e2 : t = n
      · exact ⟨fun _ => e2, fun _ => e1⟩
      · rw [if_pos e1, if_neg e2] at h1; cases h1
      · rw [if_neg e1, if_pos e2] at h1; cases h1
      · exact ⟨fun h => absurd h e1, fun h => absurd h e2⟩
    | cons l w ih =>
      intro hw
      rw [mrun_cons, mrun_cons]
      refine ih (hm s l hs) (hm t l ht) ?_ (fun x hx => hw x (by simp [hx]))
      exact roundC_stable (c := rndC m La (startC n) k) (fun s l h => by rw [hlen] at h ⊢; exact hm s l h) hk (by rw [hlen]; exact hs) (by rw [hlen]; exact ht) (hw l (by simp)) e
  · intro h
    refine rndC_coarse (E := fun s t => s < n + 1 ∧ t < n + 1 ∧ ∀ w : List Nat, (∀ l ∈ w, l < La) → (mrun m s w = n ↔ mrun m t w = n)) (fun s t h => ⟨h.1, h.2.1⟩) (fun s t l h hl => ⟨hm s l h.1, hm t l h.2.1, fun w hw => ?_⟩) (fun s t h => ?_) k s t ⟨hs, ht, h⟩
    · exact h.2.2 (l :: w) (fun x hx => by rw [List.mem_cons] at hx; rcases hx with rfl | hx; exact hl; exact hw x hx)
    · exact h.2.2 [] (fun x hx => by cases hx)
end Go.Proofs.YtiockphjnkehnaaGreatDoor

namespace Go.Proofs.YtiockphjnkehnaaGreatDoor
open Go.RowKit
set_option linter.unusedSimpArgs false
set_option linter.unusedVariables false

def mT (n : Nat) (es : List E3) (j l : Nat) : Nat := es.foldl (fun x e => if e.1 = (j : Int) ∧ e.2.1 = (l : Int) then e.2.2.toNat else x) n
theorem mT_snoc (n : Nat) (es : List E3) (e : E3) (j l : Nat) : mT n (es ++ [e]) j l = if e.1 = (j : Int) ∧ e.2.1 = (l : Int) then e.2.2.toNat else mT n es j l := by
  unfold mT; rw [List.foldl_append]; rfl
theorem mT_ind {P : Nat → Prop} {n j l : Nat} (h0 : P n) : ∀ {es : List E3}, (∀ e ∈ es, e.1 = (j : Int) → e.2.1 = (l : Int) → P e.2.2.toNat) → P (mT n es j l) := fun {es} h => by
  have h2 : ∀ k, P (mT n (es.take k) j l) := fun k => by
    induction k with
    | zero => exact h0
    | succ k ih =>
      by_cases hk : k < es.length
      · have hx := List.getElem?_eq_getElem hk
        rw [take_snoc hx, mT_snoc]
        split
        · rename_i hc
          exact h _ (List.getElem_mem hk) hc.1 hc.2
        · exact ih
      · rw [List.take_of_length_le (by omega)] at ih ⊢; exact ih
  have := h2 es.length
  rwa [List.take_length] at this
theorem mT_le {La : Int} {n : Nat} {es : List E3} (hok : ∀ e ∈ es, okE La (n : Int) e = true) (j l : Nat) : mT n es j l ≤ n :=
  mT_ind (P := fun x => x ≤ n) (Nat.le_refl n) (fun e he _ _ => by have := okE_iff.1 (hok e he); omega)
theorem mT_none {La : Int} {n : Nat} {es : List E3} (hok : ∀ e ∈ es, okE La (n : Int) e = true) (l : Nat) : mT n es n l = n :=
  mT_ind (P := fun x => x = n) rfl (fun e he h _ => by have := okE_iff.1 (hok e he); omega)
def mRow (m : Nat → Nat → Nat) (La j : Nat) : List Int := (List.range La).map fun l => ((m j l : Nat) : Int)
def mRows (m : Nat → Nat → Nat) (n La : Nat) : List (List Int) := (List.range (n + 1)).map (mRow m La)
theorem mRow_len (m : Nat → Nat → Nat) (La j : Nat) : (mRow m La j).length = La := by unfold mRow; rw [List.length_map, List.length_range]
theorem mRow_at {m : Nat → Nat → Nat} {La j l : Nat} (h : l < La) : (mRow m La j)[l]? = some ((m j l : Nat) : Int) := by unfold mRow; rw [List.getElem?_map, List.getElem?_range h]; rfl
theorem mRows_len (m : Nat → Nat → Nat) (n La : Nat) : (mRows m n La).length = n + 1 := by unfold mRows; rw [List.length_map, List.length_range]
theorem mRows_at {m : Nat → Nat → Nat} {n La j : Nat} (h : j < n + 1) : (mRows m n La)[j]? = some (mRow m La j) := by unfold mRows; rw [List.getElem?_map, List.getElem?_range h]; rfl
theorem Tryz.infoRowH : (Tryz.prog.info? 30).map (fun i => (i.zero, i.size, i.bytes)) = some (some (.slice none 0 0), 1, 24) := by kernel_rfl
theorem make_mach (n : Nat) (hn : n ≤ 100000) (W : World) : (Instr.makeSlice 62 (.int .i64 (n : Int)) (.int .i64 (n : Int))).run Tryz.prog W = .ok (.slice (some ⟨W.heap.size, 0, none⟩) n n) (W.alloc (.cells (madeCells #[(.slice none 0 0)] n) 30)) :=
  run_make_row' _ _ _ 24 Tryz.underlying62 Tryz.infoRowH rfl _ _ n (by omega) (by omega) W
theorem mnone_any (a : Option Addr) (k c : Nat) (w : World) (hk : k ≤ 100000) : Calls Tryz.prog 70 #[.slice a (k + 1) c] w fun e w' => e = .returned (.int .i64 (k : Int)) ∧ w' = w := by
  have hw : IntKind.i64.wrap (((k + 1 : Nat) : Int) - 1) = (k : Int) := by rw [IntWalk.i64_in _ (by omega)]; omega
  obtain ⟨m, hm⟩ : ∃ m, k + 1 = m := ⟨_, rfl⟩
  rw [hm] at hw ⊢
  clear hm
  go_enter Tryz.func70, Tryz.ntmps70
  go_wp2_with fail
  go_ret
  exact ⟨rfl, rfl⟩
abbrev rowH (La r : Nat) : Value := .slice (some ⟨r, 0, none⟩) La La
structure MA (w : World) (M La N i : Nat) (rs : Nat → Nat) (f : Nat → Nat → Nat) (W : World) : Prop where
  hb : Below w.heap.size w W
  hM : w.heap.size ≤ M
  hl : W.rowIs M 30 N (fun j => if j < i then rowH La (rs j) else .slice none 0 0)
  hr : ∀ j, j < i → M < rs j ∧ IRow W (rs j) La (fun l => ((f j l : Nat) : Int))
  ha : ∀ j k, j < k → k < i → rs j ≠ rs k
section
variable {w W W' : World} {M La N i : Nat} {rs : Nat → Nat} {f : Nat → Nat → Nat}
theorem MA.lt (h : MA w M La N i rs f W) : M < W.heap.size := World.rowIs.lt h.hl
theorem MA.keep (h : MA w M La N i rs f W) (k : Below W.heap.size W W') : MA w M La N i rs f W' :=
  ⟨h.hb.trans (k.mono h.hb.size), h.hM, World.rowIs.of_block h.hl (k.block M h.lt), fun j hj => ⟨(h.hr j hj).1, (h.hr j hj).2.keep k⟩, h.ha⟩
theorem MA.start (w : World) (La N : Nat) : MA w w.heap.size La N 0 (fun _ => 0) (fun _ _ => 0) (w.alloc (.cells (madeCells #[(.slice none 0 0)] N) 30)) :=
  ⟨below1 w _, Nat.le_refl _, World.rowIs.congr (World.rowIs_made w _ N _) (fun j _ => by rw [if_neg (by omega)]), fun j hj => absurd hj (Nat.not_lt_zero _), fun j k _ hk => absurd hk (Nat.not_lt_zero _)⟩
theorem MA.put (h : MA w M La N i rs f W) {R z : Nat} (hR : W.heap.size ≤ R) (k : Below W.heap.size W W') (hrow : IRow W' R La (fun _ => (z : Int))) :
    MA w M La N (i + 1) (fun j => if j = i then R else rs j) (fun j l => if j = i then z else f j l) (W'.setCell ⟨M, i, none⟩ (rowH La R)) := by
  have hM := h.lt
  have h2 := h.keep k
  refine ⟨h2.hb.setCell h.hM _, h.hM, World.rowIs.congr (World.rowIs.set h2.hl i (rowH La R)) (fun j hj => ?_), fun j hj => ?_, fun j l hjl hl => ?_⟩
  · by_cases e : j = i
    · subst e; rw [if_pos rfl, if_pos (by omega), if_pos rfl]
    · rw [if_neg e]
      by_cases hj2 : j < i
      · rw [if_pos hj2, if_pos (by omega), if_neg e]
      · rw [if_neg hj2, if_neg (by omega)]
  · try dsimp only
    by_cases e : j = i
    · subst e
      rw [if_pos rfl]
      refine ⟨by omega, ?_⟩
      have h3 : IRow (W'.setCell ⟨M, j, none⟩ (rowH La R)) R La (fun _ => (z : Int)) := hrow.other (by show R ≠ M; omega) _
      exact h3.congr (fun l _ => by rw [if_pos rfl])
    · rw [if_neg e]
      have h3 := h2.hr j (by omega)
      refine ⟨h3.1, ?_⟩
      have h4 : IRow (W'.setCell ⟨M, i, none⟩ (rowH La R)) (rs j) La (fun l => ((f j l : Nat) : Int)) := h3.2.other (by show rs j ≠ M; have := h3.1; omega) _
      exact h4.congr (fun l _ => by rw [if_neg e])
  · try dsimp only
    rw [if_neg (show ¬ j = i by omega)]
    by_cases e : l = i
    · rw [if_pos e]
      have := (h.hr j (by omega)).2.lt
      omega
    · rw [if_neg e]; exact h.ha j l hjl (by omega)
theorem MA.set (h : MA w M La N i rs f W) {j : Nat} (hj : j < i) (l z : Nat) : MA w M La N i rs (fun j' l' => if j' = j ∧ l' = l then z else f j' l') (W.setCell ⟨rs j, l, none⟩ (.int .i64 (z : Int))) := by
  have h1 := h.hr j hj
  have hM := h.hM
  refine ⟨h.hb.setCell (by show w.heap.size ≤ rs j; omega) _, h.hM, World.rowIs.setOther h.hl (by show M ≠ rs j; omega) _, fun k hk => ?_, h.ha⟩
  have h2 := h.hr k hk
  refine ⟨h2.1, ?_⟩
  by_cases e : k = j
  · subst e
    have h3 := h2.2.set l (z : Int)
    refine h3.congr (fun l' _ => ?_)
    by_cases e2 : l' = l
    · rw [if_pos e2, if_pos ⟨rfl, e2⟩]
    · rw [if_neg e2, if_neg (fun e3 => e2 e3.2)]
  · have hne : rs k ≠ rs j := by
      rcases Nat.lt_or_gt_of_ne e with hlt | hgt
      · exact h.ha k j hlt hj
      · exact fun e2 => h.ha j k hgt hk e2.symm
    have h3 : IRow (W.setCell ⟨rs j, l, none⟩ (.int .i64 (z : Int))) (rs k) La (fun l => ((f k l : Nat) : Int)) := h2.2.other hne _
    exact h3.congr (fun l' _ => by rw [if_neg (fun e3 => e e3.1)])
theorem MA.recast (h : MA w M La N i rs f W) {g : Nat → Nat → Nat} (e : ∀ j l, j < i → l < La → f j l = g j l) : MA w M La N i rs g W :=
  ⟨h.hb, h.hM, h.hl, fun j hj => ⟨(h.hr j hj).1, (h.hr j hj).2.congr (fun l hl => by rw [e j l hj hl])⟩, h.ha⟩
theorem MA.rd {n : Nat} (h : MA w M La (n + 1) (n + 1) rs f W) (c : Nat) : RowsRd W (.slice (some ⟨M, 0, none⟩) (n + 1) c) (mRows f n La) := by
  refine ⟨_, c, by rw [mRows_len], fun j r hr => ?_⟩
  have hj : j < n + 1 := by
    have := (List.getElem?_eq_some_iff.1 hr).1
    rwa [mRows_len] at this
  rw [mRows_at hj] at hr
  injection hr with hr
  subst hr
  refine ⟨M, 0, rowH La (rs j), rfl, ?_, ?_⟩
  · rw [Nat.zero_add, World.rowIs.cell h.hl hj, if_pos hj]
  · refine ⟨some ⟨rs j, 0, none⟩, La, by rw [mRow_len], fun l x hx => ?_⟩
    have hl : l < La := by
      have := (List.getElem?_eq_some_iff.1 hx).1
      rwa [mRow_len] at this
    rw [mRow_at hl] at hx
    injection hx with hx
    exact ⟨rs j, 0, rfl, by rw [Nat.zero_add, (h.hr j hj).2.cell hl, hx]⟩
end
set_option maxRecDepth 100000 in
set_option maxHeartbeats 6400000 in
theorem machineOf_any (L : Int) (La n : Nat) (es : List E3) (v : Value) (w : World) (hrd : EdgesRd w v es) (hok : ∀ e ∈ es, okE (La : Int) (n : Int) e = true) (hn : n ≤ 64) (hL : La ≤ 256) (hl : es.length ≤ 100000) :
    Calls Tryz.prog 39 #[grV L (n : Int) v, .int .i64 (La : Int)] w fun e w' => ∃ M, e = .returned (.slice (some ⟨M, 0, none⟩) (n + 1) (n + 1)) ∧ RowsRd w' (.slice (some ⟨M, 0, none⟩) (n + 1) (n + 1)) (mRows (mT n es) n La) ∧ Below w.heap.size w w' := by
  have hmx : Tryz.prog.follows .mixedOrders = true := by kernel_rfl
  have hmk := make_mach (n + 1) (by omega)
  have hw1 : IntKind.i64.wrap ((n : Int) + 1) = ((n + 1 : Nat) : Int) := by rw [IntWalk.i64_in _ (by omega)]; omega
  have HOK := Lib.hid hok
  have HRD := Lib.hid hrd
  have HNO := Lib.hid (fun a c W => mnone_any a n c W (by omega))
  obtain ⟨a, c, hv⟩ := hrd.form
  subst hv
  have B0 := Lib.hid (below1 w (.cells #[.int .i64 L, .int .i64 (n : Int), .slice a es.length c] 24))
  have G0 := Lib.hid (BoxG.new w L (n : Int) (.slice a es.length c) 24)
  obtain ⟨x1, x2, x3⟩ := id G0.out
  obtain ⟨N, hN⟩ : ∃ N, n + 1 = N := ⟨_, rfl⟩
  have HN := Lib.hid hN
  rw [hN] at hmk hw1 HNO ⊢
  have hN1 : n < N := by omega
  have hN2 : N ≤ 65 := by omega
  clear hrd hok hN
  go_enter Tryz.func39, Tryz.ntmps39
  go_wp2_with fail
  obtain ⟨W1, hW1⟩ : ∃ W1, w.alloc (.cells #[.int .i64 L, .int .i64 (n : Int), .slice a es.length c] 24) = W1 := ⟨_, rfl⟩
  have z1 : W1.heap.size = w.heap.size + 1 := by rw [← hW1, World.size_alloc]
  rw [hW1] at B0 G0 ⊢
  have A0 := Lib.hid (MA.start W1 La N)
  obtain ⟨M, hM⟩ : ∃ M, w.heap.size + 1 = M := ⟨_, rfl⟩
  rw [← z1] at hM
  rw [hM] at A0
  rw [← z1, hM]
  have hMw : w.heap.size ≤ M := by omega
  have HM := Lib.hid hM
  clear hW1 x1 x2 x3 hM z1 hmk
  generalize (W1.alloc (.cells (madeCells #[(.slice none 0 0)] N) 30)) = X at *
  go_loopg [15] N (fun q s15 wx => ∃ (i : Nat) (rs : Nat → Nat) (f : Nat → Nat → Nat), i + q = N ∧ s15 = .int .i64 (i : Int) ∧ Hid (∀ j l, j < i → l < La → f j l = n) ∧ Hid (MA W1 M La N i rs f wx))
  case atStart => exact ⟨0, _, _, by omega, rfl, Lib.hid (fun j l hj => absurd hj (Nat.not_lt_zero _)), A0⟩
  case round =>
    clear A0
    obtain ⟨i, rs, f, hin, rfl, HF, HA⟩ := hrel
    rcases gk with _ | q
    · obtain rfl : i = N := by omega
      have j0 : ¬ ((i : Int) < (i : Int)) := by omega
      have A1 := Lib.hid (HA.out.recast (g := mT n (es.take 0)) (fun j l hj hl => HF.out j l hj hl))
      obtain ⟨x1, x2, x3⟩ := G0.out.keep HA.out.hb
      go_upto_region 8 with fail
      clear x1 x2 x3 HF HA
      go_loopg [30] es.length (fun q s30 wx => ∃ k : Nat, k + q = es.length ∧ s30 = .int .i64 (k : Int) ∧ Hid (MA W1 M La i i rs (mT n (es.take k)) wx))
      case atStart => exact ⟨0, by omega, rfl, A1⟩
      case round =>
        clear A1
        obtain ⟨k, hkn, rfl, HA⟩ := hrel
        rcases gk with _ | q2
        · obtain rfl : k = es.length := by omega
          have j5 : ¬ ((es.length : Int) < (es.length : Int)) := by omega
          have h9 := HA.out
          rw [List.take_length] at h9
          have HR := Lib.hid (show RowsRd wr (.slice (some ⟨M, 0, none⟩) i i) (mRows (mT n es) n La) by
            have e := HN.out
            subst e
            exact h9.rd (n + 1))
          have HB := Lib.hid (B0.out.trans (h9.hb.mono (by rw [HM.out]; exact hMw)))
          clear h9 HA
          go_wp2_with fail
          go_ret
          exact ⟨M, rfl, HR.out, HB.out⟩
        · obtain ⟨e, he⟩ : ∃ e, es[k]? = some e := ⟨_, List.getElem?_eq_getElem (by omega)⟩
          have hok := okE_iff.1 (HOK.out e (List.mem_of_getElem? he))
          have HT := Lib.hid (show mT n (es.take (k + 1)) = mT n (es.take k ++ [e]) by rw [take_snoc he])
          obtain ⟨b, off, c', hv, k1, k2, k3⟩ := (HRD.out.keep (B0.out.trans (HA.out.hb.mono (by rw [HM.out]; exact hMw)))).at he
          injection hv with e1 e2 e3
          subst e1
          obtain ⟨x, y, z⟩ := e
          dsimp only at k1 k2 k3 hok
          obtain ⟨x, rfl⟩ : ∃ m : Nat, x = (m : Int) := ⟨x.toNat, by omega⟩
          obtain ⟨y, rfl⟩ : ∃ m : Nat, y = (m : Int) := ⟨y.toNat, by omega⟩
          obtain ⟨z, rfl⟩ : ∃ m : Nat, z = (m : Int) := ⟨z.toNat, by omega⟩
          have hxn : x < i := by have := HN.out; omega
          have hyn : y < La := by omega
          have j1 : (k : Int) < (es.length : Int) := by omega
          clear he e2 e3 hok
          go_upto_region 10 with fail
          obtain ⟨P0, hP0⟩ : ∃ P0, wr.heap.size = P0 := ⟨_, rfl⟩
          have X1 := BoxG.new wr (x : Int) (y : Int) (.int .i64 (z : Int)) 39
          have A1 := Lib.hid (HA.out.keep (below1 wr (.cells #[.int .i64 (x : Int), .int .i64 (y : Int), .int .i64 (z : Int)] 39)))
          rw [hP0] at X1 ⊢
          clear HA k1 k2 k3 hP0
          generalize (wr.alloc (.cells #[.int .i64 (x : Int), .int .i64 (y : Int), .int .i64 (z : Int)] 39)) = V1 at *
          obtain ⟨z1, z2, z3⟩ := id X1
          have cx : V1.cell? ⟨M, x, none⟩ = some (rowH La (rs x)) := by
            have h := World.rowIs.cell A1.out.hl hxn
            rw [if_pos hxn] at h
            exact h
          have c4 := (A1.out.hr x hxn).2.cell hyn
          have f4 := (A1.out.hr x hxn).2.frozen y
          have HS := Lib.hid (A1.out.set hxn y z)
          have j3 : (x : Int) < (i : Int) := by omega
          have j4 : (y : Int) < (La : Int) := by omega
          clear X1
          go_region
          go_wp2_with fail
          go_roundg q2
          case measure => omega
          case rel => exact ⟨k + 1, by omega, by go_num, Lib.hid ((HS.out.recast (g := mT n (es.take (k + 1))) (fun j l hj hl => by
            rw [HT.out, mT_snoc]
            try dsimp only
            by_cases h : j = x ∧ l = y
            · rw [if_pos h, if_pos (by omega)]; rfl
            · rw [if_neg h, if_neg (by omega)])).keep (Below.refl _ _).drew)⟩
    · have j1 : (i : Int) < (N : Int) := by omega
      obtain ⟨R, hR⟩ : ∃ R, (wr.alloc (.cells #[.int .i64 (n : Int)] 3)).heap.size = R := ⟨_, rfl⟩
      have HRR := Lib.hid hR
      have HRP : Hid (Calls Tryz.prog 69 #[.slice (some ⟨wr.heap.size, 0, none⟩) 1 1, .int .i64 (La : Int)] (wr.alloc (.cells #[.int .i64 (n : Int)] 3)) fun e w' => e = .returned (rowH La R) ∧ IRow w' R La (fun _ => (n : Int)) ∧ Below (wr.alloc (.cells #[.int .i64 (n : Int)] 3)).heap.size (wr.alloc (.cells #[.int .i64 (n : Int)] 3)) w') := Lib.hid (by
        rw [← hR]
        exact repeatH_any La wr.heap.size 1 (n : Int) _ hL (by have h := heap_alloc_new wr (.cells #[.int .i64 (n : Int)] 3); unfold World.cell?; rw [h]; rfl))
      clear hR
      go_wp2_with (first
        | (go_at_call 70; (with_reducible refine (HNO.out _ _ _).mono ?_); rintro e W3 ⟨rfl, rfl⟩)
        | (go_at_call 69; (with_reducible refine HRP.out.mono ?_); rintro e W5 ⟨rfl, hrow, b5⟩; (have k5 := Lib.hid (below_more (below1 _ _) (Nat.le_refl _) b5)); (have h5 := HA.out.keep k5.out); (have c4 := World.rowIs.cell h5.hl (show i < N by omega)); (rw [if_neg (Nat.lt_irrefl i)] at c4); (have f4 := World.rowIs.frozen h5.hl i); (have HP := Lib.hid (HA.out.put (R := R) (by rw [← HRR.out, World.size_alloc]; omega) k5.out hrow)); clear b5 hrow h5))
      go_roundg q
      case measure => omega
      case rel => exact ⟨i + 1, _, _, by omega, by go_num, Lib.hid (fun j l hj hl => by
        try dsimp only
        by_cases e : j = i
        · rw [if_pos e]
        · rw [if_neg e]; exact HF.out j l (by omega) hl), HP⟩
end Go.Proofs.YtiockphjnkehnaaGreatDoor
