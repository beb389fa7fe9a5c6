/- MinimalParts returns true for every input. Conditions: the edges can be read; their number is one of a slice. MinimalParts returns true for every input: the law's row. No condition. -/
import Derived.Test.YtbgfllohedhmaaaQ26
import Derived.Test.YtbgfllohedhmaaaQ29
import Derived.Test.YtbgfllohedhmaaaQ15
import Derived.Test.YtbgfllohedhmaaaQ30

namespace Go.Proofs.Ytbgfllohedhmaaa
open Go.RowKit
set_option linter.unusedSimpArgs false
set_option linter.unusedVariables false

/-- Larger than the laws of layer 13 examine. -/
def great13B (L S : Int) (k : Nat) : Bool := greatB S k || decide (20 < k) || (decide (6 < S) && decide (S ≤ 64)) || (decide (8 < L) && decide (L ≤ 256))
set_option maxHeartbeats 6400000 in
theorem great13_any (L S : Int) (a : Option Addr) (k c : Nat) (w : World) :
    Calls Try.prog 15 #[grV L S (.slice a k c)] w fun e w' => e = .returned (.bool (great13B L S k)) ∧ Below w.heap.size w w' := by
  have HG := Lib.hid (fun W => great_any L S a k c W)
  have B0 := Lib.hid (below1 w (.cells #[.int .i64 L, .int .i64 S, .slice a k c] 24))
  have G0 := Lib.hid (BoxG.new w L S (.slice a k c) 24)
  obtain ⟨x1, x2, x3⟩ := id G0.out
  cases hg : greatB S k
  · rw [hg] at HG
    by_cases h1 : 20 < k
    · have d1 : decide ((20 : Int) < (k : Int)) = true := decide_eq_true (by omega)
      have d1' : decide (20 < k) = true := decide_eq_true h1
      have HE := Lib.hid (show great13B L S k = true by unfold great13B; simp only [hg, d1', Bool.or_true, Bool.true_or])
      clear hg h1
      go_enter Try.func15, Try.ntmps15
      go_wp2_with (go_at_call 27; (with_reducible refine (HG.out _).mono ?_); rintro e W1 ⟨rfl, b1⟩; (have B1 := Lib.hid (below_more B0.out (Nat.le_refl _) b1)); (have G1 := Lib.hid (G0.out.keep b1)); clear b1 x1 x2 x3; (obtain ⟨x1, x2, x3⟩ := id G1.out))
      go_ret
      exact ⟨by rw [HE.out]; try rfl, B1.out⟩
    · have d1 : decide ((20 : Int) < (k : Int)) = false := decide_eq_false (by omega)
      have d1' : decide (20 < k) = false := decide_eq_false h1
      by_cases h2 : 6 < S
      · have d2 : decide (6 < S) = true := decide_eq_true h2
        by_cases h3 : S ≤ 64
        · have d3 : decide (S ≤ 64) = true := decide_eq_true h3
          have HE := Lib.hid (show great13B L S k = true by unfold great13B; simp only [hg, d1', d2, d3, Bool.or_false, Bool.false_or, Bool.and_true, Bool.true_or])
          clear hg h1 h2 h3
          go_enter Try.func15, Try.ntmps15
          go_wp2_with (go_at_call 27; (with_reducible refine (HG.out _).mono ?_); rintro e W1 ⟨rfl, b1⟩; (have B1 := Lib.hid (below_more B0.out (Nat.le_refl _) b1)); (have G1 := Lib.hid (G0.out.keep b1)); clear b1 x1 x2 x3; (obtain ⟨x1, x2, x3⟩ := id G1.out))
          go_ret
          exact ⟨by rw [HE.out]; try rfl, B1.out⟩
        · have d3 : decide (S ≤ 64) = false := decide_eq_false h3
          by_cases h4 : 8 < L
          · have d4 : decide (8 < L) = true := decide_eq_true h4
            by_cases h5 : L ≤ 256
            · have d5 : decide (L ≤ 256) = true := decide_eq_true h5
              have HE := Lib.hid (show great13B L S k = true by unfold great13B; simp only [hg, d1', d2, d3, d4, d5, Bool.or_false, Bool.false_or, Bool.and_true, Bool.and_false, Bool.true_or, Bool.false_and, Bool.true_and])
              clear hg h1 h4 h5 h2 h3
              go_enter Try.func15, Try.ntmps15
              go_wp2_with (go_at_call 27; (with_reducible refine (HG.out _).mono ?_); rintro e W1 ⟨rfl, b1⟩; (have B1 := Lib.hid (below_more B0.out (Nat.le_refl _) b1)); (have G1 := Lib.hid (G0.out.keep b1)); clear b1 x1 x2 x3; (obtain ⟨x1, x2, x3⟩ := id G1.out))
              go_ret
              exact ⟨by rw [HE.out]; try rfl, B1.out⟩
            · have d5 : decide (L ≤ 256) = false := decide_eq_false h5
              have HE := Lib.hid (show great13B L S k = false by unfold great13B; simp only [hg, d1', d2, d3, d4, d5, Bool.or_false, Bool.false_or, Bool.and_true, Bool.and_false, Bool.true_or, Bool.false_and, Bool.true_and])
              clear hg h1 h4 h5 h2 h3
              go_enter Try.func15, Try.ntmps15
              go_wp2_with (go_at_call 27; (with_reducible refine (HG.out _).mono ?_); rintro e W1 ⟨rfl, b1⟩; (have B1 := Lib.hid (below_more B0.out (Nat.le_refl _) b1)); (have G1 := Lib.hid (G0.out.keep b1)); clear b1 x1 x2 x3; (obtain ⟨x1, x2, x3⟩ := id G1.out))
              go_ret
              exact ⟨by rw [HE.out]; try rfl, B1.out⟩
          · have d4 : decide (8 < L) = false := decide_eq_false h4
            have HE := Lib.hid (show great13B L S k = false by unfold great13B; simp only [hg, d1', d2, d3, d4, Bool.or_false, Bool.false_or, Bool.and_true, Bool.and_false, Bool.true_or, Bool.false_and, Bool.true_and])
            clear hg h1 h4 h2 h3
            go_enter Try.func15, Try.ntmps15
            go_wp2_with (go_at_call 27; (with_reducible refine (HG.out _).mono ?_); rintro e W1 ⟨rfl, b1⟩; (have B1 := Lib.hid (below_more B0.out (Nat.le_refl _) b1)); (have G1 := Lib.hid (G0.out.keep b1)); clear b1 x1 x2 x3; (obtain ⟨x1, x2, x3⟩ := id G1.out))
            go_ret
            exact ⟨by rw [HE.out]; try rfl, B1.out⟩
      · have d2 : decide (6 < S) = false := decide_eq_false h2
        by_cases h4 : 8 < L
        · have d4 : decide (8 < L) = true := decide_eq_true h4
          by_cases h5 : L ≤ 256
          · have d5 : decide (L ≤ 256) = true := decide_eq_true h5
            have HE := Lib.hid (show great13B L S k = true by unfold great13B; simp only [hg, d1', d2, d4, d5, Bool.or_false, Bool.false_or, Bool.and_true, Bool.and_false, Bool.true_or, Bool.false_and, Bool.true_and])
            clear hg h1 h4 h5 h2
            go_enter Try.func15, Try.ntmps15
            go_wp2_with (go_at_call 27; (with_reducible refine (HG.out _).mono ?_); rintro e W1 ⟨rfl, b1⟩; (have B1 := Lib.hid (below_more B0.out (Nat.le_refl _) b1)); (have G1 := Lib.hid (G0.out.keep b1)); clear b1 x1 x2 x3; (obtain ⟨x1, x2, x3⟩ := id G1.out))
            go_ret
            exact ⟨by rw [HE.out]; try rfl, B1.out⟩
          · have d5 : decide (L ≤ 256) = false := decide_eq_false h5
            have HE := Lib.hid (show great13B L S k = false by unfold great13B; simp only [hg, d1', d2, d4, d5, Bool.or_false, Bool.false_or, Bool.and_true, Bool.and_false, Bool.true_or, Bool.false_and, Bool.true_and])
            clear hg h1 h4 h5 h2
            go_enter Try.func15, Try.ntmps15
            go_wp2_with (go_at_call 27; (with_reducible refine (HG.out _).mono ?_); rintro e W1 ⟨rfl, b1⟩; (have B1 := Lib.hid (below_more B0.out (Nat.le_refl _) b1)); (have G1 := Lib.hid (G0.out.keep b1)); clear b1 x1 x2 x3; (obtain ⟨x1, x2, x3⟩ := id G1.out))
            go_ret
            exact ⟨by rw [HE.out]; try rfl, B1.out⟩
        · have d4 : decide (8 < L) = false := decide_eq_false h4
          have HE := Lib.hid (show great13B L S k = false by unfold great13B; simp only [hg, d1', d2, d4, Bool.or_false, Bool.false_or, Bool.and_true, Bool.and_false, Bool.true_or, Bool.false_and, Bool.true_and])
          clear hg h1 h4 h2
          go_enter Try.func15, Try.ntmps15
          go_wp2_with (go_at_call 27; (with_reducible refine (HG.out _).mono ?_); rintro e W1 ⟨rfl, b1⟩; (have B1 := Lib.hid (below_more B0.out (Nat.le_refl _) b1)); (have G1 := Lib.hid (G0.out.keep b1)); clear b1 x1 x2 x3; (obtain ⟨x1, x2, x3⟩ := id G1.out))
          go_ret
          exact ⟨by rw [HE.out]; try rfl, B1.out⟩
  · rw [hg] at HG
    have HE := Lib.hid (show great13B L S k = true by unfold great13B; simp only [hg, Bool.true_or])
    clear hg
    go_enter Try.func15, Try.ntmps15
    go_wp2_with (go_at_call 27; (with_reducible refine (HG.out _).mono ?_); rintro e W1 ⟨rfl, b1⟩; (have B1 := Lib.hid (below_more B0.out (Nat.le_refl _) b1)); (have G1 := Lib.hid (G0.out.keep b1)); clear b1 x1 x2 x3; (obtain ⟨x1, x2, x3⟩ := id G1.out))
    go_ret
    exact ⟨by rw [HE.out]; try rfl, B1.out⟩
theorem great13_small {L S : Int} {k : Nat} (h : great13B L S k = false) : k ≤ 20 := by
  unfold great13B at h
  rw [Bool.or_eq_false_iff, Bool.or_eq_false_iff, Bool.or_eq_false_iff] at h
  have := of_decide_eq_false h.1.1.2
  omega
set_option maxRecDepth 100000 in
set_option maxHeartbeats 3200000 in
theorem idx1_any (La S : Int) (a : Option Addr) (k c p : Nat) (w : World) (h : BoxG w p La S (.slice a k c)) :
    Calls Try.prog 26 #[.slice (some ⟨p, 0, none⟩) 1 1, .func (.func 15) #[] #[]] w fun e w' => e = .returned (.int .i64 (if great13B La S k = true then 0 else -1)) ∧ Below w.heap.size w w' := by
  have hE : ∀ (args : Array Value) (w : World), (callFunc 15 args).run Try.prog w = .ok (.enter 15 args) w := fun args w => by
    simp [callFunc, go_sem, Try.func15, Try.f15]
  have H1 := Lib.hid (fun W => great13_any La S a k c W)
  obtain ⟨x1, x2, x3⟩ := id h
  clear h
  generalize great13B La S k = p1 at *
  cases p1
  · go_enter Try.func26, Try.ntmps26
    go_wp2_with fail
    refine wp_loop_rounds 2 ?_
    rw [rounds_succ]
    go_wp2_with (go_at_call 15; (with_reducible refine (H1.out _).mono ?_); rintro e W1 ⟨rfl, b1⟩; (have B1 := Lib.hid b1); clear b1 x1 x2 x3)
    rw [rounds_succ]
    go_wp2_with fail
    go_ret
    exact ⟨rfl, B1.out⟩
  · go_enter Try.func26, Try.ntmps26
    go_wp2_with fail
    refine wp_loop_rounds 1 ?_
    rw [rounds_succ]
    go_wp2_with (go_at_call 15; (with_reducible refine (H1.out _).mono ?_); rintro e W1 ⟨rfl, b1⟩; (have B1 := Lib.hid b1); clear b1 x1 x2 x3)
    go_ret
    exact ⟨rfl, B1.out⟩
set_option maxRecDepth 100000 in
set_option maxHeartbeats 3200000 in
theorem great1_any (La S : Int) (a : Option Addr) (k c p : Nat) (w : World) (h : BoxG w p La S (.slice a k c)) :
    Calls Try.prog 4 #[.slice (some ⟨p, 0, none⟩) 1 1] w fun e w' => e = .returned (.bool (great13B La S k)) ∧ Below w.heap.size w w' := by
  have HI := Lib.hid (idx1_any La S a k c p w h)
  have HC : Hid (Calls Try.prog 14 #[.slice (some ⟨p, 0, none⟩) 1 1, .func (.func 15) #[] #[]] w fun e w' => e = .returned (.bool (great13B La S k)) ∧ Below w.heap.size w w') := Lib.hid (by
    clear h
    generalize great13B La S k = p1 at *
    cases p1
    all_goals
      go_enter Try.func14, Try.ntmps14
      go_wp2_with (go_at_call 26; (with_reducible refine HI.out.mono ?_); rintro e W1 ⟨rfl, b1⟩; (have B1 := Lib.hid b1); clear b1)
      go_ret
      exact ⟨rfl, B1.out⟩)
  clear h HI
  go_enter Try.func4, Try.ntmps4
  go_wp2_with (go_at_call 14; (with_reducible refine HC.out.mono ?_); rintro e W1 ⟨rfl, b1⟩; (have B1 := Lib.hid b1); clear b1)
  go_ret
  exact ⟨rfl, B1.out⟩
theorem fw_uniq {a b : Nat → Nat → Nat} {na nb La s t : Nat} {x y : List Int} {ix iy : Bool} (h : FW (fun x y : Bool => x != y) a b na nb La s t x ix) (h1 : FW (fun x y : Bool => x != y) a b na nb La s t y iy) : x = y ∧ ix = iy := by
  rcases h with ⟨rfl, w, rfl, h2, h3, h4⟩ | ⟨rfl, rfl, h2⟩ <;> rcases h1 with ⟨rfl, w', rfl, h5, h6, h7⟩ | ⟨rfl, rfl, h5⟩
  · exact ⟨sle_antisymm (h4 w' h5 h6) (h7 w h2 h3), rfl⟩
  · rw [h5 w h2] at h3; cases h3
  · rw [h2 w' h5] at h6; cases h6
  · exact ⟨rfl, rfl⟩
theorem mrun_leJ {m : Nat → Nat → Nat} {n : Nat} (hm : ∀ x l, x ≤ n → m x l ≤ n) : ∀ (w : List Nat) {s : Nat}, s ≤ n → mrun m s w ≤ n
  | [], _, h => h
  | l :: w, s, h => by rw [mrun_cons]; exact mrun_leJ hm w (hm s l h)
theorem mrun_appJ (m : Nat → Nat → Nat) (s : Nat) (u v : List Nat) : mrun m s (u ++ v) = mrun m (mrun m s u) v := by unfold mrun; rw [List.foldl_append]
theorem fw_lenJ {D : Bool → Bool → Bool} {a b : Nat → Nat → Nat} {na nb La s t : Nat} {u : List Int} {is : Bool} (h : FW D a b na nb La s t u is) (ha : ∀ x l, x ≤ na → a x l ≤ na) (hb : ∀ x l, x ≤ nb → b x l ≤ nb) (hs : s ≤ na) (ht : t ≤ nb) : u.length ≤ (na + 1) * (nb + 1) := by
  rcases h with ⟨-, w, rfl, hw, hd, hle⟩ | ⟨-, rfl, -⟩
  · rw [labsI_lenH]
    have hA := fun v => mrun_leJ ha v hs
    have hB := fun v => mrun_leJ hb v ht
    obtain ⟨f, hf⟩ : ∃ f : Nat → Nat, ∀ i, f i = mrun b t (w.take i) + mrun a s (w.take i) * (nb + 1) := ⟨_, fun _ => rfl⟩
    by_cases hex : ∃ i j, i < j ∧ j ≤ w.length ∧ f i = f j
    · obtain ⟨i, j, hij, hj, he⟩ := hex
      rw [hf, hf] at he
      have e1 : mrun a s (w.take i) = mrun a s (w.take j) := by
        have := congrArg (· / (nb + 1)) he
        rwa [Nat.add_mul_div_right _ _ (Nat.succ_pos nb), Nat.add_mul_div_right _ _ (Nat.succ_pos nb), Nat.div_eq_of_lt (Nat.lt_succ_of_le (hB _)), Nat.div_eq_of_lt (Nat.lt_succ_of_le (hB _)), Nat.zero_add, Nat.zero_add] at this
      have e2 : mrun b t (w.take i) = mrun b t (w.take j) := by rw [e1] at he; exact Nat.add_right_cancel he
      have k1 : mrun a s (w.take i ++ w.drop j) = mrun a s w := by rw [mrun_appJ, e1, ← mrun_appJ, List.take_append_drop]
      have k2 : mrun b t (w.take i ++ w.drop j) = mrun b t w := by rw [mrun_appJ, e2, ← mrun_appJ, List.take_append_drop]
      have h3 := hle (w.take i ++ w.drop j) (fun l hl => hw l (by
        rcases List.mem_append.1 hl with h | h
        · exact List.mem_of_mem_take h
        · exact List.mem_of_mem_drop h)) (by unfold Dif at hd ⊢; rw [k1, k2]; exact hd)
      have h4 : (labsI w).length ≤ (labsI (w.take i ++ w.drop j)).length := by
        rcases h3 with h | ⟨h, -⟩ <;> omega
      rw [labsI_lenH, labsI_lenH, List.length_append, List.length_take, List.length_drop] at h4
      omega
    · have hnd : ((List.range (w.length + 1)).map f).Nodup := by
        unfold List.Nodup
        rw [List.pairwise_iff_getElem]
        intro i j hi hj hij
        rw [List.getElem_map, List.getElem_map, List.getElem_range, List.getElem_range]
        rw [List.length_map, List.length_range] at hj
        exact fun e => hex ⟨i, j, hij, by omega, e⟩
      have h5 := nodup_leH (m := List.range ((na + 1) * (nb + 1))) hnd (fun x hx => by
        obtain ⟨i, -, rfl⟩ := List.mem_map.1 hx
        rw [List.mem_range, hf]
        have h1 := hA (w.take i)
        have h2 := hB (w.take i)
        have h3 : (mrun a s (w.take i) + 1) * (nb + 1) ≤ (na + 1) * (nb + 1) := Nat.mul_le_mul_right _ (by omega)
        rw [Nat.add_mul] at h3
        omega)
      rw [List.length_map, List.length_range, List.length_range] at h5
      omega
  · exact Nat.zero_le _
/-- A list of numbers and an error's number. -/
def LOut (l : List Int) (z : Int) (w : World) (e : Ending) (w' : World) : Prop := ∃ a c, e = .returned (.tuple #[.slice a l.length c, .int .i64 z]) ∧ IntsRd w' (.slice a l.length c) l ∧ Below w.heap.size w w'
/-- A graph, a list of numbers and an error's number. -/
def MOut (L S : Int) (es : List E3) (l : List Int) (z : Int) (w : World) (e : Ending) (w' : World) : Prop := ∃ b d a c, e = .returned (.tuple #[grV L S (.slice b es.length d), .slice a l.length c, .int .i64 z]) ∧ EdgesRd w' (.slice b es.length d) es ∧ IntsRd w' (.slice a l.length c) l ∧ Below w.heap.size w w'
/-- A list of labels, whether there is one, and an error's number. -/
def SOut (u : List Int) (is : Bool) (z : Int) (w : World) (e : Ending) (w' : World) : Prop := ∃ a c, e = .returned (.tuple #[.slice a u.length c, .bool is, .int .i64 z]) ∧ IntsRd w' (.slice a u.length c) u ∧ Below w.heap.size w w'
theorem rd_nilJ (W : World) : EdgesRd W (.slice none 0 0) [] := ⟨none, 0, rfl, fun i e he => by simp at he⟩
set_option maxRecDepth 100000 in
set_option maxHeartbeats 12800000 in
/-- The law where little is examined, and both sides return the same. -/
theorem parts_walk (L S s t : Int) (es : List E3) (v : Value) (w : World) (hrd : EdgesRd w v es) (hg : great13B L S es.length = false)
    (L' S' : Int) (es' : List E3) (l l' : List Int) (z z' : Int) (hl : l.length ≤ 100000) (hl' : l'.length ≤ 100000) (hes : es'.length ≤ 1000) (z'' : Int)
    (hP : ∀ W, EdgesRd W v es → Calls Try.prog 6 #[grV L S v] W (LOut l z W))
    (hPR : ∀ W, EdgesRd W v es → Calls Try.prog 7 #[grV L S v] W (LOut l z W))
    (hM : ∀ W, EdgesRd W v es → Calls Try.prog 8 #[grV L S v] W (MOut L' S' es' l' z' W))
    (hMR : ∀ W, EdgesRd W v es → Calls Try.prog 9 #[grV L S v] W (MOut L' S' es' l' z' W))
    (F : List Int → Bool → Prop) (hF : ∀ x ix y iy, F x ix → F y iy → x = y ∧ ix = iy) (hFl : ∀ x ix, F x ix → x.length ≤ 100000)
    (hS : ∀ W, EdgesRd W v es → Calls Try.prog 10 #[grV L S v, .int .i64 s, .int .i64 t] W fun e W' => ∃ u is, F u is ∧ SOut u is z'' W e W')
    (hSR : ∀ W, EdgesRd W v es → Calls Try.prog 11 #[grV L S v, .int .i64 s, .int .i64 t] W fun e W' => ∃ u is, F u is ∧ SOut u is z'' W e W') :
    Calls Try.prog 3 #[grV L S v, .int .i64 s, .int .i64 t] w fun e w' => e = .returned (.bool true) ∧ Below w.heap.size w w' := by
  have HP := Lib.hid hP
  have HPR := Lib.hid hPR
  have HM := Lib.hid hM
  have HMR := Lib.hid hMR
  have HS := Lib.hid hS
  have HSR := Lib.hid hSR
  have HF := Lib.hid hF
  have HFL := Lib.hid hFl
  have HA := Lib.hid (fun W => awake13_any W)
  have HEQ : Hid (∀ W u u' (x : List Int), IntsRd W u x → IntsRd W u' x → x.length ≤ 100000 → Calls Try.prog 12 #[u, u'] W fun e W' => e = .returned (.bool true) ∧ Below W.heap.size W W') := Lib.hid (fun W u u' x h1 h2 h3 => by
    refine (intsEq_any h1 h2 (by omega) (by omega)).mono ?_
    rintro e W' ⟨rfl, h5⟩
    exact ⟨by rw [decide_eq_true rfl], h5⟩)
  have HSM : Hid (∀ W u u', EdgesRd W u es' → EdgesRd W u' es' → Calls Try.prog 13 #[grV L' S' u, grV L' S' u'] W fun e W' => e = .returned (.bool true) ∧ Below W.heap.size W W') := Lib.hid (fun W u u' h1 h2 => by
    have k := rsame_any L' S' L' S' es' es' u u' W h1 h2 (by omega) (by omega)
    rw [show sameG L' S' es' L' S' es' = true by unfold sameG; simp] at k
    exact k)
  have HRD := Lib.hid hrd
  obtain ⟨a, c, rfl⟩ := hrd.form
  have HG := Lib.hid (fun p W h => great1_any L S a es.length c p W h)
  rw [hg] at HG
  have hz1 : (z == z) = true := by simp
  have hz2 : (z' == z') = true := by simp
  have hz3 : (z'' == z'') = true := by simp
  have b0 := below1 w (.cells #[.int .i64 L, .int .i64 S, .slice a es.length c] 24)
  have G0 := Lib.hid (BoxG.new w L S (.slice a es.length c) 24)
  have B0 := Lib.hid b0
  have g00 := BoxG.new (w.alloc (.cells #[.int .i64 L, .int .i64 S, .slice a es.length c] 24)) L S (.slice a es.length c) 24
  rw [World.size_alloc] at g00
  have G00 := Lib.hid g00
  clear g00
  have b01 := below1 (w.alloc (.cells #[.int .i64 L, .int .i64 S, .slice a es.length c] 24)) (.cells #[.int .i64 L, .int .i64 S, .slice a es.length c] 24)
  have B01 := Lib.hid (below_more b0 (Nat.le_refl _) b01)
  have G01 := Lib.hid (G0.out.keep b01)
  obtain ⟨x1, x2, x3⟩ := id G0.out
  clear hrd hg b0 b01 hP hPR hM hMR hS hSR hF hFl
  go_enter Try.func3, Try.ntmps3
  go_upto_region 9 with (first
    | (go_at_call 4; (with_reducible refine (HG.out _ _ G00.out).mono ?_); rintro e W1 ⟨rfl, b1⟩; (have B1 := Lib.hid (B01.out.trans (b1.mono B01.out.size))); (have G1 := Lib.hid (G01.out.keep b1)); clear b1 x1 x2 x3; (obtain ⟨x1, x2, x3⟩ := id G1.out))
    | (go_at_call 6; (with_reducible refine (HP.out _ (HRD.out.keep B1.out)).mono ?_); rintro e W2 ⟨a2, c2, rfl, i2, b2⟩; (have B2 := Lib.hid (B1.out.trans (b2.mono B1.out.size))); (have G2 := Lib.hid (G1.out.keep b2)); (have I2 := Lib.hid i2); clear b2 i2 x1 x2 x3; (obtain ⟨x1, x2, x3⟩ := id G2.out))
    | (go_at_call 7; (with_reducible refine (HPR.out _ (HRD.out.keep B2.out)).mono ?_); rintro e W3 ⟨a3, c3, rfl, i3, b3⟩; (have B3 := Lib.hid (B2.out.trans (b3.mono B2.out.size))); (have G3 := Lib.hid (G2.out.keep b3)); (have I3 := Lib.hid i3); (have I2b := Lib.hid (I2.out.keep b3)); clear b3 i3 x1 x2 x3; (obtain ⟨x1, x2, x3⟩ := id G3.out))
    | (go_at_call 8; (with_reducible refine (HM.out _ (HRD.out.keep B3.out)).mono ?_); rintro e W4 ⟨b4, d4, a4, c4, rfl, e4, i4, q4⟩; (have B4 := Lib.hid (B3.out.trans (q4.mono B3.out.size))); (have G4 := Lib.hid (G3.out.keep q4)); (have I4 := Lib.hid i4); (have E4 := Lib.hid e4); (have I3b := Lib.hid (I3.out.keep q4)); (have I2c := Lib.hid (I2b.out.keep q4)); (have nb5 := below1 W4 (.cells #[.int .i64 L', .int .i64 S', .slice b4 es'.length d4] 24)); clear q4 i4 e4 x1 x2 x3; (obtain ⟨x1, x2, x3⟩ := G4.out.keep nb5))
    | (go_at_call 9; ((have B5a := Lib.hid (B4.out.trans (nb5.mono B4.out.size))); (with_reducible refine (HMR.out _ (HRD.out.keep B5a.out)).mono ?_)); rintro e W5 ⟨b5, d5, a5, c5, rfl, e5, i5, q5⟩; (have B5 := Lib.hid (B5a.out.trans (q5.mono B5a.out.size))); (have Y5 := Lib.hid ((BoxG.new W4 L' S' (.slice b4 es'.length d4) 24).keep q5)); (have G5 := Lib.hid ((G4.out.keep nb5).keep q5)); (have I5 := Lib.hid i5); (have E5 := Lib.hid e5); (have E4b := Lib.hid ((E4.out.keep nb5).keep q5)); (have I4b := Lib.hid ((I4.out.keep nb5).keep q5)); (have I3c := Lib.hid ((I3b.out.keep nb5).keep q5)); (have I2d := Lib.hid ((I2c.out.keep nb5).keep q5)); (have nb6 := below1 W5 (.cells #[.int .i64 L', .int .i64 S', .slice b5 es'.length d5] 24)); clear q5 i5 e5 nb5 x1 x2 x3; (obtain ⟨x1, x2, x3⟩ := G5.out.keep nb6))
    | (go_at_call 10; ((have B6a := Lib.hid (B5.out.trans (nb6.mono B5.out.size))); (with_reducible refine (HS.out _ (HRD.out.keep B6a.out)).mono ?_)); rintro e W6 ⟨u6, is6, f6, a6, c6, rfl, i6, q6⟩; (have F6 := Lib.hid f6); (have B6 := Lib.hid (B6a.out.trans (q6.mono B6a.out.size))); (have Z6 := Lib.hid ((BoxG.new W5 L' S' (.slice b5 es'.length d5) 24).keep q6)); (have Y6 := Lib.hid ((Y5.out.keep nb6).keep q6)); (have G6 := Lib.hid ((G5.out.keep nb6).keep q6)); (have I6 := Lib.hid i6); (have E5b := Lib.hid ((E5.out.keep nb6).keep q6)); (have E4c := Lib.hid ((E4b.out.keep nb6).keep q6)); (have I5b := Lib.hid ((I5.out.keep nb6).keep q6)); (have I4c := Lib.hid ((I4b.out.keep nb6).keep q6)); (have I3d := Lib.hid ((I3c.out.keep nb6).keep q6)); (have I2e := Lib.hid ((I2d.out.keep nb6).keep q6)); clear q6 i6 f6 nb6 x1 x2 x3; (obtain ⟨x1, x2, x3⟩ := id G6.out))
    | (go_at_call 11; (with_reducible refine (HSR.out _ (HRD.out.keep B6.out)).mono ?_); rintro e W7 ⟨u7, is7, f7, a7, c7, rfl, i7, q7⟩; (have F7 := Lib.hid f7); (have B7 := Lib.hid (B6.out.trans (q7.mono B6.out.size))); (have Z7 := Lib.hid (Z6.out.keep q7)); (have Y7 := Lib.hid (Y6.out.keep q7)); (have I7 := Lib.hid i7); (have I6b := Lib.hid (I6.out.keep q7)); (have E5c := Lib.hid (E5b.out.keep q7)); (have E4d := Lib.hid (E4c.out.keep q7)); (have I5c := Lib.hid (I5b.out.keep q7)); (have I4d := Lib.hid (I4c.out.keep q7)); (have I3e := Lib.hid (I3d.out.keep q7)); (have I2f := Lib.hid (I2e.out.keep q7)); clear q7 i7 f7 x1 x2 x3))
  obtain ⟨e1, e2⟩ := HF.out _ _ _ _ F6.out F7.out
  have hul := HFL.out _ _ F6.out
  subst e1
  subst e2
  have hb1 : (is6 == is6) = true := by simp
  obtain ⟨z1, z2, z3⟩ := id Z7.out
  obtain ⟨y1, y2, y3⟩ := id Y7.out
  have R7 := Lib.hid (Below.refl W7.heap.size W7)
  clear HP HPR HM HMR HS HSR HF HFL
  go_wp2_with (first
    | (go_at_call 12; (with_reducible refine (HEQ.out _ _ _ _ (I2f.out.keep R7.out) (I3e.out.keep R7.out) hl).mono ?_); rintro e W8 ⟨rfl, q8⟩; (have R8 := Lib.hid (R7.out.trans (q8.mono R7.out.size))); clear q8 y1 y2 y3 z1 z2 z3; (obtain ⟨z1, z2, z3⟩ := Z7.out.keep R8.out); (obtain ⟨y1, y2, y3⟩ := Y7.out.keep R8.out))
    | (go_at_call 13; (with_reducible refine (HSM.out _ _ _ (E4d.out.keep R8.out) (E5c.out.keep R8.out)).mono ?_); rintro e W9 ⟨rfl, q9⟩; (have R9 := Lib.hid (R8.out.trans (q9.mono R8.out.size))); clear q9 y1 y2 y3 z1 z2 z3)
    | (go_at_call 12; (with_reducible refine (HEQ.out _ _ _ _ (I4d.out.keep R9.out) (I5c.out.keep R9.out) hl').mono ?_); rintro e W10 ⟨rfl, q10⟩; (have R10 := Lib.hid (R9.out.trans (q10.mono R9.out.size))); clear q10)
    | (go_at_call 12; (with_reducible refine (HEQ.out _ _ _ _ (I6b.out.keep R10.out) (I7.out.keep R10.out) hul).mono ?_); rintro e W11 ⟨rfl, q11⟩; (have R11 := Lib.hid (R10.out.trans (q11.mono R10.out.size))); clear q11)
    | (go_at_call 5; (with_reducible refine (HA.out _).mono ?_); rintro e W12 ⟨rfl, q12⟩; (have R12 := Lib.hid (R11.out.trans (q12.mono R11.out.size))); clear q12))
  go_ret
  exact ⟨rfl, B7.out.trans (R12.out.mono B7.out.size)⟩
set_option maxRecDepth 100000 in
set_option maxHeartbeats 3200000 in
theorem parts_great (L S s t : Int) (es : List E3) (v : Value) (w : World) (hrd : EdgesRd w v es) (hg : great13B L S es.length = true) :
    Calls Try.prog 3 #[grV L S v, .int .i64 s, .int .i64 t] w fun e w' => e = .returned (.bool true) ∧ Below w.heap.size w w' := by
  have HA := Lib.hid (fun W => awake13_any W)
  obtain ⟨a, c, rfl⟩ := hrd.form
  have HG := Lib.hid (fun p W h => great1_any L S a es.length c p W h)
  rw [hg] at HG
  have b0 := below1 w (.cells #[.int .i64 L, .int .i64 S, .slice a es.length c] 24)
  have G0 := Lib.hid (BoxG.new w L S (.slice a es.length c) 24)
  have g00 := BoxG.new (w.alloc (.cells #[.int .i64 L, .int .i64 S, .slice a es.length c] 24)) L S (.slice a es.length c) 24
  rw [World.size_alloc] at g00
  have G00 := Lib.hid g00
  clear g00
  have b01 := below1 (w.alloc (.cells #[.int .i64 L, .int .i64 S, .slice a es.length c] 24)) (.cells #[.int .i64 L, .int .i64 S, .slice a es.length c] 24)
  have B01 := Lib.hid (below_more b0 (Nat.le_refl _) b01)
  obtain ⟨x1, x2, x3⟩ := id G0.out
  clear hrd hg b0 b01
  go_enter Try.func3, Try.ntmps3
  go_wp2_with (first
    | (go_at_call 4; (with_reducible refine (HG.out _ _ G00.out).mono ?_); rintro e W1 ⟨rfl, b1⟩; (have B1 := Lib.hid (B01.out.trans (b1.mono B01.out.size))); clear b1 x1 x2 x3)
    | (go_at_call 5; (with_reducible refine (HA.out _).mono ?_); rintro e W2 ⟨rfl, b2⟩; (have B2 := Lib.hid (B1.out.trans (b2.mono B1.out.size))); clear b2))
  go_ret
  exact ⟨rfl, B2.out⟩
/-- The law, for every input. -/
theorem parts_any (L S s t : Int) (es : List E3) (v : Value) (w : World) (hrd : EdgesRd w v es) (hn : es.length ≤ 9223372036854775807) :
    Calls Try.prog 3 #[grV L S v, .int .i64 s, .int .i64 t] w fun e w' => e = .returned (.bool true) ∧ Below w.heap.size w w' := by
  cases hg : great13B L S es.length with
  | true => exact parts_great L S s t es v w hrd hg
  | false =>
    have hes := great13_small hg
    obtain ⟨z, hz⟩ : ∃ z, cdR L S es = z := ⟨_, rfl⟩
    by_cases h0 : z = 0
    · subst h0
      obtain ⟨hvg, hd⟩ := cdR_zero hz
      obtain ⟨La, rfl⟩ : ∃ La : Nat, L = (La : Int) := ⟨L.toNat, by have := hvg.l1; omega⟩
      obtain ⟨n, rfl⟩ : ∃ n : Nat, S = (n : Int) := ⟨S.toNat, by have := hvg.s1; omega⟩
      have hL1 : 1 ≤ La := by have := hvg.l1; omega
      have hn64 : n ≤ 64 := by have := hvg.s2; omega
      obtain ⟨cs, hcs⟩ : ∃ cs, classN (mT n es) La n = cs := ⟨_, rfl⟩
      have hcl : (labsI cs).length = n := by rw [labsI_lenH, ← hcs]; exact classN_len _ _ _ hL1
      have hml : (mkE (mgE es cs)).length ≤ 1000 := by
        have h1 := mkE_len (mgE es cs)
        rw [mgE_len] at h1
        omega
      have hmle : ∀ x l, x ≤ n → mT n es x l ≤ n := fun x l _ => mT_le hvg.ok x l
      have hP : ∀ W, EdgesRd W v es → Calls Try.prog 6 #[grV (La : Int) (n : Int) v] W (LOut (labsI cs) 0 W) := fun W h => by
        refine (part_yes La n es v W h hvg hd).mono ?_
        rw [hcs]
        rintro e W' ⟨g, c, rfl, -, h1, h2⟩
        exact ⟨_, c, by rw [hcl], by rw [hcl]; exact h1, h2⟩
      have hPR : ∀ W, EdgesRd W v es → Calls Try.prog 7 #[grV (La : Int) (n : Int) v] W (LOut (labsI cs) 0 W) := fun W h => by
        refine (rpart_yes La n es v W h hvg hd).mono ?_
        rw [hcs]
        rintro e W' ⟨g, rfl, -, h1, h2⟩
        exact ⟨_, n, by rw [hcl], by rw [hcl]; exact h1, h2⟩
      have hM : ∀ W, EdgesRd W v es → Calls Try.prog 8 #[grV (La : Int) (n : Int) v] W (MOut (La : Int) ((numC cs : Nat) : Int) (mkE (mgE es cs)) (labsI cs) 0 W) := fun W h => by
        refine (merge_yes La n es v W cs hcs h hvg hd).mono ?_
        rintro e W' ⟨v', g, c, rfl, h1, h2, h3⟩
        obtain ⟨b, d, rfl⟩ := h1.slice
        exact ⟨b, d, _, c, by rw [hcl], h1.rd, by rw [hcl]; exact h2, h3⟩
      have hMR : ∀ W, EdgesRd W v es → Calls Try.prog 9 #[grV (La : Int) (n : Int) v] W (MOut (La : Int) ((numC cs : Nat) : Int) (mkE (mgE es cs)) (labsI cs) 0 W) := fun W h => by
        refine (rmerge_yes La n es v W cs hcs h hvg hd (by omega)).mono ?_
        rintro e W' ⟨v', g, rfl, h1, h2, h3⟩
        obtain ⟨b, d, rfl⟩ := h1.slice
        exact ⟨b, d, _, n, by rw [hcl], h1.rd, by rw [hcl]; exact h2, h3⟩
      by_cases hst : 0 ≤ s ∧ s < (n : Int) ∧ 0 ≤ t ∧ t < (n : Int)
      · obtain ⟨s, rfl⟩ : ∃ m : Nat, s = (m : Int) := ⟨s.toNat, by omega⟩
        obtain ⟨t, rfl⟩ : ∃ m : Nat, t = (m : Int) := ⟨t.toNat, by omega⟩
        refine parts_walk (La : Int) (n : Int) s t es v w hrd hg _ _ _ _ _ 0 0 (by omega) (by omega) hml 0 hP hPR hM hMR (fun u is => FW (fun x y : Bool => x != y) (mT n es) (mT n es) n n La s t u is) (fun x ix y iy h1 h2 => fw_uniq h1 h2) (fun x ix h => ?_) (fun W h => ?_) (fun W h => ?_)
        · have h1 := fw_lenJ h hmle hmle (by omega) (by omega)
          have h2 : (n + 1) * (n + 1) ≤ 65 * 65 := Nat.mul_le_mul (by omega) (by omega)
          omega
        · refine (sep_yes La n s t es v W h hvg hd (by omega) (by omega)).mono ?_
          rintro e W' ⟨g, c, u, is, rfl, h1, h2, h3⟩
          exact ⟨u, is, h2, g, c, rfl, h1, h3⟩
        · refine (rsep_yes La n s t es v W h hvg hd (by omega) (by omega)).mono ?_
          rintro e W' ⟨g, c, u, is, rfl, h1, h2, h3⟩
          exact ⟨u, is, h2, g, c, rfl, h1, h3⟩
      · refine parts_walk (La : Int) (n : Int) s t es v w hrd hg _ _ _ _ _ 0 0 (by omega) (by omega) hml 25 hP hPR hM hMR (fun u is => u = [] ∧ is = false) (fun x ix y iy h1 h2 => ⟨h1.1.trans h2.1.symm, h1.2.trans h2.2.symm⟩) (fun x ix h => by rw [h.1]; exact Nat.zero_le _) (fun W h => ?_) (fun W h => ?_)
        · refine (sep_bad (La : Int) (n : Int) s t es v W h hn hz hst).mono ?_
          rintro e W' ⟨rfl, h1⟩
          exact ⟨[], false, ⟨rfl, rfl⟩, none, 0, rfl, (ints_nil _ 0).rd, h1⟩
        · refine (rsep_bad (La : Int) (n : Int) s t es v W h hn hz hst).mono ?_
          rintro e W' ⟨rfl, h1⟩
          exact ⟨[], false, ⟨rfl, rfl⟩, none, 0, rfl, (ints_nil _ 0).rd, h1⟩
    · refine parts_walk L S s t es v w hrd hg 0 0 [] [] [] z z (Nat.zero_le _) (Nat.zero_le _) (Nat.zero_le _) z (fun W h => ?_) (fun W h => ?_) (fun W h => ?_) (fun W h => ?_) (fun u is => u = [] ∧ is = false) (fun x ix y iy h1 h2 => ⟨h1.1.trans h2.1.symm, h1.2.trans h2.2.symm⟩) (fun x ix h => by rw [h.1]; exact Nat.zero_le _) (fun W h => ?_) (fun W h => ?_)
      · refine (part_no L S z es v W h hn hz h0).mono ?_
        rintro e W' ⟨rfl, h1⟩
        exact ⟨none, 0, rfl, (ints_nil _ 0).rd, h1⟩
      · refine (rpart_no L S z es v W h hn hz h0).mono ?_
        rintro e W' ⟨rfl, h1⟩
        exact ⟨none, 0, rfl, (ints_nil _ 0).rd, h1⟩
      · refine (merge_no L S z es v W h hn hz h0).mono ?_
        rintro e W' ⟨rfl, h1⟩
        exact ⟨none, 0, none, 0, rfl, rd_nilJ _, (ints_nil _ 0).rd, h1⟩
      · refine (rmerge_no L S z es v W h hn hz h0).mono ?_
        rintro e W' ⟨rfl, h1⟩
        exact ⟨none, 0, none, 0, rfl, rd_nilJ _, (ints_nil _ 0).rd, h1⟩
      · refine (sep_no L S z s t es v W h hn hz h0).mono ?_
        rintro e W' ⟨rfl, h1⟩
        exact ⟨[], false, ⟨rfl, rfl⟩, none, 0, rfl, (ints_nil _ 0).rd, h1⟩
      · refine (rsep_no L S z s t es v W h hn hz h0).mono ?_
        rintro e W' ⟨rfl, h1⟩
        exact ⟨[], false, ⟨rfl, rfl⟩, none, 0, rfl, (ints_nil _ 0).rd, h1⟩
end Go.Proofs.Ytbgfllohedhmaaa

namespace Go.Proofs.Ytbgfllohedhmaaa.minimalParts
open Go.ChangeShapes Go.WideShapes Go.ChangeAt Go.RowKit
open Go.ChangeMaps (open_string shut_string)
set_option maxRecDepth 100000
set_option linter.unusedVariables false

theorem contract (H : Type) (enc : TypeId × Value → H) (W : World) (args : Array Value) (ds gs : List (DataW H)) (before : List MemPlace)
    (hval : ∀ (j : Nat) t v, Try.f3.params[j]? = some t → args[j]? = some v → Value.okWide Try.prog W .any 0 t v)
    (hW : DataW.Whole enc Try.prog Try.f3.params.toList Rows.minimalPartsSpec.vars false W args.toList ds gs before) :
    Calls Try.prog 3 args W fun e W' => ∃ v, e = .returned v ∧ Rows.minimalPartsSpec.post enc Try.prog Try.f3 false true false false W args v W' := by
  have hW' := hW
  obtain ⟨p, q, hA0, hV, rfl, hfz, hnd⟩ := hW
  have hA : DataW.TrodAll enc Try.prog W 0 (fun _ => true) true Try.f3.params.toList args.toList ds p := hA0
  rw [Try.params3] at hA hval
  obtain ⟨v0, vs0, d0, ds0, p0, q0, hargs, rfl, rfl, h0, r0⟩ := trodAll_cons hA
  obtain ⟨v1, vs1, d1, ds1, p1, q1, rfl, rfl, rfl, h1, r1⟩ := trodAll_cons r0
  obtain ⟨v2, vs2, d2, ds2, p2, q2, rfl, rfl, rfl, h2, r2⟩ := trodAll_cons r1
  obtain ⟨rfl, rfl, rfl⟩ := trodAll_nil r2
  obtain rfl : args = #[v0, v1, v2] := by cases args; simp_all
  obtain ⟨rfl, rfl⟩ := trodVars_none hV
  obtain ⟨L0, S0, u0, es0, rfl, k0, l0⟩ := graph_open (hval 0 24 v0 rfl rfl) h0
  have t0 : ∀ x ∈ p0, x.block < W.heap.size := fun x hx => by simpa using hW'.lt x (by simp [hx])
  obtain ⟨n1, rfl, rfl, rfl, w1⟩ := open_int Try.underlying3 (hval 1 3 v1 rfl rfl) h1
  have b1 : (IntKind.min .i64) ≤ n1 ∧ n1 ≤ (IntKind.max .i64) := by simpa [Lit.wf] using w1
  simp [IntKind.min, IntKind.max, IntKind.signed, IntKind.bits] at b1
  obtain ⟨n2, rfl, rfl, rfl, w2⟩ := open_int Try.underlying3 (hval 2 3 v2 rfl rfl) h2
  have b2 : (IntKind.min .i64) ≤ n2 ∧ n2 ≤ (IntKind.max .i64) := by simpa [Lit.wf] using w2
  simp [IntKind.min, IntKind.max, IntKind.signed, IntKind.bits] at b2
  clear hA0
  refine (parts_any L0 S0 n1 n2 es0 u0 W k0 l0).mono fun e W' ⟨he, hb⟩ => ?_
  subst he
  refine ⟨_, rfl, _, _, _, [], (p0 ++ (([] : List MemPlace) ++ (([] : List MemPlace) ++ []))), [], hW', ?_, ?_, ?_, hb.frame _, fun h => by cases h⟩
  · exact trodAll_cons_mk (p := []) (shut_bool Try.underlying4 true) trodAll_mk0
  · exact (trodAll_cons_mk (graph_keep h0 hb t0) (trodAll_cons_mk (p := []) (shut_int Try.underlying3 w1) (trodAll_cons_mk (p := []) (shut_int Try.underlying3 w2) trodAll_mk0)))
  · rfl

set_option maxRecDepth 100000 in
theorem lifted (os : Os) (started : os.Started) (H : Type) (enc : TypeId × Value → H) :
    ReturnsInHanded {} Try.checked os 3 .any (Rows.minimalPartsSpec.pre6 enc Try.prog Try.f3 Rows.minimalPartsRow.domain false) (Rows.minimalPartsSpec.post enc Try.prog Try.f3 false true false false) := by
  refine returnsInHanded_of_change (C := Try.checked) ownNone started (by kernel_rfl) Try.func3
    (ChangeSpec.witness6 (enc := enc) (C := Try.checked) false ⟨#[], #[.agg #[.int .i64 0, .int .i64 0, .slice none 0 0], .int .i64 0, .int .i64 0], []⟩ 8 (by kernel_rfl) (by kernel_rfl) (by kernel_rfl) (by kernel_rfl)) ?_
  intro W base args ds gs before hval hW hcnd _
  exact contract H enc W args ds gs before hval hW

/-- MinimalParts. -/
theorem said : Rows.MinimalPartsSaid :=
  OpenClaim.holds_of_wide 3 Try.f3 rfl rfl rfl rfl rfl rfl rfl ⟨rfl, rfl, rfl, rfl, rfl⟩ rfl rfl rfl rfl rfl (by kernel_rfl) Try.func3 (by kernel_rfl)
    (of_decide_eq_true (by kernel_rfl)) (by unfold Func.isWrapper; first | (rw [if_pos (by decide +kernel)]; kernel_rfl) | (rw [if_neg (by decide +kernel)]; exact ⟨rfl, rfl⟩))
    (fun os started H enc _ => lifted os started H enc)
end Go.Proofs.Ytbgfllohedhmaaa.minimalParts
