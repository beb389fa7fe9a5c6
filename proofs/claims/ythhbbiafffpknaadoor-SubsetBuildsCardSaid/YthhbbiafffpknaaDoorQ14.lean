/- What subset.Build and From return. Conditions: the edges can be read; the library's table reads as its text lays it. Plain facts on how sets were found: the first edge to a set comes from one that was found before; the labels that lead to a set. No condition. What slices.IndexFunc returns at the functions of subset.Focus and labelsTo, what labelsTo returns. Conditions: all can be read; the first edge to a set comes from one before. -/
import Derived.Test.YthhbbiafffpknaaDoorQ13
import Derived.Test.YthhbbiafffpknaaDoorQ05
import Derived.Laws.IdiomCopy
import Derived.Lib.LazyBuf

namespace Go.Proofs.YthhbbiafffpknaaDoor
open Go.RowKit Go.Maps
set_option linter.unusedSimpArgs false
set_option linter.unusedVariables false

theorem asc_ext : ∀ {l m : List Int}, l.Pairwise (· < ·) → m.Pairwise (· < ·) → (∀ x, x ∈ l ↔ x ∈ m) → l = m
  | [], [], _, _, _ => rfl
  | [], b :: m, _, _, h => by have := (h b).2 (by simp); cases this
  | a :: l, [], _, _, h => by have := (h a).1 (by simp); cases this
  | a :: l, b :: m, h1, h2, h => by
    rw [List.pairwise_cons] at h1 h2
    have e : a = b := by
      have ha := (h a).1 (by simp)
      have hb := (h b).2 (by simp)
      rw [List.mem_cons] at ha hb
      rcases ha with ha | ha
      · exact ha
      · rcases hb with hb | hb
        · exact hb.symm
        · have := h1.1 b hb; have := h2.1 a ha; omega
    subst e
    rw [asc_ext h1.2 h2.2 (fun x => ⟨fun hx => by
      have := (h x).1 (by simp [hx])
      rw [List.mem_cons] at this
      rcases this with rfl | this
      · have := h1.1 x hx; omega
      · exact this, fun hx => by
      have := (h x).2 (by simp [hx])
      rw [List.mem_cons] at this
      rcases this with rfl | this
      · have := h2.1 x hx; omega
      · exact this⟩)]
theorem ofN_bit {l : List Int} (h : ∀ s ∈ l, 0 ≤ s ∧ s < 64) (i : Nat) : (ofN l).testBit i = decide ((i : Int) ∈ l) := by
  have : ∀ (k : Nat), (ofN (l.take k)).testBit i = decide ((i : Int) ∈ l.take k) := by
    intro k
    induction k with
    | zero => rw [List.take_zero]; simp [ofN]
    | succ k ih =>
      cases hx : l[k]? with
      | none =>
        have hl := List.getElem?_eq_none_iff.1 hx
        have e : l.take (k + 1) = l.take k := by rw [List.take_of_length_le (by omega), List.take_of_length_le hl]
        rw [e]; exact ih
      | some x =>
        have hxx := h x (List.mem_of_getElem? hx)
        rw [take_snoc hx, ofN_snoc, Nat.testBit_or, ih, Nat.testBit_two_pow]
        rw [Bool.eq_iff_iff]
        simp only [Bool.or_eq_true, decide_eq_true_iff, List.mem_append, List.mem_singleton]
        constructor
        · rintro (h1 | h1)
          · exact .inl h1
          · exact .inr (by omega)
        · rintro (h1 | h1)
          · exact .inl h1
          · exact .inr (by omega)
  have h2 := this l.length
  rwa [List.take_length] at h2
theorem ofN_lt64 {l : List Int} (h : ∀ s ∈ l, 0 ≤ s ∧ s < 64) : ofN l < 18446744073709551616 := by
  have := ofN_lt l l.length h
  rwa [List.take_length] at this
theorem memN_asc (S : Nat) : (memN S).Pairwise (· < ·) := mems_asc _ _
theorem memN_ofN {n : Nat} {l : List Int} (h : SG (n : Int) l) (hn : n ≤ 64) : memN (ofN l) = l := by
  have hb : ∀ s ∈ l, 0 ≤ s ∧ s < 64 := fun s hs => by have := h.bd s hs; omega
  refine asc_ext (memN_asc _) h.asc (fun x => ?_)
  constructor
  · intro hx
    obtain ⟨i, rfl, hi, h2⟩ := mems_mem.1 hx
    rw [ofN_bit hb, decide_eq_true_iff] at h2
    exact h2
  · intro hx
    obtain ⟨h1, h2⟩ := h.bd x hx
    obtain ⟨i, rfl⟩ : ∃ i : Nat, x = (i : Int) := ⟨x.toNat, by omega⟩
    rw [memN_mem (ofN_lt64 hb), ofN_bit hb]
    exact decide_eq_true hx
theorem ofN_ne {l : List Int} (h : ∀ s ∈ l, 0 ≤ s ∧ s < 64) (hl : l ≠ []) : ofN l ≠ 0 := by
  obtain ⟨a, r, rfl⟩ := List.exists_cons_of_ne_nil hl
  intro e
  have h0 := h a (by simp)
  have h1 := ofN_bit h a.toNat
  rw [e, Nat.zero_testBit] at h1
  have h2 : ((a.toNat : Nat) : Int) ∈ a :: r := by rw [show ((a.toNat : Nat) : Int) = a by omega]; simp
  rw [decide_eq_true h2] at h1
  cases h1
theorem ofN_small {n : Nat} {l : List Int} (h : SG (n : Int) l) (hn : n ≤ 64) : ∀ i, (ofN l).testBit i = true → i < n := fun i hi => by
  rw [ofN_bit (fun s hs => by have := h.bd s hs; omega), decide_eq_true_iff] at hi
  have := h.bd _ hi
  omega
theorem fullN_ne {n : Nat} (h : n ≠ 0) : fullN n ≠ 0 := fun e => by
  have h1 := fullN_bit n 0
  rw [e, Nat.zero_testBit, decide_eq_true (by omega)] at h1
  cases h1
theorem fullN_small (n : Nat) : ∀ i, (fullN n).testBit i = true → i < n := fun i hi => by rw [fullN_bit, decide_eq_true_iff] at hi; exact hi
/-- What Build and From return. -/
def buildR (La S : Int) (es : List E3) : Int × Bs :=
  if chkG La S es = 0 then (if S = 0 then (0, ([], [])) else (bErr (builtN es La.toNat (fullN S.toNat)), bSets (builtN es La.toNat (fullN S.toNat)))) else (1, ([], []))
def fromR (La S : Int) (es : List E3) (set : List Int) : Int × Bs :=
  if chkG La S es = 0 then (if chkS S none set = 0 then (if set = [] then (5, ([], [])) else (bErr (builtN es La.toNat (ofN set)), bSets (builtN es La.toNat (ofN set)))) else (chkS S none set, ([], []))) else (1, ([], []))
def SG3 (p : Nat) (x y : Int) (z : Value) (W : World) : Prop := W.cell? ⟨p, 0, none⟩ = some (.int .i64 x) ∧ W.cell? ⟨p, 1, none⟩ = some (.int .i64 y) ∧ W.cell? ⟨p, 2, none⟩ = some z
theorem SG3.keep5 {p : Nat} {x y : Int} {z : Value} {W W' : World} (h : SG3 p x y z W) (hb : Below W.heap.size W W') : SG3 p x y z W' := ⟨cell_keep h.1 hb, cell_keep h.2.1 hb, cell_keep h.2.2 hb⟩
theorem SG3.far {p b : Nat} {x y : Int} {z : Value} {W : World} (h : SG3 p x y z W) (hb : b ≠ p) (x1 x2 x3 : Value) : SG3 p x y z (((W.setCell ⟨b, 0, none⟩ x1).setCell ⟨b, 1, none⟩ x2).setCell ⟨b, 2, none⟩ x3) := by
  have f : ∀ (o : Nat), (((W.setCell ⟨b, 0, none⟩ x1).setCell ⟨b, 1, none⟩ x2).setCell ⟨b, 2, none⟩ x3).cell? ⟨p, o, none⟩ = W.cell? ⟨p, o, none⟩ := fun o => by
    rw [World.cell?_setCell_far _ _ _ _ (by exact hb), World.cell?_setCell_far _ _ _ _ (by exact hb), World.cell?_setCell_far _ _ _ _ (by exact hb)]
  exact ⟨(f 0).trans h.1, (f 1).trans h.2.1, (f 2).trans h.2.2⟩
/-- The graph's variable and the result's. -/
theorem two_boxes (w : World) (La S : Int) (v : Value) : let W := (w.alloc (.cells #[.int .i64 La, .int .i64 S, v] 24)).alloc (.cells #[.int .i64 0, .int .i64 0, .slice none 0 0] 24)
    BoxG W w.heap.size La S v ∧ GBox W (w.heap.size + 1) (.int .i64 0) (.int .i64 0) (.slice none 0 0) ∧ Below w.heap.size w W ∧ W.heap.size = w.heap.size + 2 := by
  intro W
  refine ⟨(BoxG.new w La S v 24).keep (below1 _ _), ?_, below_more (below1 w _) (Nat.le_refl _) (below1 _ _), by show (World.alloc _ _).heap.size = _; rw [World.size_alloc, World.size_alloc]⟩
  have h := GBox.new (w.alloc (.cells #[.int .i64 La, .int .i64 S, v] 24)) (.int .i64 0) (.int .i64 0) (.slice none 0 0)
  rw [World.size_alloc] at h
  exact h
set_option maxRecDepth 100000 in
set_option maxHeartbeats 6400000 in
theorem Build_any (La S : Int) (es : List E3) (v : Value) (w : World) (hrd : EdgesRd w v es) (hn : es.length ≤ 9223372036854775807) (hT : TabD w) :
    Calls Tryd.prog 6 #[grV La S v] w (SetsOut w La (buildR La S es).1 (buildR La S es).2) := by
  have hmx : Tryd.prog.follows .mixedOrders = true := by kernel_rfl
  obtain ⟨hbx, hgx, hbb, hsz⟩ := two_boxes w La S v
  have HCH := Lib.hid (gcheck_any La S es v _ (hrd.keep hbb) hn)
  have HBX := Lib.hid hbx
  have HGX := Lib.hid hgx
  have HBB := Lib.hid hbb
  obtain ⟨x1, x2, x3⟩ := id hbx
  by_cases h0 : chkG La S es = 0
  · have hvg := chkG_zero h0
    obtain ⟨n, rfl⟩ : ∃ n : Nat, S = (n : Int) := ⟨S.toNat, by have := hvg.s1; omega⟩
    obtain ⟨La, rfl⟩ : ∃ n : Nat, La = (n : Int) := ⟨La.toNat, by have := hvg.l1; omega⟩
    rw [h0] at HCH
    by_cases hz : n = 0
    · have HE := Lib.hid (show buildR (La : Int) (n : Int) es = (0, ([], [])) by unfold buildR; rw [if_pos h0, if_pos (by omega)])
      have d0 : ((n : Int) == 0) = true := by rw [beq_iff_eq]; omega
      obtain ⟨a, c, rfl⟩ := hrd.form
      clear hrd hbx hgx hbb h0 hvg hT hz
      go_enter Tryd.func6, Tryd.ntmps6
      go_wp2_with (go_at_call 18; (with_reducible refine HCH.out.mono ?_); rintro e W2 ⟨rfl, b2⟩; (obtain ⟨x1, x2, x3⟩ := HBX.out.keep b2); (obtain ⟨r1, r2, r3, r4, r5, r6⟩ := (HGX.out.keep b2).cells); (have HB2 := Lib.hid (HBB.out.trans (b2.mono HBB.out.size))))
      refine bodyPost_ret (v := .tuple #[grV (La : Int) 0 (.slice none 0 0), .slice none 0 0, .int .i64 0]) (by simp [results, Tryd.results6, go_sem, r1, r2, r3]) rfl ?_
      rw [HE.out]
      exact ⟨_, _, rfl, edges_nil _ _, RowsAt.nil _ _, below_over HB2.out (Nat.le_succ _) _ _ _⟩
    · have hn64 : n ≤ 64 := by have := hvg.s2; omega
      have HE := Lib.hid (show buildR (La : Int) (n : Int) es = (bErr (builtN es La (fullN n)), bSets (builtN es La (fullN n))) by
        unfold buildR; rw [if_pos h0, if_neg (by omega), Int.toNat_natCast, Int.toNat_natCast])
      have d0 : ((n : Int) == 0) = false := by rw [beq_eq_false_iff_ne]; omega
      obtain ⟨a, c, rfl⟩ := hrd.form
      have HRD := Lib.hid hrd
      have HTT := Lib.hid hT
      have HV := Lib.hid (fun W => every_any (La : Int) n (.slice a es.length c) W hn64)
      have HBD := Lib.hid (fun W (h : EdgesRd W (.slice a es.length c) es) (hT : TabD W) => build_any La n es (.slice a es.length c) (fullN n) W h hvg (fullN_ne hz) (fullN_lt hn64) (fullN_small n) hT)
      generalize builtN es La (fullN n) = R at *
      clear hrd hbx hgx hbb h0 hvg hT hz
      go_enter Tryd.func6, Tryd.ntmps6
      go_upto_region 5 with (go_at_call 18; (with_reducible refine HCH.out.mono ?_); rintro e W2 ⟨rfl, b2⟩; (obtain ⟨x1, x2, x3⟩ := HBX.out.keep b2))
      have HG := Lib.hid (show GBox W2.drew (w.heap.size + 1) (.int .i64 0) (.int .i64 0) (.slice none 0 0) from (show GBox W2 (w.heap.size + 1) (.int .i64 0) (.int .i64 0) (.slice none 0 0) from HGX.out.keep b2))
      have HBB := Lib.hid (show Below w.heap.size w W2.drew from (HBB.out.trans (b2.mono HBB.out.size)).drew)
      have hR0 : SG3 w.heap.size (La : Int) (n : Int) (.slice a es.length c) W2.drew := ⟨x1, x2, x3⟩
      have hsw : w.heap.size + 1 < W2.drew.heap.size := HG.out.lt
      clear x1 x2 x3 b2
      refine regionT (T := T2 8 8 (SG3 w.heap.size (La : Int) (n : Int) (.slice a es.length c)) (SG3 w.heap.size (La : Int) (n : Int) (.slice a es.length c))) hmx ?_
      have hR := hR0
      refine take1 (i := 0) (v := ?_) rfl (by kernel_rfl) (by kernel_rfl) (by kernel_rfl) (by kernel_rfl) (by kernel_rfl) (by decide) (by decide) (fun _ _ _ h => h) (Or.inl ⟨by rfl, ?_⟩) hR hR ?_
      rotate_left
      · intro w hSw
        (try unfold SG3 at hSw)
        go_simp
        all_goals with_reducible rfl
      (try simp only [Act.put, List.setIfInBounds_toArray, List.set_cons_zero, List.set_cons_succ])
      refine take1 (i := 1) (v := ?_) rfl (by kernel_rfl) (by kernel_rfl) (by kernel_rfl) (by kernel_rfl) (by kernel_rfl) (by decide) (by decide) (fun _ _ _ h => h) (Or.inl ⟨by rfl, ?_⟩) hR hR ?_
      rotate_left
      · intro w hSw
        (try unfold SG3 at hSw)
        go_simp
        all_goals with_reducible rfl
      (try simp only [Act.put, List.setIfInBounds_toArray, List.set_cons_zero, List.set_cons_succ])
      refine stepT (i := 2) (by kernel_rfl) rfl (fun K hK => ?_)
      go_simp
      go_at_call 20
      (with_reducible refine (HV.out W2.drew).mono ?_)
      rintro e0 W5 ⟨rfl, b5⟩
      have hR5 := hR0.keep5 b5
      have HB6 := Lib.hid (show Below w.heap.size w W5 from HBB.out.trans (b5.mono (by have := HBB.out.size; omega)))
      go_wp2_with fail
      refine hK.out _ _ ⟨fun _ => hR5, fun _ => hR5⟩ ?_
      clear hK K hR
      have hR := hR5
      (try simp only [Act.put, List.setIfInBounds_toArray, List.set_cons_zero, List.set_cons_succ])
      refine stepT (i := 3) (by kernel_rfl) rfl (fun K hK => ?_)
      go_simp
      go_at_call 19
      (with_reducible refine (HBD.out W5 (HRD.out.keep HB6.out) (HTT.out.keep HB6.out)).mono ?_)
      rintro e0 W6 ⟨hv, lv, rfl, he6, hr6, b6⟩
      have hR6 := hR5.keep5 b6
      have HB7 := Lib.hid (show Below w.heap.size w W6 from HB6.out.trans (b6.mono (by have := HB6.out.size; omega)))
      have G7 := GBox.keep (W := W2.drew) (W' := W5) HG.out b5
      have G8 := G7.keep b6
      obtain ⟨r1, r2, r3, r4, r5, r6⟩ := G8.cells
      obtain ⟨ah, ch, rfl⟩ := he6.slice
      obtain ⟨al, rfl⟩ := hr6.form
      go_wp2_with fail
      refine hK.out _ _ ⟨fun _ => hR6, fun _ => hR6⟩ ?_
      clear hK K hR
      have hR := hR6
      (try simp only [Act.put, List.setIfInBounds_toArray, List.set_cons_zero, List.set_cons_succ])
      refine take1 (i := 4) (v := ?_) rfl (by kernel_rfl) (by kernel_rfl) (by kernel_rfl) (by kernel_rfl) (by kernel_rfl) (by decide) (by decide) (fun _ _ _ h => h) (Or.inl ⟨by rfl, ?_⟩) hR hR ?_
      rotate_left
      · intro w hSw
        (try unfold SG3 at hSw)
        go_simp
        all_goals with_reducible rfl
      (try simp only [Act.put, List.setIfInBounds_toArray, List.set_cons_zero, List.set_cons_succ])
      refine take1 (i := 5) (v := ?_) rfl (by kernel_rfl) (by kernel_rfl) (by kernel_rfl) (by kernel_rfl) (by kernel_rfl) (by decide) (by decide) (fun _ _ _ h => h) (Or.inl ⟨by rfl, ?_⟩) hR hR ?_
      rotate_left
      · intro w hSw
        (try unfold SG3 at hSw)
        go_simp
        all_goals with_reducible rfl
      (try simp only [Act.put, List.setIfInBounds_toArray, List.set_cons_zero, List.set_cons_succ])
      refine take1 (i := 6) (v := ?_) rfl (by kernel_rfl) (by kernel_rfl) (by kernel_rfl) (by kernel_rfl) (by kernel_rfl) (by decide) (by decide) (fun _ _ _ h => h) (Or.inl ⟨by rfl, ?_⟩) hR hR ?_
      rotate_left
      · intro w hSw
        (try unfold SG3 at hSw)
        go_simp
        all_goals with_reducible rfl
      (try simp only [Act.put, List.setIfInBounds_toArray, List.set_cons_zero, List.set_cons_succ])
      refine stepT (i := 7) (by kernel_rfl) rfl (fun K hK => ?_)
      go_simp
      have hR7 := hR6.far (show w.heap.size + 1 ≠ w.heap.size by omega) (.int .i64 (onOk (bErr R) (La : Int))) (.int .i64 (((bSets R).1.length : Nat) : Int)) (.slice ah (bSets R).2.length ch)
      refine hK.out _ _ ⟨fun _ => hR7, fun _ => hR7⟩ ?_
      clear hK K hR
      have hR := hR7
      (try simp only [Act.put, List.setIfInBounds_toArray, List.set_cons_zero, List.set_cons_succ])
      refine stepT (i := 8) (by kernel_rfl) rfl (fun K hK => ?_)
      go_simp
      refine hK.out _ _ ⟨fun h => absurd h (by decide), fun h => absurd h (by decide)⟩ ?_
      clear hK K
      (try simp only [Act.put, List.setIfInBounds_toArray, List.set_cons_zero, List.set_cons_succ])
      refine stepT (i := 9) (by kernel_rfl) rfl (fun K hK => ?_)
      go_simp
      refine hK.out _ _ ⟨fun h => absurd h (by decide), fun h => absurd h (by decide)⟩ ?_
      clear hK K
      (try simp only [Act.put, List.setIfInBounds_toArray, List.set_cons_zero, List.set_cons_succ])
      refine doneT (by kernel_rfl) ?_ _
      go_wp2_with fail
      rw [HE.out]
      refine bodyPost_ret (v := .tuple #[grV (onOk (bErr R) (La : Int)) (((bSets R).1.length : Nat) : Int) (.slice ah (bSets R).2.length ch), .slice al (bSets R).1.length (bSets R).1.length, .int .i64 (bErr R)]) (by simp [results, Tryd.results6, go_sem, r1, r2, r3]) rfl ?_
      have hs5 := b5.size
      exact ⟨_, _, rfl, edges_over he6 (b := w.heap.size + 1) (by omega) _ _ _ (by omega), hr6.over (b := w.heap.size + 1) (by omega) _ _ _ (by omega), below_over HB7.out (Nat.le_succ _) _ _ _⟩
  · have HE := Lib.hid (show buildR La S es = (1, ([], [])) by unfold buildR; rw [if_neg h0])
    obtain ⟨z, hz⟩ : ∃ z, chkG La S es = z := ⟨_, rfl⟩
    rw [hz] at HCH h0
    have d1 : (z != 0) = true := by simpa using h0
    obtain ⟨a, c, rfl⟩ := hrd.form
    clear hrd hbx hgx hbb h0 hT hz
    go_enter Tryd.func6, Tryd.ntmps6
    go_wp2_with (go_at_call 18; (with_reducible refine HCH.out.mono ?_); rintro e W2 ⟨rfl, b2⟩; (obtain ⟨r1, r2, r3, r4, r5, r6⟩ := (HGX.out.keep b2).cells); (have HB2 := Lib.hid (HBB.out.trans (b2.mono HBB.out.size))))
    refine bodyPost_ret (v := .tuple #[grV 0 0 (.slice none 0 0), .slice none 0 0, .int .i64 1]) (by simp [results, Tryd.results6, go_sem, r1, r2, r3]) rfl ?_
    rw [HE.out]
    exact ⟨_, _, rfl, edges_nil _ _, RowsAt.nil _ _, below_over HB2.out (Nat.le_succ _) _ _ _⟩
theorem fromR_err {La S : Int} {es : List E3} {set : List Int} (h : (keepR La S es set).2.2.2 ≠ 0) : fromR La S es set = ((keepR La S es set).2.2.2, ([], [])) := by
  unfold keepR at h ⊢
  unfold fromR
  by_cases h0 : chkG La S es = 0
  · rw [if_pos h0] at h ⊢
    rw [if_pos h0]
    by_cases h1 : chkS S none set = 0
    · rw [if_pos h1] at h; exact absurd rfl h
    · rw [if_neg h1, if_neg h1]
  · rw [if_neg h0, if_neg h0]
theorem keepR_ok {La S : Int} {es : List E3} {set : List Int} (h : (keepR La S es set).2.2.2 = 0) : chkG La S es = 0 ∧ chkS S none set = 0 := by
  unfold keepR at h
  by_cases h0 : chkG La S es = 0
  · rw [if_pos h0] at h
    by_cases h1 : chkS S none set = 0
    · exact ⟨h0, h1⟩
    · rw [if_neg h1] at h; exact absurd h h1
  · rw [if_neg h0] at h; cases h
theorem sg_len {n : Nat} {l : List Int} (h : SG (n : Int) l) : l.length ≤ n := by
  have e : l = mems n (fun i => decide ((i : Int) ∈ l)) := asc_ext h.asc (mems_asc _ _) (fun x => by
    rw [mems_mem]
    constructor
    · intro hx
      have := h.bd x hx
      exact ⟨x.toNat, by omega, by omega, by rw [decide_eq_true_iff]; rwa [show ((x.toNat : Nat) : Int) = x by omega]⟩
    · rintro ⟨i, rfl, hi, h2⟩
      exact of_decide_eq_true h2)
  rw [e]
  exact mems_len _ _
set_option maxRecDepth 100000 in
set_option maxHeartbeats 6400000 in
theorem From_any (La S : Int) (es : List E3) (v vs : Value) (set : List Int) (w : World) (hrd : EdgesRd w v es) (hn : es.length ≤ 9223372036854775807) (hst : IntsRd w vs set) (hl : set.length ≤ 9223372036854775807) (hT : TabD w) :
    Calls Tryd.prog 8 #[grV La S v, vs] w (SetsOut w La (fromR La S es set).1 (fromR La S es set).2) := by
  have hmx : Tryd.prog.follows .mixedOrders = true := by kernel_rfl
  obtain ⟨hbx, hgx, hbb, hsz⟩ := two_boxes w La S v
  have HKP := Lib.hid (keep_any La S es v vs set _ (hrd.keep hbb) hn (hst.keep hbb) hl)
  have HBX := Lib.hid hbx
  have HGX := Lib.hid hgx
  have HBB := Lib.hid hbb
  obtain ⟨x1, x2, x3⟩ := id hbx
  by_cases h0 : (keepR La S es set).2.2.2 = 0
  · obtain ⟨hc0, hc1⟩ := keepR_ok h0
    have hvg := chkG_zero hc0
    have hsg := chkS_ok hc1
    obtain ⟨n, rfl⟩ : ∃ n : Nat, S = (n : Int) := ⟨S.toNat, by have := hvg.s1; omega⟩
    obtain ⟨La, rfl⟩ : ∃ n : Nat, La = (n : Int) := ⟨La.toNat, by have := hvg.l1; omega⟩
    have hn64 : n ≤ 64 := by have := hvg.s2; omega
    obtain ⟨k1, hk1⟩ : ∃ k, (keepR (La : Int) (n : Int) es set).1 = k := ⟨_, rfl⟩
    obtain ⟨k2, hk2⟩ : ∃ k, (keepR (La : Int) (n : Int) es set).2.1 = k := ⟨_, rfl⟩
    obtain ⟨k3, hk3⟩ : ∃ k, (keepR (La : Int) (n : Int) es set).2.2.1 = k := ⟨_, rfl⟩
    unfold GOut at HKP
    rw [h0, hk1, hk2, hk3] at HKP
    have hsl := sg_len hsg
    by_cases hz : set = []
    · have HE := Lib.hid (show fromR (La : Int) (n : Int) es set = (5, ([], [])) by unfold fromR; rw [if_pos hc0, if_pos hc1, if_pos hz])
      have d0 : ((set.length : Int) == 0) = true := by rw [hz]; rfl
      obtain ⟨a, c, rfl⟩ := hrd.form
      obtain ⟨a2, c2, rfl⟩ := hst.form
      clear hrd hst hbx hgx hbb h0 hvg hT hz hc0 hc1 hsg hk1 hk2 hk3
      obtain ⟨m, hm⟩ : ∃ m, set.length = m := ⟨_, rfl⟩
      rw [hm] at d0 HKP hsl hl ⊢
      clear hm
      go_enter Tryd.func8, Tryd.ntmps8
      go_wp2_with (go_at_call 23; (with_reducible refine HKP.out.mono ?_); rintro e W2 ⟨v2, rfl, he2, b2⟩; (obtain ⟨a5, c5, rfl⟩ := he2.slice); (have G2 := HGX.out.keep b2); (have G3 := G2.keep (below1 W2 (.cells #[.int .i64 k1, .int .i64 k2, .slice a5 k3.length c5] 24))); (obtain ⟨r1, r2, r3, r4, r5, r6⟩ := G3.cells); (have HB2 := Lib.hid (below_more (HBB.out.trans (b2.mono HBB.out.size)) (by have := HBB.out.size; have := b2.size; omega) (below1 W2 (.cells #[.int .i64 k1, .int .i64 k2, .slice a5 k3.length c5] 24)))))
      refine bodyPost_ret (v := .tuple #[grV 0 0 (.slice none 0 0), .slice none 0 0, .int .i64 5]) (by simp [results, Tryd.results8, go_sem, r1, r2, r3]) rfl ?_
      rw [HE.out]
      exact ⟨_, _, rfl, edges_nil _ _, RowsAt.nil _ _, below_over HB2.out (Nat.le_succ _) _ _ _⟩
    · have HE := Lib.hid (show fromR (La : Int) (n : Int) es set = (bErr (builtN es La (ofN set)), bSets (builtN es La (ofN set))) by
        unfold fromR; rw [if_pos hc0, if_pos hc1, if_neg hz, Int.toNat_natCast])
      have hlp : 0 < set.length := List.length_pos_iff.2 hz
      have d0 : ((set.length : Int) == 0) = false := by rw [beq_eq_false_iff_ne]; omega
      have hbd : ∀ s ∈ set, 0 ≤ s ∧ s < 64 := fun s hs => by have := hsg.bd s hs; omega
      obtain ⟨a, c, rfl⟩ := hrd.form
      obtain ⟨a2, c2, rfl⟩ := hst.form
      have HRD := Lib.hid hrd
      have HTT := Lib.hid hT
      have HST := Lib.hid hst
      have HV := Lib.hid (fun W (h : IntsRd W (.slice a2 set.length c2) set) => setOf_any set (.slice a2 set.length c2) W h hbd (by omega))
      have HBD := Lib.hid (fun W (h : EdgesRd W (.slice a es.length c) es) (hT : TabD W) => build_any La n es (.slice a es.length c) (ofN set) W h hvg (ofN_ne hbd hz) (ofN_lt64 hbd) (ofN_small hsg hn64) hT)
      generalize builtN es La (ofN set) = R at *
      generalize ofN set = X at *
      clear hrd hst hbx hgx hbb h0 hvg hT hz hc0 hc1 hsg hk1 hk2 hk3 hbd
      obtain ⟨m, hm⟩ : ∃ m, set.length = m := ⟨_, rfl⟩
      rw [hm] at d0 HKP HST HV hsl hl hlp ⊢
      clear hm
      go_enter Tryd.func8, Tryd.ntmps8
      go_upto_region 6 with (go_at_call 23; (with_reducible refine HKP.out.mono ?_); rintro e W2 ⟨v2, rfl, he2, b2⟩; (obtain ⟨a5, c5, rfl⟩ := he2.slice); (have G2 := HGX.out.keep b2); (have G3 := Lib.hid (G2.keep (below1 W2 (.cells #[.int .i64 k1, .int .i64 k2, .slice a5 k3.length c5] 24)))); (obtain ⟨x1, x2, x3⟩ := (HBX.out.keep b2).keep (below1 W2 (.cells #[.int .i64 k1, .int .i64 k2, .slice a5 k3.length c5] 24))); (have HB2 := Lib.hid (below_more (HBB.out.trans (b2.mono HBB.out.size)) (by have := HBB.out.size; have := b2.size; omega) (below1 W2 (.cells #[.int .i64 k1, .int .i64 k2, .slice a5 k3.length c5] 24)))))
      clear G2 he2 b2 HBX HGX HBB HKP
      generalize W2.alloc (.cells #[.int .i64 k1, .int .i64 k2, .slice a5 k3.length c5] 24) = W3 at *
      have HG := Lib.hid (show GBox W3.drew (w.heap.size + 1) (.int .i64 0) (.int .i64 0) (.slice none 0 0) from G3.out)
      have HBB := Lib.hid (show Below w.heap.size w W3.drew from HB2.out.drew)
      have hR0 : SG3 w.heap.size (La : Int) (n : Int) (.slice a es.length c) W3.drew := ⟨x1, x2, x3⟩
      have hsw : w.heap.size + 1 < W3.drew.heap.size := HG.out.lt
      clear x1 x2 x3
      refine regionT (T := T2 8 8 (SG3 w.heap.size (La : Int) (n : Int) (.slice a es.length c)) (SG3 w.heap.size (La : Int) (n : Int) (.slice a es.length c))) hmx ?_
      have hR := hR0
      refine take1 (i := 0) (v := ?_) rfl (by kernel_rfl) (by kernel_rfl) (by kernel_rfl) (by kernel_rfl) (by kernel_rfl) (by decide) (by decide) (fun _ _ _ h => h) (Or.inl ⟨by rfl, ?_⟩) hR hR ?_
      rotate_left
      · intro w hSw
        (try unfold SG3 at hSw)
        go_simp
        all_goals with_reducible rfl
      (try simp only [Act.put, List.setIfInBounds_toArray, List.set_cons_zero, List.set_cons_succ])
      refine take1 (i := 1) (v := ?_) rfl (by kernel_rfl) (by kernel_rfl) (by kernel_rfl) (by kernel_rfl) (by kernel_rfl) (by decide) (by decide) (fun _ _ _ h => h) (Or.inl ⟨by rfl, ?_⟩) hR hR ?_
      rotate_left
      · intro w hSw
        (try unfold SG3 at hSw)
        go_simp
        all_goals with_reducible rfl
      (try simp only [Act.put, List.setIfInBounds_toArray, List.set_cons_zero, List.set_cons_succ])
      refine stepT (i := 2) (by kernel_rfl) rfl (fun K hK => ?_)
      go_simp
      go_at_call 24
      (with_reducible refine (HV.out W3.drew (HST.out.keep HBB.out)).mono ?_)
      rintro e0 W5 ⟨rfl, b5⟩
      have hR5 := hR0.keep5 b5
      have HB6 := Lib.hid (show Below w.heap.size w W5 from HBB.out.trans (b5.mono (by have := HBB.out.size; omega)))
      go_wp2_with fail
      refine hK.out _ _ ⟨fun _ => hR5, fun _ => hR5⟩ ?_
      clear hK K hR
      have hR := hR5
      (try simp only [Act.put, List.setIfInBounds_toArray, List.set_cons_zero, List.set_cons_succ])
      refine stepT (i := 3) (by kernel_rfl) rfl (fun K hK => ?_)
      go_simp
      go_at_call 19
      (with_reducible refine (HBD.out W5 (HRD.out.keep HB6.out) (HTT.out.keep HB6.out)).mono ?_)
      rintro e0 W6 ⟨hv, lv, rfl, he6, hr6, b6⟩
      have hR6 := hR5.keep5 b6
      have HB7 := Lib.hid (show Below w.heap.size w W6 from HB6.out.trans (b6.mono (by have := HB6.out.size; omega)))
      have G7 := GBox.keep (W := W3.drew) (W' := W5) HG.out b5
      have G8 := G7.keep b6
      obtain ⟨r1, r2, r3, r4, r5, r6⟩ := G8.cells
      obtain ⟨ah, ch, rfl⟩ := he6.slice
      obtain ⟨al, rfl⟩ := hr6.form
      go_wp2_with fail
      refine hK.out _ _ ⟨fun _ => hR6, fun _ => hR6⟩ ?_
      clear hK K hR
      have hR := hR6
      (try simp only [Act.put, List.setIfInBounds_toArray, List.set_cons_zero, List.set_cons_succ])
      refine take1 (i := 4) (v := ?_) rfl (by kernel_rfl) (by kernel_rfl) (by kernel_rfl) (by kernel_rfl) (by kernel_rfl) (by decide) (by decide) (fun _ _ _ h => h) (Or.inl ⟨by rfl, ?_⟩) hR hR ?_
      rotate_left
      · intro w hSw
        (try unfold SG3 at hSw)
        go_simp
        all_goals with_reducible rfl
      (try simp only [Act.put, List.setIfInBounds_toArray, List.set_cons_zero, List.set_cons_succ])
      refine take1 (i := 5) (v := ?_) rfl (by kernel_rfl) (by kernel_rfl) (by kernel_rfl) (by kernel_rfl) (by kernel_rfl) (by decide) (by decide) (fun _ _ _ h => h) (Or.inl ⟨by rfl, ?_⟩) hR hR ?_
      rotate_left
      · intro w hSw
        (try unfold SG3 at hSw)
        go_simp
        all_goals with_reducible rfl
      (try simp only [Act.put, List.setIfInBounds_toArray, List.set_cons_zero, List.set_cons_succ])
      refine take1 (i := 6) (v := ?_) rfl (by kernel_rfl) (by kernel_rfl) (by kernel_rfl) (by kernel_rfl) (by kernel_rfl) (by decide) (by decide) (fun _ _ _ h => h) (Or.inl ⟨by rfl, ?_⟩) hR hR ?_
      rotate_left
      · intro w hSw
        (try unfold SG3 at hSw)
        go_simp
        all_goals with_reducible rfl
      (try simp only [Act.put, List.setIfInBounds_toArray, List.set_cons_zero, List.set_cons_succ])
      refine stepT (i := 7) (by kernel_rfl) rfl (fun K hK => ?_)
      go_simp
      have hR7 := hR6.far (show w.heap.size + 1 ≠ w.heap.size by omega) (.int .i64 (onOk (bErr R) (La : Int))) (.int .i64 (((bSets R).1.length : Nat) : Int)) (.slice ah (bSets R).2.length ch)
      refine hK.out _ _ ⟨fun _ => hR7, fun _ => hR7⟩ ?_
      clear hK K hR
      have hR := hR7
      (try simp only [Act.put, List.setIfInBounds_toArray, List.set_cons_zero, List.set_cons_succ])
      refine stepT (i := 8) (by kernel_rfl) rfl (fun K hK => ?_)
      go_simp
      refine hK.out _ _ ⟨fun h => absurd h (by decide), fun h => absurd h (by decide)⟩ ?_
      clear hK K
      (try simp only [Act.put, List.setIfInBounds_toArray, List.set_cons_zero, List.set_cons_succ])
      refine stepT (i := 9) (by kernel_rfl) rfl (fun K hK => ?_)
      go_simp
      refine hK.out _ _ ⟨fun h => absurd h (by decide), fun h => absurd h (by decide)⟩ ?_
      clear hK K
      (try simp only [Act.put, List.setIfInBounds_toArray, List.set_cons_zero, List.set_cons_succ])
      refine doneT (by kernel_rfl) ?_ _
      go_wp2_with fail
      rw [HE.out]
      refine bodyPost_ret (v := .tuple #[grV (onOk (bErr R) (La : Int)) (((bSets R).1.length : Nat) : Int) (.slice ah (bSets R).2.length ch), .slice al (bSets R).1.length (bSets R).1.length, .int .i64 (bErr R)]) (by simp [results, Tryd.results8, go_sem, r1, r2, r3]) rfl ?_
      have hs5 := b5.size
      exact ⟨_, _, rfl, edges_over he6 (b := w.heap.size + 1) (by omega) _ _ _ (by omega), hr6.over (b := w.heap.size + 1) (by omega) _ _ _ (by omega), below_over HB7.out (Nat.le_succ _) _ _ _⟩
  · have HE := Lib.hid (fromR_err h0)
    obtain ⟨z, hz⟩ : ∃ z, (keepR La S es set).2.2.2 = z := ⟨_, rfl⟩
    obtain ⟨k1, hk1⟩ : ∃ k, (keepR La S es set).1 = k := ⟨_, rfl⟩
    obtain ⟨k2, hk2⟩ : ∃ k, (keepR La S es set).2.1 = k := ⟨_, rfl⟩
    obtain ⟨k3, hk3⟩ : ∃ k, (keepR La S es set).2.2.1 = k := ⟨_, rfl⟩
    unfold GOut at HKP
    rw [hz, hk1, hk2, hk3] at HKP
    rw [hz] at h0 HE
    have d1 : (z != 0) = true := by simpa using h0
    obtain ⟨a, c, rfl⟩ := hrd.form
    obtain ⟨a2, c2, rfl⟩ := hst.form
    clear hrd hst hbx hgx hbb h0 hT hz hk1 hk2 hk3
    obtain ⟨m, hm⟩ : ∃ m, set.length = m := ⟨_, rfl⟩
    rw [hm] at HKP hl ⊢
    clear hm
    go_enter Tryd.func8, Tryd.ntmps8
    go_wp2_with (go_at_call 23; (with_reducible refine HKP.out.mono ?_); rintro e W2 ⟨v2, rfl, he2, b2⟩; (obtain ⟨a5, c5, rfl⟩ := he2.slice); (have G2 := HGX.out.keep b2); (have G3 := G2.keep (below1 W2 (.cells #[.int .i64 k1, .int .i64 k2, .slice a5 k3.length c5] 24))); (obtain ⟨r1, r2, r3, r4, r5, r6⟩ := G3.cells); (have HB2 := Lib.hid (below_more (HBB.out.trans (b2.mono HBB.out.size)) (by have := HBB.out.size; have := b2.size; omega) (below1 W2 (.cells #[.int .i64 k1, .int .i64 k2, .slice a5 k3.length c5] 24)))))
    refine bodyPost_ret (v := .tuple #[grV 0 0 (.slice none 0 0), .slice none 0 0, .int .i64 z]) (by simp [results, Tryd.results8, go_sem, r1, r2, r3]) rfl ?_
    rw [HE.out]
    have HZ := Lib.hid (show onOk z La = 0 by unfold onOk; rw [if_neg (by simpa using d1)])
    exact ⟨_, _, by rw [HZ.out]; rfl, edges_nil _ _, RowsAt.nil _ _, below_over HB2.out (Nat.le_succ _) _ _ _⟩
end Go.Proofs.YthhbbiafffpknaaDoor

namespace Go.Proofs.YthhbbiafffpknaaDoor
set_option linter.unusedVariables false

theorem rowN_ind {es : List E3} {i : Nat} {P : Bs → Prop} (h : ∀ l b, i < b.1.length → P b → P (visN es i b l)) {b : Bs} (hi : i < b.1.length) (hP : P b) : ∀ c, P (rowN es i b c)
  | 0 => hP
  | c + 1 => by
    have hl := rowN_len es i b c
    rw [rowN_succ]
    exact h c _ (by omega) (rowN_ind h hi hP c)
theorem runN_ind {es : List E3} {La : Nat} {P : Bs → Prop} (h : ∀ i l b, i < b.1.length → P b → P (visN es i b l)) : ∀ (k i : Nat) (b b' : Bs), P b → runN es La k i b = some b' → P b'
  | 0, _, _, _, _, h2 => by cases h2
  | k + 1, i, b, b', hP, h2 => by
    by_cases h1 : i < b.1.length
    · by_cases h3 : tooN (rowN es i b La)
      · rw [runN_many h1 h3] at h2; cases h2
      · rw [runN_more h1 h3] at h2
        exact runN_ind h k (i + 1) _ b' (rowN_ind (h i) h1 hP La) h2
    · rw [runN_end h1] at h2
      injection h2 with h2
      subst h2
      exact hP
theorem built_ind {es : List E3} {La S : Nat} {P : Bs → Prop} {b : Bs} (h : ∀ i l b, i < b.1.length → P b → P (visN es i b l)) (h0 : P ([S], [])) (hb : builtN es La S = some b) : P b := by
  unfold builtN at hb
  generalize (66 : Nat) = k at hb
  exact runN_ind h k 0 _ b h0 hb
/-- The first edge to a state. -/
def fstE (es : List E3) (t : Int) : Option E3 := es.find? fun e => e.2.2 == t
theorem fstE_snoc (es : List E3) (e : E3) (t : Int) : fstE (es ++ [e]) t = (fstE es t).or (if e.2.2 = t then some e else none) := by
  unfold fstE
  rw [List.find?_append]
  congr 1
  rw [List.find?_cons]
  by_cases h : e.2.2 = t
  · rw [show (e.2.2 == t) = true by rw [beq_iff_eq]; exact h, if_pos h]
  · rw [show (e.2.2 == t) = false by rw [beq_eq_false_iff_ne]; exact h, if_neg h]; rfl
structure FFN (b : Bs) : Prop where
  tgt : ∀ e ∈ b.2, 0 ≤ e.2.2 ∧ e.2.2 < (b.1.length : Int)
  ff : ∀ t : Nat, 0 < t → t < b.1.length → ∃ e, fstE b.2 (t : Int) = some e ∧ 0 ≤ e.1 ∧ e.1 < (t : Int)
theorem FFN.vis {es : List E3} (i l : Nat) (b : Bs) (hi : i < b.1.length) (h : FFN b) : FFN (visN es i b l) := by
  by_cases h0 : stN es (b.1.getD i 0) l = 0
  · rw [visN_none h0]; exact h
  · by_cases h1 : stN es (b.1.getD i 0) l ∈ b.1
    · rw [visN_old h0 h1]
      have hx : b.1.idxOf (stN es (b.1.getD i 0) l) < b.1.length := List.idxOf_lt_length_iff.2 h1
      refine ⟨fun e he => ?_, fun t h2 h3 => ?_⟩
      · rw [List.mem_append, List.mem_singleton] at he
        rcases he with he | rfl
        · exact h.tgt e he
        · show (0 : Int) ≤ ((b.1.idxOf (stN es (b.1.getD i 0) l) : Nat) : Int) ∧ ((b.1.idxOf (stN es (b.1.getD i 0) l) : Nat) : Int) < ((b.1.length : Nat) : Int)
          omega
      · obtain ⟨e, h4, h5⟩ := h.ff t h2 h3
        refine ⟨e, ?_, h5⟩
        show fstE (b.2 ++ _) _ = _
        rw [fstE_snoc, h4]; rfl
    · rw [visN_new h0 h1]
      refine ⟨fun e he => ?_, fun t h2 h3 => ?_⟩
      · rw [List.mem_append, List.mem_singleton] at he
        show 0 ≤ e.2.2 ∧ e.2.2 < (((b.1 ++ _).length : Nat) : Int)
        rw [List.length_append, List.length_singleton]
        rcases he with he | rfl
        · have := h.tgt e he; omega
        · show 0 ≤ ((_ : Nat) : Int) ∧ ((_ : Nat) : Int) < _; omega
      · have h3 : t < b.1.length + 1 := by
          have h4 : t < (b.1 ++ [stN es (b.1.getD i 0) l]).length := h3
          rwa [List.length_append, List.length_singleton] at h4
        show ∃ e, fstE (b.2 ++ _) _ = some e ∧ _
        by_cases ht : t = b.1.length
        · subst ht
          have hn : fstE b.2 ((b.1.length : Nat) : Int) = none := by
            unfold fstE
            rw [List.find?_eq_none]
            intro e he
            have := h.tgt e he
            simp; omega
          rw [fstE_snoc, hn, if_pos rfl]
          exact ⟨_, rfl, by show (0 : Int) ≤ (i : Int); omega, by show (i : Int) < _; omega⟩
        · obtain ⟨e, h4, h5⟩ := h.ff t h2 (by omega)
          exact ⟨e, by rw [fstE_snoc, h4]; rfl, h5⟩
theorem built_ff {es : List E3} {La S : Nat} {b : Bs} (hb : builtN es La S = some b) : FFN b :=
  built_ind (fun i l b hi h => FFN.vis i l b hi h) ⟨fun e he => (by cases he), fun t h1 h2 => (by have h3 : t < 1 := h2; omega)⟩ hb
/-- The labels that lead to a set, the last one first. -/
def labP (es : List E3) : Nat → Nat → List Int
  | 0, _ => []
  | k + 1, s => if s = 0 then [] else match fstE es (s : Int) with
    | none => []
    | some e => e.2.1 :: labP es k e.1.toNat
def labF (es : List E3) (s : Nat) : List Int := (labP es s s).reverse
theorem labP_zero (es : List E3) : ∀ k, labP es k 0 = []
  | 0 => rfl
  | k + 1 => by unfold labP; rw [if_pos rfl]
theorem labP_step {es : List E3} {k s : Nat} {e : E3} (hs : s ≠ 0) (h : fstE es (s : Int) = some e) : labP es (k + 1) s = e.2.1 :: labP es k e.1.toNat := by rw [labP, if_neg hs, h]
theorem labP_more {b : Bs} (h : FFN b) : ∀ (k s : Nat), s ≤ k → s < b.1.length → labP b.2 k s = labP b.2 s s
  | 0, s, hk, _ => by
    obtain rfl : s = 0 := by omega
    rfl
  | k + 1, s, hk, hl => by
    by_cases hs : s = 0
    · subst hs; rw [labP_zero, labP_zero]
    · obtain ⟨e, h1, h2, h3⟩ := h.ff s (by omega) hl
      obtain ⟨m, rfl⟩ : ∃ m, s = m + 1 := ⟨s - 1, by omega⟩
      rw [labP_step hs h1, labP_step hs h1, labP_more h k e.1.toNat (by omega) (by omega), labP_more h m e.1.toNat (by omega) (by omega)]
theorem fstE_at {es : List E3} {t : Int} {i : Nat} {e : E3} (hi : es[i]? = some e) (he : e.2.2 = t) (hn : fstE (es.take i) t = none) : fstE es t = some e := by
  have h1 := List.take_append_drop i es
  have h2 : es.drop i = e :: es.drop (i + 1) := drop_at hi
  rw [← h1, h2]
  unfold fstE at hn ⊢
  rw [List.find?_append, hn, List.find?_cons, show (e.2.2 == t) = true by rw [beq_iff_eq]; exact he]
  rfl
theorem labP_len (es : List E3) : ∀ (k s : Nat), (labP es k s).length ≤ k
  | 0, _ => Nat.le_refl _
  | k + 1, s => by
    unfold labP
    split
    · exact Nat.zero_le _
    · split
      · exact Nat.zero_le _
      · rw [List.length_cons]; have := labP_len es k; exact Nat.succ_le_succ (this _)
/-- What Focus returns. -/
def focN (b : Bs) : List Int × Int × Bool := match b.1.findIdx? fun S => (memN S).length == 1 with
  | none => ([], 0, false)
  | some i => (labF b.2 i, (memN (b.1.getD i 0)).headD 0, true)
def focR (La S : Int) (es : List E3) : List Int × Int × Bool × Int :=
  if (buildR La S es).1 = 0 then ((focN (buildR La S es).2).1, (focN (buildR La S es).2).2.1, (focN (buildR La S es).2).2.2, 0) else ([], 0, false, (buildR La S es).1)
end Go.Proofs.YthhbbiafffpknaaDoor

namespace Go.Proofs.YthhbbiafffpknaaDoor
open Go.RowKit Go.Maps
set_option linter.unusedSimpArgs false
set_option linter.unusedVariables false

theorem Tryd.foc1E (args : Array Value) (w : World) : (callFunc 27 args).run Tryd.prog w = .ok (.enter 27 args) w := by
  simp [callFunc, go_sem, Tryd.func27, Tryd.f27]
theorem Tryd.lab1E (args : Array Value) (w : World) : (callFunc 47 args).run Tryd.prog w = .ok (.enter 47 args) w := by
  simp [callFunc, go_sem, Tryd.func47, Tryd.f47]
theorem one_any (a : Option Addr) (n c : Nat) (w : World) : Calls Tryd.prog 27 #[.slice a n c] w fun e w' => e = .returned (.bool (n == 1)) ∧ w' = w := by
  have HE := Lib.hid (show ((n : Int) == 1) = (n == 1) by rw [Bool.eq_iff_iff, beq_iff_eq, beq_iff_eq]; omega)
  go_enter Tryd.func27, Tryd.ntmps27
  go_wp2
  go_ret
  exact ⟨by rw [← HE.out]; rfl, rfl⟩
theorem to_any3 (e : E3) (p : Nat) (t : Int) (w : World) (hp : w.cell? ⟨p, 0, none⟩ = some (.int .i64 t)) : Calls Tryd.prog 47 #[edgV e, .pointer (some ⟨p, 0, none⟩)] w fun en w' => en = .returned (.bool (e.2.2 == t)) ∧ Below w.heap.size w w' := by
  have h1 := cell_keep hp (below1 w (.cells #[.int .i64 e.1, .int .i64 e.2.1, .int .i64 e.2.2] 57))
  clear hp
  go_enter Tryd.func47, Tryd.ntmps47
  go_wp2_with fail
  go_ret
  exact ⟨rfl, below1 w _⟩
set_option maxRecDepth 100000 in
set_option maxHeartbeats 3200000 in
theorem idxR_any (rows : List (List Int)) (v : Value) (w : World) (h : RowsRd w v rows) (hn : rows.length ≤ 100000) :
    Calls Tryd.prog 26 #[v, .func (.func 27) #[] #[]] w fun e w' => (e = .returned (.int .i64 (match rows.findIdx? (fun r => r.length == 1) with | none => -1 | some i => (i : Int)))) ∧ w' = w := by
  have hE := Tryd.foc1E
  have HR := Lib.hid h
  obtain ⟨a, c, rfl⟩ := h.form
  clear h
  obtain ⟨R, hR⟩ : ∃ R, (match rows.findIdx? (fun r => r.length == 1) with | none => (-1 : Int) | some i => (i : Int)) = R := ⟨_, rfl⟩
  have HRR := Lib.hid hR
  rw [hR]
  clear hR
  go_enter Tryd.func26, Tryd.ntmps26
  go_wp2_with fail
  go_loopg [8] rows.length (fun q s8 wx => ∃ i : Nat, i + q = rows.length ∧ s8 = .int .i64 (i : Int) ∧ Hid (∀ j r, j < i → rows[j]? = some r → (r.length == 1) = false) ∧ wx = w)
  case atStart => exact ⟨0, by omega, rfl, Lib.hid (fun j r hj => absurd hj (Nat.not_lt_zero _)), rfl⟩
  case round =>
    obtain ⟨i, hin, rfl, HF, rfl⟩ := hrel
    rcases gk with _ | q
    · obtain rfl : i = rows.length := by omega
      have HE := Lib.hid (show R = -1 by
        have h1 : rows.findIdx? (fun r => r.length == 1) = none := by
          rw [List.findIdx?_eq_none_iff]
          intro r hr
          obtain ⟨j, hj, rfl⟩ := List.mem_iff_getElem.1 hr
          exact HF.out j _ hj (List.getElem?_eq_getElem hj)
        rw [← HRR.out, h1])
      clear HF HRR
      go_wp2_with fail
      go_ret
      exact ⟨by rw [HE.out]; rfl, rfl⟩
    · obtain ⟨r, hr⟩ : ∃ r, rows[i]? = some r := ⟨_, List.getElem?_eq_getElem (by omega)⟩
      obtain ⟨b, off, cc, u, hv, k1, k2⟩ := HR.out.at hr
      injection hv with e1 e2 e3
      subst e1
      obtain ⟨a8, c8, rfl⟩ := k2.form
      have HC := Lib.hid (one_any a8 r.length c8 wr)
      have j1 : (i : Int) < (rows.length : Int) := by omega
      have HX := Lib.hid hr
      clear hr e2 e3 k2
      cases h1 : (r.length == 1) with
      | true =>
        rw [h1] at HC
        have HE := Lib.hid (show R = (i : Int) by
          have h2 : rows.findIdx? (fun r => r.length == 1) = some i := by
            rw [List.findIdx?_eq_some_iff_getElem]
            obtain ⟨hi, hri⟩ := List.getElem?_eq_some_iff.1 HX.out
            refine ⟨hi, by rw [hri]; exact h1, fun j hj => ?_⟩
            have := HF.out j _ hj (List.getElem?_eq_getElem (by omega))
            rw [this]; decide
          rw [← HRR.out, h2])
        clear h1 HF HRR
        go_wp2_with ((with_reducible refine HC.out.mono ?_); rintro e W1 ⟨rfl, rfl⟩)
        go_ret
        exact ⟨by rw [HE.out]; rfl, rfl⟩
      | false =>
        rw [h1] at HC
        have HF2 := Lib.hid (show ∀ j r, j < i + 1 → rows[j]? = some r → (r.length == 1) = false from fun j r2 hj h2 => by
          by_cases e : j = i
          · subst e
            rw [HX.out] at h2
            injection h2 with h2
            subst h2
            exact h1
          · exact HF.out j r2 (by omega) h2)
        clear h1 HF
        go_wp2_with ((with_reducible refine HC.out.mono ?_); rintro e W1 ⟨rfl, rfl⟩)
        go_roundg q
        case measure => omega
        case rel => exact ⟨i + 1, by omega, by go_num, HF2, rfl⟩
def IdxE (es : List E3) (t : Int) (k : Int) : Prop := match fstE es t with
  | none => k = -1
  | some e => ∃ i : Nat, k = (i : Int) ∧ es[i]? = some e
set_option maxRecDepth 100000 in
set_option maxHeartbeats 3200000 in
theorem idxE_any (es : List E3) (v : Value) (p : Nat) (t : Int) (w : World) (h : EdgesRd w v es) (hn : es.length ≤ 100000) (hp : w.cell? ⟨p, 0, none⟩ = some (.int .i64 t)) :
    Calls Tryd.prog 46 #[v, .func (.func 47) #[] #[.pointer (some ⟨p, 0, none⟩)]] w fun e w' => (∃ k, e = .returned (.int .i64 k) ∧ IdxE es t k) ∧ Below w.heap.size w w' := by
  have hE := Tryd.lab1E
  have HR := Lib.hid h
  have HP := Lib.hid hp
  obtain ⟨a, c, rfl⟩ := h.form
  clear h hp
  go_enter Tryd.func46, Tryd.ntmps46
  go_wp2_with fail
  go_loopg [8] es.length (fun q s8 wx => ∃ i : Nat, i + q = es.length ∧ s8 = .int .i64 (i : Int) ∧ Hid (fstE (es.take i) t = none) ∧ Hid (Below w.heap.size w wx))
  case atStart => exact ⟨0, by omega, rfl, Lib.hid rfl, Lib.hid (Below.refl _ _)⟩
  case round =>
    obtain ⟨i, hin, rfl, HF, HB⟩ := hrel
    rcases gk with _ | q
    · obtain rfl : i = es.length := by omega
      have HE := Lib.hid (show IdxE es t (-1) by
        have h1 := HF.out
        rw [List.take_length] at h1
        unfold IdxE; rw [h1])
      go_wp2_with fail
      go_ret
      exact ⟨⟨_, rfl, HE.out⟩, HB.out⟩
    · obtain ⟨r, hr⟩ : ∃ r, es[i]? = some r := ⟨_, List.getElem?_eq_getElem (by omega)⟩
      obtain ⟨b, off, cc, hv, k1, k2, k3⟩ := (HR.out.keep HB.out).at hr
      injection hv with e1 e2 e3
      subst e1
      have HC := Lib.hid (to_any3 r p t wr (cell_keep HP.out HB.out))
      have j1 : (i : Int) < (es.length : Int) := by omega
      have HX := Lib.hid hr
      obtain ⟨x, y, z⟩ := r
      dsimp only at k1 k2 k3
      clear hr e2 e3
      cases h1 : (z == t) with
      | true =>
        rw [h1] at HC
        have HE := Lib.hid (show IdxE es t (i : Int) by
          unfold IdxE
          rw [fstE_at HX.out (beq_iff_eq.1 h1) HF.out]
          exact ⟨i, rfl, HX.out⟩)
        clear h1 HF
        go_wp2_with ((with_reducible refine HC.out.mono ?_); rintro e W1 ⟨rfl, b1⟩; (have HB2 := Lib.hid (HB.out.trans (b1.mono HB.out.size))))
        go_ret
        exact ⟨⟨_, rfl, HE.out⟩, HB2.out⟩
      | false =>
        rw [h1] at HC
        have HF2 := Lib.hid (show fstE (es.take (i + 1)) t = none by
          rw [take_snoc HX.out, fstE_snoc, HF.out, if_neg (beq_eq_false_iff_ne.1 h1)]; rfl)
        clear h1 HF
        go_wp2_with ((with_reducible refine HC.out.mono ?_); rintro e W1 ⟨rfl, b1⟩; (have HB2 := Lib.hid (HB.out.trans (b1.mono HB.out.size))))
        go_roundg q
        case measure => omega
        case rel => exact ⟨i + 1, by omega, by go_num, HF2, HB2⟩
theorem ints_rev {w W : World} {g c q : Nat} {l : List Int} {m : Nat} (hm : l.length = m) (h : IntsAt W w.heap.size (.slice (some ⟨g, 0, none⟩) m c) l) :
    IntsRd ((W.drewN q).setCells g 0 (((l.take m).reverse).map (Value.int .i64))) (.slice (some ⟨g, 0, none⟩) m c) l.reverse := by
  subst hm
  rw [List.take_length]
  refine ⟨_, c, by rw [List.length_reverse], fun i x hx => ⟨g, 0, rfl, ?_⟩⟩
  have hi : i < (l.reverse.map (Value.int .i64)).length := by rw [List.length_map]; exact (List.getElem?_eq_some_iff.1 hx).1
  have hs : ∀ j, j < (l.reverse.map (Value.int .i64)).length → ((W.drewN q).cell? ⟨g, 0 + j, none⟩).isSome = true := fun j hj => by
    have hj2 : j < l.length := by rw [List.length_map, List.length_reverse] at hj; exact hj
    have h2 : (W.drewN q).cell? ⟨g, 0 + j, none⟩ = some (.int .i64 l[j]) := by rw [Nat.zero_add]; exact IntsAt.cell h (List.getElem?_eq_getElem hj2)
    rw [h2]; rfl
  rw [World.cell?_setCells_in g _ 0 _ hs i hi]
  rw [List.getElem_map]
  obtain ⟨h3, h4⟩ := List.getElem?_eq_some_iff.1 hx
  rw [h4]
theorem blk_lo {W W4 : World} {A t s k p : Nat} {v : Value} {xs : List Value} {o : Obj} (hp : p < W.heap.size) (hr : W.ownsRow A t s v k xs) (hA : p < A) (hg : (W.alloc o).grownBy W4 v.ownBlock) : W4.heap[p]? = W.heap[p]? :=
  (hg.block p (by rw [World.size_alloc]; omega) (fun e => by have := (hr.lt p e.symm).1; omega)).trans (Below.heap_alloc _ _ _ hp)
theorem boxed_lo {W W4 : World} {A t s k p : Nat} {u v : Value} {ty : TypeId} {xs : List Value} {o : Obj} (h : Boxed W p ty u) (hr : W.ownsRow A t s v k xs) (hA : p < A) (hg : (W.alloc o).grownBy W4 v.ownBlock) : Boxed W4 p ty u := (blk_lo h.lt hr hA hg).trans h
theorem boxg_lo {W W4 : World} {A t s k p : Nat} {x y : Int} {z v : Value} {xs : List Value} {o : Obj} (h : BoxG W p x y z) (hp : p < W.heap.size) (hr : W.ownsRow A t s v k xs) (hA : p < A) (hg : (W.alloc o).grownBy W4 v.ownBlock) : BoxG W4 p x y z :=
  have hb := blk_lo hp hr hA hg
  ⟨(World.cell?_of_block (a := ⟨p, 0, none⟩) hb).trans h.1, (World.cell?_of_block (a := ⟨p, 1, none⟩) hb).trans h.2.1, (World.cell?_of_block (a := ⟨p, 2, none⟩) hb).trans h.2.2⟩
def LabOut (w : World) (l : List Int) (e : Ending) (w' : World) : Prop := ∃ v, e = .returned v ∧ IntsRd w' v l ∧ Below w.heap.size w w'
theorem rev_any (w W : World) (v : Value) (l : List Int) (h : IntsAt W w.heap.size v l) (hl : l.length ≤ 100000) (hw : w.heap.size ≤ W.heap.size) :
    Calls Tryd.prog 48 #[v] W fun e w' => e = .returned (.tuple #[]) ∧ IntsRd w' v l.reverse ∧ Below w.heap.size W w' := by
  by_cases h0 : l = []
  · subst h0
    obtain ⟨a, c, rfl⟩ := h.slice
    refine (Tryd.slices_Reverse_int_empty a c W).mono ?_
    rintro e w' ⟨he, rfl⟩
    exact ⟨he, ⟨a, c, rfl, fun i x hx => by simp at hx⟩, Below.refl _ _⟩
  · obtain ⟨g, c, rfl⟩ := h.row (List.length_pos_iff.2 h0)
    have hc : ∀ j, j < l.length → W.cell? ⟨g, 0 + j, none⟩ = some (.int .i64 (l.getD j 0)) := fun j hj => by
      rw [Nat.zero_add, List.getD_eq_getElem?_getD, List.getElem?_eq_getElem hj]
      exact IntsAt.cell h (List.getElem?_eq_getElem hj)
    have hf : ∀ j, j < l.length → W.frozen? ⟨g, 0 + j, none⟩ = false := fun j hj => by
      rcases h.2 with ⟨h1, h2⟩ | ⟨g2, cap, cur, h1, h2, h3, _⟩
      · exact absurd (List.length_eq_zero_iff.1 h2) h0
      · injection h1 with h1
        injection h1 with h1
        injection h1 with h1
        subst h1
        simp [World.frozen?, h3]
    refine (Tryd.slices_Reverse_int_cells g 0 l.length c l W (Nat.le_refl _) (by omega) hc hf).mono ?_
    rintro e w' ⟨he, q, rfl⟩
    have hg : w.heap.size ≤ g := (World.ownsRow.lt h g rfl).1
    exact ⟨he, ints_rev rfl h, Lib.below_setCells g hg _ _ (below_drewM (Below.refl _ W) q)⟩
set_option maxRecDepth 100000 in
set_option maxHeartbeats 3200000 in
theorem labels_any (La : Int) (b : Bs) (v : Value) (s : Nat) (w : World) (h : EdgesRd w v b.2) (hf : FFN b) (hs : s < b.1.length) (hl : b.1.length ≤ 64) (hm : b.2.length ≤ 1024) :
    Calls Tryd.prog 28 #[grV La ((b.1.length : Nat) : Int) v, .int .i64 (s : Int)] w (LabOut w (labF b.2 s)) := by
  obtain ⟨i0, hi, hz0, hz1, hz2⟩ := info_parts Tryd.infoI64
  have HR := Lib.hid h
  have HF := Lib.hid hf
  obtain ⟨n, hn⟩ : ∃ n, b.1.length = n := ⟨_, rfl⟩
  have HN := Lib.hid hn
  rw [hn] at hs hl ⊢
  obtain ⟨a, c, rfl⟩ := h.form
  obtain ⟨W1, hW1⟩ : ∃ W1, w.alloc (.cells #[.int .i64 La, .int .i64 (n : Int), .slice a b.2.length c] 24) = W1 := ⟨_, rfl⟩
  have z1 : W1.heap.size = w.heap.size + 1 := by rw [← hW1, World.size_alloc]
  have G1 := Lib.hid (show BoxG (W1.alloc (.cells #[.int .i64 (s : Int)] 3)) w.heap.size La (n : Int) (.slice a b.2.length c) by rw [← hW1]; exact (BoxG.new w La (n : Int) _ _).keep (below1 _ _))
  have P1 := Lib.hid (show Boxed (W1.alloc (.cells #[.int .i64 (s : Int)] 3)) (w.heap.size + 1) 3 (.int .i64 (s : Int)) by rw [← z1]; exact Boxed.new _ _ _)
  have B1 := Lib.hid (show Below w.heap.size w (W1.alloc (.cells #[.int .i64 (s : Int)] 3)) by rw [← hW1]; exact below_more (below1 w _) (Nat.le_refl _) (below1 _ _))
  have HZ := Lib.hid (show w.heap.size + 2 ≤ (W1.alloc (.cells #[.int .i64 (s : Int)] 3)).heap.size by rw [World.size_alloc]; omega)
  rw [← hW1] at G1 P1 B1 HZ
  clear h hf hn hW1 z1 W1
  go_enter Tryd.func28, Tryd.ntmps28
  go_wp2_with fail
  generalize ((w.alloc (.cells #[.int .i64 La, .int .i64 (n : Int), .slice a b.2.length c] 24)).alloc (.cells #[.int .i64 (s : Int)] 3)) = W1 at *
  have HS0 := Lib.hid (show ([] : List Int) ++ labP b.2 s s = labP b.2 s s from rfl)
  have HI0 := Lib.hid (ints_nil W1 (w.heap.size + 2))
  go_loopg [5] s (fun q s5 wx => ∃ (k : Nat) (ls : List Int), k ≤ q ∧ k < n ∧ Hid (ls ++ labP b.2 k k = labP b.2 s s) ∧ Hid (IntsAt wx (w.heap.size + 2) s5 ls) ∧ Hid (BoxG wx w.heap.size La (n : Int) (.slice a b.2.length c)) ∧ Hid (Boxed wx (w.heap.size + 1) 3 (.int .i64 (k : Int))) ∧ Hid (Below w.heap.size w wx) ∧ w.heap.size + 2 ≤ wx.heap.size ∧ ls.length ≤ 1000 - q)
  case atStart => exact ⟨s, [], Nat.le_refl _, hs, HS0, HI0, G1, P1, B1, HZ.out, Nat.zero_le _⟩
  case round =>
    clear HS0 HI0 G1 P1 B1 HZ
    obtain ⟨k, ls, hkq, hkn, HL, HI, G, P, B, hsz, hll⟩ := hrel
    have xp := P.out.cell
    obtain ⟨x1, x2, x3⟩ := id G.out
    by_cases h0 : k = 0
    · subst h0
      have HE := Lib.hid (show ls = labP b.2 s s by have := HL.out; rw [labP_zero, List.append_nil] at this; exact this)
      have HRV := Lib.hid (rev_any w wr u5 ls (own_low HI.out (by omega)) (by omega) (by omega))
      obtain ⟨a5, c5, rfl⟩ := HI.out.slice
      obtain ⟨m, hm5⟩ : ∃ m, ls.length = m := ⟨_, rfl⟩
      rw [hm5] at HRV ⊢
      clear hm5
      go_wp2_with (go_at_call 48; (with_reducible refine HRV.out.mono ?_); rintro e W2 ⟨rfl, hi2, b2⟩)
      go_ret
      refine ⟨_, rfl, ?_, B.out.trans b2⟩
      unfold labF
      rw [← HE.out]
      exact hi2
    · obtain ⟨e, he, he0, he1⟩ := HF.out.ff k (by omega) (by rw [HN.out]; exact hkn)
      have j0 : ((k : Int) != 0) = true := by rw [bne_iff_ne]; omega
      have HIX := Lib.hid (idxE_any b.2 (.slice a b.2.length c) (w.heap.size + 1) (k : Int) wr (HR.out.keep B.out) (by omega) xp)
      have HID := Lib.hid (fun kk (h : IdxE b.2 (k : Int) kk) => show ∃ i : Nat, kk = (i : Int) ∧ b.2[i]? = some e by unfold IdxE at h; rw [he] at h; exact h)
      have HL2 := Lib.hid (show (ls ++ [e.2.1]) ++ labP b.2 e.1.toNat e.1.toNat = labP b.2 s s by
        rw [← HL.out]
        obtain ⟨k', rfl⟩ : ∃ k', k = k' + 1 := ⟨k - 1, by omega⟩
        rw [labP_step h0 he, labP_more HF.out k' e.1.toNat (by omega) (by rw [HN.out]; omega), List.append_assoc]; rfl)
      obtain ⟨x, y, z⟩ := e
      dsimp only at he0 he1 HL2
      obtain ⟨x, rfl⟩ : ∃ m : Nat, x = (m : Int) := ⟨x.toNat, by omega⟩
      have hown := HI.out
      unfold IntsAt at hown
      obtain ⟨m, hm5⟩ : ∃ m, ls.length = m := ⟨_, rfl⟩
      have HM := Lib.hid hm5
      obtain ⟨a5, c5, rfl⟩ := own_slice hown
      rw [hm5] at hown hll
      rw [hm5] at HI ⊢
      clear hm5 he h0
      go_upto_region 4 with (go_at_call 46; (with_reducible refine HIX.out.mono ?_); rintro e0 W2 ⟨⟨kk, rfl, hk⟩, b2⟩; (obtain ⟨ii, rfl, hii⟩ := HID.out kk hk))
      have hown2 := (World.ownsRow.kept hown (grown_none b2) (by cases (Value.slice a5 m c5).ownBlock <;> simp))
      have P2 := P.out.kept (grown_none b2) (by simp)
      have G2 := G.out.keep b2
      have B2 := Lib.hid (below_more B.out (by omega) b2)
      have hs2 := b2.size
      obtain ⟨bb, off, c', hv, k1, k2, k3⟩ := (HR.out.keep B2.out).at hii
      injection hv with e1 e2 e3
      subst e1
      subst e3
      obtain ⟨x1, x2, x3⟩ := id G2
      have xp := P2.cell
      have hil : ii < b.2.length := (List.getElem?_eq_some_iff.1 hii).1
      have j1 : (ii : Int) < (b.2.length : Int) := by omega
      dsimp only at k1 k2 k3
      have HI2 := Lib.hid hii
      clear hii e2 hk HIX HID P G B b2 k3
      go_wp2_with (at_builtin; refine wpList_append_own_at _ rfl _ _ 25 rfl (w.heap.size + 2) 3 i0 (.int .i64 0) 1 8 Tryd.underlying25 hi hz0 hz1 hz2 rfl (by decide) _ _ _ rfl (hown2.alloc _) ⟨W2.heap.size, 0, none⟩ 1 1 [.int .i64 y] rfl rfl (cell_one_new _ _ _) (by intro u hu; simp at hu; subst hu; rfl) (by unfold maxLen; omega) (by omega) (by rw [World.size_alloc]; omega) ?_; intro v' w4 hown4 hgrow4 hnil4 hloc4; (obtain ⟨g4, cap4, rfl, -, -⟩ := hown4.form (Nat.succ_pos _)); (have P4 := boxed_lo P2 hown2 (by omega) hgrow4); (have xp4 := P4.cell); (have fp4 := P4.frozen); (have G4 := boxg_lo G2 (show w.heap.size < W2.heap.size by omega) hown2 (by omega) hgrow4); (obtain ⟨x1, x2, x3⟩ := id G4); (have B4 := Lib.hid (((B2.out.alloc (by omega) _).grown hgrow4 (by rw [World.size_alloc]; omega) (fun k e => by have := (hown2.lt k e).1; omega)))); (have HR4 := (HR.out.keep B4.out).at HI2.out); (obtain ⟨bb4, off4, c4, hv4, q1, q2, q3⟩ := HR4); (injection hv4 with e4 e5 e6); (injection e4 with e4); (injection e4 with e4 e7 e8); (subst e4); (subst e7); (subst e6); dsimp only at q1 q2)
      have HI5 := Lib.hid (show IntsAt (w4.setCell ⟨w.heap.size + 1, 0, none⟩ (.int .i64 (x : Int))) (w.heap.size + 2) (.slice (some ⟨g4, 0, none⟩) (m + 1) cap4) (ls ++ [y]) from by
        have h1 : IntsAt w4 (w.heap.size + 2) (.slice (some ⟨g4, 0, none⟩) (m + 1) cap4) (ls ++ [y]) := by unfold IntsAt; rw [intz_snoc, List.length_append, HM.out]; exact hown4
        exact ownsRow_setCell_below h1 (by show w.heap.size + 1 < w.heap.size + 2; omega) _)
      go_roundg x
      case measure => omega
      case rel =>
        refine ⟨x, ls ++ [y], Nat.le_refl _, by omega, Lib.hid (by have := HL2.out; rwa [Int.toNat_natCast] at this), HI5, Lib.hid ?_, Lib.hid (P4.set _), Lib.hid (B4.out.setCell (by show w.heap.size ≤ w.heap.size + 1; omega) _), by rw [World.size_setCell]; have := hgrow4.size; rw [World.size_alloc] at this; omega, by rw [List.length_append, HM.out]; simp; omega⟩
        exact ⟨by rw [World.cell?_setCell_far _ _ _ _ (by show w.heap.size + 1 ≠ w.heap.size; omega)]; exact x1, by rw [World.cell?_setCell_far _ _ _ _ (by show w.heap.size + 1 ≠ w.heap.size; omega)]; exact x2, by rw [World.cell?_setCell_far _ _ _ _ (by show w.heap.size + 1 ≠ w.heap.size; omega)]; exact x3⟩
end Go.Proofs.YthhbbiafffpknaaDoor
