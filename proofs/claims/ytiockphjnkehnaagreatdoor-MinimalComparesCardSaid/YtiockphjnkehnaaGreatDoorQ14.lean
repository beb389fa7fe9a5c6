/- What subset.Build and From return. Conditions: the edges can be read; the library's table reads as its text lays it. What grooveref09.Compare returns. No condition. What grooveref09.Check, grooveref09.Great and groovelaw09.fine return. No condition but that the edges can be read. -/
import Derived.Test.YtiockphjnkehnaaGreatDoorQ13
import Derived.Test.YtiockphjnkehnaaGreatDoorQ09

namespace Go.Proofs.YtiockphjnkehnaaGreatDoor
open Go.RowKit Go.Maps
set_option linter.unusedSimpArgs false
set_option linter.unusedVariables false

theorem asc_ext : ∀ {l m : List Int}, l.Pairwise (· < ·) → m.Pairwise (· < ·) → (∀ x, x ∈ l ↔ x ∈ m) → l = m
  | [], [], _, _, _ => rfl
  | [], b :: m, _, _, h => by have := (h b).2 (by simp); cases this
  | a :: l, [], _, _, h => by have := (h a).1 (by simp); cases this
  | a :: l, b :: m, h1, h2, h => by
    rw [List.pairwise_cons] at h1 h2
    have e : a = b := by
      have ha := (h a).1 (by simp)
      have hb := (h b).2 (by simp)
      rw [List.mem_cons] at ha hb
      rcases ha with ha | ha
      · exact ha
      · rcases hb with hb | hb
        · exact hb.symm
        · have := h1.1 b hb; have := h2.1 a ha; omega
    subst e
    rw [asc_ext h1.2 h2.2 (fun x => ⟨fun hx => by
      have := (h x).1 (by simp [hx])
      rw [List.mem_cons] at this
      rcases this with rfl | this
      · have := h1.1 x hx; omega
      · exact this, fun hx => by
      have := (h x).2 (by simp [hx])
      rw [List.mem_cons] at this
      rcases this with rfl | this
      · have := h2.1 x hx; omega
      · exact this⟩)]
theorem ofN_bit {l : List Int} (h : ∀ s ∈ l, 0 ≤ s ∧ s < 64) (i : Nat) : (ofN l).testBit i = decide ((i : Int) ∈ l) := by
  have : ∀ (k : Nat), (ofN (l.take k)).testBit i = decide ((i : Int) ∈ l.take k) := by
    intro k
    induction k with
    | zero => rw [List.take_zero]; simp [ofN]
    | succ k ih =>
      cases hx : l[k]? with
      | none =>
        have hl := List.getElem?_eq_none_iff.1 hx
        have e : l.take (k + 1) = l.take k := by rw [List.take_of_length_le (by omega), List.take_of_length_le hl]
        rw [e]; exact ih
      | some x =>
        have hxx := h x (List.mem_of_getElem? hx)
        rw [take_snoc hx, ofN_snoc, Nat.testBit_or, ih, Nat.testBit_two_pow]
        rw [Bool.eq_iff_iff]
        simp only [Bool.or_eq_true, decide_eq_true_iff, List.mem_append, List.mem_singleton]
        constructor
        · rintro (h1 | h1)
          · exact .inl h1
          · exact .inr (by omega)
        · rintro (h1 | h1)
          · exact .inl h1
          · exact .inr (by omega)
  have h2 := this l.length
  rwa [List.take_length] at h2
theorem ofN_lt64 {l : List Int} (h : ∀ s ∈ l, 0 ≤ s ∧ s < 64) : ofN l < 18446744073709551616 := by
  have := ofN_lt l l.length h
  rwa [List.take_length] at this
theorem memN_asc (S : Nat) : (memN S).Pairwise (· < ·) := mems_asc _ _
theorem memN_ofN {n : Nat} {l : List Int} (h : SG (n : Int) l) (hn : n ≤ 64) : memN (ofN l) = l := by
  have hb : ∀ s ∈ l, 0 ≤ s ∧ s < 64 := fun s hs => by have := h.bd s hs; omega
  refine asc_ext (memN_asc _) h.asc (fun x => ?_)
  constructor
  · intro hx
    obtain ⟨i, rfl, hi, h2⟩ := mems_mem.1 hx
    rw [ofN_bit hb, decide_eq_true_iff] at h2
    exact h2
  · intro hx
    obtain ⟨h1, h2⟩ := h.bd x hx
    obtain ⟨i, rfl⟩ : ∃ i : Nat, x = (i : Int) := ⟨x.toNat, by omega⟩
    rw [memN_mem (ofN_lt64 hb), ofN_bit hb]
    exact decide_eq_true hx
theorem ofN_ne {l : List Int} (h : ∀ s ∈ l, 0 ≤ s ∧ s < 64) (hl : l ≠ []) : ofN l ≠ 0 := by
  obtain ⟨a, r, rfl⟩ := List.exists_cons_of_ne_nil hl
  intro e
  have h0 := h a (by simp)
  have h1 := ofN_bit h a.toNat
  rw [e, Nat.zero_testBit] at h1
  have h2 : ((a.toNat : Nat) : Int) ∈ a :: r := by rw [show ((a.toNat : Nat) : Int) = a by omega]; simp
  rw [decide_eq_true h2] at h1
  cases h1
theorem ofN_small {n : Nat} {l : List Int} (h : SG (n : Int) l) (hn : n ≤ 64) : ∀ i, (ofN l).testBit i = true → i < n := fun i hi => by
  rw [ofN_bit (fun s hs => by have := h.bd s hs; omega), decide_eq_true_iff] at hi
  have := h.bd _ hi
  omega
theorem fullN_ne {n : Nat} (h : n ≠ 0) : fullN n ≠ 0 := fun e => by
  have h1 := fullN_bit n 0
  rw [e, Nat.zero_testBit, decide_eq_true (by omega)] at h1
  cases h1
theorem fullN_small (n : Nat) : ∀ i, (fullN n).testBit i = true → i < n := fun i hi => by rw [fullN_bit, decide_eq_true_iff] at hi; exact hi
def buildR (La S : Int) (es : List E3) : Int × Bs :=
  if chkG La S es = 0 then (if S = 0 then (0, ([], [])) else (bErr (builtN es La.toNat (fullN S.toNat)), bSets (builtN es La.toNat (fullN S.toNat)))) else (1, ([], []))
def fromR (La S : Int) (es : List E3) (set : List Int) : Int × Bs :=
  if chkG La S es = 0 then (if chkS S none set = 0 then (if set = [] then (5, ([], [])) else (bErr (builtN es La.toNat (ofN set)), bSets (builtN es La.toNat (ofN set)))) else (chkS S none set, ([], []))) else (1, ([], []))
def SG3 (p : Nat) (x y : Int) (z : Value) (W : World) : Prop := W.cell? ⟨p, 0, none⟩ = some (.int .i64 x) ∧ W.cell? ⟨p, 1, none⟩ = some (.int .i64 y) ∧ W.cell? ⟨p, 2, none⟩ = some z
theorem SG3.keep5 {p : Nat} {x y : Int} {z : Value} {W W' : World} (h : SG3 p x y z W) (hb : Below W.heap.size W W') : SG3 p x y z W' := ⟨cell_keep h.1 hb, cell_keep h.2.1 hb, cell_keep h.2.2 hb⟩
theorem SG3.far {p b : Nat} {x y : Int} {z : Value} {W : World} (h : SG3 p x y z W) (hb : b ≠ p) (x1 x2 x3 : Value) : SG3 p x y z (((W.setCell ⟨b, 0, none⟩ x1).setCell ⟨b, 1, none⟩ x2).setCell ⟨b, 2, none⟩ x3) := by
  have f : ∀ (o : Nat), (((W.setCell ⟨b, 0, none⟩ x1).setCell ⟨b, 1, none⟩ x2).setCell ⟨b, 2, none⟩ x3).cell? ⟨p, o, none⟩ = W.cell? ⟨p, o, none⟩ := fun o => by
    rw [World.cell?_setCell_far _ _ _ _ (by exact hb), World.cell?_setCell_far _ _ _ _ (by exact hb), World.cell?_setCell_far _ _ _ _ (by exact hb)]
  exact ⟨(f 0).trans h.1, (f 1).trans h.2.1, (f 2).trans h.2.2⟩
theorem two_boxes (w : World) (La S : Int) (v : Value) : let W := (w.alloc (.cells #[.int .i64 La, .int .i64 S, v] 24)).alloc (.cells #[.int .i64 0, .int .i64 0, .slice none 0 0] 24)
    BoxG W w.heap.size La S v ∧ GBox W (w.heap.size + 1) (.int .i64 0) (.int .i64 0) (.slice none 0 0) ∧ Below w.heap.size w W ∧ W.heap.size = w.heap.size + 2 := by
  intro W
  refine ⟨(BoxG.new w La S v 24).keep (below1 _ _), ?_, below_more (below1 w _) (Nat.le_refl _) (below1 _ _), by show (World.alloc _ _).heap.size = _; rw [World.size_alloc, World.size_alloc]⟩
  have h := GBox.new (w.alloc (.cells #[.int .i64 La, .int .i64 S, v] 24)) (.int .i64 0) (.int .i64 0) (.slice none 0 0)
  rw [World.size_alloc] at h
  exact h
set_option maxRecDepth 100000 in
set_option maxHeartbeats 6400000 in
theorem Build_any (La S : Int) (es : List E3) (v : Value) (w : World) (hrd : EdgesRd w v es) (hn : es.length ≤ 9223372036854775807) (hT : TabD w) :
    Calls Tryz.prog 19 #[grV La S v] w (SetsOut w La (buildR La S es).1 (buildR La S es).2) := by
  have hmx : Tryz.prog.follows .mixedOrders = true := by kernel_rfl
  obtain ⟨hbx, hgx, hbb, hsz⟩ := two_boxes w La S v
  have HCH := Lib.hid (gcheck_any La S es v _ (hrd.keep hbb) hn)
  have HBX := Lib.hid hbx
  have HGX := Lib.hid hgx
  have HBB := Lib.hid hbb
  obtain ⟨x1, x2, x3⟩ := id hbx
  by_cases h0 : chkG La S es = 0
  · have hvg := chkG_zero h0
    obtain ⟨n, rfl⟩ : ∃ n : Nat, S = (n : Int) := ⟨S.toNat, by have := hvg.s1; omega⟩
    obtain ⟨La, rfl⟩ : ∃ n : Nat, La = (n : Int) := ⟨La.toNat, by have := hvg.l1; omega⟩
    rw [h0] at HCH
    by_cases hz : n = 0
    · have HE := Lib.hid (show buildR (La : Int) (n : Int) es = (0, ([], [])) by unfold buildR; rw [if_pos h0, if_pos (by omega)])
      have d0 : ((n : Int) == 0) = true := by rw [beq_iff_eq]; omega
      obtain ⟨a, c, rfl⟩ := hrd.form
      clear hrd hbx hgx hbb h0 hvg hT hz
      go_enter Tryz.func19, Tryz.ntmps19
      go_wp2_with (go_at_call 42; (with_reducible refine HCH.out.mono ?_); rintro e W2 ⟨rfl, b2⟩; (obtain ⟨x1, x2, x3⟩ := HBX.out.keep b2); (obtain ⟨r1, r2, r3, r4, r5, r6⟩ := (HGX.out.keep b2).cells); (have HB2 := Lib.hid (HBB.out.trans (b2.mono HBB.out.size))))
      refine bodyPost_ret (v := .tuple #[grV (La : Int) 0 (.slice none 0 0), .slice none 0 0, .int .i64 0]) (by simp [results, Tryz.results19, go_sem, r1, r2, r3]) rfl ?_
      rw [HE.out]
      exact ⟨_, _, rfl, edges_nil _ _, RowsAt.nil _ _, below_over HB2.out (Nat.le_succ _) _ _ _⟩
    · have hn64 : n ≤ 64 := by have := hvg.s2; omega
      have HE := Lib.hid (show buildR (La : Int) (n : Int) es = (bErr (builtN es La (fullN n)), bSets (builtN es La (fullN n))) by
        unfold buildR; rw [if_pos h0, if_neg (by omega), Int.toNat_natCast, Int.toNat_natCast])
      have d0 : ((n : Int) == 0) = false := by rw [beq_eq_false_iff_ne]; omega
      obtain ⟨a, c, rfl⟩ := hrd.form
      have HRD := Lib.hid hrd
      have HTT := Lib.hid hT
      have HV := Lib.hid (fun W => every_any (La : Int) n (.slice a es.length c) W hn64)
      have HBD := Lib.hid (fun W (h : EdgesRd W (.slice a es.length c) es) (hT : TabD W) => build_any La n es (.slice a es.length c) (fullN n) W h hvg (fullN_ne hz) (fullN_lt hn64) (fullN_small n) hT)
      generalize builtN es La (fullN n) = R at *
      clear hrd hbx hgx hbb h0 hvg hT hz
      go_enter Tryz.func19, Tryz.ntmps19
      go_upto_region 5 with (go_at_call 42; (with_reducible refine HCH.out.mono ?_); rintro e W2 ⟨rfl, b2⟩; (obtain ⟨x1, x2, x3⟩ := HBX.out.keep b2))
      have HG := Lib.hid (show GBox W2.drew (w.heap.size + 1) (.int .i64 0) (.int .i64 0) (.slice none 0 0) from (show GBox W2 (w.heap.size + 1) (.int .i64 0) (.int .i64 0) (.slice none 0 0) from HGX.out.keep b2))
      have HBB := Lib.hid (show Below w.heap.size w W2.drew from (HBB.out.trans (b2.mono HBB.out.size)).drew)
      have hR0 : SG3 w.heap.size (La : Int) (n : Int) (.slice a es.length c) W2.drew := ⟨x1, x2, x3⟩
      have hsw : w.heap.size + 1 < W2.drew.heap.size := HG.out.lt
      clear x1 x2 x3 b2
      refine regionT (T := T2 8 8 (SG3 w.heap.size (La : Int) (n : Int) (.slice a es.length c)) (SG3 w.heap.size (La : Int) (n : Int) (.slice a es.length c))) hmx ?_
      have hR := hR0
      refine take1 (i := 0) (v := ?_) rfl (by kernel_rfl) (by kernel_rfl) (by kernel_rfl) (by kernel_rfl) (by kernel_rfl) (by decide) (by decide) (fun _ _ _ h => h) (Or.inl ⟨by rfl, ?_⟩) hR hR ?_
      rotate_left
      · intro w hSw
        (try unfold SG3 at hSw)
        go_simp
        all_goals with_reducible rfl
      (try simp only [Act.put, List.setIfInBounds_toArray, List.set_cons_zero, List.set_cons_succ])
      refine take1 (i := 1) (v := ?_) rfl (by kernel_rfl) (by kernel_rfl) (by kernel_rfl) (by kernel_rfl) (by kernel_rfl) (by decide) (by decide) (fun _ _ _ h => h) (Or.inl ⟨by rfl, ?_⟩) hR hR ?_
      rotate_left
      · intro w hSw
        (try unfold SG3 at hSw)
        go_simp
        all_goals with_reducible rfl
      (try simp only [Act.put, List.setIfInBounds_toArray, List.set_cons_zero, List.set_cons_succ])
      refine stepT (i := 2) (by kernel_rfl) rfl (fun K hK => ?_)
      go_simp
      go_at_call 44
      (with_reducible refine (HV.out W2.drew).mono ?_)
      rintro e0 W5 ⟨rfl, b5⟩
      have hR5 := hR0.keep5 b5
      have HB6 := Lib.hid (show Below w.heap.size w W5 from HBB.out.trans (b5.mono (by have := HBB.out.size; omega)))
      go_wp2_with fail
      refine hK.out _ _ ⟨fun _ => hR5, fun _ => hR5⟩ ?_
      clear hK K hR
      have hR := hR5
      (try simp only [Act.put, List.setIfInBounds_toArray, List.set_cons_zero, List.set_cons_succ])
      refine stepT (i := 3) (by kernel_rfl) rfl (fun K hK => ?_)
      go_simp
      go_at_call 43
      (with_reducible refine (HBD.out W5 (HRD.out.keep HB6.out) (HTT.out.keep HB6.out)).mono ?_)
      rintro e0 W6 ⟨hv, lv, rfl, he6, hr6, b6⟩
      have hR6 := hR5.keep5 b6
      have HB7 := Lib.hid (show Below w.heap.size w W6 from HB6.out.trans (b6.mono (by have := HB6.out.size; omega)))
      have G7 := GBox.keep (W := W2.drew) (W' := W5) HG.out b5
      have G8 := G7.keep b6
      obtain ⟨r1, r2, r3, r4, r5, r6⟩ := G8.cells
      obtain ⟨ah, ch, rfl⟩ := he6.slice
      obtain ⟨al, rfl⟩ := hr6.form
      go_wp2_with fail
      refine hK.out _ _ ⟨fun _ => hR6, fun _ => hR6⟩ ?_
      clear hK K hR
      have hR := hR6
      (try simp only [Act.put, List.setIfInBounds_toArray, List.set_cons_zero, List.set_cons_succ])
      refine take1 (i := 4) (v := ?_) rfl (by kernel_rfl) (by kernel_rfl) (by kernel_rfl) (by kernel_rfl) (by kernel_rfl) (by decide) (by decide) (fun _ _ _ h => h) (Or.inl ⟨by rfl, ?_⟩) hR hR ?_
      rotate_left
      · intro w hSw
        (try unfold SG3 at hSw)
        go_simp
        all_goals with_reducible rfl
      (try simp only [Act.put, List.setIfInBounds_toArray, List.set_cons_zero, List.set_cons_succ])
      refine take1 (i := 5) (v := ?_) rfl (by kernel_rfl) (by kernel_rfl) (by kernel_rfl) (by kernel_rfl) (by kernel_rfl) (by decide) (by decide) (fun _ _ _ h => h) (Or.inl ⟨by rfl, ?_⟩) hR hR ?_
      rotate_left
      · intro w hSw
        (try unfold SG3 at hSw)
        go_simp
        all_goals with_reducible rfl
      (try simp only [Act.put, List.setIfInBounds_toArray, List.set_cons_zero, List.set_cons_succ])
      refine take1 (i := 6) (v := ?_) rfl (by kernel_rfl) (by kernel_rfl) (by kernel_rfl) (by kernel_rfl) (by kernel_rfl) (by decide) (by decide) (fun _ _ _ h => h) (Or.inl ⟨by rfl, ?_⟩) hR hR ?_
      rotate_left
      · intro w hSw
        (try unfold SG3 at hSw)
        go_simp
        all_goals with_reducible rfl
      (try simp only [Act.put, List.setIfInBounds_toArray, List.set_cons_zero, List.set_cons_succ])
      refine stepT (i := 7) (by kernel_rfl) rfl (fun K hK => ?_)
      go_simp
      have hR7 := hR6.far (show w.heap.size + 1 ≠ w.heap.size by omega) (.int .i64 (onOk (bErr R) (La : Int))) (.int .i64 (((bSets R).1.length : Nat) : Int)) (.slice ah (bSets R).2.length ch)
      refine hK.out _ _ ⟨fun _ => hR7, fun _ => hR7⟩ ?_
      clear hK K hR
      have hR := hR7
      (try simp only [Act.put, List.setIfInBounds_toArray, List.set_cons_zero, List.set_cons_succ])
      refine stepT (i := 8) (by kernel_rfl) rfl (fun K hK => ?_)
      go_simp
      refine hK.out _ _ ⟨fun h => absurd h (by decide), fun h => absurd h (by decide)⟩ ?_
      clear hK K
      (try simp only [Act.put, List.setIfInBounds_toArray, List.set_cons_zero, List.set_cons_succ])
      refine stepT (i := 9) (by kernel_rfl) rfl (fun K hK => ?_)
      go_simp
      refine hK.out _ _ ⟨fun h => absurd h (by decide), fun h => absurd h (by decide)⟩ ?_
      clear hK K
      (try simp only [Act.put, List.setIfInBounds_toArray, List.set_cons_zero, List.set_cons_succ])
      refine doneT (by kernel_rfl) ?_ _
      go_wp2_with fail
      rw [HE.out]
      refine bodyPost_ret (v := .tuple #[grV (onOk (bErr R) (La : Int)) (((bSets R).1.length : Nat) : Int) (.slice ah (bSets R).2.length ch), .slice al (bSets R).1.length (bSets R).1.length, .int .i64 (bErr R)]) (by simp [results, Tryz.results19, go_sem, r1, r2, r3]) rfl ?_
      have hs5 := b5.size
      exact ⟨_, _, rfl, edges_over he6 (b := w.heap.size + 1) (by omega) _ _ _ (by omega), hr6.over (b := w.heap.size + 1) (by omega) _ _ _ (by omega), below_over HB7.out (Nat.le_succ _) _ _ _⟩
  · have HE := Lib.hid (show buildR La S es = (1, ([], [])) by unfold buildR; rw [if_neg h0])
    obtain ⟨z, hz⟩ : ∃ z, chkG La S es = z := ⟨_, rfl⟩
    rw [hz] at HCH h0
    have d1 : (z != 0) = true := by simpa using h0
    obtain ⟨a, c, rfl⟩ := hrd.form
    clear hrd hbx hgx hbb h0 hT hz
    go_enter Tryz.func19, Tryz.ntmps19
    go_wp2_with (go_at_call 42; (with_reducible refine HCH.out.mono ?_); rintro e W2 ⟨rfl, b2⟩; (obtain ⟨r1, r2, r3, r4, r5, r6⟩ := (HGX.out.keep b2).cells); (have HB2 := Lib.hid (HBB.out.trans (b2.mono HBB.out.size))))
    refine bodyPost_ret (v := .tuple #[grV 0 0 (.slice none 0 0), .slice none 0 0, .int .i64 1]) (by simp [results, Tryz.results19, go_sem, r1, r2, r3]) rfl ?_
    rw [HE.out]
    exact ⟨_, _, rfl, edges_nil _ _, RowsAt.nil _ _, below_over HB2.out (Nat.le_succ _) _ _ _⟩
theorem fromR_err {La S : Int} {es : List E3} {set : List Int} (h : (keepR La S es set).2.2.2 ≠ 0) : fromR La S es set = ((keepR La S es set).2.2.2, ([], [])) := by
  unfold keepR at h ⊢
  unfold fromR
  by_cases h0 : chkG La S es = 0
  · rw [if_pos h0] at h ⊢
    rw [if_pos h0]
    by_cases h1 : chkS S none set = 0
    · rw [if_pos h1] at h; exact absurd rfl h
    · rw [if_neg h1, if_neg h1]
  · rw [if_neg h0, if_neg h0]
theorem keepR_ok {La S : Int} {es : List E3} {set : List Int} (h : (keepR La S es set).2.2.2 = 0) : chkG La S es = 0 ∧ chkS S none set = 0 := by
  unfold keepR at h
  by_cases h0 : chkG La S es = 0
  · rw [if_pos h0] at h
    by_cases h1 : chkS S none set = 0
    · exact ⟨h0, h1⟩
    · rw [if_neg h1] at h; exact absurd h h1
  · rw [if_neg h0] at h; cases h
theorem sg_len {n : Nat} {l : List Int} (h : SG (n : Int) l) : l.length ≤ n := by
  have e : l = mems n (fun i => decide ((i : Int) ∈ l)) := asc_ext h.asc (mems_asc _ _) (fun x => by
    rw [mems_mem]
    constructor
    · intro hx
      have := h.bd x hx
      exact ⟨x.toNat, by omega, by omega, by rw [decide_eq_true_iff]; rwa [show ((x.toNat : Nat) : Int) = x by omega]⟩
    · rintro ⟨i, rfl, hi, h2⟩
      exact of_decide_eq_true h2)
  rw [e]
  exact mems_len _ _
set_option maxRecDepth 100000 in
set_option maxHeartbeats 6400000 in
theorem From_any (La S : Int) (es : List E3) (v vs : Value) (set : List Int) (w : World) (hrd : EdgesRd w v es) (hn : es.length ≤ 9223372036854775807) (hst : IntsRd w vs set) (hl : set.length ≤ 9223372036854775807) (hT : TabD w) :
    Calls Tryz.prog 22 #[grV La S v, vs] w (SetsOut w La (fromR La S es set).1 (fromR La S es set).2) := by
  have hmx : Tryz.prog.follows .mixedOrders = true := by kernel_rfl
  obtain ⟨hbx, hgx, hbb, hsz⟩ := two_boxes w La S v
  have HKP := Lib.hid (keep_any La S es v vs set _ (hrd.keep hbb) hn (hst.keep hbb) hl)
  have HBX := Lib.hid hbx
  have HGX := Lib.hid hgx
  have HBB := Lib.hid hbb
  obtain ⟨x1, x2, x3⟩ := id hbx
  by_cases h0 : (keepR La S es set).2.2.2 = 0
  · obtain ⟨hc0, hc1⟩ := keepR_ok h0
    have hvg := chkG_zero hc0
    have hsg := chkS_ok hc1
    obtain ⟨n, rfl⟩ : ∃ n : Nat, S = (n : Int) := ⟨S.toNat, by have := hvg.s1; omega⟩
    obtain ⟨La, rfl⟩ : ∃ n : Nat, La = (n : Int) := ⟨La.toNat, by have := hvg.l1; omega⟩
    have hn64 : n ≤ 64 := by have := hvg.s2; omega
    obtain ⟨k1, hk1⟩ : ∃ k, (keepR (La : Int) (n : Int) es set).1 = k := ⟨_, rfl⟩
    obtain ⟨k2, hk2⟩ : ∃ k, (keepR (La : Int) (n : Int) es set).2.1 = k := ⟨_, rfl⟩
    obtain ⟨k3, hk3⟩ : ∃ k, (keepR (La : Int) (n : Int) es set).2.2.1 = k := ⟨_, rfl⟩
    unfold GOut at HKP
    rw [h0, hk1, hk2, hk3] at HKP
    have hsl := sg_len hsg
    by_cases hz : set = []
    · have HE := Lib.hid (show fromR (La : Int) (n : Int) es set = (5, ([], [])) by unfold fromR; rw [if_pos hc0, if_pos hc1, if_pos hz])
      have d0 : ((set.length : Int) == 0) = true := by rw [hz]; rfl
      obtain ⟨a, c, rfl⟩ := hrd.form
      obtain ⟨a2, c2, rfl⟩ := hst.form
      clear hrd hst hbx hgx hbb h0 hvg hT hz hc0 hc1 hsg hk1 hk2 hk3
      obtain ⟨m, hm⟩ : ∃ m, set.length = m := ⟨_, rfl⟩
      rw [hm] at d0 HKP hsl hl ⊢
      clear hm
      go_enter Tryz.func22, Tryz.ntmps22
      go_wp2_with (go_at_call 21; (with_reducible refine HKP.out.mono ?_); rintro e W2 ⟨v2, rfl, he2, b2⟩; (obtain ⟨a5, c5, rfl⟩ := he2.slice); (have G2 := HGX.out.keep b2); (have G3 := G2.keep (below1 W2 (.cells #[.int .i64 k1, .int .i64 k2, .slice a5 k3.length c5] 24))); (obtain ⟨r1, r2, r3, r4, r5, r6⟩ := G3.cells); (have HB2 := Lib.hid (below_more (HBB.out.trans (b2.mono HBB.out.size)) (by have := HBB.out.size; have := b2.size; omega) (below1 W2 (.cells #[.int .i64 k1, .int .i64 k2, .slice a5 k3.length c5] 24)))))
      refine bodyPost_ret (v := .tuple #[grV 0 0 (.slice none 0 0), .slice none 0 0, .int .i64 5]) (by simp [results, Tryz.results22, go_sem, r1, r2, r3]) rfl ?_
      rw [HE.out]
      exact ⟨_, _, rfl, edges_nil _ _, RowsAt.nil _ _, below_over HB2.out (Nat.le_succ _) _ _ _⟩
    · have HE := Lib.hid (show fromR (La : Int) (n : Int) es set = (bErr (builtN es La (ofN set)), bSets (builtN es La (ofN set))) by
        unfold fromR; rw [if_pos hc0, if_pos hc1, if_neg hz, Int.toNat_natCast])
      have hlp : 0 < set.length := List.length_pos_iff.2 hz
      have d0 : ((set.length : Int) == 0) = false := by rw [beq_eq_false_iff_ne]; omega
      have hbd : ∀ s ∈ set, 0 ≤ s ∧ s < 64 := fun s hs => by have := hsg.bd s hs; omega
      obtain ⟨a, c, rfl⟩ := hrd.form
      obtain ⟨a2, c2, rfl⟩ := hst.form
      have HRD := Lib.hid hrd
      have HTT := Lib.hid hT
      have HST := Lib.hid hst
      have HV := Lib.hid (fun W (h : IntsRd W (.slice a2 set.length c2) set) => setOf_any set (.slice a2 set.length c2) W h hbd (by omega))
      have HBD := Lib.hid (fun W (h : EdgesRd W (.slice a es.length c) es) (hT : TabD W) => build_any La n es (.slice a es.length c) (ofN set) W h hvg (ofN_ne hbd hz) (ofN_lt64 hbd) (ofN_small hsg hn64) hT)
      generalize builtN es La (ofN set) = R at *
      generalize ofN set = X at *
      clear hrd hst hbx hgx hbb h0 hvg hT hz hc0 hc1 hsg hk1 hk2 hk3 hbd
      obtain ⟨m, hm⟩ : ∃ m, set.length = m := ⟨_, rfl⟩
      rw [hm] at d0 HKP HST HV hsl hl hlp ⊢
      clear hm
      go_enter Tryz.func22, Tryz.ntmps22
      go_upto_region 6 with (go_at_call 21; (with_reducible refine HKP.out.mono ?_); rintro e W2 ⟨v2, rfl, he2, b2⟩; (obtain ⟨a5, c5, rfl⟩ := he2.slice); (have G2 := HGX.out.keep b2); (have G3 := Lib.hid (G2.keep (below1 W2 (.cells #[.int .i64 k1, .int .i64 k2, .slice a5 k3.length c5] 24)))); (obtain ⟨x1, x2, x3⟩ := (HBX.out.keep b2).keep (below1 W2 (.cells #[.int .i64 k1, .int .i64 k2, .slice a5 k3.length c5] 24))); (have HB2 := Lib.hid (below_more (HBB.out.trans (b2.mono HBB.out.size)) (by have := HBB.out.size; have := b2.size; omega) (below1 W2 (.cells #[.int .i64 k1, .int .i64 k2, .slice a5 k3.length c5] 24)))))
      clear G2 he2 b2 HBX HGX HBB HKP
      generalize W2.alloc (.cells #[.int .i64 k1, .int .i64 k2, .slice a5 k3.length c5] 24) = W3 at *
      have HG := Lib.hid (show GBox W3.drew (w.heap.size + 1) (.int .i64 0) (.int .i64 0) (.slice none 0 0) from G3.out)
      have HBB := Lib.hid (show Below w.heap.size w W3.drew from HB2.out.drew)
      have hR0 : SG3 w.heap.size (La : Int) (n : Int) (.slice a es.length c) W3.drew := ⟨x1, x2, x3⟩
      have hsw : w.heap.size + 1 < W3.drew.heap.size := HG.out.lt
      clear x1 x2 x3
      refine regionT (T := T2 8 8 (SG3 w.heap.size (La : Int) (n : Int) (.slice a es.length c)) (SG3 w.heap.size (La : Int) (n : Int) (.slice a es.length c))) hmx ?_
      have hR := hR0
      refine take1 (i := 0) (v := ?_) rfl (by kernel_rfl) (by kernel_rfl) (by kernel_rfl) (by kernel_rfl) (by kernel_rfl) (by decide) (by decide) (fun _ _ _ h => h) (Or.inl ⟨by rfl, ?_⟩) hR hR ?_
      rotate_left
      · intro w hSw
        (try unfold SG3 at hSw)
        go_simp
        all_goals with_reducible rfl
      (try simp only [Act.put, List.setIfInBounds_toArray, List.set_cons_zero, List.set_cons_succ])
      refine take1 (i := 1) (v := ?_) rfl (by kernel_rfl) (by kernel_rfl) (by kernel_rfl) (by kernel_rfl) (by kernel_rfl) (by decide) (by decide) (fun _ _ _ h => h) (Or.inl ⟨by rfl, ?_⟩) hR hR ?_
      rotate_left
      · intro w hSw
        (try unfold SG3 at hSw)
        go_simp
        all_goals with_reducible rfl
      (try simp only [Act.put, List.setIfInBounds_toArray, List.set_cons_zero, List.set_cons_succ])
      refine stepT (i := 2) (by kernel_rfl) rfl (fun K hK => ?_)
      go_simp
      go_at_call 51
      (with_reducible refine (HV.out W3.drew (HST.out.keep HBB.out)).mono ?_)
      rintro e0 W5 ⟨rfl, b5⟩
      have hR5 := hR0.keep5 b5
      have HB6 := Lib.hid (show Below w.heap.size w W5 from HBB.out.trans (b5.mono (by have := HBB.out.size; omega)))
      go_wp2_with fail
      refine hK.out _ _ ⟨fun _ => hR5, fun _ => hR5⟩ ?_
      clear hK K hR
      have hR := hR5
      (try simp only [Act.put, List.setIfInBounds_toArray, List.set_cons_zero, List.set_cons_succ])
      refine stepT (i := 3) (by kernel_rfl) rfl (fun K hK => ?_)
      go_simp
      go_at_call 43
      (with_reducible refine (HBD.out W5 (HRD.out.keep HB6.out) (HTT.out.keep HB6.out)).mono ?_)
      rintro e0 W6 ⟨hv, lv, rfl, he6, hr6, b6⟩
      have hR6 := hR5.keep5 b6
      have HB7 := Lib.hid (show Below w.heap.size w W6 from HB6.out.trans (b6.mono (by have := HB6.out.size; omega)))
      have G7 := GBox.keep (W := W3.drew) (W' := W5) HG.out b5
      have G8 := G7.keep b6
      obtain ⟨r1, r2, r3, r4, r5, r6⟩ := G8.cells
      obtain ⟨ah, ch, rfl⟩ := he6.slice
      obtain ⟨al, rfl⟩ := hr6.form
      go_wp2_with fail
      refine hK.out _ _ ⟨fun _ => hR6, fun _ => hR6⟩ ?_
      clear hK K hR
      have hR := hR6
      (try simp only [Act.put, List.setIfInBounds_toArray, List.set_cons_zero, List.set_cons_succ])
      refine take1 (i := 4) (v := ?_) rfl (by kernel_rfl) (by kernel_rfl) (by kernel_rfl) (by kernel_rfl) (by kernel_rfl) (by decide) (by decide) (fun _ _ _ h => h) (Or.inl ⟨by rfl, ?_⟩) hR hR ?_
      rotate_left
      · intro w hSw
        (try unfold SG3 at hSw)
        go_simp
        all_goals with_reducible rfl
      (try simp only [Act.put, List.setIfInBounds_toArray, List.set_cons_zero, List.set_cons_succ])
      refine take1 (i := 5) (v := ?_) rfl (by kernel_rfl) (by kernel_rfl) (by kernel_rfl) (by kernel_rfl) (by kernel_rfl) (by decide) (by decide) (fun _ _ _ h => h) (Or.inl ⟨by rfl, ?_⟩) hR hR ?_
      rotate_left
      · intro w hSw
        (try unfold SG3 at hSw)
        go_simp
        all_goals with_reducible rfl
      (try simp only [Act.put, List.setIfInBounds_toArray, List.set_cons_zero, List.set_cons_succ])
      refine take1 (i := 6) (v := ?_) rfl (by kernel_rfl) (by kernel_rfl) (by kernel_rfl) (by kernel_rfl) (by kernel_rfl) (by decide) (by decide) (fun _ _ _ h => h) (Or.inl ⟨by rfl, ?_⟩) hR hR ?_
      rotate_left
      · intro w hSw
        (try unfold SG3 at hSw)
        go_simp
        all_goals with_reducible rfl
      (try simp only [Act.put, List.setIfInBounds_toArray, List.set_cons_zero, List.set_cons_succ])
      refine stepT (i := 7) (by kernel_rfl) rfl (fun K hK => ?_)
      go_simp
      have hR7 := hR6.far (show w.heap.size + 1 ≠ w.heap.size by omega) (.int .i64 (onOk (bErr R) (La : Int))) (.int .i64 (((bSets R).1.length : Nat) : Int)) (.slice ah (bSets R).2.length ch)
      refine hK.out _ _ ⟨fun _ => hR7, fun _ => hR7⟩ ?_
      clear hK K hR
      have hR := hR7
      (try simp only [Act.put, List.setIfInBounds_toArray, List.set_cons_zero, List.set_cons_succ])
      refine stepT (i := 8) (by kernel_rfl) rfl (fun K hK => ?_)
      go_simp
      refine hK.out _ _ ⟨fun h => absurd h (by decide), fun h => absurd h (by decide)⟩ ?_
      clear hK K
      (try simp only [Act.put, List.setIfInBounds_toArray, List.set_cons_zero, List.set_cons_succ])
      refine stepT (i := 9) (by kernel_rfl) rfl (fun K hK => ?_)
      go_simp
      refine hK.out _ _ ⟨fun h => absurd h (by decide), fun h => absurd h (by decide)⟩ ?_
      clear hK K
      (try simp only [Act.put, List.setIfInBounds_toArray, List.set_cons_zero, List.set_cons_succ])
      refine doneT (by kernel_rfl) ?_ _
      go_wp2_with fail
      rw [HE.out]
      refine bodyPost_ret (v := .tuple #[grV (onOk (bErr R) (La : Int)) (((bSets R).1.length : Nat) : Int) (.slice ah (bSets R).2.length ch), .slice al (bSets R).1.length (bSets R).1.length, .int .i64 (bErr R)]) (by simp [results, Tryz.results22, go_sem, r1, r2, r3]) rfl ?_
      have hs5 := b5.size
      exact ⟨_, _, rfl, edges_over he6 (b := w.heap.size + 1) (by omega) _ _ _ (by omega), hr6.over (b := w.heap.size + 1) (by omega) _ _ _ (by omega), below_over HB7.out (Nat.le_succ _) _ _ _⟩
  · have HE := Lib.hid (fromR_err h0)
    obtain ⟨z, hz⟩ : ∃ z, (keepR La S es set).2.2.2 = z := ⟨_, rfl⟩
    obtain ⟨k1, hk1⟩ : ∃ k, (keepR La S es set).1 = k := ⟨_, rfl⟩
    obtain ⟨k2, hk2⟩ : ∃ k, (keepR La S es set).2.1 = k := ⟨_, rfl⟩
    obtain ⟨k3, hk3⟩ : ∃ k, (keepR La S es set).2.2.1 = k := ⟨_, rfl⟩
    unfold GOut at HKP
    rw [hz, hk1, hk2, hk3] at HKP
    rw [hz] at h0 HE
    have d1 : (z != 0) = true := by simpa using h0
    obtain ⟨a, c, rfl⟩ := hrd.form
    obtain ⟨a2, c2, rfl⟩ := hst.form
    clear hrd hst hbx hgx hbb h0 hT hz hk1 hk2 hk3
    obtain ⟨m, hm⟩ : ∃ m, set.length = m := ⟨_, rfl⟩
    rw [hm] at HKP hl ⊢
    clear hm
    go_enter Tryz.func22, Tryz.ntmps22
    go_wp2_with (go_at_call 21; (with_reducible refine HKP.out.mono ?_); rintro e W2 ⟨v2, rfl, he2, b2⟩; (obtain ⟨a5, c5, rfl⟩ := he2.slice); (have G2 := HGX.out.keep b2); (have G3 := G2.keep (below1 W2 (.cells #[.int .i64 k1, .int .i64 k2, .slice a5 k3.length c5] 24))); (obtain ⟨r1, r2, r3, r4, r5, r6⟩ := G3.cells); (have HB2 := Lib.hid (below_more (HBB.out.trans (b2.mono HBB.out.size)) (by have := HBB.out.size; have := b2.size; omega) (below1 W2 (.cells #[.int .i64 k1, .int .i64 k2, .slice a5 k3.length c5] 24)))))
    refine bodyPost_ret (v := .tuple #[grV 0 0 (.slice none 0 0), .slice none 0 0, .int .i64 z]) (by simp [results, Tryz.results22, go_sem, r1, r2, r3]) rfl ?_
    rw [HE.out]
    have HZ := Lib.hid (show onOk z La = 0 by unfold onOk; rw [if_neg (by simpa using d1)])
    exact ⟨_, _, by rw [HZ.out]; rfl, edges_nil _ _, RowsAt.nil _ _, below_over HB2.out (Nat.le_succ _) _ _ _⟩
end Go.Proofs.YtiockphjnkehnaaGreatDoor

namespace Go.Proofs.YtiockphjnkehnaaGreatDoor
open Go.RowKit
set_option linter.unusedSimpArgs false
set_option linter.unusedVariables false

def BsW (B : Nat) (x : E3) (u : Value) (W : World) : Prop := ∃ p, u = .slice (some ⟨p, 0, none⟩) 3 3 ∧ B ≤ p ∧ Box3 W p x
theorem BsW.keep {B : Nat} {x : E3} {u : Value} {W W' : World} (h : BsW B x u W) (hb : Below W.heap.size W W') : BsW B x u W' := by
  obtain ⟨p, h1, h2, h3⟩ := h
  exact ⟨p, h1, h2, h3.keep hb⟩
theorem BsW.new {B : Nat} {W : World} {a b c : Int} {t : TypeId} (hb : B ≤ W.heap.size) : BsW B (a, b, c) (.slice (some ⟨W.heap.size, 0, none⟩) 3 3) (W.alloc (.cells #[.int .i64 a, .int .i64 b, .int .i64 c] t)) :=
  ⟨_, rfl, hb, Box3.new _ _ _ _ _⟩
set_option maxRecDepth 100000 in
set_option maxHeartbeats 6400000 in
theorem rcompare_any (a b : E3) (w : World) : Calls Tryz.prog 52 #[edgV a, edgV b] w fun e w' => e = .returned (.int .i64 (cmpE a b)) ∧ Below w.heap.size w w' := by
  have hmx : Tryz.prog.follows .mixedOrders = true := by kernel_rfl
  have K0 := Lib.hid (CA.start w a b 39 39)
  go_enter Tryz.func52, Tryz.ntmps52
  go_upto_region 1 with fail
  have KB := K0.out.drew
  clear K0
  refine region_inv' (J := (fun L act wx => ∃ u8 u9 u10 u11 u12 u13 u14 u15 u16 u17 u18 u19 u20 u21 u5 u6, act = { tmps := #[.agg #[.int .i64 a.1, .int .i64 a.2.1, .int .i64 a.2.2], .agg #[.int .i64 b.1, .int .i64 b.2.1, .int .i64 b.2.2], .pointer (some ⟨w.heap.size, 0, none⟩), .pointer (some ⟨w.heap.size + 1, 0, none⟩), .int .i64 0, u5, u6, undef, u8, u9, u10, u11, u12, u13, u14, u15, u16, u17, u18, u19, u20, u21, undef, undef, undef, undef, undef, undef, undef, undef, undef, undef, undef, undef, undef, undef, undef, undef, undef, undef, undef, undef, undef, undef], defers := [] } ∧ CA w a b wx ∧
      (L.getD 0 false = true → u8 = .pointer (some ⟨w.heap.size, 0, none⟩)) ∧ (L.getD 1 false = true → u9 = .int .i64 a.1) ∧ (L.getD 2 false = true → u10 = .pointer (some ⟨w.heap.size, 1, none⟩)) ∧ (L.getD 3 false = true → u11 = .int .i64 a.2.1) ∧ (L.getD 4 false = true → u12 = .pointer (some ⟨w.heap.size, 2, none⟩)) ∧ (L.getD 5 false = true → u13 = .int .i64 a.2.2) ∧ (L.getD 7 false = true → u15 = .pointer (some ⟨w.heap.size + 1, 0, none⟩)) ∧ (L.getD 8 false = true → u16 = .int .i64 b.1) ∧ (L.getD 9 false = true → u17 = .pointer (some ⟨w.heap.size + 1, 1, none⟩)) ∧ (L.getD 10 false = true → u18 = .int .i64 b.2.1) ∧ (L.getD 11 false = true → u19 = .pointer (some ⟨w.heap.size + 1, 2, none⟩)) ∧ (L.getD 12 false = true → u20 = .int .i64 b.2.2) ∧ (L.getD 6 false = true → BsW (w.heap.size + 2) (a) u14 wx) ∧ (L.getD 13 false = true → BsW (w.heap.size + 2) (b) u21 wx) ∧ (L.getD 14 false = true → BsW (w.heap.size + 2) (a) u5 wx) ∧ (L.getD 15 false = true → BsW (w.heap.size + 2) (b) u6 wx))) hmx (by kernel_rfl) ?_ ?_ ?_
  · exact ⟨undef, undef, undef, undef, undef, undef, undef, undef, undef, undef, undef, undef, undef, undef, undef, undef, rfl, KB, fun h => absurd h (by decide), fun h => absurd h (by decide), fun h => absurd h (by decide), fun h => absurd h (by decide), fun h => absurd h (by decide), fun h => absurd h (by decide), fun h => absurd h (by decide), fun h => absurd h (by decide), fun h => absurd h (by decide), fun h => absurd h (by decide), fun h => absurd h (by decide), fun h => absurd h (by decide), fun h => absurd h (by decide), fun h => absurd h (by decide), fun h => absurd h (by decide), fun h => absurd h (by decide)⟩
  · intro i hi L a wx hl hw ⟨u8, u9, u10, u11, u12, u13, u14, u15, u16, u17, u18, u19, u20, u21, u5, u6, ha, lo, c0, c1, c2, c3, c4, c5, c7, c8, c9, c10, c11, c12, b6, b13, b14, b15⟩
    subst ha
    obtain ⟨x1, x2, x3, y1', y2', y3'⟩ := lo.cells
    clear KB
    have hi' : i = 0 ∨ i = 1 ∨ i = 2 ∨ i = 3 ∨ i = 4 ∨ i = 5 ∨ i = 6 ∨ i = 7 ∨ i = 8 ∨ i = 9 ∨ i = 10 ∨ i = 11 ∨ i = 12 ∨ i = 13 ∨ i = 14 ∨ i = 15 := by
      have : i < 16 := hi
      omega
    rcases hi' with rfl | rfl | rfl | rfl | rfl | rfl | rfl | rfl | rfl | rfl | rfl | rfl | rfl | rfl | rfl | rfl
    · refine stepJ (i := 0) rfl (fun K hK => ?_)
      go_simp
      refine hK.out _ _ ⟨_, u9, u10, u11, u12, u13, u14, u15, u16, u17, u18, u19, u20, u21, u5, u6, rfl, lo, fun _ => rfl, fun h => c1 (fl (by decide) h), fun h => c2 (fl (by decide) h), fun h => c3 (fl (by decide) h), fun h => c4 (fl (by decide) h), fun h => c5 (fl (by decide) h), fun h => c7 (fl (by decide) h), fun h => c8 (fl (by decide) h), fun h => c9 (fl (by decide) h), fun h => c10 (fl (by decide) h), fun h => c11 (fl (by decide) h), fun h => c12 (fl (by decide) h), fun h => (b6 (fl (by decide) h)), fun h => (b13 (fl (by decide) h)), fun h => (b14 (fl (by decide) h)), fun h => (b15 (fl (by decide) h))⟩
    · refine stepJ (i := 1) rfl (fun K hK => ?_)
      obtain rfl := c0 (hw 0 (by kernel_rfl))
      go_simp
      refine hK.out _ _ ⟨_, _, u10, u11, u12, u13, u14, u15, u16, u17, u18, u19, u20, u21, u5, u6, rfl, lo, fun _ => rfl, fun _ => rfl, fun h => c2 (fl (by decide) h), fun h => c3 (fl (by decide) h), fun h => c4 (fl (by decide) h), fun h => c5 (fl (by decide) h), fun h => c7 (fl (by decide) h), fun h => c8 (fl (by decide) h), fun h => c9 (fl (by decide) h), fun h => c10 (fl (by decide) h), fun h => c11 (fl (by decide) h), fun h => c12 (fl (by decide) h), fun h => (b6 (fl (by decide) h)), fun h => (b13 (fl (by decide) h)), fun h => (b14 (fl (by decide) h)), fun h => (b15 (fl (by decide) h))⟩
    · refine stepJ (i := 2) rfl (fun K hK => ?_)
      go_simp
      refine hK.out _ _ ⟨u8, u9, _, u11, u12, u13, u14, u15, u16, u17, u18, u19, u20, u21, u5, u6, rfl, lo, fun h => c0 (fl (by decide) h), fun h => c1 (fl (by decide) h), fun _ => rfl, fun h => c3 (fl (by decide) h), fun h => c4 (fl (by decide) h), fun h => c5 (fl (by decide) h), fun h => c7 (fl (by decide) h), fun h => c8 (fl (by decide) h), fun h => c9 (fl (by decide) h), fun h => c10 (fl (by decide) h), fun h => c11 (fl (by decide) h), fun h => c12 (fl (by decide) h), fun h => (b6 (fl (by decide) h)), fun h => (b13 (fl (by decide) h)), fun h => (b14 (fl (by decide) h)), fun h => (b15 (fl (by decide) h))⟩
    · refine stepJ (i := 3) rfl (fun K hK => ?_)
      obtain rfl := c2 (hw 2 (by kernel_rfl))
      go_simp
      refine hK.out _ _ ⟨u8, u9, _, _, u12, u13, u14, u15, u16, u17, u18, u19, u20, u21, u5, u6, rfl, lo, fun h => c0 (fl (by decide) h), fun h => c1 (fl (by decide) h), fun _ => rfl, fun _ => rfl, fun h => c4 (fl (by decide) h), fun h => c5 (fl (by decide) h), fun h => c7 (fl (by decide) h), fun h => c8 (fl (by decide) h), fun h => c9 (fl (by decide) h), fun h => c10 (fl (by decide) h), fun h => c11 (fl (by decide) h), fun h => c12 (fl (by decide) h), fun h => (b6 (fl (by decide) h)), fun h => (b13 (fl (by decide) h)), fun h => (b14 (fl (by decide) h)), fun h => (b15 (fl (by decide) h))⟩
    · refine stepJ (i := 4) rfl (fun K hK => ?_)
      go_simp
      refine hK.out _ _ ⟨u8, u9, u10, u11, _, u13, u14, u15, u16, u17, u18, u19, u20, u21, u5, u6, rfl, lo, fun h => c0 (fl (by decide) h), fun h => c1 (fl (by decide) h), fun h => c2 (fl (by decide) h), fun h => c3 (fl (by decide) h), fun _ => rfl, fun h => c5 (fl (by decide) h), fun h => c7 (fl (by decide) h), fun h => c8 (fl (by decide) h), fun h => c9 (fl (by decide) h), fun h => c10 (fl (by decide) h), fun h => c11 (fl (by decide) h), fun h => c12 (fl (by decide) h), fun h => (b6 (fl (by decide) h)), fun h => (b13 (fl (by decide) h)), fun h => (b14 (fl (by decide) h)), fun h => (b15 (fl (by decide) h))⟩
    · refine stepJ (i := 5) rfl (fun K hK => ?_)
      obtain rfl := c4 (hw 4 (by kernel_rfl))
      go_simp
      refine hK.out _ _ ⟨u8, u9, u10, u11, _, _, u14, u15, u16, u17, u18, u19, u20, u21, u5, u6, rfl, lo, fun h => c0 (fl (by decide) h), fun h => c1 (fl (by decide) h), fun h => c2 (fl (by decide) h), fun h => c3 (fl (by decide) h), fun _ => rfl, fun _ => rfl, fun h => c7 (fl (by decide) h), fun h => c8 (fl (by decide) h), fun h => c9 (fl (by decide) h), fun h => c10 (fl (by decide) h), fun h => c11 (fl (by decide) h), fun h => c12 (fl (by decide) h), fun h => (b6 (fl (by decide) h)), fun h => (b13 (fl (by decide) h)), fun h => (b14 (fl (by decide) h)), fun h => (b15 (fl (by decide) h))⟩
    · refine stepJ (i := 6) rfl (fun K hK => ?_)
      obtain rfl := c1 (hw 1 (by kernel_rfl))
      obtain rfl := c3 (hw 3 (by kernel_rfl))
      obtain rfl := c5 (hw 5 (by kernel_rfl))
      go_simp
      refine hK.out _ _ ⟨u8, _, u10, _, u12, _, _, u15, u16, u17, u18, u19, u20, u21, u5, u6, rfl, lo.alloc _, fun h => c0 (fl (by decide) h), fun _ => rfl, fun h => c2 (fl (by decide) h), fun _ => rfl, fun h => c4 (fl (by decide) h), fun _ => rfl, fun h => c7 (fl (by decide) h), fun h => c8 (fl (by decide) h), fun h => c9 (fl (by decide) h), fun h => c10 (fl (by decide) h), fun h => c11 (fl (by decide) h), fun h => c12 (fl (by decide) h), fun _ => BsW.new lo.size, fun h => (b13 (fl (by decide) h)).keep (below1 wx _), fun h => (b14 (fl (by decide) h)).keep (below1 wx _), fun h => (b15 (fl (by decide) h)).keep (below1 wx _)⟩
    · refine stepJ (i := 7) rfl (fun K hK => ?_)
      go_simp
      refine hK.out _ _ ⟨u8, u9, u10, u11, u12, u13, u14, _, u16, u17, u18, u19, u20, u21, u5, u6, rfl, lo, fun h => c0 (fl (by decide) h), fun h => c1 (fl (by decide) h), fun h => c2 (fl (by decide) h), fun h => c3 (fl (by decide) h), fun h => c4 (fl (by decide) h), fun h => c5 (fl (by decide) h), fun _ => rfl, fun h => c8 (fl (by decide) h), fun h => c9 (fl (by decide) h), fun h => c10 (fl (by decide) h), fun h => c11 (fl (by decide) h), fun h => c12 (fl (by decide) h), fun h => (b6 (fl (by decide) h)), fun h => (b13 (fl (by decide) h)), fun h => (b14 (fl (by decide) h)), fun h => (b15 (fl (by decide) h))⟩
    · refine stepJ (i := 8) rfl (fun K hK => ?_)
      obtain rfl := c7 (hw 7 (by kernel_rfl))
      go_simp
      refine hK.out _ _ ⟨u8, u9, u10, u11, u12, u13, u14, _, _, u17, u18, u19, u20, u21, u5, u6, rfl, lo, fun h => c0 (fl (by decide) h), fun h => c1 (fl (by decide) h), fun h => c2 (fl (by decide) h), fun h => c3 (fl (by decide) h), fun h => c4 (fl (by decide) h), fun h => c5 (fl (by decide) h), fun _ => rfl, fun _ => rfl, fun h => c9 (fl (by decide) h), fun h => c10 (fl (by decide) h), fun h => c11 (fl (by decide) h), fun h => c12 (fl (by decide) h), fun h => (b6 (fl (by decide) h)), fun h => (b13 (fl (by decide) h)), fun h => (b14 (fl (by decide) h)), fun h => (b15 (fl (by decide) h))⟩
    · refine stepJ (i := 9) rfl (fun K hK => ?_)
      go_simp
      refine hK.out _ _ ⟨u8, u9, u10, u11, u12, u13, u14, u15, u16, _, u18, u19, u20, u21, u5, u6, rfl, lo, fun h => c0 (fl (by decide) h), fun h => c1 (fl (by decide) h), fun h => c2 (fl (by decide) h), fun h => c3 (fl (by decide) h), fun h => c4 (fl (by decide) h), fun h => c5 (fl (by decide) h), fun h => c7 (fl (by decide) h), fun h => c8 (fl (by decide) h), fun _ => rfl, fun h => c10 (fl (by decide) h), fun h => c11 (fl (by decide) h), fun h => c12 (fl (by decide) h), fun h => (b6 (fl (by decide) h)), fun h => (b13 (fl (by decide) h)), fun h => (b14 (fl (by decide) h)), fun h => (b15 (fl (by decide) h))⟩
    · refine stepJ (i := 10) rfl (fun K hK => ?_)
      obtain rfl := c9 (hw 9 (by kernel_rfl))
      go_simp
      refine hK.out _ _ ⟨u8, u9, u10, u11, u12, u13, u14, u15, u16, _, _, u19, u20, u21, u5, u6, rfl, lo, fun h => c0 (fl (by decide) h), fun h => c1 (fl (by decide) h), fun h => c2 (fl (by decide) h), fun h => c3 (fl (by decide) h), fun h => c4 (fl (by decide) h), fun h => c5 (fl (by decide) h), fun h => c7 (fl (by decide) h), fun h => c8 (fl (by decide) h), fun _ => rfl, fun _ => rfl, fun h => c11 (fl (by decide) h), fun h => c12 (fl (by decide) h), fun h => (b6 (fl (by decide) h)), fun h => (b13 (fl (by decide) h)), fun h => (b14 (fl (by decide) h)), fun h => (b15 (fl (by decide) h))⟩
    · refine stepJ (i := 11) rfl (fun K hK => ?_)
      go_simp
      refine hK.out _ _ ⟨u8, u9, u10, u11, u12, u13, u14, u15, u16, u17, u18, _, u20, u21, u5, u6, rfl, lo, fun h => c0 (fl (by decide) h), fun h => c1 (fl (by decide) h), fun h => c2 (fl (by decide) h), fun h => c3 (fl (by decide) h), fun h => c4 (fl (by decide) h), fun h => c5 (fl (by decide) h), fun h => c7 (fl (by decide) h), fun h => c8 (fl (by decide) h), fun h => c9 (fl (by decide) h), fun h => c10 (fl (by decide) h), fun _ => rfl, fun h => c12 (fl (by decide) h), fun h => (b6 (fl (by decide) h)), fun h => (b13 (fl (by decide) h)), fun h => (b14 (fl (by decide) h)), fun h => (b15 (fl (by decide) h))⟩
    · refine stepJ (i := 12) rfl (fun K hK => ?_)
      obtain rfl := c11 (hw 11 (by kernel_rfl))
      go_simp
      refine hK.out _ _ ⟨u8, u9, u10, u11, u12, u13, u14, u15, u16, u17, u18, _, _, u21, u5, u6, rfl, lo, fun h => c0 (fl (by decide) h), fun h => c1 (fl (by decide) h), fun h => c2 (fl (by decide) h), fun h => c3 (fl (by decide) h), fun h => c4 (fl (by decide) h), fun h => c5 (fl (by decide) h), fun h => c7 (fl (by decide) h), fun h => c8 (fl (by decide) h), fun h => c9 (fl (by decide) h), fun h => c10 (fl (by decide) h), fun _ => rfl, fun _ => rfl, fun h => (b6 (fl (by decide) h)), fun h => (b13 (fl (by decide) h)), fun h => (b14 (fl (by decide) h)), fun h => (b15 (fl (by decide) h))⟩
    · refine stepJ (i := 13) rfl (fun K hK => ?_)
      obtain rfl := c8 (hw 8 (by kernel_rfl))
      obtain rfl := c10 (hw 10 (by kernel_rfl))
      obtain rfl := c12 (hw 12 (by kernel_rfl))
      go_simp
      refine hK.out _ _ ⟨u8, u9, u10, u11, u12, u13, u14, u15, _, u17, _, u19, _, _, u5, u6, rfl, lo.alloc _, fun h => c0 (fl (by decide) h), fun h => c1 (fl (by decide) h), fun h => c2 (fl (by decide) h), fun h => c3 (fl (by decide) h), fun h => c4 (fl (by decide) h), fun h => c5 (fl (by decide) h), fun h => c7 (fl (by decide) h), fun _ => rfl, fun h => c9 (fl (by decide) h), fun _ => rfl, fun h => c11 (fl (by decide) h), fun _ => rfl, fun h => (b6 (fl (by decide) h)).keep (below1 wx _), fun _ => BsW.new lo.size, fun h => (b14 (fl (by decide) h)).keep (below1 wx _), fun h => (b15 (fl (by decide) h)).keep (below1 wx _)⟩
    · refine stepJ (i := 14) rfl (fun K hK => ?_)
      obtain ⟨pp, rfl, hpp⟩ := id (b6 (hw 6 (by kernel_rfl)))
      go_simp
      refine hK.out _ _ ⟨u8, u9, u10, u11, u12, u13, _, u15, u16, u17, u18, u19, u20, u21, _, u6, rfl, lo, fun h => c0 (fl (by decide) h), fun h => c1 (fl (by decide) h), fun h => c2 (fl (by decide) h), fun h => c3 (fl (by decide) h), fun h => c4 (fl (by decide) h), fun h => c5 (fl (by decide) h), fun h => c7 (fl (by decide) h), fun h => c8 (fl (by decide) h), fun h => c9 (fl (by decide) h), fun h => c10 (fl (by decide) h), fun h => c11 (fl (by decide) h), fun h => c12 (fl (by decide) h), fun h => (b6 (fl (by decide) h)), fun h => (b13 (fl (by decide) h)), fun _ => ⟨pp, rfl, hpp⟩, fun h => (b15 (fl (by decide) h))⟩
    · refine stepJ (i := 15) rfl (fun K hK => ?_)
      obtain ⟨pp, rfl, hpp⟩ := id (b13 (hw 13 (by kernel_rfl)))
      go_simp
      refine hK.out _ _ ⟨u8, u9, u10, u11, u12, u13, u14, u15, u16, u17, u18, u19, u20, _, u5, _, rfl, lo, fun h => c0 (fl (by decide) h), fun h => c1 (fl (by decide) h), fun h => c2 (fl (by decide) h), fun h => c3 (fl (by decide) h), fun h => c4 (fl (by decide) h), fun h => c5 (fl (by decide) h), fun h => c7 (fl (by decide) h), fun h => c8 (fl (by decide) h), fun h => c9 (fl (by decide) h), fun h => c10 (fl (by decide) h), fun h => c11 (fl (by decide) h), fun h => c12 (fl (by decide) h), fun h => (b6 (fl (by decide) h)), fun h => (b13 (fl (by decide) h)), fun h => (b14 (fl (by decide) h)), fun _ => ⟨pp, rfl, hpp⟩⟩
  · rintro L a wx hall ⟨u8, u9, u10, u11, u12, u13, u14, u15, u16, u17, u18, u19, u20, u21, u5, u6, rfl, lo, c0, c1, c2, c3, c4, c5, c7, c8, c9, c10, c11, c12, b6, b13, b14, b15⟩
    obtain rfl := c0 (hall 0 (by decide))
    obtain rfl := c1 (hall 1 (by decide))
    obtain rfl := c2 (hall 2 (by decide))
    obtain rfl := c3 (hall 3 (by decide))
    obtain rfl := c4 (hall 4 (by decide))
    obtain rfl := c5 (hall 5 (by decide))
    obtain rfl := c7 (hall 7 (by decide))
    obtain rfl := c8 (hall 8 (by decide))
    obtain rfl := c9 (hall 9 (by decide))
    obtain rfl := c10 (hall 10 (by decide))
    obtain rfl := c11 (hall 11 (by decide))
    obtain rfl := c12 (hall 12 (by decide))
    have B6 := b6 (hall 6 (by decide))
    have B13 := b13 (hall 13 (by decide))
    have B14 := b14 (hall 14 (by decide))
    have B15 := b15 (hall 15 (by decide))
    clear hall c0 c1 c2 c3 c4 c5 c7 c8 c9 c10 c11 c12 b6 b13 b14 b15
    obtain ⟨p5, rfl, -, q1, q2, q3, -, -, -⟩ := B14
    obtain ⟨p6, rfl, -, r1, r2, r3, -, -, -⟩ := B15
    clear B6 B13
    have hb := lo.1
    clear lo KB
    have HA := Lib.hid (show ∀ j, j < 3 → wx.cell? ⟨p5, j, none⟩ = some (.int .i64 (numE a j)) from fun j hj => by
      rcases (show j = 0 ∨ j = 1 ∨ j = 2 by omega) with rfl | rfl | rfl
      · exact q1
      · exact q2
      · exact q3)
    have HB := Lib.hid (show ∀ j, j < 3 → wx.cell? ⟨p6, j, none⟩ = some (.int .i64 (numE b j)) from fun j hj => by
      rcases (show j = 0 ∨ j = 1 ∨ j = 2 by omega) with rfl | rfl | rfl
      · exact r1
      · exact r2
      · exact r3)
    have HZ := Lib.hid hb
    clear hb q1 q2 q3 r1 r2 r3
    go_wp2_with fail
    go_loopg [7] 3 (fun k s7 wl => (∃ n, wl = wx.drewN n) ∧ ∃ i : Nat, i + k = 3 ∧ s7 = .int .i64 (i : Int) ∧ Hid (∀ j, j < i → numE a j = numE b j))
    case atStart => exact ⟨⟨0, rfl⟩, 0, by omega, rfl, Lib.hid (fun j hj => absurd hj (by omega))⟩
    case round =>
      obtain ⟨⟨n, rfl⟩, i, hi, rfl, HI⟩ := hrel
      rcases gk with _ | k
      · obtain rfl : i = 3 := by omega
        have HE := Lib.hid (cmpE_same HI.out)
        clear HI
        go_wp2_with fail
        go_ret
        exact ⟨by rw [HE.out]; rfl, below_drewM HZ.out _⟩
      · have il : decide ((i : Int) < 3) = true := decide_eq_true (by omega)
        have i3 : i < 3 := by omega
        have i3' : (i : Int) < 3 := by omega
        by_cases h : numE a i = numE b i
        · have HI2 := Lib.hid (show ∀ j, j < i + 1 → numE a j = numE b j from fun j hj => by
            rcases (show j < i ∨ j = i by omega) with h1 | rfl
            · exact HI.out j h1
            · exact h)
          have d1 : decide (numE a i < numE b i) = false := decide_eq_false (by omega)
          have d2 : decide (numE b i < numE a i) = false := decide_eq_false (by omega)
          clear HI h
          have ca := HA.out i (by omega)
          have cb := HB.out i (by omega)
          generalize numE a i = x at *
          generalize numE b i = y at *
          go_wp2_with fail
          go_quiet (fail)
          go_wp2_with fail
          go_quiet (fail)
          go_wp2_with fail
          go_roundg k
          case measure => omega
          case rel => exact ⟨⟨_, rfl⟩, i + 1, by omega, by go_num, HI2⟩
        · have HE := Lib.hid (cmpE_at (by omega) HI.out h)
          clear HI
          have ca := HA.out i (by omega)
          have cb := HB.out i (by omega)
          generalize numE a i = x at *
          generalize numE b i = y at *
          by_cases h2 : x < y
          · have d1 : decide (x < y) = true := decide_eq_true h2
            have HV := Lib.hid (show cmpE a b = -1 by rw [HE.out]; unfold cmpI; rw [if_pos h2])
            clear HE h h2
            go_wp2_with fail
            go_quiet (fail)
            go_wp2_with fail
            go_ret
            exact ⟨by rw [HV.out]; rfl, below_drewM (below_drewM HZ.out _) _⟩
          · have d1 : decide (x < y) = false := decide_eq_false h2
            have d2 : decide (y < x) = true := decide_eq_true (by omega)
            have HV := Lib.hid (show cmpE a b = 1 by rw [HE.out]; unfold cmpI; rw [if_neg h2, if_pos (by omega)])
            clear HE h h2
            go_wp2_with fail
            go_quiet (fail)
            go_wp2_with fail
            go_quiet (fail)
            go_wp2_with fail
            go_ret
            exact ⟨by rw [HV.out]; rfl, below_drewM (below_drewM (below_drewM HZ.out _) _) _⟩
end Go.Proofs.YtiockphjnkehnaaGreatDoor

namespace Go.Proofs.YtiockphjnkehnaaGreatDoor
open Go.RowKit
set_option linter.unusedSimpArgs false
set_option linter.unusedVariables false

set_option maxRecDepth 100000 in
set_option maxHeartbeats 6400000 in
theorem rcheck_loop (L S : Int) (es : List E3) (v : Value) (w : World) (hrd : EdgesRd w v es) (l1 : 1 ≤ L) (l2 : L ≤ 256) (s1 : 0 ≤ S) (s2 : S ≤ 64) (hn : es.length ≤ 1024) :
    Calls Tryz.prog 23 #[grV L S v] w fun e w' => e = .returned (.int .i64 (chkF L S none es)) ∧ Below w.heap.size w w' := by
  have HRD := Lib.hid hrd
  obtain ⟨a, c, rfl⟩ := hrd.form
  have K0 := Lib.hid (BoxG.new w L S (.slice a es.length c) 24)
  clear hrd
  have d1 : decide (L < 1) = false := decide_eq_false (by omega)
  have d2 : decide (256 < L) = false := decide_eq_false (by omega)
  have d3 : decide (S < 0) = false := decide_eq_false (by omega)
  have d4 : decide (64 < S) = false := decide_eq_false (by omega)
  have d5 : decide ((1024 : Int) < (es.length : Int)) = false := decide_eq_false (by omega)
  go_enter Tryz.func23, Tryz.ntmps23
  go_wp2_with fail
  go_loopg [3] es.length (fun q s3 wx => ∃ i : Nat, i + q = es.length ∧ s3 = .int .i64 (i : Int) ∧ Hid (chkF L S (prevE es i) (es.drop i) = chkF L S none es) ∧ BoxG wx w.heap.size L S (.slice a es.length c) ∧ Below w.heap.size w wx)
  case atStart => exact ⟨0, by omega, rfl, Lib.hid rfl, K0.out, below1 w _⟩
  case round =>
    clear K0 d1 d2 d3 d4 d5
    obtain ⟨i, hi, rfl, HI, hG, hb⟩ := hrel
    rcases gk with _ | q
    · obtain rfl : i = es.length := by omega
      have HE := Lib.hid (show chkF L S none es = 0 by rw [← HI.out, List.drop_length]; rfl)
      obtain ⟨g1, g2, g3⟩ := id hG
      clear HI
      go_wp2_with fail
      go_ret
      exact ⟨by rw [HE.out]; rfl, hb⟩
    · obtain ⟨e, he⟩ : ∃ e, es[i]? = some e := ⟨_, List.getElem?_eq_getElem (by omega)⟩
      have HEE := Lib.hid he
      have hrd := HRD.out.keep hb
      obtain ⟨b, off, c', hv, k1, k2, k3⟩ := hrd.at he
      injection hv with e1 e2 e3
      subst e1
      subst e3
      have HDR := drop_at he
      obtain ⟨x, y, z⟩ := e
      dsimp only at k1 k2 k3
      have j1 : (i : Int) < (es.length : Int) := by omega
      have G0 := Lib.hid (show CK w L S (.slice (some ⟨b, off, none⟩) es.length c) wr.heap.size (x, y, z) (wr.alloc (.cells #[.int .i64 x, .int .i64 y, .int .i64 z] 39)) from ⟨hG.keep (below1 wr _), Box3.new _ _ _ _ _, hb.alloc hb.size _⟩)
      obtain ⟨g1, g2, g3⟩ := id hG
      go_upto_region 11 with fail
      clear k1 k2 k3 hG hb g1 g2 g3 hrd e2
      obtain ⟨W0, hW0⟩ : ∃ W0, wr.alloc (.cells #[.int .i64 x, .int .i64 y, .int .i64 z] 39) = W0 := ⟨_, rfl⟩
      rw [hW0] at G0 ⊢
      obtain ⟨P0, hP0⟩ : ∃ P0, wr.heap.size = P0 := ⟨_, rfl⟩
      rw [hP0] at G0 ⊢
      clear hW0 hP0
      obtain ⟨⟨g1, g2, g3⟩, ⟨x1, x2, x3, -, -, -⟩, hb⟩ := id G0.out
      dsimp only at x1 x2 x3
      cases hk : okE L S (x, y, z) with
      | false =>
        have HE := Lib.hid (show chkF L S none es = 2 by rw [← HI.out, HDR]; exact chkF_bad hk)
        rw [okE_not] at hk
        dsimp only at hk
        clear HI HDR he HEE
        by_cases h1 : x < 0
        · have d1 : decide (x < 0) = true := decide_eq_true h1
          clear hk h1
          go_wp2_with fail
          go_ret
          exact ⟨by rw [HE.out]; rfl, hb⟩
        have d1 : decide (x < 0) = false := decide_eq_false h1
        by_cases h2 : S ≤ x
        · have d2 : decide (S ≤ x) = true := decide_eq_true h2
          clear hk h1 h2
          go_wp2_with fail
          go_ret
          exact ⟨by rw [HE.out]; rfl, hb⟩
        have d2 : decide (S ≤ x) = false := decide_eq_false h2
        by_cases h3 : z < 0
        · have d3 : decide (z < 0) = true := decide_eq_true h3
          clear hk h1 h2 h3
          go_wp2_with fail
          go_ret
          exact ⟨by rw [HE.out]; rfl, hb⟩
        have d3 : decide (z < 0) = false := decide_eq_false h3
        by_cases h4 : S ≤ z
        · have d4 : decide (S ≤ z) = true := decide_eq_true h4
          clear hk h1 h2 h3 h4
          go_wp2_with fail
          go_ret
          exact ⟨by rw [HE.out]; rfl, hb⟩
        have d4 : decide (S ≤ z) = false := decide_eq_false h4
        by_cases h5 : y < 0
        · have d5 : decide (y < 0) = true := decide_eq_true h5
          clear hk h1 h2 h3 h4 h5
          go_wp2_with fail
          go_ret
          exact ⟨by rw [HE.out]; rfl, hb⟩
        have d5 : decide (y < 0) = false := decide_eq_false h5
        have d6 : decide (L ≤ y) = true := decide_eq_true (by omega)
        clear hk h1 h2 h3 h4 h5
        go_wp2_with fail
        go_ret
        exact ⟨by rw [HE.out]; rfl, hb⟩
      | true =>
        have hk2 := okE_iff.1 hk
        dsimp only at hk2
        have d1 : decide (x < 0) = false := decide_eq_false (by omega)
        have d2 : decide (S ≤ x) = false := decide_eq_false (by omega)
        have d3 : decide (z < 0) = false := decide_eq_false (by omega)
        have d4 : decide (S ≤ z) = false := decide_eq_false (by omega)
        have d5 : decide (y < 0) = false := decide_eq_false (by omega)
        have d8 : decide (L ≤ y) = false := decide_eq_false (by omega)
        clear hk2
        go_upto_region 13 with fail
        clear d1 d2 d3 d4 d5 d8 G0
        have hmx : Tryz.prog.follows .mixedOrders = true := by kernel_rfl
        by_cases h0 : i = 0
        · have HI2 := Lib.hid (show chkF L S (prevE es (i + 1)) (es.drop (i + 1)) = chkF L S none es by
            rw [← HI.out, HDR, prevE_succ he, chkF_step hk (fun q hq => by rw [h0, prevE_zero] at hq; cases hq)])
          have d6 : decide ((0 : Int) < (i : Int)) = false := decide_eq_false (by omega)
          have d7 : decide (0 < i) = false := decide_eq_false (by omega)
          clear HI HDR he hk h0
          go_quiet (fail)
          go_wp2_with fail
          go_roundg q
          case measure => omega
          case rel => exact ⟨i + 1, by omega, by go_num, HI2, ⟨g1, g2, g3⟩, below_drewM hb _⟩
        · obtain ⟨j, hj⟩ : ∃ j, i = j + 1 := ⟨i - 1, by omega⟩
          obtain ⟨e', he'⟩ : ∃ e', es[j]? = some e' := ⟨_, List.getElem?_eq_getElem (by omega)⟩
          have hpv : prevE es i = some e' := by rw [hj]; exact prevE_succ he'
          obtain ⟨b2, off2, c2, hv, k1, k2, k3⟩ := (HRD.out.keep hb).at he'
          injection hv with e1 e2 e3
          injection e1 with e1
          injection e1 with e1 e4
          subst e1
          subst e4
          subst e3
          have hc := cmpE_ge e' (x, y, z)
          obtain ⟨x', y', z'⟩ := e'
          dsimp only at k1 k2 k3
          have hw : IntKind.i64.wrap ((i : Int) - 1) = (j : Int) := by rw [hj]; simp [IntKind.wrap, IntKind.signed, IntKind.bits]; omega
          have d6 : decide ((0 : Int) < (i : Int)) = true := decide_eq_true (by omega)
          have d7 : decide (0 < i) = true := decide_eq_true (by omega)
          have j2 : (j : Int) < (es.length : Int) := by omega
          have HM := Lib.hid (fun W => rcompare_any (x', y', z') (x, y, z) W)
          cases hlt : ltE (x', y', z') (x, y, z) with
          | false =>
            have HE := Lib.hid (show chkF L S none es = 10 by rw [← HI.out, HDR, hpv]; exact chkF_order hk hlt)
            rw [hlt] at hc
            obtain ⟨m, hm⟩ : ∃ m, cmpE (x', y', z') (x, y, z) = m := ⟨_, rfl⟩
            rw [hm] at hc
            simp only [hm] at HM
            have hc2 : decide (0 ≤ m) = true := hc
            clear HI HDR he hk h0 hj he' hpv hc hlt hm e2
            go_region_held3 (fun W => W.cell? ⟨w.heap.size, 2, none⟩ = some (.slice (some ⟨b, off, none⟩) es.length c) ∧ W.cell? ⟨P0, 0, none⟩ = some (.int .i64 x) ∧ W.cell? ⟨P0, 1, none⟩ = some (.int .i64 y) ∧ W.cell? ⟨P0, 2, none⟩ = some (.int .i64 z) ∧
                W.cell? ⟨b, off + j * 3, none⟩ = some (.int .i64 x') ∧ W.cell? ⟨b, off + j * 3 + 1, none⟩ = some (.int .i64 y') ∧ W.cell? ⟨b, off + j * 3 + 2, none⟩ = some (.int .i64 z'))
              (first | exact ⟨g3, x1, x2, x3, k1, k2, k3⟩ | exact ⟨cell_keep (Wp := W0.drew) (by exact g3) b2, cell_keep (Wp := W0.drew) (by exact x1) b2, cell_keep (Wp := W0.drew) (by exact x2) b2, cell_keep (Wp := W0.drew) (by exact x3) b2, cell_keep (Wp := W0.drew) (by exact k1) b2, cell_keep (Wp := W0.drew) (by exact k2) b2, cell_keep (Wp := W0.drew) (by exact k3) b2⟩)
              (first | (go_at_call 52; (with_reducible refine (HM.out _).mono ?_); rintro e0 W4 ⟨rfl, b2⟩))
            have hb2 := below_more hb.drew (Nat.le_refl _) b2
            go_wp2_with fail
            go_ret
            exact ⟨by rw [HE.out]; rfl, hb2⟩
          | true =>
            have HI2 := Lib.hid (show chkF L S (prevE es (i + 1)) (es.drop (i + 1)) = chkF L S none es by
              rw [← HI.out, HDR, prevE_succ he, chkF_step hk (fun q hq => by rw [hpv] at hq; injection hq with hq; subst hq; exact hlt)])
            rw [hlt] at hc
            obtain ⟨m, hm⟩ : ∃ m, cmpE (x', y', z') (x, y, z) = m := ⟨_, rfl⟩
            rw [hm] at hc
            simp only [hm] at HM
            have hc2 : decide (0 ≤ m) = false := hc
            clear HI HDR he hk h0 hj he' hpv hc hlt hm e2
            go_region_held3 (fun W => W.cell? ⟨w.heap.size, 2, none⟩ = some (.slice (some ⟨b, off, none⟩) es.length c) ∧ W.cell? ⟨P0, 0, none⟩ = some (.int .i64 x) ∧ W.cell? ⟨P0, 1, none⟩ = some (.int .i64 y) ∧ W.cell? ⟨P0, 2, none⟩ = some (.int .i64 z) ∧
                W.cell? ⟨b, off + j * 3, none⟩ = some (.int .i64 x') ∧ W.cell? ⟨b, off + j * 3 + 1, none⟩ = some (.int .i64 y') ∧ W.cell? ⟨b, off + j * 3 + 2, none⟩ = some (.int .i64 z'))
              (first | exact ⟨g3, x1, x2, x3, k1, k2, k3⟩ | exact ⟨cell_keep (Wp := W0.drew) (by exact g3) b2, cell_keep (Wp := W0.drew) (by exact x1) b2, cell_keep (Wp := W0.drew) (by exact x2) b2, cell_keep (Wp := W0.drew) (by exact x3) b2, cell_keep (Wp := W0.drew) (by exact k1) b2, cell_keep (Wp := W0.drew) (by exact k2) b2, cell_keep (Wp := W0.drew) (by exact k3) b2⟩)
              (first | (go_at_call 52; (with_reducible refine (HM.out _).mono ?_); rintro e0 W4 ⟨rfl, b2⟩))
            have hG2 : BoxG W4 w.heap.size L S (.slice (some ⟨b, off, none⟩) es.length c) := BoxG.keep (W := W0.drew) ⟨g1, g2, g3⟩ b2
            have hb2 := below_more hb.drew (Nat.le_refl _) b2
            go_wp2_with fail
            go_roundg q
            case measure => omega
            case rel => exact ⟨i + 1, by omega, by go_num, HI2, hG2, hb2⟩
set_option maxRecDepth 100000 in
set_option maxHeartbeats 1600000 in
theorem rcheck_any (L S : Int) (es : List E3) (v : Value) (w : World) (hrd : EdgesRd w v es) (hn : es.length ≤ 9223372036854775807) :
    Calls Tryz.prog 23 #[grV L S v] w fun e w' => e = .returned (.int .i64 (chkG L S es)) ∧ Below w.heap.size w w' := by
  obtain ⟨a, c, rfl⟩ := hrd.form
  by_cases h1 : L < 1
  · have HE := Lib.hid (show chkG L S es = 12 by unfold chkG; rw [if_pos (Or.inl h1)])
    have d1 : decide (L < 1) = true := decide_eq_true h1
    clear hrd
    go_enter Tryz.func23, Tryz.ntmps23
    go_wp2_with fail
    go_ret
    exact ⟨by rw [HE.out]; rfl, below1 w _⟩
  by_cases h2 : 256 < L
  · have HE := Lib.hid (show chkG L S es = 12 by unfold chkG; rw [if_pos (Or.inr h2)])
    have d1 : decide (L < 1) = false := decide_eq_false h1
    have d2 : decide (256 < L) = true := decide_eq_true h2
    clear hrd
    go_enter Tryz.func23, Tryz.ntmps23
    go_wp2_with fail
    go_ret
    exact ⟨by rw [HE.out]; rfl, below1 w _⟩
  have d1 : decide (L < 1) = false := decide_eq_false h1
  have d2 : decide (256 < L) = false := decide_eq_false h2
  by_cases h3 : S < 0
  · have HE := Lib.hid (show chkG L S es = 2 by unfold chkG; rw [if_neg (by omega), if_pos h3])
    have d3 : decide (S < 0) = true := decide_eq_true h3
    clear hrd
    go_enter Tryz.func23, Tryz.ntmps23
    go_wp2_with fail
    go_ret
    exact ⟨by rw [HE.out]; rfl, below1 w _⟩
  have d3 : decide (S < 0) = false := decide_eq_false h3
  by_cases h4 : 64 < S
  · have HE := Lib.hid (show chkG L S es = 4 by unfold chkG; rw [if_neg (by omega), if_neg h3, if_pos (Or.inl h4)])
    have d4 : decide (64 < S) = true := decide_eq_true h4
    clear hrd
    go_enter Tryz.func23, Tryz.ntmps23
    go_wp2_with fail
    go_ret
    exact ⟨by rw [HE.out]; rfl, below1 w _⟩
  by_cases h5 : 1024 < es.length
  · have HE := Lib.hid (show chkG L S es = 4 by unfold chkG; rw [if_neg (by omega), if_neg h3, if_pos (Or.inr h5)])
    have d4 : decide (64 < S) = false := decide_eq_false h4
    have d5 : decide ((1024 : Int) < (es.length : Int)) = true := decide_eq_true (by omega)
    clear hrd
    go_enter Tryz.func23, Tryz.ntmps23
    go_wp2_with fail
    go_ret
    exact ⟨by rw [HE.out]; rfl, below1 w _⟩
  have HE : chkG L S es = chkF L S none es := by unfold chkG; rw [if_neg (by omega), if_neg h3, if_neg (by omega)]
  rw [HE]
  exact rcheck_loop L S es _ w hrd (by omega) (by omega) (by omega) (by omega) (by omega)
end Go.Proofs.YtiockphjnkehnaaGreatDoor
