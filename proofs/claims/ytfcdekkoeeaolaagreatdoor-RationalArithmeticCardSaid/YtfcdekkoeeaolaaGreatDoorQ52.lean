/- What rational.simplestPositive returns. Condition: the integers have at most 10^6 digits to the base 2^32. What rational.Simplest returns. Condition: the integers have at most 10^6 digits to the base 2^32. What rational.Simplest returns. Condition: the integers have at most 10^6 digits to the base 2^32. -/
import Derived.Test.YtfcdekkoeeaolaaGreatDoorQ51
import Derived.Test.YtfcdekkoeeaolaaGreatDoorQ56

namespace Go.Proofs.YtfcdekkoeeaolaaGreatDoor
open Go.RowKit Go.Shelf
attribute [local go_sem] Oper.semAt_some
set_option linter.unusedSimpArgs false
set_option linter.unusedVariables false

/-- The last two convergents, and the next term. -/
def ConvT (W : World) (p q c : Nat) (ln ld nn nd t : Int) : Prop := RV W p ln ld ∧ RV W q nn nd ∧ W.cell? ⟨c, 0, none⟩ = some (.bool (sg t)) ∧ W.cell? ⟨c, 1, none⟩ = some (.string (mg t))
theorem ConvT.keep {W W' : World} {p q c : Nat} {ln ld nn nd t : Int} (h : ConvT W p q c ln ld nn nd t) (hb : Below W.heap.size W W') : ConvT W' p q c ln ld nn nd t := ⟨h.1.keep hb, h.2.1.keep hb, cell_keep h.2.2.1 hb, cell_keep h.2.2.2 hb⟩
theorem terms_any (na nb nc nd : Bool) (sa sb sc sd : ByteArray) (w : World) :
    Calls Tryz.prog 130 #[.agg #[.bool na, .string sa, .bool nb, .string sb], .agg #[.bool nc, .string sc, .bool nd, .string sd]] w fun e w' =>
      e = .returned (.func (.func 158) #[] #[.pointer (some ⟨w.heap.size, 0, none⟩), .pointer (some ⟨w.heap.size + 1, 0, none⟩)]) ∧
      w' = (w.alloc (.cells #[.bool na, .string sa, .bool nb, .string sb] 36)).alloc (.cells #[.bool nc, .string sc, .bool nd, .string sd] 36) := by
  go_enter Tryz.func130, Tryz.ntmps130
  go_wp2
  go_ret
  exact ⟨rfl, rfl⟩

set_option maxRecDepth 100000 in
set_option maxHeartbeats 6400000 in
theorem spos_any (na nb nc nd : Bool) (sa sb sc sd : ByteArray) (a b c d M : Int) (k : Nat) (P : Int → Int → Prop) (w : World) (ia : IsInt (.agg #[.bool na, .string sa]) a k) (ib : IsInt (.agg #[.bool nb, .string sb]) b k)
    (ic : IsInt (.agg #[.bool nc, .string sc]) c k) (id' : IsInt (.agg #[.bool nd, .string sd]) d k) (hI : Inv M a b c d 0 1 1 0) (hM : M.natAbs < 4294967296 ^ k) (hk : k ≤ 1000000) (hP : ∀ rn rd, Sim a b c d 0 1 1 0 rn rd → P rn rd) :
    Calls Tryz.prog 98 #[.agg #[.bool na, .string sa, .bool nb, .string sb], .agg #[.bool nc, .string sc, .bool nd, .string sd]] w fun e w' =>
      ∃ rn rd, P rn rd ∧ e = .returned (.agg #[.bool (sg rn), .string (mg rn), .bool (sg rd), .string (mg rd)]) ∧ Below w.heap.size w w' := by
  have HI := Lib.hid (And.intro ia (And.intro ib (And.intro ic (And.intro id' (And.intro hI (And.intro hM hP))))))
  clear ia ib ic id' hI hM hP
  refine (callsIn_wide (n := 8)).1 ?_
  refine callsIn_of_wp_marks Tryz.func98 rfl trivial ?_ rfl
  simp only [Tryz.ntmps98, List.size_toArray, List.length_cons, List.length_nil, Nat.reduceAdd, Nat.reduceSub, Array.replicate_succ, Array.replicate_zero, List.push_toArray, List.append_toArray, List.nil_append, List.cons_append]
  have hmx : Tryz.prog.follows .mixedOrders = true := by kernel_rfl
  have S00 : RIn2 (((w.alloc (.cells #[.bool na, .string sa, .bool nb, .string sb] 36)).alloc (.cells #[.bool nc, .string sc, .bool nd, .string sd] 36)).alloc (.cells #[.bool false, .string ⟨#[]⟩, .bool false, .string ⟨#[]⟩] 36)) w.heap.size (w.heap.size + 1) na sa nb sb nc sc nd sd := by
    refine ⟨?_, ?_, ?_, ?_, ?_, ?_, ?_, ?_⟩ <;> simp [go_sem]
  have P0 := ResRat.new ((w.alloc (.cells #[.bool na, .string sa, .bool nb, .string sb] 36)).alloc (.cells #[.bool nc, .string sc, .bool nd, .string sd] 36))
  rw [World.size_alloc, World.size_alloc] at P0
  have B0 := below3 w (.cells #[.bool na, .string sa, .bool nb, .string sb] 36) (.cells #[.bool nc, .string sc, .bool nd, .string sd] 36) (.cells #[.bool false, .string ⟨#[]⟩, .bool false, .string ⟨#[]⟩] 36)
  gi_wp2_with (refine ⟨trivial, ?_⟩; first
    | (gi_at_call 57; (with_reducible refine (callsIn_wide.2 (iof_any 0 _ (by omega) (by omega))).mono ?_); rintro e W1 ⟨rfl, b1⟩; have S1 := S00.keep b1; have P1 := P0.keep b1; have B1 := below_more B0 (Nat.le_refl _) b1; clear S00 P0 B0)
    | (gi_at_call 57; (with_reducible refine (callsIn_wide.2 (iof_any 1 _ (by omega) (by omega))).mono ?_); rintro e W2 ⟨rfl, b2⟩; have S2 := S1.keep b2; have P2 := P1.keep b2; have B2 := below_more B1 (Nat.le_refl _) b2; clear S1 P1 B1 b1 b2)
    | (gi_at_call 57; (with_reducible refine (callsIn_wide.2 (iof_any 1 _ (by omega) (by omega))).mono ?_); rintro e W3 ⟨rfl, b3⟩; have S3 := (S2.keep (below1 _ _)).keep b3; have P3 := (P2.keep (below1 _ _)).keep b3; have V3 := (RV.new W2 0 1).keep b3; have B3 := below_more (below_more B2 (Nat.le_refl _) (below1 W2 (.cells #[.bool (sg 0), .string (mg 0), .bool (sg 1), .string (mg 1)] 36))) (Nat.le_refl _) b3; have m3 := P2.1.lt; clear S2 P2 B2)
    | (gi_at_call 57; (with_reducible refine (callsIn_wide.2 (iof_any 0 _ (by omega) (by omega))).mono ?_); rintro e W4 ⟨rfl, b4⟩; have S4 := S3.keep b4; have P4 := P3.keep b4; have V4 := V3.keep b4; have B4 := below_more B3 (Nat.le_refl _) b4; obtain ⟨t1, t2, t3, t4, t5, t6, t7, t8⟩ := id S4; have m4 := V4.1.lt; have m5 := P4.1.lt; have m6 : w.heap.size < W4.heap.size := (by omega); have m7 : w.heap.size + 1 < W4.heap.size := (by omega); clear S3 P3 V3 B3 b3 b4)
    | (gi_at_call 130; (with_reducible refine (callsIn_wide.2 (terms_any na nb nc nd sa sb sc sd _)).mono ?_); rintro e W5 ⟨rfl, rfl⟩))
  have V6 := (RV.new W4 1 0).keep (below2 (W4.alloc (.cells #[.bool (sg 1), .string (mg 1), .bool (sg 0), .string (mg 0)] 36)) (.cells #[.bool na, .string sa, .bool nb, .string sb] 36) (.cells #[.bool nc, .string sc, .bool nd, .string sd] 36))
  have V5 := (V4.keep (below1 W4 (.cells #[.bool (sg 1), .string (mg 1), .bool (sg 0), .string (mg 0)] 36))).keep (below2 (W4.alloc (.cells #[.bool (sg 1), .string (mg 1), .bool (sg 0), .string (mg 0)] 36)) (.cells #[.bool na, .string sa, .bool nb, .string sb] 36) (.cells #[.bool nc, .string sc, .bool nd, .string sd] 36))
  have P5 := (P4.keep (below1 W4 (.cells #[.bool (sg 1), .string (mg 1), .bool (sg 0), .string (mg 0)] 36))).keep (below2 (W4.alloc (.cells #[.bool (sg 1), .string (mg 1), .bool (sg 0), .string (mg 0)] 36)) (.cells #[.bool na, .string sa, .bool nb, .string sb] 36) (.cells #[.bool nc, .string sc, .bool nd, .string sd] 36))
  have B5 := below_more (below_more B4 (Nat.le_refl _) (below1 W4 (.cells #[.bool (sg 1), .string (mg 1), .bool (sg 0), .string (mg 0)] 36))) (Nat.le_refl _) (below2 (W4.alloc (.cells #[.bool (sg 1), .string (mg 1), .bool (sg 0), .string (mg 0)] 36)) (.cells #[.bool na, .string sa, .bool nb, .string sb] 36) (.cells #[.bool nc, .string sc, .bool nd, .string sd] 36))
  have L5 : FR (((W4.alloc (.cells #[.bool (sg 1), .string (mg 1), .bool (sg 0), .string (mg 0)] 36)).alloc (.cells #[.bool na, .string sa, .bool nb, .string sb] 36)).alloc (.cells #[.bool nc, .string sc, .bool nd, .string sd] 36)) (W4.heap.size + 1) na sa nb sb := by
    refine ⟨⟨?_, ?_, ?_, ?_⟩, ?_, ?_, ?_, ?_⟩ <;> simp [go_sem]
  have H5 : FR (((W4.alloc (.cells #[.bool (sg 1), .string (mg 1), .bool (sg 0), .string (mg 0)] 36)).alloc (.cells #[.bool na, .string sa, .bool nb, .string sb] 36)).alloc (.cells #[.bool nc, .string sc, .bool nd, .string sd] 36)) (W4.heap.size + 1 + 1) nc sc nd sd := by
    refine ⟨⟨?_, ?_, ?_, ?_⟩, ?_, ?_, ?_, ?_⟩ <;> simp [go_sem]
  have Hs6 := Lib.hid (show W4.heap.size + 1 + 1 + 1 = (((W4.alloc (.cells #[.bool (sg 1), .string (mg 1), .bool (sg 0), .string (mg 0)] 36)).alloc (.cells #[.bool na, .string sa, .bool nb, .string sb] 36)).alloc (.cells #[.bool nc, .string sc, .bool nd, .string sd] 36)).heap.size by simp only [World.size_alloc])
  clear S4 P4 V4 B4 t1 t2 t3 t4 t5 t6 t7 t8
  generalize (((W4.alloc (.cells #[.bool (sg 1), .string (mg 1), .bool (sg 0), .string (mg 0)] 36)).alloc (.cells #[.bool na, .string sa, .bool nb, .string sb] 36)).alloc (.cells #[.bool nc, .string sc, .bool nd, .string sd] 36)) = W6 at *
  generalize W4.heap.size = x at *
  generalize W2.heap.size = p5 at *
  clear W1 W3 W2 W4
  refine rangeFunc_on rfl (by omega) (gf := 158) (lb := #[.pointer (some ⟨x + 1, 0, none⟩), .pointer (some ⟨x + 1 + 1, 0, none⟩)]) rfl trivial (enters_of Tryz.func158 (by kernel_rfl) rfl)
    (R := fun _ W' => W'.heap[W6.heap.size]? = some (.deferred (some [])) ∧ (∃ rn rd, P rn rd ∧ RV W' x rn rd) ∧ Below (w.heap.size + 1 + 1 + 1) W6 W') ?_ ?_
  · intro fn hfn REC hREC
    have HREC := Lib.hid hREC
    clear hREC
    have hY : ∀ W t ln ld nn nd, W.heap[W6.heap.size + 1]? = some (.loop REC) → W.heap[W6.heap.size]? = some (.deferred (some [])) → RV W p5 ln ld → RV W x nn nd →
        IsInt (.agg #[.bool (sg t), .string (mg t)]) t k → IsInt (.agg #[.bool (sg ln), .string (mg ln)]) ln k → IsInt (.agg #[.bool (sg ld), .string (mg ld)]) ld k → IsInt (.agg #[.bool (sg nn), .string (mg nn)]) nn k → IsInt (.agg #[.bool (sg nd), .string (mg nd)]) nd k →
        YieldAt Fence.wide 6 Tryz.prog (W6.heap.size + 1) #[.agg #[.bool (sg t), .string (mg t)]] W fun e W' => e = .returned (.bool true) ∧ StepDoes (w.heap.size + 1 + 1 + 1) (W6.heap.size + 1) W6.heap.size p5 x REC W W' nn nd (t * nn + ln) (t * nd + ld) := by
      intro W t ln ld nn nd hl hD v5 v6 It Iln Ild Inn Ind
      refine round_on HREC.out trivial hl rfl fun RB => ?_
      have hlt : W6.heap.size + 1 < W.heap.size := (Array.getElem?_eq_some_iff.1 hl).1
      have hl1 : (W.alloc (.cells #[.bool (sg t), .string (mg t)] 23)).heap[W6.heap.size + 1]? = some (.loop REC) := (Below.heap_alloc _ _ _ hlt).trans hl
      obtain ⟨zx, Ex⟩ : ∃ z, Hid (t * nn = z) := ⟨_, Lib.hid rfl⟩
      obtain ⟨zy, Ey⟩ : ∃ z, Hid (t * nd = z) := ⟨_, Lib.hid rfl⟩
      obtain ⟨zn, En⟩ : ∃ z, Hid (zx + ln = z) := ⟨_, Lib.hid rfl⟩
      obtain ⟨zd, Ed⟩ : ∃ z, Hid (zy + ld = z) := ⟨_, Lib.hid rfl⟩
      have Jx := Lib.hid (isInt_mg (db_mul It.bd Inn.bd Ex.out) (by omega))
      have Jy := Lib.hid (isInt_mg (db_mul It.bd Ind.bd Ey.out) (by omega))
      have HJ := Lib.hid (And.intro It (And.intro Iln (And.intro Ild (And.intro Inn Ind))))
      clear It Iln Ild Inn Ind
      have T0 : ConvT ((W.alloc (.cells #[.bool (sg t), .string (mg t)] 23)).putObj (W6.heap.size + 1) (.loop RB)) p5 x W.heap.size ln ld nn nd t := by
        refine ⟨(v5.keep (below1 _ _)).put hl1 _, (v6.keep (below1 _ _)).put hl1 _, cell_put hl1 _ _ ?_, cell_put hl1 _ _ ?_⟩ <;> simp [go_sem]
      have Hl := Lib.hid hl1
      have Hd := Lib.hid hD
      rw [Ex.out, Ey.out, En.out, Ed.out]
      have hV1 : ((W.alloc (.cells #[.bool (sg t), .string (mg t)] 23)).putObj (W6.heap.size + 1) (.loop RB)).heap[W6.heap.size + 1]? = some (.loop RB) := World.putObj_heap_same (Array.getElem?_eq_some_iff.1 hl1).1
      have hV2 : ((W.alloc (.cells #[.bool (sg t), .string (mg t)] 23)).putObj (W6.heap.size + 1) (.loop RB)).heap[W6.heap.size]? = some (.deferred (some [])) := (World.putObj_heap_other (by omega)).trans ((Below.heap_alloc _ _ _ (by omega)).trans hD)
      have hV3 : Below (w.heap.size + 1 + 1 + 1) W ((W.alloc (.cells #[.bool (sg t), .string (mg t)] 23)).putObj (W6.heap.size + 1) (.loop RB)) := below_put ((below1 W _).mono (by have := Hs6.out; omega)) _ (by have := Hs6.out; omega) _
      have hV4 : ∀ q v, W.cell? q = some v → ((W.alloc (.cells #[.bool (sg t), .string (mg t)] 23)).putObj (W6.heap.size + 1) (.loop RB)).cell? q = some v ∧ ((W.alloc (.cells #[.bool (sg t), .string (mg t)] 23)).putObj (W6.heap.size + 1) (.loop RB)).frozen? q = W.frozen? q := fun q v hq =>
        ⟨cell_put hl1 _ _ (cell_keep hq (below1 W _)), (frozen_put hl1 _ _ (cell_keep hq (below1 W _))).trans ((below1 W _).frozen (World.block_lt_of_cell? _ _ hq))⟩
      have HV := Lib.hid (And.intro hV1 (And.intro hV2 (And.intro hV3 hV4)))
      clear hV1 hV2 hV3 hV4
      have M5 := v5.1.lt
      have M6 := v6.1.lt
      clear hl hl1 v5 v6 hD
      gi_wp2
      refine ⟨Hl.out, ?_⟩
      generalize (W.alloc (.cells #[.bool (sg t), .string (mg t)] 23)).putObj (W6.heap.size + 1) (.loop RB) = V at *
      obtain ⟨⟨⟨t1, t2, t3, t4⟩, t5, t6, t7, t8⟩, ⟨⟨t9, t10, t11, t12⟩, t13, t14, t15, t16⟩, t17, t18⟩ := id T0
      gi_wp2
      have kT : ConvT V.drew p5 x W.heap.size ln ld nn nd t := T0
      have BX : Below V.drew.heap.size V.drew V.drew := Below.refl _ _
      have hne : x ≠ p5 := by omega
      have hct : p5 ≠ W.heap.size := by omega
      refine regionT_in_round (T := T2 16 17 (fun W => RIn W p5 (sg ln) (mg ln) (sg ld) (mg ld)) (fun W' => RIn W' x (sg nn) (mg nn) (sg nd) (mg nd) ∧ W'.cell? ⟨W.heap.size, 0, none⟩ = some (.bool (sg t)) ∧ W'.cell? ⟨W.heap.size, 1, none⟩ = some (.string (mg t)))) (by kernel_rfl) (by kernel_rfl) ?_ ?_
      · rintro ⟨_, _, h⟩
        obtain ⟨h, _⟩ := (show Exit.outgrown = Exit.normal ∧ _ from h)
        cases h
      refine take2 (i := 0) (oi := { dst := some 18, op := Op.load 36 (Operand.tmp 6), type := 36, pos := "simplest.go:31", after := #[], guard := none }) (v := ?_) rfl (by kernel_rfl) (by kernel_rfl) (by kernel_rfl) (by kernel_rfl) (by kernel_rfl) (by decide) (by decide) (fun _ _ _ h => h) (Or.inl ⟨by rfl, ?_⟩) (kT.1.1) (⟨kT.2.1.1, kT.2.2.1, kT.2.2.2⟩) ?_
      rotate_left
      · intro w hSw
        (try dsimp only at hSw)
        (try unfold RIn at hSw)
        go_simp
        all_goals with_reducible rfl
      (try simp only [Act.put, List.setIfInBounds_toArray, List.set_cons_zero, List.set_cons_succ])
      refine take2 (i := 1) (oi := { dst := some 19, op := Op.load 23 (Operand.tmp 7), type := 23, pos := "simplest.go:31", after := #[], guard := none }) (v := ?_) rfl (by kernel_rfl) (by kernel_rfl) (by kernel_rfl) (by kernel_rfl) (by kernel_rfl) (by decide) (by decide) (fun _ _ _ h => h) (Or.inl ⟨by rfl, ?_⟩) (kT.1.1) (⟨kT.2.1.1, kT.2.2.1, kT.2.2.2⟩) ?_
      rotate_left
      · intro w hSw
        (try dsimp only at hSw)
        (try unfold RIn at hSw)
        go_simp
        all_goals with_reducible rfl
      (try simp only [Act.put, List.setIfInBounds_toArray, List.set_cons_zero, List.set_cons_succ])
      refine take2 (i := 2) (oi := { dst := some 20, op := Op.fieldAddr 36 (Operand.tmp 6) 0, type := 0, pos := "simplest.go:31", after := #[], guard := none }) (v := ?_) rfl (by kernel_rfl) (by kernel_rfl) (by kernel_rfl) (by kernel_rfl) (by kernel_rfl) (by decide) (by decide) (fun _ _ _ h => h) (Or.inl ⟨by rfl, ?_⟩) (kT.1.1) (⟨kT.2.1.1, kT.2.2.1, kT.2.2.2⟩) ?_
      rotate_left
      · intro w hSw
        (try dsimp only at hSw)
        (try unfold RIn at hSw)
        go_simp
        all_goals with_reducible rfl
      (try simp only [Act.put, List.setIfInBounds_toArray, List.set_cons_zero, List.set_cons_succ])
      refine take2 (i := 3) (oi := { dst := some 21, op := Op.load 23 (Operand.tmp 20), type := 23, pos := "simplest.go:31", after := #[{ on := 2, ground := Ground.data }], guard := none }) (v := ?_) rfl (by kernel_rfl) (by kernel_rfl) (by kernel_rfl) (by kernel_rfl) (by kernel_rfl) (by decide) (by decide) (fun _ _ _ h => h) (Or.inl ⟨by rfl, ?_⟩) (kT.1.1) (⟨kT.2.1.1, kT.2.2.1, kT.2.2.2⟩) ?_
      rotate_left
      · intro w hSw
        (try dsimp only at hSw)
        (try unfold RIn at hSw)
        go_simp
        all_goals with_reducible rfl
      (try simp only [Act.put, List.setIfInBounds_toArray, List.set_cons_zero, List.set_cons_succ])
      refine take2 (i := 5) (oi := { dst := some 23, op := Op.fieldAddr 36 (Operand.tmp 5) 0, type := 0, pos := "simplest.go:31", after := #[], guard := none }) (v := ?_) rfl (by kernel_rfl) (by kernel_rfl) (by kernel_rfl) (by kernel_rfl) (by kernel_rfl) (by decide) (by decide) (fun _ _ _ h => h) (Or.inl ⟨by rfl, ?_⟩) (kT.1.1) (⟨kT.2.1.1, kT.2.2.1, kT.2.2.2⟩) ?_
      rotate_left
      · intro w hSw
        (try dsimp only at hSw)
        (try unfold RIn at hSw)
        go_simp
        all_goals with_reducible rfl
      (try simp only [Act.put, List.setIfInBounds_toArray, List.set_cons_zero, List.set_cons_succ])
      refine take1 (i := 6) (oi := { dst := some 24, op := Op.load 23 (Operand.tmp 23), type := 23, pos := "simplest.go:31", after := #[{ on := 5, ground := Ground.data }], guard := none }) (v := ?_) rfl (by kernel_rfl) (by kernel_rfl) (by kernel_rfl) (by kernel_rfl) (by kernel_rfl) (by decide) (by decide) (fun _ _ _ h => h) (Or.inl ⟨by rfl, ?_⟩) (kT.1.1) (⟨kT.2.1.1, kT.2.2.1, kT.2.2.2⟩) ?_
      rotate_left
      · intro w hSw
        (try dsimp only at hSw)
        (try unfold RIn at hSw)
        go_simp
        all_goals with_reducible rfl
      (try simp only [Act.put, List.setIfInBounds_toArray, List.set_cons_zero, List.set_cons_succ])
      refine take2 (i := 8) (oi := { dst := some 26, op := Op.load 23 (Operand.tmp 7), type := 23, pos := "simplest.go:31", after := #[], guard := none }) (v := ?_) rfl (by kernel_rfl) (by kernel_rfl) (by kernel_rfl) (by kernel_rfl) (by kernel_rfl) (by decide) (by decide) (fun _ _ _ h => h) (Or.inl ⟨by rfl, ?_⟩) (kT.1.1) (⟨kT.2.1.1, kT.2.2.1, kT.2.2.2⟩) ?_
      rotate_left
      · intro w hSw
        (try dsimp only at hSw)
        (try unfold RIn at hSw)
        go_simp
        all_goals with_reducible rfl
      (try simp only [Act.put, List.setIfInBounds_toArray, List.set_cons_zero, List.set_cons_succ])
      refine take2 (i := 9) (oi := { dst := some 27, op := Op.fieldAddr 36 (Operand.tmp 6) 1, type := 0, pos := "simplest.go:31", after := #[], guard := none }) (v := ?_) rfl (by kernel_rfl) (by kernel_rfl) (by kernel_rfl) (by kernel_rfl) (by kernel_rfl) (by decide) (by decide) (fun _ _ _ h => h) (Or.inl ⟨by rfl, ?_⟩) (kT.1.1) (⟨kT.2.1.1, kT.2.2.1, kT.2.2.2⟩) ?_
      rotate_left
      · intro w hSw
        (try dsimp only at hSw)
        (try unfold RIn at hSw)
        go_simp
        all_goals with_reducible rfl
      (try simp only [Act.put, List.setIfInBounds_toArray, List.set_cons_zero, List.set_cons_succ])
      refine take2 (i := 10) (oi := { dst := some 28, op := Op.load 23 (Operand.tmp 27), type := 23, pos := "simplest.go:31", after := #[{ on := 9, ground := Ground.data }], guard := none }) (v := ?_) rfl (by kernel_rfl) (by kernel_rfl) (by kernel_rfl) (by kernel_rfl) (by kernel_rfl) (by decide) (by decide) (fun _ _ _ h => h) (Or.inl ⟨by rfl, ?_⟩) (kT.1.1) (⟨kT.2.1.1, kT.2.2.1, kT.2.2.2⟩) ?_
      rotate_left
      · intro w hSw
        (try dsimp only at hSw)
        (try unfold RIn at hSw)
        go_simp
        all_goals with_reducible rfl
      (try simp only [Act.put, List.setIfInBounds_toArray, List.set_cons_zero, List.set_cons_succ])
      refine take2 (i := 12) (oi := { dst := some 30, op := Op.fieldAddr 36 (Operand.tmp 5) 1, type := 0, pos := "simplest.go:31", after := #[], guard := none }) (v := ?_) rfl (by kernel_rfl) (by kernel_rfl) (by kernel_rfl) (by kernel_rfl) (by kernel_rfl) (by decide) (by decide) (fun _ _ _ h => h) (Or.inl ⟨by rfl, ?_⟩) (kT.1.1) (⟨kT.2.1.1, kT.2.2.1, kT.2.2.2⟩) ?_
      rotate_left
      · intro w hSw
        (try dsimp only at hSw)
        (try unfold RIn at hSw)
        go_simp
        all_goals with_reducible rfl
      (try simp only [Act.put, List.setIfInBounds_toArray, List.set_cons_zero, List.set_cons_succ])
      refine take1 (i := 13) (oi := { dst := some 31, op := Op.load 23 (Operand.tmp 30), type := 23, pos := "simplest.go:31", after := #[{ on := 12, ground := Ground.data }], guard := none }) (v := ?_) rfl (by kernel_rfl) (by kernel_rfl) (by kernel_rfl) (by kernel_rfl) (by kernel_rfl) (by decide) (by decide) (fun _ _ _ h => h) (Or.inl ⟨by rfl, ?_⟩) (kT.1.1) (⟨kT.2.1.1, kT.2.2.1, kT.2.2.2⟩) ?_
      rotate_left
      · intro w hSw
        (try dsimp only at hSw)
        (try unfold RIn at hSw)
        go_simp
        all_goals with_reducible rfl
      (try simp only [Act.put, List.setIfInBounds_toArray, List.set_cons_zero, List.set_cons_succ])
      refine stepT (i := 4) (o := { dst := some 22, op := Op.call { callee := Callee.value (Operand.func 13), args := #[Operand.tmp 19, Operand.tmp 21], argTypes := #[23, 23] }, type := 23, pos := "simplest.go:32", after := #[{ on := 1, ground := Ground.data }, { on := 3, ground := Ground.data }], guard := none }) (by kernel_rfl) rfl (fun K hK => ?_)
      go_simp
      go_at_call 13
      refine (imul_eq HJ.out.1 HJ.out.2.2.2.1 Ex.out).mono ?_
      rintro e X ⟨rfl, bX⟩
      have BX := BX.trans (bX.mono BX.size)
      have kT := kT.keep bX
      obtain ⟨⟨⟨t1, t2, t3, t4⟩, t5, t6, t7, t8⟩, ⟨⟨t9, t10, t11, t12⟩, t13, t14, t15, t16⟩, t17, t18⟩ := id kT
      go_wp2_with fail
      refine hK.out _ _ ⟨fun _ => kT.1.1, fun _ => ⟨kT.2.1.1, kT.2.2.1, kT.2.2.2⟩⟩ ?_
      clear hK K
      (try simp only [Act.put, List.setIfInBounds_toArray, List.set_cons_zero, List.set_cons_succ])
      refine stepT (i := 7) (o := { dst := some 25, op := Op.call { callee := Callee.value (Operand.func 9), args := #[Operand.tmp 22, Operand.tmp 24], argTypes := #[23, 23] }, type := 23, pos := "simplest.go:32", after := #[{ on := 4, ground := Ground.data }, { on := 6, ground := Ground.data }, { on := 4, ground := Ground.chain }], guard := none }) (by kernel_rfl) rfl (fun K hK => ?_)
      go_simp
      go_at_call 9
      refine (iadd_eq Jx.out HJ.out.2.1 En.out).mono ?_
      rintro e X ⟨rfl, bX⟩
      have BX := BX.trans (bX.mono BX.size)
      have kT := kT.keep bX
      obtain ⟨⟨⟨t1, t2, t3, t4⟩, t5, t6, t7, t8⟩, ⟨⟨t9, t10, t11, t12⟩, t13, t14, t15, t16⟩, t17, t18⟩ := id kT
      go_wp2_with fail
      refine hK.out _ _ ⟨fun _ => kT.1.1, fun _ => ⟨kT.2.1.1, kT.2.2.1, kT.2.2.2⟩⟩ ?_
      clear hK K
      (try simp only [Act.put, List.setIfInBounds_toArray, List.set_cons_zero, List.set_cons_succ])
      refine stepT (i := 11) (o := { dst := some 29, op := Op.call { callee := Callee.value (Operand.func 13), args := #[Operand.tmp 26, Operand.tmp 28], argTypes := #[23, 23] }, type := 23, pos := "simplest.go:33", after := #[{ on := 8, ground := Ground.data }, { on := 10, ground := Ground.data }, { on := 7, ground := Ground.chain }], guard := none }) (by kernel_rfl) rfl (fun K hK => ?_)
      go_simp
      go_at_call 13
      refine (imul_eq HJ.out.1 HJ.out.2.2.2.2 Ey.out).mono ?_
      rintro e X ⟨rfl, bX⟩
      have BX := BX.trans (bX.mono BX.size)
      have kT := kT.keep bX
      obtain ⟨⟨⟨t1, t2, t3, t4⟩, t5, t6, t7, t8⟩, ⟨⟨t9, t10, t11, t12⟩, t13, t14, t15, t16⟩, t17, t18⟩ := id kT
      go_wp2_with fail
      refine hK.out _ _ ⟨fun _ => kT.1.1, fun _ => ⟨kT.2.1.1, kT.2.2.1, kT.2.2.2⟩⟩ ?_
      clear hK K
      (try simp only [Act.put, List.setIfInBounds_toArray, List.set_cons_zero, List.set_cons_succ])
      refine stepT (i := 14) (o := { dst := some 32, op := Op.call { callee := Callee.value (Operand.func 9), args := #[Operand.tmp 29, Operand.tmp 31], argTypes := #[23, 23] }, type := 23, pos := "simplest.go:33", after := #[{ on := 11, ground := Ground.data }, { on := 13, ground := Ground.data }, { on := 11, ground := Ground.chain }], guard := none }) (by kernel_rfl) rfl (fun K hK => ?_)
      go_simp
      go_at_call 9
      refine (iadd_eq Jy.out HJ.out.2.2.1 Ed.out).mono ?_
      rintro e X ⟨rfl, bX⟩
      have BX := BX.trans (bX.mono BX.size)
      have kT := kT.keep bX
      obtain ⟨⟨⟨t1, t2, t3, t4⟩, t5, t6, t7, t8⟩, ⟨⟨t9, t10, t11, t12⟩, t13, t14, t15, t16⟩, t17, t18⟩ := id kT
      go_wp2_with fail
      refine hK.out _ _ ⟨fun _ => kT.1.1, fun _ => ⟨kT.2.1.1, kT.2.2.1, kT.2.2.2⟩⟩ ?_
      clear hK K
      (try simp only [Act.put, List.setIfInBounds_toArray, List.set_cons_zero, List.set_cons_succ])
      refine take2 (i := 15) (oi := { dst := some 33, op := Op.build 36 #[(0, Operand.tmp 25), (1, Operand.tmp 32)], type := 36, pos := "simplest.go:31", after := #[{ on := 7, ground := Ground.data }, { on := 14, ground := Ground.data }], guard := none }) (v := ?_) rfl (by kernel_rfl) (by kernel_rfl) (by kernel_rfl) (by kernel_rfl) (by kernel_rfl) (by decide) (by decide) (fun _ _ _ h => h) (Or.inl ⟨by rfl, ?_⟩) (kT.1.1) (⟨kT.2.1.1, kT.2.2.1, kT.2.2.2⟩) ?_
      rotate_left
      · intro w hSw
        (try dsimp only at hSw)
        (try unfold RIn at hSw)
        go_simp
        all_goals with_reducible rfl
      (try simp only [Act.put, List.setIfInBounds_toArray, List.set_cons_zero, List.set_cons_succ])
      refine stepT (i := 16) (o := { dst := none, op := Op.store 36 (Operand.tmp 5) (Operand.tmp 18), type := 0, pos := "simplest.go:31", after := #[{ on := 0, ground := Ground.data }, { on := 14, ground := Ground.chain }, { on := 0, ground := Ground.phase }, { on := 1, ground := Ground.textOnly Departure.lateStores }, { on := 2, ground := Ground.textOnly Departure.lateStores }, { on := 3, ground := Ground.textOnly Departure.inlinedCapture }, { on := 4, ground := Ground.textOnly Departure.lateStoresUnsure }, { on := 5, ground := Ground.phase }, { on := 6, ground := Ground.phase }, { on := 7, ground := Ground.textOnly Departure.lateStoresUnsure }, { on := 8, ground := Ground.textOnly Departure.lateStores }, { on := 9, ground := Ground.textOnly Departure.lateStores }, { on := 10, ground := Ground.textOnly Departure.inlinedCapture }, { on := 11, ground := Ground.textOnly Departure.lateStoresUnsure }, { on := 12, ground := Ground.phase }, { on := 13, ground := Ground.phase }, { on := 14, ground := Ground.textOnly Departure.lateStoresUnsure }, { on := 15, ground := Ground.textOnly Departure.inlinedCapture }], guard := none }) (by kernel_rfl) rfl (fun K hK => ?_)
      go_simp
      refine hK.out _ _ ⟨fun h => absurd h (by decide), fun _ => ⟨(((kT.2.1.1.set ⟨p5, 0, none⟩ hne _).set ⟨p5, 1, none⟩ hne _).set ⟨p5, 2, none⟩ hne _).set ⟨p5, 3, none⟩ hne _, (by rw [World.cell?_setCell_far _ _ _ _ (by exact hct), World.cell?_setCell_far _ _ _ _ (by exact hct), World.cell?_setCell_far _ _ _ _ (by exact hct), World.cell?_setCell_far _ _ _ _ (by exact hct)]; exact kT.2.2.1), (by rw [World.cell?_setCell_far _ _ _ _ (by exact hct), World.cell?_setCell_far _ _ _ _ (by exact hct), World.cell?_setCell_far _ _ _ _ (by exact hct), World.cell?_setCell_far _ _ _ _ (by exact hct)]; exact kT.2.2.2)⟩⟩ ?_
      clear hK K
      (try simp only [Act.put, List.setIfInBounds_toArray, List.set_cons_zero, List.set_cons_succ])
      refine stepT (i := 17) (o := { dst := none, op := Op.store 36 (Operand.tmp 6) (Operand.tmp 33), type := 0, pos := "simplest.go:31", after := #[{ on := 15, ground := Ground.data }, { on := 16, ground := Ground.chain }, { on := 0, ground := Ground.phase }, { on := 1, ground := Ground.phase }, { on := 2, ground := Ground.phase }, { on := 3, ground := Ground.phase }, { on := 4, ground := Ground.phase }, { on := 5, ground := Ground.phase }, { on := 6, ground := Ground.phase }, { on := 7, ground := Ground.phase }, { on := 8, ground := Ground.phase }, { on := 9, ground := Ground.phase }, { on := 10, ground := Ground.phase }, { on := 11, ground := Ground.phase }, { on := 12, ground := Ground.phase }, { on := 13, ground := Ground.phase }, { on := 14, ground := Ground.phase }, { on := 15, ground := Ground.phase }, { on := 16, ground := Ground.phase }], guard := none }) (by kernel_rfl) rfl (fun K hK => ?_)
      go_simp
      refine hK.out _ _ ⟨fun h => absurd h (by decide), fun h => absurd h (by decide)⟩ ?_
      clear hK K
      (try simp only [Act.put, List.setIfInBounds_toArray, List.set_cons_zero, List.set_cons_succ])
      refine doneT (by kernel_rfl) ?_ _
      have hbV := HV.out.2.2.1.drew.trans (BX.mono (show w.heap.size + 1 + 1 + 1 ≤ V.drew.heap.size from by have h9 := HV.out.2.2.1.size; have := Hs6.out; show _ ≤ V.heap.size; omega))
      have g1 := kT.1.st4 nn nd
      have g2 := (kT.2.1.far hne (sg nn) (sg nd) (mg nn) (mg nd)).st4 zn zd
      have g3 := g1.far (Ne.symm hne) (sg zn) (sg zd) (mg zn) (mg zd)
      have hko := (st4_others X p5 (sg nn) (sg nd) (mg nn) (mg nd)).trans (st4_others _ x (sg zn) (sg zd) (mg zn) (mg zd))
      have k1 := hko.same _ _ ((BX.block _ (Array.getElem?_eq_some_iff.1 HV.out.1).1).trans HV.out.1) rfl
      have k2 := hko.same _ _ ((BX.block _ (Array.getElem?_eq_some_iff.1 HV.out.2.1).1).trans HV.out.2.1) rfl
      have hnl : W6.heap.size ≠ W6.heap.size + 1 := by omega
      refine ⟨rfl, k1, World.putObj_heap_same (Array.getElem?_eq_some_iff.1 k1).1, (World.putObj_heap_other hnl).trans k2, g3.put k1 _, g2.put k1 _, below_put (st4_below (st4_below hbV p5 (by omega) _ _ _ _) x (by omega) _ _ _ _) _ (by have := Hs6.out; omega) _, fun q v hq h5 h6 => ?_⟩
      have c1 := HV.out.2.2.2 q v hq
      have c2 := cell_keep (Wp := V.drew) c1.1 BX
      have c3 := (BX.frozen (World.block_lt_of_cell? V.drew _ c1.1)).trans c1.2
      have c4 := (st4_far (g1 := sg zn) (g2 := sg zd) (s1 := mg zn) (s2 := mg zd) h6).trans ((st4_far (g1 := sg nn) (g2 := sg nd) (s1 := mg nn) (s2 := mg nd) h5).trans c2)
      exact ⟨cell_put k1 _ _ c4, (frozen_put k1 _ _ c4).trans ((st4_frozen ..).trans ((st4_frozen ..).trans c3))⟩
    have hbl := below2 W6 (.deferred (some [])) (.loop REC)
    refine (cterms_any (w.heap.size + 1 + 1 + 1) (W6.heap.size + 1) W6.heap.size p5 x (x + 1) (x + 1 + 1) k M REC W6 P hY (by omega) (by omega) (by omega) (by omega) (by omega) (by omega) (by omega) (by omega) (by omega) (by omega) (by have := Hs6.out; omega) HI.out.2.2.2.2.2.1 hk a b c d 0 1 1 0 _ ?_ HI.out.2.2.2.2.2.2).mono ?_
    · refine ⟨?_, ?_, V5.keep hbl, V6.keep hbl, ?_, ?_, HI.out.2.2.2.2.1, hbl.mono (by have := Hs6.out; omega)⟩
      · have := World.alloc_heap_new (W6.alloc (.deferred (some []))) (.loop REC)
        rwa [World.size_alloc] at this
      · exact (Below.heap_alloc _ _ _ (by rw [World.size_alloc]; omega)).trans (World.alloc_heap_new W6 _)
      · have h := L5.keep hbl
        exact ⟨_, _, _, _, h.1, h.2, HI.out.1, HI.out.2.1⟩
      · have h := H5.keep hbl
        exact ⟨_, _, _, _, h.1, h.2, HI.out.2.2.1, HI.out.2.2.2.1⟩
    · rintro e W' ⟨hv, hl, hD, hs, hB⟩
      exact ⟨hv, hl, hD, hs, hB⟩
  · rintro fn W' o r ⟨hD, ⟨rn, rd, hp, hv⟩, hB⟩ hl
    have hv' := hv.put hl o
    have hB' : Below (w.heap.size + 1 + 1 + 1) W6 (W'.putObj (W6.heap.size + 1) o) := below_put hB _ (by have := Hs6.out; omega) _
    have hD' : (W'.putObj (W6.heap.size + 1) o).heap[W6.heap.size]? = some (.deferred (some [])) := (World.putObj_heap_other (by omega)).trans hD
    have hr4 : FR (W'.putObj (W6.heap.size + 1) o) (w.heap.size + 1 + 1) false ⟨#[]⟩ false ⟨#[]⟩ :=
      ⟨⟨(hB'.cell (p := ⟨w.heap.size + 1 + 1, 0, none⟩) (by dsimp only; omega)).trans P5.1.1, (hB'.cell (p := ⟨w.heap.size + 1 + 1, 1, none⟩) (by dsimp only; omega)).trans P5.1.2.1, (hB'.cell (p := ⟨w.heap.size + 1 + 1, 2, none⟩) (by dsimp only; omega)).trans P5.1.2.2.1, (hB'.cell (p := ⟨w.heap.size + 1 + 1, 3, none⟩) (by dsimp only; omega)).trans P5.1.2.2.2⟩,
        (hB'.frozen (p := ⟨w.heap.size + 1 + 1, 0, none⟩) (by dsimp only; omega)).trans P5.2.1, (hB'.frozen (p := ⟨w.heap.size + 1 + 1, 1, none⟩) (by dsimp only; omega)).trans P5.2.2.1, (hB'.frozen (p := ⟨w.heap.size + 1 + 1, 2, none⟩) (by dsimp only; omega)).trans P5.2.2.2.1, (hB'.frozen (p := ⟨w.heap.size + 1 + 1, 3, none⟩) (by dsimp only; omega)).trans P5.2.2.2.2⟩
    have hB7 : Below w.heap.size w (W'.putObj (W6.heap.size + 1) o) := B5.trans (hB'.mono (by omega))
    have hB5s := B5.size
    clear hv hB hD hl hB' P5 V5 V6 L5 H5 B5
    generalize W'.putObj (W6.heap.size + 1) o = W8 at *
    obtain ⟨⟨t1, t2, t3, t4⟩, t5, t6, t7, t8⟩ := id hv'
    obtain ⟨⟨r1, r2, r3, r4⟩, r5, r6, r7, r8⟩ := id hr4
    gi_wp2
    have M4 := (hr4.st4 (sg rn) (sg rd) (mg rn) (mg rd)).1
    have hK := (st4_others W8 (w.heap.size + 1 + 1) (sg rn) (sg rd) (mg rn) (mg rd)).same _ _ hD' rfl
    have hB9 := below_put (st4_below hB7 (w.heap.size + 1 + 1) (by omega) (sg rn) (sg rd) (mg rn) (mg rd)) W6.heap.size (by have := hB5s; omega) (.deferred none)
    have v1 := cell_kept M4.1 (grownBy_putObj' _ W6.heap.size (.deferred none)) (fun r e => by cases e; exact ⟨_, hK, rfl⟩)
    have v2 := cell_kept M4.2.1 (grownBy_putObj' _ W6.heap.size (.deferred none)) (fun r e => by cases e; exact ⟨_, hK, rfl⟩)
    have v3 := cell_kept M4.2.2.1 (grownBy_putObj' _ W6.heap.size (.deferred none)) (fun r e => by cases e; exact ⟨_, hK, rfl⟩)
    have v4 := cell_kept M4.2.2.2 (grownBy_putObj' _ W6.heap.size (.deferred none)) (fun r e => by cases e; exact ⟨_, hK, rfl⟩)
    refine ⟨by simp, .inl ⟨_, _, rfl, run_takeDeferred hK, ?_⟩⟩
    unfold st4 at v1 v2 v3 v4 hB9
    exact ⟨.agg #[.bool (sg rn), .string (mg rn), .bool (sg rd), .string (mg rd)], by simp [results, Tryz.results98, go_sem, v1, v2, v3, v4], rn, rd, hp, rfl, hB9⟩
end Go.Proofs.YtfcdekkoeeaolaaGreatDoor

namespace Go.Proofs.YtfcdekkoeeaolaaGreatDoor
open Go.RowKit
set_option linter.unusedSimpArgs false
set_option linter.unusedVariables false

theorem mulpos_le {x b M : Int} (hx : 0 ≤ x) (hb : 0 < b) (h : x * b ≤ M) : x ≤ M := by
  have h1 : x * 1 ≤ x * b := Int.mul_le_mul_of_nonneg_left (by omega) hx
  omega
theorem Sim.bd {M a b c d ln ld nn nd rn rd : Int} (hs : Sim a b c d ln ld nn nd rn rd) : Inv M a b c d ln ld nn nd → (0 ≤ rn ∧ rn ≤ M) ∧ 0 ≤ rd ∧ rd ≤ M := by
  induction hs with
  | @whole a b c d ln ld nn nd h =>
    intro hI
    obtain ⟨t1, t2, t3, t4, t5, t6, t7, t8, t9⟩ := hI.terms
    obtain ⟨⟨h1, h2, h3, h4⟩, ⟨k1, k2, k3, k4⟩, h5, _, ⟨c1, c2⟩, _⟩ := hI
    have ea := Int.mul_ediv_add_emod a b
    rw [h] at ea
    generalize a / b = t at *
    have x1 := Int.mul_nonneg t1 k3
    have x2 := Int.mul_nonneg t1 k4
    refine ⟨⟨by omega, mulpos_le (by omega) h2 ?_⟩, by omega, mulpos_le (by omega) h2 ?_⟩
    · have e : (t * nn + ln) * b = nn * (b * t + 0) + ln * b := by grind
      rw [e, ea]; exact c1
    · have e : (t * nd + ld) * b = nd * (b * t + 0) + ld * b := by grind
      rw [e, ea]; exact c2
  | @above a b c d ln ld nn nd h hne =>
    intro hI
    obtain ⟨t1, t2, t3, t4, t5, t6, t7, t8, t9⟩ := hI.terms
    obtain ⟨⟨h1, h2, h3, h4⟩, ⟨k1, k2, k3, k4⟩, h5, _, _, c1, c2⟩ := hI
    have ec := Int.mul_ediv_add_emod c d
    generalize a / b = t at *
    generalize c / d = u at *
    generalize c % d = s at *
    have htu : t + 1 ≤ u := by omega
    have x1 : (t + 1) * nn ≤ u * nn := Int.mul_le_mul_of_nonneg_right htu k3
    have x2 : (t + 1) * nd ≤ u * nd := Int.mul_le_mul_of_nonneg_right htu k4
    have x3 := Int.mul_nonneg (show 0 ≤ t + 1 by omega) k3
    have x4 := Int.mul_nonneg (show 0 ≤ t + 1 by omega) k4
    have y1 : u * nn + ln ≤ M := mulpos_le (by omega) h4 (by
      have e : (u * nn + ln) * d = nn * (d * u + s) + ln * d - nn * s := by grind
      have := Int.mul_nonneg k3 t7
      rw [e, ec]; omega)
    have y2 : u * nd + ld ≤ M := mulpos_le (by omega) h4 (by
      have e : (u * nd + ld) * d = nd * (d * u + s) + ld * d - nd * s := by grind
      have := Int.mul_nonneg k4 t7
      rw [e, ec]; omega)
    refine ⟨⟨by omega, by omega⟩, by omega, by omega⟩
  | more h h2 _ ih => exact fun hI => ih (hI.step h h2)

/-- What the run leads to, of two numbers. -/
def SimOf (p q : Rat) (rn rd : Int) : Prop := ∃ a b c d : Int, 0 < b ∧ 0 < d ∧ Rat.divInt a b = p ∧ Rat.divInt c d = q ∧ Sim a b c d 0 1 1 0 rn rd
/-- The integers of a number in memory. -/
def raw (x y : Int) : Value := .agg #[.bool (sg x), .string (mg x), .bool (sg y), .string (mg y)]
theorem spos_up (v1 v2 : Value) (p q : Rat) (k : Nat) (w : World) (h1 : IsUp v1 p k) (h2 : IsUp v2 q k) (hp : 0 < p) (hle : p ≤ q) (hk : k ≤ 1000000) :
    Calls Tryz.prog 98 #[v1, v2] w fun e w' => ∃ rn rd, SimOf p q rn rd ∧ IsRat (raw rn rd) (Rat.divInt rn rd) k ∧ e = .returned (raw rn rd) ∧ Below w.heap.size w w' := by
  obtain ⟨na, sa, nb, sb, a, b, rfl, ia, ib, hb, rfl⟩ := h1
  obtain ⟨nc, sc, nd, sd, c, d, rfl, ic, id', hd, rfl⟩ := h2
  have ha : 0 < a := (divInt_pos_iff hb).1 hp
  have hle' : a * d ≤ c * b := by
    rcases Int.lt_or_le (c * b) (a * d) with h | h
    · exact absurd ((divInt_lt_iff hd hb).2 h) (Rat.not_lt.2 hle)
    · exact h
  have hc : 0 < c := by
    rcases Int.lt_or_le 0 c with h | h
    · exact h
    · have h3 := Int.mul_pos ha hd
      have h4 : c * b ≤ 0 := Int.mul_nonpos_of_nonpos_of_nonneg h (by omega)
      omega
  have b1 := ia.bd
  have b2 := ib.bd
  have b3 := ic.bd
  have b4 := id'.bd
  have hI : Inv (((4294967296 ^ k - 1 : Nat)) : Int) a b c d 0 1 1 0 := inv_start ha hb hc hd hle' (by omega) (by omega) (by omega) (by omega)
  have hM : ((((4294967296 ^ k - 1 : Nat)) : Int)).natAbs < 4294967296 ^ k := by omega
  refine (spos_any na nb nc nd sa sb sc sd a b c d _ k (fun rn rd => SimOf (Rat.divInt a b) (Rat.divInt c d) rn rd ∧ IsRat (raw rn rd) (Rat.divInt rn rd) k) w ia ib ic id' hI hM hk (fun rn rd hs => ⟨⟨a, b, c, d, hb, hd, rfl, rfl, hs⟩, ?_⟩)).mono ?_
  · obtain ⟨⟨x1, x2⟩, x3, x4⟩ := hs.bd hI
    exact ⟨_, _, _, _, rn, rd, rfl, isInt_mg (by omega) (by omega), isInt_mg (by omega) (by omega), rfl⟩
  · rintro e w' ⟨rn, rd, ⟨y1, y2⟩, rfl, hb⟩
    exact ⟨rn, rd, y1, y2, rfl, hb⟩
end Go.Proofs.YtfcdekkoeeaolaaGreatDoor

namespace Go.Proofs.YtfcdekkoeeaolaaGreatDoor
open Go.RowKit
set_option linter.unusedSimpArgs false
set_option linter.unusedVariables false

/-- A variable whose number has come up, or not yet. -/
def HoldsUp (V : Value → Prop) (W : World) (p : Nat) : Prop := ∃ g1 s1 g2 s2, V (.agg #[.bool g1, .string s1, .bool g2, .string s2]) ∧ RIn W p g1 s1 g2 s2
def Sl (base : Nat) (V : Value → Prop) (F : Prop) (u : Value) (W : World) : Prop := ∃ p, u = .pointer (some ⟨p, 0, none⟩) ∧ base ≤ p ∧ (∃ g1 s1 g2 s2, FR W p g1 s1 g2 s2) ∧ (F → HoldsUp V W p)
theorem Sl.keep {base : Nat} {V : Value → Prop} {F : Prop} {u : Value} {W W' : World} (h : Sl base V F u W) (hb : Below W.heap.size W W') : Sl base V F u W' := by
  obtain ⟨p, h1, h2, ⟨g1, s1, g2, s2, h3⟩, h4⟩ := h
  refine ⟨p, h1, h2, ⟨g1, s1, g2, s2, h3.keep hb⟩, fun f => ?_⟩
  obtain ⟨a1, b1, a2, b2, h5, h6⟩ := h4 f
  exact ⟨a1, b1, a2, b2, h5, h6.keep hb⟩
theorem Sl.imp {base : Nat} {V : Value → Prop} {F F' : Prop} {u : Value} {W : World} (h : Sl base V F u W) (hf : F' → F) : Sl base V F' u W := by
  obtain ⟨p, h1, h2, h3, h4⟩ := h
  exact ⟨p, h1, h2, h3, fun f => h4 (hf f)⟩
theorem Sl.new {base : Nat} {V : Value → Prop} {F : Prop} {W : World} (hF : ¬F) (hb : base ≤ W.heap.size) : Sl base V F (.pointer (some ⟨W.heap.size, 0, none⟩)) (W.alloc (.cells #[.bool false, .string ⟨#[]⟩, .bool false, .string ⟨#[]⟩] 36)) := by
  refine ⟨_, rfl, hb, ⟨false, ⟨#[]⟩, false, ⟨#[]⟩, RIn.new rfl, ?_, ?_, ?_, ?_⟩, fun f => absurd f hF⟩ <;> simp [go_sem]
theorem Sl.ne_new {base : Nat} {V : Value → Prop} {F : Prop} {u : Value} {W : World} (h : Sl base V F u W) : u ≠ .pointer (some ⟨W.heap.size, 0, none⟩) := by
  obtain ⟨p, rfl, _, ⟨g1, s1, g2, s2, h3⟩, _⟩ := h
  have := h3.1.lt
  intro e
  injection e with e
  injection e with e
  injection e with e
  omega
theorem Sl.far {base q : Nat} {V : Value → Prop} {F : Prop} {u : Value} {W : World} (h : Sl base V F u W) (hne : u ≠ .pointer (some ⟨q, 0, none⟩)) (g1 g2 : Bool) (s1 s2 : ByteArray) : Sl base V F u (st4 W q g1 s1 g2 s2) := by
  obtain ⟨p, rfl, h2, ⟨a1, b1, a2, b2, h3⟩, h4⟩ := h
  have hpq : p ≠ q := fun e => hne (by rw [e])
  refine ⟨p, rfl, h2, ⟨a1, b1, a2, b2, h3.far hpq _ _ _ _⟩, fun f => ?_⟩
  obtain ⟨c1, d1, c2, d2, h5, h6⟩ := h4 f
  exact ⟨c1, d1, c2, d2, h5, (st4_far (by exact hpq)).trans h6.1, (st4_far (by exact hpq)).trans h6.2.1, (st4_far (by exact hpq)).trans h6.2.2.1, (st4_far (by exact hpq)).trans h6.2.2.2⟩
theorem Sl.put {base p : Nat} {V : Value → Prop} {F F' : Prop} {W : World} (h : Sl base V F (.pointer (some ⟨p, 0, none⟩)) W) {g1 g2 : Bool} {s1 s2 : ByteArray} (hu : V (.agg #[.bool g1, .string s1, .bool g2, .string s2])) : Sl base V F' (.pointer (some ⟨p, 0, none⟩)) (st4 W p g1 s1 g2 s2) := by
  obtain ⟨p', e, h2, ⟨a1, b1, a2, b2, h3⟩, _⟩ := h
  injection e with e
  injection e with e
  injection e with e
  subst e
  exact ⟨p, rfl, h2, ⟨_, _, _, _, h3.st4 g1 g2 s1 s2⟩, fun _ => ⟨_, _, _, _, hu, (h3.st4 g1 g2 s1 s2).1⟩⟩
theorem RIn.low {B p : Nat} {W W' : World} {g1 g2 : Bool} {s1 s2 : ByteArray} (h : RIn W p g1 s1 g2 s2) (hb : Below B W W') (hp : p < B) : RIn W' p g1 s1 g2 s2 :=
  ⟨(hb.cell hp).trans h.1, (hb.cell hp).trans h.2.1, (hb.cell hp).trans h.2.2.1, (hb.cell hp).trans h.2.2.2⟩
/-- What lies below all that the region makes. -/
def Lo (w : World) (na nb nc nd : Bool) (sa sb sc sd : ByteArray) (W : World) : Prop := RIn2 W w.heap.size (w.heap.size + 1) na sa nb sb nc sc nd sd ∧ ResRat W (w.heap.size + 1 + 1) ∧ Below w.heap.size w W ∧ w.heap.size + 1 + 1 + 1 ≤ W.heap.size
theorem Lo.keep {w W W' : World} {na nb nc nd : Bool} {sa sb sc sd : ByteArray} (h : Lo w na nb nc nd sa sb sc sd W) (hb : Below (w.heap.size + 1 + 1 + 1) W W') : Lo w na nb nc nd sa sb sc sd W' := by
  obtain ⟨h1, h2, h3, h4⟩ := h
  refine ⟨.mk (h1.fst.low hb (by omega)) (h1.snd.low hb (by omega)), ⟨h2.1.low hb (by omega), ?_, ?_, ?_, ?_⟩, h3.trans (hb.mono (by omega)), by have := hb.size; omega⟩
  · exact (hb.frozen (by dsimp only; omega)).trans h2.2.1
  · exact (hb.frozen (by dsimp only; omega)).trans h2.2.2.1
  · exact (hb.frozen (by dsimp only; omega)).trans h2.2.2.2.1
  · exact (hb.frozen (by dsimp only; omega)).trans h2.2.2.2.2
theorem isUp_neg {v : Value} {q : Rat} {k : Nat} (h : IsUp v q k) (hk : k + 1 ≤ 10000000) : IsUp (ratV (-q)) (-q) (k + 1) := by
  obtain ⟨_, _, _, _, n, d, _, h2, h3, _, rfl⟩ := h
  have hb := ratBd_divInt h2.bd h3.bd
  refine isUp_ratV ⟨?_, hb.2⟩ hk
  show (-(Rat.divInt n d).num).natAbs < _
  rw [Int.natAbs_neg]
  exact hb.1
theorem isUp_zero {K : Nat} (h1 : 1 ≤ K) (h2 : K ≤ 10000000) : IsUp (ratV 0) 0 K := (isUp_ratV (k := 1) (by constructor <;> decide) (by omega)).wider h1 h2

/-- What Simplest returns, with the error's number. -/
def SimRes (p q : Rat) (v : Value) (n : Int) : Prop :=
  (q < p ∧ v = .agg #[.bool false, .string ⟨#[]⟩, .bool false, .string ⟨#[]⟩] ∧ n = 10) ∨
  (p ≤ q ∧ n = 0 ∧ ((0 < p ∧ ∃ rn rd, SimOf p q rn rd ∧ v = raw rn rd) ∨ (q < 0 ∧ ∃ rn rd, SimOf (-q) (-p) rn rd ∧ v = ratV (-(Rat.divInt rn rd))) ∨ (p ≤ 0 ∧ 0 ≤ q ∧ v = ratV 0)))
theorem cmpQ_gt {p q : Rat} : 0 < cmpQ p q ↔ q < p := by
  unfold cmpQ
  constructor
  · intro h
    split at h
    · omega
    · split at h
      · assumption
      · omega
  · intro h
    rw [if_neg (Rat.not_lt.2 (Rat.le_of_lt h)), if_pos h]
    omega
theorem cmpQ_lt {p q : Rat} : cmpQ p q < 0 ↔ p < q := by
  unfold cmpQ
  constructor
  · intro h
    split at h
    · assumption
    · split at h <;> omega
  · intro h
    rw [if_pos h]
    omega

set_option maxRecDepth 100000 in
set_option maxHeartbeats 6400000 in
theorem simplest_any (v1 v2 : Value) (p q : Rat) (k : Nat) (w : World) (h1 : IsRat v1 p k) (h2 : IsRat v2 q k) (hk1 : 1 ≤ k) (hk : k ≤ 900000) :
    Calls Tryz.prog 50 #[v1, v2] w fun e w' => ∃ v n, SimRes p q v n ∧ e = .returned (.tuple #[v, .int .i64 n]) ∧ Below w.heap.size w w' := by
  have H1 := Lib.hid h1
  have H2 := Lib.hid h2
  obtain ⟨na, sa, nb, sb, -, -, rfl, -⟩ := h1
  obtain ⟨nc, sc, nd, sd, -, -, rfl, -⟩ := h2
  have S0 : RIn2 (((w.alloc (.cells #[.bool na, .string sa, .bool nb, .string sb] 36)).alloc (.cells #[.bool nc, .string sc, .bool nd, .string sd] 36)).alloc (.cells #[.bool false, .string ⟨#[]⟩, .bool false, .string ⟨#[]⟩] 36)) w.heap.size (w.heap.size + 1) na sa nb sb nc sc nd sd := by
    refine ⟨?_, ?_, ?_, ?_, ?_, ?_, ?_, ?_⟩ <;> simp [go_sem]
  have P0 := ResRat.new ((w.alloc (.cells #[.bool na, .string sa, .bool nb, .string sb] 36)).alloc (.cells #[.bool nc, .string sc, .bool nd, .string sd] 36))
  rw [World.size_alloc, World.size_alloc] at P0
  have B0 := below3 w (.cells #[.bool na, .string sa, .bool nb, .string sb] 36) (.cells #[.bool nc, .string sc, .bool nd, .string sd] 36) (.cells #[.bool false, .string ⟨#[]⟩, .bool false, .string ⟨#[]⟩] 36)
  obtain ⟨n1, En⟩ : ∃ n1, Hid (cmpQ p q = n1) := ⟨_, Lib.hid rfl⟩
  go_enter Tryz.func50, Tryz.ntmps50
  go_wp2_with fail
  refine (rcmp_any _ _ p q k _ H1.out H2.out (by omega)).mono ?_
  rw [En.out]
  rintro e W1 ⟨rfl, b1⟩
  have S1 := S0.keep b1
  have P1 := P0.keep b1
  have B1 := below_more B0 (Nat.le_refl _) b1
  clear S0 P0 B0 b1
  by_cases hn : 0 < n1
  · have Hn := Lib.hid (cmpQ_gt.1 (by rw [En.out]; exact hn))
    obtain ⟨⟨r1, r2, r3, r4⟩, r5, r6, r7, r8⟩ := P1
    go_wp2
    exact bodyPost_ret (v := .tuple #[.agg #[.bool false, .string ⟨#[]⟩, .bool false, .string ⟨#[]⟩], .int .i64 10]) (by simp [results, Tryz.results50, go_sem, r1, r2, r3, r4]) rfl ⟨_, 10, .inl ⟨Hn.out, rfl, rfl⟩, rfl, below4s B1 _ (by omega) _ _ _ _⟩
  · have Hn := Lib.hid (Rat.not_lt.1 fun h => hn (by have := cmpQ_gt.2 h; rw [En.out] at this; exact this))
    go_upto_region 3 with fail
    have HB := Lib.hid (show Lo w na nb nc nd sa sb sc sd W1.drew from ⟨S1, P1.drew, B1.drew, by have := P1.1.lt; show _ ≤ W1.heap.size; omega⟩)
    have hmx : Tryz.prog.follows .mixedOrders = true := by kernel_rfl
    generalize decide (0 < n1) = D0
    refine region_inv' (J := (fun L a wx => ∃ u6 u7 u8 u14 u15 u16 u17 u18 u19, a = { tmps := #[.agg #[.bool na, .string sa, .bool nb, .string sb], .agg #[.bool nc, .string sc, .bool nd, .string sd], .pointer (some ⟨w.heap.size, 0, none⟩), .pointer (some ⟨w.heap.size + 1, 0, none⟩), .pointer (some ⟨w.heap.size + 1 + 1, 0, none⟩), .int .i64 0, u6, u7, u8, .agg #[.bool na, .string sa, .bool nb, .string sb], .agg #[.bool nc, .string sc, .bool nd, .string sd], .int .i64 n1, .bool D0, undef, u14, u15, u16, u17, u18, u19, undef, undef, undef, undef, undef, undef, undef, undef, undef, undef, undef, undef, undef, undef, undef, undef, undef, undef], defers := [] } ∧ Lo w na nb nc nd sa sb sc sd wx ∧
      (L.getD 0 false = true → u14 = .agg #[.bool na, .string sa, .bool nb, .string sb]) ∧ (L.getD 1 false = true → IsUp u15 p k) ∧ (L.getD 2 false = true → u16 = .agg #[.bool nc, .string sc, .bool nd, .string sd]) ∧ (L.getD 3 false = true → IsUp u17 q k) ∧ (L.getD 4 false = true → u18 = .agg #[.bool false, .string ⟨#[]⟩]) ∧ (L.getD 5 false = true → u19 = ratV 0) ∧
      (L.getD 6 false = true → Sl (w.heap.size + 1 + 1 + 1) (fun v => IsUp v p k) (L.getD 9 false = true) u6 wx) ∧ (L.getD 7 false = true → Sl (w.heap.size + 1 + 1 + 1) (fun v => IsUp v q k) (L.getD 10 false = true) u7 wx) ∧ (L.getD 8 false = true → Sl (w.heap.size + 1 + 1 + 1) (fun v => v = ratV 0) (L.getD 11 false = true) u8 wx) ∧
      (L.getD 6 false = true → L.getD 7 false = true → u6 ≠ u7) ∧ (L.getD 6 false = true → L.getD 8 false = true → u6 ≠ u8) ∧ (L.getD 7 false = true → L.getD 8 false = true → u7 ≠ u8) ∧ (L.getD 9 false = true → L.getD 6 false = true) ∧ (L.getD 10 false = true → L.getD 7 false = true) ∧ (L.getD 11 false = true → L.getD 8 false = true))) hmx (by kernel_rfl) ?_ ?_ ?_
    · exact ⟨undef, undef, undef, undef, undef, undef, undef, undef, undef, rfl, HB.out, (fun h => absurd h (by decide)), (fun h => absurd h (by decide)), (fun h => absurd h (by decide)), (fun h => absurd h (by decide)), (fun h => absurd h (by decide)), (fun h => absurd h (by decide)), (fun h => absurd h (by decide)), (fun h => absurd h (by decide)), (fun h => absurd h (by decide)), (fun h => absurd h (by decide)), (fun h => absurd h (by decide)), (fun h => absurd h (by decide)), (fun h => absurd h (by decide)), (fun h => absurd h (by decide)), (fun h => absurd h (by decide))⟩
    · intro i hi L a wx hl hw ⟨u6, u7, u8, u14, u15, u16, u17, u18, u19, ha, lo, c0, c1, c2, c3, c4, c5, s6, s7, s8, d67, d68, d78, k9, k10, k11⟩
      subst ha
      obtain ⟨⟨q1, q2, q3, q4, q5, q6, q7, q8⟩, -⟩ := id lo
      clear HB S1 P1 B1
      have hi' : i = 0 ∨ i = 1 ∨ i = 2 ∨ i = 3 ∨ i = 4 ∨ i = 5 ∨ i = 6 ∨ i = 7 ∨ i = 8 ∨ i = 9 ∨ i = 10 ∨ i = 11 := by
        have : i < 12 := hi
        omega
      rcases hi' with rfl | rfl | rfl | rfl | rfl | rfl | rfl | rfl | rfl | rfl | rfl | rfl
      · refine stepJ (i := 0) rfl (fun K hK => ?_)
        go_simp
        refine hK.out _ _ ⟨u6, u7, u8, _, u15, u16, u17, u18, u19, rfl, lo, fun _ => rfl, fun h => c1 (fl (by decide) h), fun h => c2 (fl (by decide) h), fun h => c3 (fl (by decide) h), fun h => c4 (fl (by decide) h), fun h => c5 (fl (by decide) h), fun h => ((s6 (fl (by decide) h)).imp (fl (by decide))), fun h => ((s7 (fl (by decide) h)).imp (fl (by decide))), fun h => ((s8 (fl (by decide) h)).imp (fl (by decide))), fun h h' => d67 (fl (by decide) h) (fl (by decide) h'), fun h h' => d68 (fl (by decide) h) (fl (by decide) h'), fun h h' => d78 (fl (by decide) h) (fl (by decide) h'), fun h => getD_set_true (k9 (fl (by decide) h)), fun h => getD_set_true (k10 (fl (by decide) h)), fun h => getD_set_true (k11 (fl (by decide) h))⟩
      · refine stepJ (i := 1) rfl (fun K hK => ?_)
        obtain rfl := c0 (hw 0 (by kernel_rfl))
        go_simp
        go_at_call 96
        refine (upright_any _ p k _ H1.out).mono ?_
        rintro e W2 ⟨v2, rfl, hup, b2⟩
        go_wp2_with fail
        refine hK.out _ _ ⟨u6, u7, u8, _, v2, u16, u17, u18, u19, rfl, lo.keep (b2.mono lo.2.2.2), fun _ => rfl, fun _ => hup.wider (by omega) (by omega), fun h => c2 (fl (by decide) h), fun h => c3 (fl (by decide) h), fun h => c4 (fl (by decide) h), fun h => c5 (fl (by decide) h), fun h => ((s6 (fl (by decide) h)).imp (fl (by decide))).keep b2, fun h => ((s7 (fl (by decide) h)).imp (fl (by decide))).keep b2, fun h => ((s8 (fl (by decide) h)).imp (fl (by decide))).keep b2, fun h h' => d67 (fl (by decide) h) (fl (by decide) h'), fun h h' => d68 (fl (by decide) h) (fl (by decide) h'), fun h h' => d78 (fl (by decide) h) (fl (by decide) h'), fun h => getD_set_true (k9 (fl (by decide) h)), fun h => getD_set_true (k10 (fl (by decide) h)), fun h => getD_set_true (k11 (fl (by decide) h))⟩
      · refine stepJ (i := 2) rfl (fun K hK => ?_)
        go_simp
        refine hK.out _ _ ⟨u6, u7, u8, u14, u15, _, u17, u18, u19, rfl, lo, fun h => c0 (fl (by decide) h), fun h => c1 (fl (by decide) h), fun _ => rfl, fun h => c3 (fl (by decide) h), fun h => c4 (fl (by decide) h), fun h => c5 (fl (by decide) h), fun h => ((s6 (fl (by decide) h)).imp (fl (by decide))), fun h => ((s7 (fl (by decide) h)).imp (fl (by decide))), fun h => ((s8 (fl (by decide) h)).imp (fl (by decide))), fun h h' => d67 (fl (by decide) h) (fl (by decide) h'), fun h h' => d68 (fl (by decide) h) (fl (by decide) h'), fun h h' => d78 (fl (by decide) h) (fl (by decide) h'), fun h => getD_set_true (k9 (fl (by decide) h)), fun h => getD_set_true (k10 (fl (by decide) h)), fun h => getD_set_true (k11 (fl (by decide) h))⟩
      · refine stepJ (i := 3) rfl (fun K hK => ?_)
        obtain rfl := c2 (hw 2 (by kernel_rfl))
        go_simp
        go_at_call 96
        refine (upright_any _ q k _ H2.out).mono ?_
        rintro e W2 ⟨v2, rfl, hup, b2⟩
        go_wp2_with fail
        refine hK.out _ _ ⟨u6, u7, u8, u14, u15, _, v2, u18, u19, rfl, lo.keep (b2.mono lo.2.2.2), fun h => c0 (fl (by decide) h), fun h => c1 (fl (by decide) h), fun _ => rfl, fun _ => hup.wider (by omega) (by omega), fun h => c4 (fl (by decide) h), fun h => c5 (fl (by decide) h), fun h => ((s6 (fl (by decide) h)).imp (fl (by decide))).keep b2, fun h => ((s7 (fl (by decide) h)).imp (fl (by decide))).keep b2, fun h => ((s8 (fl (by decide) h)).imp (fl (by decide))).keep b2, fun h h' => d67 (fl (by decide) h) (fl (by decide) h'), fun h h' => d68 (fl (by decide) h) (fl (by decide) h'), fun h h' => d78 (fl (by decide) h) (fl (by decide) h'), fun h => getD_set_true (k9 (fl (by decide) h)), fun h => getD_set_true (k10 (fl (by decide) h)), fun h => getD_set_true (k11 (fl (by decide) h))⟩
      · refine stepJ (i := 4) rfl (fun K hK => ?_)
        go_simp
        refine hK.out _ _ ⟨u6, u7, u8, u14, u15, u16, u17, _, u19, rfl, lo, fun h => c0 (fl (by decide) h), fun h => c1 (fl (by decide) h), fun h => c2 (fl (by decide) h), fun h => c3 (fl (by decide) h), fun _ => rfl, fun h => c5 (fl (by decide) h), fun h => ((s6 (fl (by decide) h)).imp (fl (by decide))), fun h => ((s7 (fl (by decide) h)).imp (fl (by decide))), fun h => ((s8 (fl (by decide) h)).imp (fl (by decide))), fun h h' => d67 (fl (by decide) h) (fl (by decide) h'), fun h h' => d68 (fl (by decide) h) (fl (by decide) h'), fun h h' => d78 (fl (by decide) h) (fl (by decide) h'), fun h => getD_set_true (k9 (fl (by decide) h)), fun h => getD_set_true (k10 (fl (by decide) h)), fun h => getD_set_true (k11 (fl (by decide) h))⟩
      · refine stepJ (i := 5) rfl (fun K hK => ?_)
        obtain rfl := c4 (hw 4 (by kernel_rfl))
        go_simp
        go_at_call 34
        refine (rof_any _ 0 1 _ zero_int).mono ?_
        rintro e W2 ⟨rfl, b2⟩
        go_wp2_with fail
        refine hK.out _ _ ⟨u6, u7, u8, u14, u15, u16, u17, _, _, rfl, lo.keep (b2.mono lo.2.2.2), fun h => c0 (fl (by decide) h), fun h => c1 (fl (by decide) h), fun h => c2 (fl (by decide) h), fun h => c3 (fl (by decide) h), fun _ => rfl, fun _ => rfl, fun h => ((s6 (fl (by decide) h)).imp (fl (by decide))).keep b2, fun h => ((s7 (fl (by decide) h)).imp (fl (by decide))).keep b2, fun h => ((s8 (fl (by decide) h)).imp (fl (by decide))).keep b2, fun h h' => d67 (fl (by decide) h) (fl (by decide) h'), fun h h' => d68 (fl (by decide) h) (fl (by decide) h'), fun h h' => d78 (fl (by decide) h) (fl (by decide) h'), fun h => getD_set_true (k9 (fl (by decide) h)), fun h => getD_set_true (k10 (fl (by decide) h)), fun h => getD_set_true (k11 (fl (by decide) h))⟩
      · refine stepJ (i := 6) rfl (fun K hK => ?_)
        go_simp
        refine hK.out _ _ ⟨_, u7, u8, u14, u15, u16, u17, u18, u19, rfl, lo.keep ((below1 wx _).mono lo.2.2.2), fun h => c0 (fl (by decide) h), fun h => c1 (fl (by decide) h), fun h => c2 (fl (by decide) h), fun h => c3 (fl (by decide) h), fun h => c4 (fl (by decide) h), fun h => c5 (fl (by decide) h), fun _ => Sl.new (fun h => absurd ((k9 (fl (by decide) h)).symm.trans hl) (by decide)) lo.2.2.2, fun h => ((s7 (fl (by decide) h)).imp (fl (by decide))).keep (below1 wx _), fun h => ((s8 (fl (by decide) h)).imp (fl (by decide))).keep (below1 wx _), fun _ h' => Ne.symm (s7 (fl (by decide) h')).ne_new, fun _ h' => Ne.symm (s8 (fl (by decide) h')).ne_new, fun h h' => d78 (fl (by decide) h) (fl (by decide) h'), fun h => getD_set_true (k9 (fl (by decide) h)), fun h => getD_set_true (k10 (fl (by decide) h)), fun h => getD_set_true (k11 (fl (by decide) h))⟩
      · refine stepJ (i := 7) rfl (fun K hK => ?_)
        go_simp
        refine hK.out _ _ ⟨u6, _, u8, u14, u15, u16, u17, u18, u19, rfl, lo.keep ((below1 wx _).mono lo.2.2.2), fun h => c0 (fl (by decide) h), fun h => c1 (fl (by decide) h), fun h => c2 (fl (by decide) h), fun h => c3 (fl (by decide) h), fun h => c4 (fl (by decide) h), fun h => c5 (fl (by decide) h), fun h => ((s6 (fl (by decide) h)).imp (fl (by decide))).keep (below1 wx _), fun _ => Sl.new (fun h => absurd ((k10 (fl (by decide) h)).symm.trans hl) (by decide)) lo.2.2.2, fun h => ((s8 (fl (by decide) h)).imp (fl (by decide))).keep (below1 wx _), fun h _ => (s6 (fl (by decide) h)).ne_new, fun h h' => d68 (fl (by decide) h) (fl (by decide) h'), fun _ h' => Ne.symm (s8 (fl (by decide) h')).ne_new, fun h => getD_set_true (k9 (fl (by decide) h)), fun h => getD_set_true (k10 (fl (by decide) h)), fun h => getD_set_true (k11 (fl (by decide) h))⟩
      · refine stepJ (i := 8) rfl (fun K hK => ?_)
        go_simp
        refine hK.out _ _ ⟨u6, u7, _, u14, u15, u16, u17, u18, u19, rfl, lo.keep ((below1 wx _).mono lo.2.2.2), fun h => c0 (fl (by decide) h), fun h => c1 (fl (by decide) h), fun h => c2 (fl (by decide) h), fun h => c3 (fl (by decide) h), fun h => c4 (fl (by decide) h), fun h => c5 (fl (by decide) h), fun h => ((s6 (fl (by decide) h)).imp (fl (by decide))).keep (below1 wx _), fun h => ((s7 (fl (by decide) h)).imp (fl (by decide))).keep (below1 wx _), fun _ => Sl.new (fun h => absurd ((k11 (fl (by decide) h)).symm.trans hl) (by decide)) lo.2.2.2, fun h h' => d67 (fl (by decide) h) (fl (by decide) h'), fun h _ => (s6 (fl (by decide) h)).ne_new, fun h _ => (s7 (fl (by decide) h)).ne_new, fun h => getD_set_true (k9 (fl (by decide) h)), fun h => getD_set_true (k10 (fl (by decide) h)), fun h => getD_set_true (k11 (fl (by decide) h))⟩
      · refine stepJ (i := 9) rfl (fun K hK => ?_)
        obtain ⟨pp, rfl, hpp, ⟨a1, b1, a2, b2, ⟨⟨y1, y2, y3, y4⟩, y5, y6, y7, y8⟩⟩, _⟩ := id (s6 (hw 6 (by kernel_rfl)))
        have hup := c1 (hw 1 (by kernel_rfl))
        obtain ⟨g1, t1, g2, t2, -, -, rfl, -⟩ := id hup
        go_simp
        refine hK.out _ _ ⟨_, u7, u8, u14, _, u16, u17, u18, u19, rfl, lo.keep (st4_below (Below.refl _ _) pp hpp _ _ _ _), fun h => c0 (fl (by decide) h), fun _ => hup, fun h => c2 (fl (by decide) h), fun h => c3 (fl (by decide) h), fun h => c4 (fl (by decide) h), fun h => c5 (fl (by decide) h), fun _ => (s6 (hw 6 (by kernel_rfl))).put hup, fun h => ((s7 (fl (by decide) h)).imp (fl (by decide))).far (Ne.symm (d67 (hw 6 (by kernel_rfl)) (fl (by decide) h))) _ _ _ _, fun h => ((s8 (fl (by decide) h)).imp (fl (by decide))).far (Ne.symm (d68 (hw 6 (by kernel_rfl)) (fl (by decide) h))) _ _ _ _, fun h h' => d67 (fl (by decide) h) (fl (by decide) h'), fun h h' => d68 (fl (by decide) h) (fl (by decide) h'), fun h h' => d78 (fl (by decide) h) (fl (by decide) h'), fun _ => getD_set_true (hw 6 (by kernel_rfl)), fun h => getD_set_true (k10 (fl (by decide) h)), fun h => getD_set_true (k11 (fl (by decide) h))⟩
      · refine stepJ (i := 10) rfl (fun K hK => ?_)
        obtain ⟨pp, rfl, hpp, ⟨a1, b1, a2, b2, ⟨⟨y1, y2, y3, y4⟩, y5, y6, y7, y8⟩⟩, _⟩ := id (s7 (hw 7 (by kernel_rfl)))
        have hup := c3 (hw 3 (by kernel_rfl))
        obtain ⟨g1, t1, g2, t2, -, -, rfl, -⟩ := id hup
        go_simp
        refine hK.out _ _ ⟨u6, _, u8, u14, u15, u16, _, u18, u19, rfl, lo.keep (st4_below (Below.refl _ _) pp hpp _ _ _ _), fun h => c0 (fl (by decide) h), fun h => c1 (fl (by decide) h), fun h => c2 (fl (by decide) h), fun _ => hup, fun h => c4 (fl (by decide) h), fun h => c5 (fl (by decide) h), fun h => ((s6 (fl (by decide) h)).imp (fl (by decide))).far (d67 (fl (by decide) h) (hw 7 (by kernel_rfl))) _ _ _ _, fun _ => (s7 (hw 7 (by kernel_rfl))).put hup, fun h => ((s8 (fl (by decide) h)).imp (fl (by decide))).far (Ne.symm (d78 (hw 7 (by kernel_rfl)) (fl (by decide) h))) _ _ _ _, fun h h' => d67 (fl (by decide) h) (fl (by decide) h'), fun h h' => d68 (fl (by decide) h) (fl (by decide) h'), fun h h' => d78 (fl (by decide) h) (fl (by decide) h'), fun h => getD_set_true (k9 (fl (by decide) h)), fun _ => getD_set_true (hw 7 (by kernel_rfl)), fun h => getD_set_true (k11 (fl (by decide) h))⟩
      · refine stepJ (i := 11) rfl (fun K hK => ?_)
        obtain ⟨pp, rfl, hpp, ⟨a1, b1, a2, b2, ⟨⟨y1, y2, y3, y4⟩, y5, y6, y7, y8⟩⟩, _⟩ := id (s8 (hw 8 (by kernel_rfl)))
        obtain rfl := c5 (hw 5 (by kernel_rfl))
        have hup : (fun v => v = ratV 0) (.agg #[.bool (sg (0 : Rat).num), .string (mg (0 : Rat).num), .bool (sg ((0 : Rat).den : Int)), .string (mg ((0 : Rat).den : Int))]) := rfl
        unfold ratV
        go_simp
        refine hK.out _ _ ⟨u6, u7, _, u14, u15, u16, u17, u18, _, rfl, lo.keep (st4_below (Below.refl _ _) pp hpp _ _ _ _), fun h => c0 (fl (by decide) h), fun h => c1 (fl (by decide) h), fun h => c2 (fl (by decide) h), fun h => c3 (fl (by decide) h), fun h => c4 (fl (by decide) h), fun _ => rfl, fun h => ((s6 (fl (by decide) h)).imp (fl (by decide))).far (d68 (fl (by decide) h) (hw 8 (by kernel_rfl))) _ _ _ _, fun h => ((s7 (fl (by decide) h)).imp (fl (by decide))).far (d78 (fl (by decide) h) (hw 8 (by kernel_rfl))) _ _ _ _, fun _ => (s8 (hw 8 (by kernel_rfl))).put hup, fun h h' => d67 (fl (by decide) h) (fl (by decide) h'), fun h h' => d68 (fl (by decide) h) (fl (by decide) h'), fun h h' => d78 (fl (by decide) h) (fl (by decide) h'), fun h => getD_set_true (k9 (fl (by decide) h)), fun h => getD_set_true (k10 (fl (by decide) h)), fun _ => getD_set_true (hw 8 (by kernel_rfl))⟩
    · rintro L a wx hall ⟨u6, u7, u8, u14, u15, u16, u17, u18, u19, rfl, lo, c0, c1, c2, c3, c4, c5, s6, s7, s8, d67, d68, d78, k9, k10, k11⟩
      obtain ⟨p6, rfl, x6, _, h6⟩ := s6 (hall 6 (by decide))
      obtain ⟨p7, rfl, x7, _, h7⟩ := s7 (hall 7 (by decide))
      obtain ⟨p8, rfl, x8, _, h8⟩ := s8 (hall 8 (by decide))
      obtain ⟨g1, t1, g2, t2, U6, R6⟩ := h6 (hall 9 (by decide))
      obtain ⟨g3, t3, g4, t4, U7, R7⟩ := h7 (hall 10 (by decide))
      obtain ⟨g5, t5, g6, t6, U8, R8⟩ := h8 (hall 11 (by decide))
      have K6 := Lib.hid (show IsUp _ p k from U6)
      have K7 := Lib.hid (show IsUp _ q k from U7)
      have K8 := Lib.hid (show IsRat (.agg #[.bool g5, .string t5, .bool g6, .string t6]) 0 k from (show _ = ratV 0 from U8) ▸ (isUp_zero hk1 (by omega)).rat)
      have E8 := Lib.hid (show Value.agg #[.bool g5, .string t5, .bool g6, .string t6] = ratV 0 from U8)
      obtain ⟨-, P2, B2, -⟩ := lo
      clear HB S1 P1 B1 s6 s7 s8 d67 d68 d78 k9 k10 k11 c0 c1 c2 c3 c4 c5 hall h6 h7 h8 U6 U7 U8
      obtain ⟨n2, En2⟩ : ∃ n2, Hid (cmpQ p 0 = n2) := ⟨_, Lib.hid rfl⟩
      obtain ⟨n3, En3⟩ : ∃ n3, Hid (cmpQ q 0 = n3) := ⟨_, Lib.hid rfl⟩
      dsimp only
      obtain ⟨e1, e2, e3, e4⟩ := id R6
      obtain ⟨e5, e6, e7, e8⟩ := id R8
      go_wp2_with fail
      refine (rcmp_any _ _ p 0 k _ K6.out.rat K8.out (by omega)).mono ?_
      rw [En2.out]
      rintro e W3 ⟨rfl, b3⟩
      have R6' := R6.keep b3
      have R7' := R7.keep b3
      have R8' := R8.keep b3
      have P3 := P2.keep b3
      have B3 := below_more B2 (Nat.le_refl _) b3
      clear e1 e2 e3 e4 e5 e6 e7 e8 R6 R7 R8 P2 B2 b3
      by_cases hn2 : 0 < n2
      · have Hp := Lib.hid (cmpQ_gt.1 (by rw [En2.out]; exact hn2))
        obtain ⟨e1, e2, e3, e4⟩ := id R6'
        obtain ⟨e5, e6, e7, e8⟩ := id R7'
        go_wp2_with fail
        refine (spos_up _ _ p q k _ K6.out K7.out Hp.out Hn.out (by omega)).mono ?_
        rintro e W4 ⟨rn, rd, hs, hr, rfl, b4⟩
        obtain ⟨⟨r1, r2, r3, r4⟩, r5, r6, r7, r8⟩ := P3.keep b4
        unfold raw
        go_wp2
        exact bodyPost_ret (v := .tuple #[raw rn rd, .int .i64 0]) (by simp [results, Tryz.results50, go_sem, r1, r2, r3, r4, raw]) rfl ⟨_, 0, .inr ⟨Hn.out, rfl, .inl ⟨Hp.out, rn, rd, hs, rfl⟩⟩, rfl, below4s (below_more B3 (Nat.le_refl _) b4) _ (by omega) _ _ _ _⟩
      · have Hp := Lib.hid (Rat.not_lt.1 fun h => hn2 (by have := cmpQ_gt.2 h; rw [En2.out] at this; exact this))
        obtain ⟨e1, e2, e3, e4⟩ := id R7'
        obtain ⟨e5, e6, e7, e8⟩ := id R8'
        go_wp2_with fail
        refine (rcmp_any _ _ q 0 k _ K7.out.rat K8.out (by omega)).mono ?_
        rw [En3.out]
        rintro e W4 ⟨rfl, b4⟩
        have R6 := R6'.keep b4
        have R7 := R7'.keep b4
        have R8 := R8'.keep b4
        have P4 := P3.keep b4
        have B4 := below_more B3 (Nat.le_refl _) b4
        clear e1 e2 e3 e4 e5 e6 e7 e8 R6' R7' R8' P3 B3 b4
        by_cases hn3 : n3 < 0
        · have Hq := Lib.hid (cmpQ_lt.1 (by rw [En3.out]; exact hn3))
          have Un := Lib.hid (isUp_neg K7.out (by omega))
          have Um := Lib.hid (isUp_neg K6.out (by omega))
          have Hnq := Lib.hid (show (0 : Rat) < -q by have := Hq.out; grind)
          have Hnp := Lib.hid (Rat.neg_le_neg Hn.out)
          have S4 : RIn2 W4.drew p7 p6 g3 t3 g4 t4 g1 t1 g2 t2 := .mk R7 R6
          have P5 := P4.drew
          have hn7 : p7 ≠ w.heap.size + 1 + 1 := by omega
          have hn6 : p6 ≠ w.heap.size + 1 + 1 := by omega
          have B5 := B4.drew
          go_upto_region 7 with fail
          go_region_held3 (fun W => W.cell? ⟨p7, 0, none⟩ = some (.bool g3) ∧ W.cell? ⟨p7, 1, none⟩ = some (.string t3) ∧ W.cell? ⟨p7, 2, none⟩ = some (.bool g4) ∧ W.cell? ⟨p7, 3, none⟩ = some (.string t4) ∧ W.cell? ⟨p6, 0, none⟩ = some (.bool g1) ∧ W.cell? ⟨p6, 1, none⟩ = some (.string t1) ∧ W.cell? ⟨p6, 2, none⟩ = some (.bool g2) ∧ W.cell? ⟨p6, 3, none⟩ = some (.string t2)) ((show RIn2 _ p7 p6 g3 t3 g4 t4 g1 t1 g2 t2; first | with_reducible exact S4 | with_reducible exact S5 | with_reducible exact S6 | with_reducible exact S7 | with_reducible exact S8 | exact (((S8.set _ _ hn7 hn6).set _ _ hn7 hn6).set _ _ hn7 hn6).set _ _ hn7 hn6 | exact .mk R7 R6))
            (first
              | (go_at_call_of 42 (Value.agg #[Value.bool g3, Value.string t3, Value.bool g4, Value.string t4]); refine (rneg_any _ q (-q) k _ K7.out.rat (by omega) rfl).mono ?_; rintro e W5 ⟨rfl, b5⟩; have S5 := S4.keep b5; have P6 := P5.keep b5; have B6 := below_more B5 (Nat.le_refl _) b5)
              | (go_at_call_of 42 (Value.agg #[Value.bool g1, Value.string t1, Value.bool g2, Value.string t2]); refine (rneg_any _ p (-p) k _ K6.out.rat (by omega) rfl).mono ?_; rintro e W6 ⟨rfl, b6⟩; have S6 := S5.keep b6; have P7 := P6.keep b6; have B7 := below_more B6 (Nat.le_refl _) b6)
              | (go_at_call 98; refine (spos_up _ _ (-q) (-p) (k + 1) _ Un.out Um.out Hnq.out Hnp.out (by omega)).mono ?_; rintro e W7 ⟨rn, rd, hs, hr, rfl, b7⟩; obtain ⟨z, Ez⟩ : ∃ z, Hid (-(Rat.divInt rn rd) = z) := ⟨_, Lib.hid rfl⟩; have S7 := S6.keep b7; have P8 := P7.keep b7; have B8 := below_more B7 (Nat.le_refl _) b7)
              | (go_at_call 42; refine (rneg_any _ (Rat.divInt rn rd) z (k + 1) _ hr (by omega) Ez.out).mono ?_; rintro e W8 ⟨rfl, b8⟩; have S8 := S7.keep b8; unfold ratV; obtain ⟨⟨r1, r2, r3, r4⟩, r5, r6, r7, r8⟩ := P8.keep b8))
          all_goals
            go_wp2
            exact bodyPost_ret (v := .tuple #[ratV z, .int .i64 0]) (by simp [results, Tryz.results50, go_sem, r1, r2, r3, r4, ratV]) rfl ⟨_, 0, .inr ⟨Hn.out, rfl, .inr (.inl ⟨Hq.out, rn, rd, hs, by rw [Ez.out]⟩)⟩, rfl, below4s (below_more B8 (Nat.le_refl _) b8) _ (by omega) _ _ _ _⟩
        · have Hq := Lib.hid (Rat.not_lt.1 fun h => hn3 (by have := cmpQ_lt.2 h; rw [En3.out] at this; exact this))
          obtain ⟨e5, e6, e7, e8⟩ := id R8
          obtain ⟨⟨r1, r2, r3, r4⟩, r5, r6, r7, r8⟩ := P4
          go_wp2
          exact bodyPost_ret (v := .tuple #[.agg #[.bool g5, .string t5, .bool g6, .string t6], .int .i64 0]) (by simp [results, Tryz.results50, go_sem, r1, r2, r3, r4]) rfl ⟨_, 0, .inr ⟨Hn.out, rfl, .inr (.inr ⟨Hp.out, Hq.out, E8.out⟩)⟩, rfl, below4s B4 _ (by omega) _ _ _ _⟩
end Go.Proofs.YtfcdekkoeeaolaaGreatDoor
