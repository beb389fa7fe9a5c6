/- What rational.simplestPositive returns. Condition: the integers have at most 10^6 digits to the base 2^32. What rational.Simplest returns. Condition: the integers have at most 10^6 digits to the base 2^32. A region that draws its order, by a statement that every operation keeps, whatever has come up before it: one walk for each operation, not one for each order. No condition. -/
import Derived.Test.YtcljkdninmldiaaGreatDoorQ34

namespace Go.Proofs.YtcljkdninmldiaaGreatDoor
open Go.RowKit Go.Shelf
attribute [local go_sem] Oper.semAt_some
set_option linter.unusedSimpArgs false
set_option linter.unusedVariables false

/-- The last two convergents, and the next term. -/
def ConvT (W : World) (p q c : Nat) (ln ld nn nd t : Int) : Prop := RV W p ln ld ∧ RV W q nn nd ∧ W.cell? ⟨c, 0, none⟩ = some (.bool (sg t)) ∧ W.cell? ⟨c, 1, none⟩ = some (.string (mg t))
theorem ConvT.keep {W W' : World} {p q c : Nat} {ln ld nn nd t : Int} (h : ConvT W p q c ln ld nn nd t) (hb : Below W.heap.size W W') : ConvT W' p q c ln ld nn nd t := ⟨h.1.keep hb, h.2.1.keep hb, cell_keep h.2.2.1 hb, cell_keep h.2.2.2 hb⟩
theorem terms_any (na nb nc nd : Bool) (sa sb sc sd : ByteArray) (w : World) :
    Calls Tryz.prog 56 #[.agg #[.bool na, .string sa, .bool nb, .string sb], .agg #[.bool nc, .string sc, .bool nd, .string sd]] w fun e w' =>
      e = .returned (.func (.func 92) #[] #[.pointer (some ⟨w.heap.size, 0, none⟩), .pointer (some ⟨w.heap.size + 1, 0, none⟩)]) ∧
      w' = (w.alloc (.cells #[.bool na, .string sa, .bool nb, .string sb] 25)).alloc (.cells #[.bool nc, .string sc, .bool nd, .string sd] 25) := by
  go_enter Tryz.func56, Tryz.ntmps56
  go_wp2
  go_ret
  exact ⟨rfl, rfl⟩

set_option maxRecDepth 100000 in
set_option maxHeartbeats 6400000 in
theorem spos_any (na nb nc nd : Bool) (sa sb sc sd : ByteArray) (a b c d M : Int) (k : Nat) (P : Int → Int → Prop) (w : World) (ia : IsInt (.agg #[.bool na, .string sa]) a k) (ib : IsInt (.agg #[.bool nb, .string sb]) b k)
    (ic : IsInt (.agg #[.bool nc, .string sc]) c k) (id' : IsInt (.agg #[.bool nd, .string sd]) d k) (hI : Inv M a b c d 0 1 1 0) (hM : M.natAbs < 4294967296 ^ k) (hk : k ≤ 1000000) (hP : ∀ rn rd, Sim a b c d 0 1 1 0 rn rd → P rn rd) :
    Calls Tryz.prog 26 #[.agg #[.bool na, .string sa, .bool nb, .string sb], .agg #[.bool nc, .string sc, .bool nd, .string sd]] w fun e w' =>
      ∃ rn rd, P rn rd ∧ e = .returned (.agg #[.bool (sg rn), .string (mg rn), .bool (sg rd), .string (mg rd)]) ∧ Below w.heap.size w w' := by
  have HI := Lib.hid (And.intro ia (And.intro ib (And.intro ic (And.intro id' (And.intro hI (And.intro hM hP))))))
  clear ia ib ic id' hI hM hP
  refine (callsIn_wide (n := 8)).1 ?_
  refine callsIn_of_wp_marks Tryz.func26 rfl trivial ?_ rfl
  simp only [Tryz.ntmps26, List.size_toArray, List.length_cons, List.length_nil, Nat.reduceAdd, Nat.reduceSub, Array.replicate_succ, Array.replicate_zero, List.push_toArray, List.append_toArray, List.nil_append, List.cons_append]
  have hmx : Tryz.prog.follows .mixedOrders = true := by kernel_rfl
  have S00 : RIn2 (((w.alloc (.cells #[.bool na, .string sa, .bool nb, .string sb] 25)).alloc (.cells #[.bool nc, .string sc, .bool nd, .string sd] 25)).alloc (.cells #[.bool false, .string ⟨#[]⟩, .bool false, .string ⟨#[]⟩] 25)) w.heap.size (w.heap.size + 1) na sa nb sb nc sc nd sd := by
    refine ⟨?_, ?_, ?_, ?_, ?_, ?_, ?_, ?_⟩ <;> simp [go_sem]
  have P0 := ResRat.new ((w.alloc (.cells #[.bool na, .string sa, .bool nb, .string sb] 25)).alloc (.cells #[.bool nc, .string sc, .bool nd, .string sd] 25))
  rw [World.size_alloc, World.size_alloc] at P0
  have B0 := below3 w (.cells #[.bool na, .string sa, .bool nb, .string sb] 25) (.cells #[.bool nc, .string sc, .bool nd, .string sd] 25) (.cells #[.bool false, .string ⟨#[]⟩, .bool false, .string ⟨#[]⟩] 25)
  gi_wp2_with (refine ⟨trivial, ?_⟩; first
    | (gi_at_call 17; (with_reducible refine (callsIn_wide.2 (iof_any 0 _ (by omega) (by omega))).mono ?_); rintro e W1 ⟨rfl, b1⟩; have S1 := S00.keep b1; have P1 := P0.keep b1; have B1 := below_more B0 (Nat.le_refl _) b1; clear S00 P0 B0)
    | (gi_at_call 17; (with_reducible refine (callsIn_wide.2 (iof_any 1 _ (by omega) (by omega))).mono ?_); rintro e W2 ⟨rfl, b2⟩; have S2 := S1.keep b2; have P2 := P1.keep b2; have B2 := below_more B1 (Nat.le_refl _) b2; clear S1 P1 B1 b1 b2)
    | (gi_at_call 17; (with_reducible refine (callsIn_wide.2 (iof_any 1 _ (by omega) (by omega))).mono ?_); rintro e W3 ⟨rfl, b3⟩; have S3 := (S2.keep (below1 _ _)).keep b3; have P3 := (P2.keep (below1 _ _)).keep b3; have V3 := (RV.new W2 0 1).keep b3; have B3 := below_more (below_more B2 (Nat.le_refl _) (below1 W2 (.cells #[.bool (sg 0), .string (mg 0), .bool (sg 1), .string (mg 1)] 25))) (Nat.le_refl _) b3; have m3 := P2.1.lt; clear S2 P2 B2)
    | (gi_at_call 17; (with_reducible refine (callsIn_wide.2 (iof_any 0 _ (by omega) (by omega))).mono ?_); rintro e W4 ⟨rfl, b4⟩; have S4 := S3.keep b4; have P4 := P3.keep b4; have V4 := V3.keep b4; have B4 := below_more B3 (Nat.le_refl _) b4; obtain ⟨t1, t2, t3, t4, t5, t6, t7, t8⟩ := id S4; have m4 := V4.1.lt; have m5 := P4.1.lt; have m6 : w.heap.size < W4.heap.size := (by omega); have m7 : w.heap.size + 1 < W4.heap.size := (by omega); clear S3 P3 V3 B3 b3 b4)
    | (gi_at_call 56; (with_reducible refine (callsIn_wide.2 (terms_any na nb nc nd sa sb sc sd _)).mono ?_); rintro e W5 ⟨rfl, rfl⟩))
  have V6 := (RV.new W4 1 0).keep (below2 (W4.alloc (.cells #[.bool (sg 1), .string (mg 1), .bool (sg 0), .string (mg 0)] 25)) (.cells #[.bool na, .string sa, .bool nb, .string sb] 25) (.cells #[.bool nc, .string sc, .bool nd, .string sd] 25))
  have V5 := (V4.keep (below1 W4 (.cells #[.bool (sg 1), .string (mg 1), .bool (sg 0), .string (mg 0)] 25))).keep (below2 (W4.alloc (.cells #[.bool (sg 1), .string (mg 1), .bool (sg 0), .string (mg 0)] 25)) (.cells #[.bool na, .string sa, .bool nb, .string sb] 25) (.cells #[.bool nc, .string sc, .bool nd, .string sd] 25))
  have P5 := (P4.keep (below1 W4 (.cells #[.bool (sg 1), .string (mg 1), .bool (sg 0), .string (mg 0)] 25))).keep (below2 (W4.alloc (.cells #[.bool (sg 1), .string (mg 1), .bool (sg 0), .string (mg 0)] 25)) (.cells #[.bool na, .string sa, .bool nb, .string sb] 25) (.cells #[.bool nc, .string sc, .bool nd, .string sd] 25))
  have B5 := below_more (below_more B4 (Nat.le_refl _) (below1 W4 (.cells #[.bool (sg 1), .string (mg 1), .bool (sg 0), .string (mg 0)] 25))) (Nat.le_refl _) (below2 (W4.alloc (.cells #[.bool (sg 1), .string (mg 1), .bool (sg 0), .string (mg 0)] 25)) (.cells #[.bool na, .string sa, .bool nb, .string sb] 25) (.cells #[.bool nc, .string sc, .bool nd, .string sd] 25))
  have L5 : FR (((W4.alloc (.cells #[.bool (sg 1), .string (mg 1), .bool (sg 0), .string (mg 0)] 25)).alloc (.cells #[.bool na, .string sa, .bool nb, .string sb] 25)).alloc (.cells #[.bool nc, .string sc, .bool nd, .string sd] 25)) (W4.heap.size + 1) na sa nb sb := by
    refine ⟨⟨?_, ?_, ?_, ?_⟩, ?_, ?_, ?_, ?_⟩ <;> simp [go_sem]
  have H5 : FR (((W4.alloc (.cells #[.bool (sg 1), .string (mg 1), .bool (sg 0), .string (mg 0)] 25)).alloc (.cells #[.bool na, .string sa, .bool nb, .string sb] 25)).alloc (.cells #[.bool nc, .string sc, .bool nd, .string sd] 25)) (W4.heap.size + 1 + 1) nc sc nd sd := by
    refine ⟨⟨?_, ?_, ?_, ?_⟩, ?_, ?_, ?_, ?_⟩ <;> simp [go_sem]
  have Hs6 := Lib.hid (show W4.heap.size + 1 + 1 + 1 = (((W4.alloc (.cells #[.bool (sg 1), .string (mg 1), .bool (sg 0), .string (mg 0)] 25)).alloc (.cells #[.bool na, .string sa, .bool nb, .string sb] 25)).alloc (.cells #[.bool nc, .string sc, .bool nd, .string sd] 25)).heap.size by simp only [World.size_alloc])
  clear S4 P4 V4 B4 t1 t2 t3 t4 t5 t6 t7 t8
  generalize (((W4.alloc (.cells #[.bool (sg 1), .string (mg 1), .bool (sg 0), .string (mg 0)] 25)).alloc (.cells #[.bool na, .string sa, .bool nb, .string sb] 25)).alloc (.cells #[.bool nc, .string sc, .bool nd, .string sd] 25)) = W6 at *
  generalize W4.heap.size = x at *
  generalize W2.heap.size = p5 at *
  clear W1 W3 W2 W4
  refine rangeFunc_on rfl (by omega) (gf := 92) (lb := #[.pointer (some ⟨x + 1, 0, none⟩), .pointer (some ⟨x + 1 + 1, 0, none⟩)]) rfl trivial (enters_of Tryz.func92 (by kernel_rfl) rfl)
    (R := fun _ W' => W'.heap[W6.heap.size]? = some (.deferred (some [])) ∧ (∃ rn rd, P rn rd ∧ RV W' x rn rd) ∧ Below (w.heap.size + 1 + 1 + 1) W6 W') ?_ ?_
  · intro fn hfn REC hREC
    have HREC := Lib.hid hREC
    clear hREC
    have hY : ∀ W t ln ld nn nd, W.heap[W6.heap.size + 1]? = some (.loop REC) → W.heap[W6.heap.size]? = some (.deferred (some [])) → RV W p5 ln ld → RV W x nn nd →
        IsInt (.agg #[.bool (sg t), .string (mg t)]) t k → IsInt (.agg #[.bool (sg ln), .string (mg ln)]) ln k → IsInt (.agg #[.bool (sg ld), .string (mg ld)]) ld k → IsInt (.agg #[.bool (sg nn), .string (mg nn)]) nn k → IsInt (.agg #[.bool (sg nd), .string (mg nd)]) nd k →
        YieldAt Fence.wide 6 Tryz.prog (W6.heap.size + 1) #[.agg #[.bool (sg t), .string (mg t)]] W fun e W' => e = .returned (.bool true) ∧ StepDoes (w.heap.size + 1 + 1 + 1) (W6.heap.size + 1) W6.heap.size p5 x REC W W' nn nd (t * nn + ln) (t * nd + ld) := by
      intro W t ln ld nn nd hl hD v5 v6 It Iln Ild Inn Ind
      refine round_on HREC.out trivial hl rfl fun RB => ?_
      have hlt : W6.heap.size + 1 < W.heap.size := (Array.getElem?_eq_some_iff.1 hl).1
      have hl1 : (W.alloc (.cells #[.bool (sg t), .string (mg t)] 23)).heap[W6.heap.size + 1]? = some (.loop REC) := (Below.heap_alloc _ _ _ hlt).trans hl
      obtain ⟨zx, Ex⟩ : ∃ z, Hid (t * nn = z) := ⟨_, Lib.hid rfl⟩
      obtain ⟨zy, Ey⟩ : ∃ z, Hid (t * nd = z) := ⟨_, Lib.hid rfl⟩
      obtain ⟨zn, En⟩ : ∃ z, Hid (zx + ln = z) := ⟨_, Lib.hid rfl⟩
      obtain ⟨zd, Ed⟩ : ∃ z, Hid (zy + ld = z) := ⟨_, Lib.hid rfl⟩
      have Jx := Lib.hid (isInt_mg (db_mul It.bd Inn.bd Ex.out) (by omega))
      have Jy := Lib.hid (isInt_mg (db_mul It.bd Ind.bd Ey.out) (by omega))
      have HJ := Lib.hid (And.intro It (And.intro Iln (And.intro Ild (And.intro Inn Ind))))
      clear It Iln Ild Inn Ind
      have T0 : ConvT ((W.alloc (.cells #[.bool (sg t), .string (mg t)] 23)).putObj (W6.heap.size + 1) (.loop RB)) p5 x W.heap.size ln ld nn nd t := by
        refine ⟨(v5.keep (below1 _ _)).put hl1 _, (v6.keep (below1 _ _)).put hl1 _, cell_put hl1 _ _ ?_, cell_put hl1 _ _ ?_⟩ <;> simp [go_sem]
      have Hl := Lib.hid hl1
      have Hd := Lib.hid hD
      rw [Ex.out, Ey.out, En.out, Ed.out]
      have hV1 : ((W.alloc (.cells #[.bool (sg t), .string (mg t)] 23)).putObj (W6.heap.size + 1) (.loop RB)).heap[W6.heap.size + 1]? = some (.loop RB) := World.putObj_heap_same (Array.getElem?_eq_some_iff.1 hl1).1
      have hV2 : ((W.alloc (.cells #[.bool (sg t), .string (mg t)] 23)).putObj (W6.heap.size + 1) (.loop RB)).heap[W6.heap.size]? = some (.deferred (some [])) := (World.putObj_heap_other (by omega)).trans ((Below.heap_alloc _ _ _ (by omega)).trans hD)
      have hV3 : Below (w.heap.size + 1 + 1 + 1) W ((W.alloc (.cells #[.bool (sg t), .string (mg t)] 23)).putObj (W6.heap.size + 1) (.loop RB)) := below_put ((below1 W _).mono (by have := Hs6.out; omega)) _ (by have := Hs6.out; omega) _
      have hV4 : ∀ q v, W.cell? q = some v → ((W.alloc (.cells #[.bool (sg t), .string (mg t)] 23)).putObj (W6.heap.size + 1) (.loop RB)).cell? q = some v ∧ ((W.alloc (.cells #[.bool (sg t), .string (mg t)] 23)).putObj (W6.heap.size + 1) (.loop RB)).frozen? q = W.frozen? q := fun q v hq =>
        ⟨cell_put hl1 _ _ (cell_keep hq (below1 W _)), (frozen_put hl1 _ _ (cell_keep hq (below1 W _))).trans ((below1 W _).frozen (World.block_lt_of_cell? _ _ hq))⟩
      have HV := Lib.hid (And.intro hV1 (And.intro hV2 (And.intro hV3 hV4)))
      clear hV1 hV2 hV3 hV4
      have M5 := v5.1.lt
      have M6 := v6.1.lt
      clear hl hl1 v5 v6 hD
      gi_wp2
      refine ⟨Hl.out, ?_⟩
      generalize (W.alloc (.cells #[.bool (sg t), .string (mg t)] 23)).putObj (W6.heap.size + 1) (.loop RB) = V at *
      obtain ⟨⟨⟨t1, t2, t3, t4⟩, t5, t6, t7, t8⟩, ⟨⟨t9, t10, t11, t12⟩, t13, t14, t15, t16⟩, t17, t18⟩ := id T0
      gi_wp2
      have kT : ConvT V.drew p5 x W.heap.size ln ld nn nd t := T0
      have BX : Below V.drew.heap.size V.drew V.drew := Below.refl _ _
      have hne : x ≠ p5 := by omega
      have hct : p5 ≠ W.heap.size := by omega
      refine regionT_in_round (T := T2 16 17 (fun W => RIn W p5 (sg ln) (mg ln) (sg ld) (mg ld)) (fun W' => RIn W' x (sg nn) (mg nn) (sg nd) (mg nd) ∧ W'.cell? ⟨W.heap.size, 0, none⟩ = some (.bool (sg t)) ∧ W'.cell? ⟨W.heap.size, 1, none⟩ = some (.string (mg t)))) (by kernel_rfl) (by kernel_rfl) ?_ ?_
      · rintro ⟨_, _, h⟩
        obtain ⟨h, _⟩ := (show Exit.outgrown = Exit.normal ∧ _ from h)
        cases h
      refine take2 (i := 0) (oi := { dst := some 18, op := Op.load 25 (Operand.tmp 6), type := 25, pos := "simplest.go:31", after := #[], guard := none }) (v := ?_) rfl (by kernel_rfl) (by kernel_rfl) (by kernel_rfl) (by kernel_rfl) (by kernel_rfl) (by decide) (by decide) (fun _ _ _ h => h) (Or.inl ⟨by rfl, ?_⟩) (kT.1.1) (⟨kT.2.1.1, kT.2.2.1, kT.2.2.2⟩) ?_
      rotate_left
      · intro w hSw
        (try dsimp only at hSw)
        (try unfold RIn at hSw)
        go_simp
        all_goals with_reducible rfl
      (try simp only [Act.put, List.setIfInBounds_toArray, List.set_cons_zero, List.set_cons_succ])
      refine take2 (i := 1) (oi := { dst := some 19, op := Op.load 23 (Operand.tmp 7), type := 23, pos := "simplest.go:31", after := #[], guard := none }) (v := ?_) rfl (by kernel_rfl) (by kernel_rfl) (by kernel_rfl) (by kernel_rfl) (by kernel_rfl) (by decide) (by decide) (fun _ _ _ h => h) (Or.inl ⟨by rfl, ?_⟩) (kT.1.1) (⟨kT.2.1.1, kT.2.2.1, kT.2.2.2⟩) ?_
      rotate_left
      · intro w hSw
        (try dsimp only at hSw)
        (try unfold RIn at hSw)
        go_simp
        all_goals with_reducible rfl
      (try simp only [Act.put, List.setIfInBounds_toArray, List.set_cons_zero, List.set_cons_succ])
      refine take2 (i := 2) (oi := { dst := some 20, op := Op.fieldAddr 25 (Operand.tmp 6) 0, type := 0, pos := "simplest.go:31", after := #[], guard := none }) (v := ?_) rfl (by kernel_rfl) (by kernel_rfl) (by kernel_rfl) (by kernel_rfl) (by kernel_rfl) (by decide) (by decide) (fun _ _ _ h => h) (Or.inl ⟨by rfl, ?_⟩) (kT.1.1) (⟨kT.2.1.1, kT.2.2.1, kT.2.2.2⟩) ?_
      rotate_left
      · intro w hSw
        (try dsimp only at hSw)
        (try unfold RIn at hSw)
        go_simp
        all_goals with_reducible rfl
      (try simp only [Act.put, List.setIfInBounds_toArray, List.set_cons_zero, List.set_cons_succ])
      refine take2 (i := 3) (oi := { dst := some 21, op := Op.load 23 (Operand.tmp 20), type := 23, pos := "simplest.go:31", after := #[{ on := 2, ground := Ground.data }], guard := none }) (v := ?_) rfl (by kernel_rfl) (by kernel_rfl) (by kernel_rfl) (by kernel_rfl) (by kernel_rfl) (by decide) (by decide) (fun _ _ _ h => h) (Or.inl ⟨by rfl, ?_⟩) (kT.1.1) (⟨kT.2.1.1, kT.2.2.1, kT.2.2.2⟩) ?_
      rotate_left
      · intro w hSw
        (try dsimp only at hSw)
        (try unfold RIn at hSw)
        go_simp
        all_goals with_reducible rfl
      (try simp only [Act.put, List.setIfInBounds_toArray, List.set_cons_zero, List.set_cons_succ])
      refine take2 (i := 5) (oi := { dst := some 23, op := Op.fieldAddr 25 (Operand.tmp 5) 0, type := 0, pos := "simplest.go:31", after := #[], guard := none }) (v := ?_) rfl (by kernel_rfl) (by kernel_rfl) (by kernel_rfl) (by kernel_rfl) (by kernel_rfl) (by decide) (by decide) (fun _ _ _ h => h) (Or.inl ⟨by rfl, ?_⟩) (kT.1.1) (⟨kT.2.1.1, kT.2.2.1, kT.2.2.2⟩) ?_
      rotate_left
      · intro w hSw
        (try dsimp only at hSw)
        (try unfold RIn at hSw)
        go_simp
        all_goals with_reducible rfl
      (try simp only [Act.put, List.setIfInBounds_toArray, List.set_cons_zero, List.set_cons_succ])
      refine take1 (i := 6) (oi := { dst := some 24, op := Op.load 23 (Operand.tmp 23), type := 23, pos := "simplest.go:31", after := #[{ on := 5, ground := Ground.data }], guard := none }) (v := ?_) rfl (by kernel_rfl) (by kernel_rfl) (by kernel_rfl) (by kernel_rfl) (by kernel_rfl) (by decide) (by decide) (fun _ _ _ h => h) (Or.inl ⟨by rfl, ?_⟩) (kT.1.1) (⟨kT.2.1.1, kT.2.2.1, kT.2.2.2⟩) ?_
      rotate_left
      · intro w hSw
        (try dsimp only at hSw)
        (try unfold RIn at hSw)
        go_simp
        all_goals with_reducible rfl
      (try simp only [Act.put, List.setIfInBounds_toArray, List.set_cons_zero, List.set_cons_succ])
      refine take2 (i := 8) (oi := { dst := some 26, op := Op.load 23 (Operand.tmp 7), type := 23, pos := "simplest.go:31", after := #[], guard := none }) (v := ?_) rfl (by kernel_rfl) (by kernel_rfl) (by kernel_rfl) (by kernel_rfl) (by kernel_rfl) (by decide) (by decide) (fun _ _ _ h => h) (Or.inl ⟨by rfl, ?_⟩) (kT.1.1) (⟨kT.2.1.1, kT.2.2.1, kT.2.2.2⟩) ?_
      rotate_left
      · intro w hSw
        (try dsimp only at hSw)
        (try unfold RIn at hSw)
        go_simp
        all_goals with_reducible rfl
      (try simp only [Act.put, List.setIfInBounds_toArray, List.set_cons_zero, List.set_cons_succ])
      refine take2 (i := 9) (oi := { dst := some 27, op := Op.fieldAddr 25 (Operand.tmp 6) 1, type := 0, pos := "simplest.go:31", after := #[], guard := none }) (v := ?_) rfl (by kernel_rfl) (by kernel_rfl) (by kernel_rfl) (by kernel_rfl) (by kernel_rfl) (by decide) (by decide) (fun _ _ _ h => h) (Or.inl ⟨by rfl, ?_⟩) (kT.1.1) (⟨kT.2.1.1, kT.2.2.1, kT.2.2.2⟩) ?_
      rotate_left
      · intro w hSw
        (try dsimp only at hSw)
        (try unfold RIn at hSw)
        go_simp
        all_goals with_reducible rfl
      (try simp only [Act.put, List.setIfInBounds_toArray, List.set_cons_zero, List.set_cons_succ])
      refine take2 (i := 10) (oi := { dst := some 28, op := Op.load 23 (Operand.tmp 27), type := 23, pos := "simplest.go:31", after := #[{ on := 9, ground := Ground.data }], guard := none }) (v := ?_) rfl (by kernel_rfl) (by kernel_rfl) (by kernel_rfl) (by kernel_rfl) (by kernel_rfl) (by decide) (by decide) (fun _ _ _ h => h) (Or.inl ⟨by rfl, ?_⟩) (kT.1.1) (⟨kT.2.1.1, kT.2.2.1, kT.2.2.2⟩) ?_
      rotate_left
      · intro w hSw
        (try dsimp only at hSw)
        (try unfold RIn at hSw)
        go_simp
        all_goals with_reducible rfl
      (try simp only [Act.put, List.setIfInBounds_toArray, List.set_cons_zero, List.set_cons_succ])
      refine take2 (i := 12) (oi := { dst := some 30, op := Op.fieldAddr 25 (Operand.tmp 5) 1, type := 0, pos := "simplest.go:31", after := #[], guard := none }) (v := ?_) rfl (by kernel_rfl) (by kernel_rfl) (by kernel_rfl) (by kernel_rfl) (by kernel_rfl) (by decide) (by decide) (fun _ _ _ h => h) (Or.inl ⟨by rfl, ?_⟩) (kT.1.1) (⟨kT.2.1.1, kT.2.2.1, kT.2.2.2⟩) ?_
      rotate_left
      · intro w hSw
        (try dsimp only at hSw)
        (try unfold RIn at hSw)
        go_simp
        all_goals with_reducible rfl
      (try simp only [Act.put, List.setIfInBounds_toArray, List.set_cons_zero, List.set_cons_succ])
      refine take1 (i := 13) (oi := { dst := some 31, op := Op.load 23 (Operand.tmp 30), type := 23, pos := "simplest.go:31", after := #[{ on := 12, ground := Ground.data }], guard := none }) (v := ?_) rfl (by kernel_rfl) (by kernel_rfl) (by kernel_rfl) (by kernel_rfl) (by kernel_rfl) (by decide) (by decide) (fun _ _ _ h => h) (Or.inl ⟨by rfl, ?_⟩) (kT.1.1) (⟨kT.2.1.1, kT.2.2.1, kT.2.2.2⟩) ?_
      rotate_left
      · intro w hSw
        (try dsimp only at hSw)
        (try unfold RIn at hSw)
        go_simp
        all_goals with_reducible rfl
      (try simp only [Act.put, List.setIfInBounds_toArray, List.set_cons_zero, List.set_cons_succ])
      refine stepT (i := 4) (o := { dst := some 22, op := Op.call { callee := Callee.value (Operand.func 54), args := #[Operand.tmp 19, Operand.tmp 21], argTypes := #[23, 23] }, type := 23, pos := "simplest.go:32", after := #[{ on := 1, ground := Ground.data }, { on := 3, ground := Ground.data }], guard := none }) (by kernel_rfl) rfl (fun K hK => ?_)
      go_simp
      go_at_call 54
      refine (imul_eq HJ.out.1 HJ.out.2.2.2.1 Ex.out).mono ?_
      rintro e X ⟨rfl, bX⟩
      have BX := BX.trans (bX.mono BX.size)
      have kT := kT.keep bX
      obtain ⟨⟨⟨t1, t2, t3, t4⟩, t5, t6, t7, t8⟩, ⟨⟨t9, t10, t11, t12⟩, t13, t14, t15, t16⟩, t17, t18⟩ := id kT
      go_wp2_with fail
      refine hK.out _ _ ⟨fun _ => kT.1.1, fun _ => ⟨kT.2.1.1, kT.2.2.1, kT.2.2.2⟩⟩ ?_
      clear hK K
      (try simp only [Act.put, List.setIfInBounds_toArray, List.set_cons_zero, List.set_cons_succ])
      refine stepT (i := 7) (o := { dst := some 25, op := Op.call { callee := Callee.value (Operand.func 57), args := #[Operand.tmp 22, Operand.tmp 24], argTypes := #[23, 23] }, type := 23, pos := "simplest.go:32", after := #[{ on := 4, ground := Ground.data }, { on := 6, ground := Ground.data }, { on := 4, ground := Ground.chain }], guard := none }) (by kernel_rfl) rfl (fun K hK => ?_)
      go_simp
      go_at_call 57
      refine (iadd_eq Jx.out HJ.out.2.1 En.out).mono ?_
      rintro e X ⟨rfl, bX⟩
      have BX := BX.trans (bX.mono BX.size)
      have kT := kT.keep bX
      obtain ⟨⟨⟨t1, t2, t3, t4⟩, t5, t6, t7, t8⟩, ⟨⟨t9, t10, t11, t12⟩, t13, t14, t15, t16⟩, t17, t18⟩ := id kT
      go_wp2_with fail
      refine hK.out _ _ ⟨fun _ => kT.1.1, fun _ => ⟨kT.2.1.1, kT.2.2.1, kT.2.2.2⟩⟩ ?_
      clear hK K
      (try simp only [Act.put, List.setIfInBounds_toArray, List.set_cons_zero, List.set_cons_succ])
      refine stepT (i := 11) (o := { dst := some 29, op := Op.call { callee := Callee.value (Operand.func 54), args := #[Operand.tmp 26, Operand.tmp 28], argTypes := #[23, 23] }, type := 23, pos := "simplest.go:33", after := #[{ on := 8, ground := Ground.data }, { on := 10, ground := Ground.data }, { on := 7, ground := Ground.chain }], guard := none }) (by kernel_rfl) rfl (fun K hK => ?_)
      go_simp
      go_at_call 54
      refine (imul_eq HJ.out.1 HJ.out.2.2.2.2 Ey.out).mono ?_
      rintro e X ⟨rfl, bX⟩
      have BX := BX.trans (bX.mono BX.size)
      have kT := kT.keep bX
      obtain ⟨⟨⟨t1, t2, t3, t4⟩, t5, t6, t7, t8⟩, ⟨⟨t9, t10, t11, t12⟩, t13, t14, t15, t16⟩, t17, t18⟩ := id kT
      go_wp2_with fail
      refine hK.out _ _ ⟨fun _ => kT.1.1, fun _ => ⟨kT.2.1.1, kT.2.2.1, kT.2.2.2⟩⟩ ?_
      clear hK K
      (try simp only [Act.put, List.setIfInBounds_toArray, List.set_cons_zero, List.set_cons_succ])
      refine stepT (i := 14) (o := { dst := some 32, op := Op.call { callee := Callee.value (Operand.func 57), args := #[Operand.tmp 29, Operand.tmp 31], argTypes := #[23, 23] }, type := 23, pos := "simplest.go:33", after := #[{ on := 11, ground := Ground.data }, { on := 13, ground := Ground.data }, { on := 11, ground := Ground.chain }], guard := none }) (by kernel_rfl) rfl (fun K hK => ?_)
      go_simp
      go_at_call 57
      refine (iadd_eq Jy.out HJ.out.2.2.1 Ed.out).mono ?_
      rintro e X ⟨rfl, bX⟩
      have BX := BX.trans (bX.mono BX.size)
      have kT := kT.keep bX
      obtain ⟨⟨⟨t1, t2, t3, t4⟩, t5, t6, t7, t8⟩, ⟨⟨t9, t10, t11, t12⟩, t13, t14, t15, t16⟩, t17, t18⟩ := id kT
      go_wp2_with fail
      refine hK.out _ _ ⟨fun _ => kT.1.1, fun _ => ⟨kT.2.1.1, kT.2.2.1, kT.2.2.2⟩⟩ ?_
      clear hK K
      (try simp only [Act.put, List.setIfInBounds_toArray, List.set_cons_zero, List.set_cons_succ])
      refine take2 (i := 15) (oi := { dst := some 33, op := Op.build 25 #[(0, Operand.tmp 25), (1, Operand.tmp 32)], type := 25, pos := "simplest.go:31", after := #[{ on := 7, ground := Ground.data }, { on := 14, ground := Ground.data }], guard := none }) (v := ?_) rfl (by kernel_rfl) (by kernel_rfl) (by kernel_rfl) (by kernel_rfl) (by kernel_rfl) (by decide) (by decide) (fun _ _ _ h => h) (Or.inl ⟨by rfl, ?_⟩) (kT.1.1) (⟨kT.2.1.1, kT.2.2.1, kT.2.2.2⟩) ?_
      rotate_left
      · intro w hSw
        (try dsimp only at hSw)
        (try unfold RIn at hSw)
        go_simp
        all_goals with_reducible rfl
      (try simp only [Act.put, List.setIfInBounds_toArray, List.set_cons_zero, List.set_cons_succ])
      refine stepT (i := 16) (o := { dst := none, op := Op.store 25 (Operand.tmp 5) (Operand.tmp 18), type := 0, pos := "simplest.go:31", after := #[{ on := 0, ground := Ground.data }, { on := 14, ground := Ground.chain }, { on := 0, ground := Ground.phase }, { on := 1, ground := Ground.textOnly Departure.lateStores }, { on := 2, ground := Ground.textOnly Departure.lateStores }, { on := 3, ground := Ground.textOnly Departure.inlinedCapture }, { on := 4, ground := Ground.textOnly Departure.lateStoresUnsure }, { on := 5, ground := Ground.phase }, { on := 6, ground := Ground.phase }, { on := 7, ground := Ground.textOnly Departure.lateStoresUnsure }, { on := 8, ground := Ground.textOnly Departure.lateStores }, { on := 9, ground := Ground.textOnly Departure.lateStores }, { on := 10, ground := Ground.textOnly Departure.inlinedCapture }, { on := 11, ground := Ground.textOnly Departure.lateStoresUnsure }, { on := 12, ground := Ground.phase }, { on := 13, ground := Ground.phase }, { on := 14, ground := Ground.textOnly Departure.lateStoresUnsure }, { on := 15, ground := Ground.textOnly Departure.inlinedCapture }], guard := none }) (by kernel_rfl) rfl (fun K hK => ?_)
      go_simp
      refine hK.out _ _ ⟨fun h => absurd h (by decide), fun _ => ⟨(((kT.2.1.1.set ⟨p5, 0, none⟩ hne _).set ⟨p5, 1, none⟩ hne _).set ⟨p5, 2, none⟩ hne _).set ⟨p5, 3, none⟩ hne _, (by rw [World.cell?_setCell_far _ _ _ _ (by exact hct), World.cell?_setCell_far _ _ _ _ (by exact hct), World.cell?_setCell_far _ _ _ _ (by exact hct), World.cell?_setCell_far _ _ _ _ (by exact hct)]; exact kT.2.2.1), (by rw [World.cell?_setCell_far _ _ _ _ (by exact hct), World.cell?_setCell_far _ _ _ _ (by exact hct), World.cell?_setCell_far _ _ _ _ (by exact hct), World.cell?_setCell_far _ _ _ _ (by exact hct)]; exact kT.2.2.2)⟩⟩ ?_
      clear hK K
      (try simp only [Act.put, List.setIfInBounds_toArray, List.set_cons_zero, List.set_cons_succ])
      refine stepT (i := 17) (o := { dst := none, op := Op.store 25 (Operand.tmp 6) (Operand.tmp 33), type := 0, pos := "simplest.go:31", after := #[{ on := 15, ground := Ground.data }, { on := 16, ground := Ground.chain }, { on := 0, ground := Ground.phase }, { on := 1, ground := Ground.phase }, { on := 2, ground := Ground.phase }, { on := 3, ground := Ground.phase }, { on := 4, ground := Ground.phase }, { on := 5, ground := Ground.phase }, { on := 6, ground := Ground.phase }, { on := 7, ground := Ground.phase }, { on := 8, ground := Ground.phase }, { on := 9, ground := Ground.phase }, { on := 10, ground := Ground.phase }, { on := 11, ground := Ground.phase }, { on := 12, ground := Ground.phase }, { on := 13, ground := Ground.phase }, { on := 14, ground := Ground.phase }, { on := 15, ground := Ground.phase }, { on := 16, ground := Ground.phase }], guard := none }) (by kernel_rfl) rfl (fun K hK => ?_)
      go_simp
      refine hK.out _ _ ⟨fun h => absurd h (by decide), fun h => absurd h (by decide)⟩ ?_
      clear hK K
      (try simp only [Act.put, List.setIfInBounds_toArray, List.set_cons_zero, List.set_cons_succ])
      refine doneT (by kernel_rfl) ?_ _
      have hbV := HV.out.2.2.1.drew.trans (BX.mono (show w.heap.size + 1 + 1 + 1 ≤ V.drew.heap.size from by have h9 := HV.out.2.2.1.size; have := Hs6.out; show _ ≤ V.heap.size; omega))
      have g1 := kT.1.st4 nn nd
      have g2 := (kT.2.1.far hne (sg nn) (sg nd) (mg nn) (mg nd)).st4 zn zd
      have g3 := g1.far (Ne.symm hne) (sg zn) (sg zd) (mg zn) (mg zd)
      have hko := (st4_others X p5 (sg nn) (sg nd) (mg nn) (mg nd)).trans (st4_others _ x (sg zn) (sg zd) (mg zn) (mg zd))
      have k1 := hko.same _ _ ((BX.block _ (Array.getElem?_eq_some_iff.1 HV.out.1).1).trans HV.out.1) rfl
      have k2 := hko.same _ _ ((BX.block _ (Array.getElem?_eq_some_iff.1 HV.out.2.1).1).trans HV.out.2.1) rfl
      have hnl : W6.heap.size ≠ W6.heap.size + 1 := by omega
      refine ⟨rfl, k1, World.putObj_heap_same (Array.getElem?_eq_some_iff.1 k1).1, (World.putObj_heap_other hnl).trans k2, g3.put k1 _, g2.put k1 _, below_put (st4_below (st4_below hbV p5 (by omega) _ _ _ _) x (by omega) _ _ _ _) _ (by have := Hs6.out; omega) _, fun q v hq h5 h6 => ?_⟩
      have c1 := HV.out.2.2.2 q v hq
      have c2 := cell_keep (Wp := V.drew) c1.1 BX
      have c3 := (BX.frozen (World.block_lt_of_cell? V.drew _ c1.1)).trans c1.2
      have c4 := (st4_far (g1 := sg zn) (g2 := sg zd) (s1 := mg zn) (s2 := mg zd) h6).trans ((st4_far (g1 := sg nn) (g2 := sg nd) (s1 := mg nn) (s2 := mg nd) h5).trans c2)
      exact ⟨cell_put k1 _ _ c4, (frozen_put k1 _ _ c4).trans ((st4_frozen ..).trans ((st4_frozen ..).trans c3))⟩
    have hbl := below2 W6 (.deferred (some [])) (.loop REC)
    refine (cterms_any (w.heap.size + 1 + 1 + 1) (W6.heap.size + 1) W6.heap.size p5 x (x + 1) (x + 1 + 1) k M REC W6 P hY (by omega) (by omega) (by omega) (by omega) (by omega) (by omega) (by omega) (by omega) (by omega) (by omega) (by have := Hs6.out; omega) HI.out.2.2.2.2.2.1 hk a b c d 0 1 1 0 _ ?_ HI.out.2.2.2.2.2.2).mono ?_
    · refine ⟨?_, ?_, V5.keep hbl, V6.keep hbl, ?_, ?_, HI.out.2.2.2.2.1, hbl.mono (by have := Hs6.out; omega)⟩
      · have := World.alloc_heap_new (W6.alloc (.deferred (some []))) (.loop REC)
        rwa [World.size_alloc] at this
      · exact (Below.heap_alloc _ _ _ (by rw [World.size_alloc]; omega)).trans (World.alloc_heap_new W6 _)
      · have h := L5.keep hbl
        exact ⟨_, _, _, _, h.1, h.2, HI.out.1, HI.out.2.1⟩
      · have h := H5.keep hbl
        exact ⟨_, _, _, _, h.1, h.2, HI.out.2.2.1, HI.out.2.2.2.1⟩
    · rintro e W' ⟨hv, hl, hD, hs, hB⟩
      exact ⟨hv, hl, hD, hs, hB⟩
  · rintro fn W' o r ⟨hD, ⟨rn, rd, hp, hv⟩, hB⟩ hl
    have hv' := hv.put hl o
    have hB' : Below (w.heap.size + 1 + 1 + 1) W6 (W'.putObj (W6.heap.size + 1) o) := below_put hB _ (by have := Hs6.out; omega) _
    have hD' : (W'.putObj (W6.heap.size + 1) o).heap[W6.heap.size]? = some (.deferred (some [])) := (World.putObj_heap_other (by omega)).trans hD
    have hr4 : FR (W'.putObj (W6.heap.size + 1) o) (w.heap.size + 1 + 1) false ⟨#[]⟩ false ⟨#[]⟩ :=
      ⟨⟨(hB'.cell (p := ⟨w.heap.size + 1 + 1, 0, none⟩) (by dsimp only; omega)).trans P5.1.1, (hB'.cell (p := ⟨w.heap.size + 1 + 1, 1, none⟩) (by dsimp only; omega)).trans P5.1.2.1, (hB'.cell (p := ⟨w.heap.size + 1 + 1, 2, none⟩) (by dsimp only; omega)).trans P5.1.2.2.1, (hB'.cell (p := ⟨w.heap.size + 1 + 1, 3, none⟩) (by dsimp only; omega)).trans P5.1.2.2.2⟩,
        (hB'.frozen (p := ⟨w.heap.size + 1 + 1, 0, none⟩) (by dsimp only; omega)).trans P5.2.1, (hB'.frozen (p := ⟨w.heap.size + 1 + 1, 1, none⟩) (by dsimp only; omega)).trans P5.2.2.1, (hB'.frozen (p := ⟨w.heap.size + 1 + 1, 2, none⟩) (by dsimp only; omega)).trans P5.2.2.2.1, (hB'.frozen (p := ⟨w.heap.size + 1 + 1, 3, none⟩) (by dsimp only; omega)).trans P5.2.2.2.2⟩
    have hB7 : Below w.heap.size w (W'.putObj (W6.heap.size + 1) o) := B5.trans (hB'.mono (by omega))
    have hB5s := B5.size
    clear hv hB hD hl hB' P5 V5 V6 L5 H5 B5
    generalize W'.putObj (W6.heap.size + 1) o = W8 at *
    obtain ⟨⟨t1, t2, t3, t4⟩, t5, t6, t7, t8⟩ := id hv'
    obtain ⟨⟨r1, r2, r3, r4⟩, r5, r6, r7, r8⟩ := id hr4
    gi_wp2
    have M4 := (hr4.st4 (sg rn) (sg rd) (mg rn) (mg rd)).1
    have hK := (st4_others W8 (w.heap.size + 1 + 1) (sg rn) (sg rd) (mg rn) (mg rd)).same _ _ hD' rfl
    have hB9 := below_put (st4_below hB7 (w.heap.size + 1 + 1) (by omega) (sg rn) (sg rd) (mg rn) (mg rd)) W6.heap.size (by have := hB5s; omega) (.deferred none)
    have v1 := cell_kept M4.1 (grownBy_putObj' _ W6.heap.size (.deferred none)) (fun r e => by cases e; exact ⟨_, hK, rfl⟩)
    have v2 := cell_kept M4.2.1 (grownBy_putObj' _ W6.heap.size (.deferred none)) (fun r e => by cases e; exact ⟨_, hK, rfl⟩)
    have v3 := cell_kept M4.2.2.1 (grownBy_putObj' _ W6.heap.size (.deferred none)) (fun r e => by cases e; exact ⟨_, hK, rfl⟩)
    have v4 := cell_kept M4.2.2.2 (grownBy_putObj' _ W6.heap.size (.deferred none)) (fun r e => by cases e; exact ⟨_, hK, rfl⟩)
    refine ⟨by simp, .inl ⟨_, _, rfl, run_takeDeferred hK, ?_⟩⟩
    unfold st4 at v1 v2 v3 v4 hB9
    exact ⟨.agg #[.bool (sg rn), .string (mg rn), .bool (sg rd), .string (mg rd)], by simp [results, Tryz.results26, go_sem, v1, v2, v3, v4], rn, rd, hp, rfl, hB9⟩
end Go.Proofs.YtcljkdninmldiaaGreatDoor

namespace Go.Proofs.YtcljkdninmldiaaGreatDoor
open Go.RowKit
set_option linter.unusedSimpArgs false
set_option linter.unusedVariables false

theorem mulpos_le {x b M : Int} (hx : 0 ≤ x) (hb : 0 < b) (h : x * b ≤ M) : x ≤ M := by
  have h1 : x * 1 ≤ x * b := Int.mul_le_mul_of_nonneg_left (by omega) hx
  omega
theorem Sim.bd {M a b c d ln ld nn nd rn rd : Int} (hs : Sim a b c d ln ld nn nd rn rd) : Inv M a b c d ln ld nn nd → (0 ≤ rn ∧ rn ≤ M) ∧ 0 ≤ rd ∧ rd ≤ M := by
  induction hs with
  | @whole a b c d ln ld nn nd h =>
    intro hI
    obtain ⟨t1, t2, t3, t4, t5, t6, t7, t8, t9⟩ := hI.terms
    obtain ⟨⟨h1, h2, h3, h4⟩, ⟨k1, k2, k3, k4⟩, h5, _, ⟨c1, c2⟩, _⟩ := hI
    have ea := Int.mul_ediv_add_emod a b
    rw [h] at ea
    generalize a / b = t at *
    have x1 := Int.mul_nonneg t1 k3
    have x2 := Int.mul_nonneg t1 k4
    refine ⟨⟨by omega, mulpos_le (by omega) h2 ?_⟩, by omega, mulpos_le (by omega) h2 ?_⟩
    · have e : (t * nn + ln) * b = nn * (b * t + 0) + ln * b := by grind
      rw [e, ea]; exact c1
    · have e : (t * nd + ld) * b = nd * (b * t + 0) + ld * b := by grind
      rw [e, ea]; exact c2
  | @above a b c d ln ld nn nd h hne =>
    intro hI
    obtain ⟨t1, t2, t3, t4, t5, t6, t7, t8, t9⟩ := hI.terms
    obtain ⟨⟨h1, h2, h3, h4⟩, ⟨k1, k2, k3, k4⟩, h5, _, _, c1, c2⟩ := hI
    have ec := Int.mul_ediv_add_emod c d
    generalize a / b = t at *
    generalize c / d = u at *
    generalize c % d = s at *
    have htu : t + 1 ≤ u := by omega
    have x1 : (t + 1) * nn ≤ u * nn := Int.mul_le_mul_of_nonneg_right htu k3
    have x2 : (t + 1) * nd ≤ u * nd := Int.mul_le_mul_of_nonneg_right htu k4
    have x3 := Int.mul_nonneg (show 0 ≤ t + 1 by omega) k3
    have x4 := Int.mul_nonneg (show 0 ≤ t + 1 by omega) k4
    have y1 : u * nn + ln ≤ M := mulpos_le (by omega) h4 (by
      have e : (u * nn + ln) * d = nn * (d * u + s) + ln * d - nn * s := by grind
      have := Int.mul_nonneg k3 t7
      rw [e, ec]; omega)
    have y2 : u * nd + ld ≤ M := mulpos_le (by omega) h4 (by
      have e : (u * nd + ld) * d = nd * (d * u + s) + ld * d - nd * s := by grind
      have := Int.mul_nonneg k4 t7
      rw [e, ec]; omega)
    refine ⟨⟨by omega, by omega⟩, by omega, by omega⟩
  | more h h2 _ ih => exact fun hI => ih (hI.step h h2)

/-- What the run leads to, of two numbers. -/
def SimOf (p q : Rat) (rn rd : Int) : Prop := ∃ a b c d : Int, 0 < b ∧ 0 < d ∧ Rat.divInt a b = p ∧ Rat.divInt c d = q ∧ Sim a b c d 0 1 1 0 rn rd
/-- The integers of a number in memory. -/
def raw (x y : Int) : Value := .agg #[.bool (sg x), .string (mg x), .bool (sg y), .string (mg y)]
theorem spos_up (v1 v2 : Value) (p q : Rat) (k : Nat) (w : World) (h1 : IsUp v1 p k) (h2 : IsUp v2 q k) (hp : 0 < p) (hle : p ≤ q) (hk : k ≤ 1000000) :
    Calls Tryz.prog 26 #[v1, v2] w fun e w' => ∃ rn rd, SimOf p q rn rd ∧ IsRat (raw rn rd) (Rat.divInt rn rd) k ∧ e = .returned (raw rn rd) ∧ Below w.heap.size w w' := by
  obtain ⟨na, sa, nb, sb, a, b, rfl, ia, ib, hb, rfl⟩ := h1
  obtain ⟨nc, sc, nd, sd, c, d, rfl, ic, id', hd, rfl⟩ := h2
  have ha : 0 < a := (divInt_pos_iff hb).1 hp
  have hle' : a * d ≤ c * b := by
    rcases Int.lt_or_le (c * b) (a * d) with h | h
    · exact absurd ((divInt_lt_iff hd hb).2 h) (Rat.not_lt.2 hle)
    · exact h
  have hc : 0 < c := by
    rcases Int.lt_or_le 0 c with h | h
    · exact h
    · have h3 := Int.mul_pos ha hd
      have h4 : c * b ≤ 0 := Int.mul_nonpos_of_nonpos_of_nonneg h (by omega)
      omega
  have b1 := ia.bd
  have b2 := ib.bd
  have b3 := ic.bd
  have b4 := id'.bd
  have hI : Inv (((4294967296 ^ k - 1 : Nat)) : Int) a b c d 0 1 1 0 := inv_start ha hb hc hd hle' (by omega) (by omega) (by omega) (by omega)
  have hM : ((((4294967296 ^ k - 1 : Nat)) : Int)).natAbs < 4294967296 ^ k := by omega
  refine (spos_any na nb nc nd sa sb sc sd a b c d _ k (fun rn rd => SimOf (Rat.divInt a b) (Rat.divInt c d) rn rd ∧ IsRat (raw rn rd) (Rat.divInt rn rd) k) w ia ib ic id' hI hM hk (fun rn rd hs => ⟨⟨a, b, c, d, hb, hd, rfl, rfl, hs⟩, ?_⟩)).mono ?_
  · obtain ⟨⟨x1, x2⟩, x3, x4⟩ := hs.bd hI
    exact ⟨_, _, _, _, rn, rd, rfl, isInt_mg (by omega) (by omega), isInt_mg (by omega) (by omega), rfl⟩
  · rintro e w' ⟨rn, rd, ⟨y1, y2⟩, rfl, hb⟩
    exact ⟨rn, rd, y1, y2, rfl, hb⟩
end Go.Proofs.YtcljkdninmldiaaGreatDoor

namespace Go.Proofs.YtcljkdninmldiaaGreatDoor
open Go.RowKit

/-- How many operations have not come up. -/
def unl (listed : Array Bool) : Nat := listed.toList.count false
theorem unl_set {listed : Array Bool} {i : Nat} (h : listed.getD i true = false) : unl (listed.setIfInBounds i true) + 1 = unl listed := by
  have hi : i < listed.size := by
    rcases Nat.lt_or_ge i listed.size with h1 | h1
    · exact h1
    · simp [Array.getD, Nat.not_lt.2 h1] at h
  have hl : listed.toList[i]'(by simpa using hi) = false := by
    simp [Array.getD, hi] at h
    simpa using h
  have hp : 0 < listed.toList.count false := List.count_pos_iff.2 (by rw [← hl]; exact List.getElem_mem _)
  unfold unl
  rw [Array.toList_setIfInBounds, List.count_set (by simpa using hi), hl]
  rw [if_pos (by rfl), if_neg (by decide)]
  omega
/-- Every operation waits for earlier ones alone. -/
def backwards (md : Region.Mode) (ops : Array Oper) : Bool := (List.range ops.size).all fun i => ((ops[i]?).map fun o => o.after.all fun e => !Region.binds md e || decide (e.on < i)).getD true

section
variable {P : Program} {md : Region.Mode} {ops : Array Oper} {Q : Exit → Act → World → Prop}

theorem backwards_spec (h : backwards md ops = true) {i : Nat} {o : Oper} (ho : ops[i]? = some o) {e : _} (he : e ∈ o.after) (hb : Region.binds md e = true) : e.on < i := by
  unfold backwards at h
  rw [List.all_eq_true] at h
  have h1 := h i (List.mem_range.2 (Array.getElem?_eq_some_iff.1 ho).1)
  rw [ho] at h1
  simp only [Option.map_some, Option.getD_some, Array.all_eq_true_iff_forall_mem] at h1
  have h2 := h1 e he
  simpa [hb] using h2
theorem all_listed (hbk : backwards md ops = true) {listed : Array Bool} (hs : listed.size = ops.size) (hr : Region.ready md ops listed = []) : ∀ i, i < ops.size → listed.getD i false = true := by
  intro i
  induction i using Nat.strongRecOn with
  | ind i ih =>
    intro hi
    cases hl : listed.getD i true with
    | true => simpa [Array.getD, hs, hi] using hl
    | false =>
      exfalso
      have hm : i ∈ Region.ready md ops listed := mem_ready.2 ⟨hl, ops[i], by simp [hi], fun e he hb => by
        have h1 := backwards_spec hbk (i := i) (o := ops[i]) (by simp [hi]) he hb
        exact ih _ h1 (by omega)⟩
      rw [hr] at hm
      cases hm

theorem any_of_inv {J : Array Bool → Act → World → Prop} (hbk : backwards md ops = true)
    (hstep : ∀ i o listed a w, ops[i]? = some o → listed.size = ops.size → listed.getD i true = false → (∀ e ∈ o.after, Region.binds md e = true → listed.getD e.on false = true) → J listed a w → wpOp P ops Q i (fun a' w' => J (listed.setIfInBounds i true) a' w') a w)
    (hend : ∀ listed a w, listed.size = ops.size → (∀ i, i < ops.size → listed.getD i false = true) → J listed a w → Q .normal a w) :
    ∀ (fuel : Nat) (listed : Array Bool) (a : Act) (w : World), unl listed ≤ fuel → listed.size = ops.size → J listed a w → wpAny P md ops Q fuel listed a w
  | 0, listed, a, w, hu, hs, hJ => by
    have hr : Region.ready md ops listed = [] := by
      rcases hx : Region.ready md ops listed with _ | ⟨i, l⟩
      · rfl
      · have := unl_set (mem_ready.1 (show i ∈ Region.ready md ops listed by rw [hx]; exact List.mem_cons_self)).1
        omega
    exact ⟨hr, hend listed a w hs (all_listed hbk hs hr) hJ⟩
  | fuel + 1, listed, a, w, hu, hs, hJ => by
    refine ⟨fun hr => hend listed a w hs (all_listed hbk hs hr) hJ, fun i hi => ?_⟩
    obtain ⟨h1, o, h2, h3⟩ := mem_ready.1 hi
    have h4 := unl_set h1
    exact wpOp_mono (fun a' w' h => any_of_inv hbk hstep hend fuel _ a' w' (by omega) (by simpa using hs) h) (hstep i o listed a w h2 hs h1 h3 hJ)

theorem region_inv {J : Array Bool → Act → World → Prop} {id : Nat} {a : Act} {w : World} (hm : P.follows .mixedOrders = true) (hbk : backwards .any ops = true) (h0 : J (Array.replicate ops.size false) a w.drew)
    (hstep : ∀ i o listed a w, ops[i]? = some o → listed.size = ops.size → listed.getD i true = false → (∀ e ∈ o.after, Region.binds .any e = true → listed.getD e.on false = true) → J listed a w → wpOp P ops Q i (fun a' w' => J (listed.setIfInBounds i true) a' w') a w)
    (hend : ∀ listed a w, listed.size = ops.size → (∀ i, i < ops.size → listed.getD i false = true) → J listed a w → Q .normal a w) :
    (Code.region id ops true).wp P Q a w :=
  wp_region_any hm (any_of_inv hbk hstep hend _ _ _ _ (by unfold unl; exact Nat.le_trans (List.count_le_length) (by simp)) (by simp) h0)
/-- As region_inv, with the waiting as a test that computes. -/
theorem region_inv' {J : Array Bool → Act → World → Prop} {id : Nat} {a : Act} {w : World} (hm : P.follows .mixedOrders = true) (hbk : backwards .any ops = true) (h0 : J (Array.replicate ops.size false) a w.drew)
    (hstep : ∀ i, i < ops.size → ∀ listed a w, listed.getD i false = false → (∀ j, waitsFor .any ops i j = true → listed.getD j false = true) → J listed a w → wpOp P ops Q i (fun a' w' => J (listed.setIfInBounds i true) a' w') a w)
    (hend : ∀ listed a w, (∀ i, i < ops.size → listed.getD i false = true) → J listed a w → Q .normal a w) :
    (Code.region id ops true).wp P Q a w := by
  refine region_inv hm hbk h0 (fun i o listed a w ho hs hl hw hJ => ?_) (fun listed a w _ h hJ => hend listed a w h hJ)
  have hi := (Array.getElem?_eq_some_iff.1 ho).1
  refine hstep i hi listed a w (by simpa [Array.getD, hs, hi] using hl) (fun j hj => ?_) hJ
  obtain ⟨os, h1, e, h2, h3, h4⟩ := waitsFor_spec hj
  rw [ho] at h1
  injection h1 with h1
  subst h1
  rw [← h4]
  exact hw e h2 h3
theorem stepJ {J : Act → World → Prop} {i : Nat} {o : Oper} {a : Act} {w : World} (ho : ops[i]? = some o)
    (h : ∀ K' : Act → World → Prop, Shut (∀ a w, J a w → K' a w) → if Region.wanted o (yielded ops a.tmps) = true then Oper.wp P o a w K' Q else K' (a.put o.dst undef) w) : wpOp P ops Q i J a w :=
  wpOp_step ho (fun K' hK => h K' (fun a w hJ => hK a w hJ))
theorem fl {L : Array Bool} {i j : Nat} (h : i ≠ j) (hf : (L.setIfInBounds i true).getD j false = true) : L.getD j false = true := by
  simp only [Array.getD_eq_getD_getElem?, Array.getElem?_setIfInBounds_ne h] at hf ⊢
  exact hf
end
end Go.Proofs.YtcljkdninmldiaaGreatDoor
