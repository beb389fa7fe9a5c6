/- A region that draws its order, by a statement that every operation keeps, whatever has come up before it: one walk for each operation, not one for each order. No condition. What the reference implementation's Power returns where it succeeds. Condition: at most 10^6 bytes. What the reference implementation's power and atMost return. Condition: at most 10^6 bits, 10^6 bytes. -/
import Derived.Test.YtfcdekkoeeaolaaGreatDoorQ24

namespace Go.Proofs.YtfcdekkoeeaolaaGreatDoor
open Go.RowKit

/-- How many operations have not come up. -/
def unl (listed : Array Bool) : Nat := listed.toList.count false
theorem unl_set {listed : Array Bool} {i : Nat} (h : listed.getD i true = false) : unl (listed.setIfInBounds i true) + 1 = unl listed := by
  have hi : i < listed.size := by
    rcases Nat.lt_or_ge i listed.size with h1 | h1
    · exact h1
    · simp [Array.getD, Nat.not_lt.2 h1] at h
  have hl : listed.toList[i]'(by simpa using hi) = false := by
    simp [Array.getD, hi] at h
    simpa using h
  have hp : 0 < listed.toList.count false := List.count_pos_iff.2 (by rw [← hl]; exact List.getElem_mem _)
  unfold unl
  rw [Array.toList_setIfInBounds, List.count_set (by simpa using hi), hl]
  rw [if_pos (by rfl), if_neg (by decide)]
  omega
/-- Every operation waits for earlier ones alone. -/
def backwards (md : Region.Mode) (ops : Array Oper) : Bool := (List.range ops.size).all fun i => ((ops[i]?).map fun o => o.after.all fun e => !Region.binds md e || decide (e.on < i)).getD true

section
variable {P : Program} {md : Region.Mode} {ops : Array Oper} {Q : Exit → Act → World → Prop}

theorem backwards_spec (h : backwards md ops = true) {i : Nat} {o : Oper} (ho : ops[i]? = some o) {e : _} (he : e ∈ o.after) (hb : Region.binds md e = true) : e.on < i := by
  unfold backwards at h
  rw [List.all_eq_true] at h
  have h1 := h i (List.mem_range.2 (Array.getElem?_eq_some_iff.1 ho).1)
  rw [ho] at h1
  simp only [Option.map_some, Option.getD_some, Array.all_eq_true_iff_forall_mem] at h1
  have h2 := h1 e he
  simpa [hb] using h2
theorem all_listed (hbk : backwards md ops = true) {listed : Array Bool} (hs : listed.size = ops.size) (hr : Region.ready md ops listed = []) : ∀ i, i < ops.size → listed.getD i false = true := by
  intro i
  induction i using Nat.strongRecOn with
  | ind i ih =>
    intro hi
    cases hl : listed.getD i true with
    | true => simpa [Array.getD, hs, hi] using hl
    | false =>
      exfalso
      have hm : i ∈ Region.ready md ops listed := mem_ready.2 ⟨hl, ops[i], by simp [hi], fun e he hb => by
        have h1 := backwards_spec hbk (i := i) (o := ops[i]) (by simp [hi]) he hb
        exact ih _ h1 (by omega)⟩
      rw [hr] at hm
      cases hm

theorem any_of_inv {J : Array Bool → Act → World → Prop} (hbk : backwards md ops = true)
    (hstep : ∀ i o listed a w, ops[i]? = some o → listed.size = ops.size → listed.getD i true = false → (∀ e ∈ o.after, Region.binds md e = true → listed.getD e.on false = true) → J listed a w → wpOp P ops Q i (fun a' w' => J (listed.setIfInBounds i true) a' w') a w)
    (hend : ∀ listed a w, listed.size = ops.size → (∀ i, i < ops.size → listed.getD i false = true) → J listed a w → Q .normal a w) :
    ∀ (fuel : Nat) (listed : Array Bool) (a : Act) (w : World), unl listed ≤ fuel → listed.size = ops.size → J listed a w → wpAny P md ops Q fuel listed a w
  | 0, listed, a, w, hu, hs, hJ => by
    have hr : Region.ready md ops listed = [] := by
      rcases hx : Region.ready md ops listed with _ | ⟨i, l⟩
      · rfl
      · have := unl_set (mem_ready.1 (show i ∈ Region.ready md ops listed by rw [hx]; exact List.mem_cons_self)).1
        omega
    exact ⟨hr, hend listed a w hs (all_listed hbk hs hr) hJ⟩
  | fuel + 1, listed, a, w, hu, hs, hJ => by
    refine ⟨fun hr => hend listed a w hs (all_listed hbk hs hr) hJ, fun i hi => ?_⟩
    obtain ⟨h1, o, h2, h3⟩ := mem_ready.1 hi
    have h4 := unl_set h1
    exact wpOp_mono (fun a' w' h => any_of_inv hbk hstep hend fuel _ a' w' (by omega) (by simpa using hs) h) (hstep i o listed a w h2 hs h1 h3 hJ)

theorem region_inv {J : Array Bool → Act → World → Prop} {id : Nat} {a : Act} {w : World} (hm : P.follows .mixedOrders = true) (hbk : backwards .any ops = true) (h0 : J (Array.replicate ops.size false) a w.drew)
    (hstep : ∀ i o listed a w, ops[i]? = some o → listed.size = ops.size → listed.getD i true = false → (∀ e ∈ o.after, Region.binds .any e = true → listed.getD e.on false = true) → J listed a w → wpOp P ops Q i (fun a' w' => J (listed.setIfInBounds i true) a' w') a w)
    (hend : ∀ listed a w, listed.size = ops.size → (∀ i, i < ops.size → listed.getD i false = true) → J listed a w → Q .normal a w) :
    (Code.region id ops true).wp P Q a w :=
  wp_region_any hm (any_of_inv hbk hstep hend _ _ _ _ (by unfold unl; exact Nat.le_trans (List.count_le_length) (by simp)) (by simp) h0)
/-- As region_inv, with the waiting as a test that computes. -/
theorem region_inv' {J : Array Bool → Act → World → Prop} {id : Nat} {a : Act} {w : World} (hm : P.follows .mixedOrders = true) (hbk : backwards .any ops = true) (h0 : J (Array.replicate ops.size false) a w.drew)
    (hstep : ∀ i, i < ops.size → ∀ listed a w, listed.getD i false = false → (∀ j, waitsFor .any ops i j = true → listed.getD j false = true) → J listed a w → wpOp P ops Q i (fun a' w' => J (listed.setIfInBounds i true) a' w') a w)
    (hend : ∀ listed a w, (∀ i, i < ops.size → listed.getD i false = true) → J listed a w → Q .normal a w) :
    (Code.region id ops true).wp P Q a w := by
  refine region_inv hm hbk h0 (fun i o listed a w ho hs hl hw hJ => ?_) (fun listed a w _ h hJ => hend listed a w h hJ)
  have hi := (Array.getElem?_eq_some_iff.1 ho).1
  refine hstep i hi listed a w (by simpa [Array.getD, hs, hi] using hl) (fun j hj => ?_) hJ
  obtain ⟨os, h1, e, h2, h3, h4⟩ := waitsFor_spec hj
  rw [ho] at h1
  injection h1 with h1
  subst h1
  rw [← h4]
  exact hw e h2 h3
theorem stepJ {J : Act → World → Prop} {i : Nat} {o : Oper} {a : Act} {w : World} (ho : ops[i]? = some o)
    (h : ∀ K' : Act → World → Prop, Shut (∀ a w, J a w → K' a w) → if Region.wanted o (yielded ops a.tmps) = true then Oper.wp P o a w K' Q else K' (a.put o.dst undef) w) : wpOp P ops Q i J a w :=
  wpOp_step ho (fun K' hK => h K' (fun a w hJ => hK a w hJ))
theorem fl {L : Array Bool} {i j : Nat} (h : i ≠ j) (hf : (L.setIfInBounds i true).getD j false = true) : L.getD j false = true := by
  simp only [Array.getD_eq_getD_getElem?, Array.getElem?_setIfInBounds_ne h] at hf ⊢
  exact hf
end
end Go.Proofs.YtfcdekkoeeaolaaGreatDoor

namespace Go.Proofs.YtfcdekkoeeaolaaGreatDoor
open Go.RowKit
set_option linter.unusedSimpArgs false
set_option linter.unusedVariables false

/-- A variable whose integer has come up, or not yet. -/
def SlI (B : Nat) (x : Int) (F : Prop) (u : Value) (W : World) : Prop := ∃ p, u = .pointer (some ⟨p, 0, none⟩) ∧ B < p ∧ (∃ g s, Box2 W p g s) ∧ (F → Box2 W p (sg x) (mg x))
theorem SlI.keep {B : Nat} {x : Int} {F : Prop} {u : Value} {W W' : World} (h : SlI B x F u W) (hb : Below W.heap.size W W') : SlI B x F u W' := by
  obtain ⟨p, h1, h2, ⟨g, s, h3⟩, h4⟩ := h
  exact ⟨p, h1, h2, ⟨g, s, h3.keep hb⟩, fun f => (h4 f).keep hb⟩
theorem SlI.imp {B : Nat} {x : Int} {F F' : Prop} {u : Value} {W : World} (h : SlI B x F u W) (hf : F' → F) : SlI B x F' u W := by
  obtain ⟨p, h1, h2, h3, h4⟩ := h
  exact ⟨p, h1, h2, h3, fun f => h4 (hf f)⟩
theorem SlI.new {B : Nat} {x : Int} {F : Prop} {W : World} {t : TypeId} {g : Bool} {s : ByteArray} (hF : ¬F) (hb : B < W.heap.size) : SlI B x F (.pointer (some ⟨W.heap.size, 0, none⟩)) (W.alloc (.cells #[.bool g, .string s] t)) :=
  ⟨_, rfl, hb, ⟨g, s, Box2.new _ _ _ _⟩, fun f => absurd f hF⟩
theorem SlI.ne_new {B : Nat} {x : Int} {F : Prop} {u : Value} {W : World} (h : SlI B x F u W) : u ≠ .pointer (some ⟨W.heap.size, 0, none⟩) := by
  obtain ⟨p, rfl, _, ⟨g, s, h3⟩, _⟩ := h
  have := World.block_lt_of_cell? W ⟨p, 0, none⟩ h3.1
  dsimp only at this
  intro e
  injection e with e
  injection e with e
  injection e with e
  omega
theorem SlI.far {B q : Nat} {x : Int} {F : Prop} {u : Value} {W : World} (h : SlI B x F u W) (hne : u ≠ .pointer (some ⟨q, 0, none⟩)) (v1 v2 : Value) : SlI B x F u ((W.setCell ⟨q, 0, none⟩ v1).setCell ⟨q, 1, none⟩ v2) := by
  obtain ⟨p, rfl, h2, ⟨g, s, h3⟩, h4⟩ := h
  have hpq : p ≠ q := fun e => hne (by rw [e])
  exact ⟨p, rfl, h2, ⟨g, s, (h3.far hpq _).far hpq _⟩, fun f => ((h4 f).far hpq _).far hpq _⟩
theorem SlI.put {B p : Nat} {x : Int} {F F' : Prop} {W : World} (h : SlI B x F (.pointer (some ⟨p, 0, none⟩)) W) : SlI B x F' (.pointer (some ⟨p, 0, none⟩)) ((W.setCell ⟨p, 0, none⟩ (.bool (sg x))).setCell ⟨p, 1, none⟩ (.string (mg x))) := by
  obtain ⟨p', e, h2, ⟨g, s, h3⟩, _⟩ := h
  injection e with e
  injection e with e
  injection e with e
  subst e
  exact ⟨p, rfl, h2, ⟨_, _, h3.set⟩, fun _ => h3.set⟩
theorem Pw.far2 {w W : World} {p q : Nat} {g : Bool} {s : ByteArray} (h : Pw w W p g s) (hq : p + 1 < q) (v1 v2 : Value) : Pw w ((W.setCell ⟨q, 0, none⟩ v1).setCell ⟨q, 1, none⟩ v2) p g s := (h.far hq _).far hq _

set_option maxRecDepth 100000 in
set_option maxHeartbeats 12800000 in
theorem rpow_any (g : Bool) (l : List UInt8) (z : Int) (m : Nat) (w : World) (hl1 : l.length ≤ 1000000) (hz : zv g ⟨l.toArray⟩ = z) (hm : m ≤ 4096) (hl : m * nbits z.natAbs ≤ 65536) :
    Calls Tryz.prog 21 #[.agg #[.bool g, .string ⟨l.toArray⟩], .int .i64 (m : Int)] w (GoodOut w (z ^ m)) := by
  obtain ⟨nb, Hnb⟩ : ∃ n : Nat, Hid (nbits z.natAbs = n) := ⟨_, Lib.hid rfl⟩
  have HL := Lib.hid hl
  have Hz := Lib.hid hz
  have Hl := Lib.hid hl1
  obtain ⟨R, HR⟩ : ∃ R, Hid (z ^ m = R) := ⟨_, Lib.hid rfl⟩
  rw [HR.out]
  rw [Hnb.out] at hl
  clear hz
  obtain ⟨P, hP⟩ : ∃ P : Nat, nb * m = P := ⟨_, rfl⟩
  have hPl : P ≤ 65536 := by rw [← hP, Nat.mul_comm]; exact hl
  have hwr : IntKind.i64.wrap ((nb : Int) * (m : Int)) = (P : Int) := by
    rw [show (nb : Int) * (m : Int) = ((nb * m : Nat) : Int) by rw [Int.natCast_mul], hP]
    exact IntWalk.i64_in _ (by omega)
  have hd1 : ¬ (m : Int) < 0 := by omega
  have hd2 : ¬ 4096 < (m : Int) := by omega
  have hd3 : ¬ 65536 < (P : Int) := by omega
  obtain ⟨W0, hW0⟩ : ∃ W0, W0 = (w.alloc (.cells #[.bool g, .string ⟨l.toArray⟩] 23)).alloc (.cells #[.bool false, .string ⟨#[]⟩] 23) := ⟨_, rfl⟩
  have K : Pw w W0 w.heap.size g ⟨l.toArray⟩ := by rw [hW0]; exact Pw.start w _ _ _
  have HW := Lib.hid hW0
  clear hW0 hl hP hl1
  go_enter Tryz.func21, Tryz.ntmps21
  go_upto_region 1 with fail
  rw [← HW.out]
  obtain ⟨⟨x1, x2, x3, x4⟩, ⟨r1, r2, r3, r4⟩, -⟩ := id K
  go_wp2_with fail
  refine (rbits_b (by have := Hl.out; omega) Hz.out (by rw [Hnb.out])).mono ?_
  rintro e X ⟨rfl, bX⟩
  have K := K.keep bX
  clear bX x1 x2 x3 x4 r1 r2 r3 r4 HW
  go_upto_region 5 with fail
  clear hwr hd1 hd2 hPl
  have KB := K.drew
  clear K
  have hmx : Tryz.prog.follows .mixedOrders = true := by kernel_rfl
  generalize decide (65536 < (P : Int)) = D0 at hd3 ⊢
  refine region_inv' (J := (fun L a wx => ∃ u6 u7 u21 u22 u23, a = { tmps := #[.agg #[.bool g, .string ⟨l.toArray⟩], .int .i64 (m : Int), .pointer (some ⟨w.heap.size, 0, none⟩), undef, .pointer (some ⟨w.heap.size + 1, 0, none⟩), .int .i64 0, u6, u7, .int .i64 (m : Int), .bool false, .bool false, .int .i64 (m : Int), .bool false, .bool false, undef, .agg #[.bool g, .string ⟨l.toArray⟩], .int .i64 (nb : Int), .int .i64 (m : Int), .int .i64 (P : Int), .bool D0, undef, u21, u22, u23, undef, undef, undef, undef, undef, undef, undef, undef, undef, undef, undef, undef, undef, undef, undef, undef], defers := [] } ∧ Pw w wx w.heap.size g ⟨l.toArray⟩ ∧
      (L.getD 0 false = true → u21 = .agg #[.bool (sg 1), .string (mg 1)]) ∧ (L.getD 1 false = true → u22 = .agg #[.bool g, .string ⟨l.toArray⟩]) ∧ (L.getD 2 false = true → u23 = .agg #[.bool (sg z), .string (mg z)]) ∧ (L.getD 3 false = true → SlI (w.heap.size + 1) 1 (L.getD 5 false = true) u6 wx) ∧ (L.getD 4 false = true → SlI (w.heap.size + 1) z (L.getD 6 false = true) u7 wx) ∧ (L.getD 3 false = true → L.getD 4 false = true → u6 ≠ u7) ∧ (L.getD 5 false = true → L.getD 3 false = true) ∧ (L.getD 6 false = true → L.getD 4 false = true))) hmx (by kernel_rfl) ?_ ?_ ?_
  · exact ⟨undef, undef, undef, undef, undef, rfl, KB, fun h => absurd h (by decide), fun h => absurd h (by decide), fun h => absurd h (by decide), fun h => absurd h (by decide), fun h => absurd h (by decide), fun h _ => absurd h (by decide), fun h => absurd h (by decide), fun h => absurd h (by decide)⟩
  · intro i hi L a wx hl hw ⟨u6, u7, u21, u22, u23, ha, lo, c0, c1, c2, s3, s4, d34, k5, k6⟩
    subst ha
    obtain ⟨⟨x1, x2, x3, x4⟩, -⟩ := id lo
    clear KB
    have hi' : i = 0 ∨ i = 1 ∨ i = 2 ∨ i = 3 ∨ i = 4 ∨ i = 5 ∨ i = 6 := by
      have : i < 7 := hi
      omega
    rcases hi' with rfl | rfl | rfl | rfl | rfl | rfl | rfl
    · refine stepJ (i := 0) rfl (fun K hK => ?_)
      go_simp
      go_at_call 66
      refine (rof01_any 1 _ (by omega) (by omega)).mono ?_
      rintro e W2 ⟨rfl, b2⟩
      go_wp2_with fail
      refine hK.out _ _ ⟨u6, u7, _, u22, u23, rfl, lo.keep b2, fun _ => rfl, fun h => c1 (fl (by decide) h), fun h => c2 (fl (by decide) h), fun h => ((s3 (fl (by decide) h)).imp (fl (by decide))).keep b2, fun h => ((s4 (fl (by decide) h)).imp (fl (by decide))).keep b2, fun h h' => d34 (fl (by decide) h) (fl (by decide) h'), fun h => getD_set_true (k5 (fl (by decide) h)), fun h => getD_set_true (k6 (fl (by decide) h))⟩
    · refine stepJ (i := 1) rfl (fun K hK => ?_)
      go_simp
      refine hK.out _ _ ⟨u6, u7, u21, _, u23, rfl, lo, fun h => c0 (fl (by decide) h), fun _ => rfl, fun h => c2 (fl (by decide) h), fun h => ((s3 (fl (by decide) h)).imp (fl (by decide))), fun h => ((s4 (fl (by decide) h)).imp (fl (by decide))), fun h h' => d34 (fl (by decide) h) (fl (by decide) h'), fun h => getD_set_true (k5 (fl (by decide) h)), fun h => getD_set_true (k6 (fl (by decide) h))⟩
    · refine stepJ (i := 2) rfl (fun K hK => ?_)
      obtain rfl := c1 (hw 1 (by kernel_rfl))
      go_simp
      go_at_call 65
      refine (rcan_eq (by have := Hl.out; omega) Hz.out).mono ?_
      rintro e W2 ⟨rfl, b2⟩
      go_wp2_with fail
      refine hK.out _ _ ⟨u6, u7, u21, _, _, rfl, lo.keep b2, fun h => c0 (fl (by decide) h), fun _ => rfl, fun _ => rfl, fun h => ((s3 (fl (by decide) h)).imp (fl (by decide))).keep b2, fun h => ((s4 (fl (by decide) h)).imp (fl (by decide))).keep b2, fun h h' => d34 (fl (by decide) h) (fl (by decide) h'), fun h => getD_set_true (k5 (fl (by decide) h)), fun h => getD_set_true (k6 (fl (by decide) h))⟩
    · refine stepJ (i := 3) rfl (fun K hK => ?_)
      go_simp
      refine hK.out _ _ ⟨_, u7, u21, u22, u23, rfl, lo.alloc _, fun h => c0 (fl (by decide) h), fun h => c1 (fl (by decide) h), fun h => c2 (fl (by decide) h), fun _ => SlI.new (fun h => absurd ((k5 (fl (by decide) h)).symm.trans hl) (by decide)) lo.2.2.1, fun h => ((s4 (fl (by decide) h)).imp (fl (by decide))).keep (below1 wx _), fun _ h' => Ne.symm (s4 (fl (by decide) h')).ne_new, fun h => getD_set_true (k5 (fl (by decide) h)), fun h => getD_set_true (k6 (fl (by decide) h))⟩
    · refine stepJ (i := 4) rfl (fun K hK => ?_)
      go_simp
      refine hK.out _ _ ⟨u6, _, u21, u22, u23, rfl, lo.alloc _, fun h => c0 (fl (by decide) h), fun h => c1 (fl (by decide) h), fun h => c2 (fl (by decide) h), fun h => ((s3 (fl (by decide) h)).imp (fl (by decide))).keep (below1 wx _), fun _ => SlI.new (fun h => absurd ((k6 (fl (by decide) h)).symm.trans hl) (by decide)) lo.2.2.1, fun h _ => (s3 (fl (by decide) h)).ne_new, fun h => getD_set_true (k5 (fl (by decide) h)), fun h => getD_set_true (k6 (fl (by decide) h))⟩
    · refine stepJ (i := 5) rfl (fun K hK => ?_)
      obtain rfl := c0 (hw 0 (by kernel_rfl))
      obtain ⟨pp, rfl, hpp, ⟨g9, t9, ⟨y1, y2, y3, y4⟩⟩, _⟩ := id (s3 (hw 3 (by kernel_rfl)))
      go_simp
      refine hK.out _ _ ⟨_, u7, _, u22, u23, rfl, lo.far2 hpp _ _, fun _ => rfl, fun h => c1 (fl (by decide) h), fun h => c2 (fl (by decide) h), fun _ => (s3 (hw 3 (by kernel_rfl))).put, fun h => ((s4 (fl (by decide) h)).imp (fl (by decide))).far (Ne.symm (d34 (hw 3 (by kernel_rfl)) (fl (by decide) h))) _ _, fun h h' => d34 (fl (by decide) h) (fl (by decide) h'), fun _ => getD_set_true (hw 3 (by kernel_rfl)), fun h => getD_set_true (k6 (fl (by decide) h))⟩
    · refine stepJ (i := 6) rfl (fun K hK => ?_)
      obtain rfl := c2 (hw 2 (by kernel_rfl))
      obtain ⟨pp, rfl, hpp, ⟨g9, t9, ⟨y1, y2, y3, y4⟩⟩, _⟩ := id (s4 (hw 4 (by kernel_rfl)))
      go_simp
      refine hK.out _ _ ⟨u6, _, u21, u22, _, rfl, lo.far2 hpp _ _, fun h => c0 (fl (by decide) h), fun h => c1 (fl (by decide) h), fun _ => rfl, fun h => ((s3 (fl (by decide) h)).imp (fl (by decide))).far (d34 (fl (by decide) h) (hw 4 (by kernel_rfl))) _ _, fun _ => (s4 (hw 4 (by kernel_rfl))).put, fun h h' => d34 (fl (by decide) h) (fl (by decide) h'), fun h => getD_set_true (k5 (fl (by decide) h)), fun _ => getD_set_true (hw 4 (by kernel_rfl))⟩
  · rintro L a wx hall ⟨u6, u7, u21, u22, u23, rfl, lo, c0, c1, c2, s3, s4, d34, k5, k6⟩
    obtain ⟨u, rfl, hu, -, U⟩ := s3 (hall 3 (by decide))
    obtain ⟨v, rfl, hv, -, V⟩ := s4 (hall 4 (by decide))
    have hn : u ≠ v := fun e => d34 (hall 3 (by decide)) (hall 4 (by decide)) (by rw [e])
    have T : Tw w wx w.heap.size u v g ⟨l.toArray⟩ 1 z := ⟨lo, ⟨U (hall 5 (by decide)), hu⟩, ⟨V (hall 6 (by decide)), hv⟩, hn⟩
    clear s3 s4 d34 k5 k6 c0 c1 c2 hall U V lo KB hn
    dsimp only
    go_wp2_with fail
    have T0 := T
    clear T
    go_loopg [1] m (fun q s1 wx => ∃ (n e f : Nat) (x y : Int), n = q ∧ s1 = .int .i64 (n : Int) ∧ Hid (e + f * n = m ∧ n ≤ m) ∧ Hid (n = 0 ∨ f ≤ m) ∧ Hid (z ^ e = x) ∧ Hid (z ^ f = y) ∧ Tw w wx w.heap.size u v g ⟨l.toArray⟩ x y)
    case atStart => exact ⟨m, 0, 1, 1, z, rfl, rfl, by show _ ∧ _; omega, by show _ ∨ _; omega, by show _ = _; rw [Int.pow_zero], by show _ = _; rw [Int.pow_one], T0⟩
    case round =>
      clear T0 hu hv
      obtain ⟨n, e, f, x, y, hq, rfl, HE, HF, Hx, Hy, T⟩ := hrel
      obtain ⟨⟨⟨x1, x2, x3, x4⟩, ⟨r1, r2, r3, r4⟩, hp, B, -⟩, ⟨⟨u1, u2, u3, u4⟩, hpu⟩, ⟨⟨v1, v2, v3, v4⟩, hpv⟩, huv⟩ := id T
      rcases Nat.eq_zero_or_pos n with h0 | h0
      · subst h0
        have HX := Lib.hid (show x = R by
          rw [← Hx.out, ← HR.out]
          have := HE.out.1
          rw [show e = m by omega])
        clear hq
        go_wp2_with fail
        exact bodyPost_ret (v := .tuple #[.agg #[.bool (sg x), .string (mg x)], .int .i64 0]) (by simp [results, Tryz.results21, go_sem, r1, r2, r3, r4]) rfl ⟨by rw [HX.out], (B.setCell (by dsimp only; omega) _).setCell (by dsimp only; omega) _⟩
      · obtain ⟨k, hk⟩ : ∃ k, n / 2 = k := ⟨_, rfl⟩
        have hnp : 0 < (n : Int) := by omega
        have hkq : k < gk := by omega
        have e2 : (n : Int).tdiv 2 = (k : Int) := by rw [Int.tdiv_eq_ediv_of_nonneg (by omega)]; omega
        have e3 : IntKind.i64.wrap (k : Int) = (k : Int) := IntWalk.i64_in _ (by have := HE.out.2; omega)
        have Lx := Lib.hid (pow_bytes HL.out (show e ≤ m by have := HE.out.1; omega) Hx.out)
        have Ly := Lib.hid (pow_bytes HL.out (show f ≤ m by rcases HF.out with h | h <;> omega) Hy.out)
        have hz1 : IntKind.i64.wrap 1 = 1 := by decide
        have hz0 : IntKind.i64.wrap 0 = 0 := by decide
        rcases (show n % 2 = 1 ∨ n % 2 = 0 by omega) with hodd | hev
        · have e1 : (n : Int).tmod 2 = 1 := by rw [Int.tmod_eq_emod_of_nonneg (by omega)]; omega
          obtain ⟨x2', Hx2⟩ : ∃ r, Hid (x * y = r) := ⟨_, Lib.hid rfl⟩
          have Hxp := Lib.hid (show z ^ (e + f) = x2' by rw [Int.pow_add, Hx.out, Hy.out, Hx2.out])
          rcases Nat.eq_zero_or_pos k with hk0 | hk0
          · have HE2 := Lib.hid (show e + f + f * k = m ∧ k ≤ m by
              have := HE.out.1
              have : n = 1 := by omega
              subst this
              subst hk0
              omega)
            subst hk0
            clear hk hodd hq
            go_wp2_with fail
            refine (rmul_mg Lx.out Ly.out Hx2.out).mono ?_
            rintro e9 W3 ⟨rfl, b3⟩
            have T := T.keep b3
            clear x1 x2 x3 x4 r1 r2 r3 r4 hp B u1 u2 u3 u4 hpu v1 v2 v3 v4 hpv huv
            obtain ⟨⟨⟨x1, x2, x3, x4⟩, ⟨r1, r2, r3, r4⟩, hp, B, -⟩, ⟨⟨u1, u2, u3, u4⟩, hpu⟩, ⟨⟨v1, v2, v3, v4⟩, hpv⟩, huv⟩ := id T
            have T2 := T.setu x2'
            go_upto_region 9 with fail
            generalize (W3.setCell ⟨u, 0, none⟩ (.bool (sg x2'))).setCell ⟨u, 1, none⟩ (.string (mg x2')) = W4 at *
            clear T b3
            go_wp2_with fail
            go_roundg 0
            case measure => omega
            case rel => exact ⟨0, e + f, f, x2', y, rfl, rfl, HE2, Or.inl rfl, Hxp, Hy, T2⟩
          · obtain ⟨y2', Hy2⟩ : ∃ r, Hid (y * y = r) := ⟨_, Lib.hid rfl⟩
            have Hyp := Lib.hid (show z ^ (f + f) = y2' by rw [Int.pow_add, Hy.out, Hy2.out])
            have HE2 := Lib.hid (show e + f + (f + f) * k = m ∧ k ≤ m by
              refine ⟨?_, by have := HE.out.2; omega⟩
              have h := HE.out.1
              have h2 : n = 2 * k + 1 := by omega
              rw [h2, Nat.mul_add, Nat.mul_one, ← Nat.mul_assoc, Nat.mul_two, Nat.add_mul] at h
              rw [Nat.add_mul]
              omega)
            have HF2 := Lib.hid (show k = 0 ∨ f + f ≤ m by
              right
              have h := HE2.out.1
              have h3 : (f + f) * 1 ≤ (f + f) * k := Nat.mul_le_mul_left _ hk0
              omega)
            have hkp : decide (0 < (k : Int)) = true := decide_eq_true (by omega)
            clear hk hodd hq
            go_wp2_with fail
            refine (rmul_mg Lx.out Ly.out Hx2.out).mono ?_
            rintro e9 W3 ⟨rfl, b3⟩
            have T := T.keep b3
            clear x1 x2 x3 x4 r1 r2 r3 r4 hp B u1 u2 u3 u4 hpu v1 v2 v3 v4 hpv huv
            obtain ⟨⟨⟨x1, x2, x3, x4⟩, ⟨r1, r2, r3, r4⟩, hp, B, -⟩, ⟨⟨u1, u2, u3, u4⟩, hpu⟩, ⟨⟨v1, v2, v3, v4⟩, hpv⟩, huv⟩ := id T
            have T2 := T.setu x2'
            go_upto_region 9 with fail
            generalize (W3.setCell ⟨u, 0, none⟩ (.bool (sg x2'))).setCell ⟨u, 1, none⟩ (.string (mg x2')) = W4 at *
            clear T b3
            have T := T2
            clear T2
            clear x1 x2 x3 x4 r1 r2 r3 r4 hp B u1 u2 u3 u4 hpu v1 v2 v3 v4 hpv huv
            obtain ⟨⟨⟨x1, x2, x3, x4⟩, ⟨r1, r2, r3, r4⟩, hp, B, -⟩, ⟨⟨u1, u2, u3, u4⟩, hpu⟩, ⟨⟨v1, v2, v3, v4⟩, hpv⟩, huv⟩ := id T
            go_wp2_with fail
            refine (rmul_mg Ly.out Ly.out Hy2.out).mono ?_
            rintro e9 W5 ⟨rfl, b3⟩
            have T := T.keep b3
            clear x1 x2 x3 x4 r1 r2 r3 r4 hp B u1 u2 u3 u4 hpu v1 v2 v3 v4 hpv huv
            obtain ⟨⟨⟨x1, x2, x3, x4⟩, ⟨r1, r2, r3, r4⟩, hp, B, -⟩, ⟨⟨u1, u2, u3, u4⟩, hpu⟩, ⟨⟨v1, v2, v3, v4⟩, hpv⟩, huv⟩ := id T
            go_wp2_with fail
            go_roundg k
            case measure => omega
            case rel => exact ⟨k, e + f, f + f, x2', y2', rfl, rfl, HE2, HF2, Hxp, Hyp, T.setv y2'⟩
        · have e1 : (n : Int).tmod 2 = 0 := by rw [Int.tmod_eq_emod_of_nonneg (by omega)]; omega
          have hk0 : 0 < k := by omega
          obtain ⟨y2', Hy2⟩ : ∃ r, Hid (y * y = r) := ⟨_, Lib.hid rfl⟩
          have Hyp := Lib.hid (show z ^ (f + f) = y2' by rw [Int.pow_add, Hy.out, Hy2.out])
          have HE2 := Lib.hid (show e + (f + f) * k = m ∧ k ≤ m by
            refine ⟨?_, by have := HE.out.2; omega⟩
            have h := HE.out.1
            have h2 : n = 2 * k := by omega
            rw [h2, ← Nat.mul_assoc, Nat.mul_two] at h
            exact h)
          have HF2 := Lib.hid (show k = 0 ∨ f + f ≤ m by
            right
            have h := HE2.out.1
            have h3 : (f + f) * 1 ≤ (f + f) * k := Nat.mul_le_mul_left _ hk0
            omega)
          have hkp : decide (0 < (k : Int)) = true := decide_eq_true (by omega)
          clear hk hev hq
          go_wp2_with fail
          refine (rmul_mg Ly.out Ly.out Hy2.out).mono ?_
          rintro e9 W5 ⟨rfl, b3⟩
          have T := T.keep b3
          clear x1 x2 x3 x4 r1 r2 r3 r4 hp B u1 u2 u3 u4 hpu v1 v2 v3 v4 hpv huv
          obtain ⟨⟨⟨x1, x2, x3, x4⟩, ⟨r1, r2, r3, r4⟩, hp, B, -⟩, ⟨⟨u1, u2, u3, u4⟩, hpu⟩, ⟨⟨v1, v2, v3, v4⟩, hpv⟩, huv⟩ := id T
          go_wp2_with fail
          go_roundg k
          case measure => omega
          case rel => exact ⟨k, e, f + f, x, y2', rfl, rfl, HE2, HF2, Hx, Hyp, T.setv y2'⟩
end Go.Proofs.YtfcdekkoeeaolaaGreatDoor

namespace Go.Proofs.YtfcdekkoeeaolaaGreatDoor
open Go.RowKit
set_option linter.unusedSimpArgs false
set_option linter.unusedVariables false

theorem vB_zeros (k : Nat) : vB (List.replicate k 0) = 0 := by
  induction k with
  | zero => rfl
  | succ k ih => rw [List.replicate_succ, vB_cons, ih]; simp
theorem pow_list {i k r : Nat} {u : UInt8} (hk : i / 8 = k) (hr : i % 8 = r) (hu : u.toNat = 2 ^ r) : sg ((2 ^ i : Nat) : Int) = false ∧ mg ((2 ^ i : Nat) : Int) = ⟨(u :: List.replicate k 0).toArray⟩ := by
  have hp : 0 < 2 ^ r := Nat.pow_pos (by omega)
  have hu0 : u ≠ 0 := by
    intro e
    rw [e] at hu
    have : (0 : UInt8).toNat = 0 := rfl
    omega
  have h := canon_first (g := false) (l := List.replicate k 0) hu0
  have hv : zv false ⟨(u :: List.replicate k 0).toArray⟩ = ((2 ^ i : Nat) : Int) := by
    show ((vB (u :: List.replicate k 0) : Nat) : Int) = _
    rw [vB_cons, vB_zeros, hu, List.length_replicate, Nat.add_zero]
    rw [show (256 : Nat) ^ k = 2 ^ (8 * k) by rw [Nat.pow_mul], ← Nat.pow_add, show r + 8 * k = i by omega]
  rw [hv] at h
  exact h
/-- The bytes of a power of 2. -/
def prow (u : UInt8) : Nat → Value := fun j => .int .u8 (if j = 0 then (u.toNat : Int) else 0)
theorem prow_cell {w : World} {b k : Nat} {t : TypeId} {u : UInt8} (h : w.rowIs b t (k + 1) (prow u)) (i : Nat) (c : UInt8) (hc : (u :: List.replicate k 0)[i]? = some c) : w.cell? ⟨b, 0 + i, none⟩ = some (.int .u8 (c.toNat : Int)) := by
  have hi : i < k + 1 := by
    rcases Nat.lt_or_ge i (k + 1) with h1 | h1
    · exact h1
    · rw [List.getElem?_eq_none (by simpa using h1)] at hc; cases hc
  rw [Nat.zero_add, h.cell hi]
  unfold prow
  cases i with
  | zero => simp at hc; subst hc; rfl
  | succ i =>
    rw [if_neg (by omega)]
    simp only [List.getElem?_cons_succ] at hc
    rw [List.getElem?_replicate, if_pos (by omega)] at hc
    simp only [Option.some.injEq] at hc
    subst hc
    rfl
theorem u8_pow {r : Nat} (h : r < 8) : ∃ u : UInt8, u.toNat = 2 ^ r := ⟨UInt8.ofNat (2 ^ r), by
  rw [UInt8.toNat_ofNat']
  have : 2 ^ r < 2 ^ 8 := Nat.pow_lt_pow_right (by omega) h
  exact Nat.mod_eq_of_lt this⟩
set_option maxRecDepth 100000 in
set_option maxHeartbeats 3200000 in
theorem rpower_any (i : Nat) (w : World) (hi : i ≤ 1000000) :
    Calls Tryz.prog 81 #[.int .i64 (i : Int)] w (IntOut w ((2 ^ i : Nat) : Int)) := by
  obtain ⟨k, hk⟩ : ∃ k, i / 8 = k := ⟨_, rfl⟩
  obtain ⟨r, hr⟩ : ∃ r, i % 8 = r := ⟨_, rfl⟩
  have hr8 : r < 8 := by omega
  have hk6 : k ≤ 1000000 := by omega
  obtain ⟨u, hu⟩ := u8_pow hr8
  have HM := Lib.hid (pow_list hk hr hu)
  obtain ⟨Z, HZ⟩ : ∃ Z : Int, Hid (((2 ^ i : Nat) : Int) = Z) := ⟨_, Lib.hid rfl⟩
  rw [HZ.out] at HM ⊢
  have d1 : (i : Int).tdiv 8 = (k : Int) := by rw [Int.tdiv_eq_ediv_of_nonneg (by omega)]; omega
  have d2 : (i : Int).tmod 8 = (r : Int) := by rw [Int.tmod_eq_emod_of_nonneg (by omega)]; omega
  have w1 : IntKind.i64.wrap (k : Int) = (k : Int) := IntWalk.i64_in _ (by omega)
  have w2 : IntKind.i64.wrap ((k : Int) + 1) = (k : Int) + 1 := IntWalk.i64_in _ (by omega)
  have w3 : IntKind.i64.wrap (r : Int) = (r : Int) := IntWalk.i64_in _ (by omega)
  have w4 : IntKind.u64.wrap (r : Int) = (r : Int) := by simp [IntKind.wrap, IntKind.bits, IntKind.signed]; omega
  clear hk hr HZ
  have hmk := run_make_row' (P := Tryz.prog) 93 5 (.int .u8 0) 1 Tryz.underlying93 Tryz.infoU8 rfl .i64 .i64 (k + 1) (by omega) (by omega)
  rw [show ((k + 1 : Nat) : Int) = (k : Int) + 1 by omega] at hmk
  go_enter Tryz.func81, Tryz.ntmps81
  go_upto_region 2 with fail
  clear hmk d1 w1 w2
  have hrow := (World.rowIs_made (w.alloc (.cells #[.bool false, .string ⟨#[]⟩] 23)) (.int .u8 0) (k + 1) 5).congr (g := fun _ => .int .u8 0) (fun i _ => rfl)
  have X := (Box2.new w 23 false ⟨#[]⟩).keep (below1 _ (.cells (madeCells #[.int .u8 0] (k + 1)) 5))
  have B := (below1 w (.cells #[.bool false, .string ⟨#[]⟩] 23)).alloc (by rw [World.size_alloc]; omega) (.cells (madeCells #[.int .u8 0] (k + 1)) 5)
  rw [World.size_alloc] at hrow
  generalize (w.alloc (.cells #[.bool false, .string ⟨#[]⟩] 23)).alloc (.cells (madeCells #[.int .u8 0] (k + 1)) 5) = W2 at *
  have hsh : (2 : Int) ^ r % 256 = (u.toNat : Int) := by
    have : r = 0 ∨ r = 1 ∨ r = 2 ∨ r = 3 ∨ r = 4 ∨ r = 5 ∨ r = 6 ∨ r = 7 := by omega
    rw [hu]
    rcases this with rfl | rfl | rfl | rfl | rfl | rfl | rfl | rfl <;> rfl
  clear hu
  have hrow2 : (W2.setCell ⟨w.heap.size + 1, 0, none⟩ (.int .u8 (u.toNat : Int))).rowIs (w.heap.size + 1) 5 (k + 1) (prow u) :=
    (hrow.set 0 _).congr fun j _ => by unfold prow; by_cases e : j = 0 <;> simp [e]
  have X2 := X.far (a := ⟨w.heap.size + 1, 0, none⟩) (by dsimp only; omega) (.int .u8 (u.toNat : Int))
  have B2 := B.setCell (p := ⟨w.heap.size + 1, 0, none⟩) (by dsimp only; omega) (.int .u8 (u.toNat : Int))
  have c1 := hrow.cell (i := 0) (by omega)
  have c2 := hrow.frozen 0
  obtain ⟨x1, x2, x3, x4⟩ := id X
  go_upto_region 3 with fail
  clear x1 x2 x3 x4 X B hrow c1 c2
  try rw [hsh]
  generalize W2.setCell ⟨w.heap.size + 1, 0, none⟩ (.int .u8 (u.toNat : Int)) = W3 at *
  have hcv := run_string_of W3 (w.heap.size + 1) 0 (k + 1) (u :: List.replicate k 0) (fun i c hc => prow_cell hrow2 i c hc)
  rw [List.length_cons, List.length_replicate] at hcv
  clear hsh
  obtain ⟨x1, x2, x3, x4⟩ := id X2
  go_wp2_with fail
  exact bodyPost_ret (v := .agg #[.bool false, .string ⟨(u :: List.replicate k 0).toArray⟩]) (by simp [results, Tryz.results81, go_sem, x1, x2, x3, x4]) rfl ⟨by rw [HM.out.1, HM.out.2], (B2.setCell (by dsimp only; omega) _).setCell (by dsimp only; omega) _⟩
/-- The reference implementation on naturals. -/
theorem mgN_list (N : Nat) : mg (N : Int) = ⟨(bytesOf N).toArray⟩ := (nat_int N).2
theorem radd_n {A B C : Nat} {w : World} (hA : (bytesOf A).length ≤ 10000000) (hB : (bytesOf B).length ≤ 10000000) (e : A + B = C) :
    Calls Tryz.prog 10 #[.agg #[.bool false, .string (mg (A : Int))], .agg #[.bool false, .string (mg (B : Int))]] w fun e w' => e = .returned (.agg #[.bool false, .string (mg (C : Int))]) ∧ Below w.heap.size w w' := by
  have h := radd01_any (sg (A : Int)) (sg (B : Int)) (bytesOf A) (bytesOf B) (A : Int) (B : Int) w (by omega) (by omega) (by rw [(nat_int A).1]; exact zvn false A) (by rw [(nat_int B).1]; exact zvn false B)
  rw [show (A : Int) + (B : Int) = (C : Int) by omega, (nat_int A).1, (nat_int B).1, ← mgN_list, ← mgN_list] at h
  unfold IntOut at h
  rw [(nat_int C).1] at h
  exact h
theorem rmul_n {A B C : Nat} {w : World} (hA : (bytesOf A).length ≤ 10000000) (hB : (bytesOf B).length ≤ 10000000) (e : A * B = C) :
    Calls Tryz.prog 14 #[.agg #[.bool false, .string (mg (A : Int))], .agg #[.bool false, .string (mg (B : Int))]] w fun e w' => e = .returned (.agg #[.bool false, .string (mg (C : Int))]) ∧ Below w.heap.size w w' := by
  have h := rmul01_any (sg (A : Int)) (sg (B : Int)) (bytesOf A) (bytesOf B) (A : Int) (B : Int) w (by omega) (by omega) (by rw [(nat_int A).1]; exact zvn false A) (by rw [(nat_int B).1]; exact zvn false B)
  rw [show (A : Int) * (B : Int) = (C : Int) by rw [← e, Int.natCast_mul], (nat_int A).1, (nat_int B).1, ← mgN_list, ← mgN_list] at h
  unfold IntOut at h
  rw [(nat_int C).1] at h
  exact h
theorem rcmp_n {A B : Nat} {c : Int} {w : World} (hA : (bytesOf A).length ≤ 10000000) (hB : (bytesOf B).length ≤ 10000000) (e : cmpN A B = c) :
    Calls Tryz.prog 123 #[.agg #[.bool false, .string (mg (A : Int))], .agg #[.bool false, .string (mg (B : Int))]] w fun e w' => e = .returned (.int .i64 c) ∧ Below w.heap.size w w' := by
  have h := rcompare_any (sg (A : Int)) (sg (B : Int)) (bytesOf A) (bytesOf B) (A : Int) (B : Int) w (by omega) (by omega) (by rw [(nat_int A).1]; exact zvn false A) (by rw [(nat_int B).1]; exact zvn false B)
  rw [show cmpZ (A : Int) (B : Int) = c by rw [← e]; unfold cmpZ cmpN; split <;> split <;> (try split) <;> (try split) <;> omega, (nat_int A).1, (nat_int B).1, ← mgN_list, ← mgN_list] at h
  exact h
theorem rbits_n {A : Nat} {c : Int} {w : World} (hA : (bytesOf A).length ≤ 10000000) (e : ((nbits A : Nat) : Int) = c) :
    Calls Tryz.prog 75 #[.agg #[.bool false, .string (mg (A : Int))]] w fun e w' => e = .returned (.int .i64 c) ∧ Below w.heap.size w w' := by
  have h := rbits_any (sg (A : Int)) (bytesOf A) (A : Int) w (by omega) (by rw [(nat_int A).1]; exact zvn false A)
  rw [Int.natAbs_natCast, e, (nat_int A).1, ← mgN_list] at h
  exact h
theorem rof_n {A : Nat} {w : World} (hA : A ≤ 9223372036854775807) :
    Calls Tryz.prog 66 #[.int .i64 (A : Int)] w fun e w' => e = .returned (.agg #[.bool false, .string (mg (A : Int))]) ∧ Below w.heap.size w w' := by
  have h := rof01_any (A : Int) w (by omega) (by omega)
  unfold IntOut at h
  rw [(nat_int A).1] at h
  exact h
theorem rpower_n {i A : Nat} {w : World} (hi : i ≤ 1000000) (e : 2 ^ i = A) :
    Calls Tryz.prog 81 #[.int .i64 (i : Int)] w fun e w' => e = .returned (.agg #[.bool false, .string (mg (A : Int))]) ∧ Below w.heap.size w w' := by
  have h := rpower_any i w hi
  rw [e] at h
  unfold IntOut at h
  rw [(nat_int A).1] at h
  exact h
/-- Two naturals that came in, behind what was there. -/
def Am (w W : World) (p : Nat) (s1 s2 : ByteArray) : Prop := Box2 W p false s1 ∧ Box2 W (p + 1) false s2 ∧ p + 1 < W.heap.size ∧ Below w.heap.size w W ∧ w.heap.size ≤ p
theorem Am.keep {w W W1 : World} {p : Nat} {s1 s2 : ByteArray} (h : Am w W p s1 s2) (hb : Below W.heap.size W W1) : Am w W1 p s1 s2 :=
  ⟨h.1.keep hb, h.2.1.keep hb, Nat.lt_of_lt_of_le h.2.2.1 hb.size, below_more h.2.2.2.1 (Nat.le_refl _) hb, h.2.2.2.2⟩
theorem Am.far {w W : World} {p : Nat} {s1 s2 : ByteArray} {a : Addr} (h : Am w W p s1 s2) (ha : p + 1 < a.block) (u : Value) : Am w (W.setCell a u) p s1 s2 :=
  ⟨h.1.far (by omega) u, h.2.1.far (by omega) u, by rw [World.size_setCell]; exact h.2.2.1, h.2.2.2.1.setCell (by have := h.2.2.2.2; omega) u, h.2.2.2.2⟩
theorem Am.start (w : World) (t : TypeId) (s1 s2 : ByteArray) : Am w ((w.alloc (.cells #[.bool false, .string s1] t)).alloc (.cells #[.bool false, .string s2] t)) w.heap.size s1 s2 := by
  refine ⟨(Box2.new w t false s1).keep (below1 _ _), ?_, ?_, below2 w _ _, Nat.le_refl _⟩
  · rw [← World.size_alloc w (.cells #[.bool false, .string s1] t)]; exact Box2.new _ _ _ _
  · simp only [World.size_alloc]; omega
theorem bytes_one : (bytesOf 1).length ≤ 1 := bytesOf_len (n := 1) (k := 1) (by omega)
theorem cmpN_gt {A B : Nat} (h : B < A) : cmpN A B = 1 := by unfold cmpN; rw [if_neg (by omega), if_pos h]
theorem cmpN_le0 {A B : Nat} (h : A ≤ B) : cmpN A B = -1 ∨ cmpN A B = 0 := by unfold cmpN; split; exact Or.inl rfl; rw [if_neg (by omega)]; exact Or.inr rfl
theorem pow_more {X i m N : Nat} (hX : 1 ≤ X) (hi : i ≤ m) (h : N < X ^ i) : ¬ X ^ m ≤ N := by
  have := Nat.pow_le_pow_right hX hi
  omega
set_option maxRecDepth 100000 in
set_option maxHeartbeats 3200000 in
theorem ratmost_any (X N m : Nat) (w : World) (hX : 1 ≤ X) (lX : (bytesOf X).length ≤ 1000000) (lN : (bytesOf N).length ≤ 1000000) (hm : m ≤ 4096) (hm1 : 1 ≤ m) (t : Bool) (ht : decide (X ^ m ≤ N) = t) :
    Calls Tryz.prog 82 #[.agg #[.bool false, .string (mg (X : Int))], .int .i64 (m : Int), .agg #[.bool false, .string (mg (N : Int))]] w fun e w' => e = .returned (.bool t) ∧ Below w.heap.size w w' := by
  have HX := Lib.hid hX
  have LX := Lib.hid lX
  have LN := Lib.hid lN
  have HT := Lib.hid ht
  have L1 := Lib.hid bytes_one
  clear hX lX lN ht
  obtain ⟨W0, hW0⟩ : ∃ W0, W0 = (w.alloc (.cells #[.bool false, .string (mg (X : Int))] 23)).alloc (.cells #[.bool false, .string (mg (N : Int))] 23) := ⟨_, rfl⟩
  have K : Am w W0 w.heap.size (mg (X : Int)) (mg (N : Int)) := by rw [hW0]; exact Am.start w _ _ _
  have HW := Lib.hid hW0
  clear hW0
  go_enter Tryz.func82, Tryz.ntmps82
  go_upto_region 1 with fail
  rw [← HW.out]
  go_wp2_with fail
  refine (rof_n (A := 1) (by omega)).mono ?_
  rintro e W1 ⟨rfl, b1⟩
  have K := K.keep b1
  have hbl := below1 W1 (.cells #[.bool false, .string (mg ((1 : Nat) : Int))] 23)
  have U : Nb (W1.alloc (.cells #[.bool false, .string (mg ((1 : Nat) : Int))] 23)) w.heap.size W1.heap.size false (mg ((1 : Nat) : Int)) := ⟨Box2.new _ _ _ _, K.2.2.1⟩
  have K := K.keep hbl
  clear b1 hbl HW
  go_upto_region 2 with fail
  generalize W1.alloc (.cells #[.bool false, .string (mg ((1 : Nat) : Int))] 23) = W2 at *
  generalize W1.heap.size = u at *
  go_wp2_with fail
  go_loopg [8] m (fun q s8 wx => ∃ i Y : Nat, i + q = m ∧ s8 = .int .i64 (i : Int) ∧ Hid (X ^ i = Y) ∧ Hid (i = 0 ∨ Y ≤ N) ∧ Hid ((bytesOf Y).length ≤ 1000001) ∧ Am w wx w.heap.size (mg (X : Int)) (mg (N : Int)) ∧ Nb wx w.heap.size u false (mg (Y : Int)))
  case atStart => exact ⟨0, 1, by omega, rfl, rfl, Or.inl rfl, by show _ ≤ _; have := L1.out; omega, K, U⟩
  case round =>
    clear K U
    obtain ⟨i, Y, hi, rfl, HY, HN, LY, K, U⟩ := hrel
    obtain ⟨⟨x1, x2, x3, x4⟩, ⟨y1, y2, y3, y4⟩, -⟩ := id K
    obtain ⟨⟨u1, u2, u3, u4⟩, hpu⟩ := id U
    rcases gk with _ | q
    · obtain rfl : i = m := by omega
      have hti : t = true := by
        rw [← HT.out]
        have h1 := HY.out
        have h2 := HN.out
        rw [h1]
        exact decide_eq_true (by omega)
      subst hti
      have hlt : ¬ (i : Int) < (i : Int) := by omega
      go_wp2_with fail
      go_ret
      exact ⟨rfl, K.2.2.2.1⟩
    · have hlt : decide ((i : Int) < (m : Int)) = true := decide_eq_true (by omega)
      obtain ⟨Y2, HY2⟩ : ∃ Y2, Hid (Y * X = Y2) := ⟨_, Lib.hid rfl⟩
      have HP := Lib.hid (show X ^ (i + 1) = Y2 by rw [Nat.pow_succ, HY.out, HY2.out])
      have wi : IntKind.i64.wrap ((i : Int) + 1) = ((i + 1 : Nat) : Int) := IntWalk.i64_in _ (by omega)
      have LY2 := Lib.hid (show (bytesOf Y2).length ≤ 3000000 by
        have a1 := vB_lt (bytesOf Y)
        have a2 := vB_lt (bytesOf X)
        rw [vB_bytesOf] at a1 a2
        have a3 : Y * X < 256 ^ ((bytesOf Y).length + (bytesOf X).length) := by
          rw [Nat.pow_add]
          exact Nat.mul_lt_mul'' a1 a2
        rw [HY2.out] at a3
        have a4 := bytesOf_len a3
        have := LY.out
        have := LX.out
        omega)
      have hiq : i + 1 + q = m := by omega
      clear HY hi
      go_wp2_with fail
      refine (rmul_n (by have := LY.out; omega) (by have := LX.out; omega) HY2.out).mono ?_
      rintro e W3 ⟨rfl, b3⟩
      have K := K.keep b3
      have U := U.keep b3
      have K3 : Am w ((W3.setCell ⟨u, 0, none⟩ (.bool false)).setCell ⟨u, 1, none⟩ (.string (mg (Y2 : Int)))) w.heap.size (mg (X : Int)) (mg (N : Int)) := (K.far hpu _).far hpu _
      have U3 : Nb ((W3.setCell ⟨u, 0, none⟩ (.bool false)).setCell ⟨u, 1, none⟩ (.string (mg (Y2 : Int)))) w.heap.size u false (mg (Y2 : Int)) := U.set
      obtain ⟨⟨x1, x2, x3, x4⟩, ⟨y1, y2, y3, y4⟩, -⟩ := id K
      obtain ⟨⟨u1, u2, u3, u4⟩, -⟩ := id U
      clear b3
      go_upto_region 6 with fail
      generalize (W3.setCell ⟨u, 0, none⟩ (.bool false)).setCell ⟨u, 1, none⟩ (.string (mg (Y2 : Int))) = W4 at *
      clear K U x1 x2 x3 x4 y1 y2 y3 y4 u1 u2 u3 u4
      obtain ⟨⟨x1, x2, x3, x4⟩, ⟨y1, y2, y3, y4⟩, -⟩ := id K3
      obtain ⟨⟨u1, u2, u3, u4⟩, -⟩ := id U3
      have hcc : (N < Y2 ∧ cmpN Y2 N = 1) ∨ (Y2 ≤ N ∧ (cmpN Y2 N = -1 ∨ cmpN Y2 N = 0)) := by
        rcases Nat.lt_or_ge N Y2 with h | h
        · exact Or.inl ⟨h, cmpN_gt h⟩
        · exact Or.inr ⟨h, cmpN_le0 h⟩
      rcases hcc with ⟨h1, h2⟩ | ⟨h1, h2⟩
      · have hti : t = false := by
          rw [← HT.out]
          exact decide_eq_false (pow_more (i := i + 1) HX.out (by omega) (by rw [HP.out]; exact h1))
        subst hti
        have H2 := Lib.hid h2
        clear h1 h2
        go_wp2_with fail
        refine (rcmp_n (by have := LY2.out; omega) (by have := LN.out; omega) H2.out).mono ?_
        rintro e W5 ⟨rfl, b5⟩
        go_wp2_with fail
        go_ret
        exact ⟨rfl, (K3.keep b5).2.2.2.1⟩
      · have H1 := Lib.hid h1
        have LY3 := Lib.hid (show (bytesOf Y2).length ≤ 1000001 by
          have a1 := bytesOf_mono h1
          have := LN.out
          omega)
        rcases h2 with h2 | h2
        all_goals
          have H2 := Lib.hid h2
          clear h1 h2
          go_wp2_with fail
          refine (rcmp_n (by have := LY2.out; omega) (by have := LN.out; omega) H2.out).mono ?_
          rintro e W5 ⟨rfl, b5⟩
          go_wp2_with fail
          go_roundg q
          case measure => omega
          case rel => exact ⟨i + 1, Y2, hiq, rfl, HP, Or.inr H1.out, LY3, K3.keep b5, U3.keep b5⟩
end Go.Proofs.YtfcdekkoeeaolaaGreatDoor
