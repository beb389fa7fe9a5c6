/- What the reference implementation's compareMag and Neg return. Condition: at most 10^9 bytes. What the reference implementation's Of returns. Condition: int64. What the reference implementation's Compare returns. Condition: at most 10^9 bytes. -/
import Derived.Test.YtigdjlhihhakmaaGreatDoorQ27
import Derived.Test.YtigdjlhihhakmaaGreatDoorQ28
import Derived.Test.YtigdjlhihhakmaaGreatDoorQ12
import Derived.Deep.DeepCutAuto
import Derived.Deep.RegionWith

namespace Go.Proofs.YtigdjlhihhakmaaGreatDoor
open Go.RowKit
set_option linter.unusedSimpArgs false
set_option linter.unusedVariables false

theorem rcmpMag_any (A B : Nat) (w : World) :
    Calls Tryz.prog 61 #[.string ⟨(bytesOf A).toArray⟩, .string ⟨(bytesOf B).toArray⟩] w fun e w' => e = .returned (.int .i64 (cmpN A B)) ∧ w' = w := by
  have h1 := Lib.hid (fun h => (cmpN_len9 (A := A) (B := B) h).1)
  have h2 := Lib.hid (fun h => (cmpN_len9 (A := B) (B := A) h).2)
  have h3 := Lib.hid (fun h : (bytesOf A).length = (bytesOf B).length => bytesLess_eq_len _ _ h)
  have h4 := Lib.hid (fun h : (bytesOf B).length = (bytesOf A).length => bytesLess_eq_len _ _ h)
  have hl : (bytesOf A).length < (bytesOf B).length ∨ (bytesOf B).length < (bytesOf A).length ∨ (bytesOf A).length = (bytesOf B).length := by omega
  have vA := Lib.hid (vB_bytesOf A)
  have vb := Lib.hid (vB_bytesOf B)
  have h7 := Lib.hid (fun h : A = B => congrArg bytesOf h)
  have h8 := Lib.hid (fun (h : bytesOf A = bytesOf B) => (show A = B by rw [← vB_bytesOf A, h, vB_bytesOf]))
  generalize bytesOf A = a at *
  generalize bytesOf B = b at *
  rcases hl with hl | hl | hl
  · have h5 := Lib.hid (h1.out hl)
    have h6 : ((a.length : Int) == (b.length : Int)) = false := by rw [beq_eq_false_iff_ne]; omega
    clear h1 h2 h3 h4 h7 h8
    go_enter Tryz.func61, Tryz.ntmps61
    go_wp2
    go_ret
    exact ⟨by rw [h5.out]; rfl, rfl⟩
  · have h5 := Lib.hid (h2.out hl)
    have h6 : ((a.length : Int) == (b.length : Int)) = false := by rw [beq_eq_false_iff_ne]; omega
    clear h1 h2 h3 h4 h7 h8
    go_enter Tryz.func61, Tryz.ntmps61
    go_wp2
    go_ret
    exact ⟨by rw [h5.out]; rfl, rfl⟩
  · have k1 := h3.out hl
    have k2 := h4.out hl.symm
    rw [vA.out, vb.out] at k1
    rw [vA.out, vb.out] at k2
    clear h1 h2 h3 h4 vA vb
    rcases Nat.lt_trichotomy A B with h | h | h
    · clear h7 h8
      rw [decide_eq_true h] at k1
      have h5 := Lib.hid (show cmpN A B = -1 by unfold cmpN; rw [if_pos h])
      clear h
      go_enter Tryz.func61, Tryz.ntmps61
      go_wp2
      go_ret
      exact ⟨by rw [h5.out]; rfl, rfl⟩
    · have eab : (a == b) = true := by rw [h7.out h]; exact beq_self_eq_true _
      clear h7 h8
      subst h
      rw [decide_eq_false (Nat.lt_irrefl _)] at k1 k2
      have h5 := Lib.hid (show cmpN A A = 0 by unfold cmpN; rw [if_neg (Nat.lt_irrefl _), if_neg (Nat.lt_irrefl _)])
      go_enter Tryz.func61, Tryz.ntmps61
      go_wp2
      go_ret
      exact ⟨by rw [h5.out]; rfl, rfl⟩
    · rw [decide_eq_false (show ¬ A < B by omega)] at k1
      rw [decide_eq_true h] at k2
      have eab : (a == b) = false := by
        rw [beq_eq_false_iff_ne]
        intro e
        have := h8.out e
        omega
      clear h7 h8
      have h5 := Lib.hid (show cmpN A B = 1 by unfold cmpN; rw [if_neg (by omega), if_pos h])
      clear h
      go_enter Tryz.func61, Tryz.ntmps61
      go_wp2
      go_ret
      exact ⟨by rw [h5.out]; rfl, rfl⟩
/-- An integer's box behind a call, and the result's. -/
def Box2 (W : World) (p : Nat) (g : Bool) (s : ByteArray) : Prop :=
  W.cell? ⟨p, 0, none⟩ = some (.bool g) ∧ W.cell? ⟨p, 1, none⟩ = some (.string s) ∧ W.frozen? ⟨p, 0, none⟩ = false ∧ W.frozen? ⟨p, 1, none⟩ = false
theorem Box2.keep {W W1 : World} {p : Nat} {g : Bool} {s : ByteArray} (h : Box2 W p g s) (hb : Below W.heap.size W W1) : Box2 W1 p g s := by
  obtain ⟨h1, h2, h3, h4⟩ := h
  have hp := World.block_lt_of_cell? W ⟨p, 0, none⟩ h1
  exact ⟨cell_keep h1 hb, cell_keep h2 hb, (hb.frozen (p := ⟨p, 0, none⟩) hp).trans h3, (hb.frozen (p := ⟨p, 1, none⟩) hp).trans h4⟩
theorem sg_neg_cases (z : Int) : (sg z = true ∧ sg (-z) = false) ∨ (z = 0) ∨ (sg z = false ∧ sg (-z) = true ∧ ∃ c t, bytesOf z.natAbs = c :: t) := by
  unfold sg
  rcases Int.lt_trichotomy z 0 with h | h | h
  · exact Or.inl ⟨decide_eq_true h, decide_eq_false (by omega)⟩
  · exact Or.inr (Or.inl h)
  · refine Or.inr (Or.inr ⟨decide_eq_false (by omega), decide_eq_true (by omega), ?_⟩)
    cases e : bytesOf z.natAbs with
    | nil => have := bytesOf_nil.1 e; omega
    | cons c t => exact ⟨c, t, rfl⟩
theorem mg_neg (z : Int) : mg (-z) = mg z := by unfold mg; rw [Int.natAbs_neg]
set_option maxRecDepth 100000 in
theorem rneg_int (g : Bool) (l : List UInt8) (z : Int) (w : World) (hl : l.length ≤ 1000000000) (hz : zv g ⟨l.toArray⟩ = z) :
    Calls Tryz.prog 74 #[.agg #[.bool g, .string ⟨l.toArray⟩]] w (IntOut w (-z)) := by
  have Hz := Lib.hid hz
  clear hz
  have B0 := below2 w (.cells #[.bool g, .string ⟨l.toArray⟩] 23) (.cells #[.bool false, .string ⟨#[]⟩] 23)
  have X0 : Box2 ((w.alloc (.cells #[.bool g, .string ⟨l.toArray⟩] 23)).alloc (.cells #[.bool false, .string ⟨#[]⟩] 23)) w.heap.size g ⟨l.toArray⟩ := by
    refine ⟨?_, ?_, ?_, ?_⟩ <;> simp [go_sem]
  have Y0 : Box2 ((w.alloc (.cells #[.bool g, .string ⟨l.toArray⟩] 23)).alloc (.cells #[.bool false, .string ⟨#[]⟩] 23)) (w.heap.size + 1) false ⟨#[]⟩ := by
    refine ⟨?_, ?_, ?_, ?_⟩ <;> simp [go_sem]
  go_enter Tryz.func74, Tryz.ntmps74
  go_wp2_with fail
  refine (rcanonical_any g l _ hl).mono ?_
  rw [Hz.out]
  rintro e W1 ⟨rfl, b1⟩
  obtain ⟨x1, x2, x3, x4⟩ := X0.keep b1
  obtain ⟨y1, y2, y3, y4⟩ := Y0.keep b1
  have B1 := below_more B0 (Nat.le_refl _) b1
  clear X0 Y0 B0 b1
  have Bs : ∀ (a b c d : Value), Below w.heap.size w ((((W1.setCell ⟨w.heap.size, 0, none⟩ a).setCell ⟨w.heap.size, 1, none⟩ b).setCell ⟨w.heap.size + 1, 0, none⟩ c).setCell ⟨w.heap.size + 1, 1, none⟩ d) := fun a b c d =>
    (((B1.setCell (by dsimp only; omega) _).setCell (by dsimp only; omega) _).setCell (by dsimp only; omega) _).setCell (by dsimp only; omega) _
  have HB := Lib.hid Bs
  clear Bs
  have hm : mg z = ⟨(bytesOf z.natAbs).toArray⟩ := rfl
  have Hn := Lib.hid (mg_neg z)
  rcases sg_neg_cases z with ⟨h1, h2⟩ | h0 | ⟨h1, h2, c, t, h3⟩
  · have H2 := Lib.hid h2
    rw [h1]
    generalize mg z = M at *
    clear hm h1 h2
    go_wp2
    exact bodyPost_ret (v := .agg #[.bool false, .string M]) (by simp [results, Tryz.results74, go_sem, x1, x2, x3, x4, y1, y2, y3, y4]) rfl ⟨by rw [Hn.out, H2.out], HB.out _ _ _ _⟩
  · subst h0
    clear hm
    have h1 : sg 0 = false := by decide
    have h2 : mg 0 = ⟨#[]⟩ := by unfold mg; rw [show (0 : Int).natAbs = 0 by rfl, bytesOf_zero]
    rw [h1, h2]
    have H2 := Lib.hid h2
    clear h1 h2
    go_wp2
    exact bodyPost_ret (v := .agg #[.bool false, .string ⟨#[]⟩]) (by simp [results, Tryz.results74, go_sem, x1, x2, x3, x4, y1, y2, y3, y4]) rfl ⟨by rw [show -(0 : Int) = 0 from rfl, H2.out]; rfl, HB.out _ _ _ _⟩
  · rw [h3] at hm
    have H2 := Lib.hid h2
    have Hm := Lib.hid hm
    rw [h1, hm]
    clear hm h1 h2 h3
    go_wp2
    exact bodyPost_ret (v := .agg #[.bool true, .string ⟨(c :: t).toArray⟩]) (by simp [results, Tryz.results74, go_sem, x1, x2, x3, x4, y1, y2, y3, y4]) rfl ⟨by rw [Hn.out, H2.out, Hm.out], HB.out _ _ _ _⟩
end Go.Proofs.YtigdjlhihhakmaaGreatDoor

namespace Go.Proofs.YtigdjlhihhakmaaGreatDoor
open Go.RowKit
set_option linter.unusedSimpArgs false
set_option linter.unusedVariables false

theorem mg_least : mg (-9223372036854775808) = ⟨#[128, 0, 0, 0, 0, 0, 0, 0]⟩ := by
  have h := bytesOf_vB [128, 0, 0, 0, 0, 0, 0, 0] (by decide)
  have h2 : vB [128, 0, 0, 0, 0, 0, 0, 0] = 9223372036854775808 := by decide
  rw [h2] at h
  unfold mg
  rw [show (-9223372036854775808 : Int).natAbs = 9223372036854775808 by rfl, h]
set_option maxRecDepth 100000 in
set_option maxHeartbeats 1600000 in
theorem rof01_any (z : Int) (w : World) (h0 : -9223372036854775808 ≤ z) (h1 : z ≤ 9223372036854775807) :
    Calls Tryz.prog 27 #[.int .i64 z] w (IntOut w z) := by
  have B0 := below1 w (.cells #[.bool false, .string ⟨#[]⟩] 23)
  have Y0 : Box2 (w.alloc (.cells #[.bool false, .string ⟨#[]⟩] 23)) w.heap.size false ⟨#[]⟩ := by
    refine ⟨?_, ?_, ?_, ?_⟩ <;> simp [go_sem]
  by_cases hz : 0 ≤ z
  · obtain ⟨N, rfl⟩ := Int.eq_ofNat_of_zero_le hz
    have H1 := Lib.hid (show sg (N : Int) = false from decide_eq_false (by omega))
    have H2 := Lib.hid (show mg (N : Int) = ⟨(bytesOf N).toArray⟩ by unfold mg; rw [Int.natAbs_natCast])
    go_enter Tryz.func27, Tryz.ntmps27
    go_wp2_with fail
    refine (rmag_any N _ (by omega)).mono ?_
    rintro e W1 ⟨rfl, b1⟩
    obtain ⟨y1, y2, y3, y4⟩ := Y0.keep b1
    have B1 := below_more B0 (Nat.le_refl _) b1
    generalize bytesOf N = T at *
    go_wp2
    exact bodyPost_ret (v := .agg #[.bool false, .string ⟨T.toArray⟩]) (by simp [results, Tryz.results27, go_sem, y1, y2, y3, y4]) rfl ⟨by rw [H1.out, H2.out], (B1.setCell (Nat.le_refl _) _).setCell (Nat.le_refl _) _⟩
  · have hs := Lib.hid (show sg z = true from decide_eq_true (by omega))
    obtain ⟨y1, y2, y3, y4⟩ := id Y0
    by_cases hl : z = -9223372036854775808
    · subst hl
      have H2 := Lib.hid mg_least
      have hw : IntKind.i64.wrap 9223372036854775808 = -9223372036854775808 := by decide
      go_enter Tryz.func27, Tryz.ntmps27
      go_wp2
      exact bodyPost_ret (v := .agg #[.bool true, .string ⟨#[128, 0, 0, 0, 0, 0, 0, 0]⟩]) (by simp [results, Tryz.results27, go_sem, y1, y2, y3, y4]) rfl ⟨by rw [hs.out, H2.out], (by first | exact below1 w _ | exact (B0.setCell (Nat.le_refl _) _).setCell (Nat.le_refl _) _)⟩
    · obtain ⟨N, hN⟩ : ∃ N : Nat, -z = (N : Int) := Int.eq_ofNat_of_zero_le (by omega)
      have H2 := Lib.hid (show mg z = ⟨(bytesOf N).toArray⟩ by unfold mg; rw [show z.natAbs = N by omega])
      have hw : IntKind.i64.wrap (-z) = (N : Int) := by rw [hN]; exact IntWalk.i64_in _ (by omega)
      have he : (z == (N : Int)) = false := by rw [beq_eq_false_iff_ne]; omega
      have hd : decide (0 ≤ z) = false := decide_eq_false hz
      have hNn : N < 9223372036854775808 := by omega
      clear hN
      go_enter Tryz.func27, Tryz.ntmps27
      go_wp2_with fail
      refine (rmag_any N _ hNn).mono ?_
      rintro e W1 ⟨rfl, b1⟩
      obtain ⟨y1, y2, y3, y4⟩ := Y0.keep b1
      have B1 := below_more B0 (Nat.le_refl _) b1
      generalize bytesOf N = T at *
      go_wp2
      exact bodyPost_ret (v := .agg #[.bool true, .string ⟨T.toArray⟩]) (by simp [results, Tryz.results27, go_sem, y1, y2, y3, y4]) rfl ⟨by rw [hs.out, H2.out], (B1.setCell (Nat.le_refl _) _).setCell (Nat.le_refl _) _⟩
end Go.Proofs.YtigdjlhihhakmaaGreatDoor

namespace Go.Proofs.YtigdjlhihhakmaaGreatDoor
open Go.RowKit
set_option linter.unusedSimpArgs false
set_option linter.unusedVariables false

theorem rcan_eq {g : Bool} {l : List UInt8} {z : Int} {w : World} (hl : l.length ≤ 1000000000) (hz : zv g ⟨l.toArray⟩ = z) :
    Calls Tryz.prog 58 #[.agg #[.bool g, .string ⟨l.toArray⟩]] w (IntOut w z) := hz ▸ rcanonical_any g l w hl
theorem cmpMag_eq {A B : Nat} {n : Int} {w : World} (e : cmpN A B = n) :
    Calls Tryz.prog 61 #[.string ⟨(bytesOf A).toArray⟩, .string ⟨(bytesOf B).toArray⟩] w fun e w' => e = .returned (.int .i64 n) ∧ w' = w := e ▸ rcmpMag_any A B w
theorem cmpZ_signs (z1 z2 : Int) : (sg z1 = true ∧ sg z2 = false ∧ cmpZ z1 z2 = -1) ∨ (sg z1 = false ∧ sg z2 = true ∧ cmpZ z1 z2 = 1) ∨ (sg z1 = true ∧ sg z2 = true ∧ cmpN z2.natAbs z1.natAbs = cmpZ z1 z2) ∨ (sg z1 = false ∧ sg z2 = false ∧ cmpN z1.natAbs z2.natAbs = cmpZ z1 z2) := by
  unfold sg cmpZ cmpN
  by_cases h1 : z1 < 0 <;> by_cases h2 : z2 < 0
  · right; right; left
    refine ⟨decide_eq_true h1, decide_eq_true h2, ?_⟩
    split <;> split <;> (try split) <;> (try split) <;> omega
  · left
    refine ⟨decide_eq_true h1, decide_eq_false h2, ?_⟩
    rw [if_pos (by omega)]
  · right; left
    refine ⟨decide_eq_false h1, decide_eq_true h2, ?_⟩
    rw [if_neg (by omega), if_pos (by omega)]
  · right; right; right
    refine ⟨decide_eq_false h1, decide_eq_false h2, ?_⟩
    split <;> split <;> (try split) <;> (try split) <;> omega
set_option maxRecDepth 100000 in
set_option maxHeartbeats 3200000 in
theorem rcompare_any (g1 g2 : Bool) (l1 l2 : List UInt8) (z1 z2 : Int) (w : World) (hl1 : l1.length ≤ 1000000000) (hl2 : l2.length ≤ 1000000000) (hz1 : zv g1 ⟨l1.toArray⟩ = z1) (hz2 : zv g2 ⟨l2.toArray⟩ = z2) :
    Calls Tryz.prog 35 #[.agg #[.bool g1, .string ⟨l1.toArray⟩], .agg #[.bool g2, .string ⟨l2.toArray⟩]] w fun e w' => e = .returned (.int .i64 (cmpZ z1 z2)) ∧ Below w.heap.size w w' := by
  have Hz1 := Lib.hid hz1
  have Hz2 := Lib.hid hz2
  clear hz1 hz2
  obtain ⟨W0, hW0⟩ : ∃ W0, W0 = (w.alloc (.cells #[.bool g1, .string ⟨l1.toArray⟩] 23)).alloc (.cells #[.bool g2, .string ⟨l2.toArray⟩] 23) := ⟨_, rfl⟩
  have B0 : Below w.heap.size w W0 := by rw [hW0]; exact below2 w _ _
  have X0 : Box2 W0 w.heap.size g1 ⟨l1.toArray⟩ := by
    rw [hW0]; refine ⟨?_, ?_, ?_, ?_⟩ <;> simp [go_sem]
  have Y0 : Box2 W0 (w.heap.size + 1) g2 ⟨l2.toArray⟩ := by
    rw [hW0]; refine ⟨?_, ?_, ?_, ?_⟩ <;> simp [go_sem]
  have HW := Lib.hid hW0
  clear hW0
  go_enter Tryz.func35, Tryz.ntmps35
  go_upto_region 1 with fail
  rw [← HW.out]
  go_cut [4] (fun s4 wx => s4 = .int .i64 0 ∧ wx.cell? ⟨w.heap.size, 0, none⟩ = some (.bool (sg z1)) ∧ wx.cell? ⟨w.heap.size, 1, none⟩ = some (.string (mg z1)) ∧ wx.cell? ⟨w.heap.size + 1, 0, none⟩ = some (.bool (sg z2)) ∧ wx.cell? ⟨w.heap.size + 1, 1, none⟩ = some (.string (mg z2)) ∧ Below w.heap.size w wx)
  case first =>
    have KB : (Box2 W0.drew w.heap.size g1 ⟨l1.toArray⟩ ∧ Box2 W0.drew (w.heap.size + 1) g2 ⟨l2.toArray⟩) ∧ Below w.heap.size w W0.drew := ⟨⟨X0, Y0⟩, B0.drew⟩
    obtain ⟨x1, x2, x3, x4⟩ := id X0
    obtain ⟨y1, y2, y3, y4⟩ := id Y0
    go_region_with (first
      | (go_at_call 58; (first | (with_reducible refine (rcan_eq hl1 Hz1.out).mono ?_) | (with_reducible refine (rcan_eq hl2 Hz2.out).mono ?_)); rintro e X ⟨rfl, bX⟩; have KB := And.intro (And.intro (KB.1.1.keep bX) (KB.1.2.keep bX)) (below_more KB.2 (Nat.le_refl _) bX); obtain ⟨x1, x2, x3, x4⟩ := id KB.1.1; obtain ⟨y1, y2, y3, y4⟩ := id KB.1.2))
    all_goals go_wp2_with fail
    all_goals go_meet
    all_goals
      have h := two_set (z1 := z1) (z2 := z2) (show w.heap.size ≠ w.heap.size + 1 by omega) x1 x2 y1 y2
      exact ⟨rfl, h.1, h.2.1, h.2.2.1, h.2.2.2, (((KB.2.setCell (Nat.le_refl _) _).setCell (Nat.le_refl _) _).setCell (Nat.le_succ _) _).setCell (Nat.le_succ _) _⟩
  case rest =>
    obtain ⟨rfl, x1, x2, y1, y2, B⟩ := hcut
    clear X0 Y0 B0
    rcases cmpZ_signs z1 z2 with ⟨h1, h2, h3⟩ | ⟨h1, h2, h3⟩ | ⟨h1, h2, h3⟩ | ⟨h1, h2, h3⟩
    · rw [h1] at x1
      rw [h2] at y1
      have H3 := Lib.hid h3
      clear h1 h2 h3
      go_wp2
      go_ret
      exact ⟨by rw [H3.out]; rfl, B⟩
    · rw [h1] at x1
      rw [h2] at y1
      have H3 := Lib.hid h3
      clear h1 h2 h3
      go_wp2
      go_ret
      exact ⟨by rw [H3.out]; rfl, B⟩
    · rw [h1] at x1
      rw [h2] at y1
      have H3 := Lib.hid h3
      clear h1 h2 h3
      go_wp2_with fail
      refine (cmpMag_eq H3.out).mono ?_
      rintro e W2 ⟨rfl, rfl⟩
      go_wp2
      go_ret
      exact ⟨rfl, B⟩
    · rw [h1] at x1
      rw [h2] at y1
      have H3 := Lib.hid h3
      clear h1 h2 h3
      go_wp2_with fail
      refine (cmpMag_eq H3.out).mono ?_
      rintro e W2 ⟨rfl, rfl⟩
      go_wp2
      go_ret
      exact ⟨rfl, B⟩
end Go.Proofs.YtigdjlhihhakmaaGreatDoor
