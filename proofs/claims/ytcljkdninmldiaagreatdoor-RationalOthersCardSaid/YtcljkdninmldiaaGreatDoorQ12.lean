/- What the reference implementation's compareMag and Neg return. Condition: at most 10^9 bytes. What integer.Of returns: the integer. No condition: any int. What the reference implementation's Of returns. Condition: int64. -/
import Derived.Test.YtcljkdninmldiaaGreatDoorQ10
import Derived.Test.YtcljkdninmldiaaGreatDoorQ07
import Derived.Test.YtcljkdninmldiaaGreatDoorQ11

namespace Go.Proofs.YtcljkdninmldiaaGreatDoor
open Go.RowKit
set_option linter.unusedSimpArgs false
set_option linter.unusedVariables false

theorem rcmpMag_any (A B : Nat) (w : World) :
    Calls Tryz.prog 99 #[.string ⟨(bytesOf A).toArray⟩, .string ⟨(bytesOf B).toArray⟩] w fun e w' => e = .returned (.int .i64 (cmpN A B)) ∧ w' = w := by
  have h1 := Lib.hid (fun h => (cmpN_len9 (A := A) (B := B) h).1)
  have h2 := Lib.hid (fun h => (cmpN_len9 (A := B) (B := A) h).2)
  have h3 := Lib.hid (fun h : (bytesOf A).length = (bytesOf B).length => bytesLess_eq_len _ _ h)
  have h4 := Lib.hid (fun h : (bytesOf B).length = (bytesOf A).length => bytesLess_eq_len _ _ h)
  have hl : (bytesOf A).length < (bytesOf B).length ∨ (bytesOf B).length < (bytesOf A).length ∨ (bytesOf A).length = (bytesOf B).length := by omega
  have vA := Lib.hid (vB_bytesOf A)
  have vb := Lib.hid (vB_bytesOf B)
  have h7 := Lib.hid (fun h : A = B => congrArg bytesOf h)
  have h8 := Lib.hid (fun (h : bytesOf A = bytesOf B) => (show A = B by rw [← vB_bytesOf A, h, vB_bytesOf]))
  generalize bytesOf A = a at *
  generalize bytesOf B = b at *
  rcases hl with hl | hl | hl
  · have h5 := Lib.hid (h1.out hl)
    have h6 : ((a.length : Int) == (b.length : Int)) = false := by rw [beq_eq_false_iff_ne]; omega
    clear h1 h2 h3 h4 h7 h8
    go_enter Tryz.func99, Tryz.ntmps99
    go_wp2
    go_ret
    exact ⟨by rw [h5.out]; rfl, rfl⟩
  · have h5 := Lib.hid (h2.out hl)
    have h6 : ((a.length : Int) == (b.length : Int)) = false := by rw [beq_eq_false_iff_ne]; omega
    clear h1 h2 h3 h4 h7 h8
    go_enter Tryz.func99, Tryz.ntmps99
    go_wp2
    go_ret
    exact ⟨by rw [h5.out]; rfl, rfl⟩
  · have k1 := h3.out hl
    have k2 := h4.out hl.symm
    rw [vA.out, vb.out] at k1
    rw [vA.out, vb.out] at k2
    clear h1 h2 h3 h4 vA vb
    rcases Nat.lt_trichotomy A B with h | h | h
    · clear h7 h8
      rw [decide_eq_true h] at k1
      have h5 := Lib.hid (show cmpN A B = -1 by unfold cmpN; rw [if_pos h])
      clear h
      go_enter Tryz.func99, Tryz.ntmps99
      go_wp2
      go_ret
      exact ⟨by rw [h5.out]; rfl, rfl⟩
    · have eab : (a == b) = true := by rw [h7.out h]; exact beq_self_eq_true _
      clear h7 h8
      subst h
      rw [decide_eq_false (Nat.lt_irrefl _)] at k1 k2
      have h5 := Lib.hid (show cmpN A A = 0 by unfold cmpN; rw [if_neg (Nat.lt_irrefl _), if_neg (Nat.lt_irrefl _)])
      go_enter Tryz.func99, Tryz.ntmps99
      go_wp2
      go_ret
      exact ⟨by rw [h5.out]; rfl, rfl⟩
    · rw [decide_eq_false (show ¬ A < B by omega)] at k1
      rw [decide_eq_true h] at k2
      have eab : (a == b) = false := by
        rw [beq_eq_false_iff_ne]
        intro e
        have := h8.out e
        omega
      clear h7 h8
      have h5 := Lib.hid (show cmpN A B = 1 by unfold cmpN; rw [if_neg (by omega), if_pos h])
      clear h
      go_enter Tryz.func99, Tryz.ntmps99
      go_wp2
      go_ret
      exact ⟨by rw [h5.out]; rfl, rfl⟩
/-- An integer's box behind a call, and the result's. -/
def Box2 (W : World) (p : Nat) (g : Bool) (s : ByteArray) : Prop :=
  W.cell? ⟨p, 0, none⟩ = some (.bool g) ∧ W.cell? ⟨p, 1, none⟩ = some (.string s) ∧ W.frozen? ⟨p, 0, none⟩ = false ∧ W.frozen? ⟨p, 1, none⟩ = false
theorem Box2.keep {W W1 : World} {p : Nat} {g : Bool} {s : ByteArray} (h : Box2 W p g s) (hb : Below W.heap.size W W1) : Box2 W1 p g s := by
  obtain ⟨h1, h2, h3, h4⟩ := h
  have hp := World.block_lt_of_cell? W ⟨p, 0, none⟩ h1
  exact ⟨cell_keep h1 hb, cell_keep h2 hb, (hb.frozen (p := ⟨p, 0, none⟩) hp).trans h3, (hb.frozen (p := ⟨p, 1, none⟩) hp).trans h4⟩
theorem sg_neg_cases (z : Int) : (sg z = true ∧ sg (-z) = false) ∨ (z = 0) ∨ (sg z = false ∧ sg (-z) = true ∧ ∃ c t, bytesOf z.natAbs = c :: t) := by
  unfold sg
  rcases Int.lt_trichotomy z 0 with h | h | h
  · exact Or.inl ⟨decide_eq_true h, decide_eq_false (by omega)⟩
  · exact Or.inr (Or.inl h)
  · refine Or.inr (Or.inr ⟨decide_eq_false (by omega), decide_eq_true (by omega), ?_⟩)
    cases e : bytesOf z.natAbs with
    | nil => have := bytesOf_nil.1 e; omega
    | cons c t => exact ⟨c, t, rfl⟩
theorem mg_neg (z : Int) : mg (-z) = mg z := by unfold mg; rw [Int.natAbs_neg]
set_option maxRecDepth 100000 in
theorem rneg_int (g : Bool) (l : List UInt8) (z : Int) (w : World) (hl : l.length ≤ 1000000000) (hz : zv g ⟨l.toArray⟩ = z) :
    Calls Tryz.prog 59 #[.agg #[.bool g, .string ⟨l.toArray⟩]] w (IntOut w (-z)) := by
  have Hz := Lib.hid hz
  clear hz
  have B0 := below2 w (.cells #[.bool g, .string ⟨l.toArray⟩] 23) (.cells #[.bool false, .string ⟨#[]⟩] 23)
  have X0 : Box2 ((w.alloc (.cells #[.bool g, .string ⟨l.toArray⟩] 23)).alloc (.cells #[.bool false, .string ⟨#[]⟩] 23)) w.heap.size g ⟨l.toArray⟩ := by
    refine ⟨?_, ?_, ?_, ?_⟩ <;> simp [go_sem]
  have Y0 : Box2 ((w.alloc (.cells #[.bool g, .string ⟨l.toArray⟩] 23)).alloc (.cells #[.bool false, .string ⟨#[]⟩] 23)) (w.heap.size + 1) false ⟨#[]⟩ := by
    refine ⟨?_, ?_, ?_, ?_⟩ <;> simp [go_sem]
  go_enter Tryz.func59, Tryz.ntmps59
  go_wp2_with fail
  refine (rcanonical_any g l _ hl).mono ?_
  rw [Hz.out]
  rintro e W1 ⟨rfl, b1⟩
  obtain ⟨x1, x2, x3, x4⟩ := X0.keep b1
  obtain ⟨y1, y2, y3, y4⟩ := Y0.keep b1
  have B1 := below_more B0 (Nat.le_refl _) b1
  clear X0 Y0 B0 b1
  have Bs : ∀ (a b c d : Value), Below w.heap.size w ((((W1.setCell ⟨w.heap.size, 0, none⟩ a).setCell ⟨w.heap.size, 1, none⟩ b).setCell ⟨w.heap.size + 1, 0, none⟩ c).setCell ⟨w.heap.size + 1, 1, none⟩ d) := fun a b c d =>
    (((B1.setCell (by dsimp only; omega) _).setCell (by dsimp only; omega) _).setCell (by dsimp only; omega) _).setCell (by dsimp only; omega) _
  have HB := Lib.hid Bs
  clear Bs
  have hm : mg z = ⟨(bytesOf z.natAbs).toArray⟩ := rfl
  have Hn := Lib.hid (mg_neg z)
  rcases sg_neg_cases z with ⟨h1, h2⟩ | h0 | ⟨h1, h2, c, t, h3⟩
  · have H2 := Lib.hid h2
    rw [h1]
    generalize mg z = M at *
    clear hm h1 h2
    go_wp2
    exact bodyPost_ret (v := .agg #[.bool false, .string M]) (by simp [results, Tryz.results59, go_sem, x1, x2, x3, x4, y1, y2, y3, y4]) rfl ⟨by rw [Hn.out, H2.out], HB.out _ _ _ _⟩
  · subst h0
    clear hm
    have h1 : sg 0 = false := by decide
    have h2 : mg 0 = ⟨#[]⟩ := by unfold mg; rw [show (0 : Int).natAbs = 0 by rfl, bytesOf_zero]
    rw [h1, h2]
    have H2 := Lib.hid h2
    clear h1 h2
    go_wp2
    exact bodyPost_ret (v := .agg #[.bool false, .string ⟨#[]⟩]) (by simp [results, Tryz.results59, go_sem, x1, x2, x3, x4, y1, y2, y3, y4]) rfl ⟨by rw [show -(0 : Int) = 0 from rfl, H2.out]; rfl, HB.out _ _ _ _⟩
  · rw [h3] at hm
    have H2 := Lib.hid h2
    have Hm := Lib.hid hm
    rw [h1, hm]
    clear hm h1 h2 h3
    go_wp2
    exact bodyPost_ret (v := .agg #[.bool true, .string ⟨(c :: t).toArray⟩]) (by simp [results, Tryz.results59, go_sem, x1, x2, x3, x4, y1, y2, y3, y4]) rfl ⟨by rw [Hn.out, H2.out, Hm.out], HB.out _ _ _ _⟩
end Go.Proofs.YtcljkdninmldiaaGreatDoor

namespace Go.Proofs.YtcljkdninmldiaaGreatDoor
open Go.RowKit

def two (m : Nat) : Nat → Nat := fun i => if i = 0 then m % 4294967296 else if i = 1 then m / 4294967296 else 0
theorem two_val (m : Nat) : val (two m) 2 = m := by simp [val, two]; omega
theorem two_dig (m : Nat) (h : m < 18446744073709551616) : Dig (two m) 2 := fun i hi => by
  rcases (show i = 0 ∨ i = 1 by omega) with rfl | rfl <;> simp [two] <;> omega

theorem two_rd (w : World) (o : Obj) (t : TypeId) (d0 d1 : Int) (m : Nat) (h0 : d0 = ((m % 4294967296 : Nat) : Int)) (h1 : d1 = ((m / 4294967296 : Nat) : Int)) :
    Rd ((w.alloc o).alloc (.cells #[.int .u32 d0, .int .u32 d1] t)) (some ⟨w.heap.size + 1, 0, none⟩) 2 (two m) := by
  refine ⟨w.heap.size + 1, 0, fun _ => rfl, fun i hi => ?_⟩
  subst h0 h1
  rcases (show i = 0 ∨ i = 1 by omega) with rfl | rfl <;> simp [go_sem, two]
theorem u64_negwrap (z : Int) (h0 : -9223372036854775808 ≤ z) (hz : z < 0) : IntKind.u64.wrap (-IntKind.u64.wrap z) = ((z.natAbs : Nat) : Int) := by
  rw [IntKind.wrap_u64, IntKind.wrap_u64]
  omega

set_option maxRecDepth 100000 in
set_option maxHeartbeats 800000 in
theorem iof_any (z : Int) (w : World) (h0 : -9223372036854775808 ≤ z) (h1 : z ≤ 9223372036854775807) :
    Calls Tryz.prog 17 #[.int .i64 z] w (IntOut w z) := by
  have hm : z.natAbs < 18446744073709551616 := by omega
  have Hm : Hid (z.natAbs < 18446744073709551616) := hm
  have hr := (ResCell.new w 23)
  have hb := below1 w (.cells #[.bool false, .string ⟨#[]⟩] 23)
  have dg2 := two_dig z.natAbs hm
  clear hm
  by_cases hz : z < 0
  · have hw := u64_negwrap z h0 hz
    have Hw : Hid (IntKind.u64.wrap (-IntKind.u64.wrap z) = ((z.natAbs : Nat) : Int)) := hw
    have e1 : IntKind.u64.wrap (-IntKind.u64.wrap z) % 4294967296 = ((z.natAbs % 4294967296 : Nat) : Int) := by rw [hw, Int.natCast_emod]; rfl
    have e2 : IntKind.u64.wrap (-IntKind.u64.wrap z) / 4294967296 % 4294967296 = ((z.natAbs / 4294967296 : Nat) : Int) := by
      rw [hw]; have := Hm.out; omega
    have hrd := two_rd w (.cells #[.bool false, .string ⟨#[]⟩] 23) 63 _ _ z.natAbs e1 e2
    have hS : Hid (z = if true = true then -(z.natAbs : Int) else (z.natAbs : Int)) := by show z = _; rw [if_pos rfl]; omega
    clear hw e1 e2
    go_enter Tryz.func17, Tryz.ntmps17
    go_wp2_with fail
    refine (trim_any _ 2 2 (two z.natAbs) _ (Nat.le_refl _) (by omega) hrd).mono ?_
    rintro e W ⟨rfl, rfl⟩
    obtain ⟨A3, n3, c3, he, hi, hbb⟩ := nat_out hrd (Below.refl _ _) dg2 (by omega) (two_val z.natAbs)
    injection he with he
    injection he with x1 x2 x3
    subst x1 x2 x3
    go_wp2_with fail
    refine (signed_any true _ _ _ z.natAbs _ hi (by have := tln_le (two z.natAbs) 2; omega)).mono ?_
    rintro e W4 ⟨rfl, b4⟩
    rw [ivN_eq true _ z hS.out]
    have hb2 := hb.alloc (by rw [World.size_alloc]; omega) (.cells #[.int .u32 (IntKind.u64.wrap (-IntKind.u64.wrap z) % 4294967296), .int .u32 (IntKind.u64.wrap (-IntKind.u64.wrap z) / 4294967296 % 4294967296)] 63)
    obtain ⟨r1, r2, r3, r4⟩ := (hr.keep (below1 _ _)).keep b4
    go_wp2
    exact bodyPost_ret (v := .agg #[.bool (sg z), .string (mg z)]) (by simp [results, Tryz.results17, go_sem, r1, r2]) rfl ⟨rfl, below_more2 hb2 (Nat.le_refl _) b4 (Nat.le_refl _) (Nat.le_refl _)⟩
  · have e1 : z % 4294967296 = ((z.natAbs % 4294967296 : Nat) : Int) := by omega
    have e2 : z / 4294967296 = ((z.natAbs / 4294967296 : Nat) : Int) := by omega
    have hrd := two_rd w (.cells #[.bool false, .string ⟨#[]⟩] 23) 63 _ _ z.natAbs e1 e2
    have hS : Hid (z = if false = true then -(z.natAbs : Int) else (z.natAbs : Int)) := by show z = _; rw [if_neg (by simp)]; omega
    clear e1 e2
    go_enter Tryz.func17, Tryz.ntmps17
    go_wp2_with fail
    refine (trim_any _ 2 2 (two z.natAbs) _ (Nat.le_refl _) (by omega) hrd).mono ?_
    rintro e W ⟨rfl, rfl⟩
    obtain ⟨A3, n3, c3, he, hi, hbb⟩ := nat_out hrd (Below.refl _ _) dg2 (by omega) (two_val z.natAbs)
    injection he with he
    injection he with x1 x2 x3
    subst x1 x2 x3
    go_wp2_with fail
    refine (signed_any false _ _ _ z.natAbs _ hi (by have := tln_le (two z.natAbs) 2; omega)).mono ?_
    rintro e W4 ⟨rfl, b4⟩
    rw [ivN_eq false _ z hS.out]
    have hb2 := hb.alloc (by rw [World.size_alloc]; omega) (.cells #[.int .u32 (z % 4294967296), .int .u32 (z / 4294967296)] 63)
    obtain ⟨r1, r2, r3, r4⟩ := (hr.keep (below1 _ _)).keep b4
    go_wp2
    exact bodyPost_ret (v := .agg #[.bool (sg z), .string (mg z)]) (by simp [results, Tryz.results17, go_sem, r1, r2]) rfl ⟨rfl, below_more2 hb2 (Nat.le_refl _) b4 (Nat.le_refl _) (Nat.le_refl _)⟩
end Go.Proofs.YtcljkdninmldiaaGreatDoor

namespace Go.Proofs.YtcljkdninmldiaaGreatDoor
open Go.RowKit
set_option linter.unusedSimpArgs false
set_option linter.unusedVariables false

theorem mg_least : mg (-9223372036854775808) = ⟨#[128, 0, 0, 0, 0, 0, 0, 0]⟩ := by
  have h := bytesOf_vB [128, 0, 0, 0, 0, 0, 0, 0] (by decide)
  have h2 : vB [128, 0, 0, 0, 0, 0, 0, 0] = 9223372036854775808 := by decide
  rw [h2] at h
  unfold mg
  rw [show (-9223372036854775808 : Int).natAbs = 9223372036854775808 by rfl, h]
set_option maxRecDepth 100000 in
set_option maxHeartbeats 1600000 in
theorem rof01_any (z : Int) (w : World) (h0 : -9223372036854775808 ≤ z) (h1 : z ≤ 9223372036854775807) :
    Calls Tryz.prog 50 #[.int .i64 z] w (IntOut w z) := by
  have B0 := below1 w (.cells #[.bool false, .string ⟨#[]⟩] 23)
  have Y0 : Box2 (w.alloc (.cells #[.bool false, .string ⟨#[]⟩] 23)) w.heap.size false ⟨#[]⟩ := by
    refine ⟨?_, ?_, ?_, ?_⟩ <;> simp [go_sem]
  by_cases hz : 0 ≤ z
  · obtain ⟨N, rfl⟩ := Int.eq_ofNat_of_zero_le hz
    have H1 := Lib.hid (show sg (N : Int) = false from decide_eq_false (by omega))
    have H2 := Lib.hid (show mg (N : Int) = ⟨(bytesOf N).toArray⟩ by unfold mg; rw [Int.natAbs_natCast])
    go_enter Tryz.func50, Tryz.ntmps50
    go_wp2_with fail
    refine (rmag_any N _ (by omega)).mono ?_
    rintro e W1 ⟨rfl, b1⟩
    obtain ⟨y1, y2, y3, y4⟩ := Y0.keep b1
    have B1 := below_more B0 (Nat.le_refl _) b1
    generalize bytesOf N = T at *
    go_wp2
    exact bodyPost_ret (v := .agg #[.bool false, .string ⟨T.toArray⟩]) (by simp [results, Tryz.results50, go_sem, y1, y2, y3, y4]) rfl ⟨by rw [H1.out, H2.out], (B1.setCell (Nat.le_refl _) _).setCell (Nat.le_refl _) _⟩
  · have hs := Lib.hid (show sg z = true from decide_eq_true (by omega))
    obtain ⟨y1, y2, y3, y4⟩ := id Y0
    by_cases hl : z = -9223372036854775808
    · subst hl
      have H2 := Lib.hid mg_least
      have hw : IntKind.i64.wrap 9223372036854775808 = -9223372036854775808 := by decide
      go_enter Tryz.func50, Tryz.ntmps50
      go_wp2
      exact bodyPost_ret (v := .agg #[.bool true, .string ⟨#[128, 0, 0, 0, 0, 0, 0, 0]⟩]) (by simp [results, Tryz.results50, go_sem, y1, y2, y3, y4]) rfl ⟨by rw [hs.out, H2.out], (by first | exact below1 w _ | exact (B0.setCell (Nat.le_refl _) _).setCell (Nat.le_refl _) _)⟩
    · obtain ⟨N, hN⟩ : ∃ N : Nat, -z = (N : Int) := Int.eq_ofNat_of_zero_le (by omega)
      have H2 := Lib.hid (show mg z = ⟨(bytesOf N).toArray⟩ by unfold mg; rw [show z.natAbs = N by omega])
      have hw : IntKind.i64.wrap (-z) = (N : Int) := by rw [hN]; exact IntWalk.i64_in _ (by omega)
      have he : (z == (N : Int)) = false := by rw [beq_eq_false_iff_ne]; omega
      have hd : decide (0 ≤ z) = false := decide_eq_false hz
      have hNn : N < 9223372036854775808 := by omega
      clear hN
      go_enter Tryz.func50, Tryz.ntmps50
      go_wp2_with fail
      refine (rmag_any N _ hNn).mono ?_
      rintro e W1 ⟨rfl, b1⟩
      obtain ⟨y1, y2, y3, y4⟩ := Y0.keep b1
      have B1 := below_more B0 (Nat.le_refl _) b1
      generalize bytesOf N = T at *
      go_wp2
      exact bodyPost_ret (v := .agg #[.bool true, .string ⟨T.toArray⟩]) (by simp [results, Tryz.results50, go_sem, y1, y2, y3, y4]) rfl ⟨by rw [hs.out, H2.out], (B1.setCell (Nat.le_refl _) _).setCell (Nat.le_refl _) _⟩
end Go.Proofs.YtcljkdninmldiaaGreatDoor
