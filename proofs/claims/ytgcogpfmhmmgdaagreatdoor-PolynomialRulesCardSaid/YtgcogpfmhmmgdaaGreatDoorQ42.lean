/- What the reference implementation's small and value return, and its compareMag. Condition: at most 7 bytes (small, value). What the reference implementation's mag returns: the bytes of a number. Condition: a number from 0 on, below 2^63. What the reference implementation's compareMag and Neg return. Condition: at most 10^9 bytes. -/
import Derived.Test.YtgcogpfmhmmgdaaGreatDoorQ41
import Derived.Laws.BitsAllLaws
import Derived.Test.YtgcogpfmhmmgdaaGreatDoorQ05
import Derived.Deep.OwnRows

namespace Go.Proofs.YtgcogpfmhmmgdaaGreatDoor
open Go.RowKit
set_option linter.unusedSimpArgs false

set_option maxRecDepth 100000 in
theorem rsmall_any (l : List UInt8) (w : World) (hl : l.length ≤ 8) (hv : vB l < 9223372036854775808) :
    Calls Tryz.prog 100 #[.string ⟨l.toArray⟩] w fun e w' => e = .returned (.int .i64 (vB l : Int)) ∧ w' = w := by
  have Hv := Lib.hid hv
  clear hv
  go_enter Tryz.func100, Tryz.ntmps100
  go_wp2_with fail
  go_loopg [3, 4] l.length (fun g s3 s4 wx => wx = w ∧ ∃ k N : Nat, k + g = l.length ∧ s4 = .int .i64 (k : Int) ∧ s3 = .int .i64 (N : Int) ∧ Hid (vB (l.take k) = N))
  case atStart => exact ⟨rfl, 0, 0, by omega, rfl, rfl, rfl⟩
  case round =>
    obtain ⟨rfl, k, N, hk, rfl, rfl, HN⟩ := hrel
    rcases gk with _ | q
    · have Hr : Hid (vB l = N) := by show _ = _; rw [← HN.out, List.take_of_length_le (by omega)]
      go_wp2
      go_ret
      exact ⟨by rw [Hr.out]; rfl, rfl⟩
    · obtain ⟨c, hc⟩ : ∃ c, l[k]? = some c := ⟨_, List.getElem?_eq_getElem (by omega)⟩
      have hix := run_index_bytes l k c hc (k : Int) rfl
      have hc' := c.toNat_lt
      have Hn : Hid (vB (l.take (k + 1)) = N * 256 + c.toNat) := by show _ = _; rw [vB_take_succ hc, HN.out]
      have hb2 : N * 256 + c.toNat < 9223372036854775808 := by
        have h1 := vB_take_le l (k + 1)
        rw [Hn.out] at h1
        exact Nat.lt_of_le_of_lt h1 Hv.out
      have w1 : IntKind.i64.wrap ((N : Int) * 256) = (N : Int) * 256 := IntWalk.i64_in _ (by omega)
      have ho : bits .or .i64 ((N : Int) * 256) ((c.toNat : Nat) : Int) = ((N * 256 + c.toNat : Nat) : Int) := i64_or_256 N c.toNat hb2 (by omega)
      clear hb2 hc
      go_wp2
      go_roundg q
      case measure => omega
      case rel => exact ⟨rfl, k + 1, N * 256 + c.toNat, by omega, rfl, by rw [Int.natCast_add, Int.natCast_mul]; rfl, Hn⟩

theorem value_small {g : Bool} {l : List UInt8} : (if g then -(vB l : Int) else (vB l : Int)) = zv g ⟨l.toArray⟩ := rfl
set_option maxRecDepth 100000 in
theorem rvalue_any (g : Bool) (l : List UInt8) (z : Int) (w : World) (hl : l.length ≤ 8) (h3 : vB l < 9223372036854775808) (hz : zv g ⟨l.toArray⟩ = z) :
    Calls Tryz.prog 66 #[.agg #[.bool g, .string ⟨l.toArray⟩]] w fun e w' => e = .returned (.int .i64 z) ∧ Below w.heap.size w w' := by
  have B0 := below1 w (.cells #[.bool g, .string ⟨l.toArray⟩] 27)
  have Hs := Lib.hid (rsmall_any l · hl h3)
  cases g with
  | false =>
    have Hz := Lib.hid (show (vB l : Int) = z from hz)
    clear hz
    go_enter Tryz.func66, Tryz.ntmps66
    go_wp2_with fail
    refine (Hs.out _).mono ?_
    rintro e W1 ⟨rfl, rfl⟩
    go_wp2
    go_ret
    exact ⟨by rw [← Hz.out]; rfl, B0⟩
  | true =>
    have Hz := Lib.hid (show -(vB l : Int) = z from hz)
    have hw : IntKind.i64.wrap (-(vB l : Int)) = -(vB l : Int) := IntWalk.i64_in _ (by omega)
    clear hz
    go_enter Tryz.func66, Tryz.ntmps66
    go_wp2_with fail
    refine (Hs.out _).mono ?_
    rintro e W1 ⟨rfl, rfl⟩
    go_wp2
    go_ret
    exact ⟨by rw [← Hz.out]; rfl, B0⟩
theorem cmpS_cases {A B : Nat} (h : (bytesOf A).length = (bytesOf B).length) : Op.bytesLess (bytesOf A) (bytesOf B) = decide (A < B) := by
  rw [bytesLess_eq_len _ _ h, vB_bytesOf, vB_bytesOf]
end Go.Proofs.YtgcogpfmhmmgdaaGreatDoor

namespace Go.Proofs.YtgcogpfmhmmgdaaGreatDoor
open Go.RowKit
set_option linter.unusedSimpArgs false
set_option linter.unusedVariables false

/-- The bytes that have been written into eight, from the end. -/
def drow (D : List UInt8) : Nat → Value := fun j => .int .u8 ((if 8 - D.length ≤ j then (D.getD (j - (8 - D.length)) 0).toNat else 0 : Nat) : Int)
theorem drow_step {w : World} {b : Nat} {t : TypeId} {D : List UInt8} {c : UInt8} (h : w.rowIs b t 8 (drow D)) (hk : D.length < 8) {i : Nat} (hi : i = 7 - D.length) :
    (w.setCell ⟨b, i, none⟩ (.int .u8 (c.toNat : Int))).rowIs b t 8 (drow (c :: D)) := by
  subst hi
  refine (h.set (7 - D.length) _).congr fun j hj => ?_
  unfold drow
  rw [List.length_cons]
  by_cases e : j = 7 - D.length
  · subst e
    rw [if_pos rfl, if_pos (by omega), show 7 - D.length - (8 - (D.length + 1)) = 0 by omega]
    rfl
  · rw [if_neg e]
    by_cases hl : 8 - D.length ≤ j
    · rw [if_pos hl, if_pos (by omega), show j - (8 - (D.length + 1)) = j - (8 - D.length) + 1 by omega]
      rfl
    · rw [if_neg hl, if_neg (by omega)]
theorem drow_cell {w : World} {b : Nat} {t : TypeId} {D : List UInt8} (h : w.rowIs b t 8 (drow D)) (hk : D.length ≤ 8) (i : Nat) (u : UInt8) (hu : D[i]? = some u) :
    w.cell? ⟨b, 8 - D.length + i, none⟩ = some (.int .u8 (u.toNat : Int)) := by
  have hi : i < D.length := by
    rcases Nat.lt_or_ge i D.length with h1 | h1
    · exact h1
    · rw [List.getElem?_eq_none h1] at hu; cases hu
  rw [h.cell (by omega)]
  unfold drow
  rw [if_pos (by omega), show 8 - D.length + i - (8 - D.length) = i by omega, List.getD_eq_getElem?_getD, hu]
  rfl
theorem byte_of (m : Nat) : (UInt8.ofNat (m % 256)).toNat = m % 256 := by simp
theorem len8 : Tryz.prog.arrayLen 115 = 8 := by kernel_rfl
theorem elem8 : Tryz.prog.elem 115 = 5 := by kernel_rfl
theorem shr8 (m : Nat) : Op.shift .shr .i64 (m : Int) .u64 8 = pure (.int .i64 ((m / 256 : Nat) : Int)) := by
  have h := shift_shr .i64 .u64 (m : Int) 8 (by omega) (by decide)
  rw [h]
  congr 2
set_option maxRecDepth 100000 in
theorem slice8 (p i : Nat) (h : i < 8) (w : World) : (Instr.sliceAt 115 (.pointer (some ⟨p, 0, none⟩)) (some (.int .i64 (i : Int))) none none).run Tryz.prog w = .ok (.slice (some ⟨p, i, none⟩) (8 - i) (8 - i)) w := by
  have h1 := run_sliceAt_array_l w 115 ⟨p, 0, none⟩ (by rw [len8, elem8]; exact Tryz.underlying115) .i64 (i : Int) (by omega) (by rw [len8]; omega)
  rw [h1, len8, elem8]
  simp [go_sem]
  omega
set_option maxRecDepth 100000 in
set_option maxHeartbeats 1600000 in
theorem rmag_any (n : Nat) (w : World) (hn : n < 9223372036854775808) :
    Calls Tryz.prog 82 #[.int .i64 (n : Int)] w fun e w' => e = .returned (.string ⟨(bytesOf n).toArray⟩) ∧ Below w.heap.size w w' := by
  by_cases h1 : n < 256
  · by_cases h0 : n = 0
    · subst h0
      have H := Lib.hid bytesOf_zero
      go_enter Tryz.func82, Tryz.ntmps82
      go_wp2
      go_ret
      exact ⟨by rw [H.out]; rfl, Below.refl _ _⟩
    · have H := Lib.hid (show bytesOf n = [UInt8.ofNat n] by
        rw [bytesOf_pos h0, show n / 256 = 0 by omega, bytesOf_zero, show n % 256 = n by omega]; rfl)
      have hz : ((n : Int) == 0) = false := by rw [beq_eq_false_iff_ne]; omega
      have hw : IntKind.u8.wrap (n : Int) = (n : Int) := by simp [IntKind.wrap, IntKind.bits, IntKind.signed]; omega
      have hu : (UInt8.ofNat n).toNat = n := by simp; omega
      have hcv := run_string_of (w.alloc (.cells #[.int .u8 (n : Int)] 5)) w.heap.size 0 1 [UInt8.ofNat n] (fun i u hi => by
        rcases i with _ | i
        · simp at hi
          subst hi
          rw [hu]
          simp [go_sem]
        · simp at hi)
      rw [List.length_singleton] at hcv
      go_enter Tryz.func82, Tryz.ntmps82
      go_wp2
      go_ret
      exact ⟨by rw [H.out]; rfl, below1 w _⟩
  · have hlt : decide ((n : Int) < 256) = false := decide_eq_false (by omega)
    go_enter Tryz.func82, Tryz.ntmps82
    go_wp2_with fail
    go_loopg [4, 0] 8 (fun q s4 s0 wx => ∃ (m : Nat) (D : List UInt8), s4 = .int .i64 ((8 - D.length : Nat) : Int) ∧ s0 = .int .i64 (m : Int) ∧ D.length + q = 8 ∧ m < 256 ^ q ∧ m < 9223372036854775808 ∧ Hid (bytesOf n = bytesOf m ++ D) ∧ wx.rowIs w.heap.size 115 8 (drow D) ∧ Below w.heap.size w wx)
    case atStart =>
      refine ⟨n, [], rfl, rfl, rfl, by omega, hn, by show _ = _; simp, ?_, below1 w _⟩
      refine World.rowIs_alloc w #[.int .u8 0, .int .u8 0, .int .u8 0, .int .u8 0, .int .u8 0, .int .u8 0, .int .u8 0, .int .u8 0] 115 (drow []) (fun i hi => ?_)
      have hi' : i = 0 ∨ i = 1 ∨ i = 2 ∨ i = 3 ∨ i = 4 ∨ i = 5 ∨ i = 6 ∨ i = 7 := by simp at hi; omega
      rcases hi' with rfl | rfl | rfl | rfl | rfl | rfl | rfl | rfl <;> rfl
    case round =>
      obtain ⟨m, D, rfl, rfl, hD, hm, hm2, HD, hrow, hb⟩ := hrel
      by_cases h0 : m = 0
      · subst h0
        have hcv := run_string_of wr w.heap.size (8 - D.length) D.length D (fun i u hu => drow_cell hrow (by omega) i u hu)
        have hD0 : D.length ≠ 0 := by
          intro e
          have e2 : D = [] := List.length_eq_zero_iff.1 e
          have e3 := HD.out
          rw [e2, bytesOf_zero] at e3
          have := bytesOf_nil.1 e3
          omega
        have hsl := slice8 w.heap.size (8 - D.length) (by omega) wr
        rw [show 8 - (8 - D.length) = D.length by omega] at hsl
        have HR := Lib.hid (show bytesOf n = D by rw [HD.out, bytesOf_zero]; rfl)
        go_wp2
        go_ret
        exact ⟨by rw [HR.out]; rfl, hb⟩
      · obtain ⟨q, rfl⟩ : ∃ q, gk = q + 1 := ⟨gk - 1, by rcases gk with _ | g; simp at hm; exact absurd hm h0; omega⟩
        have hD7 : D.length + q = 7 := by omega
        have hi : 8 - D.length = q + 1 := by omega
        have H2 := Lib.hid (show bytesOf n = bytesOf (m / 256) ++ (UInt8.ofNat (m % 256) :: D) by rw [HD.out, bytesOf_pos h0]; simp)
        have hw : IntKind.u8.wrap (m : Int) = ((m % 256 : Nat) : Int) := by simp [IntKind.wrap, IntKind.bits, IntKind.signed]
        have hr2 := drow_step (c := UInt8.ofNat (m % 256)) hrow (by omega) (i := q) (by omega)
        rw [byte_of] at hr2
        have H3 := Lib.hid hr2
        have hcell := hrow.cell (i := q) (by omega)
        have hfr := hrow.frozen q
        rw [hi]
        have hmq : m / 256 < 256 ^ q := by
          rw [Nat.pow_succ] at hm
          omega
        have Hmq := Lib.hid hmq
        obtain ⟨m2, Em2⟩ : ∃ x, Hid (m / 256 = x) := ⟨_, Lib.hid rfl⟩
        obtain ⟨r, Er⟩ : ∃ x, Hid (m % 256 = x) := ⟨_, Lib.hid rfl⟩
        have hdiv : (m : Int) / 256 = (m2 : Int) := by rw [← Em2.out]; omega
        have hmod : (m : Int) % 256 = (r : Int) := by rw [← Er.out]; omega
        rw [Em2.out] at Hmq H2
        rw [Er.out] at H2 H3 hw
        have hm3 : m2 < 9223372036854775808 := by rw [← Em2.out]; omega
        clear hr2 hm hmq HD
        go_wp2_with fail
        go_roundg q
        case measure => omega
        case rel => exact ⟨m2, UInt8.ofNat r :: D, by rw [show 8 - (UInt8.ofNat r :: D).length = q by rw [List.length_cons]; omega], rfl, by rw [List.length_cons]; omega, Hmq.out, hm3, H2, H3.out, hb.setCell (Nat.le_refl _) _⟩
end Go.Proofs.YtgcogpfmhmmgdaaGreatDoor

namespace Go.Proofs.YtgcogpfmhmmgdaaGreatDoor
open Go.RowKit
set_option linter.unusedSimpArgs false
set_option linter.unusedVariables false

theorem rcmpMag_any (A B : Nat) (w : World) :
    Calls Tryz.prog 68 #[.string ⟨(bytesOf A).toArray⟩, .string ⟨(bytesOf B).toArray⟩] w fun e w' => e = .returned (.int .i64 (cmpN A B)) ∧ w' = w := by
  have h1 := Lib.hid (fun h => (cmpN_len9 (A := A) (B := B) h).1)
  have h2 := Lib.hid (fun h => (cmpN_len9 (A := B) (B := A) h).2)
  have h3 := Lib.hid (fun h : (bytesOf A).length = (bytesOf B).length => bytesLess_eq_len _ _ h)
  have h4 := Lib.hid (fun h : (bytesOf B).length = (bytesOf A).length => bytesLess_eq_len _ _ h)
  have hl : (bytesOf A).length < (bytesOf B).length ∨ (bytesOf B).length < (bytesOf A).length ∨ (bytesOf A).length = (bytesOf B).length := by omega
  have vA := Lib.hid (vB_bytesOf A)
  have vb := Lib.hid (vB_bytesOf B)
  have h7 := Lib.hid (fun h : A = B => congrArg bytesOf h)
  have h8 := Lib.hid (fun (h : bytesOf A = bytesOf B) => (show A = B by rw [← vB_bytesOf A, h, vB_bytesOf]))
  generalize bytesOf A = a at *
  generalize bytesOf B = b at *
  rcases hl with hl | hl | hl
  · have h5 := Lib.hid (h1.out hl)
    have h6 : ((a.length : Int) == (b.length : Int)) = false := by rw [beq_eq_false_iff_ne]; omega
    clear h1 h2 h3 h4 h7 h8
    go_enter Tryz.func68, Tryz.ntmps68
    go_wp2
    go_ret
    exact ⟨by rw [h5.out]; rfl, rfl⟩
  · have h5 := Lib.hid (h2.out hl)
    have h6 : ((a.length : Int) == (b.length : Int)) = false := by rw [beq_eq_false_iff_ne]; omega
    clear h1 h2 h3 h4 h7 h8
    go_enter Tryz.func68, Tryz.ntmps68
    go_wp2
    go_ret
    exact ⟨by rw [h5.out]; rfl, rfl⟩
  · have k1 := h3.out hl
    have k2 := h4.out hl.symm
    rw [vA.out, vb.out] at k1
    rw [vA.out, vb.out] at k2
    clear h1 h2 h3 h4 vA vb
    rcases Nat.lt_trichotomy A B with h | h | h
    · clear h7 h8
      rw [decide_eq_true h] at k1
      have h5 := Lib.hid (show cmpN A B = -1 by unfold cmpN; rw [if_pos h])
      clear h
      go_enter Tryz.func68, Tryz.ntmps68
      go_wp2
      go_ret
      exact ⟨by rw [h5.out]; rfl, rfl⟩
    · have eab : (a == b) = true := by rw [h7.out h]; exact beq_self_eq_true _
      clear h7 h8
      subst h
      rw [decide_eq_false (Nat.lt_irrefl _)] at k1 k2
      have h5 := Lib.hid (show cmpN A A = 0 by unfold cmpN; rw [if_neg (Nat.lt_irrefl _), if_neg (Nat.lt_irrefl _)])
      go_enter Tryz.func68, Tryz.ntmps68
      go_wp2
      go_ret
      exact ⟨by rw [h5.out]; rfl, rfl⟩
    · rw [decide_eq_false (show ¬ A < B by omega)] at k1
      rw [decide_eq_true h] at k2
      have eab : (a == b) = false := by
        rw [beq_eq_false_iff_ne]
        intro e
        have := h8.out e
        omega
      clear h7 h8
      have h5 := Lib.hid (show cmpN A B = 1 by unfold cmpN; rw [if_neg (by omega), if_pos h])
      clear h
      go_enter Tryz.func68, Tryz.ntmps68
      go_wp2
      go_ret
      exact ⟨by rw [h5.out]; rfl, rfl⟩
/-- An integer's box behind a call, and the result's. -/
def Box2 (W : World) (p : Nat) (g : Bool) (s : ByteArray) : Prop :=
  W.cell? ⟨p, 0, none⟩ = some (.bool g) ∧ W.cell? ⟨p, 1, none⟩ = some (.string s) ∧ W.frozen? ⟨p, 0, none⟩ = false ∧ W.frozen? ⟨p, 1, none⟩ = false
theorem Box2.keep {W W1 : World} {p : Nat} {g : Bool} {s : ByteArray} (h : Box2 W p g s) (hb : Below W.heap.size W W1) : Box2 W1 p g s := by
  obtain ⟨h1, h2, h3, h4⟩ := h
  have hp := World.block_lt_of_cell? W ⟨p, 0, none⟩ h1
  exact ⟨cell_keep h1 hb, cell_keep h2 hb, (hb.frozen (p := ⟨p, 0, none⟩) hp).trans h3, (hb.frozen (p := ⟨p, 1, none⟩) hp).trans h4⟩
theorem sg_neg_cases (z : Int) : (sg z = true ∧ sg (-z) = false) ∨ (z = 0) ∨ (sg z = false ∧ sg (-z) = true ∧ ∃ c t, bytesOf z.natAbs = c :: t) := by
  unfold sg
  rcases Int.lt_trichotomy z 0 with h | h | h
  · exact Or.inl ⟨decide_eq_true h, decide_eq_false (by omega)⟩
  · exact Or.inr (Or.inl h)
  · refine Or.inr (Or.inr ⟨decide_eq_false (by omega), decide_eq_true (by omega), ?_⟩)
    cases e : bytesOf z.natAbs with
    | nil => have := bytesOf_nil.1 e; omega
    | cons c t => exact ⟨c, t, rfl⟩
theorem mg_neg (z : Int) : mg (-z) = mg z := by unfold mg; rw [Int.natAbs_neg]
set_option maxRecDepth 100000 in
theorem rneg_int (g : Bool) (l : List UInt8) (z : Int) (w : World) (hl : l.length ≤ 1000000000) (hz : zv g ⟨l.toArray⟩ = z) :
    Calls Tryz.prog 78 #[.agg #[.bool g, .string ⟨l.toArray⟩]] w (IntOut w (-z)) := by
  have Hz := Lib.hid hz
  clear hz
  have B0 := below2 w (.cells #[.bool g, .string ⟨l.toArray⟩] 27) (.cells #[.bool false, .string ⟨#[]⟩] 27)
  have X0 : Box2 ((w.alloc (.cells #[.bool g, .string ⟨l.toArray⟩] 27)).alloc (.cells #[.bool false, .string ⟨#[]⟩] 27)) w.heap.size g ⟨l.toArray⟩ := by
    refine ⟨?_, ?_, ?_, ?_⟩ <;> simp [go_sem]
  have Y0 : Box2 ((w.alloc (.cells #[.bool g, .string ⟨l.toArray⟩] 27)).alloc (.cells #[.bool false, .string ⟨#[]⟩] 27)) (w.heap.size + 1) false ⟨#[]⟩ := by
    refine ⟨?_, ?_, ?_, ?_⟩ <;> simp [go_sem]
  go_enter Tryz.func78, Tryz.ntmps78
  go_wp2_with fail
  refine (rcanonical_any g l _ hl).mono ?_
  rw [Hz.out]
  rintro e W1 ⟨rfl, b1⟩
  obtain ⟨x1, x2, x3, x4⟩ := X0.keep b1
  obtain ⟨y1, y2, y3, y4⟩ := Y0.keep b1
  have B1 := below_more B0 (Nat.le_refl _) b1
  clear X0 Y0 B0 b1
  have Bs : ∀ (a b c d : Value), Below w.heap.size w ((((W1.setCell ⟨w.heap.size, 0, none⟩ a).setCell ⟨w.heap.size, 1, none⟩ b).setCell ⟨w.heap.size + 1, 0, none⟩ c).setCell ⟨w.heap.size + 1, 1, none⟩ d) := fun a b c d =>
    (((B1.setCell (by dsimp only; omega) _).setCell (by dsimp only; omega) _).setCell (by dsimp only; omega) _).setCell (by dsimp only; omega) _
  have HB := Lib.hid Bs
  clear Bs
  have hm : mg z = ⟨(bytesOf z.natAbs).toArray⟩ := rfl
  have Hn := Lib.hid (mg_neg z)
  rcases sg_neg_cases z with ⟨h1, h2⟩ | h0 | ⟨h1, h2, c, t, h3⟩
  · have H2 := Lib.hid h2
    rw [h1]
    generalize mg z = M at *
    clear hm h1 h2
    go_wp2
    exact bodyPost_ret (v := .agg #[.bool false, .string M]) (by simp [results, Tryz.results78, go_sem, x1, x2, x3, x4, y1, y2, y3, y4]) rfl ⟨by rw [Hn.out, H2.out], HB.out _ _ _ _⟩
  · subst h0
    clear hm
    have h1 : sg 0 = false := by decide
    have h2 : mg 0 = ⟨#[]⟩ := by unfold mg; rw [show (0 : Int).natAbs = 0 by rfl, bytesOf_zero]
    rw [h1, h2]
    have H2 := Lib.hid h2
    clear h1 h2
    go_wp2
    exact bodyPost_ret (v := .agg #[.bool false, .string ⟨#[]⟩]) (by simp [results, Tryz.results78, go_sem, x1, x2, x3, x4, y1, y2, y3, y4]) rfl ⟨by rw [show -(0 : Int) = 0 from rfl, H2.out]; rfl, HB.out _ _ _ _⟩
  · rw [h3] at hm
    have H2 := Lib.hid h2
    have Hm := Lib.hid hm
    rw [h1, hm]
    clear hm h1 h2 h3
    go_wp2
    exact bodyPost_ret (v := .agg #[.bool true, .string ⟨(c :: t).toArray⟩]) (by simp [results, Tryz.results78, go_sem, x1, x2, x3, x4, y1, y2, y3, y4]) rfl ⟨by rw [Hn.out, H2.out, Hm.out], HB.out _ _ _ _⟩
end Go.Proofs.YtgcogpfmhmmgdaaGreatDoor
