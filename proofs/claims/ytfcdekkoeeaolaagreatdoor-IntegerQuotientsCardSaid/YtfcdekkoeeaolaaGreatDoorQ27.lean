/- What the reference implementation's Root returns. Condition: at most 1000 bytes. -/
import Derived.Test.YtfcdekkoeeaolaaGreatDoorQ25
import Derived.Test.YtfcdekkoeeaolaaGreatDoorQ26

namespace Go.Proofs.YtfcdekkoeeaolaaGreatDoor
open Go.RowKit
set_option linter.unusedSimpArgs false
set_option linter.unusedVariables false

theorem rroot_uniq {X m R R2 : Nat} (hm : 1 ≤ m) (h1 : IsRoot X m R) (h2 : IsRoot X m R2) : R = R2 := by
  obtain ⟨a1, a2⟩ := h1
  obtain ⟨b1, b2⟩ := h2
  have c1 : R ^ m < (R2 + 1) ^ m := Nat.lt_of_le_of_lt a1 b2
  have c2 : R2 ^ m < (R + 1) ^ m := Nat.lt_of_le_of_lt b1 a2
  have d1 := (Nat.pow_lt_pow_iff_left (by omega : m ≠ 0)).1 c1
  have d2 := (Nat.pow_lt_pow_iff_left (by omega : m ≠ 0)).1 c2
  omega
/-- A number with so many bits is too great. -/
theorem root_far {x m N : Nat} (h : nbits N + m ≤ nbits x * m) (hm : 1 ≤ m) : N < x ^ m := by
  have hx : x ≠ 0 := by
    intro e
    have e0 : nbits 0 = 0 := rfl
    rw [e, e0] at h
    omega
  have h1 := nbits_ge hx
  have h2 : (2 ^ (nbits x - 1)) ^ m ≤ x ^ m := Nat.pow_le_pow_left h1 m
  rw [← Nat.pow_mul] at h2
  have h3 := nbits_lt N
  have h4 : nbits N ≤ (nbits x - 1) * m := by rw [Nat.sub_mul]; omega
  have h5 : 2 ^ nbits N ≤ 2 ^ ((nbits x - 1) * m) := Nat.pow_le_pow_right (by omega) h4
  omega
theorem root_first {N m q : Nat} (hm : 1 ≤ m) (hq : nbits N / m + 1 = q) : N < (0 + 2 ^ q) ^ m := by
  have h3 := nbits_lt N
  have h4 : nbits N ≤ q * m := by
    rw [← hq, Nat.mul_comm]
    have h := Nat.div_add_mod (nbits N) m
    have h5 := Nat.mod_lt (nbits N) (by omega : 0 < m)
    rw [Nat.mul_add]
    omega
  rw [Nat.zero_add, ← Nat.pow_mul]
  have h5 : 2 ^ nbits N ≤ 2 ^ (q * m) := Nat.pow_le_pow_right (by omega) h4
  omega
theorem root_up {r j m N : Nat} (h : N < (r + 2 ^ (j + 1)) ^ m) : N < (r + 2 ^ j + 2 ^ j) ^ m := by
  rw [show r + 2 ^ j + 2 ^ j = r + 2 ^ (j + 1) by rw [Nat.pow_succ]; omega]
  exact h
theorem rroot_le {r m N : Nat} (hm : 1 ≤ m) (h : r ^ m ≤ N) : r ≤ N := by
  have h1 : r ^ 1 ≤ r ^ m := by
    rcases Nat.eq_zero_or_pos r with h0 | h0
    · subst h0; simp
    · exact Nat.pow_le_pow_right h0 hm
  rw [Nat.pow_one] at h1
  exact Nat.le_trans h1 h
theorem bytes_2pow {N j L : Nat} (hN : (bytesOf N).length ≤ L) (hj : j ≤ 8 * L) {r : Nat} (hr : r ≤ N) : (bytesOf (r + 2 ^ j)).length ≤ L + 1 := by
  apply bytesOf_len
  have h1 := vB_lt (bytesOf N)
  rw [vB_bytesOf] at h1
  have h2 : 256 ^ (bytesOf N).length ≤ 256 ^ L := Nat.pow_le_pow_right (by omega) hN
  have h3 : 2 ^ j ≤ 2 ^ (8 * L) := Nat.pow_le_pow_right (by omega) hj
  rw [Nat.pow_mul] at h3
  rw [Nat.pow_succ]
  have h4 : (2 ^ 8) ^ L = 256 ^ L := rfl
  rw [h4] at h3
  generalize 256 ^ L = P at *
  omega
theorem rnbits_len {x L : Nat} (h : (bytesOf x).length ≤ L) : nbits x ≤ 8 * L := by
  have h1 := vB_lt (bytesOf x)
  rw [vB_bytesOf] at h1
  unfold nbits
  split
  · omega
  · rename_i h0
    have h2 : x < 2 ^ (8 * (bytesOf x).length) := by rw [Nat.pow_mul]; exact h1
    have := (Nat.log2_lt h0).2 h2
    omega
set_option maxRecDepth 100000 in
set_option maxHeartbeats 3200000 in
theorem rroot_range (g : Bool) (l : List UInt8) (z m : Int) (w : World) (hl1 : l.length ≤ 1000000) (hz : zv g ⟨l.toArray⟩ = z) (hx : z < 0 ∨ m < 1 ∨ 4096 < m) :
    Calls Tryz.prog 19 #[.agg #[.bool g, .string ⟨l.toArray⟩], .int .i64 m] w (FailOut w 2) := by
  have Hl := Lib.hid hl1
  have Hz := Lib.hid hz
  have hc : sg z = true ∨ (sg z = false ∧ decide (m < 1) = true) ∨ (sg z = false ∧ ¬ m < 1 ∧ decide (4096 < m) = true) := by
    by_cases h : z < 0
    · exact Or.inl (decide_eq_true h)
    · have h1 : sg z = false := decide_eq_false h
      by_cases h2 : m < 1
      · exact Or.inr (Or.inl ⟨h1, decide_eq_true h2⟩)
      · exact Or.inr (Or.inr ⟨h1, h2, decide_eq_true (by omega)⟩)
  obtain ⟨G, HG⟩ : ∃ G, Hid (sg z = G) := ⟨_, Lib.hid rfl⟩
  obtain ⟨M, HM⟩ : ∃ M, Hid (mg z = M) := ⟨_, Lib.hid rfl⟩
  rw [HG.out] at hc
  clear hx hz hl1
  obtain ⟨W0, hW0⟩ : ∃ W0, W0 = (w.alloc (.cells #[.bool g, .string ⟨l.toArray⟩] 23)).alloc (.cells #[.bool false, .string ⟨#[]⟩] 23) := ⟨_, rfl⟩
  have K : Pw w W0 w.heap.size g ⟨l.toArray⟩ := by rw [hW0]; exact Pw.start w _ _ _
  have HW := Lib.hid hW0
  clear hW0
  go_enter Tryz.func19, Tryz.ntmps19
  go_upto_region 1 with fail
  rw [← HW.out]
  obtain ⟨⟨x1, x2, x3, x4⟩, ⟨r1, r2, r3, r4⟩, -⟩ := id K
  go_wp2_with fail
  refine (rcan_eq (by have := Hl.out; omega) Hz.out).mono ?_
  rintro e X ⟨rfl, bX⟩
  rw [HG.out, HM.out]
  have K := K.keep bX
  have K2 : Pw w ((X.setCell ⟨w.heap.size, 0, none⟩ (.bool G)).setCell ⟨w.heap.size, 1, none⟩ (.string M)) w.heap.size G M :=
    ⟨K.1.set, (K.2.1.far (by dsimp only; omega) _).far (by dsimp only; omega) _, by rw [World.size_setCell, World.size_setCell]; exact K.2.2.1, (K.2.2.2.1.setCell (Nat.le_refl _) _).setCell (Nat.le_refl _) _, Nat.le_refl _⟩
  obtain ⟨⟨x1, x2, x3, x4⟩, ⟨r1, r2, r3, r4⟩, -⟩ := id K
  clear bX
  go_upto_region 2 with fail
  generalize (X.setCell ⟨w.heap.size, 0, none⟩ (.bool G)).setCell ⟨w.heap.size, 1, none⟩ (.string M) = X2 at *
  clear K x1 x2 x3 x4 r1 r2 r3 r4
  have K := K2
  obtain ⟨⟨x1, x2, x3, x4⟩, ⟨r1, r2, r3, r4⟩, -⟩ := id K
  rcases hc with rfl | ⟨rfl, hd2⟩ | ⟨rfl, hd1, hd2⟩
  all_goals
    go_wp2_with fail
    exact bodyPost_ret (v := .tuple #[.agg #[.bool false, .string ⟨#[]⟩], .int .i64 2]) (by simp [results, Tryz.results19, go_sem, r1, r2, r3, r4]) rfl ⟨rfl, (K.2.2.2.1.setCell (by dsimp only; omega) _).setCell (by dsimp only; omega) _⟩
end Go.Proofs.YtfcdekkoeeaolaaGreatDoor
