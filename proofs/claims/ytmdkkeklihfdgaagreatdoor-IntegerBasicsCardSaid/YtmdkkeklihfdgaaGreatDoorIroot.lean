/- What integer.Root returns: the root, or the error's number and zero. -/
import Derived.Test.YtmdkkeklihfdgaaGreatDoorRoot
import Derived.Test.YtmdkkeklihfdgaaGreatDoorIpow
namespace Go.Proofs.YtmdkkeklihfdgaaGreatDoor
open Go.RowKit

set_option maxRecDepth 100000 in
set_option maxHeartbeats 3200000 in
theorem iroot_any (v : Value) (z : Int) (k m : Nat) (w : World) (h : IsInt v z k) (hk : k ≤ 1000) (h0 : 0 ≤ z) (hm1 : 1 ≤ m) (hm : m ≤ 4096) :
    Calls Tryz.prog 21 #[v, .int .i64 (m : Int)] w (fun e w' => ∃ R, IsRoot z.natAbs m R ∧ GoodOut w (R : Int) e w') := by
  obtain ⟨na, sa, rfl, hz, hs, hkz, hkk⟩ := h
  have hN : vB sa.data.toList = z.natAbs := by rw [← natAbs_zv na sa, hz]
  have HN := Lib.hid hN
  have Hz := Lib.hid hz
  have hs0 : sg z = false := by unfold sg; exact decide_eq_false (by omega)
  have Hk : Hid (z.natAbs < 4294967296 ^ k) := hkz
  clear hz hkz hN
  have hr := ResCell.new (w.alloc (.cells #[.bool na, .string sa] 23)) 23
  rw [World.size_alloc] at hr
  have hb := below2 w (.cells #[.bool na, .string sa] 23) (.cells #[.bool false, .string ⟨#[]⟩] 23)
  have c1 : ((w.alloc (.cells #[.bool na, .string sa] 23)).alloc (.cells #[.bool false, .string ⟨#[]⟩] 23)).cell? ⟨w.heap.size, 0, none⟩ = some (.bool na) := by simp [go_sem]
  have c2 : ((w.alloc (.cells #[.bool na, .string sa] 23)).alloc (.cells #[.bool false, .string ⟨#[]⟩] 23)).cell? ⟨w.heap.size, 1, none⟩ = some (.string sa) := by simp [go_sem]
  go_enter Tryz.func21, Tryz.ntmps21
  go_wp2_with fail
  refine (can_any na sa _).mono ?_
  rintro e W1 ⟨rfl, b1⟩
  rw [Hz.out, hs0]
  have y1 := cell_keep c1 b1
  have y2 := cell_keep c2 b1
  have HR := hr.keep b1
  clear c1 c2 hr
  have hb1 := below_more hb (Nat.le_refl _) b1
  go_wp2_with fail
  refine (magnitude_any _ sa _ (by omega)).mono ?_
  rintro e W2 ⟨A, n, c, rfl, i2, b2⟩
  rw [HN.out] at i2
  go_wp2_with fail
  refine (root_any A n c z.natAbs m k _ i2 hm1 hm Hk.out hk).mono ?_
  rintro e W3 ⟨R, hR, A3, n3, c3, rfl, i3, b3⟩
  have HI : Hid (IsRoot z.natAbs m R) := hR
  have HRk : Hid (R < 4294967296 ^ k) := Nat.lt_of_le_of_lt (root_le hm1 hR.1) Hk.out
  clear hR
  have l3 : n3 ≤ 1000000000 := by have := i3.len HRk.out; omega
  go_wp2_with fail
  refine (signed_any _ A3 n3 c3 _ _ i3 l3).mono ?_
  rintro e W4 ⟨rfl, b4⟩
  rw [ivN_eq false R (R : Int) rfl]
  obtain ⟨r1, r2, r3, r4⟩ := ((HR.keep b2).keep b3).keep b4
  go_wp2
  exact bodyPost_ret (v := .tuple #[.agg #[.bool (sg (R : Int)), .string (mg (R : Int))], .int .i64 0]) (by simp [results, Tryz.results21, go_sem, r1, r2]) rfl ⟨R, HI.out, rfl, below_more2 (below_more (below_more hb1 (Nat.le_refl _) b2) (Nat.le_refl _) b3) (Nat.le_refl _) b4 (by show w.heap.size ≤ w.heap.size + 1; omega) (by show w.heap.size ≤ w.heap.size + 1; omega)⟩

/-- Out of the range: a negative number, or an exponent that is less than 1 or greater than 4096. -/
theorem iroot_range (v : Value) (z : Int) (k : Nat) (m : Int) (w : World) (h : IsInt v z k) (hx : z < 0 ∨ m < 1 ∨ 4096 < m) :
    Calls Tryz.prog 21 #[v, .int .i64 m] w (FailOut w 2) := by
  obtain ⟨na, sa, rfl, hz, hs, hkz, hkk⟩ := h
  have Hz := Lib.hid hz
  clear hz hkz
  have hr := ResCell.new (w.alloc (.cells #[.bool na, .string sa] 23)) 23
  rw [World.size_alloc] at hr
  have hb := below2 w (.cells #[.bool na, .string sa] 23) (.cells #[.bool false, .string ⟨#[]⟩] 23)
  by_cases h0 : z < 0
  · have hs0 : sg z = true := by unfold sg; exact decide_eq_true h0
    go_enter Tryz.func21, Tryz.ntmps21
    go_wp2_with fail
    refine (can_any na sa _).mono ?_
    rintro e W1 ⟨rfl, b1⟩
    rw [Hz.out, hs0]
    obtain ⟨r1, r2, r3, r4⟩ := hr.keep b1
    go_wp2
    exact bodyPost_ret (v := .tuple #[.agg #[.bool false, .string ⟨#[]⟩], .int .i64 2]) (by simp [results, Tryz.results21, go_sem, r1, r2]) rfl ⟨rfl, below_more2 hb (Nat.le_refl _) b1 (by show w.heap.size ≤ w.heap.size + 1; omega) (by show w.heap.size ≤ w.heap.size + 1; omega)⟩
  · have hs0 : sg z = false := by unfold sg; exact decide_eq_false h0
    have hx' : m < 1 ∨ 4096 < m := by omega
    clear hx
    rcases hx' with hm | hm
    all_goals
      go_enter Tryz.func21, Tryz.ntmps21
      go_wp2_with fail
      refine (can_any na sa _).mono ?_
      rintro e W1 ⟨rfl, b1⟩
      rw [Hz.out, hs0]
      obtain ⟨r1, r2, r3, r4⟩ := hr.keep b1
      go_wp2
      exact bodyPost_ret (v := .tuple #[.agg #[.bool false, .string ⟨#[]⟩], .int .i64 2]) (by simp [results, Tryz.results21, go_sem, r1, r2]) rfl ⟨rfl, below_more2 hb (Nat.le_refl _) b1 (by show w.heap.size ≤ w.heap.size + 1; omega) (by show w.heap.size ≤ w.heap.size + 1; omega)⟩
end Go.Proofs.YtmdkkeklihfdgaaGreatDoor
