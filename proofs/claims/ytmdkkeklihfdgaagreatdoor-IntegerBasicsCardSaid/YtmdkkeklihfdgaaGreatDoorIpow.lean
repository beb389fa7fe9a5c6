/- What integer.Power returns: the power, or the error's number and zero. -/
import Derived.Test.YtmdkkeklihfdgaaGreatDoorPow
import Derived.Test.YtmdkkeklihfdgaaGreatDoorIbits
namespace Go.Proofs.YtmdkkeklihfdgaaGreatDoor
open Go.RowKit

theorem neg_pow_m (x : Int) (m : Nat) : (-x) ^ m = if m % 2 = 1 then -(x ^ m) else x ^ m := by
  induction m with
  | zero => simp
  | succ m ih =>
    rw [Int.pow_succ, Int.pow_succ, ih]
    rcases Nat.mod_two_eq_zero_or_one m with h | h
    · rw [if_neg (by omega), if_pos (by omega), Int.mul_neg]
    · rw [if_pos h, if_neg (by omega), Int.neg_mul_neg]
theorem zv_pow (na : Bool) (s : ByteArray) (m : Nat) : zv na s ^ m = if (na && (((m % 2 : Nat) : Int) == 1)) then -((vB s.data.toList ^ m : Nat) : Int) else ((vB s.data.toList ^ m : Nat) : Int) := by
  unfold zv
  cases na
  · simp [Int.natCast_pow]
  · rw [if_pos rfl, neg_pow_m, Int.natCast_pow]
    rcases Nat.mod_two_eq_zero_or_one m with h | h
    · rw [h, if_neg (by omega)]; rfl
    · rw [h, if_pos rfl]; rfl
theorem pow_room {N m : Nat} (hm : m ≤ 4096) (hl : m * nbits N ≤ 65536) : ∃ kk, N < 4294967296 ^ kk ∧ kk * m + 1 ≤ 10000000 := by
  refine ⟨nbits N / 32 + 1, ?_, ?_⟩
  · refine Nat.lt_of_lt_of_le (nbits_lt N) ?_
    rw [show (4294967296 : Nat) = 2 ^ 32 from rfl, ← Nat.pow_mul]
    exact Nat.pow_le_pow_right (by omega) (by omega)
  · have h1 : nbits N / 32 * m ≤ nbits N * m := Nat.mul_le_mul_right _ (Nat.div_le_self _ _)
    rw [Nat.mul_comm (nbits N) m] at h1
    rw [Nat.add_mul]
    omega

theorem nbits_le {N k : Nat} (h : N < 4294967296 ^ k) : nbits N ≤ 32 * k := by
  rcases Nat.eq_zero_or_pos N with h0 | h0
  · subst h0; exact Nat.zero_le _
  · have h1 := nbits_ge (N := N) (by omega)
    rw [show (4294967296 : Nat) = 2 ^ 32 from rfl, ← Nat.pow_mul] at h
    have := (Nat.pow_lt_pow_iff_right (a := 2) (by omega)).1 (Nat.lt_of_le_of_lt h1 h)
    omega

/-- What a call returns that fails. -/
def FailOut (w : World) (x : Int) (e : Ending) (w' : World) : Prop := e = .returned (.tuple #[.agg #[.bool false, .string ⟨#[]⟩], .int .i64 x]) ∧ Below w.heap.size w w'
/-- What a call returns that does not fail. -/
def GoodOut (w : World) (z : Int) (e : Ending) (w' : World) : Prop := e = .returned (.tuple #[.agg #[.bool (sg z), .string (mg z)], .int .i64 0]) ∧ Below w.heap.size w w'

set_option maxRecDepth 100000 in
set_option maxHeartbeats 3200000 in
theorem ipow_range (na : Bool) (sa : ByteArray) (m : Int) (w : World) (hm : m < 0 ∨ 4096 < m) :
    Calls Tryz.prog 22 #[.agg #[.bool na, .string sa], .int .i64 m] w (FailOut w 2) := by
  have hr := ResCell.new (w.alloc (.cells #[.bool na, .string sa] 23)) 23
  rw [World.size_alloc] at hr
  obtain ⟨r1, r2, r3, r4⟩ := hr
  have hb := below2 w (.cells #[.bool na, .string sa] 23) (.cells #[.bool false, .string ⟨#[]⟩] 23)
  rcases hm with hm | hm
  all_goals
    go_enter Tryz.func22, Tryz.ntmps22
    go_wp2
    exact bodyPost_ret (v := .tuple #[.agg #[.bool false, .string ⟨#[]⟩], .int .i64 2]) (by simp [results, Tryz.results22, go_sem, r1, r2]) rfl ⟨rfl, hb⟩

set_option maxRecDepth 100000 in
set_option maxHeartbeats 3200000 in
theorem ipow_any (v : Value) (z : Int) (k m : Nat) (w : World) (h : IsInt v z k) (hm : m ≤ 4096) (hl : m * nbits z.natAbs ≤ 65536) :
    Calls Tryz.prog 22 #[v, .int .i64 (m : Int)] w (GoodOut w (z ^ m)) := by
  have Hi : Hid (IsInt v z k) := h
  obtain ⟨na, sa, rfl, hz, hs, hk, hkk⟩ := h
  have hN : vB sa.data.toList = z.natAbs := by rw [← natAbs_zv na sa, hz]
  have HN := Lib.hid hN
  have Hp : Hid (z ^ m = if (na && (((m % 2 : Nat) : Int) == 1)) then -((z.natAbs ^ m : Nat) : Int) else ((z.natAbs ^ m : Nat) : Int)) := by
    rw [← hz]; exact (zv_pow na sa m).trans (by rw [hN, hz])
  have Hk : Hid (z.natAbs < 4294967296 ^ k) := hk
  have hroom := pow_room hm hl
  have Hkk : Hid (∃ kk, z.natAbs < 4294967296 ^ kk ∧ kk * m + 1 ≤ 10000000) := hroom
  have hmul : IntKind.i64.wrap ((m : Int) * (nbits z.natAbs : Int)) = ((m * nbits z.natAbs : Nat) : Int) := by rw [IntKind.wrap_i64, Int.natCast_mul]; rw [← Int.natCast_mul]; omega
  clear hz hk hN hroom
  generalize m * nbits z.natAbs = t at *
  obtain ⟨nb, hnb⟩ : ∃ nb, nb = nbits z.natAbs := ⟨_, rfl⟩
  have Hb : Hid (nbits z.natAbs = nb) := hnb.symm
  rw [← hnb] at hmul
  clear hnb
  have q1 : (m : Int).tmod 2 = ((m % 2 : Nat) : Int) := Int.tmod_eq_emod_of_nonneg (by omega)
  have q2 : IntKind.i64.wrap ((m % 2 : Nat) : Int) = ((m % 2 : Nat) : Int) := by rw [IntKind.wrap_i64]; omega
  generalize m % 2 = r at *
  have hr := ResCell.new (w.alloc (.cells #[.bool na, .string sa] 23)) 23
  rw [World.size_alloc] at hr
  have hb := below2 w (.cells #[.bool na, .string sa] 23) (.cells #[.bool false, .string ⟨#[]⟩] 23)
  have c1 : ((w.alloc (.cells #[.bool na, .string sa] 23)).alloc (.cells #[.bool false, .string ⟨#[]⟩] 23)).cell? ⟨w.heap.size, 0, none⟩ = some (.bool na) := by simp [go_sem]
  have c2 : ((w.alloc (.cells #[.bool na, .string sa] 23)).alloc (.cells #[.bool false, .string ⟨#[]⟩] 23)).cell? ⟨w.heap.size, 1, none⟩ = some (.string sa) := by simp [go_sem]
  go_enter Tryz.func22, Tryz.ntmps22
  go_wp2_with fail
  refine (ibits_any _ z k _ Hi.out).mono ?_
  rintro e W1 ⟨rfl, b1⟩
  rw [Hb.out]
  have y1 := cell_keep c1 b1
  have y2 := cell_keep c2 b1
  have HR := hr.keep b1
  clear c1 c2 hr
  have hb1 := below_more hb (Nat.le_refl _) b1
  cases na
  all_goals
    go_wp2_with fail
    refine (magnitude_any _ sa _ (by omega)).mono ?_
    rintro e W2 ⟨A, n, c, rfl, i2, b2⟩
    rw [HN.out] at i2
    have l2 : n ≤ 10000000 := by have := i2.len Hk.out; omega
    obtain ⟨kk, hkk1, hkk2⟩ := Hkk.out
    have Hkk3 : Hid (z.natAbs ^ m < 4294967296 ^ (kk * m + 1)) := pow_bound hkk1 (Nat.le_refl _)
    go_wp2_with fail
    refine (power_any A n c z.natAbs m kk _ i2 (by omega) hkk1 hkk2 l2).mono ?_
    rintro e W3 ⟨A3, n3, c3, rfl, i3, b3⟩
    have l3 : n3 ≤ 1000000000 := by have := i3.len Hkk3.out; omega
    go_wp2_with fail
    refine (signed_any _ A3 n3 c3 _ _ i3 l3).mono ?_
    rintro e W4 ⟨rfl, b4⟩
    first | rw [ivN_eq false _ (z ^ m) Hp.out] | rw [ivN_eq (((r : Nat) : Int) == 1) _ (z ^ m) Hp.out]
    obtain ⟨r1, r2, r3, r4⟩ := ((HR.keep b2).keep b3).keep b4
    go_wp2
    exact bodyPost_ret (v := .tuple #[.agg #[.bool (sg (z ^ m)), .string (mg (z ^ m))], .int .i64 0]) (by simp [results, Tryz.results22, go_sem, r1, r2]) rfl ⟨rfl, below_more2 (below_more (below_more hb1 (Nat.le_refl _) b2) (Nat.le_refl _) b3) (Nat.le_refl _) b4 (by show w.heap.size ≤ w.heap.size + 1; omega) (by show w.heap.size ≤ w.heap.size + 1; omega)⟩

/-- The power would be too great. -/
theorem ipow_limit (v : Value) (z : Int) (k m : Nat) (w : World) (h : IsInt v z k) (hm : m ≤ 4096) (hl : 65536 < m * nbits z.natAbs) :
    Calls Tryz.prog 22 #[v, .int .i64 (m : Int)] w (FailOut w 4) := by
  have Hi : Hid (IsInt v z k) := h
  obtain ⟨na, sa, rfl, hz, hs, hk, hkk⟩ := h
  have hnb := nbits_le hk
  have hmul : IntKind.i64.wrap ((m : Int) * (nbits z.natAbs : Int)) = ((m * nbits z.natAbs : Nat) : Int) := by
    have : m * nbits z.natAbs ≤ 4096 * nbits z.natAbs := Nat.mul_le_mul_right _ hm
    rw [IntKind.wrap_i64, ← Int.natCast_mul]; omega
  clear hz hk
  generalize m * nbits z.natAbs = t at *
  obtain ⟨nb, hnb⟩ : ∃ nb, nb = nbits z.natAbs := ⟨_, rfl⟩
  have Hb : Hid (nbits z.natAbs = nb) := hnb.symm
  rw [← hnb] at hmul
  clear hnb
  have hr := ResCell.new (w.alloc (.cells #[.bool na, .string sa] 23)) 23
  rw [World.size_alloc] at hr
  have hb := below2 w (.cells #[.bool na, .string sa] 23) (.cells #[.bool false, .string ⟨#[]⟩] 23)
  go_enter Tryz.func22, Tryz.ntmps22
  go_wp2_with fail
  refine (ibits_any _ z k _ Hi.out).mono ?_
  rintro e W1 ⟨rfl, b1⟩
  rw [Hb.out]
  obtain ⟨r1, r2, r3, r4⟩ := hr.keep b1
  go_wp2
  exact bodyPost_ret (v := .tuple #[.agg #[.bool false, .string ⟨#[]⟩], .int .i64 4]) (by simp [results, Tryz.results22, go_sem, r1, r2]) rfl ⟨rfl, below_more2 hb (Nat.le_refl _) b1 (by show w.heap.size ≤ w.heap.size + 1; omega) (by show w.heap.size ≤ w.heap.size + 1; omega)⟩
end Go.Proofs.YtmdkkeklihfdgaaGreatDoor
