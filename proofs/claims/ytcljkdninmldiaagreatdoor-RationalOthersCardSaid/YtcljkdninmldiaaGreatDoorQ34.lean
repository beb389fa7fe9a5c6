/- What rational.Add, Sub, Mul, Quo, Ratio, Neg and Floor return. Condition: the integers have at most 10^6 digits to the base 2^32. What integer.Power returns: the power, or the error's number and zero. What rational.Floor, Power, Check and Print return. Condition: the integers have at most 4*10^6 digits to the base 2^32. The simplest number between two others: the run of the two continued fractions. Plain facts; no condition. A region that draws its order, in the body of a range over a function: by the laws of regions outside of one. No condition. What the closure of rational.commonTerms does with a loop whose rounds go on with the convergents. Condition: the integers have at most 10^6 digits to the base 2^32. -/
import Derived.Test.YtcljkdninmldiaaGreatDoorQ33
import Derived.Test.YtcljkdninmldiaaGreatDoorQ19
import Derived.Test.YtcljkdninmldiaaGreatDoorQ09
import Derived.Test.YtcljkdninmldiaaGreatDoorQ31
import Derived.Test.YtcljkdninmldiaaGreatDoorQ24
import Derived.Test.YtcljkdninmldiaaGreatDoorQ30
import Derived.Test.YtcljkdninmldiaaGreatDoorQ28
import Derived.OrdersIn
import Derived.OrdersHeld
import Derived.Deep.RegionHeld3

namespace Go.Proofs.YtcljkdninmldiaaGreatDoor
open Go.RowKit
set_option linter.unusedSimpArgs false


set_option maxRecDepth 100000 in
theorem ratio_any (n d : Int) (r : Rat) (w : World) (hn : -9223372036854775808 ≤ n) (hn' : n ≤ 9223372036854775807) (hd : -9223372036854775808 ≤ d) (hd' : d ≤ 9223372036854775807) (h0 : d ≠ 0) (hr : Rat.divInt n d = r) :
    Calls Tryz.prog 41 #[.int .i64 n, .int .i64 d] w (RatGood w r) := by
  have Hr := Lib.hid hr
  have H0 := Lib.hid h0
  have In := Lib.hid (show IsInt (.agg #[.bool (sg n), .string (mg n)]) n 2 from isInt_mg (by omega) (by omega))
  have Id := Lib.hid (show IsInt (.agg #[.bool (sg d), .string (mg d)]) d 2 from isInt_mg (by omega) (by omega))
  clear hr h0
  have P0 := ResRat.new w
  have B0 := below1 w (.cells #[.bool false, .string ⟨#[]⟩, .bool false, .string ⟨#[]⟩] 25)
  go_enter Tryz.func41, Tryz.ntmps41
  go_wp2_with fail
  refine (iof_any n _ hn hn').mono ?_
  rintro e W1 ⟨rfl, b1⟩
  go_wp2_with fail
  refine (iof_any d _ hd hd').mono ?_
  rintro e W2 ⟨rfl, b2⟩
  go_wp2_with fail
  refine (new_some _ _ n d 2 _ In.out Id.out H0.out).mono ?_
  rw [Hr.out]
  rintro e W3 ⟨rfl, b3⟩
  have P1 := ((P0.keep b1).keep b2).keep b3
  have B1 := below_more (below_more (below_more B0 (Nat.le_refl _) b1) (Nat.le_refl _) b2) (Nat.le_refl _) b3
  unfold ratV
  obtain ⟨⟨r1, r2, r3, r4⟩, r5, r6, r7, r8⟩ := P1
  go_wp2
  exact bodyPost_ret (v := .tuple #[ratV r, .int .i64 0]) (by simp [results, Tryz.results41, go_sem, r1, r2, r3, r4, ratV]) rfl ⟨rfl, below4s B1 _ (Nat.le_refl _) _ _ _ _⟩

set_option maxRecDepth 100000 in
set_option maxHeartbeats 3200000 in
theorem rneg_any (v1 : Value) (q r : Rat) (k : Nat) (w : World) (h1 : IsRat v1 q k) (hk : k ≤ 4000000) (hr : -q = r) : Calls Tryz.prog 27 #[v1] w (RatOut w r) := by
  have Hr := Lib.hid (show -q.num = r.num ∧ q.den = r.den by rw [← hr]; exact ⟨rfl, rfl⟩)
  have H1 := Lib.hid h1
  have Hb := Lib.hid (show RatBd q (k + 1) by
    obtain ⟨_, _, _, _, n, d, _, h2, h3, rfl⟩ := h1
    exact ratBd_divInt h2.bd h3.bd)
  obtain ⟨na, sa, nb, sb, -, -, rfl, -⟩ := h1
  have P0 := ResRat.new (w.alloc (.cells #[.bool na, .string sa, .bool nb, .string sb] 25))
  rw [World.size_alloc] at P0
  have B0 := below2 w (.cells #[.bool na, .string sa, .bool nb, .string sb] 25) (.cells #[.bool false, .string ⟨#[]⟩, .bool false, .string ⟨#[]⟩] 25)
  go_enter Tryz.func27, Tryz.ntmps27
  go_wp2_with fail
  refine (rcanon_any _ q k _ H1.out).mono ?_
  rintro e W1 ⟨rfl, b1⟩
  have hbl := below1 W1 (.cells #[.bool (sg q.num), .string (mg q.num), .bool (sg (q.den : Int)), .string (mg (q.den : Int))] 25)
  have P1 := (P0.keep b1).keep hbl
  have L1 := (P0.keep b1).1.lt
  have S1 : RIn (W1.alloc (.cells #[.bool (sg q.num), .string (mg q.num), .bool (sg (q.den : Int)), .string (mg (q.den : Int))] 25)) W1.heap.size (sg q.num) (mg q.num) (sg (q.den : Int)) (mg (q.den : Int)) := RIn.new rfl
  have B1 := below_more (below_more B0 (Nat.le_refl _) b1) (Nat.le_refl _) hbl
  have Iq := Lib.hid (isInt_mg Hb.out.1 (by omega))
  clear P0 B0 b1 hbl
  unfold ratV
  go_upto_region 2 with fail
  generalize W1.alloc (.cells #[.bool (sg q.num), .string (mg q.num), .bool (sg (q.den : Int)), .string (mg (q.den : Int))] 25) = W2 at *
  generalize W1.heap.size = p3 at *
  have S2 : RIn W2.drew p3 (sg q.num) (mg q.num) (sg (q.den : Int)) (mg (q.den : Int)) := S1
  have L3 := S1.lt
  have hne : p3 ≠ w.heap.size + 1 := by omega
  go_region_held3 (fun W => W.cell? ⟨p3, 0, none⟩ = some (.bool (sg q.num)) ∧ W.cell? ⟨p3, 1, none⟩ = some (.string (mg q.num)) ∧ W.cell? ⟨p3, 2, none⟩ = some (.bool (sg (q.den : Int))) ∧ W.cell? ⟨p3, 3, none⟩ = some (.string (mg (q.den : Int)))) (first | exact S1 | exact S2 | exact RIn.keep S2 (by assumption) | exact ((((RIn.keep S2 (by assumption)).set _ hne _).set _ hne _).set _ hne _).set _ hne _ | go_keep)
    (first
      | (go_at_call 55; refine (ineg_eq Iq.out Hr.out.1).mono ?_; rintro e W3 ⟨rfl, b3⟩; obtain ⟨⟨r1, r2, r3, r4⟩, r5, r6, r7, r8⟩ := P1.drew.keep b3))
  all_goals
    go_wp2
    exact bodyPost_ret (v := ratV r) (by simp [results, Tryz.results27, go_sem, r1, r2, r3, r4, ratV, Hr.out.2]) rfl ⟨rfl, below4s (below_more B1.drew (Nat.le_refl _) b3) _ (by omega) _ _ _ _⟩
end Go.Proofs.YtcljkdninmldiaaGreatDoor

namespace Go.Proofs.YtcljkdninmldiaaGreatDoor
open Go.RowKit

theorem neg_pow_m (x : Int) (m : Nat) : (-x) ^ m = if m % 2 = 1 then -(x ^ m) else x ^ m := by
  induction m with
  | zero => simp
  | succ m ih =>
    rw [Int.pow_succ, Int.pow_succ, ih]
    rcases Nat.mod_two_eq_zero_or_one m with h | h
    · rw [if_neg (by omega), if_pos (by omega), Int.mul_neg]
    · rw [if_pos h, if_neg (by omega), Int.neg_mul_neg]
theorem zv_pow (na : Bool) (s : ByteArray) (m : Nat) : zv na s ^ m = if (na && (((m % 2 : Nat) : Int) == 1)) then -((vB s.data.toList ^ m : Nat) : Int) else ((vB s.data.toList ^ m : Nat) : Int) := by
  unfold zv
  cases na
  · simp [Int.natCast_pow]
  · rw [if_pos rfl, neg_pow_m, Int.natCast_pow]
    rcases Nat.mod_two_eq_zero_or_one m with h | h
    · rw [h, if_neg (by omega)]; rfl
    · rw [h, if_pos rfl]; rfl
theorem pow_room {N m : Nat} (hm : m ≤ 4096) (hl : m * nbits N ≤ 65536) : ∃ kk, N < 4294967296 ^ kk ∧ kk * m + 1 ≤ 10000000 := by
  refine ⟨nbits N / 32 + 1, ?_, ?_⟩
  · refine Nat.lt_of_lt_of_le (nbits_lt N) ?_
    rw [show (4294967296 : Nat) = 2 ^ 32 from rfl, ← Nat.pow_mul]
    exact Nat.pow_le_pow_right (by omega) (by omega)
  · have h1 : nbits N / 32 * m ≤ nbits N * m := Nat.mul_le_mul_right _ (Nat.div_le_self _ _)
    rw [Nat.mul_comm (nbits N) m] at h1
    rw [Nat.add_mul]
    omega

theorem nbits_le {N k : Nat} (h : N < 4294967296 ^ k) : nbits N ≤ 32 * k := by
  rcases Nat.eq_zero_or_pos N with h0 | h0
  · subst h0; exact Nat.zero_le _
  · have h1 := nbits_ge (N := N) (by omega)
    rw [show (4294967296 : Nat) = 2 ^ 32 from rfl, ← Nat.pow_mul] at h
    have := (Nat.pow_lt_pow_iff_right (a := 2) (by omega)).1 (Nat.lt_of_le_of_lt h1 h)
    omega

/-- What a call returns that fails. -/
def FailOut (w : World) (x : Int) (e : Ending) (w' : World) : Prop := e = .returned (.tuple #[.agg #[.bool false, .string ⟨#[]⟩], .int .i64 x]) ∧ Below w.heap.size w w'
/-- What a call returns that does not fail. -/
def GoodOut (w : World) (z : Int) (e : Ending) (w' : World) : Prop := e = .returned (.tuple #[.agg #[.bool (sg z), .string (mg z)], .int .i64 0]) ∧ Below w.heap.size w w'

set_option maxRecDepth 100000 in
set_option maxHeartbeats 3200000 in
theorem ipow_range (na : Bool) (sa : ByteArray) (m : Int) (w : World) (hm : m < 0 ∨ 4096 < m) :
    Calls Tryz.prog 20 #[.agg #[.bool na, .string sa], .int .i64 m] w (FailOut w 2) := by
  have hr := ResCell.new (w.alloc (.cells #[.bool na, .string sa] 23)) 23
  rw [World.size_alloc] at hr
  obtain ⟨r1, r2, r3, r4⟩ := hr
  have hb := below2 w (.cells #[.bool na, .string sa] 23) (.cells #[.bool false, .string ⟨#[]⟩] 23)
  rcases hm with hm | hm
  all_goals
    go_enter Tryz.func20, Tryz.ntmps20
    go_wp2
    exact bodyPost_ret (v := .tuple #[.agg #[.bool false, .string ⟨#[]⟩], .int .i64 2]) (by simp [results, Tryz.results20, go_sem, r1, r2]) rfl ⟨rfl, hb⟩

set_option maxRecDepth 100000 in
set_option maxHeartbeats 3200000 in
theorem ipow_any (v : Value) (z : Int) (k m : Nat) (w : World) (h : IsInt v z k) (hm : m ≤ 4096) (hl : m * nbits z.natAbs ≤ 65536) :
    Calls Tryz.prog 20 #[v, .int .i64 (m : Int)] w (GoodOut w (z ^ m)) := by
  have Hi : Hid (IsInt v z k) := h
  obtain ⟨na, sa, rfl, hz, hs, hk, hkk⟩ := h
  have hN : vB sa.data.toList = z.natAbs := by rw [← natAbs_zv na sa, hz]
  have HN := Lib.hid hN
  have Hp : Hid (z ^ m = if (na && (((m % 2 : Nat) : Int) == 1)) then -((z.natAbs ^ m : Nat) : Int) else ((z.natAbs ^ m : Nat) : Int)) := by
    rw [← hz]; exact (zv_pow na sa m).trans (by rw [hN, hz])
  have Hk : Hid (z.natAbs < 4294967296 ^ k) := hk
  have hroom := pow_room hm hl
  have Hkk : Hid (∃ kk, z.natAbs < 4294967296 ^ kk ∧ kk * m + 1 ≤ 10000000) := hroom
  have hmul : IntKind.i64.wrap ((m : Int) * (nbits z.natAbs : Int)) = ((m * nbits z.natAbs : Nat) : Int) := by rw [IntKind.wrap_i64, Int.natCast_mul]; rw [← Int.natCast_mul]; omega
  clear hz hk hN hroom
  generalize m * nbits z.natAbs = t at *
  obtain ⟨nb, hnb⟩ : ∃ nb, nb = nbits z.natAbs := ⟨_, rfl⟩
  have Hb : Hid (nbits z.natAbs = nb) := hnb.symm
  rw [← hnb] at hmul
  clear hnb
  have q1 : (m : Int).tmod 2 = ((m % 2 : Nat) : Int) := Int.tmod_eq_emod_of_nonneg (by omega)
  have q2 : IntKind.i64.wrap ((m % 2 : Nat) : Int) = ((m % 2 : Nat) : Int) := by rw [IntKind.wrap_i64]; omega
  generalize m % 2 = r at *
  have hr := ResCell.new (w.alloc (.cells #[.bool na, .string sa] 23)) 23
  rw [World.size_alloc] at hr
  have hb := below2 w (.cells #[.bool na, .string sa] 23) (.cells #[.bool false, .string ⟨#[]⟩] 23)
  have c1 : ((w.alloc (.cells #[.bool na, .string sa] 23)).alloc (.cells #[.bool false, .string ⟨#[]⟩] 23)).cell? ⟨w.heap.size, 0, none⟩ = some (.bool na) := by simp [go_sem]
  have c2 : ((w.alloc (.cells #[.bool na, .string sa] 23)).alloc (.cells #[.bool false, .string ⟨#[]⟩] 23)).cell? ⟨w.heap.size, 1, none⟩ = some (.string sa) := by simp [go_sem]
  go_enter Tryz.func20, Tryz.ntmps20
  go_wp2_with fail
  refine (ibits_any _ z k _ Hi.out).mono ?_
  rintro e W1 ⟨rfl, b1⟩
  rw [Hb.out]
  have y1 := cell_keep c1 b1
  have y2 := cell_keep c2 b1
  have HR := hr.keep b1
  clear c1 c2 hr
  have hb1 := below_more hb (Nat.le_refl _) b1
  cases na
  all_goals
    go_wp2_with fail
    refine (magnitude_any _ sa _ (by omega)).mono ?_
    rintro e W2 ⟨A, n, c, rfl, i2, b2⟩
    rw [HN.out] at i2
    have l2 : n ≤ 10000000 := by have := i2.len Hk.out; omega
    obtain ⟨kk, hkk1, hkk2⟩ := Hkk.out
    have Hkk3 : Hid (z.natAbs ^ m < 4294967296 ^ (kk * m + 1)) := pow_bound hkk1 (Nat.le_refl _)
    go_wp2_with fail
    refine (power_any A n c z.natAbs m kk _ i2 (by omega) hkk1 hkk2 l2).mono ?_
    rintro e W3 ⟨A3, n3, c3, rfl, i3, b3⟩
    have l3 : n3 ≤ 1000000000 := by have := i3.len Hkk3.out; omega
    go_wp2_with fail
    refine (signed_any _ A3 n3 c3 _ _ i3 l3).mono ?_
    rintro e W4 ⟨rfl, b4⟩
    first | rw [ivN_eq false _ (z ^ m) Hp.out] | rw [ivN_eq (((r : Nat) : Int) == 1) _ (z ^ m) Hp.out]
    obtain ⟨r1, r2, r3, r4⟩ := ((HR.keep b2).keep b3).keep b4
    go_wp2
    exact bodyPost_ret (v := .tuple #[.agg #[.bool (sg (z ^ m)), .string (mg (z ^ m))], .int .i64 0]) (by simp [results, Tryz.results20, go_sem, r1, r2]) rfl ⟨rfl, below_more2 (below_more (below_more hb1 (Nat.le_refl _) b2) (Nat.le_refl _) b3) (Nat.le_refl _) b4 (by show w.heap.size ≤ w.heap.size + 1; omega) (by show w.heap.size ≤ w.heap.size + 1; omega)⟩

/-- The power would be too great. -/
theorem ipow_limit (v : Value) (z : Int) (k m : Nat) (w : World) (h : IsInt v z k) (hm : m ≤ 4096) (hl : 65536 < m * nbits z.natAbs) :
    Calls Tryz.prog 20 #[v, .int .i64 (m : Int)] w (FailOut w 4) := by
  have Hi : Hid (IsInt v z k) := h
  obtain ⟨na, sa, rfl, hz, hs, hk, hkk⟩ := h
  have hnb := nbits_le hk
  have hmul : IntKind.i64.wrap ((m : Int) * (nbits z.natAbs : Int)) = ((m * nbits z.natAbs : Nat) : Int) := by
    have : m * nbits z.natAbs ≤ 4096 * nbits z.natAbs := Nat.mul_le_mul_right _ hm
    rw [IntKind.wrap_i64, ← Int.natCast_mul]; omega
  clear hz hk
  generalize m * nbits z.natAbs = t at *
  obtain ⟨nb, hnb⟩ : ∃ nb, nb = nbits z.natAbs := ⟨_, rfl⟩
  have Hb : Hid (nbits z.natAbs = nb) := hnb.symm
  rw [← hnb] at hmul
  clear hnb
  have hr := ResCell.new (w.alloc (.cells #[.bool na, .string sa] 23)) 23
  rw [World.size_alloc] at hr
  have hb := below2 w (.cells #[.bool na, .string sa] 23) (.cells #[.bool false, .string ⟨#[]⟩] 23)
  go_enter Tryz.func20, Tryz.ntmps20
  go_wp2_with fail
  refine (ibits_any _ z k _ Hi.out).mono ?_
  rintro e W1 ⟨rfl, b1⟩
  rw [Hb.out]
  obtain ⟨r1, r2, r3, r4⟩ := hr.keep b1
  go_wp2
  exact bodyPost_ret (v := .tuple #[.agg #[.bool false, .string ⟨#[]⟩], .int .i64 4]) (by simp [results, Tryz.results20, go_sem, r1, r2]) rfl ⟨rfl, below_more2 hb (Nat.le_refl _) b1 (by show w.heap.size ≤ w.heap.size + 1; omega) (by show w.heap.size ≤ w.heap.size + 1; omega)⟩
end Go.Proofs.YtcljkdninmldiaaGreatDoor

namespace Go.Proofs.YtcljkdninmldiaaGreatDoor
open Go.RowKit
set_option linter.unusedSimpArgs false

theorem print_is {v : Value} {z : Int} {k : Nat} {w : World} {T : List UInt8} (h : IsInt v z k) (htab : Lib.TabIs Tryz.prog w "internal/strconv.uint64pow10" .u64 Lib.pow10Tab) (e : prZ z = T) :
    Calls Tryz.prog 38 #[v] w fun e w' => e = .returned (.string ⟨T.toArray⟩) ∧ Below w.heap.size w w' := e ▸ print_any v z k w h htab

set_option maxRecDepth 100000 in
theorem rfloor_any (v1 : Value) (q : Rat) (f : Int) (k : Nat) (w : World) (h1 : IsRat v1 q k) (hf : q.floor = f) : Calls Tryz.prog 16 #[v1] w (IntOut w f) := by
  obtain ⟨na, sa, nb, sb, n, d, rfl, hn, hd, hq⟩ := h1
  have In := Lib.hid hn
  have Id := Lib.hid hd
  clear hn hd
  have P0 := ResCell.new (w.alloc (.cells #[.bool na, .string sa, .bool nb, .string sb] 25)) 23
  rw [World.size_alloc] at P0
  have B0 := below2 w (.cells #[.bool na, .string sa, .bool nb, .string sb] 25) (.cells #[.bool false, .string ⟨#[]⟩] 23)
  have hpair : ∃ r er : Int, Hid (∀ W : World, Calls Tryz.prog 42 #[.agg #[.bool na, .string sa], .agg #[.bool nb, .string sb]] W fun e W' => e = .returned (.tuple #[.agg #[.bool (sg f), .string (mg f)], .agg #[.bool (sg r), .string (mg r)], .int .i64 er]) ∧ Below W.heap.size W W') := by
    by_cases h0 : d = 0
    · refine ⟨0, 9, Lib.hid fun W => ?_⟩
      have e0 : f = 0 := by rw [← hf, ← hq, h0, Rat.divInt_zero]; rfl
      rw [e0, sg_zero, mg_zero]
      exact ezero_eq In.out Id.out h0
    · exact ⟨rD n d, 0, Lib.hid fun W => ediv_eq In.out Id.out h0 (by rw [qD_floor h0, hq, hf]) rfl⟩
  obtain ⟨r, er, Hd⟩ := hpair
  clear hq hf
  go_enter Tryz.func16, Tryz.ntmps16
  go_wp2_with fail
  refine (Hd.out _).mono ?_
  rintro e W1 ⟨rfl, b1⟩
  have hbl := below2 W1 (.cells #[.bool (sg f), .string (mg f)] 23) (.cells #[.bool (sg r), .string (mg r)] 23)
  have L1 := World.block_lt_of_cell? W1 _ (P0.keep b1).1
  have P1 := (P0.keep b1).keep hbl
  have S1 : ((W1.alloc (.cells #[.bool (sg f), .string (mg f)] 23)).alloc (.cells #[.bool (sg r), .string (mg r)] 23)).cell? ⟨W1.heap.size, 0, none⟩ = some (.bool (sg f)) := by simp [go_sem]
  have S2 : ((W1.alloc (.cells #[.bool (sg f), .string (mg f)] 23)).alloc (.cells #[.bool (sg r), .string (mg r)] 23)).cell? ⟨W1.heap.size, 1, none⟩ = some (.string (mg f)) := by simp [go_sem]
  have B1 := below_more (below_more B0 (Nat.le_refl _) b1) (Nat.le_refl _) hbl
  clear P0 B0 b1 hbl
  go_upto_region 2 with fail
  generalize ((W1.alloc (.cells #[.bool (sg f), .string (mg f)] 23)).alloc (.cells #[.bool (sg r), .string (mg r)] 23)) = W2 at *
  generalize W1.heap.size = p3 at *
  obtain ⟨r1, r2, r3, r4⟩ := P1
  go_wp2
  exact bodyPost_ret (v := .agg #[.bool (sg f), .string (mg f)]) (by simp [results, Tryz.results16, go_sem, r1, r2]) rfl ⟨rfl, (B1.setCell (by dsimp only; omega) _).setCell (by dsimp only; omega) _⟩

theorem pw_num (q : Rat) (m : Nat) : (q ^ m).num = q.num ^ m := rfl
theorem pw_den (q : Rat) (m : Nat) : (((q ^ m).den : Nat) : Int) = (q.den : Int) ^ m := by rw [Rat.den_pow]; exact Int.natCast_pow _ _
set_option maxRecDepth 100000 in
theorem rpow_any (v1 : Value) (q r : Rat) (k m : Nat) (w : World) (h1 : IsRat v1 q k) (hk : k ≤ 4000000) (hm : m ≤ 4096) (hb1 : m * nbits q.num.natAbs ≤ 65536) (hb2 : m * nbits q.den ≤ 65536) (hr : q ^ m = r) :
    Calls Tryz.prog 6 #[v1, .int .i64 (m : Int)] w (RatGood w r) := by
  have Hn := Lib.hid (show q.num ^ m = r.num by rw [← hr]; rfl)
  have Hd := Lib.hid (show (q.den : Int) ^ m = (r.den : Int) by rw [← hr]; exact (pw_den q m).symm)
  have H1 := Lib.hid h1
  have Hb := Lib.hid (show RatBd q (k + 1) by
    obtain ⟨_, _, _, _, n, d, _, h2, h3, rfl⟩ := h1
    exact ratBd_divInt h2.bd h3.bd)
  have Hb1 := Lib.hid hb1
  have Hb2 := Lib.hid (show m * nbits (q.den : Int).natAbs ≤ 65536 by rw [Int.natAbs_natCast]; exact hb2)
  clear hr hb1 hb2
  obtain ⟨na, sa, nb, sb, -, -, rfl, -⟩ := h1
  have P0 := ResRat.new (w.alloc (.cells #[.bool na, .string sa, .bool nb, .string sb] 25))
  rw [World.size_alloc] at P0
  have B0 := below2 w (.cells #[.bool na, .string sa, .bool nb, .string sb] 25) (.cells #[.bool false, .string ⟨#[]⟩, .bool false, .string ⟨#[]⟩] 25)
  have I1 := Lib.hid (isInt_mg Hb.out.1 (by omega))
  have I2 := Lib.hid (isInt_mg (show (q.den : Int).natAbs < _ by rw [Int.natAbs_natCast]; exact Hb.out.2) (by omega))
  go_enter Tryz.func6, Tryz.ntmps6
  go_wp2_with fail
  refine (rcanon_any _ q k _ H1.out).mono ?_
  rintro e W1 ⟨rfl, b1⟩
  have hbl := below1 W1 (.cells #[.bool (sg q.num), .string (mg q.num), .bool (sg (q.den : Int)), .string (mg (q.den : Int))] 25)
  have P1 := (P0.keep b1).keep hbl
  have S1 : RIn (W1.alloc (.cells #[.bool (sg q.num), .string (mg q.num), .bool (sg (q.den : Int)), .string (mg (q.den : Int))] 25)) W1.heap.size (sg q.num) (mg q.num) (sg (q.den : Int)) (mg (q.den : Int)) := RIn.new rfl
  have B1 := below_more (below_more B0 (Nat.le_refl _) b1) (Nat.le_refl _) hbl
  clear P0 B0 b1 hbl
  unfold ratV
  go_upto_region 2 with fail
  generalize W1.alloc (.cells #[.bool (sg q.num), .string (mg q.num), .bool (sg (q.den : Int)), .string (mg (q.den : Int))] 25) = W2 at *
  generalize W1.heap.size = p6 at *
  obtain ⟨t1, t2, t3, t4⟩ := id S1
  go_wp2_with fail
  refine (ipow_any _ q.num (k + 1) m _ I1.out hm Hb1.out).mono ?_
  rw [Hn.out]
  rintro e W3 ⟨rfl, b3⟩
  have hbl := below1 W3 (.cells #[.bool (sg r.num), .string (mg r.num)] 23)
  have P2 := (P1.keep b3).keep hbl
  have S2 := (S1.keep b3).keep hbl
  have x1 : (W3.alloc (.cells #[.bool (sg r.num), .string (mg r.num)] 23)).cell? ⟨W3.heap.size, 0, none⟩ = some (.bool (sg r.num)) := by simp [go_sem]
  have x2 : (W3.alloc (.cells #[.bool (sg r.num), .string (mg r.num)] 23)).cell? ⟨W3.heap.size, 1, none⟩ = some (.string (mg r.num)) := by simp [go_sem]
  have B2 := below_more (below_more B1 (Nat.le_refl _) b3) (Nat.le_refl _) hbl
  clear P1 S1 B1 b3 hbl t1 t2 t3 t4
  go_upto_region 3 with fail
  generalize W3.alloc (.cells #[.bool (sg r.num), .string (mg r.num)] 23) = W4 at *
  generalize W3.heap.size = p7 at *
  obtain ⟨t1, t2, t3, t4⟩ := id S2
  go_wp2_with fail
  refine (ipow_any _ (q.den : Int) (k + 1) m _ I2.out hm Hb2.out).mono ?_
  rw [Hd.out]
  rintro e W5 ⟨rfl, b5⟩
  have hbl := below1 W5 (.cells #[.bool (sg (r.den : Int)), .string (mg (r.den : Int))] 23)
  have P3 := (P2.keep b5).keep hbl
  have y1 := cell_keep (cell_keep x1 b5) hbl
  have y2 := cell_keep (cell_keep x2 b5) hbl
  have y3 : (W5.alloc (.cells #[.bool (sg (r.den : Int)), .string (mg (r.den : Int))] 23)).cell? ⟨W5.heap.size, 0, none⟩ = some (.bool (sg (r.den : Int))) := by simp [go_sem]
  have y4 : (W5.alloc (.cells #[.bool (sg (r.den : Int)), .string (mg (r.den : Int))] 23)).cell? ⟨W5.heap.size, 1, none⟩ = some (.string (mg (r.den : Int))) := by simp [go_sem]
  have B3 := below_more (below_more B2 (Nat.le_refl _) b5) (Nat.le_refl _) hbl
  clear P2 S2 B2 b5 hbl t1 t2 t3 t4 x1 x2
  go_upto_region 6 with fail
  generalize W5.alloc (.cells #[.bool (sg (r.den : Int)), .string (mg (r.den : Int))] 23) = W6 at *
  generalize W5.heap.size = p9 at *
  obtain ⟨⟨r1, r2, r3, r4⟩, r5, r6, r7, r8⟩ := P3
  go_wp2
  exact bodyPost_ret (v := .tuple #[ratV r, .int .i64 0]) (by simp [results, Tryz.results6, go_sem, r1, r2, r3, r4, ratV]) rfl ⟨rfl, below4s B3 _ (by omega) _ _ _ _⟩

set_option maxRecDepth 100000 in
theorem rcheck_any (na nb : Bool) (sa sb : ByteArray) (q : Rat) (c : Bool) (k : Nat) (w : World) (h1 : IsRat (.agg #[.bool na, .string sa, .bool nb, .string sb]) q k) (hc : sameR na sa nb sb (sg q.num) (mg q.num) (sg (q.den : Int)) (mg (q.den : Int)) = c) :
    Calls Tryz.prog 18 #[.agg #[.bool na, .string sa, .bool nb, .string sb]] w fun e w' => e = .returned (.int .i64 (if c then 0 else 1)) ∧ Below w.heap.size w w' := by
  have Hc := Lib.hid hc
  have H1 := Lib.hid h1
  clear hc h1
  have B0 := below1 w (.cells #[.bool na, .string sa, .bool nb, .string sb] 25)
  have S0 : RIn (w.alloc (.cells #[.bool na, .string sa, .bool nb, .string sb] 25)) w.heap.size na sa nb sb := RIn.new rfl
  go_enter Tryz.func18, Tryz.ntmps18
  go_upto_region 1 with fail
  generalize w.alloc (.cells #[.bool na, .string sa, .bool nb, .string sb] 25) = W0 at *
  have S1 : RIn W0.drew w.heap.size na sa nb sb := S0
  go_region_held3 (fun W => W.cell? ⟨w.heap.size, 0, none⟩ = some (.bool na) ∧ W.cell? ⟨w.heap.size, 1, none⟩ = some (.string sa) ∧ W.cell? ⟨w.heap.size, 2, none⟩ = some (.bool nb) ∧ W.cell? ⟨w.heap.size, 3, none⟩ = some (.string sb)) (first | exact S0 | exact S1 | exact RIn.keep S1 (by assumption) | go_keep)
    (first
      | (go_at_call 19; refine (rcanon_any _ q k _ H1.out).mono ?_; rintro e W1 ⟨rfl, b1⟩; unfold ratV))
  all_goals
    rw [Hc.out]
    cases c
    · go_wp2
      go_ret
      exact ⟨rfl, below_more B0.drew (Nat.le_refl _) b1⟩
    · go_wp2
      go_ret
      exact ⟨rfl, below_more B0.drew (Nat.le_refl _) b1⟩
end Go.Proofs.YtcljkdninmldiaaGreatDoor

namespace Go.Proofs.YtcljkdninmldiaaGreatDoor
open Go.RowKit

/-- What the run leads to: low a / b, high c / d, the last two convergents ln / ld and nn / nd. -/
inductive Sim : Int → Int → Int → Int → Int → Int → Int → Int → Int → Int → Prop
  | whole {a b c d ln ld nn nd : Int} (h : a % b = 0) : Sim a b c d ln ld nn nd (a / b * nn + ln) (a / b * nd + ld)
  | above {a b c d ln ld nn nd : Int} (h : a % b ≠ 0) (h2 : a / b ≠ c / d) : Sim a b c d ln ld nn nd ((a / b + 1) * nn + ln) ((a / b + 1) * nd + ld)
  | more {a b c d ln ld nn nd rn rd : Int} (h : a % b ≠ 0) (h2 : a / b = c / d) (k : Sim d (c % d) b (a % b) nn nd (a / b * nn + ln) (a / b * nd + ld) rn rd) : Sim a b c d ln ld nn nd rn rd

/-- What holds between two rounds. -/
def Inv (M a b c d ln ld nn nd : Int) : Prop :=
  (0 < a ∧ 0 < b ∧ 0 < c ∧ 0 < d) ∧ (0 ≤ ln ∧ 0 ≤ ld ∧ 0 ≤ nn ∧ 0 ≤ nd) ∧ a * d ≤ c * b ∧ (a ≤ M ∧ b ≤ M ∧ c ≤ M ∧ d ≤ M) ∧
  (nn * a + ln * b ≤ M ∧ nd * a + ld * b ≤ M) ∧ (nn * c + ln * d ≤ M ∧ nd * c + ld * d ≤ M)
theorem inv_start {M a b c d : Int} (h1 : 0 < a) (h2 : 0 < b) (h3 : 0 < c) (h4 : 0 < d) (h5 : a * d ≤ c * b) (m1 : a ≤ M) (m2 : b ≤ M) (m3 : c ≤ M) (m4 : d ≤ M) : Inv M a b c d 0 1 1 0 := by
  refine ⟨⟨h1, h2, h3, h4⟩, ⟨by omega, by omega, by omega, by omega⟩, h5, ⟨m1, m2, m3, m4⟩, ⟨?_, ?_⟩, ⟨?_, ?_⟩⟩ <;> simp <;> omega
theorem comb_le {p q a b M : Int} (hp : 0 ≤ p) (hq : 0 ≤ q) (ha : 0 < a) (hb : 0 < b) (h : p * a + q * b ≤ M) : p ≤ M ∧ q ≤ M := by
  have h1 : p * 1 ≤ p * a := Int.mul_le_mul_of_nonneg_left (by omega) hp
  have h2 : q * 1 ≤ q * b := Int.mul_le_mul_of_nonneg_left (by omega) hq
  have h3 : 0 ≤ p * a := Int.mul_nonneg hp (by omega)
  have h4 : 0 ≤ q * b := Int.mul_nonneg hq (by omega)
  omega
theorem Inv.le {M a b c d ln ld nn nd : Int} (h : Inv M a b c d ln ld nn nd) : ln ≤ M ∧ ld ≤ M ∧ nn ≤ M ∧ nd ≤ M := by
  obtain ⟨⟨h1, h2, _, _⟩, ⟨k1, k2, k3, k4⟩, _, _, ⟨c1, c2⟩, _⟩ := h
  have e1 := comb_le k3 k1 h1 h2 c1
  have e2 := comb_le k4 k2 h1 h2 c2
  exact ⟨e1.2, e2.2, e1.1, e2.1⟩
theorem quot_le {a b c d : Int} (hb : 0 < b) (hd : 0 < d) (h : a * d ≤ c * b) : a / b ≤ c / d := by
  rw [Int.le_ediv_iff_mul_le hd]
  have h1 : a / b * b ≤ a := Int.ediv_mul_le a (by omega)
  have h2 : a / b * b * d ≤ a * d := Int.mul_le_mul_of_nonneg_right h1 (by omega)
  have h3 : a / b * d * b ≤ c * b := by rw [Int.mul_right_comm]; omega
  exact Int.le_of_mul_le_mul_right h3 hb
theorem Inv.terms {M a b c d ln ld nn nd : Int} (h : Inv M a b c d ln ld nn nd) : 0 ≤ a / b ∧ a / b ≤ M ∧ 0 ≤ c / d ∧ c / d ≤ M ∧ 0 ≤ a % b ∧ a % b < b ∧ 0 ≤ c % d ∧ c % d < d ∧ a / b ≤ c / d := by
  obtain ⟨⟨h1, h2, h3, h4⟩, _, h5, ⟨m1, m2, m3, m4⟩, _⟩ := h
  have e1 : a / b ≤ a := Int.ediv_le_self _ (by omega)
  have e2 : c / d ≤ c := Int.ediv_le_self _ (by omega)
  exact ⟨Int.ediv_nonneg (by omega) (by omega), by omega, Int.ediv_nonneg (by omega) (by omega), by omega, Int.emod_nonneg _ (by omega), Int.emod_lt_of_pos _ h2, Int.emod_nonneg _ (by omega), Int.emod_lt_of_pos _ h4, quot_le h2 h4 h5⟩
theorem Inv.step {M a b c d ln ld nn nd : Int} (h : Inv M a b c d ln ld nn nd) (h0 : a % b ≠ 0) (he : a / b = c / d) : Inv M d (c % d) b (a % b) nn nd (a / b * nn + ln) (a / b * nd + ld) := by
  obtain ⟨t1, t2, t3, t4, t5, t6, t7, t8, t9⟩ := h.terms
  obtain ⟨⟨h1, h2, h3, h4⟩, ⟨k1, k2, k3, k4⟩, h5, ⟨m1, m2, m3, m4⟩, ⟨c1, c2⟩, ⟨c3, c4⟩⟩ := h
  have ea := Int.mul_ediv_add_emod a b
  have ec := Int.mul_ediv_add_emod c d
  rw [← he] at ec
  generalize a / b = t at *
  generalize a % b = r at *
  generalize c % d = s at *
  clear he
  subst ea
  subst ec
  have hrs : r * d ≤ s * b := by
    have e1 : (b * t + r) * d = b * t * d + r * d := Int.add_mul _ _ _
    have e2 : (d * t + s) * b = b * t * d + s * b := by rw [Int.add_mul, Int.mul_right_comm, Int.mul_comm d b, Int.mul_right_comm]
    omega
  have hs0 : 0 < s := by
    rcases Int.lt_or_le 0 s with h9 | h9
    · exact h9
    · exfalso
      have h10 : s = 0 := by omega
      rw [h10, Int.zero_mul] at hrs
      have h11 : 0 < r * d := Int.mul_pos (by omega) h4
      omega
  have n1 : 0 ≤ t * nn := Int.mul_nonneg t1 k3
  have n2 : 0 ≤ t * nd := Int.mul_nonneg t1 k4
  refine ⟨⟨h4, hs0, h2, by omega⟩, ⟨k3, k4, by omega, by omega⟩, ?_, ⟨m4, by omega, m2, by omega⟩, ⟨?_, ?_⟩, ⟨?_, ?_⟩⟩
  · rw [Int.mul_comm d r, Int.mul_comm b s]; exact hrs
  · have e : (t * nn + ln) * d + nn * s = nn * (d * t + s) + ln * d := by grind
    omega
  · have e : (t * nd + ld) * d + nd * s = nd * (d * t + s) + ld * d := by grind
    omega
  · have e : (t * nn + ln) * b + nn * r = nn * (b * t + r) + ln * b := by grind
    omega
  · have e : (t * nd + ld) * b + nd * r = nd * (b * t + r) + ld * b := by grind
    omega
theorem qD_pos {a b : Int} (h : 0 < b) : qD a b = a / b ∧ rD a b = a % b := by
  obtain ⟨s1, s2, s3⟩ := qD_spec (a := a) (b := b) (by omega)
  have e1 := Int.mul_ediv_add_emod a b
  have e2 := Int.emod_nonneg a (b := b) (by omega)
  have e3 := Int.emod_lt_of_pos a h
  exact div_one s1 (by rw [Int.mul_comm]; exact e1) ⟨s2, s3⟩ ⟨fun _ => by omega, fun _ => by omega⟩ (by omega)
end Go.Proofs.YtcljkdninmldiaaGreatDoor

namespace Go.Proofs.YtcljkdninmldiaaGreatDoor
open Go.RowKit

/-- No deferred call. -/
def plainOp (o : Oper) : Bool := match o.op with
  | .defer _ => false
  | _ => true
theorem row_in_round {l n : Nat} {P : Program} {row : String} {args : Array Value} {w : World} {R : Value → World → Prop} (h : Rows P row args w R) : RowsIn (Fence.wide.inRound l) n P row args w R := by
  have h' : RowsIn Fence.wide n P row args w R := fun c cs _ => let ⟨v, w', r, s⟩ := h c cs; ⟨v, w', r, stepsIn_wide.2 s⟩
  exact h'
theorem no_depth {l n : Nat} (e : (Fence.wide.inRound l).depth.isSome = true) : 1 ≤ n := by simp [Fence.inRound, Fence.wide] at e

theorem op_in_round {l n : Nat} {P : Program} {o : Oper} {a : Act} {w : World} {K : Act → World → Prop} {Q : Exit → Act → World → Prop} (hd : plainOp o = true) (h : o.wp P a w K Q) :
    o.wpIn (Fence.wide.inRound l) n P a w K Q := by
  unfold Oper.wp at h
  unfold Oper.wpIn
  refine ⟨fun _ _ => trivial, ?_⟩
  rw [show (Fence.wide.inRound l).round = some l from rfl, Oper.semAt_some l _ _ (fun c e => by unfold plainOp at hd; rw [e] at hd; cases hd)]
  generalize (execOp a.eval o).run P w = r at *
  cases r with
  | ok x w' =>
    cases x <;> simp only [Oper.upon, Oper.uponIn] at h ⊢
    all_goals first
      | exact h
      | exact ⟨no_depth, CallsIn.inRound l (callsIn_wide.2 h)⟩
      | exact ⟨no_depth, row_in_round h⟩
      | exact h.elim
  | halt x w' => cases x <;> simp only [Oper.upon, Oper.uponIn] at h ⊢ <;> exact h

theorem any_in_round {l n : Nat} {P : Program} {md : Region.Mode} {ops : Array Oper} {Q : Exit → Act → World → Prop} (hd : ∀ (i : Nat) o, ops[i]? = some o → plainOp o = true) (hq : ¬ LetsOut Q) :
    ∀ (fuel : Nat) (listed : Array Bool) (a : Act) (w : World), wpAny P md ops Q fuel listed a w → wpAnyIn (Fence.wide.inRound l) n P md ops Q fuel listed a w
  | 0, _, _, _, h => h
  | fuel + 1, _, _, _, h => ⟨h.1, fun i hi => by
    have h1 := h.2 i hi
    unfold wpOp at h1
    unfold wpOpIn
    cases ho : ops[i]? with
    | none => rw [ho] at h1; exact any_in_round hd hq fuel _ _ _ h1
    | some o =>
      rw [ho] at h1
      dsimp only at h1 ⊢
      split
      · rename_i hw
        rw [if_pos hw] at h1
        rcases h1 with h1 | h1
        · exact Oper.wpIn_mono (fun a w => any_in_round hd hq fuel _ a w) (op_in_round (hd i o ho) h1)
        · exact absurd h1.2 hq
      · rename_i hw
        rw [if_neg hw] at h1
        exact ⟨fun _ _ => trivial, any_in_round hd hq fuel _ _ _ h1⟩⟩

theorem region_in_round {l n : Nat} {P : Program} {id : Nat} {ops : Array Oper} {Q : Exit → Act → World → Prop} {S : World → Prop} {a : Act} {w : World} (hm : P.follows .mixedOrders = true)
    (hd : ∀ (i : Nat) o, ops[i]? = some o → plainOp o = true) (hq : ¬ LetsOut Q) (hS : S w.drew) (h : S w.drew → wpAnyH P .any ops Q S ops.size (Array.replicate ops.size false) a w.drew) :
    (Code.region id ops true).wpIn (Fence.wide.inRound l) n P Q a w :=
  wpIn_region_any hm (any_in_round hd hq _ _ _ _ (wpAny_of_held _ _ _ _ (h hS)))

/-- Whatever order is picked, T holding behind every operation: T may hang on what has come up, so that what a late store overwrites need hold before it alone. -/
def wpAnyT (P : Program) (md : Region.Mode) (ops : Array Oper) (Q : Exit → Act → World → Prop) (T : Array Bool → World → Prop) : Nat → Array Bool → Act → World → Prop
  | 0, listed, a, w => Region.ready md ops listed = [] ∧ Q .normal a w
  | fuel + 1, listed, a, w =>
    (Region.ready md ops listed = [] → Q .normal a w) ∧
    ∀ i ∈ Region.ready md ops listed, wpOp P ops Q i (fun a' w' => T (listed.setIfInBounds i true) w' ∧ wpAnyT P md ops Q T fuel (listed.setIfInBounds i true) a' w') a w

section
variable {P : Program} {md : Region.Mode} {ops : Array Oper} {Q : Exit → Act → World → Prop} {T : Array Bool → World → Prop} {S : World → Prop}

theorem any_of_T : ∀ (fuel : Nat) (listed : Array Bool) (a : Act) (w : World), wpAnyT P md ops Q T fuel listed a w → wpAny P md ops Q fuel listed a w
  | 0, _, _, _, h => h
  | fuel + 1, _, _, _, h => ⟨h.1, fun i hi => wpOp_mono (fun a' w' h' => any_of_T fuel _ a' w' h'.2) (h.2 i hi)⟩

/-- An operation i may be taken first while a later one, s, that waits for it has not come up. -/
theorem firstT {i s : Nat} {oi : Oper} {v : Value} (hi : ops[i]? = some oi) (hsel : ∀ (j : Nat) (o : Oper) cs b, ops[j]? = some o → o.op ≠ .select cs b)
    (hQ : ∀ c a w, Q (.panic c) (a.put oi.dst v) w → Q (.panic c) a w)
    (hdep : ∃ os, ops[s]? = some os ∧ ∃ e ∈ os.after, Region.binds md e = true ∧ e.on = i) (his : i ≠ s)
    (hT : ∀ l w, l.getD s true = false → T l w → S w) (hind : ∀ l w, T (l.setIfInBounds i true) w ↔ T l w) :
    ∀ (fuel : Nat) (listed : Array Bool) (a : Act) (w : World),
      (∀ j oj, ops[j]? = some oj → j ≠ i → listed.getD j true = false → (∀ e ∈ oj.after, Region.binds md e = true → e.on ≠ i) → oi.apart ops oj = true) →
      i ∈ Region.ready md ops listed → YieldsIf P ops S oi v a → listed.getD s true = false → T listed w →
      wpAnyT P md ops Q T fuel (listed.setIfInBounds i true) (a.put oi.dst v) w → wpAnyT P md ops Q T (fuel + 1) listed a w := by
  intro fuel
  induction fuel with
  | zero =>
    intro listed a w _ hr hy hs hTw H
    refine ⟨fun h => (by rw [h] at hr; cases hr), fun j hj => ?_⟩
    by_cases hji : j = i
    · subst hji; exact hy.wpOp hi (hT _ _ hs hTw) ⟨(hind _ _).2 hTw, H⟩
    · have := ready_mono hj hji
      rw [H.1] at this
      cases this
  | succ fuel ih =>
    intro listed a w hfree hr hy hs hTw H
    refine ⟨fun h => (by rw [h] at hr; cases hr), fun j hj => ?_⟩
    by_cases hji : j = i
    · subst hji; exact hy.wpOp hi (hT _ _ hs hTw) ⟨(hind _ _).2 hTw, H⟩
    · have h1 := H.2 j (ready_mono hj hji)
      obtain ⟨hjun, oj, hoj, hall⟩ := mem_ready.1 hj
      have hnot : ∀ e ∈ oj.after, Region.binds md e = true → e.on ≠ i := fun e he hb heq => by
        have k1 := hall e he hb
        have k0 := (mem_ready.1 hr).1
        rw [heq] at k1
        rcases Nat.lt_or_ge i listed.size with h' | h'
        · simp [h'] at k0 k1; rw [k0] at k1; cases k1
        · simp [Array.getElem?_eq_none h'] at k1
      have hjs : j ≠ s := fun e => by
        obtain ⟨os, hos, e1, he1, hb1, hon⟩ := hdep
        subst e
        rw [hoj] at hos
        injection hos with hos
        subst hos
        exact hnot e1 he1 hb1 hon
      have h2 := wpOp_putIf hoj (hfree j oj hoj hji hjun hnot) (fun cs b => hsel i oi cs b hi) (fun cs b => hsel j oj cs b hoj) hQ hy h1
      refine wpOp_mono (fun a' w' h3 => ?_) h2
      have hcomm := Array.setIfInBounds_comm (xs := listed) true true (Ne.symm hji)
      obtain ⟨h4, h5, h6⟩ := h3
      rw [hcomm] at h5 h6
      have h7 := (hind _ _).1 h5
      refine ⟨h7, ih (listed.setIfInBounds j true) a' w' (fun k ok hk hki hun hno => hfree k ok hk hki ?_ hno) (ready_mono hr (Ne.symm hji)) h4 ?_ h7 h6⟩
      · by_cases hjk : j = k
        · subst hjk; exact hjun
        · rw [getD_set_ne true hjk] at hun; exact hun
      · rw [getD_set_ne true hjs]; exact hs

/-- What holds till the operation s1, and what holds till s2. -/
def T2 (s1 s2 : Nat) (S1 S2 : World → Prop) (l : Array Bool) (w : World) : Prop := (l.getD s1 true = false → S1 w) ∧ (l.getD s2 true = false → S2 w)
def waitsFor (md : Region.Mode) (ops : Array Oper) (s i : Nat) : Bool := match ops[s]? with
  | some o => o.after.any fun e => Region.binds md e && e.on == i
  | none => false
theorem waitsFor_spec {s i : Nat} (h : waitsFor md ops s i = true) : ∃ os, ops[s]? = some os ∧ ∃ e ∈ os.after, Region.binds md e = true ∧ e.on = i := by
  unfold waitsFor at h
  cases ho : ops[s]? with
  | none => rw [ho] at h; cases h
  | some o =>
    rw [ho] at h
    rw [Array.any_eq_true'] at h
    obtain ⟨e, he, h1⟩ := h
    rw [Bool.and_eq_true, beq_iff_eq] at h1
    exact ⟨o, rfl, e, he, h1.1, h1.2⟩
theorem T2_ind {s1 s2 i : Nat} {S1 S2 : World → Prop} (h1 : i ≠ s1) (h2 : i ≠ s2) (l : Array Bool) (w : World) : T2 s1 s2 S1 S2 (l.setIfInBounds i true) w ↔ T2 s1 s2 S1 S2 l w := by
  unfold T2
  rw [getD_set_ne true h1, getD_set_ne true h2]
theorem take1 {i s1 s2 : Nat} {S1 S2 : World → Prop} {oi : Oper} {v : Value} {fuel : Nat} {listed : Array Bool} {a : Act} {w : World} (hi : ops[i]? = some oi)
    (hs : Region.noSelect ops = true) (hf : Region.free md ops listed i = true) (hr : (Region.ready md ops listed).contains i = true) (hw : waitsFor md ops s1 i = true) (hl : listed.getD s1 true = false) (h1 : i ≠ s1) (h2 : i ≠ s2)
    (hQ : ∀ c a w, Q (.panic c) (a.put oi.dst v) w → Q (.panic c) a w) (hy : YieldsIf P ops S1 oi v a) (hS1 : S1 w) (hS2 : S2 w)
    (h : wpAnyT P md ops Q (T2 s1 s2 S1 S2) fuel (listed.setIfInBounds i true) (a.put oi.dst v) w) : wpAnyT P md ops Q (T2 s1 s2 S1 S2) (fuel + 1) listed a w :=
  firstT hi (Region.noSelect_spec hs) hQ (waitsFor_spec hw) h1 (fun _ _ hl hT => hT.1 hl) (T2_ind h1 h2) fuel listed a w (Region.free_spec hi hf) (by simpa using hr) hy hl ⟨fun _ => hS1, fun _ => hS2⟩ h
theorem take2 {i s1 s2 : Nat} {S1 S2 : World → Prop} {oi : Oper} {v : Value} {fuel : Nat} {listed : Array Bool} {a : Act} {w : World} (hi : ops[i]? = some oi)
    (hs : Region.noSelect ops = true) (hf : Region.free md ops listed i = true) (hr : (Region.ready md ops listed).contains i = true) (hw : waitsFor md ops s2 i = true) (hl : listed.getD s2 true = false) (h1 : i ≠ s1) (h2 : i ≠ s2)
    (hQ : ∀ c a w, Q (.panic c) (a.put oi.dst v) w → Q (.panic c) a w) (hy : YieldsIf P ops S2 oi v a) (hS1 : S1 w) (hS2 : S2 w)
    (h : wpAnyT P md ops Q (T2 s1 s2 S1 S2) fuel (listed.setIfInBounds i true) (a.put oi.dst v) w) : wpAnyT P md ops Q (T2 s1 s2 S1 S2) (fuel + 1) listed a w :=
  firstT hi (Region.noSelect_spec hs) hQ (waitsFor_spec hw) h2 (fun _ _ hl hT => hT.2 hl) (T2_ind h1 h2) fuel listed a w (Region.free_spec hi hf) (by simpa using hr) hy hl ⟨fun _ => hS1, fun _ => hS2⟩ h
/-- One operation alone can come up. -/
theorem stepT {i : Nat} {o : Oper} {fuel : Nat} {listed : Array Bool} {a : Act} {w : World} (hr : Region.ready md ops listed = [i]) (ho : ops[i]? = some o)
    (h : ∀ K' : Act → World → Prop, Shut (∀ a w, T (listed.setIfInBounds i true) w → wpAnyT P md ops Q T fuel (listed.setIfInBounds i true) a w → K' a w) → if Region.wanted o (yielded ops a.tmps) = true then Oper.wp P o a w K' Q else K' (a.put o.dst undef) w) :
    wpAnyT P md ops Q T (fuel + 1) listed a w :=
  by
  refine ⟨fun h0 => (by rw [hr] at h0; cases h0), fun j hj => ?_⟩
  rw [hr] at hj
  obtain rfl : j = i := by simpa using hj
  exact wpOp_step ho (fun K' hK => h K' (fun a w hS hW => hK a w ⟨hS, hW⟩))
theorem doneT {listed : Array Bool} {a : Act} {w : World} (hr : Region.ready md ops listed = []) (h : Q .normal a w) : ∀ fuel, wpAnyT P md ops Q T fuel listed a w
  | 0 => ⟨hr, h⟩
  | _ + 1 => ⟨fun _ => h, by rw [hr]; simp⟩
theorem all_plain (h : ops.all plainOp = true) : ∀ (i : Nat) o, ops[i]? = some o → plainOp o = true := fun i o ho => by
  rw [Array.all_eq_true'] at h
  exact h o (Array.mem_of_getElem? ho)
theorem regionT_in_round {l n id : Nat} {a : Act} {w : World} (hm : P.follows .mixedOrders = true) (hd : ops.all plainOp = true) (hq : ¬ LetsOut Q)
    (h : wpAnyT P .any ops Q T ops.size (Array.replicate ops.size false) a w.drew) : (Code.region id ops true).wpIn (Fence.wide.inRound l) n P Q a w :=
  wpIn_region_any hm (any_in_round (all_plain hd) hq _ _ _ _ (any_of_T _ _ _ _ h))
theorem regionT {id : Nat} {a : Act} {w : World} (hm : P.follows .mixedOrders = true) (h : wpAnyT P .any ops Q T ops.size (Array.replicate ops.size false) a w.drew) : (Code.region id ops true).wp P Q a w :=
  wp_region_any hm (any_of_T _ _ _ _ h)
end
end Go.Proofs.YtcljkdninmldiaaGreatDoor

namespace Go.Proofs.YtcljkdninmldiaaGreatDoor
open Go.RowKit Go.Shelf
attribute [local go_sem] Oper.semAt_some
set_option linter.unusedSimpArgs false
set_option linter.unusedVariables false

/-- A variable of the type api.Rat with these integers. -/
def RV (W : World) (p : Nat) (x y : Int) : Prop := RIn W p (sg x) (mg x) (sg y) (mg y) ∧ W.frozen? ⟨p, 0, none⟩ = false ∧ W.frozen? ⟨p, 1, none⟩ = false ∧ W.frozen? ⟨p, 2, none⟩ = false ∧ W.frozen? ⟨p, 3, none⟩ = false
theorem RV.keep {W W' : World} {p : Nat} {x y : Int} (h : RV W p x y) (hb : Below W.heap.size W W') : RV W' p x y :=
  ⟨h.1.keep hb, frozen_keep h.1.1 h.2.1 hb, frozen_keep h.1.2.1 h.2.2.1 hb, frozen_keep h.1.2.2.1 h.2.2.2.1 hb, frozen_keep h.1.2.2.2 h.2.2.2.2 hb⟩
theorem RV.put {W : World} {b l : Nat} {r : Loop} {x y : Int} (h : RV W b x y) (hl : W.heap[l]? = some (.loop r)) (o : Obj) : RV (W.putObj l o) b x y :=
  ⟨⟨cell_put hl o _ h.1.1, cell_put hl o _ h.1.2.1, cell_put hl o _ h.1.2.2.1, cell_put hl o _ h.1.2.2.2⟩, (frozen_put hl o _ h.1.1).trans h.2.1, (frozen_put hl o _ h.1.2.1).trans h.2.2.1, (frozen_put hl o _ h.1.2.2.1).trans h.2.2.2.1, (frozen_put hl o _ h.1.2.2.2).trans h.2.2.2.2⟩
theorem RV.new (W : World) (x y : Int) : RV (W.alloc (.cells #[.bool (sg x), .string (mg x), .bool (sg y), .string (mg y)] 25)) W.heap.size x y := by
  refine ⟨RIn.new rfl, ?_, ?_, ?_, ?_⟩ <;> simp [go_sem]

/-- Four cells of a block are stored. -/
def st4 (W : World) (p : Nat) (g1 : Bool) (s1 : ByteArray) (g2 : Bool) (s2 : ByteArray) : World := (((W.setCell ⟨p, 0, none⟩ (.bool g1)).setCell ⟨p, 1, none⟩ (.string s1)).setCell ⟨p, 2, none⟩ (.bool g2)).setCell ⟨p, 3, none⟩ (.string s2)
theorem st4_others (W : World) (p : Nat) (g1 g2 : Bool) (s1 s2 : ByteArray) : KeepsOthers W (st4 W p g1 s1 g2 s2) :=
  (((KeepsOthers.setCell W _ _).trans (KeepsOthers.setCell _ _ _)).trans (KeepsOthers.setCell _ _ _)).trans (KeepsOthers.setCell _ _ _)
theorem st4_frozen (W : World) (p : Nat) (g1 g2 : Bool) (s1 s2 : ByteArray) (q : Addr) : (st4 W p g1 s1 g2 s2).frozen? q = W.frozen? q := by
  unfold st4
  rw [World.frozen?_setCell, World.frozen?_setCell, World.frozen?_setCell, World.frozen?_setCell]
theorem st4_far {W : World} {p : Nat} {g1 g2 : Bool} {s1 s2 : ByteArray} {q : Addr} (h : q.block ≠ p) : (st4 W p g1 s1 g2 s2).cell? q = W.cell? q := by
  unfold st4
  rw [World.cell?_setCell_far _ _ _ _ (by exact fun e => h e.symm), World.cell?_setCell_far _ _ _ _ (by exact fun e => h e.symm), World.cell?_setCell_far _ _ _ _ (by exact fun e => h e.symm), World.cell?_setCell_far _ _ _ _ (by exact fun e => h e.symm)]
theorem st4_below {B : Nat} {W W1 : World} (h : Below B W W1) (p : Nat) (hp : B ≤ p) (g1 g2 : Bool) (s1 s2 : ByteArray) : Below B W (st4 W1 p g1 s1 g2 s2) := below4s h p hp _ _ _ _
theorem RV.st4 {W : World} {p : Nat} {x y : Int} (h : RV W p x y) (a b : Int) : RV (st4 W p (sg a) (mg a) (sg b) (mg b)) p a b :=
  ⟨RIn.made ⟨_, _, _, _, h.1.1, h.1.2.1, h.1.2.2.1, h.1.2.2.2⟩ _ _ _ _, (st4_frozen ..).trans h.2.1, (st4_frozen ..).trans h.2.2.1, (st4_frozen ..).trans h.2.2.2.1, (st4_frozen ..).trans h.2.2.2.2⟩
theorem RV.far {W : World} {p q : Nat} {x y : Int} (h : RV W p x y) (hne : p ≠ q) (g1 g2 : Bool) (s1 s2 : ByteArray) : RV (Go.Proofs.YtcljkdninmldiaaGreatDoor.st4 W q g1 s1 g2 s2) p x y :=
  ⟨⟨(st4_far (by exact hne)).trans h.1.1, (st4_far (by exact hne)).trans h.1.2.1, (st4_far (by exact hne)).trans h.1.2.2.1, (st4_far (by exact hne)).trans h.1.2.2.2⟩, (st4_frozen ..).trans h.2.1, (st4_frozen ..).trans h.2.2.1, (st4_frozen ..).trans h.2.2.2.1, (st4_frozen ..).trans h.2.2.2.2⟩
/-- What a round does: the last two convergents go on. -/
def StepDoes (B l D p x : Nat) (REC : Loop) (W W' : World) (nn nd a b : Int) : Prop :=
  W'.heap[l]? = some (.loop REC) ∧ W'.heap[D]? = some (.deferred (some [])) ∧ RV W' p nn nd ∧ RV W' x a b ∧ Below B W W' ∧
  (∀ q v, W.cell? q = some v → q.block ≠ p → q.block ≠ x → W'.cell? q = some v ∧ W'.frozen? q = W.frozen? q)
/-- A variable of the type api.Rat whose integers have these values. -/
def QV (W : World) (p : Nat) (a b : Int) (k : Nat) : Prop := ∃ g1 s1 g2 s2, RIn W p g1 s1 g2 s2 ∧ (W.frozen? ⟨p, 0, none⟩ = false ∧ W.frozen? ⟨p, 1, none⟩ = false ∧ W.frozen? ⟨p, 2, none⟩ = false ∧ W.frozen? ⟨p, 3, none⟩ = false) ∧ IsInt (.agg #[.bool g1, .string s1]) a k ∧ IsInt (.agg #[.bool g2, .string s2]) b k
/-- A variable of the type api.Rat with these four cells, which may be stored. -/
def FR (W : World) (p : Nat) (g1 : Bool) (s1 : ByteArray) (g2 : Bool) (s2 : ByteArray) : Prop := RIn W p g1 s1 g2 s2 ∧ W.frozen? ⟨p, 0, none⟩ = false ∧ W.frozen? ⟨p, 1, none⟩ = false ∧ W.frozen? ⟨p, 2, none⟩ = false ∧ W.frozen? ⟨p, 3, none⟩ = false
theorem FR.keep {W W' : World} {p : Nat} {g1 g2 : Bool} {s1 s2 : ByteArray} (h : FR W p g1 s1 g2 s2) (hb : Below W.heap.size W W') : FR W' p g1 s1 g2 s2 :=
  ⟨h.1.keep hb, frozen_keep h.1.1 h.2.1 hb, frozen_keep h.1.2.1 h.2.2.1 hb, frozen_keep h.1.2.2.1 h.2.2.2.1 hb, frozen_keep h.1.2.2.2 h.2.2.2.2 hb⟩
/-- What lies in memory in a round. -/
def Sd (l D p5 x bl bh : Nat) (REC : Loop) (g1 : Bool) (s1 : ByteArray) (g2 : Bool) (s2 : ByteArray) (g3 : Bool) (s3 : ByteArray) (g4 : Bool) (s4 : ByteArray) (ln ld nn nd : Int) (W : World) : Prop :=
  W.heap[l]? = some (.loop REC) ∧ W.heap[D]? = some (.deferred (some [])) ∧ RV W p5 ln ld ∧ RV W x nn nd ∧ FR W bl g1 s1 g2 s2 ∧ FR W bh g3 s3 g4 s4
theorem heap_keep {W W' : World} {l : Nat} {o : Obj} (h : W.heap[l]? = some o) (hb : Below W.heap.size W W') : W'.heap[l]? = some o := (hb.block _ (Array.getElem?_eq_some_iff.1 h).1).trans h
theorem Sd.keep {l D p5 x bl bh : Nat} {REC : Loop} {g1 g2 g3 g4 : Bool} {s1 s2 s3 s4 : ByteArray} {ln ld nn nd : Int} {W W' : World} (h : Sd l D p5 x bl bh REC g1 s1 g2 s2 g3 s3 g4 s4 ln ld nn nd W) (hb : Below W.heap.size W W') : Sd l D p5 x bl bh REC g1 s1 g2 s2 g3 s3 g4 s4 ln ld nn nd W' :=
  ⟨heap_keep h.1 hb, heap_keep h.2.1 hb, h.2.2.1.keep hb, h.2.2.2.1.keep hb, h.2.2.2.2.1.keep hb, h.2.2.2.2.2.keep hb⟩
/-- An integer in two cells. -/
def IC (W : World) (p : Nat) (z : Int) : Prop := W.cell? ⟨p, 0, none⟩ = some (.bool (sg z)) ∧ W.cell? ⟨p, 1, none⟩ = some (.string (mg z))
theorem IC.keep {W W' : World} {p : Nat} {z : Int} (h : IC W p z) (hb : Below W.heap.size W W') : IC W' p z := ⟨cell_keep h.1 hb, cell_keep h.2 hb⟩
theorem FR.st4 {W : World} {p : Nat} {g1 g2 : Bool} {s1 s2 : ByteArray} (h : FR W p g1 s1 g2 s2) (h1 h2 : Bool) (u1 u2 : ByteArray) : FR (st4 W p h1 u1 h2 u2) p h1 u1 h2 u2 :=
  ⟨RIn.made ⟨_, _, _, _, h.1.1, h.1.2.1, h.1.2.2.1, h.1.2.2.2⟩ _ _ _ _, (st4_frozen ..).trans h.2.1, (st4_frozen ..).trans h.2.2.1, (st4_frozen ..).trans h.2.2.2.1, (st4_frozen ..).trans h.2.2.2.2⟩
theorem FR.far {W : World} {p q : Nat} {g1 g2 : Bool} {s1 s2 : ByteArray} (h : FR W p g1 s1 g2 s2) (hne : p ≠ q) (h1 h2 : Bool) (u1 u2 : ByteArray) : FR (Go.Proofs.YtcljkdninmldiaaGreatDoor.st4 W q h1 u1 h2 u2) p g1 s1 g2 s2 :=
  ⟨⟨(st4_far (by exact hne)).trans h.1.1, (st4_far (by exact hne)).trans h.1.2.1, (st4_far (by exact hne)).trans h.1.2.2.1, (st4_far (by exact hne)).trans h.1.2.2.2⟩, (st4_frozen ..).trans h.2.1, (st4_frozen ..).trans h.2.2.1, (st4_frozen ..).trans h.2.2.2.1, (st4_frozen ..).trans h.2.2.2.2⟩
theorem FR.step {B l D p5 x bl : Nat} {REC : Loop} {W W' : World} {g1 g2 : Bool} {s1 s2 : ByteArray} {nn nd a b : Int} (h : FR W bl g1 s1 g2 s2) (hs : StepDoes B l D p5 x REC W W' nn nd a b) (n1 : bl ≠ p5) (n2 : bl ≠ x) : FR W' bl g1 s1 g2 s2 := by
  have k := hs.2.2.2.2.2
  have k1 := k _ _ h.1.1 n1 n2
  have k2 := k _ _ h.1.2.1 n1 n2
  have k3 := k _ _ h.1.2.2.1 n1 n2
  have k4 := k _ _ h.1.2.2.2 n1 n2
  exact ⟨⟨k1.1, k2.1, k3.1, k4.1⟩, k1.2.trans h.2.1, k2.2.trans h.2.2.1, k3.2.trans h.2.2.2.1, k4.2.trans h.2.2.2.2⟩
theorem IC.step {B l D p5 x p : Nat} {REC : Loop} {W W' : World} {z : Int} {nn nd a b : Int} (h : IC W p z) (hs : StepDoes B l D p5 x REC W W' nn nd a b) (n1 : p ≠ p5) (n2 : p ≠ x) : IC W' p z := by
  have k := hs.2.2.2.2.2
  exact ⟨(k _ _ h.1 n1 n2).1, (k _ _ h.2 n1 n2).1⟩
/-- What lies in memory between two rounds. -/
def Mid (B l D p5 x bl bh k : Nat) (M : Int) (REC : Loop) (W0 W : World) (a b c d ln ld nn nd : Int) : Prop :=
  W.heap[l]? = some (.loop REC) ∧ W.heap[D]? = some (.deferred (some [])) ∧ RV W p5 ln ld ∧ RV W x nn nd ∧ QV W bl a b k ∧ QV W bh c d k ∧ Inv M a b c d ln ld nn nd ∧ Below B W0 W
theorem nat_bd {z M : Int} {k : Nat} (h0 : 0 ≤ z) (h : z ≤ M) (hM : M.natAbs < 4294967296 ^ k) : z.natAbs < 4294967296 ^ k := by omega
theorem two_new (W : World) (t r : Int) {W2 : World} (hb : Below ((W.alloc (.cells #[.bool (sg t), .string (mg t)] 23)).alloc (.cells #[.bool (sg r), .string (mg r)] 23)).heap.size ((W.alloc (.cells #[.bool (sg t), .string (mg t)] 23)).alloc (.cells #[.bool (sg r), .string (mg r)] 23)) W2) :
    W2.cell? ⟨W.heap.size, 0, none⟩ = some (.bool (sg t)) ∧ W2.cell? ⟨W.heap.size, 1, none⟩ = some (.string (mg t)) ∧ W2.cell? ⟨W.heap.size + 1, 0, none⟩ = some (.bool (sg r)) ∧ W2.cell? ⟨W.heap.size + 1, 1, none⟩ = some (.string (mg r)) := by
  refine ⟨cell_keep (v := .bool (sg t)) ?_ hb, cell_keep (v := .string (mg t)) ?_ hb, cell_keep (v := .bool (sg r)) ?_ hb, cell_keep (v := .string (mg r)) ?_ hb⟩ <;> simp [go_sem]
/-- The integer whose sign and bytes two cells hold. -/
noncomputable def intAt (W : World) (p o : Nat) : Int := match W.cell? ⟨p, o, none⟩, W.cell? ⟨p, o + 1, none⟩ with
  | some (.bool g), some (.string s) => zv g s
  | _, _ => 0
theorem intAt_eq {W : World} {p o : Nat} {g : Bool} {s : ByteArray} {z : Int} {k : Nat} (h1 : W.cell? ⟨p, o, none⟩ = some (.bool g)) (h2 : W.cell? ⟨p, o + 1, none⟩ = some (.string s)) (h : IsInt (.agg #[.bool g, .string s]) z k) : intAt W p o = z := by
  obtain ⟨g', s', e, hz, _⟩ := h
  injection e with e
  simp only [Array.mk.injEq, List.cons.injEq, Value.bool.injEq, Value.string.injEq, and_true] at e
  obtain ⟨rfl, rfl⟩ := e
  unfold intAt
  rw [h1, h2]
  exact hz

set_option maxRecDepth 100000 in
set_option maxHeartbeats 6400000 in
theorem cterms_any (B l D p5 x bl bh k : Nat) (M : Int) (REC : Loop) (W0 : World) (P : Int → Int → Prop)
    (hY : ∀ W t ln ld nn nd, W.heap[l]? = some (.loop REC) → W.heap[D]? = some (.deferred (some [])) → RV W p5 ln ld → RV W x nn nd →
      IsInt (.agg #[.bool (sg t), .string (mg t)]) t k → IsInt (.agg #[.bool (sg ln), .string (mg ln)]) ln k → IsInt (.agg #[.bool (sg ld), .string (mg ld)]) ld k → IsInt (.agg #[.bool (sg nn), .string (mg nn)]) nn k → IsInt (.agg #[.bool (sg nd), .string (mg nd)]) nd k →
      YieldAt Fence.wide 6 Tryz.prog l #[.agg #[.bool (sg t), .string (mg t)]] W fun e W' => e = .returned (.bool true) ∧ StepDoes B l D p5 x REC W W' nn nd (t * nn + ln) (t * nd + ld))
    (e1 : p5 ≠ x) (e2 : bl ≠ bh) (e3 : bl ≠ p5) (e4 : bl ≠ x) (e5 : bh ≠ p5) (e6 : bh ≠ x) (f1 : B ≤ bl) (f2 : B ≤ bh) (f3 : B ≤ p5) (f4 : B ≤ x) (f5 : B ≤ W0.heap.size) (hM : M.natAbs < 4294967296 ^ k) (hk : k ≤ 1000000)
    (a b c d ln ld nn nd : Int) (W : World) (h0 : Mid B l D p5 x bl bh k M REC W0 W a b c d ln ld nn nd) (hP : ∀ rn rd, Sim a b c d ln ld nn nd rn rd → P rn rd) :
    CallsIn Fence.wide 7 Tryz.prog 92 #[.func (.yield l) #[] #[], .pointer (some ⟨bl, 0, none⟩), .pointer (some ⟨bh, 0, none⟩)] W fun e W' =>
      (∃ v, e = .returned v) ∧ W'.heap[l]? = some (.loop REC) ∧ W'.heap[D]? = some (.deferred (some [])) ∧ (∃ rn rd, P rn rd ∧ RV W' x rn rd) ∧ Below B W0 W' := by
  have HY := Lib.hid hY
  have HP := Lib.hid hP
  have HM := Lib.hid hM
  clear hY hP hM
  refine callsIn_of_wp Tryz.func92 rfl trivial ?_ rfl
  simp only [Tryz.ntmps92, List.size_toArray, List.length_cons, List.length_nil, Nat.reduceAdd, Nat.reduceSub, Array.replicate_succ, Array.replicate_zero, List.push_toArray, List.append_toArray, List.nil_append, List.cons_append]
  have hmx : Tryz.prog.follows .mixedOrders = true := by kernel_rfl
  gi_wp2
  gi_loopw [4] (fun _ wr => ∃ a b c d ln ld nn nd, Mid B l D p5 x bl bh k M REC W0 wr a b c d ln ld nn nd ∧ Hid (∀ rn rd, Sim a b c d ln ld nn nd rn rd → P rn rd)) (fun _ wr => (intAt wr bl 2 + intAt wr bh 2).toNat)
  case atStart => exact ⟨a, b, c, d, ln, ld, nn, nd, h0, HP⟩
  case round =>
    clear h0 HP
    obtain ⟨a, b, c, d, ln, ld, nn, nd, ⟨hl, hD, v5, v6, ⟨g1, s1, g2, s2, SL, FL, ia, ib⟩, ⟨g3, s3, g4, s4, SH, FH, ic, id'⟩, hinv, hB⟩, HP⟩ := hrel
    have Hmu := Lib.hid (show intAt wr bl 2 = b ∧ intAt wr bh 2 = d from ⟨intAt_eq SL.2.2.1 SL.2.2.2 ib, intAt_eq SH.2.2.1 SH.2.2.2 id'⟩)
    have Hinv := Lib.hid hinv
    have Hter := Lib.hid hinv.terms
    have Hle := Lib.hid hinv.le
    obtain ⟨t, Et⟩ : ∃ t, Hid (a / b = t) := ⟨_, Lib.hid rfl⟩
    obtain ⟨r, Er⟩ : ∃ t, Hid (a % b = t) := ⟨_, Lib.hid rfl⟩
    obtain ⟨u, Eu⟩ : ∃ t, Hid (c / d = t) := ⟨_, Lib.hid rfl⟩
    obtain ⟨v, Ev⟩ : ∃ t, Hid (c % d = t) := ⟨_, Lib.hid rfl⟩
    have Q1 := Lib.hid (show qD a b = t ∧ rD a b = r ∧ b ≠ 0 by have := hinv.1.2.1; exact ⟨(qD_pos this).1.trans Et.out, (qD_pos this).2.trans Er.out, by omega⟩)
    have Q2 := Lib.hid (show qD c d = u ∧ rD c d = v ∧ d ≠ 0 by have := hinv.1.2.2.2; exact ⟨(qD_pos this).1.trans Eu.out, (qD_pos this).2.trans Ev.out, by omega⟩)
    have Ia := Lib.hid ia
    have Ib := Lib.hid ib
    have Ic := Lib.hid ic
    have Idd := Lib.hid id'
    have Ht := Lib.hid (show 0 ≤ t ∧ t ≤ M ∧ 0 ≤ u ∧ u ≤ M ∧ 0 ≤ r ∧ r < b ∧ 0 ≤ v ∧ v < d ∧ t ≤ u by rw [← Et.out, ← Er.out, ← Eu.out, ← Ev.out]; exact hinv.terms)
    have Hb := Lib.hid (show b ≤ M ∧ d ≤ M from ⟨hinv.2.2.2.1.2.1, hinv.2.2.2.1.2.2.2⟩)
    have It := Lib.hid (isInt_mg (nat_bd Ht.out.1 Ht.out.2.1 HM.out) (show k ≤ 10000000 by omega))
    have Iu := Lib.hid (isInt_mg (nat_bd Ht.out.2.2.1 Ht.out.2.2.2.1 HM.out) (show k ≤ 10000000 by omega))
    have Ir := Lib.hid (isInt_mg (nat_bd Ht.out.2.2.2.2.1 (show r ≤ M by have h8 := Ht.out; have h9 := Hb.out; omega) HM.out) (show k ≤ 10000000 by omega))
    have Iv := Lib.hid (isInt_mg (nat_bd (z := v) (by have h8 := Ht.out; omega) (show v ≤ M by have h8 := Ht.out; have h9 := Hb.out; omega) HM.out) (show k ≤ 10000000 by omega))
    have Iln := Lib.hid (isInt_mg (nat_bd hinv.2.1.1 Hle.out.1 HM.out) (show k ≤ 10000000 by omega))
    have Ild := Lib.hid (isInt_mg (nat_bd hinv.2.1.2.1 Hle.out.2.1 HM.out) (show k ≤ 10000000 by omega))
    have Inn := Lib.hid (isInt_mg (nat_bd hinv.2.1.2.2.1 Hle.out.2.2.1 HM.out) (show k ≤ 10000000 by omega))
    have Ind := Lib.hid (isInt_mg (nat_bd hinv.2.1.2.2.2 Hle.out.2.2.2 HM.out) (show k ≤ 10000000 by omega))
    clear hinv ia ib ic id'
    have S0 : Sd l D p5 x bl bh REC g1 s1 g2 s2 g3 s3 g4 s4 ln ld nn nd wr := ⟨hl, hD, v5, v6, ⟨SL, FL⟩, ⟨SH, FH⟩⟩
    obtain ⟨q1, q2, q3, q4⟩ := id SL
    clear hl hD v5 v6 SL FL FH
    obtain ⟨Z, EZ⟩ : ∃ Z : Bool, Hid (decide (r = 0) = Z) := ⟨_, Lib.hid rfl⟩
    cases Z with
    | true =>
      gi_wp2_with (refine ⟨trivial, ?_⟩; first
        | (gi_at_call 42; (with_reducible refine (callsIn_wide.2 (ediv_eq Ia.out Ib.out Q1.out.2.2 Q1.out.1 Q1.out.2.1)).mono ?_); rintro e W1 ⟨rfl, b1⟩; have S1 := S0.keep b1; have SH1 := SH.keep b1; obtain ⟨h1, h2, h3, h4⟩ := id SH1; have m1 := SH1.lt; have B1 := below_more hB f5 b1; clear SH)
        | (gi_at_call 42; (with_reducible refine (callsIn_wide.2 (ediv_eq Ic.out Idd.out Q2.out.2.2 Q2.out.1 Q2.out.2.1)).mono ?_); rintro e W2 ⟨rfl, b2⟩; have c1 := two_new W1 t r b2; obtain ⟨c2, c3, c4, c5⟩ := id c1; have S2 := (S1.keep (below2 W1 _ _)).keep b2; have B2 := below_more (below_more B1 f5 (below2 W1 _ _)) f5 b2; have m2 := World.block_lt_of_cell? W2 _ c4; dsimp only at m2; have m3 : W1.heap.size < W2.heap.size := by omega)
        | (gi_at_call 93; (with_reducible refine (callsIn_wide.2 (isZero_any _ r k _ Ir.out)).mono ?_); rw [EZ.out]; rintro e W3 ⟨rfl, b3⟩
           have S3 := (S2.keep (below2 W2 (.cells #[.bool (sg u), .string (mg u)] 23) (.cells #[.bool (sg v), .string (mg v)] 23))).keep b3
           have B3 := below_more (below_more B2 f5 (below2 W2 (.cells #[.bool (sg u), .string (mg u)] 23) (.cells #[.bool (sg v), .string (mg v)] 23))) f5 b3
           have d2 := cell_keep (cell_keep c2 (below2 W2 (.cells #[.bool (sg u), .string (mg u)] 23) (.cells #[.bool (sg v), .string (mg v)] 23))) b3
           have d3 := cell_keep (cell_keep c3 (below2 W2 (.cells #[.bool (sg u), .string (mg u)] 23) (.cells #[.bool (sg v), .string (mg v)] 23))) b3
           obtain ⟨fn, tmps, assign, body, hrun, hR⟩ := HY.out W3 t ln ld nn nd S3.1 S3.2.1 S3.2.2.1 S3.2.2.2.1 It.out Iln.out Ild.out Inn.out Ind.out))
      refine hR.mono ?_
      rintro e W4 ⟨rfl, hst⟩
      have hsim : P (t * nn + ln) (t * nd + ld) := by
        have h1 := Sim.whole (c := c) (d := d) (ln := ln) (ld := ld) (nn := nn) (nd := nd) (show a % b = 0 by rw [Er.out]; exact of_decide_eq_true EZ.out)
        rw [Et.out] at h1
        exact HP.out _ _ h1
      have hfin := Lib.hid (show W4.heap[l]? = some (.loop REC) ∧ W4.heap[D]? = some (.deferred (some [])) ∧ (∃ rn rd, P rn rd ∧ RV W4 x rn rd) ∧ Below B W0 W4 from ⟨hst.1, hst.2.1, ⟨_, _, hsim, hst.2.2.2.1⟩, B3.trans hst.2.2.2.2.1⟩)
      clear hst S0 S1 S2 S3 b1 b2 b3 hR hrun
      gi_wp2
      exact bodyPost_ret (results_none rfl _ _ _) rfl ⟨⟨_, rfl⟩, hfin.out⟩
    | false =>
      obtain ⟨Z2, EZ2⟩ : ∃ Z2 : Bool, Hid (decide (t = u) = Z2) := ⟨_, Lib.hid rfl⟩
      cases Z2 with
      | true =>
        have En := Lib.hid (show cmpZ t u = 0 by have h := of_decide_eq_true EZ2.out; unfold cmpZ; rw [if_neg (by omega), if_neg (by omega)])
        gi_wp2_with (refine ⟨trivial, ?_⟩; first
          | (gi_at_call 42; (with_reducible refine (callsIn_wide.2 (ediv_eq Ia.out Ib.out Q1.out.2.2 Q1.out.1 Q1.out.2.1)).mono ?_); rintro e W1 ⟨rfl, b1⟩; have S1 := S0.keep b1; have SH1 := SH.keep b1; obtain ⟨h1, h2, h3, h4⟩ := id SH1; have m1 := SH1.lt; have B1 := below_more hB f5 b1; clear SH)
          | (gi_at_call 42; (with_reducible refine (callsIn_wide.2 (ediv_eq Ic.out Idd.out Q2.out.2.2 Q2.out.1 Q2.out.2.1)).mono ?_); rintro e W2 ⟨rfl, b2⟩; have c1 := two_new W1 t r b2; obtain ⟨c2, c3, c4, c5⟩ := id c1; have S2 := (S1.keep (below2 W1 _ _)).keep b2; have B2 := below_more (below_more B1 f5 (below2 W1 _ _)) f5 b2; have m2 := World.block_lt_of_cell? W2 _ c4; dsimp only at m2; have m3 : W1.heap.size < W2.heap.size := by omega)
          | (gi_at_call 93; (with_reducible refine (callsIn_wide.2 (isZero_any _ r k _ Ir.out)).mono ?_); rw [EZ.out]; rintro e W3 ⟨rfl, b3⟩
             have S3 := (S2.keep (below2 W2 (.cells #[.bool (sg u), .string (mg u)] 23) (.cells #[.bool (sg v), .string (mg v)] 23))).keep b3
             have B3 := below_more (below_more B2 f5 (below2 W2 (.cells #[.bool (sg u), .string (mg u)] 23) (.cells #[.bool (sg v), .string (mg v)] 23))) f5 b3
             have c6 := two_new W2 u v b3
             have T3 : IC W3 W1.heap.size t := (show IC W2 W1.heap.size t from ⟨c2, c3⟩).keep (below2 W2 (.cells #[.bool (sg u), .string (mg u)] 23) (.cells #[.bool (sg v), .string (mg v)] 23)) |>.keep b3
             have R3 : IC W3 (W1.heap.size + 1) r := (show IC W2 (W1.heap.size + 1) r from ⟨c4, c5⟩).keep (below2 W2 (.cells #[.bool (sg u), .string (mg u)] 23) (.cells #[.bool (sg v), .string (mg v)] 23)) |>.keep b3
             have V3 : IC W3 (W2.heap.size + 1) v := ⟨c6.2.2.1, c6.2.2.2⟩
             obtain ⟨d1, d2⟩ := id T3
             obtain ⟨d3, d4, _⟩ := id c6)
          | (gi_at_call 53; (with_reducible refine (callsIn_wide.2 (icmp_eq It.out Iu.out En.out)).mono ?_); rintro e W4 ⟨rfl, b4⟩
             have S4 := S3.keep b4
             have B4 := below_more B3 f5 b4
             have T4 := T3.keep b4
             have R4 := R3.keep b4
             have V4 := V3.keep b4
             have hm := Lib.hid (show W1.heap.size ≠ p5 ∧ W1.heap.size ≠ x ∧ W1.heap.size + 1 ≠ p5 ∧ W1.heap.size + 1 ≠ x ∧ W2.heap.size + 1 ≠ p5 ∧ W2.heap.size + 1 ≠ x ∧ bl ≠ W1.heap.size + 1 ∧ bl ≠ W2.heap.size + 1 ∧ bh ≠ W2.heap.size + 1 ∧ bh ≠ W1.heap.size + 1 from by
               have k1 := S1.2.2.1.1.lt
               have k2 := S1.2.2.2.1.1.lt
               have k3 := S1.2.2.2.2.1.1.lt
               refine ⟨?_, ?_, ?_, ?_, ?_, ?_, ?_, ?_, ?_, ?_⟩ <;> omega)
             clear S0 S1 S2 S3 b1 b2 b3 b4 T3 R3 V3 c1 c2 c3 c4 c5 c6 B1 B2 B3 hB d1 d2 d3 d4 q1 q2 q3 q4 h1 h2 h3 h4
             obtain ⟨p1, p2⟩ := id T4
             obtain ⟨fn, tmps, assign, body, hrun, hR⟩ := HY.out W4 t ln ld nn nd S4.1 S4.2.1 S4.2.2.1 S4.2.2.2.1 It.out Iln.out Ild.out Inn.out Ind.out))
        refine hR.mono ?_
        rintro e W5 ⟨rfl, hst⟩
        have T5 := T4.step hst hm.out.1 hm.out.2.1
        have R5 := R4.step hst hm.out.2.2.1 hm.out.2.2.2.1
        have V5 := V4.step hst hm.out.2.2.2.2.1 hm.out.2.2.2.2.2.1
        have L5 := S4.2.2.2.2.1.step hst e3 e4
        have H5 := S4.2.2.2.2.2.step hst e5 e6
        have B5 := B4.trans hst.2.2.2.2.1
        obtain ⟨x1, x2, x3, x4, _, _⟩ := hst
        clear S4 B4 T4 R4 V4 hR hrun p1 p2
        gi_wp2
        have SS : RIn W5.drew bl g1 s1 g2 s2 ∧ RIn W5.drew bh g3 s3 g4 s4 ∧ W5.drew.cell? ⟨W2.heap.size + 1, 0, none⟩ = some (.bool (sg v)) ∧ W5.drew.cell? ⟨W2.heap.size + 1, 1, none⟩ = some (.string (mg v)) ∧ W5.drew.cell? ⟨W1.heap.size + 1, 0, none⟩ = some (.bool (sg r)) ∧ W5.drew.cell? ⟨W1.heap.size + 1, 1, none⟩ = some (.string (mg r)) := ⟨L5.1, H5.1, V5.1, V5.2, R5.1, R5.2⟩
        have FFl : W5.drew.frozen? ⟨bl, 0, none⟩ = false ∧ W5.drew.frozen? ⟨bl, 1, none⟩ = false ∧ W5.drew.frozen? ⟨bl, 2, none⟩ = false ∧ W5.drew.frozen? ⟨bl, 3, none⟩ = false := L5.2
        have FFh : W5.drew.frozen? ⟨bh, 0, none⟩ = false ∧ W5.drew.frozen? ⟨bh, 1, none⟩ = false ∧ W5.drew.frozen? ⟨bh, 2, none⟩ = false ∧ W5.drew.frozen? ⟨bh, 3, none⟩ = false := H5.2
        have Hne := Lib.hid e2
        have e2' : bh ≠ bl := Ne.symm e2
        obtain ⟨⟨t9, t10, t11, t12⟩, ⟨t1, t2, t3, t4⟩, t5, t6, t7, t8⟩ := id SS
        obtain ⟨f6, f7, f8, f9⟩ := id FFl
        obtain ⟨f10, f11, f12, f13⟩ := id FFh
        refine wpIn_wide.2 (regionT (T := T2 8 9 (fun W => RIn W bl g1 s1 g2 s2) (fun W => RIn W bh g3 s3 g4 s4 ∧ W.cell? ⟨W2.heap.size + 1, 0, none⟩ = some (.bool (sg v)) ∧ W.cell? ⟨W2.heap.size + 1, 1, none⟩ = some (.string (mg v)) ∧ W.cell? ⟨W1.heap.size + 1, 0, none⟩ = some (.bool (sg r)) ∧ W.cell? ⟨W1.heap.size + 1, 1, none⟩ = some (.string (mg r)))) hmx ?_)
        have N1 : W5.drew.heap[l]? = some (.loop REC) := x1
        have N2 : W5.drew.heap[D]? = some (.deferred (some [])) := x2
        have N3 : RV W5.drew p5 nn nd := x3
        have N4 : RV W5.drew x (t * nn + ln) (t * nd + ld) := x4
        have N5 : FR W5.drew bl g1 s1 g2 s2 := L5
        have N6 : FR W5.drew bh g3 s3 g4 s4 := H5
        have N7 : Below B W0 W5.drew := B5.drew
        clear x1 x2 x3 x4 L5 H5 B5 T5 R5 V5
        generalize W5.drew = X at *
        refine take2 (i := 0) (oi := { dst := some 46, op := Op.fieldAddr 25 (Operand.tmp 2) 1, type := 0, pos := "simplest.go:57", after := #[], guard := none }) (v := ?_) rfl (by kernel_rfl) (by kernel_rfl) (by kernel_rfl) (by kernel_rfl) (by kernel_rfl) (by decide) (by decide) (fun _ _ _ h => h) (Or.inl ⟨by rfl, ?_⟩) (SS.1) (SS.2) ?_
        rotate_left
        · intro w hSw
          (try dsimp only at hSw)
          (try unfold RIn at hSw)
          go_simp
          all_goals with_reducible rfl
        (try simp only [Act.put, List.setIfInBounds_toArray, List.set_cons_zero, List.set_cons_succ])
        refine take2 (i := 1) (oi := { dst := some 47, op := Op.load 23 (Operand.tmp 46), type := 23, pos := "simplest.go:57", after := #[{ on := 0, ground := Ground.data }], guard := none }) (v := ?_) rfl (by kernel_rfl) (by kernel_rfl) (by kernel_rfl) (by kernel_rfl) (by kernel_rfl) (by decide) (by decide) (fun _ _ _ h => h) (Or.inl ⟨by rfl, ?_⟩) (SS.1) (SS.2) ?_
        rotate_left
        · intro w hSw
          (try dsimp only at hSw)
          (try unfold RIn at hSw)
          go_simp
          all_goals with_reducible rfl
        (try simp only [Act.put, List.setIfInBounds_toArray, List.set_cons_zero, List.set_cons_succ])
        refine take2 (i := 2) (oi := { dst := some 48, op := Op.load 23 (Operand.tmp 8), type := 23, pos := "simplest.go:57", after := #[], guard := none }) (v := ?_) rfl (by kernel_rfl) (by kernel_rfl) (by kernel_rfl) (by kernel_rfl) (by kernel_rfl) (by decide) (by decide) (fun _ _ _ h => h) (Or.inl ⟨by rfl, ?_⟩) (SS.1) (SS.2) ?_
        rotate_left
        · intro w hSw
          (try dsimp only at hSw)
          (try unfold RIn at hSw)
          go_simp
          all_goals with_reducible rfl
        (try simp only [Act.put, List.setIfInBounds_toArray, List.set_cons_zero, List.set_cons_succ])
        refine take2 (i := 3) (oi := { dst := some 49, op := Op.build 25 #[(0, Operand.tmp 47), (1, Operand.tmp 48)], type := 25, pos := "simplest.go:57", after := #[{ on := 1, ground := Ground.data }, { on := 2, ground := Ground.data }], guard := none }) (v := ?_) rfl (by kernel_rfl) (by kernel_rfl) (by kernel_rfl) (by kernel_rfl) (by kernel_rfl) (by decide) (by decide) (fun _ _ _ h => h) (Or.inl ⟨by rfl, ?_⟩) (SS.1) (SS.2) ?_
        rotate_left
        · intro w hSw
          (try dsimp only at hSw)
          (try unfold RIn at hSw)
          go_simp
          all_goals with_reducible rfl
        (try simp only [Act.put, List.setIfInBounds_toArray, List.set_cons_zero, List.set_cons_succ])
        refine take1 (i := 4) (oi := { dst := some 50, op := Op.fieldAddr 25 (Operand.tmp 1) 1, type := 0, pos := "simplest.go:57", after := #[], guard := none }) (v := ?_) rfl (by kernel_rfl) (by kernel_rfl) (by kernel_rfl) (by kernel_rfl) (by kernel_rfl) (by decide) (by decide) (fun _ _ _ h => h) (Or.inl ⟨by rfl, ?_⟩) (SS.1) (SS.2) ?_
        rotate_left
        · intro w hSw
          (try dsimp only at hSw)
          (try unfold RIn at hSw)
          go_simp
          all_goals with_reducible rfl
        (try simp only [Act.put, List.setIfInBounds_toArray, List.set_cons_zero, List.set_cons_succ])
        refine take1 (i := 5) (oi := { dst := some 51, op := Op.load 23 (Operand.tmp 50), type := 23, pos := "simplest.go:57", after := #[{ on := 4, ground := Ground.data }], guard := none }) (v := ?_) rfl (by kernel_rfl) (by kernel_rfl) (by kernel_rfl) (by kernel_rfl) (by kernel_rfl) (by decide) (by decide) (fun _ _ _ h => h) (Or.inl ⟨by rfl, ?_⟩) (SS.1) (SS.2) ?_
        rotate_left
        · intro w hSw
          (try dsimp only at hSw)
          (try unfold RIn at hSw)
          go_simp
          all_goals with_reducible rfl
        (try simp only [Act.put, List.setIfInBounds_toArray, List.set_cons_zero, List.set_cons_succ])
        refine take2 (i := 6) (oi := { dst := some 52, op := Op.load 23 (Operand.tmp 5), type := 23, pos := "simplest.go:57", after := #[], guard := none }) (v := ?_) rfl (by kernel_rfl) (by kernel_rfl) (by kernel_rfl) (by kernel_rfl) (by kernel_rfl) (by decide) (by decide) (fun _ _ _ h => h) (Or.inl ⟨by rfl, ?_⟩) (SS.1) (SS.2) ?_
        rotate_left
        · intro w hSw
          (try dsimp only at hSw)
          (try unfold RIn at hSw)
          go_simp
          all_goals with_reducible rfl
        (try simp only [Act.put, List.setIfInBounds_toArray, List.set_cons_zero, List.set_cons_succ])
        refine take2 (i := 7) (oi := { dst := some 53, op := Op.build 25 #[(0, Operand.tmp 51), (1, Operand.tmp 52)], type := 25, pos := "simplest.go:57", after := #[{ on := 5, ground := Ground.data }, { on := 6, ground := Ground.data }], guard := none }) (v := ?_) rfl (by kernel_rfl) (by kernel_rfl) (by kernel_rfl) (by kernel_rfl) (by kernel_rfl) (by decide) (by decide) (fun _ _ _ h => h) (Or.inl ⟨by rfl, ?_⟩) (SS.1) (SS.2) ?_
        rotate_left
        · intro w hSw
          (try dsimp only at hSw)
          (try unfold RIn at hSw)
          go_simp
          all_goals with_reducible rfl
        (try simp only [Act.put, List.setIfInBounds_toArray, List.set_cons_zero, List.set_cons_succ])
        refine stepT (i := 8) (o := { dst := none, op := Op.store 25 (Operand.tmp 1) (Operand.tmp 49), type := 0, pos := "simplest.go:57", after := #[{ on := 3, ground := Ground.data }, { on := 0, ground := Ground.phase }, { on := 1, ground := Ground.phase }, { on := 2, ground := Ground.phase }, { on := 3, ground := Ground.phase }, { on := 4, ground := Ground.phase }, { on := 5, ground := Ground.phase }, { on := 6, ground := Ground.textOnly Departure.lateStores }, { on := 7, ground := Ground.textOnly Departure.lateStoresUnsure }], guard := none }) (by kernel_rfl) rfl (fun K hK => ?_)
        go_simp
        refine hK.out _ _ ⟨fun h => absurd h (by decide), fun _ => ⟨⟨(st4_far (g1 := g4) (s1 := s4) (g2 := sg v) (s2 := mg v) (by exact e2')).trans t1, (st4_far (g1 := g4) (s1 := s4) (g2 := sg v) (s2 := mg v) (by exact e2')).trans t2, (st4_far (g1 := g4) (s1 := s4) (g2 := sg v) (s2 := mg v) (by exact e2')).trans t3, (st4_far (g1 := g4) (s1 := s4) (g2 := sg v) (s2 := mg v) (by exact e2')).trans t4⟩, (st4_far (g1 := g4) (s1 := s4) (g2 := sg v) (s2 := mg v) (by exact Ne.symm hm.out.2.2.2.2.2.2.2.1)).trans t5, (st4_far (g1 := g4) (s1 := s4) (g2 := sg v) (s2 := mg v) (by exact Ne.symm hm.out.2.2.2.2.2.2.2.1)).trans t6, (st4_far (g1 := g4) (s1 := s4) (g2 := sg v) (s2 := mg v) (by exact Ne.symm hm.out.2.2.2.2.2.2.1)).trans t7, (st4_far (g1 := g4) (s1 := s4) (g2 := sg v) (s2 := mg v) (by exact Ne.symm hm.out.2.2.2.2.2.2.1)).trans t8⟩⟩ ?_
        clear hK K
        (try simp only [Act.put, List.setIfInBounds_toArray, List.set_cons_zero, List.set_cons_succ])
        refine stepT (i := 9) (o := { dst := none, op := Op.store 25 (Operand.tmp 2) (Operand.tmp 53), type := 0, pos := "simplest.go:57", after := #[{ on := 7, ground := Ground.data }, { on := 8, ground := Ground.chain }, { on := 0, ground := Ground.phase }, { on := 1, ground := Ground.phase }, { on := 2, ground := Ground.phase }, { on := 3, ground := Ground.phase }, { on := 4, ground := Ground.phase }, { on := 5, ground := Ground.phase }, { on := 6, ground := Ground.phase }, { on := 7, ground := Ground.phase }, { on := 8, ground := Ground.phase }], guard := none }) (by kernel_rfl) rfl (fun K hK => ?_)
        go_simp
        refine hK.out _ _ ⟨fun h => absurd h (by decide), fun h => absurd h (by decide)⟩ ?_
        clear hK K
        (try simp only [Act.put, List.setIfInBounds_toArray, List.set_cons_zero, List.set_cons_succ])
        refine doneT (by kernel_rfl) ?_ _
        have hsx := (st4_others X bl g4 (sg v) s4 (mg v)).trans (st4_others _ bh g2 (sg r) s2 (mg r))
        have M3 := (show FR X p5 (sg nn) (mg nn) (sg nd) (mg nd) from N3).far (Ne.symm e3) g4 (sg v) s4 (mg v) |>.far (Ne.symm e5) g2 (sg r) s2 (mg r)
        have M4 := (show FR X x (sg (t * nn + ln)) (mg (t * nn + ln)) (sg (t * nd + ld)) (mg (t * nd + ld)) from N4).far (Ne.symm e4) g4 (sg v) s4 (mg v) |>.far (Ne.symm e6) g2 (sg r) s2 (mg r)
        have M5 := (N5.st4 g4 (sg v) s4 (mg v)).far e2 g2 (sg r) s2 (mg r)
        have M6 := (N6.far e2' g4 (sg v) s4 (mg v)).st4 g2 (sg r) s2 (mg r)
        have M7 := st4_below (st4_below N7 bl f1 g4 (sg v) s4 (mg v)) bh f2 g2 (sg r) s2 (mg r)
        have hr0 : r ≠ 0 := of_decide_eq_false EZ.out
        have htu : t = u := of_decide_eq_true EZ2.out
        have hI := Hinv.out.step (by rw [Er.out]; exact hr0) (by rw [Et.out, Eu.out]; exact htu)
        rw [Et.out, Er.out, Ev.out] at hI
        have hP' : ∀ rn rd, Sim d v b r nn nd (t * nn + ln) (t * nd + ld) rn rd → P rn rd := fun rn rd hs => HP.out rn rd (Sim.more (by rw [Er.out]; exact hr0) (by rw [Et.out, Eu.out]; exact htu) (by rw [Et.out, Er.out, Ev.out]; exact hs))
        gi_wp2
        refine ⟨⟨d, v, b, r, nn, nd, t * nn + ln, t * nd + ld, ⟨hsx.same l _ N1 rfl, hsx.same D _ N2 rfl, M3, M4, ⟨g4, s4, sg v, mg v, M5.1, M5.2, Idd.out, Iv.out⟩, ⟨g2, s2, sg r, mg r, M6.1, M6.2, Ib.out, Ir.out⟩, hI, M7⟩, Lib.hid hP'⟩, ?_⟩
        have q7 := intAt_eq M5.1.2.2.1 M5.1.2.2.2 Iv.out
        have q8 := intAt_eq M6.1.2.2.1 M6.1.2.2.2 Ir.out
        have q9 := Hmu.out
        have h8 := Ht.out
        show (intAt (st4 (st4 X bl g4 s4 (sg v) (mg v)) bh g2 s2 (sg r) (mg r)) bl 2 + intAt (st4 (st4 X bl g4 s4 (sg v) (mg v)) bh g2 s2 (sg r) (mg r)) bh 2).toNat < _
        rw [q7, q8, q9.1, q9.2]
        omega
      | false =>
        have En := Lib.hid (show cmpZ t u = -1 by have h := of_decide_eq_false EZ2.out; have h8 := Ht.out; unfold cmpZ; rw [if_pos (by omega)])
        gi_wp2_with (refine ⟨trivial, ?_⟩; first
          | (gi_at_call 42; (with_reducible refine (callsIn_wide.2 (ediv_eq Ia.out Ib.out Q1.out.2.2 Q1.out.1 Q1.out.2.1)).mono ?_); rintro e W1 ⟨rfl, b1⟩; have S1 := S0.keep b1; have SH1 := SH.keep b1; obtain ⟨h1, h2, h3, h4⟩ := id SH1; have m1 := SH1.lt; have B1 := below_more hB f5 b1; clear SH)
          | (gi_at_call 42; (with_reducible refine (callsIn_wide.2 (ediv_eq Ic.out Idd.out Q2.out.2.2 Q2.out.1 Q2.out.2.1)).mono ?_); rintro e W2 ⟨rfl, b2⟩; have c1 := two_new W1 t r b2; obtain ⟨c2, c3, c4, c5⟩ := id c1; have S2 := (S1.keep (below2 W1 _ _)).keep b2; have B2 := below_more (below_more B1 f5 (below2 W1 _ _)) f5 b2; have m2 := World.block_lt_of_cell? W2 _ c4; dsimp only at m2; have m3 : W1.heap.size < W2.heap.size := by omega)
          | (gi_at_call 93; (with_reducible refine (callsIn_wide.2 (isZero_any _ r k _ Ir.out)).mono ?_); rw [EZ.out]; rintro e W3 ⟨rfl, b3⟩
             have S3 := (S2.keep (below2 W2 (.cells #[.bool (sg u), .string (mg u)] 23) (.cells #[.bool (sg v), .string (mg v)] 23))).keep b3
             have B3 := below_more (below_more B2 f5 (below2 W2 (.cells #[.bool (sg u), .string (mg u)] 23) (.cells #[.bool (sg v), .string (mg v)] 23))) f5 b3
             have c6 := two_new W2 u v b3
             have T3 : IC W3 W1.heap.size t := (show IC W2 W1.heap.size t from ⟨c2, c3⟩).keep (below2 W2 (.cells #[.bool (sg u), .string (mg u)] 23) (.cells #[.bool (sg v), .string (mg v)] 23)) |>.keep b3
             have R3 : IC W3 (W1.heap.size + 1) r := (show IC W2 (W1.heap.size + 1) r from ⟨c4, c5⟩).keep (below2 W2 (.cells #[.bool (sg u), .string (mg u)] 23) (.cells #[.bool (sg v), .string (mg v)] 23)) |>.keep b3
             have V3 : IC W3 (W2.heap.size + 1) v := ⟨c6.2.2.1, c6.2.2.2⟩
             obtain ⟨d1, d2⟩ := id T3
             obtain ⟨d3, d4, _⟩ := id c6)
          | (gi_at_call 53; (with_reducible refine (callsIn_wide.2 (icmp_eq It.out Iu.out En.out)).mono ?_); rintro e W4 ⟨rfl, b4⟩
             have S4 := S3.keep b4
             have B4 := below_more B3 f5 b4
             have T4 := T3.keep b4
             have R4 := R3.keep b4
             have V4 := V3.keep b4
             have hm := Lib.hid (show W1.heap.size ≠ p5 ∧ W1.heap.size ≠ x ∧ W1.heap.size + 1 ≠ p5 ∧ W1.heap.size + 1 ≠ x ∧ W2.heap.size + 1 ≠ p5 ∧ W2.heap.size + 1 ≠ x ∧ bl ≠ W1.heap.size + 1 ∧ bl ≠ W2.heap.size + 1 ∧ bh ≠ W2.heap.size + 1 ∧ bh ≠ W1.heap.size + 1 from by
               have k1 := S1.2.2.1.1.lt
               have k2 := S1.2.2.2.1.1.lt
               have k3 := S1.2.2.2.2.1.1.lt
               refine ⟨?_, ?_, ?_, ?_, ?_, ?_, ?_, ?_, ?_, ?_⟩ <;> omega)
             clear S0 S1 S2 S3 b1 b2 b3 b4 T3 R3 V3 c1 c2 c3 c4 c5 c6 B1 B2 B3 hB d1 d2 d3 d4 q1 q2 q3 q4 h1 h2 h3 h4
             obtain ⟨p1, p2⟩ := id T4))
        gi_region_with_o (first
          | (refine ⟨trivial, ?_⟩; gi_at_call 17; (with_reducible refine (callsIn_wide.2 (iof_any 1 _ (by omega) (by omega))).mono ?_); rintro e W5 ⟨rfl, b5⟩; have T5 := (show IC W4.drew W1.heap.size t from T4).keep b5; obtain ⟨r1, r2⟩ := id T5)
          | (refine ⟨trivial, ?_⟩; gi_at_call 57; (with_reducible refine (callsIn_wide.2 (iadd_any _ _ t 1 k 1 _ It.out (isInt_mg (by decide) (by omega)))).mono ?_); rintro e W6 ⟨rfl, b6⟩
             have S6 := ((show Sd l D p5 x bl bh REC g1 s1 g2 s2 g3 s3 g4 s4 ln ld nn nd W4.drew from S4).keep b5).keep b6
             have B6 := below_more (below_more B4.drew f5 b5) f5 b6
             have It1 := isInt_mg (z := t + 1) (nat_bd (by have h8 := Ht.out; omega) (show t + 1 ≤ M by have h8 := Ht.out; have h9 := of_decide_eq_false EZ2.out; omega) HM.out) (show k ≤ 10000000 by omega)
             obtain ⟨fn, tmps, assign, body, hrun, hR⟩ := HY.out W6 (t + 1) ln ld nn nd S6.1 S6.2.1 S6.2.2.1 S6.2.2.2.1 It1 Iln.out Ild.out Inn.out Ind.out)
          | (refine hR.mono ?_; rintro e W7 ⟨rfl, hst⟩))
        all_goals
          have hsim : P ((t + 1) * nn + ln) ((t + 1) * nd + ld) := by
            have h1 := Sim.above (c := c) (d := d) (ln := ln) (ld := ld) (nn := nn) (nd := nd) (show a % b ≠ 0 by rw [Er.out]; exact of_decide_eq_false EZ.out) (show a / b ≠ c / d by rw [Et.out, Eu.out]; exact of_decide_eq_false EZ2.out)
            rw [Et.out] at h1
            exact HP.out _ _ h1
          have hfin := Lib.hid (show W7.heap[l]? = some (.loop REC) ∧ W7.heap[D]? = some (.deferred (some [])) ∧ (∃ rn rd, P rn rd ∧ RV W7 x rn rd) ∧ Below B W0 W7 from ⟨hst.1, hst.2.1, ⟨_, _, hsim, hst.2.2.2.1⟩, B6.trans hst.2.2.2.2.1⟩)
          clear hst S4 S6 b5 b6 hR hrun T5 T4 R4 V4 B4 B6 It1
          gi_wp2
          exact bodyPost_ret (results_none rfl _ _ _) rfl ⟨⟨_, rfl⟩, hfin.out⟩
end Go.Proofs.YtcljkdninmldiaaGreatDoor
