/- What integer.root returns: the greatest number whose power is at most x. Condition: the exponent is from 1 to 4096, x has at most 1000 digits. What integer.Power returns: the power, or the error's number and zero. What integer.Root returns: the root, or the error's number and zero. -/
import Derived.Test.YtfcdekkoeeaolaaGreatDoorQ16
import Derived.Lib.Hide
import Derived.Test.YtfcdekkoeeaolaaGreatDoorQ14
import Derived.Test.YtfcdekkoeeaolaaGreatDoorQ10

namespace Go.Proofs.YtfcdekkoeeaolaaGreatDoor
open Go.RowKit

/-- R is the root of X for the exponent m. -/
def IsRoot (X m R : Nat) : Prop := R ^ m ≤ X ∧ X < (R + 1) ^ m
theorem root_step {X m g R : Nat} (h : IsRoot (X / 2 ^ (m * (g + 1))) m R) :
    IsRoot (X / 2 ^ (m * g)) m (if (R * 2 + 1) ^ m ≤ X / 2 ^ (m * g) then R * 2 + 1 else R * 2) := by
  obtain ⟨h1, h2⟩ := h
  rw [Nat.mul_succ, Nat.pow_add, ← Nat.div_div_eq_div_mul] at h1 h2
  generalize X / 2 ^ (m * g) = Y at *
  have hp : 0 < 2 ^ m := Nat.two_pow_pos m
  have a1 : (R * 2) ^ m ≤ Y := by
    rw [Nat.mul_pow]
    exact Nat.le_trans (Nat.mul_le_mul_right _ h1) (Nat.div_mul_le_self _ _)
  have a2 : Y < (R * 2 + 2) ^ m := by
    rw [show R * 2 + 2 = (R + 1) * 2 by omega, Nat.mul_pow]
    exact (Nat.div_lt_iff_lt_mul hp).1 h2
  split
  · exact ⟨by assumption, a2⟩
  · exact ⟨a1, by omega⟩
theorem root_start {X m : Nat} (hm : 1 ≤ m) : IsRoot (X / 2 ^ (m * (nbits X / m + 1))) m 0 := by
  have h1 := nbits_lt X
  have h2 : nbits X < m * (nbits X / m + 1) := by
    have := Nat.div_add_mod (nbits X) m
    have := Nat.mod_lt (nbits X) (show 0 < m by omega)
    rw [Nat.mul_add]
    omega
  have h3 : (2 : Nat) ^ nbits X ≤ 2 ^ (m * (nbits X / m + 1)) := Nat.pow_le_pow_right (by omega) (by omega)
  rw [Nat.div_eq_of_lt (by omega)]
  refine ⟨?_, by simp⟩
  rw [Nat.zero_pow (by omega)]
  exact Nat.le_refl _
theorem root_le {X m R : Nat} (hm : 1 ≤ m) (h : R ^ m ≤ X) : R ≤ X := by
  rcases Nat.eq_zero_or_pos R with h0 | h0
  · omega
  · exact Nat.le_trans (Nat.le_self_pow (by omega) R) h
theorem two_bound {R X k : Nat} (h : R ≤ X) (hX : X < 4294967296 ^ k) : R * 2 + 1 < 4294967296 ^ (k + 1) := by
  rw [Nat.pow_succ]
  generalize (4294967296 : Nat) ^ k = P at *
  omega
theorem nbits_len {w : World} {A : Option Addr} {n c X : Nat} (h : IsNat w A n c X) : nbits X ≤ 32 * n := by
  obtain ⟨_, _, f, _, df, _, rfl⟩ := h
  have h1 := val_lt df
  by_cases h0 : val f n = 0
  · rw [h0]; show 0 ≤ _; omega
  · have h2 := nbits_ge h0
    rw [show (4294967296 : Nat) = 2 ^ 32 by rfl, ← Nat.pow_mul] at h1
    rcases Nat.lt_or_ge (32 * n) (nbits (val f n)) with h3 | h3
    · have : (2 : Nat) ^ (32 * n) ≤ 2 ^ (nbits (val f n) - 1) := Nat.pow_le_pow_right (by omega) (by omega)
      omega
    · exact h3

theorem isNat_set {w : World} {A : Option Addr} {n c N : Nat} (h : IsNat w A n c N) (p : Addr) (u : Value) (hp : ∀ x, w.cell? p = some x → ∀ d, x ≠ .int .u32 d) : IsNat (w.setCell p u) A n c N := by
  obtain ⟨h1, h2, f, ⟨b, off, hA, hc⟩, h4⟩ := h
  refine ⟨h1, h2, f, ⟨b, off, hA, fun i hi => ?_⟩, h4⟩
  have h5 := hc i hi
  by_cases e : p = ⟨b, off + i, none⟩
  · subst e; exact absurd rfl (hp _ h5 _)
  · rw [World.cell?_setCell_other _ _ _ _ (fun e2 => e (by first | exact e2 | exact e2.symm))]; exact h5

def RootOut (w : World) (X m : Nat) (e : Ending) (w' : World) : Prop := ∃ R, IsRoot X m R ∧ NatOut w R e w'

set_option maxRecDepth 100000 in
set_option maxHeartbeats 3200000 in
theorem root_any (A : Option Addr) (n c X m k : Nat) (w : World) (hA : IsNat w A n c X) (hm1 : 1 ≤ m) (hm : m ≤ 4096) (hX : X < 4294967296 ^ k) (hk : k ≤ 1000) :
    Calls Tryz.prog 80 #[.slice A n c, .int .i64 (m : Int)] w (RootOut w X m) := by
  have hn : n ≤ k := hA.len hX
  by_cases h1 : m = 1
  · subst h1
    have hone : (((1 : Nat) : Int) == 1) = true := rfl
    go_enter Tryz.func80, Tryz.ntmps80
    go_wp2
    go_ret
    exact ⟨X, ⟨by simp, by simp⟩, A, n, c, rfl, (hA.below (Nat.le_refl _) (below2 w _ _)), below2 w _ _⟩
  · have hone : ((m : Int) == 1) = false := beq_eq_false_iff_ne.2 (by omega)
    have hnb := nbits_len hA
    go_enter Tryz.func80, Tryz.ntmps80
    go_wp2_with fail
    go_cut [7] (fun s7 wx => s7 = .int .i64 ((nbits X / m : Nat) : Int) ∧ Below w.heap.size w wx ∧ IsNat wx A n c X ∧ wx.cell? ⟨w.heap.size, 0, none⟩ = some (.slice A n c) ∧ wx.cell? ⟨w.heap.size + 1, 0, none⟩ = some (.int .i64 (m : Int)) ∧ wx.cell? ⟨w.heap.size + 1 + 1, 0, none⟩ = some (.slice none 0 0) ∧ wx.frozen? ⟨w.heap.size + 1 + 1, 0, none⟩ = false ∧ w.heap.size + 1 + 1 < wx.heap.size)
    case first =>
      have hb := below3 w (.cells #[.slice A n c] 60) (.cells #[.int .i64 (m : Int)] 3) (.cells #[.slice none 0 0] 60)
      have hA3 := (hA.below (Nat.le_refl _) hb)
      have e1 : ((nbits X : Nat) : Int).tdiv (m : Int) = (nbits X : Int) / (m : Int) := Int.tdiv_eq_ediv_of_nonneg (by omega)
      have e0 : 0 ≤ ((nbits X : Nat) : Int) / (m : Int) := Int.ediv_nonneg (by omega) (by omega)
      have e5 : ((nbits X : Nat) : Int) / (m : Int) ≤ (nbits X : Int) := Int.ediv_le_self _ (by omega)
      have e3 : IntKind.i64.wrap (((nbits X : Nat) : Int) / (m : Int)) = (nbits X : Int) / (m : Int) := by rw [IntKind.wrap_i64]; omega
      have hmz : ((m : Int) == 0) = false := beq_eq_false_iff_ne.2 (by omega)
      have hm0 : ¬ m = 0 := by omega
      have hmi : ¬ (m : Int) = 0 := by omega
      have hmI : 1 ≤ (m : Int) := by omega
      have hnI : 0 ≤ ((nbits X : Nat) : Int) := by omega
      go_region_held3 (fun W => W.cell? ⟨w.heap.size, 0, none⟩ = some (.slice A n c) ∧ W.cell? ⟨w.heap.size + 1, 0, none⟩ = some (.int .i64 (m : Int)) ∧ W.cell? ⟨w.heap.size + 1 + 1, 0, none⟩ = some (.slice none 0 0)) (first | assumption | (simp [go_sem]; done) | go_keep)
        (first | (go_at_call 122; refine (size_any A n c X _ (by exact hA3) (by omega)).mono ?_; rintro e W1 ⟨rfl, hw⟩; subst hw))
      go_wp2_with fail
      go_meet
      refine ⟨by rw [Int.natCast_ediv], hb.drew, hA3, ?_, ?_, ?_, ?_, ?_⟩
      all_goals simp [go_sem]
    case rest =>
      obtain ⟨rfl, hb, hAc, q1, q2, q3, q4, hsz⟩ := hcut
      have Hst : Hid (IsRoot (X / 2 ^ (m * (nbits X / m + 1))) m 0) := root_start hm1
      have Hq : Hid (m * (nbits X / m) ≤ nbits X) := Nat.mul_div_le _ _
      have HX : Hid (X < 4294967296 ^ k) := hX
      have hq2 : nbits X / m ≤ nbits X := Nat.div_le_self _ _
      clear hX
      generalize nbits X / m = P at *
      go_wp2_with fail
      go_loopg [7] (P + 1) (fun g s7 wx => ∃ R A1 n1 c1, g ≤ P + 1 ∧ s7 = .int .i64 ((g : Int) - 1) ∧ IsRoot (X / 2 ^ (m * g)) m R ∧ IsNat wx A1 n1 c1 R ∧ Below w.heap.size w wx ∧ IsNat wx A n c X ∧ wx.cell? ⟨w.heap.size, 0, none⟩ = some (.slice A n c) ∧ wx.cell? ⟨w.heap.size + 1, 0, none⟩ = some (.int .i64 (m : Int)) ∧ wx.cell? ⟨w.heap.size + 1 + 1, 0, none⟩ = some (.slice A1 n1 c1) ∧ wx.frozen? ⟨w.heap.size + 1 + 1, 0, none⟩ = false ∧ w.heap.size + 1 + 1 < wx.heap.size)
      case atStart => exact ⟨0, none, 0, 0, Nat.le_refl _, by go_num, Hst.out, ⟨Nat.le_refl _, by omega, fun _ => 0, Rd.nil _ _ _, fun i h => absurd h (by omega), fun h => absurd h (by omega), rfl⟩, hb, hAc, q1, q2, q3, q4, hsz⟩
      case round =>
        clear hb hAc q1 q2 q3 q4 hsz
        obtain ⟨R, A1, n1, c1, hg, rfl, hR, iR, hb, hAc, q1, q2, q3, q4, hsz⟩ := hrel
        rcases gk with _ | g
        · have hR2 : IsRoot X m R := by simpa using hR
          clear hR
          go_wp2
          go_ret
          exact ⟨R, hR2, A1, n1, c1, rfl, iR, hb⟩
        · have HR : Hid (IsRoot (X / 2 ^ (m * (g + 1))) m R) := hR
          have HR2 : Hid (R * 2 + 1 < 4294967296 ^ (k + 1)) := two_bound (Nat.le_trans (root_le hm1 hR.1) (Nat.div_le_self _ _)) HX.out
          have HR1 : Hid (R < 4294967296 ^ (k + 1)) := Nat.lt_of_le_of_lt (by omega) HR2.out
          have Hpl : Hid (m * g ≤ 32 * n) := Nat.le_trans (Nat.mul_le_mul_left _ (by omega)) (Nat.le_trans Hq.out hnb)
          have hkm : (k + 1) * m + 1 ≤ 10000000 := by
            have : (k + 1) * m ≤ 1001 * 4096 := Nat.mul_le_mul (by omega) hm
            omega
          have HKM : Hid ((k + 1) * m + 1 ≤ 10000000) := hkm
          clear hR hkm
          go_wp2_with fail
          rw [show ((g + 1 : Nat) : Int) - 1 = (g : Int) from by omega]
          refine (belongs_any g _ _ _ A1 A n1 c1 n c R X m _ q3 q2 q1 iR hAc (by omega) (k + 1) HR2.out HKM.out (by omega) (by omega) Hpl.out).mono ?_
          rintro e W2 ⟨rfl, b2⟩
          have hl1 : n1 ≤ k + 1 := iR.len HR1.out
          have hb2 := below_more hb (Nat.le_refl _) b2
          have z3 := cell_keep q3 b2
          by_cases hbit : (R * 2 + 1) ^ m ≤ X / 2 ^ (m * g)
          · rw [show decide ((R * 2 + 1) ^ m ≤ X / 2 ^ (m * g)) = true from by simp; exact hbit]
            have Hnew : Hid (IsRoot (X / 2 ^ (m * g)) m (R * 2 + 1)) := by
              have h := root_step HR.out
              rw [if_pos hbit] at h
              exact h
            clear hbit
            go_wp2_with fail
            refine (mulAdd_any A1 n1 c1 R 2 1 _ (iR.below (Nat.le_refl _) b2) (by omega) (by omega) (by omega)).mono ?_
            rintro e W3 ⟨A3, n3, c3, rfl, i3, b3⟩
            have hbn := below_more hb2 (Nat.le_refl _) b3
            have y1 := cell_keep (cell_keep q1 b2) b3
            have y2 := cell_keep (cell_keep q2 b2) b3
            have y3 := cell_keep (cell_keep q3 b2) b3
            have y4 := frozen_keep (cell_keep q3 b2) (frozen_keep q3 q4 b2) b3
            have y5 : w.heap.size + 1 + 1 < W3.heap.size := Nat.lt_of_lt_of_le hsz (Nat.le_trans b2.size b3.size)
            have hnd : ∀ x, W3.cell? ⟨w.heap.size + 1 + 1, 0, none⟩ = some x → ∀ d, x ≠ .int .u32 d := fun x hx d e => by rw [y3] at hx; injection hx with hx; rw [← hx] at e; cases e
            have Hnd := Lib.hid hnd
            clear hnd
            have iX := (hAc.below (Nat.le_refl _) b2).below (Nat.le_refl _) b3
            go_wp2
            go_roundg g
            case measure => omega
            case rel => exact ⟨R * 2 + 1, A3, n3, c3, by omega, by go_num, Hnew.out, isNat_set i3 _ _ Hnd.out, hbn.setCell (by show w.heap.size ≤ w.heap.size + 1 + 1; omega) _, isNat_set iX _ _ Hnd.out, by rw [World.cell?_setCell_far _ _ _ _ (by show w.heap.size + 1 + 1 ≠ w.heap.size; omega)]; exact y1, by rw [World.cell?_setCell_far _ _ _ _ (by show w.heap.size + 1 + 1 ≠ w.heap.size + 1; omega)]; exact y2, World.cell?_setCell_same' _ _ _ (by rw [y3]; rfl), by rw [World.frozen?_setCell]; exact y4, by rw [World.size_setCell]; exact y5⟩
          · rw [show decide ((R * 2 + 1) ^ m ≤ X / 2 ^ (m * g)) = false from by simp; omega]
            have Hnew : Hid (IsRoot (X / 2 ^ (m * g)) m (R * 2)) := by
              have h := root_step HR.out
              rw [if_neg hbit] at h
              exact h
            clear hbit
            go_wp2_with fail
            refine (mulAdd_any A1 n1 c1 R 2 0 _ (iR.below (Nat.le_refl _) b2) (by omega) (by omega) (by omega)).mono ?_
            rintro e W3 ⟨A3, n3, c3, rfl, i3, b3⟩
            have hbn := below_more hb2 (Nat.le_refl _) b3
            have y1 := cell_keep (cell_keep q1 b2) b3
            have y2 := cell_keep (cell_keep q2 b2) b3
            have y3 := cell_keep (cell_keep q3 b2) b3
            have y4 := frozen_keep (cell_keep q3 b2) (frozen_keep q3 q4 b2) b3
            have y5 : w.heap.size + 1 + 1 < W3.heap.size := Nat.lt_of_lt_of_le hsz (Nat.le_trans b2.size b3.size)
            have hnd : ∀ x, W3.cell? ⟨w.heap.size + 1 + 1, 0, none⟩ = some x → ∀ d, x ≠ .int .u32 d := fun x hx d e => by rw [y3] at hx; injection hx with hx; rw [← hx] at e; cases e
            have Hnd := Lib.hid hnd
            clear hnd
            have iX := (hAc.below (Nat.le_refl _) b2).below (Nat.le_refl _) b3
            go_wp2
            go_roundg g
            case measure => omega
            case rel => exact ⟨R * 2, A3, n3, c3, by omega, by go_num, Hnew.out, isNat_set i3 _ _ Hnd.out, hbn.setCell (by show w.heap.size ≤ w.heap.size + 1 + 1; omega) _, isNat_set iX _ _ Hnd.out, by rw [World.cell?_setCell_far _ _ _ _ (by show w.heap.size + 1 + 1 ≠ w.heap.size; omega)]; exact y1, by rw [World.cell?_setCell_far _ _ _ _ (by show w.heap.size + 1 + 1 ≠ w.heap.size + 1; omega)]; exact y2, World.cell?_setCell_same' _ _ _ (by rw [y3]; rfl), by rw [World.frozen?_setCell]; exact y4, by rw [World.size_setCell]; exact y5⟩
end Go.Proofs.YtfcdekkoeeaolaaGreatDoor

namespace Go.Proofs.YtfcdekkoeeaolaaGreatDoor
open Go.RowKit

theorem neg_pow_m (x : Int) (m : Nat) : (-x) ^ m = if m % 2 = 1 then -(x ^ m) else x ^ m := by
  induction m with
  | zero => simp
  | succ m ih =>
    rw [Int.pow_succ, Int.pow_succ, ih]
    rcases Nat.mod_two_eq_zero_or_one m with h | h
    · rw [if_neg (by omega), if_pos (by omega), Int.mul_neg]
    · rw [if_pos h, if_neg (by omega), Int.neg_mul_neg]
theorem zv_pow (na : Bool) (s : ByteArray) (m : Nat) : zv na s ^ m = if (na && (((m % 2 : Nat) : Int) == 1)) then -((vB s.data.toList ^ m : Nat) : Int) else ((vB s.data.toList ^ m : Nat) : Int) := by
  unfold zv
  cases na
  · simp [Int.natCast_pow]
  · rw [if_pos rfl, neg_pow_m, Int.natCast_pow]
    rcases Nat.mod_two_eq_zero_or_one m with h | h
    · rw [h, if_neg (by omega)]; rfl
    · rw [h, if_pos rfl]; rfl
theorem pow_room {N m : Nat} (hm : m ≤ 4096) (hl : m * nbits N ≤ 65536) : ∃ kk, N < 4294967296 ^ kk ∧ kk * m + 1 ≤ 10000000 := by
  refine ⟨nbits N / 32 + 1, ?_, ?_⟩
  · refine Nat.lt_of_lt_of_le (nbits_lt N) ?_
    rw [show (4294967296 : Nat) = 2 ^ 32 from rfl, ← Nat.pow_mul]
    exact Nat.pow_le_pow_right (by omega) (by omega)
  · have h1 : nbits N / 32 * m ≤ nbits N * m := Nat.mul_le_mul_right _ (Nat.div_le_self _ _)
    rw [Nat.mul_comm (nbits N) m] at h1
    rw [Nat.add_mul]
    omega

theorem nbits_le {N k : Nat} (h : N < 4294967296 ^ k) : nbits N ≤ 32 * k := by
  rcases Nat.eq_zero_or_pos N with h0 | h0
  · subst h0; exact Nat.zero_le _
  · have h1 := nbits_ge (N := N) (by omega)
    rw [show (4294967296 : Nat) = 2 ^ 32 from rfl, ← Nat.pow_mul] at h
    have := (Nat.pow_lt_pow_iff_right (a := 2) (by omega)).1 (Nat.lt_of_le_of_lt h1 h)
    omega

/-- What a call returns that fails. -/
def FailOut (w : World) (x : Int) (e : Ending) (w' : World) : Prop := e = .returned (.tuple #[.agg #[.bool false, .string ⟨#[]⟩], .int .i64 x]) ∧ Below w.heap.size w w'
/-- What a call returns that does not fail. -/
def GoodOut (w : World) (z : Int) (e : Ending) (w' : World) : Prop := e = .returned (.tuple #[.agg #[.bool (sg z), .string (mg z)], .int .i64 0]) ∧ Below w.heap.size w w'

set_option maxRecDepth 100000 in
set_option maxHeartbeats 3200000 in
theorem ipow_range (na : Bool) (sa : ByteArray) (m : Int) (w : World) (hm : m < 0 ∨ 4096 < m) :
    Calls Tryz.prog 20 #[.agg #[.bool na, .string sa], .int .i64 m] w (FailOut w 2) := by
  have hr := ResCell.new (w.alloc (.cells #[.bool na, .string sa] 23)) 23
  rw [World.size_alloc] at hr
  obtain ⟨r1, r2, r3, r4⟩ := hr
  have hb := below2 w (.cells #[.bool na, .string sa] 23) (.cells #[.bool false, .string ⟨#[]⟩] 23)
  rcases hm with hm | hm
  all_goals
    go_enter Tryz.func20, Tryz.ntmps20
    go_wp2
    exact bodyPost_ret (v := .tuple #[.agg #[.bool false, .string ⟨#[]⟩], .int .i64 2]) (by simp [results, Tryz.results20, go_sem, r1, r2]) rfl ⟨rfl, hb⟩

set_option maxRecDepth 100000 in
set_option maxHeartbeats 3200000 in
theorem ipow_any (v : Value) (z : Int) (k m : Nat) (w : World) (h : IsInt v z k) (hm : m ≤ 4096) (hl : m * nbits z.natAbs ≤ 65536) :
    Calls Tryz.prog 20 #[v, .int .i64 (m : Int)] w (GoodOut w (z ^ m)) := by
  have Hi : Hid (IsInt v z k) := h
  obtain ⟨na, sa, rfl, hz, hs, hk, hkk⟩ := h
  have hN : vB sa.data.toList = z.natAbs := by rw [← natAbs_zv na sa, hz]
  have HN := Lib.hid hN
  have Hp : Hid (z ^ m = if (na && (((m % 2 : Nat) : Int) == 1)) then -((z.natAbs ^ m : Nat) : Int) else ((z.natAbs ^ m : Nat) : Int)) := by
    rw [← hz]; exact (zv_pow na sa m).trans (by rw [hN, hz])
  have Hk : Hid (z.natAbs < 4294967296 ^ k) := hk
  have hroom := pow_room hm hl
  have Hkk : Hid (∃ kk, z.natAbs < 4294967296 ^ kk ∧ kk * m + 1 ≤ 10000000) := hroom
  have hmul : IntKind.i64.wrap ((m : Int) * (nbits z.natAbs : Int)) = ((m * nbits z.natAbs : Nat) : Int) := by rw [IntKind.wrap_i64, Int.natCast_mul]; rw [← Int.natCast_mul]; omega
  clear hz hk hN hroom
  generalize m * nbits z.natAbs = t at *
  obtain ⟨nb, hnb⟩ : ∃ nb, nb = nbits z.natAbs := ⟨_, rfl⟩
  have Hb : Hid (nbits z.natAbs = nb) := hnb.symm
  rw [← hnb] at hmul
  clear hnb
  have q1 : (m : Int).tmod 2 = ((m % 2 : Nat) : Int) := Int.tmod_eq_emod_of_nonneg (by omega)
  have q2 : IntKind.i64.wrap ((m % 2 : Nat) : Int) = ((m % 2 : Nat) : Int) := by rw [IntKind.wrap_i64]; omega
  generalize m % 2 = r at *
  have hr := ResCell.new (w.alloc (.cells #[.bool na, .string sa] 23)) 23
  rw [World.size_alloc] at hr
  have hb := below2 w (.cells #[.bool na, .string sa] 23) (.cells #[.bool false, .string ⟨#[]⟩] 23)
  have c1 : ((w.alloc (.cells #[.bool na, .string sa] 23)).alloc (.cells #[.bool false, .string ⟨#[]⟩] 23)).cell? ⟨w.heap.size, 0, none⟩ = some (.bool na) := by simp [go_sem]
  have c2 : ((w.alloc (.cells #[.bool na, .string sa] 23)).alloc (.cells #[.bool false, .string ⟨#[]⟩] 23)).cell? ⟨w.heap.size, 1, none⟩ = some (.string sa) := by simp [go_sem]
  go_enter Tryz.func20, Tryz.ntmps20
  go_wp2_with fail
  refine (ibits_any _ z k _ Hi.out).mono ?_
  rintro e W1 ⟨rfl, b1⟩
  rw [Hb.out]
  have y1 := cell_keep c1 b1
  have y2 := cell_keep c2 b1
  have HR := hr.keep b1
  clear c1 c2 hr
  have hb1 := below_more hb (Nat.le_refl _) b1
  cases na
  all_goals
    go_wp2_with fail
    refine (magnitude_any _ sa _ (by omega)).mono ?_
    rintro e W2 ⟨A, n, c, rfl, i2, b2⟩
    rw [HN.out] at i2
    have l2 : n ≤ 10000000 := by have := i2.len Hk.out; omega
    obtain ⟨kk, hkk1, hkk2⟩ := Hkk.out
    have Hkk3 : Hid (z.natAbs ^ m < 4294967296 ^ (kk * m + 1)) := pow_bound hkk1 (Nat.le_refl _)
    go_wp2_with fail
    refine (power_any A n c z.natAbs m kk _ i2 (by omega) hkk1 hkk2 l2).mono ?_
    rintro e W3 ⟨A3, n3, c3, rfl, i3, b3⟩
    have l3 : n3 ≤ 1000000000 := by have := i3.len Hkk3.out; omega
    go_wp2_with fail
    refine (signed_any _ A3 n3 c3 _ _ i3 l3).mono ?_
    rintro e W4 ⟨rfl, b4⟩
    first | rw [ivN_eq false _ (z ^ m) Hp.out] | rw [ivN_eq (((r : Nat) : Int) == 1) _ (z ^ m) Hp.out]
    obtain ⟨r1, r2, r3, r4⟩ := ((HR.keep b2).keep b3).keep b4
    go_wp2
    exact bodyPost_ret (v := .tuple #[.agg #[.bool (sg (z ^ m)), .string (mg (z ^ m))], .int .i64 0]) (by simp [results, Tryz.results20, go_sem, r1, r2]) rfl ⟨rfl, below_more2 (below_more (below_more hb1 (Nat.le_refl _) b2) (Nat.le_refl _) b3) (Nat.le_refl _) b4 (by show w.heap.size ≤ w.heap.size + 1; omega) (by show w.heap.size ≤ w.heap.size + 1; omega)⟩

/-- The power would be too great. -/
theorem ipow_limit (v : Value) (z : Int) (k m : Nat) (w : World) (h : IsInt v z k) (hm : m ≤ 4096) (hl : 65536 < m * nbits z.natAbs) :
    Calls Tryz.prog 20 #[v, .int .i64 (m : Int)] w (FailOut w 4) := by
  have Hi : Hid (IsInt v z k) := h
  obtain ⟨na, sa, rfl, hz, hs, hk, hkk⟩ := h
  have hnb := nbits_le hk
  have hmul : IntKind.i64.wrap ((m : Int) * (nbits z.natAbs : Int)) = ((m * nbits z.natAbs : Nat) : Int) := by
    have : m * nbits z.natAbs ≤ 4096 * nbits z.natAbs := Nat.mul_le_mul_right _ hm
    rw [IntKind.wrap_i64, ← Int.natCast_mul]; omega
  clear hz hk
  generalize m * nbits z.natAbs = t at *
  obtain ⟨nb, hnb⟩ : ∃ nb, nb = nbits z.natAbs := ⟨_, rfl⟩
  have Hb : Hid (nbits z.natAbs = nb) := hnb.symm
  rw [← hnb] at hmul
  clear hnb
  have hr := ResCell.new (w.alloc (.cells #[.bool na, .string sa] 23)) 23
  rw [World.size_alloc] at hr
  have hb := below2 w (.cells #[.bool na, .string sa] 23) (.cells #[.bool false, .string ⟨#[]⟩] 23)
  go_enter Tryz.func20, Tryz.ntmps20
  go_wp2_with fail
  refine (ibits_any _ z k _ Hi.out).mono ?_
  rintro e W1 ⟨rfl, b1⟩
  rw [Hb.out]
  obtain ⟨r1, r2, r3, r4⟩ := hr.keep b1
  go_wp2
  exact bodyPost_ret (v := .tuple #[.agg #[.bool false, .string ⟨#[]⟩], .int .i64 4]) (by simp [results, Tryz.results20, go_sem, r1, r2]) rfl ⟨rfl, below_more2 hb (Nat.le_refl _) b1 (by show w.heap.size ≤ w.heap.size + 1; omega) (by show w.heap.size ≤ w.heap.size + 1; omega)⟩
end Go.Proofs.YtfcdekkoeeaolaaGreatDoor

namespace Go.Proofs.YtfcdekkoeeaolaaGreatDoor
open Go.RowKit

set_option maxRecDepth 100000 in
set_option maxHeartbeats 3200000 in
theorem iroot_any (v : Value) (z : Int) (k m : Nat) (w : World) (h : IsInt v z k) (hk : k ≤ 1000) (h0 : 0 ≤ z) (hm1 : 1 ≤ m) (hm : m ≤ 4096) :
    Calls Tryz.prog 18 #[v, .int .i64 (m : Int)] w (fun e w' => ∃ R, IsRoot z.natAbs m R ∧ GoodOut w (R : Int) e w') := by
  obtain ⟨na, sa, rfl, hz, hs, hkz, hkk⟩ := h
  have hN : vB sa.data.toList = z.natAbs := by rw [← natAbs_zv na sa, hz]
  have HN := Lib.hid hN
  have Hz := Lib.hid hz
  have hs0 : sg z = false := by unfold sg; exact decide_eq_false (by omega)
  have Hk : Hid (z.natAbs < 4294967296 ^ k) := hkz
  clear hz hkz hN
  have hr := ResCell.new (w.alloc (.cells #[.bool na, .string sa] 23)) 23
  rw [World.size_alloc] at hr
  have hb := below2 w (.cells #[.bool na, .string sa] 23) (.cells #[.bool false, .string ⟨#[]⟩] 23)
  have c1 : ((w.alloc (.cells #[.bool na, .string sa] 23)).alloc (.cells #[.bool false, .string ⟨#[]⟩] 23)).cell? ⟨w.heap.size, 0, none⟩ = some (.bool na) := by simp [go_sem]
  have c2 : ((w.alloc (.cells #[.bool na, .string sa] 23)).alloc (.cells #[.bool false, .string ⟨#[]⟩] 23)).cell? ⟨w.heap.size, 1, none⟩ = some (.string sa) := by simp [go_sem]
  go_enter Tryz.func18, Tryz.ntmps18
  go_wp2_with fail
  refine (can_any na sa _).mono ?_
  rintro e W1 ⟨rfl, b1⟩
  rw [Hz.out, hs0]
  have y1 := cell_keep c1 b1
  have y2 := cell_keep c2 b1
  have HR := hr.keep b1
  clear c1 c2 hr
  have hb1 := below_more hb (Nat.le_refl _) b1
  go_wp2_with fail
  refine (magnitude_any _ sa _ (by omega)).mono ?_
  rintro e W2 ⟨A, n, c, rfl, i2, b2⟩
  rw [HN.out] at i2
  go_wp2_with fail
  refine (root_any A n c z.natAbs m k _ i2 hm1 hm Hk.out hk).mono ?_
  rintro e W3 ⟨R, hR, A3, n3, c3, rfl, i3, b3⟩
  have HI : Hid (IsRoot z.natAbs m R) := hR
  have HRk : Hid (R < 4294967296 ^ k) := Nat.lt_of_le_of_lt (root_le hm1 hR.1) Hk.out
  clear hR
  have l3 : n3 ≤ 1000000000 := by have := i3.len HRk.out; omega
  go_wp2_with fail
  refine (signed_any _ A3 n3 c3 _ _ i3 l3).mono ?_
  rintro e W4 ⟨rfl, b4⟩
  rw [ivN_eq false R (R : Int) rfl]
  obtain ⟨r1, r2, r3, r4⟩ := ((HR.keep b2).keep b3).keep b4
  go_wp2
  exact bodyPost_ret (v := .tuple #[.agg #[.bool (sg (R : Int)), .string (mg (R : Int))], .int .i64 0]) (by simp [results, Tryz.results18, go_sem, r1, r2]) rfl ⟨R, HI.out, rfl, below_more2 (below_more (below_more hb1 (Nat.le_refl _) b2) (Nat.le_refl _) b3) (Nat.le_refl _) b4 (by show w.heap.size ≤ w.heap.size + 1; omega) (by show w.heap.size ≤ w.heap.size + 1; omega)⟩

/-- Out of the range: a negative number, or an exponent that is less than 1 or greater than 4096. -/
theorem iroot_range (v : Value) (z : Int) (k : Nat) (m : Int) (w : World) (h : IsInt v z k) (hx : z < 0 ∨ m < 1 ∨ 4096 < m) :
    Calls Tryz.prog 18 #[v, .int .i64 m] w (FailOut w 2) := by
  obtain ⟨na, sa, rfl, hz, hs, hkz, hkk⟩ := h
  have Hz := Lib.hid hz
  clear hz hkz
  have hr := ResCell.new (w.alloc (.cells #[.bool na, .string sa] 23)) 23
  rw [World.size_alloc] at hr
  have hb := below2 w (.cells #[.bool na, .string sa] 23) (.cells #[.bool false, .string ⟨#[]⟩] 23)
  by_cases h0 : z < 0
  · have hs0 : sg z = true := by unfold sg; exact decide_eq_true h0
    go_enter Tryz.func18, Tryz.ntmps18
    go_wp2_with fail
    refine (can_any na sa _).mono ?_
    rintro e W1 ⟨rfl, b1⟩
    rw [Hz.out, hs0]
    obtain ⟨r1, r2, r3, r4⟩ := hr.keep b1
    go_wp2
    exact bodyPost_ret (v := .tuple #[.agg #[.bool false, .string ⟨#[]⟩], .int .i64 2]) (by simp [results, Tryz.results18, go_sem, r1, r2]) rfl ⟨rfl, below_more2 hb (Nat.le_refl _) b1 (by show w.heap.size ≤ w.heap.size + 1; omega) (by show w.heap.size ≤ w.heap.size + 1; omega)⟩
  · have hs0 : sg z = false := by unfold sg; exact decide_eq_false h0
    have hx' : m < 1 ∨ 4096 < m := by omega
    clear hx
    rcases hx' with hm | hm
    all_goals
      go_enter Tryz.func18, Tryz.ntmps18
      go_wp2_with fail
      refine (can_any na sa _).mono ?_
      rintro e W1 ⟨rfl, b1⟩
      rw [Hz.out, hs0]
      obtain ⟨r1, r2, r3, r4⟩ := hr.keep b1
      go_wp2
      exact bodyPost_ret (v := .tuple #[.agg #[.bool false, .string ⟨#[]⟩], .int .i64 2]) (by simp [results, Tryz.results18, go_sem, r1, r2]) rfl ⟨rfl, below_more2 hb (Nat.le_refl _) b1 (by show w.heap.size ≤ w.heap.size + 1; omega) (by show w.heap.size ≤ w.heap.size + 1; omega)⟩
end Go.Proofs.YtfcdekkoeeaolaaGreatDoor
