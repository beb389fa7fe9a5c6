/- What integer.decimalGroups returns: the digits to the base 10^9, the least one first. What integer.Div returns for the divisor 0. What integer.Root returns: the root, or the error's number and zero. -/
import Derived.Test.YtfcdekkoeeaolaaGreatDoorQ16
import Derived.Test.YtfcdekkoeeaolaaGreatDoorQ07
import Derived.Maps.AppendAt
import Derived.OwnWalk
import Derived.Deep.RegionHeld3
import Derived.Deep.DeepCutAuto
import Derived.Test.YtfcdekkoeeaolaaGreatDoorQ26
import Derived.Test.YtfcdekkoeeaolaaGreatDoorQ23

namespace Go.Proofs.YtfcdekkoeeaolaaGreatDoor
open Go.RowKit

/-- The digits of N to the base 10^9, the least one first. -/
def gs (N : Nat) : List Nat := if h : N = 0 then [] else N % 1000000000 :: gs (N / 1000000000)
termination_by N
decreasing_by exact Nat.div_lt_self (by omega) (by omega)
theorem gs_zero : gs 0 = [] := by rw [gs]; rfl
theorem gs_pos {N : Nat} (h : N ≠ 0) : gs N = N % 1000000000 :: gs (N / 1000000000) := by rw [gs, dif_neg h]
theorem gs_len {N k : Nat} (h : N < 1000000000 ^ k) : (gs N).length ≤ k := by
  induction k generalizing N with
  | zero => have : N = 0 := by simp at h; exact h
            subst this; rw [gs_zero]; exact Nat.le_refl _
  | succ k ih =>
    by_cases h0 : N = 0
    · subst h0; rw [gs_zero]; exact Nat.zero_le _
    · rw [gs_pos h0, List.length_cons]
      have := ih (Nat.div_lt_of_lt_mul (by rw [Nat.pow_succ, Nat.mul_comm] at h; exact h))
      omega
theorem gs_room {N k : Nat} (h : N < 4294967296 ^ k) : (gs N).length ≤ 2 * k := by
  apply gs_len
  refine Nat.lt_of_lt_of_le h ?_
  rw [Nat.pow_mul]
  exact Nat.pow_le_pow_left (by omega) _
def gvs (l : List Nat) : List Value := l.map fun (d : Nat) => .int .u32 (d : Int)
theorem gvs_len (l : List Nat) : (gvs l).length = l.length := by unfold gvs; exact List.length_map _
theorem gvs_snoc (l : List Nat) (d : Nat) : gvs (l ++ [d]) = gvs l ++ [.int .u32 (d : Int)] := by unfold gvs; rw [List.map_append]; rfl

/-- A number keeps where another block grows. -/
theorem isNat_grown {w w' : World} {a : Addr} {n c N : Nat} {row : Option Nat} (h : IsNat w (some a) n c N) (hg : w.grownBy w' row) (hr : some a.block ≠ row) : IsNat w' (some a) n c N := by
  obtain ⟨h1, h2, f, ⟨b, off, hA, hcell⟩, h4⟩ := h
  refine ⟨h1, h2, f, ⟨b, off, hA, fun i hi => hg.cell (hcell i hi) ?_⟩, h4⟩
  have := hA (by omega)
  injection this with this
  subst this
  exact hr
theorem grown_of_below {w w' : World} (h : Below w.heap.size w w') (row : Option Nat) : w.grownBy w' row := ⟨h.os, h.tape, h.output, h.size, fun k hk _ => h.block k hk⟩
theorem nat_none {w : World} {A : Option Addr} {n c N : Nat} (h : IsNat w A n c N) : (n = 0 ↔ N = 0) := by
  obtain ⟨_, _, f, _, _, tf, hv⟩ := h
  constructor
  · rintro rfl; exact hv.symm
  · intro h0
    rcases Nat.eq_zero_or_pos n with h1 | h1
    · exact h1
    · have := val_ge h1 (tf h1)
      have hp : 0 < 4294967296 ^ (n - 1) := Nat.pow_pos (by omega)
      omega

def GrOut (w : World) (N : Nat) (e : Ending) (w' : World) : Prop := ∃ v, e = .returned v ∧ w'.ownsRow w.heap.size 70 1 v (gs N).length (gvs (gs N)) ∧ Below w.heap.size w w'

set_option maxHeartbeats 1600000 in
theorem groups_any (A : Option Addr) (n c N k : Nat) (w : World) (hA : IsNat w A n c N) (hN : N < 4294967296 ^ k) (hk : k ≤ 10000000) :
    Calls Tryz.prog 107 #[.slice A n c] w (GrOut w N) := by
  have hn := hA.len hN
  have hroom := gs_room hN
  have Hk : Hid (N < 4294967296 ^ k) := hN
  obtain ⟨i0, hi, hz0, hz1, hz2⟩ := info_parts Tryz.infoU32
  clear hN
  go_enter Tryz.func107, Tryz.ntmps107
  go_wp2_with fail
  go_loopg [0, 3] (gs N).length (fun g s0 s3 wx => ∃ A1 n1 c1 M xs, g = (gs M).length ∧ s0 = .slice A1 n1 c1 ∧ IsNat wx A1 n1 c1 M ∧ M < 4294967296 ^ k ∧ Hid (xs ++ gs M = gs N) ∧ wx.ownsRow w.heap.size 70 1 s3 xs.length (gvs xs) ∧ (∀ b, s3.ownBlock = some b → ∀ a, A1 = some a → some a.block ≠ some b) ∧ Below w.heap.size w wx)
  case atStart => exact ⟨A, n, c, N, [], rfl, rfl, hA, Hk.out, rfl, World.ownsRow_nil _ _ _ _, fun b hb => by simp [Value.ownBlock] at hb, Below.refl _ _⟩
  case round =>
    obtain ⟨A1, n1, c1, M, xs, rfl, rfl, i1, hM, HX, hown, hne, hb⟩ := hrel
    have HM : Hid (M < 4294967296 ^ k) := hM
    have hn1 : n1 ≤ 10000000 := by have := i1.len hM; omega
    by_cases h0 : M = 0
    · subst h0
      obtain rfl := (nat_none i1).2 rfl
      have hx := HX.out
      rw [gs_zero, List.append_nil] at hx
      subst hx
      clear hM hne i1
      go_wp2
      go_ret
      exact ⟨_, rfl, hown, hb⟩
    · have hn0 : 0 < n1 := by have := mt (nat_none i1).1 h0; omega
      have hlen : xs.length + (gs M).length = (gs N).length := by rw [← HX.out, List.length_append]
      have hg := gs_pos h0
      have hg1 : (gs M).length = (gs (M / 1000000000)).length + 1 := by rw [hg, List.length_cons]
      have HX2 : Hid ((xs ++ [M % 1000000000]) ++ gs (M / 1000000000) = gs N) := by
        show _ = _
        rw [← HX.out, hg, List.append_assoc]; rfl
      have HM2 : Hid (M / 1000000000 < 4294967296 ^ k) := Nat.lt_of_le_of_lt (Nat.div_le_self _ _) HM.out
      have HG1 := Lib.hid hg1
      have Hlen : Hid (xs.length + (gs M).length = (gs N).length) := hlen
      have hr := Nat.mod_lt M (show 1000000000 > 0 by omega)
      have hlt := hown.lt
      have hbs := hb.size
      have hxl : xs.length ≤ 20000000 := by omega
      clear hM hg hg1 hlen
      go_wp2_with fail
      refine (divSmall_new A1 n1 c1 M 1000000000 _ (by obtain ⟨_, _, f, a1, a2, _, a3⟩ := i1; exact ⟨f, a1, a2, a3⟩) (by omega) (by omega) (by omega)).mono ?_
      rintro e W1 ⟨n2, c2, rfl, i2, b2⟩
      have hown1 : W1.ownsRow w.heap.size 70 1 u3 xs.length (gvs xs) := hown.kept (grown_of_below b2 none) (by cases hv : u3.ownBlock <;> simp)
      have hb1 := below_more hb (Nat.le_refl _) b2
      have hs2 := b2.size
      have hs3 := hb1.size
      clear i1 hne hown hb
      generalize M % 1000000000 = r at *
      generalize hQ : M / 1000000000 = Q at *
      go_wp2_with (first | (at_builtin; refine wpList_append_own_at _ rfl _ _ 59 rfl w.heap.size 70 i0 (.int .u32 0) 1 4 Tryz.underlying59 hi hz0 hz1 hz2 rfl (by decide) _ _ _ rfl (hown1.alloc _) ⟨W1.heap.size, 0, none⟩ 1 1 [.int .u32 (r : Int)] rfl rfl ?c1 ?c2 ?c3 ?c4 ?c5 ?_))
      case c1 => exact cell_one_new _ _ _
      case c2 => intro u hu; simp at hu; subst hu; rfl
      case c3 => unfold maxLen; omega
      case c4 => omega
      case c5 => rw [World.size_alloc]; omega
      · intro v' W2 hown2 hgrow _ hv'
        have hlt1 := hown1.lt
        have hA2 : some wr.heap.size ≠ u3.ownBlock := fun e => by have := (hlt _ e.symm).2; omega
        have i3 : IsNat (W1.alloc (.cells #[.int .u32 (r : Int)] 70)) (some ⟨wr.heap.size, 0, none⟩) n2 c2 Q := i2.below (Nat.le_refl _) (below1 _ _)
        have i4 : IsNat W2 (some ⟨wr.heap.size, 0, none⟩) n2 c2 Q := isNat_grown i3 hgrow hA2
        have hne2 : ∀ b, v'.ownBlock = some b → ∀ a, (some ⟨wr.heap.size, 0, none⟩ : Option Addr) = some a → some a.block ≠ some b := by
          intro b hb' a ha
          injection ha with ha
          subst ha
          rcases hv' with h | h
          · rw [← hb', h]; exact hA2
          · rw [← hb', h]; intro e; injection e with e; have : wr.heap.size = W1.heap.size + 1 := e; omega
        have hb2 : Below w.heap.size w W2 := ((hb1.alloc (Nat.le_trans (Nat.le_refl _) hs3) _).grown hgrow (by rw [World.size_alloc]; omega) (fun k hk => (hlt1 k hk).1))
        rw [← gvs_snoc] at hown2
        have hl : xs.length + 1 = (xs ++ [r]).length := by simp
        rw [hl] at hown2
        clear hown1 hgrow hv' hlt hlt1 i2 i3 b2 hb1 hs2 hs3 hl
        go_wp2
        go_roundg (gs Q).length
        case measure => have := HG1.out; omega
        case rel => exact ⟨some ⟨wr.heap.size, 0, none⟩, n2, c2, Q, xs ++ [r], rfl, rfl, i4, HM2.out, HX2, hown2, hne2, hb2⟩
end Go.Proofs.YtfcdekkoeeaolaaGreatDoor

namespace Go.Proofs.YtfcdekkoeeaolaaGreatDoor
open Go.RowKit

set_option maxRecDepth 100000 in
set_option maxHeartbeats 3200000 in
theorem idiv_zero (v1 v2 : Value) (z1 : Int) (k1 k2 : Nat) (w : World) (h1 : IsInt v1 z1 k1) (h2 : IsInt v2 0 k2) :
    Calls Tryz.prog 16 #[v1, v2] w fun e w' => e = .returned (.tuple #[.agg #[.bool false, .string ⟨#[]⟩], .agg #[.bool false, .string ⟨#[]⟩], .int .i64 9]) ∧ Below w.heap.size w w' := by
  obtain ⟨na, sa, rfl, hz1, hs1, hk1, hkk1⟩ := h1
  obtain ⟨nb, sb, rfl, hz2, hs2, hk2, hkk2⟩ := h2
  have HM : Hid (vB sb.data.toList = 0) := by show _ = _; rw [← natAbs_zv nb sb, hz2]; rfl
  clear hz1 hz2 hk1 hk2
  have S00 := boxes2 w 23 na nb sa sb
  have hb := (below3 w (.cells #[.bool na, .string sa] 23) (.cells #[.bool nb, .string sb] 23) (.cells #[.bool false, .string ⟨#[]⟩] 23)).alloc (by rw [World.size_alloc, World.size_alloc, World.size_alloc]; omega) (.cells #[.bool false, .string ⟨#[]⟩] 23)
  have r5 := (ResCell.new ((w.alloc (.cells #[.bool na, .string sa] 23)).alloc (.cells #[.bool nb, .string sb] 23)) 23).keep (below1 _ (.cells #[.bool false, .string ⟨#[]⟩] 23))
  have r6 := ResCell.new (((w.alloc (.cells #[.bool na, .string sa] 23)).alloc (.cells #[.bool nb, .string sb] 23)).alloc (.cells #[.bool false, .string ⟨#[]⟩] 23)) 23
  rw [World.size_alloc, World.size_alloc] at r5
  rw [World.size_alloc, World.size_alloc, World.size_alloc] at r6
  have e5 : w.heap.size + 1 + 1 ≠ w.heap.size + 1 + 1 + 1 := by omega
  have e6 : w.heap.size + 1 + 1 + 1 ≠ w.heap.size + 1 + 1 := by omega
  go_enter Tryz.func16, Tryz.ntmps16
  go_upto_region 1 with fail
  go_region_held3 (fun W => W.cell? ⟨w.heap.size, 0, none⟩ = some (.bool na) ∧ W.cell? ⟨w.heap.size, 1, none⟩ = some (.string sa) ∧ W.cell? ⟨w.heap.size + 1, 0, none⟩ = some (.bool nb) ∧ W.cell? ⟨w.heap.size + 1, 1, none⟩ = some (.string sb)) (first | exact keep4 (by assumption) (by assumption) | exact keep4aa S00 | go_keep)
    (first
      | (go_at_call_of 60 (Value.agg #[Value.bool na, Value.string sa]); refine (magnitude_any na sa _ (by omega)).mono ?_; rintro e W1 ⟨A1, n1, c1, rfl, i1, b1⟩)
      | (go_at_call_of 60 (Value.agg #[Value.bool nb, Value.string sb]); refine (magnitude_any nb sb _ (by omega)).mono ?_; rintro e W2 ⟨A2, n2, c2, rfl, i2, b2⟩; rw [HM.out] at i2; obtain rfl := (nat_none i2).2 rfl; obtain ⟨r1, r2, r3, r4⟩ := (r5.drew.keep b1).keep b2; obtain ⟨q1, q2, q3, q4⟩ := (r6.drew.keep b1).keep b2))
  all_goals
    go_wp2
    exact bodyPost_ret (v := .tuple #[.agg #[.bool false, .string ⟨#[]⟩], .agg #[.bool false, .string ⟨#[]⟩], .int .i64 9]) (by simp [results, Tryz.results16, go_sem, r1, r2, q1, q2]) rfl ⟨rfl, below_more2 (below_more2 (below_more hb.drew (Nat.le_refl _) b1) (Nat.le_refl _) b2 (by show w.heap.size ≤ w.heap.size + 1 + 1; omega) (by show w.heap.size ≤ w.heap.size + 1 + 1; omega)) (Nat.le_refl _) (Below.refl _ _) (by show w.heap.size ≤ w.heap.size + 1 + 1 + 1; omega) (by show w.heap.size ≤ w.heap.size + 1 + 1 + 1; omega)⟩
end Go.Proofs.YtfcdekkoeeaolaaGreatDoor

namespace Go.Proofs.YtfcdekkoeeaolaaGreatDoor
open Go.RowKit

set_option maxRecDepth 100000 in
set_option maxHeartbeats 3200000 in
theorem iroot_any (v : Value) (z : Int) (k m : Nat) (w : World) (h : IsInt v z k) (hk : k ≤ 1000) (h0 : 0 ≤ z) (hm1 : 1 ≤ m) (hm : m ≤ 4096) :
    Calls Tryz.prog 18 #[v, .int .i64 (m : Int)] w (fun e w' => ∃ R, IsRoot z.natAbs m R ∧ GoodOut w (R : Int) e w') := by
  obtain ⟨na, sa, rfl, hz, hs, hkz, hkk⟩ := h
  have hN : vB sa.data.toList = z.natAbs := by rw [← natAbs_zv na sa, hz]
  have HN := Lib.hid hN
  have Hz := Lib.hid hz
  have hs0 : sg z = false := by unfold sg; exact decide_eq_false (by omega)
  have Hk : Hid (z.natAbs < 4294967296 ^ k) := hkz
  clear hz hkz hN
  have hr := ResCell.new (w.alloc (.cells #[.bool na, .string sa] 23)) 23
  rw [World.size_alloc] at hr
  have hb := below2 w (.cells #[.bool na, .string sa] 23) (.cells #[.bool false, .string ⟨#[]⟩] 23)
  have c1 : ((w.alloc (.cells #[.bool na, .string sa] 23)).alloc (.cells #[.bool false, .string ⟨#[]⟩] 23)).cell? ⟨w.heap.size, 0, none⟩ = some (.bool na) := by simp [go_sem]
  have c2 : ((w.alloc (.cells #[.bool na, .string sa] 23)).alloc (.cells #[.bool false, .string ⟨#[]⟩] 23)).cell? ⟨w.heap.size, 1, none⟩ = some (.string sa) := by simp [go_sem]
  go_enter Tryz.func18, Tryz.ntmps18
  go_wp2_with fail
  refine (can_any na sa _).mono ?_
  rintro e W1 ⟨rfl, b1⟩
  rw [Hz.out, hs0]
  have y1 := cell_keep c1 b1
  have y2 := cell_keep c2 b1
  have HR := hr.keep b1
  clear c1 c2 hr
  have hb1 := below_more hb (Nat.le_refl _) b1
  go_wp2_with fail
  refine (magnitude_any _ sa _ (by omega)).mono ?_
  rintro e W2 ⟨A, n, c, rfl, i2, b2⟩
  rw [HN.out] at i2
  go_wp2_with fail
  refine (root_any A n c z.natAbs m k _ i2 hm1 hm Hk.out hk).mono ?_
  rintro e W3 ⟨R, hR, A3, n3, c3, rfl, i3, b3⟩
  have HI : Hid (IsRoot z.natAbs m R) := hR
  have HRk : Hid (R < 4294967296 ^ k) := Nat.lt_of_le_of_lt (root_le hm1 hR.1) Hk.out
  clear hR
  have l3 : n3 ≤ 1000000000 := by have := i3.len HRk.out; omega
  go_wp2_with fail
  refine (signed_any _ A3 n3 c3 _ _ i3 l3).mono ?_
  rintro e W4 ⟨rfl, b4⟩
  rw [ivN_eq false R (R : Int) rfl]
  obtain ⟨r1, r2, r3, r4⟩ := ((HR.keep b2).keep b3).keep b4
  go_wp2
  exact bodyPost_ret (v := .tuple #[.agg #[.bool (sg (R : Int)), .string (mg (R : Int))], .int .i64 0]) (by simp [results, Tryz.results18, go_sem, r1, r2]) rfl ⟨R, HI.out, rfl, below_more2 (below_more (below_more hb1 (Nat.le_refl _) b2) (Nat.le_refl _) b3) (Nat.le_refl _) b4 (by show w.heap.size ≤ w.heap.size + 1; omega) (by show w.heap.size ≤ w.heap.size + 1; omega)⟩

/-- Out of the range: a negative number, or an exponent that is less than 1 or greater than 4096. -/
theorem iroot_range (v : Value) (z : Int) (k : Nat) (m : Int) (w : World) (h : IsInt v z k) (hx : z < 0 ∨ m < 1 ∨ 4096 < m) :
    Calls Tryz.prog 18 #[v, .int .i64 m] w (FailOut w 2) := by
  obtain ⟨na, sa, rfl, hz, hs, hkz, hkk⟩ := h
  have Hz := Lib.hid hz
  clear hz hkz
  have hr := ResCell.new (w.alloc (.cells #[.bool na, .string sa] 23)) 23
  rw [World.size_alloc] at hr
  have hb := below2 w (.cells #[.bool na, .string sa] 23) (.cells #[.bool false, .string ⟨#[]⟩] 23)
  by_cases h0 : z < 0
  · have hs0 : sg z = true := by unfold sg; exact decide_eq_true h0
    go_enter Tryz.func18, Tryz.ntmps18
    go_wp2_with fail
    refine (can_any na sa _).mono ?_
    rintro e W1 ⟨rfl, b1⟩
    rw [Hz.out, hs0]
    obtain ⟨r1, r2, r3, r4⟩ := hr.keep b1
    go_wp2
    exact bodyPost_ret (v := .tuple #[.agg #[.bool false, .string ⟨#[]⟩], .int .i64 2]) (by simp [results, Tryz.results18, go_sem, r1, r2]) rfl ⟨rfl, below_more2 hb (Nat.le_refl _) b1 (by show w.heap.size ≤ w.heap.size + 1; omega) (by show w.heap.size ≤ w.heap.size + 1; omega)⟩
  · have hs0 : sg z = false := by unfold sg; exact decide_eq_false h0
    have hx' : m < 1 ∨ 4096 < m := by omega
    clear hx
    rcases hx' with hm | hm
    all_goals
      go_enter Tryz.func18, Tryz.ntmps18
      go_wp2_with fail
      refine (can_any na sa _).mono ?_
      rintro e W1 ⟨rfl, b1⟩
      rw [Hz.out, hs0]
      obtain ⟨r1, r2, r3, r4⟩ := hr.keep b1
      go_wp2
      exact bodyPost_ret (v := .tuple #[.agg #[.bool false, .string ⟨#[]⟩], .int .i64 2]) (by simp [results, Tryz.results18, go_sem, r1, r2]) rfl ⟨rfl, below_more2 hb (Nat.le_refl _) b1 (by show w.heap.size ≤ w.heap.size + 1; omega) (by show w.heap.size ≤ w.heap.size + 1; omega)⟩
end Go.Proofs.YtfcdekkoeeaolaaGreatDoor
