/- Power, Simplest, Print and Parse of both implementations of layer 2 return the same, for numbers of up to 24 bytes above and below. Conditions: its own table, and what strings.Cut asks of memory. -/
import Derived.Test.YtcljkdninmldiaaGreatDoorQ39
import Derived.Test.YtcljkdninmldiaaGreatDoorQ41
import Derived.Test.YtcljkdninmldiaaGreatDoorQ43
import Derived.Test.YtcljkdninmldiaaGreatDoorQ46

namespace Go.Proofs.YtcljkdninmldiaaGreatDoor
open Go.RowKit
set_option linter.unusedSimpArgs false
set_option linter.unusedVariables false

set_option maxRecDepth 100000 in
theorem rpw_range (v1 : Value) (q : Rat) (k : Nat) (m : Int) (w : World) (h1 : IsRat v1 q k) (hm : m < 0 ∨ 4096 < m) : Calls Tryz.prog 6 #[v1, .int .i64 m] w (RatFail w 2) := by
  have H1 := Lib.hid h1
  have Hm := Lib.hid hm
  clear hm
  obtain ⟨na, sa, nb, sb, -, -, rfl, -⟩ := h1
  have P0 := ResRat.new (w.alloc (.cells #[.bool na, .string sa, .bool nb, .string sb] 25))
  rw [World.size_alloc] at P0
  have B0 := below2 w (.cells #[.bool na, .string sa, .bool nb, .string sb] 25) (.cells #[.bool false, .string ⟨#[]⟩, .bool false, .string ⟨#[]⟩] 25)
  go_enter Tryz.func6, Tryz.ntmps6
  go_wp2_with fail
  refine (rcanon_any _ q k _ H1.out).mono ?_
  rintro e W1 ⟨rfl, b1⟩
  have hbl := below1 W1 (.cells #[.bool (sg q.num), .string (mg q.num), .bool (sg (q.den : Int)), .string (mg (q.den : Int))] 25)
  have P1 := (P0.keep b1).keep hbl
  have S1 : RIn (W1.alloc (.cells #[.bool (sg q.num), .string (mg q.num), .bool (sg (q.den : Int)), .string (mg (q.den : Int))] 25)) W1.heap.size (sg q.num) (mg q.num) (sg (q.den : Int)) (mg (q.den : Int)) := RIn.new rfl
  have B1 := below_more (below_more B0 (Nat.le_refl _) b1) (Nat.le_refl _) hbl
  clear P0 B0 b1 hbl
  unfold ratV
  go_upto_region 2 with fail
  generalize W1.alloc (.cells #[.bool (sg q.num), .string (mg q.num), .bool (sg (q.den : Int)), .string (mg (q.den : Int))] 25) = W2 at *
  generalize W1.heap.size = p6 at *
  obtain ⟨t1, t2, t3, t4⟩ := id S1
  go_wp2_with fail
  refine (ipow_range _ _ m _ Hm.out).mono ?_
  rintro e W3 ⟨rfl, b3⟩
  have hbl := below1 W3 (.cells #[.bool false, .string ⟨#[]⟩] 23)
  have P2 := (P1.keep b3).keep hbl
  have B2 := below_more (below_more B1 (Nat.le_refl _) b3) (Nat.le_refl _) hbl
  clear P1 S1 B1 b3 hbl t1 t2 t3 t4
  go_upto_region 3 with fail
  generalize W3.alloc (.cells #[.bool false, .string ⟨#[]⟩] 23) = W4 at *
  obtain ⟨⟨r1, r2, r3, r4⟩, r5, r6, r7, r8⟩ := P2
  go_wp2
  exact bodyPost_ret (v := .tuple #[.agg #[.bool false, .string ⟨#[]⟩, .bool false, .string ⟨#[]⟩], .int .i64 2]) (by simp [results, Tryz.results6, go_sem, r1, r2, r3, r4]) rfl ⟨rfl, below4s B2 _ (by omega) _ _ _ _⟩
theorem nb24 {na : Bool} {sa : ByteArray} {nb : Bool} {sb : ByteArray} {k : Nat} (h : RatBd (Rat.divInt (zv na sa) (zv nb sb)) 16) (hk : k ≤ 40) : k * nbits (Rat.divInt (zv na sa) (zv nb sb)).num.natAbs ≤ 65536 ∧ k * nbits (Rat.divInt (zv na sa) (zv nb sb)).den ≤ 65536 := by
  have h1 := nbits_bd h.1
  have h2 := nbits_bd h.2
  constructor
  · exact Nat.le_trans (Nat.mul_le_mul hk h1) (by decide)
  · exact Nat.le_trans (Nat.mul_le_mul hk h2) (by decide)
/-- Both functions return v where memory holds what the first one asks for. -/
def BothT (f g : FuncId) (args : Array Value) (v : Value) : Prop := (∀ w, Zero0 w → Lib.TabIs Tryz.prog w "internal/strconv.uint64pow10" .u64 Lib.pow10Tab → Calls Tryz.prog f args w fun e w' => e = .returned v ∧ Below w.heap.size w w') ∧ (∀ w, Calls Tryz.prog g args w fun e w' => e = .returned v ∧ Below w.heap.size w w')
section
variable {na nb nc nd : Bool} {sa sb sc sd : ByteArray}
theorem pow_both2 (ha : sa.size ≤ 24) (hb : sb.size ≤ 24) {n : Int} (hn : n ≤ 40 ∨ 4096 < n) : ∃ (g1 : Bool) (s1 : ByteArray) (g2 : Bool) (s2 : ByteArray) (c : Int), Both 6 7 #[.agg #[.bool na, .string sa, .bool nb, .string sb], .int .i64 n] (.tuple #[.agg #[.bool g1, .string s1, .bool g2, .string s2], .int .i64 c]) := by
  by_cases hr : n < 0 ∨ 4096 < n
  · exact ⟨_, _, _, _, _, fun w => rpw_range _ _ _ n w (arg_rat ha hb) hr, fun w => rpw02_range _ _ _ n w (ar_arg ha hb) (by omega) hr⟩
  · obtain ⟨m, rfl⟩ : ∃ m : Nat, n = (m : Int) := ⟨n.toNat, by omega⟩
    have hm : m ≤ 40 := by omega
    obtain ⟨e1, e2⟩ := nb24 (na := na) (nb := nb) (arg_rat ha hb).bd hm
    exact ⟨_, _, _, _, _, fun w => rpow_any _ _ _ _ m w (arg_rat ha hb) (by omega) (by omega) e1 e2 rfl, fun w => rpw02_any _ _ _ _ m w (ar_arg ha hb) (by omega) (by omega) e1 e2 rfl⟩
theorem simp_both (ha : sa.size ≤ 24) (hb : sb.size ≤ 24) (hc : sc.size ≤ 24) (hd : sd.size ≤ 24) : ∃ (g1 : Bool) (s1 : ByteArray) (g2 : Bool) (s2 : ByteArray) (c : Int), Both 8 9 #[.agg #[.bool na, .string sa, .bool nb, .string sb], .agg #[.bool nc, .string sc, .bool nd, .string sd]] (.tuple #[.agg #[.bool g1, .string s1, .bool g2, .string s2], .int .i64 c]) := by
  have Ia := arg_rat (na := na) (nb := nb) ha hb
  have Ib := arg_rat (na := nc) (nb := nd) hc hd
  have Aa := ar_arg (na := na) (nb := nb) ha hb
  have Ab := ar_arg (na := nc) (nb := nd) hc hd
  generalize Rat.divInt (zv na sa) (zv nb sb) = p at *
  generalize Rat.divInt (zv nc sc) (zv nd sd) = q at *
  have key : ∀ (v : Value) (n : Int), (∀ v' n', SimRes p q v' n' → v' = v ∧ n' = n) → ∀ w, Calls Tryz.prog 8 #[.agg #[.bool na, .string sa, .bool nb, .string sb], .agg #[.bool nc, .string sc, .bool nd, .string sd]] w fun e w' => e = .returned (.tuple #[v, .int .i64 n]) ∧ Below w.heap.size w w' := by
    intro v n h w
    refine (simplest_any _ _ p q 15 w Ia Ib (by omega) (by omega)).mono ?_
    rintro e w' ⟨v', n', h1, rfl, h2⟩
    obtain ⟨rfl, rfl⟩ := h v' n' h1
    exact ⟨rfl, h2⟩
  rcases rtri q p with hlt | heq | hlt
  · refine ⟨_, _, _, _, _, key _ _ ?_, fun w => rsmp02_order _ _ p q 24 w Aa Ab (by omega) (by omega) hlt⟩
    rintro v' n' (⟨_, h1, h2⟩ | ⟨h, _⟩)
    · exact ⟨h1, h2⟩
    · exact absurd hlt (Rat.not_lt.2 h)
  all_goals
    have hle : p ≤ q := by first | exact Rat.le_of_lt hlt | (rw [heq]; exact Rat.le_refl)
    by_cases hp : 0 < p
    · obtain ⟨x, y, hs⟩ := spOf_total hp hle
      refine ⟨_, _, _, _, _, key (ratV (Rat.divInt x y)) 0 ?_, fun w => rsmp02_pos _ _ p q 24 w Aa Ab (by omega) (by omega) _ 1 rfl (cmp_gt hp) (cmp_le hle) rfl x y _ hp hle hs rfl⟩
      rintro v' n' (⟨h, _⟩ | ⟨_, h2, ⟨_, rn, rd, h3, rfl⟩ | ⟨h3, _⟩ | ⟨h3, _⟩⟩)
      · exact absurd h (Rat.not_lt.2 hle)
      · obtain ⟨rfl, rfl⟩ := h3.sp.same hs hp hle
        exact ⟨h3.sp.raw hp hle, h2⟩
      · exact absurd (show (0 : Rat) < q by grind) (rlt_asymm h3)
      · exact absurd hp (Rat.not_lt.2 h3)
    · by_cases hq : q < 0
      · have hp' : 0 < -q := by grind
        have hle' : -q ≤ -p := Rat.neg_le_neg hle
        obtain ⟨x, y, hs⟩ := spOf_total hp' hle'
        refine ⟨_, _, _, _, _, key (ratV (-(Rat.divInt x y))) 0 ?_, fun w => rsmp02_neg _ _ p q 24 w Aa Ab (by omega) (by omega) _ (-1) rfl (cmp_lt (by grind)) (cmp_le hle) rfl x y _ (-1) (cmp_lt hq) rfl _ _ _ rfl rfl hp' hle' hs rfl rfl⟩
        rintro v' n' (⟨h, _⟩ | ⟨_, h2, ⟨h3, _⟩ | ⟨_, rn, rd, h3, rfl⟩ | ⟨_, h3, _⟩⟩)
        · exact absurd h (Rat.not_lt.2 hle)
        · exact absurd h3 hp
        · obtain ⟨rfl, rfl⟩ := h3.sp.same hs hp' hle'
          exact ⟨rfl, h2⟩
        · exact absurd hq (Rat.not_lt.2 h3)
      · have h1 : p ≤ 0 := Rat.not_lt.1 hp
        have h2 : 0 ≤ q := Rat.not_lt.1 hq
        refine ⟨_, _, _, _, _, key (ratV 0) 0 ?_, fun w => rsmp02_zero _ _ p q 24 w Aa Ab (by omega) (by omega) _ _ _ rfl rfl rfl (cmp_le hle) (cmp_le h1) (cmp_ge h2)⟩
        rintro v' n' (⟨h, _⟩ | ⟨_, h3, ⟨h4, _⟩ | ⟨h4, _⟩ | ⟨_, _, h4⟩⟩)
        · exact absurd h (Rat.not_lt.2 hle)
        · exact absurd h4 hp
        · exact absurd h4 hq
        · exact ⟨h4, h3⟩
theorem print_both2 (ha : sa.size ≤ 24) (hb : sb.size ≤ 24) : ∃ T : List UInt8, BothT 12 13 #[.agg #[.bool na, .string sa, .bool nb, .string sb]] (.string ⟨T.toArray⟩) :=
  ⟨_, fun w _ ht => rprint_any _ _ _ _ w (arg_rat ha hb) (by omega) ht rfl, fun w => rprt02_any _ _ _ _ w (ar_arg ha hb) (by omega) rfl⟩
theorem parse_both2 {l : List UInt8} (hl : l.length ≤ 200) : ∃ (g1 : Bool) (s1 : ByteArray) (g2 : Bool) (s2 : ByteArray) (c : Int), BothT 10 11 #[.string ⟨l.toArray⟩] (.tuple #[.agg #[.bool g1, .string s1, .bool g2, .string s2], .int .i64 c]) := by
  have h1 := fun w h0 => rparse_any l w (by omega) h0
  have h2 := fun w => rprs02_any l w (by omega)
  cases e : pq l with
  | none =>
    rw [e] at h1 h2
    exact ⟨_, _, _, _, _, fun w h0 _ => h1 w h0, h2⟩
  | some q =>
    rw [e] at h1 h2
    exact ⟨_, _, _, _, _, fun w h0 _ => h1 w h0, h2⟩
end
end Go.Proofs.YtcljkdninmldiaaGreatDoor
