/- What grooveref02.Great returns over a slice of rational numbers. Condition: at most a million of them. Words for the laws on rational numbers: variables in blocks, sizes, and what is handed in. No condition. Both implementations of layer 2 return the same, for numbers of up to 24 bytes above and below. Rational numbers among the arguments of a row, and what lies in block 0. No condition. -/
import Derived.Test.YtfcdekkoeeaolaaGreatDoorQ39
import Derived.Lib.Hide
import Derived.Test.YtfcdekkoeeaolaaGreatDoorQ54
import Derived.Test.YtfcdekkoeeaolaaGreatDoorQ36
import Derived.Test.YtfcdekkoeeaolaaGreatDoorQ41
import Derived.Test.YtfcdekkoeeaolaaGreatDoorQ42
import Derived.Test.YtfcdekkoeeaolaaGreatDoorQ43
import Derived.Test.YtfcdekkoeeaolaaGreatDoorQ51
import Derived.Test.YtfcdekkoeeaolaaGreatDoorQ37
import Derived.Test.YtfcdekkoeeaolaaGreatDoorQ53

namespace Go.Proofs.YtfcdekkoeeaolaaGreatDoor
open Go.RowKit
set_option linter.unusedSimpArgs false

theorem great24 (na : Bool) (sa : ByteArray) (w : World) (hs : sa.size ≤ 9223372036854775807) :
    Calls Tryz.prog 86 #[.agg #[.bool na, .string sa]] w fun e w' => e = .returned (.bool (decide (24 < sa.size))) ∧ Below w.heap.size w w' := by
  have hb := below1 w (.cells #[.bool na, .string sa] 23)
  have hd : (decide ((24 : Int) < (sa.size : Int))) = decide (24 < sa.size) := decide_eq_decide.2 (by omega)
  go_enter Tryz.func86, Tryz.ntmps86
  go_wp2
  go_ret
  exact ⟨rfl, hb⟩

/-- n rational numbers lie in a row. -/
def RdRats (w : World) (b n : Nat) (g1 : Nat → Bool) (s1 : Nat → ByteArray) (g2 : Nat → Bool) (s2 : Nat → ByteArray) : Prop :=
  ∀ i, i < n → w.cell? ⟨b, i * 4, none⟩ = some (.bool (g1 i)) ∧ w.cell? ⟨b, i * 4 + 1, none⟩ = some (.string (s1 i)) ∧ w.cell? ⟨b, i * 4 + 2, none⟩ = some (.bool (g2 i)) ∧ w.cell? ⟨b, i * 4 + 2 + 1, none⟩ = some (.string (s2 i))
def greatRB (n : Nat) (s1 s2 : Nat → ByteArray) : Bool := (List.range n).any fun i => decide (24 < (s1 i).size) || decide (24 < (s2 i).size)

set_option maxRecDepth 100000 in
set_option maxHeartbeats 1600000 in
theorem greatR_any (b n c : Nat) (g1 : Nat → Bool) (s1 : Nat → ByteArray) (g2 : Nat → Bool) (s2 : Nat → ByteArray) (w : World) (h : RdRats w b n g1 s1 g2 s2) (hn : n ≤ 1000000) (hs : ∀ i, i < n → (s1 i).size ≤ 9223372036854775807 ∧ (s2 i).size ≤ 9223372036854775807) :
    Calls Tryz.prog 24 #[.slice (some ⟨b, 0, none⟩) n c] w fun e w' => e = .returned (.bool (greatRB n s1 s2)) ∧ Below w.heap.size w w' := by
  have H : Hid (RdRats w b n g1 s1 g2 s2) := h
  have Hs := Lib.hid hs
  clear h hs
  go_enter Tryz.func24, Tryz.ntmps24
  go_wp2_with fail
  go_loopg [3] n (fun g s3 wx => g ≤ n ∧ s3 = .int .i64 ((n - g : Nat) : Int) ∧ Below w.heap.size w wx ∧ Hid (∀ i, i < n - g → (s1 i).size ≤ 24 ∧ (s2 i).size ≤ 24))
  case atStart => exact ⟨Nat.le_refl _, by rw [Nat.sub_self]; rfl, Below.refl _ _, fun i hi => absurd hi (by omega)⟩
  case round =>
    obtain ⟨hg, rfl, hb, hall⟩ := hrel
    rcases gk with _ | g
    · have hgr : Hid (greatRB n s1 s2 = false) := by
        show _ = _
        unfold greatRB
        rw [List.any_eq_false]
        intro i hi
        have := hall.out i (by have := List.mem_range.1 hi; omega)
        simp; omega
      go_wp2
      go_ret
      exact ⟨by rw [hgr.out]; rfl, hb⟩
    · obtain ⟨i, hi⟩ : ∃ i, i = n - (g + 1) := ⟨_, rfl⟩
      rw [← hi] at hall ⊢
      have hin : i < n := by omega
      have HI : Hid (i + 1 = n - g ∧ g + 1 ≤ n) := by show _ ∧ _; omega
      obtain ⟨h1, h2, h3, h4⟩ := H.out i hin
      have x1 : wr.cell? ⟨b, i * 4, none⟩ = some (.bool (g1 i)) := (hb.cell (World.block_lt_of_cell? _ _ h1)).trans h1
      have x2 : wr.cell? ⟨b, i * 4 + 1, none⟩ = some (.string (s1 i)) := (hb.cell (World.block_lt_of_cell? _ _ h2)).trans h2
      have x3 : wr.cell? ⟨b, i * 4 + 2, none⟩ = some (.bool (g2 i)) := (hb.cell (World.block_lt_of_cell? _ _ h3)).trans h3
      have x4 : wr.cell? ⟨b, i * 4 + 2 + 1, none⟩ = some (.string (s2 i)) := (hb.cell (World.block_lt_of_cell? _ _ h4)).trans h4
      obtain ⟨z1, z2⟩ := Hs.out i hin
      clear hi h1 h2 h3 h4 hg
      go_wp2_with fail
      refine (great24 (g1 i) (s1 i) _ z1).mono ?_
      rintro e W1 ⟨rfl, b1⟩
      have hb2 := below_more hb (Nat.le_refl _) b1
      have y1 := cell_keep x1 b1
      have y2 := cell_keep x2 b1
      have y3 := cell_keep x3 b1
      have y4 := cell_keep x4 b1
      clear hb b1 x1 x2 x3 x4
      by_cases hbig : 24 < (s1 i).size
      · have hgr : Hid (greatRB n s1 s2 = true) := by
          show _ = _
          unfold greatRB
          rw [List.any_eq_true]
          exact ⟨i, List.mem_range.2 hin, by rw [decide_eq_true hbig]; rfl⟩
        rw [decide_eq_true hbig]
        go_wp2
        go_ret
        exact ⟨by rw [hgr.out]; rfl, hb2⟩
      · rw [decide_eq_false hbig]
        go_wp2_with fail
        refine (great24 (g2 i) (s2 i) _ z2).mono ?_
        rintro e W2 ⟨rfl, b2⟩
        have hb3 := below_more hb2 (Nat.le_refl _) b2
        clear hb2 b2 y1 y2 y3 y4
        by_cases hbig2 : 24 < (s2 i).size
        · have hgr : Hid (greatRB n s1 s2 = true) := by
            show _ = _
            unfold greatRB
            rw [List.any_eq_true]
            exact ⟨i, List.mem_range.2 hin, by rw [decide_eq_true hbig2]; simp⟩
          rw [decide_eq_true hbig2]
          go_wp2
          go_ret
          exact ⟨by rw [hgr.out]; rfl, hb3⟩
        · have hall2 : Hid (∀ j, j < i + 1 → (s1 j).size ≤ 24 ∧ (s2 j).size ≤ 24) := by
            intro j hj
            by_cases e : j = i
            · subst e; omega
            · exact hall.out j (by omega)
          rw [decide_eq_false hbig2]
          go_wp2
          go_roundg g
          case measure => omega
          case rel => exact ⟨by have := HI.out.2; omega, by rw [← HI.out.1]; rfl, hb3, by rw [← HI.out.1]; exact hall2⟩
end Go.Proofs.YtfcdekkoeeaolaaGreatDoor

namespace Go.Proofs.YtfcdekkoeeaolaaGreatDoor
open Go.RowKit
set_option linter.unusedSimpArgs false

/-- A variable of the type api.Rat, made before calls and stored behind them. -/
theorem Vars.stored {L : List (Nat × List Value)} {W : World} {p : Nat} {u1 u2 u3 u4 : Value} (h : Vars ((p, [u1, u2, u3, u4]) :: L) W) (hp : ∀ x ∈ L, x.1 ≠ p) (g1 g2 : Bool) (s1 s2 : ByteArray) :
    Vars ((p, [.bool g1, .string s1, .bool g2, .string s2]) :: L) ((((W.setCell ⟨p, 0, none⟩ (.bool g1)).setCell ⟨p, 1, none⟩ (.string s1)).setCell ⟨p, 2, none⟩ (.bool g2)).setCell ⟨p, 3, none⟩ (.string s2)) := by
  obtain ⟨r1, r2, r3, r4⟩ := RIn.made (W := W) (p := p) ⟨u1, u2, u3, u4, h.at 0 0 rfl, h.at 0 1 rfl, h.at 0 2 rfl, h.at 0 3 rfl⟩ g1 g2 s1 s2
  refine Vars.cons ?_ ((((h.tail.set _ hp _).set _ hp _).set _ hp _).set _ hp _)
  intro i v e
  rcases i with _ | _ | _ | _ | i
  · simp at e; subst e; exact r1
  · simp at e; subst e; exact r2
  · simp at e; subst e; exact r3
  · simp at e; subst e; exact r4
  · simp at e
def sel {α : Type} (l : List α) (d : α) : Nat → α := fun i => l.getD i d
theorem below4r (w : World) (o1 o2 o3 o4 : Obj) : Below w.heap.size w ((((w.alloc o1).alloc o2).alloc o3).alloc o4) := (below3 w o1 o2 o3).alloc (by simp only [World.size_alloc]; omega) _

/-- Sizes. -/
theorem arg_rat {na nb : Bool} {sa sb : ByteArray} (ha : sa.size ≤ 24) (hb : sb.size ≤ 24) : IsRat (.agg #[.bool na, .string sa, .bool nb, .string sb]) (Rat.divInt (zv na sa) (zv nb sb)) 15 :=
  ⟨na, sa, nb, sb, _, _, rfl, arg_int na sa (by omega), arg_int nb sb (by omega), rfl⟩
theorem IsRat.bd {v : Value} {q : Rat} {k : Nat} (h : IsRat v q k) : RatBd q (k + 1) := by
  obtain ⟨_, _, _, _, n, d, _, h2, h3, rfl⟩ := h
  exact ratBd_divInt h2.bd h3.bd
theorem IsRat.wider {v : Value} {q : Rat} {k k' : Nat} (h : IsRat v q k) (hk : k ≤ k') (hk' : k' ≤ 10000000) : IsRat v q k' := by
  obtain ⟨na, sa, nb, sb, n, d, h1, h2, h3, h4⟩ := h
  exact ⟨na, sa, nb, sb, n, d, h1, h2.wider hk hk', h3.wider hk hk', h4⟩
theorem RatBd.wider {q : Rat} {k k' : Nat} (h : RatBd q k) (hk : k ≤ k') : RatBd q k' :=
  ⟨Nat.lt_of_lt_of_le h.1 (Nat.pow_le_pow_right (by omega) hk), Nat.lt_of_lt_of_le h.2 (Nat.pow_le_pow_right (by omega) hk)⟩
theorem rat_is {q : Rat} {k : Nat} (h : RatBd q k) (k' : Nat) (hk : k ≤ k') (hk' : k' ≤ 10000000) : IsRat (.agg #[.bool (sg q.num), .string (mg q.num), .bool (sg (q.den : Int)), .string (mg (q.den : Int))]) q k' := isRat_ratV (h.wider hk) hk'
theorem rbd_mul {p q r : Rat} {k1 k2 : Nat} (h1 : RatBd p k1) (h2 : RatBd q k2) (e : p * q = r) : RatBd r (k1 + k2 + 1) := by
  subst e
  have e : p * q = Rat.divInt (p.num * q.num) ((p.den : Int) * (q.den : Int)) := by rw [← Rat.divInt_mul_divInt, Rat.num_divInt_den, Rat.num_divInt_den]
  rw [e]
  refine ratBd_divInt ?_ ?_
  · rw [Int.natAbs_mul]; exact prod_bound h1.1 h2.1
  · rw [Int.natAbs_mul]; exact prod_bound h1.2 h2.2
theorem rbd_add {p q r : Rat} {k1 k2 : Nat} (h1 : RatBd p k1) (h2 : RatBd q k2) (e : p + q = r) : RatBd r (k1 + k2 + 2) := by
  subst e
  have hp := p.den_pos
  have hq := q.den_pos
  have e : p + q = Rat.divInt (p.num * (q.den : Int) + q.num * (p.den : Int)) ((p.den : Int) * (q.den : Int)) := by
    rw [← Rat.divInt_add_divInt _ _ (by omega) (by omega), Rat.num_divInt_den, Rat.num_divInt_den]
  rw [e]
  have b1 : (p.num * (q.den : Int)).natAbs < 4294967296 ^ (k1 + k2) := by rw [Int.natAbs_mul]; exact prod_bound h1.1 h2.2
  have b2 : (q.num * (p.den : Int)).natAbs < 4294967296 ^ (k1 + k2) := by rw [Int.natAbs_mul, Nat.add_comm]; exact prod_bound h2.1 h1.2
  have b3 : ((p.den : Int) * (q.den : Int)).natAbs < 4294967296 ^ (k1 + k2) := by rw [Int.natAbs_mul]; exact prod_bound h1.2 h2.2
  have b4 := Int.natAbs_add_le (p.num * (q.den : Int)) (q.num * (p.den : Int))
  refine ratBd_divInt (k := k1 + k2 + 1) ?_ ?_
  · rw [Nat.pow_succ]; omega
  · rw [Nat.pow_succ]; omega
theorem rbd_neg {p r : Rat} {k : Nat} (h : RatBd p k) (e : -p = r) : RatBd r k := by
  subst e
  exact ⟨by show (-p.num).natAbs < _; rw [Int.natAbs_neg]; exact h.1, h.2⟩
theorem rbd_pow {p r : Rat} {k : Nat} (m : Nat) (h : RatBd p k) (e : p ^ m = r) : RatBd r (k * m + 1) := by
  subst e
  have hB : (4294967296 ^ k) ^ m < 4294967296 ^ (k * m + 1) := by
    rw [← Nat.pow_mul, Nat.pow_succ]
    have : 1 ≤ 4294967296 ^ (k * m) := Nat.pow_pos (by omega)
    omega
  constructor
  · rw [Rat.num_pow, Int.natAbs_pow]
    exact Nat.lt_of_le_of_lt (Nat.pow_le_pow_left (Nat.le_of_lt h.1) m) hB
  · rw [Rat.den_pow]
    exact Nat.lt_of_le_of_lt (Nat.pow_le_pow_left (Nat.le_of_lt h.2) m) hB
theorem nbits_bd {N k : Nat} (h : N < 4294967296 ^ k) : nbits N ≤ 32 * k := by
  unfold nbits
  split
  · omega
  · rename_i h0
    have h1 : N < 2 ^ (32 * k) := by rw [Nat.pow_mul]; exact h
    have := (Nat.log2_lt h0).2 h1
    omega
theorem rbd_sub {p q r : Rat} {k1 k2 : Nat} (h1 : RatBd p k1) (h2 : RatBd q k2) (e : p - q = r) : RatBd r (k1 + k2 + 2) :=
  rbd_add h1 (rbd_neg h2 rfl) (by rw [← e, Rat.sub_eq_add_neg])
theorem rbd_int {z : Int} {r : Rat} {k : Nat} (h : z.natAbs < 4294967296 ^ k) (e : (z : Rat) = r) : RatBd r (k + 1) := by
  subst e
  exact ⟨Nat.lt_of_lt_of_le h (Nat.pow_le_pow_right (by omega) (by omega)), Nat.one_lt_pow (by omega) (by omega)⟩
theorem floor_bd {q : Rat} {k : Nat} {f : Int} (h : RatBd q k) (e : q.floor = f) : f.natAbs < 4294967296 ^ (k + 1) := by
  subst e
  rw [Rat.floor_def]
  have h1 : (q.num / (q.den : Int)).natAbs ≤ q.num.natAbs + 1 := by
    have hd := q.den_pos
    have e1 := Int.mul_ediv_add_emod q.num (q.den : Int)
    have e2 := Int.emod_nonneg q.num (b := (q.den : Int)) (by omega)
    have e3 := Int.emod_lt_of_pos q.num (b := (q.den : Int)) (by omega)
    generalize q.num / (q.den : Int) = t at *
    generalize q.num % (q.den : Int) = u at *
    generalize q.num = n at *
    generalize q.den = d at *
    rcases (show t < 0 ∨ 0 ≤ t by omega) with ht | ht
    · have h3 : (d : Int) * t ≤ 1 * t := Int.mul_le_mul_of_nonpos_right (by omega) (by omega)
      rcases (show t + 1 < 0 ∨ 0 ≤ t + 1 by omega) with h4 | h4
      · have h5 : (d : Int) * (t + 1) ≤ 1 * (t + 1) := Int.mul_le_mul_of_nonpos_right (by omega) (by omega)
        rw [Int.mul_add] at h5
        omega
      · omega
    · have h3 : 1 * t ≤ (d : Int) * t := Int.mul_le_mul_of_nonneg_right (by omega) ht
      omega
  have h2 := h.1
  rw [Nat.pow_succ]
  have : 1 ≤ 4294967296 ^ k := Nat.pow_pos (by omega)
  omega
theorem rof_eq {v : Value} {z : Int} {r : Rat} {k : Nat} {w : World} (h : IsInt v z k) (e : (z : Rat) = r) : Calls Tryz.prog 34 #[v] w (RatOut w r) := e ▸ rof_any v z k w h
theorem rcmp_eq {v1 v2 : Value} {p q : Rat} {k : Nat} {c : Int} {w : World} (h1 : IsRat v1 p k) (h2 : IsRat v2 q k) (hk : k ≤ 4000000) (e : cmpQ p q = c) :
    Calls Tryz.prog 44 #[v1, v2] w fun e w' => e = .returned (.int .i64 c) ∧ Below w.heap.size w w' := e ▸ rcmp_any v1 v2 p q k w h1 h2 hk
theorem great1R (sa sb : ByteArray) : greatRB 1 (fun _ => sa) (fun _ => sb) = (decide (24 < sa.size) || decide (24 < sb.size)) := by simp [greatRB, List.range_succ]
theorem great2R (sa sb ta tb : ByteArray) : greatRB 2 (sel [sa, sb] ⟨#[]⟩) (sel [ta, tb] ⟨#[]⟩) = ((decide (24 < sa.size) || decide (24 < ta.size)) || (decide (24 < sb.size) || decide (24 < tb.size))) := by simp [greatRB, sel, List.range_succ]
theorem great3R (sa sb sc ta tb tc : ByteArray) : greatRB 3 (sel [sa, sb, sc] ⟨#[]⟩) (sel [ta, tb, tc] ⟨#[]⟩) = ((decide (24 < sa.size) || decide (24 < ta.size)) || ((decide (24 < sb.size) || decide (24 < tb.size)) || (decide (24 < sc.size) || decide (24 < tc.size)))) := by simp [greatRB, sel, List.range_succ]
theorem rlt_asymm {a b : Rat} (h : a < b) : ¬ b < a := by grind
theorem rlt_irr {a : Rat} : ¬ a < a := by grind
theorem rtri (a b : Rat) : a < b ∨ a = b ∨ b < a := by grind
theorem cmpQ_self (p : Rat) : cmpQ p p = 0 := by unfold cmpQ; rw [if_neg rlt_irr, if_neg rlt_irr]
theorem cmpQ_three (p q : Rat) : (p < q ∧ cmpQ p q = -1) ∨ (p = q ∧ cmpQ p q = 0) ∨ (q < p ∧ cmpQ p q = 1) := by
  unfold cmpQ
  rcases rtri p q with h | h | h
  · exact Or.inl ⟨h, if_pos h⟩
  · subst h; exact Or.inr (Or.inl ⟨rfl, by rw [if_neg rlt_irr, if_neg rlt_irr]⟩)
  · exact Or.inr (Or.inr ⟨h, by rw [if_neg (rlt_asymm h), if_pos h]⟩)
end Go.Proofs.YtfcdekkoeeaolaaGreatDoor

namespace Go.Proofs.YtfcdekkoeeaolaaGreatDoor
open Go.RowKit
set_option linter.unusedSimpArgs false
set_option linter.unusedVariables false

set_option maxRecDepth 100000 in
theorem ratio_none (n : Int) (w : World) (hn : -9223372036854775808 ≤ n) (hn' : n ≤ 9223372036854775807) :
    Calls Tryz.prog 28 #[.int .i64 n, .int .i64 0] w (RatFail w 9) := by
  have In := Lib.hid (show IsInt (.agg #[.bool (sg n), .string (mg n)]) n 2 from isInt_mg (by omega) (by omega))
  have Id := Lib.hid (show IsInt (.agg #[.bool (sg 0), .string (mg 0)]) 0 2 from isInt_mg (by omega) (by omega))
  have P0 := ResRat.new w
  have B0 := below1 w (.cells #[.bool false, .string ⟨#[]⟩, .bool false, .string ⟨#[]⟩] 36)
  go_enter Tryz.func28, Tryz.ntmps28
  go_wp2_with fail
  refine (iof_any n _ hn hn').mono ?_
  rintro e W1 ⟨rfl, b1⟩
  go_wp2_with fail
  refine (iof_any 0 _ (by omega) (by omega)).mono ?_
  rintro e W2 ⟨rfl, b2⟩
  go_wp2_with fail
  refine (new_none _ _ n 2 _ In.out Id.out).mono ?_
  rintro e W3 ⟨rfl, b3⟩
  have P1 := ((P0.keep b1).keep b2).keep b3
  have B1 := below_more (below_more (below_more B0 (Nat.le_refl _) b1) (Nat.le_refl _) b2) (Nat.le_refl _) b3
  obtain ⟨⟨r1, r2, r3, r4⟩, r5, r6, r7, r8⟩ := P1
  go_wp2
  exact bodyPost_ret (v := .tuple #[.agg #[.bool false, .string ⟨#[]⟩, .bool false, .string ⟨#[]⟩], .int .i64 9]) (by simp [results, Tryz.results28, go_sem, r1, r2, r3, r4]) rfl ⟨rfl, below4s B1 _ (Nat.le_refl _) _ _ _ _⟩
theorem sameR_symm (a : Bool) (s : ByteArray) (b : Bool) (t : ByteArray) (a' : Bool) (s' : ByteArray) (b' : Bool) (t' : ByteArray) : sameR a s b t a' s' b' t' = sameR a' s' b' t' a s b t := by
  unfold sameR
  rw [Bool.beq_comm (a := a), Bool.beq_comm (a := b), BEq.comm (a := s.toList), BEq.comm (a := t.toList)]
theorem ar_arg {na nb : Bool} {sa sb : ByteArray} (ha : sa.size ≤ 24) (hb : sb.size ≤ 24) : AR (.agg #[.bool na, .string sa, .bool nb, .string sb]) (Rat.divInt (zv na sa) (zv nb sb)) 24 :=
  ⟨na, sa, nb, sb, _, _, rfl, ai_arg na sa ha, ai_arg nb sb hb, rfl⟩
/-- Both functions return v, whatever is in memory. -/
def Both (f g : FuncId) (args : Array Value) (v : Value) : Prop := (∀ w, Calls Tryz.prog f args w fun e w' => e = .returned v ∧ Below w.heap.size w w') ∧ (∀ w, Calls Tryz.prog g args w fun e w' => e = .returned v ∧ Below w.heap.size w w')
section
variable {na nb nc nd : Bool} {sa sb sc sd : ByteArray}
theorem check_both (ha : sa.size ≤ 24) (hb : sb.size ≤ 24) : ∃ c : Int, Both 32 33 #[.agg #[.bool na, .string sa, .bool nb, .string sb]] (.int .i64 c) :=
  ⟨_, fun w => rcheck_any na nb sa sb _ _ _ w (arg_rat ha hb) rfl, fun w => rchk02_any na nb sa sb _ _ _ w (ar_arg ha hb) (by omega) (sameR_symm _ _ _ _ _ _ _ _)⟩
theorem new_both (ha : sa.size ≤ 24) (hb : sb.size ≤ 24) : ∃ (g1 : Bool) (s1 : ByteArray) (g2 : Bool) (s2 : ByteArray) (c : Int), Both 26 27 #[.agg #[.bool na, .string sa], .agg #[.bool nb, .string sb]] (.tuple #[.agg #[.bool g1, .string s1, .bool g2, .string s2], .int .i64 c]) := by
  have Ia := arg_int na sa (show sa.size ≤ 60 by omega)
  have Ib := arg_int nb sb (show sb.size ≤ 60 by omega)
  have Aa := ai_arg na sa ha
  have Ab := ai_arg nb sb hb
  by_cases h0 : zv nb sb = 0
  · rw [h0] at Ib Ab
    exact ⟨_, _, _, _, _, fun w => new_none _ _ _ _ w Ia Ib, fun w => rnew02_none _ _ _ _ w Aa Ab (by omega)⟩
  · exact ⟨_, _, _, _, _, fun w => new_some _ _ _ _ _ w Ia Ib h0, fun w => rnew02_any _ _ _ _ _ _ w Aa Ab (by omega) rfl h0⟩
theorem ratio_both {n d : Int} (hn : -9223372036854775808 ≤ n) (hn' : n ≤ 9223372036854775807) (hd : -9223372036854775808 ≤ d) (hd' : d ≤ 9223372036854775807) : ∃ (g1 : Bool) (s1 : ByteArray) (g2 : Bool) (s2 : ByteArray) (c : Int), Both 28 29 #[.int .i64 n, .int .i64 d] (.tuple #[.agg #[.bool g1, .string s1, .bool g2, .string s2], .int .i64 c]) := by
  by_cases h0 : d = 0
  · subst h0
    exact ⟨_, _, _, _, _, fun w => ratio_none n w hn hn', fun w => ratio02_none n w hn hn'⟩
  · exact ⟨_, _, _, _, _, fun w => ratio_any n d _ w hn hn' hd hd' h0 rfl, fun w => ratio02_any n d _ w hn hn' hd hd' h0 rfl⟩
theorem quo_both (ha : sa.size ≤ 24) (hb : sb.size ≤ 24) (hc : sc.size ≤ 24) (hd : sd.size ≤ 24) : ∃ (g1 : Bool) (s1 : ByteArray) (g2 : Bool) (s2 : ByteArray) (c : Int), Both 30 31 #[.agg #[.bool na, .string sa, .bool nb, .string sb], .agg #[.bool nc, .string sc, .bool nd, .string sd]] (.tuple #[.agg #[.bool g1, .string s1, .bool g2, .string s2], .int .i64 c]) := by
  by_cases h0 : Rat.divInt (zv nc sc) (zv nd sd) = 0
  · exact ⟨_, _, _, _, _, fun w => rquo_none _ _ _ _ _ w (arg_rat ha hb) (arg_rat hc hd) (by omega) h0, fun w => rquo02_none _ _ _ _ _ w (ar_arg ha hb) (ar_arg hc hd) (by omega) h0⟩
  · exact ⟨_, _, _, _, _, fun w => rquo_some _ _ _ _ _ _ w (arg_rat ha hb) (arg_rat hc hd) (by omega) h0 rfl, fun w => rquo02_some _ _ _ _ _ _ w (ar_arg ha hb) (ar_arg hc hd) (by omega) rfl h0⟩
theorem of_both (ha : sa.size ≤ 24) : ∃ (g1 : Bool) (s1 : ByteArray) (g2 : Bool) (s2 : ByteArray), Both 34 35 #[.agg #[.bool na, .string sa]] (.agg #[.bool g1, .string s1, .bool g2, .string s2]) :=
  ⟨_, _, _, _, fun w => rof_any _ _ _ w (arg_int na sa (show sa.size ≤ 60 by omega)), fun w => rof02_any _ _ _ w (ai_arg na sa ha) (by omega)⟩
theorem add_both (ha : sa.size ≤ 24) (hb : sb.size ≤ 24) (hc : sc.size ≤ 24) (hd : sd.size ≤ 24) : ∃ (g1 : Bool) (s1 : ByteArray) (g2 : Bool) (s2 : ByteArray), Both 36 37 #[.agg #[.bool na, .string sa, .bool nb, .string sb], .agg #[.bool nc, .string sc, .bool nd, .string sd]] (.agg #[.bool g1, .string s1, .bool g2, .string s2]) :=
  ⟨_, _, _, _, fun w => radd_any _ _ _ _ _ _ w (arg_rat ha hb) (arg_rat hc hd) (by omega) rfl, fun w => radd02_any _ _ _ _ _ _ w (ar_arg ha hb) (ar_arg hc hd) (by omega) rfl⟩
theorem sub_both (ha : sa.size ≤ 24) (hb : sb.size ≤ 24) (hc : sc.size ≤ 24) (hd : sd.size ≤ 24) : ∃ (g1 : Bool) (s1 : ByteArray) (g2 : Bool) (s2 : ByteArray), Both 38 39 #[.agg #[.bool na, .string sa, .bool nb, .string sb], .agg #[.bool nc, .string sc, .bool nd, .string sd]] (.agg #[.bool g1, .string s1, .bool g2, .string s2]) :=
  ⟨_, _, _, _, fun w => rsub_any _ _ _ _ _ _ w (arg_rat ha hb) (arg_rat hc hd) (by omega) rfl, fun w => rsub02_any _ _ _ _ _ _ w (ar_arg ha hb) (ar_arg hc hd) (by omega) rfl⟩
theorem mul_both (ha : sa.size ≤ 24) (hb : sb.size ≤ 24) (hc : sc.size ≤ 24) (hd : sd.size ≤ 24) : ∃ (g1 : Bool) (s1 : ByteArray) (g2 : Bool) (s2 : ByteArray), Both 40 41 #[.agg #[.bool na, .string sa, .bool nb, .string sb], .agg #[.bool nc, .string sc, .bool nd, .string sd]] (.agg #[.bool g1, .string s1, .bool g2, .string s2]) :=
  ⟨_, _, _, _, fun w => rmul_any _ _ _ _ _ _ w (arg_rat ha hb) (arg_rat hc hd) (by omega) rfl, fun w => rmul02_any _ _ _ _ _ _ w (ar_arg ha hb) (ar_arg hc hd) (by omega) rfl⟩
theorem neg_both (ha : sa.size ≤ 24) (hb : sb.size ≤ 24) : ∃ (g1 : Bool) (s1 : ByteArray) (g2 : Bool) (s2 : ByteArray), Both 42 43 #[.agg #[.bool na, .string sa, .bool nb, .string sb]] (.agg #[.bool g1, .string s1, .bool g2, .string s2]) :=
  ⟨_, _, _, _, fun w => rneg_any _ _ _ _ w (arg_rat ha hb) (by omega) rfl, fun w => rneg02_any _ _ _ _ w (ar_arg ha hb) (by omega) rfl⟩
theorem cmp_both (ha : sa.size ≤ 24) (hb : sb.size ≤ 24) (hc : sc.size ≤ 24) (hd : sd.size ≤ 24) : ∃ c : Int, Both 44 45 #[.agg #[.bool na, .string sa, .bool nb, .string sb], .agg #[.bool nc, .string sc, .bool nd, .string sd]] (.int .i64 c) :=
  ⟨_, fun w => rcmp_any _ _ _ _ _ w (arg_rat ha hb) (arg_rat hc hd) (by omega), fun w => rcmp02_any _ _ _ _ _ _ w (ar_arg ha hb) (ar_arg hc hd) (by omega) rfl⟩
theorem floor_both (ha : sa.size ≤ 24) (hb : sb.size ≤ 24) : ∃ (g : Bool) (s : ByteArray), Both 46 47 #[.agg #[.bool na, .string sa, .bool nb, .string sb]] (.agg #[.bool g, .string s]) :=
  ⟨_, _, fun w => rfloor_any _ _ _ _ w (arg_rat ha hb) rfl, fun w => rfloor02_any _ _ _ _ w (ar_arg ha hb) (by omega) rfl⟩
end
end Go.Proofs.YtfcdekkoeeaolaaGreatDoor

namespace Go.Proofs.YtfcdekkoeeaolaaGreatDoor
open Go.ChangeShapes Go.WideShapes Go.ChangeAt Go.RowKit
open Go.ChangeMaps (open_string shut_string)
set_option linter.unusedSimpArgs false

theorem cellsRat : Tryz.prog.cellsOf 36 = 4 := by kernel_rfl
theorem cellsBool : Tryz.prog.cellsOf 4 = 1 := by kernel_rfl
theorem cellsStr : Tryz.prog.cellsOf 9 = 1 := by kernel_rfl
section
variable {H : Type} {enc : TypeId × Value → H} {w : World} {base b0 : Nat} {sp : Nat → Bool} {held : Bool} {r : Reach}
set_option maxRecDepth 100000 in
theorem int_cells {n : Nat} {c0 c1 : Value} {y : DataW H × List MemPlace} (hf : DataW.trod enc Tryz.prog w base sp held n 23 [c0, c1] = some y) :
    ∃ (g : Bool) (s : ByteArray), c0 = .bool g ∧ c1 = .string s ∧ y = (.agg [.lit (.bool g), .lit (.string s.data.toList)], []) ∧ s.size ≤ maxLen := by
  obtain ⟨y0, y1, m, rfl, _, h0, h1⟩ := trod_struct2 Tryz.underlying23 hf
  have h0' : DataW.trod enc Tryz.prog w base sp held m 4 [c0] = some y0 := by simpa [cellsBool] using h0
  have h1' : DataW.trod enc Tryz.prog w base sp held m 9 [c1] = some y1 := by simpa [cellsStr] using h1
  obtain ⟨g, e0, rfl⟩ := DataW.trod_bool Tryz.underlying4 h0'
  obtain ⟨s, e1, rfl, hs⟩ := DataW.trod_string Tryz.underlying9 h1'
  simp at e0 e1
  subst e0 e1
  exact ⟨g, s, rfl, rfl, rfl, hs⟩
set_option maxRecDepth 100000 in
/-- A rational number that was handed in, opened. -/
theorem rat_open {v : Value} {d : DataW H} {p : List MemPlace} (hv : Value.okWide Tryz.prog w r b0 36 v) (h : DataW.Trod enc Tryz.prog w base sp held 36 v d p) :
    ∃ (na : Bool) (sa : ByteArray) (nb : Bool) (sb : ByteArray), v = .agg #[.bool na, .string sa, .bool nb, .string sb] ∧ d = .agg [.agg [.lit (.bool na), .lit (.string sa.data.toList)], .agg [.lit (.bool nb), .lit (.string sb.data.toList)]] ∧ p = [] ∧ sa.size ≤ maxLen ∧ sb.size ≤ maxLen := by
  obtain ⟨cs, rfl, hsz⟩ := okWide_struct Tryz.underlying36 hv
  obtain ⟨c0, c1, c2, c3, rfl⟩ := Joins.array4 (hsz.trans cellsRat)
  obtain ⟨fuel, hf⟩ := h
  obtain ⟨y0, y1, n, hx, _, h0, h1⟩ := trod_struct2 Tryz.underlying36 hf
  have h0' : DataW.trod enc Tryz.prog w base sp held n 23 [c0, c1] = some y0 := by simpa [cellsInt, Value.cells] using h0
  have h1' : DataW.trod enc Tryz.prog w base sp held n 23 [c2, c3] = some y1 := by simpa [cellsInt, Value.cells] using h1
  obtain ⟨na, sa, rfl, rfl, rfl, z0⟩ := int_cells h0'
  obtain ⟨nb, sb, rfl, rfl, rfl, z1⟩ := int_cells h1'
  simp only [Prod.mk.injEq] at hx
  exact ⟨na, sa, nb, sb, rfl, hx.1, hx.2, z0, z1⟩
set_option maxRecDepth 100000 in
theorem rat_shut {na nb : Bool} {sa sb : ByteArray} (ha : sa.size ≤ maxLen) (hb : sb.size ≤ maxLen) :
    DataW.Trod enc Tryz.prog w base sp held 36 (.agg #[.bool na, .string sa, .bool nb, .string sb]) (.agg [.agg [.lit (.bool na), .lit (.string sa.data.toList)], .agg [.lit (.bool nb), .lit (.string sb.data.toList)]]) [] := by
  obtain ⟨n0, t0⟩ := int_shut (enc := enc) (w := w) (base := base) (sp := sp) (held := held) (ng := na) ha
  obtain ⟨n1, t1⟩ := int_shut (enc := enc) (w := w) (base := base) (sp := sp) (held := held) (ng := nb) hb
  have ts := trod_struct2_mk (enc := enc) (w := w) (base := base) (spare := sp) (held := held) (n := max n0 n1) (cs := [.bool na, .string sa, .bool nb, .string sb]) Tryz.underlying36 (by simp [cellsRat])
    (by simpa [cellsInt, Value.cells] using DataW.trod_le (Nat.le_max_left n0 n1) t0) (by simpa [cellsInt, Value.cells] using DataW.trod_le (Nat.le_max_right n0 n1) t1)
  exact ⟨_, by simpa [Value.cells] using ts⟩
end
set_option maxRecDepth 100000 in
theorem zero0 {W : World} (hS : W.ShapedOpen Tryz.prog) : Zero0 W := by
  obtain ⟨cs, hh, hs, hr⟩ := hS.1 0 #[.int .i64 0] 3 (of_decide_eq_true (by kernel_rfl)) (by kernel_rfl)
  obtain ⟨ts, hts, _, hall⟩ := hr (by kernel_rfl)
  rw [show Tryz.prog.cellTypes Tryz.prog.depth 3 = some [3] by kernel_rfl] at hts
  cases hts
  have h1 : 0 < cs.size := by rw [hs]; exact Nat.zero_lt_one
  clear hs hr hS
  obtain ⟨u, hu', hok⟩ := hall 0 cs[0] (Array.getElem?_eq_getElem h1)
  have hu : u = 3 := by
    have h2 : (some 3 : Option TypeId) = some u := hu'
    exact (Option.some.inj h2).symm
  subst hu
  have hcell : W.cell? ⟨0, 0, none⟩ = some cs[0] := by
    unfold World.cell?
    dsimp only
    rw [hh]
    exact Array.getElem?_eq_getElem h1
  unfold Zero0
  rw [hcell]
  clear hall hh hcell hu'
  generalize cs[0] = v at hok
  unfold Cell.ok at hok
  rw [Tryz.underlying3] at hok
  cases v <;> first | (simp at hok; obtain ⟨rfl, _⟩ := hok; exact ⟨_, rfl⟩) | simp at hok
theorem noStandR : Tryz.prog.wantsStandIn 36 = false := by kernel_rfl
end Go.Proofs.YtfcdekkoeeaolaaGreatDoor
