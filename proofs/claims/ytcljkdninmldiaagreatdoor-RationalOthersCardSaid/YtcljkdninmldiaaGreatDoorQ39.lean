/- Words for two implementations of layer 2 that return the same. Condition: at most 24 bytes. What the reference implementation's Check, New, Of and Ratio of layer 2 return. Condition: at most 10^6 bytes. What the reference implementation's Ratio, Neg and Floor of layer 2 return; two rational numbers that came in. Condition: at most 10^6 bytes. -/
import Derived.Test.YtcljkdninmldiaaGreatDoorQ32
import Derived.Test.YtcljkdninmldiaaGreatDoorQ38

namespace Go.Proofs.YtcljkdninmldiaaGreatDoor
open Go.RowKit
set_option linter.unusedSimpArgs false

theorem sameR_symm (a : Bool) (s : ByteArray) (b : Bool) (t : ByteArray) (a' : Bool) (s' : ByteArray) (b' : Bool) (t' : ByteArray) : sameR a s b t a' s' b' t' = sameR a' s' b' t' a s b t := by
  unfold sameR
  rw [Bool.beq_comm (a := a), Bool.beq_comm (a := b), BEq.comm (a := s.toList), BEq.comm (a := t.toList)]
theorem ar_arg {na nb : Bool} {sa sb : ByteArray} (ha : sa.size ≤ 24) (hb : sb.size ≤ 24) : AR (.agg #[.bool na, .string sa, .bool nb, .string sb]) (Rat.divInt (zv na sa) (zv nb sb)) 24 :=
  ⟨na, sa, nb, sb, _, _, rfl, ai_arg na sa ha, ai_arg nb sb hb, rfl⟩
/-- Both functions return v, whatever is in memory. -/
def Both (f g : FuncId) (args : Array Value) (v : Value) : Prop := (∀ w, Calls Tryz.prog f args w fun e w' => e = .returned v ∧ Below w.heap.size w w') ∧ (∀ w, Calls Tryz.prog g args w fun e w' => e = .returned v ∧ Below w.heap.size w w')
end Go.Proofs.YtcljkdninmldiaaGreatDoor

namespace Go.Proofs.YtcljkdninmldiaaGreatDoor
open Go.RowKit
set_option linter.unusedSimpArgs false
set_option linter.unusedVariables false

set_option maxRecDepth 100000 in
set_option maxHeartbeats 6400000 in
theorem rof02_any (v1 : Value) (n : Int) (L : Nat) (w : World) (h1 : AI v1 n L) (hL : L + 1 ≤ 10000000) : Calls Tryz.prog 30 #[v1] w (RatOut w (n : Rat)) := by
  have H1 := Lib.hid (h1.wider (Nat.le_succ L))
  have HO := Lib.hid (show AI (.agg #[.bool (sg 1), .string (mg 1)]) 1 (L + 1) from ai_mg (by show 1 < _; exact Nat.one_lt_pow (by omega) (by omega)))
  have Hq := Lib.hid (divInt_one n)
  obtain ⟨q, HQ⟩ : ∃ q : Rat, Hid ((n : Rat) = q) := ⟨_, Lib.hid rfl⟩
  rw [HQ.out] at Hq ⊢
  obtain ⟨g1, l1, rfl, -, -⟩ := h1
  have X0 := (Box2.new w 23 g1 ⟨l1.toArray⟩).keep (below1 _ (.cells #[.bool false, .string ⟨#[]⟩, .bool false, .string ⟨#[]⟩] 25))
  have R0 := ResRat.new (w.alloc (.cells #[.bool g1, .string ⟨l1.toArray⟩] 23))
  rw [World.size_alloc] at R0
  have B0 := below2 w (.cells #[.bool g1, .string ⟨l1.toArray⟩] 23) (.cells #[.bool false, .string ⟨#[]⟩, .bool false, .string ⟨#[]⟩] 25)
  go_enter Tryz.func30, Tryz.ntmps30
  go_upto_region 1 with fail
  generalize (w.alloc (.cells #[.bool g1, .string ⟨l1.toArray⟩] 23)).alloc (.cells #[.bool false, .string ⟨#[]⟩, .bool false, .string ⟨#[]⟩] 25) = W0 at *
  have KB : Box2 W0.drew w.heap.size g1 ⟨l1.toArray⟩ ∧ ResRat W0.drew (w.heap.size + 1) ∧ Below w.heap.size w W0.drew := ⟨X0, R0, B0.drew⟩
  clear X0 R0 B0
  obtain ⟨⟨x1, x2, x3, x4⟩, ⟨⟨r1, r2, r3, r4⟩, r5, r6, r7, r8⟩, -⟩ := id KB
  go_region_with (first
    | (go_at_call 39; (refine (rone_any _).mono ?_); rintro e X ⟨rfl, bX⟩; have KB := And.intro (KB.1.keep bX) (And.intro (KB.2.1.keep bX) (below_more KB.2.2 (Nat.le_refl _) bX)); obtain ⟨⟨x1, x2, x3, x4⟩, ⟨⟨r1, r2, r3, r4⟩, r5, r6, r7, r8⟩, -⟩ := id KB)
    | (go_at_call 37; (refine (rlow02_any _ _ n 1 q (L + 1) _ H1.out HO.out hL (by omega) Hq.out).mono ?_); rintro e X ⟨rfl, bX⟩; unfold ratV; have KB := And.intro (KB.1.keep bX) (And.intro (KB.2.1.keep bX) (below_more KB.2.2 (Nat.le_refl _) bX)); obtain ⟨⟨x1, x2, x3, x4⟩, ⟨⟨r1, r2, r3, r4⟩, r5, r6, r7, r8⟩, -⟩ := id KB))
  all_goals
    go_wp2_with fail
    exact bodyPost_ret (v := ratV q) (by simp [results, Tryz.results30, go_sem, r1, r2, r3, r4, r5, r6, r7, r8, ratV]) rfl ⟨rfl, below4s KB.2.2 _ (by omega) _ _ _ _⟩
end Go.Proofs.YtcljkdninmldiaaGreatDoor

namespace Go.Proofs.YtcljkdninmldiaaGreatDoor
open Go.RowKit
set_option linter.unusedSimpArgs false
set_option linter.unusedVariables false

theorem mul_b8 {x y z : Int} {L M : Nat} (hx : x.natAbs < 256 ^ L) (hy : y.natAbs < 256 ^ M) (e : x * y = z) : z.natAbs < 256 ^ (L + M) := by
  subst e
  rw [Int.natAbs_mul, Nat.pow_add]
  exact Nat.mul_lt_mul'' hx hy
theorem add_b8 {x y z : Int} {L : Nat} (hx : x.natAbs < 256 ^ L) (hy : y.natAbs < 256 ^ L) (e : x + y = z) : z.natAbs < 256 ^ (L + 1) := by
  subst e
  have := Int.natAbs_add_le x y
  rw [Nat.pow_succ]
  omega
theorem wid_b8 {x : Int} {L M : Nat} (hx : x.natAbs < 256 ^ L) (h : L ≤ M) : x.natAbs < 256 ^ M := Nat.lt_of_lt_of_le hx (Nat.pow_le_pow_right (by omega) h)
theorem ar_num {q : Rat} {L : Nat} (h : Rb8 q L) : AI (.agg #[.bool (sg q.num), .string (mg q.num)]) q.num L := ai_mg h.1
theorem ar_den {q : Rat} {L : Nat} (h : Rb8 q L) : AI (.agg #[.bool (sg (q.den : Int)), .string (mg (q.den : Int))]) (q.den : Int) L := ai_mg (by rw [Int.natAbs_natCast]; exact h.2)
theorem den_b8 {q : Rat} {L : Nat} (h : Rb8 q L) : (q.den : Int).natAbs < 256 ^ L := by rw [Int.natAbs_natCast]; exact h.2
theorem ai_of {n : Int} (h0 : -9223372036854775808 ≤ n) (h1 : n ≤ 9223372036854775807) : AI (.agg #[.bool (sg n), .string (mg n)]) n 8 := ai_mg (by show _ < 18446744073709551616; omega)
theorem Cw.put {w W : World} {p : Nat} {g1 g2 : Bool} {s1 s2 : ByteArray} (h : Cw w W p g1 g2 s1 s2) (g1' g2' : Bool) (s1' s2' : ByteArray) :
    Cw w ((((W.setCell ⟨p, 0, none⟩ (.bool g1')).setCell ⟨p, 1, none⟩ (.string s1')).setCell ⟨p, 2, none⟩ (.bool g2')).setCell ⟨p, 3, none⟩ (.string s2')) p g1' g2' s1' s2' :=
  ⟨h.1.put, h.2.1.far4 (by omega) _ _ _ _, by simp only [World.size_setCell]; exact h.2.2.1, below4s h.2.2.2.1 _ h.2.2.2.2 _ _ _ _, h.2.2.2.2⟩
set_option maxRecDepth 100000 in
set_option maxHeartbeats 6400000 in
theorem rneg02_any (v : Value) (q r : Rat) (L : Nat) (w : World) (h : AR v q L) (hL : L ≤ 1000000) (hr : -q = r) : Calls Tryz.prog 32 #[v] w (RatOut w r) := by
  have H := Lib.hid h
  have Q := Lib.hid h.bd
  obtain ⟨n, Hn⟩ : ∃ n : Int, Hid (-q.num = n) := ⟨_, Lib.hid rfl⟩
  have HR := Lib.hid (show ratV r = .agg #[.bool (sg n), .string (mg n), .bool (sg (q.den : Int)), .string (mg (q.den : Int))] by
    subst hr
    unfold ratV
    rw [show (-q).num = -q.num from rfl, show (-q).den = q.den from rfl, Hn.out])
  obtain ⟨g1, s1, g2, s2, _, _, rfl, -, -, -⟩ := h
  clear hr
  obtain ⟨W0, hW0⟩ : ∃ W0, W0 = (w.alloc (.cells #[.bool g1, .string s1, .bool g2, .string s2] 25)).alloc (.cells #[.bool false, .string ⟨#[]⟩, .bool false, .string ⟨#[]⟩] 25) := ⟨_, rfl⟩
  have K : Cw w W0 w.heap.size g1 g2 s1 s2 := by rw [hW0]; exact Cw.start w _ _ _ _
  have HW := Lib.hid hW0
  clear hW0
  go_enter Tryz.func32, Tryz.ntmps32
  go_upto_region 1 with fail
  rw [← HW.out]
  obtain ⟨⟨⟨x1, x2, x3, x4⟩, x5, x6, x7, x8⟩, -⟩ := id K
  go_wp2_with fail
  refine (rcan02_any _ q L _ H.out (by omega)).mono ?_
  rintro e X ⟨rfl, bX⟩
  unfold ratV
  have K := K.keep bX
  have K2 := K.put (sg q.num) (sg (q.den : Int)) (mg q.num) (mg (q.den : Int))
  clear bX x1 x2 x3 x4 x5 x6 x7 x8 HW
  obtain ⟨⟨⟨x1, x2, x3, x4⟩, x5, x6, x7, x8⟩, -⟩ := id K
  go_upto_region 2 with fail
  generalize (((X.setCell ⟨w.heap.size, 0, none⟩ (.bool (sg q.num))).setCell ⟨w.heap.size, 1, none⟩ (.string (mg q.num))).setCell ⟨w.heap.size, 2, none⟩ (.bool (sg (q.den : Int)))).setCell ⟨w.heap.size, 3, none⟩ (.string (mg (q.den : Int))) = X2 at *
  clear K x1 x2 x3 x4 x5 x6 x7 x8
  have KB := K2.drew
  obtain ⟨⟨⟨x1, x2, x3, x4⟩, -⟩, ⟨⟨r1, r2, r3, r4⟩, r5, r6, r7, r8⟩, -⟩ := id KB
  go_region_with (first
    | (go_at_call 59; (refine (ai_neg (ar_num Q.out) (by omega) Hn.out).mono ?_); rintro e X ⟨rfl, bX⟩; have KB := KB.keep bX; obtain ⟨⟨⟨x1, x2, x3, x4⟩, -⟩, ⟨⟨r1, r2, r3, r4⟩, r5, r6, r7, r8⟩, -⟩ := id KB))
  all_goals
    go_wp2_with fail
    exact bodyPost_ret (v := .agg #[.bool (sg n), .string (mg n), .bool (sg (q.den : Int)), .string (mg (q.den : Int))]) (by simp [results, Tryz.results32, go_sem, r1, r2, r3, r4, r5, r6, r7, r8]) rfl ⟨by rw [HR.out], below4s KB.2.2.2.1 _ (by omega) _ _ _ _⟩
end Go.Proofs.YtcljkdninmldiaaGreatDoor
