/- Words for the reference implementation of layer 2: two rational numbers that came in. Condition: at most 10^6 bytes. What the reference implementation's Mul of layer 2 returns. Condition: at most 10^6 bytes. What the reference implementation's Quo of layer 2 returns. Condition: at most 10^6 bytes. -/
import Derived.Test.YtfcdekkoeeaolaaGreatDoorQ41

namespace Go.Proofs.YtfcdekkoeeaolaaGreatDoor
open Go.RowKit
set_option linter.unusedSimpArgs false
set_option linter.unusedVariables false

/-- Two rational numbers that came in, and the result's box. -/
def Dw (w W : World) (k : Nat) (g1 : Bool) (s1 : ByteArray) (g2 : Bool) (s2 : ByteArray) (g3 : Bool) (s3 : ByteArray) (g4 : Bool) (s4 : ByteArray) : Prop :=
  BR W k g1 s1 g2 s2 ∧ BR W (k + 1) g3 s3 g4 s4 ∧ ResRat W (k + 1 + 1) ∧ k + 1 + 1 < W.heap.size ∧ Below w.heap.size w W ∧ w.heap.size ≤ k
section
variable {w W W1 : World} {k : Nat} {g1 g2 g3 g4 : Bool} {s1 s2 s3 s4 : ByteArray}
theorem Dw.keep (h : Dw w W k g1 s1 g2 s2 g3 s3 g4 s4) (hb : Below W.heap.size W W1) : Dw w W1 k g1 s1 g2 s2 g3 s3 g4 s4 :=
  ⟨h.1.keep hb, h.2.1.keep hb, h.2.2.1.keep hb, Nat.lt_of_lt_of_le h.2.2.2.1 hb.size, below_more h.2.2.2.2.1 (Nat.le_refl _) hb, h.2.2.2.2.2⟩
theorem Dw.drew (h : Dw w W k g1 s1 g2 s2 g3 s3 g4 s4) : Dw w W.drew k g1 s1 g2 s2 g3 s3 g4 s4 := h.keep (Below.refl _ _).drew
theorem Dw.alloc (h : Dw w W k g1 s1 g2 s2 g3 s3 g4 s4) (o : Obj) : Dw w (W.alloc o) k g1 s1 g2 s2 g3 s3 g4 s4 := h.keep (below1 _ _)
theorem Dw.start (w : World) (g1 g2 g3 g4 : Bool) (s1 s2 s3 s4 : ByteArray) : Dw w (((w.alloc (.cells #[.bool g1, .string s1, .bool g2, .string s2] 36)).alloc (.cells #[.bool g3, .string s3, .bool g4, .string s4] 36)).alloc (.cells #[.bool false, .string ⟨#[]⟩, .bool false, .string ⟨#[]⟩] 36)) w.heap.size g1 s1 g2 s2 g3 s3 g4 s4 := by
  refine ⟨((BR.new w _ g1 g2 s1 s2).keep (below1 _ _)).keep (below1 _ _), ?_, ?_, ?_, below3 w _ _ _, Nat.le_refl _⟩
  · have h := (BR.new (w.alloc (.cells #[.bool g1, .string s1, .bool g2, .string s2] 36)) 36 g3 g4 s3 s4).keep (below1 _ (.cells #[.bool false, .string ⟨#[]⟩, .bool false, .string ⟨#[]⟩] 36))
    rw [World.size_alloc] at h
    exact h
  · have h := ResRat.new ((w.alloc (.cells #[.bool g1, .string s1, .bool g2, .string s2] 36)).alloc (.cells #[.bool g3, .string s3, .bool g4, .string s4] 36))
    rw [World.size_alloc, World.size_alloc] at h
    exact h
  · simp only [World.size_alloc]; omega
theorem Dw.put1 (h : Dw w W k g1 s1 g2 s2 g3 s3 g4 s4) (g1' g2' : Bool) (s1' s2' : ByteArray) :
    Dw w ((((W.setCell ⟨k, 0, none⟩ (.bool g1')).setCell ⟨k, 1, none⟩ (.string s1')).setCell ⟨k, 2, none⟩ (.bool g2')).setCell ⟨k, 3, none⟩ (.string s2')) k g1' s1' g2' s2' g3 s3 g4 s4 :=
  ⟨h.1.put, h.2.1.far4 (by omega) _ _ _ _, h.2.2.1.far4 (by omega) _ _ _ _, by simp only [World.size_setCell]; exact h.2.2.2.1, below4s h.2.2.2.2.1 _ h.2.2.2.2.2 _ _ _ _, h.2.2.2.2.2⟩
theorem Dw.put2 (h : Dw w W k g1 s1 g2 s2 g3 s3 g4 s4) (g1' g2' : Bool) (s1' s2' : ByteArray) :
    Dw w ((((W.setCell ⟨k + 1, 0, none⟩ (.bool g1')).setCell ⟨k + 1, 1, none⟩ (.string s1')).setCell ⟨k + 1, 2, none⟩ (.bool g2')).setCell ⟨k + 1, 3, none⟩ (.string s2')) k g1 s1 g2 s2 g1' s1' g2' s2' :=
  ⟨h.1.far4 (by omega) _ _ _ _, h.2.1.put, h.2.2.1.far4 (by omega) _ _ _ _, by simp only [World.size_setCell]; exact h.2.2.2.1, below4s h.2.2.2.2.1 _ (by have := h.2.2.2.2.2; omega) _ _ _ _, h.2.2.2.2.2⟩
theorem Dw.far (h : Dw w W k g1 s1 g2 s2 g3 s3 g4 s4) {a : Addr} (ha : k + 1 + 1 < a.block) (u : Value) : Dw w (W.setCell a u) k g1 s1 g2 s2 g3 s3 g4 s4 :=
  ⟨h.1.far (by omega) u, h.2.1.far (by omega) u, h.2.2.1.far (by omega) u, by rw [World.size_setCell]; exact h.2.2.2.1, h.2.2.2.2.1.setCell (by have := h.2.2.2.2.2; omega) u, h.2.2.2.2.2⟩
theorem Dw.flat (h : Dw w W k g1 s1 g2 s2 g3 s3 g4 s4) : W.cell? ⟨k, 0, none⟩ = some (.bool g1) ∧ W.cell? ⟨k, 1, none⟩ = some (.string s1) ∧ W.cell? ⟨k, 2, none⟩ = some (.bool g2) ∧ W.cell? ⟨k, 3, none⟩ = some (.string s2) ∧
    W.cell? ⟨k + 1, 0, none⟩ = some (.bool g3) ∧ W.cell? ⟨k + 1, 1, none⟩ = some (.string s3) ∧ W.cell? ⟨k + 1, 2, none⟩ = some (.bool g4) ∧ W.cell? ⟨k + 1, 3, none⟩ = some (.string s4) :=
  ⟨h.1.1.1, h.1.1.2.1, h.1.1.2.2.1, h.1.1.2.2.2, h.2.1.1.1, h.2.1.1.2.1, h.2.1.1.2.2.1, h.2.1.1.2.2.2⟩
theorem Dw.flat4 (h : Dw w W k g1 s1 g2 s2 g3 s3 g4 s4) (u1 u2 u3 u4 : Value) : ((((W.setCell ⟨k + 1 + 1, 0, none⟩ u1).setCell ⟨k + 1 + 1, 1, none⟩ u2).setCell ⟨k + 1 + 1, 2, none⟩ u3).setCell ⟨k + 1 + 1, 3, none⟩ u4).cell? ⟨k, 0, none⟩ = some (.bool g1) ∧ ((((W.setCell ⟨k + 1 + 1, 0, none⟩ u1).setCell ⟨k + 1 + 1, 1, none⟩ u2).setCell ⟨k + 1 + 1, 2, none⟩ u3).setCell ⟨k + 1 + 1, 3, none⟩ u4).cell? ⟨k, 1, none⟩ = some (.string s1) ∧ ((((W.setCell ⟨k + 1 + 1, 0, none⟩ u1).setCell ⟨k + 1 + 1, 1, none⟩ u2).setCell ⟨k + 1 + 1, 2, none⟩ u3).setCell ⟨k + 1 + 1, 3, none⟩ u4).cell? ⟨k, 2, none⟩ = some (.bool g2) ∧ ((((W.setCell ⟨k + 1 + 1, 0, none⟩ u1).setCell ⟨k + 1 + 1, 1, none⟩ u2).setCell ⟨k + 1 + 1, 2, none⟩ u3).setCell ⟨k + 1 + 1, 3, none⟩ u4).cell? ⟨k, 3, none⟩ = some (.string s2) ∧ ((((W.setCell ⟨k + 1 + 1, 0, none⟩ u1).setCell ⟨k + 1 + 1, 1, none⟩ u2).setCell ⟨k + 1 + 1, 2, none⟩ u3).setCell ⟨k + 1 + 1, 3, none⟩ u4).cell? ⟨k + 1, 0, none⟩ = some (.bool g3) ∧ ((((W.setCell ⟨k + 1 + 1, 0, none⟩ u1).setCell ⟨k + 1 + 1, 1, none⟩ u2).setCell ⟨k + 1 + 1, 2, none⟩ u3).setCell ⟨k + 1 + 1, 3, none⟩ u4).cell? ⟨k + 1, 1, none⟩ = some (.string s3) ∧ ((((W.setCell ⟨k + 1 + 1, 0, none⟩ u1).setCell ⟨k + 1 + 1, 1, none⟩ u2).setCell ⟨k + 1 + 1, 2, none⟩ u3).setCell ⟨k + 1 + 1, 3, none⟩ u4).cell? ⟨k + 1, 2, none⟩ = some (.bool g4) ∧ ((((W.setCell ⟨k + 1 + 1, 0, none⟩ u1).setCell ⟨k + 1 + 1, 1, none⟩ u2).setCell ⟨k + 1 + 1, 2, none⟩ u3).setCell ⟨k + 1 + 1, 3, none⟩ u4).cell? ⟨k + 1, 3, none⟩ = some (.string s4) := by
  have a := h.1.far4 (q := k + 1 + 1) (by omega) u1 u2 u3 u4
  have b := h.2.1.far4 (q := k + 1 + 1) (by omega) u1 u2 u3 u4
  exact ⟨a.1.1, a.1.2.1, a.1.2.2.1, a.1.2.2.2, b.1.1, b.1.2.1, b.1.2.2.1, b.1.2.2.2⟩
/-- And an integer behind them. -/
def Dt (w W : World) (k u : Nat) (g1 : Bool) (s1 : ByteArray) (g2 : Bool) (s2 : ByteArray) (g3 : Bool) (s3 : ByteArray) (g4 : Bool) (s4 : ByteArray) (g : Bool) (s : ByteArray) : Prop := Dw w W k g1 s1 g2 s2 g3 s3 g4 s4 ∧ Box2 W u g s ∧ k + 1 + 1 < u
theorem Dt.keep {u : Nat} {g : Bool} {s : ByteArray} (h : Dt w W k u g1 s1 g2 s2 g3 s3 g4 s4 g s) (hb : Below W.heap.size W W1) : Dt w W1 k u g1 s1 g2 s2 g3 s3 g4 s4 g s := ⟨h.1.keep hb, h.2.1.keep hb, h.2.2⟩
theorem Dt.new {g : Bool} {s : ByteArray} {t : TypeId} (h : Dw w W k g1 s1 g2 s2 g3 s3 g4 s4) : Dt w (W.alloc (.cells #[.bool g, .string s] t)) k W.heap.size g1 s1 g2 s2 g3 s3 g4 s4 g s := ⟨h.alloc _, Box2.new _ _ _ _, h.2.2.2.1⟩
theorem Dt.set {u : Nat} {g : Bool} {s : ByteArray} (h : Dt w W k u g1 s1 g2 s2 g3 s3 g4 s4 g s) (g' : Bool) (s' : ByteArray) : Dt w ((W.setCell ⟨u, 0, none⟩ (.bool g')).setCell ⟨u, 1, none⟩ (.string s')) k u g1 s1 g2 s2 g3 s3 g4 s4 g' s' := ⟨(h.1.far h.2.2 _).far h.2.2 _, h.2.1.set, h.2.2⟩
end
theorem rat_mul8 {p q r : Rat} {a b : Int} (hr : p * q = r) (ha : p.num * q.num = a) (hb : (p.den : Int) * (q.den : Int) = b) : Rat.divInt a b = r := by
  rw [← ha, ← hb, ← Rat.divInt_mul_divInt, Rat.num_divInt_den, Rat.num_divInt_den]; exact hr
theorem rat_quo8 {p q r : Rat} {a b : Int} (hr : p / q = r) (ha : p.num * (q.den : Int) = a) (hb : (p.den : Int) * q.num = b) : Rat.divInt a b = r := by
  rw [← ha, ← hb, divInt_quot, Rat.num_divInt_den, Rat.num_divInt_den]; exact hr
theorem rat_add8 {p q r : Rat} {a b n d : Int} (hr : p + q = r) (ha : p.num * (q.den : Int) = a) (hb : q.num * (p.den : Int) = b) (hn : a + b = n) (hd : (p.den : Int) * (q.den : Int) = d) : Rat.divInt n d = r := by
  have hp := p.den_pos
  have hq := q.den_pos
  rw [← hn, ← ha, ← hb, ← hd, ← Rat.divInt_add_divInt _ _ (by omega) (by omega), Rat.num_divInt_den, Rat.num_divInt_den]; exact hr
theorem den_ne {q : Rat} : (q.den : Int) ≠ 0 := by have := q.den_pos; omega
end Go.Proofs.YtfcdekkoeeaolaaGreatDoor

namespace Go.Proofs.YtfcdekkoeeaolaaGreatDoor
open Go.RowKit
set_option linter.unusedSimpArgs false
set_option linter.unusedVariables false

set_option maxRecDepth 100000 in
set_option maxHeartbeats 12800000 in
theorem rmul02_any (v1 v2 : Value) (p q r : Rat) (L : Nat) (w : World) (h1 : AR v1 p L) (h2 : AR v2 q L) (hL : L ≤ 1000000) (hr : p * q = r) :
    Calls Tryz.prog 41 #[v1, v2] w (RatOut w r) := by
  have H1 := Lib.hid h1
  have H2 := Lib.hid h2
  have P := Lib.hid h1.bd
  have Q := Lib.hid h2.bd
  obtain ⟨a, Ha⟩ : ∃ a, Hid (p.num * q.num = a) := ⟨_, Lib.hid rfl⟩
  obtain ⟨b, Hb⟩ : ∃ b, Hid ((p.den : Int) * (q.den : Int) = b) := ⟨_, Lib.hid rfl⟩
  have Aa := Lib.hid (ai_mg (mul_b8 P.out.1 Q.out.1 Ha.out))
  have Ab := Lib.hid (ai_mg (mul_b8 (den_b8 P.out) (den_b8 Q.out) Hb.out))
  have B0 := Lib.hid (show b ≠ 0 by rw [← Hb.out]; exact Int.mul_ne_zero den_ne den_ne)
  have Hq := Lib.hid (rat_mul8 hr Ha.out Hb.out)
  clear hr
  obtain ⟨g1, s1, g2, s2, _, _, rfl, -, -, -⟩ := h1
  obtain ⟨g3, s3, g4, s4, _, _, rfl, -, -, -⟩ := h2
  obtain ⟨W0, hW0⟩ : ∃ W0, W0 = ((w.alloc (.cells #[.bool g1, .string s1, .bool g2, .string s2] 36)).alloc (.cells #[.bool g3, .string s3, .bool g4, .string s4] 36)).alloc (.cells #[.bool false, .string ⟨#[]⟩, .bool false, .string ⟨#[]⟩] 36) := ⟨_, rfl⟩
  have K : Dw w W0 w.heap.size g1 s1 g2 s2 g3 s3 g4 s4 := by rw [hW0]; exact Dw.start w _ _ _ _ _ _ _ _
  have HW := Lib.hid hW0
  clear hW0
  go_enter Tryz.func41, Tryz.ntmps41
  go_upto_region 1 with fail
  rw [← HW.out]
  go_cut [12] (fun s9 wx => Dw w wx w.heap.size (sg p.num) (mg p.num) (sg (p.den : Int)) (mg (p.den : Int)) (sg q.num) (mg q.num) (sg (q.den : Int)) (mg (q.den : Int)))
  case first =>
    have KB := K.drew
    clear K
    obtain ⟨⟨⟨x1, x2, x3, x4⟩, x5, x6, x7, x8⟩, ⟨⟨y1, y2, y3, y4⟩, y5, y6, y7, y8⟩, -⟩ := id KB
    go_region_with (first
      | (go_at_call 93; (first | (with_reducible refine (rcan02_any _ p L _ H1.out (by omega)).mono ?_) | (with_reducible refine (rcan02_any _ q L _ H2.out (by omega)).mono ?_)); rintro e X ⟨rfl, bX⟩; unfold ratV; have KB := KB.keep bX; obtain ⟨⟨⟨x1, x2, x3, x4⟩, x5, x6, x7, x8⟩, ⟨⟨y1, y2, y3, y4⟩, y5, y6, y7, y8⟩, -⟩ := id KB))
    all_goals go_wp2_with fail
    all_goals go_meet
    all_goals first
      | exact (KB.put1 _ _ _ _).put2 _ _ _ _
      | exact (KB.put2 _ _ _ _).put1 _ _ _ _
  case rest =>
    have K9 := hcut
    clear K H1 H2 HW
    have K := K9
    clear K9
    go_upto_region 2 with fail
    have KB := K.drew
    clear K
    obtain ⟨-, -, ⟨⟨r1, r2, r3, r4⟩, r5, r6, r7, r8⟩, -⟩ := id KB
    go_region_held3 (fun W => W.cell? ⟨w.heap.size, 0, none⟩ = some (.bool (sg p.num)) ∧ W.cell? ⟨w.heap.size, 1, none⟩ = some (.string (mg p.num)) ∧ W.cell? ⟨w.heap.size, 2, none⟩ = some (.bool (sg (p.den : Int))) ∧ W.cell? ⟨w.heap.size, 3, none⟩ = some (.string (mg (p.den : Int))) ∧ W.cell? ⟨w.heap.size + 1, 0, none⟩ = some (.bool (sg q.num)) ∧ W.cell? ⟨w.heap.size + 1, 1, none⟩ = some (.string (mg q.num)) ∧ W.cell? ⟨w.heap.size + 1, 2, none⟩ = some (.bool (sg (q.den : Int))) ∧ W.cell? ⟨w.heap.size + 1, 3, none⟩ = some (.string (mg (q.den : Int)))) (first | (with_reducible exact KB.flat) | (with_reducible exact Dw.flat4 KB _ _ _ _) | exact KB.flat | exact Dw.flat4 KB _ _ _ _)
      (first
        | (go_at_call 14; (first | (with_reducible refine (ai_mul (ar_num P.out) (ar_num Q.out) (by omega) Ha.out).mono ?_) | (with_reducible refine (ai_mul (ar_den P.out) (ar_den Q.out) (by omega) Hb.out).mono ?_)); rintro e X ⟨rfl, bX⟩; (try unfold ratV); have KB := KB.keep bX; obtain ⟨-, -, ⟨⟨r1, r2, r3, r4⟩, r5, r6, r7, r8⟩, -⟩ := id KB)
        | (go_at_call 91; (refine (rlow02_any _ _ a b r _ _ Aa.out Ab.out (by omega) B0.out Hq.out).mono ?_); rintro e X ⟨rfl, bX⟩; (try unfold ratV); have KB := KB.keep bX; obtain ⟨-, -, ⟨⟨r1, r2, r3, r4⟩, r5, r6, r7, r8⟩, -⟩ := id KB))
    all_goals
      go_wp2_with fail
      exact bodyPost_ret (v := ratV r) (by simp [results, Tryz.results41, go_sem, r1, r2, r3, r4, r5, r6, r7, r8, ratV]) rfl ⟨rfl, below4s KB.2.2.2.2.1 _ (by omega) _ _ _ _⟩
end Go.Proofs.YtfcdekkoeeaolaaGreatDoor

namespace Go.Proofs.YtfcdekkoeeaolaaGreatDoor
open Go.RowKit
set_option linter.unusedSimpArgs false
set_option linter.unusedVariables false

set_option maxRecDepth 100000 in
set_option maxHeartbeats 12800000 in
theorem rquo02_some (v1 v2 : Value) (p q r : Rat) (L : Nat) (w : World) (h1 : AR v1 p L) (h2 : AR v2 q L) (hL : L ≤ 1000000) (hr : p / q = r) (h0 : q ≠ 0) :
    Calls Tryz.prog 31 #[v1, v2] w (RatGood w r) := by
  have H1 := Lib.hid h1
  have H2 := Lib.hid h2
  have P := Lib.hid h1.bd
  have Q := Lib.hid h2.bd
  obtain ⟨a, Ha⟩ : ∃ a, Hid (p.num * (q.den : Int) = a) := ⟨_, Lib.hid rfl⟩
  obtain ⟨b, Hb⟩ : ∃ b, Hid ((p.den : Int) * q.num = b) := ⟨_, Lib.hid rfl⟩
  have Aa := Lib.hid (ai_mg (mul_b8 P.out.1 (den_b8 Q.out) Ha.out))
  have Ab := Lib.hid (ai_mg (mul_b8 (den_b8 P.out) Q.out.1 Hb.out))
  have N0 := Lib.hid (show q.num ≠ 0 by rw [ne_eq, Rat.num_eq_zero]; exact h0)
  have B0 := Lib.hid (show b ≠ 0 by rw [← Hb.out]; exact Int.mul_ne_zero den_ne N0.out)
  have Hq := Lib.hid (rat_quo8 hr Ha.out Hb.out)
  obtain ⟨c, Hc⟩ : ∃ c : Int, Hid (cmpZ q.num 0 = c) := ⟨_, Lib.hid rfl⟩
  have Hc3 := Lib.hid (show c = -1 ∨ c = 1 by have h := N0.out; rw [← Hc.out]; unfold cmpZ; split <;> (try split) <;> omega)
  clear hr h0
  obtain ⟨g1, s1, g2, s2, _, _, rfl, -, -, -⟩ := h1
  obtain ⟨g3, s3, g4, s4, _, _, rfl, -, -, -⟩ := h2
  obtain ⟨W0, hW0⟩ : ∃ W0, W0 = ((w.alloc (.cells #[.bool g1, .string s1, .bool g2, .string s2] 36)).alloc (.cells #[.bool g3, .string s3, .bool g4, .string s4] 36)).alloc (.cells #[.bool false, .string ⟨#[]⟩, .bool false, .string ⟨#[]⟩] 36) := ⟨_, rfl⟩
  have K : Dw w W0 w.heap.size g1 s1 g2 s2 g3 s3 g4 s4 := by rw [hW0]; exact Dw.start w _ _ _ _ _ _ _ _
  have HW := Lib.hid hW0
  clear hW0
  go_enter Tryz.func31, Tryz.ntmps31
  go_upto_region 1 with fail
  rw [← HW.out]
  go_cut [13] (fun s9 wx => Dw w wx w.heap.size (sg p.num) (mg p.num) (sg (p.den : Int)) (mg (p.den : Int)) (sg q.num) (mg q.num) (sg (q.den : Int)) (mg (q.den : Int)))
  case first =>
    have KB := K.drew
    clear K
    obtain ⟨⟨⟨x1, x2, x3, x4⟩, x5, x6, x7, x8⟩, ⟨⟨y1, y2, y3, y4⟩, y5, y6, y7, y8⟩, -⟩ := id KB
    go_region_with (first
      | (go_at_call 93; (first | (with_reducible refine (rcan02_any _ p L _ H1.out (by omega)).mono ?_) | (with_reducible refine (rcan02_any _ q L _ H2.out (by omega)).mono ?_)); rintro e X ⟨rfl, bX⟩; unfold ratV; have KB := KB.keep bX; obtain ⟨⟨⟨x1, x2, x3, x4⟩, x5, x6, x7, x8⟩, ⟨⟨y1, y2, y3, y4⟩, y5, y6, y7, y8⟩, -⟩ := id KB))
    all_goals go_wp2_with fail
    all_goals go_meet
    all_goals first
      | exact (KB.put1 _ _ _ _).put2 _ _ _ _
      | exact (KB.put2 _ _ _ _).put1 _ _ _ _
  case rest =>
    have K9 := hcut
    clear K H1 H2 HW
    have K := K9
    clear K9
    obtain ⟨x1, x2, x3, x4, y1, y2, y3, y4⟩ := id K.flat
    go_wp2_with fail
    refine (rsign_any (ar_num Q.out) (by omega) Hc.out).mono ?_
    rintro e X ⟨rfl, bX⟩
    have K := K.keep bX
    clear bX x1 x2 x3 x4 y1 y2 y3 y4
    rcases Hc3.out with rfl | rfl
    all_goals
      go_upto_region 4 with fail
      have KB := K.drew
      obtain ⟨-, -, ⟨⟨r1, r2, r3, r4⟩, r5, r6, r7, r8⟩, -⟩ := id KB
      go_region_held3 (fun W => W.cell? ⟨w.heap.size, 0, none⟩ = some (.bool (sg p.num)) ∧ W.cell? ⟨w.heap.size, 1, none⟩ = some (.string (mg p.num)) ∧ W.cell? ⟨w.heap.size, 2, none⟩ = some (.bool (sg (p.den : Int))) ∧ W.cell? ⟨w.heap.size, 3, none⟩ = some (.string (mg (p.den : Int))) ∧ W.cell? ⟨w.heap.size + 1, 0, none⟩ = some (.bool (sg q.num)) ∧ W.cell? ⟨w.heap.size + 1, 1, none⟩ = some (.string (mg q.num)) ∧ W.cell? ⟨w.heap.size + 1, 2, none⟩ = some (.bool (sg (q.den : Int))) ∧ W.cell? ⟨w.heap.size + 1, 3, none⟩ = some (.string (mg (q.den : Int)))) (first | (with_reducible exact KB.flat) | (with_reducible exact Dw.flat4 KB _ _ _ _) | exact KB.flat | exact Dw.flat4 KB _ _ _ _)
        (first
          | (go_at_call 14; (first | (with_reducible refine (ai_mul (ar_num P.out) (ar_den Q.out) (by omega) Ha.out).mono ?_) | (with_reducible refine (ai_mul (ar_den P.out) (ar_num Q.out) (by omega) Hb.out).mono ?_)); rintro e X ⟨rfl, bX⟩; (try unfold ratV); have KB := KB.keep bX; obtain ⟨-, -, ⟨⟨r1, r2, r3, r4⟩, r5, r6, r7, r8⟩, -⟩ := id KB)
          | (go_at_call 91; (refine (rlow02_any _ _ a b r _ _ Aa.out Ab.out (by omega) B0.out Hq.out).mono ?_); rintro e X ⟨rfl, bX⟩; (try unfold ratV); have KB := KB.keep bX; obtain ⟨-, -, ⟨⟨r1, r2, r3, r4⟩, r5, r6, r7, r8⟩, -⟩ := id KB))
      all_goals
        go_wp2_with fail
        exact bodyPost_ret (v := .tuple #[ratV r, .int .i64 0]) (by simp [results, Tryz.results31, go_sem, r1, r2, r3, r4, r5, r6, r7, r8, ratV]) rfl ⟨rfl, below4s KB.2.2.2.2.1 _ (by omega) _ _ _ _⟩
set_option maxRecDepth 100000 in
set_option maxHeartbeats 12800000 in
theorem rquo02_none (v1 v2 : Value) (p q : Rat) (L : Nat) (w : World) (h1 : AR v1 p L) (h2 : AR v2 q L) (hL : L ≤ 1000000) (h0 : q = 0) :
    Calls Tryz.prog 31 #[v1, v2] w (RatFail w 9) := by
  have H1 := Lib.hid h1
  have H2 := Lib.hid h2
  have P := Lib.hid h1.bd
  have Q := Lib.hid h2.bd
  have Hc : Hid (cmpZ q.num 0 = 0) := by show _ = _; rw [h0]; rfl
  clear h0
  obtain ⟨g1, s1, g2, s2, _, _, rfl, -, -, -⟩ := h1
  obtain ⟨g3, s3, g4, s4, _, _, rfl, -, -, -⟩ := h2
  obtain ⟨W0, hW0⟩ : ∃ W0, W0 = ((w.alloc (.cells #[.bool g1, .string s1, .bool g2, .string s2] 36)).alloc (.cells #[.bool g3, .string s3, .bool g4, .string s4] 36)).alloc (.cells #[.bool false, .string ⟨#[]⟩, .bool false, .string ⟨#[]⟩] 36) := ⟨_, rfl⟩
  have K : Dw w W0 w.heap.size g1 s1 g2 s2 g3 s3 g4 s4 := by rw [hW0]; exact Dw.start w _ _ _ _ _ _ _ _
  have HW := Lib.hid hW0
  clear hW0
  go_enter Tryz.func31, Tryz.ntmps31
  go_upto_region 1 with fail
  rw [← HW.out]
  go_cut [13] (fun s9 wx => Dw w wx w.heap.size (sg p.num) (mg p.num) (sg (p.den : Int)) (mg (p.den : Int)) (sg q.num) (mg q.num) (sg (q.den : Int)) (mg (q.den : Int)))
  case first =>
    have KB := K.drew
    clear K
    obtain ⟨⟨⟨x1, x2, x3, x4⟩, x5, x6, x7, x8⟩, ⟨⟨y1, y2, y3, y4⟩, y5, y6, y7, y8⟩, -⟩ := id KB
    go_region_with (first
      | (go_at_call 93; (first | (with_reducible refine (rcan02_any _ p L _ H1.out (by omega)).mono ?_) | (with_reducible refine (rcan02_any _ q L _ H2.out (by omega)).mono ?_)); rintro e X ⟨rfl, bX⟩; unfold ratV; have KB := KB.keep bX; obtain ⟨⟨⟨x1, x2, x3, x4⟩, x5, x6, x7, x8⟩, ⟨⟨y1, y2, y3, y4⟩, y5, y6, y7, y8⟩, -⟩ := id KB))
    all_goals go_wp2_with fail
    all_goals go_meet
    all_goals first
      | exact (KB.put1 _ _ _ _).put2 _ _ _ _
      | exact (KB.put2 _ _ _ _).put1 _ _ _ _
  case rest =>
    have K9 := hcut
    clear K H1 H2 HW
    have K := K9
    clear K9
    obtain ⟨x1, x2, x3, x4, y1, y2, y3, y4⟩ := id K.flat
    go_wp2_with fail
    refine (rsign_any (ar_num Q.out) (by omega) Hc.out).mono ?_
    rintro e X ⟨rfl, bX⟩
    have K := K.keep bX
    clear bX x1 x2 x3 x4 y1 y2 y3 y4
    obtain ⟨-, -, ⟨⟨r1, r2, r3, r4⟩, r5, r6, r7, r8⟩, -⟩ := id K
    go_wp2_with fail
    exact bodyPost_ret (v := .tuple #[.agg #[.bool false, .string ⟨#[]⟩, .bool false, .string ⟨#[]⟩], .int .i64 9]) (by simp [results, Tryz.results31, go_sem, r1, r2, r3, r4, r5, r6, r7, r8]) rfl ⟨rfl, below4s K.2.2.2.2.1 _ (by omega) _ _ _ _⟩
end Go.Proofs.YtfcdekkoeeaolaaGreatDoor
