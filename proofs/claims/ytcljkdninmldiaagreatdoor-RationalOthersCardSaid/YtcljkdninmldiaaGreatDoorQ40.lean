/- Words for the reference implementation of layer 2: two rational numbers that came in. Condition: at most 10^6 bytes. What the reference implementation's Bits returns. Condition: at most 10^9 bytes. What the reference implementation's Power returns. Condition: at most 10^6 bytes. -/
import Derived.Test.YtcljkdninmldiaaGreatDoorQ39
import Derived.Test.YtcljkdninmldiaaGreatDoorQ10
import Derived.Test.YtcljkdninmldiaaGreatDoorQ23
import Derived.Test.YtcljkdninmldiaaGreatDoorQ34

namespace Go.Proofs.YtcljkdninmldiaaGreatDoor
open Go.RowKit
set_option linter.unusedSimpArgs false
set_option linter.unusedVariables false

/-- Two rational numbers that came in, and the result's box. -/
def Dw (w W : World) (k : Nat) (g1 : Bool) (s1 : ByteArray) (g2 : Bool) (s2 : ByteArray) (g3 : Bool) (s3 : ByteArray) (g4 : Bool) (s4 : ByteArray) : Prop :=
  BR W k g1 s1 g2 s2 ∧ BR W (k + 1) g3 s3 g4 s4 ∧ ResRat W (k + 1 + 1) ∧ k + 1 + 1 < W.heap.size ∧ Below w.heap.size w W ∧ w.heap.size ≤ k
section
variable {w W W1 : World} {k : Nat} {g1 g2 g3 g4 : Bool} {s1 s2 s3 s4 : ByteArray}
theorem Dw.keep (h : Dw w W k g1 s1 g2 s2 g3 s3 g4 s4) (hb : Below W.heap.size W W1) : Dw w W1 k g1 s1 g2 s2 g3 s3 g4 s4 :=
  ⟨h.1.keep hb, h.2.1.keep hb, h.2.2.1.keep hb, Nat.lt_of_lt_of_le h.2.2.2.1 hb.size, below_more h.2.2.2.2.1 (Nat.le_refl _) hb, h.2.2.2.2.2⟩
theorem Dw.drew (h : Dw w W k g1 s1 g2 s2 g3 s3 g4 s4) : Dw w W.drew k g1 s1 g2 s2 g3 s3 g4 s4 := h.keep (Below.refl _ _).drew
theorem Dw.alloc (h : Dw w W k g1 s1 g2 s2 g3 s3 g4 s4) (o : Obj) : Dw w (W.alloc o) k g1 s1 g2 s2 g3 s3 g4 s4 := h.keep (below1 _ _)
theorem Dw.start (w : World) (g1 g2 g3 g4 : Bool) (s1 s2 s3 s4 : ByteArray) : Dw w (((w.alloc (.cells #[.bool g1, .string s1, .bool g2, .string s2] 25)).alloc (.cells #[.bool g3, .string s3, .bool g4, .string s4] 25)).alloc (.cells #[.bool false, .string ⟨#[]⟩, .bool false, .string ⟨#[]⟩] 25)) w.heap.size g1 s1 g2 s2 g3 s3 g4 s4 := by
  refine ⟨((BR.new w _ g1 g2 s1 s2).keep (below1 _ _)).keep (below1 _ _), ?_, ?_, ?_, below3 w _ _ _, Nat.le_refl _⟩
  · have h := (BR.new (w.alloc (.cells #[.bool g1, .string s1, .bool g2, .string s2] 25)) 25 g3 g4 s3 s4).keep (below1 _ (.cells #[.bool false, .string ⟨#[]⟩, .bool false, .string ⟨#[]⟩] 25))
    rw [World.size_alloc] at h
    exact h
  · have h := ResRat.new ((w.alloc (.cells #[.bool g1, .string s1, .bool g2, .string s2] 25)).alloc (.cells #[.bool g3, .string s3, .bool g4, .string s4] 25))
    rw [World.size_alloc, World.size_alloc] at h
    exact h
  · simp only [World.size_alloc]; omega
theorem Dw.put1 (h : Dw w W k g1 s1 g2 s2 g3 s3 g4 s4) (g1' g2' : Bool) (s1' s2' : ByteArray) :
    Dw w ((((W.setCell ⟨k, 0, none⟩ (.bool g1')).setCell ⟨k, 1, none⟩ (.string s1')).setCell ⟨k, 2, none⟩ (.bool g2')).setCell ⟨k, 3, none⟩ (.string s2')) k g1' s1' g2' s2' g3 s3 g4 s4 :=
  ⟨h.1.put, h.2.1.far4 (by omega) _ _ _ _, h.2.2.1.far4 (by omega) _ _ _ _, by simp only [World.size_setCell]; exact h.2.2.2.1, below4s h.2.2.2.2.1 _ h.2.2.2.2.2 _ _ _ _, h.2.2.2.2.2⟩
theorem Dw.put2 (h : Dw w W k g1 s1 g2 s2 g3 s3 g4 s4) (g1' g2' : Bool) (s1' s2' : ByteArray) :
    Dw w ((((W.setCell ⟨k + 1, 0, none⟩ (.bool g1')).setCell ⟨k + 1, 1, none⟩ (.string s1')).setCell ⟨k + 1, 2, none⟩ (.bool g2')).setCell ⟨k + 1, 3, none⟩ (.string s2')) k g1 s1 g2 s2 g1' s1' g2' s2' :=
  ⟨h.1.far4 (by omega) _ _ _ _, h.2.1.put, h.2.2.1.far4 (by omega) _ _ _ _, by simp only [World.size_setCell]; exact h.2.2.2.1, below4s h.2.2.2.2.1 _ (by have := h.2.2.2.2.2; omega) _ _ _ _, h.2.2.2.2.2⟩
theorem Dw.far (h : Dw w W k g1 s1 g2 s2 g3 s3 g4 s4) {a : Addr} (ha : k + 1 + 1 < a.block) (u : Value) : Dw w (W.setCell a u) k g1 s1 g2 s2 g3 s3 g4 s4 :=
  ⟨h.1.far (by omega) u, h.2.1.far (by omega) u, h.2.2.1.far (by omega) u, by rw [World.size_setCell]; exact h.2.2.2.1, h.2.2.2.2.1.setCell (by have := h.2.2.2.2.2; omega) u, h.2.2.2.2.2⟩
theorem Dw.flat (h : Dw w W k g1 s1 g2 s2 g3 s3 g4 s4) : W.cell? ⟨k, 0, none⟩ = some (.bool g1) ∧ W.cell? ⟨k, 1, none⟩ = some (.string s1) ∧ W.cell? ⟨k, 2, none⟩ = some (.bool g2) ∧ W.cell? ⟨k, 3, none⟩ = some (.string s2) ∧
    W.cell? ⟨k + 1, 0, none⟩ = some (.bool g3) ∧ W.cell? ⟨k + 1, 1, none⟩ = some (.string s3) ∧ W.cell? ⟨k + 1, 2, none⟩ = some (.bool g4) ∧ W.cell? ⟨k + 1, 3, none⟩ = some (.string s4) :=
  ⟨h.1.1.1, h.1.1.2.1, h.1.1.2.2.1, h.1.1.2.2.2, h.2.1.1.1, h.2.1.1.2.1, h.2.1.1.2.2.1, h.2.1.1.2.2.2⟩
theorem Dw.flat4 (h : Dw w W k g1 s1 g2 s2 g3 s3 g4 s4) (u1 u2 u3 u4 : Value) : ((((W.setCell ⟨k + 1 + 1, 0, none⟩ u1).setCell ⟨k + 1 + 1, 1, none⟩ u2).setCell ⟨k + 1 + 1, 2, none⟩ u3).setCell ⟨k + 1 + 1, 3, none⟩ u4).cell? ⟨k, 0, none⟩ = some (.bool g1) ∧ ((((W.setCell ⟨k + 1 + 1, 0, none⟩ u1).setCell ⟨k + 1 + 1, 1, none⟩ u2).setCell ⟨k + 1 + 1, 2, none⟩ u3).setCell ⟨k + 1 + 1, 3, none⟩ u4).cell? ⟨k, 1, none⟩ = some (.string s1) ∧ ((((W.setCell ⟨k + 1 + 1, 0, none⟩ u1).setCell ⟨k + 1 + 1, 1, none⟩ u2).setCell ⟨k + 1 + 1, 2, none⟩ u3).setCell ⟨k + 1 + 1, 3, none⟩ u4).cell? ⟨k, 2, none⟩ = some (.bool g2) ∧ ((((W.setCell ⟨k + 1 + 1, 0, none⟩ u1).setCell ⟨k + 1 + 1, 1, none⟩ u2).setCell ⟨k + 1 + 1, 2, none⟩ u3).setCell ⟨k + 1 + 1, 3, none⟩ u4).cell? ⟨k, 3, none⟩ = some (.string s2) ∧ ((((W.setCell ⟨k + 1 + 1, 0, none⟩ u1).setCell ⟨k + 1 + 1, 1, none⟩ u2).setCell ⟨k + 1 + 1, 2, none⟩ u3).setCell ⟨k + 1 + 1, 3, none⟩ u4).cell? ⟨k + 1, 0, none⟩ = some (.bool g3) ∧ ((((W.setCell ⟨k + 1 + 1, 0, none⟩ u1).setCell ⟨k + 1 + 1, 1, none⟩ u2).setCell ⟨k + 1 + 1, 2, none⟩ u3).setCell ⟨k + 1 + 1, 3, none⟩ u4).cell? ⟨k + 1, 1, none⟩ = some (.string s3) ∧ ((((W.setCell ⟨k + 1 + 1, 0, none⟩ u1).setCell ⟨k + 1 + 1, 1, none⟩ u2).setCell ⟨k + 1 + 1, 2, none⟩ u3).setCell ⟨k + 1 + 1, 3, none⟩ u4).cell? ⟨k + 1, 2, none⟩ = some (.bool g4) ∧ ((((W.setCell ⟨k + 1 + 1, 0, none⟩ u1).setCell ⟨k + 1 + 1, 1, none⟩ u2).setCell ⟨k + 1 + 1, 2, none⟩ u3).setCell ⟨k + 1 + 1, 3, none⟩ u4).cell? ⟨k + 1, 3, none⟩ = some (.string s4) := by
  have a := h.1.far4 (q := k + 1 + 1) (by omega) u1 u2 u3 u4
  have b := h.2.1.far4 (q := k + 1 + 1) (by omega) u1 u2 u3 u4
  exact ⟨a.1.1, a.1.2.1, a.1.2.2.1, a.1.2.2.2, b.1.1, b.1.2.1, b.1.2.2.1, b.1.2.2.2⟩
/-- And an integer behind them. -/
def Dt (w W : World) (k u : Nat) (g1 : Bool) (s1 : ByteArray) (g2 : Bool) (s2 : ByteArray) (g3 : Bool) (s3 : ByteArray) (g4 : Bool) (s4 : ByteArray) (g : Bool) (s : ByteArray) : Prop := Dw w W k g1 s1 g2 s2 g3 s3 g4 s4 ∧ Box2 W u g s ∧ k + 1 + 1 < u
theorem Dt.keep {u : Nat} {g : Bool} {s : ByteArray} (h : Dt w W k u g1 s1 g2 s2 g3 s3 g4 s4 g s) (hb : Below W.heap.size W W1) : Dt w W1 k u g1 s1 g2 s2 g3 s3 g4 s4 g s := ⟨h.1.keep hb, h.2.1.keep hb, h.2.2⟩
theorem Dt.new {g : Bool} {s : ByteArray} {t : TypeId} (h : Dw w W k g1 s1 g2 s2 g3 s3 g4 s4) : Dt w (W.alloc (.cells #[.bool g, .string s] t)) k W.heap.size g1 s1 g2 s2 g3 s3 g4 s4 g s := ⟨h.alloc _, Box2.new _ _ _ _, h.2.2.2.1⟩
theorem Dt.set {u : Nat} {g : Bool} {s : ByteArray} (h : Dt w W k u g1 s1 g2 s2 g3 s3 g4 s4 g s) (g' : Bool) (s' : ByteArray) : Dt w ((W.setCell ⟨u, 0, none⟩ (.bool g')).setCell ⟨u, 1, none⟩ (.string s')) k u g1 s1 g2 s2 g3 s3 g4 s4 g' s' := ⟨(h.1.far h.2.2 _).far h.2.2 _, h.2.1.set, h.2.2⟩
end
theorem rat_mul8 {p q r : Rat} {a b : Int} (hr : p * q = r) (ha : p.num * q.num = a) (hb : (p.den : Int) * (q.den : Int) = b) : Rat.divInt a b = r := by
  rw [← ha, ← hb, ← Rat.divInt_mul_divInt, Rat.num_divInt_den, Rat.num_divInt_den]; exact hr
theorem rat_quo8 {p q r : Rat} {a b : Int} (hr : p / q = r) (ha : p.num * (q.den : Int) = a) (hb : (p.den : Int) * q.num = b) : Rat.divInt a b = r := by
  rw [← ha, ← hb, divInt_quot, Rat.num_divInt_den, Rat.num_divInt_den]; exact hr
theorem rat_add8 {p q r : Rat} {a b n d : Int} (hr : p + q = r) (ha : p.num * (q.den : Int) = a) (hb : q.num * (p.den : Int) = b) (hn : a + b = n) (hd : (p.den : Int) * (q.den : Int) = d) : Rat.divInt n d = r := by
  have hp := p.den_pos
  have hq := q.den_pos
  rw [← hn, ← ha, ← hb, ← hd, ← Rat.divInt_add_divInt _ _ (by omega) (by omega), Rat.num_divInt_den, Rat.num_divInt_den]; exact hr
theorem den_ne {q : Rat} : (q.den : Int) ≠ 0 := by have := q.den_pos; omega
end Go.Proofs.YtcljkdninmldiaaGreatDoor

namespace Go.Proofs.YtcljkdninmldiaaGreatDoor
open Go.RowKit
set_option linter.unusedSimpArgs false
set_option linter.unusedVariables false

theorem nbits_half {d : Nat} (h : 0 < d) : nbits d = nbits (d / 2) + 1 := by
  unfold nbits
  rw [if_neg (by omega)]
  rcases Nat.lt_or_ge d 2 with h2 | h2
  · have : d = 1 := by omega
    subst this
    rfl
  · rw [if_neg (by omega), Nat.log2_def d, if_pos h2]
set_option maxRecDepth 100000 in
theorem rbits_any (g : Bool) (l : List UInt8) (z : Int) (w : World) (hl : l.length ≤ 1000000000) (hz : zv g ⟨l.toArray⟩ = z) :
    Calls Tryz.prog 49 #[.agg #[.bool g, .string ⟨l.toArray⟩]] w fun e w' => e = .returned (.int .i64 (nbits z.natAbs : Int)) ∧ Below w.heap.size w w' := by
  have Hz := Lib.hid hz
  clear hz
  have B0 := below1 w (.cells #[.bool g, .string ⟨l.toArray⟩] 23)
  obtain ⟨T, HT⟩ : ∃ T, Hid (Lib.trimLeftB l 0 = T) := ⟨_, Lib.hid rfl⟩
  have HN := Lib.hid (show z.natAbs = vB T by rw [← Hz.out, ← HT.out, vB_trim]; exact natAbs_zv g ⟨l.toArray⟩)
  have Hh := Lib.hid (show T.head? ≠ some 0 by rw [← HT.out]; exact head_trim l)
  have HL := Lib.hid (show T.length ≤ 1000000000 by
    rw [← HT.out, trim_bytes]
    have h1 := vB_lt l
    exact Nat.le_trans (bytesOf_len h1) hl)
  go_enter Tryz.func49, Tryz.ntmps49
  go_wp2_with fail
  refine (rtrim_any l _ hl).mono ?_
  rintro e W1 ⟨rfl, rfl⟩
  rw [HT.out]
  cases T with
  | nil =>
    go_wp2
    go_ret
    exact ⟨by rw [HN.out]; rfl, B0⟩
  | cons b t =>
    have hb : b ≠ 0 := by
      have := Hh.out
      simpa using this
    have hix := run_index_bytes (b :: t) 0 b rfl 0 (by simp)
    have hb' := b.toNat_lt
    have hb0 : 0 < b.toNat := by
      rcases Nat.eq_zero_or_pos b.toNat with h | h
      · exact absurd (UInt8.toNat_inj.1 (by simpa using h)) hb
      · exact h
    have ht : t.length + 1 ≤ 1000000000 := HL.out
    have Hn := Lib.hid (nbits_bytes b t hb)
    clear hb
    have w1 : IntKind.i64.wrap ((t.length : Int) + 1 - 1) = (t.length : Int) := by rw [IntWalk.i64_in _ (by omega)]; omega
    have w2 : IntKind.i64.wrap (8 * (t.length : Int)) = ((8 * t.length : Nat) : Int) := by rw [IntWalk.i64_in _ (by omega)]; omega
    go_wp2_with fail
    clear w1 w2
    go_loopg [4, 5] b.toNat (fun q s4 s5 wx => wx = w.alloc (.cells #[.bool g, .string ⟨l.toArray⟩] 23) ∧ ∃ c d : Nat, s4 = .int .i64 (c : Int) ∧ s5 = .int .i64 (d : Int) ∧ d ≤ q ∧ d < 256 ∧ c ≤ 8 * t.length + 8 ∧ Hid (c + nbits d = 8 * t.length + nbits b.toNat))
    case atStart => exact ⟨rfl, 8 * t.length, b.toNat, rfl, rfl, Nat.le_refl _, by omega, by omega, rfl⟩
    case round =>
      obtain ⟨rfl, c, d, rfl, rfl, hd, hd2, hc, HC⟩ := hrel
      rcases Nat.eq_zero_or_pos d with h0 | h0
      · subst h0
        have HR := Lib.hid (show (c : Int) = (nbits z.natAbs : Int) by
          have := HC.out
          rw [HN.out, Hn.out]
          have e0 : nbits 0 = 0 := rfl
          omega)
        go_wp2
        go_ret
        exact ⟨by rw [← HR.out]; rfl, B0⟩
      · obtain ⟨q, rfl⟩ : ∃ q, gk = q + 1 := ⟨gk - 1, by omega⟩
        have y1 : (d : Int).tdiv 2 = ((d / 2 : Nat) : Int) := by rw [Int.tdiv_eq_ediv_of_nonneg (by omega)]; omega
        have HC2 := Lib.hid (show c + 1 + nbits (d / 2) = 8 * t.length + nbits b.toNat by have := HC.out; have := nbits_half h0; omega)
        have Hq := Lib.hid (show d / 2 ≤ q ∧ d / 2 < 256 by omega)
        have Hc := Lib.hid (show c + 1 ≤ 8 * t.length + 8 by
          have := HC.out
          have h1 := nbits_half h0
          have h2 : nbits b.toNat ≤ 8 := by
            unfold nbits
            split
            · omega
            · rename_i h3
              have := (Nat.log2_lt h3).2 (show b.toNat < 2 ^ 8 by omega)
              omega
          omega)
        have y2 : IntKind.i64.wrap ((d / 2 : Nat) : Int) = ((d / 2 : Nat) : Int) := IntWalk.i64_in _ (by omega)
        clear HC hd
        go_wp2
        go_roundg q
        case measure => omega
        case rel => exact ⟨rfl, c + 1, d / 2, rfl, rfl, Hq.out.1, Hq.out.2, Hc.out, HC2⟩
end Go.Proofs.YtcljkdninmldiaaGreatDoor

namespace Go.Proofs.YtcljkdninmldiaaGreatDoor
open Go.RowKit
set_option linter.unusedSimpArgs false
set_option linter.unusedVariables false

theorem rbits_b {g : Bool} {l : List UInt8} {z n : Int} {w : World} (hl : l.length ≤ 1000000000) (hz : zv g ⟨l.toArray⟩ = z) (e : ((nbits z.natAbs : Nat) : Int) = n) :
    Calls Tryz.prog 49 #[.agg #[.bool g, .string ⟨l.toArray⟩]] w fun e w' => e = .returned (.int .i64 n) ∧ Below w.heap.size w w' := e ▸ rbits_any g l z w hl hz
theorem nbits_bytes_le {l : List UInt8} {g : Bool} {z : Int} (hz : zv g ⟨l.toArray⟩ = z) : nbits z.natAbs ≤ 8 * l.length := by
  rw [← hz, natAbs_zv]
  show nbits (vB l) ≤ _
  have h := vB_lt l
  unfold nbits
  split
  · omega
  · rename_i h0
    have h1 : vB l < 2 ^ (8 * l.length) := by rw [Nat.pow_mul]; exact h
    have := (Nat.log2_lt h0).2 h1
    omega
theorem pow_bytes {z y : Int} {m x : Nat} (hl : m * nbits z.natAbs ≤ 65536) (hx : x ≤ m) (e : z ^ x = y) : (bytesOf y.natAbs).length ≤ 10000000 := by
  have h1 : z.natAbs ^ x ≤ (2 ^ nbits z.natAbs) ^ x := Nat.pow_le_pow_left (Nat.le_of_lt (nbits_lt _)) x
  rw [← Nat.pow_mul] at h1
  have h2 : nbits z.natAbs * x ≤ 65536 := by
    rw [Nat.mul_comm]
    exact Nat.le_trans (Nat.mul_le_mul_right _ hx) hl
  generalize nbits z.natAbs * x = b at *
  have h3 : 2 ^ b < 256 ^ (b + 1) := by
    have h4 : (2 : Nat) ^ b ≤ 256 ^ b := Nat.pow_le_pow_left (by omega) b
    have h5 : 0 < 256 ^ b := Nat.pow_pos (by omega)
    rw [Nat.pow_succ]
    omega
  have h6 := bytesOf_len (n := y.natAbs) (k := b + 1) (by rw [← e, Int.natAbs_pow]; omega)
  omega
theorem rmul_mg {x y z : Int} {w : World} (hx : (bytesOf x.natAbs).length ≤ 10000000) (hy : (bytesOf y.natAbs).length ≤ 10000000) (e : x * y = z) : Calls Tryz.prog 52 #[.agg #[.bool (sg x), .string (mg x)], .agg #[.bool (sg y), .string (mg y)]] w (IntOut w z) :=
  e ▸ rmul01_any (sg x) (sg y) (bytesOf x.natAbs) (bytesOf y.natAbs) x y w (by omega) (by omega) (zv_mg x) (zv_mg y)
/-- The argument and the result's box; further integers, made behind them. -/
def Pw (w W : World) (p : Nat) (g : Bool) (s : ByteArray) : Prop := Box2 W p g s ∧ Box2 W (p + 1) false ⟨#[]⟩ ∧ p + 1 < W.heap.size ∧ Below w.heap.size w W ∧ w.heap.size ≤ p
theorem Pw.keep {w W W1 : World} {p : Nat} {g : Bool} {s : ByteArray} (h : Pw w W p g s) (hb : Below W.heap.size W W1) : Pw w W1 p g s :=
  ⟨h.1.keep hb, h.2.1.keep hb, Nat.lt_of_lt_of_le h.2.2.1 hb.size, below_more h.2.2.2.1 (Nat.le_refl _) hb, h.2.2.2.2⟩
theorem Pw.alloc {w W : World} {p : Nat} {g : Bool} {s : ByteArray} (h : Pw w W p g s) (o : Obj) : Pw w (W.alloc o) p g s := h.keep (below1 _ _)
theorem Pw.drew {w W : World} {p : Nat} {g : Bool} {s : ByteArray} (h : Pw w W p g s) : Pw w W.drew p g s := h.keep (Below.refl _ _).drew
theorem Pw.far {w W : World} {p : Nat} {g : Bool} {s : ByteArray} {a : Addr} (h : Pw w W p g s) (ha : p + 1 < a.block) (u : Value) : Pw w (W.setCell a u) p g s :=
  ⟨h.1.far (by omega) u, h.2.1.far (by omega) u, by rw [World.size_setCell]; exact h.2.2.1, h.2.2.2.1.setCell (by have := h.2.2.2.2; omega) u, h.2.2.2.2⟩
/-- An integer behind them. -/
def Nb (W : World) (p u : Nat) (g : Bool) (s : ByteArray) : Prop := Box2 W u g s ∧ p + 1 < u
theorem Nb.keep {W W1 : World} {p u : Nat} {g : Bool} {s : ByteArray} (h : Nb W p u g s) (hb : Below W.heap.size W W1) : Nb W1 p u g s := ⟨h.1.keep hb, h.2⟩
theorem Nb.alloc {W : World} {p u : Nat} {g : Bool} {s : ByteArray} (h : Nb W p u g s) (o : Obj) : Nb (W.alloc o) p u g s := h.keep (below1 _ _)
theorem Nb.new {w W : World} {p : Nat} {g g' : Bool} {s s' : ByteArray} {t : TypeId} (h : Pw w W p g' s') : Nb (W.alloc (.cells #[.bool g, .string s] t)) p W.heap.size g s := ⟨Box2.new _ _ _ _, h.2.2.1⟩
theorem Nb.lt {W : World} {p u : Nat} {g : Bool} {s : ByteArray} (h : Nb W p u g s) : u < W.heap.size := World.block_lt_of_cell? W ⟨u, 0, none⟩ h.1.1
theorem Nb.set {W : World} {p u : Nat} {g g' : Bool} {s s' : ByteArray} (h : Nb W p u g s) : Nb ((W.setCell ⟨u, 0, none⟩ (.bool g')).setCell ⟨u, 1, none⟩ (.string s')) p u g' s' := ⟨h.1.set, h.2⟩
theorem Nb.far {W : World} {p u : Nat} {g : Bool} {s : ByteArray} {a : Addr} (h : Nb W p u g s) (ha : u ≠ a.block) (x : Value) : Nb (W.setCell a x) p u g s := ⟨h.1.far ha x, h.2⟩
/-- Both of two integers, one stored behind the other. -/
def Tw (w W : World) (p u v : Nat) (g : Bool) (s : ByteArray) (x y : Int) : Prop := Pw w W p g s ∧ Nb W p u (sg x) (mg x) ∧ Nb W p v (sg y) (mg y) ∧ u ≠ v
theorem Tw.ab {w W : World} {p u v : Nat} {g g1 g2 : Bool} {s s1 s2 : ByteArray} (x y : Int) (h : Pw w W p g s) (h1 : Nb W p u g1 s1) (h2 : Nb W p v g2 s2) (hn : u ≠ v) :
    Tw w ((((W.setCell ⟨u, 0, none⟩ (.bool (sg x))).setCell ⟨u, 1, none⟩ (.string (mg x))).setCell ⟨v, 0, none⟩ (.bool (sg y))).setCell ⟨v, 1, none⟩ (.string (mg y))) p u v g s x y :=
  ⟨(((h.far h1.2 _).far h1.2 _).far h2.2 _).far h2.2 _, (h1.set.far hn _).far hn _, ((h2.far (fun e => hn e.symm) _).far (fun e => hn e.symm) _).set, hn⟩
theorem Tw.ba {w W : World} {p u v : Nat} {g g1 g2 : Bool} {s s1 s2 : ByteArray} (x y : Int) (h : Pw w W p g s) (h1 : Nb W p u g1 s1) (h2 : Nb W p v g2 s2) (hn : u ≠ v) :
    Tw w ((((W.setCell ⟨v, 0, none⟩ (.bool (sg y))).setCell ⟨v, 1, none⟩ (.string (mg y))).setCell ⟨u, 0, none⟩ (.bool (sg x))).setCell ⟨u, 1, none⟩ (.string (mg x))) p u v g s x y :=
  ⟨(((h.far h2.2 _).far h2.2 _).far h1.2 _).far h1.2 _, ((h1.far hn _).far hn _).set, (h2.set.far (fun e => hn e.symm) _).far (fun e => hn e.symm) _, hn⟩
theorem Tw.keep {w W W1 : World} {p u v : Nat} {g : Bool} {s : ByteArray} {x y : Int} (h : Tw w W p u v g s x y) (hb : Below W.heap.size W W1) : Tw w W1 p u v g s x y := ⟨h.1.keep hb, h.2.1.keep hb, h.2.2.1.keep hb, h.2.2.2⟩
theorem Tw.setu {w W : World} {p u v : Nat} {g : Bool} {s : ByteArray} {x y : Int} (h : Tw w W p u v g s x y) (x' : Int) : Tw w ((W.setCell ⟨u, 0, none⟩ (.bool (sg x'))).setCell ⟨u, 1, none⟩ (.string (mg x'))) p u v g s x' y :=
  ⟨(h.1.far h.2.1.2 _).far h.2.1.2 _, h.2.1.set, (h.2.2.1.far (fun e => h.2.2.2 e.symm) _).far (fun e => h.2.2.2 e.symm) _, h.2.2.2⟩
theorem Tw.setv {w W : World} {p u v : Nat} {g : Bool} {s : ByteArray} {x y : Int} (h : Tw w W p u v g s x y) (y' : Int) : Tw w ((W.setCell ⟨v, 0, none⟩ (.bool (sg y'))).setCell ⟨v, 1, none⟩ (.string (mg y'))) p u v g s x y' :=
  ⟨(h.1.far h.2.2.1.2 _).far h.2.2.1.2 _, (h.2.1.far h.2.2.2 _).far h.2.2.2 _, h.2.2.1.set, h.2.2.2⟩
theorem Pw.start (w : World) (t : TypeId) (g : Bool) (s : ByteArray) : Pw w ((w.alloc (.cells #[.bool g, .string s] t)).alloc (.cells #[.bool false, .string ⟨#[]⟩] t)) w.heap.size g s := by
  refine ⟨(Box2.new w t g s).keep (below1 _ _), ?_, ?_, below2 w _ _, Nat.le_refl _⟩
  · rw [← World.size_alloc w (.cells #[.bool g, .string s] t)]; exact Box2.new _ _ _ _
  · simp only [World.size_alloc]; omega
theorem sg_one9 : sg 1 = false := by decide

set_option maxRecDepth 100000 in
theorem rpow_range (g : Bool) (l : List UInt8) (m : Int) (w : World) (hm : m < 0 ∨ 4096 < m) :
    Calls Tryz.prog 22 #[.agg #[.bool g, .string ⟨l.toArray⟩], .int .i64 m] w (FailOut w 2) := by
  have hc : decide (m < 0) = true ∨ (¬ m < 0 ∧ decide (4096 < m) = true) := by
    by_cases h : m < 0
    · exact Or.inl (decide_eq_true h)
    · exact Or.inr ⟨h, decide_eq_true (by omega)⟩
  clear hm
  obtain ⟨W0, hW0⟩ : ∃ W0, W0 = (w.alloc (.cells #[.bool g, .string ⟨l.toArray⟩] 23)).alloc (.cells #[.bool false, .string ⟨#[]⟩] 23) := ⟨_, rfl⟩
  have K : Pw w W0 w.heap.size g ⟨l.toArray⟩ := by rw [hW0]; exact Pw.start w _ _ _
  have HW := Lib.hid hW0
  clear hW0
  go_enter Tryz.func22, Tryz.ntmps22
  go_upto_region 1 with fail
  rw [← HW.out]
  obtain ⟨⟨x1, x2, x3, x4⟩, ⟨r1, r2, r3, r4⟩, -⟩ := id K
  rcases hc with hd1 | ⟨hd1, hd2⟩
  all_goals
    go_wp2_with fail
    exact bodyPost_ret (v := .tuple #[.agg #[.bool false, .string ⟨#[]⟩], .int .i64 2]) (by simp [results, Tryz.results22, go_sem, r1, r2, r3, r4]) rfl ⟨rfl, (K.2.2.2.1.setCell (by dsimp only; omega) _).setCell (by dsimp only; omega) _⟩
set_option maxRecDepth 100000 in
set_option maxHeartbeats 3200000 in
theorem rpow_limit (g : Bool) (l : List UInt8) (z : Int) (m : Nat) (w : World) (hl1 : l.length ≤ 1000000) (hz : zv g ⟨l.toArray⟩ = z) (hm : m ≤ 4096) (hl : 65536 < m * nbits z.natAbs) :
    Calls Tryz.prog 22 #[.agg #[.bool g, .string ⟨l.toArray⟩], .int .i64 (m : Int)] w (FailOut w 4) := by
  obtain ⟨nb, Hnb⟩ : ∃ n : Nat, Hid (nbits z.natAbs = n) := ⟨_, Lib.hid rfl⟩
  have hb8 := nbits_bytes_le hz
  rw [Hnb.out] at hl hb8
  have hprod : nb * m ≤ 8000000 * 4096 := Nat.mul_le_mul (by omega) hm
  have Hz := Lib.hid hz
  clear hz
  obtain ⟨P, hP⟩ : ∃ P : Nat, nb * m = P := ⟨_, rfl⟩
  have hPl : 65536 < P := by rw [← hP, Nat.mul_comm]; exact hl
  have hwr : IntKind.i64.wrap ((nb : Int) * (m : Int)) = (P : Int) := by
    rw [show (nb : Int) * (m : Int) = ((nb * m : Nat) : Int) by rw [Int.natCast_mul], hP]
    exact IntWalk.i64_in _ (by omega)
  have hd1 : ¬ (m : Int) < 0 := by omega
  have hd2 : ¬ 4096 < (m : Int) := by omega
  have hd3 : decide (65536 < (P : Int)) = true := decide_eq_true (by omega)
  obtain ⟨W0, hW0⟩ : ∃ W0, W0 = (w.alloc (.cells #[.bool g, .string ⟨l.toArray⟩] 23)).alloc (.cells #[.bool false, .string ⟨#[]⟩] 23) := ⟨_, rfl⟩
  have K : Pw w W0 w.heap.size g ⟨l.toArray⟩ := by rw [hW0]; exact Pw.start w _ _ _
  have HW := Lib.hid hW0
  have Hl := Lib.hid hl1
  clear hW0 hl hprod hP hb8 hl1
  go_enter Tryz.func22, Tryz.ntmps22
  go_upto_region 1 with fail
  rw [← HW.out]
  obtain ⟨⟨x1, x2, x3, x4⟩, ⟨r1, r2, r3, r4⟩, -⟩ := id K
  go_wp2_with fail
  refine (rbits_b (by have := Hl.out; omega) Hz.out (by rw [Hnb.out])).mono ?_
  rintro e X ⟨rfl, bX⟩
  have K := K.keep bX
  obtain ⟨⟨x1, x2, x3, x4⟩, ⟨r1, r2, r3, r4⟩, -⟩ := id K
  go_wp2_with fail
  exact bodyPost_ret (v := .tuple #[.agg #[.bool false, .string ⟨#[]⟩], .int .i64 4]) (by simp [results, Tryz.results22, go_sem, r1, r2, r3, r4]) rfl ⟨rfl, (K.2.2.2.1.setCell (by dsimp only; omega) _).setCell (by dsimp only; omega) _⟩
end Go.Proofs.YtcljkdninmldiaaGreatDoor
