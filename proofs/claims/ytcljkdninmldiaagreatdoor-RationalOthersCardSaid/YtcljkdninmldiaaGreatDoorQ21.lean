/- Words for the reference implementation's Div: its integers, and what it has at hand. Condition: at most 10^7 bytes. -/
import Derived.Test.YtcljkdninmldiaaGreatDoorQ16
import Derived.Test.YtcljkdninmldiaaGreatDoorQ20

namespace Go.Proofs.YtcljkdninmldiaaGreatDoor
open Go.RowKit
set_option linter.unusedSimpArgs false
set_option linter.unusedVariables false

theorem zvn (g : Bool) (N : Nat) : zv g ⟨(bytesOf N).toArray⟩ = if g then -(N : Int) else (N : Int) := by
  rw [← value_small, vB_bytesOf]
/-- The quotient and the remainder, before the signs are looked at: as integers. -/
theorem nat_int (N : Nat) : sg (N : Int) = false ∧ mg (N : Int) = ⟨(bytesOf N).toArray⟩ := ⟨decide_eq_false (by omega), by unfold mg; rw [Int.natAbs_natCast]⟩
theorem div_same {z1 z2 : Int} (h : sg z1 = sg z2) : qD z1 z2 = ((z1.natAbs / z2.natAbs : Nat) : Int) ∧ rD z1 z2 = if sg z2 then -((z1.natAbs % z2.natAbs : Nat) : Int) else ((z1.natAbs % z2.natAbs : Nat) : Int) := by
  unfold qD rD
  rw [h]
  simp [dq, dr]
theorem div_diff {z1 z2 : Int} (h : sg z1 ≠ sg z2) : (z1.natAbs % z2.natAbs = 0 → qD z1 z2 = -((z1.natAbs / z2.natAbs : Nat) : Int) ∧ rD z1 z2 = 0) ∧
    (z1.natAbs % z2.natAbs ≠ 0 → qD z1 z2 = -((z1.natAbs / z2.natAbs : Nat) : Int) - 1 ∧ rD z1 z2 = if sg z2 then -((z2.natAbs - z1.natAbs % z2.natAbs : Nat) : Int) else ((z2.natAbs - z1.natAbs % z2.natAbs : Nat) : Int)) := by
  have e : (sg z1 != sg z2) = true := by simpa using h
  unfold qD rD
  rw [e]
  constructor
  · intro h0
    simp [dq, dr, h0]
  · intro h0
    simp [dq, dr, h0]
    omega
theorem rsml_b {N : Nat} {b : List UInt8} {w : World} (hb : bytesOf N = b) (h : b.length < 8) :
    Calls Tryz.prog 101 #[.string ⟨b.toArray⟩] w fun e w' => e = .returned (.int .i64 (N : Int)) ∧ Below w.heap.size w w' := by
  subst hb
  have h3 := small_lt h
  refine (rsmall_any (bytesOf N) w (by omega) (by rw [vB_bytesOf]; omega)).mono ?_
  rintro e w' ⟨rfl, rfl⟩
  exact ⟨by rw [vB_bytesOf], Below.refl _ _⟩
theorem rdivM_b {N1 N2 Q R : Nat} {b1 b2 q r : List UInt8} {w : World} (e1 : bytesOf N1 = b1) (e2 : bytesOf N2 = b2) (h1 : b1.length ≤ 10000000) (h2 : b2.length ≤ 10000000) (h0 : N2 ≠ 0) (eq : N1 / N2 = Q) (er : N1 % N2 = R) (e3 : bytesOf Q = q) (e4 : bytesOf R = r) :
    Calls Tryz.prog 100 #[.string ⟨b1.toArray⟩, .string ⟨b2.toArray⟩] w fun e w' => e = .returned (.tuple #[.string ⟨q.toArray⟩, .string ⟨r.toArray⟩]) ∧ Below w.heap.size w w' := by
  subst e1 e2 eq er e3 e4
  have h := rdivMag_any (bytesOf N1) N2 w h1 h0 h2
  rw [vB_bytesOf] at h
  exact h
theorem rneg_mg {x y : Int} {w : World} (hl : (bytesOf x.natAbs).length ≤ 10000000) (e : -x = y) : Calls Tryz.prog 59 #[.agg #[.bool (sg x), .string (mg x)]] w (IntOut w y) :=
  rneg_eq (l := bytesOf x.natAbs) (by omega) (zv_mg x) e
theorem rsub_mg {x y z : Int} {w : World} (hx : (bytesOf x.natAbs).length ≤ 10000000) (hy : (bytesOf y.natAbs).length ≤ 10000000) (e : x - y = z) : Calls Tryz.prog 102 #[.agg #[.bool (sg x), .string (mg x)], .agg #[.bool (sg y), .string (mg y)]] w (IntOut w z) :=
  e ▸ rsub01_any (sg x) (sg y) (bytesOf x.natAbs) (bytesOf y.natAbs) x y w (by omega) (by omega) (zv_mg x) (zv_mg y)
theorem rsub_nm {N R : Nat} {b : List UInt8} {z : Int} {w : World} (hb : bytesOf N = b) (hl : b.length ≤ 10000000) (hR : (bytesOf R).length ≤ 10000000) (e : (N : Int) - (R : Int) = z) : Calls Tryz.prog 102 #[.agg #[.bool false, .string ⟨b.toArray⟩], .agg #[.bool (sg (R : Int)), .string (mg (R : Int))]] w (IntOut w z) := by
  have h := rsub_mg (x := (N : Int)) (y := (R : Int)) (z := z) (w := w) (by rw [Int.natAbs_natCast, hb]; exact hl) (by rw [Int.natAbs_natCast]; exact hR) e
  rw [(nat_int N).1, (nat_int N).2, hb] at h
  exact h
theorem rsub_nb {N R : Nat} {b br : List UInt8} {z : Int} {w : World} (hb : bytesOf N = b) (hr : bytesOf R = br) (hl : b.length ≤ 10000000) (hR : (bytesOf R).length ≤ 10000000) (e : (N : Int) - (R : Int) = z) : Calls Tryz.prog 102 #[.agg #[.bool false, .string ⟨b.toArray⟩], .agg #[.bool (sg (R : Int)), .string ⟨br.toArray⟩]] w (IntOut w z) := by
  have h := rsub_nm hb hl hR e (w := w)
  rw [(nat_int R).2, hr] at h
  exact h
theorem rD_abs {z1 z2 : Int} (h : z2 ≠ 0) : (rD z1 z2).natAbs ≤ z2.natAbs := by
  have h1 : z1.natAbs % z2.natAbs < z2.natAbs := Nat.mod_lt _ (by omega)
  unfold rD dr
  generalize z1.natAbs % z2.natAbs = m at *
  split <;> split <;> simp <;> omega
theorem mg_ne {R : Nat} (h : R ≠ 0) : ¬ mg (R : Int) = ⟨#[]⟩ := by
  intro e
  rw [(nat_int R).2] at e
  have h1 : (bytesOf R).toArray = #[] := by injection e
  have h2 : bytesOf R = [] := by simpa using h1
  exact h (bytesOf_nil.1 h2)
/-- Two integers and two results' boxes. -/
def Bx4 (W : World) (p : Nat) (g1 g2 : Bool) (s1 s2 : ByteArray) : Prop := Bx3 W p g1 g2 s1 s2 ∧ Box2 W (p + 1 + 1 + 1) false ⟨#[]⟩
theorem Bx4.keep {W W1 : World} {p : Nat} {g1 g2 : Bool} {s1 s2 : ByteArray} (h : Bx4 W p g1 g2 s1 s2) (hb : Below W.heap.size W W1) : Bx4 W1 p g1 g2 s1 s2 := ⟨h.1.keep hb, h.2.keep hb⟩
theorem Bx4.start (w : World) (t : TypeId) (g1 g2 : Bool) (s1 s2 : ByteArray) : Bx4 ((((w.alloc (.cells #[.bool g1, .string s1] t)).alloc (.cells #[.bool g2, .string s2] t)).alloc (.cells #[.bool false, .string ⟨#[]⟩] t)).alloc (.cells #[.bool false, .string ⟨#[]⟩] t)) w.heap.size g1 g2 s1 s2 := by
  refine ⟨(Bx3.start w t g1 g2 s1 s2).keep (below1 _ _), ?_, ?_, ?_, ?_⟩ <;> simp [go_sem]
theorem Box2.new (W : World) (t : TypeId) (g : Bool) (s : ByteArray) : Box2 (W.alloc (.cells #[.bool g, .string s] t)) W.heap.size g s := by
  refine ⟨?_, ?_, ?_, ?_⟩ <;> simp [go_sem]
/-- All that Div has at hand: the integers, the results' boxes, the quotient and the remainder. -/
def Dv (W : World) (p u v : Nat) (g1 g2 : Bool) (s1 s2 : ByteArray) (zq zr : Int) : Prop := Bx4 W p g1 g2 s1 s2 ∧ Box2 W u (sg zq) (mg zq) ∧ Box2 W v (sg zr) (mg zr) ∧ p + 1 + 1 + 1 < u ∧ u < v
theorem Dv.keep {W W1 : World} {p u v : Nat} {g1 g2 : Bool} {s1 s2 : ByteArray} {zq zr : Int} (h : Dv W p u v g1 g2 s1 s2 zq zr) (hb : Below W.heap.size W W1) : Dv W1 p u v g1 g2 s1 s2 zq zr := ⟨h.1.keep hb, h.2.1.keep hb, h.2.2.1.keep hb, h.2.2.2⟩
theorem Bx4.far {W : World} {p : Nat} {g1 g2 : Bool} {s1 s2 : ByteArray} {a : Addr} (h : Bx4 W p g1 g2 s1 s2) (ha : p + 1 + 1 + 1 < a.block) (u : Value) : Bx4 (W.setCell a u) p g1 g2 s1 s2 :=
  ⟨⟨h.1.1.far (by omega) u, h.1.2.1.far (by omega) u, h.1.2.2.far (by omega) u⟩, h.2.far (by omega) u⟩
theorem Dv.setq {W : World} {p u v : Nat} {g1 g2 : Bool} {s1 s2 : ByteArray} {zq zr : Int} (h : Dv W p u v g1 g2 s1 s2 zq zr) (x : Int) : Dv ((W.setCell ⟨u, 0, none⟩ (.bool (sg x))).setCell ⟨u, 1, none⟩ (.string (mg x))) p u v g1 g2 s1 s2 x zr :=
  ⟨(h.1.far (by have := h.2.2.2; dsimp only; omega) _).far (by have := h.2.2.2; dsimp only; omega) _, h.2.1.set, (h.2.2.1.far (by have := h.2.2.2; dsimp only; omega) _).far (by have := h.2.2.2; dsimp only; omega) _, h.2.2.2⟩
theorem Dv.setr {W : World} {p u v : Nat} {g1 g2 : Bool} {s1 s2 : ByteArray} {zq zr : Int} (h : Dv W p u v g1 g2 s1 s2 zq zr) (x : Int) : Dv ((W.setCell ⟨v, 0, none⟩ (.bool (sg x))).setCell ⟨v, 1, none⟩ (.string (mg x))) p u v g1 g2 s1 s2 zq x :=
  ⟨(h.1.far (by have := h.2.2.2; dsimp only; omega) _).far (by have := h.2.2.2; dsimp only; omega) _, (h.2.1.far (by have := h.2.2.2; dsimp only; omega) _).far (by have := h.2.2.2; dsimp only; omega) _, h.2.2.1.set, h.2.2.2⟩
end Go.Proofs.YtcljkdninmldiaaGreatDoor
