/- Plain facts: the digits to the base 2^32 out of bytes. No condition. -/
import Derived.Test.YtigdjlhihhakmaaDoorByt
import Derived.Test.YtigdjlhihhakmaaDoorMull
import Derived.Laws.BitsAllLaws
namespace Go.Proofs.YtigdjlhihhakmaaDoor
open Go.RowKit

/-- The last k bytes of l are in the digits p. -/
structure Packed (l : List UInt8) (p : Nat → Nat) (k : Nat) : Prop where
  le : k ≤ l.length
  dig : ∀ j, p j < 4294967296
  cur : p (k / 4) < 256 ^ (k % 4)
  zero : ∀ j, k / 4 < j → p j = 0
  val : val p ((l.length + 3) / 4) = vB (l.drop (l.length - k))

theorem stz_len (l : List UInt8) : (Lib.trimLeftB l 0).length ≤ l.length := (List.dropWhile_suffix _).length_le

theorem packed_start (l : List UInt8) : Packed l (fun _ => 0) 0 :=
  ⟨Nat.zero_le _, fun _ => by show (0 : Nat) < _; omega, by simp, fun _ _ => rfl, by rw [val_zeros _ (Nat.zero_le _) (fun _ _ => rfl)]; simp [val, vB]⟩

theorem pow256_le {r : Nat} (h : r < 4) : (256 : Nat) ^ (r + 1) ≤ 4294967296 := by
  rcases (show r = 0 ∨ r = 1 ∨ r = 2 ∨ r = 3 by omega) with rfl | rfl | rfl | rfl <;> decide

theorem packed_step {l : List UInt8} {p : Nat → Nat} {k : Nat} (h : Packed l p k) (hk : k < l.length) {b : UInt8} (hb : l[l.length - 1 - k]? = some b) :
    p (k / 4) + b.toNat * 256 ^ (k % 4) < 4294967296 ∧ Packed l (upd p (k / 4) (p (k / 4) + b.toNat * 256 ^ (k % 4))) (k + 1) := by
  have hb' := b.toNat_lt
  have hlt : p (k / 4) + b.toNat * 256 ^ (k % 4) < 256 ^ (k % 4 + 1) := by
    rw [Nat.pow_succ]
    have := h.cur
    have h2 : b.toNat * 256 ^ (k % 4) ≤ 255 * 256 ^ (k % 4) := Nat.mul_le_mul_right _ (by omega)
    generalize 256 ^ (k % 4) = P at *
    omega
  have hle := pow256_le (show k % 4 < 4 by omega)
  refine ⟨by omega, by omega, fun j => ?_, ?_, fun j hj => ?_, ?_⟩
  · by_cases e : j = k / 4
    · subst e; rw [upd_same]; omega
    · simp only [upd, if_neg e]; exact h.dig j
  · by_cases e : k % 4 = 3
    · rw [show (k + 1) / 4 = k / 4 + 1 by omega, show (k + 1) % 4 = 0 by omega]
      simp only [upd, if_neg (show k / 4 + 1 ≠ k / 4 by omega), h.zero (k / 4 + 1) (by omega)]
      decide
    · rw [show (k + 1) / 4 = k / 4 by omega, show (k + 1) % 4 = k % 4 + 1 by omega, upd_same]
      exact hlt
  · simp only [upd, if_neg (show j ≠ k / 4 by omega)]
    exact h.zero j (by omega)
  · have h1 := val_set p (p (k / 4) + b.toNat * 256 ^ (k % 4)) (show k / 4 < (l.length + 3) / 4 by omega)
    have h2 := vB_drop (l := l) (k := l.length - 1 - k) (by omega)
    rw [show l.length - 1 - (l.length - 1 - k) = k by omega, show l.length - 1 - k + 1 = l.length - k by omega] at h2
    have h3 : l[l.length - 1 - k]'(by omega) = b := by
      rw [List.getElem?_eq_getElem (by omega)] at hb
      exact Option.some.inj hb
    rw [h3, ← pow256 k] at h2
    rw [show l.length - (k + 1) = l.length - 1 - k by omega, h2, ← h.val]
    rw [Nat.add_mul, Nat.mul_assoc, Nat.mul_comm (256 ^ (k % 4))] at h1
    omega

theorem packed_trm {l : List UInt8} {p : Nat → Nat} (h : Packed l p l.length) (hh : l.head? ≠ some 0) : Trm p ((l.length + 3) / 4) := by
  intro hn h0
  have h1 := h.val
  rw [Nat.sub_self, List.drop_zero] at h1
  have h2 := vB_len hh (by omega)
  obtain ⟨m, hm⟩ : ∃ m, (l.length + 3) / 4 = m + 1 := ⟨(l.length + 3) / 4 - 1, by omega⟩
  rw [hm] at h1 h0
  simp only [Nat.add_sub_cancel] at h0
  rw [Go.Proofs.YtigdjlhihhakmaaDoor.val, h0, Nat.zero_mul, Nat.add_zero] at h1
  have h3 := val_lt (f := p) (n := m) (fun i _ => h.dig i)
  rw [show (4294967296 : Nat) = 256 ^ 4 by rfl, ← Nat.pow_mul] at h3
  have h4 : (256 : Nat) ^ (4 * m) ≤ 256 ^ (l.length - 1) := Nat.pow_le_pow_right (by omega) (by omega)
  omega

theorem or_pack (a b r : Nat) (ha : a < 256 ^ r) (_hr : r < 4) : a ||| b * 256 ^ r = a + b * 256 ^ r := by
  have e : (256 : Nat) ^ r = 2 ^ (8 * r) := by rw [Nat.pow_mul]
  rw [e] at ha ⊢
  have := Nat.two_pow_add_eq_or_of_lt ha b
  rw [Nat.or_comm, Nat.mul_comm, ← this, Nat.add_comm]
theorem u32_pack (a b r : Nat) (ha : a < 256 ^ r) (hb : b < 256) (hr : r < 4) : bits .or .u32 (a : Int) ((b * 256 ^ r : Nat) : Int) = ((a + b * 256 ^ r : Nat) : Int) := by
  have hle := pow256_le hr
  rw [Nat.pow_succ] at hle
  have h2 : b * 256 ^ r ≤ 255 * 256 ^ r := Nat.mul_le_mul_right _ (by omega)
  rw [u32_or_nat a (b * 256 ^ r) (by omega) (by omega), or_pack a b r ha hr]

theorem shl_pack (b r : Nat) (hb : b < 256) (hr : r < 4) : (b : Int) * 2 ^ (8 * r) % 4294967296 = ((b * 256 ^ r : Nat) : Int) := by
  have hle := pow256_le hr
  rw [Nat.pow_succ] at hle
  have h2 : b * 256 ^ r ≤ 255 * 256 ^ r := Nat.mul_le_mul_right _ (by omega)
  have e : (b : Int) * 2 ^ (8 * r) = ((b * 256 ^ r : Nat) : Int) := by
    rw [Int.natCast_mul, Int.natCast_pow, Int.pow_mul]; rfl
  rw [e]
  generalize b * 256 ^ r = z at *
  omega
theorem or_digit {p : Nat → Nat} {k : Nat} {l : List UInt8} (h : Packed l p k) (b : UInt8) :
    bits .or .u32 (p (k / 4) : Int) ((b.toNat : Int) * 2 ^ (8 * (k % 4)) % 4294967296) = ((p (k / 4) + b.toNat * 256 ^ (k % 4) : Nat) : Int) := by
  rw [shl_pack _ _ b.toNat_lt (by omega), u32_pack _ _ _ h.cur b.toNat_lt (by omega)]
end Go.Proofs.YtigdjlhihhakmaaDoor
