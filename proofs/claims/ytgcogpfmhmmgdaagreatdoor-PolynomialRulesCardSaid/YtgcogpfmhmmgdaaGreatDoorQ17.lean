/- What the helpers of integer.Compare return: cmp.Compare of strings, cmp.Or. No condition but the sizes. -/
import Derived.Test.YtgcogpfmhmmgdaaGreatDoorQ08
import Derived.Deep.RegionHeld3
import Derived.Deep.DeepCutAuto
import Derived.WalkLawsBesides

namespace Go.Proofs.YtgcogpfmhmmgdaaGreatDoor
open Go.RowKit

theorem isNaNs_any (s : ByteArray) (w : World) : Calls Tryz.prog 126 #[.string s] w fun e w' => e = .returned (.bool false) ∧ w = w' := by
  have h : (s.data.toList != s.data.toList) = false := by simp
  go_enter Tryz.func126, Tryz.ntmps126
  go_wp2
  go_ret
  exact ⟨by simp, rfl⟩

def cmpS (a b : List UInt8) : Int := if Op.bytesLess a b then -1 else if a = b then 0 else 1

set_option maxHeartbeats 800000 in
theorem cmpStr_any (a b : ByteArray) (w : World) : Calls Tryz.prog 105 #[.string a, .string b] w fun e w' => e = .returned (.int .i64 (cmpS a.toList b.toList)) ∧ w = w' := by
  go_enter Tryz.func105, Tryz.ntmps105
  go_wp2_with (go_at_call 126; refine (isNaNs_any _ _).mono ?_; rintro e w' ⟨rfl, rfl⟩)
  · have h1 : Op.bytesLess a.toList b.toList = true := by assumption
    go_ret
    exact ⟨by unfold cmpS; rw [if_pos h1]; rfl, rfl⟩
  · have h1 : Op.bytesLess a.toList b.toList = false := by assumption
    have h2 : (!a.toList == b.toList) = true := by assumption
    go_ret
    exact ⟨by unfold cmpS; rw [if_neg (by rw [h1]; simp), if_neg (by simpa using h2)]; rfl, rfl⟩
  · have h1 : Op.bytesLess a.toList b.toList = false := by assumption
    have h2 : (!a.toList == b.toList) = false := by assumption
    go_ret
    exact ⟨by unfold cmpS; rw [if_neg (by rw [h1]; simp), if_pos (by simpa using h2)]; rfl, rfl⟩

def orI (x y : Int) : Int := if x = 0 then y else x
theorem or_any (b : Nat) (x y : Int) (w : World) (h0 : w.cell? ⟨b, 0, none⟩ = some (.int .i64 x)) (h1 : w.cell? ⟨b, 1, none⟩ = some (.int .i64 y)) :
    Calls Tryz.prog 103 #[.slice (some ⟨b, 0, none⟩) 2 2] w fun e w' => e = .returned (.int .i64 (orI x y)) ∧ w = w' := by
  go_enter Tryz.func103, Tryz.ntmps103
  go_wp2
  go_loopg [8] 2 (fun g i wx => wx = w ∧ ∃ k : Nat, k + g = 2 ∧ i = .int .i64 k ∧ (k = 1 → x = 0) ∧ (k = 2 → x = 0 ∧ y = 0))
  case atStart => exact ⟨rfl, 0, rfl, rfl, by omega, by omega⟩
  case round =>
    obtain ⟨rfl, k, hk, rfl, hx, hy⟩ := hrel
    rcases (show k = 0 ∨ k = 1 ∨ k = 2 by omega) with rfl | rfl | rfl
    · obtain rfl : gk = 2 := by omega
      clear hx hy hk
      by_cases hz : x = 0
      · have hzb : (x != 0) = false := by simp [hz]
        have Hz : Hid (x = 0) := hz
        clear hz
        go_wp2
        go_roundg 1
        case measure => omega
        case rel => exact ⟨rfl, 1, rfl, rfl, fun _ => Hz.out, fun h => by omega⟩
      · have hzb : (x != 0) = true := by simp [hz]
        go_wp2
        go_ret
        exact ⟨by unfold orI; rw [if_neg hz]; rfl, rfl⟩
    · obtain rfl : gk = 1 := by omega
      have Hx : Hid (x = 0) := hx rfl
      clear hx hy hk
      by_cases hz : y = 0
      · have hzb : (y != 0) = false := by simp [hz]
        have Hz : Hid (y = 0) := hz
        clear hz
        go_wp2
        go_roundg 0
        case measure => omega
        case rel => exact ⟨rfl, 2, rfl, rfl, fun h => by omega, fun _ => ⟨Hx.out, Hz.out⟩⟩
      · have hzb : (y != 0) = true := by simp [hz]
        go_wp2
        go_ret
        exact ⟨by unfold orI; rw [if_pos Hx.out]; rfl, rfl⟩
    · have Hy : Hid (x = 0 ∧ y = 0) := hy rfl
      clear hx hy hk
      go_wp2
      go_ret
      exact ⟨by unfold orI; rw [if_pos Hy.out.1, Hy.out.2]; rfl, rfl⟩

theorem bytesLess_eq_len : ∀ (a b : List UInt8), a.length = b.length → (Op.bytesLess a b = decide (vB a < vB b)) := by
  intro a
  induction a with
  | nil => intro b hb; cases b with
    | nil => simp [Op.bytesLess, vB]
    | cons c b => simp at hb
  | cons x a ih =>
    intro b hb
    cases b with
    | nil => simp at hb
    | cons y b =>
      have hl : a.length = b.length := by simpa using hb
      have h1 := vB_lt a
      have h2 := vB_lt b
      rw [hl] at h1
      rw [vB_cons, vB_cons, hl]
      have hp : 0 < 256 ^ b.length := Nat.pow_pos (by omega)
      simp only [Op.bytesLess]
      by_cases e1 : x < y
      · have e2 : x.toNat < y.toNat := e1
        have e3 : (x.toNat + 1) * 256 ^ b.length ≤ y.toNat * 256 ^ b.length := Nat.mul_le_mul_right _ e2
        rw [Nat.add_mul] at e3
        have : x.toNat * 256 ^ b.length + vB a < y.toNat * 256 ^ b.length + vB b := by omega
        simp [e1, this]
      · by_cases e2 : y < x
        · have e4 : y.toNat < x.toNat := e2
          have e3 : (y.toNat + 1) * 256 ^ b.length ≤ x.toNat * 256 ^ b.length := Nat.mul_le_mul_right _ e4
          rw [Nat.add_mul] at e3
          have : ¬ x.toNat * 256 ^ b.length + vB a < y.toNat * 256 ^ b.length + vB b := by omega
          simp [e1, this]
          intro e5
          subst e5
          omega
        · have e5 : x = y := by
            apply UInt8.toNat_inj.1
            have a1 : ¬ x.toNat < y.toNat := e1
            have a2 : ¬ y.toNat < x.toNat := e2
            omega
          subst e5
          simp [ih b hl]

/-- The order of two integers. -/
def cmpZ (a b : Int) : Int := if a < b then -1 else if b < a then 1 else 0

/-- The order of canonical bytes of numbers from 0 on. -/
theorem cmp_mg (A B : Nat) : orI (Lib.compareInt (bytesOf A).length (bytesOf B).length) (cmpS (bytesOf A) (bytesOf B)) = cmpN A B := by
  have hA := head_trim (bytesOf A)
  rw [trim_bytes, vB_bytesOf] at hA
  have hB := head_trim (bytesOf B)
  rw [trim_bytes, vB_bytesOf] at hB
  have a1 := vB_lt (bytesOf A)
  have b1 := vB_lt (bytesOf B)
  rw [vB_bytesOf] at a1 b1
  unfold orI Lib.compareInt cmpN
  rcases Nat.lt_trichotomy (bytesOf A).length (bytesOf B).length with h | h | h
  · have h2 := vB_len hB (by omega)
    rw [vB_bytesOf] at h2
    have h3 : (256 : Nat) ^ (bytesOf A).length ≤ 256 ^ ((bytesOf B).length - 1) := Nat.pow_le_pow_right (by omega) (by omega)
    have h4 : A < B := by omega
    have h5 : ((bytesOf A).length : Int) < ((bytesOf B).length : Int) := by omega
    simp [h4, h5]
  · have h5 : ¬ ((bytesOf A).length : Int) < ((bytesOf B).length : Int) := by omega
    have h6 : ¬ ((bytesOf B).length : Int) < ((bytesOf A).length : Int) := by omega
    have e := bytesLess_eq_len (bytesOf A) (bytesOf B) h
    rw [vB_bytesOf, vB_bytesOf] at e
    have e2 : bytesOf A = bytesOf B ↔ A = B := ⟨fun h => by rw [← vB_bytesOf A, h, vB_bytesOf], fun h => by rw [h]⟩
    simp only [h5, h6, if_false, if_true, cmpS, e, decide_eq_true_eq, e2]
    by_cases h7 : A < B
    · simp [h7]
    · by_cases h8 : A = B
      · simp [h8]
      · have h9 : B < A := by omega
        simp [h7, h8, h9]
  · have h2 := vB_len hA (by omega)
    rw [vB_bytesOf] at h2
    have h3 : (256 : Nat) ^ (bytesOf B).length ≤ 256 ^ ((bytesOf A).length - 1) := Nat.pow_le_pow_right (by omega) (by omega)
    have h4 : ¬ A < B := by omega
    have h4' : B < A := by omega
    have h5 : ¬ ((bytesOf A).length : Int) < ((bytesOf B).length : Int) := by omega
    have h6 : ((bytesOf B).length : Int) < ((bytesOf A).length : Int) := by omega
    simp [h4, h4', h5, h6]

/-- Two variables of the type api.Int. -/
def TwoInts (w : World) (g1 g2 : Nat) (z1 z2 : Int) : Prop :=
  w.cell? ⟨g1, 0, none⟩ = some (.bool (sg z1)) ∧ w.cell? ⟨g1, 1, none⟩ = some (.string (mg z1)) ∧ w.cell? ⟨g2, 0, none⟩ = some (.bool (sg z2)) ∧ w.cell? ⟨g2, 1, none⟩ = some (.string (mg z2))

theorem set_same {W : World} {p : Addr} {u x : Value} (h : W.cell? p = some u) : (W.setCell p x).cell? p = some x := World.cell?_setCell_same' _ _ _ (by rw [h]; rfl)
theorem set_other {W : World} {p q : Addr} {u x : Value} (h : W.cell? q = some u) (hne : p ≠ q) : (W.setCell p x).cell? q = some u := by rw [World.cell?_setCell_other _ _ _ _ (fun e => hne (by first | exact e | exact e.symm))]; exact h
theorem two_set {W : World} {g1 g2 : Nat} {z1 z2 : Int} {u1 u2 u3 u4 : Value} (hne : g1 ≠ g2) (h1 : W.cell? ⟨g1, 0, none⟩ = some u1) (h2 : W.cell? ⟨g1, 1, none⟩ = some u2) (h3 : W.cell? ⟨g2, 0, none⟩ = some u3) (h4 : W.cell? ⟨g2, 1, none⟩ = some u4) :
    TwoInts ((((W.setCell ⟨g1, 0, none⟩ (.bool (sg z1))).setCell ⟨g1, 1, none⟩ (.string (mg z1))).setCell ⟨g2, 0, none⟩ (.bool (sg z2))).setCell ⟨g2, 1, none⟩ (.string (mg z2))) g1 g2 z1 z2 := by
  have n1 : (⟨g1, 0, none⟩ : Addr) ≠ ⟨g1, 1, none⟩ := by simp
  have n2 : (⟨g2, 0, none⟩ : Addr) ≠ ⟨g2, 1, none⟩ := by simp
  have n3 : ∀ i j, (⟨g1, i, none⟩ : Addr) ≠ ⟨g2, j, none⟩ := fun i j e => hne (by injection e)
  have n4 : ∀ i j, (⟨g2, i, none⟩ : Addr) ≠ ⟨g1, j, none⟩ := fun i j e => hne (by injection e with e1; exact e1.symm)
  refine ⟨set_other (set_other (set_other (set_same h1) n1.symm) (n4 _ _)) (n4 _ _), set_other (set_other (set_same (set_other h2 n1)) (n4 _ _)) (n4 _ _), set_other (set_same (set_other (set_other h3 (n3 _ _)) (n3 _ _))) n2.symm, set_same (set_other (set_other (set_other h4 (n3 _ _)) (n3 _ _)) n2)⟩
theorem cmp_abs (z1 z2 : Int) : orI (Lib.compareInt ((mg z1).size : Int) ((mg z2).size : Int)) (cmpS (mg z1).toList (mg z2).toList) = cmpN z1.natAbs z2.natAbs := by
  have h := cmp_mg z1.natAbs z2.natAbs
  unfold mg
  rw [ByteArray.toList_mk, ByteArray.toList_mk]
  exact h
theorem cmpZ_sign {z1 z2 : Int} (h : sg z1 ≠ sg z2) : cmpZ z1 z2 = if sg z1 = true then -1 else 1 := by
  unfold sg at *
  unfold cmpZ
  by_cases a : z1 < 0 <;> by_cases b : z2 < 0 <;> simp [a, b] at h ⊢ <;> omega
theorem cmpZ_neg {z1 z2 : Int} (h1 : z1 < 0) (h2 : z2 < 0) : cmpZ z1 z2 = - cmpN z1.natAbs z2.natAbs := by
  unfold cmpZ cmpN
  rcases Int.lt_trichotomy z1 z2 with h | h | h
  · rw [if_pos h, if_neg (by omega), if_pos (by omega)]
  · subst h; simp
  · rw [if_neg (by omega), if_pos h, if_pos (by omega)]; rfl
theorem cmpZ_pos {z1 z2 : Int} (h1 : ¬ z1 < 0) (h2 : ¬ z2 < 0) : cmpZ z1 z2 = cmpN z1.natAbs z2.natAbs := by
  unfold cmpZ cmpN
  rcases Int.lt_trichotomy z1 z2 with h | h | h
  · rw [if_pos h, if_pos (by omega)]
  · subst h; simp
  · rw [if_neg (by omega), if_pos h, if_neg (by omega), if_pos (by omega)]
theorem cmpN_abs (a b : Nat) : -1 ≤ cmpN a b ∧ cmpN a b ≤ 1 := by unfold cmpN; split <;> (try split) <;> omega

end Go.Proofs.YtgcogpfmhmmgdaaGreatDoor
