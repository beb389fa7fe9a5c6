/- What integer.divide returns, for numbers of any size: long division, digit by digit. Condition: the divisor is not 0. -/
import Derived.Test.YtgcogpfmhmmgdaaGreatDoorQ01
import Derived.Test.YtgcogpfmhmmgdaaGreatDoorQ07
import Derived.Test.YtgcogpfmhmmgdaaGreatDoorQ04
import Derived.Lib.Hide
import Derived.Test.YtgcogpfmhmmgdaaGreatDoorQ02
import Derived.Deep.QuietTactic
import Derived.BigQuiet
import Derived.IntWalk
import Derived.Test.YtgcogpfmhmmgdaaGreatDoorQ09
import Derived.Laws.CopyOwn
import Derived.Deep.DeepMust

namespace Go.Proofs.YtgcogpfmhmmgdaaGreatDoor
open Go.RowKit

/-! Plain facts on the estimate of a quotient's digit in long division. No condition. -/
theorem kn_lt {U V B : Nat} (h : U < V * B) : U / V < B := by
  rcases Nat.eq_zero_or_pos V with h0 | h0
  · subst h0; omega
  · exact Nat.div_lt_of_lt_mul h
/-- The quotient's digit times the divisor's first two digits is at most the first three digits. -/
theorem kn_two {U V P U3 V2 ul vl : Nat} (hU : U = U3 * P + ul) (hul : ul < P) (hV : V = V2 * P + vl) : (U / V) * V2 ≤ U3 := by
  have h1 : (U / V) * V ≤ U := Nat.div_mul_le_self U V
  have h2 : (U / V) * V2 * P ≤ (U / V) * V := by
    rw [Nat.mul_assoc]; exact Nat.mul_le_mul_left _ (by omega)
  have h3 : U < (U3 + 1) * P := by rw [Nat.add_mul, Nat.one_mul]; omega
  have h4 : (U / V) * V2 * P < (U3 + 1) * P := by omega
  have h5 := Nat.lt_of_mul_lt_mul_right h4
  omega
theorem kn_one {q U3 V2 B top u2 v1 v2 : Nat} (h : q * V2 ≤ U3) (hU : U3 = top * B + u2) (hu : u2 < B) (hV : V2 = v1 * B + v2) : q * v1 ≤ top := by
  have h2 : q * v1 * B ≤ q * V2 := by rw [Nat.mul_assoc]; exact Nat.mul_le_mul_left _ (by omega)
  have h3 : U3 < (top + 1) * B := by rw [Nat.add_mul, Nat.one_mul]; omega
  have h4 : q * v1 * B < (top + 1) * B := by omega
  have h5 := Nat.lt_of_mul_lt_mul_right h4
  omega
theorem kn_top {U V P U3 V2 ul vl B top u2 v1 v2 : Nat} (h : U < V * B) (hU : U = U3 * P + ul) (hV : V = V2 * P + vl) (hvl : vl < P) (hU3 : U3 = top * B + u2) (hV2 : V2 = v1 * B + v2) (hv : v2 < B) : top < (v1 + 1) * B := by
  have h1 : V2 + 1 ≤ (v1 + 1) * B := by rw [Nat.add_mul, Nat.one_mul]; omega
  have h2 : V ≤ (V2 + 1) * P := by rw [Nat.add_mul, Nat.one_mul]; omega
  have h3 : V * B ≤ (v1 + 1) * B * P * B := Nat.mul_le_mul_right _ (Nat.le_trans h2 (Nat.mul_le_mul_right _ h1))
  have h4 : top * B * P ≤ U := by
    have : top * B * P ≤ U3 * P := Nat.mul_le_mul_right _ (by omega)
    omega
  have h5 : top * B * P < (v1 + 1) * B * P * B := by omega
  have h6 : (v1 + 1) * B * P * B = (v1 + 1) * B * (B * P) := by rw [Nat.mul_assoc ((v1 + 1) * B), Nat.mul_comm P B]
  rw [h6, Nat.mul_assoc] at h5
  exact Nat.lt_of_mul_lt_mul_right h5
/-- The estimate is at most one too great. -/
theorem kn_over {U V P U3 V2 ul vl B q : Nat} (h : U < V * B) (hU : U = U3 * P + ul) (hV : V = V2 * P + vl) (hvl : vl < P) (hq : q * V2 ≤ U3) (hB : B ≤ V2) : q ≤ U / V + 1 := by
  have hd := kn_lt h
  generalize hdd : U / V = d at *
  rcases Nat.lt_or_ge (d + 1) q with h1 | h1
  · exfalso
    have hV0 : 0 < V := by
      rcases Nat.eq_zero_or_pos V with h0 | h0
      · subst h0; omega
      · exact h0
    have h2 : U < (d + 1) * V := by rw [← hdd, Nat.mul_comm]; exact Nat.lt_mul_div_succ U hV0
    have h3 : (d + 1) * V ≤ (d + 1) * ((V2 + 1) * P) := Nat.mul_le_mul_left _ (by rw [Nat.add_mul, Nat.one_mul]; omega)
    have h4 : (d + 2) * V2 * P ≤ U3 * P := Nat.mul_le_mul_right _ (Nat.le_trans (Nat.mul_le_mul_right _ (by omega)) hq)
    have h5 : (d + 2) * V2 * P < (d + 1) * (V2 + 1) * P := by rw [Nat.mul_assoc (d + 1)]; omega
    have h6 := Nat.lt_of_mul_lt_mul_right h5
    have e1 : (d + 2) * V2 = d * V2 + 2 * V2 := Nat.add_mul _ _ _
    have e2 : (d + 1) * (V2 + 1) = d * V2 + d + V2 + 1 := by rw [Nat.add_mul, Nat.mul_add]; omega
    omega
  · exact h1
/-- The loop's end. -/
theorem kn_end {q v1 rest top B u2 v2 : Nat} (hq : q * v1 + rest = top) (hr : B ≤ rest) (ht : top < (v1 + 1) * B) (hv2 : v2 < B) : q < B ∧ q * (v1 * B + v2) ≤ top * B + u2 := by
  have h1 : q * v1 < v1 * B := by rw [Nat.add_mul, Nat.one_mul] at ht; omega
  have h2 : q < B := by
    rw [Nat.mul_comm] at h1
    exact Nat.lt_of_mul_lt_mul_left h1
  refine ⟨h2, ?_⟩
  have h3 : q * v2 ≤ B * B := Nat.mul_le_mul (by omega) (by omega)
  have h4 : B * B ≤ rest * B := Nat.mul_le_mul_right _ hr
  have h5 : top * B = q * v1 * B + rest * B := by rw [← hq, Nat.add_mul]
  have h6 : q * (v1 * B + v2) = q * v1 * B + q * v2 := by rw [Nat.mul_add, Nat.mul_assoc]
  omega
/-- One less. -/
theorem kn_less {q v1 rest top : Nat} (hq : q * v1 + rest = top) (h1 : 1 ≤ q) : (q - 1) * v1 + (rest + v1) = top := by
  obtain ⟨p, rfl⟩ : ∃ p, q = p + 1 := ⟨q - 1, by omega⟩
  rw [Nat.add_mul, Nat.one_mul] at hq
  simp only [Nat.add_sub_cancel]
  omega
theorem kn_fit {q v1 rest top B v2 u2 : Nat} (hq : q * v1 + rest = top) : (q * v2 ≤ rest * B + u2) ↔ q * (v1 * B + v2) ≤ top * B + u2 := by
  have h5 : top * B = q * v1 * B + rest * B := by rw [← hq, Nat.add_mul]
  have h6 : q * (v1 * B + v2) = q * v1 * B + q * v2 := by rw [Nat.mul_add, Nat.mul_assoc]
  omega

/-! Plain facts on taking a multiple of a number from the digits of another one, and on putting it back. No condition. -/
/-- The digits from the place i on. -/
def dro (i : Nat) (f : Nat → Nat) : Nat → Nat := fun j => f (i + j)
theorem val_split (f : Nat → Nat) (i n : Nat) : val f (i + n) = val f i + val (dro i f) n * 4294967296 ^ i := by
  induction n with
  | zero => simp [val]
  | succ n ih =>
    rw [← Nat.add_assoc, val, ih, val, Nat.add_mul, Nat.pow_add]
    have : dro i f n * 4294967296 ^ n * 4294967296 ^ i = f (i + n) * (4294967296 ^ i * 4294967296 ^ n) := by
      show f (i + n) * 4294967296 ^ n * 4294967296 ^ i = _
      rw [Nat.mul_assoc, Nat.mul_comm (4294967296 ^ n)]
    omega
theorem val_zend {f : Nat → Nat} {m n : Nat} (hm : m ≤ n) (h : ∀ j, m ≤ j → j < n → f j = 0) : val f n = val f m := by
  induction n with
  | zero => obtain rfl : m = 0 := by omega
            rfl
  | succ n ih =>
    by_cases e : m = n + 1
    · subst e; rfl
    · rw [val, ih (by omega) (fun j h1 h2 => h j h1 (by omega)), h n (by omega) (by omega)]; simp
theorem val_small_zero {f : Nat → Nat} {m n : Nat} (hm : m ≤ n) (h : val f n < 4294967296 ^ m) : ∀ j, m ≤ j → j < n → f j = 0 := by
  induction n with
  | zero => intro j _ h2; omega
  | succ n ih =>
    intro j h1 h2
    rw [val] at h
    by_cases e : m = n + 1
    · omega
    · have hz : f n = 0 := by
        rcases Nat.eq_zero_or_pos (f n) with h0 | h0
        · exact h0
        · exfalso
          have h3 : 1 * 4294967296 ^ n ≤ f n * 4294967296 ^ n := Nat.mul_le_mul_right _ h0
          have h4 : (4294967296 : Nat) ^ m ≤ 4294967296 ^ n := Nat.pow_le_pow_right (by omega) (by omega)
          omega
      by_cases e2 : j = n
      · subst e2; exact hz
      · exact ih (by omega) (by rw [hz] at h; omega) j h1 (by omega)

/-- A step of taking a multiple away. -/
theorem tk_step {P v0 q y0 p0 c b t b' new y p : Nat} (h : v0 + q * y0 = p0 + (c + b) * P) (ht : t = c + q * y) (hx : new + t % 4294967296 + b = p + b' * 4294967296) :
    (v0 + new * P) + q * (y0 + y * P) = (p0 + p * P) + (t / 4294967296 + b') * (P * 4294967296) := by
  have h1 : t = t / 4294967296 * 4294967296 + t % 4294967296 := by omega
  generalize hh : t / 4294967296 = hi at *
  generalize hl : t % 4294967296 = lo at *
  have e1 : q * (y0 + y * P) = q * y0 + q * y * P := by rw [Nat.mul_add, Nat.mul_assoc]
  have e2 : (hi + b') * (P * 4294967296) = hi * 4294967296 * P + b' * 4294967296 * P := by rw [Nat.add_mul, Nat.mul_comm P, Nat.mul_assoc, Nat.mul_assoc]
  have e3 : (c + b) * P = c * P + b * P := Nat.add_mul _ _ _
  have e4 : new * P + lo * P + b * P = p * P + b' * 4294967296 * P := by rw [← Nat.add_mul, ← Nat.add_mul, ← Nat.add_mul, hx]
  have e5 : hi * 4294967296 * P + lo * P = c * P + q * y * P := by rw [← Nat.add_mul, ← Nat.add_mul, ← h1, ht]
  omega
theorem tk_carry {q y c : Nat} (hq : q < 4294967296) (hy : y < 4294967296) (hc : c < 4294967296) : c + q * y < 18446744073709551616 ∧ (c + q * y) / 4294967296 < 4294967296 := by
  have : q * y ≤ 4294967295 * 4294967295 := Nat.mul_le_mul (by omega) (by omega)
  omega
/-- A step of putting back. -/
theorem pt_step {P v0 y0 p0 c c' new y p : Nat} (h : v0 + c * P = p0 + y0) (hx : new + c' * 4294967296 = p + y + c) :
    (v0 + new * P) + c' * (P * 4294967296) = (p0 + p * P) + (y0 + y * P) := by
  have e2 : c' * (P * 4294967296) = c' * 4294967296 * P := by rw [Nat.mul_comm P, Nat.mul_assoc]
  have e4 : new * P + c' * 4294967296 * P = p * P + y * P + c * P := by rw [← Nat.add_mul, ← Nat.add_mul, ← Nat.add_mul, hx]
  omega
/-- What is left when nothing was borrowed. -/
theorem tk_good {U V q r : Nat} (h : r + q * V = U) (hq : U / V ≤ q) (hV : 0 < V) : q = U / V ∧ r = U % V := by
  have h1 : U / V = q ∨ q < U / V ∨ U / V < q := by omega
  have hd := Nat.div_add_mod U V
  have hm := Nat.mod_lt U hV
  have e : q = U / V := by
    rcases Nat.lt_or_ge (U / V) q with h2 | h2
    · exfalso
      have h3 : (U / V + 1) * V ≤ q * V := Nat.mul_le_mul_right _ h2
      rw [Nat.add_mul, Nat.one_mul, Nat.mul_comm] at h3
      omega
    · omega
  refine ⟨e, ?_⟩
  subst e
  rw [Nat.mul_comm] at h
  omega
/-- What is left when something was borrowed, and put back. -/
theorem tk_bad {U V q r r2 e W : Nat} (h : r + q * V = U + W) (hq : q ≤ U / V + 1) (hr : r < W) (hV : 0 < V) (hp : r2 + e * W = r + V) (he : e ≤ 1) (h2 : r2 < W) : q = U / V + 1 ∧ r2 = U % V := by
  have hd := Nat.div_add_mod U V
  have hm := Nat.mod_lt U hV
  have e1 : q = U / V + 1 := by
    rcases Nat.lt_or_ge q (U / V + 1) with h3 | h3
    · exfalso
      have h4 : q * V ≤ U / V * V := Nat.mul_le_mul_right _ (by omega)
      rw [Nat.mul_comm (U / V)] at h4
      omega
    · omega
  refine ⟨e1, ?_⟩
  subst e1
  rw [Nat.add_mul, Nat.one_mul, Nat.mul_comm] at h
  have : e = 1 := by
    rcases Nat.eq_zero_or_pos e with h0 | h0
    · subst h0; omega
    · omega
  subst this
  omega

/-! What takeMultiple and putBack do to the digits of a part of a row. Conditions: the part has one digit more than the other number, which lies elsewhere. -/
/-- Only the block b has turned, and no block has come. -/
def Only (b : Nat) (w w' : World) : Prop := w.grownBy w' (some b) ∧ w'.heap.size = w.heap.size
theorem Only.refl (b : Nat) (w : World) : Only b w w := ⟨⟨rfl, rfl, rfl, Nat.le_refl _, fun _ _ _ => rfl⟩, rfl⟩
theorem Only.set {b : Nat} {w w' : World} (h : Only b w w') (o : Nat) (u : Value) : Only b w (w'.setCell ⟨b, o, none⟩ u) := by
  obtain ⟨⟨h1, h2, h3, h4, h5⟩, h6⟩ := h
  refine ⟨⟨h1, h2, h3, by simpa [World.setCell] using h4, fun k hk hne => ?_⟩, by simpa [World.setCell] using h6⟩
  rw [Below.heap_setCell _ _ _ _ (by intro e; exact hne (by rw [e]))]
  exact h5 k hk hne
theorem Only.trans {b : Nat} {w w1 w2 : World} (h : Only b w w1) (k : Only b w1 w2) : Only b w w2 :=
  ⟨⟨k.1.os.trans h.1.os, k.1.tape.trans h.1.tape, k.1.output.trans h.1.output, by rw [k.2, h.2]; exact Nat.le_refl _, fun i hi hne => (k.1.block i (by rw [h.2]; exact hi) hne).trans (h.1.block i hi hne)⟩, k.2.trans h.2⟩
theorem Only.cell {b : Nat} {w w' : World} (h : Only b w w') {p : Addr} {v : Value} (hc : w.cell? p = some v) (hp : p.block ≠ b) : w'.cell? p = some v :=
  (World.cell?_of_block (w := w) (h.1.block p.block (World.block_lt_of_cell? _ _ hc) (fun e => hp (by injection e)))).trans hc
theorem Only.below {B b : Nat} {w0 w w' : World} (hb : Below B w0 w) (h : Only b w w') (hB : B ≤ b) (hs : B ≤ w.heap.size) : Below B w0 w' :=
  hb.trans ⟨h.1.os, h.1.tape, h.1.output, h.1.size, fun k hk => h.1.block k (by omega) (fun e => by injection e; omega)⟩
/-- Digits that lie in another block than b. -/
def RdO (w : World) (b : Nat) (A : Option Addr) (n : Nat) (f : Nat → Nat) : Prop :=
  ∃ b' off : Nat, b' ≠ b ∧ (0 < n → A = some ⟨b', off, none⟩) ∧ ∀ i, i < n → w.cell? ⟨b', off + i, none⟩ = some (.int .u32 (f i : Int))
theorem RdO.only {w w' : World} {b n : Nat} {A : Option Addr} {f : Nat → Nat} (h : RdO w b A n f) (ho : Only b w w') : RdO w' b A n f := by
  obtain ⟨b', off, hne, hA, hc⟩ := h
  exact ⟨b', off, hne, hA, fun i hi => ho.cell (hc i hi) hne⟩
theorem upd_ne (s : Nat → Nat) {k j : Nat} (v : Nat) (h : j ≠ k) : upd s k v j = s j := by simp [upd, h]
theorem dro_upd (i k v : Nat) (p : Nat → Nat) : dro i (upd p (i + k) v) = upd (dro i p) k v := by
  funext j
  unfold dro upd
  by_cases e : j = k
  · subst e; simp
  · rw [if_neg (by omega), if_neg e]
theorem digU {p : Nat → Nat} {n i v : Nat} (h : Dig p n) (hv : v < 4294967296) : Dig (upd p i v) n := fun j hj => by
  unfold upd
  split
  · exact hv
  · exact h j hj

/-- What is left of a part behind takeMultiple: bb tells whether it was too much. -/
def TakeOut (w : World) (b i m L q : Nat) (p g : Nat → Nat) (e : Ending) (w' : World) : Prop :=
  ∃ (bb : Bool) (p' : Nat → Nat), e = .returned (.bool bb) ∧ Only b w w' ∧ w'.rowIs b 93 L (dall p') ∧ Dig p' L ∧ (∀ j, j < i ∨ i + m < j → p' j = p j) ∧
    val (dro i p') (m + 1) + q * val g m = val (dro i p) (m + 1) + (if bb then 1 else 0) * 4294967296 ^ (m + 1)

set_option maxRecDepth 100000 in
set_option maxHeartbeats 3200000 in
theorem take_any (b i m L q cp d : Nat) (B : Option Addr) (p g : Nat → Nat) (w : World) (hrow : w.rowIs b 93 L (dall p)) (dp : Dig p L) (hL : i + m + 1 ≤ L) (hL2 : L ≤ 100000000000) (hy : RdO w b B m g) (dg : Dig g m) (hq : q < 4294967296) :
    Calls Tryz.prog 149 #[.slice (some ⟨b, i, none⟩) (m + 1) cp, .slice B m d, .int .u32 (q : Int)] w (TakeOut w b i m L q p g) := by
  have Hy := Lib.hid hy
  have Hdg := Lib.hid dg
  have Hdp := Lib.hid dp
  have Hrow := Lib.hid hrow
  clear hy dg dp hrow
  go_enter Tryz.func149, Tryz.ntmps149
  go_wp2_with fail
  go_loopg [7, 8, 13] m (fun q2 s7 s8 s13 wx => ∃ (k c bo : Nat) (p' : Nat → Nat), k + q2 = m ∧ s7 = .int .u64 (c : Int) ∧ s8 = .int .u32 (bo : Int) ∧ s13 = .int .i64 (k : Int) ∧ c < 4294967296 ∧ bo ≤ 1 ∧ Dig p' L ∧ (∀ j, j < i ∨ i + k ≤ j → p' j = p j) ∧ val (dro i p') k + q * val g k = val (dro i p) k + (c + bo) * 4294967296 ^ k ∧ Only b w wx ∧ wx.rowIs b 93 L (dall p'))
  case atStart => exact ⟨0, 0, 0, p, by omega, rfl, rfl, rfl, by omega, by omega, Hdp.out, fun _ _ => rfl, by simp [val], Only.refl _ _, Hrow.out⟩
  case round =>
    obtain ⟨k, c, bo, p1, hk, rfl, rfl, rfl, hc, hbo, dp1, hsame, hval, ho, hrow⟩ := hrel
    have Hval := Lib.hid hval
    have Hsame := Lib.hid hsame
    have Hdp1 := Lib.hid dp1
    have Hk := Lib.hid hk
    have Ho := Lib.hid ho
    have hxk : i + k < L := by omega
    have hx : wr.cell? ⟨b, i + k, none⟩ = some (.int .u32 (p1 (i + k) : Int)) := hrow.cell hxk
    have hf := hrow.frozen (i + k)
    have dx := dp1 (i + k) hxk
    have Hrow1 := Lib.hid hrow
    clear hval hsame dp1 ho hrow
    rcases gk with _ | q2
    · obtain rfl : k = m := by omega
      clear hk
      go_wp2_with fail
      refine (sub32_any (p1 (i + k)) c bo _ dx hc hbo).mono ?_
      rintro e w' ⟨rfl, rfl⟩
      obtain ⟨e1, e2⟩ := bor_eq (p1 (i + k)) c bo dx hc hbo
      have hbl := bor_le (p1 (i + k)) c bo
      have Hd : Hid (∀ z : Nat, z = bor (p1 (i + k)) c bo → (if decide (0 < z) = true then 1 else 0) = z) := by
        intro z hz
        by_cases h0 : z = 0
        · subst h0; simp
        · rw [if_pos (by simp; omega)]; omega
      have E1 := Lib.hid e1
      have E2 := Lib.hid e2
      clear e1 e2
      generalize hv : p1 (i + k) + 4294967296 * bor (p1 (i + k)) c bo - c - bo = v at *
      generalize hz : bor (p1 (i + k)) c bo = z at *
      clear hv hz
      go_wp2
      go_ret
      refine ⟨_, upd p1 (i + k) v, rfl, (Ho.out).set _ _, dall_set Hrow1.out (i + k) rfl, digU Hdp1.out E2.out, fun j hj => ?_, ?_⟩
      · rw [upd_ne _ _ (by omega)]; exact Hsame.out j (by omega)
      · have hs := tk_step (y := 0) Hval.out (show c = c + q * 0 by omega) (show v + c % 4294967296 + bo = p1 (i + k) + z * 4294967296 by rw [Nat.mod_eq_of_lt hc, Nat.mul_comm z]; have := E1.out; omega)
        rw [Nat.div_eq_of_lt hc, Nat.zero_add, Nat.zero_mul, Nat.add_zero] at hs
        rw [dro_upd, val_upd, val, Nat.pow_succ, Hd.out z rfl, show dro i p k = p1 (i + k) from (Hsame.out (i + k) (by omega)).symm]
        exact hs
    · obtain ⟨b', off, hne, hBe, hcell'⟩ := (Hy.out).only Ho.out
      obtain rfl := hBe (by omega)
      have hgk := hcell' k (by omega)
      have dgk := Hdg.out k (by omega)
      have hkm : k < m := by omega
      obtain ⟨t1, t2⟩ := tk_carry hq dgk hc
      have hp0 : 0 ≤ (q : Int) * (g k : Int) := by rw [← Int.natCast_mul]; omega
      have hp1 : (q : Int) * (g k : Int) ≤ 18446744065119617025 := by
        have : q * g k ≤ 4294967295 * 4294967295 := Nat.mul_le_mul (by omega) (by omega)
        rw [← Int.natCast_mul]; omega
      clear hcell' hBe hne hk
      go_wp2_with fail
      have a1 : ((c : Int) + (q : Int) * (g k : Int)) % 4294967296 = (((c + q * g k) % 4294967296 : Nat) : Int) := by rw [Int.natCast_emod, Int.natCast_add, Int.natCast_mul]; rfl
      have a2 : ((c : Int) + (q : Int) * (g k : Int)) / 4294967296 = (((c + q * g k) / 4294967296 : Nat) : Int) := by rw [Int.natCast_ediv, Int.natCast_add, Int.natCast_mul]; rfl
      have hmod := Nat.mod_lt (c + q * g k) (show 0 < 4294967296 by omega)
      rw [a1]
      refine (sub32_any (p1 (i + k)) ((c + q * g k) % 4294967296) bo _ dx hmod hbo).mono ?_
      rintro e w' ⟨rfl, rfl⟩
      obtain ⟨e1, e2⟩ := bor_eq (p1 (i + k)) ((c + q * g k) % 4294967296) bo dx hmod hbo
      have hbl := bor_le (p1 (i + k)) ((c + q * g k) % 4294967296) bo
      have E1 := Lib.hid e1
      have E2 := Lib.hid e2
      have A2 := Lib.hid a2
      clear e1 e2 a1 a2 hmod
      generalize hv : p1 (i + k) + 4294967296 * bor (p1 (i + k)) ((c + q * g k) % 4294967296) bo - (c + q * g k) % 4294967296 - bo = v at *
      generalize hz : bor (p1 (i + k)) ((c + q * g k) % 4294967296) bo = z at *
      clear hv hz
      go_wp2
      have hs := tk_step Hval.out (t := c + q * g k) rfl (show v + (c + q * g k) % 4294967296 + bo = p1 (i + k) + z * 4294967296 by rw [Nat.mul_comm z]; have := E1.out; omega)
      go_roundg q2
      case measure => omega
      case rel =>
        refine ⟨k + 1, (c + q * g k) / 4294967296, z, upd p1 (i + k) v, by have := Hk.out; omega, by rw [A2.out], rfl, by go_num, t2, hbl, digU Hdp1.out E2.out, fun j hj => ?_, ?_, (Ho.out).set _ _, dall_set Hrow1.out (i + k) rfl⟩
        · rw [upd_ne _ _ (by omega)]; exact Hsame.out j (by omega)
        · rw [dro_upd, val_upd, val, val, Nat.pow_succ, show dro i p k = p1 (i + k) from (Hsame.out (i + k) (by omega)).symm]
          exact hs

/-! What putBack does to the digits of a part of a row. Conditions: the part has one digit more than the other number, which lies elsewhere. -/
theorem add32_any (x y b : Nat) (w : World) (hx : x < 4294967296) (hy : y < 4294967296) (hb : b ≤ 1) :
    Calls Tryz.prog 159 #[.int .u32 (x : Int), .int .u32 (y : Int), .int .u32 (b : Int)] w fun e w' =>
      e = .returned (.tuple #[.int .u32 (((x + y + b) % 4294967296 : Nat) : Int), .int .u32 (((x + y + b) / 4294967296 : Nat) : Int)]) ∧ w = w' := by
  go_enter Tryz.func159, Tryz.ntmps159
  go_wp2
  go_ret2
  refine ⟨?_, rfl⟩
  congr 3

def PutOut (w : World) (b i m L : Nat) (p g : Nat → Nat) (e : Ending) (w' : World) : Prop :=
  ∃ (p' : Nat → Nat) (c : Nat), e = .returned (.tuple #[]) ∧ Only b w w' ∧ w'.rowIs b 93 L (dall p') ∧ Dig p' L ∧ (∀ j, j < i ∨ i + m < j → p' j = p j) ∧ c ≤ 1 ∧
    val (dro i p') (m + 1) + c * 4294967296 ^ (m + 1) = val (dro i p) (m + 1) + val g m

set_option maxRecDepth 100000 in
set_option maxHeartbeats 3200000 in
theorem put_any (b i m L cp d : Nat) (B : Option Addr) (p g : Nat → Nat) (w : World) (hrow : w.rowIs b 93 L (dall p)) (dp : Dig p L) (hL : i + m + 1 ≤ L) (hL2 : L ≤ 100000000000) (hy : RdO w b B m g) (dg : Dig g m) :
    Calls Tryz.prog 150 #[.slice (some ⟨b, i, none⟩) (m + 1) cp, .slice B m d] w (PutOut w b i m L p g) := by
  have Hy := Lib.hid hy
  have Hdg := Lib.hid dg
  have Hdp := Lib.hid dp
  have Hrow := Lib.hid hrow
  clear hy dg dp hrow
  go_enter Tryz.func150, Tryz.ntmps150
  go_wp2_with fail
  go_loopg [4, 9] m (fun q2 s4 s9 wx => ∃ (k c : Nat) (p' : Nat → Nat), k + q2 = m ∧ s4 = .int .u32 (c : Int) ∧ s9 = .int .i64 (k : Int) ∧ c ≤ 1 ∧ Dig p' L ∧ (∀ j, j < i ∨ i + k ≤ j → p' j = p j) ∧ val (dro i p') k + c * 4294967296 ^ k = val (dro i p) k + val g k ∧ Only b w wx ∧ wx.rowIs b 93 L (dall p'))
  case atStart => exact ⟨0, 0, p, by omega, rfl, rfl, by omega, Hdp.out, fun _ _ => rfl, by simp [val], Only.refl _ _, Hrow.out⟩
  case round =>
    obtain ⟨k, c, p1, hk, rfl, rfl, hc, dp1, hsame, hval, ho, hrow⟩ := hrel
    have Hval := Lib.hid hval
    have Hsame := Lib.hid hsame
    have Hdp1 := Lib.hid dp1
    have Hk := Lib.hid hk
    have Ho := Lib.hid ho
    have hxk : i + k < L := by omega
    have hx : wr.cell? ⟨b, i + k, none⟩ = some (.int .u32 (p1 (i + k) : Int)) := hrow.cell hxk
    have hf := hrow.frozen (i + k)
    have dx := dp1 (i + k) hxk
    have Hrow1 := Lib.hid hrow
    clear hval hsame dp1 ho hrow
    rcases gk with _ | q2
    · obtain rfl : k = m := by omega
      clear hk
      go_wp2_with fail
      go_end0
      have hs := pt_step (y := 0) (y0 := val g k) Hval.out (show (p1 (i + k) + c) % 4294967296 + (p1 (i + k) + c) / 4294967296 * 4294967296 = p1 (i + k) + 0 + c by omega)
      refine ⟨upd p1 (i + k) ((p1 (i + k) + c) % 4294967296), (p1 (i + k) + c) / 4294967296, rfl, (Ho.out).set _ _, dall_set Hrow1.out (i + k) (by rw [Int.natCast_emod, Int.natCast_add]; rfl), digU Hdp1.out (Nat.mod_lt _ (by omega)), fun j hj => ?_, by omega, ?_⟩
      · rw [upd_ne _ _ (by omega)]; exact Hsame.out j (by omega)
      · rw [Nat.zero_mul, Nat.add_zero] at hs
        rw [dro_upd, val_upd, val, Nat.pow_succ, show dro i p k = p1 (i + k) from (Hsame.out (i + k) (by omega)).symm]
        exact hs
    · obtain ⟨b', off, hne, hBe, hcell'⟩ := (Hy.out).only Ho.out
      obtain rfl := hBe (by omega)
      have hgk := hcell' k (by omega)
      have dgk := Hdg.out k (by omega)
      have hkm : k < m := by omega
      clear hcell' hBe hne hk
      go_wp2_with fail
      refine (add32_any (p1 (i + k)) (g k) c _ dx dgk hc).mono ?_
      rintro e w' ⟨rfl, rfl⟩
      obtain ⟨t, ht⟩ : ∃ t, t = p1 (i + k) + g k + c := ⟨_, rfl⟩
      have Ht := Lib.hid ht
      rw [← ht]
      have hmod : t % 4294967296 < 4294967296 := Nat.mod_lt _ (by omega)
      have hdiv : t / 4294967296 ≤ 1 := by omega
      have E1 : Hid (t % 4294967296 + t / 4294967296 * 4294967296 = p1 (i + k) + g k + c) := by show _ = _; omega
      generalize t % 4294967296 = v at *
      generalize t / 4294967296 = z at *
      clear ht Ht
      go_wp2
      have hs := pt_step Hval.out E1.out
      go_roundg q2
      case measure => omega
      case rel =>
        refine ⟨k + 1, z, upd p1 (i + k) v, by have := Hk.out; omega, rfl, by go_num, hdiv, digU Hdp1.out hmod, fun j hj => ?_, ?_, (Ho.out).set _ _, dall_set Hrow1.out (i + k) rfl⟩
        · rw [upd_ne _ _ (by omega)]; exact Hsame.out j (by omega)
        · rw [dro_upd, val_upd, val, val, Nat.pow_succ, show dro i p k = p1 (i + k) from (Hsame.out (i + k) (by omega)).symm]
          exact hs

/-! What estimate returns: the quotient's digit, or the number behind it. Conditions: a part of a row with one digit more than the other number, whose first digit has its first bit set. -/
theorem val_top2 (f : Nat → Nat) {m : Nat} (h : 2 ≤ m) : val f m = (f (m - 1) * 4294967296 + f (m - 2)) * 4294967296 ^ (m - 2) + val f (m - 2) := by
  obtain ⟨M, rfl⟩ : ∃ M, m = M + 2 := ⟨m - 2, by omega⟩
  rw [val, val, show M + 2 - 1 = M + 1 by omega, show M + 2 - 2 = M by omega, Nat.pow_succ, Nat.add_mul, Nat.mul_assoc, Nat.mul_comm (4294967296 ^ M)]
  omega
theorem val_top3 (f : Nat → Nat) {m : Nat} (h : 2 ≤ m) : val f (m + 1) = ((f m * 4294967296 + f (m - 1)) * 4294967296 + f (m - 2)) * 4294967296 ^ (m - 2) + val f (m - 2) := by
  obtain ⟨M, rfl⟩ : ∃ M, m = M + 2 := ⟨m - 2, by omega⟩
  rw [val, val_top2 f h, show M + 2 - 1 = M + 1 by omega, show M + 2 - 2 = M by omega, Nat.pow_succ, Nat.pow_succ]
  have e : f (M + 2) * (4294967296 ^ M * 4294967296 * 4294967296) = f (M + 2) * 4294967296 * 4294967296 * 4294967296 ^ M := by
    rw [Nat.mul_assoc (4294967296 ^ M), Nat.mul_comm (4294967296 ^ M), ← Nat.mul_assoc, ← Nat.mul_assoc]
  rw [e]
  simp only [Nat.add_mul]
  omega

def EstOut (w : World) (U V : Nat) (e : Ending) (w' : World) : Prop := ∃ q n : Nat, e = .returned (.int .u32 (q : Int)) ∧ w' = w.drewN n ∧ q < 4294967296 ∧ U / V ≤ q ∧ q ≤ U / V + 1

set_option maxRecDepth 100000 in
set_option maxHeartbeats 3200000 in
theorem est_any (b i m L cp d b' off : Nat) (p g : Nat → Nat) (w : World) (hrow : w.rowIs b 93 L (dall p)) (dp : Dig p L) (hL : i + m + 1 ≤ L) (hL2 : L ≤ 100000000000) (hm : 2 ≤ m)
    (hcell' : ∀ j, j < m → w.cell? ⟨b', off + j, none⟩ = some (.int .u32 (g j : Int))) (dg : Dig g m) (htop : 2147483648 ≤ g (m - 1)) (hlt : val (dro i p) (m + 1) < val g m * 4294967296) :
    Calls Tryz.prog 148 #[.slice (some ⟨b, i, none⟩) (m + 1) cp, .slice (some ⟨b', off, none⟩) m d] w (EstOut w (val (dro i p) (m + 1)) (val g m)) := by
  have x0 : w.cell? ⟨b, i + m, none⟩ = some (.int .u32 (p (i + m) : Int)) := hrow.cell (by omega)
  have x1 : w.cell? ⟨b, i + (m - 1), none⟩ = some (.int .u32 (p (i + (m - 1)) : Int)) := hrow.cell (by omega)
  have x2 : w.cell? ⟨b, i + (m - 2), none⟩ = some (.int .u32 (p (i + (m - 2)) : Int)) := hrow.cell (by omega)
  have y1 := hcell' (m - 1) (by omega)
  have y2 := hcell' (m - 2) (by omega)
  have d0 := dp (i + m) (by omega)
  have d1 := dp (i + (m - 1)) (by omega)
  have d2 := dp (i + (m - 2)) (by omega)
  have e1 := dg (m - 1) (by omega)
  have e2 := dg (m - 2) (by omega)
  have Hlt := Lib.hid hlt
  have Hdg := Lib.hid dg
  have Hdp := Lib.hid dp
  obtain ⟨a0, A0⟩ : ∃ a, Hid (p (i + m) = a) := ⟨_, Lib.hid rfl⟩
  obtain ⟨a1, A1⟩ : ∃ a, Hid (p (i + (m - 1)) = a) := ⟨_, Lib.hid rfl⟩
  obtain ⟨a2, A2⟩ : ∃ a, Hid (p (i + (m - 2)) = a) := ⟨_, Lib.hid rfl⟩
  obtain ⟨v1, V1⟩ : ∃ a, Hid (g (m - 1) = a) := ⟨_, Lib.hid rfl⟩
  obtain ⟨v2, V2⟩ : ∃ a, Hid (g (m - 2) = a) := ⟨_, Lib.hid rfl⟩
  rw [A0.out] at x0 d0
  rw [A1.out] at x1 d1
  rw [A2.out] at x2 d2
  rw [V1.out] at y1 e1 htop
  rw [V2.out] at y2 e2
  clear hcell' dg dp hrow hlt
  have i1 : (0 : Int) ≤ (m : Int) - 1 := by omega
  have i2 : (m : Int) - 1 < (m : Int) := by omega
  have i3 : (0 : Int) ≤ (m : Int) - 2 := by omega
  have i4 : (m : Int) - 2 < (m : Int) := by omega
  have i5 : (m : Int) < ((m + 1 : Nat) : Int) := by omega
  have i6 : (m : Int) - 1 < ((m + 1 : Nat) : Int) := by omega
  have i7 : (m : Int) - 2 < ((m + 1 : Nat) : Int) := by omega
  have w1 : IntKind.i64.wrap ((m : Int) - 1) = (m : Int) - 1 := IntWalk.i64_in _ (by omega)
  have w2 : IntKind.i64.wrap ((m : Int) - 2) = (m : Int) - 2 := IntWalk.i64_in _ (by omega)
  have n1 : ((m : Int) - 1).toNat = m - 1 := by omega
  have n2 : ((m : Int) - 2).toNat = m - 2 := by omega
  go_enter Tryz.func148, Tryz.ntmps148
  go_wp2_with fail
  go_quiet (fail)
  have hor := u64_or_shl a0 a1 d0 d1
  have w3 : IntKind.u64.wrap ((a0 : Int) * 4294967296) = (a0 : Int) * 4294967296 := by simp [IntKind.wrap, IntKind.signed, IntKind.bits]; omega
  go_wp2_with fail
  go_quiet (fail)
  clear hor w1 w2 w3 n1 n2 x0 x1 y1 y2 i1 i2 i5 i6
  obtain ⟨T, HT⟩ : ∃ T, Hid (a0 * 4294967296 + a1 = T) := ⟨_, Lib.hid rfl⟩
  have eT : (a0 : Int) * 4294967296 + (a1 : Int) = (T : Int) := by rw [← HT.out]; omega
  rw [eT]
  have hT : T < 18446744073709551616 := by rw [← HT.out]; omega
  clear eT
  have HU : Hid (val (dro i p) (m + 1) = (T * 4294967296 + a2) * 4294967296 ^ (m - 2) + val (dro i p) (m - 2)) := by
    have := val_top3 (dro i p) hm
    rw [show dro i p m = a0 from A0.out, show dro i p (m - 1) = a1 from A1.out, show dro i p (m - 2) = a2 from A2.out, HT.out] at this
    exact this
  have HV : Hid (val g m = (v1 * 4294967296 + v2) * 4294967296 ^ (m - 2) + val g (m - 2)) := by
    have := val_top2 g hm
    rw [V1.out, V2.out] at this
    exact this
  have HUl : Hid (val (dro i p) (m - 2) < 4294967296 ^ (m - 2)) := val_lt (fun j hj => Hdp.out (i + j) (by omega))
  have HVl : Hid (val g (m - 2) < 4294967296 ^ (m - 2)) := val_lt (fun j hj => Hdg.out j (by omega))
  generalize val (dro i p) (m + 1) = U at *
  generalize val g m = V at *
  generalize val (dro i p) (m - 2) = ul at *
  generalize val g (m - 2) = vl at *
  obtain ⟨P, HP⟩ : ∃ P, Hid (4294967296 ^ (m - 2) = P) := ⟨_, Lib.hid rfl⟩
  rw [HP.out] at HU HV HUl HVl
  have k2 : Hid ((U / V) * (v1 * 4294967296 + v2) ≤ T * 4294967296 + a2) := kn_two HU.out HUl.out HV.out
  have k1 : Hid ((U / V) * v1 ≤ T) := kn_one k2.out rfl d2 rfl
  have k0 : Hid (U / V < 4294967296) := kn_lt Hlt.out
  have k3 : Hid (T < (v1 + 1) * 4294967296) := kn_top Hlt.out HU.out HV.out HVl.out rfl rfl e2
  have k4 : Hid (∀ q, q * (v1 * 4294967296 + v2) ≤ T * 4294967296 + a2 → q ≤ U / V + 1) := fun q hq => kn_over Hlt.out HU.out HV.out HVl.out hq (by omega)
  obtain ⟨D, HD⟩ : ∃ D, Hid (U / V = D) := ⟨_, Lib.hid rfl⟩
  rw [HD.out] at k0 k1 k2 k4
  have g1 : (T : Int).tdiv (v1 : Int) = ((T / v1 : Nat) : Int) := by rw [Int.tdiv_eq_ediv_of_nonneg (by omega)]; rfl
  have g2 : (T : Int).tmod (v1 : Int) = ((T % v1 : Nat) : Int) := by rw [Int.tmod_eq_emod_of_nonneg (by omega)]; rfl
  have h1 : T / v1 ≤ T := Nat.div_le_self _ _
  have h2 : T % v1 < v1 := Nat.mod_lt _ (by omega)
  have HE : Hid (T / v1 * v1 + T % v1 = T) := by show _ = _; rw [Nat.mul_comm]; exact Nat.div_add_mod _ _
  have HQ : Hid (D ≤ T / v1) := (Nat.le_div_iff_mul_le (by omega)).2 k1.out
  generalize T / v1 = q0 at *
  generalize T % v1 = r0 at *
  have w4 : IntKind.u64.wrap (q0 : Int) = (q0 : Int) := by simp [IntKind.wrap, IntKind.signed, IntKind.bits]; omega
  have w5 : IntKind.u64.wrap (r0 : Int) = (r0 : Int) := by simp [IntKind.wrap, IntKind.signed, IntKind.bits]; omega
  have g3 : ¬ (v1 : Int) = 0 := by omega
  go_wp2_with fail
  go_quiet (fail)
  clear w4 w5 g1 g2 g3
  have k0' := k0.out
  have hq0 : q0 < 18446744073709551616 := by omega
  go_wp2_with fail
  have x2' : ∀ n, (w.drewN n).cell? ⟨b, i + (m - 2), none⟩ = some (.int .u32 (a2 : Int)) := fun n => x2
  go_loopg [9, 10] q0 (fun q s9 s10 wx => ∃ r : Nat, s9 = .int .u64 (q : Int) ∧ s10 = .int .u64 (r : Int) ∧ q < 18446744073709551616 ∧ r < 8589934592 ∧ Hid (q * v1 + r = T) ∧ D ≤ q ∧ ∃ n, wx = w.drewN n)
  case atStart => exact ⟨r0, rfl, rfl, hq0, by omega, HE, HQ.out, _, by rw [World.drewN_drewN, World.drewN_drewN]⟩
  case round =>
    obtain ⟨r, rfl, rfl, hq, hr, He, hD, n, rfl⟩ := hrel
    have hx := x2' n
    clear x2' x2
    have hmul : gk < 4294967296 → (0 : Int) ≤ (gk : Int) * (v2 : Int) ∧ (gk : Int) * (v2 : Int) ≤ 18446744065119617025 := fun h => by
      have : gk * v2 ≤ 4294967295 * 4294967295 := Nat.mul_le_mul (by omega) (by omega)
      rw [← Int.natCast_mul]; omega
    have Hmul := Lib.hid hmul
    clear hmul
    by_cases c1 : r < 4294967296
    · have t1 : (r : Int) / 4294967296 = 0 := by omega
      have hor := u64_or_shl r a2 c1 d2
      by_cases c2 : 4294967296 ≤ gk
      · have t2 : 0 < (gk : Int) / 4294967296 := by omega
        rcases gk with _ | g
        · omega
        · have He2 := Lib.hid (kn_less He.out (by omega))
          go_wp2
          go_roundg g
          case measure => omega
          case rel => exact ⟨r + v1, rfl, by go_num, by omega, by omega, He2, by omega, n, rfl⟩
      · have t2 : (gk : Int) / 4294967296 = 0 := by omega
        obtain ⟨b1, b2⟩ := Hmul.out (by omega)
        by_cases c3 : (r : Int) * 4294967296 + (a2 : Int) < (gk : Int) * (v2 : Int)
        · rcases gk with _ | g
          · omega
          · have He2 := Lib.hid (kn_less He.out (by omega))
            have hD2 : D ≤ g := by
              rcases Nat.lt_or_ge g D with h | h
              · exfalso
                obtain rfl : D = g + 1 := by omega
                have h3 := (kn_fit (v2 := v2) (B := 4294967296) (u2 := a2) He.out).2 k2.out
                have h4 : ((g + 1 : Nat) : Int) * (v2 : Int) ≤ (r : Int) * 4294967296 + (a2 : Int) := by
                  rw [← Int.natCast_mul]; omega
                omega
              · exact h
            simp only [Int.natCast_add, Int.natCast_one] at c3 b1 b2 t2
            go_wp2
            go_roundg g
            case measure => omega
            case rel => exact ⟨r + v1, rfl, by go_num, by omega, by omega, He2, hD2, n, rfl⟩
        · have Hfit : Hid (gk * (v1 * 4294967296 + v2) ≤ T * 4294967296 + a2) := (kn_fit He.out).1 (by
            have h4 : ((gk * v2 : Nat) : Int) ≤ ((r * 4294967296 + a2 : Nat) : Int) := by
              rw [Int.natCast_mul, Int.natCast_add, Int.natCast_mul]; omega
            omega)
          go_wp2
          go_ret
          exact ⟨gk, n, rfl, rfl, by omega, by rw [HD.out]; exact hD, by rw [HD.out]; exact k4.out gk Hfit.out⟩
    · have t1 : (r : Int) / 4294967296 = 1 := by omega
      obtain ⟨hqB, hfit⟩ := kn_end (v2 := v2) (u2 := a2) He.out (show 4294967296 ≤ r by omega) k3.out e2
      have Hfit := Lib.hid hfit
      clear hfit
      go_wp2
      go_ret
      exact ⟨gk, n, rfl, rfl, hqB, by rw [HD.out]; exact hD, by rw [HD.out]; exact k4.out gk Hfit.out⟩

/-! Plain facts on a step of long division. No condition. -/
theorem dro_cons (p : Nat → Nat) (i m : Nat) : val (dro i p) (m + 1) = p i + 4294967296 * val (dro (i + 1) p) m := by
  rw [val_cons]
  congr 2
  exact val_congr fun j _ => by unfold dro; congr 1; omega
theorem long_step {p p' : Nat → Nat} {i V D R R' Q X : Nat} (h : X = val p (i + 1) + R * 4294967296 ^ (i + 1) + Q * V * 4294967296 ^ (i + 1))
    (hU : p i + 4294967296 * R = D * V + R') (hl : ∀ j, j < i → p' j = p j) : X = val p' i + R' * 4294967296 ^ i + (D + 4294967296 * Q) * V * 4294967296 ^ i := by
  rw [val_congr hl, h, val, Nat.pow_succ]
  generalize 4294967296 ^ i = P
  have e1 : (p i + 4294967296 * R) * P = (D * V + R') * P := by rw [hU]
  have e2 : R * (P * 4294967296) = 4294967296 * R * P := by rw [Nat.mul_comm P, ← Nat.mul_assoc, Nat.mul_comm R]
  have e3 : Q * V * (P * 4294967296) = 4294967296 * Q * V * P := by rw [Nat.mul_comm P, ← Nat.mul_assoc, Nat.mul_comm (Q * V), ← Nat.mul_assoc]
  rw [e2, e3]
  rw [Nat.add_mul, Nat.add_mul] at e1
  rw [Nat.add_mul D, Nat.add_mul (D * V)]
  omega
theorem long_lt {a R V : Nat} (ha : a < 4294967296) (hR : R < V) : a + 4294967296 * R < V * 4294967296 := by
  have : (R + 1) * 4294967296 ≤ V * 4294967296 := Nat.mul_le_mul_right _ hR
  omega
theorem top_upd {s : Nat → Nat} {i n v : Nat} (h : i < n) : top (upd s i v) i n = v + 4294967296 * top s (i + 1) n := by
  rw [top_step _ h, upd_same, top_congr (f := upd s i v) (g := s) (fun j a _ => upd_ne s v (by omega))]
/-- The end. -/
theorem long_end {X V Q R : Nat} (h : X = R + Q * V) (hR : R < V) : X / V = Q ∧ X % V = R := by
  rw [h]
  constructor
  · rw [Nat.add_mul_div_right _ _ (by omega), Nat.div_eq_of_lt hR, Nat.zero_add]
  · rw [Nat.add_mul_mod_self_right, Nat.mod_eq_of_lt hR]
/-- A number whose first digit has its first bit. -/
theorem top_digit {g : Nat → Nat} {m : Nat} (dg : Dig g m) (hm : 1 ≤ m) (h : 2147483648 * 4294967296 ^ (m - 1) ≤ val g m) : 2147483648 ≤ g (m - 1) := by
  obtain ⟨M, rfl⟩ : ∃ M, m = M + 1 := ⟨m - 1, by omega⟩
  simp only [Nat.add_sub_cancel] at *
  rw [val] at h
  have h1 : val g M < 4294967296 ^ M := val_lt (fun j hj => dg j (by omega))
  rcases Nat.lt_or_ge (g M) 2147483648 with h2 | h2
  · exfalso
    have h3 : (g M + 1) * 4294967296 ^ M ≤ 2147483648 * 4294967296 ^ M := Nat.mul_le_mul_right _ h2
    rw [Nat.add_mul, Nat.one_mul] at h3
    omega
  · exact h2

/-! What divideLong returns: the quotient and the rest. Conditions: two numbers in memory; the divisor has at least two digits, the first one with its first bit set, and is not greater. -/
theorem rowIs_block {w w' : World} {b n : Nat} {t : TypeId} {f : Nat → Value} (hb : Below w.heap.size w w') (hlt : b < w.heap.size) (h : w.rowIs b t n f) : w'.rowIs b t n f := by
  obtain ⟨c, h1, h2⟩ := h
  exact ⟨c, (hb.block b hlt).trans h1, h2⟩
theorem Only.row {w w' : World} {b b2 n : Nat} {t : TypeId} {f : Nat → Value} (ho : Only b w w') (hne : b2 ≠ b) (h : w.rowIs b2 t n f) : w'.rowIs b2 t n f := by
  obtain ⟨c, h1, h2⟩ := h
  have hlt : b2 < w.heap.size := by
    rcases Nat.lt_or_ge b2 w.heap.size with h | h
    · exact h
    · rw [Array.getElem?_eq_none h] at h1; cases h1
  exact ⟨c, (ho.1.block b2 hlt (fun e => hne (by injection e))).trans h1, h2⟩
theorem long_round {p p2 s : Nat → Nat} {k m n N V X : Nat} (Hz : ∀ j, k + 1 + m ≤ j → j < n → p j = 0) (Hs : ∀ j, k + 1 ≤ j → j < N → s j < 4294967296) (HR : val (dro (k + 1) p) m < V)
    (Heq : X = val p (k + 1) + val (dro (k + 1) p) m * 4294967296 ^ (k + 1) + top s (k + 1) N * V * 4294967296 ^ (k + 1)) (hv : val (dro k p2) (m + 1) = val (dro k p) (m + 1) % V) (hV : V < 4294967296 ^ m)
    (same : ∀ j, j < k ∨ k + m < j → p2 j = p j) (hk : k < N) (hp : p k < 4294967296) :
    (∀ j, k + m ≤ j → j < n → p2 j = 0) ∧ (∀ j, k ≤ j → j < N → upd s k (val (dro k p) (m + 1) / V) j < 4294967296) ∧ val (dro k p2) m < V ∧
      X = val p2 k + val (dro k p2) m * 4294967296 ^ k + top (upd s k (val (dro k p) (m + 1) / V)) k N * V * 4294967296 ^ k := by
  have hm := Nat.mod_lt (val (dro k p) (m + 1)) (show 0 < V by omega)
  have hz := val_small_zero (f := dro k p2) (m := m) (n := m + 1) (by omega) (by rw [hv]; omega)
  have hz0 : p2 (k + m) = 0 := hz m (Nat.le_refl _) (by omega)
  have hv2 : val (dro k p2) m = val (dro k p) (m + 1) % V := by
    rw [← hv, val, show dro k p2 m = 0 from hz0, Nat.zero_mul, Nat.add_zero]
  have hd : val (dro k p) (m + 1) / V < 4294967296 := kn_lt (by rw [dro_cons]; exact long_lt hp HR)
  refine ⟨fun j h1 h2 => ?_, fun j h1 h2 => ?_, by rw [hv2]; exact hm, ?_⟩
  · by_cases e : j = k + m
    · subst e; exact hz0
    · rw [same j (by omega)]; exact Hz j (by omega) h2
  · unfold upd
    split
    · exact hd
    · exact Hs j (by omega) h2
  · rw [top_upd hk, hv2]
    exact long_step Heq (by rw [← dro_cons, Nat.mul_comm]; exact (Nat.div_add_mod _ _).symm) (fun j hj => same j (by omega))
theorem made_get (n j : Nat) : (madeCells #[Value.int .u32 0] n).toList[j]? = if j < n then some (.int .u32 0) else none := by
  unfold madeCells
  by_cases h : j < n
  · simp [h, Nat.mod_one]
  · simp [h]
theorem alloc_at (w : World) (o : Obj) : (w.alloc o).heap[w.heap.size]? = some o := by
  show (w.heap.push o)[w.heap.size]? = some o
  simp
theorem copied (f : Nat → Nat) (n j : Nat) (hj : j < n + 1) :
    (splice (madeCells #[Value.int .u32 0] (n + 1)).toList 0 ((List.range n).map fun j => Value.int .u32 (f j : Int)))[j]? = some (dall (ext f n) j) := by
  unfold splice dall ext
  simp only [List.take_zero, List.nil_append, Nat.zero_add, List.length_map, List.length_range]
  by_cases h : j < n
  · rw [List.getElem?_append_left (by simpa using h), if_pos h]
    simp [h]
  · rw [List.getElem?_append_right (by simpa using h), if_neg h]
    obtain rfl : j = n := by omega
    simp only [List.length_map, List.length_range, Nat.sub_self]
    rw [List.getElem?_drop, made_get, if_pos (by omega)]
    rfl

set_option maxRecDepth 100000 in
set_option maxHeartbeats 3200000 in
theorem long_any (A B : Option Addr) (n m c d X V : Nat) (w : World) (hA : IsNat w A n c X) (hB : IsNat w B m d V) (hn : n ≤ 1000000000) (hm : 2 ≤ m) (htop : 2147483648 * 4294967296 ^ (m - 1) ≤ V) (hle : V ≤ X) :
    Calls Tryz.prog 134 #[.slice A n c, .slice B m d] w (DivdOut w (X / V) (X % V)) := by
  obtain ⟨hnc, hc, f, ⟨b, off, hAe, hcell⟩, df, tf, hX⟩ := hA
  obtain ⟨hmd, hd, g, ⟨b', off', hBe, hcell'⟩, dg, tg, hV⟩ := hB
  have hmn : m ≤ n := by
    rcases Nat.lt_or_ge n m with h | h
    · exfalso
      have h1 := val_lt df
      have h2 := val_ge (f := g) (n := m) (by omega) (tg (by omega))
      have h3 : (4294967296 : Nat) ^ n ≤ 4294967296 ^ (m - 1) := Nat.pow_le_pow_right (by omega) (by omega)
      omega
    · exact h
  obtain rfl := hAe (by omega)
  obtain rfl := hBe (by omega)
  have Htop := Lib.hid (top_digit dg (by omega) (by rw [hV]; exact htop))
  have Hc := Lib.hid hcell
  have Hc' := Lib.hid hcell'
  have Hdf := Lib.hid df
  have Hdg := Lib.hid dg
  have HX := Lib.hid hX
  have HV := Lib.hid hV
  have HVl := Lib.hid (show V < 4294967296 ^ m by rw [← hV]; exact val_lt dg)
  have HVg := Lib.hid htop
  have hb1 : b < w.heap.size := World.block_lt_of_cell? _ _ (hcell 0 (by omega))
  have hb2 : b' < w.heap.size := World.block_lt_of_cell? _ _ (hcell' 0 (by omega))
  clear hcell hcell' df dg tf tg hX hV htop hle hAe hBe
  have hmk := run_make_row' (P := Tryz.prog) 86 93 (.int .u32 0) 4 Tryz.underlying86 Tryz.infoU32 rfl .i64 .i64 (n + 1) (by omega) (by omega)
  rw [show ((n + 1 : Nat) : Int) = (n : Int) + 1 by omega] at hmk
  go_enter Tryz.func134, Tryz.ntmps134
  go_upto_region 2 with fail
  clear hmk
  go_cut [6] (fun s6 wx => s6 = .slice (some ⟨w.heap.size, 0, none⟩) (n + 1) (n + 1) ∧ wx.rowIs w.heap.size 93 (n + 1) (dall (ext f n)) ∧ Below w.heap.size w wx)
  case first =>
    have hs0 : (w.alloc (Obj.cells (madeCells #[Value.int IntKind.u32 0] (n + 1)) 93)).heap[w.heap.size]? = some (.cells (madeCells #[Value.int IntKind.u32 0] (n + 1)).toList.toArray 93 (0, 0)) := alloc_at _ _
    have hsrc : ∀ j v, ((List.range n).map fun j => Value.int .u32 (f j : Int))[j]? = some v → (w.alloc (Obj.cells (madeCells #[Value.int IntKind.u32 0] (n + 1)) 93)).cell? ((⟨b, off, none⟩ : Addr).add j) = some v := by
      intro j v hv
      have hj : j < n := by
        rcases Nat.lt_or_ge j n with h | h
        · exact h
        · rw [List.getElem?_eq_none (by simpa using h)] at hv; cases hv
      rw [List.getElem?_map, List.getElem?_range hj] at hv
      simp at hv
      subst hv
      have h9 := cell_alloc_keep (Hc.out j hj) (Obj.cells (madeCells #[Value.int IntKind.u32 0] (n + 1)) 93)
      by_cases e0 : j = 0
      · subst e0; simpa [Addr.add] using h9
      · simpa [Addr.add, e0] using h9
    have Hsrc := Lib.hid hsrc
    have Hs0 := Lib.hid hs0
    clear hsrc hs0
    go_wp2_with (with_reducible refine wpList_copy_splice (o := ⟨some 17, _, _, _, _, _⟩) rfl (.tmp 15) (.tmp 16) 86 86 rfl 93 Tryz.underlying86 (by kernel_rfl) _ _ (n + 1) (n + 1) n c rfl rfl w.heap.size 0 _ 93 Hs0.out ((List.range n).map fun j => Value.int .u32 (f j : Int)) (by simp) (fun _ => ⟨rfl, _, rfl, Hsrc.out⟩) (by simp [size_madeCells]) (by simp [Value.oneCell']) w.heap.size w ((Below.refl _ _).alloc (Nat.le_refl _) _) (Nat.le_refl _) ?_)
    intro w' hh hb
    have row : w'.rowIs w.heap.size 93 (n + 1) (dall (ext f n)) := ⟨_, hh.out, by simp [splice, size_madeCells], fun i hi => by rw [List.getElem?_toArray]; exact copied f n i hi⟩
    have Row := Lib.hid row
    clear row hh
    go_wp2_with fail
    go_meet
    exact ⟨rfl, Row.out, hb⟩
  case rest =>
    obtain ⟨rfl, hrow, hb⟩ := hcut
    have hsz : w.heap.size < wc.heap.size := World.block_lt_of_cell? wc ⟨w.heap.size, 0, none⟩ (hrow.cell (by omega))
    have hmk2 := run_make_row' (P := Tryz.prog) 86 93 (.int .u32 0) 4 Tryz.underlying86 Tryz.infoU32 rfl .i64 .i64 (n - m + 1) (by omega) (by omega)
    rw [show ((n - m + 1 : Nat) : Int) = (n : Int) - (m : Int) + 1 by omega] at hmk2
    have Hrow := Lib.hid hrow
    clear hrow
    go_wp2_with fail
    clear hmk2
    have HR1 : Hid ((wc.alloc (.cells (madeCells #[Value.int IntKind.u32 0] (n - m + 1)) 93)).rowIs w.heap.size 93 (n + 1) (dall (ext f n))) := rowIs_block (Below.refl _ _ |>.alloc (Nat.le_refl _) _) hsz Hrow.out
    have HR2 : Hid ((wc.alloc (.cells (madeCells #[Value.int IntKind.u32 0] (n - m + 1)) 93)).rowIs wc.heap.size 93 (n - m + 1) (dsdn (fun _ => 0) (n - m + 1))) := (World.rowIs_made wc _ (n - m + 1) _).congr (fun i _ => by simp [dsdn])
    have hb3 := hb.alloc hb.size (.cells (madeCells #[Value.int IntKind.u32 0] (n - m + 1)) 93)
    have HB := Lib.hid hb3
    clear Hrow hb hb3
    generalize wc.alloc (.cells (madeCells #[Value.int IntKind.u32 0] (n - m + 1)) 93) = wl at *
    generalize wc.heap.size = bq at *
    go_loopg [8] (n - m + 1) (fun k s8 wx => ∃ (p s : Nat → Nat), k ≤ n - m + 1 ∧ s8 = .int .i64 ((k : Int) - 1) ∧ Hid (Dig p (n + 1)) ∧ Hid (∀ j, k + m ≤ j → j < n + 1 → p j = 0) ∧ Hid (∀ j, k ≤ j → j < n - m + 1 → s j < 4294967296) ∧ Hid (val (dro k p) m < V) ∧
      Hid (X = val p k + val (dro k p) m * 4294967296 ^ k + top s k (n - m + 1) * V * 4294967296 ^ k) ∧ Below w.heap.size w wx ∧ Hid (wx.rowIs w.heap.size 93 (n + 1) (dall p)) ∧ Hid (wx.rowIs bq 93 (n - m + 1) (dsdn s k)))
    case atStart =>
      refine ⟨ext f n, fun _ => 0, Nat.le_refl _, by go_num, ?_, ?_, ?_, ?_, ?_, HB.out, HR1, HR2⟩
      · intro j hj
        unfold ext
        split
        · exact Hdf.out j (by omega)
        · omega
      · intro j h1 h2; omega
      · intro j _ _; show 0 < 4294967296; omega
      · show _ < V
        obtain ⟨M, rfl⟩ : ∃ M, m = M + 1 := ⟨m - 1, by omega⟩
        rw [val, show dro (n - (M + 1) + 1) (ext f n) M = 0 by
          unfold dro ext
          rw [if_neg (by omega)], Nat.zero_mul, Nat.add_zero]
        have h1 : val (dro (n - (M + 1) + 1) (ext f n)) M < 4294967296 ^ M := val_lt (fun j hj => by
          unfold dro ext
          split
          · exact Hdf.out _ (by omega)
          · omega)
        have h2 := HVg.out
        simp only [Nat.add_sub_cancel] at h2
        have h3 : 1 * 4294967296 ^ M ≤ 2147483648 * 4294967296 ^ M := Nat.mul_le_mul_right _ (by omega)
        omega
      · show X = _
        rw [top_all, Nat.zero_mul, Nat.zero_mul, Nat.add_zero, ← val_split, show n - m + 1 + m = n + 1 by omega, val_ext f n (n + 1) (by omega)]
        exact HX.out.symm
    case round =>
      obtain ⟨p, s, hk, rfl, Hp, Hz, Hs, HRl, Heq, hb, Hr1, Hr2⟩ := hrel
      rcases gk with _ | k
      · have hq2 : Rd wr (some ⟨bq, 0, none⟩) (n - m + 1) s := dsdn_rd Hr2.out
        have hr2 : Rd wr (some ⟨w.heap.size, 0, none⟩) (n + 1) p := dall_rd Hr1.out
        have Hend := Heq.out
        rw [val, Nat.pow_zero, Nat.mul_one, Nat.mul_one, Nat.zero_add, top_zero] at Hend
        obtain ⟨e1, e2⟩ := long_end Hend HRl.out
        have E1 := Lib.hid e1
        have E2 := Lib.hid (show val p (n + 1) = X % V by rw [val_zend (m := m) (by omega) (fun j h1 h2 => Hz.out j (by omega) h2), e2]; exact val_congr (fun j _ => by unfold dro; rw [Nat.zero_add]))
        clear Hend e1 e2
        go_wp2_with fail
        refine (trim_any _ (n - m + 1) (n - m + 1) s _ (Nat.le_refl _) (by omega) hq2).mono ?_
        rintro e w' ⟨rfl, rfl⟩
        go_wp2_with fail
        refine (trim_any _ (n + 1) (n + 1) p _ (Nat.le_refl _) (by omega) hr2).mono ?_
        rintro e w' ⟨rfl, rfl⟩
        go_wp2
        go_ret2
        refine ⟨_, _, _, _, _, _, rfl, ?_, ?_, hb⟩
        · rw [E1.out]
          exact ⟨tln_le _ _, by omega, s, hq2.take (tln_le _ _), fun j hj => Hs.out j (by omega) (by have := tln_le s (n - m + 1); omega), tln_trm _ _, tln_val _ _⟩
        · exact ⟨tln_le _ _, by omega, p, hr2.take (tln_le _ _), fun j hj => Hp.out j (by have := tln_le p (n + 1); omega), tln_trm _ _, (tln_val _ _).trans E2.out⟩
      · have hkn : k < n - m + 1 := hk
        have HR := Lib.hid (dro_cons p k m)
        have Hlt : Hid (val (dro k p) (m + 1) < val g m * 4294967296) := by
          show _ < _
          rw [HR.out, HV.out]
          exact long_lt (Hp.out k (by omega)) HRl.out
        have Hcw : Hid (∀ j, j < m → wr.cell? ⟨b', off' + j, none⟩ = some (.int .u32 (g j : Int))) := fun j hj => (hb.cell hb2).trans (Hc'.out j hj)
        go_wp2_with fail
        rw [show k + m + 1 - k = m + 1 by omega]
        refine (est_any w.heap.size k m (n + 1) (n + 1 - k) d b' off' p g _ Hr1.out Hp.out (by omega) (by omega) hm Hcw.out Hdg.out Htop.out Hlt.out).mono ?_
        rintro e w' ⟨q, nn, rfl, rfl, hq, hq1, hq2⟩
        have Hq1 := Lib.hid hq1
        have Hq2 := Lib.hid hq2
        clear hq1 hq2
        have Hr1 : Hid ((wr.drewN nn).rowIs w.heap.size 93 (n + 1) (dall p)) := Hr1.out
        have Hr2 : Hid ((wr.drewN nn).rowIs bq 93 (n - m + 1) (dsdn s (k + 1))) := Hr2.out
        have Hcw : Hid (∀ j, j < m → (wr.drewN nn).cell? ⟨b', off' + j, none⟩ = some (.int .u32 (g j : Int))) := Hcw.out
        have hb : Below w.heap.size w (wr.drewN nn) := ⟨hb.os, hb.tape, hb.output, hb.size, hb.block⟩
        generalize wr.drewN nn = wq at *
        have hyo : RdO wq w.heap.size (some ⟨b', off', none⟩) m g := ⟨b', off', by omega, fun _ => rfl, Hcw.out⟩
        have Hyo := Lib.hid hyo
        have hsq := hb.size
        have HVg2 := Lib.hid (show 0 < val g m by rw [HV.out]; have := HVg.out; have : 0 < 4294967296 ^ (m - 1) := Nat.pow_pos (by omega); omega)
        clear hyo
        go_wp2_with fail
        refine (take_any w.heap.size k m (n + 1) q (n + 1 - k) d _ p g _ Hr1.out Hp.out (by omega) (by omega) Hyo.out Hdg.out hq).mono ?_
        rintro e w1 ⟨bb, p1, rfl, ho1, hr1, dp1, same1, hv1⟩
        cases bb
        · obtain ⟨f1, f2⟩ := tk_good (by simpa using hv1) Hq1.out HVg2.out
          rw [HV.out] at f1 f2
          obtain ⟨g1, g2, g3, g4⟩ := long_round (p2 := p1) (n := n + 1) Hz.out Hs.out HRl.out Heq.out f2 HVl.out same1 hkn (Hp.out k (by omega))
          rw [← f1] at g2 g4
          have G1 := Lib.hid g1
          have G2 := Lib.hid g2
          have G3 := Lib.hid g3
          have G4 := Lib.hid g4
          have hb1' := ho1.below hb (Nat.le_refl _) hsq
          have R1 := Lib.hid hr1
          have R2 := Lib.hid (ho1.row (b2 := bq) (by omega) Hr2.out)
          have D1 := Lib.hid dp1
          have hx := (R2.out).cell (i := k) hkn
          have hf := (R2.out).frozen k
          clear g1 g2 g3 g4 f1 f2 hv1 same1 ho1 hr1 dp1 hb
          go_wp2
          go_roundg k
          case measure => omega
          case rel => exact ⟨p1, upd s k q, by omega, rfl, D1, G1, G2, G3, G4, hb1'.setCell (by dsimp only; omega) _, (R1.out).setOther (by dsimp only; omega) _, dsdn_step R2.out rfl⟩
        · have hyo2 := (Hyo.out).only ho1
          have Hyo2 := Lib.hid hyo2
          have R1 := Lib.hid hr1
          have D1 := Lib.hid dp1
          have O1 := Lib.hid ho1
          have V1 := Lib.hid hv1
          have S1 := Lib.hid same1
          clear hyo2 hr1 dp1 ho1 hv1 same1
          go_wp2_with fail
          refine (put_any w.heap.size k m (n + 1) (n + 1 - k) d _ p1 g _ R1.out D1.out (by omega) (by omega) Hyo2.out Hdg.out).mono ?_
          rintro e w2 ⟨p2, cc, rfl, ho2, hr2, dp2, same2, hcc, hv2⟩
          have hlt1 : val (dro k p1) (m + 1) < 4294967296 ^ (m + 1) := val_lt (fun j hj => D1.out (k + j) (by omega))
          have hlt2 : val (dro k p2) (m + 1) < 4294967296 ^ (m + 1) := val_lt (fun j hj => dp2 (k + j) (by omega))
          obtain ⟨f1, f2⟩ := tk_bad (by simpa using V1.out) Hq2.out hlt1 HVg2.out hv2 hcc hlt2
          rw [HV.out] at f1 f2
          obtain ⟨g1, g2, g3, g4⟩ := long_round (p2 := p2) (n := n + 1) Hz.out Hs.out HRl.out Heq.out f2 HVl.out (fun j hj => (same2 j hj).trans (S1.out j hj)) hkn (Hp.out k (by omega))
          have f3 : val (dro k p) (m + 1) / V = q - 1 := by rw [f1, Nat.add_sub_cancel]
          have f4 : 1 ≤ q := by rw [f1]; exact Nat.le_add_left _ _
          rw [f3] at g2 g4
          have G1 := Lib.hid g1
          have G2 := Lib.hid g2
          have G3 := Lib.hid g3
          have G4 := Lib.hid g4
          have hb1' := ((O1.out).trans ho2).below hb (Nat.le_refl _) hsq
          have R3 := Lib.hid hr2
          have R2 := Lib.hid (((O1.out).trans ho2).row (b2 := bq) (by omega) Hr2.out)
          have D2 := Lib.hid dp2
          have hx := (R2.out).cell (i := k) hkn
          have hf := (R2.out).frozen k
          clear g1 g2 g3 g4 f1 f2 f3 hv2 same2 ho2 hr2 dp2 hb hlt1 hlt2
          go_wp2
          go_roundg k
          case measure => omega
          case rel => exact ⟨p2, upd s k (q - 1), by omega, rfl, D2, G1, G2, G3, G4, hb1'.setCell (by dsimp only; omega) _, (R3.out).setOther (by dsimp only; omega) _, dsdn_step R2.out (by omega)⟩

/-! What integer.divide returns: the quotient and the rest. Condition: the divisor is not 0. -/
/-- The factor that makes the divisor's first digit great, and what it does. -/
theorem factor_top {g : Nat → Nat} {m : Nat} (hm : 1 ≤ m) (dg : Dig g m) (h0 : g (m - 1) ≠ 0) :
    2147483648 * 4294967296 ^ (m - 1) ≤ val g m * 2 ^ (32 - nbits (g (m - 1))) ∧ val g m * 2 ^ (32 - nbits (g (m - 1))) < 4294967296 ^ m ∧ 1 ≤ nbits (g (m - 1)) ∧ nbits (g (m - 1)) ≤ 32 := by
  obtain ⟨M, rfl⟩ : ∃ M, m = M + 1 := ⟨m - 1, by omega⟩
  simp only [Nat.add_sub_cancel] at *
  have hG := dg M (by omega)
  have a1 := nbits_lt (g M)
  have a2 := nbits_ge h0
  have hv : val g M < 4294967296 ^ M := val_lt (fun j hj => dg j (by omega))
  have l1 : 1 ≤ nbits (g M) := by
    rcases Nat.eq_zero_or_pos (nbits (g M)) with h | h
    · exfalso; rw [h] at a1; omega
    · exact h
  have l2 : nbits (g M) ≤ 32 := by
    rcases Nat.lt_or_ge 32 (nbits (g M)) with h | h
    · exfalso
      have : (2 : Nat) ^ 32 ≤ 2 ^ (nbits (g M) - 1) := Nat.pow_le_pow_right (by omega) (by omega)
      omega
    · exact h
  generalize nbits (g M) = L at *
  have e1 : (2 : Nat) ^ L * 2 ^ (32 - L) = 4294967296 := by rw [← Nat.pow_add, show L + (32 - L) = 32 by omega]
  have e2 : (2 : Nat) ^ (L - 1) * 2 ^ (32 - L) = 2147483648 := by rw [← Nat.pow_add, show L - 1 + (32 - L) = 31 by omega]
  have b1 : (g M + 1) * 2 ^ (32 - L) ≤ 4294967296 := by rw [← e1]; exact Nat.mul_le_mul_right _ a1
  have b2 : 2147483648 ≤ g M * 2 ^ (32 - L) := by rw [← e2]; exact Nat.mul_le_mul_right _ a2
  refine ⟨?_, ?_, l1, l2⟩
  · rw [val, Nat.add_mul]
    have : 2147483648 * 4294967296 ^ M ≤ g M * 2 ^ (32 - L) * 4294967296 ^ M := Nat.mul_le_mul_right _ b2
    have e : g M * 2 ^ (32 - L) * 4294967296 ^ M = g M * 4294967296 ^ M * 2 ^ (32 - L) := by rw [Nat.mul_assoc, Nat.mul_comm (2 ^ (32 - L)), ← Nat.mul_assoc]
    omega
  · rw [val, Nat.pow_succ]
    have h1 : val g M + g M * 4294967296 ^ M < (g M + 1) * 4294967296 ^ M := by rw [Nat.add_mul, Nat.one_mul]; omega
    have h2 : (val g M + g M * 4294967296 ^ M) * 2 ^ (32 - L) < (g M + 1) * 4294967296 ^ M * 2 ^ (32 - L) := Nat.mul_lt_mul_of_pos_right h1 (Nat.two_pow_pos _)
    have h3 : (g M + 1) * 4294967296 ^ M * 2 ^ (32 - L) = (g M + 1) * 2 ^ (32 - L) * 4294967296 ^ M := by rw [Nat.mul_assoc, Nat.mul_comm (4294967296 ^ M), ← Nat.mul_assoc]
    have h4 : (g M + 1) * 2 ^ (32 - L) * 4294967296 ^ M ≤ 4294967296 * 4294967296 ^ M := Nat.mul_le_mul_right _ b1
    rw [Nat.mul_comm (4294967296 ^ M)]
    omega
theorem len_is {w : World} {A : Option Addr} {n c N m : Nat} (h : IsNat w A n c N) (h1 : 4294967296 ^ (m - 1) ≤ N) (h2 : N < 4294967296 ^ m) (hm : 1 ≤ m) : n = m := by
  have h3 := h.len h2
  obtain ⟨_, _, f, _, df, _, hv⟩ := h
  have h4 := val_lt df
  rcases Nat.lt_or_ge n m with h5 | h5
  · exfalso
    have h6 : (4294967296 : Nat) ^ n ≤ 4294967296 ^ (m - 1) := Nat.pow_le_pow_right (by omega) (by omega)
    omega
  · omega

theorem mulAdd0 (A : Option Addr) (n c N x : Nat) (w : World) (hA : IsNat w A n c N) (hn : n ≤ 10000000000) (hx : x < 4294967296) :
    Calls Tryz.prog 135 #[.slice A n c, .int .u32 (x : Int), .int .u32 0] w (NatOut w (N * x)) :=
  mulAdd_any A n c N x 0 w hA hn hx (by omega)

set_option maxRecDepth 100000 in
set_option maxHeartbeats 3200000 in
theorem divide_more (A B : Option Addr) (n m c d N M : Nat) (w : World) (hA : IsNat w A n c N) (hB : IsNat w B m d M) (hn : n ≤ 100000000) (hge : ¬ N < M) (h1 : 4294967296 ≤ M) :
    Calls Tryz.prog 112 #[.slice A n c, .slice B m d] w (DivdOut w (N / M) (N % M)) := by
  have hc : ¬ cmpN N M < 0 := by unfold cmpN; rw [if_neg hge]; split <;> omega
  have hA2 := Lib.hid hA
  have hB2 := Lib.hid hB
  obtain ⟨hmd, hd, g, ⟨b', off', hBe, hcell'⟩, dg, tg, hv⟩ := hB
  have hm2 : 2 ≤ m := by
    rcases Nat.lt_or_ge m 2 with h | h
    · exfalso
      have h2 := val_lt dg
      have h3 : (4294967296 : Nat) ^ m ≤ 4294967296 ^ 1 := Nat.pow_le_pow_right (by omega) (by omega)
      omega
    · exact h
  have hmn : m ≤ n := by
    obtain ⟨_, _, f, _, df, _, hvf⟩ := hA
    rcases Nat.lt_or_ge n m with h | h
    · exfalso
      have h2 := val_lt df
      have h3 := val_ge (f := g) (n := m) (by omega) (tg (by omega))
      have h4 : (4294967296 : Nat) ^ n ≤ 4294967296 ^ (m - 1) := Nat.pow_le_pow_right (by omega) (by omega)
      omega
    · exact h
  obtain rfl := hBe (by omega)
  have hx : w.cell? ⟨b', off' + (m - 1), none⟩ = some (.int .u32 (g (m - 1) : Int)) := hcell' (m - 1) (by omega)
  have hG := dg (m - 1) (by omega)
  obtain ⟨f1, f2, f3, f4⟩ := factor_top (by omega) dg (tg (by omega))
  rw [hv] at f1 f2
  have hbl := nbits_bitLen (x := g (m - 1)) (by omega)
  have Hbl := Lib.hid hbl
  generalize nbits (g (m - 1)) = L at *
  generalize g (m - 1) = G at *
  obtain ⟨F, HF⟩ : ∃ F, Hid (2 ^ (32 - L) = F) := ⟨_, Lib.hid rfl⟩
  rw [HF.out] at f1 f2
  have hF0 : 1 ≤ F := by rw [← HF.out]; exact Nat.two_pow_pos _
  have hF1 : F ≤ 2147483648 := by
    rw [← HF.out]
    have : (2 : Nat) ^ (32 - L) ≤ 2 ^ 31 := Nat.pow_le_pow_right (by omega) (by omega)
    omega
  have F1 := Lib.hid f1
  have F2 := Lib.hid f2
  have HNM := Lib.hid (show N * F / (M * F) = N / M from Nat.mul_div_mul_right _ _ (by omega))
  have HNR := Lib.hid (show N * F % (M * F) = N % M * F from Nat.mul_mod_mul_right _ _ _)
  have Hge := Lib.hid (show M * F ≤ N * F from Nat.mul_le_mul_right _ (by omega))
  have HM1 := Lib.hid h1
  have hshl : (2 : Int) ^ (32 - L) % 4294967296 = (F : Int) := by
    have h9 : ((2 ^ (32 - L) : Nat) : Int) = 2 ^ (32 - L) := Int.natCast_pow _ _
    rw [← h9, HF.out]
    omega
  have Hshl := Lib.hid hshl
  clear hA hcell' dg tg hv f1 f2 hbl hge h1 hshl
  have i1 : (0 : Int) ≤ (m : Int) - 1 := by omega
  have l1 : (0 : Int) ≤ 32 - (L : Int) := by omega
  have l2 : 32 - (L : Int) < 32 := by omega
  have hone : ((m : Int) == 1) = false := by
    rw [beq_eq_false_iff_ne]; omega
  go_enter Tryz.func112, Tryz.ntmps112
  go_wp2_with fail
  refine (compare_any A _ n m c d N M _ hA2.out hB2.out).mono ?_
  rintro e w' ⟨rfl, q, rfl⟩
  have Hx : Hid (IsNat (w.drewN q) A n c N) := hA2.out
  have Hy : Hid (IsNat (w.drewN q) (some ⟨b', off', none⟩) m d M) := hB2.out
  have hx : (w.drewN q).cell? ⟨b', off' + (m - 1), none⟩ = some (.int .u32 (G : Int)) := hx
  have hb0 : Below w.heap.size w (w.drewN q) := ⟨rfl, rfl, rfl, Nat.le_refl _, fun _ _ => rfl⟩
  generalize w.drewN q = wq at *
  clear hA2 hB2
  go_wp2_with fail
  refine (Tryz.bits_LeadingZeros32 (G : Int) _ (by omega) (by omega)).mono ?_
  rintro e w' ⟨rfl, hw'⟩
  subst hw'
  rw [Int.toNat_natCast, Hbl.out]
  clear hx
  go_wp2_with fail
  rw [Hshl.out]
  refine (mulAdd0 A n c N F _ Hx.out (by omega) (by omega)).mono ?_
  rintro e W1 ⟨A1, n1, c1, rfl, x1, b1⟩
  have Hy1 := Lib.hid (Hy.out.below (Nat.le_refl _) b1)
  have X1 := Lib.hid x1
  have ln1 : n1 ≤ n + 1 := by
    refine x1.len ?_
    obtain ⟨_, _, f, _, df, _, hv⟩ := Hx.out
    have h1 := val_lt df
    rw [hv] at h1
    rw [Nat.pow_succ]
    exact Nat.mul_lt_mul'' h1 (by omega)
  have hb2 := below_more hb0 (Nat.le_refl _) b1
  clear x1 b1 hb0 Hx Hy
  go_wp2_with fail
  refine (mulAdd0 _ m d M F _ Hy1.out (by omega) (by omega)).mono ?_
  rintro e W2 ⟨A2, n2, c2, rfl, x2, b2⟩
  have X1' := Lib.hid (X1.out.below (Nat.le_refl _) b2)
  have X2 := Lib.hid x2
  have hp : 0 < 4294967296 ^ (m - 1) := Nat.pow_pos (by omega)
  have hn2 := len_is x2 (by have := F1.out; omega) F2.out (by omega)
  subst hn2
  have hb3 := below_more hb2 (Nat.le_refl _) b2
  clear x2 b2 hb2 hp X1 Hy1
  go_wp2_with fail
  refine (long_any A1 A2 n1 n2 c1 c2 (N * F) (M * F) _ X1'.out X2.out (by omega) hm2 F1.out Hge.out).mono ?_
  rintro e W3 ⟨A3, n3, c3, A4, n4, c4, rfl, x3, x4, b3⟩
  rw [HNM.out] at x3
  rw [HNR.out] at x4
  have X3 := Lib.hid x3
  have ln4 : n4 ≤ 10000000000 := by
    have h1 : N % M * F < M * F := Nat.mul_lt_mul_of_pos_right (Nat.mod_lt _ (by have := HM1.out; omega)) hF0
    have := x4.len (Nat.lt_trans h1 F2.out)
    omega
  have hb4 := below_more hb3 (Nat.le_refl _) b3
  have X4 : Hid (∃ f, Rd W3 A4 n4 f ∧ Dig f n4 ∧ val f n4 = N % M * F) := by
    obtain ⟨_, _, f, a1, a2, _, a3⟩ := x4
    exact ⟨f, a1, a2, a3⟩
  clear x3 x4 b3 hb3
  go_wp2_with fail
  refine (divSmall_any A4 n4 c4 (N % M * F) F _ X4.out ln4 hF0 (by omega)).mono ?_
  rintro e W4 ⟨A5, n5, c5, rfl, x5, b4⟩
  rw [Nat.mul_div_cancel _ (by omega)] at x5
  have X3' := Lib.hid (X3.out.below (Nat.le_refl _) b4)
  have X5 := Lib.hid x5
  have hb5 := below_more hb4 (Nat.le_refl _) b4
  clear x5 b4 hb4
  go_wp2
  go_ret2
  exact ⟨_, _, _, _, _, _, rfl, X3'.out, X5.out, hb5⟩
end Go.Proofs.YtgcogpfmhmmgdaaGreatDoor
