/- Plain facts on numbers written to the base 2^32, the least significant digit first, told by a function of the place. No condition. Plain facts on the order of numbers by their digits. No condition. What integer.compare returns: -1, 0 or 1, by the numbers. Condition: both are numbers in memory without zeros at the end. -/
import Derived.Test.YtfcdekkoeeaolaaDoorProg
import Derived.Below
import Derived.Deep.OwnRows
import Derived.WalkKit
import Derived.Deep.LoopGhost
import Derived.Deep.QuietTactic
import Derived.BigQuiet

namespace Go.Proofs.YtfcdekkoeeaolaaDoor
open Go.RowKit

/-- The value of the first n digits of f. -/
def val (f : Nat → Nat) : Nat → Nat
  | 0 => 0
  | n + 1 => val f n + f n * 4294967296 ^ n

def Dig (f : Nat → Nat) (n : Nat) : Prop := ∀ i, i < n → f i < 4294967296
/-- No zero at the end. -/
def Trm (f : Nat → Nat) (n : Nat) : Prop := 0 < n → f (n - 1) ≠ 0

theorem val_congr {f g : Nat → Nat} {n : Nat} (h : ∀ i, i < n → f i = g i) : val f n = val g n := by
  induction n with
  | zero => rfl
  | succ n ih => rw [val, val, ih (fun i hi => h i (by omega)), h n (by omega)]

theorem val_lt {f : Nat → Nat} {n : Nat} (h : Dig f n) : val f n < 4294967296 ^ n := by
  induction n with
  | zero => simp [val]
  | succ n ih =>
    rw [val, Nat.pow_succ]
    have h1 := ih (fun i hi => h i (by omega))
    have h2 := h n (by omega)
    have h3 : f n * 4294967296 ^ n ≤ 4294967295 * 4294967296 ^ n := Nat.mul_le_mul_right _ (by omega)
    have hp : 0 < 4294967296 ^ n := Nat.pow_pos (by omega)
    generalize 4294967296 ^ n = P at *
    omega

theorem val_ge {f : Nat → Nat} {n : Nat} (hn : 0 < n) (h : f (n - 1) ≠ 0) : 4294967296 ^ (n - 1) ≤ val f n := by
  obtain ⟨m, rfl⟩ : ∃ m, n = m + 1 := ⟨n - 1, by omega⟩
  rw [val]
  simp only [Nat.add_sub_cancel] at *
  have : 1 * 4294967296 ^ m ≤ f m * 4294967296 ^ m := Nat.mul_le_mul_right _ (by omega)
  omega

/-- The number of the digits behind which there are zeros alone. -/
def tln (f : Nat → Nat) : Nat → Nat
  | 0 => 0
  | n + 1 => if f n = 0 then tln f n else n + 1

theorem tln_le (f : Nat → Nat) (n : Nat) : tln f n ≤ n := by
  induction n with
  | zero => simp [tln]
  | succ n ih => rw [tln]; split <;> omega
theorem tln_val (f : Nat → Nat) (n : Nat) : val f (tln f n) = val f n := by
  induction n with
  | zero => rfl
  | succ n ih =>
    rw [tln]
    split
    · rename_i h; rw [ih, val, h]; simp
    · rfl
theorem tln_trm (f : Nat → Nat) (n : Nat) : Trm f (tln f n) := by
  induction n with
  | zero => intro h; exact absurd h (by simp [tln])
  | succ n ih =>
    rw [tln]
    split
    · exact ih
    · intro _; simpa using ‹¬ f n = 0›

/-- Digits in memory: the slice with the address A and the length n holds the digits f. -/
def Rd (w : World) (A : Option Addr) (n : Nat) (f : Nat → Nat) : Prop :=
  ∃ b off : Nat, (0 < n → A = some ⟨b, off, none⟩) ∧ ∀ i, i < n → w.cell? ⟨b, off + i, none⟩ = some (.int .u32 (f i : Int))

theorem Rd.nil (w : World) (f : Nat → Nat) (A : Option Addr) : Rd w A 0 f := ⟨0, 0, fun h => absurd h (by omega), fun i h => absurd h (by omega)⟩
theorem Rd.lt {w : World} {b off n : Nat} {f : Nat → Nat} (h : ∀ i, i < n → w.cell? ⟨b, off + i, none⟩ = some (.int .u32 (f i : Int))) (hn : 0 < n) : b < w.heap.size :=
  World.block_lt_of_cell? w _ (h 0 hn)
theorem Rd.below {w w' : World} {A : Option Addr} {n : Nat} {f : Nat → Nat} {B : Nat} (h : Rd w A n f) (hB : w.heap.size ≤ B) (hb : Below B w w') : Rd w' A n f := by
  obtain ⟨b, off, hA, hc⟩ := h
  refine ⟨b, off, hA, fun i hi => ?_⟩
  rw [hb.cell (p := ⟨b, off + i, none⟩) (by have := Rd.lt hc (by omega); show b < B; omega)]
  exact hc i hi
theorem Rd.take {w : World} {A : Option Addr} {n m : Nat} {f : Nat → Nat} (h : Rd w A n f) (hm : m ≤ n) : Rd w A m f := by
  obtain ⟨b, off, hA, hc⟩ := h
  exact ⟨b, off, fun h => hA (by omega), fun i hi => hc i (by omega)⟩
theorem Rd.of_row {w : World} {b n m : Nat} {t : TypeId} {f : Nat → Nat} {g : Nat → Value} (h : w.rowIs b t n g) (hm : m ≤ n) (hg : ∀ i, i < m → g i = .int .u32 (f i : Int)) : Rd w (some ⟨b, 0, none⟩) m f :=
  ⟨b, 0, fun _ => rfl, fun i hi => by rw [Nat.zero_add, h.cell (by omega), hg i hi]⟩

/-- The value v is the number N in memory. -/
def IsNat (w : World) (A : Option Addr) (n c : Nat) (N : Nat) : Prop :=
  n ≤ c ∧ c ≤ 100000000000 ∧ ∃ f, Rd w A n f ∧ Dig f n ∧ Trm f n ∧ val f n = N
theorem IsNat.below {w w' : World} {A : Option Addr} {n c N B : Nat} (h : IsNat w A n c N) (hB : w.heap.size ≤ B) (hb : Below B w w') : IsNat w' A n c N := by
  obtain ⟨h1, h2, f, h3, h4⟩ := h
  exact ⟨h1, h2, f, h3.below hB hb, h4⟩

/-- What a function that returns a number leaves. -/
def NatOut (w : World) (N : Nat) (e : Ending) (w' : World) : Prop :=
  ∃ A n c, e = .returned (.slice A n c) ∧ IsNat w' A n c N ∧ Below w.heap.size w w'

/-- The row that holds the first k digits of s, and zeros behind them. -/
def dsts (s : Nat → Nat) (k : Nat) : Nat → Value := fun j => .int .u32 ((if j < k then s j else 0 : Nat) : Int)
def upd (s : Nat → Nat) (k v : Nat) : Nat → Nat := fun j => if j = k then v else s j
theorem upd_same (s : Nat → Nat) (k v : Nat) : upd s k v k = v := by simp [upd]
theorem upd_lt (s : Nat → Nat) (k v : Nat) {j : Nat} (h : j < k) : upd s k v j = s j := by simp [upd, Nat.ne_of_lt h]
theorem val_upd (s : Nat → Nat) (k v : Nat) : val (upd s k v) (k + 1) = val s k + v * 4294967296 ^ k := by
  rw [val, upd_same, val_congr (fun i hi => upd_lt s k v hi)]
theorem dig_upd {s : Nat → Nat} {k v : Nat} (h : Dig s k) (hv : v < 4294967296) : Dig (upd s k v) (k + 1) := fun i hi => by
  by_cases e : i = k
  · subst e; rw [upd_same]; exact hv
  · rw [upd_lt _ _ _ (by omega)]; exact h i (by omega)
theorem dsts_step {w : World} {b n k : Nat} {t : TypeId} {s : Nat → Nat} (h : w.rowIs b t n (dsts s k)) {x : Int} {v : Nat} (hx : x = (v : Int)) :
    (w.setCell ⟨b, k, none⟩ (.int .u32 x)).rowIs b t n (dsts (upd s k v) (k + 1)) :=
  (h.set k _).congr fun j _ => by
    subst hx
    unfold dsts
    by_cases e : j = k
    · subst e; rw [if_pos rfl, if_pos (by omega), upd_same]
    · rw [if_neg e]
      by_cases hl : j < k
      · rw [if_pos hl, if_pos (by omega), upd_lt _ _ _ hl]
      · rw [if_neg hl, if_neg (by omega)]
theorem dsts_rd {w : World} {b n : Nat} {t : TypeId} {s : Nat → Nat} (h : w.rowIs b t n (dsts s n)) : Rd w (some ⟨b, 0, none⟩) n s :=
  Rd.of_row h (Nat.le_refl _) fun i hi => by simp [dsts, hi]
/-- The digits with zeros behind them. -/
def ext (g : Nat → Nat) (m : Nat) : Nat → Nat := fun j => if j < m then g j else 0
theorem val_ext (g : Nat → Nat) (m n : Nat) (h : m ≤ n) : val (ext g m) n = val g m := by
  induction n with
  | zero => obtain rfl : m = 0 := by omega
            rfl
  | succ n ih =>
    by_cases e : m = n + 1
    · subst e; exact val_congr fun i hi => by simp [ext, hi]
    · rw [val, ih (by omega)]; simp [ext, show ¬ n < m by omega]
theorem nat_out {w wx : World} {b n N : Nat} {s : Nat → Nat} (hr : Rd wx (some ⟨b, 0, none⟩) n s) (hb : Below w.heap.size w wx) (ds : Dig s n) (hn : n ≤ 100000000000) (hv : val s n = N) :
    NatOut w N (.returned (.slice (some ⟨b, 0, none⟩) (tln s n) n)) wx :=
  ⟨_, _, _, rfl, ⟨tln_le s n, hn, s, hr.take (tln_le s n), fun i hi => ds i (by have := tln_le s n; omega), tln_trm s n, (tln_val s n).trans hv⟩, hb⟩
end Go.Proofs.YtfcdekkoeeaolaaDoor

namespace Go.Proofs.YtfcdekkoeeaolaaDoor
open Go.RowKit

def cmpN (a b : Nat) : Int := if a < b then -1 else if b < a then 1 else 0

theorem val_lt_len {f g : Nat → Nat} {n m : Nat} (hf : Dig f n) (hg : Trm g m) (h : n < m) : val f n < val g m := by
  have h1 := val_lt hf
  have h2 := val_ge (f := g) (n := m) (by omega) (hg (by omega))
  have h3 : 4294967296 ^ n ≤ 4294967296 ^ (m - 1) := Nat.pow_le_pow_right (by omega) (by omega)
  omega

theorem val_lt_at {f g : Nat → Nat} {n i : Nat} (hf : Dig f n) (hi : i < n) (h : f i < g i) (he : ∀ j, i < j → j < n → f j = g j) : val f n < val g n := by
  induction n with
  | zero => omega
  | succ n ih =>
    rw [val, val]
    by_cases e : i = n
    · subst e
      have h1 := val_lt (f := f) (n := i) (fun j hj => hf j (by omega))
      have h2 : (f i + 1) * 4294967296 ^ i ≤ g i * 4294967296 ^ i := Nat.mul_le_mul_right _ (by omega)
      rw [Nat.add_mul, Nat.one_mul] at h2
      omega
    · have h1 := ih (fun j hj => hf j (by omega)) (by omega) (fun j a b => he j a (by omega))
      rw [he n (by omega) (by omega)]
      omega

theorem cmpN_len {f g : Nat → Nat} {n m : Nat} (hf : Dig f n) (hg : Dig g m) (tf : Trm f n) (tg : Trm g m) (h : n ≠ m) : cmpN (val f n) (val g m) = if n < m then -1 else 1 := by
  unfold cmpN
  by_cases hlt : n < m
  · rw [if_pos (val_lt_len hf tg hlt), if_pos hlt]
  · have := val_lt_len hg tf (show m < n by omega)
    rw [if_neg (by omega), if_pos this, if_neg hlt]
theorem cmpN_lss {f g : Nat → Nat} {n i : Nat} (hf : Dig f n) (hi : i < n) (h : f i < g i) (he : ∀ j, i < j → j < n → f j = g j) : cmpN (val f n) (val g n) = -1 := by
  unfold cmpN; rw [if_pos (val_lt_at hf hi h he)]
theorem cmpN_gtr {f g : Nat → Nat} {n i : Nat} (hg : Dig g n) (hi : i < n) (h : g i < f i) (he : ∀ j, i < j → j < n → f j = g j) : cmpN (val f n) (val g n) = 1 := by
  have := val_lt_at hg hi h (fun j a b => (he j a b).symm)
  unfold cmpN; rw [if_neg (by omega), if_pos this]
theorem cmpN_eq {f g : Nat → Nat} {n : Nat} (he : ∀ j, j < n → f j = g j) : cmpN (val f n) (val g n) = 0 := by
  rw [val_congr he]; unfold cmpN; rw [if_neg (by omega), if_neg (by omega)]
end Go.Proofs.YtfcdekkoeeaolaaDoor

namespace Go.Proofs.YtfcdekkoeeaolaaDoor
open Go.RowKit

set_option maxHeartbeats 800000 in
theorem compare_any (A B : Option Addr) (n m c d N M : Nat) (w : World) (hA : IsNat w A n c N) (hB : IsNat w B m d M) :
    Calls Tryd.prog 48 #[.slice A n c, .slice B m d] w fun e w' => e = .returned (.int .i64 (cmpN N M)) ∧ ∃ k, w' = w.drewN k := by
  obtain ⟨hn, hc, f, ⟨b, off, hAe, hcell⟩, df, tf, rfl⟩ := hA
  obtain ⟨hm, hd, g, ⟨b', off', hBe, hcell'⟩, dg, tg, rfl⟩ := hB
  by_cases hne : n = m
  · subst hne
    have hne' : ((n : Int) != (n : Int)) = false := by simp
    go_enter Tryd.func48, Tryd.ntmps48
    go_wp2
    go_loopg [5] n (fun k i wx => (∃ q, wx = w.drewN q) ∧ k ≤ n ∧ i = .int .i64 ((k : Int) - 1) ∧ ∀ j, k ≤ j → j < n → f j = g j)
    case atStart => exact ⟨⟨0, rfl⟩, Nat.le_refl _, by go_num, fun j a b => by omega⟩
    case round =>
      obtain ⟨⟨q, rfl⟩, hk, rfl, he⟩ := hrel
      rcases gk with _ | k
      · have hv := cmpN_eq (f := f) (g := g) (n := n) (fun j hj => he j (Nat.zero_le _) hj)
        have Hv : Hid (cmpN (val f n) (val g n) = 0) := hv
        clear hv he
        go_wp2
        go_ret
        exact ⟨by rw [Hv.out]; rfl, q, rfl⟩
      · obtain rfl := hAe (by omega)
        obtain rfl := hBe (by omega)
        have hx := hcell k (by omega)
        have hy := hcell' k (by omega)
        by_cases h1 : f k < g k
        · have hv := cmpN_lss df (show k < n by omega) h1 he
          have Hv : Hid (cmpN (val f n) (val g n) = -1) := hv
          clear hv he
          go_wp2
          go_quiet (fail)
          go_wp2
          go_ret
          exact ⟨by rw [Hv.out]; rfl, _, World.drewN_drewN ..⟩
        · by_cases h2 : g k < f k
          · have hv := cmpN_gtr dg (show k < n by omega) h2 he
            have Hv : Hid (cmpN (val f n) (val g n) = 1) := hv
            clear hv he
            go_wp2
            go_quiet (fail)
            go_wp2
            go_quiet (fail)
            go_wp2
            go_ret
            exact ⟨by rw [Hv.out]; rfl, _, (by rw [World.drewN_drewN, World.drewN_drewN])⟩
          · have He : Hid (∀ j, k ≤ j → j < n → f j = g j) := fun j a b => by
              by_cases e : j = k
              · subst e; omega
              · exact he j (by omega) b
            clear he
            go_wp2
            go_quiet (fail)
            go_wp2
            go_quiet (fail)
            go_wp2
            go_roundg k
            case measure => omega
            case rel => exact ⟨⟨_, rfl⟩, by omega, by go_num, He.out⟩
  · have hne' : ((n : Int) != (m : Int)) = true := by simp; omega
    have hv := cmpN_len df dg tf tg hne
    have Hv : Hid (cmpN (val f n) (val g m) = if n < m then -1 else 1) := hv
    clear hv
    by_cases hlt : n < m
    · go_enter Tryd.func48, Tryd.ntmps48
      go_wp2
      go_ret
      exact ⟨by rw [Hv.out, if_pos hlt]; rfl, 0, rfl⟩
    · go_enter Tryd.func48, Tryd.ntmps48
      go_wp2
      go_ret
      exact ⟨by rw [Hv.out, if_neg hlt]; rfl, 0, rfl⟩
end Go.Proofs.YtfcdekkoeeaolaaDoor
