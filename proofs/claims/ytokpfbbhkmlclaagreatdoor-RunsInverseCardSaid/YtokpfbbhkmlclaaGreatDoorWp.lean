/- Periods and roots of strings: plain facts on lists. No condition. -/
import Derived.Test.YtokpfbbhkmlclaaGreatDoorWk
namespace Go.Proofs.YtokpfbbhkmlclaaGreatDoor

/-- A list repeats itself with a period. -/
def Per (w : List UInt8) (p : Nat) : Prop := ∀ i, i + p < w.length → w[i]? = w[i + p]?
theorem per_suf {w : List UInt8} {k : Nat} (hk : k ≤ w.length) : Suf w w k ↔ Per w (w.length - k) := by
  unfold Suf Per
  rw [List.suffix_iff_eq_drop, List.length_take, Nat.min_eq_left hk]
  constructor
  · rintro ⟨-, h⟩ i hi
    have h1 := congrArg (fun l => l[i]?) h
    simp only [List.getElem?_drop] at h1
    rw [List.getElem?_take_of_lt (by omega)] at h1
    rw [h1, Nat.add_comm]
  · intro h
    refine ⟨hk, List.ext_getElem? fun i => ?_⟩
    rw [List.getElem?_drop]
    rcases Nat.lt_or_ge i k with h1 | h1
    · rw [List.getElem?_take_of_lt h1, h i (by omega), Nat.add_comm]
    · rw [List.getElem?_eq_none (by rw [List.length_take]; omega), List.getElem?_eq_none (by omega)]
theorem per_same {w : List UInt8} {n : Nat} (hn : n ≤ w.length) : w.drop n = w.take (w.length - n) ↔ Per w n := by
  have h := per_suf (w := w) (k := w.length - n) (by omega)
  unfold Suf at h
  rw [List.suffix_iff_eq_drop, List.length_take, Nat.min_eq_left (by omega), show w.length - (w.length - n) = n by omega] at h
  rw [← h]
  exact ⟨fun e => ⟨by omega, e.symm⟩, fun e => e.2.symm⟩
/-- The period. -/
def per (w : List UInt8) : Nat := w.length - bord w
theorem per_pos {w : List UInt8} (h : w ≠ []) : 0 < per w := by
  have := bord_le w
  have := List.length_pos_iff.2 h
  unfold per
  omega
theorem per_le (w : List UInt8) : per w ≤ w.length := Nat.sub_le _ _
theorem per_is (w : List UInt8) : Per w (per w) := (per_suf (bord_suf w).1).1 (bord_suf w)
theorem per_least {w : List UInt8} {q : Nat} (hq : 0 < q) (h : Per w q) (hw : w ≠ []) : per w ≤ q := by
  rcases Nat.lt_or_ge w.length q with h1 | h1
  · have := per_le w; omega
  · have h2 := (per_suf (w := w) (k := w.length - q) (by omega)).2 (by rwa [show w.length - (w.length - q) = q by omega])
    have := le_bord (by have := List.length_pos_iff.2 hw; omega) h2
    unfold per
    omega

/-- Fine and Wilf's theorem, for a length of at least the sum. -/
theorem per_gcd {w : List UInt8} : ∀ (n p q : Nat), p + q ≤ n → 0 < p → 0 < q → p + q ≤ w.length → Per w p → Per w q → Per w (Nat.gcd p q) := by
  intro n
  induction n with
  | zero => intro p q h1 h2; omega
  | succ n ih =>
    have main : ∀ p q, p + q ≤ n + 1 → 0 < p → p < q → p + q ≤ w.length → Per w p → Per w q → Per w (Nat.gcd p q) := by
      intro p q h1 h2 h3 h4 h5 h6
      have h7 : Per w (q - p) := by
        intro i hi
        rcases Nat.lt_or_ge i p with h8 | h8
        · rw [h6 i (by omega), h5 (i + (q - p)) (by omega)]
          congr 1; omega
        · have e1 := h5 (i - p) (by omega)
          have e2 := h6 (i - p) (by omega)
          rw [show i - p + p = i by omega] at e1
          rw [← e1, e2]
          congr 1; omega
      have h8 := ih p (q - p) (by omega) h2 (by omega) (by omega) h5 h7
      rwa [Nat.gcd_sub_self_right (by omega)] at h8
    intro p q h1 h2 h3 h4 h5 h6
    rcases Nat.lt_trichotomy p q with h | h | h
    · exact main p q h1 h2 h h4 h5 h6
    · subst h; rwa [Nat.gcd_self]
    · rw [Nat.gcd_comm]; exact main q p (by omega) h3 h (by omega) h6 h5

/-- Copies of a list. -/
def rp (a : List UInt8) : Nat → List UInt8
  | 0 => []
  | n + 1 => a ++ rp a n
theorem rp_len (a : List UInt8) (n : Nat) : (rp a n).length = n * a.length := by
  induction n with
  | zero => simp [rp]
  | succ n ih => rw [rp, List.length_append, ih, Nat.succ_mul, Nat.add_comm]
theorem rp_one (a : List UInt8) : rp a 1 = a := by simp [rp]
theorem rp_add (a : List UInt8) (m n : Nat) : rp a (m + n) = rp a m ++ rp a n := by
  induction m with
  | zero => simp [rp]
  | succ m ih => rw [Nat.succ_add, rp, ih, rp, List.append_assoc]
theorem rp_mul (a : List UInt8) (m n : Nat) : rp (rp a m) n = rp a (m * n) := by
  induction n with
  | zero => rfl
  | succ n ih => rw [rp, ih, ← rp_add]; congr 1; rw [Nat.mul_succ, Nat.add_comm]
theorem rp_per (a : List UInt8) (n : Nat) : Per (rp a n) a.length := by
  intro i hi
  rcases n with _ | n
  · simp [rp] at hi
  · have h1 : rp a (n + 1) = rp a n ++ a := by rw [rp_add, rp_one]
    conv => rhs; rw [rp]
    rw [List.getElem?_append_right (by omega), Nat.add_sub_cancel, h1, List.getElem?_append_left]
    rw [rp_len, Nat.succ_mul] at hi
    rw [rp_len]
    omega
theorem per_take {w : List UInt8} {p n : Nat} (h : Per w p) : Per (w.take n) p := by
  intro i hi
  rw [List.length_take] at hi
  rw [List.getElem?_take_of_lt (by omega), List.getElem?_take_of_lt (by omega)]
  exact h i (by omega)
theorem per_drop {w : List UInt8} {p n : Nat} (h : Per w p) : Per (w.drop n) p := by
  intro i hi
  rw [List.length_drop] at hi
  rw [List.getElem?_drop, List.getElem?_drop, h (n + i) (by omega), Nat.add_assoc]
theorem rp_of_per : ∀ (n p : Nat) (w : List UInt8), w.length = n * p → Per w p → w = rp (w.take p) n := by
  intro n
  induction n with
  | zero => intro p w h _; rw [Nat.zero_mul] at h; rw [List.eq_nil_of_length_eq_zero h]; rfl
  | succ n ih =>
    intro p w h h1
    rw [Nat.succ_mul] at h
    rcases n with _ | n
    · rw [rp_one, List.take_of_length_le (by omega)]
    · have h2 := ih p (w.drop p) (by rw [List.length_drop]; omega) (per_drop h1)
      have h3 : (w.drop p).take p = w.take p := by
        refine List.ext_getElem? fun i => ?_
        rw [Nat.succ_mul] at h
        rcases Nat.lt_or_ge i p with h4 | h4
        · rw [List.getElem?_take_of_lt h4, List.getElem?_take_of_lt h4, List.getElem?_drop, h1 i (by omega), Nat.add_comm]
        · rw [List.getElem?_eq_none (by rw [List.length_take]; omega), List.getElem?_eq_none (by rw [List.length_take]; omega)]
      rw [h3] at h2
      rw [rp, ← h2, List.take_append_drop]

/-- The length of the root. -/
def rlen (w : List UInt8) : Nat := if w.length % per w = 0 then per w else w.length
theorem rlen_pos {w : List UInt8} (h : w ≠ []) : 0 < rlen w := by
  unfold rlen
  split
  · exact per_pos h
  · exact List.length_pos_iff.2 h
theorem rlen_dvd (w : List UInt8) : rlen w ∣ w.length := by
  unfold rlen
  split
  · next h => exact Nat.dvd_of_mod_eq_zero h
  · exact Nat.dvd_refl _
theorem per_self (w : List UInt8) : Per w w.length := fun i hi => by omega
theorem rlen_per (w : List UInt8) : Per w (rlen w) := by
  unfold rlen
  split
  · exact per_is w
  · exact per_self w
theorem rlen_le {w : List UInt8} (h : w ≠ []) : rlen w ≤ w.length := Nat.le_of_dvd (List.length_pos_iff.2 h) (rlen_dvd w)
/-- It is the least one. -/
theorem rlen_least {w : List UInt8} {q : Nat} (hw : w ≠ []) (hq : 0 < q) (hd : q ∣ w.length) (h : Per w q) : rlen w ≤ q := by
  unfold rlen
  have h1 := per_least hq h hw
  split
  · exact h1
  · next hne =>
    have hl := List.length_pos_iff.2 hw
    obtain ⟨c, hc⟩ := hd
    rcases c with _ | _ | c
    · omega
    · omega
    · have h2 : q + q ≤ w.length := by rw [hc, Nat.mul_add, Nat.mul_add]; omega
      have h3 := per_gcd _ (per w) q (Nat.le_refl _) (per_pos hw) hq (by omega) (per_is w) h
      have h4 := per_least (Nat.gcd_pos_of_pos_left _ (per_pos hw)) h3 hw
      have h5 := Nat.gcd_dvd_left (per w) q
      have h6 := Nat.gcd_dvd_right (per w) q
      have h7 : Nat.gcd (per w) q = per w := Nat.le_antisymm (Nat.le_of_dvd (per_pos hw) h5) h4
      rw [h7] at h6
      exact absurd (Nat.mod_eq_zero_of_dvd (Nat.dvd_trans h6 ⟨_, hc⟩)) hne
/-- What divides the length and is a period is a multiple of the root's length. -/
theorem rlen_one {w : List UInt8} {r : Nat} (hw : w ≠ []) (h0 : 0 < r) (h1 : r ∣ w.length) (h2 : Per w r) (h3 : ∀ q, 0 < q → q ∣ w.length → Per w q → r ≤ q) : rlen w = r :=
  Nat.le_antisymm (rlen_least hw h0 h1 h2) (h3 _ (rlen_pos hw) (rlen_dvd w) (rlen_per w))
def rootL (w : List UInt8) : List UInt8 := w.take (rlen w)
def rootN (w : List UInt8) : Nat := w.length / rlen w
theorem rootL_len {w : List UInt8} (hw : w ≠ []) : (rootL w).length = rlen w := by
  unfold rootL; rw [List.length_take, Nat.min_eq_left (rlen_le hw)]
theorem rootN_mul (w : List UInt8) : rootN w * rlen w = w.length := Nat.div_mul_cancel (rlen_dvd w)
theorem root_rp (w : List UInt8) : rp (rootL w) (rootN w) = w := (rp_of_per _ _ w (rootN_mul w).symm (rlen_per w)).symm
theorem rootN_pos {w : List UInt8} (hw : w ≠ []) : 0 < rootN w := by
  have h1 := rootN_mul w
  have h2 := List.length_pos_iff.2 hw
  rcases Nat.eq_zero_or_pos (rootN w) with h | h
  · rw [h] at h1; omega
  · exact h
theorem rootN_le (w : List UInt8) : rootN w ≤ w.length := Nat.div_le_self _ _
theorem rootL_ne {w : List UInt8} (hw : w ≠ []) : rootL w ≠ [] := fun h => by
  have h1 := rootL_len hw
  have h2 := rlen_pos hw
  rw [h] at h1
  simp at h1
  omega
theorem rp_ne {w : List UInt8} (hw : w ≠ []) {n : Nat} (hn : 0 < n) : rp w n ≠ [] := fun h => by
  have h1 := rp_len w n
  rw [h] at h1
  have h2 := Nat.mul_pos hn (List.length_pos_iff.2 hw)
  simp at h1
  omega
theorem rlen_rp {w : List UInt8} (hw : w ≠ []) {n : Nat} (hn : 0 < n) : rlen (rp w n) = rlen w := by
  have hd : rlen w ∣ (rp w n).length := by rw [rp_len]; exact Nat.dvd_trans (rlen_dvd w) (Nat.dvd_mul_left _ _)
  have hp : Per (rp w n) (rlen w) := by
    have h1 : rp w n = rp (rootL w) (rootN w * n) := by rw [← rp_mul, root_rp]
    rw [h1, ← rootL_len hw]
    exact rp_per _ _
  have hne := rp_ne hw hn
  refine rlen_one hne (rlen_pos hw) hd hp fun q h1 h2 h3 => ?_
  -- the root r of the power
  have hr1 := rlen_least hne h1 h2 h3
  have hr2 := rlen_least hne (rlen_pos hw) hd hp
  have hr0 := rlen_pos hne
  refine Nat.le_trans ?_ hr1
  generalize hr : rlen (rp w n) = r at *
  have hrd : r ∣ (rp w n).length := by rw [← hr]; exact rlen_dvd _
  have hrp : Per (rp w n) r := by rw [← hr]; exact rlen_per _
  have hmin : ∀ q, 0 < q → q ∣ (rp w n).length → Per (rp w n) q → r ≤ q := fun q a b c => by rw [← hr]; exact rlen_least hne a b c
  have htk : (rp w n).take w.length = w := by
    obtain ⟨m, rfl⟩ : ∃ m, n = m + 1 := ⟨n - 1, by omega⟩
    rw [rp, List.take_append_of_le_length (Nat.le_refl _), List.take_length]
  have hl := rp_len w n
  have hlw := rlen_le hw
  rcases Nat.lt_or_ge (rp w n).length (r + rlen w) with h4 | h4
  · -- one copy of the root only
    have h5 : w.length ≤ n * w.length := Nat.le_mul_of_pos_left _ hn
    obtain ⟨c, hc⟩ := hd
    rcases c with _ | _ | c
    · have := Nat.mul_pos hn (List.length_pos_iff.2 hw); omega
    · obtain ⟨d, hd⟩ := id hrd
      rcases d with _ | _ | d
      · have := Nat.mul_pos hn (List.length_pos_iff.2 hw); omega
      · omega
      · rw [Nat.mul_add, Nat.mul_add] at hd
        have h6 : (rp w n).length = rlen w := by omega
        have h7 : w.length = rlen w := by omega
        have h8 : rp w n = w := by
          have := htk
          rwa [List.take_of_length_le (by omega)] at this
        have := rlen_least hw hr0 (by rw [← h8]; exact hrd) (by rw [← h8]; exact hrp)
        exact this
    · rw [Nat.mul_add, Nat.mul_add] at hc
      omega
  · have h5 := per_gcd _ r (rlen w) (Nat.le_refl _) hr0 (rlen_pos hw) h4 hrp hp
    have h6 := hmin _ (Nat.gcd_pos_of_pos_left _ hr0) (Nat.dvd_trans (Nat.gcd_dvd_left _ _) hrd) h5
    have h7 : Nat.gcd r (rlen w) = r := Nat.le_antisymm (Nat.le_of_dvd hr0 (Nat.gcd_dvd_left _ _)) h6
    have h8 := Nat.gcd_dvd_right r (rlen w)
    rw [h7] at h8
    refine rlen_least hw hr0 (Nat.dvd_trans h8 (rlen_dvd w)) ?_
    have := per_take (n := w.length) hrp
    rwa [htk] at this
theorem rootL_rp {w : List UInt8} (hw : w ≠ []) {n : Nat} (hn : 0 < n) : rootL (rp w n) = rootL w := by
  unfold rootL
  rw [rlen_rp hw hn]
  obtain ⟨m, rfl⟩ : ∃ m, n = m + 1 := ⟨n - 1, by omega⟩
  rw [rp, List.take_append_of_le_length (rlen_le hw)]
theorem rootN_rp {w : List UInt8} (hw : w ≠ []) {n : Nat} (hn : 0 < n) : rootN (rp w n) = rootN w * n := by
  unfold rootN
  rw [rlen_rp hw hn, rp_len]
  conv => lhs; rw [← rootN_mul w]
  rw [← Nat.mul_assoc, Nat.mul_div_cancel _ (rlen_pos hw), Nat.mul_comm]
  rfl
theorem root_again {w : List UInt8} (hw : w ≠ []) : rootL (rootL w) = rootL w ∧ rootN (rootL w) = 1 := by
  have h1 := rootL_rp (rootL_ne hw) (rootN_pos hw)
  have h2 := rootN_rp (rootL_ne hw) (rootN_pos hw)
  rw [root_rp] at h1 h2
  refine ⟨h1.symm, ?_⟩
  have h3 := rootN_pos hw
  have h4 : rootN w * 1 = rootN w * rootN (rootL w) := by rw [Nat.mul_one]; conv => lhs; rw [h2]
                                                          exact Nat.mul_comm _ _
  exact (Nat.eq_of_mul_eq_mul_left h3 h4).symm
theorem comm_root {w u : List UInt8} (hw : w ≠ []) (hu : u ≠ []) : w ++ u = u ++ w ↔ rootL w = rootL u := by
  constructor
  · intro h
    have lw := List.length_pos_iff.2 hw
    have lu := List.length_pos_iff.2 hu
    have p1 : Per (w ++ u) u.length := by
      have := (per_suf (w := w ++ u) (k := w.length) (by simp)).1 ⟨by simp, by rw [List.take_left]; rw [h]; exact List.suffix_append _ _⟩
      rwa [List.length_append, Nat.add_sub_cancel_left] at this
    have p2 : Per (w ++ u) w.length := by
      have := (per_suf (w := w ++ u) (k := u.length) (by simp)).1 ⟨by simp, by conv => lhs; rw [h]
                                                                               rw [List.take_left]; exact List.suffix_append _ _⟩
      rwa [List.length_append, Nat.add_sub_cancel] at this
    have p3 := per_gcd _ w.length u.length (Nat.le_refl _) lw lu (by rw [List.length_append]; exact Nat.le_refl _) p2 p1
    generalize hg : Nat.gcd w.length u.length = g at p3
    have g0 : 0 < g := by rw [← hg]; exact Nat.gcd_pos_of_pos_left _ lw
    obtain ⟨a, ha⟩ : g ∣ w.length := by rw [← hg]; exact Nat.gcd_dvd_left _ _
    obtain ⟨b, hb⟩ : g ∣ u.length := by rw [← hg]; exact Nat.gcd_dvd_right _ _
    have a0 : 0 < a := by rcases Nat.eq_zero_or_pos a with h | h; (· rw [h] at ha; omega); exact h
    have b0 : 0 < b := by rcases Nat.eq_zero_or_pos b with h | h; (· rw [h] at hb; omega); exact h
    have gw : g ≤ w.length := by rw [ha]; exact Nat.le_mul_of_pos_right _ a0
    have gu : g ≤ u.length := by rw [hb]; exact Nat.le_mul_of_pos_right _ b0
    have e1 : w = rp (w.take g) a := rp_of_per a g w (by rw [ha, Nat.mul_comm]) (by have := per_take (n := w.length) p3; rwa [List.take_left] at this)
    have e2 : u = rp (u.take g) b := rp_of_per b g u (by rw [hb, Nat.mul_comm]) (by have := per_drop (n := w.length) p3; rwa [List.drop_left] at this)
    have e3 : w.take g = u.take g := by
      have := congrArg (List.take g) h
      rwa [List.take_append_of_le_length gw, List.take_append_of_le_length gu] at this
    have hne : w.take g ≠ [] := by
      intro e
      have h9 : (w.take g).length = 0 := by rw [e]; rfl
      rw [List.length_take, Nat.min_eq_left gw] at h9
      omega
    have f1 := rootL_rp hne a0
    have f2 := rootL_rp (by rwa [e3] at hne) b0
    rw [← e1] at f1
    rw [← e2, ← e3] at f2
    rw [f1, f2]
  · intro h
    have h1 := root_rp w
    have h2 := root_rp u
    rw [← h] at h2
    rw [← h1, ← h2, ← rp_add, ← rp_add, Nat.add_comm]
end Go.Proofs.YtokpfbbhkmlclaaGreatDoor
