/- What word.Unrank returns for words of at most 30 letters. Condition: so many letters, or an error. The order of words: plain facts on lists. No condition. What the laws' rows and cards share: the tables, a world that holds them, and integers among the arguments. No condition. -/
import Derived.Test.YtigdjlhihhakmaaDoorQ23
import Derived.Test.YtigdjlhihhakmaaDoorQ02
import Derived.Test.YtigdjlhihhakmaaDoorCards
import Derived.Test.YtigdjlhihhakmaaDoorTie
import Derived.WalkKit
import Derived.ProofKit
import Derived.OpenShut
import Derived.Deep.DeepHandedRow
import Derived.Lib.LaidTab
import Derived.Lib.ItoaNum
import Derived.Stop.LaidErr
import Derived.Below
import Derived.Lib.SmallJoins

namespace Go.Proofs.YtigdjlhihhakmaaDoor
open Go.RowKit
set_option linter.unusedSimpArgs false
set_option linter.unusedVariables false

theorem unrank_30 (q n z : Nat) (w : World) (q1 : 1 ≤ q) (q2 : q ≤ 16) (hn : n ≤ 30) (hz : z < q ^ n) :
    Calls Tryd.prog 58 #[.int .i64 (q : Int), .int .i64 (n : Int), .agg #[.bool (sg (z : Int)), .string (mg (z : Int))]] w (StrOut w (unrk q n z)) := by
  rcases Nat.lt_or_ge 15 n with h | h
  · exact unrank_mid q n z w q1 q2 h hn hz
  · exact unrank_short q n z w q1 q2 h hz
/-- A variable with an integer's cells, and what lies below. -/
def AB (w : World) (p : Nat) (g : Bool) (s : ByteArray) (W : World) : Prop := (Below w.heap.size w W ∧ w.heap.size ≤ W.heap.size) ∧ W.cell? ⟨p, 0, none⟩ = some (.bool g) ∧ W.cell? ⟨p, 1, none⟩ = some (.string s)
theorem AB.cells {w W : World} {p : Nat} {g : Bool} {s : ByteArray} (h : AB w p g s W) : W.cell? ⟨p, 0, none⟩ = some (.bool g) ∧ W.cell? ⟨p, 1, none⟩ = some (.string s) := h.2
theorem AB.below {w W : World} {p : Nat} {g : Bool} {s : ByteArray} (h : AB w p g s W) : Below w.heap.size w W := h.1.1
theorem AB.keep {w W X : World} {p : Nat} {g : Bool} {s : ByteArray} (h : AB w p g s W) (b : Below W.heap.size W X) : AB w p g s X :=
  ⟨⟨below_more h.1.1 (Nat.le_refl _) b, Nat.le_trans h.1.2 b.size⟩, cell_keep h.2.1 b, cell_keep h.2.2 b⟩
theorem AB.drew {w W : World} {p : Nat} {g : Bool} {s : ByteArray} (h : AB w p g s W) : AB w p g s W.drew := h.keep (Below.refl _ _).drew
theorem AB.box (w : World) (g : Bool) (s : ByteArray) : AB w w.heap.size g s (w.alloc (.cells #[.bool g, .string s] 43)) := ⟨⟨below1 w _, by rw [World.size_alloc]; omega⟩, cell_two0 _ _ _ _, cell_two1 _ _ _ _⟩
theorem isInt_raw (g : Bool) (s : ByteArray) {k : Nat} (h : s.size ≤ 4 * k) (hk : k ≤ 10000000) : IsInt (.agg #[.bool g, .string s]) (zv g s) k := by
  have hl : s.data.toList.length ≤ 4 * k := Nat.le_trans (Nat.le_of_eq Array.length_toList) h
  refine ⟨g, s, rfl, rfl, by omega, ?_, hk⟩
  rw [natAbs_zv, b256]
  exact Nat.lt_of_lt_of_le (vB_lt s.data.toList) (Nat.pow_le_pow_right (by omega) hl)
/-- What Unrank returns. -/
def unrV (q n : Int) (g : Bool) (s : ByteArray) : List UInt8 × Int :=
  if chkL q n ≠ 0 then ([], chkL q n) else if checkN g s ≠ 0 then ([], 1) else if g = true ∨ ((q.toNat ^ n.toNat : Nat) : Int) ≤ zv g s then ([], 2) else (unrk q.toNat n.toNat (zv g s).toNat, 0)
set_option maxRecDepth 100000 in
set_option maxHeartbeats 3200000 in
theorem Unrank_len (q n : Int) (g : Bool) (s : ByteArray) (w : World) (h : chkL q n ≠ 0) :
    Calls Tryd.prog 32 #[.int .i64 q, .int .i64 n, .agg #[.bool g, .string s]] w (TxOut w ([], chkL q n)) := by
  have HC := Lib.hid (fun W => checkLength_any q n W)
  obtain ⟨c, hc⟩ : ∃ c, chkL q n = c := ⟨_, rfl⟩
  simp only [hc] at HC
  rw [hc] at h ⊢
  have h1 : (c == 0) = false := by rw [beq_eq_false_iff_ne]; exact h
  clear hc h
  have K := AB.box w g s
  go_enter Tryd.func32, Tryd.ntmps32
  go_wp2_with (go_at_call 42; (with_reducible refine (HC.out _).mono ?_); rintro e W1 ⟨rfl, hW⟩; (rw [hW]); (clear hW))
  exact bodyPost_ret (v := .tuple #[.string ⟨#[]⟩, .int .i64 c]) (by simp [results, Tryd.results32, go_sem]) rfl ⟨rfl, K.below⟩
set_option maxRecDepth 100000 in
set_option maxHeartbeats 3200000 in
theorem Unrank_bad (q n : Int) (g : Bool) (s : ByteArray) (w : World) (h : chkL q n = 0) (h2 : checkN g s ≠ 0) :
    Calls Tryd.prog 32 #[.int .i64 q, .int .i64 n, .agg #[.bool g, .string s]] w (TxOut w ([], 1)) := by
  have HC := Lib.hid (fun W => checkLength_any q n W)
  simp only [h] at HC
  have HK := Lib.hid (fun W => check_int g s W)
  obtain ⟨c, hc⟩ : ∃ c, checkN g s = c := ⟨_, rfl⟩
  simp only [hc] at HK
  rw [hc] at h2
  have h1 : (c == 0) = false := by rw [beq_eq_false_iff_ne]; exact h2
  clear hc h2 h
  have K := AB.box w g s
  obtain ⟨x1, x2⟩ := K.cells
  go_enter Tryd.func32, Tryd.ntmps32
  go_wp2_with (first
    | (go_at_call 42; (with_reducible refine (HC.out _).mono ?_); rintro e W1 ⟨rfl, hW⟩; (rw [hW]); (clear hW))
    | (go_at_call 55; (with_reducible refine (HK.out _).mono ?_); rintro e W2 ⟨rfl, b2⟩))
  exact bodyPost_ret (v := .tuple #[.string ⟨#[]⟩, .int .i64 1]) (by simp [results, Tryd.results32, go_sem]) rfl ⟨rfl, (K.keep b2).below⟩
set_option maxRecDepth 100000 in
set_option maxHeartbeats 12800000 in
theorem Unrank_neg (q n : Int) (s : ByteArray) (w : World) (h : chkL q n = 0) (h2 : checkN true s = 0) :
    Calls Tryd.prog 32 #[.int .i64 q, .int .i64 n, .agg #[.bool true, .string s]] w (TxOut w ([], 2)) := by
  have HC := Lib.hid (fun W => checkLength_any q n W)
  simp only [h] at HC
  have HK := Lib.hid (fun W => check_int true s W)
  simp only [h2] at HK
  clear h h2
  have K := AB.box w true s
  have hmx : Tryd.prog.follows .mixedOrders = true := by kernel_rfl
  go_enter Tryd.func32, Tryd.ntmps32
  go_upto_region 4 with (go_at_call 42; (with_reducible refine (HC.out _).mono ?_); rintro e W1 ⟨rfl, hW⟩; (rw [hW]); (clear hW))
  obtain ⟨x1, x2⟩ := K.cells
  go_upto_region 6 with (go_at_call 55; (with_reducible refine (HK.out _).mono ?_); rintro e W2 ⟨rfl, b2⟩)
  have KB := (K.keep b2).drew
  clear K x1 x2 b2
  refine region_inv' (J := (fun L a wx => ∃ u18 u19 u20 u21 u22 u23 u24 u25 u26 u27, a = { tmps := #[.int .i64 q, .int .i64 n, .agg #[.bool true, .string s], undef, undef, .pointer (some ⟨w.heap.size, 0, none⟩), .string ⟨#[]⟩, .int .i64 0, .int .i64 0, .int .i64 q, .int .i64 n, .int .i64 0, .int .i64 0, .bool false, undef, .agg #[.bool true, .string s], .int .i64 0, .bool false, u18, u19, u20, u21, u22, u23, u24, u25, u26, u27, undef, undef, undef, undef], defers := [] } ∧ AB w w.heap.size true s wx ∧
      (L.getD 0 false = true → u18 = .pointer (some ⟨w.heap.size, 0, none⟩)) ∧ (L.getD 1 false = true → u19 = .bool true) ∧ (L.getD 2 false = true → u20 = .bool true) ∧ (L.getD 9 false = true → u27 = .bool true))) hmx (by kernel_rfl) ?_ ?_ ?_
  · exact ⟨undef, undef, undef, undef, undef, undef, undef, undef, undef, undef, rfl, KB, fun h => absurd h (by decide), fun h => absurd h (by decide), fun h => absurd h (by decide), fun h => absurd h (by decide)⟩
  · intro i hi L a wx hl hw ⟨u18, u19, u20, u21, u22, u23, u24, u25, u26, u27, ha, lo, c0, c1, c2, c9⟩
    subst ha
    obtain ⟨x1, x2⟩ := lo.cells
    clear KB
    have hi' : i = 0 ∨ i = 1 ∨ i = 2 ∨ i = 3 ∨ i = 4 ∨ i = 5 ∨ i = 6 ∨ i = 7 ∨ i = 8 ∨ i = 9 := by
      have : i < 10 := hi
      omega
    rcases hi' with rfl | rfl | rfl | rfl | rfl | rfl | rfl | rfl | rfl | rfl
    · refine stepJ (i := 0) rfl (fun K hK => ?_)
      go_simp
      refine hK.out _ _ ⟨_, u19, u20, u21, u22, u23, u24, u25, u26, u27, rfl, lo, fun _ => rfl, fun h => c1 (fl (by decide) h), fun h => c2 (fl (by decide) h), fun h => c9 (fl (by decide) h)⟩
    · refine stepJ (i := 1) rfl (fun K hK => ?_)
      obtain rfl := c0 (hw 0 (by kernel_rfl))
      go_simp
      refine hK.out _ _ ⟨_, _, u20, u21, u22, u23, u24, u25, u26, u27, rfl, lo, fun _ => rfl, fun _ => rfl, fun h => c2 (fl (by decide) h), fun h => c9 (fl (by decide) h)⟩
    · refine stepJ (i := 2) rfl (fun K hK => ?_)
      obtain rfl := c1 (hw 1 (by kernel_rfl))
      go_simp
      refine hK.out _ _ ⟨u18, _, _, u21, u22, u23, u24, u25, u26, u27, rfl, lo, fun h => c0 (fl (by decide) h), fun _ => rfl, fun _ => rfl, fun h => c9 (fl (by decide) h)⟩
    · refine stepJ (i := 3) rfl (fun K hK => ?_)
      obtain rfl := c2 (hw 2 (by kernel_rfl))
      go_simp
      refine hK.out _ _ ⟨u18, u19, _, _, u22, u23, u24, u25, u26, u27, rfl, lo, fun h => c0 (fl (by decide) h), fun h => c1 (fl (by decide) h), fun _ => rfl, fun h => c9 (fl (by decide) h)⟩
    · refine stepJ (i := 4) rfl (fun K hK => ?_)
      obtain rfl := c2 (hw 2 (by kernel_rfl))
      go_simp
      refine hK.out _ _ ⟨u18, u19, _, u21, _, u23, u24, u25, u26, u27, rfl, lo, fun h => c0 (fl (by decide) h), fun h => c1 (fl (by decide) h), fun _ => rfl, fun h => c9 (fl (by decide) h)⟩
    · refine stepJ (i := 5) rfl (fun K hK => ?_)
      obtain rfl := c2 (hw 2 (by kernel_rfl))
      go_simp
      refine hK.out _ _ ⟨u18, u19, _, u21, u22, _, u24, u25, u26, u27, rfl, lo, fun h => c0 (fl (by decide) h), fun h => c1 (fl (by decide) h), fun _ => rfl, fun h => c9 (fl (by decide) h)⟩
    · refine stepJ (i := 6) rfl (fun K hK => ?_)
      obtain rfl := c2 (hw 2 (by kernel_rfl))
      go_simp
      refine hK.out _ _ ⟨u18, u19, _, u21, u22, u23, _, u25, u26, u27, rfl, lo, fun h => c0 (fl (by decide) h), fun h => c1 (fl (by decide) h), fun _ => rfl, fun h => c9 (fl (by decide) h)⟩
    · refine stepJ (i := 7) rfl (fun K hK => ?_)
      obtain rfl := c2 (hw 2 (by kernel_rfl))
      go_simp
      refine hK.out _ _ ⟨u18, u19, _, u21, u22, u23, u24, _, u26, u27, rfl, lo, fun h => c0 (fl (by decide) h), fun h => c1 (fl (by decide) h), fun _ => rfl, fun h => c9 (fl (by decide) h)⟩
    · refine stepJ (i := 8) rfl (fun K hK => ?_)
      obtain rfl := c2 (hw 2 (by kernel_rfl))
      go_simp
      refine hK.out _ _ ⟨u18, u19, _, u21, u22, u23, u24, u25, _, u27, rfl, lo, fun h => c0 (fl (by decide) h), fun h => c1 (fl (by decide) h), fun _ => rfl, fun h => c9 (fl (by decide) h)⟩
    · refine stepJ (i := 9) rfl (fun K hK => ?_)
      obtain rfl := c2 (hw 2 (by kernel_rfl))
      go_simp
      refine hK.out _ _ ⟨u18, u19, _, u21, u22, u23, u24, u25, u26, _, rfl, lo, fun h => c0 (fl (by decide) h), fun h => c1 (fl (by decide) h), fun _ => rfl, fun _ => rfl⟩
  · rintro L a wx hall ⟨u18, u19, u20, u21, u22, u23, u24, u25, u26, u27, rfl, lo, c0, c1, c2, c9⟩
    obtain rfl := c0 (hall 0 (by decide))
    obtain rfl := c1 (hall 1 (by decide))
    obtain rfl := c2 (hall 2 (by decide))
    obtain rfl := c9 (hall 9 (by decide))
    clear hall c0 c1 c2 c9
    go_wp2
    exact bodyPost_ret (v := .tuple #[.string ⟨#[]⟩, .int .i64 2]) (by simp [results, Tryd.results32, go_sem]) rfl ⟨rfl, lo.below⟩
set_option maxRecDepth 100000 in
set_option maxHeartbeats 12800000 in
theorem Unrank_less (q n : Int) (s : ByteArray) (w : World) (h : chkL q n = 0) (h2 : checkN false s = 0) (z : Int) (hz : zv false s = z) (hk : n.toNat ≤ 30) (hss : s.size ≤ 1000000) (hlt : z < ((q.toNat ^ n.toNat : Nat) : Int)) :
    Calls Tryd.prog 32 #[.int .i64 q, .int .i64 n, .agg #[.bool false, .string s]] w (TxOut w (unrk q.toNat n.toNat z.toNat, 0)) := by
  have HC := Lib.hid (fun W => checkLength_any q n W)
  simp only [h] at HC
  have HK := Lib.hid (fun W => check_int false s W)
  simp only [h2] at HK
  obtain ⟨m, k, rfl, rfl, q1, q2, k2⟩ := chkL_zero h
  have HP := Lib.hid (power_any m q1 q2 k hk)
  have I1 := isInt_raw false s (k := 250000) (by omega) (by omega)
  rw [hz] at I1
  rw [Int.toNat_natCast, Int.toNat_natCast] at hlt
  rw [Int.toNat_natCast] at hk
  have I2 := isInt_pow (n := k) (k := 4) q2 (by omega) (by omega) (by omega) (by omega)
  have HM := Lib.hid (fun W => icmp_any _ _ _ _ 250000 4 W I1 I2)
  simp only [show cmpZ z ((m ^ k : Nat) : Int) = -1 by unfold cmpZ; rw [if_pos hlt]] at HM
  have hzn : ∃ y : Nat, z = (y : Int) := ⟨z.toNat, by have h1 := hz; unfold zv at h1; simp at h1; omega⟩
  obtain ⟨y, rfl⟩ := hzn
  have HU := Lib.hid (fun W => unrank_30 m k y W q1 q2 hk (by omega))
  have hcn : sg (y : Int) = false ∧ mg (y : Int) = s := by
    have h1 := h2
    unfold checkN at h1
    split at h1
    · next h3 => rw [hz] at h3; exact h3
    · cases h1
  simp only [hcn.1, hcn.2] at HU
  rw [Int.toNat_natCast, Int.toNat_natCast, Int.toNat_natCast]
  obtain ⟨R, hR⟩ : ∃ R, unrk m k y = R := ⟨_, rfl⟩
  simp only [hR] at HU
  rw [hR]
  clear hR hcn
  obtain ⟨p, hp⟩ : ∃ p : Int, ((m ^ k : Nat) : Int) = p := ⟨_, rfl⟩
  simp only [hp] at HP HM
  clear hp I1 I2 hlt hz
  obtain ⟨q, hqq⟩ : ∃ q : Int, (m : Int) = q := ⟨_, rfl⟩
  obtain ⟨n, hnn⟩ : ∃ n : Int, (k : Int) = n := ⟨_, rfl⟩
  simp only [hqq, hnn] at HP HC HU
  rw [hqq, hnn]
  rw [hqq, hnn] at h
  clear hqq hnn q1 q2 k2 hk
  clear h h2
  have K := AB.box w false s
  have hmx : Tryd.prog.follows .mixedOrders = true := by kernel_rfl
  go_enter Tryd.func32, Tryd.ntmps32
  go_upto_region 4 with (go_at_call 42; (with_reducible refine (HC.out _).mono ?_); rintro e W1 ⟨rfl, hW⟩; (rw [hW]); (clear hW))
  obtain ⟨x1, x2⟩ := K.cells
  go_upto_region 6 with (go_at_call 55; (with_reducible refine (HK.out _).mono ?_); rintro e W2 ⟨rfl, b2⟩)
  have KB := (K.keep b2).drew
  clear K x1 x2 b2
  refine region_inv' (J := (fun L a wx => ∃ u18 u19 u20 u21 u22 u23 u24 u25 u26 u27, a = { tmps := #[.int .i64 q, .int .i64 n, .agg #[.bool false, .string s], undef, undef, .pointer (some ⟨w.heap.size, 0, none⟩), .string ⟨#[]⟩, .int .i64 0, .int .i64 0, .int .i64 q, .int .i64 n, .int .i64 0, .int .i64 0, .bool false, undef, .agg #[.bool false, .string s], .int .i64 0, .bool false, u18, u19, u20, u21, u22, u23, u24, u25, u26, u27, undef, undef, undef, undef], defers := [] } ∧ AB w w.heap.size false s wx ∧
      (L.getD 0 false = true → u18 = .pointer (some ⟨w.heap.size, 0, none⟩)) ∧ (L.getD 1 false = true → u19 = .bool false) ∧ (L.getD 2 false = true → u20 = .bool false) ∧ (L.getD 3 false = true → u21 = .agg #[.bool false, .string s]) ∧ (L.getD 4 false = true → u22 = .int .i64 q) ∧ (L.getD 5 false = true → u23 = .int .i64 n) ∧ (L.getD 6 false = true → u24 = .agg #[.bool (sg p), .string (mg p)]) ∧ (L.getD 7 false = true → u25 = .int .i64 (-1)) ∧ (L.getD 8 false = true → u26 = .bool false) ∧ (L.getD 9 false = true → u27 = .bool false))) hmx (by kernel_rfl) ?_ ?_ ?_
  · exact ⟨undef, undef, undef, undef, undef, undef, undef, undef, undef, undef, rfl, KB, fun h => absurd h (by decide), fun h => absurd h (by decide), fun h => absurd h (by decide), fun h => absurd h (by decide), fun h => absurd h (by decide), fun h => absurd h (by decide), fun h => absurd h (by decide), fun h => absurd h (by decide), fun h => absurd h (by decide), fun h => absurd h (by decide)⟩
  · intro i hi L a wx hl hw ⟨u18, u19, u20, u21, u22, u23, u24, u25, u26, u27, ha, lo, c0, c1, c2, c3, c4, c5, c6, c7, c8, c9⟩
    subst ha
    obtain ⟨x1, x2⟩ := lo.cells
    clear KB
    have hi' : i = 0 ∨ i = 1 ∨ i = 2 ∨ i = 3 ∨ i = 4 ∨ i = 5 ∨ i = 6 ∨ i = 7 ∨ i = 8 ∨ i = 9 := by
      have : i < 10 := hi
      omega
    rcases hi' with rfl | rfl | rfl | rfl | rfl | rfl | rfl | rfl | rfl | rfl
    · refine stepJ (i := 0) rfl (fun K hK => ?_)
      go_simp
      refine hK.out _ _ ⟨_, u19, u20, u21, u22, u23, u24, u25, u26, u27, rfl, lo, fun _ => rfl, fun h => c1 (fl (by decide) h), fun h => c2 (fl (by decide) h), fun h => c3 (fl (by decide) h), fun h => c4 (fl (by decide) h), fun h => c5 (fl (by decide) h), fun h => c6 (fl (by decide) h), fun h => c7 (fl (by decide) h), fun h => c8 (fl (by decide) h), fun h => c9 (fl (by decide) h)⟩
    · refine stepJ (i := 1) rfl (fun K hK => ?_)
      obtain rfl := c0 (hw 0 (by kernel_rfl))
      go_simp
      refine hK.out _ _ ⟨_, _, u20, u21, u22, u23, u24, u25, u26, u27, rfl, lo, fun _ => rfl, fun _ => rfl, fun h => c2 (fl (by decide) h), fun h => c3 (fl (by decide) h), fun h => c4 (fl (by decide) h), fun h => c5 (fl (by decide) h), fun h => c6 (fl (by decide) h), fun h => c7 (fl (by decide) h), fun h => c8 (fl (by decide) h), fun h => c9 (fl (by decide) h)⟩
    · refine stepJ (i := 2) rfl (fun K hK => ?_)
      obtain rfl := c1 (hw 1 (by kernel_rfl))
      go_simp
      refine hK.out _ _ ⟨u18, _, _, u21, u22, u23, u24, u25, u26, u27, rfl, lo, fun h => c0 (fl (by decide) h), fun _ => rfl, fun _ => rfl, fun h => c3 (fl (by decide) h), fun h => c4 (fl (by decide) h), fun h => c5 (fl (by decide) h), fun h => c6 (fl (by decide) h), fun h => c7 (fl (by decide) h), fun h => c8 (fl (by decide) h), fun h => c9 (fl (by decide) h)⟩
    · refine stepJ (i := 3) rfl (fun K hK => ?_)
      obtain rfl := c2 (hw 2 (by kernel_rfl))
      go_simp
      refine hK.out _ _ ⟨u18, u19, _, _, u22, u23, u24, u25, u26, u27, rfl, lo, fun h => c0 (fl (by decide) h), fun h => c1 (fl (by decide) h), fun _ => rfl, fun _ => rfl, fun h => c4 (fl (by decide) h), fun h => c5 (fl (by decide) h), fun h => c6 (fl (by decide) h), fun h => c7 (fl (by decide) h), fun h => c8 (fl (by decide) h), fun h => c9 (fl (by decide) h)⟩
    · refine stepJ (i := 4) rfl (fun K hK => ?_)
      obtain rfl := c2 (hw 2 (by kernel_rfl))
      go_simp
      refine hK.out _ _ ⟨u18, u19, _, u21, _, u23, u24, u25, u26, u27, rfl, lo, fun h => c0 (fl (by decide) h), fun h => c1 (fl (by decide) h), fun _ => rfl, fun h => c3 (fl (by decide) h), fun _ => rfl, fun h => c5 (fl (by decide) h), fun h => c6 (fl (by decide) h), fun h => c7 (fl (by decide) h), fun h => c8 (fl (by decide) h), fun h => c9 (fl (by decide) h)⟩
    · refine stepJ (i := 5) rfl (fun K hK => ?_)
      obtain rfl := c2 (hw 2 (by kernel_rfl))
      go_simp
      refine hK.out _ _ ⟨u18, u19, _, u21, u22, _, u24, u25, u26, u27, rfl, lo, fun h => c0 (fl (by decide) h), fun h => c1 (fl (by decide) h), fun _ => rfl, fun h => c3 (fl (by decide) h), fun h => c4 (fl (by decide) h), fun _ => rfl, fun h => c6 (fl (by decide) h), fun h => c7 (fl (by decide) h), fun h => c8 (fl (by decide) h), fun h => c9 (fl (by decide) h)⟩
    · refine stepJ (i := 6) rfl (fun K hK => ?_)
      obtain rfl := c2 (hw 2 (by kernel_rfl))
      obtain rfl := c4 (hw 4 (by kernel_rfl))
      obtain rfl := c5 (hw 5 (by kernel_rfl))
      go_simp
      go_at_call 57
      refine (HP.out _).mono ?_
      rintro e W2 ⟨rfl, b2⟩
      go_wp2_with fail
      refine hK.out _ _ ⟨u18, u19, _, u21, _, _, _, u25, u26, u27, rfl, lo.keep b2, fun h => c0 (fl (by decide) h), fun h => c1 (fl (by decide) h), fun _ => rfl, fun h => c3 (fl (by decide) h), fun _ => rfl, fun _ => rfl, fun _ => rfl, fun h => c7 (fl (by decide) h), fun h => c8 (fl (by decide) h), fun h => c9 (fl (by decide) h)⟩
    · refine stepJ (i := 7) rfl (fun K hK => ?_)
      obtain rfl := c2 (hw 2 (by kernel_rfl))
      obtain rfl := c3 (hw 3 (by kernel_rfl))
      obtain rfl := c6 (hw 6 (by kernel_rfl))
      go_simp
      go_at_call 56
      refine (HM.out _).mono ?_
      rintro e W2 ⟨rfl, b2⟩
      go_wp2_with fail
      refine hK.out _ _ ⟨u18, u19, _, _, u22, u23, _, _, u26, u27, rfl, lo.keep b2, fun h => c0 (fl (by decide) h), fun h => c1 (fl (by decide) h), fun _ => rfl, fun _ => rfl, fun h => c4 (fl (by decide) h), fun h => c5 (fl (by decide) h), fun _ => rfl, fun _ => rfl, fun h => c8 (fl (by decide) h), fun h => c9 (fl (by decide) h)⟩
    · refine stepJ (i := 8) rfl (fun K hK => ?_)
      obtain rfl := c2 (hw 2 (by kernel_rfl))
      obtain rfl := c7 (hw 7 (by kernel_rfl))
      go_simp
      refine hK.out _ _ ⟨u18, u19, _, u21, u22, u23, u24, _, _, u27, rfl, lo, fun h => c0 (fl (by decide) h), fun h => c1 (fl (by decide) h), fun _ => rfl, fun h => c3 (fl (by decide) h), fun h => c4 (fl (by decide) h), fun h => c5 (fl (by decide) h), fun h => c6 (fl (by decide) h), fun _ => rfl, fun _ => rfl, fun h => c9 (fl (by decide) h)⟩
    · refine stepJ (i := 9) rfl (fun K hK => ?_)
      obtain rfl := c2 (hw 2 (by kernel_rfl))
      obtain rfl := c8 (hw 8 (by kernel_rfl))
      go_simp
      refine hK.out _ _ ⟨u18, u19, _, u21, u22, u23, u24, u25, _, _, rfl, lo, fun h => c0 (fl (by decide) h), fun h => c1 (fl (by decide) h), fun _ => rfl, fun h => c3 (fl (by decide) h), fun h => c4 (fl (by decide) h), fun h => c5 (fl (by decide) h), fun h => c6 (fl (by decide) h), fun h => c7 (fl (by decide) h), fun _ => rfl, fun _ => rfl⟩
  · rintro L a wx hall ⟨u18, u19, u20, u21, u22, u23, u24, u25, u26, u27, rfl, lo, c0, c1, c2, c3, c4, c5, c6, c7, c8, c9⟩
    obtain rfl := c0 (hall 0 (by decide))
    obtain rfl := c1 (hall 1 (by decide))
    obtain rfl := c2 (hall 2 (by decide))
    obtain rfl := c3 (hall 3 (by decide))
    obtain rfl := c4 (hall 4 (by decide))
    obtain rfl := c5 (hall 5 (by decide))
    obtain rfl := c6 (hall 6 (by decide))
    obtain rfl := c7 (hall 7 (by decide))
    obtain rfl := c8 (hall 8 (by decide))
    obtain rfl := c9 (hall 9 (by decide))
    clear hall c0 c1 c2 c3 c4 c5 c6 c7 c8 c9
    obtain ⟨x1, x2⟩ := lo.cells
    go_wp2_with (go_at_call 58; (with_reducible refine (HU.out _).mono ?_); rintro e W5 ⟨rfl, b5⟩)
    exact bodyPost_ret (v := .tuple #[.string ⟨R.toArray⟩, .int .i64 0]) (by simp [results, Tryd.results32, go_sem]) rfl ⟨rfl, (lo.keep b5).below⟩
set_option maxRecDepth 100000 in
set_option maxHeartbeats 12800000 in
theorem Unrank_same (q n : Int) (s : ByteArray) (w : World) (h : chkL q n = 0) (h2 : checkN false s = 0) (z : Int) (hz : zv false s = z) (hk : n.toNat ≤ 30) (hss : s.size ≤ 1000000) (hlt : z = ((q.toNat ^ n.toNat : Nat) : Int)) :
    Calls Tryd.prog 32 #[.int .i64 q, .int .i64 n, .agg #[.bool false, .string s]] w (TxOut w ([], 2)) := by
  have HC := Lib.hid (fun W => checkLength_any q n W)
  simp only [h] at HC
  have HK := Lib.hid (fun W => check_int false s W)
  simp only [h2] at HK
  obtain ⟨m, k, rfl, rfl, q1, q2, k2⟩ := chkL_zero h
  have HP := Lib.hid (power_any m q1 q2 k hk)
  have I1 := isInt_raw false s (k := 250000) (by omega) (by omega)
  rw [hz] at I1
  rw [Int.toNat_natCast, Int.toNat_natCast] at hlt
  rw [Int.toNat_natCast] at hk
  have I2 := isInt_pow (n := k) (k := 4) q2 (by omega) (by omega) (by omega) (by omega)
  have HM := Lib.hid (fun W => icmp_any _ _ _ _ 250000 4 W I1 I2)
  simp only [show cmpZ z ((m ^ k : Nat) : Int) = 0 by unfold cmpZ; rw [if_neg (by omega)]; rw [if_neg (by omega)]] at HM
  obtain ⟨p, hp⟩ : ∃ p : Int, ((m ^ k : Nat) : Int) = p := ⟨_, rfl⟩
  simp only [hp] at HP HM
  clear hp I1 I2 hlt hz
  obtain ⟨q, hqq⟩ : ∃ q : Int, (m : Int) = q := ⟨_, rfl⟩
  obtain ⟨n, hnn⟩ : ∃ n : Int, (k : Int) = n := ⟨_, rfl⟩
  simp only [hqq, hnn] at HP HC 
  rw [hqq, hnn]
  rw [hqq, hnn] at h
  clear hqq hnn q1 q2 k2 hk
  clear h h2
  have K := AB.box w false s
  have hmx : Tryd.prog.follows .mixedOrders = true := by kernel_rfl
  go_enter Tryd.func32, Tryd.ntmps32
  go_upto_region 4 with (go_at_call 42; (with_reducible refine (HC.out _).mono ?_); rintro e W1 ⟨rfl, hW⟩; (rw [hW]); (clear hW))
  obtain ⟨x1, x2⟩ := K.cells
  go_upto_region 6 with (go_at_call 55; (with_reducible refine (HK.out _).mono ?_); rintro e W2 ⟨rfl, b2⟩)
  have KB := (K.keep b2).drew
  clear K x1 x2 b2
  refine region_inv' (J := (fun L a wx => ∃ u18 u19 u20 u21 u22 u23 u24 u25 u26 u27, a = { tmps := #[.int .i64 q, .int .i64 n, .agg #[.bool false, .string s], undef, undef, .pointer (some ⟨w.heap.size, 0, none⟩), .string ⟨#[]⟩, .int .i64 0, .int .i64 0, .int .i64 q, .int .i64 n, .int .i64 0, .int .i64 0, .bool false, undef, .agg #[.bool false, .string s], .int .i64 0, .bool false, u18, u19, u20, u21, u22, u23, u24, u25, u26, u27, undef, undef, undef, undef], defers := [] } ∧ AB w w.heap.size false s wx ∧
      (L.getD 0 false = true → u18 = .pointer (some ⟨w.heap.size, 0, none⟩)) ∧ (L.getD 1 false = true → u19 = .bool false) ∧ (L.getD 2 false = true → u20 = .bool false) ∧ (L.getD 3 false = true → u21 = .agg #[.bool false, .string s]) ∧ (L.getD 4 false = true → u22 = .int .i64 q) ∧ (L.getD 5 false = true → u23 = .int .i64 n) ∧ (L.getD 6 false = true → u24 = .agg #[.bool (sg p), .string (mg p)]) ∧ (L.getD 7 false = true → u25 = .int .i64 (0)) ∧ (L.getD 8 false = true → u26 = .bool true) ∧ (L.getD 9 false = true → u27 = .bool true))) hmx (by kernel_rfl) ?_ ?_ ?_
  · exact ⟨undef, undef, undef, undef, undef, undef, undef, undef, undef, undef, rfl, KB, fun h => absurd h (by decide), fun h => absurd h (by decide), fun h => absurd h (by decide), fun h => absurd h (by decide), fun h => absurd h (by decide), fun h => absurd h (by decide), fun h => absurd h (by decide), fun h => absurd h (by decide), fun h => absurd h (by decide), fun h => absurd h (by decide)⟩
  · intro i hi L a wx hl hw ⟨u18, u19, u20, u21, u22, u23, u24, u25, u26, u27, ha, lo, c0, c1, c2, c3, c4, c5, c6, c7, c8, c9⟩
    subst ha
    obtain ⟨x1, x2⟩ := lo.cells
    clear KB
    have hi' : i = 0 ∨ i = 1 ∨ i = 2 ∨ i = 3 ∨ i = 4 ∨ i = 5 ∨ i = 6 ∨ i = 7 ∨ i = 8 ∨ i = 9 := by
      have : i < 10 := hi
      omega
    rcases hi' with rfl | rfl | rfl | rfl | rfl | rfl | rfl | rfl | rfl | rfl
    · refine stepJ (i := 0) rfl (fun K hK => ?_)
      go_simp
      refine hK.out _ _ ⟨_, u19, u20, u21, u22, u23, u24, u25, u26, u27, rfl, lo, fun _ => rfl, fun h => c1 (fl (by decide) h), fun h => c2 (fl (by decide) h), fun h => c3 (fl (by decide) h), fun h => c4 (fl (by decide) h), fun h => c5 (fl (by decide) h), fun h => c6 (fl (by decide) h), fun h => c7 (fl (by decide) h), fun h => c8 (fl (by decide) h), fun h => c9 (fl (by decide) h)⟩
    · refine stepJ (i := 1) rfl (fun K hK => ?_)
      obtain rfl := c0 (hw 0 (by kernel_rfl))
      go_simp
      refine hK.out _ _ ⟨_, _, u20, u21, u22, u23, u24, u25, u26, u27, rfl, lo, fun _ => rfl, fun _ => rfl, fun h => c2 (fl (by decide) h), fun h => c3 (fl (by decide) h), fun h => c4 (fl (by decide) h), fun h => c5 (fl (by decide) h), fun h => c6 (fl (by decide) h), fun h => c7 (fl (by decide) h), fun h => c8 (fl (by decide) h), fun h => c9 (fl (by decide) h)⟩
    · refine stepJ (i := 2) rfl (fun K hK => ?_)
      obtain rfl := c1 (hw 1 (by kernel_rfl))
      go_simp
      refine hK.out _ _ ⟨u18, _, _, u21, u22, u23, u24, u25, u26, u27, rfl, lo, fun h => c0 (fl (by decide) h), fun _ => rfl, fun _ => rfl, fun h => c3 (fl (by decide) h), fun h => c4 (fl (by decide) h), fun h => c5 (fl (by decide) h), fun h => c6 (fl (by decide) h), fun h => c7 (fl (by decide) h), fun h => c8 (fl (by decide) h), fun h => c9 (fl (by decide) h)⟩
    · refine stepJ (i := 3) rfl (fun K hK => ?_)
      obtain rfl := c2 (hw 2 (by kernel_rfl))
      go_simp
      refine hK.out _ _ ⟨u18, u19, _, _, u22, u23, u24, u25, u26, u27, rfl, lo, fun h => c0 (fl (by decide) h), fun h => c1 (fl (by decide) h), fun _ => rfl, fun _ => rfl, fun h => c4 (fl (by decide) h), fun h => c5 (fl (by decide) h), fun h => c6 (fl (by decide) h), fun h => c7 (fl (by decide) h), fun h => c8 (fl (by decide) h), fun h => c9 (fl (by decide) h)⟩
    · refine stepJ (i := 4) rfl (fun K hK => ?_)
      obtain rfl := c2 (hw 2 (by kernel_rfl))
      go_simp
      refine hK.out _ _ ⟨u18, u19, _, u21, _, u23, u24, u25, u26, u27, rfl, lo, fun h => c0 (fl (by decide) h), fun h => c1 (fl (by decide) h), fun _ => rfl, fun h => c3 (fl (by decide) h), fun _ => rfl, fun h => c5 (fl (by decide) h), fun h => c6 (fl (by decide) h), fun h => c7 (fl (by decide) h), fun h => c8 (fl (by decide) h), fun h => c9 (fl (by decide) h)⟩
    · refine stepJ (i := 5) rfl (fun K hK => ?_)
      obtain rfl := c2 (hw 2 (by kernel_rfl))
      go_simp
      refine hK.out _ _ ⟨u18, u19, _, u21, u22, _, u24, u25, u26, u27, rfl, lo, fun h => c0 (fl (by decide) h), fun h => c1 (fl (by decide) h), fun _ => rfl, fun h => c3 (fl (by decide) h), fun h => c4 (fl (by decide) h), fun _ => rfl, fun h => c6 (fl (by decide) h), fun h => c7 (fl (by decide) h), fun h => c8 (fl (by decide) h), fun h => c9 (fl (by decide) h)⟩
    · refine stepJ (i := 6) rfl (fun K hK => ?_)
      obtain rfl := c2 (hw 2 (by kernel_rfl))
      obtain rfl := c4 (hw 4 (by kernel_rfl))
      obtain rfl := c5 (hw 5 (by kernel_rfl))
      go_simp
      go_at_call 57
      refine (HP.out _).mono ?_
      rintro e W2 ⟨rfl, b2⟩
      go_wp2_with fail
      refine hK.out _ _ ⟨u18, u19, _, u21, _, _, _, u25, u26, u27, rfl, lo.keep b2, fun h => c0 (fl (by decide) h), fun h => c1 (fl (by decide) h), fun _ => rfl, fun h => c3 (fl (by decide) h), fun _ => rfl, fun _ => rfl, fun _ => rfl, fun h => c7 (fl (by decide) h), fun h => c8 (fl (by decide) h), fun h => c9 (fl (by decide) h)⟩
    · refine stepJ (i := 7) rfl (fun K hK => ?_)
      obtain rfl := c2 (hw 2 (by kernel_rfl))
      obtain rfl := c3 (hw 3 (by kernel_rfl))
      obtain rfl := c6 (hw 6 (by kernel_rfl))
      go_simp
      go_at_call 56
      refine (HM.out _).mono ?_
      rintro e W2 ⟨rfl, b2⟩
      go_wp2_with fail
      refine hK.out _ _ ⟨u18, u19, _, _, u22, u23, _, _, u26, u27, rfl, lo.keep b2, fun h => c0 (fl (by decide) h), fun h => c1 (fl (by decide) h), fun _ => rfl, fun _ => rfl, fun h => c4 (fl (by decide) h), fun h => c5 (fl (by decide) h), fun _ => rfl, fun _ => rfl, fun h => c8 (fl (by decide) h), fun h => c9 (fl (by decide) h)⟩
    · refine stepJ (i := 8) rfl (fun K hK => ?_)
      obtain rfl := c2 (hw 2 (by kernel_rfl))
      obtain rfl := c7 (hw 7 (by kernel_rfl))
      go_simp
      refine hK.out _ _ ⟨u18, u19, _, u21, u22, u23, u24, _, _, u27, rfl, lo, fun h => c0 (fl (by decide) h), fun h => c1 (fl (by decide) h), fun _ => rfl, fun h => c3 (fl (by decide) h), fun h => c4 (fl (by decide) h), fun h => c5 (fl (by decide) h), fun h => c6 (fl (by decide) h), fun _ => rfl, fun _ => rfl, fun h => c9 (fl (by decide) h)⟩
    · refine stepJ (i := 9) rfl (fun K hK => ?_)
      obtain rfl := c2 (hw 2 (by kernel_rfl))
      obtain rfl := c8 (hw 8 (by kernel_rfl))
      go_simp
      refine hK.out _ _ ⟨u18, u19, _, u21, u22, u23, u24, u25, _, _, rfl, lo, fun h => c0 (fl (by decide) h), fun h => c1 (fl (by decide) h), fun _ => rfl, fun h => c3 (fl (by decide) h), fun h => c4 (fl (by decide) h), fun h => c5 (fl (by decide) h), fun h => c6 (fl (by decide) h), fun h => c7 (fl (by decide) h), fun _ => rfl, fun _ => rfl⟩
  · rintro L a wx hall ⟨u18, u19, u20, u21, u22, u23, u24, u25, u26, u27, rfl, lo, c0, c1, c2, c3, c4, c5, c6, c7, c8, c9⟩
    obtain rfl := c0 (hall 0 (by decide))
    obtain rfl := c1 (hall 1 (by decide))
    obtain rfl := c2 (hall 2 (by decide))
    obtain rfl := c3 (hall 3 (by decide))
    obtain rfl := c4 (hall 4 (by decide))
    obtain rfl := c5 (hall 5 (by decide))
    obtain rfl := c6 (hall 6 (by decide))
    obtain rfl := c7 (hall 7 (by decide))
    obtain rfl := c8 (hall 8 (by decide))
    obtain rfl := c9 (hall 9 (by decide))
    clear hall c0 c1 c2 c3 c4 c5 c6 c7 c8 c9
    go_wp2
    exact bodyPost_ret (v := .tuple #[.string ⟨#[]⟩, .int .i64 2]) (by simp [results, Tryd.results32, go_sem]) rfl ⟨rfl, lo.below⟩
set_option maxRecDepth 100000 in
set_option maxHeartbeats 12800000 in
theorem Unrank_more (q n : Int) (s : ByteArray) (w : World) (h : chkL q n = 0) (h2 : checkN false s = 0) (z : Int) (hz : zv false s = z) (hk : n.toNat ≤ 30) (hss : s.size ≤ 1000000) (hlt : ((q.toNat ^ n.toNat : Nat) : Int) < z) :
    Calls Tryd.prog 32 #[.int .i64 q, .int .i64 n, .agg #[.bool false, .string s]] w (TxOut w ([], 2)) := by
  have HC := Lib.hid (fun W => checkLength_any q n W)
  simp only [h] at HC
  have HK := Lib.hid (fun W => check_int false s W)
  simp only [h2] at HK
  obtain ⟨m, k, rfl, rfl, q1, q2, k2⟩ := chkL_zero h
  have HP := Lib.hid (power_any m q1 q2 k hk)
  have I1 := isInt_raw false s (k := 250000) (by omega) (by omega)
  rw [hz] at I1
  rw [Int.toNat_natCast, Int.toNat_natCast] at hlt
  rw [Int.toNat_natCast] at hk
  have I2 := isInt_pow (n := k) (k := 4) q2 (by omega) (by omega) (by omega) (by omega)
  have HM := Lib.hid (fun W => icmp_any _ _ _ _ 250000 4 W I1 I2)
  simp only [show cmpZ z ((m ^ k : Nat) : Int) = 1 by unfold cmpZ; rw [if_neg (by omega)]; rw [if_pos (by omega)]] at HM
  obtain ⟨p, hp⟩ : ∃ p : Int, ((m ^ k : Nat) : Int) = p := ⟨_, rfl⟩
  simp only [hp] at HP HM
  clear hp I1 I2 hlt hz
  obtain ⟨q, hqq⟩ : ∃ q : Int, (m : Int) = q := ⟨_, rfl⟩
  obtain ⟨n, hnn⟩ : ∃ n : Int, (k : Int) = n := ⟨_, rfl⟩
  simp only [hqq, hnn] at HP HC 
  rw [hqq, hnn]
  rw [hqq, hnn] at h
  clear hqq hnn q1 q2 k2 hk
  clear h h2
  have K := AB.box w false s
  have hmx : Tryd.prog.follows .mixedOrders = true := by kernel_rfl
  go_enter Tryd.func32, Tryd.ntmps32
  go_upto_region 4 with (go_at_call 42; (with_reducible refine (HC.out _).mono ?_); rintro e W1 ⟨rfl, hW⟩; (rw [hW]); (clear hW))
  obtain ⟨x1, x2⟩ := K.cells
  go_upto_region 6 with (go_at_call 55; (with_reducible refine (HK.out _).mono ?_); rintro e W2 ⟨rfl, b2⟩)
  have KB := (K.keep b2).drew
  clear K x1 x2 b2
  refine region_inv' (J := (fun L a wx => ∃ u18 u19 u20 u21 u22 u23 u24 u25 u26 u27, a = { tmps := #[.int .i64 q, .int .i64 n, .agg #[.bool false, .string s], undef, undef, .pointer (some ⟨w.heap.size, 0, none⟩), .string ⟨#[]⟩, .int .i64 0, .int .i64 0, .int .i64 q, .int .i64 n, .int .i64 0, .int .i64 0, .bool false, undef, .agg #[.bool false, .string s], .int .i64 0, .bool false, u18, u19, u20, u21, u22, u23, u24, u25, u26, u27, undef, undef, undef, undef], defers := [] } ∧ AB w w.heap.size false s wx ∧
      (L.getD 0 false = true → u18 = .pointer (some ⟨w.heap.size, 0, none⟩)) ∧ (L.getD 1 false = true → u19 = .bool false) ∧ (L.getD 2 false = true → u20 = .bool false) ∧ (L.getD 3 false = true → u21 = .agg #[.bool false, .string s]) ∧ (L.getD 4 false = true → u22 = .int .i64 q) ∧ (L.getD 5 false = true → u23 = .int .i64 n) ∧ (L.getD 6 false = true → u24 = .agg #[.bool (sg p), .string (mg p)]) ∧ (L.getD 7 false = true → u25 = .int .i64 (1)) ∧ (L.getD 8 false = true → u26 = .bool true) ∧ (L.getD 9 false = true → u27 = .bool true))) hmx (by kernel_rfl) ?_ ?_ ?_
  · exact ⟨undef, undef, undef, undef, undef, undef, undef, undef, undef, undef, rfl, KB, fun h => absurd h (by decide), fun h => absurd h (by decide), fun h => absurd h (by decide), fun h => absurd h (by decide), fun h => absurd h (by decide), fun h => absurd h (by decide), fun h => absurd h (by decide), fun h => absurd h (by decide), fun h => absurd h (by decide), fun h => absurd h (by decide)⟩
  · intro i hi L a wx hl hw ⟨u18, u19, u20, u21, u22, u23, u24, u25, u26, u27, ha, lo, c0, c1, c2, c3, c4, c5, c6, c7, c8, c9⟩
    subst ha
    obtain ⟨x1, x2⟩ := lo.cells
    clear KB
    have hi' : i = 0 ∨ i = 1 ∨ i = 2 ∨ i = 3 ∨ i = 4 ∨ i = 5 ∨ i = 6 ∨ i = 7 ∨ i = 8 ∨ i = 9 := by
      have : i < 10 := hi
      omega
    rcases hi' with rfl | rfl | rfl | rfl | rfl | rfl | rfl | rfl | rfl | rfl
    · refine stepJ (i := 0) rfl (fun K hK => ?_)
      go_simp
      refine hK.out _ _ ⟨_, u19, u20, u21, u22, u23, u24, u25, u26, u27, rfl, lo, fun _ => rfl, fun h => c1 (fl (by decide) h), fun h => c2 (fl (by decide) h), fun h => c3 (fl (by decide) h), fun h => c4 (fl (by decide) h), fun h => c5 (fl (by decide) h), fun h => c6 (fl (by decide) h), fun h => c7 (fl (by decide) h), fun h => c8 (fl (by decide) h), fun h => c9 (fl (by decide) h)⟩
    · refine stepJ (i := 1) rfl (fun K hK => ?_)
      obtain rfl := c0 (hw 0 (by kernel_rfl))
      go_simp
      refine hK.out _ _ ⟨_, _, u20, u21, u22, u23, u24, u25, u26, u27, rfl, lo, fun _ => rfl, fun _ => rfl, fun h => c2 (fl (by decide) h), fun h => c3 (fl (by decide) h), fun h => c4 (fl (by decide) h), fun h => c5 (fl (by decide) h), fun h => c6 (fl (by decide) h), fun h => c7 (fl (by decide) h), fun h => c8 (fl (by decide) h), fun h => c9 (fl (by decide) h)⟩
    · refine stepJ (i := 2) rfl (fun K hK => ?_)
      obtain rfl := c1 (hw 1 (by kernel_rfl))
      go_simp
      refine hK.out _ _ ⟨u18, _, _, u21, u22, u23, u24, u25, u26, u27, rfl, lo, fun h => c0 (fl (by decide) h), fun _ => rfl, fun _ => rfl, fun h => c3 (fl (by decide) h), fun h => c4 (fl (by decide) h), fun h => c5 (fl (by decide) h), fun h => c6 (fl (by decide) h), fun h => c7 (fl (by decide) h), fun h => c8 (fl (by decide) h), fun h => c9 (fl (by decide) h)⟩
    · refine stepJ (i := 3) rfl (fun K hK => ?_)
      obtain rfl := c2 (hw 2 (by kernel_rfl))
      go_simp
      refine hK.out _ _ ⟨u18, u19, _, _, u22, u23, u24, u25, u26, u27, rfl, lo, fun h => c0 (fl (by decide) h), fun h => c1 (fl (by decide) h), fun _ => rfl, fun _ => rfl, fun h => c4 (fl (by decide) h), fun h => c5 (fl (by decide) h), fun h => c6 (fl (by decide) h), fun h => c7 (fl (by decide) h), fun h => c8 (fl (by decide) h), fun h => c9 (fl (by decide) h)⟩
    · refine stepJ (i := 4) rfl (fun K hK => ?_)
      obtain rfl := c2 (hw 2 (by kernel_rfl))
      go_simp
      refine hK.out _ _ ⟨u18, u19, _, u21, _, u23, u24, u25, u26, u27, rfl, lo, fun h => c0 (fl (by decide) h), fun h => c1 (fl (by decide) h), fun _ => rfl, fun h => c3 (fl (by decide) h), fun _ => rfl, fun h => c5 (fl (by decide) h), fun h => c6 (fl (by decide) h), fun h => c7 (fl (by decide) h), fun h => c8 (fl (by decide) h), fun h => c9 (fl (by decide) h)⟩
    · refine stepJ (i := 5) rfl (fun K hK => ?_)
      obtain rfl := c2 (hw 2 (by kernel_rfl))
      go_simp
      refine hK.out _ _ ⟨u18, u19, _, u21, u22, _, u24, u25, u26, u27, rfl, lo, fun h => c0 (fl (by decide) h), fun h => c1 (fl (by decide) h), fun _ => rfl, fun h => c3 (fl (by decide) h), fun h => c4 (fl (by decide) h), fun _ => rfl, fun h => c6 (fl (by decide) h), fun h => c7 (fl (by decide) h), fun h => c8 (fl (by decide) h), fun h => c9 (fl (by decide) h)⟩
    · refine stepJ (i := 6) rfl (fun K hK => ?_)
      obtain rfl := c2 (hw 2 (by kernel_rfl))
      obtain rfl := c4 (hw 4 (by kernel_rfl))
      obtain rfl := c5 (hw 5 (by kernel_rfl))
      go_simp
      go_at_call 57
      refine (HP.out _).mono ?_
      rintro e W2 ⟨rfl, b2⟩
      go_wp2_with fail
      refine hK.out _ _ ⟨u18, u19, _, u21, _, _, _, u25, u26, u27, rfl, lo.keep b2, fun h => c0 (fl (by decide) h), fun h => c1 (fl (by decide) h), fun _ => rfl, fun h => c3 (fl (by decide) h), fun _ => rfl, fun _ => rfl, fun _ => rfl, fun h => c7 (fl (by decide) h), fun h => c8 (fl (by decide) h), fun h => c9 (fl (by decide) h)⟩
    · refine stepJ (i := 7) rfl (fun K hK => ?_)
      obtain rfl := c2 (hw 2 (by kernel_rfl))
      obtain rfl := c3 (hw 3 (by kernel_rfl))
      obtain rfl := c6 (hw 6 (by kernel_rfl))
      go_simp
      go_at_call 56
      refine (HM.out _).mono ?_
      rintro e W2 ⟨rfl, b2⟩
      go_wp2_with fail
      refine hK.out _ _ ⟨u18, u19, _, _, u22, u23, _, _, u26, u27, rfl, lo.keep b2, fun h => c0 (fl (by decide) h), fun h => c1 (fl (by decide) h), fun _ => rfl, fun _ => rfl, fun h => c4 (fl (by decide) h), fun h => c5 (fl (by decide) h), fun _ => rfl, fun _ => rfl, fun h => c8 (fl (by decide) h), fun h => c9 (fl (by decide) h)⟩
    · refine stepJ (i := 8) rfl (fun K hK => ?_)
      obtain rfl := c2 (hw 2 (by kernel_rfl))
      obtain rfl := c7 (hw 7 (by kernel_rfl))
      go_simp
      refine hK.out _ _ ⟨u18, u19, _, u21, u22, u23, u24, _, _, u27, rfl, lo, fun h => c0 (fl (by decide) h), fun h => c1 (fl (by decide) h), fun _ => rfl, fun h => c3 (fl (by decide) h), fun h => c4 (fl (by decide) h), fun h => c5 (fl (by decide) h), fun h => c6 (fl (by decide) h), fun _ => rfl, fun _ => rfl, fun h => c9 (fl (by decide) h)⟩
    · refine stepJ (i := 9) rfl (fun K hK => ?_)
      obtain rfl := c2 (hw 2 (by kernel_rfl))
      obtain rfl := c8 (hw 8 (by kernel_rfl))
      go_simp
      refine hK.out _ _ ⟨u18, u19, _, u21, u22, u23, u24, u25, _, _, rfl, lo, fun h => c0 (fl (by decide) h), fun h => c1 (fl (by decide) h), fun _ => rfl, fun h => c3 (fl (by decide) h), fun h => c4 (fl (by decide) h), fun h => c5 (fl (by decide) h), fun h => c6 (fl (by decide) h), fun h => c7 (fl (by decide) h), fun _ => rfl, fun _ => rfl⟩
  · rintro L a wx hall ⟨u18, u19, u20, u21, u22, u23, u24, u25, u26, u27, rfl, lo, c0, c1, c2, c3, c4, c5, c6, c7, c8, c9⟩
    obtain rfl := c0 (hall 0 (by decide))
    obtain rfl := c1 (hall 1 (by decide))
    obtain rfl := c2 (hall 2 (by decide))
    obtain rfl := c3 (hall 3 (by decide))
    obtain rfl := c4 (hall 4 (by decide))
    obtain rfl := c5 (hall 5 (by decide))
    obtain rfl := c6 (hall 6 (by decide))
    obtain rfl := c7 (hall 7 (by decide))
    obtain rfl := c8 (hall 8 (by decide))
    obtain rfl := c9 (hall 9 (by decide))
    clear hall c0 c1 c2 c3 c4 c5 c6 c7 c8 c9
    go_wp2
    exact bodyPost_ret (v := .tuple #[.string ⟨#[]⟩, .int .i64 2]) (by simp [results, Tryd.results32, go_sem]) rfl ⟨rfl, lo.below⟩
theorem Unrank_any (q n : Int) (g : Bool) (s : ByteArray) (w : World) (hn : n.toNat ≤ 30 ∨ chkL q n ≠ 0) (hs : s.size ≤ 1000000) :
    Calls Tryd.prog 32 #[.int .i64 q, .int .i64 n, .agg #[.bool g, .string s]] w (TxOut w (unrV q n g s)) := by
  unfold unrV
  by_cases h : chkL q n = 0
  · rw [if_neg (fun h1 => h1 h)]
    by_cases h2 : checkN g s = 0
    · rw [if_neg (fun h1 => h1 h2)]
      cases g
      · have hk : n.toNat ≤ 30 := hn.resolve_right (fun h1 => h1 h)
        rcases Int.lt_trichotomy (zv false s) ((q.toNat ^ n.toNat : Nat) : Int) with h3 | h3 | h3
        · rw [if_neg (by intro h4; rcases h4 with h4 | h4; cases h4; omega)]; exact Unrank_less q n s w h h2 _ rfl hk hs h3
        · rw [if_pos (Or.inr (by omega))]; exact Unrank_same q n s w h h2 _ rfl hk hs h3
        · rw [if_pos (Or.inr (by omega))]; exact Unrank_more q n s w h h2 _ rfl hk hs h3
      · rw [if_pos (Or.inl rfl)]; exact Unrank_neg q n s w h h2
    · rw [if_pos h2]; exact Unrank_bad q n g s w h h2
  · rw [if_pos h]; exact Unrank_len q n g s w h
end Go.Proofs.YtigdjlhihhakmaaDoor

namespace Go.Proofs.YtigdjlhihhakmaaDoor
open Go.Op (bytesLess)
theorem lt_up : ∀ i, i < 16 → ∀ j, j < 16 → i < j → lt i < lt j := by decide
theorem dgt_up {c d : UInt8} (h : dgt c < dgt d) (hd : dgt d < 16) : c < d := by
  have := lt_up (dgt c) (by omega) (dgt d) hd h
  rwa [lt_dgt (by omega), lt_dgt hd] at this
theorem rk_cons (q : Nat) (c : UInt8) (w : List UInt8) : rk q (c :: w) = dgt c * q ^ w.length + rk q w := by
  have := rk_append q [c] w
  simpa [rk] using this
/-- Of two words of a length the one with the lesser rank is less. -/
theorem less_of_rk {q : Nat} (hq : q ≤ 16) : ∀ (u v : List UInt8), u.length = v.length → Wof q u → Wof q v → rk q u < rk q v → bytesLess u v = true := by
  intro u
  induction u with
  | nil =>
    intro v h _ _ h2
    cases v with
    | nil => exact absurd h2 (Nat.lt_irrefl _)
    | cons d v => cases h
  | cons c u ih =>
    intro v h h1 h2 h3
    cases v with
    | nil => cases h
    | cons d v =>
      have hl : u.length = v.length := by simpa using h
      have hc := h1 c List.mem_cons_self
      have hd := h2 d List.mem_cons_self
      have hu : Wof q u := fun x hx => h1 x (List.mem_cons_of_mem _ hx)
      have hv : Wof q v := fun x hx => h2 x (List.mem_cons_of_mem _ hx)
      have ru := rk_lt hu
      have rv := rk_lt hv
      rw [rk_cons, rk_cons, hl] at h3
      rw [hl] at ru
      rcases Nat.lt_trichotomy (dgt c) (dgt d) with h4 | h4 | h4
      · have := dgt_up h4 (by omega)
        simp [bytesLess, this]
      · have hcd : c = d := by rw [← lt_dgt (show dgt c < 16 by omega), h4, lt_dgt (by omega)]
        rw [h4] at h3
        have := ih v hl hu hv (by omega)
        simp [bytesLess, hcd, this]
      · have h5 := Nat.mul_le_mul_right (q ^ v.length) h4
        rw [Nat.succ_mul] at h5
        omega
theorem bl_irrefl : ∀ u : List UInt8, bytesLess u u = false := by
  intro u
  induction u with
  | nil => rfl
  | cons c u ih => simp [bytesLess, ih, UInt8.lt_irrefl]
theorem bl_asymm : ∀ {u v : List UInt8}, bytesLess u v = true → bytesLess v u = false := by
  intro u
  induction u with
  | nil => intro v _; cases v <;> rfl
  | cons c u ih =>
    intro v h
    cases v with
    | nil => simp [bytesLess] at h
    | cons d v =>
      simp only [bytesLess, Bool.or_eq_true, Bool.and_eq_true, decide_eq_true_eq, beq_iff_eq] at h
      rcases h with h | ⟨rfl, h⟩
      · have h1 : ¬ d < c := UInt8.lt_asymm h
        have h2 : ¬ d = c := fun e => UInt8.ne_of_lt h e.symm
        simp [bytesLess, h1, h2]
      · simp [bytesLess, ih h, UInt8.lt_irrefl]
theorem bl_ne {u v : List UInt8} (h : bytesLess u v = true) : (v == u) = false := by
  rw [beq_eq_false_iff_ne]
  rintro rfl
  rw [bl_irrefl] at h; cases h
theorem nxt_gt {q : Nat} {w v : List UInt8} (h0 : 0 < q) (hq : q ≤ 16) (hw : Wof q w) (h : nxt q w = some v) : bytesLess w v = true := by
  obtain ⟨h1, h2, h3⟩ := nxt_some h0 hq hw h
  exact less_of_rk hq w v h2.symm hw h1 (by omega)
end Go.Proofs.YtigdjlhihhakmaaDoor

namespace Go.Proofs.YtigdjlhihhakmaaDoor
open Go.ChangeShapes Go.WideShapes Go.ChangeAt Go.RowKit
open Go.ChangeMaps (open_string shut_string)

theorem ownNone : ownKnob Tryd.prog.godebug = none := by kernel_rfl
/-- The variables that the rows list. -/
def lst : List (String × DataW Unit) := [("unicode/utf8.acceptRanges", Rows.laid_unicode_utf8_acceptRanges), ("unicode/utf8.first", Rows.laid_unicode_utf8_first)]

/-- The cells of a table of integers, or of structs of integers. -/
def litCells : DataW Unit → List Value
  | .lit (.int k n) => [.int k n]
  | _ => []
def rowCells : DataW Unit → List Value
  | .agg ps => ps.flatMap litCells
  | d => litCells d
def tabCells : DataW Unit → List Value
  | .agg ps => ps.flatMap rowCells
  | d => litCells d
def layAt (g : Nat) (cs : List Value) (h : Array Obj) : Array Obj := h.modify g fun
  | .cells _ t fr => .cells cs.toArray t fr
  | o => o
/-- A world that holds the tables. -/
noncomputable def laidWorld (os : Os) : World :=
  { World.holding Tryd.prog os ⟨#[], #[], []⟩ with heap := layAt 2 (tabCells Rows.laid_unicode_utf8_acceptRanges) (layAt 1 (tabCells Rows.laid_unicode_utf8_first) (World.holding Tryd.prog os ⟨#[], #[], []⟩).heap) }
set_option maxRecDepth 100000 in
theorem laid_met (os : Os) (args : Array Value) : laidMet Tryd.prog lst ((laidWorld os).forCall (fun _ _ => 0) ⟨#[], args, []⟩).memory :=
  laidMet_of_run' 8 (by kernel_rfl) (by kernel_rfl)

/-- No parameter of these types wants a stand-in. -/
theorem noStand : Tryd.prog.wantsStandIn 9 = false ∧ Tryd.prog.wantsStandIn 3 = false ∧ Tryd.prog.wantsStandIn 5 = false := by
  refine ⟨?_, ?_, ?_⟩ <;> kernel_rfl
end Go.Proofs.YtigdjlhihhakmaaDoor
