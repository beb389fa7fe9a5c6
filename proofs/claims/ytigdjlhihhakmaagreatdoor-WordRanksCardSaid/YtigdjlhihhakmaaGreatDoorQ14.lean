/- Lists of strings that can be read in memory. No condition. The order of words: plain facts on lists. No condition. What slices.IsSorted returns for a list of strings in ascending order. Condition: the list's length. -/
import Derived.Test.YtigdjlhihhakmaaGreatDoorQ13
import Derived.Test.YtigdjlhihhakmaaGreatDoorQ02
import Derived.Deep.QuietTactic
import Derived.BigQuiet

namespace Go.Proofs.YtigdjlhihhakmaaGreatDoor
open Go.RowKit
/-- A list of strings that can be read in memory. -/
def StrsIn (W : World) (v : Value) (l : List (List UInt8)) : Prop :=
  (l = [] ∧ ∃ a c, v = .slice a 0 c) ∨ (∃ g c, v = .slice (some ⟨g, 0, none⟩) l.length c ∧ ∀ j, j < l.length → W.cell? ⟨g, j, none⟩ = some (.string ⟨(l.getD j []).toArray⟩))
theorem StrsIn.keep {W W' : World} {v : Value} {l : List (List UInt8)} (h : StrsIn W v l) (hb : Below W.heap.size W W') : StrsIn W' v l := by
  rcases h with h | ⟨g, c, h1, h2⟩
  · exact Or.inl h
  · exact Or.inr ⟨g, c, h1, fun j hj => cell_keep (h2 j hj) hb⟩
theorem strs_at {l : List (List UInt8)} {j : Nat} (hj : j < l.length) : (strs l)[j]? = some (.string ⟨(l.getD j []).toArray⟩) := by
  unfold strs
  rw [List.getElem?_map, List.getElem?_eq_getElem hj, List.getD_eq_getElem?_getD, List.getElem?_eq_getElem hj]; rfl
theorem StrsAt.strsIn {W : World} {B : Nat} {v : Value} {l : List (List UInt8)} (h : StrsAt W B v l) : StrsIn W v l := by
  have h' : W.ownsRow B 9 1 v l.length (strs l) := h
  rcases Nat.eq_zero_or_pos l.length with h0 | h0
  · obtain ⟨a, c, rfl⟩ := h.slice
    rw [h0]
    exact Or.inl ⟨List.eq_nil_of_length_eq_zero h0, a, c, rfl⟩
  · obtain ⟨g, c, rfl, -, -⟩ := h'.form h0
    refine Or.inr ⟨g, c, rfl, fun j hj => ?_⟩
    rw [h'.cellAt j (by omega), strs_at hj]
end Go.Proofs.YtigdjlhihhakmaaGreatDoor

namespace Go.Proofs.YtigdjlhihhakmaaGreatDoor
open Go.Op (bytesLess)
theorem lt_up : ∀ i, i < 16 → ∀ j, j < 16 → i < j → lt i < lt j := by decide
theorem dgt_up {c d : UInt8} (h : dgt c < dgt d) (hd : dgt d < 16) : c < d := by
  have := lt_up (dgt c) (by omega) (dgt d) hd h
  rwa [lt_dgt (by omega), lt_dgt hd] at this
theorem rk_cons (q : Nat) (c : UInt8) (w : List UInt8) : rk q (c :: w) = dgt c * q ^ w.length + rk q w := by
  have := rk_append q [c] w
  simpa [rk] using this
/-- Of two words of a length the one with the lesser rank is less. -/
theorem less_of_rk {q : Nat} (hq : q ≤ 16) : ∀ (u v : List UInt8), u.length = v.length → Wof q u → Wof q v → rk q u < rk q v → bytesLess u v = true := by
  intro u
  induction u with
  | nil =>
    intro v h _ _ h2
    cases v with
    | nil => exact absurd h2 (Nat.lt_irrefl _)
    | cons d v => cases h
  | cons c u ih =>
    intro v h h1 h2 h3
    cases v with
    | nil => cases h
    | cons d v =>
      have hl : u.length = v.length := by simpa using h
      have hc := h1 c List.mem_cons_self
      have hd := h2 d List.mem_cons_self
      have hu : Wof q u := fun x hx => h1 x (List.mem_cons_of_mem _ hx)
      have hv : Wof q v := fun x hx => h2 x (List.mem_cons_of_mem _ hx)
      have ru := rk_lt hu
      have rv := rk_lt hv
      rw [rk_cons, rk_cons, hl] at h3
      rw [hl] at ru
      rcases Nat.lt_trichotomy (dgt c) (dgt d) with h4 | h4 | h4
      · have := dgt_up h4 (by omega)
        simp [bytesLess, this]
      · have hcd : c = d := by rw [← lt_dgt (show dgt c < 16 by omega), h4, lt_dgt (by omega)]
        rw [h4] at h3
        have := ih v hl hu hv (by omega)
        simp [bytesLess, hcd, this]
      · have h5 := Nat.mul_le_mul_right (q ^ v.length) h4
        rw [Nat.succ_mul] at h5
        omega
theorem bl_irrefl : ∀ u : List UInt8, bytesLess u u = false := by
  intro u
  induction u with
  | nil => rfl
  | cons c u ih => simp [bytesLess, ih, UInt8.lt_irrefl]
theorem bl_asymm : ∀ {u v : List UInt8}, bytesLess u v = true → bytesLess v u = false := by
  intro u
  induction u with
  | nil => intro v _; cases v <;> rfl
  | cons c u ih =>
    intro v h
    cases v with
    | nil => simp [bytesLess] at h
    | cons d v =>
      simp only [bytesLess, Bool.or_eq_true, Bool.and_eq_true, decide_eq_true_eq, beq_iff_eq] at h
      rcases h with h | ⟨rfl, h⟩
      · have h1 : ¬ d < c := UInt8.lt_asymm h
        have h2 : ¬ d = c := fun e => UInt8.ne_of_lt h e.symm
        simp [bytesLess, h1, h2]
      · simp [bytesLess, ih h, UInt8.lt_irrefl]
theorem bl_ne {u v : List UInt8} (h : bytesLess u v = true) : (v == u) = false := by
  rw [beq_eq_false_iff_ne]
  rintro rfl
  rw [bl_irrefl] at h; cases h
theorem nxt_gt {q : Nat} {w v : List UInt8} (h0 : 0 < q) (hq : q ≤ 16) (hw : Wof q w) (h : nxt q w = some v) : bytesLess w v = true := by
  obtain ⟨h1, h2, h3⟩ := nxt_some h0 hq hw h
  exact less_of_rk hq w v h2.symm hw h1 (by omega)
end Go.Proofs.YtigdjlhihhakmaaGreatDoor

namespace Go.Proofs.YtigdjlhihhakmaaGreatDoor
open Go.RowKit
set_option linter.unusedSimpArgs false
set_option linter.unusedVariables false

theorem below_drewN {B : Nat} {w W : World} (h : Below B w W) (q : Nat) : Below B w (W.drewN q) := ⟨h.os, h.tape, h.output, h.size, h.block⟩
theorem isNaNS_any (l : List UInt8) (w : World) : Calls Tryz.prog 78 #[.string ⟨l.toArray⟩] w fun e w' => e = .returned (.bool false) ∧ w' = w := by
  have h : (l == l) = true := by simp
  go_enter Tryz.func78, Tryz.ntmps78
  go_wp2_with fail
  go_ret
  exact ⟨rfl, rfl⟩
theorem lessS_any (x y : List UInt8) (w : World) : Calls Tryz.prog 41 #[.string ⟨x.toArray⟩, .string ⟨y.toArray⟩] w fun e w' => e = .returned (.bool (Op.bytesLess x y)) ∧ w' = w := by
  go_enter Tryz.func41, Tryz.ntmps41
  go_wp2_with (go_at_call 78; (with_reducible refine (isNaNS_any _ _).mono ?_); rintro e W1 ⟨rfl, rfl⟩)
  go_ret
  exact ⟨by simp, rfl⟩
set_option maxRecDepth 100000 in
set_option maxHeartbeats 1600000 in
theorem isSortedS_any {W : World} {v : Value} {l : List (List UInt8)} (h : StrsIn W v l) (hl : l.length ≤ 100000) (hs : ∀ i, i + 1 < l.length → Op.bytesLess (l.getD i []) (l.getD (i + 1) []) = true) :
    Calls Tryz.prog 13 #[v] W fun e W' => e = .returned (.bool true) ∧ Below W.heap.size W W' := by
  rcases Nat.eq_zero_or_pos l.length with h0 | h0
  · obtain ⟨a, c, rfl⟩ : ∃ a c, v = .slice a 0 c := by
      rcases h with ⟨-, a, c, rfl⟩ | ⟨g, c, rfl, -⟩
      · exact ⟨a, c, rfl⟩
      · exact ⟨_, c, by rw [h0]⟩
    clear h hs
    go_enter Tryz.func13, Tryz.ntmps13
    go_wp2_with fail
    go_loopg [3] 0 (fun q s3 wx => q = 0 ∧ wx = W ∧ s3 = .int .i64 (-1))
    case atStart => exact ⟨rfl, rfl, rfl⟩
    case round =>
      obtain ⟨rfl, rfl, rfl⟩ := hrel
      go_wp2
      go_ret
      exact ⟨rfl, Below.refl _ _⟩
  · rcases h with ⟨rfl, -⟩ | ⟨g, c, rfl, hc⟩
    · cases h0
    have HC := Lib.hid hc
    have HS := Lib.hid hs
    clear hc hs
    go_enter Tryz.func13, Tryz.ntmps13
    go_wp2_with fail
    go_loopg [3] (l.length - 1) (fun q s3 wx => s3 = .int .i64 (q : Int) ∧ q < l.length ∧ Below W.heap.size W wx)
    case atStart => exact ⟨by rw [show ((l.length - 1 : Nat) : Int) = (l.length : Int) - 1 by omega], by omega, Below.refl _ _⟩
    case round =>
      obtain ⟨rfl, hq, hb⟩ := hrel
      rcases gk with _ | q
      · go_wp2
        go_ret
        exact ⟨rfl, hb⟩
      · have c1 := cell_keep (HC.out (q + 1) hq) hb
        have c2 := cell_keep (HC.out q (by omega)) hb
        have hlt := HS.out q hq
        obtain ⟨x, hx⟩ : ∃ x, l.getD q [] = x := ⟨_, rfl⟩
        obtain ⟨y, hy⟩ : ∃ y, l.getD (q + 1) [] = y := ⟨_, rfl⟩
        rw [hx, hy] at hlt
        rw [hy] at c1
        rw [hx] at c2
        have hd := Lib.hid (bl_asymm hlt)
        have HLS := Lib.hid (fun W => lessS_any y x W)
        simp only [hd.out] at HLS
        have hq1 : IntKind.i64.wrap (((q + 1 : Nat) : Int) - 1) = (q : Int) := by rw [IntKind.wrap_i64]; omega
        have hq2 : IntKind.i64.wrap ((q : Int) + 1 - 1) = (q : Int) := by rw [IntKind.wrap_i64]; omega
        have hq3 : (q : Int) + 1 - 1 = (q : Int) := by omega
        have hql : (q : Int) + 1 < (l.length : Int) := by omega
        have hq8 : IntKind.i64.wrap (q : Int) = (q : Int) := by rw [IntKind.wrap_i64]; omega
        have hq0 : (0 : Int) ≤ (q : Int) + 1 := by omega
        have hq5 : (0 : Int) ≤ (q : Int) := by omega
        have hq6 : (q : Int) < (l.length : Int) := by omega
        have hq7 : ((q : Int) + 1).toNat = q + 1 := by omega
        clear hx hy hlt
        go_wp2_with fail
        go_quiet (first | (go_at_call 41; refine Calls.quiet_of_same (HLS.out _)))
        go_wp2_with fail
        go_roundg q
        case measure => omega
        case rel => exact ⟨by go_num, by omega, below_drewN hb _⟩
theorem wordsTo_sorted {q n : Nat} (q1 : 1 ≤ q) (q2 : q ≤ 16) (i : Nat) (h : i + 1 < q ^ n) : Op.bytesLess ((wordsTo q n (q ^ n)).getD i []) ((wordsTo q n (q ^ n)).getD (i + 1) []) = true := by
  have e : ∀ j, j < q ^ n → (wordsTo q n (q ^ n)).getD j [] = unrk q n j := fun j hj => by
    unfold wordsTo
    rw [List.getD_eq_getElem?_getD, List.getElem?_map, List.getElem?_range hj]; rfl
  rw [e i (by omega), e (i + 1) h]
  refine less_of_rk q2 _ _ (by rw [unrk_len, unrk_len]) (unrk_word q1 q2 n i) (unrk_word q1 q2 n (i + 1)) ?_
  rw [rk_unrk q1 q2 n i (by omega), rk_unrk q1 q2 n (i + 1) h]
  omega
end Go.Proofs.YtigdjlhihhakmaaGreatDoor
