/- The pseudo-division of polynomials, as lists of coefficients: its equation, the degree of the rest, and no rest where the divisor divides. Plain facts; no condition. What polynomial.multiple returns. Condition: at most 10^5 coefficients, of at most 10^6 digits to the base 2^32. Products of polynomials term by term: the sums that two ranges over terms make. No condition. -/
import Derived.Test.YtgcogpfmhmmgdaaGreatDoorQ01
import Derived.Test.YtgcogpfmhmmgdaaGreatDoorQ24
import Derived.Test.YtgcogpfmhmmgdaaGreatDoorQ21
import Derived.Test.YtgcogpfmhmmgdaaGreatDoorQ22

namespace Go.Proofs.YtgcogpfmhmmgdaaGreatDoor

/-- Multiples. -/
def scal (c : Int) (L : List Int) : List Int := L.map (c * ·)
theorem co_scal (c : Int) (L : List Int) (i : Nat) : co (scal c L) i = c * co L i := co_map c L i
def shf (n : Nat) (L : List Int) : List Int := List.replicate n 0 ++ L
theorem co_shf (n : Nat) (L : List Int) (i : Nat) : co (shf n L) i = if i < n then 0 else co L (i - n) := by
  unfold co shf
  split
  · rename_i h
    rw [List.getD_eq_getElem?_getD, List.getElem?_append_left (by simpa using h)]
    simp [h]
  · rename_i h
    rw [List.getD_eq_getElem?_getD, List.getD_eq_getElem?_getD, List.getElem?_append_right (by simp; omega)]
    simp
def subL (a b : List Int) : List Int := addL a (scal (-1) b)
theorem co_subL (a b : List Int) (i : Nat) : co (subL a b) i = co a i - co b i := by
  unfold subL
  rw [co_addL, co_scal]
  omega
theorem mulL_shf1 (n : Nat) (f : Int) (g : Nat → Int) : ∀ i, mulL (shf n [f]) g i = if i < n then 0 else f * g (i - n) := by
  induction n with
  | zero =>
    intro i
    show mulL [f] g i = _
    rw [if_neg (by omega)]
    cases i with
    | zero => rw [mulL_0]
    | succ i => rw [mulL_S]; simp [mulL]
  | succ n ih =>
    intro i
    have e : shf (n + 1) [f] = 0 :: shf n [f] := by unfold shf; rw [List.replicate_succ, List.cons_append]
    rw [e]
    cases i with
    | zero => rw [mulL_0, if_pos (by omega)]; simp
    | succ i =>
      rw [mulL_S, ih]
      by_cases h : i < n
      · rw [if_pos h, if_pos (by omega)]; simp
      · rw [if_neg h, if_neg (by omega), show i + 1 - (n + 1) = i - n by omega]; simp
/-- One step of the pseudo-division, at the place k. -/
def stepQ (c : Int) (k : Nat) (f : Int) (q : List Int) : List Int := trm (addL (scal c q) (shf k [f]))
def stepR (c : Int) (k : Nat) (f : Int) (b r : List Int) : List Int := trm (subL (scal c r) (shf k (scal f b)))
/-- The pseudo-division by b, whose degree is n and whose leading coefficient is c: k places are left. -/
def divR (b : List Int) (n : Nat) (c : Int) : Nat → List Int → List Int → List Int × List Int
  | 0, q, r => (q, r)
  | k + 1, q, r => divR b n c k (stepQ c k (co r (k + n)) q) (stepR c k (co r (k + n)) b r)
theorem stepR_deg {b r : List Int} {n k : Nat} {c : Int} (hb : ∀ i, n < i → co b i = 0) (hc : co b n = c) (hr : ∀ i, k + 1 + n ≤ i → co r i = 0) : ∀ i, k + n ≤ i → co (stepR c k (co r (k + n)) b r) i = 0 := by
  intro i hi
  unfold stepR
  rw [co_trm, co_subL, co_scal, co_shf, if_neg (by omega), co_scal]
  rcases Nat.lt_or_ge (k + n) i with h | h
  · rw [hr i (by omega), hb (i - k) (by omega)]; simp
  · have e : i = k + n := by omega
    subst e
    rw [show k + n - k = n by omega, hc, Int.mul_comm, Int.sub_self]
theorem step_eq {b q r : List Int} {n k : Nat} {c : Int} (i : Nat) : c * (mulL q (co b) i + co r i) = mulL (stepQ c k (co r (k + n)) q) (co b) i + co (stepR c k (co r (k + n)) b r) i := by
  unfold stepQ stepR
  rw [mulL_congr1 _ (co_trm _), mulL_addL, co_trm, co_subL, co_scal, co_shf, mulL_shf1]
  have h1 : mulL (scal c q) (co b) i = c * mulL q (co b) i := mulL_map c q _ i
  rw [h1]
  by_cases h : i < k
  · rw [if_pos h, if_pos h]; grind
  · rw [if_neg h, if_neg h, co_scal]; grind
theorem divR_eq {b : List Int} {n : Nat} {c : Int} (hb : ∀ i, n < i → co b i = 0) (hc : co b n = c) : ∀ (k : Nat) (q r : List Int), (∀ i, k + n ≤ i → co r i = 0) →
    (∀ i, c ^ k * (mulL q (co b) i + co r i) = mulL (divR b n c k q r).1 (co b) i + co (divR b n c k q r).2 i) ∧ ∀ i, n ≤ i → co (divR b n c k q r).2 i = 0 := by
  intro k
  induction k with
  | zero => intro q r h; exact ⟨fun i => by simp [divR], fun i hi => h i (by omega)⟩
  | succ k ih =>
    intro q r h
    obtain ⟨h1, h2⟩ := ih (stepQ c k (co r (k + n)) q) (stepR c k (co r (k + n)) b r) (stepR_deg hb hc (by intro i hi; exact h i (by omega)))
    refine ⟨fun i => ?_, h2⟩
    show _ = mulL (divR b n c k _ _).1 (co b) i + co (divR b n c k _ _).2 i
    rw [← h1, ← step_eq, Int.pow_succ]
    grind
theorem divR_trm {b : List Int} {n : Nat} {c : Int} : ∀ (k : Nat) (q r : List Int), trm q = q → trm r = r → trm (divR b n c k q r).1 = (divR b n c k q r).1 ∧ trm (divR b n c k q r).2 = (divR b n c k q r).2 := by
  intro k
  induction k with
  | zero => intro q r hq hr; exact ⟨hq, hr⟩
  | succ k ih => intro q r _ _; exact ih _ _ (trm_trm _) (trm_trm _)
/-- A product of b that has a lesser degree than b is 0. -/
theorem mul_small {a b : List Int} {n : Nat} (hb : ∀ i, n < i → co b i = 0) (hc : co b n ≠ 0) (h : ∀ i, n ≤ i → mulL a (co b) i = 0) : ∀ i, co a i = 0 := by
  rw [← trm_nil_iff]
  rcases Nat.eq_zero_or_pos (trm a).length with h0 | h0
  · exact List.eq_nil_of_length_eq_zero h0
  · exfalso
    obtain ⟨m, hm⟩ : ∃ m, (trm a).length = m + 1 := ⟨(trm a).length - 1, by omega⟩
    obtain ⟨e1, _⟩ := mulL_top a b (m := m) (n := n) (fun i hi => trm_above a (by omega)) hb
    rw [h (m + n) (by omega)] at e1
    exact Int.mul_ne_zero (trm_last a hm) hc e1.symm
/-- What b divides leaves no rest. -/
theorem divR_none {a b : List Int} {n : Nat} {c : Int} (hb : ∀ i, n < i → co b i = 0) (hc : co b n = c) (h0 : c ≠ 0) (k : Nat) (r : List Int) (hr : ∀ i, co r i = mulL a (co b) i) (hd : ∀ i, k + n ≤ i → co r i = 0) : ∀ i, co (divR b n c k [] r).2 i = 0 := by
  obtain ⟨h1, h2⟩ := divR_eq hb hc k [] r hd
  -- the rest is the product of b and what follows
  have key : ∀ i, mulL (addL (scal (c ^ k) a) (scal (-1) (divR b n c k [] r).1)) (co b) i = co (divR b n c k [] r).2 i := by
    intro i
    have e1 := h1 i
    have e2 : mulL (scal (c ^ k) a) (co b) i = c ^ k * mulL a (co b) i := mulL_map _ a _ i
    have e3 : mulL (scal (-1) (divR b n c k [] r).1) (co b) i = -1 * mulL (divR b n c k [] r).1 (co b) i := mulL_map _ _ _ i
    rw [mulL_addL, e2, e3, ← hr i]
    have e4 : mulL [] (co b) i = 0 := rfl
    rw [e4] at e1
    grind
  have z := mul_small hb (by rw [hc]; exact h0) (fun i hi => (key i).trans (h2 i hi))
  intro i
  rw [← key i]
  exact mulL_zero _ _ z i
end Go.Proofs.YtgcogpfmhmmgdaaGreatDoor

namespace Go.Proofs.YtgcogpfmhmmgdaaGreatDoor
open Go.RowKit Go.Shelf
attribute [local go_sem] Oper.semAt_some
set_option linter.unusedSimpArgs false
set_option linter.unusedVariables false

theorem PRow.far {W : World} {b n : Nat} {g : Nat → Bool} {s : Nat → ByteArray} (h : PRow W b n g s) {a : Addr} (ha : b ≠ a.block) (u : Value) : PRow (W.setCell a u) b n g s := World.rowIs.setOther h ha u
theorem OwnRow.far {W : World} {base n : Nat} {A : Option Addr} {g : Nat → Bool} {s : Nat → ByteArray} (h : OwnRow W base A n g s) {a : Addr} (ha : ∀ b, A = some ⟨b, 0, none⟩ → b ≠ a.block) (u : Value) : OwnRow (W.setCell a u) base A n g s := by
  rcases h with h | ⟨b, h1, h2, h3⟩
  · exact .inl h
  · exact .inr ⟨b, h1, h2, h3.far (ha b h1) u⟩
theorem OwnRow.lt {W : World} {base n : Nat} {A : Option Addr} {g : Nat → Bool} {s : Nat → ByteArray} (h : OwnRow W base A n g s) : ∀ b, A = some ⟨b, 0, none⟩ → base ≤ b ∧ b < W.heap.size := by
  intro b hb
  rcases h with ⟨_, h⟩ | ⟨b', h1, h2, h3⟩
  · rw [h] at hb; cases hb
  · rw [h1] at hb
    injection hb with hb
    injection hb with hb
    subst hb
    exact ⟨h2, h3.lt⟩
/-- The parameters' variables. -/
def MB (w W : World) (gd : Bool) (sd : ByteArray) (sh : Nat) : Prop := IVar W w.heap.size gd sd ∧ CVar W (w.heap.size + 1) (.int .i64 (sh : Int)) ∧ Below w.heap.size w W
theorem MB.keep {w W W1 : World} {gd : Bool} {sd : ByteArray} {sh : Nat} (h : MB w W gd sd sh) (hb : Below W.heap.size W W1) : MB w W1 gd sd sh := ⟨h.1.keep hb, h.2.1.keep hb, below_more h.2.2 (Nat.le_refl _) hb⟩
theorem MB.far {w W : World} {gd : Bool} {sd : ByteArray} {sh : Nat} (h : MB w W gd sd sh) {a : Addr} (ha : w.heap.size + 1 < a.block) (u : Value) : MB w (W.setCell a u) gd sd sh := ⟨h.1.far (by omega) u, h.2.1.far (by omega) u, h.2.2.setCell (by omega) u⟩
/-- The list's variable, too. -/
def MT (w W : World) (gd : Bool) (sd : ByteArray) (sh bl : Nat) (v : Value) : Prop := MB w W gd sd sh ∧ W.cell? ⟨bl, 0, none⟩ = some v ∧ W.frozen? ⟨bl, 0, none⟩ = false ∧ w.heap.size + 1 < bl
theorem MT.keep {w W W1 : World} {gd : Bool} {sd : ByteArray} {sh bl : Nat} {v : Value} (h : MT w W gd sd sh bl v) (hb : Below W.heap.size W W1) : MT w W1 gd sd sh bl v := ⟨h.1.keep hb, cell_keep h.2.1 hb, frozen_keep h.2.1 h.2.2.1 hb, h.2.2.2⟩
theorem MT.new {w W : World} {gd : Bool} {sd : ByteArray} {sh : Nat} (h : MB w W gd sd sh) (v : Value) (t : TypeId) : MT w (W.alloc (.cells #[v] t)) gd sd sh W.heap.size v := ⟨h.keep (below1 _ _), by simp [go_sem], by simp [go_sem], h.2.1.lt⟩
theorem MT.set {w W : World} {gd : Bool} {sd : ByteArray} {sh bl : Nat} {v : Value} (h : MT w W gd sd sh bl v) (u : Value) : MT w (W.setCell ⟨bl, 0, none⟩ u) gd sd sh bl u := ⟨h.1.far h.2.2.2 u, World.cell?_setCell_same _ _ _ h.2.1, by rw [World.frozen?_setCell]; exact h.2.2.1, h.2.2.2⟩
theorem MT.far {w W : World} {gd : Bool} {sd : ByteArray} {sh bl : Nat} {v : Value} (h : MT w W gd sd sh bl v) {a : Addr} (ha : w.heap.size + 1 < a.block) (hb : bl ≠ a.block) (u : Value) : MT w (W.setCell a u) gd sd sh bl v := ⟨h.1.far ha u, by rw [World.cell?_setCell_far _ _ _ _ (fun e => hb e.symm)]; exact h.2.1, by rw [World.frozen?_setCell]; exact h.2.2.1, h.2.2.2⟩
theorem MT.kept {w W W1 : World} {gd : Bool} {sd : ByteArray} {sh bl : Nat} {v : Value} {row : Option Nat} (h : MT w W gd sd sh bl v) (hg : W.grownBy W1 row) (hr : ∀ r, row = some r → w.heap.size ≤ r ∧ ∃ o : Obj, W.heap[r]? = some o ∧ o.isCells = false) : MT w W1 gd sd sh bl v :=
  ⟨⟨h.1.1.kept hg (fun r e => (hr r e).2), h.1.2.1.kept hg (fun r e => (hr r e).2), h.1.2.2.grown hg h.1.2.2.size (fun r e => (hr r e).1)⟩, cell_kept h.2.1 hg (fun r e => (hr r e).2), (frozen_kept h.2.1 hg (fun r e => (hr r e).2)).trans h.2.2.1, h.2.2.2⟩
/-- What some exponents of a list of terms have got, as many places up. -/
def gots {α : Type} {L : List Int} (sh : Nat) (pre : List (Tm L)) (f : Nat → α) (z : α) (i : Nat) : α := if i < sh then z else got pre f z (i - sh)
theorem gots_nil {α : Type} {L : List Int} (sh : Nat) (f : Nat → α) (z : α) : gots sh ([] : List (Tm L)) f z = fun _ => z := by
  funext i
  unfold gots
  rw [got_nil]
  split <;> rfl
theorem gots_snoc {α : Type} {L : List Int} (sh : Nat) (pre : List (Tm L)) (x : Tm L) (f : Nat → α) (z : α) : gots sh (pre ++ [x]) f z = upd2 (gots sh pre f z) (x.1 + sh) (f x.1) := by
  funext i
  unfold gots
  rw [got_snoc]
  unfold upd2
  show _ = if i = x.1 + sh then f x.1 else if i < sh then z else got pre f z (i - sh)
  by_cases h : i = x.1 + sh
  · subst h; rw [if_neg (by omega), if_pos (by omega), if_pos rfl]
  · rw [if_neg h]
    by_cases h2 : i < sh
    · rw [if_pos h2, if_pos h2]
    · rw [if_neg h2, if_neg h2]
      show (if i - sh = x.1 then f x.1 else got pre f z (i - sh)) = _
      rw [if_neg (by omega)]
set_option maxRecDepth 100000 in
set_option maxHeartbeats 6400000 in
theorem mulp_any (v1 v2 : Value) (L C : List Int) (d : Int) (sh k kk : Nat) (w : World) (h1 : PolyAt w v1 L k) (h2 : IsInt v2 d k) (hL : L.length ≤ 100000) (hsh : sh ≤ 100000) (hk : k ≤ 1000000) (hC : trm C = C) (hco : ∀ i, co C i = if i < sh then 0 else co L (i - sh) * d) :
    Calls Tryz.prog 96 #[v1, v2, .int .i64 (sh : Int)] w (PolyOut w C) := by
  have H1 := Lib.hid h1
  have H2 := Lib.hid h2
  have HO := Lib.hid (And.intro hC hco)
  obtain ⟨A, c, g, s, rfl, hcells⟩ := h1.cells
  have HCL := Lib.hid hcells
  obtain ⟨gd, sd, rfl, -⟩ := h2
  clear hco hC hcells
  obtain ⟨m, Hm⟩ : ∃ m : Int, Hid (((nbits d.natAbs : Nat) : Int) = m) := ⟨_, Lib.hid rfl⟩
  have X0 := IVar.new w gd sd 27
  have S0 := CVar.new (w.alloc (.cells #[.bool gd, .string sd] 27)) (.int .i64 (sh : Int)) 3
  rw [World.size_alloc] at S0
  have X0 := X0.keep (below1 _ (.cells #[.int .i64 (sh : Int)] 3))
  have B0 := below2 w (.cells #[.bool gd, .string sd] 27) (.cells #[.int .i64 (sh : Int)] 3)
  refine (callsIn_wide (n := 8)).1 ?_
  refine callsIn_of_wp_marks Tryz.func96 rfl trivial ?_ rfl
  simp only [Tryz.ntmps96, List.size_toArray, List.length_cons, List.length_nil, Nat.reduceAdd, Nat.reduceSub, Array.replicate_succ, Array.replicate_zero, List.push_toArray, List.append_toArray, List.nil_append, List.cons_append]
  by_cases hm : m = 0
  · have HN := Lib.hid (show C = [] by
      rw [← HO.out.1, trm_nil_iff]
      intro i
      rw [HO.out.2 i, nbits_zero.1 (Hm.out.trans hm)]
      split
      · rfl
      · exact Int.mul_zero _)
    subst hm
    gi_wp2_with (refine ⟨trivial, ?_⟩; gi_at_call 34; (with_reducible refine (callsIn_wide.2 (ibits_any _ _ k _ H2.out)).mono ?_); (rw [Hm.out]); rintro e W1 ⟨rfl, b1⟩; (have B1 := below_more B0 (Nat.le_refl _) b1))
    refine ⟨trivial, ?_⟩
    gi_wp2
    exact ⟨.slice none 0 0, by simp [results, Tryz.results96, go_sem], _, rfl, .inl ⟨rfl, HN.out⟩, B1⟩
  · have hmb : (m == 0) = false := beq_eq_false_iff_ne.2 hm
    have HD := Lib.hid (show d ≠ 0 from fun h => hm (by rw [← Hm.out]; exact nbits_zero.2 h))
    clear hm
    by_cases hL0 : trm L = []
    · have HN := Lib.hid (show C = [] by
        rw [← HO.out.1, trm_nil_iff]
        intro i
        rw [HO.out.2 i, (trm_nil_iff L).1 hL0]
        split
        · rfl
        · exact Int.zero_mul _)
      have hdg : degZ L = -1 := by unfold degZ; rw [hL0]; rfl
      clear hL0
      gi_wp2_with (refine ⟨trivial, ?_⟩; first
        | (gi_at_call 34; (with_reducible refine (callsIn_wide.2 (ibits_any _ _ k _ H2.out)).mono ?_); (rw [Hm.out]); rintro e W1 ⟨rfl, b1⟩; (have B1 := below_more B0 (Nat.le_refl _) b1))
        | (gi_at_call 10; (with_reducible refine (callsIn_wide.2 (deg_any _ L k _ (H1.out.keep2 B1) (by omega))).mono ?_); (rw [hdg]); rintro e W2 ⟨rfl, b2⟩; (have B2 := below_more B1 (Nat.le_refl _) b2)))
      exact ⟨.slice none 0 0, by simp [results, Tryz.results96, go_sem], _, rfl, .inl ⟨rfl, HN.out⟩, B2⟩
    · obtain ⟨n0, hn0⟩ : ∃ n0, (trm L).length = n0 + 1 := ⟨(trm L).length - 1, by have := List.length_pos_iff.2 hL0; omega⟩
      have hdg : degZ L = (n0 : Int) := by unfold degZ; rw [hn0]; omega
      have hn1 : n0 ≤ 100000 := by have := trm_len L; omega
      have i0 : ¬ (n0 : Int) < 0 := by omega
      have HN0 := Lib.hid hn0
      clear hL0 hn0
      gi_wp2_with (refine ⟨trivial, ?_⟩; first
        | (gi_at_call 34; (with_reducible refine (callsIn_wide.2 (ibits_any _ _ k _ H2.out)).mono ?_); (rw [Hm.out]); rintro e W1 ⟨rfl, b1⟩; (have B1 := below_more B0 (Nat.le_refl _) b1); (have X1 := X0.keep b1); (have S1 := S0.keep b1))
        | (gi_at_call 10; (with_reducible refine (callsIn_wide.2 (deg_any _ L k _ (H1.out.keep2 B1) (by omega))).mono ?_); (rw [hdg]); rintro e W2 ⟨rfl, b2⟩; (have B2 := below_more B1 (Nat.le_refl _) b2); (have X2 := X1.keep b2); (have S2 := S1.keep b2)))
      have hw : IntKind.i64.wrap ((n0 : Int) + (sh : Int)) = ((n0 + sh : Nat) : Int) := by rw [IntKind.wrap_i64]; omega
      obtain ⟨n1, hn1'⟩ : ∃ n1, n1 = n0 + sh := ⟨_, rfl⟩
      have HN1 := Lib.hid hn1'
      have hn2 : n1 ≤ 200000 := by omega
      rw [← hn1'] at hw
      obtain ⟨N, hNa, hNb⟩ : ∃ N, N ≤ n1 + 1 ∧ n1 + 1 ≤ N := ⟨n1 + 1, Nat.le_refl _, Nat.le_refl _⟩
      have KB : MB w W2 gd sd sh := ⟨X2, S2, B2⟩
      clear X0 X1 X2 S0 S1 S2 B0 B1 b1 b2 hn1'
      have q1 := KB.2.1
      refine wpIn_wide.2 ?_
      go_cut [7] from 18 to 22 (fun s7 wx => ∃ (bl : Nat) (A0 : Option Addr), s7 = .pointer (some ⟨bl, 0, none⟩) ∧ MT w wx gd sd sh bl (.slice A0 N N) ∧ OwnRow wx (w.heap.size + 2) A0 N (fun _ => false) (fun _ => ⟨#[]⟩) ∧ (∀ b, A0 = some ⟨b, 0, none⟩ → b ≠ bl))
      case first =>
        have KB := KB.keep (Below.refl _ _).drew
        clear q1 B2
        have q1 := KB.2.1
        go_region_held3 (fun W => W.cell? ⟨w.heap.size + 1, 0, none⟩ = some (.int .i64 (sh : Int))) (first | (with_reducible exact q1) | exact KB.2.1 | exact (KB.keep (below1 _ _)).2.1 | (with_reducible exact (MT.set KT _).1.2.1) | exact (MT.set KT _).1.2.1 | go_keep)
          (first
            | (go_at_call 10; (first | (refine (deg_any _ L k _ (H1.out.keep2 KB.2.2) (by omega)).mono ?_) | (refine (deg_any _ L k _ (H1.out.keep2 (MB.keep KB (below1 _ _)).2.2) (by omega)).mono ?_)); (rw [hdg]); rintro e X ⟨rfl, bX⟩; (first | ((with_reducible (have KT1 := MT.keep KT bX; have KB1 := MB.keep KB bX)); have KT := KT1; have KB := KB1; obtain ⟨-, v1, v2, v3⟩ := id KT) | (with_reducible have KB1 := MB.keep KB bX; have KB := KB1) | (have KT := MT.keep (MT.new KB _ _) bX; (try simp only [World.size_drew] at KT); have KB := KT.1; obtain ⟨-, v1, v2, v3⟩ := id KT)))
            | (go_at_call 41; refine (blank_row _ N _ (by omega) (by omega) (by omega)).mono ?_; rintro e X ⟨A0, rfl, R, bX⟩; (have hlt := KB.2.1.lt); (have R1 := R.wider (show w.heap.size + 2 ≤ _ by (try simp only [World.size_alloc]); omega)); (first | (have hbl := World.block_lt_of_cell? _ ⟨_, 0, none⟩ v1) | skip); (first | ((with_reducible (have KT1 := MT.keep KT bX; have KB1 := MB.keep KB bX)); have KT := KT1; have KB := KB1; obtain ⟨-, v1, v2, v3⟩ := id KT) | (with_reducible have KB1 := MB.keep KB bX; have KB := KB1) | (have KT := MT.keep (MT.new KB _ _) bX; (try simp only [World.size_drew] at KT); have KB := KT.1; obtain ⟨-, v1, v2, v3⟩ := id KT))))
        all_goals go_wp2_with fail
        all_goals go_meet
        all_goals first
          | exact ⟨_, A0, rfl, MT.new KB _ _, R1.keep (below1 _ _), fun b hb => Nat.ne_of_lt (R.lt b hb).2⟩
          | (refine ⟨_, A0, rfl, MT.set KT _, R1.far (fun b hb => ?_) _, fun b hb => ?_⟩ <;> (have h1 := (R.lt b hb).1; (try simp only [World.size_alloc] at h1); (try dsimp only); omega))
      case rest =>
        obtain ⟨bl, A0, rfl, KT, R, hne⟩ := hcut
        clear KB q1
        gi_wp2_with (refine ⟨trivial, ?_⟩; gi_at_call 46; (with_reducible refine (callsIn_wide.2 (terms_any A L.length c _)).mono ?_); rintro e W3 ⟨rfl, rfl⟩)
        have K4 := KT.keep (below1 wc (.cells #[.slice A L.length c] 22))
        have R4 := R.keep (below1 wc (.cells #[.slice A L.length c] 22))
        have T4 := CVar.new wc (.slice A L.length c) 22
        have hbl := World.block_lt_of_cell? wc ⟨bl, 0, none⟩ KT.2.1
        have hlt := KT.2.2.2
        have HA := Lib.hid R.lt
        have HE := Lib.hid hne
        clear KT R hne
        generalize wc.alloc (.cells #[.slice A L.length c] 22) = W4 at *
        generalize wc.heap.size = bt at *
        have B4 := K4.1.2.2
        have C4 := HCL.out.keep B4
        have hT := T4.lt
        dsimp only at hbl
        have hm0 := Lib.hid (show ∀ j, co L j = 0 → co L j * d = 0 from fun j h => by rw [h]; exact Int.zero_mul _)
        have HR0 := Lib.hid (show OwnRow W4 (w.heap.size + 2) A0 N (gots sh ([] : List (Tm L)) (fun j => sg (co L j * d)) false) (gots sh ([] : List (Tm L)) (fun j => mg (co L j * d)) ⟨#[]⟩) by rw [gots_nil, gots_nil]; exact R4)
        refine wpIn_rangeFunc_ownH rfl (by omega) (gf := 83) (lb := #[.pointer (some ⟨bt, 0, none⟩)]) rfl trivial (enters_of Tryz.func83 (by kernel_rfl) rfl)
          (terms_stops _ bt w.heap.size c k A L g s W4 (by omega) (by omega) T4 B4.size C4) (fun h h' => h.trans h') (Kt.turn B4.size hT) (Below.refl _ _) (fun _ => rfl)
          (fun pre W => MT w W gd sd sh bl (.slice A0 N N) ∧ OwnRow W (w.heap.size + 2) A0 N (gots sh pre (fun j => sg (co L j * d)) false) (gots sh pre (fun j => mg (co L j * d)) ⟨#[]⟩) ∧ CVar W bt (.slice A L.length c))
          (fun _ _ _ => False)
          (fun pre X Y row hs hg hr => ⟨hs.1.kept hg (fun r e => ⟨Nat.le_trans B4.size (hr r e).1, (hr r e).2⟩), hs.2.1.kept hg (fun r e => (hr r e).2), hs.2.2.kept hg (fun r e => (hr r e).2)⟩)
          (fun _ _ _ _ _ hs _ _ => hs)
          ⟨K4, HR0.out, T4⟩
          (fun x a' W => ∃ Bx, bt < Bx ∧ IVar W Bx (g x.1) (s x.1) ∧ a' = { tmps := #[.slice A L.length c, .agg #[.bool gd, .string sd], .int .i64 (sh : Int), undef, .pointer (some ⟨w.heap.size, 0, none⟩), .pointer (some ⟨w.heap.size + 1, 0, none⟩), .slice none 0 0, .pointer (some ⟨bl, 0, none⟩), .int .i64 (x.1 : Int), .pointer (some ⟨Bx, 0, none⟩), .agg #[.bool gd, .string sd], .int .i64 m, .bool false, .bool false, .slice A L.length c, .int .i64 (n0 : Int), .bool (decide ((n0 : Int) < 0)), .bool (decide ((n0 : Int) < 0)), u18, u19, u20, u21, u22, .slice A L.length c, .func (.func 83) #[] #[.pointer (some ⟨bt, 0, none⟩)], .int .i64 (x.1 : Int), .agg #[.bool (g x.1), .string (s x.1)], undef, undef, undef, undef, undef, undef, undef, undef, undef], defers := [] })
          (fun x a' _ X Y row hs hg hr => by
            obtain ⟨Bx, h1, h2, h3⟩ := hs
            exact ⟨Bx, h1, h2.kept hg (fun r e => (hr r e).2), h3⟩)
          ?assign ?body ?done ?stop
        case assign =>
          rintro l pre x W K ⟨i1, i2, i3⟩ hK
          have hKK := Lib.hid hK
          clear hK
          gi_wp2
          exact hKK.out _ _ ((KeepsOthers.alloc _ _).from _) (Kt.of_below (below1 W _) i1.1.2.2.size i3.lt) ⟨i1.keep (below1 W _), i2.keep (below1 W _), i3.keep (below1 W _)⟩ ⟨W.heap.size, i3.lt, IVar.new W _ _ _, rfl⟩
        case body =>
          rintro l pre x a' W hl ⟨r, hr⟩ ⟨i1, i2, i3⟩ ⟨Bx, hBx, bX, rfl⟩ hlt'
          have hxL : x.1 < L.length := by have := trm_len L; have := x.lt; omega
          have hxn := x.lt
          obtain ⟨e1, hea, heb⟩ : ∃ e1, e1 ≤ x.1 + sh ∧ x.1 + sh ≤ e1 := ⟨x.1 + sh, Nat.le_refl _, Nat.le_refl _⟩
          have he1 : e1 < N := by have := HN0.out; have := HN1.out; omega
          rcases i2 with ⟨h0, -⟩ | ⟨b0, rfl, hb0, P⟩
          · omega
          obtain ⟨hb1, hb2⟩ := HA.out b0 rfl
          have hb3 := HE.out b0 rfl
          obtain ⟨-, -, -, -, -, hI⟩ := HCL.out x.1 hxL
          have HI := Lib.hid hI
          obtain ⟨z, Ez⟩ : ∃ z, Hid (co L x.1 * d = z) := ⟨_, Lib.hid rfl⟩
          obtain ⟨⟨⟨x1, x2⟩, x3, -⟩, x5, -, -⟩ := id i1
          obtain ⟨x6, x7⟩ := id bX
          have hxi : (e1 : Int) < (N : Int) := by omega
          have hx0 : (0 : Int) ≤ (e1 : Int) := by omega
          have hxw : IntKind.i64.wrap ((x.1 : Int) + (sh : Int)) = (e1 : Int) := by rw [IntKind.wrap_i64]; omega
          clear hI
          gi_wp2
          refine region_in_round (S := (fun W' => W'.cell? ⟨w.heap.size, 0, none⟩ = some (.bool gd) ∧ W'.cell? ⟨w.heap.size, 1, none⟩ = some (.string sd) ∧ W'.cell? ⟨w.heap.size + 1, 0, none⟩ = some (.int .i64 (sh : Int)) ∧ W'.cell? ⟨bl, 0, none⟩ = some (.slice (some ⟨b0, 0, none⟩) N N) ∧ W'.cell? ⟨Bx, 0, none⟩ = some (.bool (g x.1)) ∧ W'.cell? ⟨Bx, 1, none⟩ = some (.string (s x.1)))) (by kernel_rfl) (all_plain (by kernel_rfl)) (by rintro ⟨_, _, h⟩; exact h) ?_ (fun hHeld => ?_)
          · exact ⟨x1, x2, x3, x5, x6, x7⟩
          refine wpAnyH_take (i := 0) (v := ?_) rfl (by kernel_rfl) (by kernel_rfl) (by kernel_rfl) (fun _ _ _ h => h) (Or.inl ⟨by rfl, ?_⟩) (by assumption) ?_
          rotate_left
          · intro w hSw
            (try dsimp only at hSw)
            go_simp
            all_goals with_reducible rfl
          (try simp only [Act.put, List.setIfInBounds_toArray, List.set_cons_zero, List.set_cons_succ])
          refine wpAnyH_take (i := 1) (v := ?_) rfl (by kernel_rfl) (by kernel_rfl) (by kernel_rfl) (fun _ _ _ h => h) (Or.inl ⟨by rfl, ?_⟩) (by assumption) ?_
          rotate_left
          · intro w hSw
            (try dsimp only at hSw)
            go_simp
            all_goals with_reducible rfl
          (try simp only [Act.put, List.setIfInBounds_toArray, List.set_cons_zero, List.set_cons_succ])
          refine wpAnyH_take (i := 2) (v := ?_) rfl (by kernel_rfl) (by kernel_rfl) (by kernel_rfl) (fun _ _ _ h => h) (Or.inl ⟨by rfl, ?_⟩) (by assumption) ?_
          rotate_left
          · intro w hSw
            (try dsimp only at hSw)
            go_simp
            all_goals with_reducible rfl
          (try simp only [Act.put, List.setIfInBounds_toArray, List.set_cons_zero, List.set_cons_succ])
          refine wpAnyH_take (i := 3) (v := ?_) rfl (by kernel_rfl) (by kernel_rfl) (by kernel_rfl) (fun _ _ _ h => h) (Or.inl ⟨by rfl, ?_⟩) (by assumption) ?_
          rotate_left
          · intro w hSw
            (try dsimp only at hSw)
            go_simp
            all_goals with_reducible rfl
          (try simp only [Act.put, List.setIfInBounds_toArray, List.set_cons_zero, List.set_cons_succ])
          refine wpAnyH_take (i := 4) (v := ?_) rfl (by kernel_rfl) (by kernel_rfl) (by kernel_rfl) (fun _ _ _ h => h) (Or.inl ⟨by rfl, ?_⟩) (by assumption) ?_
          rotate_left
          · intro w hSw
            (try dsimp only at hSw)
            go_simp
            all_goals with_reducible rfl
          (try simp only [Act.put, List.setIfInBounds_toArray, List.set_cons_zero, List.set_cons_succ])
          refine wpAnyH_take (i := 5) (v := ?_) rfl (by kernel_rfl) (by kernel_rfl) (by kernel_rfl) (fun _ _ _ h => h) (Or.inl ⟨by rfl, ?_⟩) (by assumption) ?_
          rotate_left
          · intro w hSw
            (try dsimp only at hSw)
            go_simp
            all_goals with_reducible rfl
          (try simp only [Act.put, List.setIfInBounds_toArray, List.set_cons_zero, List.set_cons_succ])
          refine wpAnyH_ready (rs := [6]) (by kernel_rfl) (by simp) ?_
          refine AllReadyH.cons rfl (fun K hK => ?_) AllReadyH.nil
          go_simp
          go_at_call 42; refine (imul_eq HI.out H2.out Ez.out).mono ?_; rintro e W5 ⟨rfl, b5⟩; have b5 := below_more (Below.refl W.heap.size W).drew (Nat.le_refl _) b5; have P5 := P.keep b5; obtain ⟨p1, p2, p3, p4⟩ := P5.cell he1; have M5 := i1.keep b5; have X5 := bX.keep b5; have T5 := i3.keep b5
          go_wp2_with fail
          refine hK.out _ _ ?_ (fun hHeld => ?_)
          · (try dsimp only)
            exact ⟨M5.1.1.1, M5.1.1.2, M5.1.2.1, M5.2.1, X5.1, X5.2⟩
          clear hK K
          (try simp only [Act.put, List.setIfInBounds_toArray, List.set_cons_zero, List.set_cons_succ])
          refine wpAnyH_take (i := 7) (v := ?_) rfl (by kernel_rfl) (by kernel_rfl) (by kernel_rfl) (fun _ _ _ h => h) (Or.inl ⟨by rfl, ?_⟩) (by assumption) ?_
          rotate_left
          · intro w hSw
            (try dsimp only at hSw)
            go_simp
            all_goals with_reducible rfl
          (try simp only [Act.put, List.setIfInBounds_toArray, List.set_cons_zero, List.set_cons_succ])
          refine wpAnyH_ready (rs := [8]) (by kernel_rfl) (by simp) ?_
          refine AllReadyH.cons rfl (fun K hK => ?_) AllReadyH.nil
          go_simp
          refine hK.out _ _ ?_ (fun hHeld => ?_)
          · (try dsimp only)
            exact ⟨(((M5).far (a := ⟨b0, e1 * 2, none⟩) (by dsimp only; omega) (by dsimp only; omega) _).far (a := ⟨b0, e1 * 2 + 1, none⟩) (by dsimp only; omega) (by dsimp only; omega) _).1.1.1, (((M5).far (a := ⟨b0, e1 * 2, none⟩) (by dsimp only; omega) (by dsimp only; omega) _).far (a := ⟨b0, e1 * 2 + 1, none⟩) (by dsimp only; omega) (by dsimp only; omega) _).1.1.2, (((M5).far (a := ⟨b0, e1 * 2, none⟩) (by dsimp only; omega) (by dsimp only; omega) _).far (a := ⟨b0, e1 * 2 + 1, none⟩) (by dsimp only; omega) (by dsimp only; omega) _).1.2.1, (((M5).far (a := ⟨b0, e1 * 2, none⟩) (by dsimp only; omega) (by dsimp only; omega) _).far (a := ⟨b0, e1 * 2 + 1, none⟩) (by dsimp only; omega) (by dsimp only; omega) _).2.1, (((X5).far (a := ⟨b0, e1 * 2, none⟩) (by dsimp only; omega) _).far (a := ⟨b0, e1 * 2 + 1, none⟩) (by dsimp only; omega) _).1, (((X5).far (a := ⟨b0, e1 * 2, none⟩) (by dsimp only; omega) _).far (a := ⟨b0, e1 * 2 + 1, none⟩) (by dsimp only; omega) _).2⟩
          clear hK K
          (try simp only [Act.put, List.setIfInBounds_toArray, List.set_cons_zero, List.set_cons_succ])
          refine wpAnyH_done (by kernel_rfl) ?_ _
          have HS := Lib.hid (P5.set e1 (sg z) (mg z))
          have hee : x.1 + sh = e1 := by omega
          refine (show KeepsFrom W4.heap.size W _ ∧ Kt w.heap.size bt W _ ∧ _ from ⟨((others_of_below b5).trans ((KeepsOthers.setCell _ _ _).trans (KeepsOthers.setCell _ _ _))).from _, ((Kt.of_below b5 i1.1.2.2.size i3.lt).set (a := ⟨b0, e1 * 2, none⟩) (by dsimp only; omega) (by dsimp only; omega) _).set (a := ⟨b0, e1 * 2 + 1, none⟩) (by dsimp only; omega) (by dsimp only; omega) _, ((i1.keep b5).far (a := ⟨b0, e1 * 2, none⟩) (by dsimp only; omega) (by dsimp only; omega) _).far (a := ⟨b0, e1 * 2 + 1, none⟩) (by dsimp only; omega) (by dsimp only; omega) _, .inr ⟨b0, rfl, hb0, ?_⟩, ((i3.keep b5).far (a := ⟨b0, e1 * 2, none⟩) (by dsimp only; omega) _).far (a := ⟨b0, e1 * 2 + 1, none⟩) (by dsimp only; omega) _⟩)
          rw [gots_snoc, gots_snoc]
          show PRow _ b0 N (upd2 _ (x.1 + sh) (sg (co L x.1 * d))) (upd2 _ (x.1 + sh) (mg (co L x.1 * d)))
          rw [Ez.out, hee]
          exact HS.out
        case done =>
          rintro D xs W hD rfl ⟨i1, i2, i3⟩ hK
          have x5 := i1.2.1
          gi_wp2
          refine ⟨by simp, .inl ⟨_, _, rfl, run_takeDeferred hK, ?_⟩⟩
          have R5 := (i2.wider (show w.heap.size ≤ w.heap.size + 2 by omega)).kept (grownBy_putObj' W D (.deferred none)) (fun r e => by cases e; exact ⟨_, hK, rfl⟩)
          have B5 := below_put i1.1.2.2 D (Nat.le_trans B4.size hD) (.deferred none)
          have hCl : C.length = N := by
            have h1 : (trm C).length = n1 + 1 := by
              refine trm_len_of (fun i hi => ?_) (.inr ?_)
              · have := HN1.out
                have := HN0.out
                rw [HO.out.2 i, if_neg (by omega), trm_above L (by omega)]
                exact Int.zero_mul _
              · rw [Nat.add_sub_cancel, HO.out.2 n1, if_neg (by have := HN1.out; omega), show n1 - sh = n0 by have := HN1.out; omega]
                exact Int.mul_ne_zero (trm_last L HN0.out) HD.out
            rw [HO.out.1] at h1
            omega
          exact ⟨.slice A0 N N, by simp [results, Tryz.results96, go_sem], _, rfl, R5.poly hCl (fun i hi => by
            rw [HO.out.2 i]
            unfold gots
            split
            · exact ⟨sg_zero.symm, mg_zero.symm⟩
            · rw [got_all _ _ (fun j hj => by rw [hm0.out j hj]; exact sg_zero), got_all _ _ (fun j hj => by rw [hm0.out j hj]; exact mg_zero)]
              exact ⟨rfl, rfl⟩), B5⟩
        case stop =>
          rintro D cc pre W _ _ h _
          exact h.elim
end Go.Proofs.YtgcogpfmhmmgdaaGreatDoor

namespace Go.Proofs.YtgcogpfmhmmgdaaGreatDoor
set_option linter.unusedVariables false

/-- A product of two terms is added. -/
def stp (M : List Int) (x : Nat) (z : Int) (f : Nat → Int) (y : Tm M) : Nat → Int := fun i => if i = x + y.1 then f i + z * co M y.1 else f i
/-- One term of the first factor. -/
def accY (M : List Int) (x : Nat) (z : Int) (f : Nat → Int) (pre : List (Tm M)) : Nat → Int := pre.foldl (stp M x z) f
/-- Some terms of the first factor. -/
def accX (L M : List Int) (pre : List (Tm L)) : Nat → Int := pre.foldl (fun f x => accY M x.1 (co L x.1) f (tmx M M.length)) (fun _ => 0)
theorem accY_nil (M : List Int) (x : Nat) (z : Int) (f : Nat → Int) : accY M x z f [] = f := rfl
theorem accY_snoc (M : List Int) (x : Nat) (z : Int) (f : Nat → Int) (pre : List (Tm M)) (y : Tm M) : accY M x z f (pre ++ [y]) = stp M x z (accY M x z f pre) y := by
  unfold accY
  rw [List.foldl_append]; rfl
theorem accX_nil (L M : List Int) : accX L M [] = fun _ => 0 := rfl
theorem accX_snoc (L M : List Int) (pre : List (Tm L)) (x : Tm L) : accX L M (pre ++ [x]) = accY M x.1 (co L x.1) (accX L M pre) (tmx M M.length) := by
  unfold accX
  rw [List.foldl_append]; rfl
theorem accY_tmx (M : List Int) (x : Nat) (z : Int) (q : Nat) : ∀ (f : Nat → Int) (i : Nat), accY M x z f (tmx M q) i = f i + if x ≤ i ∧ i - x < q then z * co M (i - x) else 0 := by
  induction q with
  | zero => intro f i; rw [if_neg (by omega)]; show f i = _; omega
  | succ q ih =>
    intro f i
    unfold tmx
    by_cases h : co M q = 0
    · rw [dif_pos h, ih]
      by_cases h1 : x ≤ i ∧ i - x < q
      · rw [if_pos h1, if_pos (by omega)]
      · rw [if_neg h1]
        by_cases h2 : x ≤ i ∧ i - x < q + 1
        · rw [if_pos h2, show i - x = q by omega, h]; simp
        · rw [if_neg h2]
    · rw [dif_neg h]
      show accY M x z (stp M x z f ⟨q, h⟩) (tmx M q) i = _
      rw [ih]
      unfold stp
      show (if i = x + q then f i + z * co M q else f i) + _ = _
      by_cases h1 : i = x + q
      · subst h1
        rw [if_pos rfl, if_neg (by omega), if_pos (by omega), show x + q - x = q by omega]; omega
      · rw [if_neg h1]
        by_cases h2 : x ≤ i ∧ i - x < q
        · rw [if_pos h2, if_pos (by omega)]
        · rw [if_neg h2, if_neg (by omega)]
theorem accY_full (M : List Int) (x : Nat) (z : Int) (f : Nat → Int) (i : Nat) : accY M x z f (tmx M M.length) i = f i + if x ≤ i then z * co M (i - x) else 0 := by
  rw [accY_tmx]
  by_cases h : x ≤ i
  · rw [if_pos h]
    by_cases h1 : i - x < M.length
    · rw [if_pos ⟨h, h1⟩]
    · rw [if_neg (by omega), co_ge (by omega), Int.mul_zero]
  · rw [if_neg h, if_neg (by omega)]
/-- What the terms below q make. -/
def cvl (L M : List Int) : Nat → Nat → Int
  | 0, _ => 0
  | q + 1, i => cvl L M q i + if q ≤ i then co L q * co M (i - q) else 0
theorem accX_tmx (L M : List Int) (q : Nat) : ∀ (f : Nat → Int) (i : Nat), (tmx L q).foldl (fun f x => accY M x.1 (co L x.1) f (tmx M M.length)) f i = f i + cvl L M q i := by
  induction q with
  | zero => intro f i; show f i = f i + 0; omega
  | succ q ih =>
    intro f i
    rw [show tmx L (q + 1) = if h : co L q = 0 then tmx L q else ⟨q, h⟩ :: tmx L q from rfl]
    by_cases h : co L q = 0
    · rw [dif_pos h, ih]
      show _ = f i + (cvl L M q i + if q ≤ i then co L q * co M (i - q) else 0)
      rw [h]
      split <;> simp
    · rw [dif_neg h]
      show (tmx L q).foldl _ (accY M q (co L q) f (tmx M M.length)) i = _
      rw [ih, accY_full]
      show _ = f i + (cvl L M q i + _)
      omega
/-- What the terms from n on make. -/
theorem cvl_drop (L M : List Int) (i : Nat) : ∀ n, n ≤ L.length → cvl L M n i + (if n ≤ i then mulL (L.drop n) (co M) (i - n) else 0) = mulL L (co M) i := by
  intro n
  induction n with
  | zero => intro _; show 0 + _ = _; rw [if_pos (Nat.zero_le _)]; simp
  | succ n ih =>
    intro hn
    rw [← ih (by omega)]
    show cvl L M n i + _ + _ = _
    by_cases h : n ≤ i
    · rw [if_pos h, if_pos h, mulL_drop L (co M) n (by omega) (i - n)]
      by_cases h2 : n + 1 ≤ i
      · rw [if_pos h2, show i - n = (i - (n + 1)) + 1 by omega]
        show _ = cvl L M n i + (_ + mulL (L.drop (n + 1)) (co M) (i - (n + 1)))
        omega
      · rw [if_neg h2, show i - n = 0 by omega]
        show _ = cvl L M n i + (_ + 0)
        omega
    · rw [if_neg h, if_neg h, if_neg (by omega)]
      omega
theorem accX_full (L M : List Int) (i : Nat) : accX L M (tmx L L.length) i = mulL L (co M) i := by
  unfold accX
  rw [accX_tmx, ← cvl_drop L M i L.length (Nat.le_refl _)]
  rw [List.drop_length]
  simp [mulL]
/-- Bounds of the sums on the way. -/
theorem accY_bd (M : List Int) (x : Nat) (z : Int) (f : Nat → Int) {F B : Nat} (hf : ∀ i, (f i).natAbs ≤ F) (hB : ∀ j, (z * co M j).natAbs ≤ B) (pre : List (Tm M)) : ∀ i, (accY M x z f pre i).natAbs ≤ F + pre.length * B := by
  suffices h : ∀ (pre : List (Tm M)) (f : Nat → Int) (F : Nat), (∀ i, (f i).natAbs ≤ F) → ∀ i, (accY M x z f pre i).natAbs ≤ F + pre.length * B from h pre f F hf
  intro pre
  induction pre with
  | nil => intro f F hf i; have := hf i; show (f i).natAbs ≤ _; simpa using this
  | cons y pre ih =>
    intro f F hf i
    have h1 := ih (stp M x z f y) (F + B) (fun j => by
      unfold stp
      have h2 := hf j
      have h3 := hB y.1
      split
      · have := Int.natAbs_add_le (f j) (z * co M y.1); omega
      · omega) i
    rw [List.length_cons, Nat.add_mul]
    show (accY M x z (stp M x z f y) pre i).natAbs ≤ _
    omega
theorem accX_bd (L M : List Int) {B : Nat} (hB : ∀ i j, (co L i * co M j).natAbs ≤ B) (pre : List (Tm L)) : ∀ i, (accX L M pre i).natAbs ≤ pre.length * (M.length * B) := by
  suffices h : ∀ (pre : List (Tm L)) (f : Nat → Int) (F : Nat), (∀ i, (f i).natAbs ≤ F) → ∀ i, (pre.foldl (fun f x => accY M x.1 (co L x.1) f (tmx M M.length)) f i).natAbs ≤ F + pre.length * (M.length * B) by
    intro i
    have := h pre (fun _ => 0) 0 (fun i => by simp) i
    unfold accX
    omega
  intro pre
  induction pre with
  | nil => intro f F hf i; have := hf i; show (f i).natAbs ≤ _; simpa using this
  | cons x pre ih =>
    intro f F hf i
    have h1 := ih (accY M x.1 (co L x.1) f (tmx M M.length)) (F + M.length * B) (fun j => by
      have h2 := accY_bd M x.1 (co L x.1) f hf (hB x.1) (tmx M M.length) j
      have h3 := Nat.mul_le_mul_right B (tmx_len M M.length)
      omega) i
    rw [List.length_cons, Nat.add_mul]
    show (pre.foldl _ (accY M x.1 (co L x.1) f (tmx M M.length)) i).natAbs ≤ _
    omega
end Go.Proofs.YtgcogpfmhmmgdaaGreatDoor
