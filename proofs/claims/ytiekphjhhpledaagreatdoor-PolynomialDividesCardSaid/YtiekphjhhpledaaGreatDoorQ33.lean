/- The laws' great and small. What the polynomials' functions return, in the form that the laws want. Condition: coefficients below 2^128, lists of at most 33. groovelaw03.awake: the calls' contracts at its examples. -/
import Derived.Test.YtiekphjhhpledaaGreatDoorQ32
import Derived.Test.YtiekphjhhpledaaGreatDoorQ26

namespace Go.Proofs.YtiekphjhhpledaaGreatDoor
open Go.RowKit Go.Shelf
set_option linter.unusedSimpArgs false
set_option linter.unusedVariables false

def anyB (m : Nat) (p : Nat → Bool) : Bool := (List.range m).any p
theorem anyB_first (m : Nat) (p : Nat → Bool) : ∃ q, q ≤ m ∧ (∀ k, k < q → p k = false) ∧ (q < m → p q = true) ∧ decide (q < m) = anyB m p := by
  induction m with
  | zero => exact ⟨0, Nat.le_refl _, fun k hk => absurd hk (Nat.not_lt_zero _), fun h => absurd h (Nat.not_lt_zero _), rfl⟩
  | succ m ih =>
    obtain ⟨q, h1, h2, h3, h4⟩ := ih
    have e : anyB (m + 1) p = (anyB m p || p m) := by
      unfold anyB
      rw [List.range_succ, List.any_append]
      simp
    rcases Nat.lt_or_ge q m with h | h
    · refine ⟨q, by omega, h2, fun _ => h3 h, ?_⟩
      rw [e, ← h4, decide_eq_true h, decide_eq_true (by omega)]
      rfl
    · obtain rfl : q = m := by omega
      rw [decide_eq_false (Nat.lt_irrefl _)] at h4
      cases hp : p q
      · refine ⟨q + 1, Nat.le_refl _, fun k hk => ?_, fun h => absurd h (Nat.lt_irrefl _), by rw [e, ← h4, hp, decide_eq_false (Nat.lt_irrefl _)]; rfl⟩
        rcases Nat.lt_or_ge k q with hk' | hk'
        · exact h2 k hk'
        · obtain rfl : k = q := by omega
          exact hp
      · exact ⟨q, by omega, h2, fun _ => hp, by rw [e, ← h4, hp, decide_eq_true (by omega)]; rfl⟩
theorem contains_all (f : FuncId) (hE : ∀ args w, (callFunc f args).run Tryz.prog w = .ok (.enter f args) w) (b m c : Nat) (n : Nat → Nat) (s : Nat → Nat → ByteArray) (p : Nat → Bool) (w : World) (h : ArgsS w b m n s) (hm : m ≤ 1000)
    (hF : ∀ k v W, k < m → ArgS W v (n k) (s k) → Calls Tryz.prog f #[v] W fun e W' => e = .returned (.bool (p k)) ∧ Below W.heap.size W W') :
    Calls Tryz.prog 18 #[.slice (some ⟨b, 0, none⟩) m c, .func (.func f) #[] #[]] w fun e w' => e = .returned (.bool (anyB m p)) ∧ Below w.heap.size w w' := by
  obtain ⟨q, h1, h2, h3, h4⟩ := anyB_first m p
  rw [← h4]
  exact contains_any f hE b m c n s p w h hm q h1 h2 h3 hF
theorem Tryz.greatE (args : Array Value) (w : World) : (callFunc 33 args).run Tryz.prog w = .ok (.enter 33 args) w := by
  simp [callFunc, go_sem, Tryz.func33, Tryz.f33]
theorem Tryz.small1E (args : Array Value) (w : World) : (callFunc 19 args).run Tryz.prog w = .ok (.enter 19 args) w := by
  simp [callFunc, go_sem, Tryz.func19, Tryz.f19]
set_option maxRecDepth 100000 in
set_option maxHeartbeats 3200000 in
theorem lgreat_any (b m c : Nat) (n : Nat → Nat) (s : Nat → Nat → ByteArray) (w : World) (h : ArgsS w b m n s) (hm : m ≤ 1000) (hn : ∀ k, k < m → n k ≤ 9223372036854775807) (hs : ∀ k, k < m → ∀ i, i < n k → (s k i).size ≤ 9223372036854775807) :
    Calls Tryz.prog 16 #[.slice (some ⟨b, 0, none⟩) m c] w fun e w' => e = .returned (.bool (anyB m fun k => grP (n k) (s k))) ∧ Below w.heap.size w w' := by
  have HC := Lib.hid (contains_all 33 Tryz.greatE b m c n s (fun k => grP (n k) (s k)) w h hm (fun k v W hk hv => great_any v (n k) (s k) W hv (hn k hk) (hs k hk)))
  obtain ⟨R, hR⟩ : ∃ R, (anyB m fun k => grP (n k) (s k)) = R := ⟨_, rfl⟩
  rw [hR] at HC ⊢
  clear h hn hs hR
  go_enter Tryz.func16, Tryz.ntmps16
  go_wp2_with (go_at_call 18; (with_reducible refine (HC.out).mono ?_); rintro e W1 ⟨rfl, b1⟩)
  go_ret
  exact ⟨rfl, b1⟩
set_option maxRecDepth 100000 in
set_option maxHeartbeats 3200000 in
theorem small1_any (v : Value) (n : Nat) (s : Nat → ByteArray) (w : World) (h : ArgS w v n s) (hn : n ≤ 9223372036854775807) :
    Calls Tryz.prog 19 #[v] w fun e w' => e = .returned (.bool (decide (8 < n))) ∧ Below w.heap.size w w' := by
  obtain ⟨A, c, g, rfl, hc, h3⟩ := h
  have hd : decide ((8 : Int) < (n : Int)) = decide (8 < n) := decide_eq_decide.2 (by omega)
  clear h3
  go_enter Tryz.func19, Tryz.ntmps19
  go_wp2
  go_ret
  exact ⟨rfl, Below.refl _ _⟩
set_option maxRecDepth 100000 in
set_option maxHeartbeats 3200000 in
theorem lsmall_any (b m c : Nat) (n : Nat → Nat) (s : Nat → Nat → ByteArray) (w : World) (h : ArgsS w b m n s) (hm : m ≤ 1000) (hn : ∀ k, k < m → n k ≤ 9223372036854775807) (hs : ∀ k, k < m → ∀ i, i < n k → (s k i).size ≤ 9223372036854775807) :
    Calls Tryz.prog 6 #[.slice (some ⟨b, 0, none⟩) m c] w fun e w' => e = .returned (.bool (!(anyB m fun k => grP (n k) (s k)) && !(anyB m fun k => decide (8 < n k)))) ∧ Below w.heap.size w w' := by
  have HG := Lib.hid (lgreat_any b m c n s w h hm hn hs)
  have HC := Lib.hid (fun W (hb : Below w.heap.size w W) => contains_all 19 Tryz.small1E b m c n s (fun k => decide (8 < n k)) W (h.keep hb) hm (fun k v W hk hv => small1_any v (n k) (s k) W hv (hn k hk)))
  obtain ⟨R, hR⟩ : ∃ R, (anyB m fun k => grP (n k) (s k)) = R := ⟨_, rfl⟩
  obtain ⟨S, hS⟩ : ∃ S, (anyB m fun k => decide (8 < n k)) = S := ⟨_, rfl⟩
  simp only [hR] at HG
  simp only [hS] at HC
  rw [hR, hS]
  clear h hn hs hR hS
  go_enter Tryz.func6, Tryz.ntmps6
  go_wp2_with (first
    | (go_at_call 16; (with_reducible refine (HG.out).mono ?_); rintro e W1 ⟨rfl, b1⟩)
    | (go_at_call 18; (with_reducible refine (HC.out _ b1).mono ?_); rintro e W2 ⟨rfl, b2⟩))
  · next hR =>
      subst hR
      go_ret
      exact ⟨rfl, b1⟩
  · next hR =>
      rw [Bool.not_eq_true] at hR
      subst hR
      go_ret
      exact ⟨rfl, below_more b1 (Nat.le_refl _) b2⟩
end Go.Proofs.YtiekphjhhpledaaGreatDoor

namespace Go.Proofs.YtiekphjhhpledaaGreatDoor
open Go.RowKit Go.Shelf
set_option linter.unusedSimpArgs false
set_option linter.unusedVariables false

/-- What returns a list that can be read. -/
def ListOut (w : World) (L : List Int) (e : Ending) (w' : World) : Prop := ∃ v, e = .returned v ∧ PolyS w' v L ∧ Below w.heap.size w w'
def MulOut (w : World) (L : List Int) (e : Ending) (w' : World) : Prop := ∃ v, e = .returned (.tuple #[v, .int .i64 0]) ∧ PolyS w' v L ∧ Below w.heap.size w w'
theorem polyS_nil (W : World) : PolyS W (.slice none 0 0) [] := ⟨none, 0, rfl, Nat.le_refl _, fun i hi => absurd hi (Nat.not_lt_zero _)⟩
theorem mulG {v1 v2 : Value} {L M : List Int} {w : World} (h1 : PolyAt w v1 L 4) (h2 : PolyAt w v2 M 4) (hL : L.length ≤ 33) (hM : M.length ≤ 33) :
    Calls Tryz.prog 8 #[v1, v2] w (MulOut w (trm (prodL L M))) := by
  have t1 := trm_len L
  have t2 := trm_len M
  by_cases h0 : trm L = []
  · refine (pmul_zero1 v1 v2 L M 4 w h1 h2 (by omega) h0).mono ?_
    rintro e W ⟨rfl, hb⟩
    exact ⟨_, rfl, by rw [trm_mul_zero L M (.inl h0)]; exact polyS_nil _, hb⟩
  · by_cases h00 : trm M = []
    · refine (pmul_zero2 v1 v2 L M 4 w h1 h2 (by omega) (by omega) h0 h00).mono ?_
      rintro e W ⟨rfl, hb⟩
      exact ⟨_, rfl, by rw [trm_mul_zero L M (.inr h00)]; exact polyS_nil _, hb⟩
    · refine (pmul_pos v1 v2 L M _ 4 w h1 h2 (by omega) (by omega) (by omega) h0 h00 (by omega) rfl).mono ?_
      rintro e W ⟨v, rfl, hP, hb⟩
      exact ⟨v, rfl, hP.polyS, hb⟩
theorem pb_trm {L : List Int} {k : Nat} (h : PB L k) : PB (trm L) k := fun i => by rw [co_trm]; exact h i
theorem addG {v1 v2 : Value} {L M : List Int} {w : World} (h1 : PolyAt w v1 L 4) (h2 : PolyAt w v2 M 4) (hL : L.length ≤ 33) (hM : M.length ≤ 33) (hb : PB (addL L M) 5) :
    Calls Tryz.prog 9 #[v1, v2] w (ListOut w (trm (addL L M))) := by
  refine (padd_any v1 v2 L M _ 4 5 w h1 h2 (by omega) (by omega) (by omega) (trm_trm _) (fun i => by rw [co_trm, co_addL]) (pb_trm hb) (by omega)).mono ?_
  rintro e W ⟨v, rfl, hP, hb⟩
  exact ⟨v, rfl, hP.polyS, hb⟩
theorem subG {v1 v2 : Value} {L M : List Int} {w : World} (h1 : PolyAt w v1 L 4) (h2 : PolyAt w v2 M 4) (hL : L.length ≤ 33) (hM : M.length ≤ 33) (hb : PB (subL L M) 5) :
    Calls Tryz.prog 11 #[v1, v2] w (ListOut w (trm (subL L M))) := by
  refine (psub_any v1 v2 L M _ 4 5 w h1 h2 (by omega) (by omega) (by omega) (trm_trm _) (fun i => by rw [co_trm, co_subL]) (pb_trm hb) (by omega)).mono ?_
  rintro e W ⟨v, rfl, hP, hb⟩
  exact ⟨v, rfl, hP.polyS, hb⟩
theorem canG {v1 : Value} {L : List Int} {w : World} (h1 : PolyAt w v1 L 4) (hL : L.length ≤ 33) :
    Calls Tryz.prog 12 #[v1] w (ListOut w (trm L)) := by
  refine (pcan_any v1 L _ 4 w h1 (by omega) (by omega) rfl (by omega)).mono ?_
  rintro e W ⟨v, rfl, hP, hb⟩
  exact ⟨v, rfl, hP.polyS, hb⟩
/-- Coefficients of at most N. -/
def BD (L : List Int) (N : Nat) : Prop := ∀ i, (co L i).natAbs ≤ N
theorem BD.trm {L : List Int} {N : Nat} (h : BD L N) : BD (trm L) N := fun i => by rw [co_trm]; exact h i
theorem BD.add {L M : List Int} {N K : Nat} (h : BD L N) (h' : BD M K) : BD (addL L M) (N + K) := fun i => by
  have := h i
  have := h' i
  rw [co_addL]; omega
theorem BD.sub {L M : List Int} {N K : Nat} (h : BD L N) (h' : BD M K) : BD (subL L M) (N + K) := fun i => by
  have := h i
  have := h' i
  rw [co_subL]; omega
theorem BD.mul {L M : List Int} {N K a b : Nat} (h : BD L N) (h' : BD M K) (hL : L.length ≤ a) (hM : M.length ≤ b) : BD (prodL L M) (a * (b * (N * K))) := fun i => by
  rw [co_prodL, ← accX_full]
  refine Nat.le_trans (accX_bd L M (B := N * K) (fun i j => by rw [Int.natAbs_mul]; exact Nat.mul_le_mul (h i) (h' j)) (tmx L L.length) i) ?_
  exact Nat.mul_le_mul (Nat.le_trans (tmx_len L _) hL) (Nat.mul_le_mul hM (Nat.le_refl _))
theorem BD.pb {L : List Int} {N k : Nat} (h : BD L N) (hN : N < 4294967296 ^ k) : PB L k := fun i => Nat.lt_of_le_of_lt (h i) hN
/-- The integers that lie in a row as it comes in. -/
def intsOf (n : Nat) (g : Nat → Bool) (s : Nat → ByteArray) : List Int := (List.range n).map fun i => zv (g i) (s i)
theorem intsOf_len (n : Nat) (g : Nat → Bool) (s : Nat → ByteArray) : (intsOf n g s).length = n := by simp [intsOf]
theorem co_intsOf {n : Nat} {g : Nat → Bool} {s : Nat → ByteArray} {i : Nat} (h : i < n) : co (intsOf n g s) i = zv (g i) (s i) := by
  simp [co, intsOf, List.getD_eq_getElem?_getD, h]
theorem zv_bd (g : Bool) (s : ByteArray) (h : s.size ≤ 3) : (zv g s).natAbs < 4294967296 := by
  rw [natAbs_zv]
  have h1 := vB_lt s.data.toList
  have h2 : (256 : Nat) ^ s.data.toList.length ≤ 256 ^ 3 := Nat.pow_le_pow_right (by omega) (by rw [Array.length_toList]; exact h)
  have h3 : (256 : Nat) ^ 3 = 16777216 := by decide
  omega
/-- A list of small integers, as it comes in: its values, and what can be read. -/
def ArgV (W : World) (v : Value) (n : Nat) (g : Nat → Bool) (s : Nat → ByteArray) : Prop :=
  ∃ (A : Option Addr) (c : Nat), v = .slice A n c ∧ n ≤ c ∧ ∀ i, i < n → ∃ a, A = some a ∧ W.cell? (a.add (i * 2)) = some (.bool (g i)) ∧ W.cell? ⟨(a.add (i * 2)).block, (a.add (i * 2)).off + 1, none⟩ = some (.string (s i))
theorem ArgV.argS {W : World} {v : Value} {n : Nat} {g : Nat → Bool} {s : Nat → ByteArray} (h : ArgV W v n g s) : ArgS W v n s := by
  obtain ⟨A, c, h1, h2, h3⟩ := h
  exact ⟨A, c, g, h1, h2, h3⟩
theorem ArgV.keep {W W1 : World} {v : Value} {n : Nat} {g : Nat → Bool} {s : Nat → ByteArray} (h : ArgV W v n g s) (hb : Below W.heap.size W W1) : ArgV W1 v n g s := by
  obtain ⟨A, c, h1, h2, h3⟩ := h
  refine ⟨A, c, h1, h2, fun i hi => ?_⟩
  obtain ⟨a, k1, k2, k3⟩ := h3 i hi
  exact ⟨a, k1, cell_keep k2 hb, cell_keep k3 hb⟩
theorem ArgV.at {W : World} {v : Value} {n : Nat} {g : Nat → Bool} {s : Nat → ByteArray} (h : ArgV W v n g s) (hs : ∀ i, i < n → (s i).size ≤ 3) : PolyAt W v (intsOf n g s) 4 := by
  obtain ⟨A, c, h1, h2, h3⟩ := h
  refine ⟨A, c, g, s, by rw [intsOf_len]; exact h1, by rw [intsOf_len]; exact h2, fun i hi => ?_⟩
  rw [intsOf_len] at hi
  obtain ⟨a, k1, k2, k3⟩ := h3 i hi
  have hz := hs i hi
  have hb := zv_bd (g i) (s i) hz
  exact ⟨a, k1, k2, k3, by rw [co_intsOf hi]; exact ⟨g i, s i, rfl, rfl, by omega, Nat.lt_of_lt_of_le hb (by decide), by omega⟩⟩
theorem ArgV.bd {n : Nat} {g : Nat → Bool} {s : Nat → ByteArray} (hs : ∀ i, i < n → (s i).size ≤ 3) : BD (intsOf n g s) 4294967296 := fun i => by
  rcases Nat.lt_or_ge i n with h | h
  · rw [co_intsOf h]; exact Nat.le_of_lt (zv_bd _ _ (hs i h))
  · rw [co_ge (by rw [intsOf_len]; exact h)]; decide
/-- Small, as the laws mean it. -/
theorem small_split (n : Nat) (s : Nat → ByteArray) : (grP n s = false ∧ decide (8 < n) = false) → n ≤ 8 ∧ ∀ i, i < n → (s i).size ≤ 3 := fun ⟨h1, h2⟩ => by
  refine ⟨by have := of_decide_eq_false h2; omega, fun i hi => ?_⟩
  rcases Nat.lt_or_ge 3 (s i).size with h | h
  · rw [grP_big hi h] at h1; exact absurd h1 (by decide)
  · exact h
theorem anyB_false {m : Nat} {p : Nat → Bool} (h : anyB m p = false) {k : Nat} (hk : k < m) : p k = false := by
  unfold anyB at h
  have := List.any_eq_false.1 h k (List.mem_range.2 hk)
  simpa using this
end Go.Proofs.YtiekphjhhpledaaGreatDoor

namespace Go.Proofs.YtiekphjhhpledaaGreatDoor
open Go.RowKit Go.Shelf
set_option linter.unusedSimpArgs false
set_option linter.unusedVariables false

theorem of_new (L : List Int) (n : Nat) (w : World) (hn : L.length = n) (hL : n ≤ 1000) (hb : ∀ z ∈ L, -9223372036854775808 ≤ z ∧ z ≤ 9223372036854775807) :
    Calls Tryz.prog 20 #[.slice (some ⟨w.heap.size, 0, none⟩) n n] (w.alloc (.cells (L.map fun z => Value.int .i64 z).toArray 3)) fun e w' => ∃ v, e = .returned v ∧ PolyS w' v L ∧ Below w.heap.size w w' := by
  have hbb : ∀ i, i < n → -9223372036854775808 ≤ co L i ∧ co L i ≤ 9223372036854775807 := fun i hi => hb _ (by
    have h := co_get (L := L) (i := i) (by omega)
    exact List.mem_of_getElem? h)
  refine (of_any w.heap.size n n L (w.alloc (.cells (L.map fun z => Value.int .i64 z).toArray 3)) hn hL hbb (fun i hi => ?_)).mono ?_
  · have h := co_get (L := L) (i := i) (by omega)
    simp [h]
  · rintro e w' ⟨v, rfl, h1, h2⟩
    exact ⟨v, rfl, h1, below_more (below1 w _) (Nat.le_refl _) h2⟩
theorem ex_divide {W : World} {v1 v2 : Value} (h1 : PolyS W v1 [1, -2, 0, 1]) (h2 : PolyS W v2 [-1, 1]) :
    Calls Tryz.prog 14 #[v1, v2] W fun e W' => ∃ q r, e = .returned (.tuple #[q, r, .int .i64 0]) ∧ PolyS W' q [-1, 1, 1] ∧ PolyS W' r [] ∧ Below W.heap.size W W' := by
  refine (pDivide_any v1 v2 [1, -2, 0, 1] [-1, 1] [-1, 1, 1] [] 1 1 1 W (h1.at (by omega) (pb_all (by decide))) (h2.at (by omega) (pb_all (by decide))) (by decide) (by decide) (by decide) (by decide) (by omega) (by omega) (by omega) (by decide) ex_div1).mono ?_
  rintro e W' ⟨q, r, rfl, h3, h4, h5⟩
  exact ⟨q, r, rfl, h3.polyS, h4.polyS, h5⟩
theorem ex_gcd {W : World} {v1 v2 : Value} (h1 : PolyS W v1 [-2, 0, 2]) (h2 : PolyS W v2 [-3, 3]) :
    Calls Tryz.prog 21 #[v1, v2] W fun e W' => ∃ v, e = .returned (.tuple #[v, .int .i64 0]) ∧ PolyS W' v [-1, 1] ∧ Below W.heap.size W W' := by
  refine (pGcd_any v1 v2 [-2, 0, 2] [-3, 3] [-1, 1] [] 1 1 W (h1.at (by omega) (pb_all (by decide))) (h2.at (by omega) (pb_all (by decide))) (by decide) (by decide) (by omega) (by omega) (by decide) (by decide) (by rw [ex_prim1, ex_prim2]; decide) (by rw [ex_prim1, ex_prim2]; exact run_gcd)).mono ?_
  rw [ex_cd1]
  rintro e W' ⟨v, rfl, h3, h5⟩
  exact ⟨v, rfl, h3.polyS, h5⟩
theorem ex_sqf {W : World} {v1 : Value} (h1 : PolyS W v1 [0, 0, -4, 4]) :
    Calls Tryz.prog 22 #[v1] W fun e W' => ∃ v, e = .returned (.tuple #[v, .int .i64 0]) ∧ PolyS W' v [0, -1, 1] ∧ Below W.heap.size W W' := by
  refine (psqf_any v1 [0, 0, -4, 4] [0, -2] [] [0, -4, 4] [] 1 2 1 1 W (h1.at (by omega) (pb_all (by decide))) (by decide) (by omega) (by omega) (by decide) (by decide) (by rw [ex_der]; exact pb_all (by decide)) (by rw [ex_der, ex_prim3, ex_prim4]; decide) (by rw [ex_der, ex_prim3, ex_prim4]; exact run_sqf) (by rw [ex_cd2]; decide) (by rw [ex_cd2]; decide) (by rw [ex_cd2]; exact pb_all (by decide)) (by omega) (by rw [ex_cd2]; decide) (by rw [ex_cd2]; exact ex_div2) (pb_all (by decide)) (by decide)).mono ?_
  rw [ex_prim5]
  rintro e W' ⟨v, rfl, h3, h5⟩
  exact ⟨v, rfl, h3.polyS, h5⟩
theorem ex_prL : prL [1, -2, 0, 1] = [120, 94, 51, 32, 45, 32, 50, 42, 120, 32, 43, 32, 49] := by kernel_rfl
theorem ex_print {W : World} {v1 : Value} (h1 : PolyS W v1 [1, -2, 0, 1]) (htab : Lib.TabIs Tryz.prog W "internal/strconv.uint64pow10" .u64 Lib.pow10Tab) :
    Calls Tryz.prog 17 #[v1] W fun e W' => e = .returned (.string ⟨#[120, 94, 51, 32, 45, 32, 50, 42, 120, 32, 43, 32, 49]⟩) ∧ Below W.heap.size W W' := by
  refine (pPrint_any v1 [1, -2, 0, 1] 1 W (h1.at (by omega) (pb_all (by decide))) (by decide) (by omega) htab ?_).mono ?_
  · have e1 : prZ 1 = [49] := by kernel_rfl
    have e2 : prZ 2 = [50] := by kernel_rfl
    rintro ⟨x, hx⟩
    rcases x with _ | _ | _ | _ | x
    · show (prZ 1).length ≤ 100000
      rw [e1]; decide
    · show (prZ 2).length ≤ 100000
      rw [e2]; decide
    · exact absurd rfl hx
    · show (prZ 1).length ≤ 100000
      rw [e1]; decide
    · exact absurd rfl hx
  · rw [ex_prL]
    exact fun e W' h => h
set_option maxRecDepth 100000 in
set_option maxHeartbeats 12800000 in
theorem awake_any (w : World) (htab : Lib.TabIs Tryz.prog w "internal/strconv.uint64pow10" .u64 Lib.pow10Tab) :
    Calls Tryz.prog 7 #[] w fun e w' => e = .returned (.bool true) ∧ Below w.heap.size w w' := by
  have HT := Lib.hid htab
  have HO1 := Lib.hid (fun W => of_new [1, -2, 0, 1] 4 W rfl (by omega) (by decide))
  have HO2 := Lib.hid (fun W => of_new [-1, 1] 2 W rfl (by omega) (by decide))
  have HO3 := Lib.hid (fun W => of_new [-2, 0, 2] 3 W rfl (by omega) (by decide))
  have HO4 := Lib.hid (fun W => of_new [-3, 3] 2 W rfl (by omega) (by decide))
  have HO5 := Lib.hid (fun W => of_new [0, 0, -4, 4] 4 W rfl (by omega) (by decide))
  have HO6 := Lib.hid (fun W => of_new [-1, 1, 1] 3 W rfl (by omega) (by decide))
  have HO7 := Lib.hid (fun W => of_new [-1, 1] 2 W rfl (by omega) (by decide))
  have HO8 := Lib.hid (fun W => of_new [0, -1, 1] 3 W rfl (by omega) (by decide))
  have HO9 := Lib.hid (fun W => of_new [1, -2, 0, 1] 4 W rfl (by omega) (by decide))
  simp only [List.map_cons, List.map_nil] at HO1 HO2 HO3 HO4 HO5 HO6 HO7 HO8 HO9
  go_enter Tryz.func7, Tryz.ntmps7
  go_wp2_with (first
    | (go_at_call 20; (with_reducible refine (HO1.out _).mono ?_); rintro e W1 ⟨v1, rfl, p1, b1⟩; (clear HO1); (have B := b1))
    | (go_at_call 20; (with_reducible refine (HO2.out _).mono ?_); rintro e W2 ⟨v2, rfl, p2, b2⟩; (clear HO2); (have p1 := p1.keep b2); (have B := below_more B (Nat.le_refl _) b2))
    | (go_at_call 14; (with_reducible refine (ex_divide p1 p2).mono ?_); rintro e W3 ⟨q, r, rfl, pq, pr, b3⟩; (obtain ⟨Ar, cr, rfl⟩ := pr.slice); (clear p1 p2); (have B := below_more B (Nat.le_refl _) b3))
    | (go_at_call 20; (with_reducible refine (HO3.out _).mono ?_); rintro e W4 ⟨v3, rfl, pv3, bb⟩; (clear HO3); (have pq := pq.keep bb); (have B := below_more B (Nat.le_refl _) bb))
    | (go_at_call 20; (with_reducible refine (HO4.out _).mono ?_); rintro e W5 ⟨v4, rfl, pv4, bb⟩; (clear HO4); (have pq := pq.keep bb); (have pv3 := pv3.keep bb); (have B := below_more B (Nat.le_refl _) bb))
    | (go_at_call 21; (with_reducible refine (ex_gcd pv3 pv4).mono ?_); rintro e W6 ⟨g, rfl, pg, bb⟩; (clear pv3 pv4); (have pq := pq.keep bb); (have B := below_more B (Nat.le_refl _) bb))
    | (go_at_call 20; (with_reducible refine (HO5.out _).mono ?_); rintro e W7 ⟨v5, rfl, pv5, bb⟩; (clear HO5); (have pq := pq.keep bb); (have pg := pg.keep bb); (have B := below_more B (Nat.le_refl _) bb))
    | (go_at_call 22; (with_reducible refine (ex_sqf pv5).mono ?_); rintro e W8 ⟨sq, rfl, ps, bb⟩; (clear pv5); (have pq := pq.keep bb); (have pg := pg.keep bb); (have B := below_more B (Nat.le_refl _) bb))
    | (go_at_call 20; (with_reducible refine (HO6.out _).mono ?_); rintro e W9 ⟨v6, rfl, pv6, bb⟩; (clear HO6); (have pq := pq.keep bb); (have pg := pg.keep bb); (have ps := ps.keep bb); (have B := below_more B (Nat.le_refl _) bb))
    | (go_at_call 10; (with_reducible refine (equalP_any pq pv6 (by decide)).mono ?_); rintro e W10 ⟨rfl, bb⟩; (clear pq pv6); (have pg := pg.keep bb); (have ps := ps.keep bb); (have B := below_more B (Nat.le_refl _) bb))
    | (go_at_call 20; (with_reducible refine (HO7.out _).mono ?_); rintro e W11 ⟨v7, rfl, pv7, bb⟩; (clear HO7); (have pg := pg.keep bb); (have ps := ps.keep bb); (have B := below_more B (Nat.le_refl _) bb))
    | (go_at_call 10; (with_reducible refine (equalP_any pg pv7 (by decide)).mono ?_); rintro e W12 ⟨rfl, bb⟩; (clear pg pv7); (have ps := ps.keep bb); (have B := below_more B (Nat.le_refl _) bb))
    | (go_at_call 20; (with_reducible refine (HO8.out _).mono ?_); rintro e W13 ⟨v8, rfl, pv8, bb⟩; (clear HO8); (have ps := ps.keep bb); (have B := below_more B (Nat.le_refl _) bb))
    | (go_at_call 10; (with_reducible refine (equalP_any ps pv8 (by decide)).mono ?_); rintro e W14 ⟨rfl, bb⟩; (clear ps pv8); (have B := below_more B (Nat.le_refl _) bb))
    | (go_at_call 20; (with_reducible refine (HO9.out _).mono ?_); rintro e W15 ⟨v9, rfl, pv9, bb⟩; (clear HO9); (have B := below_more B (Nat.le_refl _) bb))
    | (go_at_call 17; (with_reducible refine (ex_print pv9 (tab_keep HT.out B)).mono ?_); rintro e W16 ⟨rfl, bb⟩; (clear pv9); (have B := below_more B (Nat.le_refl _) bb)))
  go_ret
  exact ⟨rfl, B⟩
end Go.Proofs.YtiekphjhhpledaaGreatDoor
