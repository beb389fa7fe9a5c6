/- grooveref03.Great, and the laws' great and small. The laws' great and small. What the polynomials' functions return, in the form that the laws want. Condition: coefficients below 2^128, lists of at most 33. -/
import Derived.Test.YtgcogpfmhmmgdaaGreatDoorQ32
import Derived.Test.YtgcogpfmhmmgdaaGreatDoorQ26

namespace Go.Proofs.YtgcogpfmhmmgdaaGreatDoor
open Go.RowKit Go.Shelf
set_option linter.unusedSimpArgs false
set_option linter.unusedVariables false

/-- A list of integers as it comes in. -/
def ArgS (W : World) (v : Value) (n : Nat) (s : Nat → ByteArray) : Prop :=
  ∃ (A : Option Addr) (c : Nat) (g : Nat → Bool), v = .slice A n c ∧ n ≤ c ∧ ∀ i, i < n → ∃ a, A = some a ∧ W.cell? (a.add (i * 2)) = some (.bool (g i)) ∧ W.cell? ⟨(a.add (i * 2)).block, (a.add (i * 2)).off + 1, none⟩ = some (.string (s i))
theorem ArgS.keep {W W1 : World} {v : Value} {n : Nat} {s : Nat → ByteArray} (h : ArgS W v n s) (hb : Below W.heap.size W W1) : ArgS W1 v n s := by
  obtain ⟨A, c, g, h1, h2, h3⟩ := h
  refine ⟨A, c, g, h1, h2, fun i hi => ?_⟩
  obtain ⟨a, k1, k2, k3⟩ := h3 i hi
  exact ⟨a, k1, cell_keep k2 hb, cell_keep k3 hb⟩
def grP (n : Nat) (s : Nat → ByteArray) : Bool := (List.range n).any (fun i => decide (3 < (s i).size)) || ((decide (8 < n) && decide (n ≤ 65)) || decide (68 < n))
theorem grP_big {n : Nat} {s : Nat → ByteArray} {i : Nat} (hi : i < n) (h : 3 < (s i).size) : grP n s = true := by
  unfold grP
  rw [Bool.or_eq_true]
  exact Or.inl (List.any_eq_true.2 ⟨i, List.mem_range.2 hi, decide_eq_true h⟩)
theorem grP_all {n : Nat} {s : Nat → ByteArray} (h : ∀ i, i < n → (s i).size ≤ 3) : grP n s = ((decide (8 < n) && decide (n ≤ 65)) || decide (68 < n)) := by
  unfold grP
  rw [show (List.range n).any (fun i => decide (3 < (s i).size)) = false from List.any_eq_false.2 (fun i hi => by
    have := h i (List.mem_range.1 hi)
    simp; omega), Bool.false_or]
set_option maxRecDepth 100000 in
set_option maxHeartbeats 3200000 in
theorem great_any (v : Value) (n : Nat) (s : Nat → ByteArray) (w : World) (h : ArgS w v n s) (hn : n ≤ 9223372036854775807) (hs : ∀ i, i < n → (s i).size ≤ 9223372036854775807) :
    Calls Tryz.prog 28 #[v] w fun e w' => e = .returned (.bool (grP n s)) ∧ Below w.heap.size w w' := by
  obtain ⟨A, c, g, rfl, hc, h3⟩ := h
  have H := Lib.hid h3
  have HS := Lib.hid hs
  have HB := Lib.hid (fun i (hi : i < n) (h : 3 < (s i).size) => grP_big (n := n) (s := s) hi h)
  have HN := Lib.hid (fun (h : ∀ i, i < n → (s i).size ≤ 3) => grP_all (n := n) (s := s) h)
  obtain ⟨R, hR⟩ : ∃ R, grP n s = R := ⟨_, rfl⟩
  rw [hR] at HB HN ⊢
  clear h3 hs hR
  go_enter Tryz.func28, Tryz.ntmps28
  go_wp2_with fail
  go_loopg [3] n (fun q s3 wx => ∃ i : Nat, i + q = n ∧ s3 = .int .i64 (i : Int) ∧ Hid (∀ j, j < i → (s j).size ≤ 3) ∧ Below w.heap.size w wx)
  case atStart => exact ⟨0, by omega, rfl, fun j hj => absurd hj (Nat.not_lt_zero _), Below.refl _ _⟩
  case round =>
    obtain ⟨i, hin, rfl, hall, hb⟩ := hrel
    rcases gk with _ | q
    · obtain rfl : i = n := by omega
      have HG := Lib.hid (HN.out hall.out)
      clear hall HN HB
      rcases (show i ≤ 8 ∨ (8 < i ∧ i ≤ 65) ∨ (65 < i ∧ i ≤ 68) ∨ 68 < i by omega) with h | ⟨h, h'⟩ | ⟨h, h'⟩ | h
      · have d1 : decide ((8 : Int) < (i : Int)) = false := decide_eq_false (by omega)
        have d2 : decide ((68 : Int) < (i : Int)) = false := decide_eq_false (by omega)
        have HR := Lib.hid (show R = false by rw [HG.out, decide_eq_false (show ¬ 8 < i by omega), decide_eq_false (show ¬ 68 < i by omega)]; rfl)
        go_wp2
        go_ret
        exact ⟨by rw [HR.out]; rfl, hb⟩
      · have d1 : decide ((8 : Int) < (i : Int)) = true := decide_eq_true (by omega)
        have d2 : decide ((i : Int) ≤ 65) = true := decide_eq_true (by omega)
        have HR := Lib.hid (show R = true by rw [HG.out, decide_eq_true h, decide_eq_true h']; rfl)
        go_wp2
        go_ret
        exact ⟨by rw [HR.out]; rfl, hb⟩
      · have d1 : decide ((8 : Int) < (i : Int)) = true := decide_eq_true (by omega)
        have d2 : decide ((i : Int) ≤ 65) = false := decide_eq_false (by omega)
        have d3 : decide ((68 : Int) < (i : Int)) = false := decide_eq_false (by omega)
        have HR := Lib.hid (show R = false by rw [HG.out, decide_eq_false (show ¬ i ≤ 65 by omega), decide_eq_false (show ¬ 68 < i by omega), Bool.and_false]; rfl)
        go_wp2
        go_ret
        exact ⟨by rw [HR.out]; rfl, hb⟩
      · have d1 : decide ((8 : Int) < (i : Int)) = true := decide_eq_true (by omega)
        have d2 : decide ((i : Int) ≤ 65) = false := decide_eq_false (by omega)
        have d3 : decide ((68 : Int) < (i : Int)) = true := decide_eq_true (by omega)
        have HR := Lib.hid (show R = true by rw [HG.out, decide_eq_true h, Bool.or_true])
        go_wp2
        go_ret
        exact ⟨by rw [HR.out]; rfl, hb⟩
    · obtain ⟨a, rfl, k1, k2⟩ := H.out i (by omega)
      have c1 := cell_keep k1 hb
      have c2 := cell_keep k2 hb
      have hsz := HS.out i (by omega)
      have hbig := Lib.hid (HB.out i (by omega))
      have hall2 := Lib.hid (fun (h : (s i).size ≤ 3) => (fun j (hj : j < i + 1) => by
        by_cases e : j = i
        · subst e; exact h
        · exact hall.out j (by omega) : ∀ j, j < i + 1 → (s j).size ≤ 3))
      obtain ⟨z, hz⟩ : ∃ z, s i = z := ⟨_, rfl⟩
      rw [hz] at c2 hsz hbig hall2
      clear k1 k2 hz hall
      by_cases hlt : 3 < z.size
      · have d1 : decide ((3 : Int) < (z.size : Int)) = true := decide_eq_true (by omega)
        have HR := Lib.hid (hbig.out hlt)
        clear hbig hall2
        go_wp2
        go_ret
        exact ⟨by rw [HR.out]; rfl, hb⟩
      · have d1 : decide ((3 : Int) < (z.size : Int)) = false := decide_eq_false (by omega)
        have HA := Lib.hid (hall2.out (by omega))
        clear hbig hall2
        go_wp2
        go_roundg q
        case measure => omega
        case rel => exact ⟨i + 1, by omega, by go_num, HA, hb⟩
/-- Lists of integers in a list, as they come in. -/
def ArgsS (W : World) (b m : Nat) (n : Nat → Nat) (s : Nat → Nat → ByteArray) : Prop := ∀ k, k < m → ∃ v, W.cell? ⟨b, k, none⟩ = some v ∧ ArgS W v (n k) (s k)
theorem ArgsS.keep {W W1 : World} {b m : Nat} {n : Nat → Nat} {s : Nat → Nat → ByteArray} (h : ArgsS W b m n s) (hb : Below W.heap.size W W1) : ArgsS W1 b m n s := fun k hk => by
  obtain ⟨v, h1, h2⟩ := h k hk
  exact ⟨v, cell_keep h1 hb, h2.keep hb⟩
set_option maxRecDepth 100000 in
set_option maxHeartbeats 3200000 in
theorem index_any (f : FuncId) (hE : ∀ args w, (callFunc f args).run Tryz.prog w = .ok (.enter f args) w) (b m c : Nat) (n : Nat → Nat) (s : Nat → Nat → ByteArray) (p : Nat → Bool) (w : World) (h : ArgsS w b m n s) (hm : m ≤ 1000) (q : Nat) (hq : q ≤ m) (hlt : ∀ k, k < q → p k = false) (hat : q < m → p q = true)
    (hF : ∀ k v W, k < m → ArgS W v (n k) (s k) → Calls Tryz.prog f #[v] W fun e W' => e = .returned (.bool (p k)) ∧ Below W.heap.size W W') :
    Calls Tryz.prog 61 #[.slice (some ⟨b, 0, none⟩) m c, .func (.func f) #[] #[]] w fun e w' => e = .returned (.int .i64 (if q < m then (q : Int) else -1)) ∧ Below w.heap.size w w' := by
  have H := Lib.hid h
  have HF := Lib.hid hF
  have HL := Lib.hid hlt
  have HA := Lib.hid hat
  obtain ⟨R, hR⟩ : ∃ R, (if q < m then (q : Int) else -1) = R := ⟨_, rfl⟩
  have HR := Lib.hid hR
  rw [hR]
  clear h hF hlt hat hR
  go_enter Tryz.func61, Tryz.ntmps61
  go_wp2_with fail
  go_loopg [8] q (fun g s8 wx => ∃ i : Nat, i + g = q ∧ s8 = .int .i64 (i : Int) ∧ Below w.heap.size w wx)
  case atStart => exact ⟨0, by omega, rfl, Below.refl _ _⟩
  case round =>
    obtain ⟨i, hin, rfl, hb⟩ := hrel
    rcases gk with _ | g
    · obtain rfl : i = q := by omega
      rcases Nat.lt_or_ge i m with him | him
      · obtain ⟨v, hv, ha⟩ := H.out i him
        have hv1 := cell_keep hv hb
        have HC := Lib.hid (HF.out i v wr him (ha.keep hb))
        rw [HA.out him] at HC
        have HR' := Lib.hid (show R = (i : Int) by rw [← HR.out, if_pos him])
        clear hv
        go_wp2_with ((with_reducible refine (HC.out).mono ?_); rintro e W1 ⟨rfl, b1⟩; (have hb1 := below_more hb (Nat.le_refl _) b1))
        go_ret
        exact ⟨by rw [HR'.out]; rfl, hb1⟩
      · have HR' := Lib.hid (show R = -1 by rw [← HR.out, if_neg (by omega)])
        obtain rfl : i = m := by omega
        go_wp2
        go_ret
        exact ⟨by rw [HR'.out]; rfl, hb⟩
    · have him : i < m := by omega
      obtain ⟨v, hv, ha⟩ := H.out i him
      have hv1 := cell_keep hv hb
      have HC := Lib.hid (HF.out i v wr him (ha.keep hb))
      rw [HL.out i (by omega)] at HC
      clear hv
      go_wp2_with ((with_reducible refine (HC.out).mono ?_); rintro e W1 ⟨rfl, b1⟩; (have hb1 := below_more hb (Nat.le_refl _) b1))
      go_roundg g
      case measure => omega
      case rel => exact ⟨i + 1, by omega, by go_num, hb1⟩
set_option maxRecDepth 100000 in
set_option maxHeartbeats 3200000 in
theorem contains_any (f : FuncId) (hE : ∀ args w, (callFunc f args).run Tryz.prog w = .ok (.enter f args) w) (b m c : Nat) (n : Nat → Nat) (s : Nat → Nat → ByteArray) (p : Nat → Bool) (w : World) (h : ArgsS w b m n s) (hm : m ≤ 1000) (q : Nat) (hq : q ≤ m) (hlt : ∀ k, k < q → p k = false) (hat : q < m → p q = true)
    (hF : ∀ k v W, k < m → ArgS W v (n k) (s k) → Calls Tryz.prog f #[v] W fun e W' => e = .returned (.bool (p k)) ∧ Below W.heap.size W W') :
    Calls Tryz.prog 27 #[.slice (some ⟨b, 0, none⟩) m c, .func (.func f) #[] #[]] w fun e w' => e = .returned (.bool (decide (q < m))) ∧ Below w.heap.size w w' := by
  have HI := Lib.hid (index_any f hE b m c n s p w h hm q hq hlt hat hF)
  have hd : decide ((0 : Int) ≤ (if q < m then (q : Int) else -1)) = decide (q < m) := by
    by_cases e : q < m
    · rw [if_pos e, decide_eq_true e]; exact decide_eq_true (by omega)
    · rw [if_neg e, decide_eq_false e]; rfl
  obtain ⟨R, hR⟩ : ∃ R, (if q < m then (q : Int) else -1) = R := ⟨_, rfl⟩
  rw [hR] at HI hd
  clear h hF hlt hat hR
  go_enter Tryz.func27, Tryz.ntmps27
  go_wp2_with (go_at_call 61; (with_reducible refine (HI.out).mono ?_); rintro e W1 ⟨rfl, b1⟩)
  go_ret
  exact ⟨rfl, b1⟩
end Go.Proofs.YtgcogpfmhmmgdaaGreatDoor

namespace Go.Proofs.YtgcogpfmhmmgdaaGreatDoor
open Go.RowKit Go.Shelf
set_option linter.unusedSimpArgs false
set_option linter.unusedVariables false

def anyB (m : Nat) (p : Nat → Bool) : Bool := (List.range m).any p
theorem anyB_first (m : Nat) (p : Nat → Bool) : ∃ q, q ≤ m ∧ (∀ k, k < q → p k = false) ∧ (q < m → p q = true) ∧ decide (q < m) = anyB m p := by
  induction m with
  | zero => exact ⟨0, Nat.le_refl _, fun k hk => absurd hk (Nat.not_lt_zero _), fun h => absurd h (Nat.not_lt_zero _), rfl⟩
  | succ m ih =>
    obtain ⟨q, h1, h2, h3, h4⟩ := ih
    have e : anyB (m + 1) p = (anyB m p || p m) := by
      unfold anyB
      rw [List.range_succ, List.any_append]
      simp
    rcases Nat.lt_or_ge q m with h | h
    · refine ⟨q, by omega, h2, fun _ => h3 h, ?_⟩
      rw [e, ← h4, decide_eq_true h, decide_eq_true (by omega)]
      rfl
    · obtain rfl : q = m := by omega
      rw [decide_eq_false (Nat.lt_irrefl _)] at h4
      cases hp : p q
      · refine ⟨q + 1, Nat.le_refl _, fun k hk => ?_, fun h => absurd h (Nat.lt_irrefl _), by rw [e, ← h4, hp, decide_eq_false (Nat.lt_irrefl _)]; rfl⟩
        rcases Nat.lt_or_ge k q with hk' | hk'
        · exact h2 k hk'
        · obtain rfl : k = q := by omega
          exact hp
      · exact ⟨q, by omega, h2, fun _ => hp, by rw [e, ← h4, hp, decide_eq_true (by omega)]; rfl⟩
theorem contains_all (f : FuncId) (hE : ∀ args w, (callFunc f args).run Tryz.prog w = .ok (.enter f args) w) (b m c : Nat) (n : Nat → Nat) (s : Nat → Nat → ByteArray) (p : Nat → Bool) (w : World) (h : ArgsS w b m n s) (hm : m ≤ 1000)
    (hF : ∀ k v W, k < m → ArgS W v (n k) (s k) → Calls Tryz.prog f #[v] W fun e W' => e = .returned (.bool (p k)) ∧ Below W.heap.size W W') :
    Calls Tryz.prog 27 #[.slice (some ⟨b, 0, none⟩) m c, .func (.func f) #[] #[]] w fun e w' => e = .returned (.bool (anyB m p)) ∧ Below w.heap.size w w' := by
  obtain ⟨q, h1, h2, h3, h4⟩ := anyB_first m p
  rw [← h4]
  exact contains_any f hE b m c n s p w h hm q h1 h2 h3 hF
theorem Tryz.greatE (args : Array Value) (w : World) : (callFunc 28 args).run Tryz.prog w = .ok (.enter 28 args) w := by
  simp [callFunc, go_sem, Tryz.func28, Tryz.f28]
theorem Tryz.small1E (args : Array Value) (w : World) : (callFunc 56 args).run Tryz.prog w = .ok (.enter 56 args) w := by
  simp [callFunc, go_sem, Tryz.func56, Tryz.f56]
set_option maxRecDepth 100000 in
set_option maxHeartbeats 3200000 in
theorem lgreat_any (b m c : Nat) (n : Nat → Nat) (s : Nat → Nat → ByteArray) (w : World) (h : ArgsS w b m n s) (hm : m ≤ 1000) (hn : ∀ k, k < m → n k ≤ 9223372036854775807) (hs : ∀ k, k < m → ∀ i, i < n k → (s k i).size ≤ 9223372036854775807) :
    Calls Tryz.prog 5 #[.slice (some ⟨b, 0, none⟩) m c] w fun e w' => e = .returned (.bool (anyB m fun k => grP (n k) (s k))) ∧ Below w.heap.size w w' := by
  have HC := Lib.hid (contains_all 28 Tryz.greatE b m c n s (fun k => grP (n k) (s k)) w h hm (fun k v W hk hv => great_any v (n k) (s k) W hv (hn k hk) (hs k hk)))
  obtain ⟨R, hR⟩ : ∃ R, (anyB m fun k => grP (n k) (s k)) = R := ⟨_, rfl⟩
  rw [hR] at HC ⊢
  clear h hn hs hR
  go_enter Tryz.func5, Tryz.ntmps5
  go_wp2_with (go_at_call 27; (with_reducible refine (HC.out).mono ?_); rintro e W1 ⟨rfl, b1⟩)
  go_ret
  exact ⟨rfl, b1⟩
set_option maxRecDepth 100000 in
set_option maxHeartbeats 3200000 in
theorem small1_any (v : Value) (n : Nat) (s : Nat → ByteArray) (w : World) (h : ArgS w v n s) (hn : n ≤ 9223372036854775807) :
    Calls Tryz.prog 56 #[v] w fun e w' => e = .returned (.bool (decide (8 < n))) ∧ Below w.heap.size w w' := by
  obtain ⟨A, c, g, rfl, hc, h3⟩ := h
  have hd : decide ((8 : Int) < (n : Int)) = decide (8 < n) := decide_eq_decide.2 (by omega)
  clear h3
  go_enter Tryz.func56, Tryz.ntmps56
  go_wp2
  go_ret
  exact ⟨rfl, Below.refl _ _⟩
set_option maxRecDepth 100000 in
set_option maxHeartbeats 3200000 in
theorem lsmall_any (b m c : Nat) (n : Nat → Nat) (s : Nat → Nat → ByteArray) (w : World) (h : ArgsS w b m n s) (hm : m ≤ 1000) (hn : ∀ k, k < m → n k ≤ 9223372036854775807) (hs : ∀ k, k < m → ∀ i, i < n k → (s k i).size ≤ 9223372036854775807) :
    Calls Tryz.prog 20 #[.slice (some ⟨b, 0, none⟩) m c] w fun e w' => e = .returned (.bool (!(anyB m fun k => grP (n k) (s k)) && !(anyB m fun k => decide (8 < n k)))) ∧ Below w.heap.size w w' := by
  have HG := Lib.hid (lgreat_any b m c n s w h hm hn hs)
  have HC := Lib.hid (fun W (hb : Below w.heap.size w W) => contains_all 56 Tryz.small1E b m c n s (fun k => decide (8 < n k)) W (h.keep hb) hm (fun k v W hk hv => small1_any v (n k) (s k) W hv (hn k hk)))
  obtain ⟨R, hR⟩ : ∃ R, (anyB m fun k => grP (n k) (s k)) = R := ⟨_, rfl⟩
  obtain ⟨S, hS⟩ : ∃ S, (anyB m fun k => decide (8 < n k)) = S := ⟨_, rfl⟩
  simp only [hR] at HG
  simp only [hS] at HC
  rw [hR, hS]
  clear h hn hs hR hS
  go_enter Tryz.func20, Tryz.ntmps20
  go_wp2_with (first
    | (go_at_call 5; (with_reducible refine (HG.out).mono ?_); rintro e W1 ⟨rfl, b1⟩)
    | (go_at_call 27; (with_reducible refine (HC.out _ b1).mono ?_); rintro e W2 ⟨rfl, b2⟩))
  · next hR =>
      subst hR
      go_ret
      exact ⟨rfl, b1⟩
  · next hR =>
      rw [Bool.not_eq_true] at hR
      subst hR
      go_ret
      exact ⟨rfl, below_more b1 (Nat.le_refl _) b2⟩
end Go.Proofs.YtgcogpfmhmmgdaaGreatDoor

namespace Go.Proofs.YtgcogpfmhmmgdaaGreatDoor
open Go.RowKit Go.Shelf
set_option linter.unusedSimpArgs false
set_option linter.unusedVariables false

/-- What returns a list that can be read. -/
def ListOut (w : World) (L : List Int) (e : Ending) (w' : World) : Prop := ∃ v, e = .returned v ∧ PolyS w' v L ∧ Below w.heap.size w w'
def MulOut (w : World) (L : List Int) (e : Ending) (w' : World) : Prop := ∃ v, e = .returned (.tuple #[v, .int .i64 0]) ∧ PolyS w' v L ∧ Below w.heap.size w w'
theorem polyS_nil (W : World) : PolyS W (.slice none 0 0) [] := ⟨none, 0, rfl, Nat.le_refl _, fun i hi => absurd hi (Nat.not_lt_zero _)⟩
theorem mulG {v1 v2 : Value} {L M : List Int} {w : World} (h1 : PolyAt w v1 L 4) (h2 : PolyAt w v2 M 4) (hL : L.length ≤ 33) (hM : M.length ≤ 33) :
    Calls Tryz.prog 22 #[v1, v2] w (MulOut w (trm (prodL L M))) := by
  have t1 := trm_len L
  have t2 := trm_len M
  by_cases h0 : trm L = []
  · refine (pmul_zero1 v1 v2 L M 4 w h1 h2 (by omega) h0).mono ?_
    rintro e W ⟨rfl, hb⟩
    exact ⟨_, rfl, by rw [trm_mul_zero L M (.inl h0)]; exact polyS_nil _, hb⟩
  · by_cases h00 : trm M = []
    · refine (pmul_zero2 v1 v2 L M 4 w h1 h2 (by omega) (by omega) h0 h00).mono ?_
      rintro e W ⟨rfl, hb⟩
      exact ⟨_, rfl, by rw [trm_mul_zero L M (.inr h00)]; exact polyS_nil _, hb⟩
    · refine (pmul_pos v1 v2 L M _ 4 w h1 h2 (by omega) (by omega) (by omega) h0 h00 (by omega) rfl).mono ?_
      rintro e W ⟨v, rfl, hP, hb⟩
      exact ⟨v, rfl, hP.polyS, hb⟩
theorem pb_trm {L : List Int} {k : Nat} (h : PB L k) : PB (trm L) k := fun i => by rw [co_trm]; exact h i
theorem addG {v1 v2 : Value} {L M : List Int} {w : World} (h1 : PolyAt w v1 L 4) (h2 : PolyAt w v2 M 4) (hL : L.length ≤ 33) (hM : M.length ≤ 33) (hb : PB (addL L M) 5) :
    Calls Tryz.prog 12 #[v1, v2] w (ListOut w (trm (addL L M))) := by
  refine (padd_any v1 v2 L M _ 4 5 w h1 h2 (by omega) (by omega) (by omega) (trm_trm _) (fun i => by rw [co_trm, co_addL]) (pb_trm hb) (by omega)).mono ?_
  rintro e W ⟨v, rfl, hP, hb⟩
  exact ⟨v, rfl, hP.polyS, hb⟩
theorem subG {v1 v2 : Value} {L M : List Int} {w : World} (h1 : PolyAt w v1 L 4) (h2 : PolyAt w v2 M 4) (hL : L.length ≤ 33) (hM : M.length ≤ 33) (hb : PB (subL L M) 5) :
    Calls Tryz.prog 14 #[v1, v2] w (ListOut w (trm (subL L M))) := by
  refine (psub_any v1 v2 L M _ 4 5 w h1 h2 (by omega) (by omega) (by omega) (trm_trm _) (fun i => by rw [co_trm, co_subL]) (pb_trm hb) (by omega)).mono ?_
  rintro e W ⟨v, rfl, hP, hb⟩
  exact ⟨v, rfl, hP.polyS, hb⟩
theorem canG {v1 : Value} {L : List Int} {w : World} (h1 : PolyAt w v1 L 4) (hL : L.length ≤ 33) :
    Calls Tryz.prog 8 #[v1] w (ListOut w (trm L)) := by
  refine (pcan_any v1 L _ 4 w h1 (by omega) (by omega) rfl (by omega)).mono ?_
  rintro e W ⟨v, rfl, hP, hb⟩
  exact ⟨v, rfl, hP.polyS, hb⟩
/-- Coefficients of at most N. -/
def BD (L : List Int) (N : Nat) : Prop := ∀ i, (co L i).natAbs ≤ N
theorem BD.trm {L : List Int} {N : Nat} (h : BD L N) : BD (trm L) N := fun i => by rw [co_trm]; exact h i
theorem BD.add {L M : List Int} {N K : Nat} (h : BD L N) (h' : BD M K) : BD (addL L M) (N + K) := fun i => by
  have := h i
  have := h' i
  rw [co_addL]; omega
theorem BD.sub {L M : List Int} {N K : Nat} (h : BD L N) (h' : BD M K) : BD (subL L M) (N + K) := fun i => by
  have := h i
  have := h' i
  rw [co_subL]; omega
theorem BD.mul {L M : List Int} {N K a b : Nat} (h : BD L N) (h' : BD M K) (hL : L.length ≤ a) (hM : M.length ≤ b) : BD (prodL L M) (a * (b * (N * K))) := fun i => by
  rw [co_prodL, ← accX_full]
  refine Nat.le_trans (accX_bd L M (B := N * K) (fun i j => by rw [Int.natAbs_mul]; exact Nat.mul_le_mul (h i) (h' j)) (tmx L L.length) i) ?_
  exact Nat.mul_le_mul (Nat.le_trans (tmx_len L _) hL) (Nat.mul_le_mul hM (Nat.le_refl _))
theorem BD.pb {L : List Int} {N k : Nat} (h : BD L N) (hN : N < 4294967296 ^ k) : PB L k := fun i => Nat.lt_of_le_of_lt (h i) hN
/-- The integers that lie in a row as it comes in. -/
def intsOf (n : Nat) (g : Nat → Bool) (s : Nat → ByteArray) : List Int := (List.range n).map fun i => zv (g i) (s i)
theorem intsOf_len (n : Nat) (g : Nat → Bool) (s : Nat → ByteArray) : (intsOf n g s).length = n := by simp [intsOf]
theorem co_intsOf {n : Nat} {g : Nat → Bool} {s : Nat → ByteArray} {i : Nat} (h : i < n) : co (intsOf n g s) i = zv (g i) (s i) := by
  simp [co, intsOf, List.getD_eq_getElem?_getD, h]
theorem zv_bd (g : Bool) (s : ByteArray) (h : s.size ≤ 3) : (zv g s).natAbs < 4294967296 := by
  rw [natAbs_zv]
  have h1 := vB_lt s.data.toList
  have h2 : (256 : Nat) ^ s.data.toList.length ≤ 256 ^ 3 := Nat.pow_le_pow_right (by omega) (by rw [Array.length_toList]; exact h)
  have h3 : (256 : Nat) ^ 3 = 16777216 := by decide
  omega
/-- A list of small integers, as it comes in: its values, and what can be read. -/
def ArgV (W : World) (v : Value) (n : Nat) (g : Nat → Bool) (s : Nat → ByteArray) : Prop :=
  ∃ (A : Option Addr) (c : Nat), v = .slice A n c ∧ n ≤ c ∧ ∀ i, i < n → ∃ a, A = some a ∧ W.cell? (a.add (i * 2)) = some (.bool (g i)) ∧ W.cell? ⟨(a.add (i * 2)).block, (a.add (i * 2)).off + 1, none⟩ = some (.string (s i))
theorem ArgV.argS {W : World} {v : Value} {n : Nat} {g : Nat → Bool} {s : Nat → ByteArray} (h : ArgV W v n g s) : ArgS W v n s := by
  obtain ⟨A, c, h1, h2, h3⟩ := h
  exact ⟨A, c, g, h1, h2, h3⟩
theorem ArgV.keep {W W1 : World} {v : Value} {n : Nat} {g : Nat → Bool} {s : Nat → ByteArray} (h : ArgV W v n g s) (hb : Below W.heap.size W W1) : ArgV W1 v n g s := by
  obtain ⟨A, c, h1, h2, h3⟩ := h
  refine ⟨A, c, h1, h2, fun i hi => ?_⟩
  obtain ⟨a, k1, k2, k3⟩ := h3 i hi
  exact ⟨a, k1, cell_keep k2 hb, cell_keep k3 hb⟩
theorem ArgV.at {W : World} {v : Value} {n : Nat} {g : Nat → Bool} {s : Nat → ByteArray} (h : ArgV W v n g s) (hs : ∀ i, i < n → (s i).size ≤ 3) : PolyAt W v (intsOf n g s) 4 := by
  obtain ⟨A, c, h1, h2, h3⟩ := h
  refine ⟨A, c, g, s, by rw [intsOf_len]; exact h1, by rw [intsOf_len]; exact h2, fun i hi => ?_⟩
  rw [intsOf_len] at hi
  obtain ⟨a, k1, k2, k3⟩ := h3 i hi
  have hz := hs i hi
  have hb := zv_bd (g i) (s i) hz
  exact ⟨a, k1, k2, k3, by rw [co_intsOf hi]; exact ⟨g i, s i, rfl, rfl, by omega, Nat.lt_of_lt_of_le hb (by decide), by omega⟩⟩
theorem ArgV.bd {n : Nat} {g : Nat → Bool} {s : Nat → ByteArray} (hs : ∀ i, i < n → (s i).size ≤ 3) : BD (intsOf n g s) 4294967296 := fun i => by
  rcases Nat.lt_or_ge i n with h | h
  · rw [co_intsOf h]; exact Nat.le_of_lt (zv_bd _ _ (hs i h))
  · rw [co_ge (by rw [intsOf_len]; exact h)]; decide
/-- Small, as the laws mean it. -/
theorem small_split (n : Nat) (s : Nat → ByteArray) : (grP n s = false ∧ decide (8 < n) = false) → n ≤ 8 ∧ ∀ i, i < n → (s i).size ≤ 3 := fun ⟨h1, h2⟩ => by
  refine ⟨by have := of_decide_eq_false h2; omega, fun i hi => ?_⟩
  rcases Nat.lt_or_ge 3 (s i).size with h | h
  · rw [grP_big hi h] at h1; exact absurd h1 (by decide)
  · exact h
theorem anyB_false {m : Nat} {p : Nat → Bool} (h : anyB m p = false) {k : Nat} (hk : k < m) : p k = false := by
  unfold anyB at h
  have := List.any_eq_false.1 h k (List.mem_range.2 hk)
  simpa using this
end Go.Proofs.YtgcogpfmhmmgdaaGreatDoor
