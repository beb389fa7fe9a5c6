/- slices.Equal of two lists of canonical integers that are equal. grooveref03.Great, and the laws' great and small. The laws' great and small. -/
import Derived.Test.YtgcogpfmhmmgdaaGreatDoorQ38
import Derived.Test.YtgcogpfmhmmgdaaGreatDoorQ13

namespace Go.Proofs.YtgcogpfmhmmgdaaGreatDoor
open Go.RowKit Go.Shelf
set_option linter.unusedSimpArgs false
set_option linter.unusedVariables false

theorem PolyS.slice {W : World} {v : Value} {L : List Int} (h : PolyS W v L) : ∃ A c, v = .slice A L.length c := by
  obtain ⟨A, c, h1, -⟩ := h
  exact ⟨A, c, h1⟩
theorem PolyS.get {W : World} {A : Option Addr} {n c : Nat} {L : List Int} (h : PolyS W (.slice A n c) L) {i : Nat} (hi : i < L.length) : ∃ b, A = some ⟨b, 0, none⟩ ∧ W.cell? ⟨b, i * 2, none⟩ = some (.bool (sg (co L i))) ∧ W.cell? ⟨b, i * 2 + 1, none⟩ = some (.string (mg (co L i))) := by
  obtain ⟨A', c', h1, h2, h3⟩ := h
  injection h1 with e1 e2 e3
  subst e1
  exact h3 i hi
set_option maxRecDepth 100000 in
set_option maxHeartbeats 3200000 in
theorem equalP_any {W : World} {v v' : Value} {L : List Int} (h : PolyS W v L) (h' : PolyS W v' L) (hl : L.length ≤ 1000000) :
    Calls Tryz.prog 7 #[v, v'] W fun e W' => e = .returned (.bool true) ∧ Below W.heap.size W W' := by
  obtain ⟨A, c, rfl⟩ := h.slice
  obtain ⟨A', c', rfl⟩ := h'.slice
  have H := Lib.hid h
  have H' := Lib.hid h'
  obtain ⟨n, hn⟩ : ∃ n, L.length = n := ⟨_, rfl⟩
  rw [hn] at hl H H' ⊢
  clear h h'
  go_enter Tryz.func7, Tryz.ntmps7
  go_wp2_with fail
  go_loopg [13] n (fun q s13 wx => ∃ i : Nat, i + q = n ∧ s13 = .int .i64 (i : Int) ∧ Below W.heap.size W wx)
  case atStart => exact ⟨0, by omega, rfl, Below.refl _ _⟩
  case round =>
    obtain ⟨i, hin, rfl, hbw⟩ := hrel
    rcases gk with _ | q
    · obtain rfl : i = n := by omega
      go_wp2
      go_ret
      exact ⟨rfl, hbw⟩
    · obtain ⟨b, rfl, k1, k2⟩ := H.out.get (i := i) (by omega)
      obtain ⟨b', rfl, k3, k4⟩ := H'.out.get (i := i) (by omega)
      have c1 := cell_keep k1 hbw
      have c2 := cell_keep k2 hbw
      have c3 := cell_keep k3 hbw
      have c4 := cell_keep k4 hbw
      obtain ⟨x, hx⟩ : ∃ x, sg (co L i) = x := ⟨_, rfl⟩
      obtain ⟨y, hy⟩ : ∃ y, mg (co L i) = y := ⟨_, rfl⟩
      rw [hx] at c1 c3
      rw [hy] at c2 c4
      clear k1 k2 k3 k4 hx hy
      have e1 : (x == x) = true := by simp
      have e2 : (y.toList == y.toList) = true := by simp
      go_wp2_with fail
      go_quiet (fail)
      go_wp2_with fail
      go_roundg q
      case measure => omega
      case rel => exact ⟨i + 1, by omega, by go_num, ⟨hbw.os, hbw.tape, hbw.output, hbw.size, hbw.block⟩⟩
end Go.Proofs.YtgcogpfmhmmgdaaGreatDoor

namespace Go.Proofs.YtgcogpfmhmmgdaaGreatDoor
open Go.RowKit Go.Shelf
set_option linter.unusedSimpArgs false
set_option linter.unusedVariables false

/-- A list of integers as it comes in. -/
def ArgS (W : World) (v : Value) (n : Nat) (s : Nat → ByteArray) : Prop :=
  ∃ (A : Option Addr) (c : Nat) (g : Nat → Bool), v = .slice A n c ∧ n ≤ c ∧ ∀ i, i < n → ∃ a, A = some a ∧ W.cell? (a.add (i * 2)) = some (.bool (g i)) ∧ W.cell? ⟨(a.add (i * 2)).block, (a.add (i * 2)).off + 1, none⟩ = some (.string (s i))
theorem ArgS.keep {W W1 : World} {v : Value} {n : Nat} {s : Nat → ByteArray} (h : ArgS W v n s) (hb : Below W.heap.size W W1) : ArgS W1 v n s := by
  obtain ⟨A, c, g, h1, h2, h3⟩ := h
  refine ⟨A, c, g, h1, h2, fun i hi => ?_⟩
  obtain ⟨a, k1, k2, k3⟩ := h3 i hi
  exact ⟨a, k1, cell_keep k2 hb, cell_keep k3 hb⟩
def grP (n : Nat) (s : Nat → ByteArray) : Bool := (List.range n).any (fun i => decide (3 < (s i).size)) || ((decide (8 < n) && decide (n ≤ 65)) || decide (68 < n))
theorem grP_big {n : Nat} {s : Nat → ByteArray} {i : Nat} (hi : i < n) (h : 3 < (s i).size) : grP n s = true := by
  unfold grP
  rw [Bool.or_eq_true]
  exact Or.inl (List.any_eq_true.2 ⟨i, List.mem_range.2 hi, decide_eq_true h⟩)
theorem grP_all {n : Nat} {s : Nat → ByteArray} (h : ∀ i, i < n → (s i).size ≤ 3) : grP n s = ((decide (8 < n) && decide (n ≤ 65)) || decide (68 < n)) := by
  unfold grP
  rw [show (List.range n).any (fun i => decide (3 < (s i).size)) = false from List.any_eq_false.2 (fun i hi => by
    have := h i (List.mem_range.1 hi)
    simp; omega), Bool.false_or]
set_option maxRecDepth 100000 in
set_option maxHeartbeats 3200000 in
theorem great_any (v : Value) (n : Nat) (s : Nat → ByteArray) (w : World) (h : ArgS w v n s) (hn : n ≤ 9223372036854775807) (hs : ∀ i, i < n → (s i).size ≤ 9223372036854775807) :
    Calls Tryz.prog 28 #[v] w fun e w' => e = .returned (.bool (grP n s)) ∧ Below w.heap.size w w' := by
  obtain ⟨A, c, g, rfl, hc, h3⟩ := h
  have H := Lib.hid h3
  have HS := Lib.hid hs
  have HB := Lib.hid (fun i (hi : i < n) (h : 3 < (s i).size) => grP_big (n := n) (s := s) hi h)
  have HN := Lib.hid (fun (h : ∀ i, i < n → (s i).size ≤ 3) => grP_all (n := n) (s := s) h)
  obtain ⟨R, hR⟩ : ∃ R, grP n s = R := ⟨_, rfl⟩
  rw [hR] at HB HN ⊢
  clear h3 hs hR
  go_enter Tryz.func28, Tryz.ntmps28
  go_wp2_with fail
  go_loopg [3] n (fun q s3 wx => ∃ i : Nat, i + q = n ∧ s3 = .int .i64 (i : Int) ∧ Hid (∀ j, j < i → (s j).size ≤ 3) ∧ Below w.heap.size w wx)
  case atStart => exact ⟨0, by omega, rfl, fun j hj => absurd hj (Nat.not_lt_zero _), Below.refl _ _⟩
  case round =>
    obtain ⟨i, hin, rfl, hall, hb⟩ := hrel
    rcases gk with _ | q
    · obtain rfl : i = n := by omega
      have HG := Lib.hid (HN.out hall.out)
      clear hall HN HB
      rcases (show i ≤ 8 ∨ (8 < i ∧ i ≤ 65) ∨ (65 < i ∧ i ≤ 68) ∨ 68 < i by omega) with h | ⟨h, h'⟩ | ⟨h, h'⟩ | h
      · have d1 : decide ((8 : Int) < (i : Int)) = false := decide_eq_false (by omega)
        have d2 : decide ((68 : Int) < (i : Int)) = false := decide_eq_false (by omega)
        have HR := Lib.hid (show R = false by rw [HG.out, decide_eq_false (show ¬ 8 < i by omega), decide_eq_false (show ¬ 68 < i by omega)]; rfl)
        go_wp2
        go_ret
        exact ⟨by rw [HR.out]; rfl, hb⟩
      · have d1 : decide ((8 : Int) < (i : Int)) = true := decide_eq_true (by omega)
        have d2 : decide ((i : Int) ≤ 65) = true := decide_eq_true (by omega)
        have HR := Lib.hid (show R = true by rw [HG.out, decide_eq_true h, decide_eq_true h']; rfl)
        go_wp2
        go_ret
        exact ⟨by rw [HR.out]; rfl, hb⟩
      · have d1 : decide ((8 : Int) < (i : Int)) = true := decide_eq_true (by omega)
        have d2 : decide ((i : Int) ≤ 65) = false := decide_eq_false (by omega)
        have d3 : decide ((68 : Int) < (i : Int)) = false := decide_eq_false (by omega)
        have HR := Lib.hid (show R = false by rw [HG.out, decide_eq_false (show ¬ i ≤ 65 by omega), decide_eq_false (show ¬ 68 < i by omega), Bool.and_false]; rfl)
        go_wp2
        go_ret
        exact ⟨by rw [HR.out]; rfl, hb⟩
      · have d1 : decide ((8 : Int) < (i : Int)) = true := decide_eq_true (by omega)
        have d2 : decide ((i : Int) ≤ 65) = false := decide_eq_false (by omega)
        have d3 : decide ((68 : Int) < (i : Int)) = true := decide_eq_true (by omega)
        have HR := Lib.hid (show R = true by rw [HG.out, decide_eq_true h, Bool.or_true])
        go_wp2
        go_ret
        exact ⟨by rw [HR.out]; rfl, hb⟩
    · obtain ⟨a, rfl, k1, k2⟩ := H.out i (by omega)
      have c1 := cell_keep k1 hb
      have c2 := cell_keep k2 hb
      have hsz := HS.out i (by omega)
      have hbig := Lib.hid (HB.out i (by omega))
      have hall2 := Lib.hid (fun (h : (s i).size ≤ 3) => (fun j (hj : j < i + 1) => by
        by_cases e : j = i
        · subst e; exact h
        · exact hall.out j (by omega) : ∀ j, j < i + 1 → (s j).size ≤ 3))
      obtain ⟨z, hz⟩ : ∃ z, s i = z := ⟨_, rfl⟩
      rw [hz] at c2 hsz hbig hall2
      clear k1 k2 hz hall
      by_cases hlt : 3 < z.size
      · have d1 : decide ((3 : Int) < (z.size : Int)) = true := decide_eq_true (by omega)
        have HR := Lib.hid (hbig.out hlt)
        clear hbig hall2
        go_wp2
        go_ret
        exact ⟨by rw [HR.out]; rfl, hb⟩
      · have d1 : decide ((3 : Int) < (z.size : Int)) = false := decide_eq_false (by omega)
        have HA := Lib.hid (hall2.out (by omega))
        clear hbig hall2
        go_wp2
        go_roundg q
        case measure => omega
        case rel => exact ⟨i + 1, by omega, by go_num, HA, hb⟩
/-- Lists of integers in a list, as they come in. -/
def ArgsS (W : World) (b m : Nat) (n : Nat → Nat) (s : Nat → Nat → ByteArray) : Prop := ∀ k, k < m → ∃ v, W.cell? ⟨b, k, none⟩ = some v ∧ ArgS W v (n k) (s k)
theorem ArgsS.keep {W W1 : World} {b m : Nat} {n : Nat → Nat} {s : Nat → Nat → ByteArray} (h : ArgsS W b m n s) (hb : Below W.heap.size W W1) : ArgsS W1 b m n s := fun k hk => by
  obtain ⟨v, h1, h2⟩ := h k hk
  exact ⟨v, cell_keep h1 hb, h2.keep hb⟩
set_option maxRecDepth 100000 in
set_option maxHeartbeats 3200000 in
theorem index_any (f : FuncId) (hE : ∀ args w, (callFunc f args).run Tryz.prog w = .ok (.enter f args) w) (b m c : Nat) (n : Nat → Nat) (s : Nat → Nat → ByteArray) (p : Nat → Bool) (w : World) (h : ArgsS w b m n s) (hm : m ≤ 1000) (q : Nat) (hq : q ≤ m) (hlt : ∀ k, k < q → p k = false) (hat : q < m → p q = true)
    (hF : ∀ k v W, k < m → ArgS W v (n k) (s k) → Calls Tryz.prog f #[v] W fun e W' => e = .returned (.bool (p k)) ∧ Below W.heap.size W W') :
    Calls Tryz.prog 61 #[.slice (some ⟨b, 0, none⟩) m c, .func (.func f) #[] #[]] w fun e w' => e = .returned (.int .i64 (if q < m then (q : Int) else -1)) ∧ Below w.heap.size w w' := by
  have H := Lib.hid h
  have HF := Lib.hid hF
  have HL := Lib.hid hlt
  have HA := Lib.hid hat
  obtain ⟨R, hR⟩ : ∃ R, (if q < m then (q : Int) else -1) = R := ⟨_, rfl⟩
  have HR := Lib.hid hR
  rw [hR]
  clear h hF hlt hat hR
  go_enter Tryz.func61, Tryz.ntmps61
  go_wp2_with fail
  go_loopg [8] q (fun g s8 wx => ∃ i : Nat, i + g = q ∧ s8 = .int .i64 (i : Int) ∧ Below w.heap.size w wx)
  case atStart => exact ⟨0, by omega, rfl, Below.refl _ _⟩
  case round =>
    obtain ⟨i, hin, rfl, hb⟩ := hrel
    rcases gk with _ | g
    · obtain rfl : i = q := by omega
      rcases Nat.lt_or_ge i m with him | him
      · obtain ⟨v, hv, ha⟩ := H.out i him
        have hv1 := cell_keep hv hb
        have HC := Lib.hid (HF.out i v wr him (ha.keep hb))
        rw [HA.out him] at HC
        have HR' := Lib.hid (show R = (i : Int) by rw [← HR.out, if_pos him])
        clear hv
        go_wp2_with ((with_reducible refine (HC.out).mono ?_); rintro e W1 ⟨rfl, b1⟩; (have hb1 := below_more hb (Nat.le_refl _) b1))
        go_ret
        exact ⟨by rw [HR'.out]; rfl, hb1⟩
      · have HR' := Lib.hid (show R = -1 by rw [← HR.out, if_neg (by omega)])
        obtain rfl : i = m := by omega
        go_wp2
        go_ret
        exact ⟨by rw [HR'.out]; rfl, hb⟩
    · have him : i < m := by omega
      obtain ⟨v, hv, ha⟩ := H.out i him
      have hv1 := cell_keep hv hb
      have HC := Lib.hid (HF.out i v wr him (ha.keep hb))
      rw [HL.out i (by omega)] at HC
      clear hv
      go_wp2_with ((with_reducible refine (HC.out).mono ?_); rintro e W1 ⟨rfl, b1⟩; (have hb1 := below_more hb (Nat.le_refl _) b1))
      go_roundg g
      case measure => omega
      case rel => exact ⟨i + 1, by omega, by go_num, hb1⟩
set_option maxRecDepth 100000 in
set_option maxHeartbeats 3200000 in
theorem contains_any (f : FuncId) (hE : ∀ args w, (callFunc f args).run Tryz.prog w = .ok (.enter f args) w) (b m c : Nat) (n : Nat → Nat) (s : Nat → Nat → ByteArray) (p : Nat → Bool) (w : World) (h : ArgsS w b m n s) (hm : m ≤ 1000) (q : Nat) (hq : q ≤ m) (hlt : ∀ k, k < q → p k = false) (hat : q < m → p q = true)
    (hF : ∀ k v W, k < m → ArgS W v (n k) (s k) → Calls Tryz.prog f #[v] W fun e W' => e = .returned (.bool (p k)) ∧ Below W.heap.size W W') :
    Calls Tryz.prog 27 #[.slice (some ⟨b, 0, none⟩) m c, .func (.func f) #[] #[]] w fun e w' => e = .returned (.bool (decide (q < m))) ∧ Below w.heap.size w w' := by
  have HI := Lib.hid (index_any f hE b m c n s p w h hm q hq hlt hat hF)
  have hd : decide ((0 : Int) ≤ (if q < m then (q : Int) else -1)) = decide (q < m) := by
    by_cases e : q < m
    · rw [if_pos e, decide_eq_true e]; exact decide_eq_true (by omega)
    · rw [if_neg e, decide_eq_false e]; rfl
  obtain ⟨R, hR⟩ : ∃ R, (if q < m then (q : Int) else -1) = R := ⟨_, rfl⟩
  rw [hR] at HI hd
  clear h hF hlt hat hR
  go_enter Tryz.func27, Tryz.ntmps27
  go_wp2_with (go_at_call 61; (with_reducible refine (HI.out).mono ?_); rintro e W1 ⟨rfl, b1⟩)
  go_ret
  exact ⟨rfl, b1⟩
end Go.Proofs.YtgcogpfmhmmgdaaGreatDoor

namespace Go.Proofs.YtgcogpfmhmmgdaaGreatDoor
open Go.RowKit Go.Shelf
set_option linter.unusedSimpArgs false
set_option linter.unusedVariables false

def anyB (m : Nat) (p : Nat → Bool) : Bool := (List.range m).any p
theorem anyB_first (m : Nat) (p : Nat → Bool) : ∃ q, q ≤ m ∧ (∀ k, k < q → p k = false) ∧ (q < m → p q = true) ∧ decide (q < m) = anyB m p := by
  induction m with
  | zero => exact ⟨0, Nat.le_refl _, fun k hk => absurd hk (Nat.not_lt_zero _), fun h => absurd h (Nat.not_lt_zero _), rfl⟩
  | succ m ih =>
    obtain ⟨q, h1, h2, h3, h4⟩ := ih
    have e : anyB (m + 1) p = (anyB m p || p m) := by
      unfold anyB
      rw [List.range_succ, List.any_append]
      simp
    rcases Nat.lt_or_ge q m with h | h
    · refine ⟨q, by omega, h2, fun _ => h3 h, ?_⟩
      rw [e, ← h4, decide_eq_true h, decide_eq_true (by omega)]
      rfl
    · obtain rfl : q = m := by omega
      rw [decide_eq_false (Nat.lt_irrefl _)] at h4
      cases hp : p q
      · refine ⟨q + 1, Nat.le_refl _, fun k hk => ?_, fun h => absurd h (Nat.lt_irrefl _), by rw [e, ← h4, hp, decide_eq_false (Nat.lt_irrefl _)]; rfl⟩
        rcases Nat.lt_or_ge k q with hk' | hk'
        · exact h2 k hk'
        · obtain rfl : k = q := by omega
          exact hp
      · exact ⟨q, by omega, h2, fun _ => hp, by rw [e, ← h4, hp, decide_eq_true (by omega)]; rfl⟩
theorem contains_all (f : FuncId) (hE : ∀ args w, (callFunc f args).run Tryz.prog w = .ok (.enter f args) w) (b m c : Nat) (n : Nat → Nat) (s : Nat → Nat → ByteArray) (p : Nat → Bool) (w : World) (h : ArgsS w b m n s) (hm : m ≤ 1000)
    (hF : ∀ k v W, k < m → ArgS W v (n k) (s k) → Calls Tryz.prog f #[v] W fun e W' => e = .returned (.bool (p k)) ∧ Below W.heap.size W W') :
    Calls Tryz.prog 27 #[.slice (some ⟨b, 0, none⟩) m c, .func (.func f) #[] #[]] w fun e w' => e = .returned (.bool (anyB m p)) ∧ Below w.heap.size w w' := by
  obtain ⟨q, h1, h2, h3, h4⟩ := anyB_first m p
  rw [← h4]
  exact contains_any f hE b m c n s p w h hm q h1 h2 h3 hF
theorem Tryz.greatE (args : Array Value) (w : World) : (callFunc 28 args).run Tryz.prog w = .ok (.enter 28 args) w := by
  simp [callFunc, go_sem, Tryz.func28, Tryz.f28]
theorem Tryz.small1E (args : Array Value) (w : World) : (callFunc 56 args).run Tryz.prog w = .ok (.enter 56 args) w := by
  simp [callFunc, go_sem, Tryz.func56, Tryz.f56]
set_option maxRecDepth 100000 in
set_option maxHeartbeats 3200000 in
theorem lgreat_any (b m c : Nat) (n : Nat → Nat) (s : Nat → Nat → ByteArray) (w : World) (h : ArgsS w b m n s) (hm : m ≤ 1000) (hn : ∀ k, k < m → n k ≤ 9223372036854775807) (hs : ∀ k, k < m → ∀ i, i < n k → (s k i).size ≤ 9223372036854775807) :
    Calls Tryz.prog 5 #[.slice (some ⟨b, 0, none⟩) m c] w fun e w' => e = .returned (.bool (anyB m fun k => grP (n k) (s k))) ∧ Below w.heap.size w w' := by
  have HC := Lib.hid (contains_all 28 Tryz.greatE b m c n s (fun k => grP (n k) (s k)) w h hm (fun k v W hk hv => great_any v (n k) (s k) W hv (hn k hk) (hs k hk)))
  obtain ⟨R, hR⟩ : ∃ R, (anyB m fun k => grP (n k) (s k)) = R := ⟨_, rfl⟩
  rw [hR] at HC ⊢
  clear h hn hs hR
  go_enter Tryz.func5, Tryz.ntmps5
  go_wp2_with (go_at_call 27; (with_reducible refine (HC.out).mono ?_); rintro e W1 ⟨rfl, b1⟩)
  go_ret
  exact ⟨rfl, b1⟩
set_option maxRecDepth 100000 in
set_option maxHeartbeats 3200000 in
theorem small1_any (v : Value) (n : Nat) (s : Nat → ByteArray) (w : World) (h : ArgS w v n s) (hn : n ≤ 9223372036854775807) :
    Calls Tryz.prog 56 #[v] w fun e w' => e = .returned (.bool (decide (8 < n))) ∧ Below w.heap.size w w' := by
  obtain ⟨A, c, g, rfl, hc, h3⟩ := h
  have hd : decide ((8 : Int) < (n : Int)) = decide (8 < n) := decide_eq_decide.2 (by omega)
  clear h3
  go_enter Tryz.func56, Tryz.ntmps56
  go_wp2
  go_ret
  exact ⟨rfl, Below.refl _ _⟩
set_option maxRecDepth 100000 in
set_option maxHeartbeats 3200000 in
theorem lsmall_any (b m c : Nat) (n : Nat → Nat) (s : Nat → Nat → ByteArray) (w : World) (h : ArgsS w b m n s) (hm : m ≤ 1000) (hn : ∀ k, k < m → n k ≤ 9223372036854775807) (hs : ∀ k, k < m → ∀ i, i < n k → (s k i).size ≤ 9223372036854775807) :
    Calls Tryz.prog 20 #[.slice (some ⟨b, 0, none⟩) m c] w fun e w' => e = .returned (.bool (!(anyB m fun k => grP (n k) (s k)) && !(anyB m fun k => decide (8 < n k)))) ∧ Below w.heap.size w w' := by
  have HG := Lib.hid (lgreat_any b m c n s w h hm hn hs)
  have HC := Lib.hid (fun W (hb : Below w.heap.size w W) => contains_all 56 Tryz.small1E b m c n s (fun k => decide (8 < n k)) W (h.keep hb) hm (fun k v W hk hv => small1_any v (n k) (s k) W hv (hn k hk)))
  obtain ⟨R, hR⟩ : ∃ R, (anyB m fun k => grP (n k) (s k)) = R := ⟨_, rfl⟩
  obtain ⟨S, hS⟩ : ∃ S, (anyB m fun k => decide (8 < n k)) = S := ⟨_, rfl⟩
  simp only [hR] at HG
  simp only [hS] at HC
  rw [hR, hS]
  clear h hn hs hR hS
  go_enter Tryz.func20, Tryz.ntmps20
  go_wp2_with (first
    | (go_at_call 5; (with_reducible refine (HG.out).mono ?_); rintro e W1 ⟨rfl, b1⟩)
    | (go_at_call 27; (with_reducible refine (HC.out _ b1).mono ?_); rintro e W2 ⟨rfl, b2⟩))
  · next hR =>
      subst hR
      go_ret
      exact ⟨rfl, b1⟩
  · next hR =>
      rw [Bool.not_eq_true] at hR
      subst hR
      go_ret
      exact ⟨rfl, below_more b1 (Nat.le_refl _) b2⟩
end Go.Proofs.YtgcogpfmhmmgdaaGreatDoor
