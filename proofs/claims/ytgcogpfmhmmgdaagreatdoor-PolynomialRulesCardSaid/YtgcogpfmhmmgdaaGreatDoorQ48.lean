/- Plain facts on derivatives of polynomials: the product rule. No condition. How rational numbers are compared as values of the program. No condition. What grooveref02.Long returns over a slice of rational numbers, and rational.Check (for seats without the other texts of rational numbers). Condition: at most a million of them; integers of at most 10^6 digits to the base 2^32. -/
import Derived.Test.YtgcogpfmhmmgdaaGreatDoorQ47
import Derived.Test.YtgcogpfmhmmgdaaGreatDoorQ25
import Derived.Test.YtgcogpfmhmmgdaaGreatDoorQ14
import Derived.Test.YtgcogpfmhmmgdaaGreatDoorQ30

namespace Go.Proofs.YtgcogpfmhmmgdaaGreatDoor
open Go.RowKit
set_option linter.unusedSimpArgs false
set_option linter.unusedVariables false

/-- The derivative, from the constant term on. -/
def dX : List Int → List Int
  | [] => []
  | _ :: a => addL a (0 :: dX a)
theorem co_dX (L : List Int) : ∀ i : Nat, co (dX L) i = co L (i + 1) * ((i : Int) + 1) := by
  induction L with
  | nil => intro i; rw [dX, co_nil, co_nil, Int.zero_mul]
  | cons x a ih =>
    intro i
    rw [dX, co_addL, co_consS]
    cases i with
    | zero => rw [co_cons0]; simp
    | succ i =>
      rw [co_consS, ih i]
      rw [show ((i + 1 : Nat) : Int) = (i : Int) + 1 by omega]
      grind
theorem mulL_dX (a : List Int) (g : Nat → Int) : ∀ i : Nat, mulL a g (i + 1) * ((i : Int) + 1) = mulL (dX a) g i + mulL a (fun j => g (j + 1) * ((j : Int) + 1)) i := by
  induction a with
  | nil => intro i; simp [dX, mulL]
  | cons x a ih =>
    intro i
    rw [dX, mulL_addL]
    cases i with
    | zero => simp [mulL]; grind
    | succ i =>
      have h := ih i
      simp only [mulL]
      simp at *
      grind
theorem co_derProd (a b : List Int) (i : Nat) : co (prodL a b) (i + 1) * ((i : Int) + 1) = co (addL (prodL (dX a) b) (prodL a (dX b))) i := by
  rw [co_addL, co_prodL, co_prodL, co_prodL, mulL_dX]
  congr 2
  funext j
  exact (co_dX b j).symm
theorem trm_derX_dX (L : List Int) : trm (derX L) = trm (dX L) := trm_eq fun i => by rw [co_derX, co_dX]
end Go.Proofs.YtgcogpfmhmmgdaaGreatDoor

namespace Go.Proofs.YtgcogpfmhmmgdaaGreatDoor
open Go.RowKit

theorem Tryz.fieldsRat : (Tryz.prog.fieldsOf 33).toList = [{ name := "Num", type := 27, offset := 0, embedded := false, tag := "", pkgPath := "", byteOffset := 0 }, { name := "Den", type := 27, offset := 2, embedded := false, tag := "", pkgPath := "", byteOffset := 24 }] := by kernel_rfl
theorem partR0 (a b : Bool) (s t : ByteArray) (w : World) : (part 27 #[Value.bool a, Value.string s, Value.bool b, Value.string t] 0).run Tryz.prog w = .ok (.agg #[.bool a, .string s]) w := by kernel_rfl
theorem partR1 (a b : Bool) (s t : ByteArray) (w : World) : (part 27 #[Value.bool a, Value.string s, Value.bool b, Value.string t] 2).run Tryz.prog w = .ok (.agg #[.bool b, .string t]) w := by kernel_rfl
theorem eq0' (a b : Bool) (w : World) : (Op.equalIn 9998 4 (.bool a) (.bool b)).run Tryz.prog w = .ok (a == b) w := run_equalIn_bool' w 9997 4 a b Tryz.underlying4
theorem eq1' (a b : ByteArray) (w : World) : (Op.equalIn 9998 9 (.string a) (.string b)).run Tryz.prog w = .ok (a.toList == b.toList) w := run_equalIn_string w 9997 9 a b Tryz.underlying9
set_option maxRecDepth 100000 in
theorem eqInt9 (a b : Bool) (s t : ByteArray) (w : World) : (Op.equalIn 9999 27 (.agg #[.bool a, .string s]) (.agg #[.bool b, .string t])).run Tryz.prog w = .ok (a == b && s.toList == t.toList) w := by
  rw [run_equalIn_agg w 9998 27 _ _ (by kernel_rfl) (by kernel_rfl), Tryz.fieldsInt]
  simp only [Op.eqFields]
  rw [if_pos (by decide)]
  rw [if_pos (by decide)]
  simp only [Sem.run_bind, part0, eq0', Result.andThen]
  cases a == b
  · rfl
  · simp only [Bool.not_true, Bool.true_and, if_neg (show ¬ (false = true) by decide), Sem.run_bind, part1, eq1', Result.andThen]
    cases s.toList == t.toList <;> rfl
/-- Whether two rational numbers are the same values. -/
def sameR (a : Bool) (s : ByteArray) (b : Bool) (t : ByteArray) (a' : Bool) (s' : ByteArray) (b' : Bool) (t' : ByteArray) : Bool := (a == a' && s.toList == s'.toList) && (b == b' && t.toList == t'.toList)
set_option maxRecDepth 100000 in
theorem neqRat (a b a' b' : Bool) (s t s' t' : ByteArray) (w : World) : (binOp .neq 33 (.agg #[.bool a, .string s, .bool b, .string t]) (.agg #[.bool a', .string s', .bool b', .string t'])).run Tryz.prog w = .ok (.bool (!(sameR a s b t a' s' b' t'))) w := by
  rw [run_neq_struct, run_equalIn_agg w 9999 33 _ _ (by kernel_rfl) (by kernel_rfl), Tryz.fieldsRat]
  simp only [Op.eqFields]
  rw [if_pos (by decide)]
  rw [if_pos (by decide)]
  simp only [Sem.run_bind, partR0, eqInt9, Result.andThen]
  unfold sameR
  cases (a == a' && s.toList == s'.toList)
  · rfl
  · simp only [Bool.not_true, Bool.true_and, if_neg (show ¬ (false = true) by decide), Sem.run_bind, partR1, eqInt9, Result.andThen]
    cases (b == b' && t.toList == t'.toList) <;> rfl
set_option maxRecDepth 100000 in
theorem eqlRat (a b a' b' : Bool) (s t s' t' : ByteArray) (w : World) : (binOp .eql 33 (.agg #[.bool a, .string s, .bool b, .string t]) (.agg #[.bool a', .string s', .bool b', .string t'])).run Tryz.prog w = .ok (.bool (sameR a s b t a' s' b' t')) w := by
  rw [run_eql_struct, run_equalIn_agg w 9999 33 _ _ (by kernel_rfl) (by kernel_rfl), Tryz.fieldsRat]
  simp only [Op.eqFields]
  rw [if_pos (by decide)]
  rw [if_pos (by decide)]
  simp only [Sem.run_bind, partR0, eqInt9, Result.andThen]
  unfold sameR
  cases (a == a' && s.toList == s'.toList)
  · rfl
  · simp only [Bool.not_true, Bool.true_and, if_neg (show ¬ (false = true) by decide), Sem.run_bind, partR1, eqInt9, Result.andThen]
    cases (b == b' && t.toList == t'.toList) <;> rfl
theorem guardRat (x y : Operand) (a b a' b' : Bool) (s t s' t' : ByteArray) (w : World) : (eqGuard .neq 33 x y (.agg #[.bool a, .string s, .bool b, .string t]) (.agg #[.bool a', .string s', .bool b', .string t'])).run Tryz.prog w = .ok () w := run_eqGuard_agg w .neq 33 x y _ _ (by kernel_rfl)
theorem guardRat2 (x y : Operand) (a b a' b' : Bool) (s t s' t' : ByteArray) (w : World) : (eqGuard .eql 33 x y (.agg #[.bool a, .string s, .bool b, .string t]) (.agg #[.bool a', .string s', .bool b', .string t'])).run Tryz.prog w = .ok () w := run_eqGuard_agg w .eql 33 x y _ _ (by kernel_rfl)
attribute [go_sem ↓] neqRat eqlRat guardRat guardRat2
/-- Two rational numbers in lowest terms are the same values just if they are equal. -/
theorem mg_inj {x y : Int} (h1 : sg x = sg y) (h2 : (mg x).toList = (mg y).toList) : x = y := by
  have h3 : mg x = mg y := by
    have := toList_eq (mg x) (mg y)
    rw [h2] at this
    simpa using this
  rw [← zv_mg x, ← zv_mg y, h1, h3]
theorem sameR_ratV (p q : Rat) : sameR (sg p.num) (mg p.num) (sg (p.den : Int)) (mg (p.den : Int)) (sg q.num) (mg q.num) (sg (q.den : Int)) (mg (q.den : Int)) = decide (p = q) := by
  by_cases h : p = q
  · subst h; simp [sameR]
  · rw [decide_eq_false h]
    unfold sameR
    rw [Bool.eq_false_iff]
    intro hh
    simp only [Bool.and_eq_true, beq_iff_eq] at hh
    obtain ⟨⟨h1, h2⟩, h3, h4⟩ := hh
    have e1 := mg_inj h1 h2
    have e2 := mg_inj h3 h4
    exact h (Rat.ext e1 (by exact_mod_cast e2))
theorem sameR_self (a b : Bool) (s t : ByteArray) : sameR a s b t a s b t = true := by simp [sameR]
end Go.Proofs.YtgcogpfmhmmgdaaGreatDoor

namespace Go.Proofs.YtgcogpfmhmmgdaaGreatDoor
open Go.RowKit
set_option linter.unusedSimpArgs false

def RdRatsP (w : World) (b n : Nat) (g1 : Nat → Bool) (s1 : Nat → ByteArray) (g2 : Nat → Bool) (s2 : Nat → ByteArray) : Prop :=
  ∀ i, i < n → w.cell? ⟨b, i * 4, none⟩ = some (.bool (g1 i)) ∧ w.cell? ⟨b, i * 4 + 1, none⟩ = some (.string (s1 i)) ∧ w.cell? ⟨b, i * 4 + 2, none⟩ = some (.bool (g2 i)) ∧ w.cell? ⟨b, i * 4 + 2 + 1, none⟩ = some (.string (s2 i))
def longRBP (n : Nat) (s1 s2 : Nat → ByteArray) : Bool := (List.range n).any fun i => decide (4 < (s1 i).size) || decide (4 < (s2 i).size)

set_option maxRecDepth 100000 in
set_option maxHeartbeats 1600000 in
theorem longR_anyP (b n c : Nat) (g1 : Nat → Bool) (s1 : Nat → ByteArray) (g2 : Nat → Bool) (s2 : Nat → ByteArray) (w : World) (h : RdRatsP w b n g1 s1 g2 s2) (hn : n ≤ 1000000) (hs : ∀ i, i < n → (s1 i).size ≤ 9223372036854775807 ∧ (s2 i).size ≤ 9223372036854775807) :
    Calls Tryz.prog 21 #[.slice (some ⟨b, 0, none⟩) n c] w fun e w' => e = .returned (.bool (longRBP n s1 s2)) ∧ Below w.heap.size w w' := by
  have H : Hid (RdRatsP w b n g1 s1 g2 s2) := h
  have Hs := Lib.hid hs
  clear h hs
  go_enter Tryz.func21, Tryz.ntmps21
  go_wp2_with fail
  go_loopg [3] n (fun g s3 wx => g ≤ n ∧ s3 = .int .i64 ((n - g : Nat) : Int) ∧ Below w.heap.size w wx ∧ Hid (∀ i, i < n - g → (s1 i).size ≤ 4 ∧ (s2 i).size ≤ 4))
  case atStart => exact ⟨Nat.le_refl _, by rw [Nat.sub_self]; rfl, Below.refl _ _, fun i hi => absurd hi (by omega)⟩
  case round =>
    obtain ⟨hg, rfl, hb, hall⟩ := hrel
    rcases gk with _ | g
    · have hgr : Hid (longRBP n s1 s2 = false) := by
        show _ = _
        unfold longRBP
        rw [List.any_eq_false]
        intro i hi
        have := hall.out i (by have := List.mem_range.1 hi; omega)
        simp; omega
      go_wp2
      go_ret
      exact ⟨by rw [hgr.out]; rfl, hb⟩
    · obtain ⟨i, hi⟩ : ∃ i, i = n - (g + 1) := ⟨_, rfl⟩
      rw [← hi] at hall ⊢
      have hin : i < n := by omega
      have HI : Hid (i + 1 = n - g ∧ g + 1 ≤ n) := by show _ ∧ _; omega
      obtain ⟨h1, h2, h3, h4⟩ := H.out i hin
      have x2 : wr.cell? ⟨b, i * 4 + 1, none⟩ = some (.string (s1 i)) := (hb.cell (World.block_lt_of_cell? _ _ h2)).trans h2
      have x4 : wr.cell? ⟨b, i * 4 + 2 + 1, none⟩ = some (.string (s2 i)) := (hb.cell (World.block_lt_of_cell? _ _ h4)).trans h4
      obtain ⟨z1, z2⟩ := Hs.out i hin
      clear hi h1 h2 h3 h4 hg
      by_cases hbig : 4 < (s1 i).size
      · have hgr : Hid (longRBP n s1 s2 = true) := by
          show _ = _
          unfold longRBP
          rw [List.any_eq_true]
          exact ⟨i, List.mem_range.2 hin, by rw [decide_eq_true hbig]; rfl⟩
        have hbw : decide ((4 : Int) < ((s1 i).size : Int)) = true := decide_eq_true (by omega)
        go_wp2
        go_ret
        exact ⟨by rw [hgr.out]; rfl, hb⟩
      · have hbw : decide ((4 : Int) < ((s1 i).size : Int)) = false := decide_eq_false (by omega)
        by_cases hbig2 : 4 < (s2 i).size
        · have hgr : Hid (longRBP n s1 s2 = true) := by
            show _ = _
            unfold longRBP
            rw [List.any_eq_true]
            exact ⟨i, List.mem_range.2 hin, by rw [decide_eq_true hbig2]; simp⟩
          have hbw2 : decide ((4 : Int) < ((s2 i).size : Int)) = true := decide_eq_true (by omega)
          go_wp2
          go_ret
          exact ⟨by rw [hgr.out]; rfl, hb⟩
        · have hall2 : Hid (∀ j, j < i + 1 → (s1 j).size ≤ 4 ∧ (s2 j).size ≤ 4) := by
            intro j hj
            by_cases e : j = i
            · subst e; omega
            · exact hall.out j (by omega)
          have hbw2 : decide ((4 : Int) < ((s2 i).size : Int)) = false := decide_eq_false (by omega)
          go_wp2
          go_roundg g
          case measure => omega
          case rel => exact ⟨by have := HI.out.2; omega, by rw [← HI.out.1]; rfl, hb, by rw [← HI.out.1]; exact hall2⟩
set_option maxRecDepth 100000 in
theorem rcheck_anyP (na nb : Bool) (sa sb : ByteArray) (q : Rat) (c : Bool) (k : Nat) (w : World) (h1 : IsRat (.agg #[.bool na, .string sa, .bool nb, .string sb]) q k) (hc : sameR na sa nb sb (sg q.num) (mg q.num) (sg (q.den : Int)) (mg (q.den : Int)) = c) :
    Calls Tryz.prog 26 #[.agg #[.bool na, .string sa, .bool nb, .string sb]] w fun e w' => e = .returned (.int .i64 (if c then 0 else 1)) ∧ Below w.heap.size w w' := by
  have Hc := Lib.hid hc
  have H1 := Lib.hid h1
  clear hc h1
  have B0 := below1 w (.cells #[.bool na, .string sa, .bool nb, .string sb] 33)
  have S0 : RIn (w.alloc (.cells #[.bool na, .string sa, .bool nb, .string sb] 33)) w.heap.size na sa nb sb := RIn.new rfl
  go_enter Tryz.func26, Tryz.ntmps26
  go_upto_region 1 with fail
  generalize w.alloc (.cells #[.bool na, .string sa, .bool nb, .string sb] 33) = W0 at *
  have S1 : RIn W0.drew w.heap.size na sa nb sb := S0
  go_region_held3 (fun W => W.cell? ⟨w.heap.size, 0, none⟩ = some (.bool na) ∧ W.cell? ⟨w.heap.size, 1, none⟩ = some (.string sa) ∧ W.cell? ⟨w.heap.size, 2, none⟩ = some (.bool nb) ∧ W.cell? ⟨w.heap.size, 3, none⟩ = some (.string sb)) (first | exact S0 | exact S1 | exact RIn.keep S1 (by assumption) | go_keep)
    (first
      | (go_at_call 60; refine (rcanon_any _ q k _ H1.out).mono ?_; rintro e W1 ⟨rfl, b1⟩; unfold ratV))
  all_goals
    rw [Hc.out]
    cases c
    · go_wp2
      go_ret
      exact ⟨rfl, below_more B0.drew (Nat.le_refl _) b1⟩
    · go_wp2
      go_ret
      exact ⟨rfl, below_more B0.drew (Nat.le_refl _) b1⟩
end Go.Proofs.YtgcogpfmhmmgdaaGreatDoor
