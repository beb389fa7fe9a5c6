/- WordRoots returns true for every input. -/
import Derived.Test.YtigdjlhihhakmaaDoorWq
namespace Go.Proofs.YtigdjlhihhakmaaDoor
open Go.RowKit
set_option linter.unusedSimpArgs false
set_option linter.unusedVariables false

theorem repeat_rp (l : List UInt8) (n : Nat) : Lib.repeatL l n = rp l n := by
  induction n with
  | zero => rfl
  | succ n ih => show l ++ Lib.repeatL l n = _; rw [ih]; rfl
theorem repeat_any (l : List UInt8) (n : Nat) (w : World) (hl : l.length ≤ 1000) (hn : n ≤ 1000) :
    Calls Tryd.prog 41 #[.string ⟨l.toArray⟩, .int .i64 (n : Int)] w fun e w' => e = .returned (.string ⟨(rp l n).toArray⟩) ∧ Below w.heap.size w w' := by
  have h := Tryd.strings_Repeat ⟨l.toArray⟩ n w (by omega) (by
    show l.length * n ≤ _
    exact Nat.le_trans (Nat.mul_le_mul hl hn) (by decide))
  rw [show (⟨l.toArray⟩ : ByteArray).data.toList = l from rfl, repeat_rp] at h
  exact h
set_option maxRecDepth 100000 in
set_option maxHeartbeats 6400000 in
theorem wordRoots_main (l u : List UInt8) (n : Nat) (w : World) (hl : l.length ≤ 24) (hu : u.length ≤ 24) (h1 : l ≠ []) (h2 : u ≠ []) (hn : n ≤ 255) :
    Calls Tryd.prog 8 #[.string ⟨l.toArray⟩, .string ⟨u.toArray⟩, .int .u8 (n : Int)] w fun e w' => e = .returned (.bool true) ∧ Below w.heap.size w w' := by
  have e1 : (l == []) = false := by rw [beq_eq_false_iff_ne]; exact h1
  have e2 : (u == []) = false := by rw [beq_eq_false_iff_ne]; exact h2
  have hmod : Int.tmod (n : Int) 4 = ((n % 4 : Nat) : Int) := by rw [Int.tmod_eq_emod_of_nonneg (by omega)]; rfl
  have hm4 := Nat.mod_lt n (show 4 > 0 by omega)
  obtain ⟨r, Hr⟩ : ∃ r : Nat, Hid (n % 4 = r) := ⟨_, Lib.hid rfl⟩
  rw [Hr.out] at hmod hm4
  have hkp := rootN_pos h1
  have hkl := rootN_le l
  have hmp := rootN_pos h2
  have hml := rootN_le u
  have hag := root_again h1
  have hal := rootL_len h1
  have hrl := rlen_le h1
  have hrp := root_rp l
  have hc1 := rootL_rp h1 (show 0 < r + 1 by omega)
  have hc2 := rootN_rp h1 (show 0 < r + 1 by omega)
  have hcom := comm_root h1 h2
  have hane := rootL_ne h1
  have hRne := rp_ne h1 (show 0 < r + 1 by omega)
  have hRl := rp_len l (r + 1)
  have HW := Lib.hid (fun W => root_some l W (by omega) h1)
  have HU := Lib.hid (fun W => root_some u W (by omega) h2)
  have HR0 := Lib.hid (fun W => repeat_any l (r + 1) W (by omega) (by omega))
  obtain ⟨a, ha⟩ : ∃ a, rootL l = a := ⟨_, rfl⟩
  obtain ⟨k, hk⟩ : ∃ k, rootN l = k := ⟨_, rfl⟩
  obtain ⟨b, hb⟩ : ∃ b, rootL u = b := ⟨_, rfl⟩
  obtain ⟨m, hm⟩ : ∃ m, rootN u = m := ⟨_, rfl⟩
  obtain ⟨R, hR⟩ : ∃ R, rp l (r + 1) = R := ⟨_, rfl⟩
  simp only [ha, hk] at HW
  simp only [hb, hm] at HU
  simp only [hR] at HR0
  rw [ha] at hag
  rw [ha, hk] at hrp
  rw [ha, hb] at hcom
  rw [hR, ha] at hc1
  rw [hR, hk] at hc2
  rw [ha] at hal hane
  rw [hk] at hkp hkl
  rw [hm] at hmp hml
  rw [hR] at hRne hRl
  have hRl2 : R.length ≤ 100 := by rw [hRl]; exact Nat.le_trans (Nat.mul_le_mul (show r + 1 ≤ 4 by omega) hl) (by decide)
  have HA := Lib.hid (fun W => root_some a W (by omega) hane)
  simp only [hag.1, hag.2] at HA
  have HRR := Lib.hid (fun W => root_some R W (by omega) hRne)
  simp only [hc1, hc2] at HRR
  have HAK := Lib.hid (fun W => repeat_any a k W (by omega) (by omega))
  simp only [hrp] at HAK
  obtain ⟨t, ht⟩ : ∃ t : Nat, k * (r + 1) = t := ⟨_, rfl⟩
  have htb : t ≤ 1000 := by rw [← ht]; exact Nat.le_trans (Nat.mul_le_mul (show k ≤ 24 by omega) (show r + 1 ≤ 4 by omega)) (by decide)
  have hmul : (k : Int) * ((r : Int) + 1) = (t : Int) := by rw [← ht, Int.natCast_mul]; rfl
  simp only [ht] at HRR
  have hHR : ∀ W, Calls Tryd.prog 41 #[.string ⟨l.toArray⟩, .int .i64 ((r : Int) + 1)] W fun e w' => e = .returned (.string ⟨R.toArray⟩) ∧ Below W.heap.size W w' := HR0.out
  have HR1 := Lib.hid hHR
  obtain ⟨P, hP⟩ : ∃ P, l ++ u = P := ⟨_, rfl⟩
  obtain ⟨Q, hQ⟩ : ∃ Q, u ++ l = Q := ⟨_, rfl⟩
  have hs1 : ∀ w, (Op.stringOp .add ⟨l.toArray⟩ ⟨u.toArray⟩).run Tryd.prog w = .ok (.string ⟨P.toArray⟩) w := fun w => by rw [← hP]; exact run_string_add_lists w l u (by omega) (by omega)
  have hs2 : ∀ w, (Op.stringOp .add ⟨u.toArray⟩ ⟨l.toArray⟩).run Tryd.prog w = .ok (.string ⟨Q.toArray⟩) w := fun w => by rw [← hQ]; exact run_string_add_lists w u l (by omega) (by omega)
  rw [hP, hQ] at hcom
  have ell : (l == l) = true := by simp
  have eaa : (a == a) = true := by simp
  have ett : ((t : Int) == (t : Int)) = true := by simp
  have hd1 : decide ((24 : Int) < (l.length : Int)) = false := decide_eq_false (by omega)
  have hd2 : decide ((24 : Int) < (u.length : Int)) = false := decide_eq_false (by omega)
  have hd3 : decide ((k : Int) < 1) = false := decide_eq_false (by omega)
  have hd4 : decide ((24 : Int) < (k : Int)) = false := decide_eq_false (by omega)
  have hd5 : decide ((m : Int) < 1) = false := decide_eq_false (by omega)
  have hcm : ((P == Q) = true ∧ (a == b) = true) ∨ ((P == Q) = false ∧ (a == b) = false) := by
    by_cases e : a = b
    · exact Or.inl ⟨by rw [hcom.2 e]; simp, by rw [e]; simp⟩
    · exact Or.inr ⟨by rw [beq_eq_false_iff_ne]; exact fun h => e (hcom.1 h), by rw [beq_eq_false_iff_ne]; exact e⟩
  have kz : k ≤ 24 := by omega
  clear hkl hml hag hal hrl hrp hc1 hc2 hcom hane hRne hRl hRl2 HR0 ha hk hb hm hR ht hHR hP hQ h1 h2 hmp
  rcases hcm with ⟨c1, c2⟩ | ⟨c1, c2⟩
  all_goals
    go_enter Tryd.func8, Tryd.ntmps8
    go_wp2_with (first
      | (go_at_call 20; first
        | ((with_reducible refine (HW.out _).mono ?_); rintro e W1 ⟨rfl, b1⟩)
        | ((with_reducible refine (HU.out _).mono ?_); rintro e W2 ⟨rfl, b2⟩)
        | ((with_reducible refine (HA.out _).mono ?_); rintro e W3 ⟨rfl, b3⟩)
        | ((with_reducible refine (HRR.out _).mono ?_); rintro e W5 ⟨rfl, b5⟩))
      | (go_at_call 41; first
        | ((with_reducible refine (HR1.out _).mono ?_); rintro e W4 ⟨rfl, b4⟩)
        | ((with_reducible refine (HAK.out _).mono ?_); rintro e W6 ⟨rfl, b6⟩))
      | (go_at_call 12; (with_reducible refine (awake_any _).mono ?_); rintro e W7 ⟨rfl, b7⟩))
    go_ret
    exact ⟨rfl, below_more (below_more (below_more (below_more (below_more (below_more b1 (Nat.le_refl _) b2) (Nat.le_refl _) b3) (Nat.le_refl _) b4) (Nat.le_refl _) b5) (Nat.le_refl _) b6) (Nat.le_refl _) b7⟩
set_option maxRecDepth 100000 in
set_option maxHeartbeats 6400000 in
theorem wordRoots_any (l u : List UInt8) (n : Nat) (w : World) (hl : l.length ≤ 9223372036854775807) (hu : u.length ≤ 9223372036854775807) (hn : n ≤ 255) :
    Calls Tryd.prog 8 #[.string ⟨l.toArray⟩, .string ⟨u.toArray⟩, .int .u8 (n : Int)] w fun e w' => e = .returned (.bool true) ∧ Below w.heap.size w w' := by
  have hcases : 24 < l.length ∨ (l.length ≤ 24 ∧ 24 < u.length) ∨ (l.length ≤ 24 ∧ u.length ≤ 24 ∧ (l == []) = true) ∨ (l.length ≤ 24 ∧ u.length ≤ 24 ∧ (l == []) = false ∧ (u == []) = true) ∨ (l.length ≤ 24 ∧ u.length ≤ 24 ∧ l ≠ [] ∧ u ≠ []) := by
    by_cases a1 : 24 < l.length
    · exact Or.inl a1
    · by_cases a2 : 24 < u.length
      · exact Or.inr (Or.inl ⟨by omega, a2⟩)
      · by_cases a3 : l = []
        · exact Or.inr (Or.inr (Or.inl ⟨by omega, by omega, by rw [a3]; rfl⟩))
        · by_cases a4 : u = []
          · exact Or.inr (Or.inr (Or.inr (Or.inl ⟨by omega, by omega, by rw [beq_eq_false_iff_ne]; exact a3, by rw [a4]; rfl⟩)))
          · exact Or.inr (Or.inr (Or.inr (Or.inr ⟨by omega, by omega, a3, a4⟩)))
  rcases hcases with a | ⟨a, b⟩ | ⟨a, b, c⟩ | ⟨a, b, c, d⟩ | ⟨a, b, c, d⟩
  case inr.inr.inr.inr => exact wordRoots_main l u n w a b c d hn
  all_goals
    go_enter Tryd.func8, Tryd.ntmps8
    go_wp2_with (go_at_call 12; (with_reducible refine (awake_any _).mono ?_); rintro e W7 ⟨rfl, b7⟩)
    go_ret
    exact ⟨rfl, b7⟩
end Go.Proofs.YtigdjlhihhakmaaDoor
