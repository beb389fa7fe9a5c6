/- The decimal text of an integer and its digits: what Print writes, Parse reads; what Parse reads, Print writes. -/
import Derived.Test.YtdbfghppjhmelaaDoorRead
import Derived.Test.YtdbfghppjhmelaaDoorPrint
namespace Go.Proofs.YtdbfghppjhmelaaDoor
open Go.RowKit

theorem isDec_cons (b : UInt8) (t : List UInt8) : isDec (b :: t) = (!(decide (t ≠ []) && decide (b.toNat = 48)) && (b :: t).all digB) := rfl
theorem dig_of {c : Nat} (h : c < 10) : (UInt8.ofNat (48 + c)).toNat = 48 + c := by
  rw [UInt8.toNat_ofNat']; omega
theorem dec_facts (u : Nat) : dv (Lib.decDigits u) = u ∧ (Lib.decDigits u).all digB = true ∧ (0 < u → ∃ b t, Lib.decDigits u = b :: t ∧ b.toNat ≠ 48) := by
  induction u using Nat.strongRecOn with
  | _ u ih =>
    by_cases h : u < 10
    · rw [Lib.decDigits_one h]
      refine ⟨by simp [dv]; omega, by simp [digB]; omega, fun h0 => ⟨_, [], rfl, by rw [dig_of h]; omega⟩⟩
    · rw [Lib.decDigits, dif_neg h]
      obtain ⟨h1, h2, h3⟩ := ih (u / 10) (by omega)
      have hm : u % 10 < 10 := Nat.mod_lt _ (by omega)
      obtain ⟨b, t, h4, h5⟩ := h3 (by omega)
      refine ⟨?_, ?_, fun _ => ⟨b, t ++ [UInt8.ofNat (48 + u % 10)], by rw [h4]; rfl, h5⟩⟩
      · rw [dv_snoc, h1, dig_of hm]; omega
      · rw [List.all_append, h2]; simp [digB]; omega
theorem rep_facts (n : Nat) : dv (Lib.repeatL [48] n) = 0 ∧ (Lib.repeatL [48] n).all digB = true := by
  induction n with
  | zero => exact ⟨rfl, rfl⟩
  | succ n ih =>
    have e : Lib.repeatL [48] (n + 1) = (48 : UInt8) :: Lib.repeatL [48] n := rfl
    rw [e]
    exact ⟨by rw [dv_cons, ih.1]; simp, by rw [List.all_cons, ih.2]; rfl⟩
theorem pad_facts (d : Nat) : dv (pad9 d) = d ∧ (pad9 d).all digB = true := by
  unfold pad9
  refine ⟨by rw [dv_append, (rep_facts _).1, (dec_facts d).1]; simp, by rw [List.all_append, (rep_facts _).2, (dec_facts d).2.1]; rfl⟩
theorem pr_facts (N : Nat) : dv (prS (gs N)) = N ∧ (prS (gs N)).all digB = true ∧ (0 < N → ∃ b t, prS (gs N) = b :: t ∧ b.toNat ≠ 48) := by
  induction N using Nat.strongRecOn with
  | _ N ih =>
    by_cases h0 : N = 0
    · subst h0; rw [gs_zero]; exact ⟨rfl, rfl, fun h => absurd h (by omega)⟩
    · have hr := Nat.mod_lt N (show 1000000000 > 0 by omega)
      obtain ⟨h1, h2, h3⟩ := ih (N / 1000000000) (Nat.div_lt_self (by omega) (by omega))
      rw [gs_pos h0, prS]
      by_cases hq : N / 1000000000 = 0
      · rw [hq, gs_zero, if_pos rfl]
        have hN : N % 1000000000 = N := by omega
        rw [hN]
        exact dec_facts N |>.imp_right (fun h => h) |> fun h => by simpa [prS] using h
      · have hg : gs (N / 1000000000) ≠ [] := by rw [gs_pos hq]; simp
        rw [if_neg hg]
        obtain ⟨b, t, h4, h5⟩ := h3 (by omega)
        refine ⟨?_, ?_, fun _ => ⟨b, t ++ pad9 (N % 1000000000), by rw [h4]; rfl, h5⟩⟩
        · rw [dv_append, h1, (pad_facts _).1, pad9_len hr]; omega
        · rw [List.all_append, h2, (pad_facts _).2]; rfl
theorem isDec_pr {N : Nat} (h : 0 < N) : isDec (prS (gs N)) = true := by
  obtain ⟨_, h2, h3⟩ := pr_facts N
  obtain ⟨b, t, h4, h5⟩ := h3 h
  rw [h4] at h2 ⊢
  rw [isDec_cons, h2]; simp [h5]
theorem dv_same : ∀ {l m : List UInt8}, l.length = m.length → l.all digB = true → m.all digB = true → dv l = dv m → l = m
  | [], [], _, _, _, _ => rfl
  | b :: l, c :: m, hl, h1, h2, h => by
    rw [List.all_cons, Bool.and_eq_true] at h1 h2
    have e : l.length = m.length := by simpa using hl
    have a1 := dv_lt h1.2
    have a2 := dv_lt h2.2
    rw [dv_cons, dv_cons, e] at h
    rw [e] at a1
    have b1 := h1.1
    have b2 := h2.1
    simp [digB] at b1 b2
    have hp : 0 < 10 ^ m.length := Nat.pow_pos (by omega)
    have q1 : ((b.toNat - 48) * 10 ^ m.length + dv l) / 10 ^ m.length = b.toNat - 48 := by
      rw [Nat.mul_comm, Nat.mul_add_div hp, Nat.div_eq_of_lt a1, Nat.add_zero]
    have q2 : ((c.toNat - 48) * 10 ^ m.length + dv m) / 10 ^ m.length = c.toNat - 48 := by
      rw [Nat.mul_comm, Nat.mul_add_div hp, Nat.div_eq_of_lt a2, Nat.add_zero]
    have q3 : b.toNat - 48 = c.toNat - 48 := by rw [← q1, ← q2, h]
    have q4 : dv l = dv m := by rw [q3] at h; omega
    have q5 : b = c := UInt8.toNat_inj.1 (by omega)
    rw [q5, dv_same e h1.2 h2.2 q4]
theorem dv_low {b : UInt8} {t : List UInt8} (h : (b :: t).all digB = true) (hb : b.toNat ≠ 48) : 10 ^ t.length ≤ dv (b :: t) := by
  rw [List.all_cons, Bool.and_eq_true] at h
  have b1 := h.1
  simp [digB] at b1
  have := Nat.mul_le_mul_right (10 ^ t.length) (show 1 ≤ b.toNat - 48 by omega)
  rw [dv_cons]; omega
theorem dec_cases {l : List UInt8} (h : isDec l = true) : l = [48] ∨ ∃ b t, l = b :: t ∧ b.toNat ≠ 48 ∧ l.all digB = true := by
  have ha := isDec_all h
  cases l with
  | nil => cases h
  | cons b t =>
    by_cases hb : b.toNat = 48
    · refine Or.inl ?_
      rw [isDec_cons, ha] at h
      simp [hb] at h
      rw [h, show b = 48 from UInt8.toNat_inj.1 (by rw [hb]; rfl)]
    · exact Or.inr ⟨b, t, rfl, hb, ha⟩
theorem dec_zero {l : List UInt8} (h : isDec l = true) (h0 : dv l = 0) : l = [48] := by
  rcases dec_cases h with h1 | ⟨b, t, rfl, hb, ha⟩
  · exact h1
  · have := dv_low ha hb
    have : 0 < 10 ^ t.length := Nat.pow_pos (by omega)
    omega
theorem dec_text {l : List UInt8} (h : isDec l = true) (h0 : 0 < dv l) : prS (gs (dv l)) = l := by
  rcases dec_cases h with rfl | ⟨b, t, rfl, hb, ha⟩
  · exact absurd h0 (by simp [dv])
  · obtain ⟨p1, p2, p3⟩ := pr_facts (dv (b :: t))
    obtain ⟨c, m, p4, p5⟩ := p3 h0
    rw [p4] at p1 p2 ⊢
    have a1 := dv_low ha hb
    have a2 := dv_lt ha
    have a3 := dv_low p2 p5
    have a4 := dv_lt p2
    rw [p1] at a3 a4
    rw [List.length_cons] at a2 a4
    have l1 : m.length < t.length + 1 := (Nat.pow_lt_pow_iff_right (by omega : 1 < 10)).1 (Nat.lt_of_le_of_lt a3 a2)
    have l2 : t.length < m.length + 1 := (Nat.pow_lt_pow_iff_right (by omega : 1 < 10)).1 (Nat.lt_of_le_of_lt a1 a4)
    exact dv_same (by rw [List.length_cons, List.length_cons]; omega) p2 ha p1
theorem cut_minus (l : List UInt8) : cutD (45 :: l) = l ∧ cutN (45 :: l) = true := ⟨rfl, rfl⟩
theorem cut_digit {b : UInt8} {l : List UInt8} (h : digB b = true) : cutD (b :: l) = b :: l ∧ cutN (b :: l) = false := by
  have hb : (45 == b) = false := by
    rw [beq_eq_false_iff_ne]; rintro rfl; simp [digB] at h
  have hN : cutN (b :: l) = false := by
    unfold cutN Lib.hasPrefix
    simp [List.isPrefixOf, hb]
  exact ⟨by unfold cutD Lib.trimPrefix; rw [if_neg (by show ¬ cutN (b :: l) = true; rw [hN]; simp)], hN⟩
theorem pz_minus {l : List UInt8} (h : isDec l = true) (h0 : l ≠ [48]) : pz (45 :: l) = some (-(dv l : Int)) := by
  unfold pz
  rw [(cut_minus l).1, (cut_minus l).2, if_neg (by simp [h, h0]), if_pos rfl]
theorem pz_plus {l : List UInt8} (h : isDec l = true) : pz l = some (dv l : Int) := by
  have ha := isDec_all h
  cases l with
  | nil => cases h
  | cons b t =>
    rw [List.all_cons, Bool.and_eq_true] at ha
    unfold pz
    rw [(cut_digit ha.1).1, (cut_digit ha.1).2, if_neg (by simp [h])]; simp
theorem prZ_neg {N : Nat} (h : 0 < N) : prZ (-(N : Int)) = 45 :: prS (gs N) := by
  unfold prZ sgnT sg
  rw [if_neg (by omega), if_pos (by simp; omega), Int.natAbs_neg, Int.natAbs_natCast]; rfl
theorem prZ_pos {N : Nat} (h : 0 < N) : prZ (N : Int) = prS (gs N) := by
  unfold prZ sgnT sg
  rw [if_neg (by omega), if_neg (by simp), Int.natAbs_natCast]; rfl
theorem int_cases (z : Int) : z = 0 ∨ (∃ N : Nat, 0 < N ∧ z = -(N : Int)) ∨ (∃ N : Nat, 0 < N ∧ z = (N : Int)) := by
  rcases Int.lt_trichotomy z 0 with h | h | h
  · exact Or.inr (Or.inl ⟨z.natAbs, by omega, by omega⟩)
  · exact Or.inl h
  · exact Or.inr (Or.inr ⟨z.natAbs, by omega, by omega⟩)
/-- What is printed is read. -/
theorem pz_print (z : Int) : pz (prZ z) = some z := by
  rcases int_cases z with rfl | ⟨N, h, rfl⟩ | ⟨N, h, rfl⟩
  · rfl
  · rw [prZ_neg h, pz_minus (isDec_pr h) (fun e => by have := (pr_facts N).1; rw [e] at this; simp [dv] at this; omega), (pr_facts N).1]
  · rw [prZ_pos h, pz_plus (isDec_pr h), (pr_facts N).1]
theorem isDec_snoc {l : List UInt8} (h : isDec l = true) (h0 : l ≠ [48]) : isDec (l ++ [48]) = true := by
  rcases dec_cases h with h1 | ⟨b, t, rfl, hb, ha⟩
  · exact absurd h1 h0
  · show isDec (b :: (t ++ [48])) = true
    rw [isDec_cons, show b :: (t ++ [48]) = (b :: t) ++ [48] from rfl, List.all_append, ha]
    simp [hb]; rfl
/-- A zero behind the digits: ten times the number; but 00 is no text. -/
theorem pz_ten (z : Int) : pz (prZ z ++ [48]) = if z = 0 then none else some (z * 10) := by
  rcases int_cases z with rfl | ⟨N, h, rfl⟩ | ⟨N, h, rfl⟩
  · rfl
  · have hne : prS (gs N) ≠ [48] := fun e => by have := (pr_facts N).1; rw [e] at this; simp [dv] at this; omega
    have h1 := isDec_snoc (isDec_pr h) hne
    rw [if_neg (by omega), prZ_neg h, List.cons_append, pz_minus h1 (fun e => by have := congrArg List.length e; have h2 := (pr_facts N).2.2 h; obtain ⟨b, t, e2, _⟩ := h2; rw [e2] at this; simp at this), dv_snoc, (pr_facts N).1]
    congr 1; simp; omega
  · have hne : prS (gs N) ≠ [48] := fun e => by have := (pr_facts N).1; rw [e] at this; simp [dv] at this; omega
    rw [if_neg (by omega), prZ_pos h, pz_plus (isDec_snoc (isDec_pr h) hne), dv_snoc, (pr_facts N).1]
    congr 1; simp; omega
/-- What is read is printed. -/
theorem print_pz {l : List UInt8} {z : Int} (h : pz l = some z) : prZ z = l := by
  unfold pz at h
  split at h
  · cases h
  · rename_i hn
    have hd : isDec (cutD l) = true := by
      cases e : isDec (cutD l) with
      | true => rfl
      | false => exact absurd (Or.inl e) hn
    have hz := Option.some.inj h
    by_cases hN : cutN l = true
    · rw [if_pos hN] at hz
      have hl : l = 45 :: cutD l := by
        cases l with
        | nil => simp [cutN, Lib.hasPrefix, List.isPrefixOf] at hN
        | cons b t =>
          have : (45 == b) = true := by simpa [cutN, Lib.hasPrefix, List.isPrefixOf] using hN
          obtain rfl : 45 = b := by simpa using this
          rfl
      have h48 : cutD l ≠ [48] := fun e => hn (Or.inr ⟨hN, e⟩)
      have hp : 0 < dv (cutD l) := Nat.pos_of_ne_zero fun e => h48 (dec_zero hd e)
      rw [← hz, prZ_neg hp, dec_text hd hp, ← hl]
    · rw [if_neg hN] at hz
      have hl : cutD l = l := by unfold cutD Lib.trimPrefix; exact if_neg hN
      rw [hl] at hd hz
      by_cases h0 : dv l = 0
      · rw [dec_zero hd h0, ← hz, h0]; rfl
      · rw [← hz, prZ_pos (by omega), dec_text hd (by omega)]
/-- A printed integer begins with a minus where it is below 0. -/
theorem prefix_pr (z : Int) : Lib.hasPrefix (prZ z) [45] = sg z := by
  rcases int_cases z with rfl | ⟨N, h, rfl⟩ | ⟨N, h, rfl⟩
  · rfl
  · rw [prZ_neg h]; unfold sg; simp [Lib.hasPrefix, List.isPrefixOf]; omega
  · obtain ⟨b, t, e, _⟩ := (pr_facts N).2.2 h
    have ha := (pr_facts N).2.1
    rw [prZ_pos h]
    rw [e, List.all_cons, Bool.and_eq_true] at ha
    rw [e]
    show cutN (b :: t) = _
    rw [(cut_digit ha.1).2]; unfold sg; simp
theorem prZ_len {z : Int} {k : Nat} (h : z.natAbs < 4294967296 ^ k) : (prZ z).length ≤ 18 * k + 2 := by
  have h1 := prS_len (gs_lt (N := z.natAbs))
  have h2 := gs_room h
  unfold prZ sgnT
  split
  · simp
  · rw [List.length_append]; split <;> simp <;> omega
end Go.Proofs.YtdbfghppjhmelaaDoor
