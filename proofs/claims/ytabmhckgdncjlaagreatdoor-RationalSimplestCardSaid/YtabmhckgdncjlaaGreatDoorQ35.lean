/- The decimal text of an integer and its digits: what Print writes, Parse reads; what Parse reads, Print writes. What rational.Print returns. Condition: the integers have at most 10^7 digits to the base 2^32. What rational.Parse returns. Condition: the text has at most 65536 bytes; the block 0 holds an integer (what strings.Cut asks). -/
import Derived.Test.YtabmhckgdncjlaaGreatDoorQ34
import Derived.Test.YtabmhckgdncjlaaGreatDoorQ13
import Derived.Test.YtabmhckgdncjlaaGreatDoorQ31
import Derived.Test.YtabmhckgdncjlaaGreatDoorQ03

namespace Go.Proofs.YtabmhckgdncjlaaGreatDoor
open Go.RowKit

theorem isDec_cons (b : UInt8) (t : List UInt8) : isDec (b :: t) = (!(decide (t ≠ []) && decide (b.toNat = 48)) && (b :: t).all digB) := rfl
theorem dig_of {c : Nat} (h : c < 10) : (UInt8.ofNat (48 + c)).toNat = 48 + c := by
  rw [UInt8.toNat_ofNat']; omega
theorem dec_facts (u : Nat) : dv (Lib.decDigits u) = u ∧ (Lib.decDigits u).all digB = true ∧ (0 < u → ∃ b t, Lib.decDigits u = b :: t ∧ b.toNat ≠ 48) := by
  induction u using Nat.strongRecOn with
  | _ u ih =>
    by_cases h : u < 10
    · rw [Lib.decDigits_one h]
      refine ⟨by simp [dv]; omega, by simp [digB]; omega, fun h0 => ⟨_, [], rfl, by rw [dig_of h]; omega⟩⟩
    · rw [Lib.decDigits, dif_neg h]
      obtain ⟨h1, h2, h3⟩ := ih (u / 10) (by omega)
      have hm : u % 10 < 10 := Nat.mod_lt _ (by omega)
      obtain ⟨b, t, h4, h5⟩ := h3 (by omega)
      refine ⟨?_, ?_, fun _ => ⟨b, t ++ [UInt8.ofNat (48 + u % 10)], by rw [h4]; rfl, h5⟩⟩
      · rw [dv_snoc, h1, dig_of hm]; omega
      · rw [List.all_append, h2]; simp [digB]; omega
theorem rep_facts (n : Nat) : dv (Lib.repeatL [48] n) = 0 ∧ (Lib.repeatL [48] n).all digB = true := by
  induction n with
  | zero => exact ⟨rfl, rfl⟩
  | succ n ih =>
    have e : Lib.repeatL [48] (n + 1) = (48 : UInt8) :: Lib.repeatL [48] n := rfl
    rw [e]
    exact ⟨by rw [dv_cons, ih.1]; simp, by rw [List.all_cons, ih.2]; rfl⟩
theorem pad_facts (d : Nat) : dv (pad9 d) = d ∧ (pad9 d).all digB = true := by
  unfold pad9
  refine ⟨by rw [dv_append, (rep_facts _).1, (dec_facts d).1]; simp, by rw [List.all_append, (rep_facts _).2, (dec_facts d).2.1]; rfl⟩
theorem pr_facts (N : Nat) : dv (prS (gs N)) = N ∧ (prS (gs N)).all digB = true ∧ (0 < N → ∃ b t, prS (gs N) = b :: t ∧ b.toNat ≠ 48) := by
  induction N using Nat.strongRecOn with
  | _ N ih =>
    by_cases h0 : N = 0
    · subst h0; rw [gs_zero]; exact ⟨rfl, rfl, fun h => absurd h (by omega)⟩
    · have hr := Nat.mod_lt N (show 1000000000 > 0 by omega)
      obtain ⟨h1, h2, h3⟩ := ih (N / 1000000000) (Nat.div_lt_self (by omega) (by omega))
      rw [gs_pos h0, prS]
      by_cases hq : N / 1000000000 = 0
      · rw [hq, gs_zero, if_pos rfl]
        have hN : N % 1000000000 = N := by omega
        rw [hN]
        exact dec_facts N |>.imp_right (fun h => h) |> fun h => by simpa [prS] using h
      · have hg : gs (N / 1000000000) ≠ [] := by rw [gs_pos hq]; simp
        rw [if_neg hg]
        obtain ⟨b, t, h4, h5⟩ := h3 (by omega)
        refine ⟨?_, ?_, fun _ => ⟨b, t ++ pad9 (N % 1000000000), by rw [h4]; rfl, h5⟩⟩
        · rw [dv_append, h1, (pad_facts _).1, pad9_len hr]; omega
        · rw [List.all_append, h2, (pad_facts _).2]; rfl
theorem isDec_pr {N : Nat} (h : 0 < N) : isDec (prS (gs N)) = true := by
  obtain ⟨_, h2, h3⟩ := pr_facts N
  obtain ⟨b, t, h4, h5⟩ := h3 h
  rw [h4] at h2 ⊢
  rw [isDec_cons, h2]; simp [h5]
theorem dv_same : ∀ {l m : List UInt8}, l.length = m.length → l.all digB = true → m.all digB = true → dv l = dv m → l = m
  | [], [], _, _, _, _ => rfl
  | b :: l, c :: m, hl, h1, h2, h => by
    rw [List.all_cons, Bool.and_eq_true] at h1 h2
    have e : l.length = m.length := by simpa using hl
    have a1 := dv_lt h1.2
    have a2 := dv_lt h2.2
    rw [dv_cons, dv_cons, e] at h
    rw [e] at a1
    have b1 := h1.1
    have b2 := h2.1
    simp [digB] at b1 b2
    have hp : 0 < 10 ^ m.length := Nat.pow_pos (by omega)
    have q1 : ((b.toNat - 48) * 10 ^ m.length + dv l) / 10 ^ m.length = b.toNat - 48 := by
      rw [Nat.mul_comm, Nat.mul_add_div hp, Nat.div_eq_of_lt a1, Nat.add_zero]
    have q2 : ((c.toNat - 48) * 10 ^ m.length + dv m) / 10 ^ m.length = c.toNat - 48 := by
      rw [Nat.mul_comm, Nat.mul_add_div hp, Nat.div_eq_of_lt a2, Nat.add_zero]
    have q3 : b.toNat - 48 = c.toNat - 48 := by rw [← q1, ← q2, h]
    have q4 : dv l = dv m := by rw [q3] at h; omega
    have q5 : b = c := UInt8.toNat_inj.1 (by omega)
    rw [q5, dv_same e h1.2 h2.2 q4]
theorem dv_low {b : UInt8} {t : List UInt8} (h : (b :: t).all digB = true) (hb : b.toNat ≠ 48) : 10 ^ t.length ≤ dv (b :: t) := by
  rw [List.all_cons, Bool.and_eq_true] at h
  have b1 := h.1
  simp [digB] at b1
  have := Nat.mul_le_mul_right (10 ^ t.length) (show 1 ≤ b.toNat - 48 by omega)
  rw [dv_cons]; omega
theorem dec_cases {l : List UInt8} (h : isDec l = true) : l = [48] ∨ ∃ b t, l = b :: t ∧ b.toNat ≠ 48 ∧ l.all digB = true := by
  have ha := isDec_all h
  cases l with
  | nil => cases h
  | cons b t =>
    by_cases hb : b.toNat = 48
    · refine Or.inl ?_
      rw [isDec_cons, ha] at h
      simp [hb] at h
      rw [h, show b = 48 from UInt8.toNat_inj.1 (by rw [hb]; rfl)]
    · exact Or.inr ⟨b, t, rfl, hb, ha⟩
theorem dec_zero {l : List UInt8} (h : isDec l = true) (h0 : dv l = 0) : l = [48] := by
  rcases dec_cases h with h1 | ⟨b, t, rfl, hb, ha⟩
  · exact h1
  · have := dv_low ha hb
    have : 0 < 10 ^ t.length := Nat.pow_pos (by omega)
    omega
theorem dec_text {l : List UInt8} (h : isDec l = true) (h0 : 0 < dv l) : prS (gs (dv l)) = l := by
  rcases dec_cases h with rfl | ⟨b, t, rfl, hb, ha⟩
  · exact absurd h0 (by simp [dv])
  · obtain ⟨p1, p2, p3⟩ := pr_facts (dv (b :: t))
    obtain ⟨c, m, p4, p5⟩ := p3 h0
    rw [p4] at p1 p2 ⊢
    have a1 := dv_low ha hb
    have a2 := dv_lt ha
    have a3 := dv_low p2 p5
    have a4 := dv_lt p2
    rw [p1] at a3 a4
    rw [List.length_cons] at a2 a4
    have l1 : m.length < t.length + 1 := (Nat.pow_lt_pow_iff_right (by omega : 1 < 10)).1 (Nat.lt_of_le_of_lt a3 a2)
    have l2 : t.length < m.length + 1 := (Nat.pow_lt_pow_iff_right (by omega : 1 < 10)).1 (Nat.lt_of_le_of_lt a1 a4)
    exact dv_same (by rw [List.length_cons, List.length_cons]; omega) p2 ha p1
theorem cut_minus (l : List UInt8) : cutD (45 :: l) = l ∧ cutN (45 :: l) = true := ⟨rfl, rfl⟩
theorem cut_digit {b : UInt8} {l : List UInt8} (h : digB b = true) : cutD (b :: l) = b :: l ∧ cutN (b :: l) = false := by
  have hb : (45 == b) = false := by
    rw [beq_eq_false_iff_ne]; rintro rfl; simp [digB] at h
  have hN : cutN (b :: l) = false := by
    unfold cutN Lib.hasPrefix
    simp [List.isPrefixOf, hb]
  exact ⟨by unfold cutD Lib.trimPrefix; rw [if_neg (by show ¬ cutN (b :: l) = true; rw [hN]; simp)], hN⟩
theorem pz_minus {l : List UInt8} (h : isDec l = true) (h0 : l ≠ [48]) : pz (45 :: l) = some (-(dv l : Int)) := by
  unfold pz
  rw [(cut_minus l).1, (cut_minus l).2, if_neg (by simp [h, h0]), if_pos rfl]
theorem pz_plus {l : List UInt8} (h : isDec l = true) : pz l = some (dv l : Int) := by
  have ha := isDec_all h
  cases l with
  | nil => cases h
  | cons b t =>
    rw [List.all_cons, Bool.and_eq_true] at ha
    unfold pz
    rw [(cut_digit ha.1).1, (cut_digit ha.1).2, if_neg (by simp [h])]; simp
theorem prZ_neg {N : Nat} (h : 0 < N) : prZ (-(N : Int)) = 45 :: prS (gs N) := by
  unfold prZ sgnT sg
  rw [if_neg (by omega), if_pos (by simp; omega), Int.natAbs_neg, Int.natAbs_natCast]; rfl
theorem prZ_pos {N : Nat} (h : 0 < N) : prZ (N : Int) = prS (gs N) := by
  unfold prZ sgnT sg
  rw [if_neg (by omega), if_neg (by simp), Int.natAbs_natCast]; rfl
theorem int_cases (z : Int) : z = 0 ∨ (∃ N : Nat, 0 < N ∧ z = -(N : Int)) ∨ (∃ N : Nat, 0 < N ∧ z = (N : Int)) := by
  rcases Int.lt_trichotomy z 0 with h | h | h
  · exact Or.inr (Or.inl ⟨z.natAbs, by omega, by omega⟩)
  · exact Or.inl h
  · exact Or.inr (Or.inr ⟨z.natAbs, by omega, by omega⟩)
/-- What is printed is read. -/
theorem pz_print (z : Int) : pz (prZ z) = some z := by
  rcases int_cases z with rfl | ⟨N, h, rfl⟩ | ⟨N, h, rfl⟩
  · rfl
  · rw [prZ_neg h, pz_minus (isDec_pr h) (fun e => by have := (pr_facts N).1; rw [e] at this; simp [dv] at this; omega), (pr_facts N).1]
  · rw [prZ_pos h, pz_plus (isDec_pr h), (pr_facts N).1]
theorem isDec_snoc {l : List UInt8} (h : isDec l = true) (h0 : l ≠ [48]) : isDec (l ++ [48]) = true := by
  rcases dec_cases h with h1 | ⟨b, t, rfl, hb, ha⟩
  · exact absurd h1 h0
  · show isDec (b :: (t ++ [48])) = true
    rw [isDec_cons, show b :: (t ++ [48]) = (b :: t) ++ [48] from rfl, List.all_append, ha]
    simp [hb]; rfl
/-- A zero behind the digits: ten times the number; but 00 is no text. -/
theorem pz_ten (z : Int) : pz (prZ z ++ [48]) = if z = 0 then none else some (z * 10) := by
  rcases int_cases z with rfl | ⟨N, h, rfl⟩ | ⟨N, h, rfl⟩
  · rfl
  · have hne : prS (gs N) ≠ [48] := fun e => by have := (pr_facts N).1; rw [e] at this; simp [dv] at this; omega
    have h1 := isDec_snoc (isDec_pr h) hne
    rw [if_neg (by omega), prZ_neg h, List.cons_append, pz_minus h1 (fun e => by have := congrArg List.length e; have h2 := (pr_facts N).2.2 h; obtain ⟨b, t, e2, _⟩ := h2; rw [e2] at this; simp at this), dv_snoc, (pr_facts N).1]
    congr 1; simp; omega
  · have hne : prS (gs N) ≠ [48] := fun e => by have := (pr_facts N).1; rw [e] at this; simp [dv] at this; omega
    rw [if_neg (by omega), prZ_pos h, pz_plus (isDec_snoc (isDec_pr h) hne), dv_snoc, (pr_facts N).1]
    congr 1; simp; omega
/-- What is read is printed. -/
theorem print_pz {l : List UInt8} {z : Int} (h : pz l = some z) : prZ z = l := by
  unfold pz at h
  split at h
  · cases h
  · rename_i hn
    have hd : isDec (cutD l) = true := by
      cases e : isDec (cutD l) with
      | true => rfl
      | false => exact absurd (Or.inl e) hn
    have hz := Option.some.inj h
    by_cases hN : cutN l = true
    · rw [if_pos hN] at hz
      have hl : l = 45 :: cutD l := by
        cases l with
        | nil => simp [cutN, Lib.hasPrefix, List.isPrefixOf] at hN
        | cons b t =>
          have : (45 == b) = true := by simpa [cutN, Lib.hasPrefix, List.isPrefixOf] using hN
          obtain rfl : 45 = b := by simpa using this
          rfl
      have h48 : cutD l ≠ [48] := fun e => hn (Or.inr ⟨hN, e⟩)
      have hp : 0 < dv (cutD l) := Nat.pos_of_ne_zero fun e => h48 (dec_zero hd e)
      rw [← hz, prZ_neg hp, dec_text hd hp, ← hl]
    · rw [if_neg hN] at hz
      have hl : cutD l = l := by unfold cutD Lib.trimPrefix; exact if_neg hN
      rw [hl] at hd hz
      by_cases h0 : dv l = 0
      · rw [dec_zero hd h0, ← hz, h0]; rfl
      · rw [← hz, prZ_pos (by omega), dec_text hd (by omega)]
/-- A printed integer begins with a minus where it is below 0. -/
theorem prefix_pr (z : Int) : Lib.hasPrefix (prZ z) [45] = sg z := by
  rcases int_cases z with rfl | ⟨N, h, rfl⟩ | ⟨N, h, rfl⟩
  · rfl
  · rw [prZ_neg h]; unfold sg; simp [Lib.hasPrefix, List.isPrefixOf]; omega
  · obtain ⟨b, t, e, _⟩ := (pr_facts N).2.2 h
    have ha := (pr_facts N).2.1
    rw [prZ_pos h]
    rw [e, List.all_cons, Bool.and_eq_true] at ha
    rw [e]
    show cutN (b :: t) = _
    rw [(cut_digit ha.1).2]; unfold sg; simp
theorem prZ_len {z : Int} {k : Nat} (h : z.natAbs < 4294967296 ^ k) : (prZ z).length ≤ 18 * k + 2 := by
  have h1 := prS_len (gs_lt (N := z.natAbs))
  have h2 := gs_room h
  unfold prZ sgnT
  split
  · simp
  · rw [List.length_append]; split <;> simp <;> omega
end Go.Proofs.YtabmhckgdncjlaaGreatDoor

namespace Go.Proofs.YtabmhckgdncjlaaGreatDoor
open Go.RowKit
set_option linter.unusedSimpArgs false
attribute [local go_sem ↓] eqlInt guardInt2

/-- The text of a number. -/
def prQ (q : Rat) : List UInt8 := if q.den = 1 then prZ q.num else prZ q.num ++ 47 :: prZ (q.den : Int)
theorem same_one (d : Int) : (sg d == sg 1 && (mg d).toList == (mg 1).toList) = decide (d = 1) := by
  rcases Bool.eq_false_or_eq_true (sg d == sg 1 && (mg d).toList == (mg 1).toList) with h | h
  · rw [h]
    rw [Bool.and_eq_true, beq_iff_eq, beq_iff_eq] at h
    exact (decide_eq_true (mg_inj h.1 h.2)).symm
  · rw [h]
    symm
    refine decide_eq_false fun e => ?_
    rw [e] at h
    simp at h
theorem cat3 (a b : List UInt8) : (ByteArray.mk a.toArray ++ ByteArray.mk #[47]) ++ ByteArray.mk b.toArray = ByteArray.mk (a ++ 47 :: b).toArray := by
  apply ByteArray.ext
  simp
set_option maxRecDepth 100000 in
theorem rprint_any (v : Value) (q : Rat) (T : List UInt8) (k : Nat) (w : World) (h : IsRat v q k) (hk : k ≤ 9000000) (htab : Lib.TabIs Tryz.prog w "internal/strconv.uint64pow10" .u64 Lib.pow10Tab) (e : prQ q = T) :
    Calls Tryz.prog 27 #[v] w fun e w' => e = .returned (.string ⟨T.toArray⟩) ∧ Below w.heap.size w w' := by
  have H1 := Lib.hid h
  have Ht := Lib.hid htab
  have He := Lib.hid e
  have Hb := Lib.hid (show RatBd q (k + 1) by
    obtain ⟨_, _, _, _, n, d, _, h2, h3, rfl⟩ := h
    exact ratBd_divInt h2.bd h3.bd)
  clear htab e
  obtain ⟨na, sa, nb, sb, -, -, rfl, -⟩ := h
  have In := Lib.hid (show IsInt (.agg #[.bool (sg q.num), .string (mg q.num)]) q.num (k + 1) from isInt_mg Hb.out.1 (by omega))
  have Id := Lib.hid (show IsInt (.agg #[.bool (sg (q.den : Int)), .string (mg (q.den : Int))]) (q.den : Int) (k + 1) from isInt_mg (show (q.den : Int).natAbs < _ by rw [Int.natAbs_natCast]; exact Hb.out.2) (by omega))
  have B0 := below1 w (.cells #[.bool na, .string sa, .bool nb, .string sb] 25)
  obtain ⟨T1, E1⟩ : ∃ T1, Hid (prZ q.num = T1) := ⟨_, Lib.hid rfl⟩
  obtain ⟨T2, E2⟩ : ∃ T2, Hid (prZ (q.den : Int) = T2) := ⟨_, Lib.hid rfl⟩
  have P1 : T1.length ≤ 200000000 := by have := prZ_len In.out.bd; rw [E1.out] at this; omega
  have P2 : T2.length ≤ 200000000 := by have := prZ_len Id.out.bd; rw [E2.out] at this; omega
  have HT1 := Lib.hid (show q.den = 1 → T1 = T by intro h; rw [← E1.out, ← He.out]; unfold prQ; rw [if_pos h])
  have HT2 := Lib.hid (show ¬ q.den = 1 → T1 ++ 47 :: T2 = T by intro h; rw [← E1.out, ← E2.out, ← He.out]; unfold prQ; rw [if_neg h])
  obtain ⟨d, Ed⟩ : ∃ d, Hid ((q.den : Int) = d) := ⟨_, Lib.hid rfl⟩
  obtain ⟨c, Ec⟩ : ∃ c, Hid (decide (d = 1) = c) := ⟨_, Lib.hid rfl⟩
  have Hs := Lib.hid (same_one d)
  have Hd1 := Lib.hid (show q.den = 1 ↔ d = 1 by rw [← Ed.out]; omega)
  go_enter Tryz.func27, Tryz.ntmps27
  go_wp2_with fail
  refine (rcanon_any _ q k _ H1.out).mono ?_
  rintro e W1 ⟨rfl, b1⟩
  have hbl := below1 W1 (.cells #[.bool (sg q.num), .string (mg q.num), .bool (sg (q.den : Int)), .string (mg (q.den : Int))] 25)
  have S1 : RIn (W1.alloc (.cells #[.bool (sg q.num), .string (mg q.num), .bool (sg (q.den : Int)), .string (mg (q.den : Int))] 25)) W1.heap.size (sg q.num) (mg q.num) (sg (q.den : Int)) (mg (q.den : Int)) := RIn.new rfl
  have B1 := below_more (below_more B0 (Nat.le_refl _) b1) (Nat.le_refl _) hbl
  clear B0 b1 hbl
  unfold ratV
  rw [Ed.out] at Id E2
  go_upto_region 2 with fail
  generalize W1.alloc (.cells #[.bool (sg q.num), .string (mg q.num), .bool (sg (q.den : Int)), .string (mg (q.den : Int))] 25) = W2 at *
  rw [Ed.out] at S1
  rw [Ed.out]
  generalize W1.heap.size = p3 at *
  obtain ⟨t1, t2, t3, t4⟩ := id S1
  go_wp2_with fail
  refine (print_is In.out (tab_keep Ht.out B1) E1.out).mono ?_
  rintro e W3 ⟨rfl, b3⟩
  have S2 := S1.keep b3
  have B2 := below_more B1 (Nat.le_refl _) b3
  clear S1 B1 b3 t1 t2 t3 t4
  go_upto_region 3 with fail
  have S3 : RIn W3.drew p3 (sg q.num) (mg q.num) (sg d) (mg d) := S2
  go_region_held3 (fun W => W.cell? ⟨p3, 0, none⟩ = some (.bool (sg q.num)) ∧ W.cell? ⟨p3, 1, none⟩ = some (.string (mg q.num)) ∧ W.cell? ⟨p3, 2, none⟩ = some (.bool (sg d)) ∧ W.cell? ⟨p3, 3, none⟩ = some (.string (mg d))) (first | exact S2 | exact S3 | exact RIn.keep S3 (by assumption) | go_keep)
    (first
      | (go_at_call 24; refine (iof_any 1 _ (by omega) (by omega)).mono ?_; rintro e W4 ⟨rfl, b4⟩; have S4 := S3.keep b4; have B4 := below_more B2.drew (Nat.le_refl _) b4))
  all_goals
    rw [Hs.out, Ec.out]
    cases c
    · obtain ⟨t1, t2, t3, t4⟩ := id S4
      go_wp2_with fail
      refine (print_is Id.out (tab_keep Ht.out B4) E2.out).mono ?_
      rintro e W5 ⟨rfl, b5⟩
      have hT := HT2.out (fun h => of_decide_eq_false Ec.out (Hd1.out.1 h))
      have hc := cat3 T1 T2
      rw [hT] at hc
      go_wp2_with fail
      go_ret
      exact ⟨rfl, below_more B4 (Nat.le_refl _) b5⟩
    · have hT := HT1.out (Hd1.out.2 (of_decide_eq_true Ec.out))
      go_wp2
      go_ret
      exact ⟨by subst hT; rfl, B4⟩
end Go.Proofs.YtabmhckgdncjlaaGreatDoor

namespace Go.Proofs.YtabmhckgdncjlaaGreatDoor
open Go.RowKit
set_option linter.unusedSimpArgs false
attribute [local go_sem ↓] eqlInt guardInt2

/-- The number with a text. -/
def pq (l : List UInt8) : Option Rat :=
  match pz (Lib.cut l [47]).1 with
  | none => none
  | some n => if (Lib.cut l [47]).2.2 = false then some (n : Rat) else
    match pz (Lib.cut l [47]).2.1 with
    | none => none
    | some d => if d = 1 ∨ ¬ (n = (Rat.divInt n d).num ∧ d = ((Rat.divInt n d).den : Int)) then none else some (Rat.divInt n d)
def ParseRat (w : World) (r : Option Rat) (e : Ending) (w' : World) : Prop :=
  match r with
  | some q => RatGood w q e w'
  | none => RatFail w 3 e w'
/-- What strings.Cut asks of memory. -/
def Zero0 (w : World) : Prop := ∃ m, w.cell? ⟨0, 0, none⟩ = some (.int .i64 m)
theorem Zero0.keep {w w' : World} (h : Zero0 w) (hb : Below w.heap.size w w') : Zero0 w' := by
  obtain ⟨m, h⟩ := h
  exact ⟨m, cell_keep h hb⟩
theorem cut_slash (l : List UInt8) (w : World) (h0 : Zero0 w) (hl : l.length ≤ 65536) {a b : List UInt8} {c : Bool} (e : Lib.cut l [47] = (a, b, c)) :
    Calls Tryz.prog 52 #[.string ⟨l.toArray⟩, .string ⟨#[47]⟩] w fun e w' => e = .returned (.tuple #[.string ⟨a.toArray⟩, .string ⟨b.toArray⟩, .bool c]) ∧ Below w.heap.size w w' := by
  obtain ⟨m, h0⟩ := h0
  have h := Tryz.strings_Cut ⟨l.toArray⟩ ⟨#[47]⟩ m w (by simp [ByteArray.size]; omega) h0
  refine h.mono ?_
  rintro e' w' ⟨rfl, n, rfl⟩
  have e9 : Lib.cut (ByteArray.mk l.toArray).data.toList (ByteArray.mk #[47]).data.toList = (a, b, c) := e
  rw [e9]
  refine ⟨rfl, ?_⟩
  clear h h0 e9
  induction n with
  | zero => exact Below.refl _ _
  | succ n ih => exact ih.drew
theorem cut_len {l a b : List UInt8} {c : Bool} (e : Lib.cut l [47] = (a, b, c)) : a.length ≤ l.length ∧ b.length ≤ l.length := by
  unfold Lib.cut at e
  split at e <;> (injection e with e1 e2; injection e2 with e2 e3; subst e1 e2)
  · exact ⟨by rw [List.length_take]; omega, by rw [List.length_drop]; omega⟩
  · exact ⟨Nat.le_refl _, by simp⟩
theorem ip_some {l : List UInt8} {z : Int} {w : World} (hl : l.length ≤ 65536) (h : pz l = some z) : Calls Tryz.prog 53 #[.string ⟨l.toArray⟩] w (GoodOut w z) := by
  have := parse_any l w hl
  rw [h] at this
  exact this
theorem ip_none {l : List UInt8} {w : World} (hl : l.length ≤ 65536) (h : pz l = none) : Calls Tryz.prog 53 #[.string ⟨l.toArray⟩] w (FailOut w 3) := by
  have := parse_any l w hl
  rw [h] at this
  exact this
theorem pz_bd {l : List UInt8} {z : Int} {k : Nat} (h : pz l = some z) (hl : l.length ≤ k) : z.natAbs < 4294967296 ^ k := by
  unfold pz at h
  split at h
  · cases h
  · rename_i hn
    have hd : isDec (cutD l) = true := by
      cases e : isDec (cutD l) with
      | true => rfl
      | false => exact absurd (Or.inl e) hn
    injection h with hz
    have h1 := dv_big (isDec_all hd)
    have h2 := cutD_len l
    have h3 : z.natAbs = dv (cutD l) := by rw [← hz]; split <;> simp
    rw [h3]
    exact Nat.lt_of_lt_of_le h1 (Nat.pow_le_pow_right (by omega) (by omega))

theorem check_ok (na nb : Bool) (sa sb : ByteArray) (q : Rat) (k : Nat) (w : World) (h1 : IsRat (.agg #[.bool na, .string sa, .bool nb, .string sb]) q k) (hc : sameR na sa nb sb (sg q.num) (mg q.num) (sg (q.den : Int)) (mg (q.den : Int)) = true) :
    Calls Tryz.prog 22 #[.agg #[.bool na, .string sa, .bool nb, .string sb]] w fun e w' => e = .returned (.int .i64 0) ∧ Below w.heap.size w w' := rcheck_any na nb sa sb q true k w h1 hc
theorem check_no (na nb : Bool) (sa sb : ByteArray) (q : Rat) (k : Nat) (w : World) (h1 : IsRat (.agg #[.bool na, .string sa, .bool nb, .string sb]) q k) (hc : sameR na sa nb sb (sg q.num) (mg q.num) (sg (q.den : Int)) (mg (q.den : Int)) = false) :
    Calls Tryz.prog 22 #[.agg #[.bool na, .string sa, .bool nb, .string sb]] w fun e w' => e = .returned (.int .i64 1) ∧ Below w.heap.size w w' := rcheck_any na nb sa sb q false k w h1 hc
theorem sameR_iff (n d : Int) (q : Rat) : sameR (sg n) (mg n) (sg d) (mg d) (sg q.num) (mg q.num) (sg (q.den : Int)) (mg (q.den : Int)) = true ↔ n = q.num ∧ d = (q.den : Int) := by
  unfold sameR
  rw [Bool.and_eq_true, Bool.and_eq_true, Bool.and_eq_true, beq_iff_eq, beq_iff_eq, beq_iff_eq, beq_iff_eq]
  constructor
  · rintro ⟨⟨h1, h2⟩, h3, h4⟩
    exact ⟨mg_inj h1 h2, mg_inj h3 h4⟩
  · rintro ⟨h1, h2⟩
    rw [← h1, ← h2]
    exact ⟨⟨rfl, rfl⟩, rfl, rfl⟩

set_option maxRecDepth 100000 in
set_option maxHeartbeats 3200000 in
theorem rparse_any (l : List UInt8) (w : World) (hl : l.length ≤ 65536) (h0 : Zero0 w) : Calls Tryz.prog 29 #[.string ⟨l.toArray⟩] w (ParseRat w (pq l)) := by
  obtain ⟨K, hK1, hK2⟩ : ∃ K : Nat, 65536 ≤ K ∧ K ≤ 70000 := ⟨65536, by omega, by omega⟩
  obtain ⟨a, b, c, ec⟩ : ∃ a b c, Lib.cut l [47] = (a, b, c) := ⟨_, _, _, rfl⟩
  have Hc := Lib.hid ec
  obtain ⟨la, lb⟩ := cut_len ec
  have Hpq := Lib.hid (show pq l = match pz a with
    | none => none
    | some n => if c = false then some (n : Rat) else
      match pz b with
      | none => none
      | some d => if d = 1 ∨ ¬ (n = (Rat.divInt n d).num ∧ d = ((Rat.divInt n d).den : Int)) then none else some (Rat.divInt n d) by unfold pq; rw [ec])
  clear ec
  have H0 := Lib.hid h0
  clear h0
  have hll : (⟨l.toArray⟩ : ByteArray).size = l.length := by simp [ByteArray.size]
  have P0 := ResRat.new w
  have B0 := below1 w (.cells #[.bool false, .string ⟨#[]⟩, .bool false, .string ⟨#[]⟩] 25)
  go_enter Tryz.func29, Tryz.ntmps29
  go_wp2_with fail
  refine (cut_slash l _ (H0.out.keep B0) hl Hc.out).mono ?_
  rintro e W1 ⟨rfl, b1⟩
  have P1 := P0.keep b1
  have B1 := below_more B0 (Nat.le_refl _) b1
  clear P0 B0 b1
  cases ha : pz a with
  | none =>
    have Ha := Lib.hid ha
    rw [ha] at Hpq
    clear ha
    go_wp2_with fail
    refine (ip_none (by omega) Ha.out).mono ?_
    rintro e W2 ⟨rfl, b2⟩
    have hbl := below1 W2 (.cells #[.bool false, .string ⟨#[]⟩] 23)
    have P2 := (P1.keep b2).keep hbl
    have B2 := below_more (below_more B1 (Nat.le_refl _) b2) (Nat.le_refl _) hbl
    clear P1 B1 hbl b2
    go_upto_region 5 with fail
    generalize W2.alloc (.cells #[.bool false, .string ⟨#[]⟩] 23) = W3 at *
    generalize W2.heap.size = p7 at *
    obtain ⟨⟨r1, r2, r3, r4⟩, r5, r6, r7, r8⟩ := P2
    go_wp2
    exact bodyPost_ret (v := .tuple #[.agg #[.bool false, .string ⟨#[]⟩, .bool false, .string ⟨#[]⟩], .int .i64 3]) (by simp [results, Tryz.results29, go_sem, r1, r2, r3, r4]) rfl (by rw [Hpq.out]; exact ⟨rfl, below4s B2 _ (by omega) _ _ _ _⟩)
  | some n =>
    have Ha := Lib.hid ha
    rw [ha] at Hpq
    have In := Lib.hid (isInt_mg (k := K) (pz_bd ha (by omega)) (by omega))
    clear ha
    go_wp2_with fail
    refine (ip_some (by omega) Ha.out).mono ?_
    rintro e W2 ⟨rfl, b2⟩
    have hbl := below1 W2 (.cells #[.bool (sg n), .string (mg n)] 23)
    have P2 := (P1.keep b2).keep hbl
    have B2 := below_more (below_more B1 (Nat.le_refl _) b2) (Nat.le_refl _) hbl
    have I2 : IC (W2.alloc (.cells #[.bool (sg n), .string (mg n)] 23)) W2.heap.size n := by constructor <;> simp [go_sem]
    clear P1 B1 hbl b2
    go_upto_region 5 with fail
    generalize W2.alloc (.cells #[.bool (sg n), .string (mg n)] 23) = W3 at *
    generalize W2.heap.size = p7 at *
    cases c with
    | false =>
      obtain ⟨y1, y2⟩ := id I2
      go_wp2_with fail
      refine (rof_any _ n K _ In.out).mono ?_
      rintro e W4 ⟨rfl, b4⟩
      obtain ⟨⟨r1, r2, r3, r4⟩, r5, r6, r7, r8⟩ := P2.keep b4
      unfold ratV
      go_wp2
      exact bodyPost_ret (v := .tuple #[ratV (n : Rat), .int .i64 0]) (by simp [results, Tryz.results29, go_sem, r1, r2, r3, r4, ratV]) rfl (by rw [Hpq.out]; exact ⟨rfl, below4s (below_more B2 (Nat.le_refl _) b4) _ (by omega) _ _ _ _⟩)
    | true =>
      cases hb : pz b with
      | none =>
        have Hb := Lib.hid hb
        rw [hb] at Hpq
        clear hb
        obtain ⟨y1, y2⟩ := id I2
        go_wp2_with fail
        refine (ip_none (by omega) Hb.out).mono ?_
        rintro e W4 ⟨rfl, b4⟩
        have hbl := below1 W4 (.cells #[.bool false, .string ⟨#[]⟩] 23)
        have P3 := (P2.keep b4).keep hbl
        have I3 := (I2.keep b4).keep hbl
        have B3 := below_more (below_more B2 (Nat.le_refl _) b4) (Nat.le_refl _) hbl
        have J3 : IC (W4.alloc (.cells #[.bool false, .string ⟨#[]⟩] 23)) W4.heap.size 0 := by constructor <;> simp [go_sem, sg_zero, mg_zero]
        clear P2 B2 hbl b4 I2 y1 y2
        go_upto_region 10 with fail
        generalize W4.alloc (.cells #[.bool false, .string ⟨#[]⟩] 23) = W5 at *
        generalize W4.heap.size = p9 at *
        obtain ⟨y1, y2⟩ := id I3
        obtain ⟨y3, y4⟩ := id J3
        go_upto_region 11 with fail
        have hbl := below1 W5 (.cells #[.bool (sg n), .string (mg n), .bool (sg 0), .string (mg 0)] 25)
        have B4 := below_more B3 (Nat.le_refl _) hbl
        have P4 := P3.keep hbl
        clear P3 B3 hbl y1 y2 y3 y4 I3 J3
        generalize W5.alloc (.cells #[.bool (sg n), .string (mg n), .bool (sg 0), .string (mg 0)] 25) = W6 at *
        generalize W5.heap.size = p10 at *
        go_big_region
        obtain ⟨⟨r1, r2, r3, r4⟩, r5, r6, r7, r8⟩ := P4.drew
        have B5 := B4.drew
        clear P4 B4
        generalize W6.drew = W7 at *
        go_wp2
        exact bodyPost_ret (v := .tuple #[.agg #[.bool false, .string ⟨#[]⟩, .bool false, .string ⟨#[]⟩], .int .i64 3]) (by simp [results, Tryz.results29, go_sem, r1, r2, r3, r4]) rfl (by rw [Hpq.out]; exact ⟨rfl, below4s B5 _ (by omega) _ _ _ _⟩)
      | some d =>
        have Hb := Lib.hid hb
        rw [hb] at Hpq
        have Id := Lib.hid (isInt_mg (k := K) (pz_bd hb (by omega)) (by omega))
        clear hb
        obtain ⟨y1, y2⟩ := id I2
        go_wp2_with fail
        refine (ip_some (by omega) Hb.out).mono ?_
        rintro e W4 ⟨rfl, b4⟩
        have hbl := below1 W4 (.cells #[.bool (sg d), .string (mg d)] 23)
        have P3 := (P2.keep b4).keep hbl
        have I3 := (I2.keep b4).keep hbl
        have B3 := below_more (below_more B2 (Nat.le_refl _) b4) (Nat.le_refl _) hbl
        have J3 : IC (W4.alloc (.cells #[.bool (sg d), .string (mg d)] 23)) W4.heap.size d := by constructor <;> simp [go_sem]
        clear P2 B2 hbl b4 I2 y1 y2
        go_upto_region 10 with fail
        generalize W4.alloc (.cells #[.bool (sg d), .string (mg d)] 23) = W5 at *
        generalize W4.heap.size = p9 at *
        obtain ⟨y1, y2⟩ := id I3
        obtain ⟨y3, y4⟩ := id J3
        go_upto_region 11 with fail
        have hbl := below1 W5 (.cells #[.bool (sg n), .string (mg n), .bool (sg d), .string (mg d)] 25)
        have B4 := (below_more B3 (Nat.le_refl _) hbl).drew
        have P4 := (P3.keep hbl).drew
        have J4 := J3.keep hbl
        have K4 : RIn (W5.alloc (.cells #[.bool (sg n), .string (mg n), .bool (sg d), .string (mg d)] 25)) W5.heap.size (sg n) (mg n) (sg d) (mg d) := RIn.new rfl
        clear P3 B3 hbl y1 y2 y3 y4 I3 J3
        generalize W5.alloc (.cells #[.bool (sg n), .string (mg n), .bool (sg d), .string (mg d)] 25) = W6 at *
        generalize W5.heap.size = p10 at *
        obtain ⟨D, ED⟩ : ∃ D, Hid (decide (d = 1) = D) := ⟨_, Lib.hid rfl⟩
        obtain ⟨C, EC⟩ : ∃ C, Hid (sameR (sg n) (mg n) (sg d) (mg d) (sg (Rat.divInt n d).num) (mg (Rat.divInt n d).num) (sg ((Rat.divInt n d).den : Int)) (mg ((Rat.divInt n d).den : Int)) = C) := ⟨_, Lib.hid rfl⟩
        have Hs := Lib.hid (same_one d)
        cases D with
        | true =>
          have J6 : IC W6.drew p9 d := J4
          have EQ : (sg d == sg 1 && (mg d).toList == (mg 1).toList) = true := Hs.out.trans ED.out
          refine wp_region_held_drew (S := (fun W => W.cell? ⟨p10, 0, none⟩ = some (.bool (sg n)) ∧ W.cell? ⟨p10, 1, none⟩ = some (.string (mg n)) ∧ W.cell? ⟨p10, 2, none⟩ = some (.bool (sg d)) ∧ W.cell? ⟨p10, 3, none⟩ = some (.string (mg d)) ∧ W.cell? ⟨p9, 0, none⟩ = some (.bool (sg d)) ∧ W.cell? ⟨p9, 1, none⟩ = some (.string (mg d)))) (by kernel_rfl) ?_ (fun hHeld => ?_)
          · exact ⟨K4.1, K4.2.1, K4.2.2.1, K4.2.2.2, J4.1, J4.2⟩
          refine wpAnyH_take (i := 0) (oi := { dst := some 41, op := Op.move (Operand.tmp 8), type := 32, pos := "text.go:35", after := #[], guard := none }) (v := ?_) rfl (by kernel_rfl) (by kernel_rfl) (by kernel_rfl) (fun _ _ _ h => h) (Or.inl ⟨by rfl, ?_⟩) (by assumption) ?_
          rotate_left
          · intro w hSw
            (try dsimp only at hSw)
            go_simp
            all_goals with_reducible rfl
          (try simp only [Act.put, List.setIfInBounds_toArray, List.set_cons_zero, List.set_cons_succ])
          refine wpAnyH_take (i := 1) (oi := { dst := some 42, op := Op.binOp BinOp.neq 32 (Operand.tmp 41) (Operand.const (Value.int IntKind.i64 0)) 32, type := 4, pos := "text.go:35", after := #[{ on := 0, ground := Ground.data }], guard := none }) (v := ?_) rfl (by kernel_rfl) (by kernel_rfl) (by kernel_rfl) (fun _ _ _ h => h) (Or.inl ⟨by rfl, ?_⟩) (by assumption) ?_
          rotate_left
          · intro w hSw
            (try dsimp only at hSw)
            go_simp
            all_goals with_reducible rfl
          (try simp only [Act.put, List.setIfInBounds_toArray, List.set_cons_zero, List.set_cons_succ])
          refine wpAnyH_take (i := 2) (oi := { dst := some 43, op := Op.move (Operand.tmp 42), type := 4, pos := "text.go:35", after := #[{ on := 1, ground := Ground.data }], guard := none }) (v := ?_) rfl (by kernel_rfl) (by kernel_rfl) (by kernel_rfl) (fun _ _ _ h => h) (Or.inl ⟨by rfl, ?_⟩) (by assumption) ?_
          rotate_left
          · intro w hSw
            (try dsimp only at hSw)
            go_simp
            all_goals with_reducible rfl
          (try simp only [Act.put, List.setIfInBounds_toArray, List.set_cons_zero, List.set_cons_succ])
          refine wpAnyH_take (i := 3) (oi := { dst := some 44, op := Op.load 23 (Operand.tmp 9), type := 23, pos := "text.go:35", after := #[{ on := 2, ground := Ground.guard }], guard := some (2, false) }) (v := ?_) rfl (by kernel_rfl) (by kernel_rfl) (by kernel_rfl) (fun _ _ _ h => h) (Or.inl ⟨by rfl, ?_⟩) (by assumption) ?_
          rotate_left
          · intro w hSw
            (try dsimp only at hSw)
            go_simp
            all_goals with_reducible rfl
          (try simp only [Act.put, List.setIfInBounds_toArray, List.set_cons_zero, List.set_cons_succ])
          refine wpAnyH_ready (rs := [4]) (by kernel_rfl) (by simp) ?_
          refine AllReadyH.cons (o := { dst := some 45, op := Go.Op.call { callee := Callee.value (Operand.func 24), args := #[Operand.const (Value.int IntKind.i64 1)], argTypes := #[3] }, type := 23, pos := "text.go:35", after := #[{ on := 2, ground := Ground.chain }, { on := 2, ground := Ground.guard }], guard := some (2, false) }) rfl (fun K hK => ?_) AllReadyH.nil
          go_simp
          go_at_call 24; refine (iof_any 1 _ (by omega) (by omega)).mono ?_; rintro e W7 ⟨rfl, b7⟩; have K7 := (show RIn W6.drew p10 (sg n) (mg n) (sg d) (mg d) from K4).keep b7; have J7 := J6.keep b7; have P7 := P4.keep b7; have B7 := below_more B4 (Nat.le_refl _) b7
          go_wp2_with fail
          refine hK.out _ _ ?_ (fun hHeld => ?_)
          · (try dsimp only)
            exact ⟨K7.1, K7.2.1, K7.2.2.1, K7.2.2.2, J7.1, J7.2⟩
          clear hK K
          (try simp only [Act.put, List.setIfInBounds_toArray, List.set_cons_zero, List.set_cons_succ])
          refine wpAnyH_take (i := 5) (oi := { dst := some 46, op := Op.binOp BinOp.eql 23 (Operand.tmp 44) (Operand.tmp 45) 23, type := 4, pos := "text.go:35", after := #[{ on := 3, ground := Ground.data }, { on := 4, ground := Ground.data }, { on := 2, ground := Ground.guard }], guard := some (2, false) }) (v := ?_) rfl (by kernel_rfl) (by kernel_rfl) (by kernel_rfl) (fun _ _ _ h => h) (Or.inl ⟨by rfl, ?_⟩) (by assumption) ?_
          rotate_left
          · intro w hSw
            (try dsimp only at hSw)
            go_simp
            all_goals with_reducible rfl
          (try simp only [Act.put, List.setIfInBounds_toArray, List.set_cons_zero, List.set_cons_succ])
          refine wpAnyH_take (i := 6) (oi := { dst := some 47, op := Op.pick (Operand.tmp 43) (Operand.const (Value.bool true)) (Operand.tmp 46), type := 4, pos := "text.go:35", after := #[{ on := 2, ground := Ground.data }, { on := 5, ground := Ground.data }], guard := none }) (v := ?_) rfl (by kernel_rfl) (by kernel_rfl) (by kernel_rfl) (fun _ _ _ h => h) (Or.inl ⟨by rfl, ?_⟩) (by assumption) ?_
          rotate_left
          · intro w hSw
            (try dsimp only at hSw)
            go_simp
            all_goals with_reducible rfl
          (try simp only [Act.put, List.setIfInBounds_toArray, List.set_cons_zero, List.set_cons_succ])
          refine wpAnyH_take (i := 7) (oi := { dst := some 48, op := Op.move (Operand.tmp 47), type := 4, pos := "text.go:35", after := #[{ on := 6, ground := Ground.data }, { on := 4, ground := Ground.chain }], guard := none }) (v := ?_) rfl (by kernel_rfl) (by kernel_rfl) (by kernel_rfl) (fun _ _ _ h => h) (Or.inl ⟨by rfl, ?_⟩) (by assumption) ?_
          rotate_left
          · intro w hSw
            (try dsimp only at hSw)
            go_simp
            all_goals with_reducible rfl
          (try simp only [Act.put, List.setIfInBounds_toArray, List.set_cons_zero, List.set_cons_succ])
          refine wpAnyH_take (i := 8) (oi := { dst := some 49, op := Op.load 25 (Operand.tmp 10), type := 25, pos := "text.go:35", after := #[{ on := 7, ground := Ground.guard }], guard := some (7, false) }) (v := undef) rfl (by kernel_rfl) (by kernel_rfl) (by kernel_rfl) (fun _ _ _ h => h) (Or.inr ⟨by rfl, rfl⟩) (by assumption) ?_
          (try simp only [Act.put, List.setIfInBounds_toArray, List.set_cons_zero, List.set_cons_succ])
          refine wpAnyH_take (i := 9) (oi := { dst := some 50, op := Go.Op.call { callee := Callee.value (Operand.func 22), args := #[Operand.tmp 49], argTypes := #[25] }, type := 32, pos := "text.go:35", after := #[{ on := 8, ground := Ground.data }, { on := 7, ground := Ground.chain }, { on := 7, ground := Ground.guard }], guard := some (7, false) }) (v := undef) rfl (by kernel_rfl) (by kernel_rfl) (by kernel_rfl) (fun _ _ _ h => h) (Or.inr ⟨by rfl, rfl⟩) (by assumption) ?_
          (try simp only [Act.put, List.setIfInBounds_toArray, List.set_cons_zero, List.set_cons_succ])
          refine wpAnyH_take (i := 10) (oi := { dst := some 51, op := Op.binOp BinOp.neq 32 (Operand.tmp 50) (Operand.const (Value.int IntKind.i64 0)) 32, type := 4, pos := "text.go:35", after := #[{ on := 9, ground := Ground.data }, { on := 7, ground := Ground.guard }], guard := some (7, false) }) (v := undef) rfl (by kernel_rfl) (by kernel_rfl) (by kernel_rfl) (fun _ _ _ h => h) (Or.inr ⟨by rfl, rfl⟩) (by assumption) ?_
          (try simp only [Act.put, List.setIfInBounds_toArray, List.set_cons_zero, List.set_cons_succ])
          refine wpAnyH_take (i := 11) (oi := { dst := some 52, op := Op.pick (Operand.tmp 48) (Operand.const (Value.bool true)) (Operand.tmp 51), type := 4, pos := "text.go:35", after := #[{ on := 7, ground := Ground.data }, { on := 10, ground := Ground.data }], guard := none }) (v := ?_) rfl (by kernel_rfl) (by kernel_rfl) (by kernel_rfl) (fun _ _ _ h => h) (Or.inl ⟨by rfl, ?_⟩) (by assumption) ?_
          rotate_left
          · intro w hSw
            (try dsimp only at hSw)
            go_simp
            all_goals with_reducible rfl
          (try simp only [Act.put, List.setIfInBounds_toArray, List.set_cons_zero, List.set_cons_succ])
          refine wpAnyH_done (by kernel_rfl) ?_ _
          obtain ⟨⟨r1, r2, r3, r4⟩, r5, r6, r7, r8⟩ := P7
          have hno : d = 1 ∨ ¬ (n = (Rat.divInt n d).num ∧ d = ((Rat.divInt n d).den : Int)) := Or.inl (of_decide_eq_true ED.out)
          go_wp2
          exact bodyPost_ret (v := .tuple #[.agg #[.bool false, .string ⟨#[]⟩, .bool false, .string ⟨#[]⟩], .int .i64 3]) (by simp [results, Tryz.results29, go_sem, r1, r2, r3, r4]) rfl (by rw [Hpq.out]; simp only [Bool.true_eq_false, if_false, if_pos hno]; exact ⟨rfl, below4s B7 _ (by omega) _ _ _ _⟩)
        | false =>
          have IR := Lib.hid (show IsRat (.agg #[.bool (sg n), .string (mg n), .bool (sg d), .string (mg d)]) (Rat.divInt n d) K from ⟨_, _, _, _, n, d, rfl, In.out, Id.out, rfl⟩)
          have S6 : RIn2 W6.drew p10 p10 (sg n) (mg n) (sg d) (mg d) (sg n) (mg n) (sg d) (mg d) := .mk K4 K4
          have J6 : IC W6.drew p9 d := J4
          have EQ : (sg d == sg 1 && (mg d).toList == (mg 1).toList) = false := Hs.out.trans ED.out
          cases C with
          | false =>
            go_region_held3 (fun W => W.cell? ⟨p10, 0, none⟩ = some (.bool (sg n)) ∧ W.cell? ⟨p10, 1, none⟩ = some (.string (mg n)) ∧ W.cell? ⟨p10, 2, none⟩ = some (.bool (sg d)) ∧ W.cell? ⟨p10, 3, none⟩ = some (.string (mg d)) ∧ W.cell? ⟨p9, 0, none⟩ = some (.bool (sg d)) ∧ W.cell? ⟨p9, 1, none⟩ = some (.string (mg d)))
              (first | exact ⟨K4.1, K4.2.1, K4.2.2.1, K4.2.2.2, J4.1, J4.2⟩ | exact ⟨K7.1, K7.2.1, K7.2.2.1, K7.2.2.2, J7.1, J7.2⟩ | exact ⟨K8.1, K8.2.1, K8.2.2.1, K8.2.2.2, J8.1, J8.2⟩)
              (first
                | (go_at_call 24; refine (iof_any 1 _ (by omega) (by omega)).mono ?_; rintro e W7 ⟨rfl, b7⟩; have K7 := (show RIn W6.drew p10 (sg n) (mg n) (sg d) (mg d) from K4).keep b7; have J7 := J6.keep b7; have P7 := P4.keep b7; have B7 := below_more B4 (Nat.le_refl _) b7)
                | (go_at_call 22; refine (check_no _ _ _ _ (Rat.divInt n d) K _ IR.out EC.out).mono ?_; rintro e W8 ⟨rfl, b8⟩; have K8 := K7.keep b8; have J8 := J7.keep b8; have P8 := P7.keep b8; have B8 := below_more B7 (Nat.le_refl _) b8))
            all_goals
              obtain ⟨⟨r1, r2, r3, r4⟩, r5, r6, r7, r8⟩ := P8
              have hno : d = 1 ∨ ¬ (n = (Rat.divInt n d).num ∧ d = ((Rat.divInt n d).den : Int)) := Or.inr fun h => by have h9 := (sameR_iff n d _).2 h; rw [EC.out] at h9; cases h9
              go_wp2
              exact bodyPost_ret (v := .tuple #[.agg #[.bool false, .string ⟨#[]⟩, .bool false, .string ⟨#[]⟩], .int .i64 3]) (by simp [results, Tryz.results29, go_sem, r1, r2, r3, r4]) rfl (by rw [Hpq.out]; simp only [Bool.true_eq_false, if_false, if_pos hno]; exact ⟨rfl, below4s B8 _ (by omega) _ _ _ _⟩)
          | true =>
            go_region_held3 (fun W => W.cell? ⟨p10, 0, none⟩ = some (.bool (sg n)) ∧ W.cell? ⟨p10, 1, none⟩ = some (.string (mg n)) ∧ W.cell? ⟨p10, 2, none⟩ = some (.bool (sg d)) ∧ W.cell? ⟨p10, 3, none⟩ = some (.string (mg d)) ∧ W.cell? ⟨p9, 0, none⟩ = some (.bool (sg d)) ∧ W.cell? ⟨p9, 1, none⟩ = some (.string (mg d)))
              (first | exact ⟨K4.1, K4.2.1, K4.2.2.1, K4.2.2.2, J4.1, J4.2⟩ | exact ⟨K7.1, K7.2.1, K7.2.2.1, K7.2.2.2, J7.1, J7.2⟩ | exact ⟨K8.1, K8.2.1, K8.2.2.1, K8.2.2.2, J8.1, J8.2⟩)
              (first
                | (go_at_call 24; refine (iof_any 1 _ (by omega) (by omega)).mono ?_; rintro e W7 ⟨rfl, b7⟩; have K7 := (show RIn W6.drew p10 (sg n) (mg n) (sg d) (mg d) from K4).keep b7; have J7 := J6.keep b7; have P7 := P4.keep b7; have B7 := below_more B4 (Nat.le_refl _) b7)
                | (go_at_call 22; refine (check_ok _ _ _ _ (Rat.divInt n d) K _ IR.out EC.out).mono ?_; rintro e W8 ⟨rfl, b8⟩; have K8 := K7.keep b8; have J8 := J7.keep b8; have P8 := P7.keep b8; have B8 := below_more B7 (Nat.le_refl _) b8))
            all_goals
              obtain ⟨⟨r1, r2, r3, r4⟩, r5, r6, r7, r8⟩ := P8
              obtain ⟨x1, x2, x3, x4⟩ := id K8
              have h9 := (sameR_iff n d _).1 EC.out
              have hno : ¬ (d = 1 ∨ ¬ (n = (Rat.divInt n d).num ∧ d = ((Rat.divInt n d).den : Int))) := fun h => h.elim (of_decide_eq_false ED.out) (fun h => h h9)
              have hV := Lib.hid (show Value.agg #[.bool (sg n), .string (mg n), .bool (sg d), .string (mg d)] = ratV (Rat.divInt n d) by unfold ratV; rw [← h9.1, ← h9.2])
              clear h9
              go_wp2
              exact bodyPost_ret (v := .tuple #[.agg #[.bool (sg n), .string (mg n), .bool (sg d), .string (mg d)], .int .i64 0]) (by simp [results, Tryz.results29, go_sem, r1, r2, r3, r4]) rfl (by rw [Hpq.out]; simp only [Bool.true_eq_false, if_false, if_neg hno]; exact ⟨by rw [hV.out], below4s B8 _ (by omega) _ _ _ _⟩)
end Go.Proofs.YtabmhckgdncjlaaGreatDoor
