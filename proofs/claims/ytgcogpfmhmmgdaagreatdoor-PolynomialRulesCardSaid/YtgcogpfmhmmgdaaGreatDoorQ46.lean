/- What integer.isDecimal, integer.fromDecimal and integer.Parse return. Condition: the text has at most 65536 bytes (Parse), else ErrLimit. The decimal text of an integer and its digits: what Print writes, Parse reads; what Parse reads, Print writes. What the reference implementation's Print returns: the text of the value. Condition: at most 10^6 bytes. -/
import Derived.Test.YtgcogpfmhmmgdaaGreatDoorQ09
import Derived.Test.YtgcogpfmhmmgdaaGreatDoorQ08
import Derived.Test.YtgcogpfmhmmgdaaGreatDoorQ13
import Derived.Test.YtgcogpfmhmmgdaaGreatDoorQ40
import Derived.Test.YtgcogpfmhmmgdaaGreatDoorQ41
import Derived.Test.YtgcogpfmhmmgdaaGreatDoorQ05
import Derived.Maps.AppendAt
import Derived.OwnWalk
import Derived.Laws.IdiomStrings

namespace Go.Proofs.YtgcogpfmhmmgdaaGreatDoor
open Go.RowKit

/-! What integer.isDecimal and integer.fromDecimal return: whether a text is a number's digits; the number. Condition: the text's length. -/
def digB (c : UInt8) : Bool := decide (48 ≤ c.toNat) && decide (c.toNat ≤ 57)
/-- The digits of a number from 0 on, without zeros in front. -/
def isDec : List UInt8 → Bool
  | [] => false
  | b :: t => !(decide (t ≠ []) && decide (b.toNat = 48)) && (b :: t).all digB
theorem all_take_succ {l : List UInt8} {k : Nat} {c : UInt8} (h : (l.take k).all digB = true) (hc : l[k]? = some c) (hd : digB c = true) : (l.take (k + 1)).all digB = true := by
  rw [List.take_add_one, hc, List.all_append, h]; simp [hd]
theorem not_all {l : List UInt8} {k : Nat} {c : UInt8} (hc : l[k]? = some c) (hd : digB c = false) : l.all digB = false := by
  rw [Bool.eq_false_iff]
  intro h
  have := List.all_eq_true.1 h c (List.mem_of_getElem? hc)
  rw [hd] at this; cases this
theorem isDec_no {l : List UInt8} (h : l.all digB = false) : isDec l = false := by
  cases l with
  | nil => rfl
  | cons b t => show (!(decide (t ≠ []) && decide (b.toNat = 48)) && (b :: t).all digB) = false; rw [h, Bool.and_false]


/-- The number with some decimal digits. -/
def dv (l : List UInt8) : Nat := l.foldl (fun a c => 10 * a + (c.toNat - 48)) 0
theorem dv_acc (l : List UInt8) (a : Nat) : l.foldl (fun a c => 10 * a + (c.toNat - 48)) a = a * 10 ^ l.length + dv l := by
  induction l generalizing a with
  | nil => simp [dv]
  | cons c l ih =>
    unfold dv
    rw [List.foldl_cons, List.foldl_cons, ih, ih (10 * 0 + _), List.length_cons, Nat.pow_succ, Nat.add_mul, Nat.mul_zero, Nat.zero_add]
    rw [show 10 * a * 10 ^ l.length = a * (10 ^ l.length * 10) by rw [Nat.mul_comm 10 a, Nat.mul_assoc, Nat.mul_comm 10]]
    omega
theorem dv_append (l m : List UInt8) : dv (l ++ m) = dv l * 10 ^ m.length + dv m := by
  conv => lhs; unfold dv
  rw [List.foldl_append, dv_acc]; rfl
theorem dv_snoc (l : List UInt8) (c : UInt8) : dv (l ++ [c]) = 10 * dv l + (c.toNat - 48) := by
  rw [dv_append]; simp [dv]; omega
theorem dv_cons (c : UInt8) (l : List UInt8) : dv (c :: l) = (c.toNat - 48) * 10 ^ l.length + dv l := by
  have := dv_append [c] l
  simpa [dv] using this
theorem dv_lt {l : List UInt8} (h : l.all digB = true) : dv l < 10 ^ l.length := by
  induction l with
  | nil => simp [dv]
  | cons c l ih =>
    rw [List.all_cons, Bool.and_eq_true] at h
    have h1 := ih h.2
    have h2 : c.toNat - 48 ≤ 9 := by have := h.1; simp [digB] at this; omega
    have h3 := Nat.mul_le_mul_right (10 ^ l.length) h2
    rw [dv_cons, List.length_cons, Nat.pow_succ]
    omega
theorem all_take {l : List UInt8} (h : l.all digB = true) (k : Nat) : (l.take k).all digB = true := by
  rw [List.all_eq_true] at h ⊢
  exact fun x hx => h x (List.mem_of_mem_take hx)
theorem all_drop {l : List UInt8} (h : l.all digB = true) (k : Nat) : (l.drop k).all digB = true := by
  rw [List.all_eq_true] at h ⊢
  exact fun x hx => h x (List.mem_of_mem_drop hx)
theorem dv_big {l : List UInt8} (h : l.all digB = true) : dv l < 4294967296 ^ l.length := Nat.lt_of_lt_of_le (dv_lt h) (Nat.pow_le_pow_left (by omega) _)
theorem run_cut_bytes (l g : List UInt8) (a b : Nat) (za zb : Int) (hz : za = (a : Int)) (hy : zb = (b : Int)) (h1 : a ≤ b) (h2 : b ≤ l.length) (hg : (l.drop a).take (b - a) = g) (w : World) :
    (Instr.slice 9 (.string ⟨l.toArray⟩) (some (.int .i64 za)) (some (.int .i64 zb)) none).run Tryz.prog w = .ok (.string ⟨g.toArray⟩) w := by
  subst hz; subst hy
  rw [run_slice_string w 9 ⟨l.toArray⟩ .i64 .i64 a b Tryz.underlying9 (by omega) (by omega) (by simp [ByteArray.size]; omega), Int.toNat_natCast, Int.toNat_natCast, ByteArray.extract_mk, hg]
theorem dig_at {l : List UInt8} {k : Nat} {c : UInt8} (h : l.all digB = true) (hc : l[k]? = some c) : 48 ≤ c.toNat ∧ c.toNat ≤ 57 := by
  have := List.all_eq_true.1 h c (List.mem_of_getElem? hc)
  simp [digB] at this; omega


def cutD (l : List UInt8) : List UInt8 := Lib.trimPrefix l [45]
def cutN (l : List UInt8) : Bool := Lib.hasPrefix l [45]
/-- The integer with a text. -/
def pz (l : List UInt8) : Option Int :=
  if isDec (cutD l) = false ∨ (cutN l = true ∧ cutD l = [48]) then none else some (if cutN l then -(dv (cutD l) : Int) else (dv (cutD l) : Int))
theorem cutD_len (l : List UInt8) : (cutD l).length ≤ l.length := by
  unfold cutD Lib.trimPrefix
  split
  · rw [List.length_drop]; omega
  · exact Nat.le_refl _
theorem isDec_all {l : List UInt8} (h : isDec l = true) : l.all digB = true := by
  cases e : l.all digB with
  | true => rfl
  | false => rw [isDec_no e] at h; cases h



end Go.Proofs.YtgcogpfmhmmgdaaGreatDoor

namespace Go.Proofs.YtgcogpfmhmmgdaaGreatDoor
open Go.RowKit

theorem isDec_cons (b : UInt8) (t : List UInt8) : isDec (b :: t) = (!(decide (t ≠ []) && decide (b.toNat = 48)) && (b :: t).all digB) := rfl
theorem dig_of {c : Nat} (h : c < 10) : (UInt8.ofNat (48 + c)).toNat = 48 + c := by
  rw [UInt8.toNat_ofNat']; omega
theorem dec_facts (u : Nat) : dv (Lib.decDigits u) = u ∧ (Lib.decDigits u).all digB = true ∧ (0 < u → ∃ b t, Lib.decDigits u = b :: t ∧ b.toNat ≠ 48) := by
  induction u using Nat.strongRecOn with
  | _ u ih =>
    by_cases h : u < 10
    · rw [Lib.decDigits_one h]
      refine ⟨by simp [dv]; omega, by simp [digB]; omega, fun h0 => ⟨_, [], rfl, by rw [dig_of h]; omega⟩⟩
    · rw [Lib.decDigits, dif_neg h]
      obtain ⟨h1, h2, h3⟩ := ih (u / 10) (by omega)
      have hm : u % 10 < 10 := Nat.mod_lt _ (by omega)
      obtain ⟨b, t, h4, h5⟩ := h3 (by omega)
      refine ⟨?_, ?_, fun _ => ⟨b, t ++ [UInt8.ofNat (48 + u % 10)], by rw [h4]; rfl, h5⟩⟩
      · rw [dv_snoc, h1, dig_of hm]; omega
      · rw [List.all_append, h2]; simp [digB]; omega
theorem rep_facts (n : Nat) : dv (Lib.repeatL [48] n) = 0 ∧ (Lib.repeatL [48] n).all digB = true := by
  induction n with
  | zero => exact ⟨rfl, rfl⟩
  | succ n ih =>
    have e : Lib.repeatL [48] (n + 1) = (48 : UInt8) :: Lib.repeatL [48] n := rfl
    rw [e]
    exact ⟨by rw [dv_cons, ih.1]; simp, by rw [List.all_cons, ih.2]; rfl⟩
theorem pad_facts (d : Nat) : dv (pad9 d) = d ∧ (pad9 d).all digB = true := by
  unfold pad9
  refine ⟨by rw [dv_append, (rep_facts _).1, (dec_facts d).1]; simp, by rw [List.all_append, (rep_facts _).2, (dec_facts d).2.1]; rfl⟩
theorem pr_facts (N : Nat) : dv (prS (gs N)) = N ∧ (prS (gs N)).all digB = true ∧ (0 < N → ∃ b t, prS (gs N) = b :: t ∧ b.toNat ≠ 48) := by
  induction N using Nat.strongRecOn with
  | _ N ih =>
    by_cases h0 : N = 0
    · subst h0; rw [gs_zero]; exact ⟨rfl, rfl, fun h => absurd h (by omega)⟩
    · have hr := Nat.mod_lt N (show 1000000000 > 0 by omega)
      obtain ⟨h1, h2, h3⟩ := ih (N / 1000000000) (Nat.div_lt_self (by omega) (by omega))
      rw [gs_pos h0, prS]
      by_cases hq : N / 1000000000 = 0
      · rw [hq, gs_zero, if_pos rfl]
        have hN : N % 1000000000 = N := by omega
        rw [hN]
        exact dec_facts N |>.imp_right (fun h => h) |> fun h => by simpa [prS] using h
      · have hg : gs (N / 1000000000) ≠ [] := by rw [gs_pos hq]; simp
        rw [if_neg hg]
        obtain ⟨b, t, h4, h5⟩ := h3 (by omega)
        refine ⟨?_, ?_, fun _ => ⟨b, t ++ pad9 (N % 1000000000), by rw [h4]; rfl, h5⟩⟩
        · rw [dv_append, h1, (pad_facts _).1, pad9_len hr]; omega
        · rw [List.all_append, h2, (pad_facts _).2]; rfl
theorem isDec_pr {N : Nat} (h : 0 < N) : isDec (prS (gs N)) = true := by
  obtain ⟨_, h2, h3⟩ := pr_facts N
  obtain ⟨b, t, h4, h5⟩ := h3 h
  rw [h4] at h2 ⊢
  rw [isDec_cons, h2]; simp [h5]
theorem dv_same : ∀ {l m : List UInt8}, l.length = m.length → l.all digB = true → m.all digB = true → dv l = dv m → l = m
  | [], [], _, _, _, _ => rfl
  | b :: l, c :: m, hl, h1, h2, h => by
    rw [List.all_cons, Bool.and_eq_true] at h1 h2
    have e : l.length = m.length := by simpa using hl
    have a1 := dv_lt h1.2
    have a2 := dv_lt h2.2
    rw [dv_cons, dv_cons, e] at h
    rw [e] at a1
    have b1 := h1.1
    have b2 := h2.1
    simp [digB] at b1 b2
    have hp : 0 < 10 ^ m.length := Nat.pow_pos (by omega)
    have q1 : ((b.toNat - 48) * 10 ^ m.length + dv l) / 10 ^ m.length = b.toNat - 48 := by
      rw [Nat.mul_comm, Nat.mul_add_div hp, Nat.div_eq_of_lt a1, Nat.add_zero]
    have q2 : ((c.toNat - 48) * 10 ^ m.length + dv m) / 10 ^ m.length = c.toNat - 48 := by
      rw [Nat.mul_comm, Nat.mul_add_div hp, Nat.div_eq_of_lt a2, Nat.add_zero]
    have q3 : b.toNat - 48 = c.toNat - 48 := by rw [← q1, ← q2, h]
    have q4 : dv l = dv m := by rw [q3] at h; omega
    have q5 : b = c := UInt8.toNat_inj.1 (by omega)
    rw [q5, dv_same e h1.2 h2.2 q4]
theorem dv_low {b : UInt8} {t : List UInt8} (h : (b :: t).all digB = true) (hb : b.toNat ≠ 48) : 10 ^ t.length ≤ dv (b :: t) := by
  rw [List.all_cons, Bool.and_eq_true] at h
  have b1 := h.1
  simp [digB] at b1
  have := Nat.mul_le_mul_right (10 ^ t.length) (show 1 ≤ b.toNat - 48 by omega)
  rw [dv_cons]; omega
theorem dec_cases {l : List UInt8} (h : isDec l = true) : l = [48] ∨ ∃ b t, l = b :: t ∧ b.toNat ≠ 48 ∧ l.all digB = true := by
  have ha := isDec_all h
  cases l with
  | nil => cases h
  | cons b t =>
    by_cases hb : b.toNat = 48
    · refine Or.inl ?_
      rw [isDec_cons, ha] at h
      simp [hb] at h
      rw [h, show b = 48 from UInt8.toNat_inj.1 (by rw [hb]; rfl)]
    · exact Or.inr ⟨b, t, rfl, hb, ha⟩
theorem dec_zero {l : List UInt8} (h : isDec l = true) (h0 : dv l = 0) : l = [48] := by
  rcases dec_cases h with h1 | ⟨b, t, rfl, hb, ha⟩
  · exact h1
  · have := dv_low ha hb
    have : 0 < 10 ^ t.length := Nat.pow_pos (by omega)
    omega
theorem dec_text {l : List UInt8} (h : isDec l = true) (h0 : 0 < dv l) : prS (gs (dv l)) = l := by
  rcases dec_cases h with rfl | ⟨b, t, rfl, hb, ha⟩
  · exact absurd h0 (by simp [dv])
  · obtain ⟨p1, p2, p3⟩ := pr_facts (dv (b :: t))
    obtain ⟨c, m, p4, p5⟩ := p3 h0
    rw [p4] at p1 p2 ⊢
    have a1 := dv_low ha hb
    have a2 := dv_lt ha
    have a3 := dv_low p2 p5
    have a4 := dv_lt p2
    rw [p1] at a3 a4
    rw [List.length_cons] at a2 a4
    have l1 : m.length < t.length + 1 := (Nat.pow_lt_pow_iff_right (by omega : 1 < 10)).1 (Nat.lt_of_le_of_lt a3 a2)
    have l2 : t.length < m.length + 1 := (Nat.pow_lt_pow_iff_right (by omega : 1 < 10)).1 (Nat.lt_of_le_of_lt a1 a4)
    exact dv_same (by rw [List.length_cons, List.length_cons]; omega) p2 ha p1
theorem cut_minus (l : List UInt8) : cutD (45 :: l) = l ∧ cutN (45 :: l) = true := ⟨rfl, rfl⟩
theorem cut_digit {b : UInt8} {l : List UInt8} (h : digB b = true) : cutD (b :: l) = b :: l ∧ cutN (b :: l) = false := by
  have hb : (45 == b) = false := by
    rw [beq_eq_false_iff_ne]; rintro rfl; simp [digB] at h
  have hN : cutN (b :: l) = false := by
    unfold cutN Lib.hasPrefix
    simp [List.isPrefixOf, hb]
  exact ⟨by unfold cutD Lib.trimPrefix; rw [if_neg (by show ¬ cutN (b :: l) = true; rw [hN]; simp)], hN⟩
theorem pz_minus {l : List UInt8} (h : isDec l = true) (h0 : l ≠ [48]) : pz (45 :: l) = some (-(dv l : Int)) := by
  unfold pz
  rw [(cut_minus l).1, (cut_minus l).2, if_neg (by simp [h, h0]), if_pos rfl]
theorem pz_plus {l : List UInt8} (h : isDec l = true) : pz l = some (dv l : Int) := by
  have ha := isDec_all h
  cases l with
  | nil => cases h
  | cons b t =>
    rw [List.all_cons, Bool.and_eq_true] at ha
    unfold pz
    rw [(cut_digit ha.1).1, (cut_digit ha.1).2, if_neg (by simp [h])]; simp
theorem prZ_neg {N : Nat} (h : 0 < N) : prZ (-(N : Int)) = 45 :: prS (gs N) := by
  unfold prZ sgnT sg
  rw [if_neg (by omega), if_pos (by simp; omega), Int.natAbs_neg, Int.natAbs_natCast]; rfl
theorem prZ_pos {N : Nat} (h : 0 < N) : prZ (N : Int) = prS (gs N) := by
  unfold prZ sgnT sg
  rw [if_neg (by omega), if_neg (by simp), Int.natAbs_natCast]; rfl
theorem int_cases (z : Int) : z = 0 ∨ (∃ N : Nat, 0 < N ∧ z = -(N : Int)) ∨ (∃ N : Nat, 0 < N ∧ z = (N : Int)) := by
  rcases Int.lt_trichotomy z 0 with h | h | h
  · exact Or.inr (Or.inl ⟨z.natAbs, by omega, by omega⟩)
  · exact Or.inl h
  · exact Or.inr (Or.inr ⟨z.natAbs, by omega, by omega⟩)
/-- What is printed is read. -/
theorem pz_print (z : Int) : pz (prZ z) = some z := by
  rcases int_cases z with rfl | ⟨N, h, rfl⟩ | ⟨N, h, rfl⟩
  · rfl
  · rw [prZ_neg h, pz_minus (isDec_pr h) (fun e => by have := (pr_facts N).1; rw [e] at this; simp [dv] at this; omega), (pr_facts N).1]
  · rw [prZ_pos h, pz_plus (isDec_pr h), (pr_facts N).1]
theorem isDec_snoc {l : List UInt8} (h : isDec l = true) (h0 : l ≠ [48]) : isDec (l ++ [48]) = true := by
  rcases dec_cases h with h1 | ⟨b, t, rfl, hb, ha⟩
  · exact absurd h1 h0
  · show isDec (b :: (t ++ [48])) = true
    rw [isDec_cons, show b :: (t ++ [48]) = (b :: t) ++ [48] from rfl, List.all_append, ha]
    simp [hb]; rfl
/-- A zero behind the digits: ten times the number; but 00 is no text. -/
theorem pz_ten (z : Int) : pz (prZ z ++ [48]) = if z = 0 then none else some (z * 10) := by
  rcases int_cases z with rfl | ⟨N, h, rfl⟩ | ⟨N, h, rfl⟩
  · rfl
  · have hne : prS (gs N) ≠ [48] := fun e => by have := (pr_facts N).1; rw [e] at this; simp [dv] at this; omega
    have h1 := isDec_snoc (isDec_pr h) hne
    rw [if_neg (by omega), prZ_neg h, List.cons_append, pz_minus h1 (fun e => by have := congrArg List.length e; have h2 := (pr_facts N).2.2 h; obtain ⟨b, t, e2, _⟩ := h2; rw [e2] at this; simp at this), dv_snoc, (pr_facts N).1]
    congr 1; simp; omega
  · have hne : prS (gs N) ≠ [48] := fun e => by have := (pr_facts N).1; rw [e] at this; simp [dv] at this; omega
    rw [if_neg (by omega), prZ_pos h, pz_plus (isDec_snoc (isDec_pr h) hne), dv_snoc, (pr_facts N).1]
    congr 1; simp; omega
/-- What is read is printed. -/
theorem print_pz {l : List UInt8} {z : Int} (h : pz l = some z) : prZ z = l := by
  unfold pz at h
  split at h
  · cases h
  · rename_i hn
    have hd : isDec (cutD l) = true := by
      cases e : isDec (cutD l) with
      | true => rfl
      | false => exact absurd (Or.inl e) hn
    have hz := Option.some.inj h
    by_cases hN : cutN l = true
    · rw [if_pos hN] at hz
      have hl : l = 45 :: cutD l := by
        cases l with
        | nil => simp [cutN, Lib.hasPrefix, List.isPrefixOf] at hN
        | cons b t =>
          have : (45 == b) = true := by simpa [cutN, Lib.hasPrefix, List.isPrefixOf] using hN
          obtain rfl : 45 = b := by simpa using this
          rfl
      have h48 : cutD l ≠ [48] := fun e => hn (Or.inr ⟨hN, e⟩)
      have hp : 0 < dv (cutD l) := Nat.pos_of_ne_zero fun e => h48 (dec_zero hd e)
      rw [← hz, prZ_neg hp, dec_text hd hp, ← hl]
    · rw [if_neg hN] at hz
      have hl : cutD l = l := by unfold cutD Lib.trimPrefix; exact if_neg hN
      rw [hl] at hd hz
      by_cases h0 : dv l = 0
      · rw [dec_zero hd h0, ← hz, h0]; rfl
      · rw [← hz, prZ_pos (by omega), dec_text hd (by omega)]
/-- A printed integer begins with a minus where it is below 0. -/
theorem prefix_pr (z : Int) : Lib.hasPrefix (prZ z) [45] = sg z := by
  rcases int_cases z with rfl | ⟨N, h, rfl⟩ | ⟨N, h, rfl⟩
  · rfl
  · rw [prZ_neg h]; unfold sg; simp [Lib.hasPrefix, List.isPrefixOf]; omega
  · obtain ⟨b, t, e, _⟩ := (pr_facts N).2.2 h
    have ha := (pr_facts N).2.1
    rw [prZ_pos h]
    rw [e, List.all_cons, Bool.and_eq_true] at ha
    rw [e]
    show cutN (b :: t) = _
    rw [(cut_digit ha.1).2]; unfold sg; simp
theorem prZ_len {z : Int} {k : Nat} (h : z.natAbs < 4294967296 ^ k) : (prZ z).length ≤ 18 * k + 2 := by
  have h1 := prS_len (gs_lt (N := z.natAbs))
  have h2 := gs_room h
  unfold prZ sgnT
  split
  · simp
  · rw [List.length_append]; split <;> simp <;> omega
end Go.Proofs.YtgcogpfmhmmgdaaGreatDoor

namespace Go.Proofs.YtgcogpfmhmmgdaaGreatDoor
open Go.RowKit
set_option linter.unusedSimpArgs false
set_option linter.unusedVariables false

/-- The bytes of a list, and zeros behind them. -/
def brow (Q : List UInt8) : Nat → Value := fun p => .int .u8 (((Q.getD p 0).toNat : Nat) : Int)
theorem brow_at {Q : List UInt8} {k : Nat} {c : UInt8} (h : Q[k]? = some c) : brow Q k = .int .u8 (c.toNat : Int) := by
  unfold brow; rw [List.getD_eq_getElem?_getD, h]; rfl
theorem getD_app_lt {Q R : List UInt8} {j : Nat} (h : j < Q.length) : (Q ++ R).getD j 0 = Q.getD j 0 := by
  rw [List.getD_eq_getElem?_getD, List.getD_eq_getElem?_getD, List.getElem?_append_left h]
theorem getD_app_ge {Q R : List UInt8} {j : Nat} (h : Q.length ≤ j) : (Q ++ R).getD j 0 = R.getD (j - Q.length) 0 := by
  rw [List.getD_eq_getElem?_getD, List.getD_eq_getElem?_getD, List.getElem?_append_right h]
/-- A byte takes the place of the first one that has not been replaced yet. -/
theorem brow_set {w : World} {b n k : Nat} {t : TypeId} {Q L : List UInt8} (h : w.rowIs b t n (brow (Q ++ L.drop k))) (hk : Q.length = k) (hL : k < L.length) (c : UInt8) {x : Int} (hx : x = (c.toNat : Int)) :
    (w.setCell ⟨b, k, none⟩ (.int .u8 x)).rowIs b t n (brow ((Q ++ [c]) ++ L.drop (k + 1))) :=
  (h.set k _).congr fun j _ => by
    subst hx hk
    unfold brow
    by_cases e : j = Q.length
    · subst e
      rw [if_pos rfl, getD_app_lt (by simp), getD_app_ge (Nat.le_refl _), Nat.sub_self]; rfl
    · rw [if_neg e]
      rcases Nat.lt_or_ge j Q.length with h1 | h1
      · rw [getD_app_lt h1, getD_app_lt (by simp; omega), getD_app_lt h1]
      · rw [getD_app_ge h1, getD_app_ge (by simp; omega)]
        rw [List.getD_eq_getElem?_getD, List.getD_eq_getElem?_getD, List.getElem?_drop, List.getElem?_drop]
        have e1 : Q.length + (j - Q.length) = j := by omega
        have e2 : Q.length + 1 + (j - (Q ++ [c]).length) = j := by rw [List.length_append, List.length_singleton]; omega
        rw [e1, e2]
/-- One step of the division by 10. -/
theorem dstep10 {L Q : List UInt8} {k r : Nat} {c : UInt8} (h : vB (L.take k) = 10 * vB Q + r) (hc : L[k]? = some c) (hr : r < 10) :
    (r * 256 + c.toNat) / 10 < 256 ∧ (r * 256 + c.toNat) % 10 < 10 ∧ vB (L.take (k + 1)) = 10 * vB (Q ++ [UInt8.ofNat ((r * 256 + c.toNat) / 10)]) + (r * 256 + c.toNat) % 10 := by
  have hc8 := c.toNat_lt
  have h1 : (r * 256 + c.toNat) / 10 < 256 := by omega
  refine ⟨h1, by omega, ?_⟩
  rw [vB_take_succ hc, vB_snoc, toNat_of8 h1, h]
  omega
theorem zeros_take {L : List UInt8} {k : Nat} (h : vB (L.take k) = 0) : vB (L.take k) = 10 * vB (L.take k) + 0 := by rw [h]
/-- The digits in the order in which they come out, the least one first. -/
def dlow : List UInt8 → Nat
  | [] => 0
  | c :: D => (c.toNat - 48) + 10 * dlow D
theorem dlow_snoc (D : List UInt8) (c : UInt8) : dlow (D ++ [c]) = dlow D + (c.toNat - 48) * 10 ^ D.length := by
  induction D with
  | nil => simp [dlow]
  | cons b D ih =>
    have h : 10 * ((c.toNat - 48) * 10 ^ D.length) = (c.toNat - 48) * (10 ^ D.length * 10) := by rw [Nat.mul_comm (10 ^ D.length), Nat.mul_left_comm]
    rw [List.cons_append, dlow, dlow, ih, List.length_cons, Nat.pow_succ, Nat.mul_add, h]
    omega
theorem dv_rev (D : List UInt8) : dv D.reverse = dlow D := by
  induction D with
  | nil => rfl
  | cons c D ih => rw [List.reverse_cons, dv_snoc, ih, dlow]; omega
/-- Bytes in a block whose end nobody asks for. -/
def BRow (W : World) (b n : Nat) (f : Nat → Value) : Prop := b < W.heap.size ∧ ∀ i, i < n → W.cell? ⟨b, i, none⟩ = some (f i) ∧ W.frozen? ⟨b, i, none⟩ = false
theorem BRow.congr {W : World} {b n : Nat} {f g : Nat → Value} (h : BRow W b n f) (e : ∀ i, i < n → f i = g i) : BRow W b n g := ⟨h.1, fun i hi => by rw [← e i hi]; exact h.2 i hi⟩
theorem BRow.set {W : World} {b n : Nat} {f : Nat → Value} (h : BRow W b n f) {k : Nat} (hk : k < n) (v : Value) : BRow (W.setCell ⟨b, k, none⟩ v) b n (fun j => if j = k then v else f j) := by
  refine ⟨by rw [World.size_setCell]; exact h.1, fun i hi => ?_⟩
  obtain ⟨h1, h2⟩ := h.2 i hi
  by_cases e : i = k
  · subst e
    exact ⟨by simp [go_sem, h1], by simp [go_sem, h2]⟩
  · exact ⟨by simp [go_sem, h1, e], by simp [go_sem, h2]⟩
theorem BRow.keep {W W1 : World} {b n : Nat} {f : Nat → Value} (h : BRow W b n f) (hb : Below W.heap.size W W1) : BRow W1 b n f := ⟨Nat.lt_of_lt_of_le h.1 hb.size, fun i hi => ⟨cell_keep (h.2 i hi).1 hb, (hb.frozen (p := ⟨b, i, none⟩) h.1).trans (h.2 i hi).2⟩⟩
theorem BRow.drew {W : World} {b n : Nat} {f : Nat → Value} (h : BRow W b n f) : BRow W.drew b n f := h
theorem BRow.made (W : World) (l : List UInt8) (cap : Nat) (e : TypeId) (r : Nat × Nat) (hr : l.length ≤ r.1) : BRow (W.alloc (.cells (bytesRow ⟨l.toArray⟩ cap) e r)) W.heap.size l.length (brow l) := by
  refine ⟨by simp, fun i hi => ?_⟩
  have hb : (W.alloc (.cells (bytesRow ⟨l.toArray⟩ cap) e r)).heap[W.heap.size]? = some (.cells (bytesRow ⟨l.toArray⟩ cap) e r) := by
    show (W.heap.push _)[W.heap.size]? = _
    simp
  constructor
  · have hc : (bytesRow ⟨l.toArray⟩ cap)[i]? = some (brow l i) := by
      unfold bytesRow
      rw [Array.getElem?_append_left (by simpa using hi)]
      rw [brow_at (List.getElem?_eq_getElem hi)]
      simp [hi]
    simp only [World.cell?, hb, hc]
    rw [if_neg (by simp)]
  · simp only [World.frozen?, hb]
    simp
    omega
theorem grown_set (W : World) (b i : Nat) (v : Value) : W.grownBy (W.setCell ⟨b, i, none⟩ v) (some b) :=
  ⟨rfl, rfl, rfl, by rw [World.size_setCell]; exact Nat.le_refl _, fun k hk hne => by
    have hb : b ≠ k := fun e => hne (by rw [e])
    simp [World.setCell, Array.getElem?_modify, hb]⟩
theorem BRow.grown {W W1 : World} {b n : Nat} {f : Nat → Value} {row : Option Nat} (h : BRow W b n f) (hg : W.grownBy W1 row) (hne : some b ≠ row) : BRow W1 b n f :=
  ⟨Nat.lt_of_lt_of_le h.1 hg.size, fun i hi => ⟨(World.cell?_of_block (a := ⟨b, i, none⟩) (hg.block b h.1 hne)).trans (h.2 i hi).1, (World.frozen?_of_block (a := ⟨b, i, none⟩) (hg.block b h.1 hne)).trans (h.2 i hi).2⟩⟩
theorem cell_grown {W W1 : World} {p : Addr} {v : Value} {row : Option Nat} (h : W.cell? p = some v) (hg : W.grownBy W1 row) (hne : some p.block ≠ row) : W1.cell? p = some v :=
  (World.cell?_of_block (hg.block _ (World.block_lt_of_cell? _ _ h) hne)).trans h
def bvs (D : List UInt8) : List Value := D.map fun c => .int .u8 (c.toNat : Int)
theorem bvs_len (D : List UInt8) : (bvs D).length = D.length := List.length_map _
theorem bvs_snoc (D : List UInt8) (c : UInt8) : bvs (D ++ [c]) = bvs D ++ [.int .u8 (c.toNat : Int)] := by unfold bvs; rw [List.map_append]; rfl
/-- A slice that owns bytes: its row, cell by cell. -/
theorem own_row {W : World} {base : Nat} {e : TypeId} {v : Value} {D : List UInt8} (h : W.ownsRow base e 1 v D.length (bvs D)) (hD : D ≠ []) :
    ∃ g cap, v = .slice (some ⟨g, 0, none⟩) D.length cap ∧ base ≤ g ∧ BRow W g D.length (brow D) := by
  rcases h.2 with ⟨_, h0⟩ | ⟨g, cap, cur, rfl, hb, hg, h1, h2, h3, h4⟩
  · exact absurd (List.eq_nil_of_length_eq_zero h0) hD
  · refine ⟨g, cap, rfl, hb, (Array.getElem?_eq_some_iff.1 hg).1, fun i hi => ⟨?_, ?_⟩⟩
    · have hc : (bvs D)[i]? = some (brow D i) := by
        rw [brow_at (List.getElem?_eq_getElem hi)]
        unfold bvs
        rw [List.getElem?_map, List.getElem?_eq_getElem hi]; rfl
      have := h.cells (g := g) rfl i _ hc
      rwa [show (⟨g, 0, none⟩ : Addr).add i = ⟨g, i, none⟩ by unfold Addr.add; split <;> simp_all] at this
    · simp only [World.frozen?, hg]
      simp
/-- The row, turned round as far as i from both ends. -/
def rrow (D : List UInt8) (i : Nat) : Nat → Value := fun p => if p < i ∨ D.length < p + i + 1 then brow D (D.length - 1 - p) else brow D p
theorem rrow_zero (D : List UInt8) {p : Nat} (hp : p < D.length) : brow D p = rrow D 0 p := by
  unfold rrow; rw [if_neg (by omega)]
theorem rrow_step {W : World} {g i k : Nat} {D : List UInt8} (h : BRow W g D.length (rrow D i)) (hk : i + k + 1 = D.length) (hik : i < k) :
    BRow ((W.setCell ⟨g, i, none⟩ (brow D k)).setCell ⟨g, k, none⟩ (brow D i)) g D.length (rrow D (i + 1)) :=
  ((h.set (k := i) (by omega) (brow D k)).set (k := k) (by omega) (brow D i)).congr fun j hj => by
    unfold rrow
    by_cases e1 : j = k
    · rw [if_pos e1, if_pos (by omega)]; congr 1; omega
    · rw [if_neg e1]
      by_cases e2 : j = i
      · rw [if_pos e2, if_pos (by omega)]; congr 1; omega
      · rw [if_neg e2]
        by_cases e3 : j < i ∨ D.length < j + i + 1
        · rw [if_pos e3, if_pos (by omega)]
        · rw [if_neg e3, if_neg (by omega)]
theorem rrow_end {D : List UInt8} {i k : Nat} (hk : i + k + 1 = D.length) (hik : ¬ i < k) {p : Nat} (hp : p < D.length) : rrow D i p = brow D.reverse p := by
  have hr : brow D.reverse p = brow D (D.length - 1 - p) := by
    unfold brow
    rw [List.getD_eq_getElem?_getD, List.getD_eq_getElem?_getD, List.getElem?_reverse hp]
  rw [hr]
  unfold rrow
  split
  · rfl
  · congr 1; omega
theorem brow_cells {W : World} {g n : Nat} {T : List UInt8} (h : BRow W g n (brow T)) (hT : T.length = n) (i : Nat) (u : UInt8) (hu : T[i]? = some u) : W.cell? ⟨g, 0 + i, none⟩ = some (.int .u8 (u.toNat : Int)) := by
  have hi : i < T.length := by
    rcases Nat.lt_or_ge i T.length with h1 | h1
    · exact h1
    · rw [List.getElem?_eq_none h1] at hu; cases hu
  rw [Nat.zero_add, (h.2 i (by omega)).1, brow_at hu]
theorem zero_more {Q : List UInt8} {a : Nat} (h : vB (Q.take a) = 0) (hc : Q[a]? = some 0) : vB (Q.take (a + 1)) = 0 := by rw [vB_take_succ hc, h]; rfl
theorem vB_pos {Q : List UInt8} {a : Nat} {c : UInt8} (hc : Q[a]? = some c) (h0 : c ≠ 0) : vB Q ≠ 0 := by
  have h1 := vB_take_le Q (a + 1)
  rw [vB_take_succ hc] at h1
  have : c.toNat ≠ 0 := fun e => h0 (UInt8.toNat_inj.1 (by simpa using e))
  omega
/-- The text of a number, out of its digits. -/
theorem text_of {D' : List UInt8} {c : UInt8} {z : Int} {N : Nat} (ha : (D' ++ [c]).all digB = true) (hc : c.toNat ≠ 48) (hN : dlow (D' ++ [c]) = N) :
    ((N : Int) = z → prZ z = (D' ++ [c]).reverse) ∧ (-(N : Int) = z → prZ z = (D' ++ [c] ++ [45]).reverse) := by
  have hall : ((D' ++ [c]).reverse).all digB = true := by rw [List.all_reverse]; exact ha
  have hdec : isDec (D' ++ [c]).reverse = true := by
    rw [List.reverse_append] at hall ⊢
    show isDec (c :: D'.reverse) = true
    rw [isDec_cons]
    have h9 : (c :: D'.reverse).all digB = true := hall
    rw [h9]
    simp [hc]
  have hne : (D' ++ [c]).reverse ≠ [48] := by
    rw [List.reverse_append]
    intro e
    have : c :: D'.reverse = [48] := e
    injection this with e1 e2
    exact hc (by rw [e1]; rfl)
  have hdv : dv (D' ++ [c]).reverse = N := by rw [dv_rev, hN]
  constructor
  · intro e
    exact print_pz (by rw [pz_plus hdec, hdv, e])
  · intro e
    have hrv : (D' ++ [c] ++ [45]).reverse = 45 :: (D' ++ [c]).reverse := by rw [List.reverse_append]; rfl
    rw [hrv]
    exact print_pz (by show pz (45 :: (D' ++ [c]).reverse) = _; rw [pz_minus hdec hne, hdv, e])
theorem dg_all {D : List UInt8} {r : Nat} (h : D.all digB = true) (hr : r < 10) : (D ++ [UInt8.ofNat (48 + r)]).all digB = true := by
  rw [List.all_append, h]
  have := toNat_of8 (n := 48 + r) (by omega)
  simp [digB, this]
  omega
theorem u8w1 (t : Nat) : IntKind.u8.wrap (t : Int) = ((t % 256 : Nat) : Int) := by simp [IntKind.wrap, IntKind.bits, IntKind.signed]
theorem brow_set2 {w : World} {b n k : Nat} {Q L : List UInt8} (h : BRow w b n (brow (Q ++ L.drop k))) (hk : Q.length = k) (hL : k < L.length) (hn : k < n) (c : UInt8) {x : Int} (hx : x = (c.toNat : Int)) :
    BRow (w.setCell ⟨b, k, none⟩ (.int .u8 x)) b n (brow ((Q ++ [c]) ++ L.drop (k + 1))) :=
  (h.set hn _).congr fun j _ => by
    subst hx hk
    unfold brow
    by_cases e : j = Q.length
    · subst e
      rw [if_pos rfl, getD_app_lt (by simp), getD_app_ge (Nat.le_refl _), Nat.sub_self]; rfl
    · rw [if_neg e]
      rcases Nat.lt_or_ge j Q.length with h1 | h1
      · rw [getD_app_lt h1, getD_app_lt (by simp; omega), getD_app_lt h1]
      · rw [getD_app_ge h1, getD_app_ge (by simp; omega)]
        rw [List.getD_eq_getElem?_getD, List.getD_eq_getElem?_getD, List.getElem?_drop, List.getElem?_drop]
        have e1 : Q.length + (j - Q.length) = j := by omega
        have e2 : Q.length + 1 + (j - (Q ++ [c]).length) = j := by rw [List.length_append, List.length_singleton]; omega
        rw [e1, e2]
theorem own_ne {W : World} {b : Nat} {e : TypeId} {v : Value} {n : Nat} {xs : List Value} (h : W.ownsRow (b + 1) e 1 v n xs) : v.ownBlock = none ∨ v.ownBlock ≠ some b := by
  cases hv : v.ownBlock with
  | none => exact Or.inl rfl
  | some k =>
    have := (h.lt k hv).1
    exact Or.inr (fun e => by injection e with e; omega)
theorem sg_abs1 (z : Int) : (if sg z then -(z.natAbs : Int) else (z.natAbs : Int)) = z := by
  unfold sg
  by_cases h : z < 0
  · rw [decide_eq_true h]; simp; omega
  · rw [decide_eq_false h]; simp; omega
theorem rcan_p1 {g : Bool} {l : List UInt8} {z : Int} {w : World} (hl : l.length ≤ 1000000000) (hz : zv g ⟨l.toArray⟩ = z) :
    Calls Tryz.prog 65 #[.agg #[.bool g, .string ⟨l.toArray⟩]] w (IntOut w z) := hz ▸ rcanonical_any g l w hl
theorem bytesRow_size (l : List UInt8) (cap : Nat) : l.length ≤ (bytesRow ⟨l.toArray⟩ cap).size := by
  unfold bytesRow
  rw [Array.size_append]
  simp
set_option maxRecDepth 100000 in
set_option maxHeartbeats 6400000 in
theorem rprint01_any (g : Bool) (l : List UInt8) (z : Int) (w : World) (hl : l.length ≤ 1000000) (hz : zv g ⟨l.toArray⟩ = z) :
    Calls Tryz.prog 88 #[.agg #[.bool g, .string ⟨l.toArray⟩]] w fun e w' => e = .returned (.string ⟨(prZ z).toArray⟩) ∧ Below w.heap.size w w' := by
  have Hz := Lib.hid hz
  have hL9 : (bytesOf z.natAbs).length ≤ 1000000 := by
    rw [← hz, natAbs_zv, ← trim_bytes]
    exact Nat.le_trans (stz_len _) hl
  clear hz
  have B0 := below1 w (.cells #[.bool g, .string ⟨l.toArray⟩] 27)
  have x1 : (w.alloc (.cells #[.bool g, .string ⟨l.toArray⟩] 27)).cell? ⟨w.heap.size, 0, none⟩ = some (.bool g) := by simp [go_sem]
  have x2 : (w.alloc (.cells #[.bool g, .string ⟨l.toArray⟩] 27)).cell? ⟨w.heap.size, 1, none⟩ = some (.string ⟨l.toArray⟩) := by simp [go_sem]
  have x3 : (w.alloc (.cells #[.bool g, .string ⟨l.toArray⟩] 27)).frozen? ⟨w.heap.size, 0, none⟩ = false := by simp [go_sem]
  have x4 : (w.alloc (.cells #[.bool g, .string ⟨l.toArray⟩] 27)).frozen? ⟨w.heap.size, 1, none⟩ = false := by simp [go_sem]
  go_enter Tryz.func88, Tryz.ntmps88
  go_wp2_with fail
  refine (rcan_p1 (by omega) Hz.out).mono ?_
  rintro e W1 ⟨rfl, b1⟩
  have y1 := cell_keep x1 b1
  have y2 := cell_keep x2 b1
  have y3 := frozen_keep x1 x3 b1
  have y4 := frozen_keep x2 x4 b1
  have B1 := below_more B0 (Nat.le_refl _) b1
  clear x1 x2 x3 x4 B0 b1
  have HB := Lib.hid (fun (u v : Value) => (B1.setCell (p := ⟨w.heap.size, 0, none⟩) (Nat.le_refl _) u).setCell (p := ⟨w.heap.size, 1, none⟩) (Nat.le_refl _) v)
  have hsz : w.heap.size < W1.heap.size := World.block_lt_of_cell? W1 ⟨w.heap.size, 0, none⟩ y1
  by_cases hz0 : z = 0
  · subst hz0
    have h1 : sg 0 = false := by decide
    have h2 : mg 0 = ⟨#[]⟩ := by unfold mg; rw [show (0 : Int).natAbs = 0 by rfl, bytesOf_zero]
    rw [h1, h2]
    have HP := Lib.hid (show prZ 0 = [48] from rfl)
    clear h1 h2
    go_wp2
    go_ret
    exact ⟨by rw [HP.out]; rfl, HB.out _ _⟩
  · obtain ⟨N, HN⟩ : ∃ N, Hid (z.natAbs = N) := ⟨_, Lib.hid rfl⟩
    have hN0 : N ≠ 0 := by rw [← HN.out]; omega
    have hm : mg z = ⟨(bytesOf N).toArray⟩ := by unfold mg; rw [HN.out]
    have hne : bytesOf N ≠ [] := fun e => hN0 (bytesOf_nil.1 e)
    have hv := Lib.hid (vB_bytesOf N)
    rw [HN.out] at hL9
    have hhead := Lib.hid (show (bytesOf N).head? ≠ some 0 by have h := head_trim (bytesOf N); rwa [trim_bytes, vB_bytesOf] at h)
    rw [hm]
    obtain ⟨G, HG⟩ : ∃ G, Hid (sg z = G) := ⟨_, Lib.hid rfl⟩
    rw [HG.out]
    generalize bytesOf N = L at *
    have hLe : (L == []) = false := beq_eq_false_iff_ne.2 hne
    have hcv := fun W => run_bytes_of_string (P := Tryz.prog) W 9 59 5 ⟨L.toArray⟩ Tryz.underlying9 Tryz.underlying59 Tryz.underlying5
    have hst : ∀ (W : World) (cap : Nat), BRow (W.alloc (.cells (bytesRow ⟨L.toArray⟩ cap) 5 ((bytesRow ⟨L.toArray⟩ cap).size, (bytesRow ⟨L.toArray⟩ cap).size + 1))) W.heap.size L.length (brow L) := fun W cap => BRow.made W L cap _ _ (bytesRow_size L cap)
    have Hst := Lib.hid hst
    have HY := Lib.hid y1
    clear hm hz0 hst
    obtain ⟨n, hn⟩ : ∃ n, L.length = n := ⟨_, rfl⟩
    have Hn := Lib.hid hn
    have hn6 : n ≤ 1000000 := by omega
    obtain ⟨bk, Hbk⟩ : ∃ b, Hid (W1.heap.size = b) := ⟨_, Lib.hid rfl⟩
    obtain ⟨W2, HW2⟩ : ∃ W2, Hid ((W1.setCell ⟨w.heap.size, 0, none⟩ (.bool G)).setCell ⟨w.heap.size, 1, none⟩ (.string ⟨L.toArray⟩) = W2) := ⟨_, Lib.hid rfl⟩
    have BW2 := HB.out (.bool G) (.string ⟨L.toArray⟩)
    rw [HW2.out] at BW2
    have hw2 : W2.heap.size = bk := by rw [← HW2.out, World.size_setCell, World.size_setCell]; exact Hbk.out
    have c2 : W2.cell? ⟨w.heap.size, 0, none⟩ = some (.bool G) := by rw [← HW2.out]; simp [go_sem, y1]
    have c3 : W2.cell? ⟨w.heap.size, 1, none⟩ = some (.string ⟨L.toArray⟩) := by rw [← HW2.out]; simp [go_sem, y1, y2]
    have hbk : w.heap.size < bk := by rw [← Hbk.out]; exact hsz
    obtain ⟨i0, hi, hz0, hz1, hz2⟩ := info_parts Tryz.infoU8
    clear hsz hL9 hne
    go_upto_region 2 with fail
    rw [HW2.out]
    clear y1 y2 y3 y4 B1 HB
    go_wp2_with fail
    have R0 := Hst.out W2 (grownCap W2 n 0 5)
    rw [hw2, Hn.out] at R0
    have C0 := cell_alloc_keep c2 (.cells (bytesRow ⟨L.toArray⟩ (grownCap W2 n 0 5)) 5 ((bytesRow ⟨L.toArray⟩ (grownCap W2 n 0 5)).size, (bytesRow ⟨L.toArray⟩ (grownCap W2 n 0 5)).size + 1))
    have B2 : Below w.heap.size w ((W2.alloc (.cells (bytesRow ⟨L.toArray⟩ (grownCap W2 n 0 5)) 5 ((bytesRow ⟨L.toArray⟩ (grownCap W2 n 0 5)).size, (bytesRow ⟨L.toArray⟩ (grownCap W2 n 0 5)).size + 1))).drew) := (BW2.alloc BW2.size _).drew
    clear hcv c2 c3 BW2 Hst
    go_loopg [3, 5] N (fun q s3 s5 wx => ∃ (D Lc : List UInt8) (a : Nat), s5 = .int .i64 (a : Int) ∧ a ≤ n ∧ Lc.length = n ∧ Hid (vB Lc = q ∧ vB (Lc.take a) = 0 ∧ (a < n → ∃ c, Lc[a]? = some c ∧ c ≠ 0) ∧ D.all digB = true ∧ N = q * 10 ^ D.length + dlow D ∧ (q = 0 → ∃ D' c, D = D' ++ [c] ∧ c.toNat ≠ 48) ∧ D.length ≤ 3000000) ∧ BRow wx bk n (brow Lc) ∧ wx.cell? ⟨w.heap.size, 0, none⟩ = some (.bool G) ∧ wx.ownsRow (bk + 1) 5 1 s3 D.length (bvs D) ∧ Below w.heap.size w wx ∧ bk < wx.heap.size)
    case atStart =>
      refine ⟨[], L, 0, rfl, Nat.zero_le _, Hn.out, ⟨hv.out, rfl, fun h => ?_, rfl, by simp [dlow], fun e => absurd e hN0, by simp⟩, R0.drew, C0, World.ownsRow_nil _ _ _ _, B2, R0.1⟩
      cases L with
      | nil => simp at hLe
      | cons c t => exact ⟨c, rfl, fun e => hhead.out (by rw [e]; rfl)⟩
    case round =>
      clear R0 C0 B2
      obtain ⟨D, Lc, a, rfl, han, hLc, HI, hrow, hc, hown, hbl, hbs⟩ := hrel
      by_cases ha : a < n
      · obtain ⟨c0, hc0, hc00⟩ := HI.out.2.2.1 ha
        have hq0 : gk ≠ 0 := by rw [← HI.out.1]; exact vB_pos hc0 hc00
        clear hc0 hc00
        obtain ⟨M, hM⟩ : ∃ M, M = gk := ⟨_, rfl⟩
        subst hM
        have HQ0 := Lib.hid hq0
        clear hq0
        go_wp2_with fail
        go_loopg [6, 7] (n - a) (fun q2 s6 s7 wx => ∃ (i r : Nat) (Q : List UInt8), i + q2 = n ∧ a ≤ i ∧ s7 = .int .i64 (i : Int) ∧ s6 = .int .i64 (r : Int) ∧ r < 10 ∧ Q.length = i ∧ Hid (vB (Lc.take i) = 10 * vB Q + r ∧ vB (Q.take a) = 0) ∧ BRow wx bk n (brow (Q ++ Lc.drop i)) ∧ wx.cell? ⟨w.heap.size, 0, none⟩ = some (.bool G) ∧ wx.ownsRow (bk + 1) 5 1 u3 D.length (bvs D) ∧ Below w.heap.size w wx ∧ bk < wx.heap.size)
        case atStart =>
          refine ⟨a, 0, Lc.take a, by omega, Nat.le_refl _, rfl, rfl, by omega, by rw [List.length_take]; omega, ⟨by rw [HI.out.2.1], by rw [List.take_take, Nat.min_self]; exact HI.out.2.1⟩, by rw [List.take_append_drop]; exact hrow, hc, hown, hbl, hbs⟩
        case round =>
          clear hrow hc hown hbl hbs
          obtain ⟨i, r, Q, hi2, hai, rfl, rfl, hr, hQ, HJ, hrow, hc, hown, hbl, hbs⟩ := hrel
          rcases gk with _ | q2
          · obtain rfl : i = n := by omega
            have hdr : Lc.drop i = [] := List.drop_eq_nil_of_le (by omega)
            rw [hdr, List.append_nil] at hrow
            obtain ⟨d, Hdd⟩ : ∃ d, Hid (UInt8.ofNat (48 + r) = d) := ⟨_, Lib.hid rfl⟩
            have hd48 : d.toNat = 48 + r := by rw [← Hdd.out]; exact toNat_of8 (by omega)
            have hM : M = 10 * vB Q + r := by
              have h := HJ.out.1
              rw [List.take_of_length_le (by omega), HI.out.1] at h
              exact h
            have hDl : D.length < 3000000 := by
              have h1 := HI.out.2.2.2.2.1
              have h2 : 1 * 10 ^ D.length ≤ M * 10 ^ D.length := Nat.mul_le_mul_right _ (by have := HQ0.out; omega)
              have h3 : N < 256 ^ i := by rw [← hv.out, ← Hn.out]; exact vB_lt L
              have h4 : (256 : Nat) ^ i ≤ 1000 ^ i := Nat.pow_le_pow_left (by omega) _
              have h5 : (1000 : Nat) ^ i = 10 ^ (3 * i) := by rw [show (1000 : Nat) = 10 ^ 3 by rfl, ← Nat.pow_mul]
              have h6 : 10 ^ D.length < 10 ^ (3 * i) := by omega
              have h7 := (Nat.pow_lt_pow_iff_right (show 1 < 10 by omega)).1 h6
              omega
            have HI2 := Lib.hid (show D ++ [d] = D ++ [d] ∧ (D ++ [d]).all digB = true ∧ N = vB Q * 10 ^ (D ++ [d]).length + dlow (D ++ [d]) ∧ (vB Q = 0 → ∃ D' c, D ++ [d] = D' ++ [c] ∧ c.toNat ≠ 48) ∧ (D ++ [d]).length ≤ 3000000 ∧ vB Q < M by
              obtain ⟨i1, i2, i3, i4, i5, i6, i7⟩ := HI.out
              refine ⟨rfl, by rw [← Hdd.out]; exact dg_all i4 hr, ?_, fun h0 => ⟨D, d, rfl, ?_⟩, by rw [List.length_append, List.length_singleton]; omega, ?_⟩
              · rw [dlow_snoc, hd48, List.length_append, List.length_singleton, Nat.pow_succ, i5, hM, Nat.add_mul]
                have e1 : 10 * vB Q * 10 ^ D.length = vB Q * (10 ^ D.length * 10) := by rw [Nat.mul_comm 10, Nat.mul_assoc, Nat.mul_comm 10]
                rw [e1, show 48 + r - 48 = r by omega]
                omega
              · have := HQ0.out
                rw [h0] at hM
                omega
              · have := HQ0.out
                omega)
            have hv48 := Lib.hid (show (48 + (r : Int)) = (d.toNat : Int) by rw [hd48]; omega)
            have hd48 := Lib.hid hd48
            have hlt := hown.lt
            have HZQ := Lib.hid HJ.out.2
            clear HJ HI hdr hM hi2 Hdd
            go_wp2_with (first | (at_builtin; refine wpList_append_own_at _ rfl _ _ 59 rfl (bk + 1) 5 i0 (.int .u8 0) 1 1 Tryz.underlying59 hi hz0 hz1 hz2 rfl (by decide) _ _ _ rfl (hown.alloc _) ⟨wr.heap.size, 0, none⟩ 1 1 [.int .u8 (48 + (r : Int))] rfl rfl ?c1 ?c2 ?c3 ?c4 ?c5 ?_))
            case c2 => rfl
            case c3 => unfold maxLen; omega
            case c4 => omega
            case c5 => omega
            · intro v' W4 hown2 hgrow _ hv'
              have hne : some bk ≠ u3.ownBlock := fun e => by have := (hlt _ e.symm).1; omega
              have hne2 : some w.heap.size ≠ u3.ownBlock := fun e => by have := (hlt _ e.symm).1; omega
              have hrow4 := (hrow.keep (below1 wr (.cells #[.int .u8 (48 + (r : Int))] 5))).grown hgrow hne
              have hc4 : W4.cell? ⟨w.heap.size, 0, none⟩ = some (.bool G) := cell_grown (cell_alloc_keep hc (.cells #[.int .u8 (48 + (r : Int))] 5)) hgrow hne2
              have hlt1 := (hown.alloc (.cells #[.int .u8 (48 + (r : Int))] 5)).lt
              have hbl4 : Below w.heap.size w W4 := ((hbl.alloc hbl.size _).grown hgrow (by rw [World.size_alloc]; have := hbl.size; omega) (fun k hk => by have := (hlt1 k hk).1; omega))
              have hbs4 : bk < W4.heap.size := hrow4.1
              rw [hv48.out, ← bvs_snoc] at hown2
              have hl : D.length + 1 = (D ++ [d]).length := by simp
              rw [hl] at hown2
              clear hrow hc hown hgrow hv' hlt hlt1 hbl hne hne2 hbs hl
              go_wp2_with fail
              go_loopg [5] (i - a) (fun q3 s5 wx => ∃ b : Nat, b + q3 = i ∧ s5 = .int .i64 (b : Int) ∧ Hid (vB (Q.take b) = 0) ∧ wx = W4)
              case atStart => exact ⟨a, by omega, rfl, HZQ, rfl⟩
              case round =>
                obtain ⟨b, hb, rfl, HB0, hwx⟩ := hrel
                subst hwx
                rcases gk with _ | q3
                · obtain rfl : b = i := by omega
                  clear hb
                  go_wp2_with fail
                  go_roundg (vB Q)
                  case measure => exact HI2.out.2.2.2.2.2
                  case rel => exact ⟨D ++ [d], Q, b, rfl, Nat.le_refl _, hQ, ⟨rfl, HB0.out, fun h => absurd h (by omega), HI2.out.2.1, HI2.out.2.2.1, HI2.out.2.2.2.1, HI2.out.2.2.2.2.1⟩, hrow4, hc4, hown2, hbl4, hbs4⟩
                · have Hb := Lib.hid hb
                  have hbi : b < i := by omega
                  obtain ⟨c, hcc⟩ : ∃ c, Q[b]? = some c := ⟨_, List.getElem?_eq_getElem (by omega)⟩
                  have hcell : wr.cell? ⟨bk, b, none⟩ = some (.int .u8 (c.toNat : Int)) := by rw [(hrow4.2 b hbi).1, brow_at hcc]
                  by_cases h0 : c = 0
                  · subst h0
                    have HB1 := Lib.hid (zero_more HB0.out hcc)
                    clear hb hcc
                    go_wp2_with fail
                    go_roundg q3
                    case measure => omega
                    case rel => exact ⟨b + 1, by have := Hb.out; omega, by go_num, HB1, rfl⟩
                  · have hcn : ((c.toNat : Int) == 0) = false := by
                      rw [beq_eq_false_iff_ne]
                      intro e
                      exact h0 (UInt8.toNat_inj.1 (by simpa using (by omega : c.toNat = 0)))
                    have HX := Lib.hid (show ∃ c, Q[b]? = some c ∧ c ≠ 0 from ⟨c, hcc, h0⟩)
                    clear hb hcc h0
                    go_wp2_with fail
                    go_roundg (vB Q)
                    case measure => exact HI2.out.2.2.2.2.2
                    case rel => exact ⟨D ++ [d], Q, b, rfl, Nat.le_of_lt hbi, hQ, ⟨rfl, HB0.out, fun _ => HX.out, HI2.out.2.1, HI2.out.2.2.1, HI2.out.2.2.2.1, HI2.out.2.2.2.2.1⟩, hrow4, hc4, hown2, hbl4, hbs4⟩
          · have Hi2 := Lib.hid hi2
            have hin : i < n := by omega
            obtain ⟨c, hcc⟩ : ∃ c, Lc[i]? = some c := ⟨_, List.getElem?_eq_getElem (by omega)⟩
            obtain ⟨hx1, hx2, hx3⟩ := dstep10 HJ.out.1 hcc hr
            have HX3 := Lib.hid hx3
            have hcell : wr.cell? ⟨bk, i, none⟩ = some (.int .u8 (c.toNat : Int)) := by
              rw [(hrow.2 i hin).1]
              unfold brow
              rw [getD_app_ge (by omega), hQ, Nat.sub_self, List.getD_eq_getElem?_getD, List.getElem?_drop, Nat.add_zero, hcc]; rfl
            have hf := (hrow.2 i hin).2
            have hc8 := c.toNat_lt
            have HZ := Lib.hid (show vB ((Q ++ [UInt8.ofNat ((r * 256 + c.toNat) / 10)]).take a) = 0 by rw [List.take_append_of_le_length (by omega)]; exact HJ.out.2)
            have w1 : IntKind.i64.wrap ((r : Int) * 256) = (r : Int) * 256 := IntWalk.i64_in _ (by omega)
            obtain ⟨x, Hx⟩ : ∃ x, Hid (r * 256 + c.toNat = x) := ⟨_, Lib.hid rfl⟩
            have ho : bits .or .i64 ((r : Int) * 256) ((c.toNat : Nat) : Int) = (x : Int) := by rw [← Hx.out]; exact i64_or_256 r c.toNat (by omega) (by omega)
            rw [Hx.out] at hx1 hx2 HX3 HZ
            obtain ⟨y, Hy⟩ : ∃ y, Hid (x / 10 = y) := ⟨_, Lib.hid rfl⟩
            obtain ⟨r2, Hr2⟩ : ∃ y, Hid (x % 10 = y) := ⟨_, Lib.hid rfl⟩
            have hq1 : Int.tdiv (x : Int) 10 = (y : Int) := by rw [← Hy.out]; rfl
            have hq2 : (x : Int) / 10 = (y : Int) := by rw [← Hy.out]; omega
            have hm1 : Int.tmod (x : Int) 10 = (r2 : Int) := by rw [← Hr2.out]; rfl
            have hm2 : (x : Int) % 10 = (r2 : Int) := by rw [← Hr2.out]; omega
            rw [Hy.out] at hx1 HX3 HZ
            rw [Hr2.out] at hx2 HX3
            have hwy : IntKind.u8.wrap (y : Int) = (y : Int) := by
              have h := u8w1 y
              rw [h, Nat.mod_eq_of_lt hx1]
            have HR := Lib.hid (show BRow (wr.setCell ⟨bk, i, none⟩ (.int .u8 (y : Int))) bk n (brow ((Q ++ [UInt8.ofNat y]) ++ Lc.drop (i + 1))) from brow_set2 hrow hQ (by omega) hin (UInt8.ofNat y) (by rw [toNat_of8 hx1]))
            have HO := Lib.hid (hown.kept (grown_set wr bk i (.int .u8 (y : Int))) (own_ne hown))
            have HC := Lib.hid (show (wr.setCell ⟨bk, i, none⟩ (.int .u8 (y : Int))).cell? ⟨w.heap.size, 0, none⟩ = some (.bool G) by rw [World.cell?_setCell_far _ _ _ _ (by dsimp only; omega)]; exact hc)
            clear hrow hown hc hi2 hcc hx3
            go_wp2_with fail
            go_roundg q2
            case measure => omega
            case rel => exact ⟨i + 1, r2, Q ++ [UInt8.ofNat y], by have := Hi2.out; omega, by omega, by go_num, rfl, hx2, by rw [List.length_append, hQ]; rfl, ⟨HX3.out, HZ.out⟩, HR.out, HC.out, HO.out, hbl.setCell (Nat.le_of_lt hbk) _, by rw [World.size_setCell]; exact hbs⟩
      · obtain rfl : a = n := by omega
        obtain ⟨D', c, hDD, hc48⟩ := HI.out.2.2.2.2.2.1 (by
          have h1 := HI.out.1
          have h2 := HI.out.2.1
          rw [List.take_of_length_le (by omega)] at h2
          omega)
        have hq0 : gk = 0 := by
          have h1 := HI.out.1
          have h2 := HI.out.2.1
          rw [List.take_of_length_le (by omega)] at h2
          omega
        have hND : dlow D = N := by
          have h := HI.out.2.2.2.2.1
          rw [hq0] at h
          omega
        have hDl := HI.out.2.2.2.2.2.2
        have HTX := Lib.hid (text_of (z := z) (N := N) (by rw [← hDD]; exact HI.out.2.2.2.1) hc48 (by rw [← hDD]; exact hND))
        rw [← hDD] at HTX
        have hD0 : D ≠ [] := by rw [hDD]; simp
        have hVz := Lib.hid (sg_abs1 z)
        rw [HG.out, HN.out] at hVz
        have hbs9 := hbs
        clear HI hDD hc48 hND hrow hn hbs
        cases G with
        | false =>
          have HT := Lib.hid (HTX.out.1 (by have h := hVz.out; simpa using h))
          obtain ⟨g0, cap, hu3, hbase, hrow2⟩ := own_row hown hD0
          subst hu3
          clear hown
          obtain ⟨m, hm⟩ : ∃ m, (D).length = m := ⟨_, rfl⟩
          rw [hm] at hrow2
          have hm0 : 0 < m := by rw [← hm]; exact List.length_pos_iff.2 hD0
          have hm9 : m ≤ 3000001 := by
            have h9 := hm
            first
              | omega
              | (rw [List.length_append, List.length_singleton] at h9; omega)
          have Hm := Lib.hid hm
          rw [hm]
          clear hm
          go_wp2_with fail
          go_loopg [8, 9] m (fun q s8 s9 wx => ∃ i k : Nat, i + k + 1 = m ∧ q = k + 1 ∧ i ≤ k + 1 ∧ s8 = .int .i64 (i : Int) ∧ s9 = .int .i64 (k : Int) ∧ BRow wx g0 m (rrow (D) i) ∧ Below w.heap.size w wx)
          case atStart => exact ⟨0, m - 1, by omega, by omega, by omega, rfl, by congr 1 <;> omega, hrow2.congr (fun p hp => rrow_zero _ (by rw [Hm.out]; exact hp)), hbl⟩
          case round =>
            clear hrow2 hbl
            obtain ⟨i, k, hik1, rfl, hik2, rfl, rfl, hrow2, hbl⟩ := hrel
            by_cases hik : i < k
            · obtain ⟨k, rfl⟩ : ∃ k', k = k' + 1 := ⟨k - 1, by omega⟩
              obtain ⟨x, hx⟩ : ∃ x : Nat, brow (D) i = .int .u8 (x : Int) := ⟨_, rfl⟩
              obtain ⟨y, hy⟩ : ∃ x : Nat, brow (D) (k + 1) = .int .u8 (x : Int) := ⟨_, rfl⟩
              have hc1 : wr.cell? ⟨g0, i, none⟩ = some (.int .u8 (x : Int)) := by
                rw [(hrow2.2 i (by omega)).1, rrow, if_neg (by rw [Hm.out]; omega), hx]
              have hc2 : wr.cell? ⟨g0, k + 1, none⟩ = some (.int .u8 (y : Int)) := by
                rw [(hrow2.2 (k + 1) (by omega)).1, rrow, if_neg (by rw [Hm.out]; omega), hy]
              have hf1 := (hrow2.2 i (by omega)).2
              have hf2 := (hrow2.2 (k + 1) (by omega)).2
              have HS := Lib.hid (show BRow ((wr.setCell ⟨g0, i, none⟩ (.int .u8 (y : Int))).setCell ⟨g0, k + 1, none⟩ (.int .u8 (x : Int))) g0 m (rrow (D) (i + 1)) by
                have h := rrow_step (W := wr) (g := g0) (i := i) (k := k + 1) (D := D) (by rw [Hm.out]; exact hrow2) (by rw [Hm.out]; omega) hik
                rw [hx, hy, Hm.out] at h
                exact h)
              have Hik := Lib.hid hik1
              have hne9 : i ≠ k + 1 := by omega
              have hle1 : i < m := by omega
              have hle2 : k + 1 < m := by omega
              clear hik1 hx hy hrow2
              go_upto_region 23 with fail
              go_big_region
              all_goals
                go_wp2_with fail
                go_roundg (k + 1)
                case measure => omega
                case rel => exact ⟨i + 1, k, by have := Hik.out; omega, rfl, by omega, by go_num, by go_num, HS.out.drew, ((hbl.setCell (by dsimp only; omega) _).setCell (by dsimp only; omega) _).drew⟩
            · have hcells : BRow wr g0 m (brow (D).reverse) := hrow2.congr (fun p hp => rrow_end (by rw [Hm.out]; exact hik1) hik (by rw [Hm.out]; exact hp))
              have hcv := run_string_of wr g0 0 cap (D).reverse (fun i u hu => brow_cells hcells (by rw [List.length_reverse, Hm.out]) i u hu)
              rw [List.length_reverse, Hm.out] at hcv
              obtain ⟨T, HT9⟩ : ∃ T, Hid ((D).reverse = T) := ⟨_, Lib.hid rfl⟩
              rw [HT9.out] at hcv
              clear hik1 hrow2 hcells
              go_wp2_with fail
              go_ret
              exact ⟨by rw [HT.out, HT9.out]; rfl, hbl⟩
        | true =>
          have HT := Lib.hid (HTX.out.2 (by have h := hVz.out; simpa using h))
          have hlt := hown.lt
          go_wp2_with (first | (at_builtin; refine wpList_append_own_at _ rfl _ _ 59 rfl (bk + 1) 5 i0 (.int .u8 0) 1 1 Tryz.underlying59 hi hz0 hz1 hz2 rfl (by decide) _ _ _ rfl (hown.alloc _) ⟨wr.heap.size, 0, none⟩ 1 1 [.int .u8 45] rfl rfl ?d1 ?d2 ?d3 ?d4 ?d5 ?_))
          case d2 => rfl
          case d3 => unfold maxLen; omega
          case d4 => omega
          case d5 => have := hbl.size; first | omega | exact Nat.le_of_lt hbs9
          · intro v' W4 hown2 hgrow _ hv'
            have hlt1 := (hown.alloc (.cells #[.int .u8 45] 5)).lt
            have hbl := ((hbl.alloc hbl.size _).grown hgrow (by rw [World.size_alloc]; have := hbl.size; omega) (fun k hk => by have := (hlt1 k hk).1; omega))
            rw [show ([.int .u8 45] : List Value) = [.int .u8 (((45 : UInt8).toNat : Nat) : Int)] from rfl, ← bvs_snoc] at hown2
            have hl : D.length + 1 = (D ++ [45]).length := by simp
            rw [hl] at hown2
            have hD0 : D ++ [45] ≠ [] := by simp
            obtain ⟨g0, cap, hu3, hbase, hrow2⟩ := own_row hown2 hD0
            subst hu3
            clear hown hown2 hgrow hv' hlt hlt1 hl
            obtain ⟨m, hm⟩ : ∃ m, (D ++ [45]).length = m := ⟨_, rfl⟩
            rw [hm] at hrow2
            have hm0 : 0 < m := by rw [← hm]; exact List.length_pos_iff.2 hD0
            have hm9 : m ≤ 3000001 := by
              have h9 := hm
              first
                | omega
                | (rw [List.length_append, List.length_singleton] at h9; omega)
            have Hm := Lib.hid hm
            rw [hm]
            clear hm
            go_wp2_with fail
            go_loopg [8, 9] m (fun q s8 s9 wx => ∃ i k : Nat, i + k + 1 = m ∧ q = k + 1 ∧ i ≤ k + 1 ∧ s8 = .int .i64 (i : Int) ∧ s9 = .int .i64 (k : Int) ∧ BRow wx g0 m (rrow (D ++ [45]) i) ∧ Below w.heap.size w wx)
            case atStart => exact ⟨0, m - 1, by omega, by omega, by omega, rfl, by congr 1 <;> omega, hrow2.congr (fun p hp => rrow_zero _ (by rw [Hm.out]; exact hp)), hbl⟩
            case round =>
              clear hrow2 hbl
              obtain ⟨i, k, hik1, rfl, hik2, rfl, rfl, hrow2, hbl⟩ := hrel
              by_cases hik : i < k
              · obtain ⟨k, rfl⟩ : ∃ k', k = k' + 1 := ⟨k - 1, by omega⟩
                obtain ⟨x, hx⟩ : ∃ x : Nat, brow (D ++ [45]) i = .int .u8 (x : Int) := ⟨_, rfl⟩
                obtain ⟨y, hy⟩ : ∃ x : Nat, brow (D ++ [45]) (k + 1) = .int .u8 (x : Int) := ⟨_, rfl⟩
                have hc1 : wr.cell? ⟨g0, i, none⟩ = some (.int .u8 (x : Int)) := by
                  rw [(hrow2.2 i (by omega)).1, rrow, if_neg (by rw [Hm.out]; omega), hx]
                have hc2 : wr.cell? ⟨g0, k + 1, none⟩ = some (.int .u8 (y : Int)) := by
                  rw [(hrow2.2 (k + 1) (by omega)).1, rrow, if_neg (by rw [Hm.out]; omega), hy]
                have hf1 := (hrow2.2 i (by omega)).2
                have hf2 := (hrow2.2 (k + 1) (by omega)).2
                have HS := Lib.hid (show BRow ((wr.setCell ⟨g0, i, none⟩ (.int .u8 (y : Int))).setCell ⟨g0, k + 1, none⟩ (.int .u8 (x : Int))) g0 m (rrow (D ++ [45]) (i + 1)) by
                  have h := rrow_step (W := wr) (g := g0) (i := i) (k := k + 1) (D := D ++ [45]) (by rw [Hm.out]; exact hrow2) (by rw [Hm.out]; omega) hik
                  rw [hx, hy, Hm.out] at h
                  exact h)
                have Hik := Lib.hid hik1
                have hne9 : i ≠ k + 1 := by omega
                have hle1 : i < m := by omega
                have hle2 : k + 1 < m := by omega
                clear hik1 hx hy hrow2
                go_upto_region 23 with fail
                go_big_region
                all_goals
                  go_wp2_with fail
                  go_roundg (k + 1)
                  case measure => omega
                  case rel => exact ⟨i + 1, k, by have := Hik.out; omega, rfl, by omega, by go_num, by go_num, HS.out.drew, ((hbl.setCell (by dsimp only; omega) _).setCell (by dsimp only; omega) _).drew⟩
              · have hcells : BRow wr g0 m (brow (D ++ [45]).reverse) := hrow2.congr (fun p hp => rrow_end (by rw [Hm.out]; exact hik1) hik (by rw [Hm.out]; exact hp))
                have hcv := run_string_of wr g0 0 cap (D ++ [45]).reverse (fun i u hu => brow_cells hcells (by rw [List.length_reverse, Hm.out]) i u hu)
                rw [List.length_reverse, Hm.out] at hcv
                obtain ⟨T, HT9⟩ : ∃ T, Hid ((D ++ [45]).reverse = T) := ⟨_, Lib.hid rfl⟩
                rw [HT9.out] at hcv
                clear hik1 hrow2 hcells
                go_wp2_with fail
                go_ret
                exact ⟨by rw [HT.out, HT9.out]; rfl, hbl⟩
end Go.Proofs.YtgcogpfmhmmgdaaGreatDoor
