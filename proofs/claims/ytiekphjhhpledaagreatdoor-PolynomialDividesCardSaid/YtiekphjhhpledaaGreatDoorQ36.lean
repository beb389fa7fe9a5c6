/- Lists of integers among a law's arguments, opened. No condition. What integer.isDecimal, integer.fromDecimal and integer.Parse return. Condition: the text has at most 65536 bytes (Parse), else ErrLimit. The decimal text of an integer and its digits: what Print writes, Parse reads; what Parse reads, Print writes. -/
import Derived.Test.YtiekphjhhpledaaGreatDoorQ35
import Derived.Test.YtiekphjhhpledaaGreatDoorQ33
import Derived.Deep.SlicePairs
import Derived.Carry
import Derived.Test.YtiekphjhhpledaaGreatDoorQ11
import Derived.Test.YtiekphjhhpledaaGreatDoorQ08
import Derived.Test.YtiekphjhhpledaaGreatDoorQ15

namespace Go.Proofs.YtiekphjhhpledaaGreatDoor
open Go.ChangeShapes Go.WideShapes Go.ChangeAt Go.RowKit Go.Deep
set_option maxRecDepth 100000

theorem Tryz.laidOut : laidOutB Tryz.prog = true := by kernel_rfl
def boolOf : Value → Bool
  | .bool b => b
  | _ => false
def strOf : Value → ByteArray
  | .string s => s
  | _ => ⟨#[]⟩
theorem cellBool : Tryz.prog.cellsOf 4 = 1 := by kernel_rfl
theorem cellStr : Tryz.prog.cellsOf 9 = 1 := by kernel_rfl
theorem poly_open {H : Type} {enc : TypeId × Value → H} {W : World} {v : Value} {d : DataW H} {p : List MemPlace} (hv : Value.okWide Tryz.prog W .any 0 22 v)
    (h : DataW.Trod enc Tryz.prog W 0 (fun _ => true) true 22 v d p) :
    ∃ n g s, ArgV W v n g s ∧ n ≤ 9223372036854775807 ∧ ∀ i, i < n → (s i).size ≤ 9223372036854775807 := by
  obtain ⟨a0, len0, cap0, rfl⟩ := okWide_slice Tryz.underlying22 hv
  obtain ⟨fuel, hf⟩ := h
  rcases open_slice_pairs Tryz.underlying22 Tryz.underlying31 cellsInt rfl rfl cellBool cellStr hf with ⟨hc, -⟩ | ⟨a, len, cap, m, k, V0, V1, D0, D1, P0, P1, hc, -, hl, hm, hmm, -, hall⟩
  · simp [Value.cells] at hc
    obtain ⟨rfl, rfl, rfl⟩ := hc
    exact ⟨0, fun _ => false, fun _ => ⟨#[]⟩, ⟨none, 0, rfl, Nat.le_refl _, fun i hi => absurd hi (Nat.not_lt_zero _)⟩, Nat.zero_le _, fun i hi => absurd hi (Nat.not_lt_zero _)⟩
  · simp [Value.cells] at hc
    obtain ⟨rfl, rfl, rfl⟩ := hc
    simp only [if_true] at hmm
    have hcap : cap0 ≤ 9223372036854775807 := by unfold maxLen at hm; exact hm
    have hb : ∀ i, i < len0 → V0 i = .bool (boolOf (V0 i)) ∧ V1 i = .string (strOf (V1 i)) ∧ (strOf (V1 i)).size ≤ 9223372036854775807 := fun i hi => by
      obtain ⟨-, -, h0, h1⟩ := hall i (by omega)
      obtain ⟨g, e0, -⟩ := DataW.trod_bool Tryz.underlying4 h0
      obtain ⟨s, e1, -, hs⟩ := DataW.trod_string Tryz.underlying9 h1
      simp at e0 e1
      rw [e0, e1]
      exact ⟨rfl, rfl, by unfold maxLen at hs; exact hs⟩
    refine ⟨len0, fun i => boolOf (V0 i), fun i => strOf (V1 i), ⟨some a, cap0, rfl, hl, fun i hi => ⟨a, rfl, ?_, ?_⟩⟩, by omega, fun i hi => (hb i hi).2.2⟩
    · rw [(hall i (by omega)).1, (hb i hi).1]
    · have hsp := World.cell?_spot (hall 0 (by omega)).1
      obtain ⟨ab, ao, sp⟩ := a
      obtain rfl : sp = none := by simpa [Addr.add] using hsp
      have e : (⟨((⟨ab, ao, none⟩ : Addr).add (i * 2)).block, ((⟨ab, ao, none⟩ : Addr).add (i * 2)).off + 1, none⟩ : Addr) = (⟨ab, ao, none⟩ : Addr).add (i * 2 + 1) := by
        by_cases h0 : i = 0
        · subst h0; simp [Addr.add]
        · unfold Addr.add
          rw [if_neg (by omega), if_neg (by omega)]
          simp [Nat.add_assoc]
      rw [e, (hall i (by omega)).2.1, (hb i hi).2.1]
theorem poly_keep {H : Type} {enc : TypeId × Value → H} {W W' : World} {v : Value} {d : DataW H} {p : List MemPlace} (h : DataW.Trod enc Tryz.prog W 0 (fun _ => true) true 22 v d p) (hb : Below W.heap.size W W') (hlt : ∀ x ∈ p, x.block < W.heap.size) :
    DataW.Trod enc Tryz.prog W' 0 (fun b => decide (b < W.heap.size)) true 22 v d p :=
  Below.trod Tryz.laidOut (by kernel_rfl) (of_decide_eq_true (by kernel_rfl)) h hb hlt
theorem noStandP : Tryz.prog.wantsStandIn 22 = false := by kernel_rfl
end Go.Proofs.YtiekphjhhpledaaGreatDoor

namespace Go.Proofs.YtiekphjhhpledaaGreatDoor
open Go.RowKit

/-! What integer.isDecimal and integer.fromDecimal return: whether a text is a number's digits; the number. Condition: the text's length. -/
def digB (c : UInt8) : Bool := decide (48 ≤ c.toNat) && decide (c.toNat ≤ 57)
/-- The digits of a number from 0 on, without zeros in front. -/
def isDec : List UInt8 → Bool
  | [] => false
  | b :: t => !(decide (t ≠ []) && decide (b.toNat = 48)) && (b :: t).all digB
theorem all_take_succ {l : List UInt8} {k : Nat} {c : UInt8} (h : (l.take k).all digB = true) (hc : l[k]? = some c) (hd : digB c = true) : (l.take (k + 1)).all digB = true := by
  rw [List.take_add_one, hc, List.all_append, h]; simp [hd]
theorem not_all {l : List UInt8} {k : Nat} {c : UInt8} (hc : l[k]? = some c) (hd : digB c = false) : l.all digB = false := by
  rw [Bool.eq_false_iff]
  intro h
  have := List.all_eq_true.1 h c (List.mem_of_getElem? hc)
  rw [hd] at this; cases this
theorem isDec_no {l : List UInt8} (h : l.all digB = false) : isDec l = false := by
  cases l with
  | nil => rfl
  | cons b t => show (!(decide (t ≠ []) && decide (b.toNat = 48)) && (b :: t).all digB) = false; rw [h, Bool.and_false]


/-- The number with some decimal digits. -/
def dv (l : List UInt8) : Nat := l.foldl (fun a c => 10 * a + (c.toNat - 48)) 0
theorem dv_acc (l : List UInt8) (a : Nat) : l.foldl (fun a c => 10 * a + (c.toNat - 48)) a = a * 10 ^ l.length + dv l := by
  induction l generalizing a with
  | nil => simp [dv]
  | cons c l ih =>
    unfold dv
    rw [List.foldl_cons, List.foldl_cons, ih, ih (10 * 0 + _), List.length_cons, Nat.pow_succ, Nat.add_mul, Nat.mul_zero, Nat.zero_add]
    rw [show 10 * a * 10 ^ l.length = a * (10 ^ l.length * 10) by rw [Nat.mul_comm 10 a, Nat.mul_assoc, Nat.mul_comm 10]]
    omega
theorem dv_append (l m : List UInt8) : dv (l ++ m) = dv l * 10 ^ m.length + dv m := by
  conv => lhs; unfold dv
  rw [List.foldl_append, dv_acc]; rfl
theorem dv_snoc (l : List UInt8) (c : UInt8) : dv (l ++ [c]) = 10 * dv l + (c.toNat - 48) := by
  rw [dv_append]; simp [dv]; omega
theorem dv_cons (c : UInt8) (l : List UInt8) : dv (c :: l) = (c.toNat - 48) * 10 ^ l.length + dv l := by
  have := dv_append [c] l
  simpa [dv] using this
theorem dv_lt {l : List UInt8} (h : l.all digB = true) : dv l < 10 ^ l.length := by
  induction l with
  | nil => simp [dv]
  | cons c l ih =>
    rw [List.all_cons, Bool.and_eq_true] at h
    have h1 := ih h.2
    have h2 : c.toNat - 48 ≤ 9 := by have := h.1; simp [digB] at this; omega
    have h3 := Nat.mul_le_mul_right (10 ^ l.length) h2
    rw [dv_cons, List.length_cons, Nat.pow_succ]
    omega
theorem all_take {l : List UInt8} (h : l.all digB = true) (k : Nat) : (l.take k).all digB = true := by
  rw [List.all_eq_true] at h ⊢
  exact fun x hx => h x (List.mem_of_mem_take hx)
theorem all_drop {l : List UInt8} (h : l.all digB = true) (k : Nat) : (l.drop k).all digB = true := by
  rw [List.all_eq_true] at h ⊢
  exact fun x hx => h x (List.mem_of_mem_drop hx)
theorem dv_big {l : List UInt8} (h : l.all digB = true) : dv l < 4294967296 ^ l.length := Nat.lt_of_lt_of_le (dv_lt h) (Nat.pow_le_pow_left (by omega) _)
theorem run_cut_bytes (l g : List UInt8) (a b : Nat) (za zb : Int) (hz : za = (a : Int)) (hy : zb = (b : Int)) (h1 : a ≤ b) (h2 : b ≤ l.length) (hg : (l.drop a).take (b - a) = g) (w : World) :
    (Instr.slice 9 (.string ⟨l.toArray⟩) (some (.int .i64 za)) (some (.int .i64 zb)) none).run Tryz.prog w = .ok (.string ⟨g.toArray⟩) w := by
  subst hz; subst hy
  rw [run_slice_string w 9 ⟨l.toArray⟩ .i64 .i64 a b Tryz.underlying9 (by omega) (by omega) (by simp [ByteArray.size]; omega), Int.toNat_natCast, Int.toNat_natCast, ByteArray.extract_mk, hg]
theorem dig_at {l : List UInt8} {k : Nat} {c : UInt8} (h : l.all digB = true) (hc : l[k]? = some c) : 48 ≤ c.toNat ∧ c.toNat ≤ 57 := by
  have := List.all_eq_true.1 h c (List.mem_of_getElem? hc)
  simp [digB] at this; omega


def cutD (l : List UInt8) : List UInt8 := Lib.trimPrefix l [45]
def cutN (l : List UInt8) : Bool := Lib.hasPrefix l [45]
/-- The integer with a text. -/
def pz (l : List UInt8) : Option Int :=
  if isDec (cutD l) = false ∨ (cutN l = true ∧ cutD l = [48]) then none else some (if cutN l then -(dv (cutD l) : Int) else (dv (cutD l) : Int))
theorem cutD_len (l : List UInt8) : (cutD l).length ≤ l.length := by
  unfold cutD Lib.trimPrefix
  split
  · rw [List.length_drop]; omega
  · exact Nat.le_refl _
theorem isDec_all {l : List UInt8} (h : isDec l = true) : l.all digB = true := by
  cases e : l.all digB with
  | true => rfl
  | false => rw [isDec_no e] at h; cases h



end Go.Proofs.YtiekphjhhpledaaGreatDoor

namespace Go.Proofs.YtiekphjhhpledaaGreatDoor
open Go.RowKit

theorem isDec_cons (b : UInt8) (t : List UInt8) : isDec (b :: t) = (!(decide (t ≠ []) && decide (b.toNat = 48)) && (b :: t).all digB) := rfl
theorem dig_of {c : Nat} (h : c < 10) : (UInt8.ofNat (48 + c)).toNat = 48 + c := by
  rw [UInt8.toNat_ofNat']; omega
theorem dec_facts (u : Nat) : dv (Lib.decDigits u) = u ∧ (Lib.decDigits u).all digB = true ∧ (0 < u → ∃ b t, Lib.decDigits u = b :: t ∧ b.toNat ≠ 48) := by
  induction u using Nat.strongRecOn with
  | _ u ih =>
    by_cases h : u < 10
    · rw [Lib.decDigits_one h]
      refine ⟨by simp [dv]; omega, by simp [digB]; omega, fun h0 => ⟨_, [], rfl, by rw [dig_of h]; omega⟩⟩
    · rw [Lib.decDigits, dif_neg h]
      obtain ⟨h1, h2, h3⟩ := ih (u / 10) (by omega)
      have hm : u % 10 < 10 := Nat.mod_lt _ (by omega)
      obtain ⟨b, t, h4, h5⟩ := h3 (by omega)
      refine ⟨?_, ?_, fun _ => ⟨b, t ++ [UInt8.ofNat (48 + u % 10)], by rw [h4]; rfl, h5⟩⟩
      · rw [dv_snoc, h1, dig_of hm]; omega
      · rw [List.all_append, h2]; simp [digB]; omega
theorem rep_facts (n : Nat) : dv (Lib.repeatL [48] n) = 0 ∧ (Lib.repeatL [48] n).all digB = true := by
  induction n with
  | zero => exact ⟨rfl, rfl⟩
  | succ n ih =>
    have e : Lib.repeatL [48] (n + 1) = (48 : UInt8) :: Lib.repeatL [48] n := rfl
    rw [e]
    exact ⟨by rw [dv_cons, ih.1]; simp, by rw [List.all_cons, ih.2]; rfl⟩
theorem pad_facts (d : Nat) : dv (pad9 d) = d ∧ (pad9 d).all digB = true := by
  unfold pad9
  refine ⟨by rw [dv_append, (rep_facts _).1, (dec_facts d).1]; simp, by rw [List.all_append, (rep_facts _).2, (dec_facts d).2.1]; rfl⟩
theorem pr_facts (N : Nat) : dv (prS (gs N)) = N ∧ (prS (gs N)).all digB = true ∧ (0 < N → ∃ b t, prS (gs N) = b :: t ∧ b.toNat ≠ 48) := by
  induction N using Nat.strongRecOn with
  | _ N ih =>
    by_cases h0 : N = 0
    · subst h0; rw [gs_zero]; exact ⟨rfl, rfl, fun h => absurd h (by omega)⟩
    · have hr := Nat.mod_lt N (show 1000000000 > 0 by omega)
      obtain ⟨h1, h2, h3⟩ := ih (N / 1000000000) (Nat.div_lt_self (by omega) (by omega))
      rw [gs_pos h0, prS]
      by_cases hq : N / 1000000000 = 0
      · rw [hq, gs_zero, if_pos rfl]
        have hN : N % 1000000000 = N := by omega
        rw [hN]
        exact dec_facts N |>.imp_right (fun h => h) |> fun h => by simpa [prS] using h
      · have hg : gs (N / 1000000000) ≠ [] := by rw [gs_pos hq]; simp
        rw [if_neg hg]
        obtain ⟨b, t, h4, h5⟩ := h3 (by omega)
        refine ⟨?_, ?_, fun _ => ⟨b, t ++ pad9 (N % 1000000000), by rw [h4]; rfl, h5⟩⟩
        · rw [dv_append, h1, (pad_facts _).1, pad9_len hr]; omega
        · rw [List.all_append, h2, (pad_facts _).2]; rfl
theorem isDec_pr {N : Nat} (h : 0 < N) : isDec (prS (gs N)) = true := by
  obtain ⟨_, h2, h3⟩ := pr_facts N
  obtain ⟨b, t, h4, h5⟩ := h3 h
  rw [h4] at h2 ⊢
  rw [isDec_cons, h2]; simp [h5]
theorem dv_same : ∀ {l m : List UInt8}, l.length = m.length → l.all digB = true → m.all digB = true → dv l = dv m → l = m
  | [], [], _, _, _, _ => rfl
  | b :: l, c :: m, hl, h1, h2, h => by
    rw [List.all_cons, Bool.and_eq_true] at h1 h2
    have e : l.length = m.length := by simpa using hl
    have a1 := dv_lt h1.2
    have a2 := dv_lt h2.2
    rw [dv_cons, dv_cons, e] at h
    rw [e] at a1
    have b1 := h1.1
    have b2 := h2.1
    simp [digB] at b1 b2
    have hp : 0 < 10 ^ m.length := Nat.pow_pos (by omega)
    have q1 : ((b.toNat - 48) * 10 ^ m.length + dv l) / 10 ^ m.length = b.toNat - 48 := by
      rw [Nat.mul_comm, Nat.mul_add_div hp, Nat.div_eq_of_lt a1, Nat.add_zero]
    have q2 : ((c.toNat - 48) * 10 ^ m.length + dv m) / 10 ^ m.length = c.toNat - 48 := by
      rw [Nat.mul_comm, Nat.mul_add_div hp, Nat.div_eq_of_lt a2, Nat.add_zero]
    have q3 : b.toNat - 48 = c.toNat - 48 := by rw [← q1, ← q2, h]
    have q4 : dv l = dv m := by rw [q3] at h; omega
    have q5 : b = c := UInt8.toNat_inj.1 (by omega)
    rw [q5, dv_same e h1.2 h2.2 q4]
theorem dv_low {b : UInt8} {t : List UInt8} (h : (b :: t).all digB = true) (hb : b.toNat ≠ 48) : 10 ^ t.length ≤ dv (b :: t) := by
  rw [List.all_cons, Bool.and_eq_true] at h
  have b1 := h.1
  simp [digB] at b1
  have := Nat.mul_le_mul_right (10 ^ t.length) (show 1 ≤ b.toNat - 48 by omega)
  rw [dv_cons]; omega
theorem dec_cases {l : List UInt8} (h : isDec l = true) : l = [48] ∨ ∃ b t, l = b :: t ∧ b.toNat ≠ 48 ∧ l.all digB = true := by
  have ha := isDec_all h
  cases l with
  | nil => cases h
  | cons b t =>
    by_cases hb : b.toNat = 48
    · refine Or.inl ?_
      rw [isDec_cons, ha] at h
      simp [hb] at h
      rw [h, show b = 48 from UInt8.toNat_inj.1 (by rw [hb]; rfl)]
    · exact Or.inr ⟨b, t, rfl, hb, ha⟩
theorem dec_zero {l : List UInt8} (h : isDec l = true) (h0 : dv l = 0) : l = [48] := by
  rcases dec_cases h with h1 | ⟨b, t, rfl, hb, ha⟩
  · exact h1
  · have := dv_low ha hb
    have : 0 < 10 ^ t.length := Nat.pow_pos (by omega)
    omega
theorem dec_text {l : List UInt8} (h : isDec l = true) (h0 : 0 < dv l) : prS (gs (dv l)) = l := by
  rcases dec_cases h with rfl | ⟨b, t, rfl, hb, ha⟩
  · exact absurd h0 (by simp [dv])
  · obtain ⟨p1, p2, p3⟩ := pr_facts (dv (b :: t))
    obtain ⟨c, m, p4, p5⟩ := p3 h0
    rw [p4] at p1 p2 ⊢
    have a1 := dv_low ha hb
    have a2 := dv_lt ha
    have a3 := dv_low p2 p5
    have a4 := dv_lt p2
    rw [p1] at a3 a4
    rw [List.length_cons] at a2 a4
    have l1 : m.length < t.length + 1 := (Nat.pow_lt_pow_iff_right (by omega : 1 < 10)).1 (Nat.lt_of_le_of_lt a3 a2)
    have l2 : t.length < m.length + 1 := (Nat.pow_lt_pow_iff_right (by omega : 1 < 10)).1 (Nat.lt_of_le_of_lt a1 a4)
    exact dv_same (by rw [List.length_cons, List.length_cons]; omega) p2 ha p1
theorem cut_minus (l : List UInt8) : cutD (45 :: l) = l ∧ cutN (45 :: l) = true := ⟨rfl, rfl⟩
theorem cut_digit {b : UInt8} {l : List UInt8} (h : digB b = true) : cutD (b :: l) = b :: l ∧ cutN (b :: l) = false := by
  have hb : (45 == b) = false := by
    rw [beq_eq_false_iff_ne]; rintro rfl; simp [digB] at h
  have hN : cutN (b :: l) = false := by
    unfold cutN Lib.hasPrefix
    simp [List.isPrefixOf, hb]
  exact ⟨by unfold cutD Lib.trimPrefix; rw [if_neg (by show ¬ cutN (b :: l) = true; rw [hN]; simp)], hN⟩
theorem pz_minus {l : List UInt8} (h : isDec l = true) (h0 : l ≠ [48]) : pz (45 :: l) = some (-(dv l : Int)) := by
  unfold pz
  rw [(cut_minus l).1, (cut_minus l).2, if_neg (by simp [h, h0]), if_pos rfl]
theorem pz_plus {l : List UInt8} (h : isDec l = true) : pz l = some (dv l : Int) := by
  have ha := isDec_all h
  cases l with
  | nil => cases h
  | cons b t =>
    rw [List.all_cons, Bool.and_eq_true] at ha
    unfold pz
    rw [(cut_digit ha.1).1, (cut_digit ha.1).2, if_neg (by simp [h])]; simp
theorem prZ_neg {N : Nat} (h : 0 < N) : prZ (-(N : Int)) = 45 :: prS (gs N) := by
  unfold prZ sgnT sg
  rw [if_neg (by omega), if_pos (by simp; omega), Int.natAbs_neg, Int.natAbs_natCast]; rfl
theorem prZ_pos {N : Nat} (h : 0 < N) : prZ (N : Int) = prS (gs N) := by
  unfold prZ sgnT sg
  rw [if_neg (by omega), if_neg (by simp), Int.natAbs_natCast]; rfl
theorem int_cases (z : Int) : z = 0 ∨ (∃ N : Nat, 0 < N ∧ z = -(N : Int)) ∨ (∃ N : Nat, 0 < N ∧ z = (N : Int)) := by
  rcases Int.lt_trichotomy z 0 with h | h | h
  · exact Or.inr (Or.inl ⟨z.natAbs, by omega, by omega⟩)
  · exact Or.inl h
  · exact Or.inr (Or.inr ⟨z.natAbs, by omega, by omega⟩)
/-- What is printed is read. -/
theorem pz_print (z : Int) : pz (prZ z) = some z := by
  rcases int_cases z with rfl | ⟨N, h, rfl⟩ | ⟨N, h, rfl⟩
  · rfl
  · rw [prZ_neg h, pz_minus (isDec_pr h) (fun e => by have := (pr_facts N).1; rw [e] at this; simp [dv] at this; omega), (pr_facts N).1]
  · rw [prZ_pos h, pz_plus (isDec_pr h), (pr_facts N).1]
theorem isDec_snoc {l : List UInt8} (h : isDec l = true) (h0 : l ≠ [48]) : isDec (l ++ [48]) = true := by
  rcases dec_cases h with h1 | ⟨b, t, rfl, hb, ha⟩
  · exact absurd h1 h0
  · show isDec (b :: (t ++ [48])) = true
    rw [isDec_cons, show b :: (t ++ [48]) = (b :: t) ++ [48] from rfl, List.all_append, ha]
    simp [hb]; rfl
/-- A zero behind the digits: ten times the number; but 00 is no text. -/
theorem pz_ten (z : Int) : pz (prZ z ++ [48]) = if z = 0 then none else some (z * 10) := by
  rcases int_cases z with rfl | ⟨N, h, rfl⟩ | ⟨N, h, rfl⟩
  · rfl
  · have hne : prS (gs N) ≠ [48] := fun e => by have := (pr_facts N).1; rw [e] at this; simp [dv] at this; omega
    have h1 := isDec_snoc (isDec_pr h) hne
    rw [if_neg (by omega), prZ_neg h, List.cons_append, pz_minus h1 (fun e => by have := congrArg List.length e; have h2 := (pr_facts N).2.2 h; obtain ⟨b, t, e2, _⟩ := h2; rw [e2] at this; simp at this), dv_snoc, (pr_facts N).1]
    congr 1; simp; omega
  · have hne : prS (gs N) ≠ [48] := fun e => by have := (pr_facts N).1; rw [e] at this; simp [dv] at this; omega
    rw [if_neg (by omega), prZ_pos h, pz_plus (isDec_snoc (isDec_pr h) hne), dv_snoc, (pr_facts N).1]
    congr 1; simp; omega
/-- What is read is printed. -/
theorem print_pz {l : List UInt8} {z : Int} (h : pz l = some z) : prZ z = l := by
  unfold pz at h
  split at h
  · cases h
  · rename_i hn
    have hd : isDec (cutD l) = true := by
      cases e : isDec (cutD l) with
      | true => rfl
      | false => exact absurd (Or.inl e) hn
    have hz := Option.some.inj h
    by_cases hN : cutN l = true
    · rw [if_pos hN] at hz
      have hl : l = 45 :: cutD l := by
        cases l with
        | nil => simp [cutN, Lib.hasPrefix, List.isPrefixOf] at hN
        | cons b t =>
          have : (45 == b) = true := by simpa [cutN, Lib.hasPrefix, List.isPrefixOf] using hN
          obtain rfl : 45 = b := by simpa using this
          rfl
      have h48 : cutD l ≠ [48] := fun e => hn (Or.inr ⟨hN, e⟩)
      have hp : 0 < dv (cutD l) := Nat.pos_of_ne_zero fun e => h48 (dec_zero hd e)
      rw [← hz, prZ_neg hp, dec_text hd hp, ← hl]
    · rw [if_neg hN] at hz
      have hl : cutD l = l := by unfold cutD Lib.trimPrefix; exact if_neg hN
      rw [hl] at hd hz
      by_cases h0 : dv l = 0
      · rw [dec_zero hd h0, ← hz, h0]; rfl
      · rw [← hz, prZ_pos (by omega), dec_text hd (by omega)]
/-- A printed integer begins with a minus where it is below 0. -/
theorem prefix_pr (z : Int) : Lib.hasPrefix (prZ z) [45] = sg z := by
  rcases int_cases z with rfl | ⟨N, h, rfl⟩ | ⟨N, h, rfl⟩
  · rfl
  · rw [prZ_neg h]; unfold sg; simp [Lib.hasPrefix, List.isPrefixOf]; omega
  · obtain ⟨b, t, e, _⟩ := (pr_facts N).2.2 h
    have ha := (pr_facts N).2.1
    rw [prZ_pos h]
    rw [e, List.all_cons, Bool.and_eq_true] at ha
    rw [e]
    show cutN (b :: t) = _
    rw [(cut_digit ha.1).2]; unfold sg; simp
theorem prZ_len {z : Int} {k : Nat} (h : z.natAbs < 4294967296 ^ k) : (prZ z).length ≤ 18 * k + 2 := by
  have h1 := prS_len (gs_lt (N := z.natAbs))
  have h2 := gs_room h
  unfold prZ sgnT
  split
  · simp
  · rw [List.length_append]; split <;> simp <;> omega
end Go.Proofs.YtiekphjhhpledaaGreatDoor
