/- What word.Check returns. Condition: a string's length. -/
import Derived.Test.YtokpfbbhkmlclaaGreatDoorUh
import Derived.Test.YtokpfbbhkmlclaaGreatDoorShelf
import Derived.Shelf.Strings.SlTrimAscii
namespace Go.Proofs.YtokpfbbhkmlclaaGreatDoor
open Go.RowKit

/-- The letters, as the program lays them. -/
abbrev lb : ByteArray := ⟨#[48, 49, 50, 51, 52, 53, 54, 55, 56, 57, 97, 98, 99, 100, 101, 102]⟩
theorem lb_eq : lb = ⟨lets.toArray⟩ := rfl
theorem ascii_lets : ∀ b ∈ lets, b.toNat < 128 := by decide
theorem ascii_of {m : List UInt8} (h : ∀ b ∈ m, b ∈ lets) : ∀ (j : Nat) b, (⟨m.toArray⟩ : ByteArray).data.toList[j]? = some b → b.toNat < 128 := fun _ b hb => ascii_lets b (h b (List.mem_of_getElem? hb))
theorem trims_any (l m : List UInt8) (w : World) (hl : l.length ≤ 9223372036854775807) (hm : ∀ b ∈ m, b ∈ lets) (hc : m.length ≤ 16) :
    Calls Tryz.prog 37 #[.string ⟨l.toArray⟩, .string ⟨m.toArray⟩] w fun e w' => e = .returned (.string ⟨(Lib.trimS l m).toArray⟩) ∧ Below w.heap.size w w' :=
  Any.strings_Trim_ascii Tryz.lays160 (fun _ => by kernel_rfl) (by kernel_rfl) ⟨l.toArray⟩ ⟨m.toArray⟩ w hl (by show m.length < _; omega) (ascii_of hm)
theorem dropWhile_nil {p : UInt8 → Bool} : ∀ {l : List UInt8}, l.dropWhile p = [] ↔ ∀ c ∈ l, p c = true
  | [] => by simp
  | c :: l => by
    rw [List.dropWhile_cons]
    cases h : p c with
    | true => simp only [if_true, List.mem_cons, forall_eq_or_imp, h, true_and]; exact dropWhile_nil
    | false => simp [h]
/-- A text without the letters in front and behind is empty exactly if it has these letters only. -/
theorem trimS_nil {l m : List UInt8} : Lib.trimS l m = [] ↔ ∀ c ∈ l, c ∈ m := by
  unfold Lib.trimS Lib.trimLeftS Lib.trimRightS
  rw [dropWhile_nil]
  constructor
  · intro h c hc
    have h1 : l = (l.reverse.dropWhile (m.contains ·)).reverse ++ (l.reverse.takeWhile (m.contains ·)).reverse := by
      rw [← List.reverse_append, List.takeWhile_append_dropWhile, List.reverse_reverse]
    rw [h1, List.mem_append] at hc
    rcases hc with hc | hc
    · simpa using h c hc
    · rw [List.mem_reverse] at hc
      have := List.all_eq_true.1 (List.all_takeWhile (l := l.reverse) (p := (m.contains ·))) c hc
      simpa using this
  · intro h c hc
    rw [List.mem_reverse] at hc
    have := (List.dropWhile_sublist (m.contains ·)).subset hc
    rw [List.mem_reverse] at this
    simpa using h c this
theorem isAlphabet_any (q : Int) (w : World) : Calls Tryz.prog 36 #[.int .i64 q] w fun e w' => e = .returned (.bool (decide (1 ≤ q) && decide (q ≤ 16))) ∧ w' = w := by
  rcases (show q < 1 ∨ (1 ≤ q ∧ q ≤ 16) ∨ 16 < q by omega) with h | ⟨h1, h2⟩ | h
  · have e : (decide (1 ≤ q) && decide (q ≤ 16)) = false := by rw [decide_eq_false (by omega)]; rfl
    rw [e]; clear e
    go_enter Tryz.func36, Tryz.ntmps36
    go_wp2
    go_ret
    exact ⟨rfl, rfl⟩
  · have e : (decide (1 ≤ q) && decide (q ≤ 16)) = true := by rw [decide_eq_true h1, decide_eq_true h2]; rfl
    rw [e]; clear e
    go_enter Tryz.func36, Tryz.ntmps36
    go_wp2
    go_ret
    exact ⟨rfl, rfl⟩
  · have e : (decide (1 ≤ q) && decide (q ≤ 16)) = false := by rw [decide_eq_false (by omega : ¬ q ≤ 16), Bool.and_false]
    have E2 := Lib.hid (decide_eq_false (by omega : ¬ q ≤ 16))
    rw [e]; clear e
    go_enter Tryz.func36, Tryz.ntmps36
    go_wp2
    go_ret
    exact ⟨congrArg (fun b => Ending.returned (.bool b)) E2.out, rfl⟩
/-- What is wrong with a word. -/
def chk (q : Int) (l : List UInt8) : Int := if 1 ≤ q ∧ q ≤ 16 then (if l.length ≤ 65536 then (if Wof q.toNat l then 0 else 13) else 4) else 12
set_option maxRecDepth 100000 in
set_option maxHeartbeats 1600000 in
theorem check_any (q : Int) (l : List UInt8) (w : World) (hl : l.length ≤ 9223372036854775807) :
    Calls Tryz.prog 25 #[.int .i64 q, .string ⟨l.toArray⟩] w fun e w' => e = .returned (.int .i64 (chk q l)) ∧ Below w.heap.size w w' := by
  by_cases hq : 1 ≤ q ∧ q ≤ 16
  · obtain ⟨q1, q2⟩ := hq
    have ea : (decide (1 ≤ q) && decide (q ≤ 16)) = true := by rw [decide_eq_true q1, decide_eq_true q2]; rfl
    have EA := Lib.hid ea
    clear ea
    rcases Nat.lt_or_ge 65536 l.length with h2 | h2
    · have HC := Lib.hid (show chk q l = 4 by unfold chk; rw [if_pos ⟨q1, q2⟩, if_neg (by omega)])
      go_enter Tryz.func25, Tryz.ntmps25
      go_wp2_with (go_at_call 36; refine (isAlphabet_any q _).mono ?_; rintro e W1 ⟨rfl, rfl⟩; (rw [EA.out]))
      go_ret
      exact ⟨by rw [HC.out]; rfl, Below.refl _ _⟩
    · obtain ⟨m, hm⟩ : ∃ m : Nat, q = (m : Int) := ⟨q.toNat, by omega⟩
      subst hm
      have HC := Lib.hid (show chk m l = if Wof m l then 0 else 13 by unfold chk; rw [if_pos ⟨q1, q2⟩, if_pos h2, Int.toNat_natCast])
      have hcut : ∀ w, (Instr.slice 9 (.string ⟨#[48, 49, 50, 51, 52, 53, 54, 55, 56, 57, 97, 98, 99, 100, 101, 102]⟩) none (some (.int .i64 (m : Int))) none).run Tryz.prog w = .ok (.string ⟨(lets.take m).toArray⟩) w := run_take_at lets (lets.take m) m (m : Int) rfl (by show m ≤ 16; omega) rfl
      have hml : (lets.take m).length ≤ 16 := by rw [List.length_take]; exact Nat.min_le_right _ _
      by_cases hW : Wof m l
      · have HT := Lib.hid (show Lib.trimS l (lets.take m) = [] from trimS_nil.2 fun c hc => (mem_lets (by omega) c).2 (hW c hc))
        have HC2 := Lib.hid (show chk m l = 0 by rw [HC.out, if_pos hW])
        clear hW
        go_enter Tryz.func25, Tryz.ntmps25
        go_wp2_with (first | (go_at_call 36; refine (isAlphabet_any m _).mono ?_; rintro e W1 ⟨rfl, rfl⟩; (rw [EA.out])) | (go_at_call 37; refine (trims_any l _ _ hl (fun b hb => List.mem_of_mem_take hb) hml).mono ?_; rintro e W1 ⟨rfl, hb⟩; (rw [HT.out])))
        go_ret
        exact ⟨by rw [HC2.out]; rfl, hb⟩
      · have hT : Lib.trimS l (lets.take m) ≠ [] := fun h => hW fun c hc => (mem_lets (by omega) c).1 (trimS_nil.1 h c hc)
        obtain ⟨t, ht⟩ : ∃ t, Lib.trimS l (lets.take m) = t := ⟨_, rfl⟩
        rw [ht] at hT
        have HT := Lib.hid ht
        have hT2 : (t == []) = false := by rw [beq_eq_false_iff_ne]; exact hT
        have HC2 := Lib.hid (show chk m l = 13 by rw [HC.out, if_neg hW])
        clear hW ht hT
        go_enter Tryz.func25, Tryz.ntmps25
        go_wp2_with (first | (go_at_call 36; refine (isAlphabet_any m _).mono ?_; rintro e W1 ⟨rfl, rfl⟩; (rw [EA.out])) | (go_at_call 37; refine (trims_any l _ _ hl (fun b hb => List.mem_of_mem_take hb) hml).mono ?_; rintro e W1 ⟨rfl, hb⟩; (rw [HT.out])))
        go_ret
        exact ⟨by rw [HC2.out]; rfl, hb⟩
  · have ea : (decide (1 ≤ q) && decide (q ≤ 16)) = false := by
      rw [Bool.and_eq_false_iff]
      by_cases h : 1 ≤ q
      · exact Or.inr (decide_eq_false (fun h2 => hq ⟨h, h2⟩))
      · exact Or.inl (decide_eq_false h)
    have HC := Lib.hid (show chk q l = 12 by unfold chk; rw [if_neg hq])
    clear hq
    have EA := Lib.hid ea
    clear ea
    go_enter Tryz.func25, Tryz.ntmps25
    go_wp2_with (go_at_call 36; refine (isAlphabet_any q _).mono ?_; rintro e W1 ⟨rfl, rfl⟩; (rw [EA.out]))
    go_ret
    exact ⟨by rw [HC.out]; rfl, Below.refl _ _⟩
theorem chk_zero {q : Int} {l : List UInt8} (h : chk q l = 0) : ∃ m : Nat, q = (m : Int) ∧ 1 ≤ m ∧ m ≤ 16 ∧ l.length ≤ 65536 ∧ Wof m l := by
  unfold chk at h
  split at h
  · next h1 =>
    split at h
    · next h2 =>
      split at h
      · next h3 => exact ⟨q.toNat, by omega, by omega, by omega, h2, h3⟩
      · cases h
    · cases h
  · cases h
theorem chk_of {m : Nat} {l : List UInt8} (h1 : 1 ≤ m) (h2 : m ≤ 16) (h3 : l.length ≤ 65536) (h4 : Wof m l) : chk (m : Int) l = 0 := by
  unfold chk
  rw [if_pos ⟨by omega, by omega⟩, if_pos h3, Int.toNat_natCast, if_pos h4]
end Go.Proofs.YtokpfbbhkmlclaaGreatDoor
