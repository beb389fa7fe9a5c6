/- What word.Check returns. Condition: a string's length. Lists of words that can be read; what Longest of both sides, forbidden.checkWord, grooveref14.less and forbidden.compare return. Conditions: the words can be read; lengths are those of strings and slices. What cmp.Or of two numbers, forbidden.compare and grooveref14.less return. Condition: lengths are those of strings. -/
import Derived.Test.YtkpmapeapiodcaaDoorQ02
import Derived.Test.YtkpmapeapiodcaaDoorQ03
import Derived.Shelf.Strings.SlTrimAscii
import Derived.Test.YtkpmapeapiodcaaDoorQ01
import Derived.LoopN

namespace Go.Proofs.YtkpmapeapiodcaaDoor
open Go.RowKit

theorem run_take_atF (l g : List UInt8) (k : Nat) (z : Int) (hz : z = (k : Int)) (h2 : k ≤ l.length) (hg : l.take k = g) (w : World) :
    (Instr.slice 9 (.string ⟨l.toArray⟩) none (some (.int .i64 z)) none).run Tryd.prog w = .ok (.string ⟨g.toArray⟩) w := by
  subst hz
  rw [run_slice_string_h w 9 ⟨l.toArray⟩ Tryd.underlying9 .i64 (k : Int) (by omega) (by simp [ByteArray.size]; omega), Int.toNat_natCast, ByteArray.extract_mk, List.drop_zero, Nat.sub_zero, hg]
abbrev lb : ByteArray := ⟨#[48, 49, 50, 51, 52, 53, 54, 55, 56, 57, 97, 98, 99, 100, 101, 102]⟩
theorem ascii_lets : ∀ b ∈ lets, b.toNat < 128 := by decide
theorem ascii_of {m : List UInt8} (h : ∀ b ∈ m, b ∈ lets) : ∀ (j : Nat) b, (⟨m.toArray⟩ : ByteArray).data.toList[j]? = some b → b.toNat < 128 := fun _ b hb => ascii_lets b (h b (List.mem_of_getElem? hb))
theorem trims_any (l m : List UInt8) (w : World) (hl : l.length ≤ 9223372036854775807) (hm : ∀ b ∈ m, b ∈ lets) (hc : m.length ≤ 16) :
    Calls Tryd.prog 40 #[.string ⟨l.toArray⟩, .string ⟨m.toArray⟩] w fun e w' => e = .returned (.string ⟨(Lib.trimS l m).toArray⟩) ∧ Below w.heap.size w w' :=
  Any.strings_Trim_ascii Tryd.lays160 (fun _ => by kernel_rfl) (by kernel_rfl) ⟨l.toArray⟩ ⟨m.toArray⟩ w hl (by show m.length < _; omega) (ascii_of hm)
theorem dropWhile_nil {p : UInt8 → Bool} : ∀ {l : List UInt8}, l.dropWhile p = [] ↔ ∀ c ∈ l, p c = true
  | [] => by simp
  | c :: l => by
    rw [List.dropWhile_cons]
    cases h : p c with
    | true => simp only [if_true, List.mem_cons, forall_eq_or_imp, h, true_and]; exact dropWhile_nil
    | false => simp [h]
theorem trimS_nil {l m : List UInt8} : Lib.trimS l m = [] ↔ ∀ c ∈ l, c ∈ m := by
  unfold Lib.trimS Lib.trimLeftS Lib.trimRightS
  rw [dropWhile_nil]
  constructor
  · intro h c hc
    have h1 : l = (l.reverse.dropWhile (m.contains ·)).reverse ++ (l.reverse.takeWhile (m.contains ·)).reverse := by
      rw [← List.reverse_append, List.takeWhile_append_dropWhile, List.reverse_reverse]
    rw [h1, List.mem_append] at hc
    rcases hc with hc | hc
    · simpa using h c hc
    · rw [List.mem_reverse] at hc
      have := List.all_eq_true.1 (List.all_takeWhile (l := l.reverse) (p := (m.contains ·))) c hc
      simpa using this
  · intro h c hc
    rw [List.mem_reverse] at hc
    have := (List.dropWhile_sublist (m.contains ·)).subset hc
    rw [List.mem_reverse] at this
    simpa using h c this
theorem isAlphabet_any (q : Int) (w : World) : Calls Tryd.prog 39 #[.int .i64 q] w fun e w' => e = .returned (.bool (decide (1 ≤ q) && decide (q ≤ 16))) ∧ w' = w := by
  rcases (show q < 1 ∨ (1 ≤ q ∧ q ≤ 16) ∨ 16 < q by omega) with h | ⟨h1, h2⟩ | h
  · have e : (decide (1 ≤ q) && decide (q ≤ 16)) = false := by rw [decide_eq_false (by omega)]; rfl
    rw [e]; clear e
    go_enter Tryd.func39, Tryd.ntmps39
    go_wp2
    go_ret
    exact ⟨rfl, rfl⟩
  · have e : (decide (1 ≤ q) && decide (q ≤ 16)) = true := by rw [decide_eq_true h1, decide_eq_true h2]; rfl
    rw [e]; clear e
    go_enter Tryd.func39, Tryd.ntmps39
    go_wp2
    go_ret
    exact ⟨rfl, rfl⟩
  · have e : (decide (1 ≤ q) && decide (q ≤ 16)) = false := by rw [decide_eq_false (by omega : ¬ q ≤ 16), Bool.and_false]
    have E2 := Lib.hid (decide_eq_false (by omega : ¬ q ≤ 16))
    rw [e]; clear e
    go_enter Tryd.func39, Tryd.ntmps39
    go_wp2
    go_ret
    exact ⟨congrArg (fun b => Ending.returned (.bool b)) E2.out, rfl⟩
def chk (q : Int) (l : List UInt8) : Int := if 1 ≤ q ∧ q ≤ 16 then (if l.length ≤ 65536 then (if Wof q.toNat l then 0 else 13) else 4) else 12
set_option maxRecDepth 100000 in
set_option maxHeartbeats 1600000 in
theorem wcheck_any (q : Int) (l : List UInt8) (w : World) (hl : l.length ≤ 9223372036854775807) :
    Calls Tryd.prog 20 #[.int .i64 q, .string ⟨l.toArray⟩] w fun e w' => e = .returned (.int .i64 (chk q l)) ∧ Below w.heap.size w w' := by
  by_cases hq : 1 ≤ q ∧ q ≤ 16
  · obtain ⟨q1, q2⟩ := hq
    have ea : (decide (1 ≤ q) && decide (q ≤ 16)) = true := by rw [decide_eq_true q1, decide_eq_true q2]; rfl
    have EA := Lib.hid ea
    clear ea
    rcases Nat.lt_or_ge 65536 l.length with h2 | h2
    · have HC := Lib.hid (show chk q l = 4 by unfold chk; rw [if_pos ⟨q1, q2⟩, if_neg (by omega)])
      go_enter Tryd.func20, Tryd.ntmps20
      go_wp2_with (go_at_call 39; refine (isAlphabet_any q _).mono ?_; rintro e W1 ⟨rfl, rfl⟩; (rw [EA.out]))
      go_ret
      exact ⟨by rw [HC.out]; rfl, Below.refl _ _⟩
    · obtain ⟨m, hm⟩ : ∃ m : Nat, q = (m : Int) := ⟨q.toNat, by omega⟩
      subst hm
      have HC := Lib.hid (show chk m l = if Wof m l then 0 else 13 by unfold chk; rw [if_pos ⟨q1, q2⟩, if_pos h2, Int.toNat_natCast])
      have hcut : ∀ w, (Instr.slice 9 (.string ⟨#[48, 49, 50, 51, 52, 53, 54, 55, 56, 57, 97, 98, 99, 100, 101, 102]⟩) none (some (.int .i64 (m : Int))) none).run Tryd.prog w = .ok (.string ⟨(lets.take m).toArray⟩) w := run_take_atF lets (lets.take m) m (m : Int) rfl (by show m ≤ 16; omega) rfl
      have hml : (lets.take m).length ≤ 16 := by rw [List.length_take]; exact Nat.min_le_right _ _
      by_cases hW : Wof m l
      · have HT := Lib.hid (show Lib.trimS l (lets.take m) = [] from trimS_nil.2 fun c hc => (mem_lets (by omega) c).2 (hW c hc))
        have HC2 := Lib.hid (show chk m l = 0 by rw [HC.out, if_pos hW])
        clear hW
        go_enter Tryd.func20, Tryd.ntmps20
        go_wp2_with (first | (go_at_call 39; refine (isAlphabet_any m _).mono ?_; rintro e W1 ⟨rfl, rfl⟩; (rw [EA.out])) | (go_at_call 40; refine (trims_any l _ _ hl (fun b hb => List.mem_of_mem_take hb) hml).mono ?_; rintro e W1 ⟨rfl, hb⟩; (rw [HT.out])))
        go_ret
        exact ⟨by rw [HC2.out]; rfl, hb⟩
      · have hT : Lib.trimS l (lets.take m) ≠ [] := fun h => hW fun c hc => (mem_lets (by omega) c).1 (trimS_nil.1 h c hc)
        obtain ⟨t, ht⟩ : ∃ t, Lib.trimS l (lets.take m) = t := ⟨_, rfl⟩
        rw [ht] at hT
        have HT := Lib.hid ht
        have hT2 : (t == []) = false := by rw [beq_eq_false_iff_ne]; exact hT
        have HC2 := Lib.hid (show chk m l = 13 by rw [HC.out, if_neg hW])
        clear hW ht hT
        go_enter Tryd.func20, Tryd.ntmps20
        go_wp2_with (first | (go_at_call 39; refine (isAlphabet_any m _).mono ?_; rintro e W1 ⟨rfl, rfl⟩; (rw [EA.out])) | (go_at_call 40; refine (trims_any l _ _ hl (fun b hb => List.mem_of_mem_take hb) hml).mono ?_; rintro e W1 ⟨rfl, hb⟩; (rw [HT.out])))
        go_ret
        exact ⟨by rw [HC2.out]; rfl, hb⟩
  · have ea : (decide (1 ≤ q) && decide (q ≤ 16)) = false := by
      rw [Bool.and_eq_false_iff]
      by_cases h : 1 ≤ q
      · exact Or.inr (decide_eq_false (fun h2 => hq ⟨h, h2⟩))
      · exact Or.inl (decide_eq_false h)
    have HC := Lib.hid (show chk q l = 12 by unfold chk; rw [if_neg hq])
    clear hq
    have EA := Lib.hid ea
    clear ea
    go_enter Tryd.func20, Tryd.ntmps20
    go_wp2_with (go_at_call 39; refine (isAlphabet_any q _).mono ?_; rintro e W1 ⟨rfl, rfl⟩; (rw [EA.out]))
    go_ret
    exact ⟨by rw [HC.out]; rfl, Below.refl _ _⟩
theorem chk_zero {q : Int} {l : List UInt8} (h : chk q l = 0) : ∃ m : Nat, q = (m : Int) ∧ 1 ≤ m ∧ m ≤ 16 ∧ l.length ≤ 65536 ∧ Wof m l := by
  unfold chk at h
  split at h
  · next h1 =>
    split at h
    · next h2 =>
      split at h
      · next h3 => exact ⟨q.toNat, by omega, by omega, by omega, h2, h3⟩
      · cases h
    · cases h
  · cases h
end Go.Proofs.YtkpmapeapiodcaaDoor

namespace Go.Proofs.YtkpmapeapiodcaaDoor
open Go.RowKit
set_option linter.unusedSimpArgs false
set_option linter.unusedVariables false

def WdsRd (W : World) (v : Value) (l : List Wd) : Prop := ∃ a c, v = .slice a l.length c ∧ ∀ (i : Nat) (x : Wd), l[i]? = some x → ∃ b off, a = some ⟨b, off, none⟩ ∧ W.cell? ⟨b, off + i, none⟩ = some (.string ⟨x.toArray⟩)
theorem WdsRd.keep {W W' : World} {v : Value} {l : List Wd} (h : WdsRd W v l) (hb : Below W.heap.size W W') : WdsRd W' v l := by
  obtain ⟨a, c, rfl, h1⟩ := h
  refine ⟨a, c, rfl, fun i x hx => ?_⟩
  obtain ⟨b, off, rfl, k⟩ := h1 i x hx
  exact ⟨b, off, rfl, cell_keep k hb⟩
theorem WdsRd.form {W : World} {v : Value} {l : List Wd} (h : WdsRd W v l) : ∃ a c, v = .slice a l.length c := by
  obtain ⟨a, c, h1, -⟩ := h
  exact ⟨a, c, h1⟩
theorem WdsRd.at {W : World} {v : Value} {l : List Wd} (h : WdsRd W v l) {i : Nat} {x : Wd} (hx : l[i]? = some x) : ∃ b off c, v = .slice (some ⟨b, off, none⟩) l.length c ∧ W.cell? ⟨b, off + i, none⟩ = some (.string ⟨x.toArray⟩) := by
  obtain ⟨a, c, rfl, h1⟩ := h
  obtain ⟨b, off, rfl, k⟩ := h1 i x hx
  exact ⟨b, off, c, rfl, k⟩
theorem run_maxF {P : Program} (k : IntKind) (a b n : Nat) (h : max a b = n) (w : World) (ts : Array TypeId) (t : TypeId) :
    (Builtin.max_ ts t #[.int k (a : Int), .int k (b : Int)]).run P w = .ok (.int k (n : Int)) w := by
  by_cases h1 : a < b
  · have e : n = b := by omega
    have h2 : (a : Int) < (b : Int) := by omega
    simp [Builtin.max_, Builtin.max2, h2, e]
    try omega
  · have e : n = a := by omega
    have h2 : ¬ (a : Int) < (b : Int) := by omega
    simp [Builtin.max_, Builtin.max2, h2, e]
    try omega
def longW (l : List Wd) : Nat := l.foldl (fun m x => max m x.length) 0
theorem longW_snoc (l : List Wd) (x : Wd) : longW (l ++ [x]) = max (longW l) x.length := by unfold longW; rw [List.foldl_append]; rfl
theorem longW_take {l : List Wd} {i : Nat} {x : Wd} (h : l[i]? = some x) : longW (l.take (i + 1)) = max (longW (l.take i)) x.length := by
  rw [List.take_add_one, h, Option.toList_some, longW_snoc]
set_option maxRecDepth 100000 in
set_option maxHeartbeats 3200000 in
theorem longest_any (l : List Wd) (v : Value) (w : World) (hrd : WdsRd w v l) (hl : l.length ≤ 100000) :
    Calls Tryd.prog 14 #[v] w fun e w' => e = .returned (.int .i64 (longW l : Int)) ∧ w' = w := by
  have HRD := Lib.hid hrd
  obtain ⟨a, c, rfl⟩ := hrd.form
  clear hrd
  go_enter Tryd.func14, Tryd.ntmps14
  go_wp2_with fail
  go_loopg [3, 5, 8] l.length (fun q s3 s5 s8 wx => ∃ i : Nat, i + q = l.length ∧ s8 = .int .i64 (i : Int) ∧ s3 = .int .i64 (longW (l.take i) : Int) ∧ wx = w)
  case atStart => exact ⟨0, by omega, rfl, rfl, rfl⟩
  case round =>
    obtain ⟨i, hi, rfl, rfl, rfl⟩ := hrel
    rcases gk with _ | q
    · obtain rfl : i = l.length := by omega
      have j0 : ¬ ((l.length : Int) < (l.length : Int)) := by omega
      rw [List.take_length]
      go_wp2_with fail
      go_ret
      exact ⟨rfl, rfl⟩
    · obtain ⟨x, hx⟩ : ∃ x, l[i]? = some x := ⟨_, List.getElem?_eq_getElem (by omega)⟩
      obtain ⟨b, off, c', hv, k1⟩ := HRD.out.at hx
      injection hv with e1 e2 e3
      subst e1
      subst e3
      have j1 : (i : Int) < (l.length : Int) := by omega
      obtain ⟨m, hm⟩ : ∃ m, longW (l.take i) = m := ⟨_, rfl⟩
      obtain ⟨m2, hm2⟩ : ∃ m2, max m x.length = m2 := ⟨_, rfl⟩
      have HM2 := Lib.hid (show longW (l.take (i + 1)) = m2 by rw [longW_take hx, hm, hm2])
      have hmx : ∀ (W : World) (ts : Array TypeId) (t : TypeId), (Builtin.max_ ts t #[.int .i64 (m : Int), .int .i64 (x.length : Int)]).run Tryd.prog W = .ok (.int .i64 (m2 : Int)) W := fun W ts t => run_maxF .i64 m x.length m2 hm2 W ts t
      rw [hm]
      clear hx e2 hm hm2
      go_wp2_with fail
      go_roundg q
      case measure => omega
      case rel => exact ⟨i + 1, by omega, by go_num, by rw [HM2.out], rfl⟩
set_option maxRecDepth 100000 in
set_option maxHeartbeats 3200000 in
theorem rlongest_any (l : List Wd) (v : Value) (w : World) (hrd : WdsRd w v l) (hl : l.length ≤ 100000) :
    Calls Tryd.prog 15 #[v] w fun e w' => e = .returned (.int .i64 (longW l : Int)) ∧ w' = w := by
  have HRD := Lib.hid hrd
  obtain ⟨a, c, rfl⟩ := hrd.form
  clear hrd
  go_enter Tryd.func15, Tryd.ntmps15
  go_wp2_with fail
  go_loopg [3, 4] l.length (fun q s3 s4 wx => ∃ i : Nat, i + q = l.length ∧ s4 = .int .i64 (i : Int) ∧ s3 = .int .i64 (longW (l.take i) : Int) ∧ wx = w)
  case atStart => exact ⟨0, by omega, rfl, rfl, rfl⟩
  case round =>
    obtain ⟨i, hi, rfl, rfl, rfl⟩ := hrel
    rcases gk with _ | q
    · obtain rfl : i = l.length := by omega
      have j0 : ¬ ((l.length : Int) < (l.length : Int)) := by omega
      rw [List.take_length]
      go_wp2_with fail
      go_ret
      exact ⟨rfl, rfl⟩
    · obtain ⟨x, hx⟩ : ∃ x, l[i]? = some x := ⟨_, List.getElem?_eq_getElem (by omega)⟩
      obtain ⟨b, off, c', hv, k1⟩ := HRD.out.at hx
      injection hv with e1 e2 e3
      subst e1
      subst e3
      have j1 : (i : Int) < (l.length : Int) := by omega
      obtain ⟨m, hm⟩ : ∃ m, longW (l.take i) = m := ⟨_, rfl⟩
      obtain ⟨m2, hm2⟩ : ∃ m2, max m x.length = m2 := ⟨_, rfl⟩
      have HM2 := Lib.hid (show longW (l.take (i + 1)) = m2 by rw [longW_take hx, hm, hm2])
      have hmx : ∀ (W : World) (ts : Array TypeId) (t : TypeId), (Builtin.max_ ts t #[.int .i64 (m : Int), .int .i64 (x.length : Int)]).run Tryd.prog W = .ok (.int .i64 (m2 : Int)) W := fun W ts t => run_maxF .i64 m x.length m2 hm2 W ts t
      rw [hm]
      clear hx e2 hm hm2
      go_wp2_with fail
      go_roundg q
      case measure => omega
      case rel => exact ⟨i + 1, by omega, by go_num, by rw [HM2.out], rfl⟩
def cwW (q : Int) (x : Wd) : Int := if x = [] then 5 else if 32 < x.length then 4 else chk q x
set_option maxRecDepth 100000 in
set_option maxHeartbeats 3200000 in
theorem checkWord_any (q : Int) (x : Wd) (w : World) (hx : x.length ≤ 9223372036854775807) :
    Calls Tryd.prog 45 #[.int .i64 q, .string ⟨x.toArray⟩] w fun e w' => e = .returned (.int .i64 (cwW q x)) ∧ Below w.heap.size w w' := by
  have HC := Lib.hid (fun W => wcheck_any q x W hx)
  by_cases h0 : x = []
  · subst h0
    go_enter Tryd.func45, Tryd.ntmps45
    go_wp2_with fail
    go_ret
    exact ⟨rfl, Below.refl _ _⟩
  · have hne : x.length ≠ 0 := fun h => h0 (List.eq_nil_of_length_eq_zero h)
    have d0 : (x == []) = false := by rw [beq_eq_false_iff_ne]; exact h0
    by_cases h1 : 32 < x.length
    · have d1 : decide ((32 : Int) < (x.length : Int)) = true := decide_eq_true (by omega)
      have HE := Lib.hid (show cwW q x = 4 by unfold cwW; rw [if_neg h0, if_pos h1])
      clear h1
      go_enter Tryd.func45, Tryd.ntmps45
      go_wp2_with fail
      go_ret
      exact ⟨by rw [HE.out]; try rfl, Below.refl _ _⟩
    · have d1 : decide ((32 : Int) < (x.length : Int)) = false := decide_eq_false (by omega)
      have HE := Lib.hid (show cwW q x = chk q x by unfold cwW; rw [if_neg h0, if_neg h1])
      clear h1
      go_enter Tryd.func45, Tryd.ntmps45
      go_wp2_with (go_at_call 20; (with_reducible refine (HC.out _).mono ?_); rintro e W1 ⟨rfl, b1⟩; (have B1 := Lib.hid b1); clear b1)
      go_ret
      exact ⟨by rw [HE.out]; try rfl, B1.out⟩
end Go.Proofs.YtkpmapeapiodcaaDoor

namespace Go.Proofs.YtkpmapeapiodcaaDoor
open Go.RowKit
set_option linter.unusedSimpArgs false
set_option linter.unusedVariables false

theorem cmpB_neg : ∀ {a b : Wd}, Lib.compareBytes a b < 0 ↔ a < b
  | [], [] => by simp [Lib.compareBytes]
  | [], b :: s => by simp [Lib.compareBytes]
  | a :: r, [] => by simp [Lib.compareBytes]
  | a :: r, b :: s => by
    rw [Lib.compareBytes, List.cons_lt_cons_iff]
    by_cases h1 : a < b
    · rw [if_pos h1]
      exact ⟨fun _ => .inl h1, fun _ => by omega⟩
    · rw [if_neg h1]
      by_cases h2 : b < a
      · rw [if_pos h2]
        exact ⟨fun h => by omega, fun h => by
          rcases h with h | ⟨h, -⟩
          · exact absurd h h1
          · subst h; exact absurd h2 (UInt8.lt_irrefl _)⟩
      · rw [if_neg h2, cmpB_neg]
        have h3 : a = b := UInt8.le_antisymm (UInt8.not_lt.1 h2) (UInt8.not_lt.1 h1)
        subst h3
        exact ⟨fun h => .inr ⟨rfl, h⟩, fun h => by
          rcases h with h | ⟨-, h⟩
          · exact absurd h h1
          · exact h⟩
def cmpW (v w : Wd) : Int := if Lib.compareInt (v.length : Int) (w.length : Int) ≠ 0 then Lib.compareInt (v.length : Int) (w.length : Int) else Lib.compareBytes v w
theorem cmpW_neg {v w : Wd} : cmpW v w < 0 ↔ ltW v w := by
  unfold cmpW ltW Lib.compareInt
  by_cases h1 : v.length < w.length
  · rw [if_pos (show (v.length : Int) < (w.length : Int) by omega), if_pos (by omega)]
    exact ⟨fun _ => .inl h1, fun _ => by omega⟩
  · rw [if_neg (show ¬ (v.length : Int) < (w.length : Int) by omega)]
    by_cases h2 : w.length < v.length
    · rw [if_pos (show (w.length : Int) < (v.length : Int) by omega), if_pos (by omega)]
      exact ⟨fun h => by omega, fun h => by omega⟩
    · rw [if_neg (show ¬ (w.length : Int) < (v.length : Int) by omega), if_neg (by omega), cmpB_neg]
      exact ⟨fun h => .inr ⟨by omega, h⟩, fun h => by
        rcases h with h | ⟨-, h⟩
        · exact absurd h h1
        · exact h⟩
set_option maxRecDepth 100000 in
set_option maxHeartbeats 3200000 in
theorem or2_any (p : Nat) (x y : Int) (w : World) (h1 : w.cell? ⟨p, 0, none⟩ = some (.int .i64 x)) (h2 : w.cell? ⟨p, 1, none⟩ = some (.int .i64 y)) :
    Calls Tryd.prog 48 #[.slice (some ⟨p, 0, none⟩) 2 2] w fun e w' => e = .returned (.int .i64 (if x ≠ 0 then x else y)) ∧ w' = w := by
  by_cases h0 : x = 0
  · rw [if_neg (by omega)]
    subst h0
    by_cases hy : y = 0
    · subst hy
      go_enter Tryd.func48, Tryd.ntmps48
      go_wp2_with fail
      refine wp_loop_rounds 3 ?_
      rw [rounds_succ]
      go_wp2_with fail
      rw [rounds_succ]
      go_wp2_with fail
      rw [rounds_succ]
      go_wp2_with fail
      go_ret
      exact ⟨rfl, rfl⟩
    · have d1 : (y != 0) = true := by simpa using hy
      go_enter Tryd.func48, Tryd.ntmps48
      go_wp2_with fail
      refine wp_loop_rounds 2 ?_
      rw [rounds_succ]
      go_wp2_with fail
      rw [rounds_succ]
      go_wp2_with fail
      go_ret
      exact ⟨rfl, rfl⟩
  · rw [if_pos h0]
    have d1 : (x != 0) = true := by simpa using h0
    go_enter Tryd.func48, Tryd.ntmps48
    go_wp2_with fail
    refine wp_loop_rounds 1 ?_
    rw [rounds_succ]
    go_wp2_with fail
    go_ret
    exact ⟨rfl, rfl⟩
set_option maxRecDepth 100000 in
set_option maxHeartbeats 3200000 in
theorem compareA_any (v x : Wd) (w : World) :
    Calls Tryd.prog 28 #[.string ⟨v.toArray⟩, .string ⟨x.toArray⟩] w fun e w' => e = .returned (.int .i64 (cmpW v x)) ∧ ∃ a b : Int, w' = w.alloc (.cells #[.int .i64 a, .int .i64 b] 3) := by
  obtain ⟨a, ha⟩ : ∃ a, Lib.compareInt (v.length : Int) (x.length : Int) = a := ⟨_, rfl⟩
  obtain ⟨b, hb⟩ : ∃ b, Lib.compareBytes v x = b := ⟨_, rfl⟩
  have HC : Hid (∀ W, Calls Tryd.prog 49 #[.int .i64 (v.length : Int), .int .i64 (x.length : Int)] W fun e w' => e = .returned (.int .i64 a) ∧ w' = W) := Lib.hid (fun W => by
    have k := Tryd.cmp_Compare_int (v.length : Int) (x.length : Int) W
    rw [ha] at k
    exact k)
  have HS : Hid (∀ W, Calls Tryd.prog 50 #[.string ⟨v.toArray⟩, .string ⟨x.toArray⟩] W fun e w' => e = .returned (.int .i64 b) ∧ w' = W) := Lib.hid (fun W => by
    have k := Tryd.strings_Compare ⟨v.toArray⟩ ⟨x.toArray⟩ W
    rw [show (⟨v.toArray⟩ : ByteArray).data.toList = v from by simp, show (⟨x.toArray⟩ : ByteArray).data.toList = x from by simp, hb] at k
    exact k)
  have HO := Lib.hid (or2_any w.heap.size a b (w.alloc (.cells #[.int .i64 a, .int .i64 b] 3)) (by have k := heap_alloc_new w (.cells #[.int .i64 a, .int .i64 b] 3); unfold World.cell?; rw [k]; rfl) (by have k := heap_alloc_new w (.cells #[.int .i64 a, .int .i64 b] 3); unfold World.cell?; rw [k]; rfl))
  have HB := Lib.hid (below1 w (.cells #[.int .i64 a, .int .i64 b] 3))
  have HE := Lib.hid (show cmpW v x = if a ≠ 0 then a else b by unfold cmpW; rw [ha, hb])
  obtain ⟨r, hr⟩ : ∃ r, (if a ≠ 0 then a else b) = r := ⟨_, rfl⟩
  rw [hr] at HO HE
  clear ha hb hr
  go_enter Tryd.func28, Tryd.ntmps28
  go_wp2_with (first
    | (go_at_call 49; (with_reducible refine (HC.out _).mono ?_); rintro e W1 ⟨rfl, rfl⟩)
    | (go_at_call 50; (with_reducible refine (HS.out _).mono ?_); rintro e W2 ⟨rfl, rfl⟩)
    | (go_at_call 48; (with_reducible refine HO.out.mono ?_); rintro e W3 ⟨rfl, rfl⟩))
  go_ret
  exact ⟨by rw [HE.out]; try rfl, _, _, rfl⟩
theorem compareW_any (v x : Wd) (w : World) :
    Calls Tryd.prog 28 #[.string ⟨v.toArray⟩, .string ⟨x.toArray⟩] w fun e w' => e = .returned (.int .i64 (cmpW v x)) ∧ Below w.heap.size w w' :=
  (compareA_any v x w).mono fun _ _ ⟨h, a, b, hw⟩ => ⟨h, by rw [hw]; exact below1 w _⟩
end Go.Proofs.YtkpmapeapiodcaaDoor
