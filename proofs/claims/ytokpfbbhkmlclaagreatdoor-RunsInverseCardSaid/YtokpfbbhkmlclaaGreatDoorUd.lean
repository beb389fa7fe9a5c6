/- What the reference implementation's Digit and Check of layer 7 return. Condition: a string's length. -/
import Derived.Test.YtokpfbbhkmlclaaGreatDoorUc
namespace Go.Proofs.YtokpfbbhkmlclaaGreatDoor
open Go.RowKit
set_option linter.unusedSimpArgs false
set_option linter.unusedVariables false

/-- What Digit returns. -/
def digR (c : UInt8) : Int := if dgt c < 16 then (dgt c : Int) else -1
set_option maxRecDepth 100000 in
set_option maxHeartbeats 1600000 in
theorem refDigit_any (c : UInt8) (w : World) :
    Calls Tryz.prog 11 #[.int .u8 (c.toNat : Int)] w fun e w' => e = .returned (.int .i64 (digR c)) ∧ w' = w := by
  have hcl := c.toNat_lt
  go_enter Tryz.func11, Tryz.ntmps11
  go_wp2_with fail
  go_loopg [3] 16 (fun q s3 wx => wx = w ∧ ∃ i : Nat, i + q = 16 ∧ s3 = .int .i64 (i : Int) ∧ Hid (i ≤ dgt c))
  case atStart => exact ⟨rfl, 0, by omega, rfl, Lib.hid (Nat.zero_le _)⟩
  case round =>
    obtain ⟨rfl, i, hi, rfl, HI⟩ := hrel
    rcases gk with _ | q
    · obtain rfl : i = 16 := by omega
      have HD := Lib.hid (show digR c = -1 by unfold digR; have := HI.out; rw [if_neg (by omega)])
      clear HI
      go_wp2
      go_ret
      exact ⟨by rw [HD.out]; rfl, rfl⟩
    · have hil : i < lets.length := by show i < 16; omega
      have hix : ∀ w, (Instr.index 9 (.string ⟨#[48, 49, 50, 51, 52, 53, 54, 55, 56, 57, 97, 98, 99, 100, 101, 102]⟩) (.int .i64 (i : Int))).run Tryz.prog w = .ok (.int .u8 ((lt i).toNat : Int)) w :=
        run_at_bytes lets i (lt i) (by rw [List.getElem?_eq_getElem hil, lt_at hil]) (i : Int) rfl
      have hd := dgt_lt i (by omega)
      obtain ⟨d, hdd⟩ : ∃ d, lt i = d := ⟨_, rfl⟩
      rw [hdd] at hix hd
      have hdl := d.toNat_lt
      have HDD := Lib.hid hdd
      clear hdd hil
      by_cases hcd : d = c
      · subst hcd
        have HD := Lib.hid (show digR d = (i : Int) by unfold digR; rw [hd, if_pos (by omega)])
        clear hd HI
        have hee : ((d.toNat : Int) == (d.toNat : Int)) = true := by simp
        go_wp2
        go_ret
        exact ⟨by rw [HD.out]; rfl, rfl⟩
      · have hne : ((d.toNat : Int) == (c.toNat : Int)) = false := by
          rw [beq_eq_false_iff_ne]
          intro e
          exact hcd (UInt8.toNat_inj.1 (by omega))
        have HI2 := Lib.hid (show i + 1 ≤ dgt c by
          have h1 := HI.out
          have h2 : dgt c ≠ i := fun e => hcd (by rw [← HDD.out, ← e, lt_dgt (by omega)])
          omega)
        clear HI hd hcd
        go_wp2
        go_roundg q
        case measure => omega
        case rel => exact ⟨rfl, i + 1, by omega, by go_num, HI2⟩
theorem wof_next {q : Nat} {l : List UInt8} {i : Nat} {c : UInt8} (h : l[i]? = some c) : Wof q (l.take (i + 1)) ↔ Wof q (l.take i) ∧ dgt c < q := by
  rw [List.take_add_one, h]
  show Wof q (l.take i ++ [c]) ↔ _
  rw [Wof.append, Wof.single]
set_option maxRecDepth 100000 in
set_option maxHeartbeats 3200000 in
theorem refCheck_any (q : Int) (l : List UInt8) (w : World) (hl : l.length ≤ 9223372036854775807) :
    Calls Tryz.prog 5 #[.int .i64 q, .string ⟨l.toArray⟩] w fun e w' => e = .returned (.int .i64 (chk q l)) ∧ w' = w := by
  rcases (show q < 1 ∨ 16 < q ∨ (1 ≤ q ∧ q ≤ 16) by omega) with hq | hq | ⟨q1, q2⟩
  · have HC := Lib.hid (show chk q l = 12 by unfold chk; rw [if_neg (by omega)])
    go_enter Tryz.func5, Tryz.ntmps5
    go_wp2_with fail
    go_ret
    exact ⟨by rw [HC.out]; rfl, rfl⟩
  · have HC := Lib.hid (show chk q l = 12 by unfold chk; rw [if_neg (by omega)])
    go_enter Tryz.func5, Tryz.ntmps5
    go_wp2_with fail
    go_ret
    exact ⟨by rw [HC.out]; rfl, rfl⟩
  · obtain ⟨m, rfl⟩ : ∃ m : Nat, q = (m : Int) := ⟨q.toNat, by omega⟩
    rcases Nat.lt_or_ge 65536 l.length with h2 | h2
    · have HC := Lib.hid (show chk m l = 4 by unfold chk; rw [if_pos ⟨q1, q2⟩, if_neg (by omega)])
      go_enter Tryz.func5, Tryz.ntmps5
      go_wp2_with fail
      go_ret
      exact ⟨by rw [HC.out]; rfl, rfl⟩
    · have HC := Lib.hid (show chk m l = if Wof m l then 0 else 13 by unfold chk; rw [if_pos ⟨q1, q2⟩, if_pos h2, Int.toNat_natCast])
      go_enter Tryz.func5, Tryz.ntmps5
      go_wp2_with fail
      go_loopg [5, 6] l.length (fun p s5 s6 wx => wx = w ∧ ∃ i : Nat, i + p = l.length ∧ s5 = .int .i64 (i : Int) ∧ Hid (Wof m (l.take i)))
      case atStart => exact ⟨rfl, 0, by omega, rfl, Lib.hid (fun c hc => by rw [List.take_zero] at hc; cases hc)⟩
      case round =>
        obtain ⟨rfl, i, hi, rfl, HI⟩ := hrel
        rcases gk with _ | p
        · obtain rfl : i = l.length := by omega
          have HC2 := Lib.hid (show chk m l = 0 by have := HI.out; rw [List.take_length] at this; rw [HC.out, if_pos this])
          clear HI HC
          go_wp2
          go_ret
          exact ⟨by rw [HC2.out]; rfl, rfl⟩
        · obtain ⟨c, hc⟩ : ∃ c, l[i]? = some c := ⟨_, List.getElem?_eq_getElem (by omega)⟩
          have hix := run_at_bytes l i c hc (i : Int) rfl
          have HN := Lib.hid (wof_next (q := m) hc)
          have HG := Lib.hid (fun W => refDigit_any c W)
          have hmem : c ∈ l := List.mem_of_getElem? hc
          have HM := Lib.hid hmem
          have hcl := c.toNat_lt
          clear hc hmem
          rcases (show dgt c < m ∨ (m ≤ dgt c ∧ dgt c < 16) ∨ 16 ≤ dgt c by omega) with h | ⟨h, h3⟩ | h
          · have hR : digR c = (dgt c : Int) := by unfold digR; rw [if_pos (by omega)]
            simp only [hR] at HG
            have HI2 := Lib.hid (HN.out.2 ⟨HI.out, h⟩)
            obtain ⟨g, hg⟩ : ∃ g, dgt c = g := ⟨_, rfl⟩
            simp only [hg] at HG
            rw [hg] at h
            clear hR hg HI HN
            go_wp2_with (go_at_call 11; (with_reducible refine (HG.out _).mono ?_); rintro e W1 ⟨rfl, hW⟩; (rw [hW]); (clear hW))
            go_roundg p
            case measure => omega
            case rel => exact ⟨rfl, i + 1, by omega, by go_num, HI2⟩
          · have hR : digR c = (dgt c : Int) := by unfold digR; rw [if_pos (by omega)]
            simp only [hR] at HG
            have HC2 := Lib.hid (show chk m l = 13 by rw [HC.out, if_neg (fun hW => absurd (hW c HM.out) (by omega))])
            obtain ⟨g, hg⟩ : ∃ g, dgt c = g := ⟨_, rfl⟩
            simp only [hg] at HG
            rw [hg] at h h3
            clear hR hg HI HN HC
            go_wp2_with (go_at_call 11; (with_reducible refine (HG.out _).mono ?_); rintro e W1 ⟨rfl, hW⟩; (rw [hW]); (clear hW))
            go_ret
            exact ⟨by rw [HC2.out]; rfl, rfl⟩
          · have hR : digR c = -1 := by unfold digR; rw [if_neg (by omega)]
            simp only [hR] at HG
            have HC2 := Lib.hid (show chk m l = 13 by rw [HC.out, if_neg (fun hW => absurd (hW c HM.out) (by omega))])
            clear hR HI HN HC h
            go_wp2_with (go_at_call 11; (with_reducible refine (HG.out _).mono ?_); rintro e W1 ⟨rfl, hW⟩; (rw [hW]); (clear hW))
            go_ret
            exact ⟨by rw [HC2.out]; rfl, rfl⟩
end Go.Proofs.YtokpfbbhkmlclaaGreatDoor
