/- What the reference implementation's Digit and Check return. Condition: a length of at most 1000. The reference implementation of integers, as that of words calls it; a variable that a region reads and writes. Condition: at most 10^7 bytes. What the reference implementation's Rank returns. Condition: at most 30 letters, or an error. -/
import Derived.Test.YtigdjlhihhakmaaGreatDoorQ13
import Derived.Test.YtigdjlhihhakmaaGreatDoorQ33
import Derived.Test.YtigdjlhihhakmaaGreatDoorQ34
import Derived.Test.YtigdjlhihhakmaaGreatDoorQ24
import Derived.Test.YtigdjlhihhakmaaGreatDoorQ26

namespace Go.Proofs.YtigdjlhihhakmaaGreatDoor
open Go.RowKit
set_option linter.unusedSimpArgs false
set_option linter.unusedVariables false

/-- What Digit returns. -/
def digR (c : UInt8) : Int := if dgt c < 16 then (dgt c : Int) else -1
set_option maxRecDepth 100000 in
set_option maxHeartbeats 1600000 in
theorem refDigit_any (c : UInt8) (w : World) :
    Calls Tryz.prog 28 #[.int .u8 (c.toNat : Int)] w fun e w' => e = .returned (.int .i64 (digR c)) ∧ w' = w := by
  have hcl := c.toNat_lt
  go_enter Tryz.func28, Tryz.ntmps28
  go_wp2_with fail
  go_loopg [3] 16 (fun q s3 wx => wx = w ∧ ∃ i : Nat, i + q = 16 ∧ s3 = .int .i64 (i : Int) ∧ Hid (i ≤ dgt c))
  case atStart => exact ⟨rfl, 0, by omega, rfl, Lib.hid (Nat.zero_le _)⟩
  case round =>
    obtain ⟨rfl, i, hi, rfl, HI⟩ := hrel
    rcases gk with _ | q
    · obtain rfl : i = 16 := by omega
      have HD := Lib.hid (show digR c = -1 by unfold digR; have := HI.out; rw [if_neg (by omega)])
      clear HI
      go_wp2
      go_ret
      exact ⟨by rw [HD.out]; rfl, rfl⟩
    · have hil : i < lets.length := by show i < 16; omega
      have hix : ∀ w, (Instr.index 9 (.string ⟨#[48, 49, 50, 51, 52, 53, 54, 55, 56, 57, 97, 98, 99, 100, 101, 102]⟩) (.int .i64 (i : Int))).run Tryz.prog w = .ok (.int .u8 ((lt i).toNat : Int)) w :=
        run_at_bytes lets i (lt i) (by rw [List.getElem?_eq_getElem hil, lt_at hil]) (i : Int) rfl
      have hd := dgt_lt i (by omega)
      obtain ⟨d, hdd⟩ : ∃ d, lt i = d := ⟨_, rfl⟩
      rw [hdd] at hix hd
      have hdl := d.toNat_lt
      have HDD := Lib.hid hdd
      clear hdd hil
      by_cases hcd : d = c
      · subst hcd
        have HD := Lib.hid (show digR d = (i : Int) by unfold digR; rw [hd, if_pos (by omega)])
        clear hd HI
        have hee : ((d.toNat : Int) == (d.toNat : Int)) = true := by simp
        go_wp2
        go_ret
        exact ⟨by rw [HD.out]; rfl, rfl⟩
      · have hne : ((d.toNat : Int) == (c.toNat : Int)) = false := by
          rw [beq_eq_false_iff_ne]
          intro e
          exact hcd (UInt8.toNat_inj.1 (by omega))
        have HI2 := Lib.hid (show i + 1 ≤ dgt c by
          have h1 := HI.out
          have h2 : dgt c ≠ i := fun e => hcd (by rw [← HDD.out, ← e, lt_dgt (by omega)])
          omega)
        clear HI hd hcd
        go_wp2
        go_roundg q
        case measure => omega
        case rel => exact ⟨rfl, i + 1, by omega, by go_num, HI2⟩

theorem wof_next {q : Nat} {l : List UInt8} {i : Nat} {c : UInt8} (h : l[i]? = some c) : Wof q (l.take (i + 1)) ↔ Wof q (l.take i) ∧ dgt c < q := by
  rw [List.take_add_one, h]
  show Wof q (l.take i ++ [c]) ↔ _
  rw [Wof.append, Wof.single]
set_option maxRecDepth 100000 in
set_option maxHeartbeats 3200000 in
theorem refCheck_any (q : Int) (l : List UInt8) (w : World) (hl : l.length ≤ 9223372036854775807) :
    Calls Tryz.prog 24 #[.int .i64 q, .string ⟨l.toArray⟩] w fun e w' => e = .returned (.int .i64 (chk q l)) ∧ w' = w := by
  rcases (show q < 1 ∨ 16 < q ∨ (1 ≤ q ∧ q ≤ 16) by omega) with hq | hq | ⟨q1, q2⟩
  · have HC := Lib.hid (show chk q l = 12 by unfold chk; rw [if_neg (by omega)])
    go_enter Tryz.func24, Tryz.ntmps24
    go_wp2_with fail
    go_ret
    exact ⟨by rw [HC.out]; rfl, rfl⟩
  · have HC := Lib.hid (show chk q l = 12 by unfold chk; rw [if_neg (by omega)])
    go_enter Tryz.func24, Tryz.ntmps24
    go_wp2_with fail
    go_ret
    exact ⟨by rw [HC.out]; rfl, rfl⟩
  · obtain ⟨m, rfl⟩ : ∃ m : Nat, q = (m : Int) := ⟨q.toNat, by omega⟩
    rcases Nat.lt_or_ge 65536 l.length with h2 | h2
    · have HC := Lib.hid (show chk m l = 4 by unfold chk; rw [if_pos ⟨q1, q2⟩, if_neg (by omega)])
      go_enter Tryz.func24, Tryz.ntmps24
      go_wp2_with fail
      go_ret
      exact ⟨by rw [HC.out]; rfl, rfl⟩
    · have HC := Lib.hid (show chk m l = if Wof m l then 0 else 13 by unfold chk; rw [if_pos ⟨q1, q2⟩, if_pos h2, Int.toNat_natCast])
      go_enter Tryz.func24, Tryz.ntmps24
      go_wp2_with fail
      go_loopg [5, 6] l.length (fun p s5 s6 wx => wx = w ∧ ∃ i : Nat, i + p = l.length ∧ s5 = .int .i64 (i : Int) ∧ Hid (Wof m (l.take i)))
      case atStart => exact ⟨rfl, 0, by omega, rfl, Lib.hid (fun c hc => by rw [List.take_zero] at hc; cases hc)⟩
      case round =>
        obtain ⟨rfl, i, hi, rfl, HI⟩ := hrel
        rcases gk with _ | p
        · obtain rfl : i = l.length := by omega
          have HC2 := Lib.hid (show chk m l = 0 by have := HI.out; rw [List.take_length] at this; rw [HC.out, if_pos this])
          clear HI HC
          go_wp2
          go_ret
          exact ⟨by rw [HC2.out]; rfl, rfl⟩
        · obtain ⟨c, hc⟩ : ∃ c, l[i]? = some c := ⟨_, List.getElem?_eq_getElem (by omega)⟩
          have hix := run_at_bytes l i c hc (i : Int) rfl
          have HN := Lib.hid (wof_next (q := m) hc)
          have HG := Lib.hid (fun W => refDigit_any c W)
          have hmem : c ∈ l := List.mem_of_getElem? hc
          have HM := Lib.hid hmem
          have hcl := c.toNat_lt
          clear hc hmem
          rcases (show dgt c < m ∨ (m ≤ dgt c ∧ dgt c < 16) ∨ 16 ≤ dgt c by omega) with h | ⟨h, h3⟩ | h
          · have hR : digR c = (dgt c : Int) := by unfold digR; rw [if_pos (by omega)]
            simp only [hR] at HG
            have HI2 := Lib.hid (HN.out.2 ⟨HI.out, h⟩)
            obtain ⟨g, hg⟩ : ∃ g, dgt c = g := ⟨_, rfl⟩
            simp only [hg] at HG
            rw [hg] at h
            clear hR hg HI HN
            go_wp2_with (go_at_call 28; (with_reducible refine (HG.out _).mono ?_); rintro e W1 ⟨rfl, hW⟩; (rw [hW]); (clear hW))
            go_roundg p
            case measure => omega
            case rel => exact ⟨rfl, i + 1, by omega, by go_num, HI2⟩
          · have hR : digR c = (dgt c : Int) := by unfold digR; rw [if_pos (by omega)]
            simp only [hR] at HG
            have HC2 := Lib.hid (show chk m l = 13 by rw [HC.out, if_neg (fun hW => absurd (hW c HM.out) (by omega))])
            obtain ⟨g, hg⟩ : ∃ g, dgt c = g := ⟨_, rfl⟩
            simp only [hg] at HG
            rw [hg] at h h3
            clear hR hg HI HN HC
            go_wp2_with (go_at_call 28; (with_reducible refine (HG.out _).mono ?_); rintro e W1 ⟨rfl, hW⟩; (rw [hW]); (clear hW))
            go_ret
            exact ⟨by rw [HC2.out]; rfl, rfl⟩
          · have hR : digR c = -1 := by unfold digR; rw [if_neg (by omega)]
            simp only [hR] at HG
            have HC2 := Lib.hid (show chk m l = 13 by rw [HC.out, if_neg (fun hW => absurd (hW c HM.out) (by omega))])
            clear hR HI HN HC h
            go_wp2_with (go_at_call 28; (with_reducible refine (HG.out _).mono ?_); rintro e W1 ⟨rfl, hW⟩; (rw [hW]); (clear hW))
            go_ret
            exact ⟨by rw [HC2.out]; rfl, rfl⟩
end Go.Proofs.YtigdjlhihhakmaaGreatDoor

namespace Go.Proofs.YtigdjlhihhakmaaGreatDoor
open Go.RowKit
set_option linter.unusedSimpArgs false
set_option linter.unusedVariables false

/-- An integer of at most L bytes. -/
def AIw (v : Value) (z : Int) (L : Nat) : Prop := ∃ g, ∃ l : List UInt8, v = .agg #[.bool g, .string ⟨l.toArray⟩] ∧ zv g ⟨l.toArray⟩ = z ∧ l.length ≤ L
theorem aiw_mg {z : Int} {L : Nat} (h : z.natAbs < 256 ^ L) : AIw (.agg #[.bool (sg z), .string (mg z)]) z L := ⟨sg z, bytesOf z.natAbs, rfl, zv_mg z, bytesOf_len h⟩
theorem aiw_zero : AIw (.agg #[.bool false, .string ⟨#[]⟩]) 0 0 := ⟨false, [], rfl, rfl, Nat.le_refl _⟩
theorem AIw.wider {v : Value} {z : Int} {L M : Nat} (h : AIw v z L) (hl : L ≤ M) : AIw v z M := by
  obtain ⟨g, l, h1, h2, h3⟩ := h
  exact ⟨g, l, h1, h2, by omega⟩
theorem aiw_add {v1 v2 : Value} {z1 z2 z : Int} {L : Nat} {w : World} (h1 : AIw v1 z1 L) (h2 : AIw v2 z2 L) (hL : L ≤ 10000000) (e : z1 + z2 = z) : Calls Tryz.prog 25 #[v1, v2] w (IntOut w z) := by
  obtain ⟨g1, l1, rfl, a1, b1⟩ := h1
  obtain ⟨g2, l2, rfl, a2, b2⟩ := h2
  exact e ▸ radd01_any g1 g2 l1 l2 z1 z2 w (by omega) (by omega) a1 a2
theorem aiw_mul {v1 v2 : Value} {z1 z2 z : Int} {L : Nat} {w : World} (h1 : AIw v1 z1 L) (h2 : AIw v2 z2 L) (hL : L ≤ 10000000) (e : z1 * z2 = z) : Calls Tryz.prog 26 #[v1, v2] w (IntOut w z) := by
  obtain ⟨g1, l1, rfl, a1, b1⟩ := h1
  obtain ⟨g2, l2, rfl, a2, b2⟩ := h2
  exact e ▸ rmul01_any g1 g2 l1 l2 z1 z2 w (by omega) (by omega) a1 a2
theorem aiw_cmp {v1 v2 : Value} {z1 z2 z : Int} {L : Nat} {w : World} (h1 : AIw v1 z1 L) (h2 : AIw v2 z2 L) (hL : L ≤ 10000000) (e : cmpZ z1 z2 = z) : Calls Tryz.prog 35 #[v1, v2] w fun e w' => e = .returned (.int .i64 z) ∧ Below w.heap.size w w' := by
  obtain ⟨g1, l1, rfl, a1, b1⟩ := h1
  obtain ⟨g2, l2, rfl, a2, b2⟩ := h2
  exact e ▸ rcompare_any g1 g2 l1 l2 z1 z2 w (by omega) (by omega) a1 a2
theorem aiw_div {v1 v2 : Value} {z1 z2 q r : Int} {L : Nat} {w : World} (h1 : AIw v1 z1 L) (h2 : AIw v2 z2 L) (hL : L ≤ 10000000) (h0 : z2 ≠ 0) (eq : qD z1 z2 = q) (er : rD z1 z2 = r) :
    Calls Tryz.prog 36 #[v1, v2] w fun e w' => e = .returned (.tuple #[.agg #[.bool (sg q), .string (mg q)], .agg #[.bool (sg r), .string (mg r)], .int .i64 0]) ∧ Below w.heap.size w w' := by
  obtain ⟨g1, l1, rfl, a1, b1⟩ := h1
  obtain ⟨g2, l2, rfl, a2, b2⟩ := h2
  subst eq er
  exact rdiv01_any g1 g2 l1 l2 z1 z2 w (by omega) (by omega) a1 a2 h0
theorem flF {L : Array Bool} {i j : Nat} (h : i ≠ j) (hf : (L.setIfInBounds i true).getD j false = false) : L.getD j false = false := by
  simp only [Array.getD_eq_getD_getElem?, Array.getElem?_setIfInBounds_ne h] at hf ⊢
  exact hf
/-- A variable that a region reads and writes. -/
def VW (p : Nat) (z z2 : Int) (F0 F1 : Prop) (W : World) : Prop := (∃ z', BVar W p z' ∧ BFr W p) ∧ (F0 → BVar W p z) ∧ (F1 → BVar W p z2)
theorem VW.keep {p : Nat} {z z2 : Int} {F0 F1 : Prop} {W W' : World} (h : VW p z z2 F0 F1 W) (hb : Below W.heap.size W W') : VW p z z2 F0 F1 W' := by
  obtain ⟨⟨z', h1, h2⟩, h3, h4⟩ := h
  exact ⟨⟨z', h1.keep hb, frozen_keep h1.1 h2.1 hb, frozen_keep h1.2 h2.2 hb⟩, fun f => (h3 f).keep hb, fun f => (h4 f).keep hb⟩
theorem VW.imp {p : Nat} {z z2 : Int} {F0 F1 G0 G1 : Prop} {W : World} (h : VW p z z2 F0 F1 W) (h0 : G0 → F0) (h1 : G1 → F1) : VW p z z2 G0 G1 W :=
  ⟨h.1, fun g => h.2.1 (h0 g), fun g => h.2.2 (h1 g)⟩
theorem VW.far {p q : Nat} {z z2 y : Int} {F0 F1 : Prop} {W : World} (h : VW p z z2 F0 F1 W) (hne : p ≠ q) : VW p z z2 F0 F1 (stI W q y) := by
  obtain ⟨⟨z', h1, h2⟩, h3, h4⟩ := h
  have k := stI_far_cells (y := y) ⟨h1.1, h1.2, h2⟩ (Ne.symm hne)
  exact ⟨⟨z', ⟨k.1, k.2.1⟩, k.2.2⟩, fun f => stI_far (h3 f) (Ne.symm hne), fun f => stI_far (h4 f) (Ne.symm hne)⟩
theorem VW.put {p : Nat} {z z2 : Int} {F0 F1 G0 G1 : Prop} {W : World} (h : VW p z z2 F0 F1 W) (h0 : ¬ G0) : VW p z z2 G0 G1 (stI W p z2) := by
  obtain ⟨⟨z', h1, h2⟩, h3, h4⟩ := h
  have k := stI_same (y := z2) ⟨h1.1, h1.2, h2⟩
  exact ⟨⟨z2, k⟩, fun f => absurd f h0, fun _ => k.1⟩
/-- What lies below while a rank is computed. -/
def LR (w W : World) : Prop := (Below w.heap.size w W ∧ ResCell W w.heap.size) ∧ w.heap.size + 1 < W.heap.size
theorem LR.keep {w W X : World} (h : LR w W) (b : Below W.heap.size W X) : LR w X := ⟨⟨below_more h.1.1 (Nat.le_refl _) b, h.1.2.keep b⟩, Nat.lt_of_lt_of_le h.2 b.size⟩
theorem LR.drew {w W : World} (h : LR w W) : LR w W.drew := h.keep (Below.refl _ _).drew
theorem resCell_far {W : World} {p q : Nat} {y : Int} (h : ResCell W p) (hne : q ≠ p) : ResCell (stI W q y) p := by
  have k := stI_far_cells (y := y) ⟨h.1, h.2.1, h.2.2⟩ hne
  exact ⟨k.1, k.2.1, k.2.2⟩
theorem LR.far {w W : World} {q : Nat} {y : Int} (h : LR w W) (hq : w.heap.size < q) : LR w (stI W q y) :=
  ⟨⟨h.1.1.trans (stI_below (Nat.le_of_lt hq)), resCell_far h.1.2 (Nat.ne_of_gt hq)⟩, Nat.lt_of_lt_of_le h.2 (stI_below (B := q) (W := W) (q := q) (y := y) (Nat.le_refl _)).size⟩
end Go.Proofs.YtigdjlhihhakmaaGreatDoor

namespace Go.Proofs.YtigdjlhihhakmaaGreatDoor
open Go.RowKit
set_option linter.unusedSimpArgs false
set_option linter.unusedVariables false

set_option maxRecDepth 100000 in
set_option maxHeartbeats 3200000 in
theorem refRank_err (q : Int) (l : List UInt8) (w : World) (hl : l.length ≤ 9223372036854775807) (h0 : chk q l ≠ 0) :
    Calls Tryz.prog 9 #[.int .i64 q, .string ⟨l.toArray⟩] w (NumOut w 0 (chk q l)) := by
  have HC := Lib.hid (fun W => refCheck_any q l W hl)
  obtain ⟨c, hc⟩ : ∃ c, chk q l = c := ⟨_, rfl⟩
  simp only [hc] at HC
  rw [hc] at h0 ⊢
  have h1 : (c == 0) = false := by rw [beq_eq_false_iff_ne]; exact h0
  clear hc h0
  have hr := ResCell.new w 23
  have hb := below1 w (.cells #[.bool false, .string ⟨#[]⟩] 23)
  obtain ⟨r1, r2, r3, r4⟩ := hr
  go_enter Tryz.func9, Tryz.ntmps9
  go_wp2_with (go_at_call 24; (with_reducible refine (HC.out _).mono ?_); rintro e W1 ⟨rfl, hW⟩; (rw [hW]); (clear hW))
  exact bodyPost_ret (v := .tuple #[.agg #[.bool false, .string ⟨#[]⟩], .int .i64 c]) (by simp [results, Tryz.results9, go_sem, r1, r2, r3, r4]) rfl ⟨by rw [sg0, mg0], hb⟩
set_option maxRecDepth 100000 in
set_option maxHeartbeats 12800000 in
theorem refRank_good (q : Nat) (l : List UInt8) (w : World) (q1 : 1 ≤ q) (q2 : q ≤ 16) (hl : l.length ≤ 30) (hW : Wof q l) :
    Calls Tryz.prog 9 #[.int .i64 (q : Int), .string ⟨l.toArray⟩] w (NumOut w (rk q l) 0) := by
  have HC := Lib.hid (fun W => refCheck_any (q : Int) l W (by omega))
  simp only [chk_of q1 q2 (by omega) hW] at HC
  have HO := Lib.hid (fun W => rof01_any (q : Int) W (by omega) (by omega))
  have HW := Lib.hid hW
  have hmx : Tryz.prog.follows .mixedOrders = true := by kernel_rfl
  have hr := ResCell.new w 23
  have hb := below1 w (.cells #[.bool false, .string ⟨#[]⟩] 23)
  have hb2 := below_more hb (Nat.le_refl _) (below1 (w.alloc (.cells #[.bool false, .string ⟨#[]⟩] 23)) (.cells #[.bool false, .string ⟨#[]⟩] 23))
  have hr2 := hr.keep (below1 _ (.cells #[.bool false, .string ⟨#[]⟩] 23))
  have hv := ResCell.new (w.alloc (.cells #[.bool false, .string ⟨#[]⟩] 23)) 23
  rw [World.size_alloc] at hv
  have K0 := Lib.hid (show LR w _ ∧ VW (w.heap.size + 1) 0 0 False True _ from ⟨⟨⟨hb2, hr2⟩, by rw [World.size_alloc, World.size_alloc]; omega⟩, ⟨0, ⟨by rw [sg0]; exact hv.1, by rw [mg0]; exact hv.2.1⟩, hv.2.2⟩, fun h => h.elim, fun _ => ⟨by rw [sg0]; exact hv.1, by rw [mg0]; exact hv.2.1⟩⟩)
  clear hr hb hb2 hr2 hv hW
  go_enter Tryz.func9, Tryz.ntmps9
  go_wp2_with (go_at_call 24; (with_reducible refine (HC.out _).mono ?_); rintro e W1 ⟨rfl, hW⟩; (rw [hW]); (clear hW))
  go_loopg [8] l.length (fun p s8 wx => ∃ (i : Nat) (z : Int), i + p = l.length ∧ s8 = .int .i64 (i : Int) ∧ Hid (((rk q (l.take i) : Nat) : Int) = z) ∧ LR w wx ∧ VW (w.heap.size + 1) z z False True wx)
  case atStart => exact ⟨0, 0, by omega, rfl, Lib.hid (by rw [List.take_zero]; rfl), K0.out⟩
  case round =>
    obtain ⟨i, z, hip, rfl, Hz, hlr, hvw⟩ := hrel
    clear K0
    rcases gk with _ | p
    · obtain rfl : i = l.length := by omega
      have HZ := Lib.hid (show ((rk q l : Nat) : Int) = z by rw [← Hz.out, List.take_length])
      obtain ⟨x1, x2⟩ := hvw.2.2 trivial
      obtain ⟨⟨hb, r1, r2, r3, r4⟩, -⟩ := hlr
      clear Hz hvw
      go_wp2
      exact bodyPost_ret (v := .tuple #[.agg #[.bool (sg z), .string (mg z)], .int .i64 0]) (by simp [results, Tryz.results9, go_sem, r1, r2, r3, r4]) rfl ⟨by rw [HZ.out], (hb.setCell (p := ⟨w.heap.size, 0, none⟩) (Nat.le_refl _) _).setCell (p := ⟨w.heap.size, 1, none⟩) (Nat.le_refl _) _⟩
    · obtain ⟨c, hc⟩ : ∃ c, l[i]? = some c := ⟨_, List.getElem?_eq_getElem (by omega)⟩
      have hix := run_at_bytes l i c hc (i : Int) rfl
      have hdq := HW.out c (List.mem_of_getElem? hc)
      have HD := Lib.hid (fun W => refDigit_any c W)
      have hR : digR c = (dgt c : Int) := by unfold digR; rw [if_pos (by omega)]
      simp only [hR] at HD
      have hlt := rk_lt (HW.out.take i)
      have hrk : rk q (l.take (i + 1)) = rk q (l.take i) * q + dgt c := by rw [List.take_add_one, hc]; exact rk_snoc _ _ _
      have hpw : q ^ (l.take i).length ≤ 256 ^ 15 := by
        refine Nat.le_trans (Nat.pow_le_pow_left q2 _) ?_
        rw [show (256 : Nat) = 16 ^ 2 from rfl, ← Nat.pow_mul]
        exact Nat.pow_le_pow_right (by omega) (by rw [List.length_take]; omega)
      have h256 : (256 : Nat) ^ 16 = 256 * 256 ^ 15 := by rw [Nat.pow_succ, Nat.mul_comm]
      have hzn : z.natAbs = rk q (l.take i) := by rw [← Hz.out, Int.natAbs_natCast]
      obtain ⟨d, hd⟩ : ∃ d, dgt c = d := ⟨_, rfl⟩
      rw [hd] at hdq hrk
      simp only [hd] at HD
      have hmq : rk q (l.take i) * q ≤ 256 ^ 15 * 16 := Nat.mul_le_mul (by omega) q2
      have A1 : AIw (.agg #[.bool (sg z), .string (mg z)]) z 16 := aiw_mg (by omega)
      have A2 : AIw (.agg #[.bool (sg (q : Int)), .string (mg (q : Int))]) (q : Int) 16 := aiw_mg (by rw [Int.natAbs_natCast]; omega)
      have HM := Lib.hid (fun W => aiw_mul (w := W) A1 A2 (by omega) rfl)
      have hy0 : z * (q : Int) = ((rk q (l.take i) * q : Nat) : Int) := by rw [← Hz.out, Int.natCast_mul]
      obtain ⟨y, hy⟩ : ∃ y : Int, z * (q : Int) = y := ⟨_, rfl⟩
      simp only [hy] at HM
      have hyn : y.natAbs = rk q (l.take i) * q := by rw [← hy, hy0, Int.natAbs_natCast]
      have A3 : AIw (.agg #[.bool (sg y), .string (mg y)]) y 16 := aiw_mg (by omega)
      have A4 : AIw (.agg #[.bool (sg (d : Int)), .string (mg (d : Int))]) (d : Int) 16 := aiw_mg (by rw [Int.natAbs_natCast]; omega)
      have HA := Lib.hid (fun W => aiw_add (w := W) A3 A4 (by omega) rfl)
      have HO2 := Lib.hid (fun W => rof01_any (d : Int) W (by omega) (by omega))
      obtain ⟨x, hx⟩ : ∃ x : Int, y + (d : Int) = x := ⟨_, rfl⟩
      simp only [hx] at HA
      have HX := Lib.hid (show ((rk q (l.take (i + 1)) : Nat) : Int) = x by rw [hrk, ← hx, ← hy, hy0, Int.natCast_add])
      have hcl := c.toNat_lt
      clear hx hy hy0 hyn A1 A2 A3 A4 hmq hzn h256 hpw hrk hlt hR hd hc
      go_upto_region 8 with fail
      simp only [decide_eq_true (show i < l.length by omega)]
      have KB := hlr.drew
      have IN : VW (w.heap.size + 1) z x (Array.getD (Array.replicate 11 false) 0 false = false) (Array.getD (Array.replicate 11 false) 10 false = true) wr.drew :=
        ⟨(hvw.keep (Below.refl _ _).drew).1, fun _ => (hvw.keep (Below.refl _ _).drew).2.2 trivial, fun h => absurd h (by decide)⟩
      clear hlr hvw
      refine region_inv' (J := (fun L a wx => ∃ u23 u24 u25 u26 u27 u28 u29 u30 u31 u32, a = { tmps := #[.int .i64 (q : Int), .string ⟨l.toArray⟩, undef, undef, .pointer (some ⟨w.heap.size, 0, none⟩), .int .i64 0, .int .i64 0, .pointer (some ⟨w.heap.size + 1, 0, none⟩), .int .i64 (i : Int), .int .i64 (q : Int), .string ⟨l.toArray⟩, .int .i64 0, .int .i64 0, .bool false, undef, undef, .agg #[.bool false, .string ⟨#[]⟩], .int .i64 (i : Int), .string ⟨l.toArray⟩, .int .i64 (l.length : Int), .bool true, u21, u22, u23, u24, u25, u26, u27, u28, u29, u30, u31, u32, undef], defers := [] } ∧ LR w wx ∧
      (L.getD 0 false = true → u23 = .agg #[.bool (sg z), .string (mg z)]) ∧ (L.getD 1 false = true → u24 = .int .i64 (q : Int)) ∧ (L.getD 2 false = true → u25 = .agg #[.bool (sg (q : Int)), .string (mg (q : Int))]) ∧ (L.getD 3 false = true → u26 = .agg #[.bool (sg y), .string (mg y)]) ∧ (L.getD 4 false = true → u27 = .string ⟨l.toArray⟩) ∧ (L.getD 5 false = true → u28 = .int .i64 (i : Int)) ∧ (L.getD 6 false = true → u29 = .int .u8 (c.toNat : Int)) ∧ (L.getD 7 false = true → u30 = .int .i64 (d : Int)) ∧ (L.getD 8 false = true → u31 = .agg #[.bool (sg (d : Int)), .string (mg (d : Int))]) ∧ (L.getD 9 false = true → u32 = .agg #[.bool (sg x), .string (mg x)]) ∧ VW (w.heap.size + 1) (z) (x) (L.getD 0 false = false) (L.getD 10 false = true) wx)) hmx (by kernel_rfl) ?_ ?_ ?_
      · exact ⟨_, _, _, _, _, _, _, _, _, _, rfl, KB, fun h => absurd h (by decide), fun h => absurd h (by decide), fun h => absurd h (by decide), fun h => absurd h (by decide), fun h => absurd h (by decide), fun h => absurd h (by decide), fun h => absurd h (by decide), fun h => absurd h (by decide), fun h => absurd h (by decide), fun h => absurd h (by decide), IN⟩
      · intro i hi L a wx hl hw ⟨u23, u24, u25, u26, u27, u28, u29, u30, u31, u32, ha, lo, c0, c1, c2, c3, c4, c5, c6, c7, c8, c9, N⟩
        subst ha
        clear KB
        have hi' : i = 0 ∨ i = 1 ∨ i = 2 ∨ i = 3 ∨ i = 4 ∨ i = 5 ∨ i = 6 ∨ i = 7 ∨ i = 8 ∨ i = 9 ∨ i = 10 := by
          have : i < 11 := hi
          omega
        rcases hi' with rfl | rfl | rfl | rfl | rfl | rfl | rfl | rfl | rfl | rfl | rfl
        · refine stepJ (i := 0) rfl (fun K hK => ?_)
          obtain ⟨x1, x2⟩ := N.2.1 hl
          go_simp
          refine hK.out _ _ ⟨_, u24, u25, u26, u27, u28, u29, u30, u31, u32, rfl, lo, fun _ => rfl, fun h => c1 (fl (by decide) h), fun h => c2 (fl (by decide) h), fun h => c3 (fl (by decide) h), fun h => c4 (fl (by decide) h), fun h => c5 (fl (by decide) h), fun h => c6 (fl (by decide) h), fun h => c7 (fl (by decide) h), fun h => c8 (fl (by decide) h), fun h => c9 (fl (by decide) h), (N.imp (fun _ => hl) (fl (by decide)))⟩
        · refine stepJ (i := 1) rfl (fun K hK => ?_)
          go_simp
          refine hK.out _ _ ⟨u23, _, u25, u26, u27, u28, u29, u30, u31, u32, rfl, lo, fun h => c0 (fl (by decide) h), fun _ => rfl, fun h => c2 (fl (by decide) h), fun h => c3 (fl (by decide) h), fun h => c4 (fl (by decide) h), fun h => c5 (fl (by decide) h), fun h => c6 (fl (by decide) h), fun h => c7 (fl (by decide) h), fun h => c8 (fl (by decide) h), fun h => c9 (fl (by decide) h), (N.imp (flF (by decide)) (fl (by decide)))⟩
        · refine stepJ (i := 2) rfl (fun K hK => ?_)
          obtain rfl := c1 (hw 1 (by kernel_rfl))
          go_simp
          go_at_call 27
          refine (HO.out _).mono ?_
          rintro e W2 ⟨rfl, b2⟩
          go_wp2_with fail
          refine hK.out _ _ ⟨u23, _, _, u26, u27, u28, u29, u30, u31, u32, rfl, lo.keep b2, fun h => c0 (fl (by decide) h), fun _ => rfl, fun _ => rfl, fun h => c3 (fl (by decide) h), fun h => c4 (fl (by decide) h), fun h => c5 (fl (by decide) h), fun h => c6 (fl (by decide) h), fun h => c7 (fl (by decide) h), fun h => c8 (fl (by decide) h), fun h => c9 (fl (by decide) h), (N.imp (flF (by decide)) (fl (by decide))).keep b2⟩
        · refine stepJ (i := 3) rfl (fun K hK => ?_)
          obtain rfl := c0 (hw 0 (by kernel_rfl))
          obtain rfl := c2 (hw 2 (by kernel_rfl))
          go_simp
          go_at_call 26
          refine (HM.out _).mono ?_
          rintro e W2 ⟨rfl, b2⟩
          go_wp2_with fail
          refine hK.out _ _ ⟨_, u24, _, _, u27, u28, u29, u30, u31, u32, rfl, lo.keep b2, fun _ => rfl, fun h => c1 (fl (by decide) h), fun _ => rfl, fun _ => rfl, fun h => c4 (fl (by decide) h), fun h => c5 (fl (by decide) h), fun h => c6 (fl (by decide) h), fun h => c7 (fl (by decide) h), fun h => c8 (fl (by decide) h), fun h => c9 (fl (by decide) h), (N.imp (flF (by decide)) (fl (by decide))).keep b2⟩
        · refine stepJ (i := 4) rfl (fun K hK => ?_)
          go_simp
          refine hK.out _ _ ⟨u23, u24, u25, u26, _, u28, u29, u30, u31, u32, rfl, lo, fun h => c0 (fl (by decide) h), fun h => c1 (fl (by decide) h), fun h => c2 (fl (by decide) h), fun h => c3 (fl (by decide) h), fun _ => rfl, fun h => c5 (fl (by decide) h), fun h => c6 (fl (by decide) h), fun h => c7 (fl (by decide) h), fun h => c8 (fl (by decide) h), fun h => c9 (fl (by decide) h), (N.imp (flF (by decide)) (fl (by decide)))⟩
        · refine stepJ (i := 5) rfl (fun K hK => ?_)
          go_simp
          refine hK.out _ _ ⟨u23, u24, u25, u26, u27, _, u29, u30, u31, u32, rfl, lo, fun h => c0 (fl (by decide) h), fun h => c1 (fl (by decide) h), fun h => c2 (fl (by decide) h), fun h => c3 (fl (by decide) h), fun h => c4 (fl (by decide) h), fun _ => rfl, fun h => c6 (fl (by decide) h), fun h => c7 (fl (by decide) h), fun h => c8 (fl (by decide) h), fun h => c9 (fl (by decide) h), (N.imp (flF (by decide)) (fl (by decide)))⟩
        · refine stepJ (i := 6) rfl (fun K hK => ?_)
          obtain rfl := c4 (hw 4 (by kernel_rfl))
          obtain rfl := c5 (hw 5 (by kernel_rfl))
          go_simp
          refine hK.out _ _ ⟨u23, u24, u25, u26, _, _, _, u30, u31, u32, rfl, lo, fun h => c0 (fl (by decide) h), fun h => c1 (fl (by decide) h), fun h => c2 (fl (by decide) h), fun h => c3 (fl (by decide) h), fun _ => rfl, fun _ => rfl, fun _ => rfl, fun h => c7 (fl (by decide) h), fun h => c8 (fl (by decide) h), fun h => c9 (fl (by decide) h), (N.imp (flF (by decide)) (fl (by decide)))⟩
        · refine stepJ (i := 7) rfl (fun K hK => ?_)
          obtain rfl := c6 (hw 6 (by kernel_rfl))
          go_simp
          go_at_call 28
          refine (HD.out _).mono ?_
          rintro e W2 ⟨rfl, hW2⟩
          rw [hW2]
          clear hW2
          go_wp2_with fail
          refine hK.out _ _ ⟨u23, u24, u25, u26, u27, u28, _, _, u31, u32, rfl, lo, fun h => c0 (fl (by decide) h), fun h => c1 (fl (by decide) h), fun h => c2 (fl (by decide) h), fun h => c3 (fl (by decide) h), fun h => c4 (fl (by decide) h), fun h => c5 (fl (by decide) h), fun _ => rfl, fun _ => rfl, fun h => c8 (fl (by decide) h), fun h => c9 (fl (by decide) h), (N.imp (flF (by decide)) (fl (by decide)))⟩
        · refine stepJ (i := 8) rfl (fun K hK => ?_)
          obtain rfl := c7 (hw 7 (by kernel_rfl))
          go_simp
          go_at_call 27
          refine (HO2.out _).mono ?_
          rintro e W2 ⟨rfl, b2⟩
          go_wp2_with fail
          refine hK.out _ _ ⟨u23, u24, u25, u26, u27, u28, u29, _, _, u32, rfl, lo.keep b2, fun h => c0 (fl (by decide) h), fun h => c1 (fl (by decide) h), fun h => c2 (fl (by decide) h), fun h => c3 (fl (by decide) h), fun h => c4 (fl (by decide) h), fun h => c5 (fl (by decide) h), fun h => c6 (fl (by decide) h), fun _ => rfl, fun _ => rfl, fun h => c9 (fl (by decide) h), (N.imp (flF (by decide)) (fl (by decide))).keep b2⟩
        · refine stepJ (i := 9) rfl (fun K hK => ?_)
          obtain rfl := c3 (hw 3 (by kernel_rfl))
          obtain rfl := c8 (hw 8 (by kernel_rfl))
          go_simp
          go_at_call 25
          refine (HA.out _).mono ?_
          rintro e W2 ⟨rfl, b2⟩
          go_wp2_with fail
          refine hK.out _ _ ⟨u23, u24, u25, _, u27, u28, u29, u30, _, _, rfl, lo.keep b2, fun h => c0 (fl (by decide) h), fun h => c1 (fl (by decide) h), fun h => c2 (fl (by decide) h), fun _ => rfl, fun h => c4 (fl (by decide) h), fun h => c5 (fl (by decide) h), fun h => c6 (fl (by decide) h), fun h => c7 (fl (by decide) h), fun _ => rfl, fun _ => rfl, (N.imp (flF (by decide)) (fl (by decide))).keep b2⟩
        · refine stepJ (i := 10) rfl (fun K hK => ?_)
          obtain rfl := c9 (hw 9 (by kernel_rfl))
          obtain ⟨z9, ⟨y1, y2⟩, y3, y4⟩ := id N.1
          go_simp
          refine hK.out _ _ ⟨u23, u24, u25, u26, u27, u28, u29, u30, u31, _, rfl, lo.far (Nat.lt_succ_self _), fun h => c0 (fl (by decide) h), fun h => c1 (fl (by decide) h), fun h => c2 (fl (by decide) h), fun h => c3 (fl (by decide) h), fun h => c4 (fl (by decide) h), fun h => c5 (fl (by decide) h), fun h => c6 (fl (by decide) h), fun h => c7 (fl (by decide) h), fun h => c8 (fl (by decide) h), fun _ => rfl, N.put (fun h => absurd ((hw 0 (by kernel_rfl)).symm.trans (flF (by decide) h)) (by decide))⟩
      · rintro L a wx hall ⟨u23, u24, u25, u26, u27, u28, u29, u30, u31, u32, rfl, lo, c0, c1, c2, c3, c4, c5, c6, c7, c8, c9, N⟩
        obtain rfl := c0 (hall 0 (by decide))
        obtain rfl := c1 (hall 1 (by decide))
        obtain rfl := c2 (hall 2 (by decide))
        obtain rfl := c3 (hall 3 (by decide))
        obtain rfl := c4 (hall 4 (by decide))
        obtain rfl := c5 (hall 5 (by decide))
        obtain rfl := c6 (hall 6 (by decide))
        obtain rfl := c7 (hall 7 (by decide))
        obtain rfl := c8 (hall 8 (by decide))
        obtain rfl := c9 (hall 9 (by decide))
        have WN := N.2.2 (hall 10 (by decide))
        have XN := N.1
        clear hall c0 c1 c2 c3 c4 c5 c6 c7 c8 c9
        have NX : VW (w.heap.size + 1) x x False True wx := ⟨XN, fun h => h.elim, fun _ => WN⟩
        clear KB IN WN XN
        go_wp2
        go_roundg p
        case measure => omega
        case rel => exact ⟨i + 1, x, by omega, by go_num, HX, lo, NX⟩
theorem refRank_any (q : Int) (l : List UInt8) (w : World) (hl : l.length ≤ 30 ∨ 65536 < l.length) (hl2 : l.length ≤ 9223372036854775807) :
    Calls Tryz.prog 9 #[.int .i64 q, .string ⟨l.toArray⟩] w (NumOut w (rankW q l) (chk q l)) := by
  unfold rankW
  by_cases h0 : chk q l = 0
  · obtain ⟨m, rfl, q1, q2, h, hW⟩ := chk_zero h0
    rw [if_pos h0, h0, Int.toNat_natCast]
    exact refRank_good m l w q1 q2 (by omega) hW
  · rw [if_neg h0]
    exact refRank_err q l w hl2 h0
end Go.Proofs.YtigdjlhihhakmaaGreatDoor
