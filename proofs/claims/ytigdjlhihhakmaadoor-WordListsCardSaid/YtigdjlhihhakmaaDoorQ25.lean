/- What the reference implementation's Digit and Check return. Condition: a length of at most 1000. What the reference implementation's Zeros and Next return. Condition: a length of at most 1000, or an error. What the reference implementation's All, Long and LongNumber return. Condition: a length of at most 1000, or an error. -/
import Derived.Test.YtigdjlhihhakmaaDoorQ23
import Derived.Deep.RegionHeld3
import Derived.Deep.AppendLies
import Derived.Deep.RegionLaw

namespace Go.Proofs.YtigdjlhihhakmaaDoor
open Go.RowKit
set_option linter.unusedSimpArgs false
set_option linter.unusedVariables false

/-- What Digit returns. -/
def digR (c : UInt8) : Int := if dgt c < 16 then (dgt c : Int) else -1
set_option maxRecDepth 100000 in
set_option maxHeartbeats 1600000 in
theorem refDigit_any (c : UInt8) (w : World) :
    Calls Tryd.prog 46 #[.int .u8 (c.toNat : Int)] w fun e w' => e = .returned (.int .i64 (digR c)) ∧ w' = w := by
  have hcl := c.toNat_lt
  go_enter Tryd.func46, Tryd.ntmps46
  go_wp2_with fail
  go_loopg [3] 16 (fun q s3 wx => wx = w ∧ ∃ i : Nat, i + q = 16 ∧ s3 = .int .i64 (i : Int) ∧ Hid (i ≤ dgt c))
  case atStart => exact ⟨rfl, 0, by omega, rfl, Lib.hid (Nat.zero_le _)⟩
  case round =>
    obtain ⟨rfl, i, hi, rfl, HI⟩ := hrel
    rcases gk with _ | q
    · obtain rfl : i = 16 := by omega
      have HD := Lib.hid (show digR c = -1 by unfold digR; have := HI.out; rw [if_neg (by omega)])
      clear HI
      go_wp2
      go_ret
      exact ⟨by rw [HD.out]; rfl, rfl⟩
    · have hil : i < lets.length := by show i < 16; omega
      have hix : ∀ w, (Instr.index 9 (.string ⟨#[48, 49, 50, 51, 52, 53, 54, 55, 56, 57, 97, 98, 99, 100, 101, 102]⟩) (.int .i64 (i : Int))).run Tryd.prog w = .ok (.int .u8 ((lt i).toNat : Int)) w :=
        run_at_bytes lets i (lt i) (by rw [List.getElem?_eq_getElem hil, lt_at hil]) (i : Int) rfl
      have hd := dgt_lt i (by omega)
      obtain ⟨d, hdd⟩ : ∃ d, lt i = d := ⟨_, rfl⟩
      rw [hdd] at hix hd
      have hdl := d.toNat_lt
      have HDD := Lib.hid hdd
      clear hdd hil
      by_cases hcd : d = c
      · subst hcd
        have HD := Lib.hid (show digR d = (i : Int) by unfold digR; rw [hd, if_pos (by omega)])
        clear hd HI
        have hee : ((d.toNat : Int) == (d.toNat : Int)) = true := by simp
        go_wp2
        go_ret
        exact ⟨by rw [HD.out]; rfl, rfl⟩
      · have hne : ((d.toNat : Int) == (c.toNat : Int)) = false := by
          rw [beq_eq_false_iff_ne]
          intro e
          exact hcd (UInt8.toNat_inj.1 (by omega))
        have HI2 := Lib.hid (show i + 1 ≤ dgt c by
          have h1 := HI.out
          have h2 : dgt c ≠ i := fun e => hcd (by rw [← HDD.out, ← e, lt_dgt (by omega)])
          omega)
        clear HI hd hcd
        go_wp2
        go_roundg q
        case measure => omega
        case rel => exact ⟨rfl, i + 1, by omega, by go_num, HI2⟩

theorem wof_next {q : Nat} {l : List UInt8} {i : Nat} {c : UInt8} (h : l[i]? = some c) : Wof q (l.take (i + 1)) ↔ Wof q (l.take i) ∧ dgt c < q := by
  rw [List.take_add_one, h]
  show Wof q (l.take i ++ [c]) ↔ _
  rw [Wof.append, Wof.single]
set_option maxRecDepth 100000 in
set_option maxHeartbeats 3200000 in
theorem refCheck_any (q : Int) (l : List UInt8) (w : World) (hl : l.length ≤ 9223372036854775807) :
    Calls Tryd.prog 18 #[.int .i64 q, .string ⟨l.toArray⟩] w fun e w' => e = .returned (.int .i64 (chk q l)) ∧ w' = w := by
  rcases (show q < 1 ∨ 16 < q ∨ (1 ≤ q ∧ q ≤ 16) by omega) with hq | hq | ⟨q1, q2⟩
  · have HC := Lib.hid (show chk q l = 12 by unfold chk; rw [if_neg (by omega)])
    go_enter Tryd.func18, Tryd.ntmps18
    go_wp2_with fail
    go_ret
    exact ⟨by rw [HC.out]; rfl, rfl⟩
  · have HC := Lib.hid (show chk q l = 12 by unfold chk; rw [if_neg (by omega)])
    go_enter Tryd.func18, Tryd.ntmps18
    go_wp2_with fail
    go_ret
    exact ⟨by rw [HC.out]; rfl, rfl⟩
  · obtain ⟨m, rfl⟩ : ∃ m : Nat, q = (m : Int) := ⟨q.toNat, by omega⟩
    rcases Nat.lt_or_ge 65536 l.length with h2 | h2
    · have HC := Lib.hid (show chk m l = 4 by unfold chk; rw [if_pos ⟨q1, q2⟩, if_neg (by omega)])
      go_enter Tryd.func18, Tryd.ntmps18
      go_wp2_with fail
      go_ret
      exact ⟨by rw [HC.out]; rfl, rfl⟩
    · have HC := Lib.hid (show chk m l = if Wof m l then 0 else 13 by unfold chk; rw [if_pos ⟨q1, q2⟩, if_pos h2, Int.toNat_natCast])
      go_enter Tryd.func18, Tryd.ntmps18
      go_wp2_with fail
      go_loopg [5, 6] l.length (fun p s5 s6 wx => wx = w ∧ ∃ i : Nat, i + p = l.length ∧ s5 = .int .i64 (i : Int) ∧ Hid (Wof m (l.take i)))
      case atStart => exact ⟨rfl, 0, by omega, rfl, Lib.hid (fun c hc => by rw [List.take_zero] at hc; cases hc)⟩
      case round =>
        obtain ⟨rfl, i, hi, rfl, HI⟩ := hrel
        rcases gk with _ | p
        · obtain rfl : i = l.length := by omega
          have HC2 := Lib.hid (show chk m l = 0 by have := HI.out; rw [List.take_length] at this; rw [HC.out, if_pos this])
          clear HI HC
          go_wp2
          go_ret
          exact ⟨by rw [HC2.out]; rfl, rfl⟩
        · obtain ⟨c, hc⟩ : ∃ c, l[i]? = some c := ⟨_, List.getElem?_eq_getElem (by omega)⟩
          have hix := run_at_bytes l i c hc (i : Int) rfl
          have HN := Lib.hid (wof_next (q := m) hc)
          have HG := Lib.hid (fun W => refDigit_any c W)
          have hmem : c ∈ l := List.mem_of_getElem? hc
          have HM := Lib.hid hmem
          have hcl := c.toNat_lt
          clear hc hmem
          rcases (show dgt c < m ∨ (m ≤ dgt c ∧ dgt c < 16) ∨ 16 ≤ dgt c by omega) with h | ⟨h, h3⟩ | h
          · have hR : digR c = (dgt c : Int) := by unfold digR; rw [if_pos (by omega)]
            simp only [hR] at HG
            have HI2 := Lib.hid (HN.out.2 ⟨HI.out, h⟩)
            obtain ⟨g, hg⟩ : ∃ g, dgt c = g := ⟨_, rfl⟩
            simp only [hg] at HG
            rw [hg] at h
            clear hR hg HI HN
            go_wp2_with (go_at_call 46; (with_reducible refine (HG.out _).mono ?_); rintro e W1 ⟨rfl, hW⟩; (rw [hW]); (clear hW))
            go_roundg p
            case measure => omega
            case rel => exact ⟨rfl, i + 1, by omega, by go_num, HI2⟩
          · have hR : digR c = (dgt c : Int) := by unfold digR; rw [if_pos (by omega)]
            simp only [hR] at HG
            have HC2 := Lib.hid (show chk m l = 13 by rw [HC.out, if_neg (fun hW => absurd (hW c HM.out) (by omega))])
            obtain ⟨g, hg⟩ : ∃ g, dgt c = g := ⟨_, rfl⟩
            simp only [hg] at HG
            rw [hg] at h h3
            clear hR hg HI HN HC
            go_wp2_with (go_at_call 46; (with_reducible refine (HG.out _).mono ?_); rintro e W1 ⟨rfl, hW⟩; (rw [hW]); (clear hW))
            go_ret
            exact ⟨by rw [HC2.out]; rfl, rfl⟩
          · have hR : digR c = -1 := by unfold digR; rw [if_neg (by omega)]
            simp only [hR] at HG
            have HC2 := Lib.hid (show chk m l = 13 by rw [HC.out, if_neg (fun hW => absurd (hW c HM.out) (by omega))])
            clear hR HI HN HC h
            go_wp2_with (go_at_call 46; (with_reducible refine (HG.out _).mono ?_); rintro e W1 ⟨rfl, hW⟩; (rw [hW]); (clear hW))
            go_ret
            exact ⟨by rw [HC2.out]; rfl, rfl⟩
end Go.Proofs.YtigdjlhihhakmaaDoor

namespace Go.Proofs.YtigdjlhihhakmaaDoor
open Go.RowKit
set_option linter.unusedSimpArgs false
set_option linter.unusedVariables false

def zvs (n : Nat) : List Value := List.replicate n (.int .u8 48)
theorem zvs_succ (n : Nat) : zvs (n + 1) = zvs n ++ [.int .u8 48] := List.replicate_succ'
theorem Tryd.infoU8z : (Tryd.prog.info? 5).map (fun i => (i.zero, i.size, i.bytes)) = some (some (.int .u8 0), 1, 1) := by kernel_rfl
set_option maxRecDepth 100000 in
set_option maxHeartbeats 3200000 in
theorem refZeros_any (n : Nat) (w : World) (hl : n ≤ 1000) :
    Calls Tryd.prog 47 #[.int .i64 (n : Int)] w fun e w' => e = .returned (.string ⟨(List.replicate n 48).toArray⟩) ∧ Below w.heap.size w w' := by
  obtain ⟨i0, hi, hz0, hz1, hz2⟩ := info_parts Tryd.infoU8z
  obtain ⟨R, hR⟩ : ∃ R, List.replicate n (48 : UInt8) = R := ⟨_, rfl⟩
  have HRR := Lib.hid hR
  rw [hR]
  clear hR
  go_enter Tryd.func47, Tryd.ntmps47
  go_wp2_with fail
  go_loopg [3, 4] n (fun q s3 s4 wx => ∃ i : Nat, i + q = n ∧ s4 = .int .i64 (i : Int) ∧ (∃ g c, s3 = .slice (some ⟨g, 0, none⟩) i c) ∧ wx.ownsRow w.heap.size 5 1 s3 i (zvs i) ∧ Below w.heap.size w wx)
  case atStart =>
    refine ⟨0, by omega, rfl, ⟨w.heap.size, 0, rfl⟩, ?_, below1 w _⟩
    exact ⟨rfl, .inr ⟨w.heap.size, 0, #[], rfl, Nat.le_refl _, heap_alloc_new w _, Nat.le_refl _, by unfold maxLen; omega, rfl, rfl⟩⟩
  case round =>
    obtain ⟨i, hin, rfl, ⟨g, c, rfl⟩, hown, hb⟩ := hrel
    rcases gk with _ | q
    · obtain rfl : i = n := by omega
      have hlr : (List.replicate i (48 : UInt8)).length = i := List.length_replicate
      have hbk : (convert 70 9 (.slice (some ⟨g, 0, none⟩) i c)).run Tryd.prog wr = .ok (.string ⟨(List.replicate i 48).toArray⟩) wr := by
        conv => lhs; rw [← hlr]
        refine run_convert_bytes_back _ 70 9 5 ⟨g, 0, none⟩ c (List.replicate i 48) Tryd.underlying70 Tryd.underlying5 Tryd.underlying9 (fun j hj => ?_)
        rw [hlr] at hj
        rw [show (⟨g, 0, none⟩ : Addr).add j = ⟨g, j, none⟩ by unfold Addr.add; split <;> simp_all, hown.cellAt j (by omega)]
        unfold zvs
        rw [List.getElem?_replicate, if_pos (by omega), List.getElem_replicate]; rfl
      rw [HRR.out] at hbk
      clear hown hlr
      go_wp2
      go_ret
      exact ⟨rfl, hb⟩
    · have hlt := hown.lt
      have hbs := hb.size
      go_wp2_with (first | (at_builtin; refine wpList_append_own_at _ rfl _ _ 70 rfl w.heap.size 5 i0 (.int .u8 0) 1 1 Tryd.underlying70 hi hz0 hz1 hz2 rfl (by decide) _ _ _ rfl (hown.alloc _) ⟨wr.heap.size, 0, none⟩ 1 1 [.int .u8 48] rfl rfl ?c1 ?c2 ?c3 ?c4 ?c5 ?_))
      case c1 => exact cell_one_new _ _ _
      case c2 => intro u hu; simp at hu; subst hu; rfl
      case c3 => unfold maxLen; omega
      case c4 => omega
      case c5 => rw [World.size_alloc]; omega
      intro v' W2 hown2 hgrow _ hv'
      have hb2 : Below w.heap.size w W2 := (hb.alloc hbs _).grown hgrow (by rw [World.size_alloc]; omega) (fun k hk => (hlt k hk).1)
      rw [← zvs_succ] at hown2
      obtain ⟨g2, c2, rfl, -, -⟩ := hown2.form (by omega)
      clear hown hgrow hlt hv' hb
      go_wp2
      go_roundg q
      case measure => omega
      case rel => exact ⟨i + 1, by omega, by go_num, ⟨g2, c2, rfl⟩, hown2, hb2⟩

theorem keptOf_rep (q n : Nat) (u : List UInt8) : keptOf q (u ++ List.replicate n (lt (q - 1))) = keptOf q u := by
  unfold keptOf
  rw [List.reverse_append, List.dropWhile_append_of_pos (fun a ha => ?_)]
  rw [List.mem_reverse] at ha
  rw [(List.mem_replicate.1 ha).2]; simp
theorem keptOf_last {q : Nat} {u : List UInt8} {c : UInt8} (h : c ≠ lt (q - 1)) : keptOf q (u ++ [c]) = u ++ [c] := by
  unfold keptOf
  rw [List.reverse_append, List.reverse_singleton, List.singleton_append, List.dropWhile_cons_of_neg (by simpa using h), List.reverse_cons, List.reverse_reverse]
theorem nxt_rep {q : Nat} {l : List UInt8} (h : l = List.replicate l.length (lt (q - 1))) : nxt q l = none := by
  apply nxt_nil
  have := keptOf_rep q l.length []
  rw [List.nil_append, ← h] at this
  rw [this]; rfl
theorem nxt_at {q i : Nat} {l : List UInt8} {c : UInt8} (hc : l[i]? = some c) (hd : l.drop (i + 1) = List.replicate (l.length - (i + 1)) (lt (q - 1))) (h : c ≠ lt (q - 1)) :
    nxt q l = some (l.take i ++ [lt (dgt c + 1)] ++ List.replicate (l.length - (i + 1)) 48) := by
  have hi := (List.getElem?_eq_some_iff.1 hc).1
  have h1 : l = (l.take i ++ [c]) ++ List.replicate (l.length - (i + 1)) (lt (q - 1)) := by
    have h2 : l.take (i + 1) = l.take i ++ [c] := by rw [List.take_add_one, hc]; rfl
    conv => lhs; rw [← List.take_append_drop (i + 1) l, hd, h2]
  have hk : keptOf q l = l.take i ++ [c] := by
    have h2 := keptOf_rep q (l.length - (i + 1)) (l.take i ++ [c])
    rw [← h1] at h2
    rw [h2, keptOf_last h]
  rw [nxt_snoc hk, List.length_take, Nat.min_eq_left (by omega)]
theorem rep_more {q i : Nat} {l : List UInt8} (hc : l[i]? = some (lt (q - 1))) (hd : l.drop (i + 1) = List.replicate (l.length - (i + 1)) (lt (q - 1))) :
    l.drop i = List.replicate (l.length - i) (lt (q - 1)) := by
  obtain ⟨hi, hx⟩ := List.getElem?_eq_some_iff.1 hc
  rw [List.drop_eq_getElem_cons hi, hx, hd, show l.length - i = (l.length - (i + 1)) + 1 by omega, List.replicate_succ]
set_option maxRecDepth 100000 in
set_option maxHeartbeats 3200000 in
theorem refNext_err (q : Int) (l : List UInt8) (w : World) (hl : l.length ≤ 9223372036854775807) (h0 : chk q l ≠ 0) :
    Calls Tryd.prog 16 #[.int .i64 q, .string ⟨l.toArray⟩] w (TxOut w (nextW q l)) := by
  obtain ⟨c, hc⟩ : ∃ c, chk q l = c := ⟨_, rfl⟩
  have HX := Lib.hid (show nextW q l = ([], c) by unfold nextW; rw [if_neg h0, hc])
  have HC := Lib.hid (fun W => refCheck_any q l W hl)
  simp only [hc] at HC
  rw [hc] at h0
  have h1 : (c == 0) = false := by rw [beq_eq_false_iff_ne]; exact h0
  clear hc h0
  go_enter Tryd.func16, Tryd.ntmps16
  go_wp2_with (go_at_call 18; (with_reducible refine (HC.out _).mono ?_); rintro e W1 ⟨rfl, hW⟩; (rw [hW]); (clear hW))
  exact bodyPost_ret (v := .tuple #[.string ⟨#[]⟩, .int .i64 c]) (by simp [results, Tryd.results16, go_sem]) rfl ⟨by rw [HX.out], Below.refl _ _⟩
set_option maxRecDepth 100000 in
set_option maxHeartbeats 6400000 in
theorem refNext_good (q : Nat) (l : List UInt8) (w : World) (hl : l.length ≤ 900) (h0 : chk (q : Int) l = 0) :
    Calls Tryd.prog 16 #[.int .i64 (q : Int), .string ⟨l.toArray⟩] w (TxOut w (nextW (q : Int) l)) := by
  obtain ⟨m, hm, m1, m2, hl2, hW⟩ := chk_zero h0
  obtain rfl : m = q := by omega
  clear hm hl2
  have HX1 := Lib.hid (fun v (h : nxt m l = some v) => nextW_some h0 h)
  have HX2 := Lib.hid (fun (h : nxt m l = none) => nextW_none h0 h)
  have HC := Lib.hid (fun W => refCheck_any (m : Int) l W (by omega))
  simp only [h0] at HC
  have HW := Lib.hid hW
  clear h0 hW
  go_enter Tryd.func16, Tryd.ntmps16
  go_wp2_with (go_at_call 18; (with_reducible refine (HC.out _).mono ?_); rintro e W1 ⟨rfl, hW⟩; (rw [hW]); (clear hW))
  go_loopg [7] l.length (fun p s7 wx => wx = w ∧ p ≤ l.length ∧ s7 = .int .i64 ((p : Int) - 1) ∧ Hid (l.drop p = List.replicate (l.length - p) (lt (m - 1))))
  case atStart => exact ⟨rfl, Nat.le_refl _, rfl, Lib.hid (by rw [List.drop_length, Nat.sub_self]; rfl)⟩
  case round =>
    obtain ⟨rfl, hp, rfl, HI⟩ := hrel
    rcases gk with _ | p
    · have HR := Lib.hid (HX2.out (nxt_rep (q := m) (by have := HI.out; rw [List.drop_zero, Nat.sub_zero] at this; exact this)))
      have HR2 := Lib.hid (show nextW m l = (List.replicate (l.length + 1) 48, 0) by rw [HR.out, if_neg (by omega)])
      have hL : ∀ W, Calls Tryd.prog 47 #[.int .i64 ((l.length : Int) + 1)] W fun e w' => e = .returned (.string ⟨(List.replicate (l.length + 1) 48).toArray⟩) ∧ Below W.heap.size W w' := fun W => refZeros_any (l.length + 1) W (by omega)
      have HL := Lib.hid hL
      clear hL HR HI HX1 HX2
      obtain ⟨Z, hZ⟩ : ∃ Z, List.replicate (l.length + 1) (48 : UInt8) = Z := ⟨_, rfl⟩
      rw [hZ] at HR2
      simp only [hZ] at HL
      clear hZ
      have h6 : ((l.length : Int) == 65536) = false := by rw [beq_eq_false_iff_ne]; omega
      go_wp2_with (go_at_call 47; (with_reducible refine (HL.out _).mono ?_); rintro e W3 ⟨rfl, hb3⟩)
      exact bodyPost_ret (v := .tuple #[.string ⟨Z.toArray⟩, .int .i64 0]) (by simp [results, Tryd.results16, go_sem]) rfl ⟨by rw [HR2.out], hb3⟩
    · obtain ⟨c, hc⟩ : ∃ c, l[p]? = some c := ⟨_, List.getElem?_eq_getElem (by omega)⟩
      have hp1 : ((p + 1 : Nat) : Int) - 1 = (p : Int) := by omega
      rw [hp1]
      clear hp1
      have hix := run_at_bytes l p c hc (p : Int) rfl
      have hgm := HW.out c (List.mem_of_getElem? hc)
      have HG := Lib.hid (fun W => refDigit_any c W)
      have hR : digR c = (dgt c : Int) := by unfold digR; rw [if_pos (by omega)]
      simp only [hR] at HG
      clear hR
      have hcl := c.toNat_lt
      by_cases hgq : dgt c + 1 < m
      · have hne : c ≠ lt (m - 1) := fun e => by rw [e, dgt_lt _ (by omega)] at hgq; omega
        have HN := Lib.hid (HX1.out _ (nxt_at hc HI.out hne))
        clear HX1 HX2 HI hc hne
        obtain ⟨g, hg⟩ : ∃ g, dgt c = g := ⟨_, rfl⟩
        simp only [hg] at HG
        rw [hg] at hgq hgm HN
        clear hg
        obtain ⟨u, hu⟩ : ∃ u, l.take p = u := ⟨_, rfl⟩
        have hul : u.length = p := by rw [← hu, List.length_take, Nat.min_eq_left (by omega)]
        have hcut2 := run_take_at l u p (p : Int) rfl (by omega) hu
        have hcut3 : ∀ w, (Instr.slice 9 (.string ⟨#[48, 49, 50, 51, 52, 53, 54, 55, 56, 57, 97, 98, 99, 100, 101, 102]⟩) (some (.int .i64 ((g : Int) + 1))) (some (.int .i64 ((g : Int) + 2))) none).run Tryd.prog w = .ok (.string ⟨[lt (g + 1)].toArray⟩) w :=
          run_cut_at lets [lt (g + 1)] (g + 1) (g + 2) _ _ (by omega) (by omega) (by omega) (by show g + 2 ≤ 16; omega) (by
            have h1 : g + 1 < lets.length := by show g + 1 < 16; omega
            rw [show g + 2 - (g + 1) = 1 by omega, List.drop_eq_getElem_cons h1, List.take_succ_cons, List.take_zero, lt_at h1])
        rw [hu] at HN
        obtain ⟨y, hy⟩ : ∃ y, lt (g + 1) = y := ⟨_, rfl⟩
        rw [hy] at HN hcut3
        clear hy hu
        obtain ⟨n, hn⟩ : ∃ n : Nat, l.length - (p + 1) = n := ⟨_, rfl⟩
        have hnl : (l.length : Int) - 1 - (p : Int) = (n : Int) := by omega
        rw [hn] at HN
        have hnn : n ≤ 1000 := by omega
        clear hn
        go_wp2_with (go_at_call 46; (with_reducible refine (HG.out _).mono ?_); rintro e W1 ⟨rfl, hW⟩; (rw [hW]); (clear hW))
        have hw1 : IntKind.i64.wrap ((g : Int) + 2) = (g : Int) + 2 := by rw [IntKind.wrap_i64]; omega
        have hw2 : IntKind.i64.wrap ((g : Int) + 1) = (g : Int) + 1 := by rw [IntKind.wrap_i64]; omega
        have hw3 : IntKind.i64.wrap ((l.length : Int) - 1 - (p : Int)) = (n : Int) := by rw [IntKind.wrap_i64]; omega
        have hw5 : IntKind.i64.wrap ((l.length : Int) - 1) = (l.length : Int) - 1 := by rw [IntKind.wrap_i64]; omega
        have hw4 : IntKind.i64.wrap (n : Int) = (n : Int) := by rw [IntKind.wrap_i64]; omega
        obtain ⟨V, hV⟩ : ∃ V, u ++ [y] = V := ⟨_, rfl⟩
        obtain ⟨Z, hZ⟩ : ∃ Z, List.replicate n (48 : UInt8) = Z := ⟨_, rfl⟩
        obtain ⟨T, hT⟩ : ∃ T, V ++ Z = T := ⟨_, rfl⟩
        have HZZ := Lib.hid hZ
        have hs1 : ∀ w, (Op.stringOp .add ⟨u.toArray⟩ ⟨#[y]⟩).run Tryd.prog w = .ok (.string ⟨V.toArray⟩) w := fun w => by
          rw [← hV]; exact run_string_add_lists w u [y] (by omega) (by simp)
        have hVl : V.length = u.length + 1 := by rw [← hV]; simp
        have hZl : Z.length = n := by rw [← hZ]; simp
        have hs2 : ∀ w, (Op.stringOp .add ⟨V.toArray⟩ ⟨Z.toArray⟩).run Tryd.prog w = .ok (.string ⟨T.toArray⟩) w := fun w => by
          rw [← hT]; exact run_string_add_lists w V Z (by omega) (by omega)
        rw [hV, hZ, hT] at HN
        clear hV hZ hT hVl hZl
        go_region_held3 (fun _ => True) (trivial) (first | (go_at_call 47; (with_reducible refine (refZeros_any n _ hnn).mono ?_); rintro e W3 ⟨rfl, hb3⟩; (rw [HZZ.out])))
        go_wp2
        exact bodyPost_ret (v := .tuple #[.string ⟨T.toArray⟩, .int .i64 0]) (by simp [results, Tryd.results16, go_sem]) rfl ⟨by rw [HN.out], below_more (Below.refl _ _).drew (Nat.le_refl _) hb3⟩
      · have he : c = lt (m - 1) := by rw [show m - 1 = dgt c by omega, lt_dgt (by omega)]
        have HI2 := Lib.hid (rep_more (q := m) (by rw [hc, he]) HI.out)
        clear HX1 HX2 HI hc he
        obtain ⟨g, hg⟩ : ∃ g, dgt c = g := ⟨_, rfl⟩
        simp only [hg] at HG
        rw [hg] at hgq hgm
        clear hg
        go_wp2_with (go_at_call 46; (with_reducible refine (HG.out _).mono ?_); rintro e W1 ⟨rfl, hW⟩; (rw [hW]); (clear hW))
        go_roundg p
        case measure => omega
        case rel => exact ⟨rfl, by omega, by go_num, HI2⟩
theorem refNext_any (q : Int) (l : List UInt8) (w : World) (hl : l.length ≤ 900 ∨ 65536 < l.length) (hl2 : l.length ≤ 9223372036854775807) :
    Calls Tryd.prog 16 #[.int .i64 q, .string ⟨l.toArray⟩] w (TxOut w (nextW q l)) := by
  by_cases h0 : chk q l = 0
  · obtain ⟨m, rfl, _, _, h, _⟩ := chk_zero h0
    exact refNext_good m l w (by omega) h0
  · exact refNext_err q l w hl2 h0
end Go.Proofs.YtigdjlhihhakmaaDoor

namespace Go.Proofs.YtigdjlhihhakmaaDoor
open Go.RowKit
set_option linter.unusedSimpArgs false
set_option linter.unusedVariables false

/-- A list of strings that can be read in memory. -/
def StrsIn (W : World) (v : Value) (l : List (List UInt8)) : Prop :=
  (l = [] ∧ ∃ a c, v = .slice a 0 c) ∨ (∃ g c, v = .slice (some ⟨g, 0, none⟩) l.length c ∧ ∀ j, j < l.length → W.cell? ⟨g, j, none⟩ = some (.string ⟨(l.getD j []).toArray⟩))
theorem StrsIn.keep {W W' : World} {v : Value} {l : List (List UInt8)} (h : StrsIn W v l) (hb : Below W.heap.size W W') : StrsIn W' v l := by
  rcases h with h | ⟨g, c, h1, h2⟩
  · exact Or.inl h
  · exact Or.inr ⟨g, c, h1, fun j hj => cell_keep (h2 j hj) hb⟩
theorem strs_at {l : List (List UInt8)} {j : Nat} (hj : j < l.length) : (strs l)[j]? = some (.string ⟨(l.getD j []).toArray⟩) := by
  unfold strs
  rw [List.getElem?_map, List.getElem?_eq_getElem hj, List.getD_eq_getElem?_getD, List.getElem?_eq_getElem hj]; rfl
theorem StrsAt.strsIn {W : World} {B : Nat} {v : Value} {l : List (List UInt8)} (h : StrsAt W B v l) : StrsIn W v l := by
  have h' : W.ownsRow B 9 1 v l.length (strs l) := h
  rcases Nat.eq_zero_or_pos l.length with h0 | h0
  · obtain ⟨a, c, rfl⟩ := h.slice
    rw [h0]
    exact Or.inl ⟨List.eq_nil_of_length_eq_zero h0, a, c, rfl⟩
  · obtain ⟨g, c, rfl, -, -⟩ := h'.form h0
    refine Or.inr ⟨g, c, rfl, fun j hj => ?_⟩
    rw [h'.cellAt j (by omega), strs_at hj]
/-- What the reference implementation's All returns. -/
def RefAllOut (w : World) (r : List (List UInt8) × Int) (e : Ending) (w' : World) : Prop := ∃ v, e = .returned (.tuple #[v, .int .i64 r.2]) ∧ StrsIn w' v r.1 ∧ Below w.heap.size w w'
set_option maxRecDepth 100000 in
set_option maxHeartbeats 3200000 in
theorem refAll_err (q n : Int) (w : World) (h : chkL q n ≠ 0) :
    Calls Tryd.prog 14 #[.int .i64 q, .int .i64 n] w (RefAllOut w (allR q n)) := by
  have HX := Lib.hid (show allR q n = ([], chkL q n) by unfold allR; rw [if_neg h])
  rw [HX.out]
  have hnil : ∀ W, StrsIn W (.slice none 0 0) [] := fun W => Or.inl ⟨rfl, none, 0, rfl⟩
  rcases (show q < 1 ∨ 16 < q ∨ (1 ≤ q ∧ q ≤ 16) by omega) with hq | hq | ⟨q1, q2⟩
  · have HC := Lib.hid (show chkL q n = 12 by unfold chkL; rw [if_neg (by omega)])
    rw [HC.out]
    clear h
    go_enter Tryd.func14, Tryd.ntmps14
    go_wp2_with fail
    exact bodyPost_ret (v := .tuple #[.slice none 0 0, .int .i64 12]) (by simp [results, Tryd.results14, go_sem]) rfl ⟨_, rfl, hnil _, Below.refl _ _⟩
  · have HC := Lib.hid (show chkL q n = 12 by unfold chkL; rw [if_neg (by omega)])
    rw [HC.out]
    clear h
    go_enter Tryd.func14, Tryd.ntmps14
    go_wp2_with fail
    exact bodyPost_ret (v := .tuple #[.slice none 0 0, .int .i64 12]) (by simp [results, Tryd.results14, go_sem]) rfl ⟨_, rfl, hnil _, Below.refl _ _⟩
  · rcases (show n < 0 ∨ (0 ≤ n ∧ 65536 < n) ∨ (0 ≤ n ∧ n ≤ 65536) by omega) with h1 | ⟨h1, h2⟩ | ⟨h1, h2⟩
    · have HC := Lib.hid (show chkL q n = 2 by unfold chkL; rw [if_pos ⟨q1, q2⟩, if_pos h1])
      rw [HC.out]
      clear h
      go_enter Tryd.func14, Tryd.ntmps14
      go_wp2_with fail
      exact bodyPost_ret (v := .tuple #[.slice none 0 0, .int .i64 2]) (by simp [results, Tryd.results14, go_sem]) rfl ⟨_, rfl, hnil _, Below.refl _ _⟩
    · have HC := Lib.hid (show chkL q n = 4 by unfold chkL; rw [if_pos ⟨q1, q2⟩, if_neg (by omega), if_pos h2])
      rw [HC.out]
      clear h
      go_enter Tryd.func14, Tryd.ntmps14
      go_wp2_with fail
      exact bodyPost_ret (v := .tuple #[.slice none 0 0, .int .i64 4]) (by simp [results, Tryd.results14, go_sem]) rfl ⟨_, rfl, hnil _, Below.refl _ _⟩
    · exact absurd (by unfold chkL; rw [if_pos ⟨q1, q2⟩, if_neg (by omega), if_neg (by omega)]) h
theorem unrk_snoc {q n k c : Nat} (hc : c < q) : unrk q (n + 1) (k * q + c) = unrk q n k ++ [lt c] := by
  rw [unrk, Nat.mul_comm, Nat.mul_add_div (by omega), Nat.div_eq_of_lt hc, Nat.add_zero, Nat.mul_add_mod, Nat.mod_eq_of_lt hc]
theorem wordsTo_at {q n m j : Nat} (hj : j < m) : (wordsTo q n m).getD j [] = unrk q n j := by
  unfold wordsTo
  rw [List.getD_eq_getElem?_getD, List.getElem?_map, List.getElem?_range hj]; rfl
theorem cell_one_str (W : World) (s : ByteArray) (t : TypeId) : (W.alloc (.cells #[.string s] t)).cell? ⟨W.heap.size, 0, none⟩ = some (.string s) := by simp [go_sem]
set_option maxRecDepth 100000 in
set_option maxHeartbeats 12800000 in
theorem refAll_good (q n : Nat) (w : World) (q1 : 1 ≤ q) (q2 : q ≤ 16) (hn : n ≤ 1000) (h0 : chkL (q : Int) (n : Int) = 0) :
    Calls Tryd.prog 14 #[.int .i64 (q : Int), .int .i64 (n : Int)] w (RefAllOut w (allR (q : Int) (n : Int))) := by
  obtain ⟨i0, hi, hz0, hz1, hz2⟩ := info_parts Tryd.infoStr
  have HX := Lib.hid (show allR (q : Int) (n : Int) = if q ^ n ≤ 4096 then (wordsTo q n (q ^ n), 0) else ([], 4) by unfold allR; rw [if_pos h0, Int.toNat_natCast, Int.toNat_natCast])
  obtain ⟨R, hR⟩ : ∃ R, allR (q : Int) (n : Int) = R := ⟨_, rfl⟩
  have HX := Lib.hid (show (if q ^ n ≤ 4096 then (wordsTo q n (q ^ n), (0 : Int)) else ([], 4)) = R by rw [← hR, HX.out])
  rw [hR]
  clear h0 hR
  go_enter Tryd.func14, Tryd.ntmps14
  go_wp2_with fail
  go_loopg [6, 7] n (fun g s6 s7 wx => ∃ (i gb c m : Nat), i + g = n ∧ s7 = .int .i64 (i : Int) ∧ s6 = .slice (some ⟨gb, 0, none⟩) m c ∧ 0 < m ∧ m ≤ 4096 ∧ Hid (q ^ i = m) ∧ Hid (∀ j, j < m → wx.cell? ⟨gb, j, none⟩ = some (.string ⟨(unrk q i j).toArray⟩)) ∧ Below w.heap.size w wx)
  case atStart =>
    refine ⟨0, w.heap.size, 1, 1, by omega, rfl, rfl, by omega, by omega, Lib.hid rfl, Lib.hid (fun j hj => ?_), below1 w _⟩
    obtain rfl : j = 0 := by omega
    exact cell_one_str w ⟨#[]⟩ _
  case round =>
    obtain ⟨i, gb, c, m, hig, rfl, rfl, hm0, hm, Hm, HC, hb⟩ := hrel
    rcases gk with _ | g
    · obtain rfl : i = n := by omega
      have HR := Lib.hid (show R = (wordsTo q i m, 0) by rw [← HX.out, Hm.out, if_pos hm])
      have HS := Lib.hid (show StrsIn wr (.slice (some ⟨gb, 0, none⟩) m c) (wordsTo q i m) from Or.inr ⟨gb, c, by rw [wordsTo_len], fun j hj => by rw [wordsTo_len] at hj; rw [wordsTo_at hj]; exact HC.out j hj⟩)
      clear HC Hm
      go_wp2
      exact bodyPost_ret (v := .tuple #[.slice (some ⟨gb, 0, none⟩) m c, .int .i64 0]) (by simp [results, Tryd.results14, go_sem]) rfl ⟨_, by rw [HR.out], by rw [HR.out]; exact HS.out, hb⟩
    · obtain ⟨t, ht⟩ : ∃ t : Nat, m * q = t := ⟨_, rfl⟩
      have htb : t ≤ 65536 := by rw [← ht]; exact Nat.le_trans (Nat.mul_le_mul hm q2) (by decide)
      have hmul : (m : Int) * (q : Int) = (t : Int) := by rw [← ht, Int.natCast_mul]
      have Ht := Lib.hid (show q ^ (i + 1) = t by rw [Nat.pow_succ, Hm.out, ht])
      have Htm := Lib.hid ht
      clear ht
      by_cases h4 : t ≤ 4096
      · go_wp2_with fail
        have hgb : gb < wr.heap.size := World.block_lt_of_cell? wr ⟨gb, 0, none⟩ (HC.out 0 hm0)
        have HCm := Lib.hid (fun W (hb : Below wr.heap.size wr W) j (hj : j < m) => show W.cell? ⟨gb, j, none⟩ = some (.string ⟨(unrk q i j).toArray⟩) from (hb.cell (p := ⟨gb, j, none⟩) hgb).trans (HC.out j hj))
        have HBm := Lib.hid (fun W (hb' : Below wr.heap.size wr W) => below_more hb (Nat.le_refl _) hb')
        clear HC hgb
        obtain ⟨Wo, hWo⟩ : ∃ Wo, Wo = wr := ⟨_, rfl⟩
        have HWo := Lib.hid hWo
        rw [← hWo] at HCm HBm
        clear hb hWo
        simp only [decide_eq_true (show i < n by omega)]
        go_loopg [8, 9] m (fun g2 s8 s9 wx => ∃ k : Nat, k + g2 = m ∧ s9 = .int .i64 (k : Int) ∧ (∃ g9 c9, s8 = .slice (some ⟨g9, 0, none⟩) (k * q) c9) ∧ wx.ownsRow Wo.heap.size 9 1 s8 (k * q) (strs (wordsTo q (i + 1) (k * q))) ∧ Below Wo.heap.size Wo wx)
        case atStart =>
          rw [HWo.out]
          refine ⟨0, by omega, rfl, ⟨wr.heap.size, 0, by rw [Nat.zero_mul]⟩, ?_, below1 wr _⟩
          rw [Nat.zero_mul]
          exact ⟨rfl, .inr ⟨wr.heap.size, 0, #[], rfl, Nat.le_refl _, heap_alloc_new wr _, Nat.le_refl _, by unfold maxLen; omega, rfl, rfl⟩⟩
        case round =>
          obtain ⟨k, hkm, rfl, ⟨g9, c9, rfl⟩, hown, hb2⟩ := hrel
          rcases gk with _ | g2
          · obtain rfl : k = m := by omega
            rw [Htm.out] at hown ⊢
            have hb3 := HBm.out _ hb2
            have hc3 := Lib.hid (show ∀ j, j < t → wr.cell? ⟨g9, j, none⟩ = some (.string ⟨(unrk q (i + 1) j).toArray⟩) from fun j hj => by
              rw [hown.cellAt j (by omega), strs_at (by rw [wordsTo_len]; exact hj), wordsTo_at hj])
            have ht0 : 0 < t := by rw [← Htm.out]; exact Nat.mul_pos hm0 q1
            clear hown hb2 HCm HBm Hm
            go_wp2
            go_roundg g
            case measure => omega
            case rel => exact ⟨i + 1, g9, c9, t, by omega, by go_num, rfl, ht0, h4, Ht, hc3, hb3⟩
          · have hkm2 : k < m := by omega
            have hcell := HCm.out _ hb2 k hkm2
            clear hcell
            have hrow : ∀ c, k * q + c ≤ 65536 → True := fun _ _ => trivial
            have hkq : k * q + q ≤ t := by rw [← Htm.out]; have := Nat.mul_le_mul_right q hkm2; rw [Nat.succ_mul] at this; exact this
            have HK2 := Lib.hid (show (k + 1) * q = k * q + q from Nat.succ_mul _ _)
            obtain ⟨kq, hkqe⟩ : ∃ kq, k * q = kq := ⟨_, rfl⟩
            have HUs := Lib.hid (fun c (hc : c < q) => unrk_snoc (n := i) (k := k) hc)
            simp only [hkqe] at HUs
            rw [hkqe] at hown hkq HK2 ⊢
            clear hkqe hrow
            obtain ⟨U, hU⟩ : ∃ U, unrk q i k = U := ⟨_, rfl⟩
            have HCk := Lib.hid (fun W hb => HCm.out W hb k hkm2)
            have hUl := unrk_len q i k
            rw [hU] at hUl
            simp only [hU] at HCk HUs
            clear hU
            go_wp2_with fail
            go_loopg [8, 10] q (fun g3 s8 s10 wx => ∃ c : Nat, c + g3 = q ∧ s10 = .int .i64 (c : Int) ∧ (∃ g9 c9, s8 = .slice (some ⟨g9, 0, none⟩) (kq + c) c9) ∧ wx.ownsRow Wo.heap.size 9 1 s8 (kq + c) (strs (wordsTo q (i + 1) (kq + c))) ∧ Below Wo.heap.size Wo wx)
            case atStart => exact ⟨0, by omega, rfl, ⟨g9, c9, by rw [Nat.add_zero]⟩, by rw [Nat.add_zero]; exact hown, hb2⟩
            case round =>
              obtain ⟨c, hcq, rfl, ⟨g8, c8, rfl⟩, hown, hb2⟩ := hrel
              rcases gk with _ | g3
              · obtain rfl : c = q := by omega
                rw [← HK2.out] at hown ⊢
                go_wp2
                go_roundg g2
                case measure => omega
                case rel => exact ⟨k + 1, by omega, by go_num, ⟨g8, c8, rfl⟩, hown, hb2⟩
              · have hcq2 : c < q := by omega
                have HUc := Lib.hid (HUs.out c hcq2)
                have hcell := HCk.out _ hb2.drew
                have hcut3 : ∀ w, (Instr.slice 9 (.string ⟨#[48, 49, 50, 51, 52, 53, 54, 55, 56, 57, 97, 98, 99, 100, 101, 102]⟩) (some (.int .i64 (c : Int))) (some (.int .i64 ((c : Int) + 1))) none).run Tryd.prog w = .ok (.string ⟨[lt c].toArray⟩) w :=
                  run_cut_at lets [lt c] c (c + 1) _ _ (by omega) (by omega) (by omega) (by show c + 1 ≤ 16; omega) (by
                    have h1 : c < lets.length := by show c < 16; omega
                    rw [show c + 1 - c = 1 by omega, List.drop_eq_getElem_cons h1, List.take_succ_cons, List.take_zero, lt_at h1])
                obtain ⟨y, hy⟩ : ∃ y, lt c = y := ⟨_, rfl⟩
                rw [hy] at HUc hcut3
                clear hy
                obtain ⟨V, hV⟩ : ∃ V, U ++ [y] = V := ⟨_, rfl⟩
                have hs1 : ∀ w, (Op.stringOp .add ⟨U.toArray⟩ ⟨#[y]⟩).run Tryd.prog w = .ok (.string ⟨V.toArray⟩) w := fun w => by
                  rw [← hV]; exact run_string_add_lists w U [y] (by omega) (by simp)
                rw [hV] at HUc
                clear hV
                have hwc : IntKind.i64.wrap ((c : Int) + 1) = (c : Int) + 1 := by rw [IntKind.wrap_i64]; omega
                have hlt := hown.lt
                have HS := Lib.hid hcell
                have x1 := HS.out
                have hown2 := (show wr.drew.ownsRow Wo.heap.size 9 1 (.slice (some ⟨g8, 0, none⟩) (kq + c) c8) (kq + c) (strs (wordsTo q (i + 1) (kq + c))) from hown).alloc (.cells #[.string ⟨V.toArray⟩] 9)
                have hcn := cell_one_new wr.drew (.string ⟨V.toArray⟩) 9
                clear HS
                go_wp2_with fail
                go_region_law (refine step_append_lies _ rfl (.tmp 44) (.tmp 54) 25 rfl Wo.heap.size 9 i0 (.string ⟨#[]⟩) 1 16 Tryd.underlying25 hi hz0 hz1 hz2 rfl (by decide) (.slice (some ⟨g8, 0, none⟩) (kq + c) c8) (kq + c) (strs (wordsTo q (i + 1) (kq + c))) (by simp [Act.eval, Act.put]) hown2 ⟨wr.drew.heap.size, 0, none⟩ 1 1 [.string ⟨V.toArray⟩] (by simp [Act.eval, Act.put]) rfl hcn (by intro u hu; simp at hu; subst hu; rfl) (by decide) (by unfold maxLen; omega) (by omega) (Nat.le_trans hb2.size (below1 wr (.cells #[.string ⟨V.toArray⟩] 9)).size) _ rfl ?_; intro g9 c9 W2 r1 r2 r3 r4)
                have r5 := Lib.hid (show W2.ownsRow Wo.heap.size 9 1 (.slice (some ⟨g9, 0, none⟩) (kq + (c + 1)) c9) (kq + (c + 1)) (strs (wordsTo q (i + 1) (kq + (c + 1)))) by
                  rw [← Nat.add_assoc, wordsTo_succ, strs_snoc, HUc.out]; exact r1)
                have hb5 : Below Wo.heap.size Wo W2 := ((hb2.alloc hb2.size (.cells #[.string ⟨V.toArray⟩] 9)).drew).grown r2 (Nat.le_trans hb2.size (below1 wr (.cells #[.string ⟨V.toArray⟩] 9)).size) (fun k hk => (hlt k hk).1)
                clear r1 r2 r3 r4 hown hown2 hcn x1 hlt hb2
                go_wp2
                go_roundg g3
                case measure => omega
                case rel => exact ⟨c + 1, by omega, by go_num, ⟨g9, c9, by rw [Nat.add_assoc]⟩, r5.out, hb5⟩
      · have HD := Lib.hid (show R = ([], 4) by
          rw [← HX.out, if_neg]
          have := Nat.pow_le_pow_right q1 (show i + 1 ≤ n by omega)
          rw [Ht.out] at this
          omega)
        clear Hm HC Ht Htm
        go_wp2
        exact bodyPost_ret (v := .tuple #[.slice none 0 0, .int .i64 4]) (by simp [results, Tryd.results14, go_sem]) rfl ⟨_, by rw [HD.out], by rw [HD.out]; exact Or.inl ⟨rfl, none, 0, rfl⟩, hb⟩
end Go.Proofs.YtigdjlhihhakmaaDoor
