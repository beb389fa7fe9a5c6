/- What the reference implementation's Great, number, Charges, Disparity and Range return. Condition: at most 1000 letters, or an error of Check. -/
import Derived.Test.YtokpfbbhkmlclaaDoorUl
import Derived.Test.YtokpfbbhkmlclaaDoorUd
namespace Go.Proofs.YtokpfbbhkmlclaaDoor
open Go.RowKit
set_option linter.unusedSimpArgs false
set_option linter.unusedVariables false

set_option maxRecDepth 100000 in
set_option maxHeartbeats 1600000 in
theorem refNumber_any (c : UInt8) (w : World) (h16 : dgt c < 16) :
    Calls Tryd.prog 38 #[.int .u8 (c.toNat : Int)] w fun e w' => e = .returned (.int .i64 (dgt c : Int)) ∧ w' = w := by
  have hcl := c.toNat_lt
  go_enter Tryd.func38, Tryd.ntmps38
  go_wp2_with fail
  go_loopg [3] 16 (fun q s3 wx => wx = w ∧ ∃ i : Nat, i + q = 16 ∧ s3 = .int .i64 (i : Int) ∧ Hid (i ≤ dgt c))
  case atStart => exact ⟨rfl, 0, by omega, rfl, Lib.hid (Nat.zero_le _)⟩
  case round =>
    obtain ⟨rfl, i, hi, rfl, HI⟩ := hrel
    rcases gk with _ | q
    · exact absurd HI.out (by omega)
    · have hil : i < lets.length := by show i < 16; omega
      have hix : ∀ w, (Instr.index 9 (.string ⟨#[48, 49, 50, 51, 52, 53, 54, 55, 56, 57, 97, 98, 99, 100, 101, 102]⟩) (.int .i64 (i : Int))).run Tryd.prog w = .ok (.int .u8 ((lt i).toNat : Int)) w :=
        run_at_bytes lets i (lt i) (by rw [List.getElem?_eq_getElem hil, lt_at hil]) (i : Int) rfl
      have hd := dgt_lt i (by omega)
      obtain ⟨d, hdd⟩ : ∃ d, lt i = d := ⟨_, rfl⟩
      rw [hdd] at hix hd
      have hdl := d.toNat_lt
      have HDD := Lib.hid hdd
      clear hdd hil
      by_cases hcd : d = c
      · subst hcd
        have HD := Lib.hid (show (dgt d : Int) = (i : Int) by rw [hd])
        clear hd HI
        have hee : ((d.toNat : Int) == (d.toNat : Int)) = true := by simp
        go_wp2
        go_ret
        exact ⟨by rw [HD.out]; rfl, rfl⟩
      · have hne : ((d.toNat : Int) == (c.toNat : Int)) = false := by
          rw [beq_eq_false_iff_ne]
          intro e
          exact hcd (UInt8.toNat_inj.1 (by omega))
        have HI2 := Lib.hid (show i + 1 ≤ dgt c by
          have h1 := HI.out
          have h2 : dgt c ≠ i := fun e => hcd (by rw [← HDD.out, ← e, lt_dgt (by omega)])
          omega)
        clear HI hd hcd
        go_wp2
        go_roundg q
        case measure => omega
        case rel => exact ⟨rfl, i + 1, by omega, by go_num, HI2⟩
set_option maxRecDepth 100000 in
set_option maxHeartbeats 6400000 in
theorem refCharges_any (l : List UInt8) (w : World) (hl : l.length ≤ 1000 ∨ (65536 < l.length ∧ l.length ≤ 9223372036854775807)) :
    Calls Tryd.prog 25 #[.string ⟨l.toArray⟩] w (IntsOut w (chgR l)) := by
  have HC := Lib.hid (fun W => refCheck_any 2 l W (by omega))
  by_cases h0 : chk 2 l = 0
  · obtain ⟨m, hm, m1, m2, hl2, hW⟩ := chk_zero h0
    obtain rfl : m = 2 := by omega
    have hl3 : l.length ≤ 1000 := by omega
    rw [chgR_zero h0]
    simp only [h0] at HC
    obtain ⟨i0, hi, hz0, hz1, hz2⟩ := info_parts Tryd.infoI64
    have HW := Lib.hid hW
    clear hW hl h0 hm
    go_enter Tryd.func25, Tryd.ntmps25
    go_wp2_with (go_at_call 31; (with_reducible refine (HC.out _).mono ?_); rintro e W1 ⟨rfl, hW⟩; (rw [hW]); (clear hW))
    go_loopg [5, 6] l.length (fun q s5 s6 wx => ∃ i : Nat, i + q = l.length ∧ s6 = .int .i64 (i : Int) ∧ (∃ g c, s5 = .slice (some ⟨g, 0, none⟩) (i + 1) c) ∧ wx.ownsRow w.heap.size 3 1 s5 (i + 1) (intz (chgs (l.take i))) ∧ Below w.heap.size w wx)
    case atStart =>
      refine ⟨0, by omega, rfl, ⟨_, _, rfl⟩, ⟨rfl, .inr ⟨w.heap.size, 1, #[.int .i64 0], rfl, Nat.le_refl _, heap_alloc_new w _, Nat.le_refl _, by unfold maxLen; omega, rfl, rfl⟩⟩, below1 w _⟩
    case round =>
      obtain ⟨i, hin, rfl, ⟨g, cp, rfl⟩, hown, hb⟩ := hrel
      rcases gk with _ | q
      · obtain rfl : i = l.length := by omega
        have HI := Lib.hid (show IntsAt wr w.heap.size (.slice (some ⟨g, 0, none⟩) (l.length + 1) cp) (chgs l) by
          rw [List.take_length] at hown
          unfold IntsAt
          rw [chgs_len]; exact hown)
        clear hown
        go_wp2
        exact bodyPost_ret (v := .tuple #[.slice (some ⟨g, 0, none⟩) (l.length + 1) cp, .int .i64 0]) (by simp [results, Tryd.results25, go_sem]) rfl ⟨_, rfl, HI.out, hb⟩
      · have hil : i < l.length := by omega
        obtain ⟨c, hci⟩ : ∃ c, l[i]? = some c := ⟨_, List.getElem?_eq_getElem hil⟩
        have hix := run_at_bytes l i c hci (i : Int) rfl
        have hcu := c.toNat_lt
        have hc2 : dgt c < 2 := HW.out c (List.mem_of_getElem? hci)
        have hcb := chg_bound (HW.out.takeU i)
        rw [List.length_take] at hcb
        have hx : wr.cell? ⟨g, i, none⟩ = some (.int .i64 (chg (l.take i))) := by
          rw [hown.cellAt i (by omega)]
          unfold intz
          have := chgs_at (l := l.take i) (i := i) (by rw [List.length_take]; omega)
          rw [List.take_take, Nat.min_self] at this
          rw [List.getElem?_map, this]; rfl
        have hsn := chgs_snoc (l.take i) c
        rw [show l.take i ++ [c] = l.take (i + 1) by rw [List.take_add_one, hci]; rfl] at hsn
        obtain ⟨x, hxx⟩ : ∃ x, chg (l.take i) = x := ⟨_, rfl⟩
        rw [hxx] at hx hsn hcb
        have hlt := hown.lt
        have j2 : (i : Int) < (i : Int) + 1 := by omega
        rcases wof2 hc2 with rfl | rfl
        · rw [show x + ch1 48 = x - 1 by unfold ch1; rw [show dgt 48 = 0 by decide]; omega] at hsn
          have HS := Lib.hid hsn
          clear hci hxx hsn
          go_wp2_with (first | (at_builtin; refine wpList_append_own_at _ rfl _ _ 37 rfl w.heap.size 3 i0 (.int .i64 0) 1 8 Tryd.underlying37 hi hz0 hz1 hz2 rfl (by decide) _ _ _ rfl (hown.alloc _) ⟨wr.heap.size, 0, none⟩ 1 1 [.int .i64 (x - 1)] rfl rfl ?c1 ?c2 ?c3 ?c4 ?c5 ?_))
          case c1 => exact World.news_of_block (cs := #[.int .i64 (x - 1)]) (t := 3) (fr := (0, 0)) (heap_alloc_new wr _)
          case c2 => intro u hu; simp at hu; subst hu; rfl
          case c3 => unfold maxLen; omega
          case c4 => omega
          case c5 => rw [World.size_alloc]; have := hb.size; omega
          intro v' W2 hown2 hgrow _ hv'
          have hb2 : Below w.heap.size w W2 := (hb.alloc hb.size _).grown hgrow (by rw [World.size_alloc]; have := hb.size; omega) (fun k hk => (hlt k hk).1)
          rw [← intz_snoc, ← HS.out] at hown2
          obtain ⟨g9, c9, rfl, -, -⟩ := hown2.form (by omega)
          clear hown hgrow hlt hv' hb hx
          go_wp2
          go_roundg q
          case measure => omega
          case rel => exact ⟨i + 1, by omega, by go_num, ⟨_, _, rfl⟩, hown2, hb2⟩
        · rw [show x + ch1 49 = x + 1 by unfold ch1; rw [show dgt 49 = 1 by decide]; omega] at hsn
          have HS := Lib.hid hsn
          clear hci hxx hsn
          go_wp2_with (first | (at_builtin; refine wpList_append_own_at _ rfl _ _ 37 rfl w.heap.size 3 i0 (.int .i64 0) 1 8 Tryd.underlying37 hi hz0 hz1 hz2 rfl (by decide) _ _ _ rfl (hown.alloc _) ⟨wr.heap.size, 0, none⟩ 1 1 [.int .i64 (x + 1)] rfl rfl ?c1 ?c2 ?c3 ?c4 ?c5 ?_))
          case c1 => exact World.news_of_block (cs := #[.int .i64 (x + 1)]) (t := 3) (fr := (0, 0)) (heap_alloc_new wr _)
          case c2 => intro u hu; simp at hu; subst hu; rfl
          case c3 => unfold maxLen; omega
          case c4 => omega
          case c5 => rw [World.size_alloc]; have := hb.size; omega
          intro v' W2 hown2 hgrow _ hv'
          have hb2 : Below w.heap.size w W2 := (hb.alloc hb.size _).grown hgrow (by rw [World.size_alloc]; have := hb.size; omega) (fun k hk => (hlt k hk).1)
          rw [← intz_snoc, ← HS.out] at hown2
          obtain ⟨g9, c9, rfl, -, -⟩ := hown2.form (by omega)
          clear hown hgrow hlt hv' hb hx
          go_wp2
          go_roundg q
          case measure => omega
          case rel => exact ⟨i + 1, by omega, by go_num, ⟨_, _, rfl⟩, hown2, hb2⟩
  · obtain ⟨c, hc⟩ : ∃ c, chk 2 l = c := ⟨_, rfl⟩
    rw [hc] at h0
    rw [chgR_err hc h0]
    simp only [hc] at HC
    have h1 : (c == 0) = false := by rw [beq_eq_false_iff_ne]; exact h0
    clear hc h0
    go_enter Tryd.func25, Tryd.ntmps25
    go_wp2_with (go_at_call 31; (with_reducible refine (HC.out _).mono ?_); rintro e W1 ⟨rfl, hW⟩; (rw [hW]); (clear hW))
    exact bodyPost_ret (v := .tuple #[.slice none 0 0, .int .i64 c]) (by simp [results, Tryd.results25, go_sem]) rfl ⟨_, rfl, ints_nil _ _, Below.refl _ _⟩
end Go.Proofs.YtokpfbbhkmlclaaDoor
