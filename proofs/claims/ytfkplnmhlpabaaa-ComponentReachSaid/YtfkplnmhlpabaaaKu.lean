/- What slices.ContainsFunc returns at the function values of ComponentSinks. Condition: the lists can be read. -/
import Derived.Test.YtfkplnmhlpabaaaKn
namespace Go.Proofs.Ytfkplnmhlpabaaa
open Go.RowKit Go.Shelf
set_option linter.unusedSimpArgs false
set_option linter.unusedVariables false

/-- Whether a list lies within another one. -/
def subB (c l : List Int) : Bool := !c.any fun x => !decide (x ∈ l)
section
variable {p : Nat} {u : Value} {l : List Int} {w : World}
set_option maxRecDepth 100000 in
theorem notIn_any (x : Int) (h : w.cell? ⟨p, 0, none⟩ = some u) (hl : IntsRd w u l) (hn : l.length ≤ 100000) :
    Calls Try.prog 38 #[.int .i64 x, .pointer (some ⟨p, 0, none⟩)] w fun e w' => e = .returned (.bool (!decide (x ∈ l))) ∧ w' = w := by
  have HC := Lib.hid (has_any l x u w hl (by omega))
  obtain ⟨a, c, rfl⟩ := hl.form
  clear hl
  go_enter Try.func38, Try.ntmps38
  go_wp2_with (go_at_call 32; (with_reducible refine HC.out.mono ?_); rintro e W1 ⟨rfl, rfl⟩)
  go_ret
  exact ⟨rfl, rfl⟩
theorem any_take_succ {α : Type} {q : α → Bool} {c : List α} {i : Nat} {x : α} (hx : c[i]? = some x) (h : (c.take i).any q = false) (h2 : q x = false) : (c.take (i + 1)).any q = false := by
  rw [take_snoc hx, List.any_append, h]; simp [h2]
set_option maxRecDepth 100000 in
set_option maxHeartbeats 3200000 in
theorem subI_any (vc : Value) (cs : List Int) (hc : IntsRd w vc cs) (hcn : cs.length ≤ 100000) (h : w.cell? ⟨p, 0, none⟩ = some u) (hl : IntsRd w u l) (hn : l.length ≤ 100000) :
    Calls Try.prog 65 #[vc, .func (.func 38) #[] #[.pointer (some ⟨p, 0, none⟩)]] w fun e w' => (∃ k : Int, e = .returned (.int .i64 k) ∧ (0 ≤ k ↔ subB cs l = false)) ∧ w' = w := by
  have HF := Lib.hid (fun x => notIn_any x h hl hn)
  have HC := Lib.hid hc
  obtain ⟨a, c, rfl⟩ := hc.form
  clear h hl hc
  go_enter Try.func65, Try.ntmps65
  go_wp2_with fail
  go_loopg [8] cs.length (fun q s8 wx => ∃ i : Nat, i + q = cs.length ∧ s8 = .int .i64 (i : Int) ∧ Hid ((cs.take i).any (fun x => !decide (x ∈ l)) = false) ∧ wx = w)
  case atStart => exact ⟨0, by omega, rfl, Lib.hid rfl, rfl⟩
  case round =>
    obtain ⟨i, hin, rfl, HT, rfl⟩ := hrel
    rcases gk with _ | q
    · obtain rfl : i = cs.length := by omega
      have T := HT.out
      rw [List.take_length] at T
      have HT2 := Lib.hid T
      clear T HT
      go_wp2_with fail
      go_ret
      exact ⟨⟨_, rfl, by unfold subB; rw [HT2.out]; simp⟩, rfl⟩
    · obtain ⟨x, hx⟩ : ∃ e, cs[i]? = some e := ⟨_, List.getElem?_eq_getElem (by omega)⟩
      obtain ⟨b, off, c', hv, k1⟩ := HC.out.at hx
      injection hv with e1 e2 e3
      subst e1
      have HX := Lib.hid (HF.out x)
      have HXX := Lib.hid hx
      have j1 : (i : Int) < (cs.length : Int) := by omega
      clear hx e2 e3
      cases hd : decide (x ∈ l) with
      | true =>
        rw [hd] at HX
        have HT3 := Lib.hid (any_take_succ HXX.out HT.out (by rw [hd]; rfl))
        clear hd
        go_wp2_with (go_at_call 38; (with_reducible refine HX.out.mono ?_); rintro e W1 ⟨rfl, rfl⟩)
        go_roundg q
        case measure => omega
        case rel => exact ⟨i + 1, by omega, by go_num, HT3, rfl⟩
      | false =>
        rw [hd] at HX
        have HT3 := Lib.hid (show subB cs l = false by
          unfold subB
          rw [List.any_eq_true.2 ⟨x, List.mem_of_getElem? HXX.out, by rw [hd]; rfl⟩]; rfl)
        clear hd
        go_wp2_with (go_at_call 38; (with_reducible refine HX.out.mono ?_); rintro e W1 ⟨rfl, rfl⟩)
        go_ret
        exact ⟨⟨_, rfl, ⟨fun _ => HT3.out, fun _ => by omega⟩⟩, rfl⟩
set_option maxRecDepth 100000 in
theorem subC_any (vc : Value) (cs : List Int) (hc : IntsRd w vc cs) (hcn : cs.length ≤ 100000) (h : w.cell? ⟨p, 0, none⟩ = some u) (hl : IntsRd w u l) (hn : l.length ≤ 100000) :
    Calls Try.prog 37 #[vc, .func (.func 38) #[] #[.pointer (some ⟨p, 0, none⟩)]] w fun e w' => e = .returned (.bool (!subB cs l)) ∧ w' = w := by
  have HI := Lib.hid (subI_any vc cs hc hcn h hl hn)
  obtain ⟨a, c, rfl⟩ := hc.form
  clear h hl hc
  go_enter Try.func37, Try.ntmps37
  go_wp2_with (go_at_call 65; (with_reducible refine HI.out.mono ?_); rintro e W1 ⟨⟨k, rfl, hk⟩, rfl⟩; (have HK := Lib.hid hk); clear hk)
  go_ret
  refine ⟨?_, rfl⟩
  by_cases h0 : 0 ≤ k
  · rw [HK.out.1 h0, decide_eq_true h0]; rfl
  · rw [decide_eq_false h0]
    cases hs : subB cs l with
    | true => rfl
    | false => exact absurd (HK.out.2 hs) h0
set_option maxRecDepth 100000 in
theorem inside_any (vc : Value) (cs : List Int) (hc : IntsRd w vc cs) (hcn : cs.length ≤ 100000) (h : w.cell? ⟨p, 0, none⟩ = some u) (hl : IntsRd w u l) (hn : l.length ≤ 100000) :
    Calls Try.prog 36 #[vc, .pointer (some ⟨p, 0, none⟩)] w fun e w' => e = .returned (.bool (subB cs l)) ∧ w' = w := by
  have HI := Lib.hid (subC_any vc cs hc hcn h hl hn)
  obtain ⟨a, c, rfl⟩ := hc.form
  clear h hl hc
  go_enter Try.func36, Try.ntmps36
  go_wp2_with (go_at_call 37; (with_reducible refine HI.out.mono ?_); rintro e W1 ⟨rfl, rfl⟩)
  go_ret
  exact ⟨by first | rfl | (congr 1; simp) | (simp), rfl⟩
set_option maxRecDepth 100000 in
set_option maxHeartbeats 3200000 in
theorem rowI_any (vc : Value) (cs : List (List Int)) (hc : RowsRd w vc cs) (hcn : cs.length ≤ 100000) (hrr : ∀ r ∈ cs, r.length ≤ 100000) (h : w.cell? ⟨p, 0, none⟩ = some u) (hl : IntsRd w u l) (hn : l.length ≤ 100000) :
    Calls Try.prog 66 #[vc, .func (.func 36) #[] #[.pointer (some ⟨p, 0, none⟩)]] w fun e w' => (∃ k : Int, e = .returned (.int .i64 k) ∧ (0 ≤ k ↔ cs.any (fun c => subB c l) = true)) ∧ w' = w := by
  have HF := Lib.hid (fun vx x hx hxn => inside_any (w := w) vx x hx hxn h hl hn)
  have HC := Lib.hid hc
  have HRR := Lib.hid hrr
  obtain ⟨a, c, rfl⟩ := hc.form
  clear h hl hc hrr
  go_enter Try.func66, Try.ntmps66
  go_wp2_with fail
  go_loopg [8] cs.length (fun q s8 wx => ∃ i : Nat, i + q = cs.length ∧ s8 = .int .i64 (i : Int) ∧ Hid ((cs.take i).any (fun x => subB x l) = false) ∧ wx = w)
  case atStart => exact ⟨0, by omega, rfl, Lib.hid rfl, rfl⟩
  case round =>
    obtain ⟨i, hin, rfl, HT, rfl⟩ := hrel
    rcases gk with _ | q
    · obtain rfl : i = cs.length := by omega
      have T := HT.out
      rw [List.take_length] at T
      have HT2 := Lib.hid T
      clear T HT
      go_wp2_with fail
      go_ret
      exact ⟨⟨_, rfl, by rw [HT2.out]; simp⟩, rfl⟩
    · obtain ⟨x, hx⟩ : ∃ e, cs[i]? = some e := ⟨_, List.getElem?_eq_getElem (by omega)⟩
      obtain ⟨b, off, c', ux, hv, k1, r1⟩ := HC.out.at hx
      injection hv with e1 e2 e3
      subst e1
      have HX := Lib.hid (HF.out ux x r1 (HRR.out x (List.mem_of_getElem? hx)))
      have HXX := Lib.hid hx
      obtain ⟨a2, c2, rfl⟩ := r1.form
      have j1 : (i : Int) < (cs.length : Int) := by omega
      clear hx e2 e3 r1
      cases hd : subB x l with
      | false =>
        rw [hd] at HX
        have HT3 := Lib.hid (any_take_succ HXX.out HT.out hd)
        clear hd
        go_wp2_with (go_at_call 36; (with_reducible refine HX.out.mono ?_); rintro e W1 ⟨rfl, rfl⟩)
        go_roundg q
        case measure => omega
        case rel => exact ⟨i + 1, by omega, by go_num, HT3, rfl⟩
      | true =>
        rw [hd] at HX
        have HT3 := Lib.hid (show cs.any (fun c => subB c l) = true from List.any_eq_true.2 ⟨x, List.mem_of_getElem? HXX.out, hd⟩)
        clear hd
        go_wp2_with (go_at_call 36; (with_reducible refine HX.out.mono ?_); rintro e W1 ⟨rfl, rfl⟩)
        go_ret
        exact ⟨⟨_, rfl, ⟨fun _ => HT3.out, fun _ => by omega⟩⟩, rfl⟩
set_option maxRecDepth 100000 in
theorem rowC_any (vc : Value) (cs : List (List Int)) (hc : RowsRd w vc cs) (hcn : cs.length ≤ 100000) (hrr : ∀ r ∈ cs, r.length ≤ 100000) (h : w.cell? ⟨p, 0, none⟩ = some u) (hl : IntsRd w u l) (hn : l.length ≤ 100000) :
    Calls Try.prog 39 #[vc, .func (.func 36) #[] #[.pointer (some ⟨p, 0, none⟩)]] w fun e w' => e = .returned (.bool (cs.any (fun c => subB c l))) ∧ w' = w := by
  have HI := Lib.hid (rowI_any vc cs hc hcn hrr h hl hn)
  obtain ⟨a, c, rfl⟩ := hc.form
  clear h hl hc
  go_enter Try.func39, Try.ntmps39
  go_wp2_with (go_at_call 66; (with_reducible refine HI.out.mono ?_); rintro e W1 ⟨⟨k, rfl, hk⟩, rfl⟩; (have HK := Lib.hid hk); clear hk)
  go_ret
  refine ⟨?_, rfl⟩
  by_cases h0 : 0 ≤ k
  · rw [HK.out.1 h0, decide_eq_true h0]; rfl
  · rw [decide_eq_false h0]
    cases hs : cs.any (fun c => subB c l) with
    | false => rfl
    | true => exact absurd (HK.out.2 hs) h0
end
end Go.Proofs.Ytfkplnmhlpabaaa
