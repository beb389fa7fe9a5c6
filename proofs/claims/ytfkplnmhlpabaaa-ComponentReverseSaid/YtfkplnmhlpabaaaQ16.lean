/- ComponentClasses: the walk. Condition: the edges can be read. What slices.ContainsFunc returns at the function values of ComponentSinks. Condition: the lists can be read. ComponentSinks: from each state a sink is reached (plain), and the walk. Condition: the edges can be read. -/
import Derived.Test.YtfkplnmhlpabaaaQ15

namespace Go.Proofs.Ytfkplnmhlpabaaa
open Go.RowKit Go.Shelf
set_option linter.unusedSimpArgs false
set_option linter.unusedVariables false

theorem fineC_true {L S : Int} {es : List E3} (h : fineC L S es = true) : chkG L S es = 0 := by
  unfold fineC at h
  rw [Bool.and_eq_true] at h
  simpa using h.2
set_option maxRecDepth 100000 in
set_option maxHeartbeats 6400000 in
theorem compClasses_any (L S : Int) (es : List E3) (v : Value) (w : World) (hrd : EdgesRd w v es) (hn : es.length ≤ 9223372036854775807) :
    Calls Try.prog 10 #[grV L S v] w fun e w' => e = .returned (.bool true) ∧ Below w.heap.size w w' := by
  have b1 := below1 w (.cells #[.int .i64 L, .int .i64 S, v] 24)
  have G1 := Lib.hid (BoxG.new w L S v 24)
  have HB := Lib.hid b1
  have HRD := Lib.hid hrd
  have HF := Lib.hid (fun W h => fineC_any L S es v W h hn)
  have HAW := Lib.hid (fun W => awake_any W)
  obtain ⟨x1, x2, x3⟩ := id G1.out
  cases hf : fineC L S es with
  | false =>
    rw [hf] at HF
    obtain ⟨a, c, rfl⟩ := hrd.form
    clear hrd b1 hf
    go_enter Try.func10, Try.ntmps10
    go_wp2_with (first
      | (go_at_call 30; (with_reducible refine (HF.out _ (HRD.out.keep HB.out)).mono ?_); rintro e W2 ⟨rfl, b2⟩; (have B2 := Lib.hid (below_more HB.out (Nat.le_refl _) b2)); clear b2 x1 x2 x3)
      | (go_at_call 13; (with_reducible refine (HAW.out _).mono ?_); rintro e W3 ⟨rfl, b3⟩; (have B3 := Lib.hid (below_more B2.out (Nat.le_refl _) b3)); clear b3))
    go_ret
    exact ⟨rfl, B3.out⟩
  | true =>
    rw [hf] at HF
    have h0 := fineC_true hf
    have hvg := chkG_zero h0
    have hs1 := hvg.s1
    have hs2 := hvg.s2
    have hlen := hvg.len
    obtain ⟨n, rfl⟩ : ∃ n : Nat, S = (n : Int) := ⟨S.toNat, by omega⟩
    have hn64 : n ≤ 64 := by omega
    have HPE := Lib.hid (fun W h => period_any L (n : Int) es v W h (by omega))
    have HCL := Lib.hid (fun W h => classes_any L (n : Int) es v W h (by omega))
    have HHAS := Lib.hid (fun l x v W h hl => has_any l x v W h hl)
    clear hf
    cases hir : irrR L (n : Int) es with
    | false =>
      have e1 : perR L (n : Int) es = 0 := by unfold perR; rw [if_neg (by rw [hir]; decide)]
      have e2 : perE L (n : Int) es = 8 := by unfold perE; rw [if_neg (by rw [hir]; decide), if_pos h0]
      have e3 : clsR L (n : Int) es = [] := by unfold clsR; rw [if_neg (by rw [hir]; decide)]
      rw [e1, e2] at HPE
      rw [e2, e3] at HCL
      obtain ⟨a, c, rfl⟩ := hrd.form
      clear hrd b1 hir h0 hvg e1 e2 e3
      go_enter Try.func10, Try.ntmps10
      go_wp2_with (first
        | (go_at_call 30; (with_reducible refine (HF.out _ (HRD.out.keep HB.out)).mono ?_); rintro e W2 ⟨rfl, b2⟩; (have B2 := Lib.hid (below_more HB.out (Nat.le_refl _) b2)); (have G2 := Lib.hid (G1.out.keep b2)); clear b2 x1 x2 x3; (obtain ⟨x1, x2, x3⟩ := id G2.out))
        | (go_at_call 25; (with_reducible refine (HPE.out _ (HRD.out.keep B2.out)).mono ?_); rintro e W3 ⟨rfl, b3⟩; (have B3 := Lib.hid (below_more B2.out (Nat.le_refl _) b3)); (have G3 := Lib.hid (G2.out.keep b3)); clear b3 x1 x2 x3; (obtain ⟨x1, x2, x3⟩ := id G3.out))
        | (go_at_call 27; (with_reducible refine (HCL.out _ (HRD.out.keep B3.out)).mono ?_); rintro e W4 ⟨v4, rfl, i4, b4⟩; (have B4 := Lib.hid (below_more B3.out (Nat.le_refl _) b4)); (obtain ⟨a4, c4, rfl⟩ := (show ∃ a c, v4 = .slice a 0 c from i4.form)); clear b4 i4 x1 x2 x3)
        | (go_at_call 13; (with_reducible refine (HAW.out _).mono ?_); rintro e W5 ⟨rfl, b5⟩; (have B5 := Lib.hid (below_more B4.out (Nat.le_refl _) b5)); clear b5))
      go_ret
      exact ⟨rfl, B5.out⟩
    | true =>
      obtain ⟨-, hirr⟩ := irrR_true hir
      rw [Int.toNat_natCast] at hirr
      obtain ⟨hne, hcon⟩ := (irr_iff hvg.ok).1 hirr
      have hn0 : 0 < n := by
        cases es with
        | nil => exact absurd rfl hne
        | cons e es => have := okE_iff.1 (hvg.ok e List.mem_cons_self); omega
      have hP1 : 1 ≤ perN es n := per_pos (d := lenF es n 0) hvg.ok hcon hne
      have hP2 : perN es n ≤ 1000 := by
        unfold perN
        refine perF_le fun e he => ?_
        have q1 := lenF_ge hvg.ok 0 e.1.toNat
        have q2 := lenF_ge hvg.ok 0 e.2.2.toNat
        have q3 := lenF_le es n 0 e.1.toNat
        have q4 := lenF_le es n 0 e.2.2.toNat
        omega
      have e1 : perR L (n : Int) es = ((perN es n : Nat) : Int) := by unfold perR; rw [if_pos hir]; rfl
      have e2 : perE L (n : Int) es = 0 := by unfold perE; rw [if_pos hir]
      have e3 : clsR L (n : Int) es = (List.range n).map (clsF es n) := by unfold clsR; rw [if_pos hir]; rfl
      have HC0 := Lib.hid (cls_zero hvg.ok hn0)
      have HCE := Lib.hid (fun e he => cls_edge (n := n) (es := es) (e := e) he)
      have HCA := Lib.hid (fun c hc => cls_all hvg.ok hcon hne hn0 (c := c) hc)
      have HOK := Lib.hid hvg.ok
      have HCB := Lib.hid (show ∀ t, 0 ≤ clsF es n t ∧ clsF es n t < ((perN es n : Nat) : Int) from fun t => ⟨Int.emod_nonneg _ (by omega), Int.emod_lt_of_pos _ (by omega)⟩)
      obtain ⟨P, hP⟩ : ∃ P, perN es n = P := ⟨_, rfl⟩
      rw [e1, e2] at HPE
      rw [e2, e3] at HCL
      rw [hP] at HPE HCE HCA HCB hP1 hP2
      have HLL := Lib.hid (show ((List.range n).map (clsF es n)).length = n by rw [List.length_map, List.length_range])
      have HLG := Lib.hid (show ∀ t, t < n → ((List.range n).map (clsF es n))[t]? = some (clsF es n t) from fun t ht => by rw [List.getElem?_map, List.getElem?_range ht]; rfl)
      have HLM := Lib.hid (show ∀ t, t < n → clsF es n t ∈ (List.range n).map (clsF es n) from fun t ht => List.mem_map.2 ⟨t, List.mem_range.2 ht, rfl⟩)
      obtain ⟨CL, hCL⟩ : ∃ CL, (List.range n).map (clsF es n) = CL := ⟨_, rfl⟩
      rw [hCL] at HCL HLL HLG HLM
      obtain ⟨a, c, rfl⟩ := hrd.form
      clear hrd b1 hir h0 hvg hirr hne hcon e1 e2 e3 hP hCL
      have d1 : ((n : Int) == 0) = false := by rw [beq_eq_false_iff_ne]; omega
      have d2 : decide ((P : Int) < 1) = false := decide_eq_false (by omega)
      have d3 : decide (P < 1) = false := decide_eq_false (by omega)
      have d4 : ((n : Int) != (n : Int)) = false := by simp
      go_enter Try.func10, Try.ntmps10
      go_wp2_with (first
        | (go_at_call 30; (with_reducible refine (HF.out _ (HRD.out.keep HB.out)).mono ?_); rintro e W2 ⟨rfl, b2⟩; (have B2 := Lib.hid (below_more HB.out (Nat.le_refl _) b2)); (have G2 := Lib.hid (G1.out.keep b2)); clear b2 x1 x2 x3; (obtain ⟨x1, x2, x3⟩ := id G2.out))
        | (go_at_call 25; (with_reducible refine (HPE.out _ (HRD.out.keep B2.out)).mono ?_); rintro e W3 ⟨rfl, b3⟩; (have B3 := Lib.hid (below_more B2.out (Nat.le_refl _) b3)); (have G3 := Lib.hid (G2.out.keep b3)); clear b3 x1 x2 x3; (obtain ⟨x1, x2, x3⟩ := id G3.out))
        | (go_at_call 27; (with_reducible refine (HCL.out _ (HRD.out.keep B3.out)).mono ?_); rintro e W4 ⟨v4, rfl, i4, b4⟩; (have B4 := Lib.hid (below_more B3.out (Nat.le_refl _) b4)); (have G4 := Lib.hid (G3.out.keep b4)); (obtain ⟨b9, o9, c9, rfl, k9⟩ := i4.at (HLG.out 0 hn0)); (rw [HLL.out] at i4); (rw [HLL.out]); (rw [Nat.add_zero, HC0.out] at k9); (have I4 := Lib.hid i4); clear b4 i4 x1 x2 x3; (obtain ⟨x1, x2, x3⟩ := id G4.out)))
      clear x1 x2 x3 k9 d1 d2 d3 d4 HB B2 B3 G1 G2 G3 G4 HPE HCL HF HC0
      go_loopg [64] es.length (fun q s64 wx => ∃ i : Nat, i + q = es.length ∧ s64 = .int .i64 (i : Int) ∧ Hid (Below w.heap.size w wx) ∧ Hid (IntsRd wx (.slice (some ⟨b9, o9, none⟩) n c9) CL))
      case atStart => exact ⟨0, by omega, rfl, B4, I4⟩
      case round =>
        clear B4 I4
        obtain ⟨i, hin, rfl, HW, HI⟩ := hrel
        rcases gk with _ | q
        · obtain rfl : i = es.length := by omega
          go_wp2_with fail
          go_loopg [84] P (fun q2 s84 wy => ∃ c2 : Nat, c2 + q2 = P ∧ s84 = .int .i64 (c2 : Int) ∧ Hid (Below w.heap.size w wy) ∧ Hid (IntsRd wy (.slice (some ⟨b9, o9, none⟩) n c9) CL))
          case atStart => exact ⟨0, by omega, rfl, HW, HI⟩
          case round =>
            clear HW HI
            obtain ⟨c2, hc2, rfl, HW2, HI2⟩ := hrel
            rcases gk with _ | q2
            · obtain rfl : c2 = P := by omega
              have j2 : decide ((c2 : Int) < (c2 : Int)) = false := decide_eq_false (by omega)
              go_wp2_with (go_at_call 13; (with_reducible refine (HAW.out _).mono ?_); rintro e W5 ⟨rfl, b5⟩; (have B5 := Lib.hid (below_more HW2.out (Nat.le_refl _) b5)); clear b5)
              go_ret
              exact ⟨rfl, B5.out⟩
            · have HIN := Lib.hid (show decide ((c2 : Int) ∈ CL) = true from decide_eq_true (by
                obtain ⟨t, ht, htc⟩ := HCA.out c2 (by omega)
                rw [← htc]; exact HLM.out t ht))
              have HH := Lib.hid (fun W h => HIN.out ▸ HHAS.out CL (c2 : Int) (.slice (some ⟨b9, o9, none⟩) n c9) W h (by rw [HLL.out]; omega))
              have j2 : (c2 : Int) < (P : Int) := by omega
              go_wp2_with (go_at_call 32; (with_reducible refine (HH.out _ HI2.out).mono ?_); rintro e W5 ⟨rfl, hW5⟩; (rw [hW5]); clear hW5)
              go_roundg q2
              case measure => omega
              case rel => exact ⟨c2 + 1, by omega, by go_num, HW2, HI2⟩
        · obtain ⟨e, he⟩ : ∃ e, es[i]? = some e := ⟨_, List.getElem?_eq_getElem (by omega)⟩
          have hem := List.mem_of_getElem? he
          have hek := okE_iff.1 (HOK.out e hem)
          have hce := HCE.out e hem
          obtain ⟨bb, off, c', hv, k1, k2, k3⟩ := (HRD.out.keep HW.out).at he
          injection hv with q1 q2 q3
          subst q1
          obtain ⟨x, y, z⟩ := e
          dsimp only at hek k1 k2 k3 hce
          obtain ⟨x, rfl⟩ : ∃ m : Nat, x = (m : Int) := ⟨x.toNat, by omega⟩
          obtain ⟨z, rfl⟩ : ∃ m : Nat, z = (m : Int) := ⟨z.toNat, by omega⟩
          rw [Int.toNat_natCast, Int.toNat_natCast] at hce
          have hx : x < n := by omega
          have hz : z < n := by omega
          have o1 := below1 wr (.cells #[.int .i64 (x : Int), .int .i64 y, .int .i64 (z : Int)] 46)
          have I5 := Lib.hid (HI.out.keep o1)
          have B5 := Lib.hid (below_more HW.out (Nat.le_refl _) o1)
          obtain ⟨u1, u2, u3, hu, c1⟩ := I5.out.at (HLG.out x hx)
          injection hu with hu1 hu2 hu3
          injection hu1 with hu1
          injection hu1 with hu4 hu5
          subst hu4 hu5
          obtain ⟨u4, u5, u6, hu', c2⟩ := I5.out.at (HLG.out z hz)
          injection hu' with hu1' hu2' hu3'
          injection hu1' with hu1'
          injection hu1' with hu4' hu5'
          subst hu4' hu5'
          obtain ⟨y1, y2, y3, -⟩ := Box3.new wr (x : Int) y (z : Int) 46
          obtain ⟨bx1, bx2⟩ := HCB.out x
          obtain ⟨bz1, bz2⟩ := HCB.out z
          generalize clsF es n x = dx at *
          generalize clsF es n z = dz at *
          have hrt : Int.tmod (dx + 1) (P : Int) = dz := by rw [Int.tmod_eq_emod_of_nonneg (by omega)]; exact hce.symm
          have hw : IntKind.i64.wrap dz = dz := by rw [IntKind.wrap_i64]; omega
          have hPn : ¬ (P : Int) = 0 := by omega
          have hdd : (dz != dz) = false := by simp
          have j1 : (i : Int) < (es.length : Int) := by omega
          have j2 : (x : Int) < (n : Int) := by omega
          have j3 : (z : Int) < (n : Int) := by omega
          clear hce he hem q3 o1 hu2 hu3 hu2' hu3' HW HI hek
          go_wp2_with fail
          go_quiet (fail)
          go_wp2_with fail
          go_roundg q
          case measure => omega
          case rel => exact ⟨i + 1, by omega, by go_num, Lib.hid (below_drewM B5.out _), Lib.hid (I5.out.keep (below_drewM (Below.refl _ _) _))⟩
end Go.Proofs.Ytfkplnmhlpabaaa

namespace Go.Proofs.Ytfkplnmhlpabaaa
open Go.RowKit Go.Shelf
set_option linter.unusedSimpArgs false
set_option linter.unusedVariables false

/-- Whether a list lies within another one. -/
def subB (c l : List Int) : Bool := !c.any fun x => !decide (x ∈ l)
section
variable {p : Nat} {u : Value} {l : List Int} {w : World}
set_option maxRecDepth 100000 in
theorem notIn_any (x : Int) (h : w.cell? ⟨p, 0, none⟩ = some u) (hl : IntsRd w u l) (hn : l.length ≤ 100000) :
    Calls Try.prog 38 #[.int .i64 x, .pointer (some ⟨p, 0, none⟩)] w fun e w' => e = .returned (.bool (!decide (x ∈ l))) ∧ w' = w := by
  have HC := Lib.hid (has_any l x u w hl (by omega))
  obtain ⟨a, c, rfl⟩ := hl.form
  clear hl
  go_enter Try.func38, Try.ntmps38
  go_wp2_with (go_at_call 32; (with_reducible refine HC.out.mono ?_); rintro e W1 ⟨rfl, rfl⟩)
  go_ret
  exact ⟨rfl, rfl⟩
theorem any_take_succ {α : Type} {q : α → Bool} {c : List α} {i : Nat} {x : α} (hx : c[i]? = some x) (h : (c.take i).any q = false) (h2 : q x = false) : (c.take (i + 1)).any q = false := by
  rw [take_snoc hx, List.any_append, h]; simp [h2]
set_option maxRecDepth 100000 in
set_option maxHeartbeats 3200000 in
theorem subI_any (vc : Value) (cs : List Int) (hc : IntsRd w vc cs) (hcn : cs.length ≤ 100000) (h : w.cell? ⟨p, 0, none⟩ = some u) (hl : IntsRd w u l) (hn : l.length ≤ 100000) :
    Calls Try.prog 65 #[vc, .func (.func 38) #[] #[.pointer (some ⟨p, 0, none⟩)]] w fun e w' => (∃ k : Int, e = .returned (.int .i64 k) ∧ (0 ≤ k ↔ subB cs l = false)) ∧ w' = w := by
  have HF := Lib.hid (fun x => notIn_any x h hl hn)
  have HC := Lib.hid hc
  obtain ⟨a, c, rfl⟩ := hc.form
  clear h hl hc
  go_enter Try.func65, Try.ntmps65
  go_wp2_with fail
  go_loopg [8] cs.length (fun q s8 wx => ∃ i : Nat, i + q = cs.length ∧ s8 = .int .i64 (i : Int) ∧ Hid ((cs.take i).any (fun x => !decide (x ∈ l)) = false) ∧ wx = w)
  case atStart => exact ⟨0, by omega, rfl, Lib.hid rfl, rfl⟩
  case round =>
    obtain ⟨i, hin, rfl, HT, rfl⟩ := hrel
    rcases gk with _ | q
    · obtain rfl : i = cs.length := by omega
      have T := HT.out
      rw [List.take_length] at T
      have HT2 := Lib.hid T
      clear T HT
      go_wp2_with fail
      go_ret
      exact ⟨⟨_, rfl, by unfold subB; rw [HT2.out]; simp⟩, rfl⟩
    · obtain ⟨x, hx⟩ : ∃ e, cs[i]? = some e := ⟨_, List.getElem?_eq_getElem (by omega)⟩
      obtain ⟨b, off, c', hv, k1⟩ := HC.out.at hx
      injection hv with e1 e2 e3
      subst e1
      have HX := Lib.hid (HF.out x)
      have HXX := Lib.hid hx
      have j1 : (i : Int) < (cs.length : Int) := by omega
      clear hx e2 e3
      cases hd : decide (x ∈ l) with
      | true =>
        rw [hd] at HX
        have HT3 := Lib.hid (any_take_succ HXX.out HT.out (by rw [hd]; rfl))
        clear hd
        go_wp2_with (go_at_call 38; (with_reducible refine HX.out.mono ?_); rintro e W1 ⟨rfl, rfl⟩)
        go_roundg q
        case measure => omega
        case rel => exact ⟨i + 1, by omega, by go_num, HT3, rfl⟩
      | false =>
        rw [hd] at HX
        have HT3 := Lib.hid (show subB cs l = false by
          unfold subB
          rw [List.any_eq_true.2 ⟨x, List.mem_of_getElem? HXX.out, by rw [hd]; rfl⟩]; rfl)
        clear hd
        go_wp2_with (go_at_call 38; (with_reducible refine HX.out.mono ?_); rintro e W1 ⟨rfl, rfl⟩)
        go_ret
        exact ⟨⟨_, rfl, ⟨fun _ => HT3.out, fun _ => by omega⟩⟩, rfl⟩
set_option maxRecDepth 100000 in
theorem subC_any (vc : Value) (cs : List Int) (hc : IntsRd w vc cs) (hcn : cs.length ≤ 100000) (h : w.cell? ⟨p, 0, none⟩ = some u) (hl : IntsRd w u l) (hn : l.length ≤ 100000) :
    Calls Try.prog 37 #[vc, .func (.func 38) #[] #[.pointer (some ⟨p, 0, none⟩)]] w fun e w' => e = .returned (.bool (!subB cs l)) ∧ w' = w := by
  have HI := Lib.hid (subI_any vc cs hc hcn h hl hn)
  obtain ⟨a, c, rfl⟩ := hc.form
  clear h hl hc
  go_enter Try.func37, Try.ntmps37
  go_wp2_with (go_at_call 65; (with_reducible refine HI.out.mono ?_); rintro e W1 ⟨⟨k, rfl, hk⟩, rfl⟩; (have HK := Lib.hid hk); clear hk)
  go_ret
  refine ⟨?_, rfl⟩
  by_cases h0 : 0 ≤ k
  · rw [HK.out.1 h0, decide_eq_true h0]; rfl
  · rw [decide_eq_false h0]
    cases hs : subB cs l with
    | true => rfl
    | false => exact absurd (HK.out.2 hs) h0
set_option maxRecDepth 100000 in
theorem inside_any (vc : Value) (cs : List Int) (hc : IntsRd w vc cs) (hcn : cs.length ≤ 100000) (h : w.cell? ⟨p, 0, none⟩ = some u) (hl : IntsRd w u l) (hn : l.length ≤ 100000) :
    Calls Try.prog 36 #[vc, .pointer (some ⟨p, 0, none⟩)] w fun e w' => e = .returned (.bool (subB cs l)) ∧ w' = w := by
  have HI := Lib.hid (subC_any vc cs hc hcn h hl hn)
  obtain ⟨a, c, rfl⟩ := hc.form
  clear h hl hc
  go_enter Try.func36, Try.ntmps36
  go_wp2_with (go_at_call 37; (with_reducible refine HI.out.mono ?_); rintro e W1 ⟨rfl, rfl⟩)
  go_ret
  exact ⟨by first | rfl | (congr 1; simp) | (simp), rfl⟩
set_option maxRecDepth 100000 in
set_option maxHeartbeats 3200000 in
theorem rowI_any (vc : Value) (cs : List (List Int)) (hc : RowsRd w vc cs) (hcn : cs.length ≤ 100000) (hrr : ∀ r ∈ cs, r.length ≤ 100000) (h : w.cell? ⟨p, 0, none⟩ = some u) (hl : IntsRd w u l) (hn : l.length ≤ 100000) :
    Calls Try.prog 66 #[vc, .func (.func 36) #[] #[.pointer (some ⟨p, 0, none⟩)]] w fun e w' => (∃ k : Int, e = .returned (.int .i64 k) ∧ (0 ≤ k ↔ cs.any (fun c => subB c l) = true)) ∧ w' = w := by
  have HF := Lib.hid (fun vx x hx hxn => inside_any (w := w) vx x hx hxn h hl hn)
  have HC := Lib.hid hc
  have HRR := Lib.hid hrr
  obtain ⟨a, c, rfl⟩ := hc.form
  clear h hl hc hrr
  go_enter Try.func66, Try.ntmps66
  go_wp2_with fail
  go_loopg [8] cs.length (fun q s8 wx => ∃ i : Nat, i + q = cs.length ∧ s8 = .int .i64 (i : Int) ∧ Hid ((cs.take i).any (fun x => subB x l) = false) ∧ wx = w)
  case atStart => exact ⟨0, by omega, rfl, Lib.hid rfl, rfl⟩
  case round =>
    obtain ⟨i, hin, rfl, HT, rfl⟩ := hrel
    rcases gk with _ | q
    · obtain rfl : i = cs.length := by omega
      have T := HT.out
      rw [List.take_length] at T
      have HT2 := Lib.hid T
      clear T HT
      go_wp2_with fail
      go_ret
      exact ⟨⟨_, rfl, by rw [HT2.out]; simp⟩, rfl⟩
    · obtain ⟨x, hx⟩ : ∃ e, cs[i]? = some e := ⟨_, List.getElem?_eq_getElem (by omega)⟩
      obtain ⟨b, off, c', ux, hv, k1, r1⟩ := HC.out.at hx
      injection hv with e1 e2 e3
      subst e1
      have HX := Lib.hid (HF.out ux x r1 (HRR.out x (List.mem_of_getElem? hx)))
      have HXX := Lib.hid hx
      obtain ⟨a2, c2, rfl⟩ := r1.form
      have j1 : (i : Int) < (cs.length : Int) := by omega
      clear hx e2 e3 r1
      cases hd : subB x l with
      | false =>
        rw [hd] at HX
        have HT3 := Lib.hid (any_take_succ HXX.out HT.out hd)
        clear hd
        go_wp2_with (go_at_call 36; (with_reducible refine HX.out.mono ?_); rintro e W1 ⟨rfl, rfl⟩)
        go_roundg q
        case measure => omega
        case rel => exact ⟨i + 1, by omega, by go_num, HT3, rfl⟩
      | true =>
        rw [hd] at HX
        have HT3 := Lib.hid (show cs.any (fun c => subB c l) = true from List.any_eq_true.2 ⟨x, List.mem_of_getElem? HXX.out, hd⟩)
        clear hd
        go_wp2_with (go_at_call 36; (with_reducible refine HX.out.mono ?_); rintro e W1 ⟨rfl, rfl⟩)
        go_ret
        exact ⟨⟨_, rfl, ⟨fun _ => HT3.out, fun _ => by omega⟩⟩, rfl⟩
set_option maxRecDepth 100000 in
theorem rowC_any (vc : Value) (cs : List (List Int)) (hc : RowsRd w vc cs) (hcn : cs.length ≤ 100000) (hrr : ∀ r ∈ cs, r.length ≤ 100000) (h : w.cell? ⟨p, 0, none⟩ = some u) (hl : IntsRd w u l) (hn : l.length ≤ 100000) :
    Calls Try.prog 39 #[vc, .func (.func 36) #[] #[.pointer (some ⟨p, 0, none⟩)]] w fun e w' => e = .returned (.bool (cs.any (fun c => subB c l))) ∧ w' = w := by
  have HI := Lib.hid (rowI_any vc cs hc hcn hrr h hl hn)
  obtain ⟨a, c, rfl⟩ := hc.form
  clear h hl hc
  go_enter Try.func39, Try.ntmps39
  go_wp2_with (go_at_call 66; (with_reducible refine HI.out.mono ?_); rintro e W1 ⟨⟨k, rfl, hk⟩, rfl⟩; (have HK := Lib.hid hk); clear hk)
  go_ret
  refine ⟨?_, rfl⟩
  by_cases h0 : 0 ≤ k
  · rw [HK.out.1 h0, decide_eq_true h0]; rfl
  · rw [decide_eq_false h0]
    cases hs : cs.any (fun c => subB c l) with
    | false => rfl
    | true => exact absurd (HK.out.2 hs) h0
end
end Go.Proofs.Ytfkplnmhlpabaaa

namespace Go.Proofs.Ytfkplnmhlpabaaa
open Go.RowKit Go.Shelf
set_option linter.unusedSimpArgs false
set_option linter.unusedVariables false

section
variable {L : Int} {n : Nat} {es : List E3}
/-- From each state a state is reached from which no other one is reached for good. -/
theorem last_of (h : ∀ e ∈ es, okE L (n : Int) e = true) : ∀ (k t : Nat), t < n → cntF n (rb es n t) ≤ k → ∃ t', t' < n ∧ Rc es (t : Int) (t' : Int) ∧ ∀ x : Nat, x < n → Rc es (t' : Int) (x : Int) → Rc es (x : Int) (t' : Int) := by
  intro k
  induction k with
  | zero =>
    intro t ht hk
    have h1 : t ∈ (List.range n).filter (rb es n t) := List.mem_filter.2 ⟨List.mem_range.2 ht, (rb_iff h ht ht).2 (Rc.refl _ _)⟩
    have := List.length_pos_of_mem h1
    unfold cntF at hk; omega
  | succ k ih =>
    intro t ht hk
    by_cases hx : ∀ x : Nat, x < n → Rc es (t : Int) (x : Int) → Rc es (x : Int) (t : Int)
    · exact ⟨t, ht, Rc.refl _ _, hx⟩
    · obtain ⟨x, hx⟩ := Classical.not_forall.1 hx
      obtain ⟨hxn, hx⟩ := Classical.not_imp.1 hx
      obtain ⟨h1, h2⟩ := Classical.not_imp.1 hx
      have hlt : cntF n (rb es n x) < cntF n (rb es n t) := by
        unfold cntF
        refine filter_less _ (fun y hy hg => ?_) ⟨t, List.mem_range.2 ht, ?_⟩
        · have hyn := List.mem_range.1 hy
          exact (rb_iff h ht hyn).2 (h1.trans ((rb_iff h hxn hyn).1 hg))
        · rw [(rb_iff h ht ht).2 (Rc.refl _ _)]
          intro hc
          exact h2 ((rb_iff h hxn ht).1 hc)
      obtain ⟨t', a1, a2, a3⟩ := ih x hxn (by omega)
      exact ⟨t', a1, h1.trans a2, a3⟩
theorem sink_of (h : ∀ e ∈ es, okE L (n : Int) e = true) {s : Nat} (hs : s < n) : ∃ c, c ∈ snks es n ∧ subB c (mems n (rb es n s)) = true := by
  obtain ⟨t, ht, h1, h2⟩ := last_of h _ s hs (Nat.le_refl _)
  obtain ⟨r, hr, hrt⟩ := rep_of h ht
  have hrn := (reps_lt hr).1
  obtain ⟨a, b⟩ := (compB_iff h hrn ht).1 hrt
  refine ⟨compF es n r, List.mem_filter.2 ⟨List.mem_map.2 ⟨r, hr, rfl⟩, ?_⟩, ?_⟩
  · cases hh : hasEd es (compF es n r) false with
    | false => rfl
    | true =>
      obtain ⟨e, he, h3⟩ := List.any_eq_true.1 hh
      rw [Bool.and_eq_true, decide_eq_true_iff] at h3
      obtain ⟨a1, a2, a3, a4⟩ := okE_st (h e he)
      obtain ⟨y, hy, hyn, y1, y2⟩ := (compF_mem h hrn).1 h3.1
      have hez : Rc es (y : Int) (e.2.2.toNat : Int) := by rw [← a4, ← hy]; exact Rc.edge he
      have q1 : Rc es (t : Int) (e.2.2.toNat : Int) := (b.trans y1).trans hez
      have q2 := h2 _ a2 q1
      have : e.2.2 ∈ compF es n r := (compF_mem h hrn).2 ⟨e.2.2.toNat, a4, a2, y1.trans hez, q2.trans b⟩
      rw [decide_eq_true this] at h3
      exact absurd h3.2 (by decide)
  · unfold subB
    cases hh : (compF es n r).any fun x => !decide (x ∈ mems n (rb es n s)) with
    | false => rfl
    | true =>
      obtain ⟨x, hx, h3⟩ := List.any_eq_true.1 hh
      obtain ⟨y, rfl, hyn, y1, y2⟩ := (compF_mem h hrn).1 hx
      have : (y : Int) ∈ mems n (rb es n s) := mems_iff.2 ⟨y, rfl, hyn, (rb_iff h hs hyn).2 ((h1.trans b).trans y1)⟩
      rw [decide_eq_true this] at h3
      cases h3
theorem snks_none (h : ∀ e ∈ es, okE L (n : Int) e = true) : (snks es n).length = 0 ↔ n = 0 := by
  constructor
  · intro h0
    refine Classical.byContradiction fun hn => ?_
    obtain ⟨c, hc, -⟩ := sink_of h (show 0 < n by omega)
    have := List.length_pos_of_mem hc
    omega
  · intro h0
    have h1 := comps_len es n
    have h2 : (snks es n).length ≤ (comps es n).length := List.length_filter_le _ _
    omega
theorem snks_in {c : List Int} (h : c ∈ snks es n) {e : E3} (he : e ∈ es) (h1 : e.1 ∈ c) : e.2.2 ∈ c := by
  have h2 := (List.mem_filter.1 h).2
  refine Classical.byContradiction fun hn => ?_
  have : hasEd es c false = true := List.any_eq_true.2 ⟨e, he, by rw [decide_eq_true h1, decide_eq_false hn]; rfl⟩
  rw [this] at h2; cases h2
theorem snks_row {c : List Int} (h : c ∈ snks es n) : c.length ≤ n := by
  obtain ⟨r, -, rfl⟩ := comps_mem (List.mem_filter.1 h).1
  exact compF_len _ _ _
end
set_option maxRecDepth 100000 in
set_option maxHeartbeats 6400000 in
theorem compSinks_any (L S : Int) (es : List E3) (v : Value) (w : World) (hrd : EdgesRd w v es) (hn : es.length ≤ 9223372036854775807) :
    Calls Try.prog 7 #[grV L S v] w fun e w' => e = .returned (.bool true) ∧ Below w.heap.size w w' := by
  have b1 := below1 w (.cells #[.int .i64 L, .int .i64 S, v] 24)
  have G1 := Lib.hid (BoxG.new w L S v 24)
  have HB := Lib.hid b1
  have HRD := Lib.hid hrd
  have HF := Lib.hid (fun W h => fineC_any L S es v W h hn)
  have HAW := Lib.hid (fun W => awake_any W)
  obtain ⟨x1, x2, x3⟩ := id G1.out
  cases hf : fineC L S es with
  | false =>
    rw [hf] at HF
    obtain ⟨a, c, rfl⟩ := hrd.form
    clear hrd b1 hf
    go_enter Try.func7, Try.ntmps7
    go_wp2_with (first
      | (go_at_call 30; (with_reducible refine (HF.out _ (HRD.out.keep HB.out)).mono ?_); rintro e W2 ⟨rfl, b2⟩; (have B2 := Lib.hid (below_more HB.out (Nat.le_refl _) b2)); clear b2 x1 x2 x3)
      | (go_at_call 13; (with_reducible refine (HAW.out _).mono ?_); rintro e W3 ⟨rfl, b3⟩; (have B3 := Lib.hid (below_more B2.out (Nat.le_refl _) b3)); clear b3))
    go_ret
    exact ⟨rfl, B3.out⟩
  | true =>
    rw [hf] at HF
    have h0 := fineC_true hf
    have hvg := chkG_zero h0
    have hs1 := hvg.s1
    have hs2 := hvg.s2
    have hlen := hvg.len
    obtain ⟨n, rfl⟩ : ∃ n : Nat, S = (n : Int) := ⟨S.toNat, by omega⟩
    have hn64 : n ≤ 64 := by omega
    have HSK := Lib.hid (fun W h => sinks_any L (n : Int) es v W h (by omega))
    have HRE := Lib.hid (show ∀ (s : Nat) (W : World), s < n → EdgesRd W v es → Calls Try.prog 23 #[grV L (n : Int) v, .int .i64 (s : Int)] W (IOutC W (mems n (rb es n s)) 0) from fun s W hs h => by
      have q := reach_any L (n : Int) (s : Int) es v W h (by omega)
      have q1 : reachR L (n : Int) es (s : Int) = mems n (rb es n s) := by unfold reachR; rw [if_pos h0, if_pos (by omega)]; rfl
      have q2 : reachE L (n : Int) es (s : Int) = 0 := by unfold reachE; rw [if_pos h0, if_pos (by omega)]
      rwa [q1, q2] at q)
    have e0 : errC L (n : Int) es = 0 := by unfold errC; rw [if_pos h0]
    have e1 : partsR L (n : Int) es (fun c => !hasEd es c false) = snks es n := by unfold partsR; rw [if_pos h0]; rfl
    rw [e0, e1] at HSK
    have HSI := Lib.hid (fun s (hs : s < n) => show (snks es n).any (fun c => subB c (mems n (rb es n s))) = true from by
      obtain ⟨c, h1, h2⟩ := sink_of hvg.ok hs
      exact List.any_eq_true.2 ⟨c, h1, h2⟩)
    have HIN := Lib.hid (fun c (h : c ∈ snks es n) e he h1 => snks_in (n := n) (es := es) (c := c) h (e := e) he h1)
    have HRL := Lib.hid (fun c (h : c ∈ snks es n) => show c.length ≤ 100000 from by have := snks_row h; omega)
    have HOK := Lib.hid hvg.ok
    have hz := snks_none hvg.ok
    have hkl : (snks es n).length ≤ 64 := Nat.le_trans (List.length_filter_le _ _) (Nat.le_trans (comps_len es n) hn64)
    obtain ⟨K, hK⟩ : ∃ K, snks es n = K := ⟨_, rfl⟩
    rw [hK] at HSK HSI HIN HRL hz hkl
    have HRC := Lib.hid (fun s (hs : s < n) W u vr (hu : IntsRd W u (mems n (rb es n s))) (hr : RowsRd W vr K) => (HSI.out s hs) ▸ rowC_any (w := W.alloc (.cells #[u] 34)) (p := W.heap.size) (u := u) vr K (hr.keep (below1 W _)) (by omega) HRL.out (by simp [go_sem]) (hu.keep (below1 W _)) (by have := mems_len n (rb es n s); omega))
    have d9 : ((K.length : Int) == 0) = ((n : Int) == 0) := by
      rw [Bool.eq_iff_iff, beq_iff_eq, beq_iff_eq]; omega
    obtain ⟨z, hzz⟩ : ∃ z, ((n : Int) == 0) = z := ⟨_, rfl⟩
    rw [hzz] at d9
    have hz2 : (z != z) = false := by simp
    obtain ⟨a, c, rfl⟩ := hrd.form
    clear hrd b1 h0 hvg hz e0 e1 hK HSI hf
    go_enter Try.func7, Try.ntmps7
    go_wp2_with (first
      | (go_at_call 30; (with_reducible refine (HF.out _ (HRD.out.keep HB.out)).mono ?_); rintro e W2 ⟨rfl, b2⟩; (have B2 := Lib.hid (below_more HB.out (Nat.le_refl _) b2)); (have G2 := Lib.hid (G1.out.keep b2)); clear b2 x1 x2 x3; (obtain ⟨x1, x2, x3⟩ := id G2.out))
      | (go_at_call 18; (with_reducible refine (HSK.out _ (HRD.out.keep B2.out)).mono ?_); rintro e W3 ⟨v3, rfl, r3, b3, -⟩; (have B3 := Lib.hid (below_more B2.out (Nat.le_refl _) b3)); (have G3 := Lib.hid (G2.out.keep b3)); (have R3 := Lib.hid r3); (obtain ⟨a3, c3, rfl⟩ := r3.form); clear b3 r3 x1 x2 x3; (obtain ⟨x1, x2, x3⟩ := id G3.out)))
    clear x1 x2 x3 d9 hz2 hzz HB B2 G1 G2 HF HSK
    go_loopg [35] K.length (fun q s35 wx => ∃ i : Nat, i + q = K.length ∧ s35 = .int .i64 (i : Int) ∧ Hid (Below w.heap.size w wx) ∧ Hid (BoxG wx w.heap.size L (n : Int) (.slice a es.length c)) ∧ Hid (RowsRd wx (.slice a3 K.length c3) K))
    case atStart => exact ⟨0, by omega, rfl, B3, G3, R3⟩
    case round =>
      clear B3 G3 R3
      obtain ⟨i, hin, rfl, HW, HG, HR⟩ := hrel
      obtain ⟨x1, x2, x3⟩ := id HG.out
      rcases gk with _ | q
      · obtain rfl : i = K.length := by omega
        go_wp2_with fail
        clear x1 x2 x3
        go_loopg [61] n (fun q s61 wx => ∃ s : Nat, s + q = n ∧ s61 = .int .i64 (s : Int) ∧ Hid (Below w.heap.size w wx) ∧ Hid (BoxG wx w.heap.size L (n : Int) (.slice a es.length c)) ∧ Hid (RowsRd wx (.slice a3 K.length c3) K))
        case atStart => exact ⟨0, by omega, rfl, HW, HG, HR⟩
        case round =>
          clear HW HG HR
          obtain ⟨s, hsn, rfl, HW, HG, HR⟩ := hrel
          rcases gk with _ | q
          · obtain rfl : s = n := by omega
            go_wp2_with (go_at_call 13; (with_reducible refine (HAW.out _).mono ?_); rintro e W5 ⟨rfl, b5⟩; (have B5 := Lib.hid (below_more HW.out (Nat.le_refl _) b5)); clear b5)
            go_ret
            exact ⟨rfl, B5.out⟩
          · have hs : s < n := by omega
            have HRS := Lib.hid (fun W h => HRE.out s W hs h)
            have HCS := Lib.hid (fun W u vr hu hr => HRC.out s hs W u vr hu hr)
            obtain ⟨x1, x2, x3⟩ := id HG.out
            have j1 : (s : Int) < (n : Int) := by omega
            go_wp2_with (first
              | (go_at_call 23; (with_reducible refine (HRS.out _ (HRD.out.keep HW.out)).mono ?_); rintro e W5 ⟨u5, rfl, i5, b5⟩; (obtain ⟨a5, c5, hu5⟩ := own_slice i5); (obtain ⟨m5, hm5⟩ : ∃ m5, (mems n (rb es n s)).length = m5 := ⟨_, rfl⟩); (rw [hm5] at hu5); (subst hu5); clear hm5; (have B5 := Lib.hid (below_more (below_more HW.out (Nat.le_refl _) b5) (Nat.le_refl _) (below1 W5 (.cells #[.slice a5 m5 c5] 34)))); (have G5 := Lib.hid ((HG.out.keep b5).keep (below1 W5 (.cells #[.slice a5 m5 c5] 34)))); (have R5 := Lib.hid ((HR.out.keep b5).keep (below1 W5 (.cells #[.slice a5 m5 c5] 34)))); (have C5 := Lib.hid (HCS.out W5 (.slice a5 m5 c5) _ i5.rd (HR.out.keep b5))); clear b5 i5 x1 x2 x3)
              | (go_at_call 39; (with_reducible refine C5.out.mono ?_); rintro e W6 ⟨rfl, hW6⟩; (rw [hW6]); clear hW6))
            go_roundg q
            case measure => omega
            case rel => exact ⟨s + 1, by omega, by go_num, B5, G5, R5⟩
      · obtain ⟨row, hrow⟩ : ∃ e, K[i]? = some e := ⟨_, List.getElem?_eq_getElem (by omega)⟩
        obtain ⟨b, off, c', u, hv, k1, r1⟩ := HR.out.at hrow
        injection hv with e1 e2 e3
        subst e1
        obtain ⟨au, cu, rfl⟩ := r1.form
        have HI := Lib.hid (fun e he h1 => HIN.out row (List.mem_of_getElem? hrow) e he h1)
        have hrl := HRL.out row (List.mem_of_getElem? hrow)
        have HI0 := Lib.hid r1
        obtain ⟨m, hm⟩ : ∃ m, row.length = m := ⟨_, rfl⟩
        have HM := Lib.hid hm
        rw [hm] at k1 hrl HI0
        have j1 : (i : Int) < (K.length : Int) := by omega
        clear hrow hm r1 e2 e3
        go_wp2_with fail
        clear x1 x2 x3 k1
        go_loopg [42] es.length (fun q2 s42 wy => ∃ k : Nat, k + q2 = es.length ∧ s42 = .int .i64 (k : Int) ∧ Hid (Below w.heap.size w wy) ∧ Hid (BoxG wy w.heap.size L (n : Int) (.slice a es.length c)) ∧ Hid (RowsRd wy (.slice (some ⟨b, off, none⟩) K.length c3) K) ∧ Hid (IntsRd wy (.slice au m cu) row))
        case atStart => exact ⟨0, by omega, rfl, HW, HG, HR, HI0⟩
        case round =>
          clear HW HG HR HI0
          obtain ⟨k, hk, rfl, HW2, HG2, HR2, HI2⟩ := hrel
          rcases gk with _ | q2
          · obtain rfl : k = es.length := by omega
            go_wp2_with fail
            go_roundg q
            case measure => omega
            case rel => exact ⟨i + 1, by omega, by go_num, HW2, HG2, HR2⟩
          · obtain ⟨e, he⟩ : ∃ e, es[k]? = some e := ⟨_, List.getElem?_eq_getElem (by omega)⟩
            have hem := List.mem_of_getElem? he
            obtain ⟨bb, off2, c2, hv, k1, k2, k3⟩ := (HRD.out.keep HW2.out).at he
            injection hv with q1 q2' q3
            subst q1
            have hi := HI.out e hem
            obtain ⟨x, y, z'⟩ := e
            dsimp only at hi k1 k2 k3
            have o1 := below1 wr (.cells #[.int .i64 x, .int .i64 y, .int .i64 z'] 46)
            have W5 := Lib.hid (below_more HW2.out (Nat.le_refl _) o1)
            have G5 := Lib.hid (HG2.out.keep o1)
            have R5 := Lib.hid (HR2.out.keep o1)
            have I5 := Lib.hid (HI2.out.keep o1)
            have HH := Lib.hid (fun x => has_any row x (.slice au m cu) _ I5.out (by rw [HM.out]; omega))
            obtain ⟨y1, y2, y3, -⟩ := Box3.new wr x y z' 46
            have j2 : (k : Int) < (es.length : Int) := by omega
            have H1 := Lib.hid (HH.out x)
            have H2 := Lib.hid (HH.out z')
            cases hd : decide (x ∈ row) with
            | false =>
              rw [hd] at H1
              clear hd hi he hem q2' q3 o1 HW2 HG2 HR2 HI2 HH
              go_wp2_with (go_at_call_of 32 x; (with_reducible refine H1.out.mono ?_); rintro e W7 ⟨rfl, hW7⟩; (rw [hW7]); clear hW7)
              go_roundg q2
              case measure => omega
              case rel => exact ⟨k + 1, by omega, by go_num, W5, G5, R5, I5⟩
            | true =>
              have hd2 : decide (z' ∈ row) = true := decide_eq_true (hi (of_decide_eq_true hd))
              rw [hd] at H1
              rw [hd2] at H2
              clear hd hd2 hi he hem q2' q3 o1 HW2 HG2 HR2 HI2 HH
              go_wp2_with (first
                | (go_at_call_of 32 x; (with_reducible refine H1.out.mono ?_); rintro e W7 ⟨rfl, hW7⟩; (rw [hW7]); clear hW7)
                | (go_at_call_of 32 z'; (with_reducible refine H2.out.mono ?_); rintro e W7 ⟨rfl, hW7⟩; (rw [hW7]); clear hW7))
              go_roundg q2
              case measure => omega
              case rel => exact ⟨k + 1, by omega, by go_num, W5, G5, R5, I5⟩
end Go.Proofs.Ytfkplnmhlpabaaa
