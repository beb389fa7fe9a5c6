/- ComponentClasses: the walk. Condition: the edges can be read. -/
import Derived.Test.YtfkplnmhlpabaaaKn
import Derived.Test.YtfkplnmhlpabaaaKp
namespace Go.Proofs.Ytfkplnmhlpabaaa
open Go.RowKit Go.Shelf
set_option linter.unusedSimpArgs false
set_option linter.unusedVariables false

theorem fineC_true {L S : Int} {es : List E3} (h : fineC L S es = true) : chkG L S es = 0 := by
  unfold fineC at h
  rw [Bool.and_eq_true] at h
  simpa using h.2
set_option maxRecDepth 100000 in
set_option maxHeartbeats 6400000 in
theorem compClasses_any (L S : Int) (es : List E3) (v : Value) (w : World) (hrd : EdgesRd w v es) (hn : es.length ≤ 9223372036854775807) :
    Calls Try.prog 10 #[grV L S v] w fun e w' => e = .returned (.bool true) ∧ Below w.heap.size w w' := by
  have b1 := below1 w (.cells #[.int .i64 L, .int .i64 S, v] 24)
  have G1 := Lib.hid (BoxG.new w L S v 24)
  have HB := Lib.hid b1
  have HRD := Lib.hid hrd
  have HF := Lib.hid (fun W h => fineC_any L S es v W h hn)
  have HAW := Lib.hid (fun W => awake_any W)
  obtain ⟨x1, x2, x3⟩ := id G1.out
  cases hf : fineC L S es with
  | false =>
    rw [hf] at HF
    obtain ⟨a, c, rfl⟩ := hrd.form
    clear hrd b1 hf
    go_enter Try.func10, Try.ntmps10
    go_wp2_with (first
      | (go_at_call 30; (with_reducible refine (HF.out _ (HRD.out.keep HB.out)).mono ?_); rintro e W2 ⟨rfl, b2⟩; (have B2 := Lib.hid (below_more HB.out (Nat.le_refl _) b2)); clear b2 x1 x2 x3)
      | (go_at_call 13; (with_reducible refine (HAW.out _).mono ?_); rintro e W3 ⟨rfl, b3⟩; (have B3 := Lib.hid (below_more B2.out (Nat.le_refl _) b3)); clear b3))
    go_ret
    exact ⟨rfl, B3.out⟩
  | true =>
    rw [hf] at HF
    have h0 := fineC_true hf
    have hvg := chkG_zero h0
    have hs1 := hvg.s1
    have hs2 := hvg.s2
    have hlen := hvg.len
    obtain ⟨n, rfl⟩ : ∃ n : Nat, S = (n : Int) := ⟨S.toNat, by omega⟩
    have hn64 : n ≤ 64 := by omega
    have HPE := Lib.hid (fun W h => period_any L (n : Int) es v W h (by omega))
    have HCL := Lib.hid (fun W h => classes_any L (n : Int) es v W h (by omega))
    have HHAS := Lib.hid (fun l x v W h hl => has_any l x v W h hl)
    clear hf
    cases hir : irrR L (n : Int) es with
    | false =>
      have e1 : perR L (n : Int) es = 0 := by unfold perR; rw [if_neg (by rw [hir]; decide)]
      have e2 : perE L (n : Int) es = 8 := by unfold perE; rw [if_neg (by rw [hir]; decide), if_pos h0]
      have e3 : clsR L (n : Int) es = [] := by unfold clsR; rw [if_neg (by rw [hir]; decide)]
      rw [e1, e2] at HPE
      rw [e2, e3] at HCL
      obtain ⟨a, c, rfl⟩ := hrd.form
      clear hrd b1 hir h0 hvg e1 e2 e3
      go_enter Try.func10, Try.ntmps10
      go_wp2_with (first
        | (go_at_call 30; (with_reducible refine (HF.out _ (HRD.out.keep HB.out)).mono ?_); rintro e W2 ⟨rfl, b2⟩; (have B2 := Lib.hid (below_more HB.out (Nat.le_refl _) b2)); (have G2 := Lib.hid (G1.out.keep b2)); clear b2 x1 x2 x3; (obtain ⟨x1, x2, x3⟩ := id G2.out))
        | (go_at_call 25; (with_reducible refine (HPE.out _ (HRD.out.keep B2.out)).mono ?_); rintro e W3 ⟨rfl, b3⟩; (have B3 := Lib.hid (below_more B2.out (Nat.le_refl _) b3)); (have G3 := Lib.hid (G2.out.keep b3)); clear b3 x1 x2 x3; (obtain ⟨x1, x2, x3⟩ := id G3.out))
        | (go_at_call 27; (with_reducible refine (HCL.out _ (HRD.out.keep B3.out)).mono ?_); rintro e W4 ⟨v4, rfl, i4, b4⟩; (have B4 := Lib.hid (below_more B3.out (Nat.le_refl _) b4)); (obtain ⟨a4, c4, rfl⟩ := (show ∃ a c, v4 = .slice a 0 c from i4.form)); clear b4 i4 x1 x2 x3)
        | (go_at_call 13; (with_reducible refine (HAW.out _).mono ?_); rintro e W5 ⟨rfl, b5⟩; (have B5 := Lib.hid (below_more B4.out (Nat.le_refl _) b5)); clear b5))
      go_ret
      exact ⟨rfl, B5.out⟩
    | true =>
      obtain ⟨-, hirr⟩ := irrR_true hir
      rw [Int.toNat_natCast] at hirr
      obtain ⟨hne, hcon⟩ := (irr_iff hvg.ok).1 hirr
      have hn0 : 0 < n := by
        cases es with
        | nil => exact absurd rfl hne
        | cons e es => have := okE_iff.1 (hvg.ok e List.mem_cons_self); omega
      have hP1 : 1 ≤ perN es n := per_pos (d := lenF es n 0) hvg.ok hcon hne
      have hP2 : perN es n ≤ 1000 := by
        unfold perN
        refine perF_le fun e he => ?_
        have q1 := lenF_ge hvg.ok 0 e.1.toNat
        have q2 := lenF_ge hvg.ok 0 e.2.2.toNat
        have q3 := lenF_le es n 0 e.1.toNat
        have q4 := lenF_le es n 0 e.2.2.toNat
        omega
      have e1 : perR L (n : Int) es = ((perN es n : Nat) : Int) := by unfold perR; rw [if_pos hir]; rfl
      have e2 : perE L (n : Int) es = 0 := by unfold perE; rw [if_pos hir]
      have e3 : clsR L (n : Int) es = (List.range n).map (clsF es n) := by unfold clsR; rw [if_pos hir]; rfl
      have HC0 := Lib.hid (cls_zero hvg.ok hn0)
      have HCE := Lib.hid (fun e he => cls_edge (n := n) (es := es) (e := e) he)
      have HCA := Lib.hid (fun c hc => cls_all hvg.ok hcon hne hn0 (c := c) hc)
      have HOK := Lib.hid hvg.ok
      have HCB := Lib.hid (show ∀ t, 0 ≤ clsF es n t ∧ clsF es n t < ((perN es n : Nat) : Int) from fun t => ⟨Int.emod_nonneg _ (by omega), Int.emod_lt_of_pos _ (by omega)⟩)
      obtain ⟨P, hP⟩ : ∃ P, perN es n = P := ⟨_, rfl⟩
      rw [e1, e2] at HPE
      rw [e2, e3] at HCL
      rw [hP] at HPE HCE HCA HCB hP1 hP2
      have HLL := Lib.hid (show ((List.range n).map (clsF es n)).length = n by rw [List.length_map, List.length_range])
      have HLG := Lib.hid (show ∀ t, t < n → ((List.range n).map (clsF es n))[t]? = some (clsF es n t) from fun t ht => by rw [List.getElem?_map, List.getElem?_range ht]; rfl)
      have HLM := Lib.hid (show ∀ t, t < n → clsF es n t ∈ (List.range n).map (clsF es n) from fun t ht => List.mem_map.2 ⟨t, List.mem_range.2 ht, rfl⟩)
      obtain ⟨CL, hCL⟩ : ∃ CL, (List.range n).map (clsF es n) = CL := ⟨_, rfl⟩
      rw [hCL] at HCL HLL HLG HLM
      obtain ⟨a, c, rfl⟩ := hrd.form
      clear hrd b1 hir h0 hvg hirr hne hcon e1 e2 e3 hP hCL
      have d1 : ((n : Int) == 0) = false := by rw [beq_eq_false_iff_ne]; omega
      have d2 : decide ((P : Int) < 1) = false := decide_eq_false (by omega)
      have d3 : decide (P < 1) = false := decide_eq_false (by omega)
      have d4 : ((n : Int) != (n : Int)) = false := by simp
      go_enter Try.func10, Try.ntmps10
      go_wp2_with (first
        | (go_at_call 30; (with_reducible refine (HF.out _ (HRD.out.keep HB.out)).mono ?_); rintro e W2 ⟨rfl, b2⟩; (have B2 := Lib.hid (below_more HB.out (Nat.le_refl _) b2)); (have G2 := Lib.hid (G1.out.keep b2)); clear b2 x1 x2 x3; (obtain ⟨x1, x2, x3⟩ := id G2.out))
        | (go_at_call 25; (with_reducible refine (HPE.out _ (HRD.out.keep B2.out)).mono ?_); rintro e W3 ⟨rfl, b3⟩; (have B3 := Lib.hid (below_more B2.out (Nat.le_refl _) b3)); (have G3 := Lib.hid (G2.out.keep b3)); clear b3 x1 x2 x3; (obtain ⟨x1, x2, x3⟩ := id G3.out))
        | (go_at_call 27; (with_reducible refine (HCL.out _ (HRD.out.keep B3.out)).mono ?_); rintro e W4 ⟨v4, rfl, i4, b4⟩; (have B4 := Lib.hid (below_more B3.out (Nat.le_refl _) b4)); (have G4 := Lib.hid (G3.out.keep b4)); (obtain ⟨b9, o9, c9, rfl, k9⟩ := i4.at (HLG.out 0 hn0)); (rw [HLL.out] at i4); (rw [HLL.out]); (rw [Nat.add_zero, HC0.out] at k9); (have I4 := Lib.hid i4); clear b4 i4 x1 x2 x3; (obtain ⟨x1, x2, x3⟩ := id G4.out)))
      clear x1 x2 x3 k9 d1 d2 d3 d4 HB B2 B3 G1 G2 G3 G4 HPE HCL HF HC0
      go_loopg [64] es.length (fun q s64 wx => ∃ i : Nat, i + q = es.length ∧ s64 = .int .i64 (i : Int) ∧ Hid (Below w.heap.size w wx) ∧ Hid (IntsRd wx (.slice (some ⟨b9, o9, none⟩) n c9) CL))
      case atStart => exact ⟨0, by omega, rfl, B4, I4⟩
      case round =>
        clear B4 I4
        obtain ⟨i, hin, rfl, HW, HI⟩ := hrel
        rcases gk with _ | q
        · obtain rfl : i = es.length := by omega
          go_wp2_with fail
          go_loopg [84] P (fun q2 s84 wy => ∃ c2 : Nat, c2 + q2 = P ∧ s84 = .int .i64 (c2 : Int) ∧ Hid (Below w.heap.size w wy) ∧ Hid (IntsRd wy (.slice (some ⟨b9, o9, none⟩) n c9) CL))
          case atStart => exact ⟨0, by omega, rfl, HW, HI⟩
          case round =>
            clear HW HI
            obtain ⟨c2, hc2, rfl, HW2, HI2⟩ := hrel
            rcases gk with _ | q2
            · obtain rfl : c2 = P := by omega
              have j2 : decide ((c2 : Int) < (c2 : Int)) = false := decide_eq_false (by omega)
              go_wp2_with (go_at_call 13; (with_reducible refine (HAW.out _).mono ?_); rintro e W5 ⟨rfl, b5⟩; (have B5 := Lib.hid (below_more HW2.out (Nat.le_refl _) b5)); clear b5)
              go_ret
              exact ⟨rfl, B5.out⟩
            · have HIN := Lib.hid (show decide ((c2 : Int) ∈ CL) = true from decide_eq_true (by
                obtain ⟨t, ht, htc⟩ := HCA.out c2 (by omega)
                rw [← htc]; exact HLM.out t ht))
              have HH := Lib.hid (fun W h => HIN.out ▸ HHAS.out CL (c2 : Int) (.slice (some ⟨b9, o9, none⟩) n c9) W h (by rw [HLL.out]; omega))
              have j2 : (c2 : Int) < (P : Int) := by omega
              go_wp2_with (go_at_call 32; (with_reducible refine (HH.out _ HI2.out).mono ?_); rintro e W5 ⟨rfl, hW5⟩; (rw [hW5]); clear hW5)
              go_roundg q2
              case measure => omega
              case rel => exact ⟨c2 + 1, by omega, by go_num, HW2, HI2⟩
        · obtain ⟨e, he⟩ : ∃ e, es[i]? = some e := ⟨_, List.getElem?_eq_getElem (by omega)⟩
          have hem := List.mem_of_getElem? he
          have hek := okE_iff.1 (HOK.out e hem)
          have hce := HCE.out e hem
          obtain ⟨bb, off, c', hv, k1, k2, k3⟩ := (HRD.out.keep HW.out).at he
          injection hv with q1 q2 q3
          subst q1
          obtain ⟨x, y, z⟩ := e
          dsimp only at hek k1 k2 k3 hce
          obtain ⟨x, rfl⟩ : ∃ m : Nat, x = (m : Int) := ⟨x.toNat, by omega⟩
          obtain ⟨z, rfl⟩ : ∃ m : Nat, z = (m : Int) := ⟨z.toNat, by omega⟩
          rw [Int.toNat_natCast, Int.toNat_natCast] at hce
          have hx : x < n := by omega
          have hz : z < n := by omega
          have o1 := below1 wr (.cells #[.int .i64 (x : Int), .int .i64 y, .int .i64 (z : Int)] 46)
          have I5 := Lib.hid (HI.out.keep o1)
          have B5 := Lib.hid (below_more HW.out (Nat.le_refl _) o1)
          obtain ⟨u1, u2, u3, hu, c1⟩ := I5.out.at (HLG.out x hx)
          injection hu with hu1 hu2 hu3
          injection hu1 with hu1
          injection hu1 with hu4 hu5
          subst hu4 hu5
          obtain ⟨u4, u5, u6, hu', c2⟩ := I5.out.at (HLG.out z hz)
          injection hu' with hu1' hu2' hu3'
          injection hu1' with hu1'
          injection hu1' with hu4' hu5'
          subst hu4' hu5'
          obtain ⟨y1, y2, y3, -⟩ := Box3.new wr (x : Int) y (z : Int) 46
          obtain ⟨bx1, bx2⟩ := HCB.out x
          obtain ⟨bz1, bz2⟩ := HCB.out z
          generalize clsF es n x = dx at *
          generalize clsF es n z = dz at *
          have hrt : Int.tmod (dx + 1) (P : Int) = dz := by rw [Int.tmod_eq_emod_of_nonneg (by omega)]; exact hce.symm
          have hw : IntKind.i64.wrap dz = dz := by rw [IntKind.wrap_i64]; omega
          have hPn : ¬ (P : Int) = 0 := by omega
          have hdd : (dz != dz) = false := by simp
          have j1 : (i : Int) < (es.length : Int) := by omega
          have j2 : (x : Int) < (n : Int) := by omega
          have j3 : (z : Int) < (n : Int) := by omega
          clear hce he hem q3 o1 hu2 hu3 hu2' hu3' HW HI hek
          go_wp2_with fail
          go_quiet (fail)
          go_wp2_with fail
          go_roundg q
          case measure => omega
          case rel => exact ⟨i + 1, by omega, by go_num, Lib.hid (below_drewM B5.out _), Lib.hid (I5.out.keep (below_drewM (Below.refl _ _) _))⟩
end Go.Proofs.Ytfkplnmhlpabaaa
