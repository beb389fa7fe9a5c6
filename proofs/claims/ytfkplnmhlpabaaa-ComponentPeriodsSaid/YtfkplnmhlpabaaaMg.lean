/- What grooveref10.gcd, Reach, Period and Classes return, for any graph. -/
import Derived.Test.YtfkplnmhlpabaaaMe
import Derived.Test.YtfkplnmhlpabaaaMf
namespace Go.Proofs.Ytfkplnmhlpabaaa
open Go.RowKit Go.Shelf
set_option linter.unusedSimpArgs false
set_option linter.unusedVariables false

set_option maxRecDepth 100000 in
set_option maxHeartbeats 3200000 in
theorem refGcd_any (a b : Int) (w : World) (ha0 : 0 ≤ a) (hb0 : 0 ≤ b) (ha : a ≤ 1000000) (hb : b ≤ 1000000) :
    Calls Try.prog 60 #[.int .i64 a, .int .i64 b] w fun e w' => e = .returned (.int .i64 ((Int.gcd a b : Nat) : Int)) ∧ Below w.heap.size w w' := by
  obtain ⟨G, hG⟩ : ∃ G, Int.gcd a b = G := ⟨_, rfl⟩
  rw [hG]
  have HG := Lib.hid hG
  clear hG
  go_enter Try.func60, Try.ntmps60
  go_wp2_with fail
  go_loopg [0, 1] b.natAbs (fun q s0 s1 wx => ∃ x y : Int, s0 = .int .i64 x ∧ s1 = .int .i64 y ∧ Hid (Int.gcd x y = G) ∧ 0 ≤ x ∧ 0 ≤ y ∧ x ≤ 1000000 ∧ y ≤ 1000000 ∧ Hid (y.natAbs = q) ∧ Hid (∃ m, wx = w.drewN m))
  case atStart => exact ⟨a, b, rfl, rfl, HG, ha0, hb0, ha, hb, Lib.hid rfl, Lib.hid ⟨0, rfl⟩⟩
  case round =>
    clear HG ha hb ha0 hb0
    obtain ⟨x, y, rfl, rfl, HGG, hx0, hy0', hx, hy, HQ, HM⟩ := hrel
    by_cases hy0 : y = 0
    · have j1 : (y != 0) = false := by simpa using hy0
      have HE := Lib.hid (show ((G : Nat) : Int) = x by rw [← HGG.out, hy0, gcd_end x]; omega)
      have HBW := Lib.hid (show Below w.heap.size w wr by obtain ⟨m, hm⟩ := HM.out; rw [hm]; exact below_drewM (Below.refl _ _) m)
      clear hy0 HGG HQ
      go_wp2_with fail
      go_ret
      exact ⟨by rw [HE.out]; rfl, HBW.out⟩
    · have j1 : (y != 0) = true := by simpa using hy0
      have hyn : ¬ y = 0 := hy0
      obtain ⟨r, hr⟩ : ∃ r, Int.tmod x y = r := ⟨_, rfl⟩
      have hrl : r.natAbs < y.natAbs := by rw [← hr, Int.natAbs_tmod]; exact Nat.mod_lt _ (by omega)
      have hr0 : 0 ≤ r := by rw [← hr]; exact Int.tmod_nonneg y hx0
      have hw : IntKind.i64.wrap r = r := by rw [IntKind.wrap_i64]; omega
      have HG2 := Lib.hid (show Int.gcd y r = G by rw [← hr, gcd_tmod]; exact HGG.out)
      clear HGG
      go_wp2_with fail
      go_quiet (fail)
      go_wp2_with fail
      go_roundg r.natAbs
      case measure => have := HQ.out; omega
      case rel => exact ⟨y, r, rfl, rfl, HG2, by omega, hr0, hy, by omega, Lib.hid rfl, Lib.hid (by obtain ⟨m, hm⟩ := HM.out; rw [hm, World.drewN_drewN]; exact ⟨_, rfl⟩)⟩
theorem gcd_max (p D : Int) : Int.gcd p (max D (-D)) = Int.gcd p D := by
  rcases Int.le_total D (-D) with h | h
  · rw [Int.max_eq_right h, Int.gcd_neg]
  · rw [Int.max_eq_left h]
set_option maxRecDepth 100000 in
set_option maxHeartbeats 6400000 in
theorem refPeriod_any (L S : Int) (es : List E3) (v : Value) (w : World) (hrd : EdgesRd w v es) (hn : es.length ≤ 9223372036854775807) :
    Calls Try.prog 26 #[grV L S v] w fun e w' => e = .returned (.tuple #[.int .i64 (perR L S es), .int .i64 (perE L S es)]) ∧ Below w.heap.size w w' := by
  have b1 := below1 w (.cells #[.int .i64 L, .int .i64 S, v] 24)
  have G1 := Lib.hid (BoxG.new w L S v 24)
  have HB := Lib.hid b1
  have HRD := Lib.hid hrd
  have HIR := Lib.hid (fun W h => refIrr_any L S es v W h hn)
  obtain ⟨x1, x2, x3⟩ := id G1.out
  by_cases h0 : chkG L S es = 0
  · have hvg := chkG_zero h0
    have hs1 := hvg.s1
    have hs2 := hvg.s2
    have hlen := hvg.len
    obtain ⟨n, rfl⟩ : ∃ n : Nat, S = (n : Int) := ⟨S.toNat, by omega⟩
    have e0 : errC L (n : Int) es = 0 := by unfold errC; rw [if_pos h0]
    rw [e0] at HIR
    cases hir : irrR L (n : Int) es with
    | false =>
      have e1 : perR L (n : Int) es = 0 := by unfold perR; rw [if_neg (by rw [hir]; decide)]
      have e2 : perE L (n : Int) es = 8 := by unfold perE; rw [if_neg (by rw [hir]; decide), if_pos h0]
      rw [e1, e2]
      rw [hir] at HIR
      obtain ⟨a, c, rfl⟩ := hrd.form
      clear hrd b1 hir h0 hvg e0 e1 e2
      go_enter Try.func26, Try.ntmps26
      go_wp2_with (go_at_call 21; (with_reducible refine (HIR.out _ (HRD.out.keep HB.out)).mono ?_); rintro e W2 ⟨rfl, b2⟩; (have B2 := Lib.hid (below_more HB.out (Nat.le_refl _) b2)); clear b2 x1 x2 x3)
      exact bodyPost_ret (v := .tuple #[.int .i64 0, .int .i64 8]) (by simp [results, Try.results26, go_sem]) rfl ⟨rfl, B2.out⟩
    | true =>
      obtain ⟨-, hirr⟩ := irrR_true hir
      rw [Int.toNat_natCast] at hirr
      obtain ⟨hne, hcon⟩ := (irr_iff hvg.ok).1 hirr
      have hn0 : 0 < n := by
        cases es with
        | nil => exact absurd rfl hne
        | cons e es => have := okE_iff.1 (hvg.ok e List.mem_cons_self); omega
      have e1 : perR L (n : Int) es = ((perN es n : Nat) : Int) := by unfold perR; rw [if_pos hir]; rfl
      have e2 : perE L (n : Int) es = 0 := by unfold perE; rw [if_pos hir]
      rw [e1, e2]
      rw [hir] at HIR
      have HLV := Lib.hid (fun W h => levels_any L n es v W h (by omega) hn0 hvg.ok hlen hcon)
      have HPS := Lib.hid (fun d (hd : Pot es n d) => show perF d es = perN es n from per_same hvg.ok hcon hd (lenF_pot hvg.ok hcon))
      have HOK := Lib.hid (fun e (he : e ∈ es) => okE_st (hvg.ok e he))
      obtain ⟨P, hP⟩ : ∃ P, perN es n = P := ⟨_, rfl⟩
      rw [hP] at HPS ⊢
      obtain ⟨a, c, rfl⟩ := hrd.form
      clear hrd b1 hir h0 hvg e0 e1 e2 hirr hne hcon hP
      go_enter Try.func26, Try.ntmps26
      go_wp2_with (first
        | (go_at_call 21; (with_reducible refine (HIR.out _ (HRD.out.keep HB.out)).mono ?_); rintro e W2 ⟨rfl, b2⟩; (have B2 := Lib.hid (below_more HB.out (Nat.le_refl _) b2)); (have G2 := Lib.hid (G1.out.keep b2)); clear b2 x1 x2 x3; (obtain ⟨x1, x2, x3⟩ := id G2.out))
        | (go_at_call 59; (with_reducible refine (HLV.out _ (HRD.out.keep B2.out)).mono ?_); rintro e W3 ⟨lb, d, rfl, r3, hpot, hbd, -, b3⟩; (have B3 := Lib.hid (below_more B2.out (Nat.le_refl _) b3)); (have G3 := Lib.hid (G2.out.keep b3)); (have R3 := Lib.hid r3); (have HPO := Lib.hid (HPS.out d hpot)); (have HBD := Lib.hid hbd); clear b3 r3 hpot hbd x1 x2 x3))
      have F0 := Lib.hid (show perF d (es.take 0) = 0 from rfl)
      clear HB B2 G1 G2 HIR HLV
      go_loopg [7, 8] es.length (fun q s7 s8 wx => ∃ (i p : Nat), i + q = es.length ∧ s7 = .int .i64 (p : Int) ∧ s8 = .int .i64 (i : Int) ∧ p ≤ 1000 ∧ Hid (perF d (es.take i) = p) ∧ Hid (Below w.heap.size w wx) ∧ Hid (BoxG wx w.heap.size L (n : Int) (.slice a es.length c)) ∧ Hid (IRow wx lb n d))
      case atStart => exact ⟨0, 0, by omega, rfl, rfl, by omega, F0, B3, G3, R3⟩
      case round =>
        clear F0 B3 G3 R3
        obtain ⟨i, p, hin, rfl, rfl, hp, HF, HW, HG, HR⟩ := hrel
        obtain ⟨x1, x2, x3⟩ := id HG.out
        rcases gk with _ | q
        · obtain rfl : i = es.length := by omega
          have hF := HF.out
          rw [List.take_length, HPO.out] at hF
          subst hF
          go_wp2_with fail
          exact bodyPost_ret (v := .tuple #[.int .i64 (P : Int), .int .i64 0]) (by simp [results, Try.results26, go_sem]) rfl ⟨rfl, HW.out⟩
        · obtain ⟨e, he⟩ : ∃ e, es[i]? = some e := ⟨_, List.getElem?_eq_getElem (by omega)⟩
          have hek := HOK.out e (List.mem_of_getElem? he)
          obtain ⟨bb, off, c', hv, k1, k2, k3⟩ := (HRD.out.keep HW.out).at he
          injection hv with q1 q2' q3
          subst q1
          have hsn := perF_snoc d (es.take i) e
          rw [← take_snoc he, HF.out] at hsn
          obtain ⟨x, y, z⟩ := e
          dsimp only at hek k1 k2 k3 hsn
          obtain ⟨hx, hz, hx1, hz1⟩ := hek
          obtain ⟨x', hx'⟩ : ∃ x', x.toNat = x' := ⟨_, rfl⟩
          obtain ⟨z', hz'⟩ : ∃ z', z.toNat = z' := ⟨_, rfl⟩
          rw [hx'] at hx hx1 hsn
          rw [hz'] at hz hz1 hsn
          subst hx1
          subst hz1
          have c1 := HR.out.cell hx
          have c2 := HR.out.cell hz
          have bx := HBD.out x' hx
          have bz := HBD.out z' hz
          obtain ⟨p1, hp1⟩ : ∃ p1, d x' = p1 := ⟨_, rfl⟩
          obtain ⟨p2, hp2⟩ : ∃ p2, d z' = p2 := ⟨_, rfl⟩
          rw [hp1] at c1 bx hsn
          rw [hp2] at c2 bz hsn
          obtain ⟨D, hD⟩ : ∃ D, p1 + 1 - p2 = D := ⟨_, rfl⟩
          have w1 : IntKind.i64.wrap (p1 + 1) = p1 + 1 := by rw [IntKind.wrap_i64]; omega
          have w2 : IntKind.i64.wrap (p1 + 1 - p2) = D := by rw [IntKind.wrap_i64]; omega
          have w3 : IntKind.i64.wrap (-D) = -D := by rw [IntKind.wrap_i64]; omega
          rw [hD] at hsn
          have HGC := Lib.hid (fun W => gcd_max (p : Int) D ▸ refGcd_any (p : Int) (max D (-D)) W (by omega) (by omega) (by omega) (by omega))
          have hg1 : Int.gcd (p : Int) D ≤ 1000 := gcd_le hp (by omega)
          obtain ⟨p', hp'⟩ : ∃ p', Int.gcd (p : Int) D = p' := ⟨_, rfl⟩
          rw [hp'] at hsn hg1 HGC
          have HF2 := Lib.hid hsn
          have j3 : (i : Int) < (es.length : Int) := by omega
          have j4 : (x' : Int) < (n : Int) := by omega
          have j5 : (z' : Int) < (n : Int) := by omega
          have HWD := Lib.hid (fun q => below_drewM HW.out q)
          have HGD := Lib.hid (fun q => HG.out.keep (below_drewM (Below.refl _ _) q))
          have HRR := Lib.hid (fun q => HR.out.keep (below_drewM (Below.refl _ _) q))
          clear he hsn q2' q3 hx' hz' hp1 hp2 HF hp'
          go_upto_region 10 with fail
          go_quiet (fail)
          go_wp2_with (go_at_call 60; (with_reducible refine (HGC.out _).mono ?_); rintro e W5 ⟨rfl, b5⟩; (have B5 := Lib.hid (below_more (HWD.out _) (Nat.le_refl _) b5)); (have G5 := Lib.hid ((HGD.out _).keep b5)); (have R5 := Lib.hid ((HRR.out _).keep b5)); clear b5)
          go_roundg q
          case measure => omega
          case rel => exact ⟨i + 1, p', by omega, rfl, by go_num, hg1, HF2, B5, G5, R5⟩
  · have e0 : errC L S es = 1 := by unfold errC; rw [if_neg h0]
    have e1 : irrR L S es = false := by unfold irrR; rw [if_neg h0]
    have e2 : perR L S es = 0 := by unfold perR; rw [if_neg (by rw [e1]; decide)]
    have e3 : perE L S es = 1 := by unfold perE; rw [if_neg (by rw [e1]; decide), if_neg h0]
    rw [e0, e1] at HIR
    rw [e2, e3]
    obtain ⟨a, c, rfl⟩ := hrd.form
    clear hrd b1 h0 e0 e1 e2 e3
    go_enter Try.func26, Try.ntmps26
    go_wp2_with (go_at_call 21; (with_reducible refine (HIR.out _ (HRD.out.keep HB.out)).mono ?_); rintro e W2 ⟨rfl, b2⟩; (have B2 := Lib.hid (below_more HB.out (Nat.le_refl _) b2)); clear b2 x1 x2 x3)
    exact bodyPost_ret (v := .tuple #[.int .i64 0, .int .i64 1]) (by simp [results, Try.results26, go_sem]) rfl ⟨rfl, B2.out⟩
end Go.Proofs.Ytfkplnmhlpabaaa
