/- What grooveref09.Keep returns. Condition: the edges and the list can be read. -/
import Derived.Test.YtiebhalefdpjiaaDoorVxg
namespace Go.Proofs.YtiebhalefdpjiaaDoor
open Go.RowKit
set_option linter.unusedSimpArgs false
set_option linter.unusedVariables false

set_option maxRecDepth 100000 in
set_option maxHeartbeats 3200000 in
theorem rkeep_any (L S : Int) (es : List E3) (v vs : Value) (st : List Int) (w : World) (hrd : EdgesRd w v es) (hn : es.length ≤ 9223372036854775807) (hst : IntsRd w vs st) (hl : st.length ≤ 9223372036854775807) :
    Calls Tryd.prog 24 #[grV L S v, vs] w (GOut w (keepR L S es st)) := by
  have HRD := Lib.hid hrd
  have HST := Lib.hid hst
  have HV := Lib.hid (fun W h => rcheck_any L S es v W h hn)
  have HC := Lib.hid (fun W h => rcheckSet_any L S v vs st W h hl)
  have K0 := Lib.hid (KB.start w L S v 24)
  obtain ⟨a, c, rfl⟩ := hrd.form
  obtain ⟨a2, c2, rfl⟩ := hst.form
  by_cases h0 : chkG L S es = 0
  · have hvg := chkG_zero h0
    have H0 := Lib.hid h0
    by_cases h1 : chkS S none st = 0
    · have hsg := chkS_ok h1
      have H1 := Lib.hid h1
      have HE := Lib.hid (show keepR L S es st = (L, (st.length : Int), partE st es, 0) by unfold keepR; rw [if_pos h0, if_pos h1])
      obtain ⟨n, rfl⟩ : ∃ n : Nat, S = (n : Int) := ⟨S.toNat, by have := hvg.s1; omega⟩
      have HP := Lib.hid (fun W h h2 => rpart_any L (n : Int) es (.slice a es.length c) (.slice a2 st.length c2) st W h h2 hvg.len (by have := hsg.len; have := hvg.s2; omega))
      clear hrd hst h0 h1 hvg hsg
      go_enter Tryd.func24, Tryd.ntmps24
      go_wp2_with (first
        | (go_at_call 14; (with_reducible refine (HV.out _ (HRD.out.keep K0.out.bel)).mono ?_); rintro e0 W1 ⟨rfl, b1⟩; (rw [H0.out]); (have K1 := Lib.hid (K0.out.keep b1)); (clear b1); (obtain ⟨⟨g1, g2, g3⟩, -⟩ := id K1.out))
        | (go_at_call 48; (with_reducible refine (HC.out _ (HST.out.keep K1.out.bel)).mono ?_); rintro e0 W2 ⟨rfl, b2⟩; (rw [H1.out]); (have K2 := Lib.hid (K1.out.keep b2)); (clear b2); (obtain ⟨⟨g4, g5, g6⟩, -⟩ := id K2.out))
        | (go_at_call 51; (with_reducible refine (HP.out _ (HRD.out.keep K2.out.bel) (HST.out.keep K2.out.bel)).mono ?_); rintro e0 W3 ⟨v3, rfl, o3, b3⟩; (obtain ⟨a3, c3, rfl⟩ := o3.slice); (have K3 := Lib.hid (K2.out.keep b3)); (have O3 := Lib.hid o3); (clear b3 o3); (obtain ⟨-, ⟨⟨r1, r2, r3⟩, r4, r5, r6⟩, -⟩ := id K3.out)))
      rw [HE.out]
      exact bodyPost_ret (v := .tuple #[grV L (st.length : Int) (.slice a3 (partE st es).length c3), .int .i64 0]) (by simp [results, Tryd.results24, go_sem, r1, r2, r3]) rfl
        ⟨_, rfl, edges_over O3.out (by have := K2.out.2.2.2; omega) _ _ _ (by have := K2.out.2.2.2; omega), below_over K3.out.2.2.1 (Nat.le_succ _) _ _ _⟩
    · obtain ⟨z, hz⟩ : ∃ z, chkS S none st = z := ⟨_, rfl⟩
      have HE := Lib.hid (show keepR L S es st = (0, 0, [], z) by unfold keepR; rw [if_pos h0, if_neg h1, hz])
      have H1 := Lib.hid hz
      rw [hz] at h1
      have d1 : (z != 0) = true := by simpa using h1
      clear hrd hst h0 h1 hvg hz
      go_enter Tryd.func24, Tryd.ntmps24
      go_wp2_with (first
        | (go_at_call 14; (with_reducible refine (HV.out _ (HRD.out.keep K0.out.bel)).mono ?_); rintro e0 W1 ⟨rfl, b1⟩; (rw [H0.out]); (have K1 := Lib.hid (K0.out.keep b1)); (clear b1); (obtain ⟨⟨g1, g2, g3⟩, -⟩ := id K1.out))
        | (go_at_call 48; (with_reducible refine (HC.out _ (HST.out.keep K1.out.bel)).mono ?_); rintro e0 W2 ⟨rfl, b2⟩; (rw [H1.out]); (have K2 := Lib.hid (K1.out.keep b2)); (clear b2); (obtain ⟨⟨g4, g5, g6⟩, ⟨⟨r1, r2, r3⟩, r4, r5, r6⟩, -⟩ := id K2.out)))
      rw [HE.out]
      exact bodyPost_ret (v := .tuple #[grV 0 0 (.slice none 0 0), .int .i64 z]) (by simp [results, Tryd.results24, go_sem, r1, r2, r3]) rfl
        ⟨_, rfl, edges_nil _ _, below_over K2.out.2.2.1 (Nat.le_succ _) _ _ _⟩
  · have HE := Lib.hid (show keepR L S es st = (0, 0, [], 1) by unfold keepR; rw [if_neg h0])
    obtain ⟨z, hz⟩ : ∃ z, chkG L S es = z := ⟨_, rfl⟩
    have H0 := Lib.hid hz
    rw [hz] at h0
    have d1 : (z != 0) = true := by simpa using h0
    clear hrd hst h0 hz
    go_enter Tryd.func24, Tryd.ntmps24
    go_wp2_with (first
      | (go_at_call 14; (with_reducible refine (HV.out _ (HRD.out.keep K0.out.bel)).mono ?_); rintro e0 W1 ⟨rfl, b1⟩; (rw [H0.out]); (have K1 := Lib.hid (K0.out.keep b1)); (clear b1); (obtain ⟨⟨g1, g2, g3⟩, ⟨⟨r1, r2, r3⟩, r4, r5, r6⟩, -⟩ := id K1.out)))
    rw [HE.out]
    exact bodyPost_ret (v := .tuple #[grV 0 0 (.slice none 0 0), .int .i64 1]) (by simp [results, Tryd.results24, go_sem, r1, r2, r3]) rfl
      ⟨_, rfl, edges_nil _ _, below_over K1.out.2.2.1 (Nat.le_succ _) _ _ _⟩
end Go.Proofs.YtiebhalefdpjiaaDoor
