/- ComponentCycles: the walk. Condition: the edges can be read. -/
import Derived.Test.YtfkplnmhlpabaaaKq
import Derived.Test.YtfkplnmhlpabaaaKs
namespace Go.Proofs.Ytfkplnmhlpabaaa
open Go.RowKit Go.Shelf
set_option linter.unusedSimpArgs false
set_option linter.unusedVariables false

theorem fineC_small {L S : Int} {es : List E3} (h : fineC L S es = true) (hs : S ≤ 64) : S ≤ 8 := by
  unfold fineC at h
  rw [Bool.and_eq_true] at h
  have h1 : greatC S es.length = false := by simpa using h.1
  unfold greatC at h1
  have h2 := of_decide_eq_false h1
  omega
theorem BoolsAt.cellM {W : World} {B g c i m : Nat} {x : Bool} {l : List Bool} (h : BoolsAt W B (.slice (some ⟨g, 0, none⟩) m c) l) (hm : l.length = m) (hx : l[i]? = some x) : W.cell? ⟨g, i, none⟩ = some (.bool x) := by
  subst hm; exact h.cell hx
set_option maxRecDepth 100000 in
set_option maxHeartbeats 6400000 in
theorem compCycles_any (L S : Int) (es : List E3) (v : Value) (w : World) (hrd : EdgesRd w v es) (hn : es.length ≤ 9223372036854775807) :
    Calls Try.prog 9 #[grV L S v] w fun e w' => e = .returned (.bool true) ∧ Below w.heap.size w w' := by
  have b1 := below1 w (.cells #[.int .i64 L, .int .i64 S, v] 24)
  have G1 := Lib.hid (BoxG.new w L S v 24)
  have HB := Lib.hid b1
  have HRD := Lib.hid hrd
  have HF := Lib.hid (fun W h => fineC_any L S es v W h hn)
  have HAW := Lib.hid (fun W => awake_any W)
  obtain ⟨x1, x2, x3⟩ := id G1.out
  cases hf : fineC L S es with
  | false =>
    rw [hf] at HF
    obtain ⟨a, c, rfl⟩ := hrd.form
    clear hrd b1 hf
    go_enter Try.func9, Try.ntmps9
    go_wp2_with (first
      | (go_at_call 30; (with_reducible refine (HF.out _ (HRD.out.keep HB.out)).mono ?_); rintro e W2 ⟨rfl, b2⟩; (have B2 := Lib.hid (below_more HB.out (Nat.le_refl _) b2)); clear b2 x1 x2 x3)
      | (go_at_call 13; (with_reducible refine (HAW.out _).mono ?_); rintro e W3 ⟨rfl, b3⟩; (have B3 := Lib.hid (below_more B2.out (Nat.le_refl _) b3)); clear b3))
    go_ret
    exact ⟨rfl, B3.out⟩
  | true =>
    rw [hf] at HF
    have h0 := fineC_true hf
    have hvg := chkG_zero h0
    have hs1 := hvg.s1
    have hs2 := hvg.s2
    have hlen := hvg.len
    have hs8 := fineC_small hf hs2
    obtain ⟨n, rfl⟩ : ∃ n : Nat, S = (n : Int) := ⟨S.toNat, by omega⟩
    have hn64 : n ≤ 8 := by omega
    have HPE := Lib.hid (fun W h => period_any L (n : Int) es v W h (by omega))
    have HIR := Lib.hid (fun W h => irreducible_any L (n : Int) es v W h (by omega))
    clear hf
    have e0 : errC L (n : Int) es = 0 := by unfold errC; rw [if_pos h0]
    rw [e0] at HIR
    cases hir : irrR L (n : Int) es with
    | false =>
      have e1 : perR L (n : Int) es = 0 := by unfold perR; rw [if_neg (by rw [hir]; decide)]
      have e2 : perE L (n : Int) es = 8 := by unfold perE; rw [if_neg (by rw [hir]; decide), if_pos h0]
      rw [e1, e2] at HPE
      rw [hir] at HIR
      obtain ⟨a, c, rfl⟩ := hrd.form
      clear hrd b1 hir h0 hvg e1 e2 e0
      go_enter Try.func9, Try.ntmps9
      go_wp2_with (first
        | (go_at_call 30; (with_reducible refine (HF.out _ (HRD.out.keep HB.out)).mono ?_); rintro e W2 ⟨rfl, b2⟩; (have B2 := Lib.hid (below_more HB.out (Nat.le_refl _) b2)); (have G2 := Lib.hid (G1.out.keep b2)); clear b2 x1 x2 x3; (obtain ⟨x1, x2, x3⟩ := id G2.out))
        | (go_at_call 25; (with_reducible refine (HPE.out _ (HRD.out.keep B2.out)).mono ?_); rintro e W3 ⟨rfl, b3⟩; (have B3 := Lib.hid (below_more B2.out (Nat.le_refl _) b3)); (have G3 := Lib.hid (G2.out.keep b3)); clear b3 x1 x2 x3; (obtain ⟨x1, x2, x3⟩ := id G3.out))
        | (go_at_call 20; (with_reducible refine (HIR.out _ (HRD.out.keep B3.out)).mono ?_); rintro e W4 ⟨rfl, b4⟩; (have B4 := Lib.hid (below_more B3.out (Nat.le_refl _) b4)); clear b4 x1 x2 x3)
        | (go_at_call 13; (with_reducible refine (HAW.out _).mono ?_); rintro e W5 ⟨rfl, b5⟩; (have B5 := Lib.hid (below_more B4.out (Nat.le_refl _) b5)); clear b5))
      go_ret
      exact ⟨rfl, B5.out⟩
    | true =>
      obtain ⟨-, hirr⟩ := irrR_true hir
      rw [Int.toNat_natCast] at hirr
      obtain ⟨hne, hcon⟩ := (irr_iff hvg.ok).1 hirr
      have hn0 : 0 < n := by
        cases es with
        | nil => exact absurd rfl hne
        | cons e es => have := okE_iff.1 (hvg.ok e List.mem_cons_self); omega
      have hP1 : 1 ≤ perN es n := per_pos (d := lenF es n 0) hvg.ok hcon hne
      have hP2 : perN es n ≤ 1000 := by
        unfold perN
        refine perF_le fun e he => ?_
        have q1 := lenF_ge hvg.ok 0 e.1.toNat
        have q2 := lenF_ge hvg.ok 0 e.2.2.toNat
        have q3 := lenF_le es n 0 e.1.toNat
        have q4 := lenF_le es n 0 e.2.2.toNat
        omega
      have e1 : perR L (n : Int) es = ((perN es n : Nat) : Int) := by unfold perR; rw [if_pos hir]; rfl
      have e2 : perE L (n : Int) es = 0 := by unfold perE; rw [if_pos hir]
      have HY := Lib.hid (fun (s : Nat) (hs : s < n) (k : Nat) (h : exF es s k s = true) => show perN es n ∣ k from per_closed ((exF_iff hvg.ok).1 h))
      have HZ := Lib.hid (fun (s : Nat) (hs : s < n) (k : Nat) (hk : 64 ≤ k) (h : perN es n ∣ k) => (exF_iff (s := s) hvg.ok).2 (cycles_all hvg.ok hcon hne hs (by have : n * (n - 1) ≤ 8 * 8 := Nat.mul_le_mul hn64 (by omega); omega) h))
      have HCO := Lib.hid (show ∀ (s : Nat) (W : World), EdgesRd W v es → s < n → Calls Try.prog 42 #[grV L (n : Int) v, .int .i64 (s : Int), .int .i64 100] W fun e w' => ∃ u, e = .returned u ∧ BoolsAt w' W.heap.size u ((List.range 101).map fun k => exF es s k s) ∧ Below W.heap.size W w' from fun s W h hs => closed_any L n es v s 100 W h (by omega) hvg.ok hlen hs (by omega))
      obtain ⟨P, hP⟩ : ∃ P, perN es n = P := ⟨_, rfl⟩
      rw [e1, e2] at HPE
      rw [hir] at HIR
      rw [hP] at HPE HY HZ hP1 hP2
      obtain ⟨a, c, rfl⟩ := hrd.form
      clear hrd b1 hir h0 hvg hirr hne hcon e1 e2 e0 hP
      have d2 : decide ((P : Int) < 1) = false := decide_eq_false (by omega)
      have d3 : decide (P < 1) = false := decide_eq_false (by omega)
      go_enter Try.func9, Try.ntmps9
      go_wp2_with (first
        | (go_at_call 30; (with_reducible refine (HF.out _ (HRD.out.keep HB.out)).mono ?_); rintro e W2 ⟨rfl, b2⟩; (have B2 := Lib.hid (below_more HB.out (Nat.le_refl _) b2)); (have G2 := Lib.hid (G1.out.keep b2)); clear b2 x1 x2 x3; (obtain ⟨x1, x2, x3⟩ := id G2.out))
        | (go_at_call 25; (with_reducible refine (HPE.out _ (HRD.out.keep B2.out)).mono ?_); rintro e W3 ⟨rfl, b3⟩; (have B3 := Lib.hid (below_more B2.out (Nat.le_refl _) b3)); (have G3 := Lib.hid (G2.out.keep b3)); clear b3 x1 x2 x3; (obtain ⟨x1, x2, x3⟩ := id G3.out))
        | (go_at_call 20; (with_reducible refine (HIR.out _ (HRD.out.keep B3.out)).mono ?_); rintro e W4 ⟨rfl, b4⟩; (have B4 := Lib.hid (below_more B3.out (Nat.le_refl _) b4)); (have G4 := Lib.hid (G3.out.keep b4)); clear b4 x1 x2 x3; (obtain ⟨x1, x2, x3⟩ := id G4.out)))
      clear x1 x2 x3 d2 d3 HB B2 B3 G1 G2 G3 HPE HIR HF
      go_loopg [51] n (fun q s51 wx => ∃ s : Nat, s + q = n ∧ s51 = .int .i64 (s : Int) ∧ Hid (Below w.heap.size w wx) ∧ Hid (BoxG wx w.heap.size L (n : Int) (.slice a es.length c)))
      case atStart => exact ⟨0, by omega, rfl, B4, G4⟩
      case round =>
        clear B4 G4
        obtain ⟨s, hsn, rfl, HW, HG⟩ := hrel
        rcases gk with _ | q
        · obtain rfl : s = n := by omega
          go_wp2_with (go_at_call 13; (with_reducible refine (HAW.out _).mono ?_); rintro e W5 ⟨rfl, b5⟩; (have B5 := Lib.hid (below_more HW.out (Nat.le_refl _) b5)); clear b5)
          go_ret
          exact ⟨rfl, B5.out⟩
        · have hs : s < n := by omega
          have j1 : (s : Int) < (n : Int) := by omega
          have HC2 := Lib.hid (fun W h => HCO.out s W h hs)
          have HLG := Lib.hid (show ∀ k, k < 101 → ((List.range 101).map fun k => exF es s k s)[k]? = some (exF es s k s) from fun k hk => by rw [List.getElem?_map, List.getElem?_range hk]; rfl)
          have hll : ((List.range 101).map fun k => exF es s k s).length = 101 := by rw [List.length_map, List.length_range]
          obtain ⟨l, hl⟩ : ∃ l, ((List.range 101).map fun k => exF es s k s) = l := ⟨_, rfl⟩
          rw [hl] at HLG hll HC2
          obtain ⟨x1, x2, x3⟩ := id HG.out
          clear hl
          go_wp2_with (go_at_call 42; (with_reducible refine (HC2.out _ (HRD.out.keep HW.out)).mono ?_); rintro e W5 ⟨u5, rfl, o5, b5⟩; (have B5 := Lib.hid (below_more HW.out (Nat.le_refl _) b5)); (have G5 := Lib.hid (HG.out.keep b5)); (obtain ⟨g', cap', rfl, -, -⟩ := World.ownsRow.form o5 (by omega)); (unfold BoolsAt at o5); (rw [hll] at o5); (rw [hll]); (have O5 := Lib.hid (show W5.ownsRow wr.heap.size 4 1 (.slice (some ⟨g', 0, none⟩) 101 cap') 101 (boolz l) from o5)); clear o5 b5 x1 x2 x3)
          have HS := Lib.hid (fun k (h : exF es s k s = true) => HY.out s hs k h)
          have HT := Lib.hid (fun k hk h => HZ.out s hs k hk h)
          clear HC2 HW HG
          go_loopg [58] 101 (fun q2 s58 wy => ∃ k : Nat, k + q2 = 101 ∧ s58 = .int .i64 (k : Int) ∧ Hid (Below w.heap.size w wy) ∧ Hid (BoxG wy w.heap.size L (n : Int) (.slice a es.length c)) ∧ Hid (wy.ownsRow wr.heap.size 4 1 (.slice (some ⟨g', 0, none⟩) 101 cap') 101 (boolz l)))
          case atStart => exact ⟨0, by omega, rfl, B5, G5, O5⟩
          case round =>
            clear B5 G5 O5
            obtain ⟨k, hk, rfl, HW2, HG2, HO2⟩ := hrel
            rcases gk with _ | q2
            · obtain rfl : k = 101 := by omega
              go_wp2_with fail
              go_roundg q
              case measure => omega
              case rel => exact ⟨s + 1, by omega, by go_num, HW2, HG2⟩
            · have j2 : (k : Int) < 101 := by omega
              have o6 := HO2.out
              have c1 := BoolsAt.cellM (show BoolsAt _ _ (.slice (some ⟨g', 0, none⟩) 101 cap') l from by unfold BoolsAt; rw [hll]; exact o6) hll (HLG.out k (by omega))
              clear o6
              have hPn : ¬ (P : Int) = 0 := by omega
              obtain ⟨t, ht⟩ : ∃ t : Int, Int.tmod (k : Int) (P : Int) = t := ⟨_, rfl⟩
              have ht2 : t = (k : Int) % (P : Int) := by rw [← ht]; exact Int.tmod_eq_emod_of_nonneg (by omega)
              have ht3 : 0 ≤ t := by rw [ht2]; exact Int.emod_nonneg _ (by omega)
              have ht4 : t < P := by rw [ht2]; exact Int.emod_lt_of_pos _ (by omega)
              have hdv : P ∣ k ↔ t = 0 := by
                rw [ht2]
                constructor
                · intro h; exact Int.emod_eq_zero_of_dvd (Int.natCast_dvd_natCast.2 h)
                · intro h; exact Int.natCast_dvd_natCast.1 (Int.dvd_of_emod_eq_zero h)
              have hw : IntKind.i64.wrap t = t := by rw [IntKind.wrap_i64]; omega
              rcases hb : exF es s k s with _ | _
              · rw [hb] at c1
                by_cases h0 : t = 0
                · have hk64 : ¬ 64 ≤ k := fun h => by
                    have := HT.out k h (hdv.2 h0)
                    rw [hb] at this; cases this
                  have j5 : decide ((64 : Int) ≤ (k : Int)) = false := decide_eq_false (by omega)
                  have j6 : decide (64 ≤ k) = false := decide_eq_false (by omega)
                  subst h0
                  clear ht2 ht3 ht4 hdv hb
                  go_wp2_with fail
                  go_roundg q2
                  case measure => omega
                  case rel => exact ⟨k + 1, by omega, by go_num, HW2, HG2, HO2⟩
                · have j5 : (t == 0) = false := by rw [beq_eq_false_iff_ne]; exact h0
                  clear ht2 ht3 ht4 hdv hb
                  go_wp2_with fail
                  go_roundg q2
                  case measure => omega
                  case rel => exact ⟨k + 1, by omega, by go_num, HW2, HG2, HO2⟩
              · rw [hb] at c1
                have h0 : t = 0 := hdv.1 (HS.out k hb)
                subst h0
                clear ht2 ht3 ht4 hdv hb
                go_wp2_with fail
                go_roundg q2
                case measure => omega
                case rel => exact ⟨k + 1, by omega, by go_num, HW2, HG2, HO2⟩
end Go.Proofs.Ytfkplnmhlpabaaa
