/- RunsSplits returns true for every input. -/
import Derived.Test.YtokpfbbhkmlclaaDoorUx1
import Derived.Test.YtokpfbbhkmlclaaDoorUy4
import Derived.Test.YtokpfbbhkmlclaaDoorUz1
namespace Go.Proofs.YtokpfbbhkmlclaaDoor
open Go.RowKit
set_option linter.unusedSimpArgs false
set_option linter.unusedVariables false

/-- A list of runs as it comes in. -/
def ArgR (W : World) (v : Value) (rs : List (Int × Int)) : Prop := RunsRd W v rs ∧ rs.length ≤ 9223372036854775807 ∧ ∀ p ∈ rs, -9223372036854775808 ≤ p.1 ∧ p.1 ≤ 9223372036854775807 ∧ -9223372036854775808 ≤ p.2 ∧ p.2 ≤ 9223372036854775807
theorem glist_false {rs : List (Int × Int)} (h : glist rs = false) : rs.length ≤ 12 ∧ ∀ p ∈ rs, p.2 ≤ 20 ∨ 65536 < p.2 := by
  unfold glist at h
  rw [Bool.or_eq_false_iff, decide_eq_false_iff_not] at h
  refine ⟨by omega, fun p hp => ?_⟩
  have := List.any_eq_false.1 h.2 p hp
  unfold bigRun at this
  rw [Bool.and_eq_true, decide_eq_true_iff, decide_eq_true_iff] at this
  omega
theorem fits_of {rs : List (Int × Int)} (h : glist rs = false) (hI : ∀ p ∈ rs, -9223372036854775808 ≤ p.1 ∧ p.1 ≤ 9223372036854775807 ∧ -9223372036854775808 ≤ p.2 ∧ p.2 ≤ 9223372036854775807) : Fits rs := by
  obtain ⟨h1, h2⟩ := glist_false h
  refine ⟨by omega, hI, fun h0 => ?_⟩
  have h3 := chkG_all rs none 65536 h0
  refine ⟨fun p hp => ?_, ?_⟩
  · have := h3 p hp
    have := h2 p hp
    omega
  · obtain ⟨-, k, -⟩ := rns_joined rs [] none 65536 rfl h0
    have := k (by omega)
    omega
theorem joined_small {rs : List (Int × Int)} (h : glist rs = false) (h0 : chkG none 65536 rs = 0) : (joinL rs).length ≤ 240 := by
  obtain ⟨h1, h2⟩ := glist_false h
  have h3 := chkG_all rs none 65536 h0
  have h4 := joinL_len (rs := rs) (k := 20) (fun p hp => by
    have := h3 p hp
    have := h2 p hp
    omega)
  omega
theorem splitR_len {l : List UInt8} (h : l.length ≤ 1000 ∨ (65536 < l.length ∧ l.length ≤ 9223372036854775807)) : (splitR l).1.length ≤ 1000 := by
  unfold splitR
  split
  · next h0 =>
    obtain ⟨m, hm, m1, m2, hl2, hW⟩ := chk_zero h0
    have := rns_len l
    show (rns l).length ≤ 1000
    omega
  · exact Nat.zero_le _
set_option maxRecDepth 100000 in
set_option maxHeartbeats 6400000 in
theorem runsSplits_any (l : List UInt8) (v : Value) (rs : List (Int × Int)) (z : Int) (w : World) (hl : l.length ≤ 9223372036854775807) (ha : ArgR w v rs) :
    Calls Tryd.prog 3 #[.string ⟨l.toArray⟩, v, .int .i64 z] w fun e w' => e = .returned (.bool true) ∧ Below w.heap.size w w' := by
  obtain ⟨hrd, hrl, hI⟩ := ha
  have HRD := Lib.hid hrd
  have HL := Lib.hid (refGreatList_any rs v w hrd hrl)
  obtain ⟨A, c0, rfl, -⟩ := hrd
  rcases small_or l.length hl with hs | hg
  · have HG := Lib.hid (fun W => refGreat_small l W hs)
    by_cases hgl : glist rs = false
    · rw [hgl] at HL
      have hs2 : l.length ≤ 1000 ∨ (65536 < l.length ∧ l.length ≤ 9223372036854775807) := by omega
      have hfit := fits_of hgl hI
      have H1 := Lib.hid (fun W => split_any l W hs2)
      have H2 := Lib.hid (fun W => refSplit_any l W hs2)
      have H3 := Lib.hid (fun W h => join_any rs (.slice A rs.length c0) W h hfit)
      have H4 := Lib.hid (fun W h => refJoin_any rs (.slice A rs.length c0) W h hfit)
      have H5 := Lib.hid (fun W => longest_any l z W hs2)
      have H6 := Lib.hid (fun W => refLongest_any l z W hs2)
      have hLl := splitR_len hs2
      obtain ⟨⟨L, E⟩, h1⟩ : ∃ r, splitR l = r := ⟨_, rfl⟩
      obtain ⟨⟨X, F⟩, h2⟩ : ∃ r, joinR rs = r := ⟨_, rfl⟩
      obtain ⟨⟨M, G⟩, h3⟩ : ∃ r, lonR l z = r := ⟨_, rfl⟩
      rw [h1] at H1 H2 hLl
      rw [h2] at H3 H4
      rw [h3] at H5 H6
      have hL2 : L.length ≤ 1000000 := Nat.le_trans hLl (by decide)
      clear h1 h2 h3 hs hs2 hgl hfit hI
      have e1 : (E == E) = true := by simp
      have e2 : (X == X) = true := by simp
      have e3 : (F == F) = true := by simp
      have e4 : (M == M) = true := by simp
      have e5 : (G == G) = true := by simp
      go_enter Tryd.func3, Tryd.ntmps3
      go_wp2_with (first
        | (go_at_call 10; (with_reducible refine (HG.out _).mono ?_); rintro e W0 ⟨rfl, hW⟩; (rw [hW]); (clear hW))
        | (go_at_call 11; (with_reducible refine (HL.out).mono ?_); rintro e W0 ⟨rfl, hW⟩; (rw [hW]); (clear hW))
        | (go_at_call 13; (with_reducible refine (H1.out _).mono ?_); rintro e W1 ⟨v1, rfl, i1, b1⟩; (obtain ⟨a1, c1, rfl⟩ := i1.slice))
        | (go_at_call 14; (with_reducible refine (H2.out _).mono ?_); rintro e W2 ⟨v2, rfl, i2, b2⟩; (obtain ⟨a2, c2, rfl⟩ := i2.slice); (have B2 := below_more b1 (Nat.le_refl _) b2))
        | (go_at_call 15; (with_reducible refine (H3.out _ (HRD.out.keep B2)).mono ?_); rintro e W3 ⟨rfl, b3⟩; (have B3 := below_more B2 (Nat.le_refl _) b3))
        | (go_at_call 16; (with_reducible refine (H4.out _ (HRD.out.keep B3)).mono ?_); rintro e W4 ⟨rfl, b4⟩; (have B4 := below_more B3 (Nat.le_refl _) b4))
        | (go_at_call 17; (with_reducible refine (H5.out _).mono ?_); rintro e W5 ⟨rfl, b5⟩)
        | (go_at_call 18; (with_reducible refine (H6.out _).mono ?_); rintro e W6 ⟨rfl, b6⟩; (have B6 := below_more (below_more B4 (Nat.le_refl _) b5) (Nat.le_refl _) b6))
        | (go_at_call 19; (refine (same_any L _ _ _ (((((i1.keep b2).keep b3).keep b4).keep b5).keep b6).rd ((((i2.keep b3).keep b4).keep b5).keep b6).rd hL2).mono ?_); rintro e W7 ⟨rfl, b7⟩)
        | (go_at_call 12; (with_reducible refine (awake_any _).mono ?_); rintro e W8 ⟨rfl, b8⟩))
      go_ret
      exact ⟨rfl, below_more (below_more B6 (Nat.le_refl _) b7) (Nat.le_refl _) b8⟩
    · rw [Bool.not_eq_false] at hgl
      rw [hgl] at HL
      clear hs hgl hI
      go_enter Tryd.func3, Tryd.ntmps3
      go_wp2_with (first
        | (go_at_call 10; (with_reducible refine (HG.out _).mono ?_); rintro e W0 ⟨rfl, hW⟩; (rw [hW]); (clear hW))
        | (go_at_call 11; (with_reducible refine (HL.out).mono ?_); rintro e W0 ⟨rfl, hW⟩; (rw [hW]); (clear hW))
        | (go_at_call 12; (with_reducible refine (awake_any _).mono ?_); rintro e W8 ⟨rfl, b8⟩))
      go_ret
      exact ⟨rfl, b8⟩
  · have HG := Lib.hid (fun W => refGreat_great l W hg)
    clear hg hI
    go_enter Tryd.func3, Tryd.ntmps3
    go_wp2_with (first
      | (go_at_call 10; (with_reducible refine (HG.out _).mono ?_); rintro e W0 ⟨rfl, hW⟩; (rw [hW]); (clear hW))
      | (go_at_call 12; (with_reducible refine (awake_any _).mono ?_); rintro e W8 ⟨rfl, b8⟩))
    go_ret
    exact ⟨rfl, b8⟩
end Go.Proofs.YtokpfbbhkmlclaaDoor
