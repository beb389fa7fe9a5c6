/- What runs.checkRuns and runs.Join return. Condition: at most 1000 runs, of up to 1000 letters if the list has no error, and up to 100000 in all. -/
import Derived.Test.YtokpfbbhkmlclaaDoorUy2
namespace Go.Proofs.YtokpfbbhkmlclaaDoor
open Go.RowKit
set_option linter.unusedSimpArgs false
set_option linter.unusedVariables false

/-- The letter of the run before. -/
def prevL (rs : List (Int × Int)) (i : Nat) : Option Int := if i = 0 then none else rs[i - 1]?.map Prod.fst
theorem prevL_zero (rs : List (Int × Int)) : prevL rs 0 = none := rfl
theorem prevL_succ {rs : List (Int × Int)} {i : Nat} {p : Int × Int} (h : rs[i]? = some p) : prevL rs (i + 1) = some p.1 := by
  unfold prevL
  rw [if_neg (by omega), Nat.add_sub_cancel, h]; rfl
theorem chkG_step {rs : List (Int × Int)} {i : Nat} {p : Int × Int} (h : rs[i]? = some p) (left : Int) : chkG (prevL rs i) left (rs.drop i) = if p.1 < 0 ∨ 15 < p.1 then 13 else if p.2 < 1 then 2 else if prevL rs i = some p.1 then 11 else if left < p.2 then 4 else chkG (prevL rs (i + 1)) (left - p.2) (rs.drop (i + 1)) := by
  have hi := (List.getElem?_eq_some_iff.1 h).1
  have e : rs.drop i = p :: rs.drop (i + 1) := by
    rw [List.drop_eq_getElem_cons hi]
    rw [List.getElem?_eq_getElem hi] at h
    injection h with h
    rw [h]
  rw [e, chkG, prevL_succ h]
theorem chkG_end (rs : List (Int × Int)) (left : Int) : chkG (prevL rs rs.length) left (rs.drop rs.length) = 0 := by rw [List.drop_length]; rfl
set_option maxRecDepth 100000 in
set_option maxHeartbeats 12800000 in
theorem checkRuns_any (rs : List (Int × Int)) (v : Value) (w : World) (hrd : RunsRd w v rs) (hl : rs.length ≤ 1000) (hI : ∀ p ∈ rs, -9223372036854775808 ≤ p.1 ∧ p.1 ≤ 9223372036854775807 ∧ -9223372036854775808 ≤ p.2 ∧ p.2 ≤ 9223372036854775807) :
    Calls Tryd.prog 39 #[v] w fun e w' => e = .returned (.int .i64 (chkG none 65536 rs)) ∧ Below w.heap.size w w' := by
  obtain ⟨A, c0, rfl, hr⟩ := hrd
  have HR := Lib.hid hr
  have HI := Lib.hid hI
  have HS := Lib.hid (fun i p (h : rs[i]? = some p) left => chkG_step h left)
  have HE := Lib.hid (fun left => chkG_end rs left)
  have HL := Lib.hid (fun z W => isLetter_any z W)
  obtain ⟨R, hR⟩ : ∃ R, chkG none 65536 rs = R := ⟨_, rfl⟩
  have HR0 := Lib.hid hR
  rw [hR]
  clear hr hI hR
  go_enter Tryd.func39, Tryd.ntmps39
  go_wp2_with fail
  go_loopg [3, 8] rs.length (fun q s3 s8 wx => ∃ (i : Nat) (s : Int), i + q = rs.length ∧ s8 = .int .i64 (i : Int) ∧ s3 = .int .i64 s ∧ 0 ≤ s ∧ s ≤ 65536 ∧ Hid (chkG (prevL rs i) (65536 - s) (rs.drop i) = R) ∧ Below w.heap.size w wx)
  case atStart => exact ⟨0, 0, by omega, rfl, rfl, by omega, by omega, HR0, Below.refl _ _⟩
  case round =>
    obtain ⟨i, s, hin, rfl, rfl, hs0, hs1, HC, hb⟩ := hrel
    rcases gk with _ | q
    · obtain rfl : i = rs.length := by omega
      have hz := HC.out
      rw [HE.out] at hz
      subst hz
      go_wp2
      go_ret
      exact ⟨rfl, hb⟩
    · have hil : i < rs.length := by omega
      obtain ⟨p, hp⟩ : ∃ p, rs[i]? = some p := ⟨_, List.getElem?_eq_getElem hil⟩
      obtain ⟨b, o, rfl, x1, x2⟩ := HR.out i p hp
      obtain ⟨p1, p2, p3, p4⟩ := HI.out p (List.mem_of_getElem? hp)
      have hst := HC.out
      rw [HS.out i p hp] at hst
      have X1 := cell_keep x1 hb
      have X2 := cell_keep x2 hb
      have j2 : (i : Int) < (rs.length : Int) := by omega
      have hpv : (i = 0 ∧ prevL rs i = none) ∨ ∃ j z, i = j + 1 ∧ prevL rs i = some z ∧ wr.cell? ⟨b, o + j * 2, none⟩ = some (.int .i64 z) := by
        rcases Nat.eq_zero_or_pos i with h | h
        · exact Or.inl ⟨h, by rw [h]; rfl⟩
        · obtain ⟨j, hj⟩ : ∃ j, i = j + 1 := ⟨i - 1, by omega⟩
          obtain ⟨q', hq'⟩ : ∃ p, rs[j]? = some p := ⟨_, List.getElem?_eq_getElem (by omega)⟩
          obtain ⟨b', o', e', y1, -⟩ := HR.out j q' hq'
          injection e' with e'
          injection e' with e1 e2 _
          subst e1 e2
          exact Or.inr ⟨j, q'.1, hj, by rw [hj]; exact prevL_succ hq', cell_keep y1 hb⟩
      obtain ⟨u, y⟩ := p
      dsimp only at X1 X2 p1 p2 p3 p4 hst
      have hbA := hb.alloc hb.size (.cells #[.int .i64 u, .int .i64 y] 45)
      have HLu := Lib.hid (fun W => HL.out u W)
      have z1 : (wr.alloc (.cells #[.int .i64 u, .int .i64 y] 45)).cell? ⟨wr.heap.size, 0, none⟩ = some (.int .i64 u) := by simp [go_sem]
      have z2 : (wr.alloc (.cells #[.int .i64 u, .int .i64 y] 45)).cell? ⟨wr.heap.size, 1, none⟩ = some (.int .i64 y) := by simp [go_sem]
      by_cases c1 : 0 ≤ u ∧ u < 16
      · rw [if_neg (by omega)] at hst
        have ed : decide (0 ≤ u ∧ u < 16) = true := decide_eq_true c1
        simp only [ed] at HLu
        by_cases c2 : y < 1
        · rw [if_pos c2] at hst
          have d1 : decide (y < 1) = true := decide_eq_true c2
          subst hst
          clear hp x1 x2 hpv HC z1 z2
          go_wp2_with (go_at_call 43; (with_reducible refine (HLu.out _).mono ?_); rintro e W1 ⟨rfl, hW⟩; (rw [hW]); (clear hW))
          go_ret
          exact ⟨rfl, hbA⟩
        · rw [if_neg c2] at hst
          have d1 : decide (y < 1) = false := decide_eq_false c2
          have hbD := hbA.drew
          have Z1 : (wr.alloc (.cells #[.int .i64 u, .int .i64 y] 45)).drew.cell? ⟨wr.heap.size, 0, none⟩ = some (.int .i64 u) := z1
          have Z2 : (wr.alloc (.cells #[.int .i64 u, .int .i64 y] 45)).drew.cell? ⟨wr.heap.size, 1, none⟩ = some (.int .i64 y) := z2
          rcases hpv with ⟨hi0, hp0⟩ | ⟨j, z, hij, hpz, y1⟩
          · have d3 : decide ((0 : Int) < (i : Int)) = false := decide_eq_false (by omega)
            have d5 : decide (0 < i) = false := decide_eq_false (by omega)
            have d6 : (0 < i) = False := eq_false (by omega)
            rw [hp0, if_neg (by intro h; cases h)] at hst
            clear hi0 hp0 hp x1 x2 z1 z2
            by_cases c4 : 65536 - s < y
            · rw [if_pos c4] at hst
              have d4 : decide (65536 - s < y) = true := decide_eq_true c4
              subst hst
              clear HC
              go_wp2_with (go_at_call 43; (with_reducible refine (HLu.out _).mono ?_); rintro e W1 ⟨rfl, hW⟩; (rw [hW]); (clear hW))
              go_big_region
              go_wp2
              go_ret
              exact ⟨rfl, hbD⟩
            · rw [if_neg c4, show 65536 - s - y = 65536 - (s + y) by omega] at hst
              have d4 : decide (65536 - s < y) = false := decide_eq_false c4
              have HC2 := Lib.hid hst
              clear hst HC
              go_wp2_with (go_at_call 43; (with_reducible refine (HLu.out _).mono ?_); rintro e W1 ⟨rfl, hW⟩; (rw [hW]); (clear hW))
              go_big_region
              go_wp2
              go_roundg q
              case measure => omega
              case rel => exact ⟨i + 1, s + y, by omega, by go_num, by go_num, by omega, by omega, HC2, hbD⟩
          · have d3 : decide ((0 : Int) < (i : Int)) = true := decide_eq_true (by omega)
            have d5 : decide (0 < i) = true := decide_eq_true (by omega)
            have d6 : 0 < i := by omega
            have hj : (i : Int) - 1 = (j : Int) := by omega
            have j5 : (j : Int) < (rs.length : Int) := by omega
            have Y1 : (wr.alloc (.cells #[.int .i64 u, .int .i64 y] 45)).drew.cell? ⟨b, o + j * 2, none⟩ = some (.int .i64 z) := cell_keep y1 (below1 wr _).drew
            by_cases c3 : z = u
            · subst c3
              rw [hpz, if_pos rfl] at hst
              have e3 : (z == z) = true := by simp
              subst hst
              clear hij hpz hp x1 x2 z1 z2 HC y1
              go_wp2_with (go_at_call 43; (with_reducible refine (HLu.out _).mono ?_); rintro e W1 ⟨rfl, hW⟩; (rw [hW]); (clear hW))
              go_big_region
              go_wp2
              go_ret
              exact ⟨rfl, hbD⟩
            · rw [hpz, if_neg (by intro h; injection h with h; exact c3 h)] at hst
              have e3 : (u == z) = false := by rw [beq_eq_false_iff_ne]; exact fun h => c3 h.symm
              clear hij hpz hp x1 x2 z1 z2 y1
              by_cases c4 : 65536 - s < y
              · rw [if_pos c4] at hst
                have d4 : decide (65536 - s < y) = true := decide_eq_true c4
                subst hst
                clear HC
                go_wp2_with (go_at_call 43; (with_reducible refine (HLu.out _).mono ?_); rintro e W1 ⟨rfl, hW⟩; (rw [hW]); (clear hW))
                go_big_region
                go_wp2
                go_ret
                exact ⟨rfl, hbD⟩
              · rw [if_neg c4, show 65536 - s - y = 65536 - (s + y) by omega] at hst
                have d4 : decide (65536 - s < y) = false := decide_eq_false c4
                have HC2 := Lib.hid hst
                clear hst HC
                go_wp2_with (go_at_call 43; (with_reducible refine (HLu.out _).mono ?_); rintro e W1 ⟨rfl, hW⟩; (rw [hW]); (clear hW))
                go_big_region
                go_wp2
                go_roundg q
                case measure => omega
                case rel => exact ⟨i + 1, s + y, by omega, by go_num, by go_num, by omega, by omega, HC2, hbD⟩
      · rw [if_pos (by omega)] at hst
        have ed : decide (0 ≤ u ∧ u < 16) = false := decide_eq_false c1
        simp only [ed] at HLu
        subst hst
        clear hp x1 x2 hpv HC z1 z2
        go_wp2_with (go_at_call 43; (with_reducible refine (HLu.out _).mono ?_); rintro e W1 ⟨rfl, hW⟩; (rw [hW]); (clear hW))
        go_ret
        exact ⟨rfl, hbA⟩
theorem own_back {W : World} {B c : Nat} {A : Option Addr} {l : List UInt8} (h : W.ownsRow B 5 1 (.slice A l.length c) l.length (bcl l)) : (convert 53 9 (.slice A l.length c)).run Tryd.prog W = .ok (.string ⟨l.toArray⟩) W := by
  rcases Nat.eq_zero_or_pos l.length with h0 | h0
  · obtain rfl := List.eq_nil_of_length_eq_zero h0
    rcases h.2 with ⟨h1, -⟩ | ⟨g, cap, cur, h1, _⟩
    · injection h1 with e1 _ e2
      subst e1 e2
      rw [run_convert_bytes_string W 53 9 5 none [].length _ Tryd.underlying53 Tryd.underlying5 Tryd.underlying9]
      rfl
    · injection h1 with e1 _ e2
      subst e1 e2
      exact row_back (l := []) (fun j c hc => by cases hc)
  · obtain ⟨g, c', hv, _⟩ := World.ownsRow.form h h0
    injection hv with e1 _ e2
    subst e1 e2
    exact row_back (own_brow h)
/-- What Join returns. -/
def joinR (rs : List (Int × Int)) : List UInt8 × Int := if chkG none 65536 rs = 0 then (joinL rs, 0) else ([], chkG none 65536 rs)
/-- What a law examines. -/
def Fits (rs : List (Int × Int)) : Prop := rs.length ≤ 1000 ∧ (∀ p ∈ rs, -9223372036854775808 ≤ p.1 ∧ p.1 ≤ 9223372036854775807 ∧ -9223372036854775808 ≤ p.2 ∧ p.2 ≤ 9223372036854775807) ∧ (chkG none 65536 rs = 0 → Good rs ∧ (joinL rs).length ≤ 100000)
set_option maxRecDepth 100000 in
set_option maxHeartbeats 6400000 in
theorem join_any (rs : List (Int × Int)) (v : Value) (w : World) (hrd : RunsRd w v rs) (hf : Fits rs) :
    Calls Tryd.prog 15 #[v] w (TxOut w (joinR rs)) := by
  obtain ⟨f1, f2, f3⟩ := hf
  have HK := Lib.hid (checkRuns_any rs v w hrd f1 f2)
  have HRD := Lib.hid hrd
  obtain ⟨A, c0, rfl, -⟩ := hrd
  by_cases h0 : chkG none 65536 rs = 0
  · obtain ⟨hg, hj⟩ := f3 h0
    have HX := Lib.hid (show joinR rs = (joinL rs, 0) by unfold joinR; rw [if_pos h0])
    rw [HX.out]
    rw [h0] at HK
    have HT := Lib.hid (fun W h => together_any rs (.slice A rs.length c0) W h hg f1 hj)
    obtain ⟨J, hJ⟩ : ∃ J, joinL rs = J := ⟨_, rfl⟩
    simp only [hJ] at HT
    rw [hJ]
    clear h0 HX hJ hg hj f2 f3
    go_enter Tryd.func15, Tryd.ntmps15
    go_wp2_with (first
      | (go_at_call 39; (with_reducible refine (HK.out).mono ?_); rintro e W1 ⟨rfl, b1⟩)
      | (go_at_call 40; (with_reducible refine (HT.out _ (HRD.out.keep b1)).mono ?_); rintro e W2 ⟨A2, c2, rfl, hown, b2⟩; (have hcv : (convert 53 9 (.slice A2 J.length c2)).run Tryd.prog W2 = .ok (.string ⟨J.toArray⟩) W2 := own_back hown)))
    exact bodyPost_ret (v := .tuple #[.string ⟨J.toArray⟩, .int .i64 0]) (by simp [results, Tryd.results15, go_sem]) rfl ⟨rfl, below_more b1 (Nat.le_refl _) b2⟩
  · obtain ⟨c, hc⟩ : ∃ c, chkG none 65536 rs = c := ⟨_, rfl⟩
    have HX := Lib.hid (show joinR rs = ([], c) by unfold joinR; rw [if_neg h0, hc])
    rw [HX.out]
    rw [hc] at h0 HK
    have h1 : (c == 0) = false := by rw [beq_eq_false_iff_ne]; exact h0
    clear hc h0 f2 f3
    go_enter Tryd.func15, Tryd.ntmps15
    go_wp2_with (go_at_call 39; (with_reducible refine (HK.out).mono ?_); rintro e W1 ⟨rfl, b1⟩)
    exact bodyPost_ret (v := .tuple #[.string ⟨#[]⟩, .int .i64 c]) (by simp [results, Tryd.results15, go_sem]) rfl ⟨rfl, b1⟩
end Go.Proofs.YtokpfbbhkmlclaaDoor
