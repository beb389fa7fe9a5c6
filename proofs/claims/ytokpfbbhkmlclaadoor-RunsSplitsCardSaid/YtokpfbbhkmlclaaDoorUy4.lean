/- What the reference implementation's GreatList and Join return. Condition: those of Join. -/
import Derived.Test.YtokpfbbhkmlclaaDoorUy3
import Derived.Test.YtokpfbbhkmlclaaDoorUo
namespace Go.Proofs.YtokpfbbhkmlclaaDoor
open Go.RowKit
set_option linter.unusedSimpArgs false
set_option linter.unusedVariables false

/-- A list that the laws leave out. -/
def bigRun (p : Int × Int) : Bool := decide (20 < p.2) && decide (p.2 ≤ 65536)
def glist (rs : List (Int × Int)) : Bool := decide (12 < rs.length) || rs.any bigRun
set_option maxRecDepth 100000 in
set_option maxHeartbeats 6400000 in
theorem refGreatList_any (rs : List (Int × Int)) (v : Value) (w : World) (hrd : RunsRd w v rs) (hl : rs.length ≤ 9223372036854775807) :
    Calls Tryd.prog 11 #[v] w fun e w' => e = .returned (.bool (glist rs)) ∧ w' = w := by
  obtain ⟨A, c0, rfl, hr⟩ := hrd
  by_cases h12 : 12 < rs.length
  · have HX := Lib.hid (show glist rs = true by unfold glist; rw [decide_eq_true h12]; rfl)
    have d1 : decide ((12 : Int) < (rs.length : Int)) = true := decide_eq_true (by omega)
    rw [HX.out]
    clear HX hr
    go_enter Tryd.func11, Tryd.ntmps11
    go_wp2
    go_ret
    exact ⟨rfl, rfl⟩
  · have HX := Lib.hid (show glist rs = rs.any bigRun by unfold glist; rw [decide_eq_false h12]; rfl)
    have d1 : decide ((12 : Int) < (rs.length : Int)) = false := decide_eq_false (by omega)
    rw [HX.out]
    have HR := Lib.hid hr
    have HT := Lib.hid (fun (p : Int × Int) (hp : p ∈ rs) (hb : bigRun p = true) => List.any_eq_true.2 ⟨p, hp, hb⟩)
    have HF := Lib.hid (fun (h : ∀ p ∈ rs, bigRun p = false) => show rs.any bigRun = false from List.any_eq_false.2 (fun p hp => by rw [h p hp]; exact Bool.false_ne_true))
    obtain ⟨R, hR⟩ : ∃ R, rs.any bigRun = R := ⟨_, rfl⟩
    rw [hR] at HT HF ⊢
    clear HX hr hR
    go_enter Tryd.func11, Tryd.ntmps11
    go_wp2_with fail
    go_loopg [3] rs.length (fun q s3 wx => wx = w ∧ ∃ i : Nat, i + q = rs.length ∧ s3 = .int .i64 (i : Int) ∧ Hid (∀ p ∈ rs.take i, bigRun p = false))
    case atStart => exact ⟨rfl, 0, by omega, rfl, Lib.hid (fun p hp => by rw [List.take_zero] at hp; cases hp)⟩
    case round =>
      obtain ⟨rfl, i, hin, rfl, HA⟩ := hrel
      rcases gk with _ | q
      · obtain rfl : i = rs.length := by omega
        have h9 := HF.out (by have := HA.out; rwa [List.take_length] at this)
        subst h9
        go_wp2
        go_ret
        exact ⟨rfl, rfl⟩
      · have hil : i < rs.length := by omega
        obtain ⟨p, hp⟩ : ∃ p, rs[i]? = some p := ⟨_, List.getElem?_eq_getElem hil⟩
        obtain ⟨b, o, rfl, x1, x2⟩ := HR.out i p hp
        have hb := HT.out p (List.mem_of_getElem? hp)
        have hnx : bigRun p = false → ∀ p' ∈ rs.take (i + 1), bigRun p' = false := fun h p' hp' => by
          rw [List.take_add_one, hp] at hp'
          rcases List.mem_append.1 hp' with h1 | h1
          · exact HA.out p' h1
          · rw [Option.toList, List.mem_singleton] at h1
            rw [h1]; exact h
        have j2 : (i : Int) < (rs.length : Int) := by omega
        obtain ⟨u, y⟩ := p
        dsimp only at x2
        unfold bigRun at hb hnx
        dsimp only at hb hnx
        clear hp x1
        rcases (show y ≤ 20 ∨ (20 < y ∧ y ≤ 65536) ∨ 65536 < y by omega) with h | ⟨h, h'⟩ | h
        · have e1 : decide (20 < y) = false := decide_eq_false (by omega)
          have HN := Lib.hid (hnx (by rw [e1]; rfl))
          clear hb hnx HA
          go_wp2
          go_roundg q
          case measure => omega
          case rel => exact ⟨rfl, i + 1, by omega, by go_num, HN⟩
        · have e1 : decide (20 < y) = true := decide_eq_true h
          have e2 : decide (y ≤ 65536) = true := decide_eq_true h'
          have hR9 := hb (by rw [e1, e2]; rfl)
          subst hR9
          clear hb hnx HA
          go_wp2
          go_ret
          exact ⟨rfl, rfl⟩
        · have e1 : decide (20 < y) = true := decide_eq_true (by omega)
          have e2 : decide (y ≤ 65536) = false := decide_eq_false (by omega)
          have HN := Lib.hid (hnx (by rw [e1, e2]; rfl))
          clear hb hnx HA
          go_wp2
          go_roundg q
          case measure => omega
          case rel => exact ⟨rfl, i + 1, by omega, by go_num, HN⟩
theorem drew_twice {w W : World} {B : Nat} (h : Below B w W) : Below B w W.drew := h.drew
set_option maxRecDepth 100000 in
set_option maxHeartbeats 12800000 in
theorem refJoin_any (rs : List (Int × Int)) (v : Value) (w : World) (hrd : RunsRd w v rs) (hf : Fits rs) :
    Calls Tryd.prog 16 #[v] w (TxOut w (joinR rs)) := by
  obtain ⟨hl, hI, hgood⟩ := hf
  obtain ⟨A, c0, rfl, hr⟩ := hrd
  have HR := Lib.hid hr
  have HI := Lib.hid hI
  have HGD := Lib.hid hgood
  have HS := Lib.hid (fun i p (h : rs[i]? = some p) left => chkG_step h left)
  have HE := Lib.hid (fun left => chkG_end rs left)
  have HLE := Lib.hid (joinL_le rs)
  have HNX := Lib.hid (fun i p (h : rs[i]? = some p) => joinL_next h)
  obtain ⟨R, hR⟩ : ∃ R, chkG none 65536 rs = R := ⟨_, rfl⟩
  have HR0 := Lib.hid hR
  obtain ⟨X, hX⟩ : ∃ X, joinR rs = X := ⟨_, rfl⟩
  have HXE := Lib.hid (fun c (h : c ≠ 0) (e : c = R) => show X = ([], c) by rw [← hX]; unfold joinR; rw [hR, ← e, if_neg h])
  have HXZ := Lib.hid (fun (e : (0 : Int) = R) => show X = (joinL rs, 0) by rw [← hX]; unfold joinR; rw [hR, ← e, if_pos rfl])
  rw [hX]
  rw [hR] at HGD
  clear hr hI hR hX hgood
  go_enter Tryd.func16, Tryd.ntmps16
  go_wp2_with fail
  go_loopg [4, 5] rs.length (fun q s4 s5 wx => ∃ (i : Nat) (left : Int), i + q = rs.length ∧ s5 = .int .i64 (i : Int) ∧ s4 = .int .i64 left ∧ 0 ≤ left ∧ left ≤ 65536 ∧ Hid (chkG (prevL rs i) left (rs.drop i) = R) ∧ Below w.heap.size w wx)
  case atStart => exact ⟨0, 65536, by omega, rfl, rfl, by omega, by omega, HR0, Below.refl _ _⟩
  case round =>
    obtain ⟨i, left, hin, rfl, rfl, hs0, hs1, HC, hb⟩ := hrel
    rcases gk with _ | q
    · obtain rfl : i = rs.length := by omega
      have hz := HC.out
      rw [HE.out] at hz
      have HX := Lib.hid (HXZ.out hz)
      obtain ⟨hgd, hjl⟩ := HGD.out hz.symm
      have HG := Lib.hid hgd
      obtain ⟨J, hJ⟩ : ∃ J, joinL rs = J := ⟨_, rfl⟩
      have HJ := Lib.hid hJ
      rw [hJ] at HX HLE hjl
      clear hz HC HXE HXZ HGD hgd HS HE HR0 hJ
      go_wp2_with fail
      go_loopg [6, 7] rs.length (fun q s6 s7 wx => ∃ (i : Nat) (U : List UInt8), i + q = rs.length ∧ s7 = .int .i64 (i : Int) ∧ s6 = .string ⟨U.toArray⟩ ∧ Hid (joinL (rs.take i) = U) ∧ Below w.heap.size w wx)
      case atStart => exact ⟨0, [], by omega, rfl, rfl, Lib.hid rfl, hb⟩
      case round =>
        obtain ⟨i, U, hin2, rfl, rfl, HU, hb2⟩ := hrel
        rcases gk with _ | q2
        · obtain rfl : i = rs.length := by omega
          have e : U = J := by rw [← HJ.out, ← HU.out, List.take_length]
          subst e
          clear HU
          go_wp2
          exact bodyPost_ret (v := .tuple #[.string ⟨U.toArray⟩, .int .i64 0]) (by simp [results, Tryd.results16, go_sem]) rfl ⟨by rw [HX.out], hb2⟩
        · have hil : i < rs.length := by omega
          obtain ⟨p, hp⟩ : ∃ p, rs[i]? = some p := ⟨_, List.getElem?_eq_getElem hil⟩
          obtain ⟨b, o, rfl, x1, x2⟩ := HR.out i p hp
          obtain ⟨p1, p2, p3, p4⟩ := HG.out p (List.mem_of_getElem? hp)
          have hnx := HNX.out i p hp
          have hle := HLE.out (i + 1)
          obtain ⟨u, y⟩ := p
          dsimp only at x1 x2 p1 p2 p3 p4 hnx
          obtain ⟨d, rfl⟩ : ∃ d : Nat, u = (d : Int) := ⟨u.toNat, by omega⟩
          obtain ⟨n, rfl⟩ : ∃ n : Nat, y = (n : Int) := ⟨y.toNat, by omega⟩
          rw [Int.toNat_natCast, Int.toNat_natCast, HU.out] at hnx
          rw [hnx, List.length_append, List.length_replicate] at hle
          have HN := Lib.hid hnx
          have HX1 := Lib.hid x1
          have HX2 := Lib.hid x2
          have hcut : ∀ w, (Instr.slice 9 (.string ⟨#[48, 49, 50, 51, 52, 53, 54, 55, 56, 57, 97, 98, 99, 100, 101, 102]⟩) (some (.int .i64 (d : Int))) (some (.int .i64 ((d : Int) + 1))) none).run Tryd.prog w = .ok (.string ⟨[lt d].toArray⟩) w :=
            run_cut_at lets [lt d] d (d + 1) _ _ (by omega) (by omega) (by omega) (by show d + 1 ≤ 16; omega) (by
              have h1 : d < lets.length := by show d < 16; omega
              rw [show d + 1 - d = 1 by omega, List.drop_eq_getElem_cons h1, List.take_succ_cons, List.take_zero, lt_at h1])
          obtain ⟨z, hz⟩ : ∃ z, lt d = z := ⟨_, rfl⟩
          rw [hz] at hcut HN
          have j2 : (i : Int) < (rs.length : Int) := by omega
          clear hp x1 x2 hz hnx
          go_wp2_with fail
          go_loopg [6, 8] n (fun q s6 s8 wx => ∃ k : Nat, k + q = n ∧ s8 = .int .i64 (k : Int) ∧ s6 = .string ⟨(U ++ List.replicate k z).toArray⟩ ∧ Below w.heap.size w wx)
          case atStart => exact ⟨0, by omega, rfl, by rw [List.replicate_zero, List.append_nil], hb2⟩
          case round =>
            obtain ⟨k, hkn, rfl, rfl, hb3⟩ := hrel
            have X2 := cell_keep HX2.out (hb3.mono (Nat.le_refl _))
            have X1 := cell_keep HX1.out (hb3.mono (Nat.le_refl _))
            rcases gk with _ | g3
            · obtain rfl : k = n := by omega
              go_wp2
              go_roundg q2
              case measure => omega
              case rel => exact ⟨i + 1, _, by omega, by go_num, rfl, HN, hb3⟩
            · have hkl : k < n := by omega
              obtain ⟨V, hV⟩ : ∃ V, U ++ List.replicate k z = V := ⟨_, rfl⟩
              have hVl : V.length = U.length + k := by rw [← hV, List.length_append, List.length_replicate]
              obtain ⟨T, hT⟩ : ∃ T, V ++ [z] = T := ⟨_, rfl⟩
              have hs1 : ∀ w, (Op.stringOp .add ⟨V.toArray⟩ ⟨#[z]⟩).run Tryd.prog w = .ok (.string ⟨T.toArray⟩) w := fun w => by
                rw [← hT]; exact run_string_add_lists w V [z] (by omega) (by simp)
              have HTT := Lib.hid (show U ++ List.replicate (k + 1) z = T by rw [List.replicate_succ', ← List.append_assoc, hV, hT])
              rw [hV]
              have Y1 : wr.drew.cell? _ = _ := X1
              have Y2 : wr.drew.cell? _ = _ := X2
              have j3 : (k : Int) < (n : Int) := by omega
              have hb4 := hb3.drew
              clear hV hT
              go_wp2_with fail
              go_big_region
              go_wp2
              go_roundg g3
              case measure => omega
              case rel => exact ⟨k + 1, by omega, by go_num, by rw [HTT.out], hb4⟩
    · have hil : i < rs.length := by omega
      obtain ⟨p, hp⟩ : ∃ p, rs[i]? = some p := ⟨_, List.getElem?_eq_getElem hil⟩
      obtain ⟨b, o, rfl, x1, x2⟩ := HR.out i p hp
      obtain ⟨p1, p2, p3, p4⟩ := HI.out p (List.mem_of_getElem? hp)
      have hst := HC.out
      rw [HS.out i p hp] at hst
      have X1 := cell_keep x1 hb
      have X2 := cell_keep x2 hb
      have j2 : (i : Int) < (rs.length : Int) := by omega
      have hpv : (i = 0 ∧ prevL rs i = none) ∨ ∃ j z, i = j + 1 ∧ prevL rs i = some z ∧ wr.cell? ⟨b, o + j * 2, none⟩ = some (.int .i64 z) := by
        rcases Nat.eq_zero_or_pos i with h | h
        · exact Or.inl ⟨h, by rw [h]; rfl⟩
        · obtain ⟨j, hj⟩ : ∃ j, i = j + 1 := ⟨i - 1, by omega⟩
          obtain ⟨q', hq'⟩ : ∃ p, rs[j]? = some p := ⟨_, List.getElem?_eq_getElem (by omega)⟩
          obtain ⟨b', o', e', y1, -⟩ := HR.out j q' hq'
          injection e' with e'
          injection e' with e1 e2 _
          subst e1 e2
          exact Or.inr ⟨j, q'.1, hj, by rw [hj]; exact prevL_succ hq', cell_keep y1 hb⟩
      obtain ⟨u, y⟩ := p
      dsimp only at X1 X2 p1 p2 p3 p4 hst
      have hbD := hb.drew
      have Z1 : wr.drew.cell? ⟨b, o + i * 2, none⟩ = some (.int .i64 u) := X1
      have Z2 : wr.drew.cell? ⟨b, o + i * 2 + 1, none⟩ = some (.int .i64 y) := X2
      by_cases c1 : 0 ≤ u ∧ u < 16
      · rw [if_neg (by omega)] at hst
        have d8 : decide (u < 0) = false := decide_eq_false (by omega)
        have d9 : decide (15 < u) = false := decide_eq_false (by omega)
        by_cases c2 : y < 1
        · rw [if_pos c2] at hst
          have d1 : decide (y < 1) = true := decide_eq_true c2
          have HX := Lib.hid (HXE.out 2 (by decide) hst)
          clear hp x1 x2 hpv HC hst HXE
          go_wp2
          exact bodyPost_ret (v := .tuple #[.string ⟨#[]⟩, .int .i64 2]) (by simp [results, Tryd.results16, go_sem]) rfl ⟨by rw [HX.out], hb⟩
        · rw [if_neg c2] at hst
          have d1 : decide (y < 1) = false := decide_eq_false c2
          rcases hpv with ⟨hi0, hp0⟩ | ⟨j, z, hij, hpz, y1⟩
          · have d3 : decide ((0 : Int) < (i : Int)) = false := decide_eq_false (by omega)
            have d5 : decide (0 < i) = false := decide_eq_false (by omega)
            have d6 : (0 < i) = False := eq_false (by omega)
            rw [hp0, if_neg (by intro h; cases h)] at hst
            clear hi0 hp0 hp x1 x2
            by_cases c4 : left < y
            · rw [if_pos c4] at hst
              have d4 : decide (left < y) = true := decide_eq_true c4
              have HX := Lib.hid (HXE.out 4 (by decide) hst)
              clear HC hst HXE
              go_wp2_with fail
              go_big_region
              go_wp2
              exact bodyPost_ret (v := .tuple #[.string ⟨#[]⟩, .int .i64 4]) (by simp [results, Tryd.results16, go_sem]) rfl ⟨by rw [HX.out], hbD⟩
            · rw [if_neg c4] at hst
              have d4 : decide (left < y) = false := decide_eq_false c4
              have HC2 := Lib.hid hst
              clear hst HC
              go_wp2_with fail
              go_big_region
              go_wp2
              go_roundg q
              case measure => omega
              case rel => exact ⟨i + 1, left - y, by omega, by go_num, by go_num, by omega, by omega, HC2, hbD⟩
          · have d3 : decide ((0 : Int) < (i : Int)) = true := decide_eq_true (by omega)
            have d5 : decide (0 < i) = true := decide_eq_true (by omega)
            have d6 : 0 < i := by omega
            have hj : (i : Int) - 1 = (j : Int) := by omega
            have j5 : (j : Int) < (rs.length : Int) := by omega
            have Y1 : wr.drew.cell? ⟨b, o + j * 2, none⟩ = some (.int .i64 z) := y1
            by_cases c3 : z = u
            · subst c3
              rw [hpz, if_pos rfl] at hst
              have e3 : (z == z) = true := by simp
              have HX := Lib.hid (HXE.out 11 (by decide) hst)
              clear hij hpz hp x1 x2 HC y1 hst HXE
              go_wp2_with fail
              go_big_region
              go_wp2
              exact bodyPost_ret (v := .tuple #[.string ⟨#[]⟩, .int .i64 11]) (by simp [results, Tryd.results16, go_sem]) rfl ⟨by rw [HX.out], hbD⟩
            · rw [hpz, if_neg (by intro h; injection h with h; exact c3 h)] at hst
              have e3 : (u == z) = false := by rw [beq_eq_false_iff_ne]; exact fun h => c3 h.symm
              clear hij hpz hp x1 x2 y1
              by_cases c4 : left < y
              · rw [if_pos c4] at hst
                have d4 : decide (left < y) = true := decide_eq_true c4
                have HX := Lib.hid (HXE.out 4 (by decide) hst)
                clear HC hst HXE
                go_wp2_with fail
                go_big_region
                go_wp2
                exact bodyPost_ret (v := .tuple #[.string ⟨#[]⟩, .int .i64 4]) (by simp [results, Tryd.results16, go_sem]) rfl ⟨by rw [HX.out], hbD⟩
              · rw [if_neg c4] at hst
                have d4 : decide (left < y) = false := decide_eq_false c4
                have HC2 := Lib.hid hst
                clear hst HC
                go_wp2_with fail
                go_big_region
                go_wp2
                go_roundg q
                case measure => omega
                case rel => exact ⟨i + 1, left - y, by omega, by go_num, by go_num, by omega, by omega, HC2, hbD⟩
      · rw [if_pos (by omega)] at hst
        have HX := Lib.hid (HXE.out 13 (by decide) hst)
        clear hp x1 x2 hpv HC hst HXE
        rcases (show u < 0 ∨ 15 < u by omega) with c | c
        · have d8 : decide (u < 0) = true := decide_eq_true c
          go_wp2
          exact bodyPost_ret (v := .tuple #[.string ⟨#[]⟩, .int .i64 13]) (by simp [results, Tryd.results16, go_sem]) rfl ⟨by rw [HX.out], hb⟩
        · have d8 : decide (u < 0) = false := decide_eq_false (by omega)
          have d9 : decide (15 < u) = true := decide_eq_true c
          go_wp2
          exact bodyPost_ret (v := .tuple #[.string ⟨#[]⟩, .int .i64 13]) (by simp [results, Tryd.results16, go_sem]) rfl ⟨by rw [HX.out], hb⟩
end Go.Proofs.YtokpfbbhkmlclaaDoor
