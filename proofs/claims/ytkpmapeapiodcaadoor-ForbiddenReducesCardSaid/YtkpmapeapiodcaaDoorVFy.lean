/- ForbiddenReduces returns true for every input. Conditions: the words can be read; lengths are those of strings and slices; the library's MaxLen is there. Lists of words among a law's arguments, opened; the library's MaxLen in a world of the program's shape. No condition. ForbiddenReduces returns true for every input: the law's row, and its card, tied to the program's text. Conditions: those of the row: its tables read as listed (the card ties them to the program's text). -/
import Derived.Test.YtkpmapeapiodcaaDoorQ15
import Derived.SliceStrings
import Derived.ChangeSlices
import Derived.Carry

namespace Go.Proofs.YtkpmapeapiodcaaDoor
open Go.RowKit Go.Shelf
set_option linter.unusedSimpArgs false
set_option linter.unusedVariables false

theorem clF_asc {q : Int} {o : Bool} : ∀ {r : List Wd} {p : Option Wd}, (∀ x ∈ r, cwW q x = 0) → r.Pairwise ltW → (∀ y, p = some y → ∀ x ∈ r, ltW y x) → clF q o p r = 0
  | [], _, _, _, _ => by unfold clF; rfl
  | x :: r, p, h, hp, hy => by
    rw [clF_step (h x (by simp)) (fun _ y e => cmpW_neg.2 (hy y e x (by simp)))]
    exact clF_asc (fun z hz => h z (by simp [hz])) (List.pairwise_cons.1 hp).2 (fun y e z hz => by injection e with e; subst e; exact (List.pairwise_cons.1 hp).1 z hz)
theorem RedW.nodup {l r : List Wd} (h : RedW l r) : r.Nodup := h.1.imp (fun {a b} hab e => by subst e; exact ltW_irr _ hab)
theorem clW_red {q : Int} {l r : List Wd} (hz : clW q false l = 0) (h : RedW l r) (o : Bool) : clW q o r = 0 := by
  obtain ⟨hq, hl, -, hf⟩ := clW_ok hz
  have hn := nodup_leF h.nodup (fun x hx => h.sub hx)
  unfold clW
  rw [if_pos hq, if_neg (by omega)]
  exact clF_asc (fun x hx => clF_words hf x (h.sub hx)) h.1 (fun y e => by cases e)
theorem asc_ne {r : List Wd} (h : r.Pairwise ltW) {i j : Nat} {u v : Wd} (hi : r[i]? = some u) (hj : r[j]? = some v) (hne : i ≠ j) : v ≠ u := by
  obtain ⟨h1, e1⟩ := List.getElem?_eq_some_iff.1 hi
  obtain ⟨h2, e2⟩ := List.getElem?_eq_some_iff.1 hj
  intro e
  rcases Nat.lt_or_gt_of_ne hne with hlt | hlt
  · have k := List.pairwise_iff_getElem.1 h i j h1 h2 hlt
    rw [e1, e2, e] at k
    exact ltW_irr _ k
  · have k := List.pairwise_iff_getElem.1 h j i h2 h1 hlt
    rw [e1, e2, e] at k
    exact ltW_irr _ k
theorem alwB_any (l : List Wd) (x : Wd) : alwB l x = !(l.any (facB x)) := by
  unfold alwB
  rw [List.not_any_eq_all_not]
/-- The word's variable. -/
def XB (w : World) (x : Wd) (W : World) : Prop := W.cell? ⟨w.heap.size, 0, none⟩ = some (.string ⟨x.toArray⟩) ∧ Below w.heap.size w W ∧ MX W
theorem XB.start (w : World) (x : Wd) (hm : MX w) (t : TypeId) : XB w x (w.alloc (.cells #[.string ⟨x.toArray⟩] t)) := ⟨cell_one_new w _ t 0 _ rfl, below1 w _, hm.keep (below1 w _)⟩
theorem XB.keep {w W W' : World} {x : Wd} (h : XB w x W) (hb : Below W.heap.size W W') : XB w x W' := ⟨cell_keep h.1 hb, h.2.1.trans (hb.mono h.2.1.size), h.2.2.keep hb⟩
theorem XB.bel {w W : World} {x : Wd} (h : XB w x W) : Below w.heap.size w W := h.2.1
theorem XB.mx {w W : World} {x : Wd} (h : XB w x W) : MX W := h.2.2
theorem XB.cell {w W : World} {x : Wd} (h : XB w x W) : W.cell? ⟨w.heap.size, 0, none⟩ = some (.string ⟨x.toArray⟩) := h.1
set_option maxRecDepth 100000 in
set_option maxHeartbeats 6400000 in
theorem forbReduces_great (q : Int) (l : List Wd) (x : Wd) (v : Value) (w : World) (hrd : WdsRd w v l) (hl : l.length ≤ 9223372036854775807) (hls : ∀ x ∈ l, x.length ≤ 9223372036854775807) (hx : x.length ≤ 9223372036854775807) (hm : MX w) (h : rgr l = true ∨ 40 < x.length) :
    Calls Tryd.prog 4 #[.int .i64 q, v, .string ⟨x.toArray⟩] w fun e w' => e = .returned (.bool true) ∧ Below w.heap.size w w' := by
  have X0 := Lib.hid (XB.start w x hm 9)
  have HG := Lib.hid (rgreat14_any l v _ (hrd.keep X0.out.bel) hl hls)
  obtain ⟨a, c, rfl⟩ := hrd.form
  obtain ⟨R, hR⟩ : ∃ R, rgr l = R := ⟨_, rfl⟩
  rw [hR] at HG h
  obtain ⟨L, hL⟩ : ∃ L, x.length = L := ⟨_, rfl⟩
  have hsz : (⟨x.toArray⟩ : ByteArray).size = L := by rw [← hL]; simp [ByteArray.size]
  rw [hL] at hx h
  have x1 := X0.out.cell
  clear hrd hR hL hls
  cases R with
  | true =>
    clear h
    go_enter Tryd.func4, Tryd.ntmps4
    go_wp2_with (first
      | (go_at_call 5; (with_reducible refine HG.out.mono ?_); rintro e W1 ⟨rfl, hw⟩; (try subst hw))
      | (go_at_call 6; (with_reducible refine (awakeF_any _).mono ?_); rintro e W8 ⟨rfl, b8⟩; (have X8 := Lib.hid (X0.out.keep b8)); clear b8))
    go_ret
    exact ⟨rfl, X8.out.bel⟩
  | false =>
    have d1 : 40 < (L : Int) := by rcases h with h | h; cases h; omega
    clear h
    go_enter Tryd.func4, Tryd.ntmps4
    go_wp2_with (first
      | (go_at_call 5; (with_reducible refine HG.out.mono ?_); rintro e W1 ⟨rfl, hw⟩; (try subst hw))
      | (go_at_call 6; (with_reducible refine (awakeF_any _).mono ?_); rintro e W8 ⟨rfl, b8⟩; (have X8 := Lib.hid (X0.out.keep b8)); clear b8))
    go_ret
    exact ⟨rfl, X8.out.bel⟩
set_option maxRecDepth 100000 in
set_option maxHeartbeats 6400000 in
theorem forbReduces_bad (q : Int) (l : List Wd) (x : Wd) (v : Value) (w : World) (hrd : WdsRd w v l) (hl : l.length ≤ 67) (hls : ∀ x ∈ l, x.length ≤ 35) (hx : x.length ≤ 40) (hm : MX w) (h : rgr l = false) (hz : clW q false l ≠ 0) :
    Calls Tryd.prog 4 #[.int .i64 q, v, .string ⟨x.toArray⟩] w fun e w' => e = .returned (.bool true) ∧ Below w.heap.size w w' := by
  have X0 := Lib.hid (XB.start w x hm 9)
  have HG := Lib.hid (rgreat14_any l v _ (hrd.keep X0.out.bel) (by omega) (fun y hy => by have := hls y hy; omega))
  rw [h] at HG
  have HN := Lib.hid (reduce_no q l v _ (hrd.keep X0.out.bel) (by omega) (fun y hy => by have := hls y hy; omega) hz)
  obtain ⟨a, c, rfl⟩ := hrd.form
  obtain ⟨z, hzz⟩ : ∃ z, clW q false l = z := ⟨_, rfl⟩
  rw [hzz] at hz HN
  have hb : (z == 0) = false := by rw [beq_eq_false_iff_ne]; exact hz
  obtain ⟨L, hL⟩ : ∃ L, x.length = L := ⟨_, rfl⟩
  have hsz : (⟨x.toArray⟩ : ByteArray).size = L := by rw [← hL]; simp [ByteArray.size]
  rw [hL] at hx
  have x1 := X0.out.cell
  have d1 : ¬ 40 < (L : Int) := by omega
  clear hrd h hL hls hzz
  go_enter Tryd.func4, Tryd.ntmps4
  go_wp2_with (first
    | (go_at_call 5; (with_reducible refine HG.out.mono ?_); rintro e W1 ⟨rfl, hw⟩; (try subst hw))
    | (go_at_call 7; (with_reducible refine HN.out.mono ?_); rintro e W2 ⟨rfl, b2⟩; (have X2 := Lib.hid (X0.out.keep b2)); clear b2)
    | (go_at_call 6; (with_reducible refine (awakeF_any _).mono ?_); rintro e W8 ⟨rfl, b8⟩; (have X8 := Lib.hid (X2.out.keep b8)); clear b8))
  go_ret
  exact ⟨rfl, X8.out.bel⟩
set_option maxRecDepth 100000 in
set_option maxHeartbeats 12800000 in
theorem forbReduces_good (q : Int) (l : List Wd) (x : Wd) (v : Value) (w : World) (hrd : WdsRd w v l) (hx : x.length ≤ 40) (hm : MX w) (h : rgr l = false) (hz : clW q false l = 0) :
    Calls Tryd.prog 4 #[.int .i64 q, v, .string ⟨x.toArray⟩] w fun e w' => e = .returned (.bool true) ∧ Below w.heap.size w w' := by
  obtain ⟨-, hl64, hls, -⟩ := clW_ok hz
  have X0 := Lib.hid (XB.start w x hm 9)
  have HLS := Lib.hid hls
  have HG := Lib.hid (rgreat14_any l v _ (hrd.keep X0.out.bel) (by omega) (fun y hy => by have := (hls y hy).2; omega))
  rw [h] at HG
  have HY := Lib.hid (reduce_yes q l v _ (hrd.keep X0.out.bel) hz)
  have HRD := Lib.hid hrd
  have HZ := Lib.hid hz
  obtain ⟨a, c, rfl⟩ := hrd.form
  obtain ⟨L, hL⟩ : ∃ L, x.length = L := ⟨_, rfl⟩
  have hsz : (⟨x.toArray⟩ : ByteArray).size = L := by rw [← hL]; simp [ByteArray.size]
  have HLL := Lib.hid hL
  rw [hL] at hx
  have x1 := X0.out.cell
  have d1 : ¬ 40 < (L : Int) := by omega
  clear hrd h hL hls hz
  go_enter Tryd.func4, Tryd.ntmps4
  go_upto_region 6 with (first
    | (go_at_call 5; (with_reducible refine HG.out.mono ?_); rintro e W1 ⟨rfl, hw⟩; (try subst hw))
    | (go_at_call 7; (with_reducible refine HY.out.mono ?_); rintro e W2 ⟨u, r, rfl, i2, hr, b2⟩; (have X2 := Lib.hid (X0.out.keep b2)); (have I2 := Lib.hid i2.rd); (have HR := Lib.hid hr); clear b2 i2 hr))
  have hn := nodup_leF HR.out.nodup (fun y hy => HR.out.sub hy)
  have HC := Lib.hid (clW_red HZ.out HR.out)
  have HR2 := Lib.hid (reduce_yes q r u W2 I2.out (HC.out false))
  have HEQ := Lib.hid (fun W v1 (h1 : WdsRd W v1 r) (h2 : WdsRd W u r) => eqW_any r r v1 u W h1 h2 (by omega) (by omega))
  have HCK := Lib.hid (fun W (h1 : WdsRd W u r) => by have k := checkF_any q r u W h1 (by omega) (fun y hy => by have := (HLS.out y (HR.out.sub hy)).2; omega); rw [HC.out true] at k; exact k)
  obtain ⟨a2, c2, rfl⟩ := I2.out.form
  rw [decide_eq_true (show r = r from rfl)] at HEQ
  obtain ⟨n, hn2⟩ : ∃ n, r.length = n := ⟨_, rfl⟩
  have HN := Lib.hid hn2
  rw [hn2] at hn HEQ HCK HR2 I2 ⊢
  clear hn2
  clear x1
  go_upto_region 9 with (first
    | (go_at_call 7; (with_reducible refine HR2.out.mono ?_); rintro e W3 ⟨u3, r3, rfl, i3, hr3, b3⟩; (obtain rfl := HR.out.again.uniq hr3); (obtain ⟨a3, c3, rfl⟩ := i3.slice); (have X3 := Lib.hid (X2.out.keep b3)); (have J3 := Lib.hid i3.rd); (have I3 := Lib.hid (I2.out.keep b3)); clear b3 i3 hr3)
    | (go_at_call 13; (with_reducible refine (HEQ.out _ _ J3.out I3.out).mono ?_); rintro e W4 ⟨rfl, b4⟩; (have X4 := Lib.hid (X3.out.keep b4)); (have I4 := Lib.hid (I3.out.keep b4)); clear b4)
    | (go_at_call 11; (with_reducible refine (HCK.out _ I4.out).mono ?_); rintro e W5 ⟨rfl, b5⟩; (have X5 := Lib.hid (X4.out.keep b5)); (have I5 := Lib.hid (I4.out.keep b5)); clear b5))
  clear X0 X2 X3 X4 I2 I3 I4 J3 HG HY HR2 HEQ HCK hsz
  have R5 := Lib.hid (show WdsRd W5 (.slice a2 r.length c2) r by rw [HN.out]; exact I5.out)
  go_wp2_with fail
  go_loopg [11, 12, 13, 14, 64] n (fun g s11 s12 s13 s14 s64 wx => ∃ i : Nat, i + g = n ∧ s64 = .int .i64 (i : Int) ∧ wx = W5)
  case atStart => exact ⟨0, by omega, rfl, rfl⟩
  case round =>
    obtain ⟨i, hi, rfl, rfl⟩ := hrel
    rcases gk with _ | g
    · obtain rfl : i = n := by omega
      have j0 : ¬ ((i : Int) < (i : Int)) := by omega
      go_upto_region 21 with fail
      obtain ⟨W9, rfl⟩ : ∃ W9, W9 = wr := ⟨_, rfl⟩
      obtain ⟨m, hm2⟩ : ∃ m, l.length = m := ⟨_, rfl⟩
      have HM := Lib.hid hm2
      rw [hm2] at hl64 HRD hn ⊢
      clear hm2
      go_wp2_with fail
      go_loopg [16, 92] m (fun g s16 s92 wx => ∃ k : Nat, k + g = m ∧ s92 = .int .i64 (k : Int) ∧ Hid (Below W9.heap.size W9 wx))
      case atStart => exact ⟨0, by omega, rfl, Lib.hid (Below.refl _ _)⟩
      case round =>
        obtain ⟨k, hk, rfl, HB⟩ := hrel
        obtain ⟨X, rfl⟩ : ∃ X, X = wr := ⟨_, rfl⟩
        have X6 := Lib.hid (X5.out.keep HB.out)
        rcases gk with _ | g
        · obtain rfl : k = m := by omega
          have j3 : ¬ ((k : Int) < (k : Int)) := by omega
          have R6 := Lib.hid (R5.out.keep HB.out)
          have HWC := Lib.hid (fun W => wcheck_any q x W (by rw [HLL.out]; omega))
          have HAW := Lib.hid (fun W => awakeF_any W)
          have x1 := X6.out.cell
          have HRC := Lib.hid (HC.out true)
          have HMM := Lib.hid (HR.out.allows x)
          have hml : ∀ z ∈ r, z.length ≤ 9223372036854775807 := fun z hz => by have := (HLS.out z (HR.out.sub hz)).2; omega
          by_cases h0 : chk q x = 0
          · have HAL := Lib.hid (fun W (hr6 : WdsRd W (.slice a2 r.length c2) r) => allowed_any q r x _ W hr6 (by rw [HN.out]; omega) hml (by rw [HLL.out]; omega) HRC.out h0)
            have HAN := Lib.hid (fun W (hb : Below w.heap.size w W) (hmx : MX W) (hc : W.cell? ⟨w.heap.size, 0, none⟩ = some (.string ⟨x.toArray⟩)) => any2_any l x w.heap.size (.slice a k c) W (HRD.out.keep hb) (by rw [HM.out]; omega) hmx (by rw [HLL.out]; omega) hc)
            rw [h0] at HWC
            obtain ⟨M, hM⟩ : ∃ M, l.any (facB x) = M := ⟨_, rfl⟩
            rw [HMM.out, alwB_any, hM] at HAL
            rw [hM] at HAN
            rw [HN.out] at HAL R6
            clear hM h0 hml HMM
            cases M
            all_goals go_wp2_with (first
              | (go_at_call 20; (with_reducible refine (HWC.out _).mono ?_); rintro e W11 ⟨rfl, b11⟩; (have X7 := Lib.hid (X6.out.keep b11)); (have R7 := Lib.hid (R6.out.keep b11)); (have x2 := X7.out.cell); clear b11)
              | (go_at_call 9; (with_reducible refine (HAL.out _ R7.out).mono ?_); rintro e W12 ⟨rfl, b12⟩; (have X8 := Lib.hid (X7.out.keep b12)); clear b12)
              | (go_at_call 18; (with_reducible refine (HAN.out _ X8.out.bel X8.out.mx X8.out.cell).mono ?_); rintro e W13 ⟨rfl, hw⟩; (try subst hw))
              | (go_at_call 6; (with_reducible refine (HAW.out _).mono ?_); rintro e W14 ⟨rfl, b14⟩; (have X9 := Lib.hid (X8.out.keep b14)); clear b14))
            all_goals go_ret
            all_goals exact ⟨rfl, X9.out.bel⟩
          · obtain ⟨z, hz⟩ : ∃ z, chk q x = z := ⟨_, rfl⟩
            rw [hz] at HWC h0
            have hb : (z == 0) = false := by rw [beq_eq_false_iff_ne]; exact h0
            clear hz hml
            go_wp2_with (first
              | (go_at_call 20; (with_reducible refine (HWC.out _).mono ?_); rintro e W11 ⟨rfl, b11⟩; (have X7 := Lib.hid (X6.out.keep b11)); clear b11)
              | (go_at_call 6; (with_reducible refine (HAW.out _).mono ?_); rintro e W14 ⟨rfl, b14⟩; (have X9 := Lib.hid (X7.out.keep b14)); clear b14))
            go_ret
            exact ⟨rfl, X9.out.bel⟩
        · obtain ⟨y, hy⟩ : ∃ y, l[k]? = some y := ⟨_, List.getElem?_eq_getElem (by rw [HM.out]; omega)⟩
          have hyl := List.mem_of_getElem? hy
          have hy32 := (HLS.out y hyl).2
          have hrd := (by rw [HM.out]; exact HRD.out : WdsRd w (.slice a l.length c) l).keep X6.out.bel
          obtain ⟨b, off, c', hv, k1⟩ := hrd.at hy
          injection hv with e1 e2 e3
          subst e1
          subst e3
          have j3 : (k : Int) < (m : Int) := by omega
          have bX := below1 X (.cells #[.string ⟨y.toArray⟩] 9)
          have HA := Lib.hid (any1_any r y X.heap.size _ _ ((R5.out.keep HB.out).keep bX) (by rw [HN.out]; omega) (X6.out.mx.keep bX) (by omega) (cell_one_new X _ _ 0 _ rfl))
          rw [HN.out, show r.any (facB y) = true from by
            obtain ⟨z, hz, hf⟩ := HR.out.has y.length y (Nat.le_refl _) hyl
            exact List.any_eq_true.2 ⟨z, hz, facB_iff.2 hf⟩] at HA
          have HB2 := Lib.hid (below_more HB.out (Nat.le_refl _) bX)
          clear hy e2 hyl hrd bX
          go_wp2_with (go_at_call 18; (with_reducible refine HA.out.mono ?_); rintro e W10 ⟨rfl, hw⟩; (try subst hw))
          go_roundg g
          case measure => omega
          case rel => exact ⟨k + 1, by omega, by go_num, HB2⟩
    · obtain ⟨y, hy⟩ : ∃ y, r[i]? = some y := ⟨_, List.getElem?_eq_getElem (by rw [HN.out]; omega)⟩
      have hyl := HR.out.sub (List.mem_of_getElem? hy)
      have hy32 := (HLS.out y hyl).2
      obtain ⟨b, off, c', hv, k1⟩ := R5.out.at hy
      injection hv with e1 e2 e3
      subst e1
      subst e3
      have j1 : (i : Int) < (n : Int) := by omega
      have HHA := Lib.hid (has_any l y (.slice a l.length c) wr (HRD.out.keep X5.out.bel) (by omega))
      rw [decide_eq_true hyl] at HHA
      have HIJ := Lib.hid (fun (j : Nat) (z : Wd) (hz : r[j]? = some z) (hne : i ≠ j) => show facB y z = false from facB_no.2 (fun hf => asc_ne HR.out.1 hy hz hne (HR.out.free (List.mem_of_getElem? hy) (List.mem_of_getElem? hz) hf)))
      have HCO := Lib.hid (fun z => contains_any y z wr X5.out.mx (by omega))
      clear hy e2 hyl
      obtain ⟨P, hP⟩ : ∃ P, off + i = P := ⟨_, rfl⟩
      rw [hP] at k1
      have HP := Lib.hid hP
      go_upto_region 14 with (go_at_call 16; (with_reducible refine HHA.out.mono ?_); rintro e W6 ⟨rfl, hw⟩; (try subst hw))
      go_wp2_with fail
      go_loopg [13, 14, 75] n (fun g2 s13 s14 s75 wx => ∃ j : Nat, j + g2 = n ∧ s75 = .int .i64 (j : Int) ∧ wx = W6)
      case atStart => exact ⟨0, by omega, rfl, rfl⟩
      case round =>
        obtain ⟨j, hj, rfl, rfl⟩ := hrel
        rcases gk with _ | g2
        · obtain rfl : j = n := by omega
          have j2 : ¬ ((j : Int) < (j : Int)) := by omega
          go_wp2_with fail
          go_roundg g
          case measure => omega
          case rel => exact ⟨i + 1, by omega, by go_num, rfl⟩
        · obtain ⟨z, hz⟩ : ∃ z, r[j]? = some z := ⟨_, List.getElem?_eq_getElem (by rw [HN.out]; omega)⟩
          obtain ⟨b2, off2, c3', hv, k2⟩ := R5.out.at hz
          injection hv with e1 e2 e3
          injection e1 with e1
          injection e1 with e1 e4
          subst e1
          subst e4
          subst e3
          have j3 : (j : Int) < (n : Int) := by omega
          by_cases hij : i = j
          · subst hij
            clear hz e2
            go_wp2_with fail
            go_roundg g2
            case measure => omega
            case rel => exact ⟨i + 1, by omega, by go_num, rfl⟩
          · have d5 : ((i : Int) == (j : Int)) = false := by rw [beq_eq_false_iff_ne]; omega
            have HK := Lib.hid (HCO.out z)
            rw [HIJ.out j z hz hij] at HK
            clear hz e2
            go_wp2_with (go_at_call 17; (with_reducible refine HK.out.mono ?_); rintro e W7 ⟨rfl, hw⟩; (try subst hw))
            go_roundg g2
            case measure => omega
            case rel => exact ⟨j + 1, by omega, by go_num, rfl⟩
set_option maxRecDepth 100000 in
theorem forbReduces_any (q : Int) (l : List Wd) (x : Wd) (v : Value) (w : World) (hrd : WdsRd w v l) (hl : l.length ≤ 9223372036854775807) (hls : ∀ x ∈ l, x.length ≤ 9223372036854775807) (hx : x.length ≤ 9223372036854775807) (hm : MX w) :
    Calls Tryd.prog 4 #[.int .i64 q, v, .string ⟨x.toArray⟩] w fun e w' => e = .returned (.bool true) ∧ Below w.heap.size w w' := by
  by_cases hg : rgr l = true ∨ 40 < x.length
  · exact forbReduces_great q l x v w hrd hl hls hx hm hg
  · have h1 : rgr l = false := by
      cases h : rgr l with
      | true => exact absurd (.inl h) hg
      | false => rfl
    have h2 : x.length ≤ 40 := by
      rcases Nat.lt_or_ge 40 x.length with h | h
      · exact absurd (.inr h) hg
      · exact h
    obtain ⟨h3, h4⟩ := rgr_small h1
    by_cases hz : clW q false l = 0
    · exact forbReduces_good q l x v w hrd h2 hm h1 hz
    · exact forbReduces_bad q l x v w hrd h3 h4 h2 hm h1 hz
end Go.Proofs.YtkpmapeapiodcaaDoor

namespace Go.Proofs.YtkpmapeapiodcaaDoor
open Go.ChangeShapes Go.WideShapes Go.ChangeAt Go.RowKit Go.Deep
set_option maxRecDepth 100000

theorem Tryd.laidOutF : laidOutB Tryd.prog = true := by kernel_rfl
theorem cellSF : Tryd.prog.cellsOf 9 = 1 := by kernel_rfl
theorem words_open {H : Type} {enc : TypeId × Value → H} {W : World} {v : Value} {d : DataW H} {p : List MemPlace} (hv : Value.okWide Tryd.prog W .any 0 22 v)
    (h : DataW.Trod enc Tryd.prog W 0 (fun _ => true) true 22 v d p) : ∃ l, WdsRd W v l ∧ l.length ≤ 9223372036854775807 ∧ ∀ x ∈ l, x.length ≤ 9223372036854775807 := by
  obtain ⟨a0, len0, cap0, rfl⟩ := okWide_slice Tryd.underlying22 hv
  obtain ⟨fuel, hf⟩ := h
  rcases open_strings Tryd.underlying22 Tryd.underlying9 cellSF hf with ⟨hc, -⟩ | ⟨a, len, cap, ss, hc, -, hl, hm, hz, -, hall, hss⟩
  · simp [Value.cells] at hc
    obtain ⟨rfl, rfl, rfl⟩ := hc
    exact ⟨[], ⟨none, 0, rfl, fun i x hx => by cases hx⟩, Nat.zero_le _, by simp⟩
  · simp [Value.cells] at hc
    obtain ⟨rfl, rfl, rfl⟩ := hc
    simp only [if_true] at hz
    have hcap : cap0 ≤ 9223372036854775807 := by unfold maxLen at hm; exact hm
    have hlt : ((ss.take len0).map fun s => s.data.toList).length = len0 := by rw [List.length_map, List.length_take]; omega
    refine ⟨(ss.take len0).map fun s => s.data.toList, ⟨some a, cap0, by rw [hlt], fun i x hx => ?_⟩, by rw [hlt]; omega, fun x hx => ?_⟩
    · have hi : i < len0 := by
        have := (List.getElem?_eq_some_iff.1 hx).1
        rwa [hlt] at this
      rw [List.getElem?_map, List.getElem?_take_of_lt hi] at hx
      have hsp := World.cell?_spot (hall 0 (by omega))
      obtain ⟨ab, ao, sp⟩ := a
      obtain rfl : sp = none := by simpa [Addr.add] using hsp
      have h1 := hall i (by omega)
      rw [show (⟨ab, ao, none⟩ : Addr).add i = ⟨ab, ao + i, none⟩ from Go.WideShapes.add_plain ab ao i] at h1
      refine ⟨ab, ao, rfl, ?_⟩
      rw [h1, List.getD_eq_getElem?_getD]
      obtain ⟨s, hs, rfl⟩ := Option.map_eq_some_iff.1 hx
      rw [hs]
      rfl
    · obtain ⟨s, hs, rfl⟩ := List.mem_map.1 hx
      have h1 := hss s (List.mem_of_mem_take hs)
      unfold maxLen at h1
      have h2 : s.data.toList.length = s.size := by rw [Array.length_toList]; rfl
      rw [h2]
      exact h1
theorem words_keep {H : Type} {enc : TypeId × Value → H} {W W' : World} {v : Value} {d : DataW H} {p : List MemPlace} (h : DataW.Trod enc Tryd.prog W 0 (fun _ => true) true 22 v d p) (hb : Below W.heap.size W W') (hlt : ∀ x ∈ p, x.block < W.heap.size) :
    DataW.Trod enc Tryd.prog W' 0 (fun b => decide (b < W.heap.size)) true 22 v d p :=
  Below.trod Tryd.laidOutF (by kernel_rfl) (of_decide_eq_true (by kernel_rfl)) h hb hlt
theorem mx_shaped {W : World} (hS : W.ShapedOpen Tryd.prog) : MX W := by
  unfold MX
  obtain ⟨cs, hh, hs, hr⟩ := hS.1 0 #[.int .i64 0] 3 (of_decide_eq_true (by kernel_rfl)) (by kernel_rfl)
  obtain ⟨ts, hts, _, hall⟩ := hr (by kernel_rfl)
  rw [show Tryd.prog.cellTypes Tryd.prog.depth 3 = some [3] by kernel_rfl] at hts
  cases hts
  have h1 : 0 < cs.size := by rw [hs]; exact Nat.zero_lt_one
  clear hs hr hS
  obtain ⟨u, hu', hok⟩ := hall 0 cs[0] (Array.getElem?_eq_getElem h1)
  have hu : u = 3 := by
    have h2 : (some 3 : Option TypeId) = some u := hu'
    exact (Option.some.inj h2).symm
  subst hu
  have hcell : W.cell? ⟨0, 0, none⟩ = some cs[0] := by
    unfold World.cell?
    dsimp only
    rw [hh]
    exact Array.getElem?_eq_getElem h1
  rw [hcell]
  clear hall hh hcell hu'
  generalize cs[0] = v at hok
  unfold Cell.ok at hok
  rw [Tryd.underlying3] at hok
  cases v <;> first | (simp at hok; obtain ⟨rfl, _⟩ := hok; exact ⟨_, rfl⟩) | simp at hok
end Go.Proofs.YtkpmapeapiodcaaDoor

namespace Go.Proofs.YtkpmapeapiodcaaDoor.forbiddenReduces
open Go.ChangeShapes Go.WideShapes Go.ChangeAt Go.RowKit
open Go.ChangeMaps (open_string shut_string)
set_option maxRecDepth 100000
set_option linter.unusedVariables false

theorem contract (H : Type) (enc : TypeId × Value → H) (W : World) (args : Array Value) (ds gs : List (DataW H)) (before : List MemPlace)
    (hval : ∀ (j : Nat) t v, Tryd.f4.params[j]? = some t → args[j]? = some v → Value.okWide Tryd.prog W .any 0 t v)
    (hW : DataW.Whole enc Tryd.prog Tryd.f4.params.toList Rows.forbiddenReducesSpec.vars false W args.toList ds gs before) (hL : laidMetH Tryd.prog Rows.forbiddenReducesRow.laid W) (hS : W.ShapedOpen Tryd.prog) :
    Calls Tryd.prog 4 args W fun e W' => ∃ v, e = .returned v ∧ Rows.forbiddenReducesSpec.post enc Tryd.prog Tryd.f4 false true false false W args v W' := by
  have hW' := hW
  obtain ⟨p, q, hA0, hV, rfl, hfz, hnd⟩ := hW
  have hA : DataW.TrodAll enc Tryd.prog W 0 (fun _ => true) true Tryd.f4.params.toList args.toList ds p := hA0
  rw [Tryd.params4] at hA hval
  obtain ⟨v0, vs0, d0, ds0, p0, q0, hargs, rfl, rfl, h0, r0⟩ := trodAll_cons hA
  obtain ⟨v1, vs1, d1, ds1, p1, q1, rfl, rfl, rfl, h1, r1⟩ := trodAll_cons r0
  obtain ⟨v2, vs2, d2, ds2, p2, q2, rfl, rfl, rfl, h2, r2⟩ := trodAll_cons r1
  obtain ⟨rfl, rfl, rfl⟩ := trodAll_nil r2
  obtain rfl : args = #[v0, v1, v2] := by cases args; simp_all
  obtain ⟨rfl, rfl⟩ := trodVars_none hV
  obtain ⟨n0, rfl, rfl, rfl, w0⟩ := open_int Tryd.underlying3 (hval 0 3 v0 rfl rfl) h0
  obtain ⟨l1, k1, len1, wd1⟩ := words_open (hval 1 22 v1 rfl rfl) h1
  have t1 : ∀ x ∈ p1, x.block < W.heap.size := fun x hx => by simpa using hW'.lt x (by simp [hx])
  obtain ⟨s2, rfl, rfl, rfl, z2⟩ := open_string Tryd.underlying9 (hval 2 9 v2 rfl rfl) h2
  clear hA0
  have hsz : s2.data.toList.length ≤ 9223372036854775807 := by
    have h1 : s2.size ≤ maxLen := z2
    have h2 : s2.data.toList.length = s2.size := by rw [Array.length_toList]; rfl
    rw [h2]
    unfold maxLen at h1
    omega
  refine (forbReduces_any n0 l1 s2.data.toList v1 W k1 len1 wd1 hsz (mx_shaped hS)).mono fun e W' ⟨he, hb⟩ => ?_
  subst he
  refine ⟨_, rfl, _, _, _, [], (([] : List MemPlace) ++ (p1 ++ (([] : List MemPlace) ++ []))), [], hW', ?_, ?_, ?_, hb.frame _, fun h => by cases h⟩
  · exact trodAll_cons_mk (p := []) (shut_bool Tryd.underlying4 true) trodAll_mk0
  · exact (trodAll_cons_mk (p := []) (shut_int Tryd.underlying3 w0) (trodAll_cons_mk (words_keep h1 hb t1) (trodAll_cons_mk (p := []) (shut_string Tryd.underlying9 z2) trodAll_mk0)))
  · rfl

theorem reads (os : Os) {H : Type} (enc : TypeId × Value → H) : ∃ places, DataW.whole enc Tryd.prog ((laidWorld os).forCall (fun _ _ => 0) ⟨#[], #[.int .i64 0, .slice none 0 0, .string ⟨#[]⟩], []⟩).memory Tryd.f4.params.toList Rows.forbiddenReducesSpec.vars false [.int .i64 0, .slice none 0 0, .string ⟨#[]⟩] 8 = some ([.lit (.int .i64 0), .nil, .lit (.string [])], [], places) :=
  ⟨[], by kernel_rfl⟩

theorem lifted (os : Os) (started : os.Started) (H : Type) (enc : TypeId × Value → H) (F : Stop.Interp) :
    ReturnsInHanded {} Tryd.checked os 4 .any ((OpenSpec.ofChange Rows.forbiddenReducesSpec).preRow enc Tryd.prog Tryd.f4 Rows.forbiddenReducesRow.domain false Rows.forbiddenReducesRow.laid) (((OpenSpec.ofChange Rows.forbiddenReducesSpec).at F).post enc Tryd.prog Tryd.f4 false true false false) := by
  obtain ⟨places, hx⟩ := reads os enc
  refine returnsInHanded_of_row (C := Tryd.checked) (s := OpenSpec.ofChange Rows.forbiddenReducesSpec) ownNone started (by kernel_rfl) Tryd.func4
    (witness_row_at (enc := enc) (C := Tryd.checked) false (laidWorld os) #[.int .i64 0, .slice none 0 0, .string ⟨#[]⟩] rfl (by kernel_rfl) (by kernel_rfl) (by kernel_rfl)
      (OpenSpec.preRow_of_cond 8 hx (by kernel_rfl) (fun k hk => by cases hk) (by kernel_rfl) (laid_met os _))) ?_
  intro W base args ds gs before hval hW _ _ _ hL hS _
  exact contract H enc W args ds gs before hval hW hL hS

theorem said : Rows.ForbiddenReducesSaid :=
  OpenClaim.holds_of_cond 4 Tryd.f4 rfl rfl rfl rfl rfl rfl rfl ⟨rfl, rfl, rfl, rfl, rfl⟩ rfl rfl rfl rfl rfl (by kernel_rfl) Tryd.func4 (by kernel_rfl)
    (of_decide_eq_true (by kernel_rfl)) (by unfold Func.isWrapper; first | (rw [if_pos (by decide +kernel)]; kernel_rfl) | (rw [if_neg (by decide +kernel)]; exact ⟨rfl, rfl⟩))
    (fun os started H enc _ F => by rw [OpenClaim.pre_eq_preRow]; exact lifted os started H enc F)

theorem ns0 : Tryd.prog.wantsStandIn 3 = false := by kernel_rfl
theorem ns1 : Tryd.prog.wantsStandIn 22 = false := by kernel_rfl
theorem ns2 : Tryd.prog.wantsStandIn 9 = false := by kernel_rfl

theorem plain (f : FuncId) (fn : Func) (hf : Tryd.pinned.checked.prog.funcNamed "groove/groovelaw14.ForbiddenReduces" = some f) (hfn : Tryd.pinned.checked.prog.funcs[f]? = some fn) :
    false = Tryd.pinned.checked.prog.looks [] ∧ ∀ (j : Nat) t, fn.params[j]? = some t → Tryd.pinned.checked.prog.wantsStandIn t = false := by
  obtain rfl : f = 4 := Option.some.inj ((show Tryd.prog.funcNamed "groove/groovelaw14.ForbiddenReduces" = some 4 by kernel_rfl).symm.trans hf) |>.symm
  obtain rfl : fn = Tryd.f4 := (Option.some.inj (Tryd.func4.symm.trans hfn)).symm
  refine ⟨by kernel_rfl, fun j t ht => ?_⟩
  rw [Tryd.params4] at ht
  have hm := Array.mem_of_getElem? ht
  have hm : t = 3 ∨ t = 22 ∨ t = 9 := by simpa using hm
  rcases hm with rfl | rfl | rfl
  · exact ns0
  · exact ns1
  · exact ns2

/-- ForbiddenReduces's card. -/
theorem card : Rows.ForbiddenReducesCardSaid :=
  Claim7.holds_tied_plain_at .later [] _ _ _ _ said (fun _ h => by cases h) (by kernel_rfl) (fun _ h => by cases h) forbiddenReduces_row_tie rfl ⟨rfl, rfl⟩ (by kernel_rfl) rfl plain (by kernel_rfl)
end Go.Proofs.YtkpmapeapiodcaaDoor.forbiddenReduces
