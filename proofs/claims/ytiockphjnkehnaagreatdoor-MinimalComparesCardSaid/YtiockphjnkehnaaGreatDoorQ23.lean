/- What grooveref13.alike returns: whether the edges of two states have the same labels and lead to the same classes. Conditions: the edges and the classes can be read; the graph is valid and deterministic. What grooveref09.SameSet and grooveref13.classes return: the classes of the states. Conditions: the edges can be read; the graph is valid and deterministic. A row of edges that a call has built, between two vocabularies (ownsRow; HoldsK, putRowK). No condition. -/
import Derived.Test.YtiockphjnkehnaaGreatDoorQ22
import Derived.BigQuiet
import Derived.Deep.RegionHeld3
import Derived.Deep.CutBlock
import Derived.Test.YtiockphjnkehnaaGreatDoorQ01
import Derived.Test.YtiockphjnkehnaaGreatDoorQ19
import Derived.Sort.OwnSorted
import Derived.Shelf.SlSortCmp.NoneTotal

namespace Go.Proofs.YtiockphjnkehnaaGreatDoor
open Go.RowKit
set_option linter.unusedSimpArgs false
set_option linter.unusedVariables false

set_option maxRecDepth 100000 in
set_option maxHeartbeats 6400000 in
theorem alike_any (La n s t : Nat) (es : List E3) (v vc : Value) (c : List Nat) (w : World) (hrd : EdgesRd w v es) (hrc : IntsRd w vc (labsI c)) (hvg : VG (La : Int) (n : Int) es) (hd : detE es = true) (hc : c.length = n) :
    Calls Tryz.prog 87 #[grV (La : Int) (n : Int) v, vc, .int .i64 (s : Int), .int .i64 (t : Int)] w fun e w' => e = .returned (.bool (decide ((sigC (mT n es) n La c s).2 = (sigC (mT n es) n La c t).2))) ∧ Below w.heap.size w w' := by
  have hL256 : La ≤ 256 := by have := hvg.l2; omega
  have HTA : Hid (∀ W j l (X : Int), tgV n (mT n es j l) = X → EdgesRd W v es → Calls Tryz.prog 61 #[grV (La : Int) (n : Int) v, .int .i64 (j : Int), .int .i64 (l : Int)] W fun e W' => e = .returned (.int .i64 X) ∧ Below W.heap.size W W') := Lib.hid (fun W j l X hX h => by
    have k := rtarget_any La n j l es v W h hvg hd
    rw [hX] at k
    exact k)
  have HM := Lib.hid (fun j l => mT_le hvg.ok j l)
  have HRD := Lib.hid hrd
  have HRC := Lib.hid hrc
  have HC := Lib.hid hc
  have B0 := Lib.hid (below1 w (.cells #[.int .i64 (La : Int), .int .i64 (n : Int), v] 24))
  have G0 := Lib.hid (BoxG.new w (La : Int) (n : Int) v 24)
  obtain ⟨x1, x2, x3⟩ := id G0.out
  obtain ⟨a, k0, rfl⟩ := hrd.form
  obtain ⟨ac, kc, rfl⟩ := hrc.form
  have hll := labsI_lenH c
  rw [hc] at hll
  rw [hll] at HRC ⊢
  clear hrd hrc hvg hd hc hll
  obtain ⟨W1, hW⟩ : ∃ W1, w.alloc (.cells #[.int .i64 (La : Int), .int .i64 (n : Int), .slice a es.length k0] 24) = W1 := ⟨_, rfl⟩
  have HW := Lib.hid hW
  rw [hW] at B0 G0 x1 x2 x3
  clear hW
  obtain ⟨R, hR⟩ : ∃ R, decide ((sigC (mT n es) n La c s).2 = (sigC (mT n es) n La c t).2) = R := ⟨_, rfl⟩
  have HR := Lib.hid hR
  rw [hR]
  clear hR
  go_enter Tryz.func87, Tryz.ntmps87
  go_wp2_with fail
  rw [HW.out]
  clear HW x1 x2 x3
  go_loopg [9, 10, 11] La (fun q s9 s10 s11 wx => ∃ i : Nat, i + q = La ∧ s9 = .int .i64 (i : Int) ∧ Hid (∀ l, l < i → sgC (mT n es) n c s l = sgC (mT n es) n c t l) ∧ Hid (Below W1.heap.size W1 wx))
  case atStart => exact ⟨0, by omega, rfl, Lib.hid (fun l hl => absurd hl (by omega)), Lib.hid (Below.refl _ _)⟩
  case round =>
    obtain ⟨i, hin, rfl, HI, HB⟩ := hrel
    obtain ⟨x1, x2, x3⟩ := G0.out.keep HB.out
    rcases gk with _ | q
    · obtain rfl : i = La := by omega
      have HE := Lib.hid (show R = true by rw [← HR.out]; exact decide_eq_true (sig2_iff.2 HI.out))
      have j1 : ¬ ((i : Int) < (i : Int)) := by omega
      have HBW := Lib.hid (B0.out.trans (HB.out.mono B0.out.size))
      clear HI
      go_wp2_with fail
      go_ret
      exact ⟨by rw [HE.out]; rfl, HBW.out⟩
    · have j1 : (i : Int) < (La : Int) := by omega
      have hiL : i < La := by omega
      have HBW := Lib.hid (B0.out.trans (HB.out.mono B0.out.size))
      obtain ⟨x, hx⟩ : ∃ x, mT n es s i = x := ⟨_, rfl⟩
      obtain ⟨y, hy⟩ : ∃ y, mT n es t i = y := ⟨_, rfl⟩
      have hxn : x ≤ n := by rw [← hx]; exact HM.out s i
      have hyn : y ≤ n := by rw [← hy]; exact HM.out t i
      have HNO := Lib.hid (show ¬ ((x = n ↔ y = n) ∧ (x ≠ n → c.getD x 0 = c.getD y 0)) → R = false from fun h => by
        rw [← HR.out]
        refine decide_eq_false (fun h2 => h ?_)
        have h3 := sgC_iff.1 (sig2_iff.1 h2 i hiL)
        rw [hx, hy] at h3
        exact h3)
      have HYE := Lib.hid (show ((x = n ↔ y = n) ∧ (x ≠ n → c.getD x 0 = c.getD y 0)) → ∀ l, l < i + 1 → sgC (mT n es) n c s l = sgC (mT n es) n c t l from fun h l hl => by
        rcases (show l < i ∨ l = i by omega) with h2 | rfl
        · exact HI.out l h2
        · rw [sgC_iff, hx, hy]; exact h)
      clear HI
      by_cases hxx : x = n <;> by_cases hyy : y = n
      · replace HYE := Lib.hid (HYE.out ⟨⟨fun _ => hyy, fun _ => hxx⟩, fun h => absurd hxx h⟩)
        clear HNO HR
        have C1 := Lib.hid (HTA.out wr.drew s i (-1) (by rw [hx]; rw [hxx]; exact tgV_none n) ((HRD.out.keep HBW.out).keep (Below.refl _ _).drew))
        have C2 : Hid (∀ W, Below wr.heap.size wr W → _) := Lib.hid (fun W hb => HTA.out W t i (-1) (by rw [hy]; rw [hyy]; exact tgV_none n) ((HRD.out.keep HBW.out).keep hb))
        have BD := Lib.hid (Below.refl wr.heap.size wr).drew
        have GX : Hid (∀ W, Below wr.heap.size wr W → BoxG W w.heap.size (La : Int) (n : Int) (.slice a es.length k0)) := Lib.hid (fun W hb => (G0.out.keep HB.out).keep hb)
        clear hx hy
        go_upto_region 4 with fail
        go_region_held3 (fun W => W.cell? ⟨w.heap.size, 0, none⟩ = some (.int .i64 (La : Int)) ∧ W.cell? ⟨w.heap.size, 1, none⟩ = some (.int .i64 (n : Int)) ∧ W.cell? ⟨w.heap.size, 2, none⟩ = some (.slice a es.length k0))
          (first | exact GX.out _ BD.out | exact GX.out _ K2.out | exact GX.out _ K1.out)
          (first
            | (go_at_call 61; (with_reducible refine C1.out.mono ?_); rintro e0 Y1 ⟨rfl, q1⟩; (have K1 := Lib.hid (below_more BD.out (Nat.le_refl _) q1)); clear q1 C1)
            | (go_at_call 61; (with_reducible refine (C2.out Y1 K1.out).mono ?_); rintro e0 Y2 ⟨rfl, q2⟩; (have K2 := Lib.hid (K1.out.trans (q2.mono K1.out.size))); clear q2 C2))
        all_goals
          have HB2 := Lib.hid (HB.out.trans (K2.out.mono HB.out.size))
          have HBW2 := Lib.hid (HBW.out.trans (K2.out.mono HBW.out.size))
          go_upto_region 5 with fail
          go_quiet (fail)
          go_wp2_with fail
          go_roundg q
          case measure => omega
          case rel => exact ⟨i + 1, by omega, by go_num, HYE, Lib.hid (below_drewM HB2.out _)⟩
      · replace HNO := Lib.hid (HNO.out (fun h => hyy (h.1.1 hxx)))
        clear HYE HR
        have d1 : decide ((y : Int) < 0) = false := decide_eq_false (by omega)
        have C1 := Lib.hid (HTA.out wr.drew s i (-1) (by rw [hx]; rw [hxx]; exact tgV_none n) ((HRD.out.keep HBW.out).keep (Below.refl _ _).drew))
        have C2 : Hid (∀ W, Below wr.heap.size wr W → _) := Lib.hid (fun W hb => HTA.out W t i ((y : Int)) (by rw [hy]; exact tgV_some hyy) ((HRD.out.keep HBW.out).keep hb))
        have BD := Lib.hid (Below.refl wr.heap.size wr).drew
        have GX : Hid (∀ W, Below wr.heap.size wr W → BoxG W w.heap.size (La : Int) (n : Int) (.slice a es.length k0)) := Lib.hid (fun W hb => (G0.out.keep HB.out).keep hb)
        clear hx hy
        go_upto_region 4 with fail
        go_region_held3 (fun W => W.cell? ⟨w.heap.size, 0, none⟩ = some (.int .i64 (La : Int)) ∧ W.cell? ⟨w.heap.size, 1, none⟩ = some (.int .i64 (n : Int)) ∧ W.cell? ⟨w.heap.size, 2, none⟩ = some (.slice a es.length k0))
          (first | exact GX.out _ BD.out | exact GX.out _ K2.out | exact GX.out _ K1.out)
          (first
            | (go_at_call 61; (with_reducible refine C1.out.mono ?_); rintro e0 Y1 ⟨rfl, q1⟩; (have K1 := Lib.hid (below_more BD.out (Nat.le_refl _) q1)); clear q1 C1)
            | (go_at_call 61; (with_reducible refine (C2.out Y1 K1.out).mono ?_); rintro e0 Y2 ⟨rfl, q2⟩; (have K2 := Lib.hid (K1.out.trans (q2.mono K1.out.size))); clear q2 C2))
        all_goals
          have HB2 := Lib.hid (HB.out.trans (K2.out.mono HB.out.size))
          have HBW2 := Lib.hid (HBW.out.trans (K2.out.mono HBW.out.size))
          go_upto_region 5 with fail
          go_quiet (fail)
          go_wp2_with fail
          go_ret
          exact ⟨by rw [HNO.out]; rfl, below_drewM HBW2.out _⟩
      · replace HNO := Lib.hid (HNO.out (fun h => hxx (h.1.2 hyy)))
        clear HYE HR
        have d1 : decide ((x : Int) < 0) = false := decide_eq_false (by omega)
        have C1 := Lib.hid (HTA.out wr.drew s i ((x : Int)) (by rw [hx]; exact tgV_some hxx) ((HRD.out.keep HBW.out).keep (Below.refl _ _).drew))
        have C2 : Hid (∀ W, Below wr.heap.size wr W → _) := Lib.hid (fun W hb => HTA.out W t i (-1) (by rw [hy]; rw [hyy]; exact tgV_none n) ((HRD.out.keep HBW.out).keep hb))
        have BD := Lib.hid (Below.refl wr.heap.size wr).drew
        have GX : Hid (∀ W, Below wr.heap.size wr W → BoxG W w.heap.size (La : Int) (n : Int) (.slice a es.length k0)) := Lib.hid (fun W hb => (G0.out.keep HB.out).keep hb)
        clear hx hy
        go_upto_region 4 with fail
        go_region_held3 (fun W => W.cell? ⟨w.heap.size, 0, none⟩ = some (.int .i64 (La : Int)) ∧ W.cell? ⟨w.heap.size, 1, none⟩ = some (.int .i64 (n : Int)) ∧ W.cell? ⟨w.heap.size, 2, none⟩ = some (.slice a es.length k0))
          (first | exact GX.out _ BD.out | exact GX.out _ K2.out | exact GX.out _ K1.out)
          (first
            | (go_at_call 61; (with_reducible refine C1.out.mono ?_); rintro e0 Y1 ⟨rfl, q1⟩; (have K1 := Lib.hid (below_more BD.out (Nat.le_refl _) q1)); clear q1 C1)
            | (go_at_call 61; (with_reducible refine (C2.out Y1 K1.out).mono ?_); rintro e0 Y2 ⟨rfl, q2⟩; (have K2 := Lib.hid (K1.out.trans (q2.mono K1.out.size))); clear q2 C2))
        all_goals
          have HB2 := Lib.hid (HB.out.trans (K2.out.mono HB.out.size))
          have HBW2 := Lib.hid (HBW.out.trans (K2.out.mono HBW.out.size))
          go_upto_region 5 with fail
          go_quiet (fail)
          go_wp2_with fail
          go_ret
          exact ⟨by rw [HNO.out]; rfl, below_drewM HBW2.out _⟩
      · have d1 : decide ((x : Int) < 0) = false := decide_eq_false (by omega)
        have d2 : decide ((y : Int) < 0) = false := decide_eq_false (by omega)
        have d3 : decide ((0 : Int) ≤ (x : Int)) = true := decide_eq_true (by omega)
        have jx : (x : Int) < (n : Int) := by omega
        have jy : (y : Int) < (n : Int) := by omega
        have HXX := Lib.hid hxx
        have HYY := Lib.hid hyy
        by_cases hcc : c.getD x 0 = c.getD y 0
        · replace HYE := Lib.hid (HYE.out ⟨⟨fun h => absurd h hxx, fun h => absurd h hyy⟩, fun _ => hcc⟩)
          clear HNO HR
          have C1 := Lib.hid (HTA.out wr.drew s i ((x : Int)) (by rw [hx]; exact tgV_some HXX.out) ((HRD.out.keep HBW.out).keep (Below.refl _ _).drew))
          have C2 : Hid (∀ W, Below wr.heap.size wr W → _) := Lib.hid (fun W hb => HTA.out W t i ((y : Int)) (by rw [hy]; exact tgV_some HYY.out) ((HRD.out.keep HBW.out).keep hb))
          have BD := Lib.hid (Below.refl wr.heap.size wr).drew
          have GX : Hid (∀ W, Below wr.heap.size wr W → BoxG W w.heap.size (La : Int) (n : Int) (.slice a es.length k0)) := Lib.hid (fun W hb => (G0.out.keep HB.out).keep hb)
          clear hx hy
          go_upto_region 4 with fail
          go_region_held3 (fun W => W.cell? ⟨w.heap.size, 0, none⟩ = some (.int .i64 (La : Int)) ∧ W.cell? ⟨w.heap.size, 1, none⟩ = some (.int .i64 (n : Int)) ∧ W.cell? ⟨w.heap.size, 2, none⟩ = some (.slice a es.length k0))
            (first | exact GX.out _ BD.out | exact GX.out _ K2.out | exact GX.out _ K1.out)
            (first
              | (go_at_call 61; (with_reducible refine C1.out.mono ?_); rintro e0 Y1 ⟨rfl, q1⟩; (have K1 := Lib.hid (below_more BD.out (Nat.le_refl _) q1)); clear q1 C1)
              | (go_at_call 61; (with_reducible refine (C2.out Y1 K1.out).mono ?_); rintro e0 Y2 ⟨rfl, q2⟩; (have K2 := Lib.hid (K1.out.trans (q2.mono K1.out.size))); clear q2 C2))
          all_goals
            have HB2 := Lib.hid (HB.out.trans (K2.out.mono HB.out.size))
            have HBW2 := Lib.hid (HBW.out.trans (K2.out.mono HBW.out.size))
            have hcl := HC.out
            obtain ⟨b1, o1, k1, e1, p1⟩ := (HRC.out.keep HBW2.out).at (natR (c := c) (i := x) (by omega))
            obtain ⟨b2, o2, k2, e2, p2⟩ := (HRC.out.keep HBW2.out).at (natR (c := c) (i := y) (by omega))
            rw [labsI_lenH, hcl] at e1 e2
            injection e1 with e1 _ e9
            injection e2 with e2 _ e8
            subst e1
            subst e9
            subst e8
            injection e2 with e2
            injection e2 with e2 e3
            subst e2
            subst e3
            rw [hcc] at p1
            generalize c.getD y 0 = z at p1 p2
            clear hcc hcl
            go_upto_region 5 with fail
            go_quiet (fail)
            go_wp2_with fail
            go_roundg q
            case measure => omega
            case rel => exact ⟨i + 1, by omega, by go_num, HYE, Lib.hid (below_drewM HB2.out _)⟩
        · replace HNO := Lib.hid (HNO.out (fun h => hcc (h.2 hxx)))
          clear HYE HR
          have C1 := Lib.hid (HTA.out wr.drew s i ((x : Int)) (by rw [hx]; exact tgV_some HXX.out) ((HRD.out.keep HBW.out).keep (Below.refl _ _).drew))
          have C2 : Hid (∀ W, Below wr.heap.size wr W → _) := Lib.hid (fun W hb => HTA.out W t i ((y : Int)) (by rw [hy]; exact tgV_some HYY.out) ((HRD.out.keep HBW.out).keep hb))
          have BD := Lib.hid (Below.refl wr.heap.size wr).drew
          have GX : Hid (∀ W, Below wr.heap.size wr W → BoxG W w.heap.size (La : Int) (n : Int) (.slice a es.length k0)) := Lib.hid (fun W hb => (G0.out.keep HB.out).keep hb)
          clear hx hy
          go_upto_region 4 with fail
          go_region_held3 (fun W => W.cell? ⟨w.heap.size, 0, none⟩ = some (.int .i64 (La : Int)) ∧ W.cell? ⟨w.heap.size, 1, none⟩ = some (.int .i64 (n : Int)) ∧ W.cell? ⟨w.heap.size, 2, none⟩ = some (.slice a es.length k0))
            (first | exact GX.out _ BD.out | exact GX.out _ K2.out | exact GX.out _ K1.out)
            (first
              | (go_at_call 61; (with_reducible refine C1.out.mono ?_); rintro e0 Y1 ⟨rfl, q1⟩; (have K1 := Lib.hid (below_more BD.out (Nat.le_refl _) q1)); clear q1 C1)
              | (go_at_call 61; (with_reducible refine (C2.out Y1 K1.out).mono ?_); rintro e0 Y2 ⟨rfl, q2⟩; (have K2 := Lib.hid (K1.out.trans (q2.mono K1.out.size))); clear q2 C2))
          all_goals
            have HB2 := Lib.hid (HB.out.trans (K2.out.mono HB.out.size))
            have HBW2 := Lib.hid (HBW.out.trans (K2.out.mono HBW.out.size))
            have hcl := HC.out
            obtain ⟨b1, o1, k1, e1, p1⟩ := (HRC.out.keep HBW2.out).at (natR (c := c) (i := x) (by omega))
            obtain ⟨b2, o2, k2, e2, p2⟩ := (HRC.out.keep HBW2.out).at (natR (c := c) (i := y) (by omega))
            rw [labsI_lenH, hcl] at e1 e2
            injection e1 with e1 _ e9
            injection e2 with e2 _ e8
            subst e1
            subst e9
            subst e8
            injection e2 with e2
            injection e2 with e2 e3
            subst e2
            subst e3
            have d4 : (((c.getD x 0 : Nat) : Int) != ((c.getD y 0 : Nat) : Int)) = true := by rw [bne_iff_ne]; omega
            generalize c.getD x 0 = z1 at p1 d4 hcc
            generalize c.getD y 0 = z2 at p2 d4 hcc
            clear hcc hcl
            go_upto_region 5 with fail
            go_quiet (fail)
            go_wp2_with fail
            go_ret
            exact ⟨by rw [HNO.out]; rfl, below_drewM HBW2.out _⟩
end Go.Proofs.YtiockphjnkehnaaGreatDoor

namespace Go.Proofs.YtiockphjnkehnaaGreatDoor
open Go.RowKit
set_option linter.unusedSimpArgs false
set_option linter.unusedVariables false

theorem take_neJ {α : Type} {l m : List α} {i : Nat} {x y : α} (hx : l[i]? = some x) (hy : m[i]? = some y) (h : x ≠ y) : l ≠ m := fun e => h (by rw [e, hy] at hx; injection hx with hx; exact hx.symm)
theorem take_allJ {α : Type} {l m : List α} (hl : l.length = m.length) (h : l.take l.length = m.take l.length) : l = m := by
  rw [List.take_length, hl, List.take_length] at h; exact h
set_option maxRecDepth 100000 in
set_option maxHeartbeats 3200000 in
theorem sameSet_any (l m : List Int) (u v : Value) (w : World) (hu : IntsRd w u l) (hv : IntsRd w v m) (hl : l.length ≤ 100000) (hm : m.length ≤ 9223372036854775807) :
    Calls Tryz.prog 88 #[u, v] w fun e w' => e = .returned (.bool (decide (l = m))) ∧ Below w.heap.size w w' := by
  have HU := Lib.hid hu
  have HV := Lib.hid hv
  obtain ⟨a, c, rfl⟩ := hu.form
  obtain ⟨a2, c2, rfl⟩ := hv.form
  clear hu hv
  by_cases h0 : l.length = m.length
  · have d0 : ((l.length : Int) != (m.length : Int)) = false := by rw [h0]; simp
    obtain ⟨R, hR⟩ : ∃ R, decide (l = m) = R := ⟨_, rfl⟩
    have HR := Lib.hid hR
    have HL0 := Lib.hid h0
    rw [hR]
    rw [← h0] at d0 ⊢
    clear hR h0
    go_enter Tryz.func88, Tryz.ntmps88
    go_wp2_with fail
    go_loopg [5] l.length (fun q s5 wx => ∃ i : Nat, i + q = l.length ∧ s5 = .int .i64 (i : Int) ∧ Hid (l.take i = m.take i) ∧ Hid (Below w.heap.size w wx))
    case atStart => exact ⟨0, by omega, rfl, Lib.hid rfl, Lib.hid (Below.refl _ _)⟩
    case round =>
      obtain ⟨i, hin, rfl, HT, HB⟩ := hrel
      rcases gk with _ | q
      · obtain rfl : i = l.length := by omega
        have HE := Lib.hid (show R = true by rw [← HR.out]; exact decide_eq_true (take_allJ HL0.out HT.out))
        have j1 : ¬ ((l.length : Int) < (l.length : Int)) := by omega
        go_wp2_with fail
        go_ret
        exact ⟨by rw [HE.out]; rfl, HB.out⟩
      · obtain ⟨x, hx⟩ : ∃ x, l[i]? = some x := ⟨_, List.getElem?_eq_getElem (by omega)⟩
        obtain ⟨y, hy⟩ : ∃ y, m[i]? = some y := ⟨_, List.getElem?_eq_getElem (by have := HL0.out; omega)⟩
        obtain ⟨b1, o1, k1, e1, c1⟩ := (HU.out.keep HB.out).at hx
        obtain ⟨b2, o2, k2, e2, c3⟩ := (HV.out.keep HB.out).at hy
        injection e1 with e1 _ e3
        injection e2 with e2 _ e4
        subst e1
        subst e2
        subst e3
        subst e4
        have HX := Lib.hid hx
        have HY := Lib.hid hy
        have HLM := Lib.hid HL0.out
        have j1 : (i : Int) < (l.length : Int) := by omega
        have KX := Lib.hid (show wr.drew.cell? ⟨b1, o1 + i, none⟩ = some (.int .i64 x) ∧ wr.drew.cell? ⟨b2, o2 + i, none⟩ = some (.int .i64 y) from ⟨c1, c3⟩)
        have j2 : i < l.length := by omega
        clear hx hy
        by_cases hxy : x = y
        · have d1 : (x != y) = false := by simpa using hxy
          have HT2 := Lib.hid (show l.take (i + 1) = m.take (i + 1) by rw [take_snoc HX.out, take_snoc HY.out, HT.out, hxy])
          clear hxy
          go_upto_region 6 with fail
          go_region_held3 (fun W => W.cell? ⟨b1, o1 + i, none⟩ = some (.int .i64 x) ∧ W.cell? ⟨b2, o2 + i, none⟩ = some (.int .i64 y)) (first | exact KX.out | go_keep) (fail)
          all_goals
            go_wp2_with fail
            go_roundg q
            case measure => omega
            case rel => exact ⟨i + 1, by omega, by go_num, HT2, Lib.hid HB.out.drew⟩
        · have d1 : (x != y) = true := by simpa using hxy
          have HE := Lib.hid (show R = false by rw [← HR.out]; exact decide_eq_false (take_neJ HX.out HY.out hxy))
          clear hxy
          go_upto_region 6 with fail
          go_region_held3 (fun W => W.cell? ⟨b1, o1 + i, none⟩ = some (.int .i64 x) ∧ W.cell? ⟨b2, o2 + i, none⟩ = some (.int .i64 y)) (first | exact KX.out | go_keep) (fail)
          all_goals
            go_wp2_with fail
            go_ret
            exact ⟨by rw [HE.out]; rfl, HB.out.drew⟩
  · have d0 : ((l.length : Int) != (m.length : Int)) = true := by rw [bne_iff_ne]; omega
    have HE := Lib.hid (show decide (l = m) = false from decide_eq_false (fun e => h0 (by rw [e])))
    clear h0
    go_enter Tryz.func88, Tryz.ntmps88
    go_wp2_with fail
    go_ret
    exact ⟨by rw [HE.out]; rfl, Below.refl _ _⟩
theorem refR_walk (m : Nat → Nat → Nat) (n La : Nat) (c : List Nat) : ∃ fl rr : Nat → Nat, fl 0 = 0 ∧ (∀ j, (refR m n La c).getD j 0 = rr j) ∧ (∀ s t, s < n → t < n → sigC m n La c s = sigC m n La c t → rr s = rr t) ∧
    (∀ i, i < n → (∃ t, t < i ∧ sigC m n La c t = sigC m n La c i) → fl (i + 1) = fl i) ∧ (∀ i, i < n → (¬ ∃ t, t < i ∧ sigC m n La c t = sigC m n La c i) → rr i = fl i ∧ fl (i + 1) = fl i + 1) ∧ (∀ i, fl i ≤ i) := by
  have hmem : ∀ i, i < n → (sigC m n La c i ∈ firsts ((sigs m n La c).take i) ↔ ∃ t, t < i ∧ sigC m n La c t = sigC m n La c i) := fun i hi => by
    rw [firsts_mem, mem_take_iff]
    constructor
    · rintro ⟨j, hj, e⟩
      rw [sigs_at (by omega)] at e
      injection e with e
      exact ⟨j, hj, e⟩
    · rintro ⟨j, hj, e⟩
      exact ⟨j, hj, by rw [sigs_at (by omega), e]⟩
  refine ⟨fun i => (firsts ((sigs m n La c).take i)).length, fun j => (refR m n La c).getD j 0, rfl, fun _ => rfl, fun s t hs ht e => (refR_iff hs ht).2 e, fun i hi h => ?_, fun i hi h => ?_, fun i => ?_⟩
  · show (firsts ((sigs m n La c).take (i + 1))).length = _
    rw [firsts_take (sigs_at hi), if_pos ((hmem i hi).2 h)]
  · have hn : sigC m n La c i ∉ firsts ((sigs m n La c).take i) := fun h2 => h ((hmem i hi).1 h2)
    constructor
    · have h1 : (refR m n La c)[i]? = some (ixA (firsts (sigs m n La c)) (sigC m n La c i)) := canon_at (sigs_at hi)
      have h2 : ixA (firsts (sigs m n La c)) (sigC m n La c i) = (firsts ((sigs m n La c).take i)).length := canon_new (sigs_at hi) hn
      rw [refR_at hi, h2] at h1
      injection h1
    · show (firsts ((sigs m n La c).take (i + 1))).length = _
      rw [firsts_take (sigs_at hi), if_neg hn, List.length_append, List.length_singleton]
  · have := firsts_le ((sigs m n La c).take i)
    rw [List.length_take] at this
    show (firsts ((sigs m n La c).take i)).length ≤ i
    omega
theorem ints_cellJ {W : World} {g N k : Nat} {c : List Nat} (h : IntsRd W (.slice (some ⟨g, 0, none⟩) N k) (labsI c)) {i : Nat} (hi : i < c.length) : W.cell? ⟨g, i, none⟩ = some (.int .i64 ((c.getD i 0 : Nat) : Int)) := by
  obtain ⟨b1, o1, k1, hv1, p1⟩ := h.at (natR hi)
  injection hv1 with e1 e2 e3
  injection e1 with e1
  injection e1 with e1 e4
  subst e1
  subst e4
  rwa [Nat.zero_add] at p1
theorem irow_rdJ {W : World} {R n : Nat} {l : List Nat} {f : Nat → Int} (h : IRow W R n f) (hl : l.length = n) (hf : ∀ i, i < n → f i = ((l.getD i 0 : Nat) : Int)) : IntsRd W (.slice (some ⟨R, 0, none⟩) n n) (labsI l) := by
  refine ⟨_, _, by rw [labsI_lenH, hl], fun j x hx => ⟨R, 0, rfl, ?_⟩⟩
  have hj : j < n := by
    have := (List.getElem?_eq_some_iff.1 hx).1
    rwa [labsI_lenH, hl] at this
  rw [natR (by omega)] at hx
  injection hx with hx
  rw [Nat.zero_add, h.cell hj, ← hx, hf j hj]
set_option maxRecDepth 100000 in
set_option maxHeartbeats 6400000 in
theorem classes13_any (La n : Nat) (es : List E3) (v : Value) (w : World) (hrd : EdgesRd w v es) (hvg : VG (La : Int) (n : Int) es) (hd : detE es = true) :
    Calls Tryz.prog 58 #[grV (La : Int) (n : Int) v] w fun e w' => ∃ g, e = .returned (.slice (some ⟨g, 0, none⟩) n n) ∧ w.heap.size ≤ g ∧ IntsRd w' (.slice (some ⟨g, 0, none⟩) n n) (labsI (classN (mT n es) La n)) ∧ Below w.heap.size w w' := by
  have hn64 : n ≤ 64 := by have := hvg.s2; omega
  have hL1 : 1 ≤ La := by have := hvg.l1; omega
  obtain ⟨K, -, hK2, hK3, hK4⟩ := refC_get (mT n es) n La hL1 (fun s l => mT_le hvg.ok s l) (fun l => mT_none hvg.ok l)
  have HK2 := Lib.hid hK2
  have HK3 := Lib.hid hK3
  have HK4 := Lib.hid hK4
  have hmk := make_intsH n (by omega)
  have HAL := Lib.hid (fun W vc c s t h1 h2 h3 => alike_any La n s t es v vc c W h1 h2 hvg hd h3)
  have HSS : Hid (∀ W u u' (a b : List Nat), IntsRd W u (labsI a) → IntsRd W u' (labsI b) → a.length = n → b.length = n → Calls Tryz.prog 88 #[u, u'] W fun e W' => e = .returned (.bool (decide (a = b))) ∧ Below W.heap.size W W') := Lib.hid (fun W u u' a b h1 h2 h3 h4 => by
    refine (sameSet_any _ _ u u' W h1 h2 (by rw [labsI_lenH]; omega) (by rw [labsI_lenH]; omega)).mono ?_
    rintro e W' ⟨rfl, h5⟩
    refine ⟨?_, h5⟩
    congr 2
    rw [decide_eq_decide]
    exact ⟨labsI_inj, fun e => by rw [e]⟩)
  have HRD := Lib.hid hrd
  have b0 := below1 w (.cells #[.int .i64 (La : Int), .int .i64 (n : Int), v] 24)
  have b1 := below1 (w.alloc (.cells #[.int .i64 (La : Int), .int .i64 (n : Int), v] 24)) (.cells (madeCells #[.int .i64 0] n) 3)
  have B0 := Lib.hid (below_more b0 (Nat.le_refl _) b1)
  have G1 := BoxG.new w (La : Int) (n : Int) v 24
  have G0 := Lib.hid (G1.keep b1)
  have I0 := IRow.made (w.alloc (.cells #[.int .i64 (La : Int), .int .i64 (n : Int), v] 24)) n
  rw [World.size_alloc] at I0
  have R0 := Lib.hid (irow_rdJ (l := refC (mT n es) n La 0) I0 (refC_len 0) (fun i hi => by
    show (0 : Int) = _
    show (0 : Int) = (((List.replicate n 0).getD i 0 : Nat) : Int)
    rw [List.getD_eq_getElem?_getD, List.getElem?_replicate, if_pos hi]; rfl))
  obtain ⟨x1, x2, x3⟩ := id G1
  obtain ⟨a, k0, rfl⟩ := hrd.form
  clear hrd hvg hd hK2 hK3 hK4 b0 b1 G1 I0
  go_enter Tryz.func58, Tryz.ntmps58
  go_wp2_with fail
  clear x1 x2 x3
  generalize ((w.alloc (.cells #[.int .i64 (La : Int), .int .i64 (n : Int), .slice a es.length k0] 24)).alloc (.cells (madeCells #[.int .i64 0] n) 3)) = W2 at *
  go_loopg [3, 4, 5, 6, 7] K (fun q s3 s4 s5 s6 s7 wx => ∃ (k g : Nat), k + q = K ∧ s3 = .slice (some ⟨g, 0, none⟩) n n ∧ w.heap.size ≤ g ∧ Hid (IntsRd wx (.slice (some ⟨g, 0, none⟩) n n) (labsI (refC (mT n es) n La k))) ∧ Hid (Below W2.heap.size W2 wx))
  case atStart => exact ⟨0, w.heap.size + 1, by omega, rfl, by omega, R0, Lib.hid (Below.refl _ _)⟩
  case round =>
    clear R0
    obtain ⟨k, g, hk, rfl, hwg, HI, HB⟩ := hrel
    obtain ⟨q, rfl⟩ : ∃ q, q = gk := ⟨_, rfl⟩
    obtain ⟨Wo, rfl⟩ : ∃ Wo, Wo = wr := ⟨_, rfl⟩
    obtain ⟨c, hc⟩ : ∃ c, refC (mT n es) n La k = c := ⟨_, rfl⟩
    have HCC := Lib.hid hc
    have hcl : c.length = n := by rw [← hc]; exact refC_len k
    rw [hc] at HI
    clear hc
    obtain ⟨fl, rr, h0, h1, h2, h3, h4, h5⟩ := refR_walk (mT n es) n La c
    have HF0 := Lib.hid h0
    have HF1 := Lib.hid h1
    have HF2 := Lib.hid h2
    have HF3 := Lib.hid h3
    have HF4 := Lib.hid h4
    have HF5 := Lib.hid h5
    clear h0 h1 h2 h3 h4 h5
    obtain ⟨x1, x2, x3⟩ := G0.out.keep HB.out
    have T0 := Lib.hid (IRow.made Wo n)
    have BM := Lib.hid (below1 Wo (.cells (madeCells #[.int .i64 0] n) 3))
    go_wp2_with fail
    clear x1 x2 x3
    obtain ⟨R, hR⟩ : ∃ R, Wo.heap.size = R := ⟨_, rfl⟩
    rw [hR] at T0 BM ⊢
    have HRR := Lib.hid hR
    clear hR
    generalize (Wo.alloc (.cells (madeCells #[.int .i64 0] n) 3)) = X at *
    go_loopg [5, 6, 7] n (fun q2 s5 s6 s7 wx => ∃ i : Nat, i + q2 = n ∧ s6 = .int .i64 (i : Int) ∧ s5 = .int .i64 (fl i : Int) ∧ Hid (IRow wx R n (fun j => if j < i then (rr j : Int) else 0)) ∧ Hid (Below R Wo wx))
    case atStart => exact ⟨0, by omega, rfl, by rw [HF0.out]; rfl, Lib.hid (T0.out.congr (fun j _ => by rw [if_neg (by omega)])), BM⟩
    case round =>
      clear T0 BM
      obtain ⟨i, hin, rfl, rfl, HR, HBR⟩ := hrel
      have HBO := Lib.hid (HB.out.trans ((show Below Wo.heap.size Wo wr by rw [HRR.out]; exact HBR.out).mono HB.out.size))
      have HIW := Lib.hid (HI.out.keep (show Below Wo.heap.size Wo wr by rw [HRR.out]; exact HBR.out))
      obtain ⟨x1, x2, x3⟩ := G0.out.keep HBO.out
      rcases gk with _ | q2
      · obtain rfl : i = n := by omega
        have j0 : ¬ ((i : Int) < (i : Int)) := by omega
        have IR := Lib.hid (irow_rdJ (l := refR (mT i es) i La c) HR.out refR_len (fun j hj => by rw [if_pos hj, HF1.out]))
        have HE2 := Lib.hid (HSS.out wr _ _ _ _ IR.out HIW.out refR_len hcl)
        have hce := HCC.out
        by_cases hkK : k = K
        · have d1 : decide (refR (mT i es) i La c = c) = true := decide_eq_true (by
            have := HK2.out
            rw [← hkK] at this
            show _ = _
            rw [← hce]
            exact this)
          rw [d1] at HE2
          have HF := Lib.hid (show classN (mT i es) La i = c by rw [← HK4.out, ← hkK, hce])
          clear d1 HSS hkK hce
          go_wp2_with (go_at_call 88; (with_reducible refine HE2.out.mono ?_); rintro e W5 ⟨rfl, b5⟩; (have B5 := Lib.hid (HBO.out.trans (b5.mono HBO.out.size))); (have I5 := Lib.hid (HIW.out.keep b5)); clear b5)
          go_ret
          exact ⟨g, rfl, hwg, by rw [HF.out]; exact I5.out, B0.out.trans (B5.out.mono B0.out.size)⟩
        · have d1 : decide (refR (mT i es) i La c = c) = false := decide_eq_false (fun e => HK3.out k (by omega) (by
            show refR (mT i es) i La (refC (mT i es) i La k) = _
            rw [hce]; exact e))
          rw [d1] at HE2
          obtain ⟨q, rfl⟩ : ∃ q', q = q' + 1 := ⟨q - 1, by omega⟩
          have HRN := Lib.hid (show refC (mT i es) i La (k + 1) = refR (mT i es) i La c by
            show refR (mT i es) i La (refC (mT i es) i La k) = _
            rw [hce])
          have hRw : w.heap.size ≤ R := by have := B0.out.size; have := HB.out.size; have := HRR.out; omega
          clear d1 HSS hce
          go_wp2_with (go_at_call 88; (with_reducible refine HE2.out.mono ?_); rintro e W5 ⟨rfl, b5⟩; (have B5 := Lib.hid (HBO.out.trans (b5.mono HBO.out.size))); (have I5 := Lib.hid (IR.out.keep b5)); clear b5)
          go_roundg q
          case measure => omega
          case rel => exact ⟨k + 1, R, by omega, rfl, hRw, Lib.hid (by rw [HRN.out]; exact I5.out), B5⟩
      · have hiN : i < n := by omega
        have j1 : (i : Int) < (n : Int) := by omega
        have f0 := HR.out.frozen i
        have c0 := HR.out.cell hiN
        have R1 := Lib.hid (HR.out.set i (-1))
        have B1 := Lib.hid (HBR.out.setCell (p := ⟨R, i, none⟩) (Nat.le_refl _) (.int .i64 (-1)))
        go_upto_block 4 with fail
        clear f0 c0 x1 x2 x3 HBO HIW HR HBR
        generalize (wr.setCell ⟨R, i, none⟩ (.int .i64 (-1))) = Y at *
        go_cut [7] (fun s7 wx => ∃ z : Int, Hid (IRow wx R n (fun j => if j = i then z else if j < i then (rr j : Int) else 0)) ∧ Hid ((∃ t, t < i ∧ sigC (mT n es) n La c t = sigC (mT n es) n La c i) ∧ z = (rr i : Int) ∨ (¬ ∃ t, t < i ∧ sigC (mT n es) n La c t = sigC (mT n es) n La c i) ∧ z = -1) ∧ Hid (Below R Wo wx))
        case first =>
          go_wp2_with fail
          go_loopg [7] i (fun q3 s7 wx => ∃ t : Nat, t + q3 = i ∧ s7 = .int .i64 (t : Int) ∧ Hid (IRow wx R n (fun j => if j = i then -1 else if j < i then (rr j : Int) else 0)) ∧ Hid (∀ t', t' < t → sigC (mT n es) n La c t' ≠ sigC (mT n es) n La c i) ∧ Hid (Below R Wo wx))
          case atStart => exact ⟨0, by omega, rfl, R1, Lib.hid (fun t' h => absurd h (by omega)), B1⟩
          case round =>
            clear R1 B1
            obtain ⟨t, htn, rfl, HR, HNE, HBR⟩ := hrel
            rcases gk with _ | q3
            · obtain rfl : t = i := by omega
              have j0 : ¬ ((t : Int) < (t : Int)) := by omega
              go_wp2_with fail
              go_meet
              exact ⟨-1, HR, Lib.hid (.inr ⟨fun ⟨t', h1, h2⟩ => HNE.out t' h1 h2, rfl⟩), HBR⟩
            · have hti : t < i := by omega
              have htn : t < n := by omega
              have HBO := Lib.hid (HB.out.trans ((show Below Wo.heap.size Wo wr by rw [HRR.out]; exact HBR.out).mono HB.out.size))
              have HIW := Lib.hid (HI.out.keep (show Below Wo.heap.size Wo wr by rw [HRR.out]; exact HBR.out))
              have HBW := Lib.hid (B0.out.trans (HBO.out.mono B0.out.size))
              have j2 : (t : Int) < (i : Int) := by omega
              have j3 : (t : Int) < (n : Int) := by omega
              have HSE := Lib.hid (sig_iff (m := mT n es) (n := n) (La := La) (c := c) (s := i) (t := t))
              obtain ⟨x, hx⟩ : ∃ x, c.getD i 0 = x := ⟨_, rfl⟩
              obtain ⟨y, hy⟩ : ∃ y, c.getD t 0 = y := ⟨_, rfl⟩
              have p1 := ints_cellJ HIW.out (i := i) (by omega)
              have p2 := ints_cellJ HIW.out (i := t) (by omega)
              rw [hx] at p1
              rw [hy] at p2
              have HNX := Lib.hid (show ¬ (sigC (mT n es) n La c i = sigC (mT n es) n La c t) → ∀ t', t' < t + 1 → sigC (mT n es) n La c t' ≠ sigC (mT n es) n La c i from fun h t' h1 => by
                rcases (show t' < t ∨ t' = t by omega) with h2 | rfl
                · exact HNE.out t' h2
                · exact fun e => h e.symm)
              rw [hx, hy] at HSE
              clear hx hy HNE
              by_cases hxy : x = y
              · subst hxy
                obtain ⟨A, hA⟩ : ∃ A, decide ((sigC (mT n es) n La c i).2 = (sigC (mT n es) n La c t).2) = A := ⟨_, rfl⟩
                have HC1 := Lib.hid (HAL.out wr.drew (.slice (some ⟨g, 0, none⟩) n n) c i t ((HRD.out.keep HBW.out).keep (Below.refl _ _).drew) (HIW.out.keep (Below.refl _ _).drew) hcl)
                rw [hA] at HC1
                have BD := Lib.hid (Below.refl wr.heap.size wr).drew
                have KX : Hid (∀ W, Below wr.heap.size wr W → W.cell? ⟨g, i, none⟩ = some (.int .i64 (x : Int)) ∧ W.cell? ⟨g, t, none⟩ = some (.int .i64 (x : Int)) ∧ W.cell? ⟨w.heap.size, 0, none⟩ = some (.int .i64 (La : Int)) ∧ W.cell? ⟨w.heap.size, 1, none⟩ = some (.int .i64 (n : Int)) ∧ W.cell? ⟨w.heap.size, 2, none⟩ = some (.slice a es.length k0)) :=
                  Lib.hid (fun W hb => ⟨cell_keep p1 hb, cell_keep p2 hb, (G0.out.keep HBO.out).keep hb⟩)
                have HAA := Lib.hid hA
                clear hA p1 p2
                cases A with
                | true =>
                  have HS := Lib.hid (show sigC (mT n es) n La c t = sigC (mT n es) n La c i from (HSE.out.2 ⟨rfl, of_decide_eq_true HAA.out⟩).symm)
                  clear HSE HNX HAA
                  go_upto_region 10 with fail
                  go_region_held3 (fun W => W.cell? ⟨g, i, none⟩ = some (.int .i64 (x : Int)) ∧ W.cell? ⟨g, t, none⟩ = some (.int .i64 (x : Int)) ∧ W.cell? ⟨w.heap.size, 0, none⟩ = some (.int .i64 (La : Int)) ∧ W.cell? ⟨w.heap.size, 1, none⟩ = some (.int .i64 (n : Int)) ∧ W.cell? ⟨w.heap.size, 2, none⟩ = some (.slice a es.length k0))
                    (first | exact KX.out _ BD.out | exact KX.out _ K1.out)
                    (first
                      | (go_at_call 87; (with_reducible refine HC1.out.mono ?_); rintro e0 Y1 ⟨rfl, q1⟩; (have K1 := Lib.hid (below_more BD.out (Nat.le_refl _) q1)); clear q1 HC1))
                  all_goals
                    have HR2 := Lib.hid (HR.out.keep K1.out)
                    have c1 := HR2.out.cell htn
                    have c2 := HR2.out.cell hiN
                    have f2 := HR2.out.frozen i
                    rw [if_neg (show t ≠ i by omega), if_pos hti] at c1
                    rw [if_pos rfl] at c2
                    have HB2 := Lib.hid (HBR.out.trans (K1.out.mono (show R ≤ wr.heap.size by have := HBR.out.size; have := HRR.out; omega)))
                    go_wp2_with fail
                    go_meet
                    refine ⟨(rr i : Int), Lib.hid ((HR2.out.set i (rr t : Int)).congr (fun j _ => ?_)), Lib.hid (.inl ⟨⟨t, hti, HS.out⟩, rfl⟩), Lib.hid (HB2.out.setCell (p := ⟨R, i, none⟩) (Nat.le_refl _) _)⟩
                    try dsimp only
                    by_cases e : j = i
                    · rw [if_pos e, if_pos e, HF2.out t i htn hiN HS.out]
                    · rw [if_neg e, if_neg e, if_neg e]
                | false =>
                  have HN2 := Lib.hid (HNX.out (fun e => of_decide_eq_false HAA.out (HSE.out.1 e).2))
                  clear HSE HNX HAA
                  go_upto_region 10 with fail
                  go_region_held3 (fun W => W.cell? ⟨g, i, none⟩ = some (.int .i64 (x : Int)) ∧ W.cell? ⟨g, t, none⟩ = some (.int .i64 (x : Int)) ∧ W.cell? ⟨w.heap.size, 0, none⟩ = some (.int .i64 (La : Int)) ∧ W.cell? ⟨w.heap.size, 1, none⟩ = some (.int .i64 (n : Int)) ∧ W.cell? ⟨w.heap.size, 2, none⟩ = some (.slice a es.length k0))
                    (first | exact KX.out _ BD.out | exact KX.out _ K1.out)
                    (first
                      | (go_at_call 87; (with_reducible refine HC1.out.mono ?_); rintro e0 Y1 ⟨rfl, q1⟩; (have K1 := Lib.hid (below_more BD.out (Nat.le_refl _) q1)); clear q1 HC1))
                  all_goals
                    have HR2 := Lib.hid (HR.out.keep K1.out)
                    have HB2 := Lib.hid (HBR.out.trans (K1.out.mono (show R ≤ wr.heap.size by have := HBR.out.size; have := HRR.out; omega)))
                    go_wp2_with fail
                    go_roundg q3
                    case measure => omega
                    case rel => exact ⟨t + 1, by omega, by go_num, HR2, HN2, HB2⟩
              · have d1 : ((x : Int) == (y : Int)) = false := by rw [beq_eq_false_iff_ne]; omega
                have HN2 := Lib.hid (HNX.out (fun e => hxy (HSE.out.1 e).1))
                clear HSE HNX hxy HAL
                go_upto_region 10 with fail
                go_quiet (fail)
                go_wp2_with fail
                go_roundg q3
                case measure => omega
                case rel => exact ⟨t + 1, by omega, by go_num, Lib.hid (HR.out.keep (below_drewM (Below.refl _ _) _)), HN2, Lib.hid (below_drewM HBR.out _)⟩
        case rest =>
          clear R1 B1
          obtain ⟨z, HR, HZ, HBR⟩ := hcut
          have c0 := HR.out.cell hiN
          have f0 := HR.out.frozen i
          rw [if_pos rfl] at c0
          have HBO := Lib.hid (HB.out.trans ((show Below Wo.heap.size Wo wc by rw [HRR.out]; exact HBR.out).mono HB.out.size))
          obtain ⟨x1, x2, x3⟩ := G0.out.keep HBO.out
          rcases HZ.out with ⟨hm, rfl⟩ | ⟨hm, rfl⟩
          · have d1 : decide ((rr i : Int) < 0) = false := decide_eq_false (by omega)
            have HFL := Lib.hid (HF3.out i hiN hm)
            clear HZ hm
            go_wp2_with fail
            go_roundg q2
            case measure => omega
            case rel => exact ⟨i + 1, by omega, by go_num, by rw [HFL.out], Lib.hid (HR.out.congr (fun j _ => by
              by_cases e : j = i
              · rw [if_pos e, if_pos (by omega), e]
              · rw [if_neg e]
                by_cases e2 : j < i
                · rw [if_pos e2, if_pos (by omega)]
                · rw [if_neg e2, if_neg (by omega)])), HBR⟩
          · have HFL := Lib.hid (HF4.out i hiN hm)
            have hfi := HF5.out i
            obtain ⟨y, hy⟩ : ∃ y, fl i = y := ⟨_, rfl⟩
            rw [hy] at HFL hfi ⊢
            have hw : IntKind.i64.wrap ((y : Int) + 1) = (y : Int) + 1 := by rw [IntWalk.i64_in _ (by omega)]
            clear HZ hm hy
            go_wp2_with fail
            go_roundg q2
            case measure => omega
            case rel => exact ⟨i + 1, by omega, by go_num, by rw [HFL.out.2]; go_num, Lib.hid ((HR.out.set i (y : Int)).congr (fun j _ => by
              try dsimp only
              by_cases e : j = i
              · rw [if_pos e, if_pos (by omega), e, HFL.out.1]
              · rw [if_neg e, if_neg e]
                by_cases e2 : j < i
                · rw [if_pos e2, if_pos (by omega)]
                · rw [if_neg e2, if_neg (by omega)])), Lib.hid (HBR.out.setCell (p := ⟨R, i, none⟩) (Nat.le_refl _) _)⟩
end Go.Proofs.YtiockphjnkehnaaGreatDoor

namespace Go.Proofs.YtiockphjnkehnaaGreatDoor
open Go Go.Sort Go.RowKit Go.Shelf
set_option linter.unusedSimpArgs false
set_option linter.unusedVariables false

theorem flat_ecl (es : List E3) : (flatK encE 3 es.toArray).toList = ecl es := by
  apply List.ext_getElem?
  intro t
  have hs : (flatK encE 3 es.toArray).size = es.length * 3 := by rw [size_flatK]; simp
  by_cases ht : t < es.length * 3
  · have hg := get_flatK encE 3 es.toArray t (by simpa using ht)
    rw [getElem!_pos _ t (by rw [hs]; exact ht)] at hg
    rw [Array.getElem?_toList, Array.getElem?_eq_getElem (by rw [hs]; exact ht), hg]
    obtain ⟨i, hi⟩ : ∃ i, t / 3 = i := ⟨_, rfl⟩
    obtain ⟨c, hc⟩ : ∃ c, t % 3 = c := ⟨_, rfl⟩
    rw [hi, hc]
    have hil : i < es.length := by omega
    obtain ⟨k1, k2, k3⟩ := ecl_at (List.getElem?_eq_getElem hil)
    have he : es.toArray[i]! = es[i] := by rw [getElem!_pos es.toArray i (by simpa using hil)]; simp
    rw [he]
    rcases (show c = 0 ∨ c = 1 ∨ c = 2 by omega) with rfl | rfl | rfl
    · rw [show t = i * 3 by omega, k1]; rfl
    · rw [show t = i * 3 + 1 by omega, k2]; rfl
    · rw [show t = i * 3 + 2 by omega, k3]; rfl
  · rw [List.getElem?_eq_none (by rw [Array.length_toList, hs]; omega), List.getElem?_eq_none (by rw [ecl_len]; omega)]
theorem holdsE {w : World} {g : Nat} {cur : Array Value} {t : TypeId} {es : List E3} (hb : w.heap[g]? = some (.cells cur t (0, 0))) (ht : cur.toList.take (es.length * 3) = ecl es) : HoldsK encE 3 w g 0 es.toArray := by
  intro j hj
  have hj' : j < es.length * 3 := by rw [size_flatK] at hj; simpa using hj
  refine ⟨?_, by simp [World.frozen?, hb]⟩
  have h1 : (cur.toList.take (es.length * 3))[j]? = (flatK encE 3 es.toArray).toList[j]? := by rw [ht, flat_ecl]
  rw [List.getElem?_take_of_lt hj'] at h1
  simp only [World.cell?, hb, Nat.zero_add]
  simp only [Option.isSome_none, Bool.false_eq_true, if_false]
  rw [← Array.getElem?_toList, h1, Array.getElem?_toList, Array.getElem?_eq_getElem hj, getElem!_pos _ j hj]
  rfl
theorem heap_sortedE {w : World} {g n : Nat} {os : Array Obj} {cur : Array Value} {e : TypeId} {fr : Nat × Nat} (d : Array E3) (hb : w.heap[g]? = some (.cells cur e fr)) :
    (grow (putRowK encE 3 (Sort.ahead w n) g 0 d) os).heap[g]? = some (.cells (putCells id 0 (flatK encE 3 d) cur) e fr) := by
  have hg : g < w.heap.size := (Array.getElem?_eq_some_iff.1 hb).1
  rw [heap_grow_old _ _ (by simpa [putRowK] using hg)]
  simp [putRowK, putRow, mapBlock, Sort.ahead, Array.getElem?_modify, hb, onCells]
theorem grownBy_sortedE {w : World} {g n : Nat} {os : Array Obj} (d : Array E3) : w.grownBy (grow (putRowK encE 3 (Sort.ahead w n) g 0 d) os) (some g) := by
  refine ⟨rfl, rfl, rfl, by simp [putRowK], fun k hk hne => ?_⟩
  rw [heap_grow_old _ _ (by simpa [putRowK] using hk)]
  have : g ≠ k := fun e => hne (by rw [e])
  simp [putRowK, putRow, mapBlock, Sort.ahead, Array.getElem?_modify, this]
theorem take_putCellsE (cur : Array Value) (es : List E3) (h : es.length * 3 ≤ cur.size) : (putCells id 0 (flatK encE 3 es.toArray) cur).toList.take (es.length * 3) = ecl es := by
  rw [← flat_ecl]
  apply List.ext_getElem?
  intro j
  have hs : (flatK encE 3 es.toArray).size = es.length * 3 := by rw [size_flatK]; simp
  by_cases hj : j < es.length * 3
  · rw [List.getElem?_take_of_lt hj, Array.getElem?_toList, Array.getElem?_toList]
    rw [Array.getElem?_eq_getElem (xs := flatK encE 3 es.toArray) (by rw [hs]; exact hj)]
    have : j < (putCells id 0 (flatK encE 3 es.toArray) cur).size := by simp [putCells]; omega
    rw [Array.getElem?_eq_getElem this]
    simp only [putCells, Array.getElem_mapIdx, Nat.zero_le, true_and, Nat.zero_add, Nat.sub_zero, id]
    rw [if_pos (by rw [hs]; exact hj), getElem!_pos _ j (by rw [hs]; exact hj)]
  · rw [List.getElem?_take_eq_none (by omega), List.getElem?_eq_none (by rw [Array.length_toList, hs]; omega)]
theorem edges_sorted {w : World} {base g cap n : Nat} {os : Array Obj} {cur : Array Value} {es ts : List E3} (hl : ts.length = es.length) (hbase : base ≤ g) (hb : w.heap[g]? = some (.cells cur 39 (0, 0)))
    (h1 : es.length ≤ cap) (h2 : cap ≤ maxLen) (h3 : cur.size = cap * 3) :
    EdgesAt (grow (putRowK encE 3 (Sort.ahead w n) g 0 ts.toArray) os) base (.slice (some ⟨g, 0, none⟩) ts.length cap) ts :=
  ⟨ecl_len ts, .inr ⟨g, cap, _, rfl, hbase, heap_sortedE _ hb, by omega, h2, by simp [putCells, h3], take_putCellsE cur ts (by omega)⟩⟩
/-! ### A world behind another one, of which it is known how far it has drawn -/
def Bd (w W : World) : Prop := Below w.heap.size w W ∧ w.drawn ≤ W.drawn
theorem Bd.refl (w : World) : Bd w w := ⟨Below.refl _ _, Nat.le_refl _⟩
theorem Bd.alloc {w W : World} (h : Bd w W) (o : Obj) : Bd w (W.alloc o) := ⟨h.1.alloc h.1.size o, h.2⟩
theorem Bd.one (w : World) (o : Obj) : Bd w (w.alloc o) := (Bd.refl w).alloc o
theorem Bd.trans {w W X : World} (h : Bd w W) (k : Bd W X) : Bd w X := ⟨below_more h.1 (Nat.le_refl _) k.1, Nat.le_trans h.2 k.2⟩
theorem Bd.drew {w W : World} (h : Bd w W) : Bd w W.drew := ⟨h.1.drew, Nat.le_trans h.2 (Nat.le_succ _)⟩
theorem Bd.drewN {w W : World} (h : Bd w W) (q : Nat) : Bd w (W.drewN q) := ⟨below_drewM h.1 q, Nat.le_trans h.2 (Nat.le_add_right _ _)⟩
theorem Bd.grow {w W : World} (h : Bd w W) : ∃ q os, W = Sort.grow (w.drewN q) os := by
  refine ⟨W.drawn - w.drawn, W.heap.extract w.heap.size W.heap.size, ?_⟩
  obtain ⟨⟨h1, h2, h3, h4, h5⟩, h6⟩ := h
  obtain ⟨hp, tp, dr, os, out⟩ := W
  obtain ⟨hp0, tp0, dr0, os0, out0⟩ := w
  dsimp only at *
  subst h1 h2 h3
  have e1 : dr0 + (dr - dr0) = dr := by omega
  have e2 : hp0 ++ hp.extract hp0.size hp.size = hp := by
    apply Array.ext_getElem?
    intro k
    rcases Nat.lt_or_ge k hp0.size with hk | hk
    · rw [Array.getElem?_append_left hk]; exact (h5 k hk).symm
    · rw [Array.getElem?_append_right hk, Array.getElem?_extract]
      split
      · rw [show hp0.size + (k - hp0.size) = k by omega]
      · rw [Array.getElem?_eq_none (by omega)]
  simp only [Sort.grow, World.drewN, e1, e2]
end Go.Proofs.YtiockphjnkehnaaGreatDoor
