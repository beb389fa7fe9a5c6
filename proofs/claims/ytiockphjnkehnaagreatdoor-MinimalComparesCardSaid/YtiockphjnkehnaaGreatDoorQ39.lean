/- What grooveref13.first returns where both ways are asked for: the first list of labels that exactly one of two states has. Conditions: the edges of both graphs can be read; the graphs are valid and deterministic. -/
import Derived.Test.YtiockphjnkehnaaGreatDoorQ30
import Derived.Test.YtiockphjnkehnaaGreatDoorQ27
import Derived.Deep.CutBlock
import Derived.Deep.Cut

namespace Go.Proofs.YtiockphjnkehnaaGreatDoor
open Go.RowKit
set_option linter.unusedSimpArgs false
set_option linter.unusedVariables false

theorem recQ_lenJ {R : List Rec} {Q : List (List Int × (Nat × Nat))} (h : RecQ R Q) : ∀ (n k : Nat) (q : List Int × (Nat × Nat)), k ≤ n → Q[k]? = some q → q.1.length ≤ k
  | 0, k, q, hk, hq => by
    obtain rfl : k = 0 := by omega
    obtain ⟨s, t, h1, -⟩ := h.root
    rw [h1] at hq
    injection hq with hq
    subst hq
    exact Nat.le_refl _
  | n + 1, k, q, hk, hq => by
    rcases Nat.eq_zero_or_pos k with h0 | h0
    · exact recQ_lenJ h n k q (by omega) hq
    · have hl := h.len
      have hi := (List.getElem?_eq_some_iff.1 hq).1
      obtain ⟨r, hr⟩ : ∃ r, R[k]? = some r := ⟨_, List.getElem?_eq_getElem (by omega)⟩
      obtain ⟨h1, p, h2, h3⟩ := h.par k r q h0 hr hq
      have := recQ_lenJ h n _ p (by omega) h2
      rw [h3, List.length_append, List.length_singleton]
      omega
def qOf (P : List Plc) : List (List Int × (Nat × Nat)) := P.map Prod.snd
theorem qOf_len (P : List Plc) : (qOf P).length = P.length := by unfold qOf; rw [List.length_map]
theorem qOf_at {P : List Plc} {i : Nat} {p : Plc} (h : P[i]? = some p) : (qOf P)[i]? = some p.2 := by unfold qOf; rw [List.getElem?_map, h]; rfl
theorem qOf_snoc (P : List Plc) (p : Plc) : qOf (P ++ [p]) = qOf P ++ [p.2] := by unfold qOf; rw [List.map_append]; rfl
theorem qOf_mem {P : List Plc} {x : Nat × Nat} : (∃ p ∈ P, p.2.2 = x) ↔ ∃ q ∈ qOf P, q.2 = x := by
  unfold qOf
  constructor
  · rintro ⟨p, hp, e⟩; exact ⟨p.2, List.mem_map.2 ⟨p, hp, rfl⟩, e⟩
  · rintro ⟨q, hq, e⟩
    obtain ⟨p, hp, rfl⟩ := List.mem_map.1 hq
    exact ⟨p, hp, e⟩
theorem place_oneJ (W : World) (na nb s t : Nat) : QA W.heap.size na nb [(.slice none 0 0, ([], (s, t)))] (.slice (some ⟨W.heap.size, 0, none⟩) 1 1) (W.alloc (.cells #[.int .i64 (tgV na s), .int .i64 (tgV nb t), .slice none 0 0] 116)) := by
  refine ⟨⟨rfl, .inr ⟨W.heap.size, 1, #[.int .i64 (tgV na s), .int .i64 (tgV nb t), .slice none 0 0], rfl, Nat.le_refl _, heap_alloc_new W _, Nat.le_refl _, by unfold maxLen; omega, rfl, rfl⟩⟩, fun p hp => ?_⟩
  rw [List.mem_singleton] at hp
  subst hp
  exact ints_nil _ _
theorem BoxG.ltJ {W : World} {p : Nat} {L S : Int} {v : Value} (h : BoxG W p L S v) : p < W.heap.size := World.block_lt_of_cell? W ⟨p, 0, none⟩ h.1
theorem BoxG.grownJ {W W' : World} {p : Nat} {L S : Int} {v : Value} {row : Option Nat} (h : BoxG W p L S v) (hg : W.grownBy W' row) (hne : row ≠ some p) : BoxG W' p L S v := by
  have hb := hg.block p h.ltJ (fun e => hne e.symm)
  exact ⟨(World.cell?_of_block hb).trans h.1, (World.cell?_of_block hb).trans h.2.1, (World.cell?_of_block hb).trans h.2.2⟩
set_option maxRecDepth 100000 in
set_option maxHeartbeats 12800000 in
theorem rfirst_xo (La Lb na nb s t : Nat) (ea eb : List E3) (va vb : Value) (w : World) (hra : EdgesRd w va ea) (hrb : EdgesRd w vb eb) (hva : VG (La : Int) (na : Int) ea) (hvb : VG (Lb : Int) (nb : Int) eb) (hda : detE ea = true) (hdb : detE eb = true) (hs : s ≤ na) (ht : t ≤ nb) (M : Nat) (hM : max La Lb = M) :
    Calls Tryz.prog 64 #[grV (La : Int) (na : Int) va, grV (Lb : Int) (nb : Int) vb, .int .i64 (tgV na s), .int .i64 (tgV nb t), .bool true] w (FWOut (fun x y : Bool => x != y) (mT na ea) (mT nb eb) na nb M s t w) := by
  obtain ⟨i0, hi, hz0, hz1, hz2⟩ := info_parts Tryz.infoPlace
  obtain ⟨D, hDD⟩ : ∃ D : Bool → Bool → Bool, D = (fun x y : Bool => x != y) := ⟨_, rfl⟩
  have hD0 : D false false = false := by rw [hDD]; rfl
  have HD := Lib.hid hDD
  rw [← hDD]
  clear hDD
  have HA := Lib.hid (fun x l => mT_le hva.ok x l)
  have HB := Lib.hid (fun x l => mT_le hvb.ok x l)
  have HA0 := Lib.hid (fun l => mT_none hva.ok l)
  have HB0 := Lib.hid (fun l => mT_none hvb.ok l)
  have hna : na ≤ 64 := by have := hva.s2; omega
  have hnb : nb ≤ 64 := by have := hvb.s2; omega
  have hM256 : M ≤ 256 := by have := hva.l2; have := hvb.l2; omega
  have hN0 : (na + 1) * (nb + 1) ≤ 65 * 65 := Nat.mul_le_mul (by omega) (by omega)
  have hN : (na + 1) * (nb + 1) ≤ 4225 := Nat.le_trans hN0 (show 65 * 65 ≤ 4225 by omega)
  clear hN0
  obtain ⟨a, ha⟩ : ∃ a, mT na ea = a := ⟨_, rfl⟩
  obtain ⟨b, hb⟩ : ∃ b, mT nb eb = b := ⟨_, rfl⟩
  have HTA : Hid (∀ (W : World) (j l : Nat), EdgesRd W va ea → Calls Tryz.prog 61 #[grV (La : Int) (na : Int) va, .int .i64 (j : Int), .int .i64 (l : Int)] W fun e W' => e = .returned (.int .i64 (tgV na (a j l))) ∧ Below W.heap.size W W') := Lib.hid (fun W j l h => by
    have k := rtarget_any La na j l ea va W h hva hda
    rw [ha] at k
    exact k)
  have HTB : Hid (∀ (W : World) (j l : Nat), EdgesRd W vb eb → Calls Tryz.prog 61 #[grV (Lb : Int) (nb : Int) vb, .int .i64 (j : Int), .int .i64 (l : Int)] W fun e W' => e = .returned (.int .i64 (tgV nb (b j l))) ∧ Below W.heap.size W W') := Lib.hid (fun W j l h => by
    have k := rtarget_any Lb nb j l eb vb W h hvb hdb
    rw [hb] at k
    exact k)
  rw [ha] at HA HA0
  rw [hb] at HB HB0
  rw [ha, hb]
  have hmx : ∀ (W : World) (ts : Array TypeId) (t : TypeId), (Builtin.max_ ts t #[.int .i64 (La : Int), .int .i64 (Lb : Int)]).run Tryz.prog W = .ok (.int .i64 (M : Int)) W := fun W ts t => run_maxH .i64 La Lb M hM W ts t
  have HRA := Lib.hid hra
  have HRB := Lib.hid hrb
  have S0 := Lib.hid (SQ.start D a b M hs ht)
  have b1 := below1 w (.cells #[.int .i64 (La : Int), .int .i64 (na : Int), va] 24)
  have g1 := BoxG.new w (La : Int) (na : Int) va 24
  have b2 := below1 (w.alloc (.cells #[.int .i64 (La : Int), .int .i64 (na : Int), va] 24)) (.cells #[.int .i64 (Lb : Int), .int .i64 (nb : Int), vb] 24)
  have g2 := BoxG.new (w.alloc (.cells #[.int .i64 (La : Int), .int .i64 (na : Int), va] 24)) (Lb : Int) (nb : Int) vb 24
  rw [World.size_alloc] at g2
  have GA := Lib.hid (g1.keep b2)
  have GB := Lib.hid g2
  have BH := Lib.hid (below_more b1 (Nat.le_refl _) b2)
  obtain ⟨aa, ca, rfl⟩ := hra.form
  obtain ⟨ab, cb, rfl⟩ := hrb.form
  obtain ⟨Wh, hWh⟩ : ∃ Wh, ((w.alloc (.cells #[.int .i64 (La : Int), .int .i64 (na : Int), .slice aa ea.length ca] 24)).alloc (.cells #[.int .i64 (Lb : Int), .int .i64 (nb : Int), .slice ab eb.length cb] 24)) = Wh := ⟨_, rfl⟩
  have zh : Wh.heap.size = w.heap.size + 2 := by rw [← hWh, World.size_alloc, World.size_alloc]
  have P1 := place_oneJ Wh na nb s t
  rw [zh] at P1
  have Q0 := Lib.hid P1
  have BW0 := Lib.hid (show Below (w.heap.size + 2) Wh (Wh.alloc (.cells #[.int .i64 (tgV na s), .int .i64 (tgV nb t), .slice none 0 0] 116)) by rw [← zh]; exact below1 _ _)
  rw [hWh] at GA GB BH
  have HWH := Lib.hid hWh
  obtain ⟨X0, hX0⟩ : ∃ X0, tgV na s = X0 := ⟨_, rfl⟩
  obtain ⟨Y0, hY0⟩ : ∃ Y0, tgV nb t = Y0 := ⟨_, rfl⟩
  rw [hX0, hY0] at Q0 BW0 ⊢
  have HZH := Lib.hid zh
  clear hra hrb hva hvb hda hdb hs ht ha hb b1 b2 g1 g2 hWh P1 hX0 hY0 zh
  go_enter Tryz.func64, Tryz.ntmps64
  go_wp2_with fail
  rw [HWH.out]
  clear HWH
  obtain ⟨N, hNN⟩ : ∃ N, (na + 1) * (nb + 1) = N := ⟨_, rfl⟩
  have HNN := Lib.hid hNN
  rw [hNN] at hN
  clear hNN
  obtain ⟨lo, hlo⟩ : ∃ lo, w.heap.size + 2 = lo := ⟨_, rfl⟩
  rw [hlo] at Q0 BW0 HZH ⊢
  have HLO := Lib.hid hlo
  generalize (Wh.alloc (.cells #[.int .i64 X0, .int .i64 Y0, .slice none 0 0] 116)) = W0 at *
  have HSZ : Hid (∀ W, Below lo Wh W → lo ≤ W.heap.size) := Lib.hid (fun W h => by rw [← HZH.out]; exact h.size)
  have HGA : Hid (∀ W, Below lo Wh W → BoxG W w.heap.size (La : Int) (na : Int) (.slice aa ea.length ca)) := Lib.hid (fun W h => by rw [← HZH.out] at h; exact GA.out.keep h)
  have HGB : Hid (∀ W, Below lo Wh W → BoxG W (w.heap.size + 1) (Lb : Int) (nb : Int) (.slice ab eb.length cb)) := Lib.hid (fun W h => by rw [← HZH.out] at h; exact GB.out.keep h)
  have HBW : Hid (∀ W, Below lo Wh W → Below w.heap.size w W) := Lib.hid (fun W h => BH.out.trans (h.mono (by rw [← HLO.out]; omega)))
  clear GA GB BH hlo
  go_loopg [12, 13, 14, 15, 16, 17] N (fun q s12 s13 s14 s15 s16 s17 wx => ∃ (i : Nat) (P : List Plc) (R : List Rec), i + q = N ∧ s13 = .int .i64 (i : Int) ∧ Hid (SQ D a b na nb M s t i 0 R (qOf P)) ∧ Hid (QA lo na nb P s12 wx) ∧ Hid (Below lo Wh wx))
  case atStart => exact ⟨0, _, _, by omega, rfl, S0, Q0, BW0⟩
  case round =>
    clear S0 Q0 BW0
    obtain ⟨i, P, R, hiq, rfl, HS, HQ, HW⟩ := hrel
    have hsz := HS.out.size
    rw [HNN.out, qOf_len] at hsz
    obtain ⟨av, cv, hv⟩ := own_slice HQ.out.row
    subst hv
    obtain ⟨n, hn⟩ : ∃ n, P.length = n := ⟨_, rfl⟩
    rw [hn] at HQ hsz ⊢
    have HN := Lib.hid hn
    by_cases hin : i < n
    · obtain ⟨q, rfl⟩ : ∃ q, gk = q + 1 := ⟨gk - 1, by omega⟩
      obtain ⟨p, hp⟩ : ∃ p, P[i]? = some p := ⟨_, List.getElem?_eq_getElem (by omega)⟩
      obtain ⟨g, c9, hv, -, -⟩ := World.ownsRow.form HQ.out.row (by omega)
      injection hv with e1 e2 e3
      subst e1
      obtain ⟨k1, k2, k3⟩ := QA.cells HQ.out hn hp
      have hwp := HQ.out.wd p (List.mem_of_getElem? hp)
      have hbx := HS.out.box p.2 (List.mem_of_getElem? (qOf_at hp))
      have HPP := Lib.hid hp
      obtain ⟨u, k, xs, xt⟩ := p
      obtain ⟨au, cu, hu⟩ := hwp.slice
      dsimp only at hu hbx k1 k2 k3 hwp
      subst hu
      obtain ⟨X, hX⟩ : ∃ X, tgV na xs = X := ⟨_, rfl⟩
      obtain ⟨Y, hY⟩ : ∃ Y, tgV nb xt = Y := ⟨_, rfl⟩
      rw [hX] at k1
      rw [hY] at k2
      have HXE := Lib.hid hX
      have HYE := Lib.hid hY
      have HBX := Lib.hid hbx
      have j1 : (i : Int) < (n : Int) := by omega
      have bb := below1 wr (.cells #[.int .i64 X, .int .i64 Y, .slice au k.length cu] 116)
      have B1 := Lib.hid (BoxG.new wr X Y (.slice au k.length cu) 116)
      have Q1 := Lib.hid (HQ.out.keep bb)
      have W1 := Lib.hid (HW.out.trans (bb.mono (HSZ.out _ HW.out)))
      have HOB := Lib.hid (show ∀ z, (Value.slice (some ⟨g, 0, none⟩) n cv).ownBlock = some z → z ≠ wr.heap.size from fun z hz => by have := (HQ.out.row.lt z hz).2; omega)
      have hX2 : X < 0 ↔ xs = na := by rw [← hX]; exact tgV_neg
      have hY2 : Y < 0 ↔ xt = nb := by rw [← hY]; exact tgV_neg
      clear hX hY hp e2 e3 hwp hbx bb hn
      go_upto_region 6 with fail
      clear k1 k2 k3
      obtain ⟨P0, hP0⟩ : ∃ P0, wr.heap.size = P0 := ⟨_, rfl⟩
      rw [hP0] at B1 HOB ⊢
      clear hP0 HQ HW
      generalize (wr.alloc (.cells #[.int .i64 X, .int .i64 Y, .slice au k.length cu] 116)) = V at *
      obtain ⟨x1, x2, x3⟩ := id B1.out
      go_cut [52] (fun s52 wx => s52 = .bool (decide (xs ≠ na) != decide (xt ≠ nb)) ∧ wx = V)
      case first =>
        by_cases h1 : xs = na <;> by_cases h2 : xt = nb
        · have d1 : decide (0 ≤ X) = false := decide_eq_false (by have := hX2.2 h1; omega)
          have d2 : decide (X < 0) = true := decide_eq_true (hX2.2 h1)
          have d3 : decide (0 ≤ Y) = false := decide_eq_false (by have := hY2.2 h2; omega)
          go_wp2_with fail
          go_meet
          exact ⟨by rw [h1, h2]; simp, rfl⟩
        · have d1 : decide (0 ≤ X) = false := decide_eq_false (by have := hX2.2 h1; omega)
          have d2 : decide (X < 0) = true := decide_eq_true (hX2.2 h1)
          have d3 : decide (0 ≤ Y) = true := decide_eq_true (by have h := mt hY2.1 h2; omega)
          go_wp2_with fail
          go_meet
          exact ⟨by rw [h1]; simp [h2], rfl⟩
        · have d1 : decide (0 ≤ X) = true := decide_eq_true (by have h := mt hX2.1 h1; omega)
          have d2 : decide (Y < 0) = true := decide_eq_true (hY2.2 h2)
          go_wp2_with fail
          go_meet
          exact ⟨by rw [h2]; simp [h1], rfl⟩
        · have d1 : decide (0 ≤ X) = true := decide_eq_true (by have h := mt hX2.1 h1; omega)
          have d2 : decide (X < 0) = false := decide_eq_false (by have h := mt hX2.1 h1; omega)
          have d3 : decide (Y < 0) = false := decide_eq_false (by have h := mt hY2.1 h2; omega)
          go_wp2_with fail
          go_meet
          exact ⟨by simp [h1, h2], rfl⟩
      case rest =>
        obtain ⟨rfl, rfl⟩ := hcut
        have HP2 := Lib.hid (qOf_at HPP.out)
        cases hd : (decide (xs ≠ na) != decide (xt ≠ nb)) with
        | true =>
          have HF := Lib.hid (HS.out.found hD0 HA0.out HB0.out HP2.out (show D (decide (xs ≠ na)) (decide (xt ≠ nb)) = true by rw [HD.out]; exact hd))
          have HI := Lib.hid (Q1.out.wd _ (List.mem_of_getElem? HPP.out)).rd
          have HBB := Lib.hid (HBW.out _ W1.out)
          clear hd
          go_wp2_with fail
          exact bodyPost_ret (v := .tuple #[.slice au k.length cu, .bool true]) (by simp [results, Tryz.results64, go_sem]) rfl ⟨au, cu, k, true, rfl, HI.out, HF.out, HBB.out⟩
        | false =>
          have HNX : Hid (∀ R' P', SQ D a b na nb M s t i M R' (qOf P') → P'[i]? = some (.slice au k.length cu, (k, (xs, xt))) → SQ D a b na nb M s t (i + 1) 0 R' (qOf P')) := Lib.hid (fun R' P' h h2 => h.next (qOf_at h2) (show D (decide (xs ≠ na)) (decide (xt ≠ nb)) = false by rw [HD.out]; exact hd))
          clear hd
          go_wp2_with fail
          clear x1 x2 x3
          go_loopg [12, 15, 16, 17] M (fun q2 s12 s15 s16 s17 wx => ∃ (c : Nat) (P' : List Plc) (R' : List Rec), c + q2 = M ∧ s15 = .int .i64 (c : Int) ∧ Hid (SQ D a b na nb M s t i c R' (qOf P')) ∧ Hid (P'[i]? = some (.slice au k.length cu, (k, (xs, xt)))) ∧ Hid (QA lo na nb P' s12 wx) ∧ Hid (Below lo Wh wx) ∧ Hid (BoxG wx P0 X Y (.slice au k.length cu)) ∧ Hid (∀ z, s12.ownBlock = some z → z ≠ P0))
          case atStart => exact ⟨0, P, R, by omega, rfl, HS, HPP, Q1, W1, B1, HOB⟩
          case round =>
            clear HS HPP Q1 W1 B1 HOB HP2 HN
            obtain ⟨c, P, R, hcq, rfl, HS, HPP, HQ, HW, HBx, HOB⟩ := hrel
            obtain ⟨x1, x2, x3⟩ := id HBx.out
            obtain ⟨y1, y2, y3⟩ := HGA.out _ HW.out
            obtain ⟨z1, z2, z3⟩ := HGB.out _ HW.out
            obtain ⟨av, cv2, hv⟩ := own_slice HQ.out.row
            subst hv
            have hsz := HS.out.size
            rw [HNN.out, qOf_len] at hsz
            obtain ⟨n2, hn2⟩ : ∃ n2, P.length = n2 := ⟨_, rfl⟩
            rw [hn2] at HQ HOB hsz ⊢
            have HN := Lib.hid hn2
            clear hn2
            rcases gk with _ | q2
            · obtain rfl : c = M := by omega
              have j0 : ¬ ((c : Int) < (c : Int)) := by omega
              have HS2 := Lib.hid (HNX.out R P HS.out HPP.out)
              have HQ2 := Lib.hid (show QA lo na nb P (.slice av P.length cv2) wr by rw [HN.out]; exact HQ.out)
              go_wp2_with fail
              go_roundg q
              case measure => omega
              case rel => exact ⟨i + 1, P, R, by omega, by go_num, HS2, HQ, HW⟩
            · have j1 : (c : Int) < (M : Int) := by omega
              have hcM : c < M := by omega
              obtain ⟨A, hA⟩ : ∃ A, a xs c = A := ⟨_, rfl⟩
              obtain ⟨B, hB⟩ : ∃ B, b xt c = B := ⟨_, rfl⟩
              have hAn : A ≤ na := by rw [← hA]; exact HA.out xs c
              have hBn : B ≤ nb := by rw [← hB]; exact HB.out xt c
              have HAE := Lib.hid hA
              have HBE := Lib.hid hB
              have HTA2 := Lib.hid (fun W (h : EdgesRd W (.slice aa ea.length ca) ea) => hA ▸ HTA.out W xs c h)
              have HTB2 := Lib.hid (fun W (h : EdgesRd W (.slice ab eb.length cb) eb) => hB ▸ HTB.out W xt c h)
              have hAna : xs = na → A = na := fun e => by rw [← hA, e]; exact HA0.out c
              have hBnb : xt = nb → B = nb := fun e => by rw [← hB, e]; exact HB0.out c
              obtain ⟨X', hX'⟩ : ∃ X', tgV na A = X' := ⟨_, rfl⟩
              obtain ⟨Y', hY'⟩ : ∃ Y', tgV nb B = Y' := ⟨_, rfl⟩
              rw [hX'] at HTA2
              rw [hY'] at HTB2
              have HXE' := Lib.hid hX'
              have HYE' := Lib.hid hY'
              have hX3 : X' < 0 ↔ A = na := by rw [← hX']; exact tgV_neg
              have hY3 : Y' < 0 ↔ B = nb := by rw [← hY']; exact tgV_neg
              have hXn : A = na → X' = -1 := fun e => by rw [← hX', e]; exact tgV_none na
              have hYn : B = nb → Y' = -1 := fun e => by rw [← hY', e]; exact tgV_none nb
              have hXs : xs ≠ na → X = (xs : Int) := fun e => by rw [← HXE.out]; exact tgV_some e
              have hYs : xt ≠ nb → Y = (xt : Int) := fun e => by rw [← HYE.out]; exact tgV_some e
              have HER := Lib.hid (fun W (h : Below lo Wh W) => HRA.out.keep (HBW.out W h))
              have HEB := Lib.hid (fun W (h : Below lo Wh W) => HRB.out.keep (HBW.out W h))
              clear hA hB hX' hY'
              go_upto_if 66 with fail
              go_cut [16] (fun s16 wx => s16 = .int .i64 X' ∧ Hid (Below wr.heap.size wr wx))
              case first =>
                by_cases h1 : xs = na
                · have d1 : decide (0 ≤ X) = false := decide_eq_false (by have := hX2.2 h1; omega)
                  have e1 := hXn (hAna h1)
                  go_wp2_with fail
                  go_meet
                  exact ⟨by rw [e1], Lib.hid (Below.refl _ _)⟩
                · have e1 := hXs h1
                  subst e1
                  have d1 : decide ((0 : Int) ≤ (xs : Int)) = true := decide_eq_true (by omega)
                  go_wp2_with (go_at_call 61; (with_reducible refine (HTA2.out _ (HER.out _ HW.out)).mono ?_); rintro e0 Y1 ⟨rfl, q1⟩)
                  go_meet
                  exact ⟨rfl, Lib.hid q1⟩
              case rest =>
                obtain ⟨rfl, KB1⟩ := hcut
                obtain ⟨Wc1, rfl⟩ : ∃ Wc1, Wc1 = wc := ⟨_, rfl⟩
                have HW1 := Lib.hid (HW.out.trans (KB1.out.mono (HSZ.out _ HW.out)))
                obtain ⟨x1', x2', x3'⟩ := HBx.out.keep KB1.out
                obtain ⟨z1', z2', z3'⟩ := HGB.out _ HW1.out
                clear x1 x2 x3 y1 y2 y3 z1 z2 z3
                go_upto_if 74 with fail
                go_cut [17] (fun s17 wx => s17 = .int .i64 Y' ∧ Hid (Below Wc1.heap.size Wc1 wx))
                case first =>
                  by_cases h1 : xt = nb
                  · have d1 : decide (0 ≤ Y) = false := decide_eq_false (by have := hY2.2 h1; omega)
                    have e1 := hYn (hBnb h1)
                    go_wp2_with fail
                    go_meet
                    exact ⟨by rw [e1], Lib.hid (Below.refl _ _)⟩
                  · have e1 := hYs h1
                    subst e1
                    have d1 : decide ((0 : Int) ≤ (xt : Int)) = true := decide_eq_true (by omega)
                    go_wp2_with (go_at_call 61; (with_reducible refine (HTB2.out _ (HEB.out _ HW1.out)).mono ?_); rintro e0 Y1 ⟨rfl, q1⟩)
                    go_meet
                    exact ⟨rfl, Lib.hid q1⟩
                case rest =>
                  obtain ⟨rfl, KB2⟩ := hcut
                  obtain ⟨Z, rfl⟩ : ∃ Z, Z = wc := ⟨_, rfl⟩
                  have KZ := Lib.hid (KB1.out.trans (KB2.out.mono KB1.out.size))
                  have HWZ := Lib.hid (HW1.out.trans (KB2.out.mono (HSZ.out _ HW1.out)))
                  have HQZ := Lib.hid (HQ.out.keep KZ.out)
                  have HBZ := Lib.hid (HBx.out.keep KZ.out)
                  have HRE : Hid (∀ E, decide (∃ p ∈ P, p.2.2 = (A, B)) = E → Calls Tryz.prog 90 #[.slice av n2 cv2, .int .i64 X', .int .i64 Y'] Z fun e w' => e = .returned (.bool E) ∧ w' = Z) := Lib.hid (fun E hE => by
                    have h := reached_any lo na nb A B P (.slice av n2 cv2) Z HQZ.out (fun p hp => HS.out.box p.2 (List.mem_map.2 ⟨p, hp, rfl⟩)) hAn hBn (by rw [HN.out]; omega)
                    rw [HXE'.out, HYE'.out, hE] at h
                    exact h)
                  obtain ⟨E, hE⟩ : ∃ E, decide (∃ p ∈ P, p.2.2 = (A, B)) = E := ⟨_, rfl⟩
                  have HEE := Lib.hid hE
                  have HR2 := Lib.hid (HRE.out E hE)
                  clear hXn hYn hXs hYs hAna hBnb x1' x2' x3' z1' z2' z3' HQ HBx HW HW1 KB1 KB2 KZ hE HRE HTA2 HTB2 HER HEB
                  go_upto_region 16 with fail
                  go_cut [95] (fun s95 wx => s95 = .bool (!(decide (A = na) && decide (B = nb)) && !E) ∧ wx = Z)
                  case first =>
                    by_cases h1 : A = na
                    · have d1 : decide (0 ≤ X') = false := decide_eq_false (by have := hX3.2 h1; omega)
                      by_cases h2 : B = nb
                      · have d2 : decide (0 ≤ Y') = false := decide_eq_false (by have := hY3.2 h2; omega)
                        go_wp2_with fail
                        go_meet
                        exact ⟨by rw [h1, h2]; simp, rfl⟩
                      · have d2 : decide (0 ≤ Y') = true := decide_eq_true (by have h := mt hY3.1 h2; omega)
                        go_wp2_with (go_at_call 90; (with_reducible refine HR2.out.mono ?_); rintro e0 Y1 ⟨rfl, rfl⟩)
                        go_meet
                        exact ⟨by simp [h2], rfl⟩
                    · have d1 : decide (0 ≤ X') = true := decide_eq_true (by have h := mt hX3.1 h1; omega)
                      go_wp2_with (go_at_call 90; (with_reducible refine HR2.out.mono ?_); rintro e0 Y1 ⟨rfl, rfl⟩)
                      go_meet
                      exact ⟨by simp [h1], rfl⟩
                  case rest =>
                    obtain ⟨rfl, hZ⟩ := hcut
                    have hZ2 := hZ.symm
                    clear hZ
                    subst hZ2
                    have HP2 := Lib.hid (qOf_at HPP.out)
                    cases hcd : (!(decide (A = na) && decide (B = nb)) && !E) with
                    | false =>
                      have HS2 := Lib.hid (show SQ D a b na nb M s t i (c + 1) R (qOf P) by
                        by_cases h1 : A = na ∧ B = nb
                        · exact HS.out.skip0 HP2.out (show a xs c = na ∧ b xt c = nb by rw [HAE.out, HBE.out]; exact h1)
                        · have hEt : E = true := by
                            have h2 : (decide (A = na) && decide (B = nb)) = false := by
                              rw [Bool.and_eq_false_iff, decide_eq_false_iff_not, decide_eq_false_iff_not]
                              by_cases h3 : A = na
                              · exact .inr (fun h4 => h1 ⟨h3, h4⟩)
                              · exact .inl h3
                            rw [h2] at hcd
                            simpa using hcd
                          refine HS.out.skip1 HP2.out (show ∃ q ∈ qOf P, q.2 = (a xs c, b xt c) from ?_)
                          rw [HAE.out, HBE.out]
                          exact qOf_mem.1 (of_decide_eq_true (HEE.out.trans hEt)))
                      clear hcd HS
                      go_wp2_with fail
                      go_roundg q2
                      case measure => omega
                      case rel => exact ⟨c + 1, P, R, by omega, by go_num, HS2, HPP, HQZ, HWZ, HBZ, HOB⟩
                    | true =>
                      rw [Bool.and_eq_true, Bool.not_eq_true', Bool.not_eq_true', Bool.and_eq_false_iff, decide_eq_false_iff_not, decide_eq_false_iff_not] at hcd
                      obtain ⟨hc1, hc2⟩ := hcd
                      subst hc2
                      have HS2 := Lib.hid (show SQ D a b na nb M s t i (c + 1) (R ++ [(A, B, i, c)]) (qOf P ++ [(k ++ [(c : Int)], (A, B))]) by
                        have h := HS.out.add hcM (fun x l _ => HA.out x l) (fun x l _ => HB.out x l) HP2.out (by
                          rw [HAE.out, HBE.out]
                          rintro ⟨h1, h2⟩
                          rcases hc1 with h3 | h3
                          · exact h3 h1
                          · exact h3 h2) (by
                          rw [HAE.out, HBE.out]
                          exact fun q hq e => of_decide_eq_false HEE.out (qOf_mem.2 ⟨q, hq, e⟩))
                        dsimp only at h
                        rw [HAE.out, HBE.out] at h
                        exact h)
                      have hkl := recQ_lenJ HS.out.rq i i _ (Nat.le_refl _) HP2.out
                      dsimp only at hkl
                      obtain ⟨x1, x2, x3⟩ := id HBZ.out
                      have x3a := cell_keep x3 (below1 Z (.cells #[] 3))
                      have hlz := HSZ.out _ HWZ.out
                      have I0 : IntsAt (Z.alloc (.cells #[] 3)) Z.heap.size (.slice (some ⟨Z.heap.size, 0, none⟩) 0 0) [] := ints_noneJ (Nat.le_refl _) rfl
                      have RK := ((HQZ.out.wd _ (List.mem_of_getElem? HPP.out)).rd).keep (below1 Z (.cells #[] 3))
                      obtain ⟨m2, hm2⟩ : ∃ m2, (k ++ [(c : Int)]).length = m2 := ⟨_, rfl⟩
                      have hm2' : m2 ≤ 5000 := by rw [← hm2, List.length_append, List.length_singleton]; omega
                      have HM2 := Lib.hid hm2
                      clear hc1 hm2 HS
                      dsimp only at RK
                      go_wp2_with (first
                        | (at_builtin; refine wpList_appIJ rfl _ _ rfl rfl I0 au k.length cu rfl RK (by simp; omega) (by rw [World.size_alloc]; omega) ?_; intro v1 w1 i1 g1 o1; rw [List.nil_append] at i1;
                            (have B1 := Lib.hid (show Below Z.heap.size Z w1 from ((Below.refl Z.heap.size Z).alloc (Nat.le_refl _) _).grown g1 (by rw [World.size_alloc]; omega) (fun y hy => (I0.lt y hy).1)));
                            (have I1 := Lib.hid i1); (obtain ⟨a1, c1, rfl⟩ := i1.slice); (have XX := Lib.hid (HBZ.out.keep B1.out)); clear i1 g1 o1 x1 x2 x3 x3a; (obtain ⟨x1, x2, x3⟩ := id XX.out))
                        | (at_builtin; refine wpList_appIJ rfl _ _ rfl rfl (I1.out.keep (below1 w1 (.cells #[.int .i64 (c : Int)] 3))) (some ⟨w1.heap.size, 0, none⟩) 1 1 rfl (ints_oneJ w1 (c : Int)) (by simp; omega) (by have h8 := B1.out.size; rw [World.size_alloc]; omega) ?_; intro v2 w2 i2 g2 o2;
                            (have B2 := Lib.hid (show Below Z.heap.size Z w2 from (B1.out.alloc B1.out.size _).grown g2 (by have h8 := B1.out.size; rw [World.size_alloc]; omega) (fun y hy => (I1.out.lt y hy).1)));
                            (have I2 := Lib.hid i2); (obtain ⟨a2, c2, hv2⟩ := i2.slice); (rw [HM2.out] at hv2); subst hv2; clear i2 g2 o2 x1 x2 x3;
                            (have Q2 := Lib.hid (HQZ.out.keep B2.out));
                            (have hrow : w2.ownsRow lo 116 3 (.slice av n2 cv2) n2 (pcl na nb P) := by have h9 := Q2.out.row; rw [HN.out] at h9; exact h9))
                        | (at_builtin; refine wpList_append_lies _ rfl _ _ 117 rfl lo 116 i0 (.agg #[.int .i64 0, .int .i64 0, .slice none 0 0]) 3 40 Tryz.underlying117 hi hz0 hz1 hz2 rfl (by decide) (.slice av n2 cv2) n2 (pcl na nb P) rfl (hrow.alloc _) ⟨w2.heap.size, 0, none⟩ 1 1 [.int .i64 X', .int .i64 Y', .slice a2 m2 c2] rfl rfl (cell_three_new _ _ _ _ _) (by intro u hu; simp at hu; rcases hu with rfl | rfl | rfl <;> rfl) (by decide) (by unfold maxLen; omega) (by omega) (by have h8 := B2.out.size; rw [World.size_alloc]; omega) _ rfl ?_; intro g9 c9 w6 t1 t2 t3 t4))
                      have hB2 := B2.out.size
                      have HQ6 := Lib.hid (QA.put (p := (.slice a2 m2 c2, (k ++ [(c : Int)], (A, B)))) Q2.out (own_low I2.out hlz) (by rw [HN.out]; dsimp only; rw [HXE'.out, HYE'.out]; exact t1) t2)
                      have HW6 := Lib.hid (show Below lo Wh w6 from ((HWZ.out.trans (B2.out.mono hlz)).alloc (by omega) _).grown t2 (by rw [World.size_alloc]; omega) (fun y hy => (hrow.lt y hy).1))
                      have HB6 := Lib.hid (((HBZ.out.keep B2.out).keep (below1 w2 _)).grownJ t2 (fun e => HOB.out P0 e rfl))
                      have HOB6 : Hid (∀ z, (Value.slice (some ⟨g9, 0, none⟩) (n2 + 1) c9).ownBlock = some z → z ≠ P0) := Lib.hid (fun z hz => by
                        injection hz with hz
                        subst hz
                        rcases t3 with h | h
                        · exact HOB.out _ h
                        · have h7 := HBZ.out.ltJ
                          rw [World.size_alloc] at h
                          show g9 ≠ P0
                          omega)
                      have HP6 := Lib.hid (show (P ++ [((.slice a2 m2 c2, (k ++ [(c : Int)], (A, B))) : Plc)])[i]? = some (.slice au k.length cu, (k, (xs, xt))) by
                        rw [List.getElem?_append_left (List.getElem?_eq_some_iff.1 HPP.out).1]; exact HPP.out)
                      clear t1 t2 t3 t4 hrow
                      go_roundg q2
                      case measure => omega
                      case rel => exact ⟨c + 1, _, _, by omega, by go_num, Lib.hid (by rw [qOf_snoc]; exact HS2.out), HP6, HQ6, HW6, HB6, HOB6⟩
    · have j0 : ¬ ((i : Int) < (n : Int)) := by omega
      have HNo := Lib.hid (HS.out.none (by rw [qOf_len, hn]; omega) hD0 HA0.out HB0.out)
      have HBB := Lib.hid (HBW.out _ HW.out)
      clear HS HQ HW hn
      go_wp2_with fail
      exact bodyPost_ret (v := .tuple #[.slice none 0 0, .bool false]) (by simp [results, Tryz.results64, go_sem]) rfl ⟨none, 0, [], false, rfl, (ints_nil _ 0).rd, HNo.out, HBB.out⟩
end Go.Proofs.YtiockphjnkehnaaGreatDoor
