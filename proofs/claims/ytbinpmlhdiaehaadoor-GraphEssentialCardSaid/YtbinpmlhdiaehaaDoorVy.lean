/- GraphEssential: the walk. Conditions: the edges can be read. -/
import Derived.Test.YtbinpmlhdiaehaaDoorVx
namespace Go.Proofs.YtbinpmlhdiaehaaDoor
open Go.RowKit
set_option linter.unusedSimpArgs false
set_option linter.unusedVariables false

/-- The graph's variable, the part's, and the part's states. -/
structure GE (w : World) (L : Int) (n k : Nat) (v : Value) (p5 : Nat) (vp : Value) (ps : List E3) (u : Value) (st : List Int) (W : World) : Prop where
  g : BoxG W w.heap.size L (n : Int) v
  p : BoxG W p5 L (k : Int) vp
  e : EdgesAt W w.heap.size vp ps
  i : IntsAt W w.heap.size u st
  b : Below w.heap.size w W
theorem GE.keep {w W W' : World} {L : Int} {n k p5 : Nat} {v vp u : Value} {ps : List E3} {st : List Int} (h : GE w L n k v p5 vp ps u st W) (hb : Below W.heap.size W W') : GE w L n k v p5 vp ps u st W' :=
  ⟨h.g.keep hb, h.p.keep hb, h.e.keep hb, h.i.keep hb, h.b.trans (hb.mono h.b.size)⟩
/-- The part on the essential states. -/
theorem keep_ess {L : Int} {n k : Nat} {es ps : List E3} {st : List Int} (hvg : VG L (n : Int) es) (hs : SG (n : Int) st) (hk : st.length = k) (hp : partE st es = ps) (v u : Value) (W : World) (h : EdgesRd W v es) (h2 : IntsRd W u st) :
    Calls Tryd.prog 24 #[grV L (n : Int) v, u] W fun e w' => ∃ v', e = .returned (.tuple #[grV L (k : Int) v', .int .i64 0]) ∧ EdgesAt w' W.heap.size v' ps ∧ Below W.heap.size W w' := by
  have := hvg.len
  have := hs.len
  have := hvg.s2
  have hx := keep_any L (n : Int) es v u st W h (by omega) h2 (by omega)
  rw [show keepR L (n : Int) es st = (L, (k : Int), ps, 0) by unfold keepR; rw [if_pos hvg.chk, if_pos hs.chk, hk, hp]] at hx
  exact hx
/-- The essential part of the essential part. -/
theorem ess_twice {L : Int} {k : Nat} {ps : List E3} (hvg : VG L (k : Int) ps) (hag : ∀ f', Ess k ps f' → mems k f' = allI k ∧ partE (mems k f') ps = ps) (v : Value) (W : World) (h : EdgesRd W v ps) :
    Calls Tryd.prog 32 #[grV L (k : Int) v] W fun e w' => ∃ v' a' c', e = .returned (.tuple #[grV L (k : Int) v', .slice a' k c', .int .i64 0]) ∧ EdgesAt w' W.heap.size v' ps ∧ Below W.heap.size W w' := by
  refine (essential_good L k ps v W h hvg).mono ?_
  rintro e w' ⟨f, v', u, hf, rfl, h1, h2, h3⟩
  obtain ⟨k1, k2⟩ := hag f hf
  rw [k2] at h1
  obtain ⟨a', c', rfl⟩ := h2.slice
  rw [k1, allI_len]
  exact ⟨v', a', c', rfl, h1, h3⟩
theorem same_yes (L S : Int) (es : List E3) (v1 v2 : Value) (w : World) (h1 : EdgesRd w v1 es) (h2 : EdgesRd w v2 es) (hn : es.length ≤ 9223372036854775807) :
    Calls Tryd.prog 16 #[grV L S v1, grV L S v2] w fun e w' => e = .returned (.bool true) ∧ Below w.heap.size w w' := by
  have k := same_any L S L S es es v1 v2 w h1 h2 hn hn
  rw [show sameG L S es L S es = true from decide_eq_true ⟨rfl, rfl, rfl⟩] at k
  exact k
theorem froms_yes {ps : List E3} {t p : Nat} (hx : ∃ e, e ∈ ps ∧ e.1 = (t : Int)) (hn : ps.length ≤ 1024) (v : Value) (W : World) (h : EdgesRd W v ps) (hp : W.cell? ⟨p, 0, none⟩ = some (.int .i64 (t : Int))) :
    Calls Tryd.prog 33 #[v, .func (.func 34) #[] #[.pointer (some ⟨p, 0, none⟩)]] W fun e w' => e = .returned (.bool true) ∧ Below W.heap.size W w' := by
  obtain ⟨e, he, h1⟩ := hx
  exact cfun_any _ Tryd.from1E (fun e => e.1 == (t : Int)) p ps v W h (by omega) (fun W' hb e => from_any e p t W' (cell_keep hp hb)) ⟨e, he, by rw [h1]; exact beq_self_eq_true _⟩
theorem tos_yes {ps : List E3} {t p : Nat} (hx : ∃ e, e ∈ ps ∧ e.2.2 = (t : Int)) (hn : ps.length ≤ 1024) (v : Value) (W : World) (h : EdgesRd W v ps) (hp : W.cell? ⟨p, 0, none⟩ = some (.int .i64 (t : Int))) :
    Calls Tryd.prog 33 #[v, .func (.func 35) #[] #[.pointer (some ⟨p, 0, none⟩)]] W fun e w' => e = .returned (.bool true) ∧ Below W.heap.size W w' := by
  obtain ⟨e, he, h1⟩ := hx
  exact cfun_any _ Tryd.to2E (fun e => e.2.2 == (t : Int)) p ps v W h (by omega) (fun W' hb e => to_any e p t W' (cell_keep hp hb)) ⟨e, he, by rw [h1]; exact beq_self_eq_true _⟩
theorem cell_grown {W W' : World} {o : Obj} {row : Option Nat} {p : Addr} {v : Value} (h : W.cell? p = some v) (hg : (W.alloc o).grownBy W' row) (hr : ∀ k, row = some k → k ≠ p.block) : W'.cell? p = some v := by
  have hlt := World.block_lt_of_cell? _ _ h
  have h1 : (W.alloc o).cell? p = some v := cell_keep h (below1 W o)
  exact (World.cell?_of_block (w := W.alloc o) (hg.block p.block (by rw [World.size_alloc]; omega) (fun e => hr _ e.symm rfl))).trans h1
set_option maxRecDepth 100000 in
set_option maxHeartbeats 6400000 in
theorem gess_small (L : Int) (n : Nat) (es : List E3) (v : Value) (s : Nat) (w : World) (hs : s < 256) (hrd : EdgesRd w v es) (hvg : VG L (n : Int) es) (hfine : fineB L (n : Int) es = true) :
    Calls Tryd.prog 7 #[grV L (n : Int) v, .int .u8 (s : Int)] w fun e w' => e = .returned (.bool true) ∧ Below w.heap.size w w' := by
  obtain ⟨i0, hi, hz0, hz1, hz2⟩ := info_parts Tryd.infoI64
  have hlen := hvg.len
  have hn64 : n ≤ 64 := by have := hvg.s2; omega
  have HRD := Lib.hid hrd
  have HVG := Lib.hid hvg
  have HF := Lib.hid (fun W h => fine_any L (n : Int) es v W h (by omega))
  have HFB := Lib.hid hfine
  have HE1 := Lib.hid (fun W h => essential_good L n es v W h hvg)
  have HAW := Lib.hid (fun W => awake_any W)
  have G0 := Lib.hid (BoxG.new w L (n : Int) v 24)
  have B0 := Lib.hid (below1 w (.cells #[.int .i64 L, .int .i64 (n : Int), v] 24))
  obtain ⟨a, c, rfl⟩ := hrd.form
  clear hrd hvg hfine
  go_enter Tryd.func7, Tryd.ntmps7
  go_upto_region 4 with (first
    | (go_at_call 29; (with_reducible refine (HF.out _ (HRD.out.keep B0.out)).mono ?_); rintro e0 W1 ⟨rfl, b1⟩; (rw [HFB.out]); (have G1 := Lib.hid (G0.out.keep b1)); (have B1 := Lib.hid (below_more B0.out (Nat.le_refl _) b1)); (clear b1 G0 B0); (obtain ⟨g1, g2, g3⟩ := id G1.out))
    | (go_at_call 32; (with_reducible refine (HE1.out _ (HRD.out.keep B1.out)).mono ?_); rintro e0 W2 ⟨f, vp, u, hf, rfl, e2, i2, b2⟩; (have hkk := mems_len n f); (have HPV := Lib.hid (part_vg HVG.out (mems_sg n f))); (have HAG := Lib.hid (fun f' => ess_again (f' := f') HVG.out hf)); (have HIN := Lib.hid (fun t => ess_in (t := t) HVG.out hf)); (have HCL := Lib.hid (fun z => ess_closed (s := z) HVG.out hf)); (have HSG := Lib.hid (mems_sg n f)); (obtain ⟨k, hk⟩ : ∃ k, (mems n f).length = k := ⟨_, rfl⟩); (obtain ⟨ps, hps⟩ : ∃ ps, partE (mems n f) es = ps := ⟨_, rfl⟩); (obtain ⟨st, hst⟩ : ∃ st, mems n f = st := ⟨_, rfl⟩); (simp only [hk, hps] at HAG HIN HPV); (simp only [hst] at HSG HCL); (rw [hk] at hkk ⊢); (rw [hps] at e2); (rw [hst] at i2 hk hps); (obtain ⟨a2, c2, rfl⟩ := e2.slice); (obtain ⟨d2, f2, rfl⟩ := i2.slice); (rw [hk]); (have HK := Lib.hid hk); (have HPS := Lib.hid hps); (have bm := below1 W2 (.cells #[.int .i64 L, .int .i64 (k : Int), .slice a2 ps.length c2] 24)); (have D2 := Lib.hid (show GE w L n k (.slice a es.length c) W2.heap.size (.slice a2 ps.length c2) ps (.slice d2 k f2) st (W2.alloc (.cells #[.int .i64 L, .int .i64 (k : Int), .slice a2 ps.length c2] 24)) from ⟨(G1.out.keep b2).keep bm, BoxG.new W2 L (k : Int) _ _, own_low (e2.keep bm) B1.out.size, own_low (A := w.heap.size) (by have := i2.keep bm; rw [hk] at this; exact this) B1.out.size, below_more (below_more B1.out (Nat.le_refl _) b2) (Nat.le_refl _) bm⟩)); (clear e2 i2 b2 hf hk hps hst bm G1 B1 g1 g2 g3)))
  have HTW := Lib.hid (fun W h => ess_twice HPV.out HAG.out (.slice a2 ps.length c2) W h)
  have HKP := Lib.hid (fun W h h2 => keep_ess HVG.out HSG.out HK.out HPS.out (.slice a es.length c) (.slice d2 k f2) W h h2)
  have hps := HPV.out.len
  have HSM := Lib.hid (fun v1 v2 W h h' => same_yes L (k : Int) ps v1 v2 W h h' (by omega))
  obtain ⟨p5, hp5⟩ : ∃ p5, W2.heap.size = p5 := ⟨_, rfl⟩
  obtain ⟨W3, hW3⟩ : ∃ W3, W2.alloc (.cells #[.int .i64 L, .int .i64 (k : Int), .slice a2 ps.length c2] 24) = W3 := ⟨_, rfl⟩
  rw [hW3, hp5] at D2 ⊢
  clear hW3 hp5
  obtain ⟨⟨g1, g2, g3⟩, ⟨p1, p2, p3⟩, -, -, -⟩ := id D2.out
  go_upto_region 5 with (go_at_call 32; (with_reducible refine (HTW.out _ (EdgesAt.rd D2.out.e)).mono ?_); rintro e0 W4 ⟨vq, a4, c4, rfl, e4, b4⟩; (obtain ⟨a5, c5, rfl⟩ := e4.slice); (have bm := below1 W4 (.cells #[.int .i64 L, .int .i64 (k : Int), .slice a5 ps.length c5] 24)); (have D4 := Lib.hid ((D2.out.keep b4).keep bm)); (have E4 := Lib.hid (e4.keep bm)); (have Q4 := Lib.hid (BoxG.new W4 L (k : Int) (.slice a5 ps.length c5) 24)); (clear b4 e4 bm D2 g1 g2 g3 p1 p2 p3))
  obtain ⟨p8, hp8⟩ : ∃ p8, W4.heap.size = p8 := ⟨_, rfl⟩
  obtain ⟨W5, hW5⟩ : ∃ W5, W4.alloc (.cells #[.int .i64 L, .int .i64 (k : Int), .slice a5 ps.length c5] 24) = W5 := ⟨_, rfl⟩
  rw [hW5] at D4 E4
  rw [hW5, hp8] at Q4 ⊢
  clear hW5 hp8
  obtain ⟨⟨g1, g2, g3⟩, -, -, -, -⟩ := id D4.out
  go_upto_region 6 with (go_at_call 24; (with_reducible refine (HKP.out _ (HRD.out.keep D4.out.b) (IntsAt.rd D4.out.i)).mono ?_); rintro e0 W6 ⟨vk, rfl, e6, b6⟩; (obtain ⟨a6, c6, rfl⟩ := (show ∃ a c, vk = .slice a ps.length c from e6.slice)); (have bm := below1 W6 (.cells #[.int .i64 L, .int .i64 (k : Int), .slice a6 ps.length c6] 24)); (have D6 := Lib.hid ((D4.out.keep b6).keep bm)); (have E6 := Lib.hid ((E4.out.keep b6).keep bm)); (have Q6 := Lib.hid ((Q4.out.keep b6).keep bm)); (have F6 := Lib.hid (e6.keep bm)); (have R6 := Lib.hid (BoxG.new W6 L (k : Int) (.slice a6 ps.length c6) 24)); (clear b6 e6 bm D4 E4 Q4 g1 g2 g3))
  obtain ⟨p11, hp11⟩ : ∃ p11, W6.heap.size = p11 := ⟨_, rfl⟩
  obtain ⟨W7, hW7⟩ : ∃ W7, W6.alloc (.cells #[.int .i64 L, .int .i64 (k : Int), .slice a6 ps.length c6] 24) = W7 := ⟨_, rfl⟩
  rw [hW7] at D6 E6 F6 Q6
  rw [hW7, hp11] at R6 ⊢
  clear hW7 hp11
  obtain ⟨g1, g2, g3⟩ := id D6.out.p
  obtain ⟨q1, q2, q3⟩ := id Q6.out
  go_upto_region 8 with (first
    | (go_at_call 16; (with_reducible refine (HSM.out _ _ _ (EdgesAt.rd E6.out) (EdgesAt.rd D6.out.e)).mono ?_); rintro e0 W8 ⟨rfl, b8⟩; (have D8 := Lib.hid (D6.out.keep b8)); (have F8 := Lib.hid (F6.out.keep b8)); (have R8 := Lib.hid (R6.out.keep b8)); (clear b8 D6 E6 F6 Q6 R6 g1 g2 g3 q1 q2 q3); (obtain ⟨g1, g2, g3⟩ := id D8.out.p); (obtain ⟨q1, q2, q3⟩ := id R8.out))
    | (go_at_call 16; (with_reducible refine (HSM.out _ _ _ (EdgesAt.rd F8.out) (EdgesAt.rd D8.out.e)).mono ?_); rintro e0 W9 ⟨rfl, b9⟩; (have D9 := Lib.hid (D8.out.keep b9)); (clear b9 D8 F8 R8 g1 g2 g3 q1 q2 q3); (obtain ⟨g1, g2, g3⟩ := id D9.out.p)))
  clear HF HFB HE1 HTW HKP HSM HAG
  have hps2 : ps.length ≤ 1024 := hps
  go_wp2_with fail
  go_loopg [80] k (fun q s80 wx => ∃ t : Nat, t + q = k ∧ s80 = .int .i64 (t : Int) ∧ GE w L n k (.slice a es.length c) p5 (.slice a2 ps.length c2) ps (.slice d2 k f2) st wx)
  case atStart => exact ⟨0, by omega, rfl, D9.out⟩
  case round =>
    clear D9 g1 g2 g3
    obtain ⟨t, ht, rfl, hD⟩ := hrel
    have DR := Lib.hid hD
    obtain ⟨g1, g2, g3⟩ := id hD.g
    obtain ⟨p1, p2, p3⟩ := id hD.p
    clear hD
    rcases gk with _ | q
    · obtain rfl : k = t := by omega
      clear ht HIN
      by_cases hn0 : n = 0
      · have d1 : ((n : Int) == 0) = true := by rw [hn0]; rfl
        have d2 : (n : Int) = 0 := by omega
        clear hn0
        go_wp2_with (go_at_call 11; (with_reducible refine (HAW.out _).mono ?_); rintro e0 W12 ⟨rfl, b12⟩; (have B12 := Lib.hid (below_more DR.out.b (Nat.le_refl _) b12)); (clear b12))
        go_ret
        exact ⟨rfl, B12.out⟩
      · have d1 : ((n : Int) == 0) = false := by simpa using hn0
        obtain ⟨z, hz⟩ : ∃ z, s % n = z := ⟨_, rfl⟩
        have hzn : z < n := by rw [← hz]; exact Nat.mod_lt _ (by omega)
        have tm : Int.tmod (s : Int) (n : Int) = (z : Int) := by rw [Int.tmod_eq_emod_of_nonneg (by omega), ← hz]; rfl
        have hCL := Lib.hid (HCL.out z hzn)
        obtain ⟨Wb, hWb⟩ : ∃ Wb, wr = Wb := ⟨_, rfl⟩
        rw [hWb] at DR g1 g2 g3 p1 p2 p3 ⊢
        clear hWb hz HCL hn0
        have L0 := Lib.hid (LP.start Wb (z : Int) 3 rfl)
        go_wp2_with fail
        go_loopg [15, 16] (2 * n + 1) (fun q s15 s16 wx => ∃ r m, m.length ≤ 64 ∧ 2 * (n - r.length) + min m.length 1 ≤ q ∧ LP Wb.heap.size Wb s15 s16 (.slice none 0 0) r m [] wx ∧ RO es n (z : Int) r m)
        case atStart => exact ⟨[], [(z : Int)], by simp, by simp, L0.out, RO.start _ _ _⟩
        case round =>
          clear g1 g2 g3 p1 p2 p3 L0 d1 tm
          obtain ⟨r, m, hm64, hq, hLP, hRO⟩ := hrel
          have LR := Lib.hid hLP
          have OR := Lib.hid hRO
          obtain ⟨a15, c15, rfl⟩ := hLP.r.slice
          obtain ⟨a16, c16, rfl⟩ := hLP.m.slice
          have DW := Lib.hid (DR.out.keep hLP.b)
          have hrl := hRO.len
          clear hLP
          obtain ⟨g1, g2, g3⟩ := id DW.out.g
          by_cases hm : m = []
          · subst hm
            clear hq
            have hlr := Lib.hid (fun W h => has_any r (z : Int) (.slice a15 r.length c15) W h (by omega))
            have hlo := Lib.hid (fun W h => has_any st (z : Int) (.slice d2 k f2) W h (by rw [HK.out]; have := HSG.out.len; rw [HK.out] at this; omega))
            have S1 := Lib.hid (LR.out.r.rd)
            have S2 := Lib.hid (DW.out.i.rd)
            obtain ⟨rl, hrle⟩ : ∃ rl, r.length = rl := ⟨_, rfl⟩
            rw [hrle] at hlr S1 ⊢
            have HQ := Lib.hid (show decide ((z : Int) ∈ r) = true → decide ((z : Int) ∈ st) = true from fun h => decide_eq_true (hCL.out (hRO.r1 _ (of_decide_eq_true h))))
            obtain ⟨x1, hx1⟩ : ∃ x1, decide ((z : Int) ∈ r) = x1 := ⟨_, rfl⟩
            obtain ⟨x2, hx2⟩ : ∃ x2, decide ((z : Int) ∈ st) = x2 := ⟨_, rfl⟩
            rw [hx1, hx2] at HQ
            simp only [hx1] at hlr
            simp only [hx2] at hlo
            clear hRO OR hCL hx1 hx2
            cases x1 with
            | false =>
              clear HQ hlo S2
              go_wp2_with (first
                | (go_at_call 31; (with_reducible refine (hlr.out _ S1.out).mono ?_); rintro e0 W13 ⟨rfl, hW13⟩; (rw [hW13]); (clear hW13))
                | (go_at_call 11; (with_reducible refine (HAW.out _).mono ?_); rintro e0 W12 ⟨rfl, b12⟩; (have B12 := Lib.hid (below_more DW.out.b (Nat.le_refl _) b12)); (clear b12)))
              go_ret
              exact ⟨rfl, B12.out⟩
            | true =>
              obtain rfl := HQ.out rfl
              clear HQ
              go_wp2_with (first
                | (go_at_call 31; (with_reducible refine (hlr.out _ S1.out).mono ?_); rintro e0 W13 ⟨rfl, hW13⟩; (rw [hW13]); (clear hW13))
                | (go_at_call 31; (with_reducible refine (hlo.out _ S2.out).mono ?_); rintro e0 W13 ⟨rfl, hW13⟩; (rw [hW13]); (clear hW13))
                | (go_at_call 11; (with_reducible refine (HAW.out _).mono ?_); rintro e0 W12 ⟨rfl, b12⟩; (have B12 := Lib.hid (below_more DW.out.b (Nat.le_refl _) b12)); (clear b12)))
              go_ret
              exact ⟨rfl, B12.out⟩
          · have hml : 0 < m.length := List.length_pos_iff.2 hm
            obtain ⟨q, rfl⟩ : ∃ q0, gk = q0 + 1 := ⟨gk - 1, by omega⟩
            have hm2 : min m.length 1 = 1 := by omega
            rw [hm2] at hq
            have HQ := Lib.hid hq
            have HMX := Lib.hid (fun y W h => has_any m y (.slice a16 m.length c16) W h (by omega))
            obtain ⟨ml, hmle⟩ : ∃ ml, m.length = ml := ⟨_, rfl⟩
            rw [hmle] at HMX LR hml ⊢
            have d1 : decide ((0 : Int) < (ml : Int)) = true := decide_eq_true (by omega)
            have d2n : decide (0 < ml) = true := decide_eq_true hml
            obtain ⟨r0, hr0⟩ : ∃ r0, r.length = r0 := ⟨_, rfl⟩
            rw [hr0] at HQ hrl LR ⊢
            have H0 := Lib.hid hr0
            clear hq hm hm2 hmle hr0
            obtain ⟨Wo, hWo⟩ : ∃ Wo, wr = Wo := ⟨_, rfl⟩
            rw [hWo] at LR DW g1 g2 g3 ⊢
            clear hWo
            go_wp2_with fail
            go_loopg [15, 17, 113] es.length (fun q' s15 s17 s113 wx => ∃ (i : Nat) (r' x : List Int), i + q' = es.length ∧ s113 = .int .i64 (i : Int) ∧ LP Wb.heap.size Wb s15 (.slice a16 ml c16) s17 r' m x wx ∧ Hid (RO es n (z : Int) r' m ∧ (∀ y ∈ x, Rch es (z : Int) y) ∧ x.length + r0 = r'.length))
            case atStart => exact ⟨0, r, [], by omega, rfl, LR.out.reset, Lib.hid ⟨OR.out, fun y hy => (by cases hy), by rw [H0.out]; simp⟩⟩
            case round =>
              clear d1 d2n
              obtain ⟨i, r', x, hi3, rfl, hL3, hO3⟩ := hrel
              have L3 := Lib.hid hL3
              obtain ⟨a15, c15, rfl⟩ := hL3.r.slice
              obtain ⟨a17, c17, rfl⟩ := hL3.x.slice
              have hbw := DR.out.b.trans (hL3.b.mono DR.out.b.size)
              have hr64 := hO3.out.1.len
              have hx64 := hO3.out.2.2
              clear hL3
              rcases gk with _ | q'
              · have ie : i = es.length := by omega
                have j1 : decide ((i : Int) < (es.length : Int)) = false := decide_eq_false (by omega)
                have j2 : decide (i < es.length) = false := decide_eq_false (by omega)
                clear ie hbw g1 g2 g3
                have hQ := HQ.out
                clear HQ
                go_wp2_with fail
                go_roundg q
                case measure => omega
                case rel => exact ⟨r', x, by omega, by have : min x.length 1 ≤ x.length := Nat.min_le_left _ _; have : min x.length 1 ≤ 1 := Nat.min_le_right _ _; omega, L3.out.next, ⟨hO3.out.1.r1, fun y hy => .inr (hO3.out.2.1 y hy), hO3.out.1.c⟩⟩
              · obtain ⟨e, he⟩ : ∃ e, es[i]? = some e := ⟨_, List.getElem?_eq_getElem (by omega)⟩
                have hem : e ∈ es := List.mem_of_getElem? he
                have hok := HVG.out.ok e hem
                obtain ⟨b, off, c', hv, k1, k2, k3⟩ := (HRD.out.keep hbw).at he
                injection hv with e1 e2 e3
                subst e1
                subst e3
                obtain ⟨ex, ey, ez⟩ := e
                dsimp only at k1 k2 k3
                have j1 : (i : Int) < (es.length : Int) := by omega
                have M0 := Lib.hid (L3.out.keep (below1 wr (.cells #[.int .i64 ex, .int .i64 ey, .int .i64 ez] 43)))
                have X0 := Lib.hid (Box3.new wr ex ey ez 43)
                have PL := Lib.hid (show ∀ k, (Value.slice a15 r'.length c15).ownBlock = some k → k ≠ wr.heap.size from fun k hk => Nat.ne_of_lt (L3.out.r.lt k hk).2)
                have HRX := Lib.hid (fun W h => has_any r' ez (.slice a15 r'.length c15) W h (by omega))
                go_upto_region 24 with fail
                clear k1 k2 k3 hbw e2 g1 g2 g3 L3
                obtain ⟨P0, hP0⟩ : ∃ P0, wr.heap.size = P0 := ⟨_, rfl⟩
                obtain ⟨W0, hW0⟩ : ∃ W0, wr.alloc (.cells #[.int .i64 ex, .int .i64 ey, .int .i64 ez] 43) = W0 := ⟨_, rfl⟩
                rw [hW0] at M0
                rw [hW0, hP0] at X0
                rw [hW0, hP0]
                rw [hP0] at PL
                clear hW0 hP0
                obtain ⟨x1, x2, x3, -, -, -⟩ := id X0.out
                dsimp only at x1 x2 x3
                obtain ⟨rl, hrl2⟩ : ∃ rl, r'.length = rl := ⟨_, rfl⟩
                obtain ⟨xl, hxl2⟩ : ∃ xl, x.length = xl := ⟨_, rfl⟩
                rw [hrl2] at M0 PL HRX hr64 hx64 ⊢
                rw [hxl2] at M0 hx64 ⊢
                have HRL := Lib.hid hrl2
                have HXL := Lib.hid hxl2
                clear hrl2 hxl2
                have S1 := Lib.hid M0.out.m.rd
                have S2 := Lib.hid M0.out.r.rd
                by_cases hb1 : ex ∈ m
                · by_cases hb2 : ez ∈ r'
                  · have HB1 := Lib.hid (decide_eq_true hb1)
                    have HB2 := Lib.hid (decide_eq_true hb2)
                    clear hb1 hb2
                    go_wp2_with (first
                      | (go_at_call 31; (with_reducible refine (HMX.out _ _ S1.out).mono ?_); rintro e0 W13 ⟨rfl, hW13⟩; (rw [hW13, HB1.out]); (clear hW13))
                      | (go_at_call 31; (with_reducible refine (HRX.out _ S2.out).mono ?_); rintro e0 W13 ⟨rfl, hW13⟩; (rw [hW13, HB2.out]); (clear hW13)))
                    go_roundg q'
                    case measure => omega
                    case rel => exact ⟨i + 1, r', x, by omega, by go_num, by rw [HRL.out, HXL.out] at *; exact M0.out, hO3⟩
                  · have HB1 := Lib.hid (decide_eq_true hb1)
                    have HB2 := Lib.hid (decide_eq_false hb2)
                    have OA := Lib.hid (hO3.out.1.add hem hb1 hb2 hok)
                    have RX := Lib.hid (show ∀ y ∈ x ++ [ez], Rch es (z : Int) y from fun y hy => by
                      rcases List.mem_append.1 hy with hy | hy
                      · exact hO3.out.2.1 y hy
                      · rw [List.mem_singleton.1 hy]; exact hO3.out.1.rch hem hb1)
                    have hown0 := M0.out.r
                    unfold IntsAt at hown0
                    rw [HRL.out] at hown0
                    clear hb1 hb2 hok hem he HRD
                    go_wp2_with (first
                      | (go_at_call 31; (with_reducible refine (HMX.out _ _ S1.out).mono ?_); rintro e0 W13 ⟨rfl, hW13⟩; (rw [hW13, HB1.out]); (clear hW13))
                      | (go_at_call 31; (with_reducible refine (HRX.out _ S2.out).mono ?_); rintro e0 W13 ⟨rfl, hW13⟩; (rw [hW13, HB2.out]); (clear hW13))
                      | (at_builtin; refine wpList_append_own_at _ rfl _ _ 32 rfl Wb.heap.size 3 i0 (.int .i64 0) 1 8 Tryd.underlying32 hi hz0 hz1 hz2 rfl (by decide) _ _ _ rfl (hown0.alloc _) ⟨W0.heap.size, 0, none⟩ 1 1 [.int .i64 ez] rfl rfl ?c1 ?c2 ?c3 ?c4 ?c5 ?_))
                    case c1 => exact World.news_of_block (cs := #[.int .i64 ez]) (t := 3) (fr := (0, 0)) (heap_alloc_new W0 _)
                    case c2 => intro u hu; simp at hu; subst hu; rfl
                    case c3 => unfold maxLen; omega
                    case c4 => omega
                    case c5 => rw [World.size_alloc]; have := M0.out.sz; omega
                    intro v2 W2 hown2 hgrow _ hv2
                    have r2 : IntsAt W2 Wb.heap.size v2 (r' ++ [ez]) := by unfold IntsAt; rw [intz_snoc, List.length_append, HRL.out]; exact hown2
                    have M2 := Lib.hid (M0.out.app hgrow r2 hv2)
                    have y3 := cell_grown x3 hgrow PL.out
                    obtain ⟨a18, c18, rfl⟩ := (show ∃ a c, v2 = .slice a (rl + 1) c from own_slice hown2)
                    have hown3 := M2.out.x
                    unfold IntsAt at hown3
                    rw [HXL.out] at hown3
                    clear r2 hown2 hgrow hv2 hown0 x1 x2 x3 S1 S2 X0 PL
                    go_wp2_with (at_builtin; refine wpList_append_own_at _ rfl _ _ 32 rfl Wb.heap.size 3 i0 (.int .i64 0) 1 8 Tryd.underlying32 hi hz0 hz1 hz2 rfl (by decide) _ _ _ rfl (hown3.alloc _) ⟨W2.heap.size, 0, none⟩ 1 1 [.int .i64 ez] rfl rfl ?c1 ?c2 ?c3 ?c4 ?c5 ?_)
                    case c1 => exact World.news_of_block (cs := #[.int .i64 ez]) (t := 3) (fr := (0, 0)) (heap_alloc_new W2 _)
                    case c2 => intro u hu; simp at hu; subst hu; rfl
                    case c3 => unfold maxLen; omega
                    case c4 => omega
                    case c5 => rw [World.size_alloc]; have := M2.out.sz; omega
                    intro v3 W3 hown4 hgrow3 _ hv3
                    have r3 : IntsAt W3 Wb.heap.size v3 (x ++ [ez]) := by unfold IntsAt; rw [intz_snoc, List.length_append, HXL.out]; exact hown4
                    have M3 := Lib.hid ((M2.out.turn.app hgrow3 r3 hv3).turn)
                    obtain ⟨a19, c19, rfl⟩ := (show ∃ a c, v3 = .slice a (xl + 1) c from own_slice hown4)
                    clear r3 hown3 hown4 hgrow3 hv3 y3
                    go_wp2_with fail
                    go_roundg q'
                    case measure => omega
                    case rel => exact ⟨i + 1, r' ++ [ez], x ++ [ez], by omega, by go_num, by exact M3.out, Lib.hid ⟨OA.out, RX.out, by rw [List.length_append, List.length_append, HRL.out, HXL.out]; simp; omega⟩⟩
                · have HB1 := Lib.hid (decide_eq_false hb1)
                  clear hb1
                  go_wp2_with (first
                    | (go_at_call 31; (with_reducible refine (HMX.out _ _ S1.out).mono ?_); rintro e0 W13 ⟨rfl, hW13⟩; (rw [hW13, HB1.out]); (clear hW13)))
                  go_roundg q'
                  case measure => omega
                  case rel => exact ⟨i + 1, r', x, by omega, by go_num, by exact M0.out, hO3⟩
    · obtain ⟨hx1, hx2⟩ := HIN.out t (by omega)
      have HX1 := Lib.hid (fun p W h hp => froms_yes (p := p) hx1 hps2 (.slice a2 ps.length c2) W h hp)
      have HX2 := Lib.hid (fun p W h hp => tos_yes (p := p) hx2 hps2 (.slice a2 ps.length c2) W h hp)
      have j1 : (t : Int) < (k : Int) := by omega
      have X0 := Lib.hid (show (wr.alloc (.cells #[.int .i64 (t : Int)] 3)).cell? ⟨wr.heap.size, 0, none⟩ = some (.int .i64 (t : Int)) by simp [go_sem])
      have D0 := Lib.hid (DR.out.keep (below1 wr (.cells #[.int .i64 (t : Int)] 3)))
      clear hx1 hx2 p1 p2 p3 g1 g2 g3
      obtain ⟨p1, p2, p3⟩ := id D0.out.p
      go_wp2_with (first
        | (go_at_call 33; (with_reducible refine (HX1.out _ _ (EdgesAt.rd D0.out.e) X0.out).mono ?_); rintro e0 W10 ⟨rfl, b10⟩; (have D10 := Lib.hid (D0.out.keep b10)); (have X10 := Lib.hid (cell_keep X0.out b10)); (clear b10 D0 X0 p1 p2 p3); (obtain ⟨p1, p2, p3⟩ := id D10.out.p))
        | (go_at_call 33; (with_reducible refine (HX2.out _ _ (EdgesAt.rd D10.out.e) X10.out).mono ?_); rintro e0 W11 ⟨rfl, b11⟩; (have D11 := Lib.hid (D10.out.keep b11)); (clear b11 D10 X10 p1 p2 p3)))
      go_roundg q
      case measure => omega
      case rel => exact ⟨t + 1, by omega, by go_num, D11.out⟩
end Go.Proofs.YtbinpmlhdiaehaaDoor
