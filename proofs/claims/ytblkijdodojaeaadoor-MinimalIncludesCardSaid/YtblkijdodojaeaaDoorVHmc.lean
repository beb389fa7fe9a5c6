/- MinimalEquals returns true. Conditions: the edges can be read; the library's table reads as its text lays it. Cards of laws that list the library's table alone: the table read, a world that holds it. No condition. MinimalEquals returns true for every input: the law's row, and its card, tied to the program's text. Conditions: those of the row: its tables read as listed (the card ties them to the program's text). -/
import Derived.Test.YtblkijdodojaeaaDoorQ38
import Derived.Test.YtblkijdodojaeaaDoorQ27
import Derived.Test.YtblkijdodojaeaaDoorQ25

namespace Go.Proofs.YtblkijdodojaeaaDoor
open Go.RowKit
set_option linter.unusedSimpArgs false
set_option linter.unusedVariables false

theorem cmpZ_zero {La S : Int} {es : List E3} {Lb T : Int} {fs : List E3} (h : cmpZ La S es Lb T fs = 0) : chkG La S es = 0 ∧ chkG Lb T fs = 0 ∧ (buildR La S es).1 = 0 ∧ (buildR Lb T fs).1 = 0 := by
  unfold cmpZ at h
  by_cases h1 : chkG La S es = 0 ∧ chkG Lb T fs = 0
  · rw [if_pos h1] at h
    by_cases h2 : (buildR La S es).1 = 0
    · rw [if_pos h2] at h
      exact ⟨h1.1, h1.2, h2, h⟩
    · rw [if_neg h2] at h
      exact absurd h h2
  · rw [if_neg h1] at h; cases h
theorem cmp_len {D : Bool → Bool → Bool} {La S : Int} {es : List E3} {Lb T : Int} {fs : List E3} {u : List Int} {is : Bool} (h1 : cmpZ La S es Lb T fs ≠ 0 → u = [] ∧ is = false)
    (h2 : cmpZ La S es Lb T fs = 0 → FW D (mT (buildR La S es).2.1.length (buildR La S es).2.2) (mT (buildR Lb T fs).2.1.length (buildR Lb T fs).2.2) (buildR La S es).2.1.length (buildR Lb T fs).2.1.length (max La Lb).toNat 0 0 u (!is)) : u.length ≤ 100000 := by
  by_cases hz : cmpZ La S es Lb T fs = 0
  · obtain ⟨g1, g2, g3, g4⟩ := cmpZ_zero hz
    obtain ⟨f1, -, f2⟩ := build_fit g1 g3
    obtain ⟨f3, -, f4⟩ := build_fit g2 g4
    have h3 := (h2 hz).lenH (fun x l _ => mT_le f2 x l) (fun x l _ => mT_le f4 x l) (Nat.zero_le _) (Nat.zero_le _)
    have h4 := Nat.mul_le_mul (show (buildR La S es).2.1.length + 1 ≤ 65 by omega) (show (buildR Lb T fs).2.1.length + 1 ≤ 65 by omega)
    omega
  · rw [(h1 hz).1]; simp
set_option maxRecDepth 100000 in
set_option maxHeartbeats 12800000 in
theorem equals_any (La S Lb T : Int) (es fs : List E3) (v u : Value) (w : World) (hrd : EdgesRd w v es) (hru : EdgesRd w u fs) (hn : es.length ≤ 9223372036854775807) (hm : fs.length ≤ 9223372036854775807) (hT : TabD w) :
    Calls Tryd.prog 4 #[grV La S v, grV Lb T u] w fun e w' => e = .returned (.bool true) ∧ Below w.heap.size w w' := by
  have HA := Lib.hid (fun W => awake13_any W)
  have b0 := below_more (below1 w (.cells #[.int .i64 La, .int .i64 S, v] 24)) (Nat.le_refl _) (below1 _ (.cells #[.int .i64 Lb, .int .i64 T, u] 24))
  have G0 := (BoxG.new w La S v 24).keep (below1 _ (.cells #[.int .i64 Lb, .int .i64 T, u] 24))
  have H0 := BoxG.new (w.alloc (.cells #[.int .i64 La, .int .i64 S, v] 24)) Lb T u 24
  have zX : ((w.alloc (.cells #[.int .i64 La, .int .i64 S, v] 24)).alloc (.cells #[.int .i64 Lb, .int .i64 T, u] 24)).heap.size = w.heap.size + 1 + 1 := by rw [World.size_alloc, World.size_alloc]
  rw [World.size_alloc] at H0
  obtain ⟨a, c, hva⟩ := hrd.form
  obtain ⟨a', c', hvb⟩ := hru.form
  have TW : Two ((w.alloc (.cells #[.int .i64 La, .int .i64 S, v] 24)).alloc (.cells #[.int .i64 Lb, .int .i64 T, u] 24)).heap.size La S Lb T v u (((w.alloc (.cells #[.int .i64 La, .int .i64 S, v] 24)).alloc (.cells #[.int .i64 Lb, .int .i64 T, u] 24)).alloc (.cells #[.int .i64 La, .int .i64 S, v, .int .i64 Lb, .int .i64 T, u] 24)) := by
    generalize ((w.alloc (.cells #[.int .i64 La, .int .i64 S, v] 24)).alloc (.cells #[.int .i64 Lb, .int .i64 T, u] 24)) = X
    exact ⟨by simp [go_sem], by simp [go_sem], by simp [go_sem], by simp [go_sem], by simp [go_sem], by simp [go_sem]⟩
  rw [zX] at TW
  have b2 := below1 ((w.alloc (.cells #[.int .i64 La, .int .i64 S, v] 24)).alloc (.cells #[.int .i64 Lb, .int .i64 T, u] 24)) (.cells #[.int .i64 La, .int .i64 S, v, .int .i64 Lb, .int .i64 T, u] 24)
  have G1 := Lib.hid (G0.keep b2)
  have H1 := Lib.hid (H0.keep b2)
  have B0 := Lib.hid (below_more b0 (Nat.le_refl _) b2)
  have HGT : Hid (Calls Tryd.prog 8 #[.slice (some ⟨w.heap.size + 1 + 1, 0, none⟩) 2 2] (((w.alloc (.cells #[.int .i64 La, .int .i64 S, v] 24)).alloc (.cells #[.int .i64 Lb, .int .i64 T, u] 24)).alloc (.cells #[.int .i64 La, .int .i64 S, v, .int .i64 Lb, .int .i64 T, u] 24)) fun e w' => e = .returned (.bool (great13B La S es.length || great13B Lb T fs.length)) ∧ Below (((w.alloc (.cells #[.int .i64 La, .int .i64 S, v] 24)).alloc (.cells #[.int .i64 Lb, .int .i64 T, u] 24)).alloc (.cells #[.int .i64 La, .int .i64 S, v, .int .i64 Lb, .int .i64 T, u] 24)).heap.size (((w.alloc (.cells #[.int .i64 La, .int .i64 S, v] 24)).alloc (.cells #[.int .i64 Lb, .int .i64 T, u] 24)).alloc (.cells #[.int .i64 La, .int .i64 S, v, .int .i64 Lb, .int .i64 T, u] 24)) w') := Lib.hid (by
    subst hva hvb
    exact great2_any La S Lb T a a' es.length fs.length c c' _ _ TW)
  have RA := Lib.hid hrd
  have RB := Lib.hid hru
  have HT := Lib.hid hT
  have HQ1 := Lib.hid (fun W h1 h2 h3 => equal_any La S Lb T es fs v u W h1 h2 hn hm h3)
  have HI1 := Lib.hid (fun W h1 h2 h3 => included_any La S Lb T es fs v u W h1 h2 hn hm h3)
  have HI2 := Lib.hid (fun W h1 h2 h3 => included_any Lb T La S fs es u v W h2 h1 hm hn h3)
  have HQ2 := Lib.hid (fun W h1 h2 h3 => equal_any Lb T La S fs es u v W h2 h1 hm hn h3)
  have HZC := cmpZ_comm Lb T fs La S es
  obtain ⟨x1, x2, x3⟩ := G0
  obtain ⟨y1, y2, y3⟩ := H0
  clear hrd hru hT b0 b2 TW zX hva hvb
  generalize hgg : (great13B La S es.length || great13B Lb T fs.length) = gg at HGT
  clear hgg
  cases gg
  · go_enter Tryd.func4, Tryd.ntmps4
    go_upto_region 3 with (go_at_call 8; (with_reducible refine HGT.out.mono ?_); rintro e W1 ⟨rfl, b1⟩; (have B1 := Lib.hid (below_more B0.out (Nat.le_refl _) b1)); (have G2 := Lib.hid (G1.out.keep b1)); (have H2 := Lib.hid (H1.out.keep b1)); clear b1 x1 x2 x3 y1 y2 y3; (obtain ⟨x1, x2, x3⟩ := id G2.out); (obtain ⟨y1, y2, y3⟩ := id H2.out))
    clear HGT G1 H1 B0
    go_upto_region 4 with (go_at_call 12; (with_reducible refine (HQ1.out _ (RA.out.keep B1.out) (RB.out.keep B1.out) (HT.out.keep B1.out)).mono ?_); rintro e W2 ⟨x, ix, gx, cx, rfl, i2, n2, f2, b2⟩; (have I2 := Lib.hid i2); (have N2 := Lib.hid n2); (have F2 := Lib.hid f2); (have B2 := Lib.hid (B1.out.trans (b2.mono B1.out.size))); (have G3 := Lib.hid (G2.out.keep b2)); (have H3 := Lib.hid (H2.out.keep b2)); clear b2 i2 n2 f2 x1 x2 x3 y1 y2 y3 G2 H2; (obtain ⟨x1, x2, x3⟩ := id G3.out); (obtain ⟨y1, y2, y3⟩ := id H3.out))
    go_upto_region 5 with (go_at_call 10; (with_reducible refine (HI1.out _ (RA.out.keep B2.out) (RB.out.keep B2.out) (HT.out.keep B2.out)).mono ?_); rintro e W3 ⟨p, ip, gp, cp, rfl, i3, n3, f3, b3⟩; (have I3 := Lib.hid i3); (have J3 := Lib.hid (I2.out.keep b3)); (have N3 := Lib.hid n3); (have F3 := Lib.hid f3); (have B3 := Lib.hid (B2.out.trans (b3.mono B2.out.size))); (have G4 := Lib.hid (G3.out.keep b3)); (have H4 := Lib.hid (H3.out.keep b3)); clear b3 i3 n3 f3 x1 x2 x3 y1 y2 y3 G3 H3 I2; (obtain ⟨x1, x2, x3⟩ := id G4.out); (obtain ⟨y1, y2, y3⟩ := id H4.out))
    go_upto_region 6 with (go_at_call 10; (with_reducible refine (HI2.out _ (RA.out.keep B3.out) (RB.out.keep B3.out) (HT.out.keep B3.out)).mono ?_); rintro e W4 ⟨q, iq, gq, cq, rfl, i4, n4, f4, b4⟩; (have I4 := Lib.hid i4); (have J4 := Lib.hid (J3.out.keep b4)); (have P4 := Lib.hid (I3.out.keep b4)); (have N4 := Lib.hid n4); (have F4 := Lib.hid f4); (have B4 := Lib.hid (B3.out.trans (b4.mono B3.out.size))); (have G5 := Lib.hid (G4.out.keep b4)); (have H5 := Lib.hid (H4.out.keep b4)); clear b4 i4 n4 f4 x1 x2 x3 y1 y2 y3 G4 H4 I3 J3; (obtain ⟨x1, x2, x3⟩ := id G5.out); (obtain ⟨y1, y2, y3⟩ := id H5.out))
    go_upto_region 7 with (go_at_call 12; (with_reducible refine (HQ2.out _ (RA.out.keep B4.out) (RB.out.keep B4.out) (HT.out.keep B4.out)).mono ?_); rintro e W5 ⟨y, iy, gy, cy, rfl, i5, n5, f5, b5⟩; (have I5 := Lib.hid i5); (have J5 := Lib.hid (J4.out.keep b5)); (have P5 := Lib.hid (P4.out.keep b5)); (have Q5 := Lib.hid (I4.out.keep b5)); (have N5 := Lib.hid n5); (have F5 := Lib.hid f5); (have B5 := Lib.hid (B4.out.trans (b5.mono B4.out.size))); clear b5 i5 n5 f5 x1 x2 x3 y1 y2 y3 G5 H5 I4 J4 P4)
    have lx := cmp_len N2.out F2.out
    have lp := cmp_len N3.out F3.out
    have lq := cmp_len N4.out F4.out
    have HEE : Hid (∀ W u u' l, IntsRd W u l → IntsRd W u' l → l.length ≤ 100000 → Calls Tryd.prog 13 #[u, u'] W fun e W' => e = .returned (.bool true) ∧ Below W.heap.size W W') := Lib.hid (fun W u u' l h1 h2 h3 => by
      have h := intsEq_any h1 h2 (by omega) (by omega)
      rw [decide_eq_true rfl] at h
      exact h)
    have hfx : (cmpZ La S es Lb T fs ≠ 0 ∧ x = [] ∧ ix = false ∧ y = [] ∧ iy = false) ∨ (cmpZ La S es Lb T fs = 0 ∧ ix = iy ∧ x = y ∧ ix = (ip && iq) ∧ x = (if ip = true ∨ (iq = false ∧ slt q p) then q else p)) := by
      have n5 := N5.out
      have f4 := F4.out
      have f5 := F5.out
      rw [HZC, Int.max_comm] at f4 f5
      rw [HZC] at n5
      by_cases hz : cmpZ La S es Lb T fs = 0
      · right
        obtain ⟨e1, e2⟩ := fw_same (F2.out hz) (f5 hz)
        obtain ⟨e3, e4⟩ := fw_both (F2.out hz) (F3.out hz) (f4 hz)
        refine ⟨hz, by cases ix <;> cases iy <;> simp at e1 ⊢, e2, by cases ix <;> cases ip <;> cases iq <;> simp at e3 ⊢, ?_⟩
        rw [e4]
        cases ip <;> cases iq <;> simp
      · left
        exact ⟨hz, (N2.out hz).1, (N2.out hz).2, (n5 hz).1, (n5 hz).2⟩
    try rw [HZC]
    clear N2 F2 N3 F3 N4 F4 N5 F5 HZC HQ1 HQ2 HI1 HI2 RA RB HT
    generalize cmpZ La S es Lb T fs = Z at hfx ⊢
    have dz : (Z != Z) = false := by simp
    rcases hfx with ⟨hz, rfl, rfl, rfl, rfl⟩ | ⟨rfl, rfl, rfl, hix, hx⟩
    · have d1 : (Z != 0) = true := by simpa using hz
      clear hz
      have J5 := Lib.hid (show IntsRd W5 (.slice gx 0 cx) [] from J5.out)
      have I5 := Lib.hid (show IntsRd W5 (.slice gy 0 cy) [] from I5.out)
      go_wp2_with (first
        | (go_at_call 13; (with_reducible refine (HEE.out _ _ _ _ J5.out I5.out lx).mono ?_); rintro e W6 ⟨rfl, b6⟩; (have B6 := Lib.hid (B5.out.trans (b6.mono B5.out.size))); (have J6 := Lib.hid (J5.out.keep b6)); (have P6 := Lib.hid (P5.out.keep b6)); (have Q6 := Lib.hid (Q5.out.keep b6)); clear b6 J5 P5 Q5 I5)
        | (go_at_call 9; (with_reducible refine (HA.out _).mono ?_); rintro e W9 ⟨rfl, b9⟩; (have B9 := Lib.hid (B6.out.trans (b9.mono B6.out.size))); clear b9))
      go_ret
      exact ⟨rfl, B9.out⟩
    · clear dz
      cases ip
      · cases iq
        · by_cases hlt : slt q p
          · have hsl : decide (slt q p) = true := decide_eq_true hlt
            rw [if_pos (.inr ⟨rfl, hlt⟩)] at hx
            subst hix
            subst hx
            clear hlt
            go_wp2_with (first
              | (go_at_call 13; (with_reducible refine (HEE.out _ _ _ _ J5.out I5.out lx).mono ?_); rintro e W6 ⟨rfl, b6⟩; (have B6 := Lib.hid (B5.out.trans (b6.mono B5.out.size))); (have J6 := Lib.hid (J5.out.keep b6)); (have P6 := Lib.hid (P5.out.keep b6)); (have Q6 := Lib.hid (Q5.out.keep b6)); clear b6 J5 P5 Q5 I5)
              | (go_at_call 14; (with_reducible refine (less_any _ _ _ _ _ _ _ Q6.out P6.out lq lp).mono ?_); rw [hsl]; rintro e W7 ⟨rfl, b7⟩; (have B7 := Lib.hid (B6.out.trans (b7.mono B6.out.size))); (have J7 := Lib.hid (J6.out.keep b7)); (have P7 := Lib.hid (P6.out.keep b7)); (have Q7 := Lib.hid (Q6.out.keep b7)); clear b7 J6 P6 Q6)
              | (go_at_call 13; (with_reducible refine (HEE.out _ _ _ _ J7.out Q7.out lx).mono ?_); rintro e W8 ⟨rfl, b8⟩; (have B8 := Lib.hid (B7.out.trans (b8.mono B7.out.size))); clear b8)
              | (go_at_call 9; (with_reducible refine (HA.out _).mono ?_); rintro e W9 ⟨rfl, b9⟩; (have B9 := Lib.hid (B8.out.trans (b9.mono B8.out.size))); clear b9))
            go_ret
            exact ⟨rfl, B9.out⟩
          · have hsl : decide (slt q p) = false := decide_eq_false hlt
            rw [if_neg (fun h => h.elim (fun h => by cases h) (fun h => hlt h.2))] at hx
            subst hix
            subst hx
            clear hlt
            go_wp2_with (first
              | (go_at_call 13; (with_reducible refine (HEE.out _ _ _ _ J5.out I5.out lx).mono ?_); rintro e W6 ⟨rfl, b6⟩; (have B6 := Lib.hid (B5.out.trans (b6.mono B5.out.size))); (have J6 := Lib.hid (J5.out.keep b6)); (have P6 := Lib.hid (P5.out.keep b6)); (have Q6 := Lib.hid (Q5.out.keep b6)); clear b6 J5 P5 Q5 I5)
              | (go_at_call 14; (with_reducible refine (less_any _ _ _ _ _ _ _ Q6.out P6.out lq lp).mono ?_); rw [hsl]; rintro e W7 ⟨rfl, b7⟩; (have B7 := Lib.hid (B6.out.trans (b7.mono B6.out.size))); (have J7 := Lib.hid (J6.out.keep b7)); (have P7 := Lib.hid (P6.out.keep b7)); (have Q7 := Lib.hid (Q6.out.keep b7)); clear b7 J6 P6 Q6)
              | (go_at_call 13; (with_reducible refine (HEE.out _ _ _ _ J7.out P7.out lx).mono ?_); rintro e W8 ⟨rfl, b8⟩; (have B8 := Lib.hid (B7.out.trans (b8.mono B7.out.size))); clear b8)
              | (go_at_call 9; (with_reducible refine (HA.out _).mono ?_); rintro e W9 ⟨rfl, b9⟩; (have B9 := Lib.hid (B8.out.trans (b9.mono B8.out.size))); clear b9))
            go_ret
            exact ⟨rfl, B9.out⟩
        · rw [if_neg (fun h => h.elim (fun h => by cases h) (fun h => by cases h.1))] at hx
          subst hix
          subst hx
          go_wp2_with (first
            | (go_at_call 13; (with_reducible refine (HEE.out _ _ _ _ J5.out I5.out lx).mono ?_); rintro e W6 ⟨rfl, b6⟩; (have B6 := Lib.hid (B5.out.trans (b6.mono B5.out.size))); (have J6 := Lib.hid (J5.out.keep b6)); (have P6 := Lib.hid (P5.out.keep b6)); (have Q6 := Lib.hid (Q5.out.keep b6)); clear b6 J5 P5 Q5 I5)
            | (go_at_call 13; (with_reducible refine (HEE.out _ _ _ _ J6.out P6.out lx).mono ?_); rintro e W8 ⟨rfl, b8⟩; (have B8 := Lib.hid (B6.out.trans (b8.mono B6.out.size))); clear b8)
            | (go_at_call 9; (with_reducible refine (HA.out _).mono ?_); rintro e W9 ⟨rfl, b9⟩; (have B9 := Lib.hid (B8.out.trans (b9.mono B8.out.size))); clear b9))
          go_ret
          exact ⟨rfl, B9.out⟩
      · rw [if_pos (.inl rfl)] at hx
        subst hx
        cases iq
        · subst hix
          go_wp2_with (first
            | (go_at_call 13; (with_reducible refine (HEE.out _ _ _ _ J5.out I5.out lx).mono ?_); rintro e W6 ⟨rfl, b6⟩; (have B6 := Lib.hid (B5.out.trans (b6.mono B5.out.size))); (have J6 := Lib.hid (J5.out.keep b6)); (have P6 := Lib.hid (P5.out.keep b6)); (have Q6 := Lib.hid (Q5.out.keep b6)); clear b6 J5 P5 Q5 I5)
            | (go_at_call 13; (with_reducible refine (HEE.out _ _ _ _ J6.out Q6.out lx).mono ?_); rintro e W8 ⟨rfl, b8⟩; (have B8 := Lib.hid (B6.out.trans (b8.mono B6.out.size))); clear b8)
            | (go_at_call 9; (with_reducible refine (HA.out _).mono ?_); rintro e W9 ⟨rfl, b9⟩; (have B9 := Lib.hid (B8.out.trans (b9.mono B8.out.size))); clear b9))
          go_ret
          exact ⟨rfl, B9.out⟩
        · subst hix
          go_wp2_with (first
            | (go_at_call 13; (with_reducible refine (HEE.out _ _ _ _ J5.out I5.out lx).mono ?_); rintro e W6 ⟨rfl, b6⟩; (have B6 := Lib.hid (B5.out.trans (b6.mono B5.out.size))); (have J6 := Lib.hid (J5.out.keep b6)); (have P6 := Lib.hid (P5.out.keep b6)); (have Q6 := Lib.hid (Q5.out.keep b6)); clear b6 J5 P5 Q5 I5)
            | (go_at_call 13; (with_reducible refine (HEE.out _ _ _ _ J6.out Q6.out lx).mono ?_); rintro e W8 ⟨rfl, b8⟩; (have B8 := Lib.hid (B6.out.trans (b8.mono B6.out.size))); clear b8)
            | (go_at_call 9; (with_reducible refine (HA.out _).mono ?_); rintro e W9 ⟨rfl, b9⟩; (have B9 := Lib.hid (B8.out.trans (b9.mono B8.out.size))); clear b9))
          go_ret
          exact ⟨rfl, B9.out⟩
  · go_enter Tryd.func4, Tryd.ntmps4
    go_wp2_with (first
      | (go_at_call 8; (with_reducible refine HGT.out.mono ?_); rintro e W1 ⟨rfl, b1⟩; (have B1 := Lib.hid (below_more B0.out (Nat.le_refl _) b1)); clear b1 x1 x2 x3 y1 y2 y3)
      | (go_at_call 9; (with_reducible refine (HA.out _).mono ?_); rintro e W2 ⟨rfl, b2⟩; (have B2 := Lib.hid (B1.out.trans (b2.mono B1.out.size)))))
    go_ret
    exact ⟨rfl, B2.out⟩
end Go.Proofs.YtblkijdodojaeaaDoor

namespace Go.Proofs.YtblkijdodojaeaaDoor
open Go.ChangeShapes Go.WideShapes Go.ChangeAt Go.RowKit
def lst1 : List (String × DataW Unit) := [("math/bits.deBruijn64tab", Rows.laid_math_bits_deBruijn64tab)]
theorem lst1_met {W : World} (h : laidMetH Tryd.prog lst1 W) : laidMet Tryd.prog lst1 W := h
theorem tabDeb1 {W : World} (h : laidMetH Tryd.prog lst1 W) : Lib.TabIs Tryd.prog W "math/bits.deBruijn64tab" .u8 debZ :=
  Lib.tabIs_of_head (zs := debZ) (rest := []) gDeb gDebType Tryd.underlying191 Tryd.underlying5 cellsU8n cellsDeb (lst1_met h)
theorem tabD_laid1 {W : World} (h : laidMetH Tryd.prog lst1 W) : TabD W := fun j hj => by
  have h1 := (tabDeb1 h).cell gDeb j (by rw [List.length_map]; exact hj)
  rw [h1]
  have h2 : debZ[j]? = some ((Lib.deBruijn64tab.getD j 0 : Nat) : Int) := by
    rw [List.getElem?_map, List.getD_eq_getElem?_getD, List.getElem?_eq_getElem hj]; rfl
  first
    | (rw [List.getD_eq_getElem?_getD, h2]; rfl)
    | (rw [h2]; rfl)
    | simp [h2]
set_option maxRecDepth 100000 in
theorem laid_met1 (os : Os) (args : Array Value) : laidMet Tryd.prog lst1 ((laidWorldN os).forCall (fun _ _ => 0) ⟨#[], args, []⟩).memory :=
  laidMet_of_run' 8 (by kernel_rfl) (by kernel_rfl)
end Go.Proofs.YtblkijdodojaeaaDoor

namespace Go.Proofs.YtblkijdodojaeaaDoor.minimalEquals
open Go.ChangeShapes Go.WideShapes Go.ChangeAt Go.RowKit
open Go.ChangeMaps (open_string shut_string)
set_option maxRecDepth 100000
set_option linter.unusedVariables false

theorem contract (H : Type) (enc : TypeId × Value → H) (W : World) (args : Array Value) (ds gs : List (DataW H)) (before : List MemPlace)
    (hval : ∀ (j : Nat) t v, Tryd.f4.params[j]? = some t → args[j]? = some v → Value.okWide Tryd.prog W .any 0 t v)
    (hW : DataW.Whole enc Tryd.prog Tryd.f4.params.toList Rows.minimalEqualsSpec.vars false W args.toList ds gs before) (hL : laidMetH Tryd.prog Rows.minimalEqualsRow.laid W) :
    Calls Tryd.prog 4 args W fun e W' => ∃ v, e = .returned v ∧ Rows.minimalEqualsSpec.post enc Tryd.prog Tryd.f4 false true false false W args v W' := by
  have hW' := hW
  obtain ⟨p, q, hA0, hV, rfl, hfz, hnd⟩ := hW
  have hA : DataW.TrodAll enc Tryd.prog W 0 (fun _ => true) true Tryd.f4.params.toList args.toList ds p := hA0
  rw [Tryd.params4] at hA hval
  obtain ⟨v0, vs0, d0, ds0, p0, q0, hargs, rfl, rfl, h0, r0⟩ := trodAll_cons hA
  obtain ⟨v1, vs1, d1, ds1, p1, q1, rfl, rfl, rfl, h1, r1⟩ := trodAll_cons r0
  obtain ⟨rfl, rfl, rfl⟩ := trodAll_nil r1
  obtain rfl : args = #[v0, v1] := by cases args; simp_all
  obtain ⟨rfl, rfl⟩ := trodVars_none hV
  obtain ⟨L0, S0, u0, es0, rfl, k0, l0⟩ := graph_open (hval 0 24 v0 rfl rfl) h0
  have t0 : ∀ x ∈ p0, x.block < W.heap.size := fun x hx => by simpa using hW'.lt x (by simp [hx])
  obtain ⟨L1, S1, u1, es1, rfl, k1, l1⟩ := graph_open (hval 1 24 v1 rfl rfl) h1
  have t1 : ∀ x ∈ p1, x.block < W.heap.size := fun x hx => by simpa using hW'.lt x (by simp [hx])
  clear hA0
  refine (equals_any L0 S0 L1 S1 es0 es1 u0 u1 W k0 k1 l0 l1 (tabD_laid1 hL)).mono fun e W' ⟨he, hb⟩ => ?_
  subst he
  refine ⟨_, rfl, _, _, _, [], (p0 ++ (p1 ++ [])), [], hW', ?_, ?_, ?_, hb.frame _, fun h => by cases h⟩
  · exact trodAll_cons_mk (p := []) (shut_bool Tryd.underlying4 true) trodAll_mk0
  · exact (trodAll_cons_mk (graph_keep h0 hb t0) (trodAll_cons_mk (graph_keep h1 hb t1) trodAll_mk0))
  · rfl

theorem reads (os : Os) {H : Type} (enc : TypeId × Value → H) : ∃ places, DataW.whole enc Tryd.prog ((laidWorldN os).forCall (fun _ _ => 0) ⟨#[], #[.agg #[.int .i64 0, .int .i64 0, .slice none 0 0], .agg #[.int .i64 0, .int .i64 0, .slice none 0 0]], []⟩).memory Tryd.f4.params.toList Rows.minimalEqualsSpec.vars false [.agg #[.int .i64 0, .int .i64 0, .slice none 0 0], .agg #[.int .i64 0, .int .i64 0, .slice none 0 0]] 8 = some ([.agg [.lit (.int .i64 0), .lit (.int .i64 0), .nil], .agg [.lit (.int .i64 0), .lit (.int .i64 0), .nil]], [], places) :=
  ⟨[], by kernel_rfl⟩

theorem lifted (os : Os) (started : os.Started) (H : Type) (enc : TypeId × Value → H) (F : Stop.Interp) :
    ReturnsInHanded {} Tryd.checked os 4 .any ((OpenSpec.ofChange Rows.minimalEqualsSpec).preRow enc Tryd.prog Tryd.f4 Rows.minimalEqualsRow.domain false Rows.minimalEqualsRow.laid) (((OpenSpec.ofChange Rows.minimalEqualsSpec).at F).post enc Tryd.prog Tryd.f4 false true false false) := by
  obtain ⟨places, hx⟩ := reads os enc
  refine returnsInHanded_of_row (C := Tryd.checked) (s := OpenSpec.ofChange Rows.minimalEqualsSpec) ownNone started (by kernel_rfl) Tryd.func4
    (witness_row_at (enc := enc) (C := Tryd.checked) false (laidWorldN os) #[.agg #[.int .i64 0, .int .i64 0, .slice none 0 0], .agg #[.int .i64 0, .int .i64 0, .slice none 0 0]] rfl (by kernel_rfl) (by kernel_rfl) (by kernel_rfl)
      (OpenSpec.preRow_of_cond 8 hx (by kernel_rfl) (fun k hk => by cases hk) (by kernel_rfl) (laid_met1 os _))) ?_
  intro W base args ds gs before hval hW _ _ _ hL _ _
  exact contract H enc W args ds gs before hval hW hL

theorem said : Rows.MinimalEqualsSaid :=
  OpenClaim.holds_of_cond 4 Tryd.f4 rfl rfl rfl rfl rfl rfl rfl ⟨rfl, rfl, rfl, rfl, rfl⟩ rfl rfl rfl rfl rfl (by kernel_rfl) Tryd.func4 (by kernel_rfl)
    (of_decide_eq_true (by kernel_rfl)) (by unfold Func.isWrapper; first | (rw [if_pos (by decide +kernel)]; kernel_rfl) | (rw [if_neg (by decide +kernel)]; exact ⟨rfl, rfl⟩))
    (fun os started H enc _ F => by rw [OpenClaim.pre_eq_preRow]; exact lifted os started H enc F)

theorem ns0 : Tryd.prog.wantsStandIn 24 = false := by kernel_rfl

theorem plain (f : FuncId) (fn : Func) (hf : Tryd.pinned.checked.prog.funcNamed "groove/groovelaw13.MinimalEquals" = some f) (hfn : Tryd.pinned.checked.prog.funcs[f]? = some fn) :
    false = Tryd.pinned.checked.prog.looks [] ∧ ∀ (j : Nat) t, fn.params[j]? = some t → Tryd.pinned.checked.prog.wantsStandIn t = false := by
  obtain rfl : f = 4 := Option.some.inj ((show Tryd.prog.funcNamed "groove/groovelaw13.MinimalEquals" = some 4 by kernel_rfl).symm.trans hf) |>.symm
  obtain rfl : fn = Tryd.f4 := (Option.some.inj (Tryd.func4.symm.trans hfn)).symm
  refine ⟨by kernel_rfl, fun j t ht => ?_⟩
  rw [Tryd.params4] at ht
  have hm := Array.mem_of_getElem? ht
  obtain rfl : t = 24 := by simpa using hm
  exact ns0

/-- MinimalEquals's card. -/
theorem card : Rows.MinimalEqualsCardSaid :=
  Claim7.holds_tied_plain_at .later [] _ _ _ _ said (fun _ h => by cases h) (by kernel_rfl) (fun _ h => by cases h) minimalEquals_row_tie rfl ⟨rfl, rfl⟩ (by kernel_rfl) rfl plain (by kernel_rfl)
end Go.Proofs.YtblkijdodojaeaaDoor.minimalEquals
