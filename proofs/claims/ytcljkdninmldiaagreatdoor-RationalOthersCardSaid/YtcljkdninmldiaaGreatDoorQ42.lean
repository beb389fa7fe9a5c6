/- What the reference implementation's Print of layer 2 returns. Condition: at most 900000 bytes. What the reference implementation's Parse returns. Condition: the text has at most 65536 bytes, else ErrLimit. The text of a rational number is parsed to it, and what can be parsed is the text of what comes out. No condition. -/
import Derived.Test.YtcljkdninmldiaaGreatDoorQ32
import Derived.Test.YtcljkdninmldiaaGreatDoorQ41
import Derived.Test.YtcljkdninmldiaaGreatDoorQ36
import Derived.Test.YtcljkdninmldiaaGreatDoorQ10
import Derived.Test.YtcljkdninmldiaaGreatDoorQ04

namespace Go.Proofs.YtcljkdninmldiaaGreatDoor
open Go.RowKit
set_option linter.unusedSimpArgs false
set_option linter.unusedVariables false
attribute [local go_sem ↓] eqlInt guardInt2

theorem ai_print {v : Value} {z : Int} {L : Nat} {T : List UInt8} {w : World} (h : AI v z L) (hL : L ≤ 1000000) (e : prZ z = T) :
    Calls Tryz.prog 40 #[v] w fun e w' => e = .returned (.string ⟨T.toArray⟩) ∧ Below w.heap.size w w' := by
  obtain ⟨g, l, rfl, a, b⟩ := h
  exact e ▸ rprint01_any g l z w (by omega) a
set_option maxRecDepth 100000 in
set_option maxHeartbeats 6400000 in
theorem rprt02_any (v : Value) (q : Rat) (T : List UInt8) (L : Nat) (w : World) (h : AR v q L) (hL : L ≤ 900000) (e : prQ q = T) :
    Calls Tryz.prog 13 #[v] w fun e w' => e = .returned (.string ⟨T.toArray⟩) ∧ Below w.heap.size w w' := by
  have H := Lib.hid h
  have Q := Lib.hid h.bd
  have He := Lib.hid e
  have A1 := Lib.hid (ai_mg Q.out.1)
  have A2 := Lib.hid (ai_mg (z := (q.den : Int)) (by rw [Int.natAbs_natCast]; exact Q.out.2))
  obtain ⟨T1, E1⟩ : ∃ T1, Hid (prZ q.num = T1) := ⟨_, Lib.hid rfl⟩
  obtain ⟨T2, E2⟩ : ∃ T2, Hid (prZ (q.den : Int) = T2) := ⟨_, Lib.hid rfl⟩
  have P1 : T1.length ≤ 200000000 := by
    have := prZ_len (z := q.num) (k := L + 1) (Nat.lt_of_lt_of_le Q.out.1 (Nat.pow_le_pow_left (by omega) _))
    rw [E1.out] at this
    omega
  have P2 : T2.length ≤ 200000000 := by
    have := prZ_len (z := (q.den : Int)) (k := L + 1) (by rw [Int.natAbs_natCast]; exact Nat.lt_of_lt_of_le Q.out.2 (Nat.pow_le_pow_left (by omega) _))
    rw [E2.out] at this
    omega
  have HT := Lib.hid (show T = if (q.den : Int) = 1 then T1 else T1 ++ 47 :: T2 by
    rw [← He.out, ← E1.out, ← E2.out]
    unfold prQ
    by_cases h1 : q.den = 1
    · rw [if_pos h1, if_pos (by omega)]
    · rw [if_neg h1, if_neg (by omega)])
  obtain ⟨g1, s1, g2, s2, _, _, rfl, -, -, -⟩ := h
  clear e
  have X0 := BR.new w 25 g1 g2 s1 s2
  have B0 := below1 w (.cells #[.bool g1, .string s1, .bool g2, .string s2] 25)
  go_enter Tryz.func13, Tryz.ntmps13
  go_upto_region 1 with fail
  generalize w.alloc (.cells #[.bool g1, .string s1, .bool g2, .string s2] 25) = W0 at *
  obtain ⟨⟨x1, x2, x3, x4⟩, x5, x6, x7, x8⟩ := id X0
  go_wp2_with fail
  refine (rcan02_any _ q L _ H.out (by omega)).mono ?_
  rintro e X ⟨rfl, bX⟩
  unfold ratV
  have K := X0.keep bX
  have K2 := K.put (g1' := sg q.num) (g2' := sg (q.den : Int)) (s1' := mg q.num) (s2' := mg (q.den : Int))
  have B2 := below4s (below_more B0 (Nat.le_refl _) bX) w.heap.size (Nat.le_refl _) (.bool (sg q.num)) (.string (mg q.num)) (.bool (sg (q.den : Int))) (.string (mg (q.den : Int)))
  clear bX x1 x2 x3 x4 x5 x6 x7 x8 X0 B0
  obtain ⟨⟨x1, x2, x3, x4⟩, x5, x6, x7, x8⟩ := id K
  go_upto_region 2 with fail
  generalize (((X.setCell ⟨w.heap.size, 0, none⟩ (.bool (sg q.num))).setCell ⟨w.heap.size, 1, none⟩ (.string (mg q.num))).setCell ⟨w.heap.size, 2, none⟩ (.bool (sg (q.den : Int)))).setCell ⟨w.heap.size, 3, none⟩ (.string (mg (q.den : Int))) = X2 at *
  clear K x1 x2 x3 x4 x5 x6 x7 x8
  obtain ⟨dn, HD⟩ : ∃ d : Bool, Hid (decide ((q.den : Int) = 1) = d) := ⟨_, Lib.hid rfl⟩
  have Hs := Lib.hid (show (sg (q.den : Int) == sg 1 && (mg (q.den : Int)).toList == (mg 1).toList) = dn by rw [same_one]; exact HD.out)
  go_cut [8] (fun s8 wx => s8 = .bool dn ∧ BR wx w.heap.size (sg q.num) (mg q.num) (sg (q.den : Int)) (mg (q.den : Int)) ∧ Below w.heap.size w wx)
  case first =>
    have KB : BR X2.drew w.heap.size (sg q.num) (mg q.num) (sg (q.den : Int)) (mg (q.den : Int)) ∧ Below w.heap.size w X2.drew := ⟨K2, B2.drew⟩
    clear K2 B2
    obtain ⟨⟨⟨x1, x2, x3, x4⟩, -⟩, -⟩ := id KB
    go_region_with (first
      | (go_at_call 39; (refine (rone_any _).mono ?_); rintro e X ⟨rfl, bX⟩; have KB := And.intro (KB.1.keep bX) (below_more KB.2 (Nat.le_refl _) bX); obtain ⟨⟨⟨x1, x2, x3, x4⟩, -⟩, -⟩ := id KB))
    all_goals go_wp2_with fail
    all_goals go_meet
    all_goals exact ⟨by rw [Hs.out], KB.1, KB.2⟩
  case rest =>
    obtain ⟨rfl, K, B⟩ := hcut
    clear K2 B2
    obtain ⟨⟨x1, x2, x3, x4⟩, -⟩ := id K
    cases dn with
    | true =>
      have HT1 := Lib.hid (show T = T1 by rw [HT.out, if_pos (of_decide_eq_true HD.out)])
      go_wp2_with fail
      refine (ai_print A1.out (by omega) E1.out).mono ?_
      rintro e X3 ⟨rfl, b3⟩
      go_wp2_with fail
      go_ret
      exact ⟨by rw [HT1.out]; rfl, below_more B (Nat.le_refl _) b3⟩
    | false =>
      have HT1 := Lib.hid (show T = T1 ++ 47 :: T2 by rw [HT.out, if_neg (of_decide_eq_false HD.out)])
      go_upto_region 4 with fail
      have KB : BR wc.drew w.heap.size (sg q.num) (mg q.num) (sg (q.den : Int)) (mg (q.den : Int)) ∧ Below w.heap.size w wc.drew := ⟨K, B.drew⟩
      clear K B x1 x2 x3 x4
      obtain ⟨⟨⟨x1, x2, x3, x4⟩, -⟩, -⟩ := id KB
      go_region_with (first
        | (go_at_call 40; (first | (with_reducible refine (ai_print A1.out (by omega) E1.out).mono ?_) | (with_reducible refine (ai_print A2.out (by omega) E2.out).mono ?_)); rintro e X ⟨rfl, bX⟩; have KB := And.intro (KB.1.keep bX) (below_more KB.2 (Nat.le_refl _) bX); obtain ⟨⟨⟨x1, x2, x3, x4⟩, -⟩, -⟩ := id KB))
      all_goals
        go_wp2_with fail
        go_ret
        exact ⟨by rw [HT1.out, ← cat3]; rfl, KB.2⟩
end Go.Proofs.YtcljkdninmldiaaGreatDoor

namespace Go.Proofs.YtcljkdninmldiaaGreatDoor
open Go.RowKit
set_option linter.unusedSimpArgs false
set_option linter.unusedVariables false

theorem dv_step {l : List UInt8} {k : Nat} {c : UInt8} (h : l[k]? = some c) : dv (l.take (k + 1)) = 10 * dv (l.take k) + (c.toNat - 48) := by
  rw [List.take_add_one, h]
  unfold dv
  rw [List.foldl_append]; rfl
theorem ten8_step {s g : Nat → Nat} {k y t D : Nat} (hv : w8 s k + y * 256 ^ k = 10 * w8 g k + D) (ht : t = y + 10 * g k) :
    w8 (upd s k (t % 256)) (k + 1) + t / 256 * 256 ^ (k + 1) = 10 * w8 g (k + 1) + D := by
  rw [w8_upd, w8, Nat.pow_succ]
  have h2 := Nat.div_add_mod t 256
  generalize 256 ^ k = P at *
  generalize t / 256 = a at *
  generalize t % 256 = r at *
  have h4 : (256 * a + r) * P = (y + 10 * g k) * P := by rw [h2, ht]
  rw [Nat.add_mul, Nat.add_mul] at h4
  have h5 : a * (P * 256) = 256 * a * P := by rw [Nat.mul_comm P, ← Nat.mul_assoc, Nat.mul_comm a]
  have h6 : 10 * (g k * P) = 10 * g k * P := (Nat.mul_assoc _ _ _).symm
  rw [h5, Nat.mul_add, h6]
  omega
theorem u8w (t : Nat) : IntKind.u8.wrap (t : Int) = ((t % 256 : Nat) : Int) := by simp [IntKind.wrap, IntKind.bits, IntKind.signed]
theorem cut_cases (l : List UInt8) : l = [] ∨ (∃ t, l = 45 :: t ∧ cutD l = t ∧ cutN l = true) ∨ (∃ b t, l = b :: t ∧ b ≠ 45 ∧ cutD l = l ∧ cutN l = false) := by
  cases l with
  | nil => exact Or.inl rfl
  | cons b t =>
    by_cases h : b = 45
    · subst h; exact Or.inr (Or.inl ⟨t, rfl, (cut_minus t).1, (cut_minus t).2⟩)
    · refine Or.inr (Or.inr ⟨b, t, rfl, h, ?_, ?_⟩)
      · unfold cutD Lib.trimPrefix; rw [if_neg]; simp [Lib.hasPrefix, List.isPrefixOf, h]; exact fun e => h e.symm
      · unfold cutN; simp [Lib.hasPrefix, List.isPrefixOf, h]; exact fun e => h e.symm
theorem pz_none1 {l : List UInt8} (h : isDec (cutD l) = false) : pz l = none := by unfold pz; rw [if_pos (Or.inl h)]
theorem pz_lead {l r : List UInt8} {c : UInt8} (hd : cutD l = c :: r) (hc : c.toNat = 48) (hl : 1 < l.length) : pz l = none := by
  unfold pz
  by_cases hr : r = []
  · subst hr
    have hN : cutN l = true := by
      rcases cut_cases l with rfl | ⟨t, rfl, h1, h2⟩ | ⟨b, t, rfl, h0, h1, h2⟩
      · simp at hl
      · exact h2
      · rw [h1] at hd
        injection hd with h3 h4
        subst h4
        simp at hl
    have hc2 : c = 48 := UInt8.toNat_inj.1 (by simpa using hc)
    rw [if_pos (Or.inr ⟨hN, by rw [hd, hc2]⟩)]
  · rw [if_pos (Or.inl (by rw [hd, isDec_cons]; simp [hr, hc]))]
theorem pz_good {l r : List UInt8} {c : UInt8} (hd : cutD l = c :: r) (h : ¬ (c.toNat = 48 ∧ 1 < l.length)) (ha : (cutD l).all digB = true) : pz l = some (if cutN l then -(dv (cutD l) : Int) else (dv (cutD l) : Int)) := by
  unfold pz
  rw [if_neg]
  rintro (h1 | ⟨h1, h2⟩)
  · rw [hd] at ha h1
    rw [isDec_cons, ha, Bool.and_true] at h1
    have h3 : r ≠ [] ∧ c.toNat = 48 := by simpa using h1
    apply h
    refine ⟨h3.2, ?_⟩
    have h4 := cutD_len l
    have h5 : 0 < r.length := List.length_pos_iff.2 h3.1
    rw [hd, List.length_cons] at h4
    omega
  · rw [hd] at h2
    injection h2 with h3 h4
    apply h
    refine ⟨by rw [h3]; rfl, ?_⟩
    rcases cut_cases l with rfl | ⟨t, rfl, h5, h6⟩ | ⟨b, t, rfl, h0, h5, h6⟩
    · simp [cutN, Lib.hasPrefix] at h1
    · rw [h5] at hd; rw [hd]; simp
    · rw [h6] at h1; cases h1
set_option maxRecDepth 100000 in
set_option maxHeartbeats 3200000 in
theorem rparse01_limit (s : ByteArray) (w : World) (hs : 65536 < s.size) (hs2 : s.size ≤ 9223372036854775807) :
    Calls Tryz.prog 35 #[.string s] w (FailOut w 4) := by
  have hr := ResCell.new w 23
  obtain ⟨r1, r2, r3, r4⟩ := hr
  have hb := below1 w (.cells #[.bool false, .string ⟨#[]⟩] 23)
  go_enter Tryz.func35, Tryz.ntmps35
  go_wp2_with fail
  exact bodyPost_ret (v := .tuple #[.agg #[.bool false, .string ⟨#[]⟩], .int .i64 4]) (by simp [results, Tryz.results35, go_sem, r1, r2]) rfl ⟨rfl, (by first | exact hb | exact (hb.setCell (Nat.le_refl _) _).setCell (Nat.le_refl _) _)⟩
theorem rcan_p {g : Bool} {l : List UInt8} {z : Int} {w : World} (hl : l.length ≤ 1000000000) (hz : zv g ⟨l.toArray⟩ = z) :
    Calls Tryz.prog 51 #[.agg #[.bool g, .string ⟨l.toArray⟩]] w (IntOut w z) := hz ▸ rcanonical_any g l w hl
set_option maxRecDepth 100000 in
set_option maxHeartbeats 6400000 in
theorem rparse01_any (l : List UInt8) (w : World) (hl : l.length ≤ 65536) :
    Calls Tryz.prog 35 #[.string ⟨l.toArray⟩] w (ParseOut w (pz l)) := by
  have hr := ResCell.new w 23
  have hb := below1 w (.cells #[.bool false, .string ⟨#[]⟩] 23)
  obtain ⟨d, Hd⟩ : ∃ d, Hid (cutD l = d) := ⟨_, Lib.hid rfl⟩
  obtain ⟨g, Hg⟩ : ∃ g, Hid (cutN l = g) := ⟨_, Lib.hid rfl⟩
  have hcase : (l = [] ∧ d = []) ∨ (l = 45 :: d ∧ g = true) ∨ (∃ b : UInt8, l[0]? = some b ∧ ((b.toNat : Int) == 45) = false ∧ d = l ∧ g = false) := by
    rcases cut_cases l with rfl | ⟨t, rfl, h1, h2⟩ | ⟨b, t, rfl, h0, h1, h2⟩
    · exact Or.inl ⟨rfl, by rw [← Hd.out]; rfl⟩
    · exact Or.inr (Or.inl ⟨by rw [← Hd.out, h1], by rw [← Hg.out, h2]⟩)
    · refine Or.inr (Or.inr ⟨b, rfl, ?_, by rw [← Hd.out, h1], by rw [← Hg.out, h2]⟩)
      rw [beq_eq_false_iff_ne]
      intro e
      exact h0 (UInt8.toNat_inj.1 (by simpa using (by omega : b.toNat = 45)))
  rcases hcase with ⟨rfl, rfl⟩ | hcase
  · have HP := Lib.hid (pz_none1 (l := []) (by rw [Hd.out]; rfl))
    obtain ⟨r1, r2, r3, r4⟩ := hr
    go_enter Tryz.func35, Tryz.ntmps35
    go_wp2_with fail
    exact bodyPost_ret (v := .tuple #[.agg #[.bool false, .string ⟨#[]⟩], .int .i64 3]) (by simp [results, Tryz.results35, go_sem, r1, r2]) rfl (by rw [HP.out]; exact ⟨rfl, (by first | exact hb | exact (hb.setCell (Nat.le_refl _) _).setCell (Nat.le_refl _) _)⟩)
  have Hlen := Lib.hid (show (d.length < l.length ∧ g = true) ∨ (d.length = l.length ∧ g = false) by
    rcases hcase with ⟨rfl, rfl⟩ | ⟨b, h0, hb, rfl, rfl⟩
    · exact Or.inl ⟨by simp, rfl⟩
    · exact Or.inr ⟨rfl, rfl⟩)
  have hdl : d.length ≤ 65536 := by have := cutD_len l; rw [Hd.out] at this; omega
  have hfirst : (∃ v : Int, (v == 45) = true ∧ (∀ W : World, (Instr.index 9 (.string ⟨l.toArray⟩) (.int .i64 0)).run Tryz.prog W = .ok (.int .u8 v) W) ∧ (∀ W : World, (Instr.slice 9 (.string ⟨l.toArray⟩) (some (.int .i64 1)) none none).run Tryz.prog W = .ok (.string ⟨d.toArray⟩) W)) ∨ (∃ v : Int, (v == 45) = false ∧ (∀ W : World, (Instr.index 9 (.string ⟨l.toArray⟩) (.int .i64 0)).run Tryz.prog W = .ok (.int .u8 v) W) ∧ d = l) := by
    rcases hcase with ⟨rfl, rfl⟩ | ⟨b, h0, hb, rfl, rfl⟩
    · exact Or.inl ⟨45, rfl, run_index_bytes (45 :: d) 0 45 rfl 0 (by simp), run_tail_bytes 45 d⟩
    · exact Or.inr ⟨b.toNat, hb, run_index_bytes d 0 b h0 0 (by simp), rfl⟩
  have hlp : 0 < l.length := by
    rcases hcase with ⟨rfl, rfl⟩ | ⟨b, h0, hb, rfl, rfl⟩
    · simp
    · rcases Nat.eq_zero_or_pos d.length with h | h
      · rw [List.getElem?_eq_none (by omega)] at h0; cases h0
      · exact h
  clear hcase
  by_cases hd0 : d = []
  · have HP := Lib.hid (pz_none1 (l := l) (by rw [Hd.out, hd0]; rfl))
    obtain ⟨r1, r2, r3, r4⟩ := hr
    subst hd0
    rcases hfirst with ⟨v, hv, hix, htl⟩ | ⟨v, hv, hix, rfl⟩
    · go_enter Tryz.func35, Tryz.ntmps35
      go_wp2_with fail
      exact bodyPost_ret (v := .tuple #[.agg #[.bool false, .string ⟨#[]⟩], .int .i64 3]) (by simp [results, Tryz.results35, go_sem, r1, r2]) rfl (by rw [HP.out]; exact ⟨rfl, (by first | exact hb | exact (hb.setCell (Nat.le_refl _) _).setCell (Nat.le_refl _) _)⟩)
    · simp at hlp
  obtain ⟨c, r, hcr⟩ : ∃ c r, d = c :: r := by
    cases d with
    | nil => exact absurd rfl hd0
    | cons c r => exact ⟨c, r, rfl⟩
  have Hcr := Lib.hid hcr
  have hix2 := run_index_bytes d 0 c (by rw [hcr]; rfl) 0 (by simp)
  have hdn : (d == []) = false := beq_eq_false_iff_ne.2 hd0
  have hc8 := c.toNat_lt
  have hdp : 0 < d.length := by rw [hcr]; simp
  clear hcr hd0
  by_cases hlead : c.toNat = 48 ∧ 1 < l.length
  · have HP := Lib.hid (pz_lead (Hd.out.trans Hcr.out) hlead.1 hlead.2)
    obtain ⟨r1, r2, r3, r4⟩ := hr
    obtain ⟨hc48, hl1⟩ := hlead
    rw [hc48] at hix2
    rcases hfirst with ⟨v, hv, hix, htl⟩ | ⟨v, hv, hix, rfl⟩
    rotate_left
    · clear hix hv
      have hv : ((c.toNat : Int) == 45) = false := by rw [hc48]; rfl
      rw [hc48] at hv
      go_enter Tryz.func35, Tryz.ntmps35
      go_wp2_with fail
      exact bodyPost_ret (v := .tuple #[.agg #[.bool false, .string ⟨#[]⟩], .int .i64 3]) (by simp [results, Tryz.results35, go_sem, r1, r2]) rfl (by rw [HP.out]; exact ⟨rfl, (by first | exact hb | exact (hb.setCell (Nat.le_refl _) _).setCell (Nat.le_refl _) _)⟩)
    all_goals
      go_enter Tryz.func35, Tryz.ntmps35
      go_wp2_with fail
      exact bodyPost_ret (v := .tuple #[.agg #[.bool false, .string ⟨#[]⟩], .int .i64 3]) (by simp [results, Tryz.results35, go_sem, r1, r2]) rfl (by rw [HP.out]; exact ⟨rfl, (by first | exact hb | exact (hb.setCell (Nat.le_refl _) _).setCell (Nat.le_refl _) _)⟩)
  have HL := Lib.hid hlead
  have hc48 : ((c.toNat : Int) == 48) = false ∨ (((c.toNat : Int) == 48) = true ∧ l.length = 1) := by
    by_cases h : c.toNat = 48
    · refine Or.inr ⟨by rw [h]; rfl, ?_⟩
      have h1 : ¬ 1 < l.length := fun e => hlead ⟨h, e⟩
      omega
    · exact Or.inl (by rw [beq_eq_false_iff_ne]; omega)
  clear hlead
  have hmain : ((∃ v : Int, (v == 45) = true ∧ (∀ W : World, (Instr.index 9 (.string ⟨l.toArray⟩) (.int .i64 0)).run Tryz.prog W = .ok (.int .u8 v) W) ∧ (∀ W : World, (Instr.slice 9 (.string ⟨l.toArray⟩) (some (.int .i64 1)) none none).run Tryz.prog W = .ok (.string ⟨d.toArray⟩) W)) ∧ ((c.toNat : Int) == 48) = false) ∨ (∃ v : Int, (v == 45) = false ∧ (∀ W : World, (Instr.index 9 (.string ⟨l.toArray⟩) (.int .i64 0)).run Tryz.prog W = .ok (.int .u8 v) W) ∧ d = l ∧ (((c.toNat : Int) == 48) = false ∨ (((c.toNat : Int) == 48) = true ∧ l.length = 1))) := by
    rcases hfirst with h | ⟨v, h1, h2, h3⟩
    · refine Or.inl ⟨h, ?_⟩
      rcases hc48 with h4 | ⟨h4, h5⟩
      · exact h4
      · exfalso
        rcases Hlen.out with ⟨h6, _⟩ | ⟨h6, h7⟩
        · omega
        · obtain ⟨v, hv, hix, htl⟩ := h
          have h8 := cut_cases l
          rcases h8 with rfl | ⟨t, rfl, a1, a2⟩ | ⟨b, t, rfl, a0, a1, a2⟩
          · simp at hlp
          · rw [Hg.out] at a2; rw [h7] at a2; cases a2
          · have a3 := hix w
            rw [run_index_bytes (b :: t) 0 b rfl 0 (by simp) w] at a3
            injection a3 with a3
            injection a3 with a3 a4
            rw [← a4] at hv
            have : (b.toNat : Int) = 45 := by simpa using hv
            exact a0 (UInt8.toNat_inj.1 (by simpa using (by omega : b.toNat = 45)))
    · exact Or.inr ⟨v, h1, h2, h3, hc48⟩
  clear hfirst hc48
  have hsame : d = l → ∀ v : Int, (∀ W : World, (Instr.index 9 (.string ⟨l.toArray⟩) (.int .i64 0)).run Tryz.prog W = .ok (.int .u8 v) W) → v = (c.toNat : Int) := by
    rintro rfl v h
    have a3 := h w
    rw [hix2 w] at a3
    injection a3 with a3
    injection a3 with a3 a4
    exact a4.symm
  rcases hmain with ⟨⟨v, hv, hix, htl⟩, hc48⟩ | ⟨v, hv, hix, hdl2, hc48 | ⟨hc48, hl1⟩⟩
  · clear hsame
    go_enter Tryz.func35, Tryz.ntmps35
    go_upto_region 8 with fail
    clear hv hc48 hix2 hix htl
    obtain ⟨WA, hWA⟩ : ∃ WA, w.alloc (.cells #[.bool false, .string ⟨#[]⟩] 23) = WA := ⟨_, rfl⟩
    rw [hWA] at hr hb ⊢
    obtain ⟨n, hn⟩ : ∃ n, d.length = n := ⟨_, rfl⟩
    rw [hn] at hdl hdp
    go_wp2_with fail
    go_loopg [5] n (fun q s5 wx => ∃ k : Nat, k + q = n ∧ s5 = .int .i64 (k : Int) ∧ wx = WA ∧ Hid ((d.take k).all digB = true))
    case atStart => exact ⟨0, by omega, rfl, rfl, rfl⟩
    case round =>
      obtain ⟨k, hk, rfl, hwx, HA⟩ := hrel
      subst hwx
      rcases gk with _ | q
      · obtain rfl : k = n := by omega
        have Hall := Lib.hid (show d.all digB = true by have h := HA.out; rwa [List.take_of_length_le (by omega)] at h)
        have hmk := run_make_row' (P := Tryz.prog) 77 5 (.int .u8 0) 1 Tryz.underlying77 Tryz.infoU8 rfl .i64 .i64 k (by omega) (by omega)
        obtain ⟨n, hkn⟩ : ∃ n, k = n := ⟨_, rfl⟩
        subst hkn
        obtain ⟨wo, rfl⟩ : ∃ wo : World, wo = wr := ⟨_, rfl⟩
        clear HA hk hWA
        go_wp2_with fail
        clear hmk
        go_loopg [7, 8] k (fun q s7 s8 wx => ∃ (i u : Nat) (p : Nat → Nat), i + q = k ∧ u ≤ i ∧ s8 = .int .i64 (i : Int) ∧ s7 = .int .i64 (u : Int) ∧ Dig8 p k ∧ (∀ j, u ≤ j → p j = 0) ∧ Hid (w8 p u = dv (d.take i)) ∧ wx.rowIs wo.heap.size 5 k (rowR k p) ∧ Below wo.heap.size wo wx)
        case atStart => exact ⟨0, 0, fun _ => 0, by omega, by omega, rfl, rfl, fun i _ => (by omega : (0 : Nat) < 256), fun _ _ => rfl, by show _ = _; rfl, (World.rowIs_made wo _ k _).congr (fun i _ => by simp [rowR]), below1 wo _⟩
        case round =>
          obtain ⟨i, u, p, hi, hui, rfl, rfl, dp, hz, HV, hrow, hbl⟩ := hrel
          rcases gk with _ | q
          · obtain rfl : i = k := by omega
            have hfin : w8 p i = dv d := by
              have h := HV.out
              rw [List.take_of_length_le (by omega)] at h
              rw [← h]
              exact w8_zeros p hui hz
            have hcv := run_string_of wr wo.heap.size 0 i (bl p i) (fun i u hu => rowR_cell hrow dp i u hu)
            rw [bl_len] at hcv
            have HT := Lib.hid (show vB (bl p i) = dv d by rw [vB_bl dp, hfin])
            have hTl : (bl p i).length ≤ 65536 := by rw [bl_len]; omega
            have HR := Lib.hid (hr.keep hbl)
            have HB := Lib.hid (below_more hb (Nat.le_refl _) hbl)
            have HP := Lib.hid (pz_good (Hd.out.trans Hcr.out) HL.out (by rw [Hd.out]; exact Hall.out))
            rw [Hd.out, Hg.out] at HP
            generalize bl p i = T at *
            clear hrow dp hz HV hfin hr hb hbl
            rcases Hlen.out with ⟨hlt, rfl⟩ | ⟨hlt, rfl⟩
            · obtain ⟨z, Hz⟩ : ∃ z, Hid (zv true ⟨T.toArray⟩ = z) := ⟨_, Lib.hid rfl⟩
              have HP2 := Lib.hid (show pz l = some z by
                rw [HP.out, ← Hz.out]
                show some _ = some (zv _ ⟨T.toArray⟩)
                unfold zv
                rw [show (⟨T.toArray⟩ : ByteArray).data.toList = T from rfl, HT.out])
              clear HP
              go_wp2_with fail
              rw [show decide (i < l.length) = true from decide_eq_true (by omega)]
              (with_reducible refine (rcan_p (by omega) Hz.out).mono ?_)
              rintro e W2 ⟨rfl, b2⟩
              obtain ⟨r1, r2, r3, r4⟩ := HR.out.keep b2
              go_wp2_with fail
              exact bodyPost_ret (v := .tuple #[.agg #[.bool (sg z), .string (mg z)], .int .i64 0]) (by simp [results, Tryz.results35, go_sem, r1, r2, r3, r4]) rfl (by rw [HP2.out]; exact ⟨rfl, ((below_more HB.out (Nat.le_refl _) b2).setCell (Nat.le_refl _) _).setCell (Nat.le_refl _) _⟩)
            · obtain ⟨z, Hz⟩ : ∃ z, Hid (zv false ⟨T.toArray⟩ = z) := ⟨_, Lib.hid rfl⟩
              have HP2 := Lib.hid (show pz l = some z by
                rw [HP.out, ← Hz.out]
                show some _ = some (zv _ ⟨T.toArray⟩)
                unfold zv
                rw [show (⟨T.toArray⟩ : ByteArray).data.toList = T from rfl, HT.out])
              clear HP
              go_wp2_with fail
              rw [show decide (i < l.length) = false from decide_eq_false (by omega)]
              (with_reducible refine (rcan_p (by omega) Hz.out).mono ?_)
              rintro e W2 ⟨rfl, b2⟩
              obtain ⟨r1, r2, r3, r4⟩ := HR.out.keep b2
              go_wp2_with fail
              exact bodyPost_ret (v := .tuple #[.agg #[.bool (sg z), .string (mg z)], .int .i64 0]) (by simp [results, Tryz.results35, go_sem, r1, r2, r3, r4]) rfl (by rw [HP2.out]; exact ⟨rfl, ((below_more HB.out (Nat.le_refl _) b2).setCell (Nat.le_refl _) _).setCell (Nat.le_refl _) _⟩)
          · have Hi := Lib.hid hi
            have hik : i < k := by omega
            obtain ⟨c2, hc2⟩ : ∃ c2, d[i]? = some c2 := ⟨_, List.getElem?_eq_getElem (by omega)⟩
            have hix3 := run_index_bytes d i c2 hc2 (i : Int) rfl
            have hd2 := dig_at Hall.out hc2
            have HS := Lib.hid (dv_step hc2)
            obtain ⟨D, HD⟩ : ∃ D, Hid (c2.toNat - 48 = D) := ⟨_, Lib.hid rfl⟩
            rw [HD.out] at HS
            have hD9 : D ≤ 9 := by rw [← HD.out]; omega
            have hcD : (c2.toNat : Int) = (D : Int) + 48 := by rw [← HD.out]; omega
            rw [hcD] at hix3
            have hwD : IntKind.u8.wrap (D : Int) = (D : Int) := by rw [u8w, Nat.mod_eq_of_lt (by omega)]
            clear hi hc2 hd2 hcD
            have Hz := Lib.hid hz
            clear hz
            go_wp2_with fail
            go_loopg [9, 10] u (fun q2 s9 s10 wx => ∃ (j y : Nat) (p2 : Nat → Nat), j + q2 = u ∧ s10 = .int .i64 ((j : Int) + 1) ∧ s9 = .int .i64 (y : Int) ∧ y ≤ 9 ∧ Dig8 p2 k ∧ (∀ i, j ≤ i → p2 i = p i) ∧ Hid (w8 p2 j + y * 256 ^ j = 10 * w8 p j + D) ∧ wx.rowIs wo.heap.size 5 k (rowR k p2) ∧ Below wo.heap.size wo wx)
            case atStart => exact ⟨0, D, p, by omega, rfl, rfl, hD9, dp, fun _ _ => rfl, by show _ = _; simp [w8], hrow, hbl⟩
            case round =>
              clear hrow hbl hix3
              obtain ⟨j, y, p2, hj, rfl, rfl, hy9, dp2, hp2, HI, hrow, hbl⟩ := hrel
              have Hj := Lib.hid hj
              have Hp2 := Lib.hid hp2
              rcases gk with _ | q2
              · obtain rfl : j = u := by omega
                clear hj hp2
                by_cases hy : 0 < y
                · have HW := Lib.hid (rowR_set hrow (k := j) (i := k - (j + 1)) (v := y) (by omega) (by omega) rfl)
                  have hw := hrow.cell (i := k - (j + 1)) (by omega)
                  have hf := hrow.frozen (k - (j + 1))
                  have hwy : IntKind.u8.wrap (y : Int) = (y : Int) := by rw [u8w, Nat.mod_eq_of_lt (by omega)]
                  have HN := Lib.hid (show w8 (upd p2 j y) (j + 1) = dv (d.take (i + 1)) by rw [w8_upd, HI.out, HV.out, HS.out])
                  clear hrow
                  go_wp2_with fail
                  go_roundg q
                  case measure => omega
                  case rel => exact ⟨i + 1, j + 1, upd p2 j y, by have := Hi.out; omega, by omega, by go_num, by go_num, dig8_set dp2 (by omega), fun t ht => by
                    have e : t ≠ j := by omega
                    simp only [upd, if_neg e]; rw [Hp2.out t (by omega)]; exact Hz.out t (by omega), HN, HW.out, hbl.setCell (Nat.le_refl _) _⟩
                · obtain rfl : y = 0 := by omega
                  have HN := Lib.hid (show w8 p2 j = dv (d.take (i + 1)) by have h := HI.out; rw [HS.out, ← HV.out, ← h]; omega)
                  go_wp2_with fail
                  go_roundg q
                  case measure => omega
                  case rel => exact ⟨i + 1, j, p2, by have := Hi.out; omega, by omega, by go_num, rfl, dp2, fun t ht => by rw [Hp2.out t ht]; exact Hz.out t ht, HN, hrow, hbl⟩
              · have hju : j < u := by omega
                have hx8 : p2 j < 256 := dp2 j (by omega)
                have hc1 : wr.cell? ⟨wo.heap.size, k - (j + 1), none⟩ = some (.int .u8 (p2 j : Int)) := by
                  have h := hrow.cell (i := k - (j + 1)) (by omega)
                  rw [h, rowR, show k - 1 - (k - (j + 1)) = j by omega]
                have hf := hrow.frozen (k - (j + 1))
                have hpj : p2 j = p j := Hp2.out j (Nat.le_refl _)
                have HM := ten8_step (t := y + 10 * p2 j) HI.out (by rw [hpj])
                obtain ⟨x, hx⟩ : ∃ x, p2 j = x := ⟨_, rfl⟩
                rw [hx] at hc1 hx8 HM
                obtain ⟨r, Er⟩ : ∃ r, Hid ((y + 10 * x) % 256 = r) := ⟨_, Lib.hid rfl⟩
                obtain ⟨m2, Em⟩ : ∃ m, Hid ((y + 10 * x) / 256 = m) := ⟨_, Lib.hid rfl⟩
                rw [Er.out, Em.out] at HM
                have HM := Lib.hid HM
                have hr8 : r < 256 := by rw [← Er.out]; omega
                have hm9 : m2 ≤ 9 := by rw [← Em.out]; omega
                have hmod : IntKind.u8.wrap ((y : Int) + 10 * (x : Int)) = (r : Int) := by
                  have h := u8w (y + 10 * x)
                  rw [Er.out] at h
                  rw [← h]
                  congr 1 <;> omega
                have hdiv : ((y : Int) + 10 * (x : Int)) / 256 = (m2 : Int) := by rw [← Em.out]; omega
                have HW := Lib.hid (rowR_set hrow (k := j) (i := k - (j + 1)) (v := r) (by omega) (by omega) rfl)
                clear hrow hj hp2 hx hpj HI
                go_wp2_with fail
                go_roundg q2
                case measure => omega
                case rel => exact ⟨j + 1, m2, upd p2 j r, by have := Hj.out; omega, by go_num, rfl, hm9, dig8_set dp2 hr8, fun t ht => by
                  have e : t ≠ j := by omega
                  simp only [upd, if_neg e]; exact Hp2.out t (by omega), HM, HW.out, hbl.setCell (Nat.le_refl _) _⟩
      · have Hk := Lib.hid hk
        have hkn : k < n := by omega
        obtain ⟨c2, hc2⟩ : ∃ c2, d[k]? = some c2 := ⟨_, List.getElem?_eq_getElem (by omega)⟩
        have hix3 := run_index_bytes d k c2 hc2 (k : Int) rfl
        have hc28 := c2.toNat_lt
        by_cases hdg : digB c2 = true
        · have HA2 := Lib.hid (all_take_succ HA.out hc2 hdg)
          have h48 : 48 ≤ c2.toNat ∧ c2.toNat ≤ 57 := by simpa [digB] using hdg
          clear hk hdg hc2
          go_wp2_with fail
          go_roundg q
          case measure => omega
          case rel => exact ⟨k + 1, by have := Hk.out; omega, by go_num, rfl, HA2⟩
        · rw [Bool.not_eq_true] at hdg
          have HP := Lib.hid (pz_none1 (l := l) (by rw [Hd.out]; exact isDec_no (not_all hc2 hdg)))
          have h48 : c2.toNat < 48 ∨ (48 ≤ c2.toNat ∧ 57 < c2.toNat) := by
            simp [digB] at hdg
            omega
          obtain ⟨r1, r2, r3, r4⟩ := hr
          clear hk hdg hc2 hWA
          rcases h48 with h48 | h48
          all_goals
            go_wp2_with fail
            exact bodyPost_ret (v := .tuple #[.agg #[.bool false, .string ⟨#[]⟩], .int .i64 3]) (by simp [results, Tryz.results35, go_sem, r1, r2]) rfl (by rw [HP.out]; exact ⟨rfl, (by first | exact hb | exact (hb.setCell (Nat.le_refl _) _).setCell (Nat.le_refl _) _)⟩)
  · have := hsame hdl2 v hix
    subst this hdl2
    clear hix hsame
    go_enter Tryz.func35, Tryz.ntmps35
    go_upto_region 8 with fail
    clear hv hc48 hix2
    obtain ⟨WA, hWA⟩ : ∃ WA, w.alloc (.cells #[.bool false, .string ⟨#[]⟩] 23) = WA := ⟨_, rfl⟩
    rw [hWA] at hr hb ⊢
    obtain ⟨n, hn⟩ : ∃ n, d.length = n := ⟨_, rfl⟩
    rw [hn] at hdl hdp
    go_wp2_with fail
    go_loopg [5] n (fun q s5 wx => ∃ k : Nat, k + q = n ∧ s5 = .int .i64 (k : Int) ∧ wx = WA ∧ Hid ((d.take k).all digB = true))
    case atStart => exact ⟨0, by omega, rfl, rfl, rfl⟩
    case round =>
      obtain ⟨k, hk, rfl, hwx, HA⟩ := hrel
      subst hwx
      rcases gk with _ | q
      · obtain rfl : k = n := by omega
        have Hall := Lib.hid (show d.all digB = true by have h := HA.out; rwa [List.take_of_length_le (by omega)] at h)
        have hmk := run_make_row' (P := Tryz.prog) 77 5 (.int .u8 0) 1 Tryz.underlying77 Tryz.infoU8 rfl .i64 .i64 k (by omega) (by omega)
        obtain ⟨n, hkn⟩ : ∃ n, k = n := ⟨_, rfl⟩
        subst hkn
        obtain ⟨wo, rfl⟩ : ∃ wo : World, wo = wr := ⟨_, rfl⟩
        clear HA hk hWA
        go_wp2_with fail
        clear hmk
        go_loopg [7, 8] k (fun q s7 s8 wx => ∃ (i u : Nat) (p : Nat → Nat), i + q = k ∧ u ≤ i ∧ s8 = .int .i64 (i : Int) ∧ s7 = .int .i64 (u : Int) ∧ Dig8 p k ∧ (∀ j, u ≤ j → p j = 0) ∧ Hid (w8 p u = dv (d.take i)) ∧ wx.rowIs wo.heap.size 5 k (rowR k p) ∧ Below wo.heap.size wo wx)
        case atStart => exact ⟨0, 0, fun _ => 0, by omega, by omega, rfl, rfl, fun i _ => (by omega : (0 : Nat) < 256), fun _ _ => rfl, by show _ = _; rfl, (World.rowIs_made wo _ k _).congr (fun i _ => by simp [rowR]), below1 wo _⟩
        case round =>
          obtain ⟨i, u, p, hi, hui, rfl, rfl, dp, hz, HV, hrow, hbl⟩ := hrel
          rcases gk with _ | q
          · obtain rfl : i = k := by omega
            have hfin : w8 p i = dv d := by
              have h := HV.out
              rw [List.take_of_length_le (by omega)] at h
              rw [← h]
              exact w8_zeros p hui hz
            have hcv := run_string_of wr wo.heap.size 0 i (bl p i) (fun i u hu => rowR_cell hrow dp i u hu)
            rw [bl_len] at hcv
            have HT := Lib.hid (show vB (bl p i) = dv d by rw [vB_bl dp, hfin])
            have hTl : (bl p i).length ≤ 65536 := by rw [bl_len]; omega
            have HR := Lib.hid (hr.keep hbl)
            have HB := Lib.hid (below_more hb (Nat.le_refl _) hbl)
            have HP := Lib.hid (pz_good (Hd.out.trans Hcr.out) HL.out (by rw [Hd.out]; exact Hall.out))
            rw [Hd.out, Hg.out] at HP
            generalize bl p i = T at *
            clear hrow dp hz HV hfin hr hb hbl
            obtain rfl : g = false := by
              rcases Hlen.out with ⟨h, _⟩ | ⟨_, h⟩
              · omega
              · exact h
            obtain ⟨z, Hz⟩ : ∃ z, Hid (zv false ⟨T.toArray⟩ = z) := ⟨_, Lib.hid rfl⟩
            have HP2 := Lib.hid (show pz d = some z by
              rw [HP.out, ← Hz.out]
              show some _ = some (zv _ ⟨T.toArray⟩)
              unfold zv
              rw [show (⟨T.toArray⟩ : ByteArray).data.toList = T from rfl, HT.out])
            clear HP
            go_wp2_with fail
            (with_reducible refine (rcan_p (by omega) Hz.out).mono ?_)
            rintro e W2 ⟨rfl, b2⟩
            obtain ⟨r1, r2, r3, r4⟩ := HR.out.keep b2
            go_wp2_with fail
            exact bodyPost_ret (v := .tuple #[.agg #[.bool (sg z), .string (mg z)], .int .i64 0]) (by simp [results, Tryz.results35, go_sem, r1, r2, r3, r4]) rfl (by rw [HP2.out]; exact ⟨rfl, ((below_more HB.out (Nat.le_refl _) b2).setCell (Nat.le_refl _) _).setCell (Nat.le_refl _) _⟩)
          · have Hi := Lib.hid hi
            have hik : i < k := by omega
            obtain ⟨c2, hc2⟩ : ∃ c2, d[i]? = some c2 := ⟨_, List.getElem?_eq_getElem (by omega)⟩
            have hix3 := run_index_bytes d i c2 hc2 (i : Int) rfl
            have hd2 := dig_at Hall.out hc2
            have HS := Lib.hid (dv_step hc2)
            obtain ⟨D, HD⟩ : ∃ D, Hid (c2.toNat - 48 = D) := ⟨_, Lib.hid rfl⟩
            rw [HD.out] at HS
            have hD9 : D ≤ 9 := by rw [← HD.out]; omega
            have hcD : (c2.toNat : Int) = (D : Int) + 48 := by rw [← HD.out]; omega
            rw [hcD] at hix3
            have hwD : IntKind.u8.wrap (D : Int) = (D : Int) := by rw [u8w, Nat.mod_eq_of_lt (by omega)]
            clear hi hc2 hd2 hcD
            have Hz := Lib.hid hz
            clear hz
            go_wp2_with fail
            go_loopg [9, 10] u (fun q2 s9 s10 wx => ∃ (j y : Nat) (p2 : Nat → Nat), j + q2 = u ∧ s10 = .int .i64 ((j : Int) + 1) ∧ s9 = .int .i64 (y : Int) ∧ y ≤ 9 ∧ Dig8 p2 k ∧ (∀ i, j ≤ i → p2 i = p i) ∧ Hid (w8 p2 j + y * 256 ^ j = 10 * w8 p j + D) ∧ wx.rowIs wo.heap.size 5 k (rowR k p2) ∧ Below wo.heap.size wo wx)
            case atStart => exact ⟨0, D, p, by omega, rfl, rfl, hD9, dp, fun _ _ => rfl, by show _ = _; simp [w8], hrow, hbl⟩
            case round =>
              clear hrow hbl hix3
              obtain ⟨j, y, p2, hj, rfl, rfl, hy9, dp2, hp2, HI, hrow, hbl⟩ := hrel
              have Hj := Lib.hid hj
              have Hp2 := Lib.hid hp2
              rcases gk with _ | q2
              · obtain rfl : j = u := by omega
                clear hj hp2
                by_cases hy : 0 < y
                · have HW := Lib.hid (rowR_set hrow (k := j) (i := k - (j + 1)) (v := y) (by omega) (by omega) rfl)
                  have hw := hrow.cell (i := k - (j + 1)) (by omega)
                  have hf := hrow.frozen (k - (j + 1))
                  have hwy : IntKind.u8.wrap (y : Int) = (y : Int) := by rw [u8w, Nat.mod_eq_of_lt (by omega)]
                  have HN := Lib.hid (show w8 (upd p2 j y) (j + 1) = dv (d.take (i + 1)) by rw [w8_upd, HI.out, HV.out, HS.out])
                  clear hrow
                  go_wp2_with fail
                  go_roundg q
                  case measure => omega
                  case rel => exact ⟨i + 1, j + 1, upd p2 j y, by have := Hi.out; omega, by omega, by go_num, by go_num, dig8_set dp2 (by omega), fun t ht => by
                    have e : t ≠ j := by omega
                    simp only [upd, if_neg e]; rw [Hp2.out t (by omega)]; exact Hz.out t (by omega), HN, HW.out, hbl.setCell (Nat.le_refl _) _⟩
                · obtain rfl : y = 0 := by omega
                  have HN := Lib.hid (show w8 p2 j = dv (d.take (i + 1)) by have h := HI.out; rw [HS.out, ← HV.out, ← h]; omega)
                  go_wp2_with fail
                  go_roundg q
                  case measure => omega
                  case rel => exact ⟨i + 1, j, p2, by have := Hi.out; omega, by omega, by go_num, rfl, dp2, fun t ht => by rw [Hp2.out t ht]; exact Hz.out t ht, HN, hrow, hbl⟩
              · have hju : j < u := by omega
                have hx8 : p2 j < 256 := dp2 j (by omega)
                have hc1 : wr.cell? ⟨wo.heap.size, k - (j + 1), none⟩ = some (.int .u8 (p2 j : Int)) := by
                  have h := hrow.cell (i := k - (j + 1)) (by omega)
                  rw [h, rowR, show k - 1 - (k - (j + 1)) = j by omega]
                have hf := hrow.frozen (k - (j + 1))
                have hpj : p2 j = p j := Hp2.out j (Nat.le_refl _)
                have HM := ten8_step (t := y + 10 * p2 j) HI.out (by rw [hpj])
                obtain ⟨x, hx⟩ : ∃ x, p2 j = x := ⟨_, rfl⟩
                rw [hx] at hc1 hx8 HM
                obtain ⟨r, Er⟩ : ∃ r, Hid ((y + 10 * x) % 256 = r) := ⟨_, Lib.hid rfl⟩
                obtain ⟨m2, Em⟩ : ∃ m, Hid ((y + 10 * x) / 256 = m) := ⟨_, Lib.hid rfl⟩
                rw [Er.out, Em.out] at HM
                have HM := Lib.hid HM
                have hr8 : r < 256 := by rw [← Er.out]; omega
                have hm9 : m2 ≤ 9 := by rw [← Em.out]; omega
                have hmod : IntKind.u8.wrap ((y : Int) + 10 * (x : Int)) = (r : Int) := by
                  have h := u8w (y + 10 * x)
                  rw [Er.out] at h
                  rw [← h]
                  congr 1 <;> omega
                have hdiv : ((y : Int) + 10 * (x : Int)) / 256 = (m2 : Int) := by rw [← Em.out]; omega
                have HW := Lib.hid (rowR_set hrow (k := j) (i := k - (j + 1)) (v := r) (by omega) (by omega) rfl)
                clear hrow hj hp2 hx hpj HI
                go_wp2_with fail
                go_roundg q2
                case measure => omega
                case rel => exact ⟨j + 1, m2, upd p2 j r, by have := Hj.out; omega, by go_num, rfl, hm9, dig8_set dp2 hr8, fun t ht => by
                  have e : t ≠ j := by omega
                  simp only [upd, if_neg e]; exact Hp2.out t (by omega), HM, HW.out, hbl.setCell (Nat.le_refl _) _⟩
      · have Hk := Lib.hid hk
        have hkn : k < n := by omega
        obtain ⟨c2, hc2⟩ : ∃ c2, d[k]? = some c2 := ⟨_, List.getElem?_eq_getElem (by omega)⟩
        have hix3 := run_index_bytes d k c2 hc2 (k : Int) rfl
        have hc28 := c2.toNat_lt
        by_cases hdg : digB c2 = true
        · have HA2 := Lib.hid (all_take_succ HA.out hc2 hdg)
          have h48 : 48 ≤ c2.toNat ∧ c2.toNat ≤ 57 := by simpa [digB] using hdg
          clear hk hdg hc2
          go_wp2_with fail
          go_roundg q
          case measure => omega
          case rel => exact ⟨k + 1, by have := Hk.out; omega, by go_num, rfl, HA2⟩
        · rw [Bool.not_eq_true] at hdg
          have HP := Lib.hid (pz_none1 (l := d) (by rw [Hd.out]; exact isDec_no (not_all hc2 hdg)))
          have h48 : c2.toNat < 48 ∨ (48 ≤ c2.toNat ∧ 57 < c2.toNat) := by
            simp [digB] at hdg
            omega
          obtain ⟨r1, r2, r3, r4⟩ := hr
          clear hk hdg hc2 hWA
          rcases h48 with h48 | h48
          all_goals
            go_wp2_with fail
            exact bodyPost_ret (v := .tuple #[.agg #[.bool false, .string ⟨#[]⟩], .int .i64 3]) (by simp [results, Tryz.results35, go_sem, r1, r2]) rfl (by rw [HP.out]; exact ⟨rfl, (by first | exact hb | exact (hb.setCell (Nat.le_refl _) _).setCell (Nat.le_refl _) _)⟩)
  · have := hsame hdl2 v hix
    subst this hdl2
    clear hix hsame
    go_enter Tryz.func35, Tryz.ntmps35
    go_upto_region 8 with fail
    clear hl1
    clear hv hc48 hix2
    obtain ⟨WA, hWA⟩ : ∃ WA, w.alloc (.cells #[.bool false, .string ⟨#[]⟩] 23) = WA := ⟨_, rfl⟩
    rw [hWA] at hr hb ⊢
    obtain ⟨n, hn⟩ : ∃ n, d.length = n := ⟨_, rfl⟩
    rw [hn] at hdl hdp
    go_wp2_with fail
    go_loopg [5] n (fun q s5 wx => ∃ k : Nat, k + q = n ∧ s5 = .int .i64 (k : Int) ∧ wx = WA ∧ Hid ((d.take k).all digB = true))
    case atStart => exact ⟨0, by omega, rfl, rfl, rfl⟩
    case round =>
      obtain ⟨k, hk, rfl, hwx, HA⟩ := hrel
      subst hwx
      rcases gk with _ | q
      · obtain rfl : k = n := by omega
        have Hall := Lib.hid (show d.all digB = true by have h := HA.out; rwa [List.take_of_length_le (by omega)] at h)
        have hmk := run_make_row' (P := Tryz.prog) 77 5 (.int .u8 0) 1 Tryz.underlying77 Tryz.infoU8 rfl .i64 .i64 k (by omega) (by omega)
        obtain ⟨n, hkn⟩ : ∃ n, k = n := ⟨_, rfl⟩
        subst hkn
        obtain ⟨wo, rfl⟩ : ∃ wo : World, wo = wr := ⟨_, rfl⟩
        clear HA hk hWA
        go_wp2_with fail
        clear hmk
        go_loopg [7, 8] k (fun q s7 s8 wx => ∃ (i u : Nat) (p : Nat → Nat), i + q = k ∧ u ≤ i ∧ s8 = .int .i64 (i : Int) ∧ s7 = .int .i64 (u : Int) ∧ Dig8 p k ∧ (∀ j, u ≤ j → p j = 0) ∧ Hid (w8 p u = dv (d.take i)) ∧ wx.rowIs wo.heap.size 5 k (rowR k p) ∧ Below wo.heap.size wo wx)
        case atStart => exact ⟨0, 0, fun _ => 0, by omega, by omega, rfl, rfl, fun i _ => (by omega : (0 : Nat) < 256), fun _ _ => rfl, by show _ = _; rfl, (World.rowIs_made wo _ k _).congr (fun i _ => by simp [rowR]), below1 wo _⟩
        case round =>
          obtain ⟨i, u, p, hi, hui, rfl, rfl, dp, hz, HV, hrow, hbl⟩ := hrel
          rcases gk with _ | q
          · obtain rfl : i = k := by omega
            have hfin : w8 p i = dv d := by
              have h := HV.out
              rw [List.take_of_length_le (by omega)] at h
              rw [← h]
              exact w8_zeros p hui hz
            have hcv := run_string_of wr wo.heap.size 0 i (bl p i) (fun i u hu => rowR_cell hrow dp i u hu)
            rw [bl_len] at hcv
            have HT := Lib.hid (show vB (bl p i) = dv d by rw [vB_bl dp, hfin])
            have hTl : (bl p i).length ≤ 65536 := by rw [bl_len]; omega
            have HR := Lib.hid (hr.keep hbl)
            have HB := Lib.hid (below_more hb (Nat.le_refl _) hbl)
            have HP := Lib.hid (pz_good (Hd.out.trans Hcr.out) HL.out (by rw [Hd.out]; exact Hall.out))
            rw [Hd.out, Hg.out] at HP
            generalize bl p i = T at *
            clear hrow dp hz HV hfin hr hb hbl
            obtain rfl : g = false := by
              rcases Hlen.out with ⟨h, _⟩ | ⟨_, h⟩
              · omega
              · exact h
            obtain ⟨z, Hz⟩ : ∃ z, Hid (zv false ⟨T.toArray⟩ = z) := ⟨_, Lib.hid rfl⟩
            have HP2 := Lib.hid (show pz d = some z by
              rw [HP.out, ← Hz.out]
              show some _ = some (zv _ ⟨T.toArray⟩)
              unfold zv
              rw [show (⟨T.toArray⟩ : ByteArray).data.toList = T from rfl, HT.out])
            clear HP
            go_wp2_with fail
            (with_reducible refine (rcan_p (by omega) Hz.out).mono ?_)
            rintro e W2 ⟨rfl, b2⟩
            obtain ⟨r1, r2, r3, r4⟩ := HR.out.keep b2
            go_wp2_with fail
            exact bodyPost_ret (v := .tuple #[.agg #[.bool (sg z), .string (mg z)], .int .i64 0]) (by simp [results, Tryz.results35, go_sem, r1, r2, r3, r4]) rfl (by rw [HP2.out]; exact ⟨rfl, ((below_more HB.out (Nat.le_refl _) b2).setCell (Nat.le_refl _) _).setCell (Nat.le_refl _) _⟩)
          · have Hi := Lib.hid hi
            have hik : i < k := by omega
            obtain ⟨c2, hc2⟩ : ∃ c2, d[i]? = some c2 := ⟨_, List.getElem?_eq_getElem (by omega)⟩
            have hix3 := run_index_bytes d i c2 hc2 (i : Int) rfl
            have hd2 := dig_at Hall.out hc2
            have HS := Lib.hid (dv_step hc2)
            obtain ⟨D, HD⟩ : ∃ D, Hid (c2.toNat - 48 = D) := ⟨_, Lib.hid rfl⟩
            rw [HD.out] at HS
            have hD9 : D ≤ 9 := by rw [← HD.out]; omega
            have hcD : (c2.toNat : Int) = (D : Int) + 48 := by rw [← HD.out]; omega
            rw [hcD] at hix3
            have hwD : IntKind.u8.wrap (D : Int) = (D : Int) := by rw [u8w, Nat.mod_eq_of_lt (by omega)]
            clear hi hc2 hd2 hcD
            have Hz := Lib.hid hz
            clear hz
            go_wp2_with fail
            go_loopg [9, 10] u (fun q2 s9 s10 wx => ∃ (j y : Nat) (p2 : Nat → Nat), j + q2 = u ∧ s10 = .int .i64 ((j : Int) + 1) ∧ s9 = .int .i64 (y : Int) ∧ y ≤ 9 ∧ Dig8 p2 k ∧ (∀ i, j ≤ i → p2 i = p i) ∧ Hid (w8 p2 j + y * 256 ^ j = 10 * w8 p j + D) ∧ wx.rowIs wo.heap.size 5 k (rowR k p2) ∧ Below wo.heap.size wo wx)
            case atStart => exact ⟨0, D, p, by omega, rfl, rfl, hD9, dp, fun _ _ => rfl, by show _ = _; simp [w8], hrow, hbl⟩
            case round =>
              clear hrow hbl hix3
              obtain ⟨j, y, p2, hj, rfl, rfl, hy9, dp2, hp2, HI, hrow, hbl⟩ := hrel
              have Hj := Lib.hid hj
              have Hp2 := Lib.hid hp2
              rcases gk with _ | q2
              · obtain rfl : j = u := by omega
                clear hj hp2
                by_cases hy : 0 < y
                · have HW := Lib.hid (rowR_set hrow (k := j) (i := k - (j + 1)) (v := y) (by omega) (by omega) rfl)
                  have hw := hrow.cell (i := k - (j + 1)) (by omega)
                  have hf := hrow.frozen (k - (j + 1))
                  have hwy : IntKind.u8.wrap (y : Int) = (y : Int) := by rw [u8w, Nat.mod_eq_of_lt (by omega)]
                  have HN := Lib.hid (show w8 (upd p2 j y) (j + 1) = dv (d.take (i + 1)) by rw [w8_upd, HI.out, HV.out, HS.out])
                  clear hrow
                  go_wp2_with fail
                  go_roundg q
                  case measure => omega
                  case rel => exact ⟨i + 1, j + 1, upd p2 j y, by have := Hi.out; omega, by omega, by go_num, by go_num, dig8_set dp2 (by omega), fun t ht => by
                    have e : t ≠ j := by omega
                    simp only [upd, if_neg e]; rw [Hp2.out t (by omega)]; exact Hz.out t (by omega), HN, HW.out, hbl.setCell (Nat.le_refl _) _⟩
                · obtain rfl : y = 0 := by omega
                  have HN := Lib.hid (show w8 p2 j = dv (d.take (i + 1)) by have h := HI.out; rw [HS.out, ← HV.out, ← h]; omega)
                  go_wp2_with fail
                  go_roundg q
                  case measure => omega
                  case rel => exact ⟨i + 1, j, p2, by have := Hi.out; omega, by omega, by go_num, rfl, dp2, fun t ht => by rw [Hp2.out t ht]; exact Hz.out t ht, HN, hrow, hbl⟩
              · have hju : j < u := by omega
                have hx8 : p2 j < 256 := dp2 j (by omega)
                have hc1 : wr.cell? ⟨wo.heap.size, k - (j + 1), none⟩ = some (.int .u8 (p2 j : Int)) := by
                  have h := hrow.cell (i := k - (j + 1)) (by omega)
                  rw [h, rowR, show k - 1 - (k - (j + 1)) = j by omega]
                have hf := hrow.frozen (k - (j + 1))
                have hpj : p2 j = p j := Hp2.out j (Nat.le_refl _)
                have HM := ten8_step (t := y + 10 * p2 j) HI.out (by rw [hpj])
                obtain ⟨x, hx⟩ : ∃ x, p2 j = x := ⟨_, rfl⟩
                rw [hx] at hc1 hx8 HM
                obtain ⟨r, Er⟩ : ∃ r, Hid ((y + 10 * x) % 256 = r) := ⟨_, Lib.hid rfl⟩
                obtain ⟨m2, Em⟩ : ∃ m, Hid ((y + 10 * x) / 256 = m) := ⟨_, Lib.hid rfl⟩
                rw [Er.out, Em.out] at HM
                have HM := Lib.hid HM
                have hr8 : r < 256 := by rw [← Er.out]; omega
                have hm9 : m2 ≤ 9 := by rw [← Em.out]; omega
                have hmod : IntKind.u8.wrap ((y : Int) + 10 * (x : Int)) = (r : Int) := by
                  have h := u8w (y + 10 * x)
                  rw [Er.out] at h
                  rw [← h]
                  congr 1 <;> omega
                have hdiv : ((y : Int) + 10 * (x : Int)) / 256 = (m2 : Int) := by rw [← Em.out]; omega
                have HW := Lib.hid (rowR_set hrow (k := j) (i := k - (j + 1)) (v := r) (by omega) (by omega) rfl)
                clear hrow hj hp2 hx hpj HI
                go_wp2_with fail
                go_roundg q2
                case measure => omega
                case rel => exact ⟨j + 1, m2, upd p2 j r, by have := Hj.out; omega, by go_num, rfl, hm9, dig8_set dp2 hr8, fun t ht => by
                  have e : t ≠ j := by omega
                  simp only [upd, if_neg e]; exact Hp2.out t (by omega), HM, HW.out, hbl.setCell (Nat.le_refl _) _⟩
      · have Hk := Lib.hid hk
        have hkn : k < n := by omega
        obtain ⟨c2, hc2⟩ : ∃ c2, d[k]? = some c2 := ⟨_, List.getElem?_eq_getElem (by omega)⟩
        have hix3 := run_index_bytes d k c2 hc2 (k : Int) rfl
        have hc28 := c2.toNat_lt
        by_cases hdg : digB c2 = true
        · have HA2 := Lib.hid (all_take_succ HA.out hc2 hdg)
          have h48 : 48 ≤ c2.toNat ∧ c2.toNat ≤ 57 := by simpa [digB] using hdg
          clear hk hdg hc2
          go_wp2_with fail
          go_roundg q
          case measure => omega
          case rel => exact ⟨k + 1, by have := Hk.out; omega, by go_num, rfl, HA2⟩
        · rw [Bool.not_eq_true] at hdg
          have HP := Lib.hid (pz_none1 (l := d) (by rw [Hd.out]; exact isDec_no (not_all hc2 hdg)))
          have h48 : c2.toNat < 48 ∨ (48 ≤ c2.toNat ∧ 57 < c2.toNat) := by
            simp [digB] at hdg
            omega
          obtain ⟨r1, r2, r3, r4⟩ := hr
          clear hk hdg hc2 hWA
          rcases h48 with h48 | h48
          all_goals
            go_wp2_with fail
            exact bodyPost_ret (v := .tuple #[.agg #[.bool false, .string ⟨#[]⟩], .int .i64 3]) (by simp [results, Tryz.results35, go_sem, r1, r2]) rfl (by rw [HP.out]; exact ⟨rfl, (by first | exact hb | exact (hb.setCell (Nat.le_refl _) _).setCell (Nat.le_refl _) _)⟩)
end Go.Proofs.YtcljkdninmldiaaGreatDoor

namespace Go.Proofs.YtcljkdninmldiaaGreatDoor
open Go.RowKit
set_option linter.unusedSimpArgs false

theorem idx_none : ∀ {l : List UInt8}, (47 : UInt8) ∉ l → Lib.index l [47] = -1
  | [], _ => by rfl
  | b :: l, h => by
    have h1 : (47 : UInt8) ≠ b := fun e => h (by rw [e]; exact List.mem_cons_self)
    have h2 : (47 : UInt8) ∉ l := fun e => h (List.mem_cons_of_mem _ e)
    unfold Lib.index
    rw [idx_none h2]
    simp [List.isPrefixOf, h1]
theorem idx_hit : ∀ {a b : List UInt8}, (47 : UInt8) ∉ a → Lib.index (a ++ 47 :: b) [47] = (a.length : Int)
  | [], b, _ => by simp [Lib.index, List.isPrefixOf]
  | c :: a, b, h => by
    have h1 : (47 : UInt8) ≠ c := fun e => h (by rw [e]; exact List.mem_cons_self)
    have h2 : (47 : UInt8) ∉ a := fun e => h (List.mem_cons_of_mem _ e)
    rw [List.cons_append]
    unfold Lib.index
    rw [idx_hit h2]
    have h3 : ((a.length : Int) == -1) = false := by
      rw [beq_eq_false_iff_ne]
      omega
    simp [List.isPrefixOf, h1, h3]
theorem cut_none {l : List UInt8} (h : (47 : UInt8) ∉ l) : Lib.cut l [47] = (l, [], false) := by
  unfold Lib.cut
  simp [idx_none h]
theorem cut_hit {a b : List UInt8} (h : (47 : UInt8) ∉ a) : Lib.cut (a ++ 47 :: b) [47] = (a, b, true) := by
  unfold Lib.cut
  rw [idx_hit h]
  have h1 : (0 : Int) ≤ (a.length : Int) := by omega
  simp [h1, List.drop_append]
theorem cut_back {l a b : List UInt8} {c : Bool} (e : Lib.cut l [47] = (a, b, c)) : (c = false ∧ a = l) ∨ (c = true ∧ l = a ++ 47 :: b) := by
  by_cases h : (47 : UInt8) ∈ l
  · obtain ⟨x, y, rfl, hx⟩ := List.eq_append_cons_of_mem h
    rw [cut_hit hx] at e
    injection e with e1 e2
    injection e2 with e2 e3
    exact Or.inr ⟨e3.symm, by rw [e1, e2]⟩
  · rw [cut_none h] at e
    injection e with e1 e2
    injection e2 with e2 e3
    exact Or.inl ⟨e3.symm, e1.symm⟩
theorem dig_no {l : List UInt8} (h : l.all digB = true) : (47 : UInt8) ∉ l := fun hm => by
  have := List.all_eq_true.1 h 47 hm
  exact absurd this (by decide)
theorem prZ_no (z : Int) : (47 : UInt8) ∉ prZ z := by
  rcases int_cases z with rfl | ⟨N, hN, rfl⟩ | ⟨N, hN, rfl⟩
  · decide
  · rw [prZ_neg hN]
    intro hm
    rcases List.mem_cons.1 hm with h | h
    · exact absurd h (by decide)
    · exact dig_no (pr_facts N).2.1 h
  · rw [prZ_pos hN]; exact dig_no (pr_facts N).2.1
theorem pq_prQ (q : Rat) : pq (prQ q) = some q := by
  unfold prQ
  split
  · rename_i h
    unfold pq
    rw [cut_none (prZ_no _), pz_print]
    show (if false = false then some ((q.num : Int) : Rat) else _) = some q
    rw [if_pos rfl]
    congr 1
    have h1 := Rat.num_divInt_den q
    rw [h] at h1
    exact (divInt_one q.num).symm.trans h1
  · rename_i h
    unfold pq
    rw [cut_hit (prZ_no _)]
    simp only [pz_print, Rat.num_divInt_den]
    rw [if_neg (by decide), if_neg (by rintro (h1 | h1); exact h (by omega); exact h1 (by simp))]
theorem prQ_pq {l : List UInt8} {q : Rat} (h : pq l = some q) : prQ q = l := by
  obtain ⟨a, b, c, ec⟩ : ∃ a b c, Lib.cut l [47] = (a, b, c) := ⟨_, _, _, rfl⟩
  unfold pq at h
  rw [ec] at h
  dsimp only at h
  rcases hn : pz a with _ | n
  · rw [hn] at h; cases h
  rw [hn] at h
  dsimp only at h
  rcases cut_back ec with ⟨rfl, rfl⟩ | ⟨rfl, rfl⟩
  · rw [if_pos rfl] at h
    injection h with h
    subst h
    unfold prQ
    rw [if_pos (Rat.den_intCast _)]
    exact print_pz hn
  · rw [if_neg (by decide)] at h
    rcases hd : pz b with _ | d
    · rw [hd] at h; cases h
    rw [hd] at h
    dsimp only at h
    split at h
    · cases h
    rename_i hc
    injection h with h
    have h1 : d ≠ 1 := fun e => hc (Or.inl e)
    have h2 : n = (Rat.divInt n d).num ∧ d = ((Rat.divInt n d).den : Int) := by
      rcases Classical.em (n = (Rat.divInt n d).num ∧ d = ((Rat.divInt n d).den : Int)) with h2 | h2
      · exact h2
      · exact absurd (Or.inr h2) hc
    rw [h] at h2
    unfold prQ
    rw [if_neg (by intro e; rw [e] at h2; exact h1 h2.2), ← h2.1, ← h2.2, print_pz hn, print_pz hd]
theorem pq_bd {l : List UInt8} {q : Rat} {k : Nat} (h : pq l = some q) (hl : l.length ≤ k) : RatBd q (k + 2) := by
  obtain ⟨a, b, c, ec⟩ : ∃ a b c, Lib.cut l [47] = (a, b, c) := ⟨_, _, _, rfl⟩
  obtain ⟨la, lb⟩ := cut_len ec
  unfold pq at h
  rw [ec] at h
  dsimp only at h
  rcases hn : pz a with _ | n
  · rw [hn] at h; cases h
  rw [hn] at h
  dsimp only at h
  have bn := pz_bd hn (show a.length ≤ k + 1 by omega)
  split at h
  · injection h with h
    rw [← h, ← divInt_one]
    exact ratBd_divInt bn (Nat.one_lt_pow (by omega) (by omega))
  · rcases hd : pz b with _ | d
    · rw [hd] at h; cases h
    rw [hd] at h
    dsimp only at h
    split at h
    · cases h
    injection h with h
    rw [← h]
    exact ratBd_divInt bn (pz_bd hd (by omega))
theorem prQ_len {q : Rat} {k : Nat} (h : RatBd q k) : (prQ q).length ≤ 36 * k + 5 := by
  have h1 := prZ_len (k := k) h.1
  have h2 := prZ_len (z := (q.den : Int)) (k := k) (by rw [Int.natAbs_natCast]; exact h.2)
  unfold prQ
  split
  · omega
  · rw [List.length_append, List.length_cons]; omega
end Go.Proofs.YtcljkdninmldiaaGreatDoor
