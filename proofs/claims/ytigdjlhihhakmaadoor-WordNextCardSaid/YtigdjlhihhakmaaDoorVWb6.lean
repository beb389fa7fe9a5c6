/- WordNext returns true for every input. WordNext returns true for every input: the law's row, and its card, tied to the program's text. Conditions: those of the row: its tables read as listed (the card ties them to the program's text). -/
import Derived.Test.YtigdjlhihhakmaaDoorQ24

namespace Go.Proofs.YtigdjlhihhakmaaDoor
open Go.RowKit
set_option linter.unusedSimpArgs false
set_option linter.unusedVariables false

attribute [local go_sem ↓] eqlIntW
theorem max_four {P : Program} (w : World) (ts : Array TypeId) (t : TypeId) (k : IntKind) :
    (Builtin.max_ ts t #[.int k 0, .int k 0, .int k 0, .int k 0]).run P w = .ok (.int k 0) w := by
  simp [Builtin.max_, Builtin.max2]
attribute [local go_sem] max_four
theorem checkN_own (z : Int) : checkN (sg z) (mg z) = 0 := by
  unfold checkN
  rw [zv_mg, if_pos ⟨rfl, rfl⟩]
theorem sg_nat (n : Nat) : sg (n : Int) = false := by unfold sg; exact decide_eq_false (by omega)
theorem chkL_ok {q n : Nat} (q1 : 1 ≤ q) (q2 : q ≤ 16) (hn : n ≤ 65536) : chkL (q : Int) (n : Int) = 0 := by
  unfold chkL; rw [if_pos ⟨by omega, by omega⟩, if_neg (by omega), if_neg (by omega)]
theorem unrV_good {q n z : Nat} (q1 : 1 ≤ q) (q2 : q ≤ 16) (hn : n ≤ 65536) (hz : z < q ^ n) : unrV (q : Int) (n : Int) (sg (z : Int)) (mg (z : Int)) = (unrk q n z, 0) := by
  unfold unrV
  rw [chkL_ok q1 q2 hn, checkN_own, if_neg (by omega), if_neg (by omega), zv_mg, sg_nat, Int.toNat_natCast, Int.toNat_natCast, Int.toNat_natCast, if_neg]
  rintro (h | h)
  · cases h
  · omega
theorem unrV_over {q n z : Nat} (q1 : 1 ≤ q) (q2 : q ≤ 16) (hn : n ≤ 65536) (hz : q ^ n ≤ z) : unrV (q : Int) (n : Int) (sg (z : Int)) (mg (z : Int)) = ([], 2) := by
  unfold unrV
  rw [chkL_ok q1 q2 hn, checkN_own, if_neg (by omega), if_neg (by omega), zv_mg, Int.toNat_natCast, Int.toNat_natCast, if_pos (Or.inr (by omega))]
theorem mg_small {q n z : Nat} (q2 : q ≤ 16) (hn : n ≤ 32) (hz : z ≤ q ^ n) : (mg (z : Int)).size ≤ 1000000 := by
  have h1 : (z : Int).natAbs < 4294967296 ^ 5 := by
    rw [Int.natAbs_natCast]
    refine Nat.lt_of_le_of_lt (Nat.le_trans hz (Nat.pow_le_pow_left q2 n)) ?_
    rw [show (4294967296 : Nat) = 16 ^ 8 from rfl, ← Nat.pow_mul]
    exact Nat.pow_lt_pow_right (by omega) (by omega)
  have := mg_size h1
  omega
/-- Rank where it succeeds. -/
theorem Rank_30 (q : Nat) (l : List UInt8) (w : World) (q1 : 1 ≤ q) (q2 : q ≤ 16) (hl : l.length ≤ 30) (hW : Wof q l) :
    Calls Tryd.prog 31 #[.int .i64 (q : Int), .string ⟨l.toArray⟩] w (NumOut w (rk q l) 0) :=
  rank_good q l w q1 q2 (by omega) hW (fun W => rank_30 q l W q1 q2 hl hW)
theorem Unrank_good (q n z : Nat) (w : World) (q1 : 1 ≤ q) (q2 : q ≤ 16) (hn : n ≤ 30) (hz : z < q ^ n) :
    Calls Tryd.prog 32 #[.int .i64 (q : Int), .int .i64 (n : Int), .agg #[.bool (sg (z : Int)), .string (mg (z : Int))]] w (TxOut w (unrk q n z, 0)) := by
  have := Unrank_any (q : Int) (n : Int) (sg (z : Int)) (mg (z : Int)) w (Or.inl (by rw [Int.toNat_natCast]; exact hn)) (mg_small q2 (by omega) (Nat.le_of_lt hz))
  rwa [unrV_good q1 q2 (by omega) hz] at this
theorem Unrank_over (q n z : Nat) (w : World) (q1 : 1 ≤ q) (q2 : q ≤ 16) (hn : n ≤ 30) (hz : z = q ^ n) :
    Calls Tryd.prog 32 #[.int .i64 (q : Int), .int .i64 (n : Int), .agg #[.bool (sg (z : Int)), .string (mg (z : Int))]] w (TxOut w ([], 2)) := by
  have := Unrank_any (q : Int) (n : Int) (sg (z : Int)) (mg (z : Int)) w (Or.inl (by rw [Int.toNat_natCast]; exact hn)) (mg_small q2 (by omega) (Nat.le_of_eq hz))
  rwa [unrV_over q1 q2 (by omega) (Nat.le_of_eq hz.symm)] at this
set_option maxRecDepth 100000 in
set_option maxHeartbeats 12800000 in
theorem wordNext_some (q : Nat) (l v : List UInt8) (w : World) (hl : l.length ≤ 24) (h0 : chk (q : Int) l = 0) (hv : nxt q l = some v) :
    Calls Tryd.prog 5 #[.int .i64 (q : Int), .string ⟨l.toArray⟩] w fun e w' => e = .returned (.bool true) ∧ Below w.heap.size w w' := by
  obtain ⟨m, hm, q1, q2, -, hW⟩ := chk_zero h0
  obtain rfl : m = q := by omega
  obtain ⟨hv1, hv2, hv3⟩ := nxt_some q1 q2 hW hv
  have hgt := nxt_gt q1 q2 hW hv
  have g1 : Op.bytesLess v l = false := bl_asymm hgt
  have g2 : (v == l) = false := bl_ne hgt
  have g3 : ((v.length : Int) == (l.length : Int)) = true := by rw [hv2]; simp
  have g4 : (l == l) = true := by simp
  have hd1 : decide ((24 : Int) < (l.length : Int)) = false := decide_eq_false (by omega)
  have HK := Lib.hid (fun W => check_any (m : Int) l W (by omega))
  simp only [h0] at HK
  have HK2 := Lib.hid (fun W => check_any (m : Int) v W (by omega))
  simp only [chk_of q1 q2 (by omega) hv1] at HK2
  have HN := Lib.hid (fun W => next_any (m : Int) l W (by omega))
  simp only [nextW_some h0 hv] at HN
  have hrl := rk_lt hW
  have HR1 := Lib.hid (fun W => Rank_30 m l W q1 q2 (by omega) hW)
  have HR2 := Lib.hid (fun W => Rank_30 m v W q1 q2 (by omega) hv1)
  have HU := Lib.hid (fun W => Unrank_good m l.length (rk m l) W q1 q2 (by omega) hrl)
  simp only [unrk_rk q2 l.length l rfl hW] at HU
  have I1 := isInt_lt (k := 4) q2 hrl (by omega) (by omega)
  have I2 := isInt_mg (z := 1) (k := 1) (by decide) (by omega)
  have HA := Lib.hid (fun W => iadd_any _ _ _ _ 4 1 W I1 I2)
  have hsum : ((rk m l : Nat) : Int) + 1 = ((rk m v : Nat) : Int) := by omega
  simp only [hsum] at HA
  have HO := Lib.hid (fun W => iof_any 1 W (by decide) (by decide))
  obtain ⟨x, hx⟩ : ∃ x : Int, ((rk m l : Nat) : Int) = x := ⟨_, rfl⟩
  obtain ⟨y, hy⟩ : ∃ y : Int, ((rk m v : Nat) : Int) = y := ⟨_, rfl⟩
  simp only [hx] at HR1 HU HA
  simp only [hy] at HR2 HA
  clear hx hy hsum hrl I1 I2 hgt hv hv1 hv2 hv3 h0 hW hm
  go_enter Tryd.func5, Tryd.ntmps5
  go_upto_region 6 with (first
    | (go_at_call 17; (with_reducible refine (HK.out _).mono ?_); rintro e W1 ⟨rfl, b1⟩)
    | (go_at_call 15; (with_reducible refine (HN.out _).mono ?_); rintro e W2 ⟨rfl, b2⟩)
    | (go_at_call 31; first
        | ((with_reducible refine (HR1.out _).mono ?_); rintro e W3 ⟨rfl, b3⟩)
        | ((with_reducible refine (HR2.out _).mono ?_); rintro e W4 ⟨rfl, b4⟩)))
  have B3 := below_more (below_more b1 (Nat.le_refl _) b2) (Nat.le_refl _) b3
  have V3 := BVar.new W3 x 43
  have B3a := below_more B3 (Nat.le_refl _) (below1 W3 (.cells #[.bool (sg x), .string (mg x)] 43))
  have B4 := below_more B3a (Nat.le_refl _) b4
  have B4a := below_more B4 (Nat.le_refl _) (below1 W4 (.cells #[.bool (sg y), .string (mg y)] 43))
  have V4 := BVar.new W4 y 43
  have A := Lib.hid (show A2 w W3.heap.size W4.heap.size x y _ from ⟨B4a, (V3.keep b4).keep (below1 W4 (.cells #[.bool (sg y), .string (mg y)] 43)), V4⟩)
  clear B3 V3 B3a B4 B4a V4 b1 b2 b3 b4
  generalize W4.alloc (.cells #[.bool (sg y), .string (mg y)] 43) = W4a at *
  generalize W3.heap.size = p at *
  generalize W4.heap.size = r at *
  obtain ⟨x1, x2, x3, x4⟩ := A.out.cells
  go_upto_region 10 with (first
    | (go_at_call 17; (with_reducible refine (HK2.out _).mono ?_); rintro e W7 ⟨rfl, b7⟩)
    | (go_at_call 32; (with_reducible refine (HU.out _).mono ?_); rintro e W5 ⟨rfl, b5⟩))
  have A := Lib.hid ((A.out.keep b5).keep b7).drew
  clear x1 x2 x3 x4 b5 b7
  go_region_held3 (fun W => W.cell? ⟨p, 0, none⟩ = some (.bool (sg x)) ∧ W.cell? ⟨p, 1, none⟩ = some (.string (mg x)) ∧ W.cell? ⟨r, 0, none⟩ = some (.bool (sg y)) ∧ W.cell? ⟨r, 1, none⟩ = some (.string (mg y)))
    (with_reducible exact A.out.cells)
    (first
      | (go_at_call 34; (with_reducible refine (HO.out _).mono ?_); rintro e X ⟨rfl, bX⟩; (have A := Lib.hid (A.out.keep bX)))
      | (go_at_call 33; (with_reducible refine (HA.out _).mono ?_); rintro e X ⟨rfl, bX⟩; (have A := Lib.hid (A.out.keep bX)))
      | (go_at_call 12; (with_reducible refine (awake_any _).mono ?_); rintro e X ⟨rfl, bX⟩; (have A := Lib.hid (A.out.keep bX))))
  all_goals
    go_wp2
    go_ret
    exact ⟨rfl, A.out.1⟩
set_option maxRecDepth 100000 in
set_option maxHeartbeats 12800000 in
theorem wordNext_none (q : Nat) (l : List UInt8) (w : World) (hl : l.length ≤ 24) (h0 : chk (q : Int) l = 0) (hv : nxt q l = none) :
    Calls Tryd.prog 5 #[.int .i64 (q : Int), .string ⟨l.toArray⟩] w fun e w' => e = .returned (.bool true) ∧ Below w.heap.size w w' := by
  obtain ⟨m, hm, q1, q2, -, hW⟩ := chk_zero h0
  obtain rfl : m = q := by omega
  have hfull := nxt_none q1 q2 hv
  obtain ⟨v, hvv⟩ : ∃ v, List.replicate (l.length + 1) (48 : UInt8) = v := ⟨_, rfl⟩
  have hvl : v.length = l.length + 1 := by rw [← hvv, List.length_replicate]
  have hv1 : Wof m v := by rw [← hvv]; exact Wof.rep (d := 0) q1 q2
  have hv0 : rk m v = 0 := by rw [← hvv]; exact rk_zero _ _
  have g3 : ((v.length : Int) == (l.length : Int)) = false := by rw [beq_eq_false_iff_ne]; omega
  have g5 : ((v.length : Int) == (l.length : Int) + 1) = true := by rw [hvl]; simp
  have g4 : (l == l) = true := by simp
  have hd1 : decide ((24 : Int) < (l.length : Int)) = false := decide_eq_false (by omega)
  have HK := Lib.hid (fun W => check_any (m : Int) l W (by omega))
  simp only [h0] at HK
  have HK2 := Lib.hid (fun W => check_any (m : Int) v W (by omega))
  simp only [chk_of q1 q2 (by omega) hv1] at HK2
  have HN := Lib.hid (fun W => next_any (m : Int) l W (by omega))
  simp only [nextW_none h0 hv, if_neg (show ¬ l.length = 65536 by omega), hvv] at HN
  have hrl := rk_lt hW
  have HR1 := Lib.hid (fun W => Rank_30 m l W q1 q2 (by omega) hW)
  have HR2 := Lib.hid (fun W => Rank_30 m v W q1 q2 (by omega) hv1)
  simp only [hv0] at HR2
  have HU := Lib.hid (fun W => Unrank_good m l.length (rk m l) W q1 q2 (by omega) hrl)
  simp only [unrk_rk q2 l.length l rfl hW] at HU
  have HU2 := Lib.hid (fun W => Unrank_over m l.length (rk m l + 1) W q1 q2 (by omega) hfull)
  have I1 := isInt_lt (k := 4) q2 hrl (by omega) (by omega)
  have I2 := isInt_mg (z := 1) (k := 1) (by decide) (by omega)
  have HA := Lib.hid (fun W => iadd_any _ _ _ _ 4 1 W I1 I2)
  have hsum : ((rk m l : Nat) : Int) + 1 = ((rk m l + 1 : Nat) : Int) := by omega
  simp only [hsum] at HA
  have HO := Lib.hid (fun W => iof_any 1 W (by decide) (by decide))
  obtain ⟨x, hx⟩ : ∃ x : Int, ((rk m l : Nat) : Int) = x := ⟨_, rfl⟩
  obtain ⟨y, hy⟩ : ∃ y : Int, ((rk m l + 1 : Nat) : Int) = y := ⟨_, rfl⟩
  simp only [hx] at HR1 HU HA
  simp only [hy] at HU2 HA
  clear hx hy hsum hrl I1 I2 hv hv1 hv0 h0 hW hm hfull hvv
  have hvb : v.length ≤ 25 := by omega
  clear hvl
  go_enter Tryd.func5, Tryd.ntmps5
  go_upto_region 6 with (first
    | (go_at_call 17; (with_reducible refine (HK.out _).mono ?_); rintro e W1 ⟨rfl, b1⟩)
    | (go_at_call 15; (with_reducible refine (HN.out _).mono ?_); rintro e W2 ⟨rfl, b2⟩)
    | (go_at_call 31; first
        | ((with_reducible refine (HR1.out _).mono ?_); rintro e W3 ⟨rfl, b3⟩)
        | ((with_reducible refine (HR2.out _).mono ?_); rintro e W4 ⟨rfl, b4⟩)))
  have B3 := below_more (below_more b1 (Nat.le_refl _) b2) (Nat.le_refl _) b3
  have V3 := BVar.new W3 x 43
  have B3a := below_more B3 (Nat.le_refl _) (below1 W3 (.cells #[.bool (sg x), .string (mg x)] 43))
  have B4 := below_more B3a (Nat.le_refl _) b4
  have B4a := below_more B4 (Nat.le_refl _) (below1 W4 (.cells #[.bool (sg ((0 : Nat) : Int)), .string (mg ((0 : Nat) : Int))] 43))
  have V4 := BVar.new W4 ((0 : Nat) : Int) 43
  have A := Lib.hid (show A2 w W3.heap.size W4.heap.size x ((0 : Nat) : Int) _ from ⟨B4a, (V3.keep b4).keep (below1 W4 (.cells #[.bool (sg ((0 : Nat) : Int)), .string (mg ((0 : Nat) : Int))] 43)), V4⟩)
  clear B3 V3 B3a B4 B4a V4 b1 b2 b3 b4
  generalize W4.alloc (.cells #[.bool (sg ((0 : Nat) : Int)), .string (mg ((0 : Nat) : Int))] 43) = W4a at *
  generalize W3.heap.size = p at *
  generalize W4.heap.size = r at *
  obtain ⟨x1, x2, x3, x4⟩ := A.out.cells
  go_upto_region 11 with (first
    | (go_at_call 17; (with_reducible refine (HK2.out _).mono ?_); rintro e W7 ⟨rfl, b7⟩)
    | (go_at_call 32; (with_reducible refine (HU.out _).mono ?_); rintro e W5 ⟨rfl, b5⟩))
  have A := Lib.hid ((A.out.keep b5).keep b7).drew
  clear x1 x2 x3 x4 b5 b7
  go_region_held3 (fun W => W.cell? ⟨p, 0, none⟩ = some (.bool (sg x)) ∧ W.cell? ⟨p, 1, none⟩ = some (.string (mg x)) ∧ W.cell? ⟨r, 0, none⟩ = some (.bool (sg ((0 : Nat) : Int))) ∧ W.cell? ⟨r, 1, none⟩ = some (.string (mg ((0 : Nat) : Int))))
    (with_reducible exact A.out.cells)
    (first
      | (go_at_call 34; (with_reducible refine (HO.out _).mono ?_); rintro e X ⟨rfl, bX⟩; (have A := Lib.hid (A.out.keep bX)))
      | (go_at_call 33; (with_reducible refine (HA.out _).mono ?_); rintro e X ⟨rfl, bX⟩; (have A := Lib.hid (A.out.keep bX)))
      | (go_at_call 32; (with_reducible refine (HU2.out _).mono ?_); rintro e X ⟨rfl, bX⟩; (have A := Lib.hid (A.out.keep bX))))
  all_goals
    obtain ⟨x1, x2, x3, x4⟩ := A.out.cells
    have f1 : sg 0 = false := sg0
    have f2 : (mg 0).toList = [] := by rw [mg0, ByteArray.toList_eq]
    go_wp2_with (go_at_call 12; (with_reducible refine (awake_any _).mono ?_); rintro e X ⟨rfl, bX⟩)
    go_ret
    exact ⟨rfl, below_more A.out.1 (Nat.le_refl _) bX⟩
set_option maxRecDepth 100000 in
set_option maxHeartbeats 6400000 in
theorem wordNext_any (q : Int) (l : List UInt8) (w : World) (hl : l.length ≤ 9223372036854775807) :
    Calls Tryd.prog 5 #[.int .i64 q, .string ⟨l.toArray⟩] w fun e w' => e = .returned (.bool true) ∧ Below w.heap.size w w' := by
  rcases Nat.lt_or_ge 24 l.length with h | h
  · go_enter Tryd.func5, Tryd.ntmps5
    go_wp2_with (go_at_call 12; (with_reducible refine (awake_any _).mono ?_); rintro e W7 ⟨rfl, b7⟩)
    go_ret
    exact ⟨rfl, b7⟩
  · by_cases h0 : chk q l = 0
    · obtain ⟨m, rfl, -, -, -, -⟩ := chk_zero h0
      cases hv : nxt m l with
      | none => exact wordNext_none m l w h h0 hv
      | some v => exact wordNext_some m l v w h h0 hv
    · have HK := Lib.hid (fun W => check_any q l W hl)
      obtain ⟨c, hc⟩ : ∃ c, chk q l = c := ⟨_, rfl⟩
      simp only [hc] at HK
      rw [hc] at h0
      have h1 : (c == 0) = false := by rw [beq_eq_false_iff_ne]; exact h0
      have hd1 : decide ((24 : Int) < (l.length : Int)) = false := decide_eq_false (by omega)
      clear hc h0
      go_enter Tryd.func5, Tryd.ntmps5
      go_wp2_with (first
        | (go_at_call 17; (with_reducible refine (HK.out _).mono ?_); rintro e W1 ⟨rfl, b1⟩)
        | (go_at_call 12; (with_reducible refine (awake_any _).mono ?_); rintro e W7 ⟨rfl, b7⟩))
      go_ret
      exact ⟨rfl, below_more b1 (Nat.le_refl _) b7⟩
end Go.Proofs.YtigdjlhihhakmaaDoor

namespace Go.Proofs.YtigdjlhihhakmaaDoor.wordNext
open Go.ChangeShapes Go.WideShapes Go.ChangeAt Go.RowKit
open Go.ChangeMaps (open_string shut_string)
set_option maxRecDepth 100000
set_option linter.unusedVariables false

theorem contract (H : Type) (enc : TypeId × Value → H) (W : World) (base : Nat) (args : Array Value) (ds gs : List (DataW H)) (before : List MemPlace)
    (hval : ∀ (j : Nat) t v, Tryd.f5.params[j]? = some t → args[j]? = some v → Value.okWide Tryd.prog W .any base t v)
    (hW : DataW.Whole enc Tryd.prog Tryd.f5.params.toList Rows.wordNextSpec.vars false W args.toList ds gs before) (hL : laidMetH Tryd.prog Rows.wordNextRow.laid W) :
    Calls Tryd.prog 5 args W fun e W' => ∃ v, e = .returned v ∧ Rows.wordNextSpec.post enc Tryd.prog Tryd.f5 false true false false W args v W' := by
  have hW' := hW
  obtain ⟨p, q, hA0, hV, rfl, hfz, hnd⟩ := hW
  have hA : DataW.TrodAll enc Tryd.prog W 0 (fun _ => true) true Tryd.f5.params.toList args.toList ds p := hA0
  rw [Tryd.params5] at hA hval
  obtain ⟨v0, vs0, d0, ds0, p0, q0, hargs, rfl, rfl, h0, r0⟩ := trodAll_cons hA
  obtain ⟨v1, vs1, d1, ds1, p1, q1, rfl, rfl, rfl, h1, r1⟩ := trodAll_cons r0
  obtain ⟨rfl, rfl, rfl⟩ := trodAll_nil r1
  obtain rfl : args = #[v0, v1] := by cases args; simp_all
  obtain ⟨rfl, rfl⟩ := trodVars_none hV
  obtain ⟨n0, rfl, rfl, rfl, w0⟩ := open_int Tryd.underlying3 (hval 0 3 v0 rfl rfl) h0
  have b0 : (IntKind.min .i64) ≤ n0 ∧ n0 ≤ (IntKind.max .i64) := by simpa [Lit.wf] using w0
  simp [IntKind.min, IntKind.max, IntKind.signed, IntKind.bits] at b0
  obtain ⟨s1, rfl, rfl, rfl, z1⟩ := open_string Tryd.underlying9 (hval 1 9 v1 rfl rfl) h1
  clear hA0
  simp only [List.append_nil] at hW'
  refine (wordNext_any n0 s1.data.toList W (by have := z1; unfold maxLen at this; exact this)).mono fun e W' ⟨he, hb⟩ => ?_
  subst he
  refine ⟨_, rfl, _, _, _, [], [], [], hW', ?_, ?_, ?_, hb.frame _, fun h => by cases h⟩
  · exact trodAll_cons_mk (p := []) (shut_bool Tryd.underlying4 true) trodAll_mk0
  · exact (trodAll_cons_mk (p := []) (shut_int Tryd.underlying3 w0) (trodAll_cons_mk (p := []) (shut_string Tryd.underlying9 z1) trodAll_mk0))
  · rfl

theorem reads (os : Os) {H : Type} (enc : TypeId × Value → H) : ∃ places, DataW.whole enc Tryd.prog ((laidWorld os).forCall (fun _ _ => 0) ⟨#[], #[.int .i64 0, .string ⟨#[]⟩], []⟩).memory Tryd.f5.params.toList Rows.wordNextSpec.vars false [.int .i64 0, .string ⟨#[]⟩] 8 = some ([.lit (.int .i64 0), .lit (.string [])], [], places) :=
  ⟨[], by kernel_rfl⟩

theorem lifted (os : Os) (started : os.Started) (H : Type) (enc : TypeId × Value → H) (F : Stop.Interp) :
    ReturnsInHanded {} Tryd.checked os 5 .any ((OpenSpec.ofChange Rows.wordNextSpec).preRow enc Tryd.prog Tryd.f5 Rows.wordNextRow.domain false Rows.wordNextRow.laid) (((OpenSpec.ofChange Rows.wordNextSpec).at F).post enc Tryd.prog Tryd.f5 false true false false) := by
  obtain ⟨places, hx⟩ := reads os enc
  refine returnsInHanded_of_row (C := Tryd.checked) (s := OpenSpec.ofChange Rows.wordNextSpec) ownNone started (by kernel_rfl) Tryd.func5
    (witness_row_at (enc := enc) (C := Tryd.checked) false (laidWorld os) #[.int .i64 0, .string ⟨#[]⟩] rfl (by kernel_rfl) (by kernel_rfl) (by kernel_rfl)
      (OpenSpec.preRow_of_cond 8 hx (by kernel_rfl) (fun k hk => by cases hk) (by kernel_rfl) (laid_met os _))) ?_
  intro W base args ds gs before hval hW _ _ _ hL _ _
  exact contract H enc W base args ds gs before hval hW hL

theorem said : Rows.WordNextSaid :=
  OpenClaim.holds_of_cond 5 Tryd.f5 rfl rfl rfl rfl rfl rfl rfl ⟨rfl, rfl, rfl, rfl, rfl⟩ rfl rfl rfl rfl rfl (by kernel_rfl) Tryd.func5 (by kernel_rfl)
    (of_decide_eq_true (by kernel_rfl)) (by unfold Func.isWrapper; first | (rw [if_pos (by decide +kernel)]; kernel_rfl) | (rw [if_neg (by decide +kernel)]; exact ⟨rfl, rfl⟩))
    (fun os started H enc _ F => by rw [OpenClaim.pre_eq_preRow]; exact lifted os started H enc F)

theorem plain (f : FuncId) (fn : Func) (hf : Tryd.pinned.checked.prog.funcNamed "groove/groovelaw07.WordNext" = some f) (hfn : Tryd.pinned.checked.prog.funcs[f]? = some fn) :
    false = Tryd.pinned.checked.prog.looks [] ∧ ∀ (j : Nat) t, fn.params[j]? = some t → Tryd.pinned.checked.prog.wantsStandIn t = false := by
  obtain rfl : f = 5 := Option.some.inj ((show Tryd.prog.funcNamed "groove/groovelaw07.WordNext" = some 5 by kernel_rfl).symm.trans hf) |>.symm
  obtain rfl : fn = Tryd.f5 := (Option.some.inj (Tryd.func5.symm.trans hfn)).symm
  refine ⟨by kernel_rfl, fun j t ht => ?_⟩
  rw [Tryd.params5] at ht
  have hm := Array.mem_of_getElem? ht
  have hm : t = 3 ∨ t = 9 := by simpa using hm
  rcases hm with rfl | rfl
  · exact noStand.2.1
  · exact noStand.1

/-- WordNext's card. -/
theorem card : Rows.WordNextCardSaid :=
  Claim7.holds_tied_plain_at .later [] _ _ _ _ said (fun _ h => by cases h) (by kernel_rfl) (fun _ h => by cases h) wordNext_row_tie rfl ⟨rfl, rfl⟩ (by kernel_rfl) rfl plain (by kernel_rfl)
end Go.Proofs.YtigdjlhihhakmaaDoor.wordNext
