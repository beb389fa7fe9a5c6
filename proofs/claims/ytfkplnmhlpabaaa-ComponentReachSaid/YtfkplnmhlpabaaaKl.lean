/- What component.Reach, divisor, measure, Period and Classes return. Condition: the edges can be read. -/
import Derived.Test.YtfkplnmhlpabaaaKk
namespace Go.Proofs.Ytfkplnmhlpabaaa
open Go.RowKit Go.Shelf
set_option linter.unusedSimpArgs false
set_option linter.unusedVariables false

def IOutC (w : World) (l : List Int) (k : Int) (e : Ending) (w' : World) : Prop := ∃ u, e = .returned (.tuple #[u, .int .i64 k]) ∧ IntsAt w' w.heap.size u l ∧ Below w.heap.size w w'
theorem IRow.turn {W W' : World} {g n : Nat} {f : Nat → Int} (h : IRow W g n f) {o : Obj} {row : Option Nat} (hg : (W.alloc o).grownBy W' row) (hr : ∀ k, row = some k → g < k) : IRow W' g n f :=
  World.rowIs.of_block h ((hg.block g (by have := h.lt; rw [World.size_alloc]; omega) (fun e => by have := hr g e.symm; omega)).trans (Below.heap_alloc _ _ _ h.lt))
/-- Lengths from a state, of a valid graph. -/
theorem search_any (La : Int) (n : Nat) (es : List E3) (s : Nat) (b : Nat) (vs : Nat → Value) (w : World) (hvg : VG La (n : Int) es) (hs : s < n) (hr : RowsI b n vs (fun s => tgE es (s : Int)) w) :
    Calls Try.prog 56 #[.slice (some ⟨b, 0, none⟩) n n, .int .i64 (s : Int)] w fun e w' => ∃ g, e = .returned (.slice (some ⟨g, 0, none⟩) n n) ∧ IRow w' g n (lenF es n s) ∧ w.heap.size ≤ g ∧ Below w.heap.size w w' := by
  have hn : n ≤ 64 := by have := hvg.s2; omega
  refine (lengths_any n _ (fun s => tgE es (s : Int)) s w hn (rows_rd hr n) (fun s _ u hu => by
    obtain ⟨e, he, -, rfl⟩ := tgE_mem.1 hu
    have := okE_iff.1 (hvg.ok e he); omega) (fun s => by have := tgE_len es (s : Int); have := hvg.len; show (tgE es (s : Int)).length ≤ _; omega) hs).mono ?_
  rintro e w' ⟨rfl, h1, h2⟩
  exact ⟨_, rfl, h1, by omega, h2⟩
def reachR (L S : Int) (es : List E3) (s : Int) : List Int := if chkG L S es = 0 then (if 0 ≤ s ∧ s < S then mems S.toNat (rb es S.toNat s.toNat) else []) else []
def reachE (L S : Int) (es : List E3) (s : Int) : Int := if chkG L S es = 0 then (if 0 ≤ s ∧ s < S then 0 else 25) else 1
set_option maxRecDepth 100000 in
set_option maxHeartbeats 6400000 in
theorem reach_good (La : Int) (n s : Nat) (es : List E3) (v : Value) (w : World) (hrd : EdgesRd w v es) (hvg : VG La (n : Int) es) (hs : s < n) :
    Calls Try.prog 23 #[grV La (n : Int) v, .int .i64 (s : Int)] w (IOutC w (mems n (rb es n s)) 0) := by
  obtain ⟨i0, hi, hz0, hz1, hz2⟩ := info_parts Try.infoI64
  have hlen := hvg.len
  have hn64 : n ≤ 64 := by have := hvg.s2; omega
  have b1 := below1 w (.cells #[.int .i64 La, .int .i64 (n : Int), v] 24)
  have G1 := Lib.hid (BoxG.new w La (n : Int) v 24)
  have HV := Lib.hid (fun W h => hvg.chk ▸ gcheck_any La (n : Int) es v W h (by omega))
  have HTG := Lib.hid (fun W h => targets_any La n es v W h hn64 hvg.ok hlen)
  have HSR := Lib.hid (fun b vs W h => search_any La n es s b vs W hvg hs h)
  have HRD := Lib.hid hrd
  have HB := Lib.hid b1
  obtain ⟨a, c, rfl⟩ := hrd.form
  obtain ⟨x1, x2, x3⟩ := id G1.out
  have j1 : decide ((n : Int) ≤ (s : Int)) = false := decide_eq_false (by omega)
  have j2 : decide (n ≤ s) = false := decide_eq_false (by omega)
  have j3 : ¬ (n : Int) ≤ (s : Int) := by omega
  have j4 : decide ((s : Int) < 0) = false := decide_eq_false (by omega)
  clear hrd b1 hvg
  go_enter Try.func23, Try.ntmps23
  go_wp2_with (first
    | (go_at_call 55; (with_reducible refine (HV.out _ (HRD.out.keep HB.out)).mono ?_); rintro e W2 ⟨rfl, b2⟩; (have G2 := Lib.hid (G1.out.keep b2)); (have B2 := Lib.hid (below_more HB.out (Nat.le_refl _) b2)); clear b2 x1 x2 x3; (obtain ⟨x1, x2, x3⟩ := id G2.out))
    | (go_at_call 57; (with_reducible refine (HTG.out _ (HRD.out.keep B2.out)).mono ?_); rintro e W3 ⟨vs3, rfl, r3, b3⟩; (have R3 := Lib.hid r3); (have B3 := Lib.hid (below_more B2.out (Nat.le_refl _) b3)); clear b3 r3 x1 x2 x3)
    | (go_at_call 56; (with_reducible refine (HSR.out _ _ _ R3.out).mono ?_); rintro e W4 ⟨g, rfl, i4, hg4, b4⟩; (have I4 := Lib.hid i4); (have B4 := Lib.hid (below_more B3.out (Nat.le_refl _) b4)); clear b4 i4))
  obtain ⟨Bs, hBs⟩ : ∃ Bs, W4.heap.size = Bs := ⟨_, rfl⟩
  have hgB : g < Bs := by rw [← hBs]; exact I4.out.lt
  have hwB : w.heap.size ≤ Bs := by rw [← hBs]; exact B4.out.size
  have L0 := Lib.hid (show IntsAt W4 Bs (.slice none 0 0) (mems 0 (rb es n s)) from ints_nil _ _)
  have HZ := Lib.hid (show Bs ≤ W4.heap.size by omega)
  clear hBs
  go_loopg [6, 25] n (fun q s6 s25 wx => ∃ t : Nat, t + q = n ∧ s25 = .int .i64 (t : Int) ∧ Hid (IntsAt wx Bs s6 (mems t (rb es n s))) ∧ Hid (IRow wx g n (lenF es n s)) ∧ Hid (Below w.heap.size w wx) ∧ Hid (Bs ≤ wx.heap.size))
  case atStart => exact ⟨0, by omega, rfl, L0, I4, B4, HZ⟩
  case round =>
    clear L0 I4 B4 HZ
    obtain ⟨t, htn, rfl, HL, HI, HB5, HZ⟩ := hrel
    rcases gk with _ | q
    · obtain rfl : t = n := by omega
      obtain ⟨a9, c9, hu6⟩ := own_slice HL.out
      rw [hu6] at HL
      subst hu6
      go_wp2_with fail
      exact bodyPost_ret (v := .tuple #[.slice a9 (mems t (rb es t s)).length c9, .int .i64 0]) (by simp [results, Try.results23, go_sem]) rfl ⟨_, rfl, own_low HL.out hwB, HB5.out⟩
    · have ht : t < n := by omega
      have c1 := HI.out.cell ht
      have HM := Lib.hid (mems_succ t (rb es n s))
      have HRB := Lib.hid (show rb es n s t = decide (lenF es n s t ≠ -1) from rfl)
      have k1 : (t : Int) < (n : Int) := by omega
      obtain ⟨z, hz⟩ : ∃ z, lenF es n s t = z := ⟨_, rfl⟩
      rw [hz] at c1 HRB
      by_cases hzz : z = -1
      · have e1 : (z != -1) = false := by simpa using hzz
        have HL2 := Lib.hid (show IntsAt wr Bs u6 (mems (t + 1) (rb es n s)) by rw [HM.out, HRB.out, hzz]; simpa using HL.out)
        clear hz hzz HM HRB HL
        go_wp2_with fail
        go_roundg q
        case measure => omega
        case rel => exact ⟨t + 1, by omega, by go_num, HL2, HI, HB5, HZ⟩
      · have e1 : (z != -1) = true := by simpa using hzz
        have HM2 := Lib.hid (show mems (t + 1) (rb es n s) = mems t (rb es n s) ++ [(t : Int)] by rw [HM.out, HRB.out]; simp [hzz])
        have hml := mems_len t (rb es n s)
        have hown : wr.ownsRow Bs 3 1 u6 (mems t (rb es n s)).length (intz (mems t (rb es n s))) := HL.out
        have hl6 := hown.lt
        have hZo := HZ.out
        obtain ⟨L6, hL6⟩ : ∃ L6, mems t (rb es n s) = L6 := ⟨_, rfl⟩
        rw [hL6] at hown hml HM2
        clear hz hzz HM HRB hL6
        go_wp2_with (at_builtin; refine wpList_append_own_at _ rfl _ _ 34 rfl Bs 3 i0 (.int .i64 0) 1 8 Try.underlying34 hi hz0 hz1 hz2 rfl (by decide) _ _ _ rfl (hown.alloc _) ⟨wr.heap.size, 0, none⟩ 1 1 [.int .i64 (t : Int)] rfl rfl (cell_one_new _ _ _) (by intro u hu; simp at hu; subst hu; rfl) (by unfold maxLen; omega) (by omega) (by rw [World.size_alloc]; omega) ?_; intro v' w4 hown4 hgrow4 _ _; (have I4 := Lib.hid (HI.out.turn hgrow4 (fun k e => by have := (hl6 k e).1; omega))); (have B4 := Lib.hid (Below.grown (HB5.out.alloc HB5.out.size (.cells #[.int .i64 (t : Int)] 3)) hgrow4 (by rw [World.size_alloc]; have := HB5.out.size; omega) (fun k e => by have := (hl6 k e).1; omega))); (have Z4 := Lib.hid (show Bs ≤ w4.heap.size by have := hgrow4.size; rw [World.size_alloc] at this; omega)); (have L4 := Lib.hid (show IntsAt w4 Bs v' (mems (t + 1) (rb es n s)) by unfold IntsAt; rw [HM2.out, intz_snoc, List.length_append]; exact hown4)); clear hown4 hgrow4)
        go_roundg q
        case measure => omega
        case rel => exact ⟨t + 1, by omega, by go_num, L4, I4, B4, Z4⟩
set_option maxRecDepth 100000 in
set_option maxHeartbeats 3200000 in
theorem reach_any (La S s : Int) (es : List E3) (v : Value) (w : World) (hrd : EdgesRd w v es) (hn : es.length ≤ 9223372036854775807) :
    Calls Try.prog 23 #[grV La S v, .int .i64 s] w (IOutC w (reachR La S es s) (reachE La S es s)) := by
  by_cases h0 : chkG La S es = 0
  · by_cases h1 : 0 ≤ s ∧ s < S
    · have hvg := chkG_zero h0
      obtain ⟨n, rfl⟩ : ∃ n : Nat, S = (n : Int) := ⟨S.toNat, by omega⟩
      obtain ⟨x, rfl⟩ : ∃ x : Nat, s = (x : Int) := ⟨s.toNat, by omega⟩
      have e1 : reachR La (n : Int) es (x : Int) = mems n (rb es n x) := by unfold reachR; rw [if_pos h0, if_pos h1]; rfl
      have e2 : reachE La (n : Int) es (x : Int) = 0 := by unfold reachE; rw [if_pos h0, if_pos h1]
      rw [e1, e2]
      exact reach_good La n x es v w hrd hvg (by omega)
    · have e1 : reachR La S es s = [] := by unfold reachR; rw [if_pos h0, if_neg h1]
      have e2 : reachE La S es s = 25 := by unfold reachE; rw [if_pos h0, if_neg h1]
      rw [e1, e2]
      have b1 := below1 w (.cells #[.int .i64 La, .int .i64 S, v] 24)
      have G1 := Lib.hid (BoxG.new w La S v 24)
      have HV := Lib.hid (fun W h => h0 ▸ gcheck_any La S es v W h hn)
      have HRD := Lib.hid hrd
      have HB := Lib.hid b1
      obtain ⟨a, c, rfl⟩ := hrd.form
      obtain ⟨x1, x2, x3⟩ := id G1.out
      clear hrd b1 h0 e1 e2
      rcases (show s < 0 ∨ (¬ s < 0 ∧ S ≤ s) by omega) with h2 | ⟨h2, h3⟩
      · have j4 : decide (s < 0) = true := decide_eq_true h2
        clear h1
        go_enter Try.func23, Try.ntmps23
        go_wp2_with (go_at_call 55; (with_reducible refine (HV.out _ (HRD.out.keep HB.out)).mono ?_); rintro e W2 ⟨rfl, b2⟩; (have G2 := Lib.hid (G1.out.keep b2)); (have B2 := Lib.hid (below_more HB.out (Nat.le_refl _) b2)); clear b2 x1 x2 x3; (obtain ⟨x1, x2, x3⟩ := id G2.out))
        exact bodyPost_ret (v := .tuple #[.slice none 0 0, .int .i64 25]) (by simp [results, Try.results23, go_sem]) rfl ⟨_, rfl, ints_nil _ _, B2.out⟩
      · have j4 : decide (s < 0) = false := decide_eq_false h2
        have j1 : decide (S ≤ s) = true := decide_eq_true h3
        clear h1
        go_enter Try.func23, Try.ntmps23
        go_wp2_with (go_at_call 55; (with_reducible refine (HV.out _ (HRD.out.keep HB.out)).mono ?_); rintro e W2 ⟨rfl, b2⟩; (have G2 := Lib.hid (G1.out.keep b2)); (have B2 := Lib.hid (below_more HB.out (Nat.le_refl _) b2)); clear b2 x1 x2 x3; (obtain ⟨x1, x2, x3⟩ := id G2.out))
        exact bodyPost_ret (v := .tuple #[.slice none 0 0, .int .i64 25]) (by simp [results, Try.results23, go_sem]) rfl ⟨_, rfl, ints_nil _ _, B2.out⟩
  · have e1 : reachR La S es s = [] := by unfold reachR; rw [if_neg h0]
    have e2 : reachE La S es s = 1 := by unfold reachE; rw [if_neg h0]
    rw [e1, e2]
    obtain ⟨z, hz⟩ : ∃ z, chkG La S es = z := ⟨_, rfl⟩
    have b1 := below1 w (.cells #[.int .i64 La, .int .i64 S, v] 24)
    have G1 := Lib.hid (BoxG.new w La S v 24)
    have HV := Lib.hid (fun W h => hz ▸ gcheck_any La S es v W h hn)
    have HRD := Lib.hid hrd
    have HB := Lib.hid b1
    obtain ⟨a, c, rfl⟩ := hrd.form
    obtain ⟨x1, x2, x3⟩ := id G1.out
    have d0 : (z != 0) = true := by rw [← hz]; simpa using h0
    clear hrd b1 h0 hz e1 e2
    go_enter Try.func23, Try.ntmps23
    go_wp2_with (go_at_call 55; (with_reducible refine (HV.out _ (HRD.out.keep HB.out)).mono ?_); rintro e W2 ⟨rfl, b2⟩; (have B2 := Lib.hid (below_more HB.out (Nat.le_refl _) b2)); clear b2 x1 x2 x3)
    exact bodyPost_ret (v := .tuple #[.slice none 0 0, .int .i64 1]) (by simp [results, Try.results23, go_sem]) rfl ⟨_, rfl, ints_nil _ _, B2.out⟩
/-! ### The greatest common divisor -/
set_option maxRecDepth 100000 in
set_option maxHeartbeats 3200000 in
theorem divisor_any (a b : Int) (w : World) (ha : a.natAbs ≤ 1000000) (hb : b.natAbs ≤ 1000000) :
    Calls Try.prog 80 #[.int .i64 a, .int .i64 b] w fun e w' => e = .returned (.int .i64 ((Int.gcd a b : Nat) : Int)) ∧ ∃ m, w' = w.drewN m := by
  obtain ⟨G, hG⟩ : ∃ G, Int.gcd a b = G := ⟨_, rfl⟩
  rw [hG]
  have HG := Lib.hid hG
  clear hG
  go_enter Try.func80, Try.ntmps80
  go_wp2_with fail
  go_loopg [0, 1] b.natAbs (fun q s0 s1 wx => ∃ x y : Int, s0 = .int .i64 x ∧ s1 = .int .i64 y ∧ Hid (Int.gcd x y = G) ∧ x.natAbs ≤ 1000000 ∧ y.natAbs ≤ 1000000 ∧ Hid (y.natAbs = q) ∧ ∃ m, wx = w.drewN m)
  case atStart => exact ⟨a, b, rfl, rfl, HG, ha, hb, Lib.hid rfl, 0, rfl⟩
  case round =>
    clear HG ha hb
    obtain ⟨x, y, rfl, rfl, HGG, hx, hy, HQ, m, rfl⟩ := hrel
    by_cases hy0 : y = 0
    · have j1 : (y != 0) = false := by simpa using hy0
      have HE := Lib.hid (show ((G : Nat) : Int) = max x (-x) by rw [← HGG.out, hy0]; exact gcd_end x)
      have hw : IntKind.i64.wrap (-x) = -x := by rw [IntKind.wrap_i64]; omega
      clear hy0 HGG HQ
      go_wp2_with fail
      go_ret
      exact ⟨by rw [HE.out]; rfl, m, rfl⟩
    · have j1 : (y != 0) = true := by simpa using hy0
      have hyn : ¬ y = 0 := hy0
      obtain ⟨r, hr⟩ : ∃ r, Int.tmod x y = r := ⟨_, rfl⟩
      have hrl : r.natAbs < y.natAbs := by rw [← hr, Int.natAbs_tmod]; exact Nat.mod_lt _ (by omega)
      have hw : IntKind.i64.wrap r = r := by rw [IntKind.wrap_i64]; omega
      have HG2 := Lib.hid (show Int.gcd y r = G by rw [← hr, gcd_tmod]; exact HGG.out)
      clear HGG
      go_wp2_with fail
      go_quiet (fail)
      go_wp2_with fail
      go_roundg r.natAbs
      case measure => have := HQ.out; omega
      case rel => exact ⟨y, r, rfl, rfl, HG2, hy, by omega, Lib.hid rfl, m + nq, by rw [World.drewN_drewN]⟩
/-! ### Period -/
theorem dfsA_le {nx : Nat → List Int} {M : Int} : ∀ {k : Nat} {f : Nat → Int} {s : Nat} {l : Int}, (∀ t, f t ≤ M) → l + k ≤ M + 1 → ∀ t, dfsA nx k f s l t ≤ M
  | 0, f, s, l, h, _, t => h t
  | k + 1, f, s, l, h, h2, t => by
    by_cases hs : f s = -1
    · rw [dfsA_new hs]
      have : ∀ (ts : List Int) (g : Nat → Int), (∀ t, g t ≤ M) → ∀ t, ts.foldl (fun g u => dfsA nx k g u.toNat (l + 1)) g t ≤ M := by
        intro ts
        induction ts with
        | nil => intro g hg; exact hg
        | cons u ts ih => intro g hg; exact ih _ (dfsA_le hg (by push_cast at h2; omega))
      refine this _ _ (fun t => ?_) t
      unfold setN
      split
      · push_cast at h2; omega
      · exact h t
    · rw [dfsA_found hs]; exact h t
theorem lenF_le (es : List E3) (n s t : Nat) : lenF es n s t ≤ n := dfsA_le (fun _ => by omega) (by push_cast; omega) t
theorem lenF_ge {L : Int} {n : Nat} {es : List E3} (h : ∀ e ∈ es, okE L (n : Int) e = true) (s t : Nat) : -1 ≤ lenF es n s t := by
  by_cases h1 : lenF es n s t = -1
  · omega
  · obtain ⟨d, -, h2⟩ := lenF_path h h1; omega
theorem perF_snoc (d : Nat → Int) (es : List E3) (e : E3) : perF d (es ++ [e]) = Int.gcd ((perF d es : Nat) : Int) (d e.1.toNat + 1 - d e.2.2.toNat) := by
  unfold perF; rw [List.foldl_append]; rfl
theorem perF_le {d : Nat → Int} {m : Nat} : ∀ {es : List E3}, (∀ e ∈ es, (d e.1.toNat + 1 - d e.2.2.toNat).natAbs ≤ m) → perF d es ≤ m := by
  intro es
  have : ∀ (es : List E3) (p : Nat), p ≤ m → (∀ e ∈ es, (d e.1.toNat + 1 - d e.2.2.toNat).natAbs ≤ m) → perI d es p ≤ m := by
    intro es
    induction es with
    | nil => intro p hp _; exact hp
    | cons e es ih => intro p hp h; exact ih _ (gcd_le hp (h e List.mem_cons_self)) (fun x hx => h x (List.mem_cons_of_mem _ hx))
  exact this es 0 (Nat.zero_le _)
/-- The period of an irreducible graph. -/
def perN (es : List E3) (n : Nat) : Nat := perF (lenF es n 0) es
set_option maxRecDepth 100000 in
set_option maxHeartbeats 6400000 in
theorem measure_good (La : Int) (n : Nat) (es : List E3) (v : Value) (w : World) (hrd : EdgesRd w v es) (hvg : VG La (n : Int) es) (hir : irrB es n = true) :
    Calls Try.prog 58 #[grV La (n : Int) v] w fun e w' => ∃ g, e = .returned (.tuple #[.int .i64 ((perN es n : Nat) : Int), .slice (some ⟨g, 0, none⟩) n n, .int .i64 0]) ∧ IRow w' g n (lenF es n 0) ∧ w.heap.size ≤ g ∧ Below w.heap.size w w' := by
  have hlen := hvg.len
  have hn64 : n ≤ 64 := by have := hvg.s2; omega
  have hne := ((irr_iff hvg.ok).1 hir).1
  have hn0 : 0 < n := by
    cases es with
    | nil => exact absurd rfl hne
    | cons e es => have := okE_iff.1 (hvg.ok e List.mem_cons_self); omega
  have e1 : irrR La (n : Int) es = true := by unfold irrR; rw [if_pos hvg.chk]; exact hir
  have e2 : errC La (n : Int) es = 0 := by unfold errC; rw [if_pos hvg.chk]
  have b1 := below1 w (.cells #[.int .i64 La, .int .i64 (n : Int), v] 24)
  have G1 := Lib.hid (BoxG.new w La (n : Int) v 24)
  have hi := irreducible_any La (n : Int) es v (w.alloc (.cells #[.int .i64 La, .int .i64 (n : Int), v] 24)) (hrd.keep b1) (by omega)
  rw [e1, e2] at hi
  have HI := Lib.hid hi
  have HTG := Lib.hid (fun W h => targets_any La n es v W h hn64 hvg.ok hlen)
  have HSR := Lib.hid (fun b vs W h => search_any La n es 0 b vs W hvg hn0 h)
  rw [show ((0 : Nat) : Int) = 0 from rfl] at HSR
  have HOK := Lib.hid hvg.ok
  have HBD := Lib.hid (show ∀ t, -1 ≤ lenF es n 0 t ∧ lenF es n 0 t ≤ n from fun t => ⟨lenF_ge hvg.ok 0 t, lenF_le es n 0 t⟩)
  have HRD := Lib.hid hrd
  have HB := Lib.hid b1
  obtain ⟨a, c, rfl⟩ := hrd.form
  obtain ⟨x1, x2, x3⟩ := id G1.out
  clear hrd b1 hvg hi e1 e2 hir hne
  go_enter Try.func58, Try.ntmps58
  go_wp2_with (first
    | (go_at_call 20; (with_reducible refine HI.out.mono ?_); rintro e W2 ⟨rfl, b2⟩; (have G2 := Lib.hid (G1.out.keep b2)); (have B2 := Lib.hid (below_more HB.out (Nat.le_refl _) b2)); clear b2 x1 x2 x3; (obtain ⟨x1, x2, x3⟩ := id G2.out))
    | (go_at_call 57; (with_reducible refine (HTG.out _ (HRD.out.keep B2.out)).mono ?_); rintro e W3 ⟨vs3, rfl, r3, b3⟩; (have R3 := Lib.hid r3); (have G3 := Lib.hid (G2.out.keep b3)); (have B3 := Lib.hid (below_more B2.out (Nat.le_refl _) b3)); clear b3 r3 x1 x2 x3)
    | (go_at_call 56; (with_reducible refine (HSR.out _ _ _ R3.out).mono ?_); rintro e W4 ⟨g, rfl, i4, hg4, b4⟩; (have I4 := Lib.hid i4); (have G4 := Lib.hid (G3.out.keep b4)); (have B4 := Lib.hid (below_more B3.out (Nat.le_refl _) b4)); (have HG4 := Lib.hid (show w.heap.size ≤ g from Nat.le_trans B3.out.size hg4)); clear b4 i4 hg4; (obtain ⟨x1, x2, x3⟩ := id G4.out)))
  have P0 := Lib.hid (show perF (lenF es n 0) (es.take 0) = 0 from rfl)
  clear x1 x2 x3
  go_loopg [8, 27] es.length (fun q s8 s27 wx => ∃ (i : Nat) (p : Nat), i + q = es.length ∧ s27 = .int .i64 (i : Int) ∧ s8 = .int .i64 (p : Int) ∧ Hid (perF (lenF es n 0) (es.take i) = p) ∧ p ≤ 1000 ∧ Hid (IRow wx g n (lenF es n 0)) ∧ Hid (Below w.heap.size w wx))
  case atStart => exact ⟨0, 0, by omega, rfl, rfl, P0, by omega, I4, B4⟩
  case round =>
    clear P0 I4 B4
    obtain ⟨i, p, hin, rfl, rfl, HP, hp, HI4, HB4⟩ := hrel
    rcases gk with _ | q
    · obtain rfl : i = es.length := by omega
      have HP2 := Lib.hid (show perN es n = p by unfold perN; rw [← HP.out, List.take_length])
      clear HP
      go_wp2_with fail
      exact bodyPost_ret (v := .tuple #[.int .i64 (p : Int), .slice (some ⟨g, 0, none⟩) n n, .int .i64 0]) (by simp [results, Try.results58, go_sem]) rfl ⟨g, by rw [HP2.out], HI4.out, HG4.out, HB4.out⟩
    · obtain ⟨e, he⟩ : ∃ e, es[i]? = some e := ⟨_, List.getElem?_eq_getElem (by omega)⟩
      have hek := okE_iff.1 (HOK.out e (List.mem_of_getElem? he))
      obtain ⟨bb, off, c', hv, k1, k2, k3⟩ := (HRD.out.keep HB4.out).at he
      injection hv with q1 q2 q3
      subst q1
      have HT := take_snoc he
      have hps := perF_snoc (lenF es n 0) (es.take i) e
      rw [← HT, HP.out] at hps
      obtain ⟨x, y, z⟩ := e
      dsimp only at hek k1 k2 k3 hps
      obtain ⟨x, rfl⟩ : ∃ m : Nat, x = (m : Int) := ⟨x.toNat, by omega⟩
      obtain ⟨z, rfl⟩ : ∃ m : Nat, z = (m : Int) := ⟨z.toNat, by omega⟩
      rw [Int.toNat_natCast, Int.toNat_natCast] at hps
      have o1 := below1 wr (.cells #[.int .i64 (x : Int), .int .i64 y, .int .i64 (z : Int)] 46)
      have I5 := Lib.hid (HI4.out.keep o1)
      have B5 := Lib.hid (below_more HB4.out (Nat.le_refl _) o1)
      have c1 := I5.out.cell (show x < n by omega)
      have c2 := I5.out.cell (show z < n by omega)
      have X1 := Box3.new wr (x : Int) y (z : Int) 46
      obtain ⟨y1, y2, y3, -⟩ := id X1
      obtain ⟨bx1, bx2⟩ := HBD.out x
      obtain ⟨bz1, bz2⟩ := HBD.out z
      generalize lenF es n 0 x = dx at *
      generalize lenF es n 0 z = dz at *
      obtain ⟨df, hdf⟩ : ∃ df, dx + 1 - dz = df := ⟨_, rfl⟩
      rw [hdf] at hps
      have hdl : df.natAbs ≤ 1000 := by omega
      have HD := Lib.hid (fun W => divisor_any (p : Int) df W (by omega) (by omega))
      obtain ⟨p2, hp2⟩ : ∃ p2, Int.gcd (p : Int) df = p2 := ⟨_, rfl⟩
      rw [hp2] at hps HD
      have hp2l : p2 ≤ 1000 := by rw [← hp2]; exact gcd_le hp hdl
      have HPS := Lib.hid hps
      have HDF := Lib.hid hdf
      have j1 : (i : Int) < (es.length : Int) := by omega
      have j2 : (x : Int) < (n : Int) := by omega
      have j3 : (z : Int) < (n : Int) := by omega
      rw [← hdf] at HD
      clear hps hdf HT he q3 hp2 HP HI4 HB4 o1 X1
      go_wp2_with fail
      go_quiet ((go_at_call 80; refine Calls.quiet_of (HD.out _)))
      go_wp2_with fail
      go_roundg q
      case measure => omega
      case rel => exact ⟨i + 1, p2, by omega, by go_num, rfl, HPS, hp2l, Lib.hid (I5.out.keep (below_drewM (Below.refl _ _) _)), Lib.hid (below_drewM B5.out _)⟩
set_option maxRecDepth 100000 in
set_option maxHeartbeats 3200000 in
/-- Where a graph is not irreducible. -/
theorem measure_bad (La S : Int) (es : List E3) (v : Value) (w : World) (hrd : EdgesRd w v es) (hn : es.length ≤ 9223372036854775807) (hir : irrR La S es = false) :
    Calls Try.prog 58 #[grV La S v] w fun e w' => e = .returned (.tuple #[.int .i64 0, .slice none 0 0, .int .i64 (if chkG La S es = 0 then 8 else 1)]) ∧ Below w.heap.size w w' := by
  have b1 := below1 w (.cells #[.int .i64 La, .int .i64 S, v] 24)
  have G1 := Lib.hid (BoxG.new w La S v 24)
  have hi := irreducible_any La S es v (w.alloc (.cells #[.int .i64 La, .int .i64 S, v] 24)) (hrd.keep b1) hn
  rw [hir] at hi
  have HB := Lib.hid b1
  obtain ⟨a, c, rfl⟩ := hrd.form
  obtain ⟨x1, x2, x3⟩ := id G1.out
  by_cases h0 : chkG La S es = 0
  · rw [show errC La S es = 0 by unfold errC; rw [if_pos h0]] at hi
    rw [if_pos h0]
    have HI := Lib.hid hi
    clear hrd b1 hi hir h0
    go_enter Try.func58, Try.ntmps58
    go_wp2_with (go_at_call 20; (with_reducible refine HI.out.mono ?_); rintro e W2 ⟨rfl, b2⟩; (have B2 := Lib.hid (below_more HB.out (Nat.le_refl _) b2)); clear b2 x1 x2 x3)
    exact bodyPost_ret (v := .tuple #[.int .i64 0, .slice none 0 0, .int .i64 8]) (by simp [results, Try.results58, go_sem]) rfl ⟨rfl, B2.out⟩
  · rw [show errC La S es = 1 by unfold errC; rw [if_neg h0]] at hi
    rw [if_neg h0]
    have HI := Lib.hid hi
    clear hrd b1 hi hir h0
    go_enter Try.func58, Try.ntmps58
    go_wp2_with (go_at_call 20; (with_reducible refine HI.out.mono ?_); rintro e W2 ⟨rfl, b2⟩; (have B2 := Lib.hid (below_more HB.out (Nat.le_refl _) b2)); clear b2 x1 x2 x3)
    exact bodyPost_ret (v := .tuple #[.int .i64 0, .slice none 0 0, .int .i64 1]) (by simp [results, Try.results58, go_sem]) rfl ⟨rfl, B2.out⟩
/-- What Period returns. -/
def perR (La S : Int) (es : List E3) : Int := if irrR La S es = true then ((perN es S.toNat : Nat) : Int) else 0
def perE (La S : Int) (es : List E3) : Int := if irrR La S es = true then 0 else if chkG La S es = 0 then 8 else 1
theorem irrR_true {La S : Int} {es : List E3} (h : irrR La S es = true) : chkG La S es = 0 ∧ irrB es S.toNat = true := by
  unfold irrR at h
  split at h
  · exact ⟨‹_›, h⟩
  · cases h
set_option maxRecDepth 100000 in
set_option maxHeartbeats 3200000 in
theorem period_any (La S : Int) (es : List E3) (v : Value) (w : World) (hrd : EdgesRd w v es) (hn : es.length ≤ 9223372036854775807) :
    Calls Try.prog 25 #[grV La S v] w fun e w' => e = .returned (.tuple #[.int .i64 (perR La S es), .int .i64 (perE La S es)]) ∧ Below w.heap.size w w' := by
  have b1 := below1 w (.cells #[.int .i64 La, .int .i64 S, v] 24)
  have G1 := Lib.hid (BoxG.new w La S v 24)
  have HB := Lib.hid b1
  obtain ⟨x1, x2, x3⟩ := id G1.out
  cases hir : irrR La S es with
  | true =>
    obtain ⟨h0, h1⟩ := irrR_true hir
    have hs1 := (chkG_zero h0).s1
    obtain ⟨n, rfl⟩ : ∃ n : Nat, S = (n : Int) := ⟨S.toNat, by omega⟩
    have HM := Lib.hid (measure_good La n es v (w.alloc (.cells #[.int .i64 La, .int .i64 (n : Int), v] 24)) (hrd.keep b1) (chkG_zero h0) h1)
    have e1 : perR La (n : Int) es = ((perN es n : Nat) : Int) := by unfold perR; rw [if_pos hir]; rfl
    have e2 : perE La (n : Int) es = 0 := by unfold perE; rw [if_pos hir]
    rw [e1, e2]
    obtain ⟨a, c, rfl⟩ := hrd.form
    clear hrd b1 hir h0 h1 hs1 e1 e2
    go_enter Try.func25, Try.ntmps25
    go_wp2_with (go_at_call 58; (with_reducible refine HM.out.mono ?_); rintro e W2 ⟨g, rfl, i2, hg2, b2⟩; (have B2 := Lib.hid (below_more HB.out (Nat.le_refl _) b2)); clear b2 i2 hg2 x1 x2 x3)
    exact bodyPost_ret (v := .tuple #[.int .i64 ((perN es n : Nat) : Int), .int .i64 0]) (by simp [results, Try.results25, go_sem]) rfl ⟨rfl, B2.out⟩
  | false =>
    have HM := Lib.hid (measure_bad La S es v (w.alloc (.cells #[.int .i64 La, .int .i64 S, v] 24)) (hrd.keep b1) hn hir)
    have e1 : perR La S es = 0 := by unfold perR; rw [if_neg (by rw [hir]; decide)]
    have e2 : perE La S es = (if chkG La S es = 0 then 8 else 1) := by unfold perE; rw [if_neg (by rw [hir]; decide)]
    rw [e1, e2]
    generalize (if chkG La S es = 0 then (8 : Int) else 1) = z at *
    obtain ⟨a, c, rfl⟩ := hrd.form
    clear hrd b1 hir e1 e2
    go_enter Try.func25, Try.ntmps25
    go_wp2_with (go_at_call 58; (with_reducible refine HM.out.mono ?_); rintro e W2 ⟨rfl, b2⟩; (have B2 := Lib.hid (below_more HB.out (Nat.le_refl _) b2)); clear b2 x1 x2 x3)
    exact bodyPost_ret (v := .tuple #[.int .i64 0, .int .i64 z]) (by simp [results, Try.results25, go_sem]) rfl ⟨rfl, B2.out⟩
/-- What Classes returns. -/
def clsF (es : List E3) (n : Nat) (t : Nat) : Int := lenF es n 0 t % ((perN es n : Nat) : Int)
def clsR (La S : Int) (es : List E3) : List Int := if irrR La S es = true then (List.range S.toNat).map (clsF es S.toNat) else []
def IRdC (w : World) (l : List Int) (k : Int) (e : Ending) (w' : World) : Prop := ∃ u, e = .returned (.tuple #[u, .int .i64 k]) ∧ IntsRd w' u l ∧ Below w.heap.size w w'
set_option maxRecDepth 100000 in
set_option maxHeartbeats 3200000 in
theorem classes_any (La S : Int) (es : List E3) (v : Value) (w : World) (hrd : EdgesRd w v es) (hn : es.length ≤ 9223372036854775807) :
    Calls Try.prog 27 #[grV La S v] w (IRdC w (clsR La S es) (perE La S es)) := by
  have b1 := below1 w (.cells #[.int .i64 La, .int .i64 S, v] 24)
  have G1 := Lib.hid (BoxG.new w La S v 24)
  have HB := Lib.hid b1
  obtain ⟨x1, x2, x3⟩ := id G1.out
  cases hir : irrR La S es with
  | true =>
    obtain ⟨h0, h1⟩ := irrR_true hir
    have hvg := chkG_zero h0
    have hs1 := hvg.s1
    have hs2 := hvg.s2
    obtain ⟨n, rfl⟩ : ∃ n : Nat, S = (n : Int) := ⟨S.toNat, by omega⟩
    rw [Int.toNat_natCast] at h1
    obtain ⟨hne, hcon⟩ := (irr_iff hvg.ok).1 h1
    have HP1 := per_pos (d := lenF es n 0) hvg.ok hcon hne
    have HPB : perN es n ≤ 1000 := by
      unfold perN
      refine perF_le fun e he => ?_
      have q1 := lenF_ge hvg.ok 0 e.1.toNat
      have q2 := lenF_ge hvg.ok 0 e.2.2.toNat
      have q3 := lenF_le es n 0 e.1.toNat
      have q4 := lenF_le es n 0 e.2.2.toNat
      omega
    have HGE := Lib.hid (show ∀ t, t < n → 0 ≤ lenF es n 0 t from fun t ht => by
      obtain ⟨k, -, hk⟩ := lenF_pot hvg.ok hcon t ht
      omega)
    have HLE := Lib.hid (show ∀ t, lenF es n 0 t ≤ n from fun t => lenF_le es n 0 t)
    have HM := Lib.hid (measure_good La n es v (w.alloc (.cells #[.int .i64 La, .int .i64 (n : Int), v] 24)) (hrd.keep b1) hvg h1)
    have e1 : clsR La (n : Int) es = (List.range n).map (clsF es n) := by unfold clsR; rw [if_pos hir]; rfl
    have e2 : perE La (n : Int) es = 0 := by unfold perE; rw [if_pos hir]
    rw [e1, e2]
    have HCF := Lib.hid (show ∀ t, clsF es n t = lenF es n 0 t % ((perN es n : Nat) : Int) from fun t => rfl)
    have HP2 : 1 ≤ perN es n := HP1
    obtain ⟨P, hP⟩ : ∃ P, perN es n = P := ⟨_, rfl⟩
    rw [hP] at HM HCF HPB HP2
    obtain ⟨a, c, rfl⟩ := hrd.form
    clear hrd b1 hir h0 h1 hs1 e1 e2 hvg hne hcon HP1 hP
    go_enter Try.func27, Try.ntmps27
    go_wp2_with (go_at_call 58; (with_reducible refine HM.out.mono ?_); rintro e W2 ⟨g, rfl, i2, hg2, b2⟩; (have B2 := Lib.hid (below_more HB.out (Nat.le_refl _) b2)); (have I2 := Lib.hid (i2.congr (g := fun j => if j < 0 then clsF es n j else lenF es n 0 j) (fun j _ => by rw [if_neg (by omega)]))); (have HG2 := Lib.hid (show w.heap.size ≤ g from Nat.le_trans HB.out.size hg2)); clear b2 i2 hg2 x1 x2 x3)
    go_loopg [16] n (fun q s16 wx => ∃ k : Nat, k + q = n ∧ s16 = .int .i64 (k : Int) ∧ Hid (IRow wx g n (fun j => if j < k then clsF es n j else lenF es n 0 j)) ∧ Hid (Below w.heap.size w wx))
    case atStart => exact ⟨0, by omega, rfl, I2, B2⟩
    case round =>
      clear I2 B2
      obtain ⟨k, hkn, rfl, HI, HB2⟩ := hrel
      rcases gk with _ | q
      · obtain rfl : k = n := by omega
        have HR := Lib.hid (irow_rd (HI.out.congr (g := clsF es k) (fun j hj => by rw [if_pos hj])) k)
        clear HI
        go_wp2_with fail
        exact bodyPost_ret (v := .tuple #[.slice (some ⟨g, 0, none⟩) k k, .int .i64 0]) (by simp [results, Try.results27, go_sem]) rfl ⟨_, rfl, HR.out, HB2.out⟩
      · have hk : k < n := by omega
        have c1 := HI.out.cell hk
        rw [if_neg (Nat.lt_irrefl k)] at c1
        have f1 := HI.out.frozen k
        have q1 := HGE.out k hk
        have q2 := HLE.out k
        have q3 := HCF.out k
        obtain ⟨z, hz⟩ : ∃ z, lenF es n 0 k = z := ⟨_, rfl⟩
        obtain ⟨r, hr⟩ : ∃ r, clsF es n k = r := ⟨_, rfl⟩
        rw [hz] at c1 q1 q2 q3
        rw [hr] at q3
        have hrt : Int.tmod z (P : Int) = r := by rw [Int.tmod_eq_emod_of_nonneg q1]; exact q3.symm
        have hr0 : 0 ≤ r := by rw [q3]; exact Int.emod_nonneg _ (by omega)
        have hr1 : r < (P : Int) := by rw [q3]; exact Int.emod_lt_of_pos _ (by omega)
        have hPn : ¬ (P : Int) = 0 := by omega
        have hw : IntKind.i64.wrap r = r := by rw [IntKind.wrap_i64]; omega
        have I5 := Lib.hid ((HI.out.set k r).congr (g := fun j => if j < k + 1 then clsF es n j else lenF es n 0 j) (fun j _ => by
          by_cases hj : j = k
          · subst hj; rw [if_pos rfl, if_pos (by omega), hr]
          · rw [if_neg hj]
            by_cases hj2 : j < k
            · rw [if_pos hj2, if_pos (by omega)]
            · rw [if_neg hj2, if_neg (by omega)]))
        have B5 := Lib.hid (HB2.out.setCell (p := ⟨g, k, none⟩) HG2.out (.int .i64 r))
        have k1 : (k : Int) < (n : Int) := by omega
        clear HI HB2 q3 hz hr
        go_wp2_with fail
        go_roundg q
        case measure => omega
        case rel => exact ⟨k + 1, by omega, by go_num, I5, B5⟩
  | false =>
    have HM := Lib.hid (measure_bad La S es v (w.alloc (.cells #[.int .i64 La, .int .i64 S, v] 24)) (hrd.keep b1) hn hir)
    have e1 : clsR La S es = [] := by unfold clsR; rw [if_neg (by rw [hir]; decide)]
    have e2 : perE La S es = (if chkG La S es = 0 then 8 else 1) := by unfold perE; rw [if_neg (by rw [hir]; decide)]
    rw [e1, e2]
    generalize (if chkG La S es = 0 then (8 : Int) else 1) = z at *
    obtain ⟨a, c, rfl⟩ := hrd.form
    clear hrd b1 hir e1 e2
    go_enter Try.func27, Try.ntmps27
    go_wp2_with (go_at_call 58; (with_reducible refine HM.out.mono ?_); rintro e W2 ⟨rfl, b2⟩; (have B2 := Lib.hid (below_more HB.out (Nat.le_refl _) b2)); clear b2 x1 x2 x3)
    go_loopg [16] 0 (fun q s16 wx => s16 = .int .i64 0 ∧ wx = W2)
    case atStart => exact ⟨rfl, rfl⟩
    case round =>
      obtain ⟨rfl, rfl⟩ := hrel
      go_wp2_with fail
      exact bodyPost_ret (v := .tuple #[.slice none 0 0, .int .i64 z]) (by simp [results, Try.results27, go_sem]) rfl ⟨_, rfl, (ints_nil _ 0).rd, B2.out⟩
end Go.Proofs.Ytfkplnmhlpabaaa
