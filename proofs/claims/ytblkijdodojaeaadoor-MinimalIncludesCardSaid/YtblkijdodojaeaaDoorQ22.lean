/- What graph.Step returns. Conditions: the edges and the set can be read. What the function returns by which SubsetFoci follows labels. Conditions: a valid graph that can be read; labels of it. What natural.value returns at the one digit 7: the integer 7, which is grooveref01.Of(7). No condition but that the digit can be read. -/
import Derived.Test.YtblkijdodojaeaaDoorQ20
import Derived.Test.YtblkijdodojaeaaDoorQ21
import Derived.Test.YtblkijdodojaeaaDoorQ16
import Derived.Test.YtblkijdodojaeaaDoorQ19
import Derived.Test.YtblkijdodojaeaaDoorQ02
import Derived.RangeFuncBox

namespace Go.Proofs.YtblkijdodojaeaaDoor
open Go.RowKit
set_option linter.unusedSimpArgs false
set_option linter.unusedVariables false

set_option maxRecDepth 100000 in
set_option maxHeartbeats 6400000 in
theorem step_any (La S lab : Int) (es : List E3) (v vs : Value) (set : List Int) (w : World) (hrd : EdgesRd w v es) (hn : es.length ≤ 9223372036854775807) (hst : IntsRd w vs set) (hsl : set.length ≤ 9223372036854775807) :
    Calls Tryd.prog 33 #[grV La S v, vs, .int .i64 lab] w (IOut w (stepR La S es set lab)) := by
  have HV := Lib.hid (fun W h => isValid_any La S es v W h hn)
  have HC := Lib.hid (fun W h => checkSet_any La S v vs set W h hsl)
  have HL := Lib.hid (fun W => isLabel_any La S v lab W)
  have HRD := Lib.hid hrd
  have HST := Lib.hid hst
  have b0 := below_more (below1 w (.cells #[.int .i64 La, .int .i64 S, v] 24)) (Nat.le_refl _) (below1 _ (.cells #[.int .i64 lab] 3))
  have BO := Lib.hid b0
  have K0 := Lib.hid ((BoxG.new w La S v 24).keep (below1 _ (.cells #[.int .i64 lab] 3)))
  have L0 := Lib.hid (show ((w.alloc (.cells #[.int .i64 La, .int .i64 S, v] 24)).alloc (.cells #[.int .i64 lab] 3)).cell? ⟨w.heap.size + 1, 0, none⟩ = some (.int .i64 lab) by
    rw [← World.size_alloc w (.cells #[.int .i64 La, .int .i64 S, v] 24)]; simp [go_sem])
  by_cases h0 : chkG La S es = 0
  · have H0 := Lib.hid (show (chkG La S es == 0) = true by rw [h0]; rfl)
    by_cases h1 : chkS S none set = 0
    · have H1 := Lib.hid h1
      by_cases h2 : 0 ≤ lab ∧ lab < La
      · have hs1 := (chkG_zero h0).s1
        obtain ⟨n, rfl⟩ : ∃ n : Nat, S = (n : Int) := ⟨S.toNat, by omega⟩
        refine (step_good La n es v vs set lab w hrd (chkG_zero h0) hst (chkS_ok h1) h2).mono ?_
        rintro e w' ⟨u, rfl, i1, b1⟩
        rw [stepR_good h0 h1 h2]
        exact ⟨u, rfl, i1, b1⟩
      · have HE := Lib.hid (stepR_lab h0 h1 h2)
        have H2 := Lib.hid (show inB La lab = false from decide_eq_false h2)
        obtain ⟨a, c, rfl⟩ := hrd.form
        obtain ⟨a2, c2, rfl⟩ := hst.form
        clear h0 h1 h2 hrd hst b0
        refine (callsIn_wide (n := 8)).1 ?_
        refine callsIn_of_wp_marks Tryd.func33 rfl trivial ?_ rfl
        simp only [Tryd.ntmps33, List.size_toArray, List.length_cons, List.length_nil, Nat.reduceAdd, Nat.reduceSub, Array.replicate_succ, Array.replicate_zero, List.push_toArray, List.append_toArray, List.nil_append, List.cons_append]
        gi_wp2_with (first | (refine ⟨trivial, ?_⟩; gi_at_call 66; (with_reducible refine (callsIn_wide.2 (HV.out _ (HRD.out.keep BO.out))).mono ?_); rintro e W1 ⟨rfl, b1⟩; (rw [H0.out]); (have K1 := Lib.hid (K0.out.keep b1)); (have L1 := Lib.hid (cell_keep L0.out b1)); (have B1 := Lib.hid (below_more BO.out (Nat.le_refl _) b1)); (clear b1); (obtain ⟨g1, g2, g3⟩ := id K1.out)) | (refine ⟨trivial, ?_⟩; gi_at_call 67; (with_reducible refine (callsIn_wide.2 (HC.out _ (IntsRd.keep HST.out B1.out))).mono ?_); rintro e W2 ⟨rfl, b2⟩; (rw [H1.out]); (have K2 := Lib.hid (K1.out.keep b2)); (have L2 := Lib.hid (cell_keep L1.out b2)); (have B2 := Lib.hid (below_more B1.out (Nat.le_refl _) b2)); (clear b2 g1 g2 g3); (obtain ⟨g1, g2, g3⟩ := id K2.out); (have g4 := L2.out)) | (refine ⟨trivial, ?_⟩; gi_at_call 64; (with_reducible refine (callsIn_wide.2 (HL.out _)).mono ?_); rintro e W3 ⟨rfl, b3⟩; (rw [H2.out]); (have B3 := Lib.hid (below_more B2.out (Nat.le_refl _) b3)); (clear b3)))
        refine marks_leave (B := w.heap.size) (fun X => Below w.heap.size w X) ?_ ?_ [] W3 trivial B3.out
        · rintro X r x2 hr hX
          exact below_put9 x2 r hr _
        · rintro X x2
          exact ⟨.tuple #[.slice none 0 0, .int .i64 2], by simp [results, Tryd.results33, go_sem], _, by rw [HE.out], by rw [HE.out]; exact ints_nil _ _, x2⟩
    · have HE := Lib.hid (stepR_set (lab := lab) h0 h1)
      obtain ⟨a, c, rfl⟩ := hrd.form
      obtain ⟨a2, c2, rfl⟩ := hst.form
      obtain ⟨z, hz⟩ : ∃ z, chkS S none set = z := ⟨_, rfl⟩
      simp only [hz] at HC HE
      rw [hz] at h1
      have d1 : (z != 0) = true := by simpa using h1
      clear h0 h1 hrd hst b0 hz
      refine (callsIn_wide (n := 8)).1 ?_
      refine callsIn_of_wp_marks Tryd.func33 rfl trivial ?_ rfl
      simp only [Tryd.ntmps33, List.size_toArray, List.length_cons, List.length_nil, Nat.reduceAdd, Nat.reduceSub, Array.replicate_succ, Array.replicate_zero, List.push_toArray, List.append_toArray, List.nil_append, List.cons_append]
      gi_wp2_with (first | (refine ⟨trivial, ?_⟩; gi_at_call 66; (with_reducible refine (callsIn_wide.2 (HV.out _ (HRD.out.keep BO.out))).mono ?_); rintro e W1 ⟨rfl, b1⟩; (rw [H0.out]); (have K1 := Lib.hid (K0.out.keep b1)); (have L1 := Lib.hid (cell_keep L0.out b1)); (have B1 := Lib.hid (below_more BO.out (Nat.le_refl _) b1)); (clear b1); (obtain ⟨g1, g2, g3⟩ := id K1.out)) | (refine ⟨trivial, ?_⟩; gi_at_call 67; (with_reducible refine (callsIn_wide.2 (HC.out _ (IntsRd.keep HST.out B1.out))).mono ?_); rintro e W2 ⟨rfl, b2⟩; (have K2 := Lib.hid (K1.out.keep b2)); (have L2 := Lib.hid (cell_keep L1.out b2)); (have B2 := Lib.hid (below_more B1.out (Nat.le_refl _) b2)); (clear b2 g1 g2 g3); (obtain ⟨g1, g2, g3⟩ := id K2.out); (have g4 := L2.out)))
      refine marks_leave (B := w.heap.size) (fun X => Below w.heap.size w X) ?_ ?_ [] W2 trivial B2.out
      · rintro X r x2 hr hX
        exact below_put9 x2 r hr _
      · rintro X x2
        exact ⟨.tuple #[.slice none 0 0, .int .i64 z], by simp [results, Tryd.results33, go_sem], _, by rw [HE.out], by rw [HE.out]; exact ints_nil _ _, x2⟩
  · have HE := Lib.hid (stepR_bad (set := set) (lab := lab) h0)
    have H0 := Lib.hid (show (chkG La S es == 0) = false by simpa using h0)
    obtain ⟨a, c, rfl⟩ := hrd.form
    obtain ⟨a2, c2, rfl⟩ := hst.form
    clear h0 hrd hst b0
    refine (callsIn_wide (n := 8)).1 ?_
    refine callsIn_of_wp_marks Tryd.func33 rfl trivial ?_ rfl
    simp only [Tryd.ntmps33, List.size_toArray, List.length_cons, List.length_nil, Nat.reduceAdd, Nat.reduceSub, Array.replicate_succ, Array.replicate_zero, List.push_toArray, List.append_toArray, List.nil_append, List.cons_append]
    gi_wp2_with (refine ⟨trivial, ?_⟩; gi_at_call 66; (with_reducible refine (callsIn_wide.2 (HV.out _ (HRD.out.keep BO.out))).mono ?_); rintro e W1 ⟨rfl, b1⟩; (rw [H0.out]); (have K1 := Lib.hid (K0.out.keep b1)); (have L1 := Lib.hid (cell_keep L0.out b1)); (have B1 := Lib.hid (below_more BO.out (Nat.le_refl _) b1)); (clear b1); (obtain ⟨g1, g2, g3⟩ := id K1.out))
    refine marks_leave (B := w.heap.size) (fun X => Below w.heap.size w X) ?_ ?_ [] W1 trivial B1.out
    · rintro X r x2 hr hX
      exact below_put9 x2 r hr _
    · rintro X x2
      exact ⟨.tuple #[.slice none 0 0, .int .i64 1], by simp [results, Tryd.results33, go_sem], _, by rw [HE.out], by rw [HE.out]; exact ints_nil _ _, x2⟩
end Go.Proofs.YtblkijdodojaeaaDoor

namespace Go.Proofs.YtblkijdodojaeaaDoor
open Go.RowKit
set_option linter.unusedSimpArgs false
set_option linter.unusedVariables false

theorem memN_full {n : Nat} (h : n ≤ 64) : memN (fullN n) = (List.range n).map fun (i : Nat) => (i : Int) := by
  have h1 : ∀ k, k ≤ n → mems k (fullN n).testBit = (List.range k).map fun (i : Nat) => (i : Int) := fun k => by
    induction k with
    | zero => intro _; rfl
    | succ k ih =>
      intro hk
      rw [mems_succ, ih (by omega), fullN_bit, decide_eq_true (show k < n by omega), if_pos rfl, List.range_succ, List.map_append]
      rfl
  unfold memN
  rw [← h1 n (Nat.le_refl _)]
  obtain ⟨d, hd⟩ : ∃ d, 64 = n + d := ⟨64 - n, by omega⟩
  rw [hd]
  exact mems_skip d (fun i h2 h3 => by rw [fullN_bit, decide_eq_false (by omega)])
theorem labsI_len (w : List Nat) : (labsI w).length = w.length := by unfold labsI; rw [List.length_map]
theorem labsI_at {w : List Nat} {i l : Nat} (h : w[i]? = some l) : (labsI w)[i]? = some (l : Int) := by unfold labsI; rw [List.getElem?_map, h]; rfl
theorem runN'_small {es : List E3} {La n S : Nat} (hvg : VG (La : Int) (n : Int) es) (hS : S < 18446744073709551616) (hb : ∀ i, S.testBit i = true → i < n) : ∀ w : List Nat, runN' es S w < 18446744073709551616 ∧ ∀ i, (runN' es S w).testBit i = true → i < n := fun w => by
  refine snocI (P := fun w => runN' es S w < 18446744073709551616 ∧ ∀ i, (runN' es S w).testBit i = true → i < n) ⟨hS, hb⟩ (fun w l ih => ?_) w
  rw [runN'_snoc]
  exact ⟨stN_lt _ _ _, stN_small hvg.ok⟩
theorem buildR_okH {La S : Int} {es : List E3} (hz : chkG La S es = 0) (hS : S ≠ 0) (h : (buildR La S es).1 = 0) : ∃ (L n : Nat) (b : Bs), La = (L : Int) ∧ S = (n : Int) ∧ n ≠ 0 ∧ VG (L : Int) (n : Int) es ∧ buildR (L : Int) (n : Int) es = (0, b) ∧ builtN es L (fullN n) = some b ∧ ResN es L (fullN n) b := by
  have hvg := chkG_zero hz
  obtain ⟨L, rfl⟩ : ∃ L : Nat, La = (L : Int) := ⟨La.toNat, by have := hvg.l1; omega⟩
  obtain ⟨n, rfl⟩ : ∃ n : Nat, S = (n : Int) := ⟨S.toNat, by have := hvg.s1; omega⟩
  have hn0 : n ≠ 0 := by omega
  have hn64 : n ≤ 64 := by have := hvg.s2; omega
  have e : buildR (L : Int) (n : Int) es = (bErr (builtN es L (fullN n)), bSets (builtN es L (fullN n))) := by
    unfold buildR
    rw [if_pos hz, if_neg hS, Int.toNat_natCast, Int.toNat_natCast]
  rw [e] at h
  cases hb : builtN es L (fullN n) with
  | none => rw [hb] at h; cases h
  | some b =>
    refine ⟨L, n, b, rfl, rfl, hn0, hvg, ?_, hb, built_res (fullN_ne hn0) (fullN_lt hn64) hb⟩
    rw [e, hb]; rfl
set_option maxRecDepth 100000 in
set_option maxHeartbeats 6400000 in
theorem ends_any (La n : Nat) (es : List E3) (v va u : Value) (ws : List Nat) (S : Nat) (pa pg : Nat) (w : World) (hrd : EdgesRd w v es) (hvg : VG (La : Int) (n : Int) es) (hS : S < 18446744073709551616) (hb : ∀ i, S.testBit i = true → i < n)
    (hG : BoxG w pg (La : Int) (n : Int) v) (hA : w.cell? ⟨pa, 0, none⟩ = some va) (hva : IntsRd w va (memN S)) (hu : IntsRd w u (labsI ws)) (hw : ∀ l ∈ ws, l < La) (hl : ws.length ≤ 100000) :
    Calls Tryd.prog 32 #[u, .pointer (some ⟨pa, 0, none⟩), .pointer (some ⟨pg, 0, none⟩)] w fun e w' => ∃ a c, e = .returned (.slice a (memN (runN' es S ws)).length c) ∧ IntsRd w' (.slice a (memN (runN' es S ws)).length c) (memN (runN' es S ws)) ∧ Below w.heap.size w w' := by
  have HS : Hid (∀ W u T (l : Nat), EdgesRd W v es → IntsRd W u (memN T) → T < 18446744073709551616 ∧ (∀ i, T.testBit i = true → i < n) → l < La → Calls Tryd.prog 33 #[grV (La : Int) (n : Int) v, u, .int .i64 (l : Int)] W fun e W' => ∃ a c, e = .returned (.tuple #[.slice a (memN (stN es T l)).length c, .int .i64 0]) ∧ IntsRd W' (.slice a (memN (stN es T l)).length c) (memN (stN es T l)) ∧ Below W.heap.size W W') := Lib.hid (fun W u T l h1 h2 h3 h4 => by
    refine (step_any La n l es v u (memN T) W h1 (by have := hvg.len; omega) h2 (by have : (memN T).length ≤ 64 := mems_len _ _; omega)).mono ?_
    rw [stepR_memN hvg h3.1 h3.2 h4]
    rintro e W' ⟨u, he, h5, h6⟩
    obtain ⟨a, c, rfl⟩ := h5.slice
    exact ⟨a, c, he, h5.rd, h6⟩)
  have HSM := Lib.hid (fun w => runN'_small hvg hS hb w)
  have HRD := Lib.hid hrd
  have HG := Lib.hid hG
  have HU := Lib.hid hu
  have HW := Lib.hid hw
  have HVA := Lib.hid hva
  obtain ⟨a, c, rfl⟩ := hrd.form
  obtain ⟨a1, c1, rfl⟩ := hva.form
  obtain ⟨a2, c2, hu2⟩ := hu.form
  rw [labsI_len] at hu2
  subst hu2
  clear hrd hG hu hw hva hvg hS hb
  go_enter Tryd.func32, Tryd.ntmps32
  go_wp2_with fail
  have hlen : (memN (runN' es S [])).length = (memN S).length := rfl
  go_loopg [5, 13] ws.length (fun q s5 s13 wx => ∃ (i T : Nat) (a8 : Option Addr) (c8 : Nat), i + q = ws.length ∧ s13 = .int .i64 (i : Int) ∧ s5 = .slice a8 (memN T).length c8 ∧ Hid (runN' es S (ws.take i) = T) ∧ Hid (IntsRd wx (.slice a8 (memN T).length c8) (memN T)) ∧ Hid (Below w.heap.size w wx))
  case atStart => exact ⟨0, S, a1, c1, by omega, rfl, rfl, Lib.hid rfl, HVA, Lib.hid (Below.refl _ _)⟩
  case round =>
    clear HVA hlen
    obtain ⟨i, T, a8, c8, hin, rfl, rfl, HR, HI, HB⟩ := hrel
    obtain ⟨x1, x2, x3⟩ := HG.out.keep HB.out
    rcases gk with _ | q
    · obtain rfl : i = ws.length := by omega
      have j0 : ¬ ((ws.length : Int) < (ws.length : Int)) := by omega
      have HE := Lib.hid (show runN' es S ws = T by have := HR.out; rwa [List.take_length] at this)
      clear x1 x2 x3
      go_wp2_with fail
      go_ret
      rw [HE.out]
      exact ⟨_, _, rfl, HI.out, HB.out⟩
    · obtain ⟨l, hl1⟩ : ∃ l, ws[i]? = some l := ⟨_, List.getElem?_eq_getElem (by omega)⟩
      have hlL := HW.out l (List.mem_of_getElem? hl1)
      obtain ⟨b, off, cc, hv1, k1⟩ := (HU.out.keep HB.out).at (labsI_at hl1)
      rw [labsI_len] at hv1
      injection hv1 with e1 e2 e3
      subst e1
      have HST := Lib.hid (HS.out wr _ T l (HRD.out.keep HB.out) HI.out (by rw [← HR.out]; exact HSM.out _) hlL)
      have HR2 := Lib.hid (show runN' es S (ws.take (i + 1)) = stN es T l by rw [take_snoc hl1, runN'_snoc, HR.out])
      have j1 : (i : Int) < (ws.length : Int) := by omega
      clear hl1 e2 e3
      go_wp2_with (go_at_call 33; (with_reducible refine HST.out.mono ?_); rintro e W1 ⟨a9, c9, rfl, i9, b9⟩; (have HI9 := Lib.hid i9); (have HB9 := Lib.hid (HB.out.trans (b9.mono HB.out.size))); clear b9 i9 x1 x2 x3 k1)
      go_roundg q
      case measure => omega
      case rel => exact ⟨i + 1, stN es T l, a9, c9, by omega, by go_num, rfl, HR2, HI9, HB9⟩
end Go.Proofs.YtblkijdodojaeaaDoor

namespace Go.Proofs.YtblkijdodojaeaaDoor
open Go.RowKit Go.Shelf
attribute [local go_sem] Oper.semAt_some
set_option linter.unusedSimpArgs false
set_option linter.unusedVariables false

def KtD (n₀ B : Nat) (W W1 : World) : Prop := Below n₀ W W1 ∧ W1.heap[B]? = W.heap[B]?
theorem KtD.trans {n₀ B : Nat} {X Y Z : World} (h : KtD n₀ B X Y) (k : KtD n₀ B Y Z) : KtD n₀ B X Z := ⟨h.1.trans k.1, k.2.trans h.2⟩
theorem KtD.of_below {n₀ B : Nat} {W W1 : World} (h : Below W.heap.size W W1) (h0 : n₀ ≤ W.heap.size) (h1 : B < W.heap.size) : KtD n₀ B W W1 := ⟨h.mono h0, h.block _ h1⟩
theorem KtD.turn {n₀ B : Nat} {w : World} (hn : n₀ ≤ w.heap.size) (hB : B < w.heap.size) (W : World) (l : Nat) (o o' : Obj) (hl : w.heap.size ≤ l) (h : W.heap[l]? = some o) (h1 : o.isCells = false) (h2 : o.isWalk = false) : KtD n₀ B W (W.putObj l o') :=
  ⟨⟨rfl, rfl, rfl, by simp, fun k hk => World.putObj_heap_other (by omega)⟩, World.putObj_heap_other (by omega)⟩
theorem back_any (a : Option Addr) (k c : Nat) (w : World) :
    Calls Tryd.prog 92 #[.slice a k c] w fun e w' => e = .returned (.func (.func 115) #[] #[.pointer (some ⟨w.heap.size, 0, none⟩)]) ∧ w' = w.alloc (.cells #[.slice a k c] 87) := by
  go_enter Tryd.func92, Tryd.ntmps92
  go_wp2
  go_ret
  exact ⟨rfl, rfl⟩
set_option maxRecDepth 100000 in
set_option maxHeartbeats 3200000 in
theorem back1_in (n l B q o c d : Nat) (w0 : World) (J Jx : List Nat → World → Prop) (hn : 1 ≤ n) (W : World) (hJ : AbidesFrom W.heap.size J)
    (hY : ∀ (pre : List Nat) (x : Nat) (W1 : World), J pre W1 → pre.length < 1 → YieldAt Fence.wide (n - 1) Tryd.prog l #[.int .i64 0, u64v x] W1 fun e W' =>
      (e = .returned (.bool true) ∧ J (pre ++ [x]) W' ∧ KtD w0.heap.size B W1 W') ∨ (e = .returned (.bool false) ∧ Jx (pre ++ [x]) W'))
    (hcell : w0.cell? ⟨q, o, none⟩ = some (u64v d)) (hW0 : Below w0.heap.size w0 W) (hBn : B < W.heap.size) (hg : W.cell? ⟨B, 0, none⟩ = some (.slice (some ⟨q, o, none⟩) 1 c)) (h0 : J [] W) :
    CallsIn Fence.wide n Tryd.prog 115 #[.func (.yield l) #[] #[], .pointer (some ⟨B, 0, none⟩)] W fun e W' => (∃ u, e = .returned u) ∧
      ((∃ ys : List Nat, ys = [d] ∧ J ys W') ∨ (∃ pre, True ∧ Jx pre W')) := by
  have hmx : Tryd.prog.follows .mixedOrders = true := by kernel_rfl
  have HY := Lib.hid hY
  have HG := Lib.hid hg
  have HW0 := Lib.hid hW0
  have HC := Lib.hid hcell
  have g1 := hg
  clear hY hJ hg hW0 hcell
  refine callsIn_of_wp Tryd.func115 rfl trivial ?_ rfl
  simp only [Tryd.ntmps115, List.size_toArray, List.length_cons, List.length_nil, Nat.reduceAdd, Nat.reduceSub, Array.replicate_succ, Array.replicate_zero, List.push_toArray, List.append_toArray, List.nil_append, List.cons_append]
  gi_wp2
  gi_loopw [3] (fun s3 wr => (s3 = .int .i64 0 ∧ J [] wr ∧ wr = W) ∨ (s3 = .int .i64 (-1) ∧ J [d] wr)) (fun s3 _ => match s3 with | .int _ z => (z + 1).toNat | _ => 0)
  case atStart => exact .inl ⟨rfl, h0, rfl⟩
  case round =>
    clear h0
    rcases hrel with ⟨rfl, hJ0, rfl⟩ | ⟨rfl, hJ1⟩
    · have c1 := cell_keep HC.out HW0.out
      obtain ⟨fn, tmps, assign, body, hy, hR⟩ := HY.out [] d wr hJ0 (by simp)
      clear hJ0
      gi_wp2
      refine hR.mono ?_
      rintro e W3 (⟨rfl, hJ3, hk3⟩ | ⟨rfl, hJx3⟩)
      · gi_wp2
        go_roundw
        case rel => exact .inr ⟨rfl, hJ3⟩
        case measure => decide
      · gi_wp2
        refine bodyPost_ret (results_none rfl _ _ _) rfl ?_
        exact ⟨⟨_, rfl⟩, .inr ⟨_, trivial, hJx3⟩⟩
    · gi_wp2
      go_end0
      exact ⟨⟨_, rfl⟩, .inl ⟨[d], rfl, hJ1⟩⟩
theorem back_stops (n B q o c d : Nat) (w0 w : World) (hn : 1 ≤ n) (hcell : w0.cell? ⟨q, o, none⟩ = some (u64v d)) (hW0 : Below w0.heap.size w0 w) (hBn : B < w.heap.size) (hg : w.cell? ⟨B, 0, none⟩ = some (.slice (some ⟨q, o, none⟩) 1 c)) :
    SeqStopsK Fence.wide n Tryd.prog 115 #[.pointer (some ⟨B, 0, none⟩)] (fun x : Nat => #[.int .i64 0, u64v x]) (KtD w0.heap.size B) (fun ys => ys = [d]) (fun _ => True) 1 w :=
  fun l J Jx W hW hJ hJx hY h0 => by
    have hs2 := hW.size
    exact back1_in n l B q o c d w0 J Jx hn W hJ hY hcell (hW0.trans (hW.mono hW0.size)) (by omega) (cell_keep hg hW) h0
/-! ### The trimmed bytes -/
def byts (l : List Int) : List Value := l.map (Value.int .u8)
theorem byts_snoc (l : List Int) (x : Int) : byts (l ++ [x]) = byts l ++ [.int .u8 x] := by unfold byts; rw [List.map_append]; rfl
def BytRd (W : World) (a : Option Addr) (off n c : Nat) (l : List Int) : Prop := n = l.length ∧ ∃ g, a = some ⟨g, off, none⟩ ∧ ∀ i x, l[i]? = some x → W.cell? ⟨g, off + i, none⟩ = some (.int .u8 x)
def lead : List Int → Nat
  | [] => 0
  | x :: r => if x = 0 then lead r + 1 else 0
set_option maxRecDepth 100000 in
set_option maxHeartbeats 1600000 in
theorem trimByte_any (g : Nat) (c : Nat) (l : List Int) (w : World) (hl : l.length ≤ 1000) (hc : l.length ≤ c) (hcell : ∀ i x, l[i]? = some x → w.cell? ⟨g, i, none⟩ = some (.int .u8 x)) (k : Nat) (hk : k < l.length) (h0 : ∀ i x, i < k → l[i]? = some x → x = 0) (h1 : ∀ x, l[k]? = some x → x ≠ 0) :
    Calls Tryd.prog 116 #[.slice (some ⟨g, 0, none⟩) l.length c, .int .u8 0] w fun e w' => e = .returned (.slice (some ⟨g, k, none⟩) (l.length - k) (c - k)) ∧ w' = w := by
  have HC := Lib.hid hcell
  have H0 := Lib.hid h0
  have H1 := Lib.hid h1
  obtain ⟨n, hn⟩ : ∃ n, l.length = n := ⟨_, rfl⟩
  have HN := Lib.hid hn
  rw [hn] at hl hc hk ⊢
  clear hcell h0 h1 hn
  go_enter Tryd.func116, Tryd.ntmps116
  go_wp2_with fail
  go_loopg [0] k (fun q s0 wx => ∃ i : Nat, i + q = k ∧ s0 = .slice (some ⟨g, i, none⟩) (n - i) (c - i) ∧ wx = w)
  case atStart => exact ⟨0, by omega, by rfl, rfl⟩
  case round =>
    obtain ⟨i, hik, rfl, rfl⟩ := hrel
    obtain ⟨x, hx⟩ : ∃ x, l[i]? = some x := ⟨_, List.getElem?_eq_getElem (by have := HN.out; omega)⟩
    have cx := HC.out i x hx
    obtain ⟨m, hm⟩ : ∃ m, n - i = m + 1 := ⟨n - i - 1, by omega⟩
    obtain ⟨cc, hcc⟩ : ∃ cc, c - i = cc + 1 := ⟨c - i - 1, by omega⟩
    have d1 : decide ((0 : Int) < ((n - i : Nat) : Int)) = true := decide_eq_true (by omega)
    have d3 : (0 : Int) < ((n - i : Nat) : Int) := by omega
    rcases gk with _ | q
    · obtain rfl : i = k := by omega
      have hxn := H1.out x hx
      have d2 : (x == 0) = false := by rw [beq_eq_false_iff_ne]; exact hxn
      have d4 : (((n - i : Nat) : Int) == 0) = false := by rw [beq_eq_false_iff_ne]; omega
      have d5 : 0 < n - i := by omega
      clear hx hxn hm hcc
      go_wp2_with fail
      go_ret
      exact ⟨rfl, rfl⟩
    · obtain rfl := H0.out i x (by omega) hx
      have d5 : 0 < n - i := by omega
      have d6 : 1 ≤ n - i := by omega
      have d7 : (1 : Int) ≤ ((n - i : Nat) : Int) := by omega
      have d8 : n - i ≤ c - i := by omega
      clear hx hm hcc
      go_wp2_with fail
      go_roundg q
      case measure => omega
      case rel => exact ⟨i + 1, by omega, by simp; omega, rfl⟩
set_option maxRecDepth 100000 in
theorem trimLeft_any (g : Nat) (c : Nat) (l : List Int) (w : World) (hl : l.length ≤ 1000) (hc : l.length ≤ c) (hcell : ∀ i x, l[i]? = some x → w.cell? ⟨g, i, none⟩ = some (.int .u8 x)) (k : Nat) (hk : k < l.length) (h0 : ∀ i x, i < k → l[i]? = some x → x = 0) (h1 : ∀ x, l[k]? = some x → x ≠ 0) :
    Calls Tryd.prog 93 #[.slice (some ⟨g, 0, none⟩) l.length c, .string ⟨#[0]⟩] w fun e w' => e = .returned (.slice (some ⟨g, k, none⟩) (l.length - k) (c - k)) ∧ w' = w := by
  have HT := Lib.hid (trimByte_any g c l w hl hc hcell k hk h0 h1)
  obtain ⟨n, hn⟩ : ∃ n, l.length = n := ⟨_, rfl⟩
  rw [hn] at hl hc hk HT ⊢
  clear hcell h0 h1 hn
  have d1 : ((n : Int) == 0) = false := by rw [beq_eq_false_iff_ne]; omega
  go_enter Tryd.func93, Tryd.ntmps93
  go_wp2_with (go_at_call 116; (refine HT.out.mono ?_); rintro e W1 ⟨rfl, rfl⟩)
  go_ret
  exact ⟨rfl, rfl⟩
/-- The first j bytes of a digit. -/
def BL (d j : Nat) : List Int := (List.range j).map fun (i : Nat) => ((d : Int) / 2 ^ ((56 - 8 * (i : Int)).toNat)) % 256
theorem BL_succ (d j : Nat) : BL d (j + 1) = BL d j ++ [((d : Int) / 2 ^ ((56 - 8 * (j : Int)).toNat)) % 256] := by unfold BL; rw [List.range_succ, List.map_append]; rfl
theorem BL_len (d j : Nat) : (BL d j).length = j := by unfold BL; rw [List.length_map, List.length_range]
def BLs (pre : List Nat) : List Int := pre.flatMap fun d => BL d 8
theorem BLs_len : ∀ (pre : List Nat), (BLs pre).length = 8 * pre.length
  | [] => rfl
  | d :: r => by show (BL d 8 ++ BLs r).length = _; rw [List.length_append, BL_len, BLs_len r, List.length_cons]; omega
theorem BLs_snoc (pre : List Nat) (d : Nat) : BLs (pre ++ [d]) = BLs pre ++ BL d 8 := by unfold BLs; rw [List.flatMap_append]; simp
theorem BLs_one (x : Nat) : BLs ([] ++ [x]) = BL x 8 := by unfold BLs; simp
theorem BLs_seven : BLs [7] = [0, 0, 0, 0, 0, 0, 0, 7] := by decide
theorem Tryd.infoU8 : (Tryd.prog.info? 5).map (fun i => (i.zero, i.size, i.bytes)) = some (some (.int .u8 0), 1, 1) := by kernel_rfl
theorem wrap_u8v (z : Int) : IntKind.u8.wrap z = z % 256 := by simp [IntKind.wrap, IntKind.signed, IntKind.bits]
/-- The result's variable. -/
def RB (X : World) (p : Nat) : Prop := X.heap[p]? = some (.cells #[.bool false, .string ⟨#[]⟩] 45 (0, 0))
structure VI (w : World) (k : Nat) (l : List Int) (X : World) : Prop where
  row : ∃ u, Boxed X (w.heap.size + 1) 25 u ∧ X.ownsRow w.heap.size 5 1 u k (byts l)
  res : RB X w.heap.size
  bl : Below w.heap.size w X
  sz : w.heap.size + 3 ≤ X.heap.size
  bx : ∃ v, Boxed X (w.heap.size + 1 + 1) 87 v
theorem VI.own {w X Y : World} {k : Nat} {l : List Int} {row : Option Nat} (h : VI w k l X) (hg : X.grownBy Y row) (hr : ∀ r, row = some r → w.heap.size ≤ r ∧ ∃ o, X.heap[r]? = some o ∧ o.isCells = false) : VI w k l Y := by
  obtain ⟨u, h1, h2⟩ := h.row
  have hne : ∀ {p : Nat} {c : Array Value} {t : TypeId} {fr : Nat × Nat}, X.heap[p]? = some (.cells c t fr) → some p ≠ row := fun {p c t fr} hp e => by
    obtain ⟨_, o, h3, h4⟩ := hr p e.symm
    rw [hp] at h3
    injection h3 with h3
    subst h3
    cases h4
  refine ⟨⟨u, h1.kept hg (hne h1), h2.kept hg ?_⟩, (hg.block _ (Array.getElem?_eq_some_iff.1 h.res).1 (hne h.res)).trans h.res, h.bl.grown hg h.bl.size (fun r e => (hr r e).1), Nat.le_trans h.sz hg.size, (let ⟨vb, hb⟩ := h.bx; ⟨vb, hb.kept hg (hne hb)⟩)⟩
  cases hu : u.ownBlock with
  | none => exact .inl rfl
  | some g =>
    obtain ⟨c, fr, h5⟩ := row_cells h2 hu
    exact .inr (hne h5)
theorem app_keep {wr W4 : World} {A e s k p : Nat} {v : Value} {xs : List Value} {o : Obj} {c : Array Value} {t : TypeId} {fr : Nat × Nat} (hp : wr.heap[p]? = some (.cells c t fr)) (hr : wr.ownsRow A e s v k xs) (hte : t ≠ e) (hg : (wr.alloc o).grownBy W4 v.ownBlock) : W4.heap[p]? = wr.heap[p]? := by
  have hl : p < wr.heap.size := (Array.getElem?_eq_some_iff.1 hp).1
  refine (hg.block p (by rw [World.size_alloc]; omega) (fun h => ?_)).trans (Below.heap_alloc _ _ _ hl)
  obtain ⟨c2, fr2, h7⟩ := row_cells hr h.symm
  rw [hp] at h7
  injection h7 with h7
  injection h7 with _ h7 _
  exact hte h7
def RS7 (p : Nat) (u : Value) (W : World) : Prop := W.cell? ⟨p, 0, none⟩ = some u
theorem conv_seven (W : World) (g cap : Nat) (h : W.cell? ⟨g, 7, none⟩ = some (.int .u8 7)) : (convert 25 9 (.slice (some ⟨g, 7, none⟩) 1 cap)).run Tryd.prog W = .ok (.string ⟨#[7]⟩) W := by
  have h2 := run_convert_bytes_back (P := Tryd.prog) W 25 9 5 ⟨g, 7, none⟩ cap [7] Tryd.underlying25 Tryd.underlying5 Tryd.underlying9 (fun j hj => by
    have : j < 1 := hj
    obtain rfl : j = 0 := by omega
    exact h)
  exact h2
set_option maxRecDepth 100000 in
set_option maxHeartbeats 6400000 in
theorem value7_any (q o c : Nat) (w : World) (hcell : w.cell? ⟨q, o, none⟩ = some (u64v 7)) :
    Calls Tryd.prog 58 #[.slice (some ⟨q, o, none⟩) 1 c] w fun e w' => e = .returned (.agg #[.bool false, .string ⟨#[7]⟩]) ∧ Below w.heap.size w w' := by
  obtain ⟨i0, hi, hz0, hz1, hz2⟩ := info_parts Tryd.infoU8
  have hmx : Tryd.prog.follows .mixedOrders = true := by kernel_rfl
  have HBK := Lib.hid (fun W => back_any (some ⟨q, o, none⟩) 1 c W)
  have HC := Lib.hid hcell
  clear hcell
  obtain ⟨d, hd⟩ : ∃ d, d = 7 := ⟨_, rfl⟩
  rw [← hd] at HC
  refine (callsIn_wide (n := 8)).1 ?_
  refine callsIn_of_wp_marks Tryd.func58 rfl trivial ?_ rfl
  simp only [Tryd.ntmps58, List.size_toArray, List.length_cons, List.length_nil, Nat.reduceAdd, Nat.reduceSub, Array.replicate_succ, Array.replicate_zero, List.push_toArray, List.append_toArray, List.nil_append, List.cons_append]
  gi_wp2_with (refine ⟨trivial, ?_⟩; gi_at_call 92; (with_reducible refine (callsIn_wide.2 (HBK.out _)).mono ?_); rintro e W5 ⟨rfl, hW5⟩)
  subst hW5
  obtain ⟨W5, hW5⟩ : ∃ W5, (((w.alloc (.cells #[.bool false, .string ⟨#[]⟩] 45)).alloc (.cells #[.slice none 0 0] 25)).alloc (.cells #[.slice (some ⟨q, o, none⟩) 1 c] 87)) = W5 := ⟨_, rfl⟩
  have z5 : W5.heap.size = w.heap.size + 3 := by rw [← hW5, World.size_alloc, World.size_alloc, World.size_alloc]
  have V5 := Lib.hid (show VI w 0 [] W5 by
    rw [← hW5]
    have y1 := Boxed.new (w.alloc (.cells #[.bool false, .string ⟨#[]⟩] 45)) 25 (.slice none 0 0)
    rw [World.size_alloc] at y1
    refine ⟨⟨_, y1.alloc _, World.ownsRow_nil _ _ _ _⟩, ?_, below_more (below_more (below1 w _) (Nat.le_refl _) (below1 _ _)) (Nat.le_refl _) (below1 _ _), by rw [World.size_alloc, World.size_alloc, World.size_alloc]; omega, _, by have y2 := Boxed.new ((w.alloc (.cells #[.bool false, .string ⟨#[]⟩] 45)).alloc (.cells #[.slice none 0 0] 25)) 87 (.slice (some ⟨q, o, none⟩) 1 c); rw [World.size_alloc, World.size_alloc] at y2; exact y2⟩
    unfold RB
    rw [Below.heap_alloc _ _ _ (by rw [World.size_alloc, World.size_alloc]; omega), Below.heap_alloc _ _ _ (by rw [World.size_alloc]; omega)]
    exact heap_alloc_new w _)
  have C5 := Lib.hid (show W5.cell? ⟨w.heap.size + 1 + 1, 0, none⟩ = some (.slice (some ⟨q, o, none⟩) 1 c) by
    rw [← hW5]
    have y1 := (Boxed.new ((w.alloc (.cells #[.bool false, .string ⟨#[]⟩] 45)).alloc (.cells #[.slice none 0 0] 25)) 87 (.slice (some ⟨q, o, none⟩) 1 c)).cell
    rw [World.size_alloc, World.size_alloc] at y1
    exact y1)
  rw [hW5]
  clear hW5
  refine wpIn_rangeFunc_ownH rfl (by omega) (gf := 115) (lb := #[.pointer (some ⟨w.heap.size + 1 + 1, 0, none⟩)]) rfl trivial (enters_of Tryd.func115 (by kernel_rfl) rfl)
    (back_stops _ (w.heap.size + 1 + 1) q o c d w W5 (by omega) HC.out V5.out.bl (by omega) C5.out) (fun h h' => h.trans h') (KtD.turn (by omega) (by omega)) (Below.refl _ _) (fun _ => rfl)
    (fun pre X => VI w (BLs pre).length (BLs pre) X)
    (fun _ _ _ => False)
    (fun pre X Y row hs hg hr => hs.own hg (fun r e => ⟨by have := (hr r e).1; omega, (hr r e).2⟩))
    (fun _ _ _ _ _ hs _ _ => hs)
    V5.out
    (fun x a' X => a' = { tmps := #[.slice (some ⟨q, o, none⟩) 1 c, undef, .pointer (some ⟨w.heap.size, 0, none⟩), .pointer (some ⟨w.heap.size + 1, 0, none⟩), undef, u64v x, undef, .slice (some ⟨q, o, none⟩) 1 c, .func (.func 115) #[] #[.pointer (some ⟨w.heap.size + 1 + 1, 0, none⟩)], .int .i64 0, u64v x, undef, undef, undef, undef, undef, undef, undef, undef, undef, undef, undef, undef, undef, undef, undef], defers := [] })
    (fun x a' _ X Y row hs hg hr => hs)
    ?assign ?body ?done ?stop
  case assign =>
    rintro l pre x X K hX hK'
    have HKK := Lib.hid hK'
    have HX := Lib.hid hX
    have hsz := hX.sz
    clear hK' hX
    gi_wp2
    exact HKK.out _ _ ((KeepsOthers.refl _).from _) ⟨Below.refl _ _, rfl⟩ HX.out rfl
  case body =>
    rintro l pre x a' X hl ⟨r, hr⟩ hX rfl hlt
    have HX := Lib.hid hX
    have hpre : pre = [] := List.length_eq_zero_iff.1 (by omega)
    subst hpre
    have hsz := HX.out.sz
    have V0 := Lib.hid (show VI w 0 (BL x 0) X from HX.out)
    clear hX hr HX V5 C5
    gi_wp2
    obtain ⟨Xo, hXo⟩ : ∃ Xo, Xo = X := ⟨_, rfl⟩
    have K0 := Lib.hid (show KeepsOthers Xo X by rw [hXo]; exact KeepsOthers.refl _)
    have T0 := Lib.hid (show KtD w.heap.size (w.heap.size + 1 + 1) Xo X by rw [hXo]; exact ⟨Below.refl _ _, rfl⟩)
    have hso : w.heap.size + 3 ≤ Xo.heap.size := by rw [hXo]; exact hsz
    rw [← hXo]
    clear hsz
    rw [hXo]
    clear hl
    gi_loopw [6] (fun s6 wr => ∃ j : Nat, s6 = .int .i64 (56 - 8 * (j : Int)) ∧ j ≤ 8 ∧ Hid (VI w j (BL x j) wr) ∧ Hid (KeepsOthers Xo wr) ∧ Hid (KtD w.heap.size (w.heap.size + 1 + 1) Xo wr)) (fun s6 _ => match s6 with | .int _ z => (z + 8).toNat | _ => 0)
    case atStart => exact ⟨0, rfl, by omega, V0, K0, T0⟩
    case round =>
      clear V0 K0 T0
      obtain ⟨j, rfl, hj, V, K, T⟩ := hrel
      rcases Nat.lt_or_ge j 8 with hj8 | hj8
      · obtain ⟨sh, hsh⟩ : ∃ sh : Nat, (56 - 8 * (j : Int)) = (sh : Int) := ⟨(56 - 8 * (j : Int)).toNat, by omega⟩
        rw [hsh]
        have hsb : sh ≤ 56 := by omega
        have d1 : decide ((0 : Int) ≤ (sh : Int)) = true := decide_eq_true (by omega)
        have d0 : (0 : Int) ≤ (sh : Int) := by omega
        obtain ⟨u, hu1, hu2⟩ := V.out.row
        obtain ⟨a9, c9, rfl⟩ := own_slice hu2
        have HSH := Lib.hid hsh
        have hsz := V.out.sz
        have HU := Lib.hid hu1
        have hR0 : RS7 (w.heap.size + 1) (.slice a9 j c9) wr.drew := hu1.cell
        have hRA : ∀ ob, RS7 (w.heap.size + 1) (.slice a9 j c9) (wr.alloc ob).drew := fun ob => cell_keep hu1.cell (below1 wr ob).drew
        clear hu1 hsh
        gi_wp2
        refine regionT_in_round (T := T2 7 7 (RS7 (w.heap.size + 1) (.slice a9 j c9)) (RS7 (w.heap.size + 1) (.slice a9 j c9))) (by kernel_rfl) (by kernel_rfl) (by rintro ⟨_, _, h⟩; exact h) ?_
        have hR := hR0
        refine take1 (i := 0) (v := ?_) rfl (by kernel_rfl) (by kernel_rfl) (by kernel_rfl) (by kernel_rfl) (by kernel_rfl) (by decide) (by decide) (fun _ _ _ h => h) (Or.inl ⟨by rfl, ?_⟩) hR hR ?_
        rotate_left
        · intro w hSw
          (try unfold RS7 at hSw)
          go_simp
          all_goals with_reducible rfl
        (try simp only [Act.put, List.setIfInBounds_toArray, List.set_cons_zero, List.set_cons_succ])
        refine take1 (i := 1) (v := ?_) rfl (by kernel_rfl) (by kernel_rfl) (by kernel_rfl) (by kernel_rfl) (by kernel_rfl) (by decide) (by decide) (fun _ _ _ h => h) (Or.inl ⟨by rfl, ?_⟩) hR hR ?_
        rotate_left
        · intro w hSw
          (try unfold RS7 at hSw)
          go_simp
          all_goals with_reducible rfl
        (try simp only [Act.put, List.setIfInBounds_toArray, List.set_cons_zero, List.set_cons_succ])
        refine take1 (i := 2) (v := ?_) rfl (by kernel_rfl) (by kernel_rfl) (by kernel_rfl) (by kernel_rfl) (by kernel_rfl) (by decide) (by decide) (fun _ _ _ h => h) (Or.inl ⟨by rfl, ?_⟩) hR hR ?_
        rotate_left
        · intro w hSw
          (try unfold RS7 at hSw)
          go_simp
          all_goals with_reducible rfl
        (try simp only [Act.put, List.setIfInBounds_toArray, List.set_cons_zero, List.set_cons_succ])
        refine take1 (i := 3) (v := ?_) rfl (by kernel_rfl) (by kernel_rfl) (by kernel_rfl) (by kernel_rfl) (by kernel_rfl) (by decide) (by decide) (fun _ _ _ h => h) (Or.inl ⟨by rfl, ?_⟩) hR hR ?_
        rotate_left
        · intro w hSw
          (try unfold RS7 at hSw)
          go_simp
          all_goals with_reducible rfl
        (try simp only [Act.put, List.setIfInBounds_toArray, List.set_cons_zero, List.set_cons_succ])
        refine take1 (i := 4) (v := ?_) rfl (by kernel_rfl) (by kernel_rfl) (by kernel_rfl) (by kernel_rfl) (by kernel_rfl) (by decide) (by decide) (fun _ _ _ h => h) (Or.inl ⟨by rfl, ?_⟩) hR hR ?_
        rotate_left
        · intro w hSw
          (try unfold RS7 at hSw)
          go_simp
          all_goals with_reducible rfl
        (try simp only [Act.put, List.setIfInBounds_toArray, List.set_cons_zero, List.set_cons_succ])
        refine stepT (i := 5) (by kernel_rfl) rfl (fun K hK => ?_)
        go_simp
        refine hK.out _ _ ⟨fun _ => (hRA (.cells #[.int .u8 (IntKind.u8.wrap ((x : Int) / 2 ^ sh))] 5)), fun _ => (hRA (.cells #[.int .u8 (IntKind.u8.wrap ((x : Int) / 2 ^ sh))] 5))⟩ ?_
        clear hK K hR
        have hR := (hRA (.cells #[.int .u8 (IntKind.u8.wrap ((x : Int) / 2 ^ sh))] 5))
        (try simp only [Act.put, List.setIfInBounds_toArray, List.set_cons_zero, List.set_cons_succ])
        refine stepT (i := 6) (by kernel_rfl) rfl (fun K hK => ?_)
        refine step_append_lies _ (by rfl) (.tmp 15) (.tmp 20) 25 (by rfl) w.heap.size 5 i0 (.int .u8 0) 1 1 Tryd.underlying25 hi hz0 hz1 hz2 rfl (by decide) (.slice a9 j c9) j (byts (BL x j)) (by rfl) (hu2.alloc _) ⟨wr.heap.size, 0, none⟩ 1 1 [.int .u8 (IntKind.u8.wrap ((x : Int) / 2 ^ sh))] (by rfl) (by rfl) (cell_one_new _ _ _) (by intro u hu; simp at hu; subst hu; rfl) (by decide) (by unfold maxLen; omega) (by omega) (by show w.heap.size ≤ (wr.alloc _).heap.size; rw [World.size_alloc]; omega) _ rfl ?_
        intro g9 d9 W4 r1 r2 r3 r4
        have r2' : (wr.alloc (.cells #[.int .u8 (IntKind.u8.wrap ((x : Int) / 2 ^ sh))] 5)).grownBy W4 (Value.slice a9 j c9).ownBlock := ⟨r2.os, r2.tape, r2.output, r2.size, r2.block⟩
        obtain ⟨k1, k2, k3, k4, k5⟩ := Boxed.appended (n₀ := w.heap.size) (B := w.heap.size + 1) (t := 25) HU.out (by decide) hu2 (by omega) (by omega) r1 r2'
        have f4 := k1.frozen
        have hR4 : RS7 (w.heap.size + 1) (.slice a9 j c9) W4 := k1.cell
        have c4 := k1.cell
        refine hK.out _ _ ⟨fun _ => hR4, fun _ => hR4⟩ ?_
        clear hK K hR
        have hR := hR4
        (try simp only [Act.put, List.setIfInBounds_toArray, List.set_cons_zero, List.set_cons_succ])
        refine stepT (i := 7) (by kernel_rfl) rfl (fun K hK => ?_)
        go_simp
        refine hK.out _ _ ⟨fun h => absurd h (by decide), fun h => absurd h (by decide)⟩ ?_
        clear hK K
        (try simp only [Act.put, List.setIfInBounds_toArray, List.set_cons_zero, List.set_cons_succ])
        refine doneT (by kernel_rfl) ?_ _
        gi_wp2
        go_roundw
        case rel =>
          have hk1 := app_keep V.out.res hu2 (by decide) r2'
          obtain ⟨vb, hvb⟩ := V.out.bx
          have hk2 := app_keep hvb hu2 (by decide) r2'
          have hk3 := (Below.heap_setCell W4 ⟨w.heap.size + 1, 0, none⟩ (.slice (some ⟨g9, 0, none⟩) (j + 1) d9) w.heap.size (by show w.heap.size ≠ w.heap.size + 1; omega)).trans hk1
          have hk4 := (Below.heap_setCell W4 ⟨w.heap.size + 1, 0, none⟩ (.slice (some ⟨g9, 0, none⟩) (j + 1) d9) (w.heap.size + 1 + 1) (by show w.heap.size + 1 + 1 ≠ w.heap.size + 1; omega)).trans hk2
          refine ⟨j + 1, by rw [show (56 : Int) - 8 * ((j + 1 : Nat) : Int) = (sh : Int) - 8 by have := HSH.out; omega], by omega, Lib.hid ⟨⟨_, k2, ?_⟩, hk3.trans V.out.res, V.out.bl.trans k5, by have := k5.size; omega, vb, hk4.trans hvb⟩, Lib.hid (K.out.trans k4), Lib.hid (T.out.trans ⟨k5, hk4⟩)⟩
          rw [BL_succ, byts_snoc, show (56 - 8 * (j : Int)).toNat = sh by have := HSH.out; omega, ← wrap_u8v]
          exact k3
        case measure => simp; omega
      · obtain rfl : j = 8 := by omega
        have HB1 := Lib.hid (show VI w (BLs ([] ++ [x])).length (BLs ([] ++ [x])) wr by rw [BLs_one, BL_len]; exact V.out)
        gi_wp2
        exact ⟨by rw [← hXo]; exact K.out.from _, by rw [← hXo]; exact T.out, HB1.out⟩
  case done =>
    rintro D xs X hD rfl hX hDX
    rw [hd, BLs_seven] at hX
    obtain ⟨u, hu1, hu2⟩ := hX.row
    obtain ⟨g, c9, rfl, hcc⟩ : ∃ g c9, u = .slice (some ⟨g, 0, none⟩) 8 c9 ∧ 8 ≤ c9 := by
      rcases hu2.2 with ⟨_, h⟩ | ⟨g, cap, cur, h1, _, _, h4, _⟩
      · cases h
      · exact ⟨g, cap, h1, h4⟩
    have HCE : ∀ i x, ([0, 0, 0, 0, 0, 0, 0, 7] : List Int)[i]? = some x → X.cell? ⟨g, i, none⟩ = some (.int .u8 x) := fun i x hx => by
      have hi : i < 8 := (List.getElem?_eq_some_iff.1 hx).1
      rw [World.ownsRow.cellAt hu2 i (by simpa using hi)]
      unfold byts
      rw [List.getElem?_map, hx]; rfl
    have HTL := Lib.hid (trimLeft_any g c9 [0, 0, 0, 0, 0, 0, 0, 7] X (by decide) (by simpa using hcc) HCE 7 (by decide) (fun i x hi hx => by
      have hi2 : i = 0 ∨ i = 1 ∨ i = 2 ∨ i = 3 ∨ i = 4 ∨ i = 5 ∨ i = 6 := by omega
      rcases hi2 with rfl | rfl | rfl | rfl | rfl | rfl | rfl <;> (simp at hx; omega)) (fun x hx => by simp at hx; omega))
    have hcv := conv_seven X g (c9 - 7) (HCE 7 7 rfl)
    have x3 := hu1.cell
    have r1 : X.cell? ⟨w.heap.size, 0, none⟩ = some (.bool false) := by simp [World.cell?, show X.heap[w.heap.size]? = _ from hX.res]
    have r2 : X.cell? ⟨w.heap.size, 1, none⟩ = some (.string ⟨#[]⟩) := by simp [World.cell?, show X.heap[w.heap.size]? = _ from hX.res]
    have r3 : X.frozen? ⟨w.heap.size, 0, none⟩ = false := by simp [World.frozen?, show X.heap[w.heap.size]? = _ from hX.res]
    have r4 : X.frozen? ⟨w.heap.size, 1, none⟩ = false := by simp [World.frozen?, show X.heap[w.heap.size]? = _ from hX.res]
    have HX := Lib.hid hX
    have IX := Lib.hid hDX
    clear hX hDX HCE hu1 hu2 hcc
    gi_wp2_with (refine ⟨trivial, ?_⟩; gi_at_call 93; (refine (callsIn_wide.2 HTL.out).mono ?_); rintro e W6 ⟨rfl, hW6⟩; (subst hW6))
    have IX2 := ((KeepsOthers.setCell W6 ⟨w.heap.size, 0, none⟩ (.bool false)).trans (KeepsOthers.setCell _ ⟨w.heap.size, 1, none⟩ (.string ⟨#[7]⟩))).same D _ IX.out rfl
    refine ⟨by simp, .inl ⟨_, _, rfl, run_takeDeferred IX2, ?_⟩⟩
    have e1 : ∀ (k : Nat) (y : Value), (((W6.setCell ⟨w.heap.size, 0, none⟩ (.bool false)).setCell ⟨w.heap.size, 1, none⟩ (.string ⟨#[7]⟩)).cell? ⟨w.heap.size, k, none⟩ = some y) → (((W6.setCell ⟨w.heap.size, 0, none⟩ (.bool false)).setCell ⟨w.heap.size, 1, none⟩ (.string ⟨#[7]⟩)).putObj D (.deferred none)).cell? ⟨w.heap.size, k, none⟩ = some y := fun k y h => by
      have hne : w.heap.size ≠ D := fun e => by
        have h5 := HX.out.res
        unfold RB at h5
        rw [e, IX.out] at h5
        simp at h5
      rw [World.cell?_of_block (w := (W6.setCell ⟨w.heap.size, 0, none⟩ (.bool false)).setCell ⟨w.heap.size, 1, none⟩ (.string ⟨#[7]⟩)) (a := ⟨w.heap.size, k, none⟩) (World.putObj_heap_other hne)]
      exact h
    have q1 := e1 0 (.bool false) (by simp [go_sem, r1, r2])
    have q2 := e1 1 (.string ⟨#[7]⟩) (by simp [go_sem, r1, r2])
    refine ⟨.agg #[.bool false, .string ⟨#[7]⟩], by simp [results, Tryd.results58, go_sem, q1, q2], rfl, ?_⟩
    have hD2 : w.heap.size ≤ D := by omega
    exact below_put9 ((HX.out.bl.setCell (p := ⟨w.heap.size, 0, none⟩) (Nat.le_refl _) _).setCell (p := ⟨w.heap.size, 1, none⟩) (Nat.le_refl _) _) D hD2 _
  case stop =>
    rintro D cc pre X _ _ h _
    exact h.elim

theorem conv_seven1 (W : World) (g : Nat) (h : W.cell? ⟨g, 0, none⟩ = some (.int .u8 7)) : (convert 25 9 (.slice (some ⟨g, 0, none⟩) 1 1)).run Tryd.prog W = .ok (.string ⟨#[7]⟩) W := by
  have h2 := run_convert_bytes_back (P := Tryd.prog) W 25 9 5 ⟨g, 0, none⟩ 1 [7] Tryd.underlying25 Tryd.underlying5 Tryd.underlying9 (fun j hj => by
    have : j < 1 := hj
    obtain rfl : j = 0 := by omega
    exact h)
  exact h2
set_option maxRecDepth 100000 in
theorem mag7_any (w : World) : Calls Tryd.prog 77 #[.int .i64 7] w fun e w' => e = .returned (.string ⟨#[7]⟩) ∧ Below w.heap.size w w' := by
  have hcv := conv_seven1 (w.alloc (.cells #[.int .u8 7] 5)) w.heap.size (by simp [go_sem])
  go_enter Tryd.func77, Tryd.ntmps77
  go_wp2_with fail
  go_ret
  exact ⟨rfl, below1 w _⟩
set_option maxRecDepth 100000 in
theorem of7_any (w : World) : Calls Tryd.prog 46 #[.int .i64 7] w fun e w' => e = .returned (.agg #[.bool false, .string ⟨#[7]⟩]) ∧ Below w.heap.size w w' := by
  have HM := Lib.hid (mag7_any (w.alloc (.cells #[.bool false, .string ⟨#[]⟩] 45)))
  have hr := heap_alloc_new w (.cells #[.bool false, .string ⟨#[]⟩] 45)
  have HR := Lib.hid hr
  clear hr
  go_enter Tryd.func46, Tryd.ntmps46
  go_wp2_with (go_at_call 77; (with_reducible refine HM.out.mono ?_); rintro e W6 ⟨rfl, b6⟩; (have h6 := (b6.block w.heap.size (by rw [World.size_alloc]; omega)).trans HR.out); (have r1 : W6.cell? ⟨w.heap.size, 0, none⟩ = some (.bool false) := by simp [World.cell?, h6]); (have r2 : W6.cell? ⟨w.heap.size, 1, none⟩ = some (.string ⟨#[]⟩) := by simp [World.cell?, h6]); (have r3 : W6.frozen? ⟨w.heap.size, 0, none⟩ = false := by simp [World.frozen?, h6]); (have r4 : W6.frozen? ⟨w.heap.size, 1, none⟩ = false := by simp [World.frozen?, h6]); (have HB6 := Lib.hid (below_more (below1 w (.cells #[.bool false, .string ⟨#[]⟩] 45)) (Nat.le_refl _) b6)); (clear b6 h6))
  refine bodyPost_ret (v := .agg #[.bool false, .string ⟨#[7]⟩]) (by simp [results, Tryd.results46, go_sem, r1, r2]) rfl ?_
  exact ⟨rfl, (HB6.out.setCell (p := ⟨w.heap.size, 0, none⟩) (Nat.le_refl _) _).setCell (p := ⟨w.heap.size, 1, none⟩) (Nat.le_refl _) _⟩
end Go.Proofs.YtblkijdodojaeaaDoor
