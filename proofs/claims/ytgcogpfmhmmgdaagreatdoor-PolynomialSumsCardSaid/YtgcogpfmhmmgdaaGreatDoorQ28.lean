/- What polynomial.Divide returns. Condition: at most 10^5 coefficients, of at most 1000 digits to the base 2^32. What polynomial.Derivative returns. Condition: at most 10^5 coefficients, of at most 10^6 digits to the base 2^32. A region that draws its order, by a statement that every operation keeps, whatever has come up before it: one walk for each operation, not one for each order. No condition. -/
import Derived.Test.YtgcogpfmhmmgdaaGreatDoorQ27
import Derived.Test.YtgcogpfmhmmgdaaGreatDoorQ24
import Derived.Test.YtgcogpfmhmmgdaaGreatDoorQ21
import Derived.Test.YtgcogpfmhmmgdaaGreatDoorQ16

namespace Go.Proofs.YtgcogpfmhmmgdaaGreatDoor
open Go.RowKit
set_option linter.unusedSimpArgs false
set_option linter.unusedVariables false

/-- Two times nothing, and an error's number. -/
def NoneOut2 (w : World) (x : Int) (e : Ending) (w' : World) : Prop := e = .returned (.tuple #[.slice none 0 0, .slice none 0 0, .int .i64 x]) ∧ Below w.heap.size w w'
set_option maxRecDepth 100000 in
set_option maxHeartbeats 3200000 in
theorem pDivide_large1 (v1 v2 : Value) (L : List Int) (k : Nat) (w : World) (h1 : PolyAt w v1 L k) (hL : L.length ≤ 100000) (hl : 65 < (trm L).length) :
    Calls Tryz.prog 29 #[v1, v2] w (NoneOut2 w 4) := by
  have HD := Lib.hid (show decide (64 < degZ L) = true from decide_eq_true (by unfold degZ; omega))
  go_enter Tryz.func29, Tryz.ntmps29
  go_wp2_with fail
  refine (large_any _ L k _ h1 (by omega)).mono ?_
  rw [HD.out]
  rintro e W1 ⟨rfl, b1⟩
  go_wp2
  exact bodyPost_ret (v := .tuple #[.slice none 0 0, .slice none 0 0, .int .i64 4]) (by simp [results, Tryz.results29, go_sem]) rfl ⟨rfl, b1⟩
set_option maxRecDepth 100000 in
set_option maxHeartbeats 3200000 in
theorem pDivide_large2 (v1 v2 : Value) (L M : List Int) (k : Nat) (w : World) (h1 : PolyAt w v1 L k) (h2 : PolyAt w v2 M k) (hL : L.length ≤ 100000) (hM : M.length ≤ 100000) (hl : (trm L).length ≤ 65) (hm : 65 < (trm M).length) :
    Calls Tryz.prog 29 #[v1, v2] w (NoneOut2 w 4) := by
  have HD1 := Lib.hid (show decide (64 < degZ L) = false from decide_eq_false (by unfold degZ; omega))
  have HD2 := Lib.hid (show decide (64 < degZ M) = true from decide_eq_true (by unfold degZ; omega))
  have H2 := Lib.hid h2
  go_enter Tryz.func29, Tryz.ntmps29
  go_wp2_with fail
  refine (large_any _ L k _ h1 (by omega)).mono ?_
  rw [HD1.out]
  rintro e W1 ⟨rfl, b1⟩
  go_wp2_with fail
  refine (large_any _ M k _ (H2.out.keep b1) (by omega)).mono ?_
  rw [HD2.out]
  rintro e W2 ⟨rfl, b2⟩
  go_wp2
  exact bodyPost_ret (v := .tuple #[.slice none 0 0, .slice none 0 0, .int .i64 4]) (by simp [results, Tryz.results29, go_sem]) rfl ⟨rfl, below_more b1 (Nat.le_refl _) b2⟩
set_option maxRecDepth 100000 in
set_option maxHeartbeats 3200000 in
theorem pDivide_zero (v1 v2 : Value) (L M : List Int) (k : Nat) (w : World) (h1 : PolyAt w v1 L k) (h2 : PolyAt w v2 M k) (hL : L.length ≤ 100000) (hM : M.length ≤ 100000) (hl : (trm L).length ≤ 65) (hm : trm M = []) :
    Calls Tryz.prog 29 #[v1, v2] w (NoneOut2 w 9) := by
  have HD1 := Lib.hid (show decide (64 < degZ L) = false from decide_eq_false (by unfold degZ; omega))
  have HD2 := Lib.hid (show decide (64 < degZ M) = false from decide_eq_false (by unfold degZ; rw [hm]; simp))
  have HD3 := Lib.hid (show degZ M = -1 by unfold degZ; rw [hm]; rfl)
  have H2 := Lib.hid h2
  clear hm
  go_enter Tryz.func29, Tryz.ntmps29
  go_wp2_with fail
  refine (large_any _ L k _ h1 (by omega)).mono ?_
  rw [HD1.out]
  rintro e W1 ⟨rfl, b1⟩
  go_wp2_with fail
  refine (large_any _ M k _ (H2.out.keep b1) (by omega)).mono ?_
  rw [HD2.out]
  rintro e W2 ⟨rfl, b2⟩
  have B2 := below_more b1 (Nat.le_refl _) b2
  go_wp2_with fail
  refine (deg_any _ M k _ (H2.out.keep2 B2) (by omega)).mono ?_
  rw [HD3.out]
  rintro e W3 ⟨rfl, b3⟩
  go_wp2
  exact bodyPost_ret (v := .tuple #[.slice none 0 0, .slice none 0 0, .int .i64 9]) (by simp [results, Tryz.results29, go_sem]) rfl ⟨rfl, below_more B2 (Nat.le_refl _) b3⟩
set_option maxRecDepth 100000 in
set_option maxHeartbeats 3200000 in
theorem pDivide_any (v1 v2 : Value) (L M Q9 R9 : List Int) (n k : Nat) (c : Int) (w : World) (h1 : PolyAt w v1 L k) (h2 : PolyAt w v2 M k) (hL : L.length ≤ 100000) (hM : M.length ≤ 100000) (hl : (trm L).length ≤ 65) (hm : (trm M).length = n + 1) (hn : n ≤ 64) (hk : k ≤ 1000) (hk1 : 1 ≤ k) (hc : co M n = c) (hrun : divR M n c ((trm L).length - n) [] (trm L) = (Q9, R9)) :
    Calls Tryz.prog 29 #[v1, v2] w fun e w' => ∃ q r, e = .returned (.tuple #[q, r, .int .i64 0]) ∧ PolyC w' w.heap.size q Q9 ∧ PolyC w' w.heap.size r R9 ∧ Below w.heap.size w w' := by
  have HD1 := Lib.hid (show decide (64 < degZ L) = false from decide_eq_false (by unfold degZ; omega))
  have HD2 := Lib.hid (show decide (64 < degZ M) = false from decide_eq_false (by unfold degZ; omega))
  have HD3 := Lib.hid (show degZ M = (n : Int) by unfold degZ; rw [hm]; omega)
  have HA := Lib.hid (And.intro hm (And.intro hc hrun))
  have hn0 : ¬ (n : Int) < 0 := by omega
  have H1 := Lib.hid h1
  have H2 := Lib.hid h2
  clear hm hc hrun
  go_enter Tryz.func29, Tryz.ntmps29
  go_wp2_with fail
  refine (large_any _ L k _ h1 (by omega)).mono ?_
  rw [HD1.out]
  rintro e W1 ⟨rfl, b1⟩
  go_wp2_with fail
  refine (large_any _ M k _ (H2.out.keep b1) (by omega)).mono ?_
  rw [HD2.out]
  rintro e W2 ⟨rfl, b2⟩
  have B2 := below_more b1 (Nat.le_refl _) b2
  go_wp2_with fail
  refine (deg_any _ M k _ (H2.out.keep2 B2) (by omega)).mono ?_
  rw [HD3.out]
  rintro e W3 ⟨rfl, b3⟩
  have B3 := below_more B2 (Nat.le_refl _) b3
  go_wp2_with fail
  refine (pdivide_any _ _ L M Q9 R9 n k c _ (H1.out.keep2 B3) (H2.out.keep2 B3) hL hM (by omega) HA.out.1 (by omega) hk hk1 HA.out.2.1 HA.out.2.2).mono ?_
  rintro e W4 ⟨q, r, rfl, PQ, PR, b4⟩
  have PQ := PQ.wider B3.size
  have PR := PR.wider B3.size
  have B4 := below_more B3 (Nat.le_refl _) b4
  go_wp2
  exact bodyPost_ret (v := .tuple #[q, r, .int .i64 0]) (by simp [results, Tryz.results29, go_sem]) rfl ⟨q, r, rfl, PQ, PR, B4⟩
end Go.Proofs.YtgcogpfmhmmgdaaGreatDoor

namespace Go.Proofs.YtgcogpfmhmmgdaaGreatDoor
open Go.RowKit Go.Shelf
attribute [local go_sem] Oper.semAt_some
set_option linter.unusedSimpArgs false
set_option linter.unusedVariables false

/-- A list's first values, and something else behind them. -/
def upto {α : Type} (j : Nat) (f : Nat → α) (z : α) (i : Nat) : α := if i < j then f i else z
theorem upto_zero {α : Type} (f : Nat → α) (z : α) : upto 0 f z = fun _ => z := by
  funext i
  unfold upto
  rw [if_neg (by omega)]
theorem upto_succ {α : Type} (j : Nat) (f : Nat → α) (z : α) : upto (j + 1) f z = upd2 (upto j f z) j (f j) := by
  funext i
  unfold upto upd2
  by_cases h : i = j
  · subst h; rw [if_pos (by omega), if_pos rfl]
  · rw [if_neg h]
    show _ = if i < j then f i else z
    by_cases h2 : i < j
    · rw [if_pos h2, if_pos (by omega)]
    · rw [if_neg h2, if_neg (by omega)]
theorem upto_lt {α : Type} {j i : Nat} (h : i < j) (f : Nat → α) (z : α) : upto j f z i = f i := by
  unfold upto
  rw [if_pos h]
theorem cell_far2 {W : World} {c : Addr} {v u1 u2 : Value} {b o1 o2 : Nat} (h : W.cell? c = some v) (hb : c.block ≠ b) : ((W.setCell ⟨b, o1, none⟩ u1).setCell ⟨b, o2, none⟩ u2).cell? c = some v := by
  rw [World.cell?_setCell_far _ _ _ _ (fun e => hb e.symm), World.cell?_setCell_far _ _ _ _ (fun e => hb e.symm)]
  exact h
set_option maxRecDepth 100000 in
set_option maxHeartbeats 6400000 in
theorem deriv_any (v1 : Value) (L C : List Int) (k : Nat) (w : World) (h1 : PolyAt w v1 L k) (hL : L.length ≤ 100000) (hk : k ≤ 1000000) (hC : C.length = (trm L).length - 1) (hco : ∀ i, i < C.length → co C i = co L (i + 1) * ((i : Int) + 1)) :
    Calls Tryz.prog 16 #[v1] w (PolyOut w C) := by
  have H1 := Lib.hid h1
  have HO := Lib.hid hco
  obtain ⟨n, hn⟩ : ∃ n, n = C.length := ⟨_, rfl⟩
  have HN := Lib.hid hn
  have tl := trm_len L
  have hn1 : n ≤ 100000 := by omega
  have HL := Lib.hid (show ∀ i, i < n → i + 1 < L.length by intro i hi; omega)
  obtain ⟨m, hm⟩ : ∃ m : Int, m = degZ L := ⟨_, rfl⟩
  have hm1 : (n : Int) = m ∨ (n = 0 ∧ m = -1) := by unfold degZ at hm; omega
  have HX := Lib.hid hm.symm
  obtain ⟨A, c, g, s, rfl, hcells⟩ := h1.cells
  have HCL := Lib.hid hcells
  clear hco hC hn hcells tl hm
  go_enter Tryz.func16, Tryz.ntmps16
  go_wp2_with fail
  refine (deg_any _ L k _ H1.out (by omega)).mono ?_
  rw [HX.out]
  rintro e W1 ⟨rfl, b1⟩
  go_wp2_with fail
  refine (blank_row _ n _ (by omega) (by omega) (by omega)).mono ?_
  rintro e W2 ⟨A0, rfl, R2, b2⟩
  have B2 := below_more b1 (Nat.le_refl _) b2
  have R0 := Lib.hid (show OwnRow W2 w.heap.size A0 n (upto 0 (fun i => sg (co C i)) false) (upto 0 (fun i => mg (co C i)) ⟨#[]⟩) by rw [upto_zero, upto_zero]; exact R2.wider b1.size)
  clear R2 b1 b2
  go_wp2_with fail
  go_loopg [11] n (fun q s11 wx => ∃ j : Nat, j + q = n ∧ s11 = .int .i64 (j : Int) ∧ OwnRow wx w.heap.size A0 n (upto j (fun i => sg (co C i)) false) (upto j (fun i => mg (co C i)) ⟨#[]⟩) ∧ Below w.heap.size w wx)
  case atStart => exact ⟨0, by omega, rfl, R0.out, B2⟩
  case round =>
    clear B2 R0
    obtain ⟨j, hj, rfl, R, B⟩ := hrel
    rcases gk with _ | q
    · obtain rfl : j = n := by omega
      have hjj : ¬ (j : Int) < (j : Int) := by omega
      go_wp2
      go_ret
      exact ⟨_, rfl, R.poly HN.out.symm (fun i hi => ⟨upto_lt hi _ _, upto_lt hi _ _⟩), B⟩
    · have hjn : (j : Int) < (n : Int) := by omega
      have hj0 : (0 : Int) ≤ (j : Int) := by omega
      have HJ := Lib.hid hj
      rcases R with ⟨h0, -⟩ | ⟨b0, rfl, hb0, P⟩
      · omega
      obtain ⟨j1, hj1⟩ : ∃ j1, j1 = j + 1 := ⟨_, rfl⟩
      have hjL := HL.out j (by omega)
      rw [← hj1] at hjL
      have hjl : (j1 : Int) < (L.length : Int) := by omega
      have hj2 : (0 : Int) ≤ (j1 : Int) := by omega
      have hw : IntKind.i64.wrap ((j : Int) + 1) = (j1 : Int) := by rw [IntKind.wrap_i64]; omega
      have hj3 : (j1 : Int) ≤ 100000 := by omega
      obtain ⟨a, rfl, ha, c0, c1, hI⟩ := HCL.out j1 hjL
      have HI := Lib.hid hI
      obtain ⟨z, Hz⟩ : ∃ z : Int, Hid (co C j = z) := ⟨_, Lib.hid rfl⟩
      have HZ := Lib.hid (show co L j1 * (j1 : Int) = z by rw [← Hz.out, hj1]; exact (HO.out j (by rw [← HN.out]; omega)).symm)
      have HOF := Lib.hid (show IsInt (.agg #[.bool (sg (j1 : Int)), .string (mg (j1 : Int))]) (j1 : Int) 1 from isInt_mg (by omega) (by omega))
      have x0 := cell_keep c0 B
      have x1 := cell_keep c1 B
      obtain ⟨p1, p2, p3, p4⟩ := P.cell (show j < n by omega)
      have KB := (Below.refl wr.heap.size wr).drew
      have HJ1 := Lib.hid hj1
      clear hj hI c0 c1 hj1
      have hne : (a.add (j1 * 2)).block ≠ b0 := by rw [addr_block]; omega
      go_upto_region 5 with fail
      go_region_held3 (fun W => W.cell? (a.add (j1 * 2)) = some (.bool (g j1)) ∧ W.cell? ⟨(a.add (j1 * 2)).block, (a.add (j1 * 2)).off + 1, none⟩ = some (.string (s j1))) (first | (with_reducible exact ⟨cell_keep x0 KB, cell_keep x1 KB⟩) | (with_reducible exact ⟨cell_far2 (cell_keep x0 KB) hne, cell_far2 (cell_keep x1 KB) hne⟩) | exact ⟨cell_far2 (cell_keep x0 KB) hne, cell_far2 (cell_keep x1 KB) hne⟩ | go_keep)
        (first
          | (go_at_call 43; (with_reducible refine (iof_any _ _ (by omega) (by omega)).mono ?_); rintro e W5 ⟨rfl, b5⟩; have KB := below_more KB (Nat.le_refl _) b5)
          | (go_at_call 42; (with_reducible refine (imul_eq HI.out HOF.out HZ.out).mono ?_); rintro e W6 ⟨rfl, b6⟩; have KB := below_more KB (Nat.le_refl _) b6; have P6 := P.keep KB; obtain ⟨p1, p2, p3, p4⟩ := P6.cell (show j < n by have := HJ.out; omega)))
      have PS := Lib.hid (P6.set j (sg z) (mg z))
      have BS := Lib.hid (((below_more B (Nat.le_refl _) KB).setCell (p := ⟨b0, j * 2, none⟩) hb0 (.bool (sg z))).setCell (p := ⟨b0, j * 2 + 1, none⟩) hb0 (.string (mg z)))
      clear x0 x1 p1 p2 p3 p4 P B P6 b5 b6
      go_wp2_with fail
      go_roundg q
      case measure => omega
      case rel =>
        refine ⟨j1, by have := HJ.out; have := HJ1.out; omega, rfl, .inr ⟨b0, rfl, hb0, ?_⟩, BS.out⟩
        rw [HJ1.out, upto_succ, upto_succ, Hz.out]
        exact PS.out
end Go.Proofs.YtgcogpfmhmmgdaaGreatDoor

namespace Go.Proofs.YtgcogpfmhmmgdaaGreatDoor
open Go.RowKit

/-- How many operations have not come up. -/
def unl (listed : Array Bool) : Nat := listed.toList.count false
theorem unl_set {listed : Array Bool} {i : Nat} (h : listed.getD i true = false) : unl (listed.setIfInBounds i true) + 1 = unl listed := by
  have hi : i < listed.size := by
    rcases Nat.lt_or_ge i listed.size with h1 | h1
    · exact h1
    · simp [Array.getD, Nat.not_lt.2 h1] at h
  have hl : listed.toList[i]'(by simpa using hi) = false := by
    simp [Array.getD, hi] at h
    simpa using h
  have hp : 0 < listed.toList.count false := List.count_pos_iff.2 (by rw [← hl]; exact List.getElem_mem _)
  unfold unl
  rw [Array.toList_setIfInBounds, List.count_set (by simpa using hi), hl]
  rw [if_pos (by rfl), if_neg (by decide)]
  omega
/-- Every operation waits for earlier ones alone. -/
def backwards (md : Region.Mode) (ops : Array Oper) : Bool := (List.range ops.size).all fun i => ((ops[i]?).map fun o => o.after.all fun e => !Region.binds md e || decide (e.on < i)).getD true

section
variable {P : Program} {md : Region.Mode} {ops : Array Oper} {Q : Exit → Act → World → Prop}

theorem backwards_spec (h : backwards md ops = true) {i : Nat} {o : Oper} (ho : ops[i]? = some o) {e : _} (he : e ∈ o.after) (hb : Region.binds md e = true) : e.on < i := by
  unfold backwards at h
  rw [List.all_eq_true] at h
  have h1 := h i (List.mem_range.2 (Array.getElem?_eq_some_iff.1 ho).1)
  rw [ho] at h1
  simp only [Option.map_some, Option.getD_some, Array.all_eq_true_iff_forall_mem] at h1
  have h2 := h1 e he
  simpa [hb] using h2
theorem all_listed (hbk : backwards md ops = true) {listed : Array Bool} (hs : listed.size = ops.size) (hr : Region.ready md ops listed = []) : ∀ i, i < ops.size → listed.getD i false = true := by
  intro i
  induction i using Nat.strongRecOn with
  | ind i ih =>
    intro hi
    cases hl : listed.getD i true with
    | true => simpa [Array.getD, hs, hi] using hl
    | false =>
      exfalso
      have hm : i ∈ Region.ready md ops listed := mem_ready.2 ⟨hl, ops[i], by simp [hi], fun e he hb => by
        have h1 := backwards_spec hbk (i := i) (o := ops[i]) (by simp [hi]) he hb
        exact ih _ h1 (by omega)⟩
      rw [hr] at hm
      cases hm

theorem any_of_inv {J : Array Bool → Act → World → Prop} (hbk : backwards md ops = true)
    (hstep : ∀ i o listed a w, ops[i]? = some o → listed.size = ops.size → listed.getD i true = false → (∀ e ∈ o.after, Region.binds md e = true → listed.getD e.on false = true) → J listed a w → wpOp P ops Q i (fun a' w' => J (listed.setIfInBounds i true) a' w') a w)
    (hend : ∀ listed a w, listed.size = ops.size → (∀ i, i < ops.size → listed.getD i false = true) → J listed a w → Q .normal a w) :
    ∀ (fuel : Nat) (listed : Array Bool) (a : Act) (w : World), unl listed ≤ fuel → listed.size = ops.size → J listed a w → wpAny P md ops Q fuel listed a w
  | 0, listed, a, w, hu, hs, hJ => by
    have hr : Region.ready md ops listed = [] := by
      rcases hx : Region.ready md ops listed with _ | ⟨i, l⟩
      · rfl
      · have := unl_set (mem_ready.1 (show i ∈ Region.ready md ops listed by rw [hx]; exact List.mem_cons_self)).1
        omega
    exact ⟨hr, hend listed a w hs (all_listed hbk hs hr) hJ⟩
  | fuel + 1, listed, a, w, hu, hs, hJ => by
    refine ⟨fun hr => hend listed a w hs (all_listed hbk hs hr) hJ, fun i hi => ?_⟩
    obtain ⟨h1, o, h2, h3⟩ := mem_ready.1 hi
    have h4 := unl_set h1
    exact wpOp_mono (fun a' w' h => any_of_inv hbk hstep hend fuel _ a' w' (by omega) (by simpa using hs) h) (hstep i o listed a w h2 hs h1 h3 hJ)

theorem region_inv {J : Array Bool → Act → World → Prop} {id : Nat} {a : Act} {w : World} (hm : P.follows .mixedOrders = true) (hbk : backwards .any ops = true) (h0 : J (Array.replicate ops.size false) a w.drew)
    (hstep : ∀ i o listed a w, ops[i]? = some o → listed.size = ops.size → listed.getD i true = false → (∀ e ∈ o.after, Region.binds .any e = true → listed.getD e.on false = true) → J listed a w → wpOp P ops Q i (fun a' w' => J (listed.setIfInBounds i true) a' w') a w)
    (hend : ∀ listed a w, listed.size = ops.size → (∀ i, i < ops.size → listed.getD i false = true) → J listed a w → Q .normal a w) :
    (Code.region id ops true).wp P Q a w :=
  wp_region_any hm (any_of_inv hbk hstep hend _ _ _ _ (by unfold unl; exact Nat.le_trans (List.count_le_length) (by simp)) (by simp) h0)
/-- As region_inv, with the waiting as a test that computes. -/
theorem region_inv' {J : Array Bool → Act → World → Prop} {id : Nat} {a : Act} {w : World} (hm : P.follows .mixedOrders = true) (hbk : backwards .any ops = true) (h0 : J (Array.replicate ops.size false) a w.drew)
    (hstep : ∀ i, i < ops.size → ∀ listed a w, listed.getD i false = false → (∀ j, waitsFor .any ops i j = true → listed.getD j false = true) → J listed a w → wpOp P ops Q i (fun a' w' => J (listed.setIfInBounds i true) a' w') a w)
    (hend : ∀ listed a w, (∀ i, i < ops.size → listed.getD i false = true) → J listed a w → Q .normal a w) :
    (Code.region id ops true).wp P Q a w := by
  refine region_inv hm hbk h0 (fun i o listed a w ho hs hl hw hJ => ?_) (fun listed a w _ h hJ => hend listed a w h hJ)
  have hi := (Array.getElem?_eq_some_iff.1 ho).1
  refine hstep i hi listed a w (by simpa [Array.getD, hs, hi] using hl) (fun j hj => ?_) hJ
  obtain ⟨os, h1, e, h2, h3, h4⟩ := waitsFor_spec hj
  rw [ho] at h1
  injection h1 with h1
  subst h1
  rw [← h4]
  exact hw e h2 h3
theorem stepJ {J : Act → World → Prop} {i : Nat} {o : Oper} {a : Act} {w : World} (ho : ops[i]? = some o)
    (h : ∀ K' : Act → World → Prop, Shut (∀ a w, J a w → K' a w) → if Region.wanted o (yielded ops a.tmps) = true then Oper.wp P o a w K' Q else K' (a.put o.dst undef) w) : wpOp P ops Q i J a w :=
  wpOp_step ho (fun K' hK => h K' (fun a w hJ => hK a w hJ))
theorem fl {L : Array Bool} {i j : Nat} (h : i ≠ j) (hf : (L.setIfInBounds i true).getD j false = true) : L.getD j false = true := by
  simp only [Array.getD_eq_getD_getElem?, Array.getElem?_setIfInBounds_ne h] at hf ⊢
  exact hf
end
end Go.Proofs.YtgcogpfmhmmgdaaGreatDoor
