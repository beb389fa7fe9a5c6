/- What the reference implementation's Print returns: the text of the value. Condition: at most 10^6 bytes. What the reference implementation's Parse returns. Condition: the text has at most 65536 bytes, else ErrLimit. IntegerTexts returns true for every input: the walk. Conditions: its own table, and what is in memory. IntegerTexts returns true for every input: the law's row, and its card, tied to the program's text. Conditions: those of the row: its tables read as listed (the card ties them to the program's text). -/
import Derived.Test.YtfcdekkoeeaolaaDoorQ08
import Derived.Test.YtfcdekkoeeaolaaDoorQ14
import Derived.Test.YtfcdekkoeeaolaaDoorQ05
import Derived.Maps.AppendAt
import Derived.OwnWalk
import Derived.Laws.IdiomStrings
import Derived.Test.YtfcdekkoeeaolaaDoorQ18
import Derived.Deep.RegionHeld3
import Derived.Test.YtfcdekkoeeaolaaDoorQ19

namespace Go.Proofs.YtfcdekkoeeaolaaDoor
open Go.RowKit
set_option linter.unusedSimpArgs false
set_option linter.unusedVariables false

/-- The bytes of a list, and zeros behind them. -/
def brow (Q : List UInt8) : Nat → Value := fun p => .int .u8 (((Q.getD p 0).toNat : Nat) : Int)
theorem brow_at {Q : List UInt8} {k : Nat} {c : UInt8} (h : Q[k]? = some c) : brow Q k = .int .u8 (c.toNat : Int) := by
  unfold brow; rw [List.getD_eq_getElem?_getD, h]; rfl
theorem getD_app_lt {Q R : List UInt8} {j : Nat} (h : j < Q.length) : (Q ++ R).getD j 0 = Q.getD j 0 := by
  rw [List.getD_eq_getElem?_getD, List.getD_eq_getElem?_getD, List.getElem?_append_left h]
theorem getD_app_ge {Q R : List UInt8} {j : Nat} (h : Q.length ≤ j) : (Q ++ R).getD j 0 = R.getD (j - Q.length) 0 := by
  rw [List.getD_eq_getElem?_getD, List.getD_eq_getElem?_getD, List.getElem?_append_right h]
/-- A byte takes the place of the first one that has not been replaced yet. -/
theorem brow_set {w : World} {b n k : Nat} {t : TypeId} {Q L : List UInt8} (h : w.rowIs b t n (brow (Q ++ L.drop k))) (hk : Q.length = k) (hL : k < L.length) (c : UInt8) {x : Int} (hx : x = (c.toNat : Int)) :
    (w.setCell ⟨b, k, none⟩ (.int .u8 x)).rowIs b t n (brow ((Q ++ [c]) ++ L.drop (k + 1))) :=
  (h.set k _).congr fun j _ => by
    subst hx hk
    unfold brow
    by_cases e : j = Q.length
    · subst e
      rw [if_pos rfl, getD_app_lt (by simp), getD_app_ge (Nat.le_refl _), Nat.sub_self]; rfl
    · rw [if_neg e]
      rcases Nat.lt_or_ge j Q.length with h1 | h1
      · rw [getD_app_lt h1, getD_app_lt (by simp; omega), getD_app_lt h1]
      · rw [getD_app_ge h1, getD_app_ge (by simp; omega)]
        rw [List.getD_eq_getElem?_getD, List.getD_eq_getElem?_getD, List.getElem?_drop, List.getElem?_drop]
        have e1 : Q.length + (j - Q.length) = j := by omega
        have e2 : Q.length + 1 + (j - (Q ++ [c]).length) = j := by rw [List.length_append, List.length_singleton]; omega
        rw [e1, e2]
/-- One step of the division by 10. -/
theorem dstep10 {L Q : List UInt8} {k r : Nat} {c : UInt8} (h : vB (L.take k) = 10 * vB Q + r) (hc : L[k]? = some c) (hr : r < 10) :
    (r * 256 + c.toNat) / 10 < 256 ∧ (r * 256 + c.toNat) % 10 < 10 ∧ vB (L.take (k + 1)) = 10 * vB (Q ++ [UInt8.ofNat ((r * 256 + c.toNat) / 10)]) + (r * 256 + c.toNat) % 10 := by
  have hc8 := c.toNat_lt
  have h1 : (r * 256 + c.toNat) / 10 < 256 := by omega
  refine ⟨h1, by omega, ?_⟩
  rw [vB_take_succ hc, vB_snoc, toNat_of8 h1, h]
  omega
theorem zeros_take {L : List UInt8} {k : Nat} (h : vB (L.take k) = 0) : vB (L.take k) = 10 * vB (L.take k) + 0 := by rw [h]
/-- The digits in the order in which they come out, the least one first. -/
def dlow : List UInt8 → Nat
  | [] => 0
  | c :: D => (c.toNat - 48) + 10 * dlow D
theorem dlow_snoc (D : List UInt8) (c : UInt8) : dlow (D ++ [c]) = dlow D + (c.toNat - 48) * 10 ^ D.length := by
  induction D with
  | nil => simp [dlow]
  | cons b D ih =>
    have h : 10 * ((c.toNat - 48) * 10 ^ D.length) = (c.toNat - 48) * (10 ^ D.length * 10) := by rw [Nat.mul_comm (10 ^ D.length), Nat.mul_left_comm]
    rw [List.cons_append, dlow, dlow, ih, List.length_cons, Nat.pow_succ, Nat.mul_add, h]
    omega
theorem dv_rev (D : List UInt8) : dv D.reverse = dlow D := by
  induction D with
  | nil => rfl
  | cons c D ih => rw [List.reverse_cons, dv_snoc, ih, dlow]; omega
/-- Bytes in a block whose end nobody asks for. -/
def BRow (W : World) (b n : Nat) (f : Nat → Value) : Prop := b < W.heap.size ∧ ∀ i, i < n → W.cell? ⟨b, i, none⟩ = some (f i) ∧ W.frozen? ⟨b, i, none⟩ = false
theorem BRow.congr {W : World} {b n : Nat} {f g : Nat → Value} (h : BRow W b n f) (e : ∀ i, i < n → f i = g i) : BRow W b n g := ⟨h.1, fun i hi => by rw [← e i hi]; exact h.2 i hi⟩
theorem BRow.set {W : World} {b n : Nat} {f : Nat → Value} (h : BRow W b n f) {k : Nat} (hk : k < n) (v : Value) : BRow (W.setCell ⟨b, k, none⟩ v) b n (fun j => if j = k then v else f j) := by
  refine ⟨by rw [World.size_setCell]; exact h.1, fun i hi => ?_⟩
  obtain ⟨h1, h2⟩ := h.2 i hi
  by_cases e : i = k
  · subst e
    exact ⟨by simp [go_sem, h1], by simp [go_sem, h2]⟩
  · exact ⟨by simp [go_sem, h1, e], by simp [go_sem, h2]⟩
theorem BRow.keep {W W1 : World} {b n : Nat} {f : Nat → Value} (h : BRow W b n f) (hb : Below W.heap.size W W1) : BRow W1 b n f := ⟨Nat.lt_of_lt_of_le h.1 hb.size, fun i hi => ⟨cell_keep (h.2 i hi).1 hb, (hb.frozen (p := ⟨b, i, none⟩) h.1).trans (h.2 i hi).2⟩⟩
theorem BRow.drew {W : World} {b n : Nat} {f : Nat → Value} (h : BRow W b n f) : BRow W.drew b n f := h
theorem BRow.made (W : World) (l : List UInt8) (cap : Nat) (e : TypeId) (r : Nat × Nat) (hr : l.length ≤ r.1) : BRow (W.alloc (.cells (bytesRow ⟨l.toArray⟩ cap) e r)) W.heap.size l.length (brow l) := by
  refine ⟨by simp, fun i hi => ?_⟩
  have hb : (W.alloc (.cells (bytesRow ⟨l.toArray⟩ cap) e r)).heap[W.heap.size]? = some (.cells (bytesRow ⟨l.toArray⟩ cap) e r) := by
    show (W.heap.push _)[W.heap.size]? = _
    simp
  constructor
  · have hc : (bytesRow ⟨l.toArray⟩ cap)[i]? = some (brow l i) := by
      unfold bytesRow
      rw [Array.getElem?_append_left (by simpa using hi)]
      rw [brow_at (List.getElem?_eq_getElem hi)]
      simp [hi]
    simp only [World.cell?, hb, hc]
    rw [if_neg (by simp)]
  · simp only [World.frozen?, hb]
    simp
    omega
theorem grown_set (W : World) (b i : Nat) (v : Value) : W.grownBy (W.setCell ⟨b, i, none⟩ v) (some b) :=
  ⟨rfl, rfl, rfl, by rw [World.size_setCell]; exact Nat.le_refl _, fun k hk hne => by
    have hb : b ≠ k := fun e => hne (by rw [e])
    simp [World.setCell, Array.getElem?_modify, hb]⟩
theorem BRow.grown {W W1 : World} {b n : Nat} {f : Nat → Value} {row : Option Nat} (h : BRow W b n f) (hg : W.grownBy W1 row) (hne : some b ≠ row) : BRow W1 b n f :=
  ⟨Nat.lt_of_lt_of_le h.1 hg.size, fun i hi => ⟨(World.cell?_of_block (a := ⟨b, i, none⟩) (hg.block b h.1 hne)).trans (h.2 i hi).1, (World.frozen?_of_block (a := ⟨b, i, none⟩) (hg.block b h.1 hne)).trans (h.2 i hi).2⟩⟩
theorem cell_grown {W W1 : World} {p : Addr} {v : Value} {row : Option Nat} (h : W.cell? p = some v) (hg : W.grownBy W1 row) (hne : some p.block ≠ row) : W1.cell? p = some v :=
  (World.cell?_of_block (hg.block _ (World.block_lt_of_cell? _ _ h) hne)).trans h
def bvs (D : List UInt8) : List Value := D.map fun c => .int .u8 (c.toNat : Int)
theorem bvs_len (D : List UInt8) : (bvs D).length = D.length := List.length_map _
theorem bvs_snoc (D : List UInt8) (c : UInt8) : bvs (D ++ [c]) = bvs D ++ [.int .u8 (c.toNat : Int)] := by unfold bvs; rw [List.map_append]; rfl
/-- A slice that owns bytes: its row, cell by cell. -/
theorem own_row {W : World} {base : Nat} {e : TypeId} {v : Value} {D : List UInt8} (h : W.ownsRow base e 1 v D.length (bvs D)) (hD : D ≠ []) :
    ∃ g cap, v = .slice (some ⟨g, 0, none⟩) D.length cap ∧ base ≤ g ∧ BRow W g D.length (brow D) := by
  rcases h.2 with ⟨_, h0⟩ | ⟨g, cap, cur, rfl, hb, hg, h1, h2, h3, h4⟩
  · exact absurd (List.eq_nil_of_length_eq_zero h0) hD
  · refine ⟨g, cap, rfl, hb, (Array.getElem?_eq_some_iff.1 hg).1, fun i hi => ⟨?_, ?_⟩⟩
    · have hc : (bvs D)[i]? = some (brow D i) := by
        rw [brow_at (List.getElem?_eq_getElem hi)]
        unfold bvs
        rw [List.getElem?_map, List.getElem?_eq_getElem hi]; rfl
      have := h.cells (g := g) rfl i _ hc
      rwa [show (⟨g, 0, none⟩ : Addr).add i = ⟨g, i, none⟩ by unfold Addr.add; split <;> simp_all] at this
    · simp only [World.frozen?, hg]
      simp
/-- The row, turned round as far as i from both ends. -/
def rrow (D : List UInt8) (i : Nat) : Nat → Value := fun p => if p < i ∨ D.length < p + i + 1 then brow D (D.length - 1 - p) else brow D p
theorem rrow_zero (D : List UInt8) {p : Nat} (hp : p < D.length) : brow D p = rrow D 0 p := by
  unfold rrow; rw [if_neg (by omega)]
theorem rrow_step {W : World} {g i k : Nat} {D : List UInt8} (h : BRow W g D.length (rrow D i)) (hk : i + k + 1 = D.length) (hik : i < k) :
    BRow ((W.setCell ⟨g, i, none⟩ (brow D k)).setCell ⟨g, k, none⟩ (brow D i)) g D.length (rrow D (i + 1)) :=
  ((h.set (k := i) (by omega) (brow D k)).set (k := k) (by omega) (brow D i)).congr fun j hj => by
    unfold rrow
    by_cases e1 : j = k
    · rw [if_pos e1, if_pos (by omega)]; congr 1; omega
    · rw [if_neg e1]
      by_cases e2 : j = i
      · rw [if_pos e2, if_pos (by omega)]; congr 1; omega
      · rw [if_neg e2]
        by_cases e3 : j < i ∨ D.length < j + i + 1
        · rw [if_pos e3, if_pos (by omega)]
        · rw [if_neg e3, if_neg (by omega)]
theorem rrow_end {D : List UInt8} {i k : Nat} (hk : i + k + 1 = D.length) (hik : ¬ i < k) {p : Nat} (hp : p < D.length) : rrow D i p = brow D.reverse p := by
  have hr : brow D.reverse p = brow D (D.length - 1 - p) := by
    unfold brow
    rw [List.getD_eq_getElem?_getD, List.getD_eq_getElem?_getD, List.getElem?_reverse hp]
  rw [hr]
  unfold rrow
  split
  · rfl
  · congr 1; omega
theorem brow_cells {W : World} {g n : Nat} {T : List UInt8} (h : BRow W g n (brow T)) (hT : T.length = n) (i : Nat) (u : UInt8) (hu : T[i]? = some u) : W.cell? ⟨g, 0 + i, none⟩ = some (.int .u8 (u.toNat : Int)) := by
  have hi : i < T.length := by
    rcases Nat.lt_or_ge i T.length with h1 | h1
    · exact h1
    · rw [List.getElem?_eq_none h1] at hu; cases hu
  rw [Nat.zero_add, (h.2 i (by omega)).1, brow_at hu]
theorem zero_more {Q : List UInt8} {a : Nat} (h : vB (Q.take a) = 0) (hc : Q[a]? = some 0) : vB (Q.take (a + 1)) = 0 := by rw [vB_take_succ hc, h]; rfl
theorem vB_pos {Q : List UInt8} {a : Nat} {c : UInt8} (hc : Q[a]? = some c) (h0 : c ≠ 0) : vB Q ≠ 0 := by
  have h1 := vB_take_le Q (a + 1)
  rw [vB_take_succ hc] at h1
  have : c.toNat ≠ 0 := fun e => h0 (UInt8.toNat_inj.1 (by simpa using e))
  omega
/-- The text of a number, out of its digits. -/
theorem text_of {D' : List UInt8} {c : UInt8} {z : Int} {N : Nat} (ha : (D' ++ [c]).all digB = true) (hc : c.toNat ≠ 48) (hN : dlow (D' ++ [c]) = N) :
    ((N : Int) = z → prZ z = (D' ++ [c]).reverse) ∧ (-(N : Int) = z → prZ z = (D' ++ [c] ++ [45]).reverse) := by
  have hall : ((D' ++ [c]).reverse).all digB = true := by rw [List.all_reverse]; exact ha
  have hdec : isDec (D' ++ [c]).reverse = true := by
    rw [List.reverse_append] at hall ⊢
    show isDec (c :: D'.reverse) = true
    rw [isDec_cons]
    have h9 : (c :: D'.reverse).all digB = true := hall
    rw [h9]
    simp [hc]
  have hne : (D' ++ [c]).reverse ≠ [48] := by
    rw [List.reverse_append]
    intro e
    have : c :: D'.reverse = [48] := e
    injection this with e1 e2
    exact hc (by rw [e1]; rfl)
  have hdv : dv (D' ++ [c]).reverse = N := by rw [dv_rev, hN]
  constructor
  · intro e
    exact print_pz (by rw [pz_plus hdec, hdv, e])
  · intro e
    have hrv : (D' ++ [c] ++ [45]).reverse = 45 :: (D' ++ [c]).reverse := by rw [List.reverse_append]; rfl
    rw [hrv]
    exact print_pz (by show pz (45 :: (D' ++ [c]).reverse) = _; rw [pz_minus hdec hne, hdv, e])
theorem dg_all {D : List UInt8} {r : Nat} (h : D.all digB = true) (hr : r < 10) : (D ++ [UInt8.ofNat (48 + r)]).all digB = true := by
  rw [List.all_append, h]
  have := toNat_of8 (n := 48 + r) (by omega)
  simp [digB, this]
  omega
theorem u8w1 (t : Nat) : IntKind.u8.wrap (t : Int) = ((t % 256 : Nat) : Int) := by simp [IntKind.wrap, IntKind.bits, IntKind.signed]
theorem brow_set2 {w : World} {b n k : Nat} {Q L : List UInt8} (h : BRow w b n (brow (Q ++ L.drop k))) (hk : Q.length = k) (hL : k < L.length) (hn : k < n) (c : UInt8) {x : Int} (hx : x = (c.toNat : Int)) :
    BRow (w.setCell ⟨b, k, none⟩ (.int .u8 x)) b n (brow ((Q ++ [c]) ++ L.drop (k + 1))) :=
  (h.set hn _).congr fun j _ => by
    subst hx hk
    unfold brow
    by_cases e : j = Q.length
    · subst e
      rw [if_pos rfl, getD_app_lt (by simp), getD_app_ge (Nat.le_refl _), Nat.sub_self]; rfl
    · rw [if_neg e]
      rcases Nat.lt_or_ge j Q.length with h1 | h1
      · rw [getD_app_lt h1, getD_app_lt (by simp; omega), getD_app_lt h1]
      · rw [getD_app_ge h1, getD_app_ge (by simp; omega)]
        rw [List.getD_eq_getElem?_getD, List.getD_eq_getElem?_getD, List.getElem?_drop, List.getElem?_drop]
        have e1 : Q.length + (j - Q.length) = j := by omega
        have e2 : Q.length + 1 + (j - (Q ++ [c]).length) = j := by rw [List.length_append, List.length_singleton]; omega
        rw [e1, e2]
theorem own_ne {W : World} {b : Nat} {e : TypeId} {v : Value} {n : Nat} {xs : List Value} (h : W.ownsRow (b + 1) e 1 v n xs) : v.ownBlock = none ∨ v.ownBlock ≠ some b := by
  cases hv : v.ownBlock with
  | none => exact Or.inl rfl
  | some k =>
    have := (h.lt k hv).1
    exact Or.inr (fun e => by injection e with e; omega)
theorem sg_abs1 (z : Int) : (if sg z then -(z.natAbs : Int) else (z.natAbs : Int)) = z := by
  unfold sg
  by_cases h : z < 0
  · rw [decide_eq_true h]; simp; omega
  · rw [decide_eq_false h]; simp; omega
theorem rcan_p1 {g : Bool} {l : List UInt8} {z : Int} {w : World} (hl : l.length ≤ 1000000000) (hz : zv g ⟨l.toArray⟩ = z) :
    Calls Tryd.prog 21 #[.agg #[.bool g, .string ⟨l.toArray⟩]] w (IntOut w z) := hz ▸ rcanonical_any g l w hl
theorem bytesRow_size (l : List UInt8) (cap : Nat) : l.length ≤ (bytesRow ⟨l.toArray⟩ cap).size := by
  unfold bytesRow
  rw [Array.size_append]
  simp
set_option maxRecDepth 100000 in
set_option maxHeartbeats 6400000 in
theorem rprint_any (g : Bool) (l : List UInt8) (z : Int) (w : World) (hl : l.length ≤ 1000000) (hz : zv g ⟨l.toArray⟩ = z) :
    Calls Tryd.prog 9 #[.agg #[.bool g, .string ⟨l.toArray⟩]] w fun e w' => e = .returned (.string ⟨(prZ z).toArray⟩) ∧ Below w.heap.size w w' := by
  have Hz := Lib.hid hz
  have hL9 : (bytesOf z.natAbs).length ≤ 1000000 := by
    rw [← hz, natAbs_zv, ← trim_bytes]
    exact Nat.le_trans (stz_len _) hl
  clear hz
  have B0 := below1 w (.cells #[.bool g, .string ⟨l.toArray⟩] 23)
  have x1 : (w.alloc (.cells #[.bool g, .string ⟨l.toArray⟩] 23)).cell? ⟨w.heap.size, 0, none⟩ = some (.bool g) := by simp [go_sem]
  have x2 : (w.alloc (.cells #[.bool g, .string ⟨l.toArray⟩] 23)).cell? ⟨w.heap.size, 1, none⟩ = some (.string ⟨l.toArray⟩) := by simp [go_sem]
  have x3 : (w.alloc (.cells #[.bool g, .string ⟨l.toArray⟩] 23)).frozen? ⟨w.heap.size, 0, none⟩ = false := by simp [go_sem]
  have x4 : (w.alloc (.cells #[.bool g, .string ⟨l.toArray⟩] 23)).frozen? ⟨w.heap.size, 1, none⟩ = false := by simp [go_sem]
  go_enter Tryd.func9, Tryd.ntmps9
  go_wp2_with fail
  refine (rcan_p1 (by omega) Hz.out).mono ?_
  rintro e W1 ⟨rfl, b1⟩
  have y1 := cell_keep x1 b1
  have y2 := cell_keep x2 b1
  have y3 := frozen_keep x1 x3 b1
  have y4 := frozen_keep x2 x4 b1
  have B1 := below_more B0 (Nat.le_refl _) b1
  clear x1 x2 x3 x4 B0 b1
  have HB := Lib.hid (fun (u v : Value) => (B1.setCell (p := ⟨w.heap.size, 0, none⟩) (Nat.le_refl _) u).setCell (p := ⟨w.heap.size, 1, none⟩) (Nat.le_refl _) v)
  have hsz : w.heap.size < W1.heap.size := World.block_lt_of_cell? W1 ⟨w.heap.size, 0, none⟩ y1
  by_cases hz0 : z = 0
  · subst hz0
    have h1 : sg 0 = false := by decide
    have h2 : mg 0 = ⟨#[]⟩ := by unfold mg; rw [show (0 : Int).natAbs = 0 by rfl, bytesOf_zero]
    rw [h1, h2]
    have HP := Lib.hid (show prZ 0 = [48] from rfl)
    clear h1 h2
    go_wp2
    go_ret
    exact ⟨by rw [HP.out]; rfl, HB.out _ _⟩
  · obtain ⟨N, HN⟩ : ∃ N, Hid (z.natAbs = N) := ⟨_, Lib.hid rfl⟩
    have hN0 : N ≠ 0 := by rw [← HN.out]; omega
    have hm : mg z = ⟨(bytesOf N).toArray⟩ := by unfold mg; rw [HN.out]
    have hne : bytesOf N ≠ [] := fun e => hN0 (bytesOf_nil.1 e)
    have hv := Lib.hid (vB_bytesOf N)
    rw [HN.out] at hL9
    have hhead := Lib.hid (show (bytesOf N).head? ≠ some 0 by have h := head_trim (bytesOf N); rwa [trim_bytes, vB_bytesOf] at h)
    rw [hm]
    obtain ⟨G, HG⟩ : ∃ G, Hid (sg z = G) := ⟨_, Lib.hid rfl⟩
    rw [HG.out]
    generalize bytesOf N = L at *
    have hLe : (L == []) = false := beq_eq_false_iff_ne.2 hne
    have hcv := fun W => run_bytes_of_string (P := Tryd.prog) W 9 46 5 ⟨L.toArray⟩ Tryd.underlying9 Tryd.underlying46 Tryd.underlying5
    have hst : ∀ (W : World) (cap : Nat), BRow (W.alloc (.cells (bytesRow ⟨L.toArray⟩ cap) 5 ((bytesRow ⟨L.toArray⟩ cap).size, (bytesRow ⟨L.toArray⟩ cap).size + 1))) W.heap.size L.length (brow L) := fun W cap => BRow.made W L cap _ _ (bytesRow_size L cap)
    have Hst := Lib.hid hst
    have HY := Lib.hid y1
    clear hm hz0 hst
    obtain ⟨n, hn⟩ : ∃ n, L.length = n := ⟨_, rfl⟩
    have Hn := Lib.hid hn
    have hn6 : n ≤ 1000000 := by omega
    obtain ⟨bk, Hbk⟩ : ∃ b, Hid (W1.heap.size = b) := ⟨_, Lib.hid rfl⟩
    obtain ⟨W2, HW2⟩ : ∃ W2, Hid ((W1.setCell ⟨w.heap.size, 0, none⟩ (.bool G)).setCell ⟨w.heap.size, 1, none⟩ (.string ⟨L.toArray⟩) = W2) := ⟨_, Lib.hid rfl⟩
    have BW2 := HB.out (.bool G) (.string ⟨L.toArray⟩)
    rw [HW2.out] at BW2
    have hw2 : W2.heap.size = bk := by rw [← HW2.out, World.size_setCell, World.size_setCell]; exact Hbk.out
    have c2 : W2.cell? ⟨w.heap.size, 0, none⟩ = some (.bool G) := by rw [← HW2.out]; simp [go_sem, y1]
    have c3 : W2.cell? ⟨w.heap.size, 1, none⟩ = some (.string ⟨L.toArray⟩) := by rw [← HW2.out]; simp [go_sem, y1, y2]
    have hbk : w.heap.size < bk := by rw [← Hbk.out]; exact hsz
    obtain ⟨i0, hi, hz0, hz1, hz2⟩ := info_parts Tryd.infoU8
    clear hsz hL9 hne
    go_upto_region 2 with fail
    rw [HW2.out]
    clear y1 y2 y3 y4 B1 HB
    go_wp2_with fail
    have R0 := Hst.out W2 (grownCap W2 n 0 5)
    rw [hw2, Hn.out] at R0
    have C0 := cell_alloc_keep c2 (.cells (bytesRow ⟨L.toArray⟩ (grownCap W2 n 0 5)) 5 ((bytesRow ⟨L.toArray⟩ (grownCap W2 n 0 5)).size, (bytesRow ⟨L.toArray⟩ (grownCap W2 n 0 5)).size + 1))
    have B2 : Below w.heap.size w ((W2.alloc (.cells (bytesRow ⟨L.toArray⟩ (grownCap W2 n 0 5)) 5 ((bytesRow ⟨L.toArray⟩ (grownCap W2 n 0 5)).size, (bytesRow ⟨L.toArray⟩ (grownCap W2 n 0 5)).size + 1))).drew) := (BW2.alloc BW2.size _).drew
    clear hcv c2 c3 BW2 Hst
    go_loopg [3, 5] N (fun q s3 s5 wx => ∃ (D Lc : List UInt8) (a : Nat), s5 = .int .i64 (a : Int) ∧ a ≤ n ∧ Lc.length = n ∧ Hid (vB Lc = q ∧ vB (Lc.take a) = 0 ∧ (a < n → ∃ c, Lc[a]? = some c ∧ c ≠ 0) ∧ D.all digB = true ∧ N = q * 10 ^ D.length + dlow D ∧ (q = 0 → ∃ D' c, D = D' ++ [c] ∧ c.toNat ≠ 48) ∧ D.length ≤ 3000000) ∧ BRow wx bk n (brow Lc) ∧ wx.cell? ⟨w.heap.size, 0, none⟩ = some (.bool G) ∧ wx.ownsRow (bk + 1) 5 1 s3 D.length (bvs D) ∧ Below w.heap.size w wx ∧ bk < wx.heap.size)
    case atStart =>
      refine ⟨[], L, 0, rfl, Nat.zero_le _, Hn.out, ⟨hv.out, rfl, fun h => ?_, rfl, by simp [dlow], fun e => absurd e hN0, by simp⟩, R0.drew, C0, World.ownsRow_nil _ _ _ _, B2, R0.1⟩
      cases L with
      | nil => simp at hLe
      | cons c t => exact ⟨c, rfl, fun e => hhead.out (by rw [e]; rfl)⟩
    case round =>
      clear R0 C0 B2
      obtain ⟨D, Lc, a, rfl, han, hLc, HI, hrow, hc, hown, hbl, hbs⟩ := hrel
      by_cases ha : a < n
      · obtain ⟨c0, hc0, hc00⟩ := HI.out.2.2.1 ha
        have hq0 : gk ≠ 0 := by rw [← HI.out.1]; exact vB_pos hc0 hc00
        clear hc0 hc00
        obtain ⟨M, hM⟩ : ∃ M, M = gk := ⟨_, rfl⟩
        subst hM
        have HQ0 := Lib.hid hq0
        clear hq0
        go_wp2_with fail
        go_loopg [6, 7] (n - a) (fun q2 s6 s7 wx => ∃ (i r : Nat) (Q : List UInt8), i + q2 = n ∧ a ≤ i ∧ s7 = .int .i64 (i : Int) ∧ s6 = .int .i64 (r : Int) ∧ r < 10 ∧ Q.length = i ∧ Hid (vB (Lc.take i) = 10 * vB Q + r ∧ vB (Q.take a) = 0) ∧ BRow wx bk n (brow (Q ++ Lc.drop i)) ∧ wx.cell? ⟨w.heap.size, 0, none⟩ = some (.bool G) ∧ wx.ownsRow (bk + 1) 5 1 u3 D.length (bvs D) ∧ Below w.heap.size w wx ∧ bk < wx.heap.size)
        case atStart =>
          refine ⟨a, 0, Lc.take a, by omega, Nat.le_refl _, rfl, rfl, by omega, by rw [List.length_take]; omega, ⟨by rw [HI.out.2.1], by rw [List.take_take, Nat.min_self]; exact HI.out.2.1⟩, by rw [List.take_append_drop]; exact hrow, hc, hown, hbl, hbs⟩
        case round =>
          clear hrow hc hown hbl hbs
          obtain ⟨i, r, Q, hi2, hai, rfl, rfl, hr, hQ, HJ, hrow, hc, hown, hbl, hbs⟩ := hrel
          rcases gk with _ | q2
          · obtain rfl : i = n := by omega
            have hdr : Lc.drop i = [] := List.drop_eq_nil_of_le (by omega)
            rw [hdr, List.append_nil] at hrow
            obtain ⟨d, Hdd⟩ : ∃ d, Hid (UInt8.ofNat (48 + r) = d) := ⟨_, Lib.hid rfl⟩
            have hd48 : d.toNat = 48 + r := by rw [← Hdd.out]; exact toNat_of8 (by omega)
            have hM : M = 10 * vB Q + r := by
              have h := HJ.out.1
              rw [List.take_of_length_le (by omega), HI.out.1] at h
              exact h
            have hDl : D.length < 3000000 := by
              have h1 := HI.out.2.2.2.2.1
              have h2 : 1 * 10 ^ D.length ≤ M * 10 ^ D.length := Nat.mul_le_mul_right _ (by have := HQ0.out; omega)
              have h3 : N < 256 ^ i := by rw [← hv.out, ← Hn.out]; exact vB_lt L
              have h4 : (256 : Nat) ^ i ≤ 1000 ^ i := Nat.pow_le_pow_left (by omega) _
              have h5 : (1000 : Nat) ^ i = 10 ^ (3 * i) := by rw [show (1000 : Nat) = 10 ^ 3 by rfl, ← Nat.pow_mul]
              have h6 : 10 ^ D.length < 10 ^ (3 * i) := by omega
              have h7 := (Nat.pow_lt_pow_iff_right (show 1 < 10 by omega)).1 h6
              omega
            have HI2 := Lib.hid (show D ++ [d] = D ++ [d] ∧ (D ++ [d]).all digB = true ∧ N = vB Q * 10 ^ (D ++ [d]).length + dlow (D ++ [d]) ∧ (vB Q = 0 → ∃ D' c, D ++ [d] = D' ++ [c] ∧ c.toNat ≠ 48) ∧ (D ++ [d]).length ≤ 3000000 ∧ vB Q < M by
              obtain ⟨i1, i2, i3, i4, i5, i6, i7⟩ := HI.out
              refine ⟨rfl, by rw [← Hdd.out]; exact dg_all i4 hr, ?_, fun h0 => ⟨D, d, rfl, ?_⟩, by rw [List.length_append, List.length_singleton]; omega, ?_⟩
              · rw [dlow_snoc, hd48, List.length_append, List.length_singleton, Nat.pow_succ, i5, hM, Nat.add_mul]
                have e1 : 10 * vB Q * 10 ^ D.length = vB Q * (10 ^ D.length * 10) := by rw [Nat.mul_comm 10, Nat.mul_assoc, Nat.mul_comm 10]
                rw [e1, show 48 + r - 48 = r by omega]
                omega
              · have := HQ0.out
                rw [h0] at hM
                omega
              · have := HQ0.out
                omega)
            have hv48 := Lib.hid (show (48 + (r : Int)) = (d.toNat : Int) by rw [hd48]; omega)
            have hd48 := Lib.hid hd48
            have hlt := hown.lt
            have HZQ := Lib.hid HJ.out.2
            clear HJ HI hdr hM hi2 Hdd
            go_wp2_with (first | (at_builtin; refine wpList_append_own_at _ rfl _ _ 46 rfl (bk + 1) 5 i0 (.int .u8 0) 1 1 Tryd.underlying46 hi hz0 hz1 hz2 rfl (by decide) _ _ _ rfl (hown.alloc _) ⟨wr.heap.size, 0, none⟩ 1 1 [.int .u8 (48 + (r : Int))] rfl rfl ?c1 ?c2 ?c3 ?c4 ?c5 ?_))
            case c2 => rfl
            case c3 => unfold maxLen; omega
            case c4 => omega
            case c5 => omega
            · intro v' W4 hown2 hgrow _ hv'
              have hne : some bk ≠ u3.ownBlock := fun e => by have := (hlt _ e.symm).1; omega
              have hne2 : some w.heap.size ≠ u3.ownBlock := fun e => by have := (hlt _ e.symm).1; omega
              have hrow4 := (hrow.keep (below1 wr (.cells #[.int .u8 (48 + (r : Int))] 5))).grown hgrow hne
              have hc4 : W4.cell? ⟨w.heap.size, 0, none⟩ = some (.bool G) := cell_grown (cell_alloc_keep hc (.cells #[.int .u8 (48 + (r : Int))] 5)) hgrow hne2
              have hlt1 := (hown.alloc (.cells #[.int .u8 (48 + (r : Int))] 5)).lt
              have hbl4 : Below w.heap.size w W4 := ((hbl.alloc hbl.size _).grown hgrow (by rw [World.size_alloc]; have := hbl.size; omega) (fun k hk => by have := (hlt1 k hk).1; omega))
              have hbs4 : bk < W4.heap.size := hrow4.1
              rw [hv48.out, ← bvs_snoc] at hown2
              have hl : D.length + 1 = (D ++ [d]).length := by simp
              rw [hl] at hown2
              clear hrow hc hown hgrow hv' hlt hlt1 hbl hne hne2 hbs hl
              go_wp2_with fail
              go_loopg [5] (i - a) (fun q3 s5 wx => ∃ b : Nat, b + q3 = i ∧ s5 = .int .i64 (b : Int) ∧ Hid (vB (Q.take b) = 0) ∧ wx = W4)
              case atStart => exact ⟨a, by omega, rfl, HZQ, rfl⟩
              case round =>
                obtain ⟨b, hb, rfl, HB0, hwx⟩ := hrel
                subst hwx
                rcases gk with _ | q3
                · obtain rfl : b = i := by omega
                  clear hb
                  go_wp2_with fail
                  go_roundg (vB Q)
                  case measure => exact HI2.out.2.2.2.2.2
                  case rel => exact ⟨D ++ [d], Q, b, rfl, Nat.le_refl _, hQ, ⟨rfl, HB0.out, fun h => absurd h (by omega), HI2.out.2.1, HI2.out.2.2.1, HI2.out.2.2.2.1, HI2.out.2.2.2.2.1⟩, hrow4, hc4, hown2, hbl4, hbs4⟩
                · have Hb := Lib.hid hb
                  have hbi : b < i := by omega
                  obtain ⟨c, hcc⟩ : ∃ c, Q[b]? = some c := ⟨_, List.getElem?_eq_getElem (by omega)⟩
                  have hcell : wr.cell? ⟨bk, b, none⟩ = some (.int .u8 (c.toNat : Int)) := by rw [(hrow4.2 b hbi).1, brow_at hcc]
                  by_cases h0 : c = 0
                  · subst h0
                    have HB1 := Lib.hid (zero_more HB0.out hcc)
                    clear hb hcc
                    go_wp2_with fail
                    go_roundg q3
                    case measure => omega
                    case rel => exact ⟨b + 1, by have := Hb.out; omega, by go_num, HB1, rfl⟩
                  · have hcn : ((c.toNat : Int) == 0) = false := by
                      rw [beq_eq_false_iff_ne]
                      intro e
                      exact h0 (UInt8.toNat_inj.1 (by simpa using (by omega : c.toNat = 0)))
                    have HX := Lib.hid (show ∃ c, Q[b]? = some c ∧ c ≠ 0 from ⟨c, hcc, h0⟩)
                    clear hb hcc h0
                    go_wp2_with fail
                    go_roundg (vB Q)
                    case measure => exact HI2.out.2.2.2.2.2
                    case rel => exact ⟨D ++ [d], Q, b, rfl, Nat.le_of_lt hbi, hQ, ⟨rfl, HB0.out, fun _ => HX.out, HI2.out.2.1, HI2.out.2.2.1, HI2.out.2.2.2.1, HI2.out.2.2.2.2.1⟩, hrow4, hc4, hown2, hbl4, hbs4⟩
          · have Hi2 := Lib.hid hi2
            have hin : i < n := by omega
            obtain ⟨c, hcc⟩ : ∃ c, Lc[i]? = some c := ⟨_, List.getElem?_eq_getElem (by omega)⟩
            obtain ⟨hx1, hx2, hx3⟩ := dstep10 HJ.out.1 hcc hr
            have HX3 := Lib.hid hx3
            have hcell : wr.cell? ⟨bk, i, none⟩ = some (.int .u8 (c.toNat : Int)) := by
              rw [(hrow.2 i hin).1]
              unfold brow
              rw [getD_app_ge (by omega), hQ, Nat.sub_self, List.getD_eq_getElem?_getD, List.getElem?_drop, Nat.add_zero, hcc]; rfl
            have hf := (hrow.2 i hin).2
            have hc8 := c.toNat_lt
            have HZ := Lib.hid (show vB ((Q ++ [UInt8.ofNat ((r * 256 + c.toNat) / 10)]).take a) = 0 by rw [List.take_append_of_le_length (by omega)]; exact HJ.out.2)
            have w1 : IntKind.i64.wrap ((r : Int) * 256) = (r : Int) * 256 := IntWalk.i64_in _ (by omega)
            obtain ⟨x, Hx⟩ : ∃ x, Hid (r * 256 + c.toNat = x) := ⟨_, Lib.hid rfl⟩
            have ho : bits .or .i64 ((r : Int) * 256) ((c.toNat : Nat) : Int) = (x : Int) := by rw [← Hx.out]; exact i64_or_256 r c.toNat (by omega) (by omega)
            rw [Hx.out] at hx1 hx2 HX3 HZ
            obtain ⟨y, Hy⟩ : ∃ y, Hid (x / 10 = y) := ⟨_, Lib.hid rfl⟩
            obtain ⟨r2, Hr2⟩ : ∃ y, Hid (x % 10 = y) := ⟨_, Lib.hid rfl⟩
            have hq1 : Int.tdiv (x : Int) 10 = (y : Int) := by rw [← Hy.out]; rfl
            have hq2 : (x : Int) / 10 = (y : Int) := by rw [← Hy.out]; omega
            have hm1 : Int.tmod (x : Int) 10 = (r2 : Int) := by rw [← Hr2.out]; rfl
            have hm2 : (x : Int) % 10 = (r2 : Int) := by rw [← Hr2.out]; omega
            rw [Hy.out] at hx1 HX3 HZ
            rw [Hr2.out] at hx2 HX3
            have hwy : IntKind.u8.wrap (y : Int) = (y : Int) := by
              have h := u8w1 y
              rw [h, Nat.mod_eq_of_lt hx1]
            have HR := Lib.hid (show BRow (wr.setCell ⟨bk, i, none⟩ (.int .u8 (y : Int))) bk n (brow ((Q ++ [UInt8.ofNat y]) ++ Lc.drop (i + 1))) from brow_set2 hrow hQ (by omega) hin (UInt8.ofNat y) (by rw [toNat_of8 hx1]))
            have HO := Lib.hid (hown.kept (grown_set wr bk i (.int .u8 (y : Int))) (own_ne hown))
            have HC := Lib.hid (show (wr.setCell ⟨bk, i, none⟩ (.int .u8 (y : Int))).cell? ⟨w.heap.size, 0, none⟩ = some (.bool G) by rw [World.cell?_setCell_far _ _ _ _ (by dsimp only; omega)]; exact hc)
            clear hrow hown hc hi2 hcc hx3
            go_wp2_with fail
            go_roundg q2
            case measure => omega
            case rel => exact ⟨i + 1, r2, Q ++ [UInt8.ofNat y], by have := Hi2.out; omega, by omega, by go_num, rfl, hx2, by rw [List.length_append, hQ]; rfl, ⟨HX3.out, HZ.out⟩, HR.out, HC.out, HO.out, hbl.setCell (Nat.le_of_lt hbk) _, by rw [World.size_setCell]; exact hbs⟩
      · obtain rfl : a = n := by omega
        obtain ⟨D', c, hDD, hc48⟩ := HI.out.2.2.2.2.2.1 (by
          have h1 := HI.out.1
          have h2 := HI.out.2.1
          rw [List.take_of_length_le (by omega)] at h2
          omega)
        have hq0 : gk = 0 := by
          have h1 := HI.out.1
          have h2 := HI.out.2.1
          rw [List.take_of_length_le (by omega)] at h2
          omega
        have hND : dlow D = N := by
          have h := HI.out.2.2.2.2.1
          rw [hq0] at h
          omega
        have hDl := HI.out.2.2.2.2.2.2
        have HTX := Lib.hid (text_of (z := z) (N := N) (by rw [← hDD]; exact HI.out.2.2.2.1) hc48 (by rw [← hDD]; exact hND))
        rw [← hDD] at HTX
        have hD0 : D ≠ [] := by rw [hDD]; simp
        have hVz := Lib.hid (sg_abs1 z)
        rw [HG.out, HN.out] at hVz
        have hbs9 := hbs
        clear HI hDD hc48 hND hrow hn hbs
        cases G with
        | false =>
          have HT := Lib.hid (HTX.out.1 (by have h := hVz.out; simpa using h))
          obtain ⟨g0, cap, hu3, hbase, hrow2⟩ := own_row hown hD0
          subst hu3
          clear hown
          obtain ⟨m, hm⟩ : ∃ m, (D).length = m := ⟨_, rfl⟩
          rw [hm] at hrow2
          have hm0 : 0 < m := by rw [← hm]; exact List.length_pos_iff.2 hD0
          have hm9 : m ≤ 3000001 := by
            have h9 := hm
            first
              | omega
              | (rw [List.length_append, List.length_singleton] at h9; omega)
          have Hm := Lib.hid hm
          rw [hm]
          clear hm
          go_wp2_with fail
          go_loopg [8, 9] m (fun q s8 s9 wx => ∃ i k : Nat, i + k + 1 = m ∧ q = k + 1 ∧ i ≤ k + 1 ∧ s8 = .int .i64 (i : Int) ∧ s9 = .int .i64 (k : Int) ∧ BRow wx g0 m (rrow (D) i) ∧ Below w.heap.size w wx)
          case atStart => exact ⟨0, m - 1, by omega, by omega, by omega, rfl, by congr 1 <;> omega, hrow2.congr (fun p hp => rrow_zero _ (by rw [Hm.out]; exact hp)), hbl⟩
          case round =>
            clear hrow2 hbl
            obtain ⟨i, k, hik1, rfl, hik2, rfl, rfl, hrow2, hbl⟩ := hrel
            by_cases hik : i < k
            · obtain ⟨k, rfl⟩ : ∃ k', k = k' + 1 := ⟨k - 1, by omega⟩
              obtain ⟨x, hx⟩ : ∃ x : Nat, brow (D) i = .int .u8 (x : Int) := ⟨_, rfl⟩
              obtain ⟨y, hy⟩ : ∃ x : Nat, brow (D) (k + 1) = .int .u8 (x : Int) := ⟨_, rfl⟩
              have hc1 : wr.cell? ⟨g0, i, none⟩ = some (.int .u8 (x : Int)) := by
                rw [(hrow2.2 i (by omega)).1, rrow, if_neg (by rw [Hm.out]; omega), hx]
              have hc2 : wr.cell? ⟨g0, k + 1, none⟩ = some (.int .u8 (y : Int)) := by
                rw [(hrow2.2 (k + 1) (by omega)).1, rrow, if_neg (by rw [Hm.out]; omega), hy]
              have hf1 := (hrow2.2 i (by omega)).2
              have hf2 := (hrow2.2 (k + 1) (by omega)).2
              have HS := Lib.hid (show BRow ((wr.setCell ⟨g0, i, none⟩ (.int .u8 (y : Int))).setCell ⟨g0, k + 1, none⟩ (.int .u8 (x : Int))) g0 m (rrow (D) (i + 1)) by
                have h := rrow_step (W := wr) (g := g0) (i := i) (k := k + 1) (D := D) (by rw [Hm.out]; exact hrow2) (by rw [Hm.out]; omega) hik
                rw [hx, hy, Hm.out] at h
                exact h)
              have Hik := Lib.hid hik1
              have hne9 : i ≠ k + 1 := by omega
              have hle1 : i < m := by omega
              have hle2 : k + 1 < m := by omega
              clear hik1 hx hy hrow2
              go_upto_region 23 with fail
              go_big_region
              all_goals
                go_wp2_with fail
                go_roundg (k + 1)
                case measure => omega
                case rel => exact ⟨i + 1, k, by have := Hik.out; omega, rfl, by omega, by go_num, by go_num, HS.out.drew, ((hbl.setCell (by dsimp only; omega) _).setCell (by dsimp only; omega) _).drew⟩
            · have hcells : BRow wr g0 m (brow (D).reverse) := hrow2.congr (fun p hp => rrow_end (by rw [Hm.out]; exact hik1) hik (by rw [Hm.out]; exact hp))
              have hcv := run_string_of wr g0 0 cap (D).reverse (fun i u hu => brow_cells hcells (by rw [List.length_reverse, Hm.out]) i u hu)
              rw [List.length_reverse, Hm.out] at hcv
              obtain ⟨T, HT9⟩ : ∃ T, Hid ((D).reverse = T) := ⟨_, Lib.hid rfl⟩
              rw [HT9.out] at hcv
              clear hik1 hrow2 hcells
              go_wp2_with fail
              go_ret
              exact ⟨by rw [HT.out, HT9.out]; rfl, hbl⟩
        | true =>
          have HT := Lib.hid (HTX.out.2 (by have h := hVz.out; simpa using h))
          have hlt := hown.lt
          go_wp2_with (first | (at_builtin; refine wpList_append_own_at _ rfl _ _ 46 rfl (bk + 1) 5 i0 (.int .u8 0) 1 1 Tryd.underlying46 hi hz0 hz1 hz2 rfl (by decide) _ _ _ rfl (hown.alloc _) ⟨wr.heap.size, 0, none⟩ 1 1 [.int .u8 45] rfl rfl ?d1 ?d2 ?d3 ?d4 ?d5 ?_))
          case d2 => rfl
          case d3 => unfold maxLen; omega
          case d4 => omega
          case d5 => have := hbl.size; first | omega | exact Nat.le_of_lt hbs9
          · intro v' W4 hown2 hgrow _ hv'
            have hlt1 := (hown.alloc (.cells #[.int .u8 45] 5)).lt
            have hbl := ((hbl.alloc hbl.size _).grown hgrow (by rw [World.size_alloc]; have := hbl.size; omega) (fun k hk => by have := (hlt1 k hk).1; omega))
            rw [show ([.int .u8 45] : List Value) = [.int .u8 (((45 : UInt8).toNat : Nat) : Int)] from rfl, ← bvs_snoc] at hown2
            have hl : D.length + 1 = (D ++ [45]).length := by simp
            rw [hl] at hown2
            have hD0 : D ++ [45] ≠ [] := by simp
            obtain ⟨g0, cap, hu3, hbase, hrow2⟩ := own_row hown2 hD0
            subst hu3
            clear hown hown2 hgrow hv' hlt hlt1 hl
            obtain ⟨m, hm⟩ : ∃ m, (D ++ [45]).length = m := ⟨_, rfl⟩
            rw [hm] at hrow2
            have hm0 : 0 < m := by rw [← hm]; exact List.length_pos_iff.2 hD0
            have hm9 : m ≤ 3000001 := by
              have h9 := hm
              first
                | omega
                | (rw [List.length_append, List.length_singleton] at h9; omega)
            have Hm := Lib.hid hm
            rw [hm]
            clear hm
            go_wp2_with fail
            go_loopg [8, 9] m (fun q s8 s9 wx => ∃ i k : Nat, i + k + 1 = m ∧ q = k + 1 ∧ i ≤ k + 1 ∧ s8 = .int .i64 (i : Int) ∧ s9 = .int .i64 (k : Int) ∧ BRow wx g0 m (rrow (D ++ [45]) i) ∧ Below w.heap.size w wx)
            case atStart => exact ⟨0, m - 1, by omega, by omega, by omega, rfl, by congr 1 <;> omega, hrow2.congr (fun p hp => rrow_zero _ (by rw [Hm.out]; exact hp)), hbl⟩
            case round =>
              clear hrow2 hbl
              obtain ⟨i, k, hik1, rfl, hik2, rfl, rfl, hrow2, hbl⟩ := hrel
              by_cases hik : i < k
              · obtain ⟨k, rfl⟩ : ∃ k', k = k' + 1 := ⟨k - 1, by omega⟩
                obtain ⟨x, hx⟩ : ∃ x : Nat, brow (D ++ [45]) i = .int .u8 (x : Int) := ⟨_, rfl⟩
                obtain ⟨y, hy⟩ : ∃ x : Nat, brow (D ++ [45]) (k + 1) = .int .u8 (x : Int) := ⟨_, rfl⟩
                have hc1 : wr.cell? ⟨g0, i, none⟩ = some (.int .u8 (x : Int)) := by
                  rw [(hrow2.2 i (by omega)).1, rrow, if_neg (by rw [Hm.out]; omega), hx]
                have hc2 : wr.cell? ⟨g0, k + 1, none⟩ = some (.int .u8 (y : Int)) := by
                  rw [(hrow2.2 (k + 1) (by omega)).1, rrow, if_neg (by rw [Hm.out]; omega), hy]
                have hf1 := (hrow2.2 i (by omega)).2
                have hf2 := (hrow2.2 (k + 1) (by omega)).2
                have HS := Lib.hid (show BRow ((wr.setCell ⟨g0, i, none⟩ (.int .u8 (y : Int))).setCell ⟨g0, k + 1, none⟩ (.int .u8 (x : Int))) g0 m (rrow (D ++ [45]) (i + 1)) by
                  have h := rrow_step (W := wr) (g := g0) (i := i) (k := k + 1) (D := D ++ [45]) (by rw [Hm.out]; exact hrow2) (by rw [Hm.out]; omega) hik
                  rw [hx, hy, Hm.out] at h
                  exact h)
                have Hik := Lib.hid hik1
                have hne9 : i ≠ k + 1 := by omega
                have hle1 : i < m := by omega
                have hle2 : k + 1 < m := by omega
                clear hik1 hx hy hrow2
                go_upto_region 23 with fail
                go_big_region
                all_goals
                  go_wp2_with fail
                  go_roundg (k + 1)
                  case measure => omega
                  case rel => exact ⟨i + 1, k, by have := Hik.out; omega, rfl, by omega, by go_num, by go_num, HS.out.drew, ((hbl.setCell (by dsimp only; omega) _).setCell (by dsimp only; omega) _).drew⟩
              · have hcells : BRow wr g0 m (brow (D ++ [45]).reverse) := hrow2.congr (fun p hp => rrow_end (by rw [Hm.out]; exact hik1) hik (by rw [Hm.out]; exact hp))
                have hcv := run_string_of wr g0 0 cap (D ++ [45]).reverse (fun i u hu => brow_cells hcells (by rw [List.length_reverse, Hm.out]) i u hu)
                rw [List.length_reverse, Hm.out] at hcv
                obtain ⟨T, HT9⟩ : ∃ T, Hid ((D ++ [45]).reverse = T) := ⟨_, Lib.hid rfl⟩
                rw [HT9.out] at hcv
                clear hik1 hrow2 hcells
                go_wp2_with fail
                go_ret
                exact ⟨by rw [HT.out, HT9.out]; rfl, hbl⟩
end Go.Proofs.YtfcdekkoeeaolaaDoor

namespace Go.Proofs.YtfcdekkoeeaolaaDoor
open Go.RowKit
set_option linter.unusedSimpArgs false
set_option linter.unusedVariables false

theorem dv_step {l : List UInt8} {k : Nat} {c : UInt8} (h : l[k]? = some c) : dv (l.take (k + 1)) = 10 * dv (l.take k) + (c.toNat - 48) := by
  rw [List.take_add_one, h]
  unfold dv
  rw [List.foldl_append]; rfl
theorem ten8_step {s g : Nat → Nat} {k y t D : Nat} (hv : w8 s k + y * 256 ^ k = 10 * w8 g k + D) (ht : t = y + 10 * g k) :
    w8 (upd s k (t % 256)) (k + 1) + t / 256 * 256 ^ (k + 1) = 10 * w8 g (k + 1) + D := by
  rw [w8_upd, w8, Nat.pow_succ]
  have h2 := Nat.div_add_mod t 256
  generalize 256 ^ k = P at *
  generalize t / 256 = a at *
  generalize t % 256 = r at *
  have h4 : (256 * a + r) * P = (y + 10 * g k) * P := by rw [h2, ht]
  rw [Nat.add_mul, Nat.add_mul] at h4
  have h5 : a * (P * 256) = 256 * a * P := by rw [Nat.mul_comm P, ← Nat.mul_assoc, Nat.mul_comm a]
  have h6 : 10 * (g k * P) = 10 * g k * P := (Nat.mul_assoc _ _ _).symm
  rw [h5, Nat.mul_add, h6]
  omega
theorem u8w (t : Nat) : IntKind.u8.wrap (t : Int) = ((t % 256 : Nat) : Int) := by simp [IntKind.wrap, IntKind.bits, IntKind.signed]
theorem cut_cases (l : List UInt8) : l = [] ∨ (∃ t, l = 45 :: t ∧ cutD l = t ∧ cutN l = true) ∨ (∃ b t, l = b :: t ∧ b ≠ 45 ∧ cutD l = l ∧ cutN l = false) := by
  cases l with
  | nil => exact Or.inl rfl
  | cons b t =>
    by_cases h : b = 45
    · subst h; exact Or.inr (Or.inl ⟨t, rfl, (cut_minus t).1, (cut_minus t).2⟩)
    · refine Or.inr (Or.inr ⟨b, t, rfl, h, ?_, ?_⟩)
      · unfold cutD Lib.trimPrefix; rw [if_neg]; simp [Lib.hasPrefix, List.isPrefixOf, h]; exact fun e => h e.symm
      · unfold cutN; simp [Lib.hasPrefix, List.isPrefixOf, h]; exact fun e => h e.symm
theorem pz_none1 {l : List UInt8} (h : isDec (cutD l) = false) : pz l = none := by unfold pz; rw [if_pos (Or.inl h)]
theorem pz_lead {l r : List UInt8} {c : UInt8} (hd : cutD l = c :: r) (hc : c.toNat = 48) (hl : 1 < l.length) : pz l = none := by
  unfold pz
  by_cases hr : r = []
  · subst hr
    have hN : cutN l = true := by
      rcases cut_cases l with rfl | ⟨t, rfl, h1, h2⟩ | ⟨b, t, rfl, h0, h1, h2⟩
      · simp at hl
      · exact h2
      · rw [h1] at hd
        injection hd with h3 h4
        subst h4
        simp at hl
    have hc2 : c = 48 := UInt8.toNat_inj.1 (by simpa using hc)
    rw [if_pos (Or.inr ⟨hN, by rw [hd, hc2]⟩)]
  · rw [if_pos (Or.inl (by rw [hd, isDec_cons]; simp [hr, hc]))]
theorem pz_good {l r : List UInt8} {c : UInt8} (hd : cutD l = c :: r) (h : ¬ (c.toNat = 48 ∧ 1 < l.length)) (ha : (cutD l).all digB = true) : pz l = some (if cutN l then -(dv (cutD l) : Int) else (dv (cutD l) : Int)) := by
  unfold pz
  rw [if_neg]
  rintro (h1 | ⟨h1, h2⟩)
  · rw [hd] at ha h1
    rw [isDec_cons, ha, Bool.and_true] at h1
    have h3 : r ≠ [] ∧ c.toNat = 48 := by simpa using h1
    apply h
    refine ⟨h3.2, ?_⟩
    have h4 := cutD_len l
    have h5 : 0 < r.length := List.length_pos_iff.2 h3.1
    rw [hd, List.length_cons] at h4
    omega
  · rw [hd] at h2
    injection h2 with h3 h4
    apply h
    refine ⟨by rw [h3]; rfl, ?_⟩
    rcases cut_cases l with rfl | ⟨t, rfl, h5, h6⟩ | ⟨b, t, rfl, h0, h5, h6⟩
    · simp [cutN, Lib.hasPrefix] at h1
    · rw [h5] at hd; rw [hd]; simp
    · rw [h6] at h1; cases h1
set_option maxRecDepth 100000 in
set_option maxHeartbeats 3200000 in
theorem rparse_limit (s : ByteArray) (w : World) (hs : 65536 < s.size) (hs2 : s.size ≤ 9223372036854775807) :
    Calls Tryd.prog 7 #[.string s] w (FailOut w 4) := by
  have hr := ResCell.new w 23
  obtain ⟨r1, r2, r3, r4⟩ := hr
  have hb := below1 w (.cells #[.bool false, .string ⟨#[]⟩] 23)
  go_enter Tryd.func7, Tryd.ntmps7
  go_wp2_with fail
  exact bodyPost_ret (v := .tuple #[.agg #[.bool false, .string ⟨#[]⟩], .int .i64 4]) (by simp [results, Tryd.results7, go_sem, r1, r2]) rfl ⟨rfl, (by first | exact hb | exact (hb.setCell (Nat.le_refl _) _).setCell (Nat.le_refl _) _)⟩
theorem rcan_p {g : Bool} {l : List UInt8} {z : Int} {w : World} (hl : l.length ≤ 1000000000) (hz : zv g ⟨l.toArray⟩ = z) :
    Calls Tryd.prog 21 #[.agg #[.bool g, .string ⟨l.toArray⟩]] w (IntOut w z) := hz ▸ rcanonical_any g l w hl
set_option maxRecDepth 100000 in
set_option maxHeartbeats 6400000 in
theorem rparse_any (l : List UInt8) (w : World) (hl : l.length ≤ 65536) :
    Calls Tryd.prog 7 #[.string ⟨l.toArray⟩] w (ParseOut w (pz l)) := by
  have hr := ResCell.new w 23
  have hb := below1 w (.cells #[.bool false, .string ⟨#[]⟩] 23)
  obtain ⟨d, Hd⟩ : ∃ d, Hid (cutD l = d) := ⟨_, Lib.hid rfl⟩
  obtain ⟨g, Hg⟩ : ∃ g, Hid (cutN l = g) := ⟨_, Lib.hid rfl⟩
  have hcase : (l = [] ∧ d = []) ∨ (l = 45 :: d ∧ g = true) ∨ (∃ b : UInt8, l[0]? = some b ∧ ((b.toNat : Int) == 45) = false ∧ d = l ∧ g = false) := by
    rcases cut_cases l with rfl | ⟨t, rfl, h1, h2⟩ | ⟨b, t, rfl, h0, h1, h2⟩
    · exact Or.inl ⟨rfl, by rw [← Hd.out]; rfl⟩
    · exact Or.inr (Or.inl ⟨by rw [← Hd.out, h1], by rw [← Hg.out, h2]⟩)
    · refine Or.inr (Or.inr ⟨b, rfl, ?_, by rw [← Hd.out, h1], by rw [← Hg.out, h2]⟩)
      rw [beq_eq_false_iff_ne]
      intro e
      exact h0 (UInt8.toNat_inj.1 (by simpa using (by omega : b.toNat = 45)))
  rcases hcase with ⟨rfl, rfl⟩ | hcase
  · have HP := Lib.hid (pz_none1 (l := []) (by rw [Hd.out]; rfl))
    obtain ⟨r1, r2, r3, r4⟩ := hr
    go_enter Tryd.func7, Tryd.ntmps7
    go_wp2_with fail
    exact bodyPost_ret (v := .tuple #[.agg #[.bool false, .string ⟨#[]⟩], .int .i64 3]) (by simp [results, Tryd.results7, go_sem, r1, r2]) rfl (by rw [HP.out]; exact ⟨rfl, (by first | exact hb | exact (hb.setCell (Nat.le_refl _) _).setCell (Nat.le_refl _) _)⟩)
  have Hlen := Lib.hid (show (d.length < l.length ∧ g = true) ∨ (d.length = l.length ∧ g = false) by
    rcases hcase with ⟨rfl, rfl⟩ | ⟨b, h0, hb, rfl, rfl⟩
    · exact Or.inl ⟨by simp, rfl⟩
    · exact Or.inr ⟨rfl, rfl⟩)
  have hdl : d.length ≤ 65536 := by have := cutD_len l; rw [Hd.out] at this; omega
  have hfirst : (∃ v : Int, (v == 45) = true ∧ (∀ W : World, (Instr.index 9 (.string ⟨l.toArray⟩) (.int .i64 0)).run Tryd.prog W = .ok (.int .u8 v) W) ∧ (∀ W : World, (Instr.slice 9 (.string ⟨l.toArray⟩) (some (.int .i64 1)) none none).run Tryd.prog W = .ok (.string ⟨d.toArray⟩) W)) ∨ (∃ v : Int, (v == 45) = false ∧ (∀ W : World, (Instr.index 9 (.string ⟨l.toArray⟩) (.int .i64 0)).run Tryd.prog W = .ok (.int .u8 v) W) ∧ d = l) := by
    rcases hcase with ⟨rfl, rfl⟩ | ⟨b, h0, hb, rfl, rfl⟩
    · exact Or.inl ⟨45, rfl, run_index_bytes (45 :: d) 0 45 rfl 0 (by simp), run_tail_bytes 45 d⟩
    · exact Or.inr ⟨b.toNat, hb, run_index_bytes d 0 b h0 0 (by simp), rfl⟩
  have hlp : 0 < l.length := by
    rcases hcase with ⟨rfl, rfl⟩ | ⟨b, h0, hb, rfl, rfl⟩
    · simp
    · rcases Nat.eq_zero_or_pos d.length with h | h
      · rw [List.getElem?_eq_none (by omega)] at h0; cases h0
      · exact h
  clear hcase
  by_cases hd0 : d = []
  · have HP := Lib.hid (pz_none1 (l := l) (by rw [Hd.out, hd0]; rfl))
    obtain ⟨r1, r2, r3, r4⟩ := hr
    subst hd0
    rcases hfirst with ⟨v, hv, hix, htl⟩ | ⟨v, hv, hix, rfl⟩
    · go_enter Tryd.func7, Tryd.ntmps7
      go_wp2_with fail
      exact bodyPost_ret (v := .tuple #[.agg #[.bool false, .string ⟨#[]⟩], .int .i64 3]) (by simp [results, Tryd.results7, go_sem, r1, r2]) rfl (by rw [HP.out]; exact ⟨rfl, (by first | exact hb | exact (hb.setCell (Nat.le_refl _) _).setCell (Nat.le_refl _) _)⟩)
    · simp at hlp
  obtain ⟨c, r, hcr⟩ : ∃ c r, d = c :: r := by
    cases d with
    | nil => exact absurd rfl hd0
    | cons c r => exact ⟨c, r, rfl⟩
  have Hcr := Lib.hid hcr
  have hix2 := run_index_bytes d 0 c (by rw [hcr]; rfl) 0 (by simp)
  have hdn : (d == []) = false := beq_eq_false_iff_ne.2 hd0
  have hc8 := c.toNat_lt
  have hdp : 0 < d.length := by rw [hcr]; simp
  clear hcr hd0
  by_cases hlead : c.toNat = 48 ∧ 1 < l.length
  · have HP := Lib.hid (pz_lead (Hd.out.trans Hcr.out) hlead.1 hlead.2)
    obtain ⟨r1, r2, r3, r4⟩ := hr
    obtain ⟨hc48, hl1⟩ := hlead
    rw [hc48] at hix2
    rcases hfirst with ⟨v, hv, hix, htl⟩ | ⟨v, hv, hix, rfl⟩
    rotate_left
    · clear hix hv
      have hv : ((c.toNat : Int) == 45) = false := by rw [hc48]; rfl
      rw [hc48] at hv
      go_enter Tryd.func7, Tryd.ntmps7
      go_wp2_with fail
      exact bodyPost_ret (v := .tuple #[.agg #[.bool false, .string ⟨#[]⟩], .int .i64 3]) (by simp [results, Tryd.results7, go_sem, r1, r2]) rfl (by rw [HP.out]; exact ⟨rfl, (by first | exact hb | exact (hb.setCell (Nat.le_refl _) _).setCell (Nat.le_refl _) _)⟩)
    all_goals
      go_enter Tryd.func7, Tryd.ntmps7
      go_wp2_with fail
      exact bodyPost_ret (v := .tuple #[.agg #[.bool false, .string ⟨#[]⟩], .int .i64 3]) (by simp [results, Tryd.results7, go_sem, r1, r2]) rfl (by rw [HP.out]; exact ⟨rfl, (by first | exact hb | exact (hb.setCell (Nat.le_refl _) _).setCell (Nat.le_refl _) _)⟩)
  have HL := Lib.hid hlead
  have hc48 : ((c.toNat : Int) == 48) = false ∨ (((c.toNat : Int) == 48) = true ∧ l.length = 1) := by
    by_cases h : c.toNat = 48
    · refine Or.inr ⟨by rw [h]; rfl, ?_⟩
      have h1 : ¬ 1 < l.length := fun e => hlead ⟨h, e⟩
      omega
    · exact Or.inl (by rw [beq_eq_false_iff_ne]; omega)
  clear hlead
  have hmain : ((∃ v : Int, (v == 45) = true ∧ (∀ W : World, (Instr.index 9 (.string ⟨l.toArray⟩) (.int .i64 0)).run Tryd.prog W = .ok (.int .u8 v) W) ∧ (∀ W : World, (Instr.slice 9 (.string ⟨l.toArray⟩) (some (.int .i64 1)) none none).run Tryd.prog W = .ok (.string ⟨d.toArray⟩) W)) ∧ ((c.toNat : Int) == 48) = false) ∨ (∃ v : Int, (v == 45) = false ∧ (∀ W : World, (Instr.index 9 (.string ⟨l.toArray⟩) (.int .i64 0)).run Tryd.prog W = .ok (.int .u8 v) W) ∧ d = l ∧ (((c.toNat : Int) == 48) = false ∨ (((c.toNat : Int) == 48) = true ∧ l.length = 1))) := by
    rcases hfirst with h | ⟨v, h1, h2, h3⟩
    · refine Or.inl ⟨h, ?_⟩
      rcases hc48 with h4 | ⟨h4, h5⟩
      · exact h4
      · exfalso
        rcases Hlen.out with ⟨h6, _⟩ | ⟨h6, h7⟩
        · omega
        · obtain ⟨v, hv, hix, htl⟩ := h
          have h8 := cut_cases l
          rcases h8 with rfl | ⟨t, rfl, a1, a2⟩ | ⟨b, t, rfl, a0, a1, a2⟩
          · simp at hlp
          · rw [Hg.out] at a2; rw [h7] at a2; cases a2
          · have a3 := hix w
            rw [run_index_bytes (b :: t) 0 b rfl 0 (by simp) w] at a3
            injection a3 with a3
            injection a3 with a3 a4
            rw [← a4] at hv
            have : (b.toNat : Int) = 45 := by simpa using hv
            exact a0 (UInt8.toNat_inj.1 (by simpa using (by omega : b.toNat = 45)))
    · exact Or.inr ⟨v, h1, h2, h3, hc48⟩
  clear hfirst hc48
  have hsame : d = l → ∀ v : Int, (∀ W : World, (Instr.index 9 (.string ⟨l.toArray⟩) (.int .i64 0)).run Tryd.prog W = .ok (.int .u8 v) W) → v = (c.toNat : Int) := by
    rintro rfl v h
    have a3 := h w
    rw [hix2 w] at a3
    injection a3 with a3
    injection a3 with a3 a4
    exact a4.symm
  rcases hmain with ⟨⟨v, hv, hix, htl⟩, hc48⟩ | ⟨v, hv, hix, hdl2, hc48 | ⟨hc48, hl1⟩⟩
  · clear hsame
    go_enter Tryd.func7, Tryd.ntmps7
    go_upto_region 8 with fail
    clear hv hc48 hix2 hix htl
    obtain ⟨WA, hWA⟩ : ∃ WA, w.alloc (.cells #[.bool false, .string ⟨#[]⟩] 23) = WA := ⟨_, rfl⟩
    rw [hWA] at hr hb ⊢
    obtain ⟨n, hn⟩ : ∃ n, d.length = n := ⟨_, rfl⟩
    rw [hn] at hdl hdp
    go_wp2_with fail
    go_loopg [5] n (fun q s5 wx => ∃ k : Nat, k + q = n ∧ s5 = .int .i64 (k : Int) ∧ wx = WA ∧ Hid ((d.take k).all digB = true))
    case atStart => exact ⟨0, by omega, rfl, rfl, rfl⟩
    case round =>
      obtain ⟨k, hk, rfl, hwx, HA⟩ := hrel
      subst hwx
      rcases gk with _ | q
      · obtain rfl : k = n := by omega
        have Hall := Lib.hid (show d.all digB = true by have h := HA.out; rwa [List.take_of_length_le (by omega)] at h)
        have hmk := run_make_row' (P := Tryd.prog) 46 5 (.int .u8 0) 1 Tryd.underlying46 Tryd.infoU8 rfl .i64 .i64 k (by omega) (by omega)
        obtain ⟨n, hkn⟩ : ∃ n, k = n := ⟨_, rfl⟩
        subst hkn
        obtain ⟨wo, rfl⟩ : ∃ wo : World, wo = wr := ⟨_, rfl⟩
        clear HA hk hWA
        go_wp2_with fail
        clear hmk
        go_loopg [7, 8] k (fun q s7 s8 wx => ∃ (i u : Nat) (p : Nat → Nat), i + q = k ∧ u ≤ i ∧ s8 = .int .i64 (i : Int) ∧ s7 = .int .i64 (u : Int) ∧ Dig8 p k ∧ (∀ j, u ≤ j → p j = 0) ∧ Hid (w8 p u = dv (d.take i)) ∧ wx.rowIs wo.heap.size 5 k (rowR k p) ∧ Below wo.heap.size wo wx)
        case atStart => exact ⟨0, 0, fun _ => 0, by omega, by omega, rfl, rfl, fun i _ => (by omega : (0 : Nat) < 256), fun _ _ => rfl, by show _ = _; rfl, (World.rowIs_made wo _ k _).congr (fun i _ => by simp [rowR]), below1 wo _⟩
        case round =>
          obtain ⟨i, u, p, hi, hui, rfl, rfl, dp, hz, HV, hrow, hbl⟩ := hrel
          rcases gk with _ | q
          · obtain rfl : i = k := by omega
            have hfin : w8 p i = dv d := by
              have h := HV.out
              rw [List.take_of_length_le (by omega)] at h
              rw [← h]
              exact w8_zeros p hui hz
            have hcv := run_string_of wr wo.heap.size 0 i (bl p i) (fun i u hu => rowR_cell hrow dp i u hu)
            rw [bl_len] at hcv
            have HT := Lib.hid (show vB (bl p i) = dv d by rw [vB_bl dp, hfin])
            have hTl : (bl p i).length ≤ 65536 := by rw [bl_len]; omega
            have HR := Lib.hid (hr.keep hbl)
            have HB := Lib.hid (below_more hb (Nat.le_refl _) hbl)
            have HP := Lib.hid (pz_good (Hd.out.trans Hcr.out) HL.out (by rw [Hd.out]; exact Hall.out))
            rw [Hd.out, Hg.out] at HP
            generalize bl p i = T at *
            clear hrow dp hz HV hfin hr hb hbl
            rcases Hlen.out with ⟨hlt, rfl⟩ | ⟨hlt, rfl⟩
            · obtain ⟨z, Hz⟩ : ∃ z, Hid (zv true ⟨T.toArray⟩ = z) := ⟨_, Lib.hid rfl⟩
              have HP2 := Lib.hid (show pz l = some z by
                rw [HP.out, ← Hz.out]
                show some _ = some (zv _ ⟨T.toArray⟩)
                unfold zv
                rw [show (⟨T.toArray⟩ : ByteArray).data.toList = T from rfl, HT.out])
              clear HP
              go_wp2_with fail
              rw [show decide (i < l.length) = true from decide_eq_true (by omega)]
              (with_reducible refine (rcan_p (by omega) Hz.out).mono ?_)
              rintro e W2 ⟨rfl, b2⟩
              obtain ⟨r1, r2, r3, r4⟩ := HR.out.keep b2
              go_wp2_with fail
              exact bodyPost_ret (v := .tuple #[.agg #[.bool (sg z), .string (mg z)], .int .i64 0]) (by simp [results, Tryd.results7, go_sem, r1, r2, r3, r4]) rfl (by rw [HP2.out]; exact ⟨rfl, ((below_more HB.out (Nat.le_refl _) b2).setCell (Nat.le_refl _) _).setCell (Nat.le_refl _) _⟩)
            · obtain ⟨z, Hz⟩ : ∃ z, Hid (zv false ⟨T.toArray⟩ = z) := ⟨_, Lib.hid rfl⟩
              have HP2 := Lib.hid (show pz l = some z by
                rw [HP.out, ← Hz.out]
                show some _ = some (zv _ ⟨T.toArray⟩)
                unfold zv
                rw [show (⟨T.toArray⟩ : ByteArray).data.toList = T from rfl, HT.out])
              clear HP
              go_wp2_with fail
              rw [show decide (i < l.length) = false from decide_eq_false (by omega)]
              (with_reducible refine (rcan_p (by omega) Hz.out).mono ?_)
              rintro e W2 ⟨rfl, b2⟩
              obtain ⟨r1, r2, r3, r4⟩ := HR.out.keep b2
              go_wp2_with fail
              exact bodyPost_ret (v := .tuple #[.agg #[.bool (sg z), .string (mg z)], .int .i64 0]) (by simp [results, Tryd.results7, go_sem, r1, r2, r3, r4]) rfl (by rw [HP2.out]; exact ⟨rfl, ((below_more HB.out (Nat.le_refl _) b2).setCell (Nat.le_refl _) _).setCell (Nat.le_refl _) _⟩)
          · have Hi := Lib.hid hi
            have hik : i < k := by omega
            obtain ⟨c2, hc2⟩ : ∃ c2, d[i]? = some c2 := ⟨_, List.getElem?_eq_getElem (by omega)⟩
            have hix3 := run_index_bytes d i c2 hc2 (i : Int) rfl
            have hd2 := dig_at Hall.out hc2
            have HS := Lib.hid (dv_step hc2)
            obtain ⟨D, HD⟩ : ∃ D, Hid (c2.toNat - 48 = D) := ⟨_, Lib.hid rfl⟩
            rw [HD.out] at HS
            have hD9 : D ≤ 9 := by rw [← HD.out]; omega
            have hcD : (c2.toNat : Int) = (D : Int) + 48 := by rw [← HD.out]; omega
            rw [hcD] at hix3
            have hwD : IntKind.u8.wrap (D : Int) = (D : Int) := by rw [u8w, Nat.mod_eq_of_lt (by omega)]
            clear hi hc2 hd2 hcD
            have Hz := Lib.hid hz
            clear hz
            go_wp2_with fail
            go_loopg [9, 10] u (fun q2 s9 s10 wx => ∃ (j y : Nat) (p2 : Nat → Nat), j + q2 = u ∧ s10 = .int .i64 ((j : Int) + 1) ∧ s9 = .int .i64 (y : Int) ∧ y ≤ 9 ∧ Dig8 p2 k ∧ (∀ i, j ≤ i → p2 i = p i) ∧ Hid (w8 p2 j + y * 256 ^ j = 10 * w8 p j + D) ∧ wx.rowIs wo.heap.size 5 k (rowR k p2) ∧ Below wo.heap.size wo wx)
            case atStart => exact ⟨0, D, p, by omega, rfl, rfl, hD9, dp, fun _ _ => rfl, by show _ = _; simp [w8], hrow, hbl⟩
            case round =>
              clear hrow hbl hix3
              obtain ⟨j, y, p2, hj, rfl, rfl, hy9, dp2, hp2, HI, hrow, hbl⟩ := hrel
              have Hj := Lib.hid hj
              have Hp2 := Lib.hid hp2
              rcases gk with _ | q2
              · obtain rfl : j = u := by omega
                clear hj hp2
                by_cases hy : 0 < y
                · have HW := Lib.hid (rowR_set hrow (k := j) (i := k - (j + 1)) (v := y) (by omega) (by omega) rfl)
                  have hw := hrow.cell (i := k - (j + 1)) (by omega)
                  have hf := hrow.frozen (k - (j + 1))
                  have hwy : IntKind.u8.wrap (y : Int) = (y : Int) := by rw [u8w, Nat.mod_eq_of_lt (by omega)]
                  have HN := Lib.hid (show w8 (upd p2 j y) (j + 1) = dv (d.take (i + 1)) by rw [w8_upd, HI.out, HV.out, HS.out])
                  clear hrow
                  go_wp2_with fail
                  go_roundg q
                  case measure => omega
                  case rel => exact ⟨i + 1, j + 1, upd p2 j y, by have := Hi.out; omega, by omega, by go_num, by go_num, dig8_set dp2 (by omega), fun t ht => by
                    have e : t ≠ j := by omega
                    simp only [upd, if_neg e]; rw [Hp2.out t (by omega)]; exact Hz.out t (by omega), HN, HW.out, hbl.setCell (Nat.le_refl _) _⟩
                · obtain rfl : y = 0 := by omega
                  have HN := Lib.hid (show w8 p2 j = dv (d.take (i + 1)) by have h := HI.out; rw [HS.out, ← HV.out, ← h]; omega)
                  go_wp2_with fail
                  go_roundg q
                  case measure => omega
                  case rel => exact ⟨i + 1, j, p2, by have := Hi.out; omega, by omega, by go_num, rfl, dp2, fun t ht => by rw [Hp2.out t ht]; exact Hz.out t ht, HN, hrow, hbl⟩
              · have hju : j < u := by omega
                have hx8 : p2 j < 256 := dp2 j (by omega)
                have hc1 : wr.cell? ⟨wo.heap.size, k - (j + 1), none⟩ = some (.int .u8 (p2 j : Int)) := by
                  have h := hrow.cell (i := k - (j + 1)) (by omega)
                  rw [h, rowR, show k - 1 - (k - (j + 1)) = j by omega]
                have hf := hrow.frozen (k - (j + 1))
                have hpj : p2 j = p j := Hp2.out j (Nat.le_refl _)
                have HM := ten8_step (t := y + 10 * p2 j) HI.out (by rw [hpj])
                obtain ⟨x, hx⟩ : ∃ x, p2 j = x := ⟨_, rfl⟩
                rw [hx] at hc1 hx8 HM
                obtain ⟨r, Er⟩ : ∃ r, Hid ((y + 10 * x) % 256 = r) := ⟨_, Lib.hid rfl⟩
                obtain ⟨m2, Em⟩ : ∃ m, Hid ((y + 10 * x) / 256 = m) := ⟨_, Lib.hid rfl⟩
                rw [Er.out, Em.out] at HM
                have HM := Lib.hid HM
                have hr8 : r < 256 := by rw [← Er.out]; omega
                have hm9 : m2 ≤ 9 := by rw [← Em.out]; omega
                have hmod : IntKind.u8.wrap ((y : Int) + 10 * (x : Int)) = (r : Int) := by
                  have h := u8w (y + 10 * x)
                  rw [Er.out] at h
                  rw [← h]
                  congr 1 <;> omega
                have hdiv : ((y : Int) + 10 * (x : Int)) / 256 = (m2 : Int) := by rw [← Em.out]; omega
                have HW := Lib.hid (rowR_set hrow (k := j) (i := k - (j + 1)) (v := r) (by omega) (by omega) rfl)
                clear hrow hj hp2 hx hpj HI
                go_wp2_with fail
                go_roundg q2
                case measure => omega
                case rel => exact ⟨j + 1, m2, upd p2 j r, by have := Hj.out; omega, by go_num, rfl, hm9, dig8_set dp2 hr8, fun t ht => by
                  have e : t ≠ j := by omega
                  simp only [upd, if_neg e]; exact Hp2.out t (by omega), HM, HW.out, hbl.setCell (Nat.le_refl _) _⟩
      · have Hk := Lib.hid hk
        have hkn : k < n := by omega
        obtain ⟨c2, hc2⟩ : ∃ c2, d[k]? = some c2 := ⟨_, List.getElem?_eq_getElem (by omega)⟩
        have hix3 := run_index_bytes d k c2 hc2 (k : Int) rfl
        have hc28 := c2.toNat_lt
        by_cases hdg : digB c2 = true
        · have HA2 := Lib.hid (all_take_succ HA.out hc2 hdg)
          have h48 : 48 ≤ c2.toNat ∧ c2.toNat ≤ 57 := by simpa [digB] using hdg
          clear hk hdg hc2
          go_wp2_with fail
          go_roundg q
          case measure => omega
          case rel => exact ⟨k + 1, by have := Hk.out; omega, by go_num, rfl, HA2⟩
        · rw [Bool.not_eq_true] at hdg
          have HP := Lib.hid (pz_none1 (l := l) (by rw [Hd.out]; exact isDec_no (not_all hc2 hdg)))
          have h48 : c2.toNat < 48 ∨ (48 ≤ c2.toNat ∧ 57 < c2.toNat) := by
            simp [digB] at hdg
            omega
          obtain ⟨r1, r2, r3, r4⟩ := hr
          clear hk hdg hc2 hWA
          rcases h48 with h48 | h48
          all_goals
            go_wp2_with fail
            exact bodyPost_ret (v := .tuple #[.agg #[.bool false, .string ⟨#[]⟩], .int .i64 3]) (by simp [results, Tryd.results7, go_sem, r1, r2]) rfl (by rw [HP.out]; exact ⟨rfl, (by first | exact hb | exact (hb.setCell (Nat.le_refl _) _).setCell (Nat.le_refl _) _)⟩)
  · have := hsame hdl2 v hix
    subst this hdl2
    clear hix hsame
    go_enter Tryd.func7, Tryd.ntmps7
    go_upto_region 8 with fail
    clear hv hc48 hix2
    obtain ⟨WA, hWA⟩ : ∃ WA, w.alloc (.cells #[.bool false, .string ⟨#[]⟩] 23) = WA := ⟨_, rfl⟩
    rw [hWA] at hr hb ⊢
    obtain ⟨n, hn⟩ : ∃ n, d.length = n := ⟨_, rfl⟩
    rw [hn] at hdl hdp
    go_wp2_with fail
    go_loopg [5] n (fun q s5 wx => ∃ k : Nat, k + q = n ∧ s5 = .int .i64 (k : Int) ∧ wx = WA ∧ Hid ((d.take k).all digB = true))
    case atStart => exact ⟨0, by omega, rfl, rfl, rfl⟩
    case round =>
      obtain ⟨k, hk, rfl, hwx, HA⟩ := hrel
      subst hwx
      rcases gk with _ | q
      · obtain rfl : k = n := by omega
        have Hall := Lib.hid (show d.all digB = true by have h := HA.out; rwa [List.take_of_length_le (by omega)] at h)
        have hmk := run_make_row' (P := Tryd.prog) 46 5 (.int .u8 0) 1 Tryd.underlying46 Tryd.infoU8 rfl .i64 .i64 k (by omega) (by omega)
        obtain ⟨n, hkn⟩ : ∃ n, k = n := ⟨_, rfl⟩
        subst hkn
        obtain ⟨wo, rfl⟩ : ∃ wo : World, wo = wr := ⟨_, rfl⟩
        clear HA hk hWA
        go_wp2_with fail
        clear hmk
        go_loopg [7, 8] k (fun q s7 s8 wx => ∃ (i u : Nat) (p : Nat → Nat), i + q = k ∧ u ≤ i ∧ s8 = .int .i64 (i : Int) ∧ s7 = .int .i64 (u : Int) ∧ Dig8 p k ∧ (∀ j, u ≤ j → p j = 0) ∧ Hid (w8 p u = dv (d.take i)) ∧ wx.rowIs wo.heap.size 5 k (rowR k p) ∧ Below wo.heap.size wo wx)
        case atStart => exact ⟨0, 0, fun _ => 0, by omega, by omega, rfl, rfl, fun i _ => (by omega : (0 : Nat) < 256), fun _ _ => rfl, by show _ = _; rfl, (World.rowIs_made wo _ k _).congr (fun i _ => by simp [rowR]), below1 wo _⟩
        case round =>
          obtain ⟨i, u, p, hi, hui, rfl, rfl, dp, hz, HV, hrow, hbl⟩ := hrel
          rcases gk with _ | q
          · obtain rfl : i = k := by omega
            have hfin : w8 p i = dv d := by
              have h := HV.out
              rw [List.take_of_length_le (by omega)] at h
              rw [← h]
              exact w8_zeros p hui hz
            have hcv := run_string_of wr wo.heap.size 0 i (bl p i) (fun i u hu => rowR_cell hrow dp i u hu)
            rw [bl_len] at hcv
            have HT := Lib.hid (show vB (bl p i) = dv d by rw [vB_bl dp, hfin])
            have hTl : (bl p i).length ≤ 65536 := by rw [bl_len]; omega
            have HR := Lib.hid (hr.keep hbl)
            have HB := Lib.hid (below_more hb (Nat.le_refl _) hbl)
            have HP := Lib.hid (pz_good (Hd.out.trans Hcr.out) HL.out (by rw [Hd.out]; exact Hall.out))
            rw [Hd.out, Hg.out] at HP
            generalize bl p i = T at *
            clear hrow dp hz HV hfin hr hb hbl
            obtain rfl : g = false := by
              rcases Hlen.out with ⟨h, _⟩ | ⟨_, h⟩
              · omega
              · exact h
            obtain ⟨z, Hz⟩ : ∃ z, Hid (zv false ⟨T.toArray⟩ = z) := ⟨_, Lib.hid rfl⟩
            have HP2 := Lib.hid (show pz d = some z by
              rw [HP.out, ← Hz.out]
              show some _ = some (zv _ ⟨T.toArray⟩)
              unfold zv
              rw [show (⟨T.toArray⟩ : ByteArray).data.toList = T from rfl, HT.out])
            clear HP
            go_wp2_with fail
            (with_reducible refine (rcan_p (by omega) Hz.out).mono ?_)
            rintro e W2 ⟨rfl, b2⟩
            obtain ⟨r1, r2, r3, r4⟩ := HR.out.keep b2
            go_wp2_with fail
            exact bodyPost_ret (v := .tuple #[.agg #[.bool (sg z), .string (mg z)], .int .i64 0]) (by simp [results, Tryd.results7, go_sem, r1, r2, r3, r4]) rfl (by rw [HP2.out]; exact ⟨rfl, ((below_more HB.out (Nat.le_refl _) b2).setCell (Nat.le_refl _) _).setCell (Nat.le_refl _) _⟩)
          · have Hi := Lib.hid hi
            have hik : i < k := by omega
            obtain ⟨c2, hc2⟩ : ∃ c2, d[i]? = some c2 := ⟨_, List.getElem?_eq_getElem (by omega)⟩
            have hix3 := run_index_bytes d i c2 hc2 (i : Int) rfl
            have hd2 := dig_at Hall.out hc2
            have HS := Lib.hid (dv_step hc2)
            obtain ⟨D, HD⟩ : ∃ D, Hid (c2.toNat - 48 = D) := ⟨_, Lib.hid rfl⟩
            rw [HD.out] at HS
            have hD9 : D ≤ 9 := by rw [← HD.out]; omega
            have hcD : (c2.toNat : Int) = (D : Int) + 48 := by rw [← HD.out]; omega
            rw [hcD] at hix3
            have hwD : IntKind.u8.wrap (D : Int) = (D : Int) := by rw [u8w, Nat.mod_eq_of_lt (by omega)]
            clear hi hc2 hd2 hcD
            have Hz := Lib.hid hz
            clear hz
            go_wp2_with fail
            go_loopg [9, 10] u (fun q2 s9 s10 wx => ∃ (j y : Nat) (p2 : Nat → Nat), j + q2 = u ∧ s10 = .int .i64 ((j : Int) + 1) ∧ s9 = .int .i64 (y : Int) ∧ y ≤ 9 ∧ Dig8 p2 k ∧ (∀ i, j ≤ i → p2 i = p i) ∧ Hid (w8 p2 j + y * 256 ^ j = 10 * w8 p j + D) ∧ wx.rowIs wo.heap.size 5 k (rowR k p2) ∧ Below wo.heap.size wo wx)
            case atStart => exact ⟨0, D, p, by omega, rfl, rfl, hD9, dp, fun _ _ => rfl, by show _ = _; simp [w8], hrow, hbl⟩
            case round =>
              clear hrow hbl hix3
              obtain ⟨j, y, p2, hj, rfl, rfl, hy9, dp2, hp2, HI, hrow, hbl⟩ := hrel
              have Hj := Lib.hid hj
              have Hp2 := Lib.hid hp2
              rcases gk with _ | q2
              · obtain rfl : j = u := by omega
                clear hj hp2
                by_cases hy : 0 < y
                · have HW := Lib.hid (rowR_set hrow (k := j) (i := k - (j + 1)) (v := y) (by omega) (by omega) rfl)
                  have hw := hrow.cell (i := k - (j + 1)) (by omega)
                  have hf := hrow.frozen (k - (j + 1))
                  have hwy : IntKind.u8.wrap (y : Int) = (y : Int) := by rw [u8w, Nat.mod_eq_of_lt (by omega)]
                  have HN := Lib.hid (show w8 (upd p2 j y) (j + 1) = dv (d.take (i + 1)) by rw [w8_upd, HI.out, HV.out, HS.out])
                  clear hrow
                  go_wp2_with fail
                  go_roundg q
                  case measure => omega
                  case rel => exact ⟨i + 1, j + 1, upd p2 j y, by have := Hi.out; omega, by omega, by go_num, by go_num, dig8_set dp2 (by omega), fun t ht => by
                    have e : t ≠ j := by omega
                    simp only [upd, if_neg e]; rw [Hp2.out t (by omega)]; exact Hz.out t (by omega), HN, HW.out, hbl.setCell (Nat.le_refl _) _⟩
                · obtain rfl : y = 0 := by omega
                  have HN := Lib.hid (show w8 p2 j = dv (d.take (i + 1)) by have h := HI.out; rw [HS.out, ← HV.out, ← h]; omega)
                  go_wp2_with fail
                  go_roundg q
                  case measure => omega
                  case rel => exact ⟨i + 1, j, p2, by have := Hi.out; omega, by omega, by go_num, rfl, dp2, fun t ht => by rw [Hp2.out t ht]; exact Hz.out t ht, HN, hrow, hbl⟩
              · have hju : j < u := by omega
                have hx8 : p2 j < 256 := dp2 j (by omega)
                have hc1 : wr.cell? ⟨wo.heap.size, k - (j + 1), none⟩ = some (.int .u8 (p2 j : Int)) := by
                  have h := hrow.cell (i := k - (j + 1)) (by omega)
                  rw [h, rowR, show k - 1 - (k - (j + 1)) = j by omega]
                have hf := hrow.frozen (k - (j + 1))
                have hpj : p2 j = p j := Hp2.out j (Nat.le_refl _)
                have HM := ten8_step (t := y + 10 * p2 j) HI.out (by rw [hpj])
                obtain ⟨x, hx⟩ : ∃ x, p2 j = x := ⟨_, rfl⟩
                rw [hx] at hc1 hx8 HM
                obtain ⟨r, Er⟩ : ∃ r, Hid ((y + 10 * x) % 256 = r) := ⟨_, Lib.hid rfl⟩
                obtain ⟨m2, Em⟩ : ∃ m, Hid ((y + 10 * x) / 256 = m) := ⟨_, Lib.hid rfl⟩
                rw [Er.out, Em.out] at HM
                have HM := Lib.hid HM
                have hr8 : r < 256 := by rw [← Er.out]; omega
                have hm9 : m2 ≤ 9 := by rw [← Em.out]; omega
                have hmod : IntKind.u8.wrap ((y : Int) + 10 * (x : Int)) = (r : Int) := by
                  have h := u8w (y + 10 * x)
                  rw [Er.out] at h
                  rw [← h]
                  congr 1 <;> omega
                have hdiv : ((y : Int) + 10 * (x : Int)) / 256 = (m2 : Int) := by rw [← Em.out]; omega
                have HW := Lib.hid (rowR_set hrow (k := j) (i := k - (j + 1)) (v := r) (by omega) (by omega) rfl)
                clear hrow hj hp2 hx hpj HI
                go_wp2_with fail
                go_roundg q2
                case measure => omega
                case rel => exact ⟨j + 1, m2, upd p2 j r, by have := Hj.out; omega, by go_num, rfl, hm9, dig8_set dp2 hr8, fun t ht => by
                  have e : t ≠ j := by omega
                  simp only [upd, if_neg e]; exact Hp2.out t (by omega), HM, HW.out, hbl.setCell (Nat.le_refl _) _⟩
      · have Hk := Lib.hid hk
        have hkn : k < n := by omega
        obtain ⟨c2, hc2⟩ : ∃ c2, d[k]? = some c2 := ⟨_, List.getElem?_eq_getElem (by omega)⟩
        have hix3 := run_index_bytes d k c2 hc2 (k : Int) rfl
        have hc28 := c2.toNat_lt
        by_cases hdg : digB c2 = true
        · have HA2 := Lib.hid (all_take_succ HA.out hc2 hdg)
          have h48 : 48 ≤ c2.toNat ∧ c2.toNat ≤ 57 := by simpa [digB] using hdg
          clear hk hdg hc2
          go_wp2_with fail
          go_roundg q
          case measure => omega
          case rel => exact ⟨k + 1, by have := Hk.out; omega, by go_num, rfl, HA2⟩
        · rw [Bool.not_eq_true] at hdg
          have HP := Lib.hid (pz_none1 (l := d) (by rw [Hd.out]; exact isDec_no (not_all hc2 hdg)))
          have h48 : c2.toNat < 48 ∨ (48 ≤ c2.toNat ∧ 57 < c2.toNat) := by
            simp [digB] at hdg
            omega
          obtain ⟨r1, r2, r3, r4⟩ := hr
          clear hk hdg hc2 hWA
          rcases h48 with h48 | h48
          all_goals
            go_wp2_with fail
            exact bodyPost_ret (v := .tuple #[.agg #[.bool false, .string ⟨#[]⟩], .int .i64 3]) (by simp [results, Tryd.results7, go_sem, r1, r2]) rfl (by rw [HP.out]; exact ⟨rfl, (by first | exact hb | exact (hb.setCell (Nat.le_refl _) _).setCell (Nat.le_refl _) _)⟩)
  · have := hsame hdl2 v hix
    subst this hdl2
    clear hix hsame
    go_enter Tryd.func7, Tryd.ntmps7
    go_upto_region 8 with fail
    clear hl1
    clear hv hc48 hix2
    obtain ⟨WA, hWA⟩ : ∃ WA, w.alloc (.cells #[.bool false, .string ⟨#[]⟩] 23) = WA := ⟨_, rfl⟩
    rw [hWA] at hr hb ⊢
    obtain ⟨n, hn⟩ : ∃ n, d.length = n := ⟨_, rfl⟩
    rw [hn] at hdl hdp
    go_wp2_with fail
    go_loopg [5] n (fun q s5 wx => ∃ k : Nat, k + q = n ∧ s5 = .int .i64 (k : Int) ∧ wx = WA ∧ Hid ((d.take k).all digB = true))
    case atStart => exact ⟨0, by omega, rfl, rfl, rfl⟩
    case round =>
      obtain ⟨k, hk, rfl, hwx, HA⟩ := hrel
      subst hwx
      rcases gk with _ | q
      · obtain rfl : k = n := by omega
        have Hall := Lib.hid (show d.all digB = true by have h := HA.out; rwa [List.take_of_length_le (by omega)] at h)
        have hmk := run_make_row' (P := Tryd.prog) 46 5 (.int .u8 0) 1 Tryd.underlying46 Tryd.infoU8 rfl .i64 .i64 k (by omega) (by omega)
        obtain ⟨n, hkn⟩ : ∃ n, k = n := ⟨_, rfl⟩
        subst hkn
        obtain ⟨wo, rfl⟩ : ∃ wo : World, wo = wr := ⟨_, rfl⟩
        clear HA hk hWA
        go_wp2_with fail
        clear hmk
        go_loopg [7, 8] k (fun q s7 s8 wx => ∃ (i u : Nat) (p : Nat → Nat), i + q = k ∧ u ≤ i ∧ s8 = .int .i64 (i : Int) ∧ s7 = .int .i64 (u : Int) ∧ Dig8 p k ∧ (∀ j, u ≤ j → p j = 0) ∧ Hid (w8 p u = dv (d.take i)) ∧ wx.rowIs wo.heap.size 5 k (rowR k p) ∧ Below wo.heap.size wo wx)
        case atStart => exact ⟨0, 0, fun _ => 0, by omega, by omega, rfl, rfl, fun i _ => (by omega : (0 : Nat) < 256), fun _ _ => rfl, by show _ = _; rfl, (World.rowIs_made wo _ k _).congr (fun i _ => by simp [rowR]), below1 wo _⟩
        case round =>
          obtain ⟨i, u, p, hi, hui, rfl, rfl, dp, hz, HV, hrow, hbl⟩ := hrel
          rcases gk with _ | q
          · obtain rfl : i = k := by omega
            have hfin : w8 p i = dv d := by
              have h := HV.out
              rw [List.take_of_length_le (by omega)] at h
              rw [← h]
              exact w8_zeros p hui hz
            have hcv := run_string_of wr wo.heap.size 0 i (bl p i) (fun i u hu => rowR_cell hrow dp i u hu)
            rw [bl_len] at hcv
            have HT := Lib.hid (show vB (bl p i) = dv d by rw [vB_bl dp, hfin])
            have hTl : (bl p i).length ≤ 65536 := by rw [bl_len]; omega
            have HR := Lib.hid (hr.keep hbl)
            have HB := Lib.hid (below_more hb (Nat.le_refl _) hbl)
            have HP := Lib.hid (pz_good (Hd.out.trans Hcr.out) HL.out (by rw [Hd.out]; exact Hall.out))
            rw [Hd.out, Hg.out] at HP
            generalize bl p i = T at *
            clear hrow dp hz HV hfin hr hb hbl
            obtain rfl : g = false := by
              rcases Hlen.out with ⟨h, _⟩ | ⟨_, h⟩
              · omega
              · exact h
            obtain ⟨z, Hz⟩ : ∃ z, Hid (zv false ⟨T.toArray⟩ = z) := ⟨_, Lib.hid rfl⟩
            have HP2 := Lib.hid (show pz d = some z by
              rw [HP.out, ← Hz.out]
              show some _ = some (zv _ ⟨T.toArray⟩)
              unfold zv
              rw [show (⟨T.toArray⟩ : ByteArray).data.toList = T from rfl, HT.out])
            clear HP
            go_wp2_with fail
            (with_reducible refine (rcan_p (by omega) Hz.out).mono ?_)
            rintro e W2 ⟨rfl, b2⟩
            obtain ⟨r1, r2, r3, r4⟩ := HR.out.keep b2
            go_wp2_with fail
            exact bodyPost_ret (v := .tuple #[.agg #[.bool (sg z), .string (mg z)], .int .i64 0]) (by simp [results, Tryd.results7, go_sem, r1, r2, r3, r4]) rfl (by rw [HP2.out]; exact ⟨rfl, ((below_more HB.out (Nat.le_refl _) b2).setCell (Nat.le_refl _) _).setCell (Nat.le_refl _) _⟩)
          · have Hi := Lib.hid hi
            have hik : i < k := by omega
            obtain ⟨c2, hc2⟩ : ∃ c2, d[i]? = some c2 := ⟨_, List.getElem?_eq_getElem (by omega)⟩
            have hix3 := run_index_bytes d i c2 hc2 (i : Int) rfl
            have hd2 := dig_at Hall.out hc2
            have HS := Lib.hid (dv_step hc2)
            obtain ⟨D, HD⟩ : ∃ D, Hid (c2.toNat - 48 = D) := ⟨_, Lib.hid rfl⟩
            rw [HD.out] at HS
            have hD9 : D ≤ 9 := by rw [← HD.out]; omega
            have hcD : (c2.toNat : Int) = (D : Int) + 48 := by rw [← HD.out]; omega
            rw [hcD] at hix3
            have hwD : IntKind.u8.wrap (D : Int) = (D : Int) := by rw [u8w, Nat.mod_eq_of_lt (by omega)]
            clear hi hc2 hd2 hcD
            have Hz := Lib.hid hz
            clear hz
            go_wp2_with fail
            go_loopg [9, 10] u (fun q2 s9 s10 wx => ∃ (j y : Nat) (p2 : Nat → Nat), j + q2 = u ∧ s10 = .int .i64 ((j : Int) + 1) ∧ s9 = .int .i64 (y : Int) ∧ y ≤ 9 ∧ Dig8 p2 k ∧ (∀ i, j ≤ i → p2 i = p i) ∧ Hid (w8 p2 j + y * 256 ^ j = 10 * w8 p j + D) ∧ wx.rowIs wo.heap.size 5 k (rowR k p2) ∧ Below wo.heap.size wo wx)
            case atStart => exact ⟨0, D, p, by omega, rfl, rfl, hD9, dp, fun _ _ => rfl, by show _ = _; simp [w8], hrow, hbl⟩
            case round =>
              clear hrow hbl hix3
              obtain ⟨j, y, p2, hj, rfl, rfl, hy9, dp2, hp2, HI, hrow, hbl⟩ := hrel
              have Hj := Lib.hid hj
              have Hp2 := Lib.hid hp2
              rcases gk with _ | q2
              · obtain rfl : j = u := by omega
                clear hj hp2
                by_cases hy : 0 < y
                · have HW := Lib.hid (rowR_set hrow (k := j) (i := k - (j + 1)) (v := y) (by omega) (by omega) rfl)
                  have hw := hrow.cell (i := k - (j + 1)) (by omega)
                  have hf := hrow.frozen (k - (j + 1))
                  have hwy : IntKind.u8.wrap (y : Int) = (y : Int) := by rw [u8w, Nat.mod_eq_of_lt (by omega)]
                  have HN := Lib.hid (show w8 (upd p2 j y) (j + 1) = dv (d.take (i + 1)) by rw [w8_upd, HI.out, HV.out, HS.out])
                  clear hrow
                  go_wp2_with fail
                  go_roundg q
                  case measure => omega
                  case rel => exact ⟨i + 1, j + 1, upd p2 j y, by have := Hi.out; omega, by omega, by go_num, by go_num, dig8_set dp2 (by omega), fun t ht => by
                    have e : t ≠ j := by omega
                    simp only [upd, if_neg e]; rw [Hp2.out t (by omega)]; exact Hz.out t (by omega), HN, HW.out, hbl.setCell (Nat.le_refl _) _⟩
                · obtain rfl : y = 0 := by omega
                  have HN := Lib.hid (show w8 p2 j = dv (d.take (i + 1)) by have h := HI.out; rw [HS.out, ← HV.out, ← h]; omega)
                  go_wp2_with fail
                  go_roundg q
                  case measure => omega
                  case rel => exact ⟨i + 1, j, p2, by have := Hi.out; omega, by omega, by go_num, rfl, dp2, fun t ht => by rw [Hp2.out t ht]; exact Hz.out t ht, HN, hrow, hbl⟩
              · have hju : j < u := by omega
                have hx8 : p2 j < 256 := dp2 j (by omega)
                have hc1 : wr.cell? ⟨wo.heap.size, k - (j + 1), none⟩ = some (.int .u8 (p2 j : Int)) := by
                  have h := hrow.cell (i := k - (j + 1)) (by omega)
                  rw [h, rowR, show k - 1 - (k - (j + 1)) = j by omega]
                have hf := hrow.frozen (k - (j + 1))
                have hpj : p2 j = p j := Hp2.out j (Nat.le_refl _)
                have HM := ten8_step (t := y + 10 * p2 j) HI.out (by rw [hpj])
                obtain ⟨x, hx⟩ : ∃ x, p2 j = x := ⟨_, rfl⟩
                rw [hx] at hc1 hx8 HM
                obtain ⟨r, Er⟩ : ∃ r, Hid ((y + 10 * x) % 256 = r) := ⟨_, Lib.hid rfl⟩
                obtain ⟨m2, Em⟩ : ∃ m, Hid ((y + 10 * x) / 256 = m) := ⟨_, Lib.hid rfl⟩
                rw [Er.out, Em.out] at HM
                have HM := Lib.hid HM
                have hr8 : r < 256 := by rw [← Er.out]; omega
                have hm9 : m2 ≤ 9 := by rw [← Em.out]; omega
                have hmod : IntKind.u8.wrap ((y : Int) + 10 * (x : Int)) = (r : Int) := by
                  have h := u8w (y + 10 * x)
                  rw [Er.out] at h
                  rw [← h]
                  congr 1 <;> omega
                have hdiv : ((y : Int) + 10 * (x : Int)) / 256 = (m2 : Int) := by rw [← Em.out]; omega
                have HW := Lib.hid (rowR_set hrow (k := j) (i := k - (j + 1)) (v := r) (by omega) (by omega) rfl)
                clear hrow hj hp2 hx hpj HI
                go_wp2_with fail
                go_roundg q2
                case measure => omega
                case rel => exact ⟨j + 1, m2, upd p2 j r, by have := Hj.out; omega, by go_num, rfl, hm9, dig8_set dp2 hr8, fun t ht => by
                  have e : t ≠ j := by omega
                  simp only [upd, if_neg e]; exact Hp2.out t (by omega), HM, HW.out, hbl.setCell (Nat.le_refl _) _⟩
      · have Hk := Lib.hid hk
        have hkn : k < n := by omega
        obtain ⟨c2, hc2⟩ : ∃ c2, d[k]? = some c2 := ⟨_, List.getElem?_eq_getElem (by omega)⟩
        have hix3 := run_index_bytes d k c2 hc2 (k : Int) rfl
        have hc28 := c2.toNat_lt
        by_cases hdg : digB c2 = true
        · have HA2 := Lib.hid (all_take_succ HA.out hc2 hdg)
          have h48 : 48 ≤ c2.toNat ∧ c2.toNat ≤ 57 := by simpa [digB] using hdg
          clear hk hdg hc2
          go_wp2_with fail
          go_roundg q
          case measure => omega
          case rel => exact ⟨k + 1, by have := Hk.out; omega, by go_num, rfl, HA2⟩
        · rw [Bool.not_eq_true] at hdg
          have HP := Lib.hid (pz_none1 (l := d) (by rw [Hd.out]; exact isDec_no (not_all hc2 hdg)))
          have h48 : c2.toNat < 48 ∨ (48 ≤ c2.toNat ∧ 57 < c2.toNat) := by
            simp [digB] at hdg
            omega
          obtain ⟨r1, r2, r3, r4⟩ := hr
          clear hk hdg hc2 hWA
          rcases h48 with h48 | h48
          all_goals
            go_wp2_with fail
            exact bodyPost_ret (v := .tuple #[.agg #[.bool false, .string ⟨#[]⟩], .int .i64 3]) (by simp [results, Tryd.results7, go_sem, r1, r2]) rfl (by rw [HP.out]; exact ⟨rfl, (by first | exact hb | exact (hb.setCell (Nat.le_refl _) _).setCell (Nat.le_refl _) _)⟩)
end Go.Proofs.YtfcdekkoeeaolaaDoor

namespace Go.Proofs.YtfcdekkoeeaolaaDoor
open Go.RowKit
set_option linter.unusedSimpArgs false
set_option linter.unusedVariables false
attribute [local go_sem ↓] eqlInt guardInt2

theorem greatT (sa : ByteArray) : greatB 1 (fun _ => sa) = decide (60 < sa.size) := by simp [greatB, List.range_succ]
/-- What both return for a text. -/
theorem parse_both (l : List UInt8) (hs : l.length ≤ 9223372036854775807) : ∃ (G : Bool) (S : ByteArray) (E : Int),
    (∀ w : World, Calls Tryd.prog 6 #[.string ⟨l.toArray⟩] w fun e w' => e = .returned (.tuple #[.agg #[.bool G, .string S], .int .i64 E]) ∧ Below w.heap.size w w') ∧
    (∀ w : World, Calls Tryd.prog 7 #[.string ⟨l.toArray⟩] w fun e w' => e = .returned (.tuple #[.agg #[.bool G, .string S], .int .i64 E]) ∧ Below w.heap.size w w') := by
  by_cases h : l.length ≤ 65536
  · have h1 := fun w => parse_any l w h
    have h2 := fun w => rparse_any l w h
    cases e : pz l with
    | none => rw [e] at h1 h2; exact ⟨false, ⟨#[]⟩, 3, fun w => h1 w, fun w => h2 w⟩
    | some z => rw [e] at h1 h2; exact ⟨sg z, mg z, 0, fun w => h1 w, fun w => h2 w⟩
  · have hz : (⟨l.toArray⟩ : ByteArray).size = l.length := by simp [ByteArray.size]
    exact ⟨false, ⟨#[]⟩, 4, fun w => parse_limit ⟨l.toArray⟩ w (by omega) (by omega), fun w => rparse_limit ⟨l.toArray⟩ w (by omega) (by omega)⟩
theorem prt_eq {v : Value} {z : Int} {k : Nat} {w : World} {T : List UInt8} (h : IsInt v z k) (htab : Lib.TabIs Tryd.prog w "internal/strconv.uint64pow10" .u64 Lib.pow10Tab) (e : prZ z = T) :
    Calls Tryd.prog 8 #[v] w fun e w' => e = .returned (.string ⟨T.toArray⟩) ∧ Below w.heap.size w w' := e ▸ print_any v z k w h htab
theorem rprt_eq {g : Bool} {l : List UInt8} {z : Int} {w : World} {T : List UInt8} (hl : l.length ≤ 1000000) (hz : zv g ⟨l.toArray⟩ = z) (e : prZ z = T) :
    Calls Tryd.prog 9 #[.agg #[.bool g, .string ⟨l.toArray⟩]] w fun e w' => e = .returned (.string ⟨T.toArray⟩) ∧ Below w.heap.size w w' := e ▸ rprint_any g l z w hl hz
def T2 (W : World) (p : Nat) (g : Bool) (s : ByteArray) : Prop := W.cell? ⟨p, 0, none⟩ = some (.bool g) ∧ W.cell? ⟨p, 1, none⟩ = some (.string s)
theorem T2.keep {W W1 : World} {p : Nat} {g : Bool} {s : ByteArray} (h : T2 W p g s) (hb : Below W.heap.size W W1) : T2 W1 p g s := ⟨cell_keep h.1 hb, cell_keep h.2 hb⟩
theorem T2.new (W : World) (t : TypeId) (g : Bool) (s : ByteArray) : T2 (W.alloc (.cells #[.bool g, .string s] t)) W.heap.size g s := by
  refine ⟨?_, ?_⟩ <;> simp [go_sem]
def T6 (W : World) (p q r : Nat) (g G : Bool) (s S : ByteArray) : Prop := T2 W p g s ∧ T2 W q G S ∧ T2 W r G S
theorem T6.keep {W W1 : World} {p q r : Nat} {g G : Bool} {s S : ByteArray} (h : T6 W p q r g G s S) (hb : Below W.heap.size W W1) : T6 W1 p q r g G s S := ⟨h.1.keep hb, h.2.1.keep hb, h.2.2.keep hb⟩
theorem T6.flat {W : World} {p q r : Nat} {g G : Bool} {s S : ByteArray} (h : T6 W p q r g G s S) : W.cell? ⟨p, 0, none⟩ = some (.bool g) ∧ W.cell? ⟨p, 1, none⟩ = some (.string s) ∧ W.cell? ⟨q, 0, none⟩ = some (.bool G) ∧ W.cell? ⟨q, 1, none⟩ = some (.string S) ∧ W.cell? ⟨r, 0, none⟩ = some (.bool G) ∧ W.cell? ⟨r, 1, none⟩ = some (.string S) := ⟨h.1.1, h.1.2, h.2.1.1, h.2.1.2, h.2.2.1, h.2.2.2⟩
set_option maxRecDepth 100000 in
set_option maxHeartbeats 6400000 in
theorem texts_any (na : Bool) (sa s : ByteArray) (w : World) (ha : sa.size ≤ 9223372036854775807) (hs : s.size ≤ 9223372036854775807) (htab : Lib.TabIs Tryd.prog w "internal/strconv.uint64pow10" .u64 Lib.pow10Tab) :
    Calls Tryd.prog 3 #[.agg #[.bool na, .string sa], .string s] w fun e w' => e = .returned (.bool true) ∧ Below w.heap.size w w' := by
  have Htab := Lib.hid htab
  clear htab
  obtain ⟨l, rfl⟩ : ∃ l : List UInt8, s = ⟨l.toArray⟩ := ⟨s.data.toList, rfl⟩
  obtain ⟨la, rfl⟩ : ∃ l : List UInt8, sa = ⟨l.toArray⟩ := ⟨sa.data.toList, rfl⟩
  have hll : (⟨l.toArray⟩ : ByteArray).size = l.length := by simp [ByteArray.size]
  rw [hll] at hs
  obtain ⟨G, S, E, P1, P2⟩ := parse_both l hs
  have HP1 := Lib.hid P1
  have HP2 := Lib.hid P2
  clear P1 P2
  go_enter Tryd.func3, Tryd.ntmps3
  go_wp2_with fail
  refine (greats_any (w.heap.size + 1) 0 1 1 (fun _ => na) (fun _ => ⟨la.toArray⟩) _ ?_ (by omega) (fun _ _ => ha)).mono ?_
  · intro i hi
    obtain rfl : i = 0 := by omega
    simp [go_sem]
  rintro e W1 ⟨rfl, b1⟩
  rw [greatT]
  have S1 : T2 W1 w.heap.size na ⟨la.toArray⟩ := T2.keep (by refine ⟨?_, ?_⟩ <;> simp [go_sem]) b1
  have B1 : Below w.heap.size w W1 := below_more (below2 w _ _) (Nat.le_refl _) b1
  clear b1
  by_cases hg : decide (60 < (⟨la.toArray⟩ : ByteArray).size) = true
  · rw [hg]
    clear S1
    go_wp2_with fail
    refine (awake_any _ (tab_keep Htab.out B1)).mono ?_
    rintro e W2 ⟨rfl, b2⟩
    go_wp2
    go_ret
    exact ⟨rfl, below_more B1 (Nat.le_refl _) b2⟩
  rw [Bool.not_eq_true] at hg
  rw [hg]
  have h60 : (⟨la.toArray⟩ : ByteArray).size ≤ 60 := by simpa using hg
  have Ia := Lib.hid (arg_int na ⟨la.toArray⟩ h60)
  have Hla := Lib.hid (show la.length ≤ 1000000 by have : la.length ≤ 60 := h60; omega)
  clear h60 hg ha
  obtain ⟨za, Ea⟩ : ∃ z, Hid (zv na ⟨la.toArray⟩ = z) := ⟨_, Lib.hid rfl⟩
  rw [Ea.out] at Ia
  obtain ⟨T, HT⟩ : ∃ T, Hid (prZ za = T) := ⟨_, Lib.hid rfl⟩
  by_cases h2 : 200 < l.length ∧ l.length ≤ 65536
  · obtain ⟨h3, h4⟩ := h2
    clear S1
    go_wp2_with fail
    refine (awake_any _ (tab_keep Htab.out B1)).mono ?_
    rintro e W2 ⟨rfl, b2⟩
    go_wp2
    go_ret
    exact ⟨rfl, below_more B1 (Nat.le_refl _) b2⟩
  have h200 : l.length ≤ 200 ∨ (200 < l.length ∧ 65536 < l.length) := by omega
  clear h2
  rcases h200 with h200 | ⟨h200, h65⟩
  all_goals
    go_wp2_with fail
    refine (HP1.out _).mono ?_
    rintro e W2 ⟨rfl, b2⟩
    have S2 := S1.keep b2
    have B2 := below_more B1 (Nat.le_refl _) b2
    go_wp2_with fail
    have S3 := S2.keep (below1 W2 (.cells #[.bool G, .string S] 23))
    have X3 := T2.new W2 23 G S
    have B3 := below_more B2 (Nat.le_refl _) (below1 W2 (.cells #[.bool G, .string S] 23))
    refine (HP2.out _).mono ?_
    rintro e W3 ⟨rfl, b3⟩
    have S4 := (S3.keep b3).keep (below1 W3 (.cells #[.bool G, .string S] 23))
    have X4 := (X3.keep b3).keep (below1 W3 (.cells #[.bool G, .string S] 23))
    have Y4 := T2.new W3 23 G S
    have B4 := below_more (below_more B3 (Nat.le_refl _) b3) (Nat.le_refl _) (below1 W3 (.cells #[.bool G, .string S] 23))
    go_upto_region 5 with fail
    have KB : T6 (W3.alloc (.cells #[.bool G, .string S] 23)).drew w.heap.size W2.heap.size W3.heap.size na G ⟨la.toArray⟩ S ∧ Below w.heap.size w (W3.alloc (.cells #[.bool G, .string S] 23)).drew := ⟨⟨S4, X4, Y4⟩, B4.drew⟩
    clear S1 S2 S3 S4 X3 X4 Y4 B1 B2 B3 B4 b2 b3
    obtain ⟨t1, t2, t3, t4, t5, t6⟩ := KB.1.flat
    go_region_held3 (fun W => W.cell? ⟨w.heap.size, 0, none⟩ = some (.bool na) ∧ W.cell? ⟨w.heap.size, 1, none⟩ = some (.string ⟨la.toArray⟩) ∧ W.cell? ⟨W2.heap.size, 0, none⟩ = some (.bool G) ∧ W.cell? ⟨W2.heap.size, 1, none⟩ = some (.string S) ∧ W.cell? ⟨W3.heap.size, 0, none⟩ = some (.bool G) ∧ W.cell? ⟨W3.heap.size, 1, none⟩ = some (.string S)) (first | (with_reducible exact T6.flat KB.1) | exact T6.flat KB.1)
      (first
        | (go_at_call 8; (with_reducible refine (prt_eq Ia.out (tab_keep Htab.out KB.2) HT.out).mono ?_); rintro e X ⟨rfl, bX⟩; have KB := And.intro (T6.keep KB.1 bX) (below_more KB.2 (Nat.le_refl _) bX))
        | (go_at_call 9; (with_reducible refine (rprt_eq Hla.out Ea.out HT.out).mono ?_); rintro e X ⟨rfl, bX⟩; have KB := And.intro (T6.keep KB.1 bX) (below_more KB.2 (Nat.le_refl _) bX))
        | (go_at_call 5; refine (awake_any _ (tab_keep Htab.out KB.2)).mono ?_; rintro e X ⟨rfl, bX⟩; have KB := And.intro (T6.keep KB.1 bX) (below_more KB.2 (Nat.le_refl _) bX)))
    all_goals
      go_wp2
      go_ret
      exact ⟨rfl, KB.2⟩
end Go.Proofs.YtfcdekkoeeaolaaDoor

namespace Go.Proofs.YtfcdekkoeeaolaaDoor.integerTexts
open Go.ChangeShapes Go.WideShapes Go.ChangeAt Go.RowKit
open Go.ChangeMaps (open_string shut_string)
set_option maxRecDepth 100000
set_option linter.unusedVariables false

theorem contract (H : Type) (enc : TypeId × Value → H) (W : World) (base : Nat) (args : Array Value) (ds gs : List (DataW H)) (before : List MemPlace)
    (hval : ∀ (j : Nat) t v, Tryd.f3.params[j]? = some t → args[j]? = some v → Value.okWide Tryd.prog W .any base t v)
    (hW : DataW.Whole enc Tryd.prog Tryd.f3.params.toList Rows.integerTextsSpec.vars false W args.toList ds gs before) (hL : laidMetH Tryd.prog Rows.integerTextsRow.laid W) :
    Calls Tryd.prog 3 args W fun e W' => ∃ v, e = .returned v ∧ Rows.integerTextsSpec.post enc Tryd.prog Tryd.f3 false true false false W args v W' := by
  have hW' := hW
  obtain ⟨p, q, hA0, hV, rfl, hfz, hnd⟩ := hW
  have hA : DataW.TrodAll enc Tryd.prog W 0 (fun _ => true) true Tryd.f3.params.toList args.toList ds p := hA0
  rw [Tryd.params3] at hA hval
  obtain ⟨v0, vs0, d0, ds0, p0, q0, hargs, rfl, rfl, h0, r0⟩ := trodAll_cons hA
  obtain ⟨v1, vs1, d1, ds1, p1, q1, rfl, rfl, rfl, h1, r1⟩ := trodAll_cons r0
  obtain ⟨rfl, rfl, rfl⟩ := trodAll_nil r1
  obtain rfl : args = #[v0, v1] := by cases args; simp_all
  obtain ⟨rfl, rfl⟩ := trodVars_none hV
  obtain ⟨g0, s0, rfl, rfl, rfl, z0⟩ := int_open (hval 0 23 v0 rfl rfl) h0
  obtain ⟨s1, rfl, rfl, rfl, z1⟩ := open_string Tryd.underlying9 (hval 1 9 v1 rfl rfl) h1
  clear hA0
  simp only [List.append_nil] at hW'
  refine (texts_any g0 s0 s1 W z0 z1 (tabPow hL)).mono fun e W' ⟨he, hb⟩ => ?_
  subst he
  refine ⟨_, rfl, _, _, _, [], [], [], hW', ?_, ?_, ?_, hb.frame _, fun h => by cases h⟩
  · exact trodAll_cons_mk (p := []) (shut_bool Tryd.underlying4 true) trodAll_mk0
  · exact (trodAll_cons_mk (p := []) (int_shut z0) (trodAll_cons_mk (p := []) (shut_string Tryd.underlying9 z1) trodAll_mk0))
  · rfl

theorem reads (os : Os) {H : Type} (enc : TypeId × Value → H) : ∃ places, DataW.whole enc Tryd.prog ((laidWorld os).forCall (fun _ _ => 0) ⟨#[], #[.agg #[.bool false, .string ⟨#[]⟩], .string ⟨#[]⟩], []⟩).memory Tryd.f3.params.toList Rows.integerTextsSpec.vars false [.agg #[.bool false, .string ⟨#[]⟩], .string ⟨#[]⟩] 8 = some ([.agg [.lit (.bool false), .lit (.string [])], .lit (.string [])], [], places) :=
  ⟨[], by kernel_rfl⟩

theorem lifted (os : Os) (started : os.Started) (H : Type) (enc : TypeId × Value → H) (F : Stop.Interp) :
    ReturnsInHanded {} Tryd.checked os 3 .any ((OpenSpec.ofChange Rows.integerTextsSpec).preRow enc Tryd.prog Tryd.f3 Rows.integerTextsRow.domain false Rows.integerTextsRow.laid) (((OpenSpec.ofChange Rows.integerTextsSpec).at F).post enc Tryd.prog Tryd.f3 false true false false) := by
  obtain ⟨places, hx⟩ := reads os enc
  refine returnsInHanded_of_row (C := Tryd.checked) (s := OpenSpec.ofChange Rows.integerTextsSpec) ownNone started (by kernel_rfl) Tryd.func3
    (witness_row_at (enc := enc) (C := Tryd.checked) false (laidWorld os) #[.agg #[.bool false, .string ⟨#[]⟩], .string ⟨#[]⟩] rfl (by kernel_rfl) (by kernel_rfl) (by kernel_rfl)
      (OpenSpec.preRow_of_cond 8 hx (by kernel_rfl) (fun k hk => by cases hk) (by kernel_rfl) (laid_met os _))) ?_
  intro W base args ds gs before hval hW _ _ _ hL _ _
  exact contract H enc W base args ds gs before hval hW hL

theorem said : Rows.IntegerTextsSaid :=
  OpenClaim.holds_of_cond 3 Tryd.f3 rfl rfl rfl rfl rfl rfl rfl ⟨rfl, rfl, rfl, rfl, rfl⟩ rfl rfl rfl rfl rfl (by kernel_rfl) Tryd.func3 (by kernel_rfl)
    (of_decide_eq_true (by kernel_rfl)) (by unfold Func.isWrapper; first | (rw [if_pos (by decide +kernel)]; kernel_rfl) | (rw [if_neg (by decide +kernel)]; exact ⟨rfl, rfl⟩))
    (fun os started H enc _ F => by rw [OpenClaim.pre_eq_preRow]; exact lifted os started H enc F)

theorem plain (f : FuncId) (fn : Func) (hf : Tryd.pinned.checked.prog.funcNamed "groove/groovelaw01.IntegerTexts" = some f) (hfn : Tryd.pinned.checked.prog.funcs[f]? = some fn) :
    false = Tryd.pinned.checked.prog.looks [] ∧ ∀ (j : Nat) t, fn.params[j]? = some t → Tryd.pinned.checked.prog.wantsStandIn t = false := by
  obtain rfl : f = 3 := Option.some.inj ((show Tryd.prog.funcNamed "groove/groovelaw01.IntegerTexts" = some 3 by kernel_rfl).symm.trans hf) |>.symm
  obtain rfl : fn = Tryd.f3 := (Option.some.inj (Tryd.func3.symm.trans hfn)).symm
  refine ⟨by kernel_rfl, fun j t ht => ?_⟩
  rw [Tryd.params3] at ht
  have hm := Array.mem_of_getElem? ht
  have hm : t = 23 ∨ t = 9 := by simpa using hm
  rcases hm with rfl | rfl
  · exact noStand.1
  · exact noStand.2.1

/-- IntegerTexts's card. -/
theorem card : Rows.IntegerTextsCardSaid :=
  Claim7.holds_tied_plain_at .later [] _ _ _ _ said (fun _ h => by cases h) (by kernel_rfl) (fun _ h => by cases h) integerTexts_row_tie rfl ⟨rfl, rfl⟩ (by kernel_rfl) rfl plain (by kernel_rfl)
end Go.Proofs.YtfcdekkoeeaolaaDoor.integerTexts
