/- Plain facts on the period of a graph: the greatest number that divides the lengths of all its closed paths. No condition. Rows of integers that lie in a row: slices of slices. No condition. What component.targets returns. Conditions: at most 64 states, at most 1024 edges, between states. -/
import Derived.Test.YtblkijdodojaeaaDoorQ11
import Derived.Test.YtblkijdodojaeaaDoorQ10

namespace Go.Proofs.YtblkijdodojaeaaDoor
set_option linter.unusedVariables false

/-- The greatest common divisor of what edges differ by. -/
def perF (d : Nat → Int) (es : List E3) : Nat := es.foldl (fun p e => Int.gcd (p : Int) (d e.1.toNat + 1 - d e.2.2.toNat)) 0
def perI (d : Nat → Int) (es : List E3) (p : Nat) : Nat := es.foldl (fun p e => Int.gcd (p : Int) (d e.1.toNat + 1 - d e.2.2.toNat)) p
theorem perI_dvd (d : Nat → Int) : ∀ (es : List E3) (p : Nat), perI d es p ∣ p ∧ ∀ e ∈ es, (perI d es p : Int) ∣ d e.1.toNat + 1 - d e.2.2.toNat
  | [], p => ⟨Nat.dvd_refl _, fun e he => (by cases he)⟩
  | e :: es, p => by
    obtain ⟨h1, h2⟩ := perI_dvd d es (Int.gcd (p : Int) (d e.1.toNat + 1 - d e.2.2.toNat))
    have h3 : perI d (e :: es) p = perI d es (Int.gcd (p : Int) (d e.1.toNat + 1 - d e.2.2.toNat)) := rfl
    rw [h3]
    refine ⟨Nat.dvd_trans h1 ?_, fun x hx => ?_⟩
    · exact Int.natCast_dvd_natCast.1 (Int.gcd_dvd_left _ _)
    · rcases List.mem_cons.1 hx with rfl | hx
      · exact Int.dvd_trans (Int.natCast_dvd_natCast.2 h1) (Int.gcd_dvd_right _ _)
      · exact h2 x hx
theorem perI_great (d : Nat → Int) (q : Nat) : ∀ (es : List E3) (p : Nat), q ∣ p → (∀ e ∈ es, (q : Int) ∣ d e.1.toNat + 1 - d e.2.2.toNat) → q ∣ perI d es p
  | [], p, h, _ => h
  | e :: es, p, h, h2 => perI_great d q es _ (Int.natCast_dvd_natCast.1 (Int.dvd_coe_gcd (Int.natCast_dvd_natCast.2 h) (h2 e List.mem_cons_self))) (fun x hx => h2 x (List.mem_cons_of_mem _ hx))
theorem perF_dvd {d : Nat → Int} {es : List E3} {e : E3} (he : e ∈ es) : (perF d es : Int) ∣ d e.1.toNat + 1 - d e.2.2.toNat := (perI_dvd d es 0).2 e he
theorem perF_great {d : Nat → Int} {es : List E3} {q : Nat} (h : ∀ e ∈ es, (q : Int) ∣ d e.1.toNat + 1 - d e.2.2.toNat) : q ∣ perF d es := perI_great d q es 0 (Nat.dvd_zero q) h
theorem perF_path {d : Nat → Int} {es : List E3} {s x : Int} {k : Nat} (h : Pth es s k x) : (perF d es : Int) ∣ d s.toNat + k - d x.toNat := by
  induction h with
  | nil => exact ⟨0, by simp⟩
  | @step k e h he ih =>
    have h1 := perF_dvd (d := d) he
    obtain ⟨a, ha⟩ := ih
    obtain ⟨b, hb⟩ := h1
    refine ⟨a + b, ?_⟩
    rw [Int.mul_add, ← ha, ← hb]
    push_cast
    omega
/-- The numbers are lengths of paths from the state 0. -/
def Pot (es : List E3) (n : Nat) (d : Nat → Int) : Prop := ∀ t, t < n → ∃ k : Nat, Pth es 0 k (t : Int) ∧ d t = k
section
variable {L : Int} {n : Nat} {es : List E3} {d d' : Nat → Int}
theorem lenF_pot (h : ∀ e ∈ es, okE L (n : Int) e = true) (hc : ∀ s t, s < n → t < n → Rc es (s : Int) (t : Int)) : Pot es n (lenF es n 0) := by
  intro t ht
  obtain ⟨k, hk, he⟩ := lenF_path h ((lenF_found h (show 0 < n by omega) ht).2 (hc 0 t (by omega) ht))
  exact ⟨k, hk, he⟩
/-- The period divides the length of each closed path. -/
theorem per_closed {s : Int} {k : Nat} (h : Pth es s k s) : perF d es ∣ k := by
  have := perF_path (d := d) h
  have h2 : d s.toNat + (k : Int) - d s.toNat = (k : Int) := by omega
  rw [h2] at this
  exact Int.natCast_dvd_natCast.1 this
/-- What divides the lengths of all closed paths from 0 divides the period. -/
theorem per_most (h : ∀ e ∈ es, okE L (n : Int) e = true) (hc : ∀ s t, s < n → t < n → Rc es (s : Int) (t : Int)) (hd : Pot es n d) {q : Nat} (hq : ∀ k, Pth es 0 k 0 → q ∣ k) : q ∣ perF d es := by
  refine perF_great fun e he => ?_
  obtain ⟨a1, a2, a3, a4⟩ := okE_st (h e he)
  obtain ⟨i, hi, hi2⟩ := hd e.1.toNat a1
  obtain ⟨j, hj, hj2⟩ := hd e.2.2.toNat a2
  obtain ⟨b, hb⟩ := hc e.2.2.toNat 0 a2 (by omega)
  have h1 : Pth es 0 (i + 1 + b) 0 := (Pth.step (by rw [← a3] at hi; exact hi) he).trans (by rw [← a4] at hb; exact hb)
  have h2 : Pth es 0 (j + b) 0 := hj.trans hb
  obtain ⟨x, hx⟩ := hq _ h1
  obtain ⟨y, hy⟩ := hq _ h2
  rw [hi2, hj2]
  refine ⟨(x : Int) - y, ?_⟩
  rw [Int.mul_sub]
  have e1 : (q : Int) * (x : Int) = ((i + 1 + b : Nat) : Int) := by rw [hx]; push_cast; rfl
  have e2 : (q : Int) * (y : Int) = ((j + b : Nat) : Int) := by rw [hy]; push_cast; rfl
  rw [e1, e2]; omega
theorem per_iff (h : ∀ e ∈ es, okE L (n : Int) e = true) (hc : ∀ s t, s < n → t < n → Rc es (s : Int) (t : Int)) (hd : Pot es n d) (q : Nat) : q ∣ perF d es ↔ ∀ k, Pth es 0 k 0 → q ∣ k :=
  ⟨fun h1 k hk => Nat.dvd_trans h1 (per_closed hk), per_most h hc hd⟩
theorem per_same (h : ∀ e ∈ es, okE L (n : Int) e = true) (hc : ∀ s t, s < n → t < n → Rc es (s : Int) (t : Int)) (hd : Pot es n d) (hd' : Pot es n d') : perF d es = perF d' es :=
  Nat.dvd_antisymm ((per_iff h hc hd' _).2 fun k hk => per_closed hk) ((per_iff h hc hd _).2 fun k hk => per_closed hk)
/-- Two lengths of paths to a state differ by a multiple of the period. -/
theorem per_mod (hc : ∀ s t, s < n → t < n → Rc es (s : Int) (t : Int)) (hd : Pot es n d) (hd' : Pot es n d') {t : Nat} (ht : t < n) (p : Nat) (hp : ∀ k, Pth es 0 k 0 → p ∣ k) : d t % (p : Int) = d' t % (p : Int) := by
  obtain ⟨i, hi, hi2⟩ := hd t ht
  obtain ⟨j, hj, hj2⟩ := hd' t ht
  obtain ⟨b, hb⟩ := hc t 0 ht (by omega)
  obtain ⟨x, hx⟩ := hp _ (hi.trans hb)
  obtain ⟨y, hy⟩ := hp _ (hj.trans hb)
  rw [hi2, hj2]
  rw [Int.emod_eq_emod_iff_emod_sub_eq_zero]
  refine Int.emod_eq_zero_of_dvd ⟨(x : Int) - y, ?_⟩
  rw [Int.mul_sub]
  have e1 : (p : Int) * (x : Int) = ((i + b : Nat) : Int) := by rw [hx]; push_cast; rfl
  have e2 : (p : Int) * (y : Int) = ((j + b : Nat) : Int) := by rw [hy]; push_cast; rfl
  rw [e1, e2]; omega
theorem per_pos (h : ∀ e ∈ es, okE L (n : Int) e = true) (hc : ∀ s t, s < n → t < n → Rc es (s : Int) (t : Int)) (h0 : es ≠ []) : 1 ≤ perF d es := by
  obtain ⟨e, he⟩ : ∃ e, e ∈ es := by
    cases es with
    | nil => exact absurd rfl h0
    | cons e es => exact ⟨e, List.mem_cons_self⟩
  obtain ⟨a1, a2, a3, a4⟩ := okE_st (h e he)
  obtain ⟨b, hb⟩ := hc e.2.2.toNat e.1.toNat a2 a1
  rw [← a3, ← a4] at hb
  have := per_closed (d := d) (hb.front he)
  rcases Nat.eq_zero_or_pos (perF d es) with h1 | h1
  · rw [h1] at this; have := Nat.eq_zero_of_zero_dvd this; omega
  · exact h1
end
/-! ### Go's greatest common divisor -/
theorem gcd_tmod (a b : Int) : Int.gcd b (a.tmod b) = Int.gcd a b := by
  unfold Int.gcd
  rw [Int.natAbs_tmod, Nat.gcd_comm b.natAbs, ← Nat.gcd_rec, Nat.gcd_comm]
theorem gcd_end (a : Int) : ((Int.gcd a 0 : Nat) : Int) = max a (-a) := by
  rw [Int.gcd_zero_right]; omega
theorem gcd_le {p : Nat} {x : Int} {m : Nat} (hp : p ≤ m) (hx : x.natAbs ≤ m) : Int.gcd (p : Int) x ≤ m := by
  rcases Nat.eq_zero_or_pos p with h | h
  · subst h
    simp; exact hx
  · exact Nat.le_trans (Nat.le_of_dvd h (Int.natCast_dvd_natCast.1 (Int.gcd_dvd_left _ _))) hp
end Go.Proofs.YtblkijdodojaeaaDoor

namespace Go.Proofs.YtblkijdodojaeaaDoor
open Go.RowKit
set_option linter.unusedSimpArgs false
set_option linter.unusedVariables false

def upd {α : Type} (f : Nat → α) (i : Nat) (x : α) : Nat → α := fun j => if j = i then x else f j
/-- n rows of integers, each in a block of its own above b, their slices in the block b. -/
structure RowsI (b n : Nat) (vs : Nat → Value) (rows : Nat → List Int) (W : World) : Prop where
  row : W.rowIs b 28 n vs
  own : ∀ i, i < n → IntsAt W (b + 1) (vs i) (rows i)
  apart : ∀ i j, i < n → j < n → i ≠ j → Dj (vs i) (vs j)
section
variable {b n : Nat} {vs vs' : Nat → Value} {rows rows' : Nat → List Int} {W W' : World}
theorem RowsI.keep (h : RowsI b n vs rows W) (hb : Below W.heap.size W W') : RowsI b n vs rows W' :=
  ⟨World.rowIs.of_block h.row (hb.block b (World.rowIs.lt h.row)), fun i hi => (h.own i hi).keep hb, h.apart⟩
theorem RowsI.lt (h : RowsI b n vs rows W) : b < W.heap.size := World.rowIs.lt h.row
theorem RowsI.cell (h : RowsI b n vs rows W) {i : Nat} (hi : i < n) : W.cell? ⟨b, i, none⟩ = some (vs i) := World.rowIs.cell h.row hi
theorem RowsI.frozen (h : RowsI b n vs rows W) (i : Nat) : W.frozen? ⟨b, i, none⟩ = false := World.rowIs.frozen h.row i
theorem RowsI.congr (h : RowsI b n vs rows W) (e1 : ∀ i, i < n → vs i = vs' i) (e2 : ∀ i, i < n → rows i = rows' i) : RowsI b n vs' rows' W :=
  ⟨World.rowIs.congr h.row e1, fun i hi => by rw [← e1 i hi, ← e2 i hi]; exact h.own i hi, fun i j hi hj hij => by rw [← e1 i hi, ← e1 j hj]; exact h.apart i j hi hj hij⟩
theorem RowsI.made (w : World) (n : Nat) : RowsI w.heap.size n (fun _ => .slice none 0 0) (fun _ => []) (w.alloc (.cells (madeCells #[.slice none 0 0] n) 28)) :=
  ⟨World.rowIs_made w _ n _, fun i hi => ints_nil _ _, fun i j _ _ _ => Dj.nil _⟩
/-- A row that has been grown, and stored. -/
theorem RowsI.app (h : RowsI b n vs rows W) {i : Nat} (hi : i < n) {o : Obj} (hg : (W.alloc o).grownBy W' (vs i).ownBlock) {s' : Value} {r' : List Int} (hr : IntsAt W' (b + 1) s' r')
    (hv : s'.ownBlock = (vs i).ownBlock ∨ s'.ownBlock = some (W.heap.size + 1)) : RowsI b n (upd vs i s') (upd rows i r') (W'.setCell ⟨b, i, none⟩ s') := by
  have hlt := h.lt
  have hbk : (vs i).ownBlock ≠ some b := fun e => by have := ((h.own i hi).lt b e).1; omega
  have hrow : W'.rowIs b 28 n vs := World.rowIs.of_block h.row ((hg.block b (by rw [World.size_alloc]; omega) (fun e => hbk e.symm)).trans (Below.heap_alloc _ _ _ hlt))
  refine ⟨World.rowIs.congr (World.rowIs.set hrow i s') (fun j _ => by unfold upd; dsimp only), fun j hj => ?_, fun j k hj hk hjk => ?_⟩
  · unfold upd
    by_cases hji : j = i
    · rw [if_pos hji, if_pos hji]
      exact ownsRow_setCell_below hr (by exact Nat.lt_succ_self _) _
    · rw [if_neg hji, if_neg hji]
      have h1 := (h.own j hj).keep (below1 W o)
      have h2 : IntsAt W' (b + 1) (vs j) (rows j) := World.ownsRow.kept h1 hg (h.apart j i hj hi hji).or
      exact ownsRow_setCell_below h2 (by exact Nat.lt_succ_self _) _
  · unfold upd
    have hs : ∀ q, q < n → q ≠ i → Dj s' (vs q) := fun q hq hqi k h1 h2 => by
      rcases hv with hv | hv
      · exact h.apart i q hi hq (Ne.symm hqi) k (hv ▸ h1) h2
      · rw [hv] at h1
        injection h1 with h1
        have := ((h.own q hq).lt k h2).2
        omega
    by_cases hji : j = i
    · by_cases hki : k = i
      · exact absurd (hji.trans hki.symm) hjk
      · rw [if_pos hji, if_neg hki]; exact hs k hk hki
    · by_cases hki : k = i
      · rw [if_neg hji, if_pos hki]; exact (hs j hj hji).symm
      · rw [if_neg hji, if_neg hki]; exact h.apart j k hj hk hjk
end
/-- Rows of integers that can be read. -/
def RowsRd (W : World) (v : Value) (rows : List (List Int)) : Prop := ∃ a c, v = .slice a rows.length c ∧ ∀ (i : Nat) (r : List Int), rows[i]? = some r → ∃ b off u, a = some ⟨b, off, none⟩ ∧ W.cell? ⟨b, off + i, none⟩ = some u ∧ IntsRd W u r
theorem RowsRd.keep {W W' : World} {v : Value} {rows : List (List Int)} (h : RowsRd W v rows) (hb : Below W.heap.size W W') : RowsRd W' v rows := by
  obtain ⟨a, c, rfl, h1⟩ := h
  refine ⟨a, c, rfl, fun i r hr => ?_⟩
  obtain ⟨b, off, u, rfl, k1, k2⟩ := h1 i r hr
  exact ⟨b, off, u, rfl, cell_keep k1 hb, k2.keep hb⟩
theorem RowsRd.form {W : World} {v : Value} {rows : List (List Int)} (h : RowsRd W v rows) : ∃ a c, v = .slice a rows.length c := by
  obtain ⟨a, c, hv, -⟩ := h; exact ⟨a, c, hv⟩
theorem RowsRd.at {W : World} {v : Value} {rows : List (List Int)} (h : RowsRd W v rows) {i : Nat} {r : List Int} (hr : rows[i]? = some r) : ∃ b off c u, v = .slice (some ⟨b, off, none⟩) rows.length c ∧ W.cell? ⟨b, off + i, none⟩ = some u ∧ IntsRd W u r := by
  obtain ⟨a, c, rfl, h1⟩ := h
  obtain ⟨b, off, u, rfl, k1, k2⟩ := h1 i r hr
  exact ⟨b, off, c, u, rfl, k1, k2⟩
theorem rows_rd {b n : Nat} {vs : Nat → Value} {rows : Nat → List Int} {W : World} (h : RowsI b n vs rows W) (c : Nat) : RowsRd W (.slice (some ⟨b, 0, none⟩) n c) ((List.range n).map rows) := by
  refine ⟨some ⟨b, 0, none⟩, c, by rw [List.length_map, List.length_range], fun i r hr => ?_⟩
  rw [List.getElem?_map] at hr
  by_cases hi : i < n
  · rw [List.getElem?_range hi] at hr
    simp at hr
    subst hr
    exact ⟨b, 0, vs i, rfl, by rw [Nat.zero_add]; exact h.cell hi, (h.own i hi).rd⟩
  · rw [List.getElem?_eq_none (by rw [List.length_range]; omega)] at hr
    cases hr
end Go.Proofs.YtblkijdodojaeaaDoor

namespace Go.Proofs.YtblkijdodojaeaaDoor
open Go.RowKit
set_option linter.unusedSimpArgs false
set_option linter.unusedVariables false

theorem Tryd.infoRow : (Tryd.prog.info? 28).map (fun i => (i.zero, i.size, i.bytes)) = some (some (.slice none 0 0), 1, 24) := by kernel_rfl
theorem make_rows (n : Nat) (hn : n ≤ 100000) (W : World) : (Instr.makeSlice 37 (.int .i64 (n : Int)) (.int .i64 (n : Int))).run Tryd.prog W = .ok (.slice (some ⟨W.heap.size, 0, none⟩) n n) (W.alloc (.cells (madeCells #[.slice none 0 0] n) 28)) :=
  run_make_row' _ _ _ 24 Tryd.underlying37 Tryd.infoRow rfl _ _ n (by omega) (by omega) W
theorem cell_one_new (w : World) (x : Value) (t : TypeId) : ∀ j u, [x][j]? = some u → (w.alloc (.cells #[x] t)).cell? ((⟨w.heap.size, 0, none⟩ : Addr).add j) = some u := by
  intro j u hj
  match j, hj with
  | 0, hj => simp at hj; subst hj; simp [Addr.add]
/-- The cells that the statement of the loop reads. -/
def S7 (P0 b x : Nat) (z : Int) (s : Value) (W : World) : Prop := W.cell? ⟨P0, 0, none⟩ = some (.int .i64 (x : Int)) ∧ W.cell? ⟨P0, 2, none⟩ = some (.int .i64 z) ∧ W.cell? ⟨b, x, none⟩ = some s
theorem S7.keep {P0 b x : Nat} {z : Int} {s : Value} {W W' : World} (h : S7 P0 b x z s W) (hb : Below W.heap.size W W') : S7 P0 b x z s W' := ⟨cell_keep h.1 hb, cell_keep h.2.1 hb, cell_keep h.2.2 hb⟩
theorem S7.block {P0 b x : Nat} {z : Int} {s : Value} {W W' : World} {o : Obj} {row : Option Nat} (h : S7 P0 b x z s W) (r : ((W.alloc o).drew).grownBy W' row) (h2 : row ≠ some b) : W'.heap[b]? = W.heap[b]? := by
  have hq : b < W.heap.size := World.block_lt_of_cell? W ⟨b, x, none⟩ h.2.2
  have hs : ((W.alloc o).drew).heap.size = W.heap.size + 1 := World.size_alloc W o
  exact (r.block b (by omega) (Ne.symm h2)).trans (Below.heap_alloc _ _ _ hq)
theorem S7.grown {P0 b x : Nat} {z : Int} {s : Value} {W W' : World} {o : Obj} {row : Option Nat} (h : S7 P0 b x z s W) (r : ((W.alloc o).drew).grownBy W' row) (h1 : row ≠ some P0) (h2 : row ≠ some b) : S7 P0 b x z s W' := by
  have hp : P0 < W.heap.size := World.block_lt_of_cell? W ⟨P0, 0, none⟩ h.1
  have hs : ((W.alloc o).drew).heap.size = W.heap.size + 1 := World.size_alloc W o
  have e1 := (r.block P0 (by omega) (Ne.symm h1)).trans (Below.heap_alloc _ _ _ hp)
  have e2 := h.block r h2
  exact ⟨(World.cell?_of_block (w := W) e1).trans h.1, (World.cell?_of_block (w := W) e1).trans h.2.1, (World.cell?_of_block (w := W) e2).trans h.2.2⟩
end Go.Proofs.YtblkijdodojaeaaDoor
