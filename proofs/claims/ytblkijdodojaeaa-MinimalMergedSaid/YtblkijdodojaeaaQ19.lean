/- Pairs that a search has found, in memory; what minimal.wordTo returns. Conditions: the queue can be read; each pair but the first one was found behind one before. What minimal.firstWord returns: the first list of labels that leads to a pair as wanted, if there is one. Conditions: the machines can be read; at most 64 states and 256 labels; what is wanted is told by a function. What minimal.firstWord returns with exactlyOne: the first list of labels that leads to a pair as wanted, if there is one. Conditions: the machines can be read; at most 64 states and 256 labels. -/
import Derived.Test.YtblkijdodojaeaaQ18
import Derived.Laws.StructEq
import Derived.ChangeKeysEq
import Derived.Shelf.SlicesE.Equal
import Derived.Lib.LazyBuf
import Derived.BigQuiet

namespace Go.Proofs.Ytblkijdodojaeaa
open Go.RowKit Go.Maps Go.Lib
set_option linter.unusedSimpArgs false
set_option linter.unusedVariables false

def encR (r : Rec) : List Value := [.int .i64 (r.1 : Int), .int .i64 (r.2.1 : Int), .int .i64 (r.2.2.1 : Int), .int .i64 (r.2.2.2 : Int)]
abbrev recV (a b c d : Nat) : Value := .agg #[.int .i64 (a : Int), .int .i64 (b : Int), .int .i64 (c : Int), .int .i64 (d : Int)]
def rcl (R : List Rec) : List Value := R.flatMap encR
theorem rcl_snoc (R : List Rec) (r : Rec) : rcl (R ++ [r]) = rcl R ++ [.int .i64 (r.1 : Int), .int .i64 (r.2.1 : Int), .int .i64 (r.2.2.1 : Int), .int .i64 (r.2.2.2 : Int)] := by unfold rcl; rw [List.flatMap_append]; rfl
theorem rcl_len (R : List Rec) : (rcl R).length = R.length * 4 := by
  induction R with
  | nil => rfl
  | cons p rs ih => show (_ :: _ :: _ :: _ :: rcl rs).length = _; rw [List.length_cons, List.length_cons, List.length_cons, List.length_cons, ih, List.length_cons]; omega
theorem rcl_at {R : List Rec} : ∀ {i : Nat} {r : Rec}, R[i]? = some r → (rcl R)[i * 4]? = some (.int .i64 (r.1 : Int)) ∧ (rcl R)[i * 4 + 1]? = some (.int .i64 (r.2.1 : Int)) ∧ (rcl R)[i * 4 + 2]? = some (.int .i64 (r.2.2.1 : Int)) ∧ (rcl R)[i * 4 + 3]? = some (.int .i64 (r.2.2.2 : Int)) := by
  induction R with
  | nil => intro i p h; cases h
  | cons q rs ih =>
    intro i p h
    cases i with
    | zero => simp at h; subst h; exact ⟨rfl, rfl, rfl, rfl⟩
    | succ i =>
      have := ih (i := i) (by simpa using h)
      rw [show (i + 1) * 4 = i * 4 + 1 + 1 + 1 + 1 by omega]
      exact this
def RecsAt (W : World) (B : Nat) (v : Value) (R : List Rec) : Prop := W.ownsRow B 74 4 v R.length (rcl R)
/-- Found pairs that can be read. -/
def RecsRd (W : World) (v : Value) (R : List Rec) : Prop := ∃ a c, v = .slice a R.length c ∧ ∀ (i : Nat) (r : Rec), R[i]? = some r → ∃ b off, a = some ⟨b, off, none⟩ ∧
  W.cell? ⟨b, off + i * 4, none⟩ = some (.int .i64 (r.1 : Int)) ∧ W.cell? ⟨b, off + i * 4 + 1, none⟩ = some (.int .i64 (r.2.1 : Int)) ∧ W.cell? ⟨b, off + i * 4 + 2, none⟩ = some (.int .i64 (r.2.2.1 : Int)) ∧ W.cell? ⟨b, off + i * 4 + 3, none⟩ = some (.int .i64 (r.2.2.2 : Int))
section
variable {W W' : World} {B : Nat} {v : Value} {R : List Rec}
theorem RecsAt.keep (h : RecsAt W B v R) (hb : Below W.heap.size W W') : RecsAt W' B v R := World.ownsRow.kept h (grown_none hb) (by cases v.ownBlock <;> simp)
theorem RecsAt.slice (h : RecsAt W B v R) : ∃ a c, v = .slice a R.length c := own_slice h
theorem RecsAt.row (h : RecsAt W B v R) (h0 : 0 < R.length) : ∃ g c, v = .slice (some ⟨g, 0, none⟩) R.length c := by
  obtain ⟨g, c, hv, _⟩ := World.ownsRow.form h h0
  exact ⟨g, c, hv⟩
theorem RecsAt.cell {g c i : Nat} {r : Rec} (h : RecsAt W B (.slice (some ⟨g, 0, none⟩) R.length c) R) (hx : R[i]? = some r) :
    W.cell? ⟨g, i * 4, none⟩ = some (.int .i64 (r.1 : Int)) ∧ W.cell? ⟨g, i * 4 + 1, none⟩ = some (.int .i64 (r.2.1 : Int)) ∧ W.cell? ⟨g, i * 4 + 2, none⟩ = some (.int .i64 (r.2.2.1 : Int)) ∧ W.cell? ⟨g, i * 4 + 3, none⟩ = some (.int .i64 (r.2.2.2 : Int)) := by
  have hi : i < R.length := (List.getElem?_eq_some_iff.1 hx).1
  obtain ⟨k1, k2, k3, k4⟩ := rcl_at hx
  exact ⟨(World.ownsRow.cellAt h (i * 4) (by omega)).trans k1, (World.ownsRow.cellAt h (i * 4 + 1) (by omega)).trans k2, (World.ownsRow.cellAt h (i * 4 + 2) (by omega)).trans k3, (World.ownsRow.cellAt h (i * 4 + 3) (by omega)).trans k4⟩
theorem RecsAt.rd (h : RecsAt W B v R) : RecsRd W v R := by
  obtain ⟨a, c, rfl⟩ := h.slice
  refine ⟨a, c, rfl, fun i r hx => ?_⟩
  have hi : i < R.length := (List.getElem?_eq_some_iff.1 hx).1
  obtain ⟨g, c2, hv⟩ := h.row (by omega)
  injection hv with e1 e2 e3
  subst e1
  exact ⟨g, 0, rfl, by rw [Nat.zero_add]; exact RecsAt.cell h hx⟩
theorem RecsRd.keep (h : RecsRd W v R) (hb : Below W.heap.size W W') : RecsRd W' v R := by
  obtain ⟨a, c, rfl, h1⟩ := h
  refine ⟨a, c, rfl, fun i r hx => ?_⟩
  obtain ⟨b, off, rfl, k1, k2, k3, k4⟩ := h1 i r hx
  exact ⟨b, off, rfl, cell_keep k1 hb, cell_keep k2 hb, cell_keep k3 hb, cell_keep k4 hb⟩
theorem RecsRd.form (h : RecsRd W v R) : ∃ a c, v = .slice a R.length c := by
  obtain ⟨a, c, h1, -⟩ := h
  exact ⟨a, c, h1⟩
theorem RecsRd.at (h : RecsRd W v R) {i : Nat} {r : Rec} (hx : R[i]? = some r) : ∃ b off c, v = .slice (some ⟨b, off, none⟩) R.length c ∧
    W.cell? ⟨b, off + i * 4, none⟩ = some (.int .i64 (r.1 : Int)) ∧ W.cell? ⟨b, off + i * 4 + 1, none⟩ = some (.int .i64 (r.2.1 : Int)) ∧ W.cell? ⟨b, off + i * 4 + 2, none⟩ = some (.int .i64 (r.2.2.1 : Int)) ∧ W.cell? ⟨b, off + i * 4 + 3, none⟩ = some (.int .i64 (r.2.2.2 : Int)) := by
  obtain ⟨a, c, rfl, h1⟩ := h
  obtain ⟨b, off, rfl, k⟩ := h1 i r hx
  exact ⟨b, off, c, rfl, k⟩
end
theorem Try.infoFound : (Try.prog.info? 74).map (fun i => (i.zero, i.size, i.bytes)) = some (some (.agg #[.int .i64 0, .int .i64 0, .int .i64 0, .int .i64 0]), 4, 32) := by kernel_rfl
theorem cell_four_new (w : World) (x y z u : Value) (t : TypeId) : ∀ j v, [x, y, z, u][j]? = some v → (w.alloc (.cells #[x, y, z, u] t)).cell? ((⟨w.heap.size, 0, none⟩ : Addr).add j) = some v := by
  intro j v hj
  match j, hj with
  | 0, hj => simp at hj; subst hj; simp [Addr.add]
  | 1, hj => simp at hj; subst hj; simp [Addr.add]
  | 2, hj => simp at hj; subst hj; simp [Addr.add]
  | 3, hj => simp at hj; subst hj; simp [Addr.add]
theorem pairEq (d : Nat) (a b c e : Nat) (w : World) : (Op.equalIn (d + 2) 58 (.agg #[.int .i64 (a : Int), .int .i64 (b : Int)]) (.agg #[.int .i64 (c : Int), .int .i64 (e : Int)])).run Try.prog w = .ok (decide (a = c ∧ b = e)) w := by
  have u3 := Try.underlying3
  obtain ⟨i0, hi, -⟩ := info_parts Try.infoI64
  rw [run_equalIn_array w (d + 1) #[.int .i64 (a : Int), .int .i64 (b : Int)] #[.int .i64 (c : Int), .int .i64 (e : Int)] Try.underlying58 hi]
  rw [Try.arrP.one]
  simp only [show List.range 2 = [0, 1] from rfl, Op.eqItems]
  go_simp
  by_cases h1 : a = c <;> by_cases h2 : b = e <;> simp [h1, h2] <;> first | omega | (intro _; omega)
theorem pairNeq (a b c e : Nat) (w : World) : (binOp .neq 58 (.agg #[.int .i64 (a : Int), .int .i64 (b : Int)]) (.agg #[.int .i64 (c : Int), .int .i64 (e : Int)])).run Try.prog w = .ok (.bool (!decide (a = c ∧ b = e))) w := by
  rw [run_neq_struct, show (10000 : Nat) = 9998 + 2 from rfl, pairEq]
  rfl
theorem pairGuard (op : BinOp) (x y : Operand) (a b : Array Value) (w : World) : (eqGuard op 58 x y (.agg a) (.agg b)).run Try.prog w = .ok () w := run_eqGuard_agg w op 58 x y a b (by kernel_rfl)
theorem foundGuard (op : BinOp) (x y : Operand) (a b : Array Value) (w : World) : (eqGuard op 74 x y (.agg a) (.agg b)).run Try.prog w = .ok () w := run_eqGuard_agg w op 74 x y a b (by kernel_rfl)
theorem foundNeq (r q : Rec) (w : World) : (binOp .neq 74 (recV r.1 r.2.1 r.2.2.1 r.2.2.2) (recV q.1 q.2.1 q.2.2.1 q.2.2.2)).run Try.prog w = .ok (.bool (!decide (r = q))) w := by
  have u3 := Try.underlying3
  have a3 := Try.isAgg3
  have z3 := Try.sizeOf3
  have zp := Try.sizeOf58
  have ap := Try.isAgg58
  have hS : Try.prog.underlying 74 = some (.struct (Try.prog.fieldsOf 74)) := by kernel_rfl
  have hp : Try.prog.stoodInHeld 74 = false := by kernel_rfl
  have hP := fun (d : Nat) (a b c e : Nat) (w : World) => pairEq d a b c e w
  rw [run_neq_struct, show (10000 : Nat) = 9999 + 1 from rfl, run_equalIn_agg w 9999 74 _ _ hS hp]
  simp only [Program.fieldsOf, Try.underlying74]
  rw [show (9999 : Nat) = 9997 + 2 from rfl]
  go_simp
  obtain ⟨a, b, c, d⟩ := r
  obtain ⟨e, f, g, h⟩ := q
  simp only [show ∀ x y : Nat, ((x : Int) = (y : Int)) = (x = y) from fun x y => propext (by omega)]
  by_cases h1 : a = e <;> by_cases h2 : b = f <;> by_cases h3 : c = g <;> by_cases h4 : d = h <;> simp [h1, h2, h3, h4]
theorem ints_revH {w W : World} {g c q : Nat} {l : List Int} {m : Nat} (hm : l.length = m) (h : IntsAt W w.heap.size (.slice (some ⟨g, 0, none⟩) m c) l) :
    IntsRd ((W.drewN q).setCells g 0 (((l.take m).reverse).map (Value.int .i64))) (.slice (some ⟨g, 0, none⟩) m c) l.reverse := by
  subst hm
  rw [List.take_length]
  refine ⟨_, c, by rw [List.length_reverse], fun i x hx => ⟨g, 0, rfl, ?_⟩⟩
  have hi : i < (l.reverse.map (Value.int .i64)).length := by rw [List.length_map]; exact (List.getElem?_eq_some_iff.1 hx).1
  have hs : ∀ j, j < (l.reverse.map (Value.int .i64)).length → ((W.drewN q).cell? ⟨g, 0 + j, none⟩).isSome = true := fun j hj => by
    have hj2 : j < l.length := by rw [List.length_map, List.length_reverse] at hj; exact hj
    have h2 : (W.drewN q).cell? ⟨g, 0 + j, none⟩ = some (.int .i64 l[j]) := by rw [Nat.zero_add]; exact IntsAt.cell h (List.getElem?_eq_getElem hj2)
    rw [h2]; rfl
  rw [World.cell?_setCells_in g _ 0 _ hs i hi]
  rw [List.getElem_map]
  obtain ⟨h3, h4⟩ := List.getElem?_eq_some_iff.1 hx
  rw [h4]
theorem rev_anyH (w W : World) (v : Value) (l : List Int) (h : IntsAt W w.heap.size v l) (hl : l.length ≤ 100000) (hw : w.heap.size ≤ W.heap.size) :
    Calls Try.prog 64 #[v] W fun e w' => e = .returned (.tuple #[]) ∧ IntsRd w' v l.reverse ∧ Below w.heap.size W w' := by
  by_cases h0 : l = []
  · subst h0
    obtain ⟨a, c, rfl⟩ := h.slice
    refine (Try.slices_Reverse_int_empty a c W).mono ?_
    rintro e w' ⟨he, rfl⟩
    exact ⟨he, ⟨a, c, rfl, fun i x hx => by simp at hx⟩, Below.refl _ _⟩
  · obtain ⟨g, c, rfl⟩ := h.row (List.length_pos_iff.2 h0)
    have hc : ∀ j, j < l.length → W.cell? ⟨g, 0 + j, none⟩ = some (.int .i64 (l.getD j 0)) := fun j hj => by
      rw [Nat.zero_add, List.getD_eq_getElem?_getD, List.getElem?_eq_getElem hj]
      exact IntsAt.cell h (List.getElem?_eq_getElem hj)
    have hf : ∀ j, j < l.length → W.frozen? ⟨g, 0 + j, none⟩ = false := fun j hj => by
      rcases h.2 with ⟨h1, h2⟩ | ⟨g2, cap, cur, h1, h2, h3, _⟩
      · exact absurd (List.length_eq_zero_iff.1 h2) h0
      · injection h1 with h1
        injection h1 with h1
        injection h1 with h1
        subst h1
        simp [World.frozen?, h3]
    refine (Try.slices_Reverse_int_cells g 0 l.length c l W (Nat.le_refl _) (by omega) hc hf).mono ?_
    rintro e w' ⟨he, q, rfl⟩
    have hg : w.heap.size ≤ g := (World.ownsRow.lt h g rfl).1
    exact ⟨he, ints_revH rfl h, Lib.below_setCells g hg _ _ (below_drewM (Below.refl _ W) q)⟩
theorem blk_loH {W W4 : World} {A t s k p : Nat} {v : Value} {xs : List Value} {o : Obj} (hp : p < W.heap.size) (hr : W.ownsRow A t s v k xs) (hA : p < A) (hg : (W.alloc o).grownBy W4 v.ownBlock) : W4.heap[p]? = W.heap[p]? :=
  (hg.block p (by rw [World.size_alloc]; omega) (fun e => by have := (hr.lt p e.symm).1; omega)).trans (Below.heap_alloc _ _ _ hp)
theorem boxed_loH {W W4 : World} {A t s k p : Nat} {u v : Value} {ty : TypeId} {xs : List Value} {o : Obj} (h : Boxed W p ty u) (hr : W.ownsRow A t s v k xs) (hA : p < A) (hg : (W.alloc o).grownBy W4 v.ownBlock) : Boxed W4 p ty u := (blk_loH h.lt hr hA hg).trans h
theorem boxg_loH {W W4 : World} {A t s k p : Nat} {x y : Int} {z v : Value} {xs : List Value} {o : Obj} (h : BoxG W p x y z) (hp : p < W.heap.size) (hr : W.ownsRow A t s v k xs) (hA : p < A) (hg : (W.alloc o).grownBy W4 v.ownBlock) : BoxG W4 p x y z :=
  have hb := blk_loH hp hr hA hg
  ⟨(World.cell?_of_block (a := ⟨p, 0, none⟩) hb).trans h.1, (World.cell?_of_block (a := ⟨p, 1, none⟩) hb).trans h.2.1, (World.cell?_of_block (a := ⟨p, 2, none⟩) hb).trans h.2.2⟩
/-- A found pair in a variable. -/
def Bx4 (W : World) (p : Nat) (r : Rec) : Prop := W.heap[p]? = some (.cells #[.int .i64 (r.1 : Int), .int .i64 (r.2.1 : Int), .int .i64 (r.2.2.1 : Int), .int .i64 (r.2.2.2 : Int)] 74 (0, 0))
theorem Bx4.new (W : World) (r : Rec) : Bx4 (W.alloc (.cells #[.int .i64 (r.1 : Int), .int .i64 (r.2.1 : Int), .int .i64 (r.2.2.1 : Int), .int .i64 (r.2.2.2 : Int)] 74)) W.heap.size r := heap_alloc_new W _
theorem Bx4.lt {W : World} {p : Nat} {r : Rec} (h : Bx4 W p r) : p < W.heap.size := (Array.getElem?_eq_some_iff.1 h).1
theorem Bx4.cells {W : World} {p : Nat} {r : Rec} (h : Bx4 W p r) : (W.cell? ⟨p, 0, none⟩ = some (.int .i64 (r.1 : Int)) ∧ W.cell? ⟨p, 1, none⟩ = some (.int .i64 (r.2.1 : Int)) ∧ W.cell? ⟨p, 2, none⟩ = some (.int .i64 (r.2.2.1 : Int)) ∧ W.cell? ⟨p, 3, none⟩ = some (.int .i64 (r.2.2.2 : Int))) ∧
    (W.frozen? ⟨p, 0, none⟩ = false ∧ W.frozen? ⟨p, 1, none⟩ = false ∧ W.frozen? ⟨p, 2, none⟩ = false ∧ W.frozen? ⟨p, 3, none⟩ = false) := by
  unfold Bx4 at h
  refine ⟨⟨by simp [World.cell?, h], by simp [World.cell?, h], by simp [World.cell?, h], by simp [World.cell?, h]⟩, by simp [World.frozen?, h], by simp [World.frozen?, h], by simp [World.frozen?, h], by simp [World.frozen?, h]⟩
theorem Bx4.set {W : World} {p : Nat} {r : Rec} (h : Bx4 W p r) (q : Rec) : Bx4 ((((W.setCell ⟨p, 0, none⟩ (.int .i64 (q.1 : Int))).setCell ⟨p, 1, none⟩ (.int .i64 (q.2.1 : Int))).setCell ⟨p, 2, none⟩ (.int .i64 (q.2.2.1 : Int))).setCell ⟨p, 3, none⟩ (.int .i64 (q.2.2.2 : Int))) p q := by
  obtain ⟨hlt, hk⟩ := Array.getElem?_eq_some_iff.1 h
  unfold Bx4 World.setCell
  simp [Array.getElem?_modify, Array.getElem?_eq_getElem hlt, hk]
theorem recQ_zero {R : List Rec} {Q : List (List Int × (Nat × Nat))} (h : RecQ R Q) {k : Nat} {r r0 : Rec} (hr : R[k]? = some r) (h0 : R[0]? = some r0) (e : r = r0) : k = 0 := by
  have hl := h.len
  have hk : k < Q.length := by have := (List.getElem?_eq_some_iff.1 hr).1; omega
  have h1 := List.getElem?_eq_getElem hk
  have h2 := List.getElem?_eq_getElem (show 0 < Q.length by omega)
  have e1 := h.at_ k r _ hr h1
  have e2 := h.at_ 0 r0 _ h0 h2
  have h3 : (Q.map (·.2))[k]? = (Q.map (·.2))[0]? := by
    rw [List.getElem?_map, List.getElem?_map, h1, h2, Option.map_some, Option.map_some, e1, e2, e]
  exact (List.getElem?_inj (by rw [List.length_map]; exact hk) h.nd).1 h3
set_option maxRecDepth 100000 in
set_option maxHeartbeats 6400000 in
theorem wordTo_any (R : List Rec) (Q : List (List Int × (Nat × Nat))) (v : Value) (k0 : Nat) (r0 : Rec) (q0 : List Int × (Nat × Nat)) (w : World) (hrd : RecsRd w v R) (hrq : RecQ R Q) (hr0 : R[k0]? = some r0) (hq0 : Q[k0]? = some q0) (hn : R.length ≤ 100000) :
    Calls Try.prog 48 #[v, recV r0.1 r0.2.1 r0.2.2.1 r0.2.2.2] w fun e w' => ∃ a c, e = .returned (.slice a q0.1.length c) ∧ IntsRd w' (.slice a q0.1.length c) q0.1 ∧ Below w.heap.size w w' := by
  obtain ⟨i0, hi, hz0, hz1, hz2⟩ := info_parts Try.infoI64
  have hneq := foundNeq
  have hgd := foundGuard
  have HRD := Lib.hid hrd
  have HRQ := Lib.hid hrq
  obtain ⟨s0, t0, hQ0, hR0'⟩ := hrq.root
  obtain ⟨⟨s, t, y0, l0⟩, hR0⟩ : ∃ r, R[0]? = some r := ⟨_, hR0'⟩
  have hk0 : k0 < R.length := (List.getElem?_eq_some_iff.1 hr0).1
  have HR0 := Lib.hid hR0
  have HQ0 := Lib.hid hQ0
  have HRR := Lib.hid hr0
  have HQQ := Lib.hid hq0
  obtain ⟨a, c, hv⟩ := hrd.form
  subst hv
  have X0 := Lib.hid (Bx4.new w r0)
  have B0 := Lib.hid (below1 w (.cells #[.int .i64 (r0.1 : Int), .int .i64 (r0.2.1 : Int), .int .i64 (r0.2.2.1 : Int), .int .i64 (r0.2.2.2 : Int)] 74))
  have Z0 := Lib.hid (World.size_alloc w (.cells #[.int .i64 (r0.1 : Int), .int .i64 (r0.2.1 : Int), .int .i64 (r0.2.2.1 : Int), .int .i64 (r0.2.2.2 : Int)] 74))
  clear hrd hrq hR0 hQ0 hr0 hq0 hR0'
  go_enter Try.func48, Try.ntmps48
  go_wp2_with fail
  generalize (w.alloc (.cells #[.int .i64 (r0.1 : Int), .int .i64 (r0.2.1 : Int), .int .i64 (r0.2.2.1 : Int), .int .i64 (r0.2.2.2 : Int)] 74)) = X at *
  have I0 := Lib.hid (ints_nil X (w.heap.size + 1))
  go_loopg [5] R.length (fun q s5 wx => ∃ (k x y bh lb : Nat) (p : List Int × (Nat × Nat)) (ls : List Int), k ≤ q ∧ Hid (R[k]? = some (x, y, bh, lb)) ∧ Hid (Q[k]? = some p) ∧ Hid (p.1 ++ ls.reverse = q0.1) ∧ Hid (IntsAt wx (w.heap.size + 1) s5 ls) ∧ Hid (Bx4 wx w.heap.size (x, y, bh, lb)) ∧ Hid (Below w.heap.size w wx) ∧ w.heap.size + 1 ≤ wx.heap.size ∧ ls.length + q ≤ R.length)
  case atStart => exact ⟨k0, r0.1, r0.2.1, r0.2.2.1, r0.2.2.2, q0, [], by omega, HRR, HQQ, Lib.hid (by rw [List.reverse_nil, List.append_nil]), I0, X0, B0, by rw [Z0.out]; exact Nat.le_refl _, by simp⟩
  case round =>
    clear X0 B0 I0 HRR HQQ Z0
    obtain ⟨k, x, y, bh, lb, p, ls, hkq, HK, HP, HL, HI, HX, HB, hsz, hll⟩ := hrel
    have hd : Below wr.heap.size wr wr.drew := (Below.refl _ _).drew
    obtain ⟨⟨x1, x2, x3, x4⟩, f1, f2, f3, f4⟩ := HX.out.cells
    obtain ⟨b0, o0, cc0, hv0, k1, k2, k3, k4⟩ := (HRD.out.keep HB.out).at HR0.out
    injection hv0 with e1 e2 e3
    subst e1
    have heq := fun W => foundNeq (x, y, bh, lb) (s, t, y0, l0) W
    dsimp only at heq k1 k2 k3 k4 x1 x2 x3 x4
    rw [Nat.zero_mul, Nat.add_zero] at k1 k2 k3 k4
    have hR1 : 0 < R.length := by omega
    have hR2 : (0 : Int) < (R.length : Int) := by omega
    clear e2 e3 hneq
    by_cases h0 : k = 0
    · subst h0
      have d1 : decide ((x, y, bh, lb) = (s, t, y0, l0)) = true := decide_eq_true (by
        have := HK.out.symm.trans HR0.out
        injection this)
      rw [d1] at heq
      have HE := Lib.hid (show ls.reverse = q0.1 by
        have h1 := HP.out.symm.trans HQ0.out
        injection h1 with h1
        have h2 := HL.out
        rw [h1] at h2
        exact h2)
      have HI2 := Lib.hid (IntsAt.keep HI.out hd)
      have HB2 := Lib.hid (HB.out.trans (hd.mono HB.out.size))
      have hsz2 : w.heap.size + 1 ≤ wr.drew.heap.size := hsz
      obtain ⟨a5, c5, rfl⟩ := HI.out.slice
      obtain ⟨m5, hm5⟩ : ∃ m, ls.length = m := ⟨_, rfl⟩
      have HM5 := Lib.hid hm5
      rw [hm5] at HI2 ⊢
      clear d1 HI HB HX hsz hd hm5
      go_wp2_with fail
      go_region
      generalize wr.drew = Y at *
      have HRV := Lib.hid (rev_anyH w Y (.slice a5 m5 c5) ls (own_low HI2.out (by omega)) (by omega) (by omega))
      go_wp2_with (go_at_call 64; (with_reducible refine HRV.out.mono ?_); rintro e W2 ⟨rfl, hi2, b2⟩)
      go_ret
      have hlq : q0.1.length = m5 := by rw [← HE.out, List.length_reverse, HM5.out]
      rw [hlq]
      refine ⟨_, _, rfl, ?_, HB2.out.trans b2⟩
      rw [← HE.out]
      exact hi2
    · have d1 : decide ((x, y, bh, lb) = (s, t, y0, l0)) = false := decide_eq_false (fun e => h0 (recQ_zero HRQ.out HK.out HR0.out e))
      rw [d1] at heq
      obtain ⟨hbk, p2, hp2, hpe⟩ := HRQ.out.par k _ p (by omega) HK.out HP.out
      dsimp only at hbk hp2 hpe
      obtain ⟨⟨x', y', bh', lb'⟩, hr2⟩ : ∃ r, R[bh]? = some r := ⟨_, List.getElem?_eq_getElem (by have := (List.getElem?_eq_some_iff.1 hp2).1; have := HRQ.out.len; omega)⟩
      have HK2 := Lib.hid hr2
      have HP2 := Lib.hid hp2
      have HL2 := Lib.hid (show p2.1 ++ (ls ++ [(lb : Int)]).reverse = q0.1 by
        rw [← HL.out, hpe, List.reverse_append, List.append_assoc]; rfl)
      have HI2 := Lib.hid (IntsAt.keep HI.out hd)
      have HX2 := Lib.hid (show Bx4 wr.drew w.heap.size (x, y, bh, lb) from HX.out)
      have HB2 := Lib.hid (HB.out.trans (hd.mono HB.out.size))
      have hsz2 : w.heap.size + 1 ≤ wr.drew.heap.size := hsz
      obtain ⟨a5, c5, rfl⟩ := HI.out.slice
      obtain ⟨m5, hm5⟩ : ∃ m, ls.length = m := ⟨_, rfl⟩
      have HM5 := Lib.hid hm5
      have hown := HI2.out
      unfold IntsAt at hown
      rw [hm5] at hown hll ⊢
      have hbR : bh < R.length := (List.getElem?_eq_some_iff.1 hr2).1
      have j1 : (bh : Int) < (R.length : Int) := by omega
      obtain ⟨q', rfl⟩ : ∃ q', gk = q' + 1 := ⟨gk - 1, by omega⟩
      clear d1 HI HB HX hsz hd hm5 hp2 hpe
      go_wp2_with fail
      go_region
      clear x1 x2 x3 x4 f1 f2 f3 f4 k1 k2 k3 k4 heq
      generalize wr.drew = Y at *
      obtain ⟨⟨x1, x2, x3, x4⟩, f1, f2, f3, f4⟩ := HX2.out.cells
      dsimp only at x1 x2 x3 x4
      go_upto_region 3 with (at_builtin; refine wpList_append_own_at _ rfl _ _ 27 rfl (w.heap.size + 1) 3 i0 (.int .i64 0) 1 8 Try.underlying27 hi hz0 hz1 hz2 rfl (by decide) _ _ _ rfl (hown.alloc _) ⟨Y.heap.size, 0, none⟩ 1 1 [.int .i64 (lb : Int)] rfl rfl (cell_one_new _ _ _) (by intro u hu; simp at hu; subst hu; rfl) (by unfold maxLen; omega) (by omega) (by rw [World.size_alloc]; omega) ?_; intro v' w4 hown4 hgrow4 hnil4 hloc4)
      have hX4 : Bx4 w4 w.heap.size (x, y, bh, lb) := (blk_loH (by omega) hown (by omega) hgrow4).trans HX2.out
      have HB4 := Lib.hid ((HB2.out.alloc (by omega) _).grown hgrow4 (by rw [World.size_alloc]; omega) (fun k e => by have := (hown.lt k e).1; omega))
      obtain ⟨b3, o3, cc3, hv3, k1, k2, k3, k4⟩ := (HRD.out.keep HB4.out).at hr2
      injection hv3 with e1 e2 e3
      injection e1 with e1
      injection e1 with e1 e4
      subst e1
      subst e4
      clear x1 x2 x3 x4 f1 f2 f3 f4 e2 e3 hr2
      obtain ⟨⟨x1, x2, x3, x4⟩, f1, f2, f3, f4⟩ := hX4.cells
      dsimp only at x1 x2 x3 x4 k1 k2 k3 k4
      have HX5 := Lib.hid (hX4.set (x', y', bh', lb'))
      have hz4 : w.heap.size + 1 ≤ w4.heap.size := by have := hgrow4.size; rw [World.size_alloc] at this; omega
      have HI4 := Lib.hid (show IntsAt w4 (w.heap.size + 1) v' (ls ++ [(lb : Int)]) by
        unfold IntsAt
        rw [intz_snoc, List.length_append, HM5.out]
        exact hown4)
      clear hX4 hown4 hown hgrow4 hnil4 hloc4
      go_wp2_with fail
      go_roundg q'
      case measure => omega
      case rel =>
        have e1 : w.heap.size < w.heap.size + 1 := by omega
        exact ⟨bh, x', y', bh', lb', p2, ls ++ [(lb : Int)], by omega, HK2, HP2, HL2, Lib.hid (ownsRow_setCell_below (ownsRow_setCell_below (ownsRow_setCell_below (ownsRow_setCell_below HI4.out e1 _) e1 _) e1 _) e1 _), HX5, Lib.hid ((((HB4.out.setCell (p := ⟨w.heap.size, 0, none⟩) (Nat.le_refl _) _).setCell (p := ⟨w.heap.size, 1, none⟩) (Nat.le_refl _) _).setCell (p := ⟨w.heap.size, 2, none⟩) (Nat.le_refl _) _).setCell (p := ⟨w.heap.size, 3, none⟩) (Nat.le_refl _) _), by rw [World.size_setCell, World.size_setCell, World.size_setCell, World.size_setCell]; exact hz4, by rw [List.length_append, HM5.out]; simp; omega⟩
end Go.Proofs.Ytblkijdodojaeaa

namespace Go.Proofs.Ytblkijdodojaeaa
open Go.RowKit Go.Maps Go.Lib
set_option linter.unusedSimpArgs false
set_option linter.unusedVariables false

theorem wpList_insert_ownH {H : Type} {P : Program} (w : World) {ops : Array Oper} {rest : List Oper} {o : Oper} {a : Act} {Q : Exit → Act → World → Prop}
    (hg : o.guard = none) (m x v : Operand) (t : TypeId) (hop : o.op = Op.insert t m x v)
    (k e : TypeId) (K : Keyed P k) (ht : P.underlying t = some (.map k e)) (R : Value → Option (DataW H × List MemPlace)) (b n : Nat) (D : DataW H)
    (hm : a.eval m = .map (some b)) (hown : w.ownsMap P k R b n D) (hn : n < maxLen) (key val : Value) (kl : Lit) (hx : a.eval x = key) (hv : a.eval v = val) (hkey : keyOf P k key = some kl)
    (d : DataW H) (ps : List MemPlace) (hval : R val = some (d, ps))
    (hK : ∀ w', w'.ownsMap P k R b (n + 1) (D.put kl d) → w.grownBy w' (some b) → wpList P ops Q rest (a.put o.dst undef) w') :
    wpList P ops Q (o :: rest) a w := by
  refine wpList_plain hg fun K' hK' => ?_
  obtain ⟨w', hrun, r1, r2⟩ := hown.update K ht hn hkey hval
  unfold Oper.wp
  simp [execOp, hop, hm, hx, hv, hrun, Result.andThen]
  exact hK' _ _ (hK w' r1 r2)
/-- The map that tells which pairs are known. -/
def setP (K : List (Nat × Nat)) : MapH := K.foldl (fun m p => m.put (kyP p) (.lit (.bool true))) (.map [])
theorem setP_snoc (K : List (Nat × Nat)) (x : Nat × Nat) : setP (K ++ [x]) = (setP K).put (kyP x) (.lit (.bool true)) := by
  unfold setP; rw [List.foldl_append]; rfl
theorem setP_tidy : ∀ (K : List (Nat × Nat)), Tidy (setP K) :=
  snocP tidy_empty (fun l x ih => by rw [setP_snoc]; exact ih.put (kyP_key _) _)
set_option maxRecDepth 100000 in
theorem setP_at {p : Nat × Nat} (hp : SmP p) : ∀ (K : List (Nat × Nat)), (∀ x ∈ K, SmP x) → (setP K).atKey (kyP p) (.lit (.bool false)) = .lit (.bool (decide (p ∈ K))) :=
  snocP (fun _ => by rw [atKey_of_not_has (by simp [setP, Maps.has])]; simp) (fun l x ih hs => by
    rw [setP_snoc]
    by_cases e : p = x
    · subst e
      rw [atKey_put_same (setP_tidy l).isMap (kyP_key _)]; simp
    · rw [atKey_put_other (kyP_ne hp (hs x (by simp)) e), ih (fun y hy => hs y (List.mem_append_left _ hy))]
      have e2 : decide (p ∈ l) = decide (p ∈ l ++ [x]) := decide_eq_decide.2 (by
        rw [List.mem_append, List.mem_singleton]
        exact ⟨.inl, fun h => h.resolve_right e⟩)
      exact congrArg (fun b => DataW.lit (Lit.bool b)) e2)
theorem Try.zeroBH (w : World) : (zeroValue 4).run Try.prog w = .ok (.bool false) w := by kernel_rfl
theorem plainB_inv {P : Program} {e : TypeId} (he : P.underlying e = some .bool) {v : Value} {z : MapH × List MemPlace} (h : plainElem P e v = some z) : ∃ x, v = .bool x ∧ z = (.lit (.bool x), []) := by
  unfold plainElem at h
  rw [he] at h
  cases v <;> simp at h
  exact ⟨_, rfl, h.symm⟩
set_option maxRecDepth 100000 in
theorem lookB {W : World} {b n : Nat} {K : List (Nat × Nat)} {p : Nat × Nat} (h : W.ownsMap Try.prog 58 (plainElem Try.prog 4) b n (setP K)) (hp : SmP p) (hK : ∀ x ∈ K, SmP x) :
    (Instr.lookup 76 (.map (some b)) (prV p.1 p.2) false).run Try.prog W = .ok (.bool (decide (p ∈ K))) W := by
  obtain ⟨v, ps, hrun, hv⟩ := h.lookup Try.keyLawP Try.underlying76 (Try.zeroBH W) (plainElem_bool Try.underlying4 false) (kyP_of hp)
  rw [setP_at hp K hK] at hv
  obtain ⟨x, hx, hz⟩ := plainB_inv Try.underlying4 hv
  have hz2 := congrArg Prod.fst hz
  dsimp only at hz2
  injection hz2 with hz2
  injection hz2 with hz2
  rw [hz2, ← hx]
  exact hrun
/-- A pair in a variable. -/
def Bx2 (W : World) (p x y : Nat) : Prop := W.heap[p]? = some (.cells #[.int .i64 (x : Int), .int .i64 (y : Int)] 58 (0, 0))
theorem Bx2.new (W : World) (x y : Nat) : Bx2 (W.alloc (.cells #[.int .i64 (x : Int), .int .i64 (y : Int)] 58)) W.heap.size x y := heap_alloc_new W _
theorem Bx2.lt {W : World} {p x y : Nat} (h : Bx2 W p x y) : p < W.heap.size := (Array.getElem?_eq_some_iff.1 h).1
theorem Bx2.cells {W : World} {p x y : Nat} (h : Bx2 W p x y) : W.cell? ⟨p, 0, none⟩ = some (.int .i64 (x : Int)) ∧ W.cell? ⟨p, 1, none⟩ = some (.int .i64 (y : Int)) := by
  unfold Bx2 at h
  exact ⟨by simp [World.cell?, h], by simp [World.cell?, h]⟩
theorem Bx2.keep {W W' : World} {p x y : Nat} (h : Bx2 W p x y) (hb : Below W.heap.size W W') : Bx2 W' p x y := (hb.block p h.lt).trans h
theorem Bx2.grown {W W' : World} {p x y : Nat} {row : Option Nat} (h : Bx2 W p x y) (hg : W.grownBy W' row) (hr : row ≠ some p) : Bx2 W' p x y := (hg.block p h.lt (fun e => hr e.symm)).trans h
theorem Bx2.ne_map {W : World} {p x y b n : Nat} {D : MapH} {Q : Value → Option (MapH × List MemPlace)} {k : TypeId} (h : Bx2 W p x y) (hm : W.ownsMap Try.prog k Q b n D) : some b ≠ some p := fun e => by
  injection e with e
  subst e
  exact map_not_cellsH hm h
theorem row_cellsH {W : World} {A t s k g : Nat} {v : Value} {xs : List Value} (hr : W.ownsRow A t s v k xs) (hg : v.ownBlock = some g) : ∃ c fr, W.heap[g]? = some (.cells c t fr) := by
  rcases hr.2 with ⟨rfl, _⟩ | ⟨g2, cap, cur, rfl, _, hgb, _⟩
  · simp [Value.ownBlock] at hg
  · obtain rfl : g2 = g := by simpa [Value.ownBlock] using hg
    exact ⟨_, _, hgb⟩
theorem Bx2.ne_row {W : World} {p x y B n : Nat} {v : Value} {xs : List Value} (h : Bx2 W p x y) (hr : W.ownsRow B 74 4 v n xs) : v.ownBlock ≠ some p := fun e => by
  obtain ⟨c, fr, h2⟩ := row_cellsH hr e
  unfold Bx2 at h
  rw [h] at h2
  injection h2 with h2
  injection h2 with _ h2 _
  exact absurd h2 (by decide)
/-- What a search holds: what it found, what is known, the pair of what is none. -/
structure FS (lo Bm pN na nb : Nat) (R : List Rec) (K : List (Nat × Nat)) (v : Value) (Wm W : World) : Prop where
  bl : Below lo Wm W
  rs : RecsAt W lo v R
  mp : W.ownsMap Try.prog 58 (plainElem Try.prog 4) Bm K.length (setP K)
  nw : Bx2 W pN na nb
  hB : lo ≤ Bm
theorem FS.keep {lo Bm pN na nb : Nat} {R : List Rec} {K : List (Nat × Nat)} {v : Value} {Wm W W' : World} (h : FS lo Bm pN na nb R K v Wm W) (hlo : lo ≤ W.heap.size) (hb : Below W.heap.size W W') : FS lo Bm pN na nb R K v Wm W' :=
  ⟨h.bl.trans (hb.mono hlo), h.rs.keep hb, h.mp.kept (grown_none hb) (by simp), h.nw.keep hb, h.hB⟩
/-- One pair more. -/
theorem FS.put {lo Bm pN na nb : Nat} {R : List Rec} {K : List (Nat × Nat)} {v v4 : Value} {Wm W w1 w4 : World} {o : Obj} {r : Rec} {x : Nat × Nat} (h : FS lo Bm pN na nb R K v Wm W) (hlo : lo ≤ W.heap.size)
    (hm1 : w1.ownsMap Try.prog 58 (plainElem Try.prog 4) Bm (K.length + 1) ((setP K).put (kyP x) (.lit (.bool true)))) (hg1 : W.grownBy w1 (some Bm))
    (hr1 : w1.ownsRow lo 74 4 v R.length (rcl R))
    (hr4 : w4.ownsRow lo 74 4 v4 (R.length + 1) (rcl R ++ [.int .i64 (r.1 : Int), .int .i64 (r.2.1 : Int), .int .i64 (r.2.2.1 : Int), .int .i64 (r.2.2.2 : Int)])) (hg4 : (w1.alloc o).grownBy w4 v.ownBlock) :
    FS lo Bm pN na nb (R ++ [r]) (K ++ [x]) v4 Wm w4 := by
  have b1 : Below lo Wm w1 := h.bl.grown hg1 hlo (fun k e => by injection e with e; have := h.hB; omega)
  have hs1 : lo ≤ w1.heap.size := by have := hg1.size; omega
  have n1 := h.nw.grown hg1 (h.nw.ne_map h.mp)
  have n2 : Bx2 (w1.alloc o) pN na nb := n1.keep (below1 w1 o)
  have hr2 := hr1.alloc o
  refine ⟨(b1.alloc hs1 o).grown hg4 (by rw [World.size_alloc]; omega) (fun k e => (hr1.lt k e).1), ?_, ?_, n2.grown hg4 (n2.ne_row hr2), h.hB⟩
  · unfold RecsAt
    rw [rcl_snoc, List.length_append]
    exact hr4
  · rw [setP_snoc, List.length_append]
    refine (hm1.alloc o).kept hg4 (fun e => ?_)
    obtain ⟨c, fr, h2⟩ := row_cellsH hr2 e.symm
    exact map_not_cellsH (hm1.alloc o) h2
theorem recs_one (W : World) (s t : Nat) : RecsAt (W.alloc (.cells #[.int .i64 (s : Int), .int .i64 (t : Int), .int .i64 0, .int .i64 0] 74)) W.heap.size (.slice (some ⟨W.heap.size, 0, none⟩) 1 1) [(s, t, 0, 0)] :=
  ⟨rfl, .inr ⟨W.heap.size, 1, #[.int .i64 (s : Int), .int .i64 (t : Int), .int .i64 0, .int .i64 0], rfl, Nat.le_refl _, heap_alloc_new W _, Nat.le_refl _, by unfold maxLen; omega, rfl, rfl⟩⟩
/-- A list of labels and whether there is one. -/
def FWOut (D : Bool → Bool → Bool) (a b : Nat → Nat → Nat) (na nb La s t : Nat) (w : World) (e : Ending) (w' : World) : Prop :=
  ∃ g c u is, e = .returned (.tuple #[.slice g u.length c, .bool is]) ∧ IntsRd w' (.slice g u.length c) u ∧ FW D a b na nb La s t u is ∧ Below w.heap.size w w'
theorem exactlyOne_any (x y : Bool) (w : World) : Calls Try.prog 30 #[.bool x, .bool y] w fun e w' => e = .returned (.bool (x != y)) ∧ w' = w := by
  go_enter Try.func30, Try.ntmps30
  go_wp2_with fail
  go_ret
  exact ⟨rfl, rfl⟩
end Go.Proofs.Ytblkijdodojaeaa

namespace Go.Proofs.Ytblkijdodojaeaa
open Go.RowKit Go.Maps Go.Lib
set_option linter.unusedSimpArgs false
set_option linter.unusedVariables false

set_option maxRecDepth 100000 in
set_option maxHeartbeats 12800000 in
theorem firstWord_xo
    (a b : Nat → Nat → Nat) (na nb La s t : Nat) (av bv : Option Addr) (ac bc : Nat) (w : World) (hra : RowsRd w (.slice av (na + 1) ac) (mRows a na La)) (hrb : RowsRd w (.slice bv (nb + 1) bc) (mRows b nb La))
    (hA : ∀ x l, x ≤ na → a x l ≤ na) (hB : ∀ x l, x ≤ nb → b x l ≤ nb) (ha0 : ∀ l, a na l = na) (hb0 : ∀ l, b nb l = nb) (hna : na ≤ 64) (hnb : nb ≤ 64) (hL : La ≤ 256) (hs : s ≤ na) (ht : t ≤ nb) :
    Calls Try.prog 29 #[.slice av (na + 1) ac, .slice bv (nb + 1) bc, prV s t, (.func (.func 30) #[] #[])] w (FWOut (fun x y : Bool => x != y) a b na nb La s t w) := by
  obtain ⟨i0, hi, hz0, hz1, hz2⟩ := info_parts Try.infoFound
  have hmx : Try.prog.follows .mixedOrders = true := by kernel_rfl
  have hmm := @run_makeMap Try.prog
  have HRA := Lib.hid hra
  have HRB := Lib.hid hrb
  have HNA := Lib.hid (fun W => mnone_any av na ac W (by omega))
  have HNB := Lib.hid (fun W => mnone_any bv nb bc W (by omega))
  obtain ⟨D, hDD⟩ : ∃ D : Bool → Bool → Bool, D = (fun x y : Bool => x != y) := ⟨_, rfl⟩
  have hD0 : D false false = false := by rw [hDD]; rfl
  have HDD := Lib.hid (show ∀ x y w, Calls Try.prog 30 #[.bool x, .bool y] w fun e w' => e = .returned (.bool (D x y)) ∧ w' = w by rw [hDD]; exact exactlyOne_any)
  rw [← hDD]
  clear hDD
  have hE : ∀ (args : Array Value) (w : World), (callFunc 30 args).run Try.prog w = .ok (.enter 30 args) w := fun args w => by
    simp [callFunc, go_sem, Try.func30, Try.f30]
  have hst : SmP (s, t) := ⟨by show s ≤ 100000; omega, by show t ≤ 100000; omega⟩
  have hkey := kyP_of hst
  have S0 := Lib.hid (SQ.start D a b La hs ht)
  obtain ⟨NA, hNA⟩ : ∃ N, na + 1 = N := ⟨_, rfl⟩
  obtain ⟨NB, hNB⟩ : ∃ N, nb + 1 = N := ⟨_, rfl⟩
  have HA1 := Lib.hid hNA
  have HB1 := Lib.hid hNB
  rw [hNA] at HRA HNA ⊢
  rw [hNB] at HRB HNB ⊢
  obtain ⟨W0, hW0⟩ : ∃ W0, (w.alloc (.cells #[.int .i64 (s : Int), .int .i64 (t : Int)] 58)).alloc (.cells #[.int .i64 (s : Int), .int .i64 (t : Int), .int .i64 0, .int .i64 0] 74) = W0 := ⟨_, rfl⟩
  have b0 : Below w.heap.size w W0 := by rw [← hW0]; exact below_more (below1 w _) (Nat.le_refl _) (below1 _ _)
  have z0 : W0.heap.size = w.heap.size + 2 := by rw [← hW0, World.size_alloc, World.size_alloc]
  have rs0 : RecsAt W0 w.heap.size (.slice (some ⟨w.heap.size + 1, 0, none⟩) 1 1) [(s, t, 0, 0)] := by
    rw [← hW0]
    have h := recs_one (w.alloc (.cells #[.int .i64 (s : Int), .int .i64 (t : Int)] 58)) s t
    rw [World.size_alloc] at h
    exact own_low h (Nat.le_succ _)
  have x0 : Bx2 W0 w.heap.size s t := by rw [← hW0]; exact (Bx2.new w s t).keep (below1 _ _)
  have hown0 := World.ownsMap_made (H := Unit) W0 Try.prog 58 (plainElem Try.prog 4)
  rw [z0] at hown0
  obtain ⟨xx1, xx2⟩ := (x0.keep (below1 W0 (.map #[] 0))).cells
  clear hra hrb hNA hNB
  go_enter Try.func29, Try.ntmps29
  go_upto_region 2 with fail
  have HW0 := Lib.hid hW0
  clear hW0
  go_upto_region 3 with (refine wpList_insert_ownH _ rfl _ _ _ 76 rfl 58 4 Try.keyLawP Try.underlying76 _ (w.heap.size + 2) 0 _ rfl hown0 (by unfold maxLen; omega) _ _ _ rfl rfl hkey _ [] (plainElem_bool Try.underlying4 true) ?_; intro w1 hown1 hgrow1)
  have hg0 := hgrow1.size
  rw [World.size_alloc] at hg0
  have F0 : FS w.heap.size (w.heap.size + 2) w1.heap.size na nb [(s, t, 0, 0)] [(s, t)] (.slice (some ⟨w.heap.size + 1, 0, none⟩) 1 1) w (w1.alloc (.cells #[.int .i64 (na : Int), .int .i64 (nb : Int)] 58)) := by
    refine ⟨(((b0.alloc b0.size _).grown hgrow1 (by rw [World.size_alloc]; omega) (fun k e => by injection e with e; omega)).alloc (by omega) _), ?_, hown1.alloc _, Bx2.new w1 na nb, by omega⟩
    exact World.ownsRow.alloc (World.ownsRow.kept (World.ownsRow.alloc rs0 _) hgrow1 (.inr (by intro e; simp [Value.ownBlock] at e))) _
  have FF0 := Lib.hid F0
  have hz1 : w.heap.size ≤ (w1.alloc (.cells #[.int .i64 (na : Int), .int .i64 (nb : Int)] 58)).heap.size := by rw [World.size_alloc]; omega
  obtain ⟨Bm, hBm⟩ : ∃ Bm, w.heap.size + 2 = Bm := ⟨_, rfl⟩
  obtain ⟨pN, hpN⟩ : ∃ pN, w1.heap.size = pN := ⟨_, rfl⟩
  rw [hBm, hpN] at FF0
  have HBM := Lib.hid hBm
  have HPN := Lib.hid hpN
  clear hown0 xx1 xx2 x0 rs0 b0 F0 hkey
  go_upto_region 4 with (first
    | (go_at_call 37; (with_reducible refine (HNA.out _).mono ?_); rintro e W3 ⟨rfl, rfl⟩)
    | (go_at_call 37; (with_reducible refine (HNB.out _).mono ?_); rintro e W4 ⟨rfl, rfl⟩))
  go_upto_region 5 with fail
  obtain ⟨BND, hBND⟩ : ∃ BND, NA * NB + 1 = BND := ⟨_, rfl⟩
  have HBD := Lib.hid hBND
  have hNA1 : na < NA := by have := HA1.out; omega
  have hNB1 : nb < NB := by have := HB1.out; omega
  have hNA2 : NA ≤ 65 := by have := HA1.out; omega
  have hNB2 : NB ≤ 65 := by have := HB1.out; omega
  have hBD2 : BND ≤ 5000 := by
    have : NA * NB ≤ 65 * 65 := Nat.mul_le_mul hNA2 hNB2
    omega
  generalize (W4.alloc (.cells #[.int .i64 (na : Int), .int .i64 (nb : Int)] 58)) = X at *
  clear hmm hgrow1 hown1 hg0 z0 HW0 hBND hBm hpN hst
  go_loopg [10, 13] BND (fun q s10 s13 wx => ∃ (i : Nat) (R : List Rec) (Q : List (List Int × (Nat × Nat))), s13 = .int .i64 (i : Int) ∧ i + q = BND ∧ i ≤ Q.length ∧ Hid (SQ D a b na nb La s t i 0 R Q) ∧ Hid (FS w.heap.size Bm pN na nb R (Q.map (·.2)) s10 w wx) ∧ w.heap.size ≤ wx.heap.size)
  case atStart => exact ⟨0, _, _, rfl, by omega, Nat.zero_le _, S0, FF0, hz1⟩
  case round =>
    clear S0 FF0 hz1
    obtain ⟨i, R, Q, rfl, hiq, hiQ, HS, HF, hsz⟩ := hrel
    have hlen := HS.out.rq.len
    have hsize := HS.out.size
    rw [HA1.out, HB1.out] at hsize
    have hnB : Q.length < BND := by have := HBD.out; omega
    obtain ⟨a9, c9, hv⟩ := HF.out.rs.slice
    subst hv
    obtain ⟨n, hn⟩ : ∃ n, R.length = n := ⟨_, rfl⟩
    have HN := Lib.hid hn
    rw [hn] at HF hlen ⊢
    have hnQ : Q.length = n := hlen.symm
    obtain ⟨q, rfl⟩ : ∃ q, gk = q + 1 := ⟨gk - 1, by omega⟩
    by_cases hin : i < n
    · obtain ⟨p, hp⟩ : ∃ p, Q[i]? = some p := ⟨_, List.getElem?_eq_getElem (by omega)⟩
      obtain ⟨⟨x, y, bh, lb⟩, hr⟩ : ∃ r, R[i]? = some r := ⟨_, List.getElem?_eq_getElem (by omega)⟩
      have hat := HS.out.rq.at_ i _ p hr hp
      dsimp only at hat
      have hbox := HS.out.box p (List.mem_of_getElem? hp)
      rw [hat] at hbox
      dsimp only at hbox
      obtain ⟨hxa, hyb⟩ := hbox
      have HP := Lib.hid hp
      have HR := Lib.hid hr
      have HPE := Lib.hid hat
      have hrs := HF.out.rs
      obtain ⟨b1, o1, k1, hv1, q1, q2, q3, q4⟩ := hrs.rd.at hr
      rw [hn] at hv1
      injection hv1 with e1 e2 e3
      subst e1
      dsimp only at q1 q2 q3 q4
      have j1 : (i : Int) < (n : Int) := by omega
      obtain ⟨dv, hdv⟩ : ∃ dv, D ((x : Int) != (na : Int)) ((y : Int) != (nb : Int)) = dv := ⟨_, rfl⟩
      have HDV := Lib.hid (show ∀ W, Calls Try.prog 30 #[.bool ((x : Int) != (na : Int)), .bool ((y : Int) != (nb : Int))] W fun e w' => e = .returned (.bool dv) ∧ w' = W by rw [← hdv]; exact fun W => HDD.out _ _ W)
      have HDE := Lib.hid (show D (decide (p.2.1 ≠ na)) (decide (p.2.2 ≠ nb)) = dv by
        rw [hat]
        have g1 : decide (x ≠ na) = ((x : Int) != (na : Int)) := by rw [Bool.eq_iff_iff, bne_iff_ne, decide_eq_true_iff]; omega
        have g2 : decide (y ≠ nb) = ((y : Int) != (nb : Int)) := by rw [Bool.eq_iff_iff, bne_iff_ne, decide_eq_true_iff]; omega
        show D (decide (x ≠ na)) (decide (y ≠ nb)) = dv
        rw [g1, g2]
        exact hdv)
      have A1 := Lib.hid (Bx2.new wr x y)
      have F1 := Lib.hid (HF.out.keep hsz (below1 wr (.cells #[.int .i64 (x : Int), .int .i64 (y : Int)] 58)))
      have hsz2 : w.heap.size ≤ (wr.alloc (.cells #[.int .i64 (x : Int), .int .i64 (y : Int)] 58)).heap.size := by rw [World.size_alloc]; omega
      have HIQ := Lib.hid hiq
      clear hp hr hat hrs hn e3 hdv hlen hsize hiq
      go_upto_region 8 with fail
      obtain ⟨P, hP⟩ : ∃ P, wr.heap.size = P := ⟨_, rfl⟩
      rw [hP] at A1 ⊢
      have hPw : w.heap.size ≤ P := by omega
      clear HF q1 q2 q3 q4 hP
      generalize (wr.alloc (.cells #[.int .i64 (x : Int), .int .i64 (y : Int)] 58)) = V at *
      obtain ⟨x1, x2⟩ := A1.out.cells
      go_quiet ((first
        | (go_at_call 37; with_reducible refine Calls.quiet_of_same (HNA.out _))
        | (go_at_call 37; with_reducible refine Calls.quiet_of_same (HNB.out _))
        | (go_at_call 30; with_reducible refine Calls.quiet_of_same (HDV.out _))))
      have hdn := below_drewM (Below.refl V.heap.size V) nq
      have F2 := Lib.hid (F1.out.keep hsz2 hdn)
      have A2 := Lib.hid (A1.out.keep hdn)
      have hsz3 : w.heap.size ≤ (V.drewN nq).heap.size := Nat.le_trans hsz2 hdn.size
      clear F1 A1 x1 x2 hsz2 HDV hdn
      generalize V.drewN nq = Y at *
      have HRC := Lib.hid F2.out.rs.rd
      obtain ⟨b4, o4, k4, hv4, q1, q2, q3, q4⟩ := HRC.out.at HR.out
      rw [HN.out] at hv4
      injection hv4 with e1 e2 e3
      injection e1 with e1
      injection e1 with e1 e4
      subst e1
      subst e4
      dsimp only at q1 q2 q3 q4
      clear e2 e3
      cases dv with
      | true =>
        have HWT := Lib.hid (wordTo_any R Q _ i _ p Y HRC.out HS.out.rq HR.out HP.out (by rw [HN.out]; omega))
        dsimp only at HWT
        have HFW := Lib.hid (HS.out.found hD0 ha0 hb0 HP.out HDE.out)
        go_wp2_with (go_at_call 48; (with_reducible refine HWT.out.mono ?_); rintro e W8 ⟨a8, c8, rfl, i8, b8⟩; (have I8 := Lib.hid i8); (have B8 := Lib.hid (F2.out.bl.trans (b8.mono F2.out.bl.size))); clear i8 b8)
        exact bodyPost_ret (v := .tuple #[.slice a8 p.1.length c8, .bool true]) (by simp [results, Try.results29, go_sem]) rfl ⟨a8, c8, p.1, true, rfl, I8.out, HFW.out, B8.out⟩
      | false =>
        obtain ⟨x1, x2⟩ := A2.out.cells
        obtain ⟨b2, o2, k2, u2, hv2, p2, r2⟩ := (HRA.out.keep F2.out.bl).at (mRows_at (m := a) (n := na) (La := La) (j := x) (by omega))
        rw [mRows_len, HA1.out] at hv2
        injection hv2 with e4 e5 e6
        subst e4
        obtain ⟨a7, c7, hu7⟩ := r2.form
        rw [mRow_len] at hu7
        subst hu7
        have jx : (x : Int) < (NA : Int) := by have := HA1.out; omega
        clear e5 e6 r2 q1 q2 q3 q4
        go_upto_region 11 with fail
        clear x1 x2 p2
        go_loopg [10, 63] La (fun q2 s10 s63 wx => ∃ (c : Nat) (R2 : List Rec) (Q2 : List (List Int × (Nat × Nat))), s63 = .int .i64 (c : Int) ∧ c + q2 = La ∧ Hid (SQ D a b na nb La s t i c R2 Q2) ∧ Hid (FS w.heap.size Bm pN na nb R2 (Q2.map (·.2)) s10 w wx) ∧ Hid (Bx2 wx P x y) ∧ Hid (Q2[i]? = some p) ∧ w.heap.size ≤ wx.heap.size)
        case atStart => exact ⟨0, R, Q, rfl, by omega, HS, F2, A2, HP, hsz3⟩
        case round =>
          clear F2 A2 HS HP HR HN HRC hsz3
          obtain ⟨c, R2, Q2, rfl, hcq, HS, HF, HX, HP, hsz⟩ := hrel
          obtain ⟨a10, c10, hv10⟩ := HF.out.rs.slice
          subst hv10
          obtain ⟨n2, hn2⟩ : ∃ n2, R2.length = n2 := ⟨_, rfl⟩
          have HN := Lib.hid hn2
          rw [hn2] at HF ⊢
          rcases gk with _ | q2
          · obtain rfl : c = La := by omega
            have j0 : ¬ ((c : Int) < (c : Int)) := by omega
            have HS2 := Lib.hid (HS.out.next HP.out HDE.out)
            have hiQ2 : i + 1 ≤ Q2.length := (List.getElem?_eq_some_iff.1 HP.out).1
            have hwi : IntKind.i64.wrap ((i : Int) + 1) = ((i + 1 : Nat) : Int) := by rw [IntWalk.i64_in _ (by omega)]; omega
            clear hn2 HS
            go_wp2_with fail
            go_roundg q
            case measure => omega
            case rel => exact ⟨i + 1, R2, Q2, by go_num, by have := HIQ.out; omega, hiQ2, HS2, HF, hsz⟩
          · have hcL : c < La := by omega
            obtain ⟨x', hx'⟩ : ∃ x', a x c = x' := ⟨_, rfl⟩
            obtain ⟨y', hy'⟩ : ∃ y', b y c = y' := ⟨_, rfl⟩
            have hx2 : x' ≤ na := by rw [← hx']; exact hA x c hxa
            have hy2 : y' ≤ nb := by rw [← hy']; exact hB y c hyb
            have hsm : SmP (x', y') := ⟨by show x' ≤ 100000; omega, by show y' ≤ 100000; omega⟩
            have hks : ∀ z ∈ Q2.map (·.2), SmP z := fun z hz => by
              obtain ⟨q, hq, rfl⟩ := List.mem_map.1 hz
              have := HS.out.box q hq
              exact ⟨by show q.2.1 ≤ 100000; omega, by show q.2.2 ≤ 100000; omega⟩
            have HXA := Lib.hid (show a p.2.1 c = x' by rw [HPE.out]; exact hx')
            have HYB := Lib.hid (show b p.2.2 c = y' by rw [HPE.out]; exact hy')
            have hln := HS.out.rq.len
            have hqn : (Q2.map (·.2)).length = n2 := by rw [List.length_map]; omega
            have hn2B : n2 ≤ 5000 := by
              have h1 := HS.out.size
              rw [HA1.out, HB1.out] at h1
              have := HBD.out
              omega
            obtain ⟨x1, x2⟩ := HX.out.cells
            obtain ⟨b2, o2, k2, u2, hv2, p2, r2⟩ := (HRA.out.keep HF.out.bl).at (mRows_at (m := a) (n := na) (La := La) (j := x) (by omega))
            injection hv2 with e4 e5 e6
            injection e4 with e4
            injection e4 with e4 e7
            subst e4
            subst e7
            obtain ⟨a8, c8, hu8⟩ := r2.form
            rw [mRow_len] at hu8
            subst hu8
            obtain ⟨b8, o8, k8, hv8, p8⟩ := r2.at (mRow_at hcL)
            injection hv8 with e11 e12 e13
            subst e11
            obtain ⟨b3, o3, k3, u3, hv3, p3, r3⟩ := (HRB.out.keep HF.out.bl).at (mRows_at (m := b) (n := nb) (La := La) (j := y) (by omega))
            rw [mRows_len, HB1.out] at hv3
            injection hv3 with e14 e15 e16
            subst e14
            obtain ⟨a9, c9, hu9⟩ := r3.form
            rw [mRow_len] at hu9
            subst hu9
            obtain ⟨b9, o9, k9, hv9, p9⟩ := r3.at (mRow_at hcL)
            injection hv9 with e21 e22 e23
            subst e21
            rw [hx'] at p8
            rw [hy'] at p9
            have jy : (y : Int) < (NB : Int) := by have := HB1.out; omega
            have jc : (c : Int) < (La : Int) := by omega
            have F3 := Lib.hid (HF.out.keep hsz (below1 wr (.cells #[.int .i64 (x' : Int), .int .i64 (y' : Int)] 58)).drew)
            have X3 := Lib.hid (HX.out.keep (below1 wr (.cells #[.int .i64 (x' : Int), .int .i64 (y' : Int)] 58)).drew)
            have N3 := Lib.hid (show Bx2 (wr.alloc (.cells #[.int .i64 (x' : Int), .int .i64 (y' : Int)] 58)).drew wr.heap.size x' y' from Bx2.new wr x' y')
            have hsz3 : w.heap.size ≤ (wr.alloc (.cells #[.int .i64 (x' : Int), .int .i64 (y' : Int)] 58)).drew.heap.size := by show w.heap.size ≤ (wr.alloc _).heap.size; rw [World.size_alloc]; omega
            have kk := below1 wr (.cells #[.int .i64 0, .int .i64 0] 58)
            have x1a := cell_keep x1 kk
            have x2a := cell_keep x2 kk
            have p2a := cell_keep p2 kk
            have p3a := cell_keep p3 kk
            have p8a := cell_keep p8 kk
            have p9a := cell_keep p9 kk
            clear e5 e6 e12 e13 e15 e16 e22 e23 r2 r3 hx' hy' hn2 hln kk
            go_upto_region 13 with fail
            go_region
            clear x1a x2a p2a p3a p8a p9a x1 x2 p2 p3 p8 p9 HX
            obtain ⟨PX, hPX⟩ : ∃ PX, wr.heap.size = PX := ⟨_, rfl⟩
            rw [hPX] at N3 ⊢
            have hPX2 : w.heap.size ≤ PX := by omega
            clear hPX HF
            generalize (wr.alloc (.cells #[.int .i64 (x' : Int), .int .i64 (y' : Int)] 58)).drew = Z at *
            obtain ⟨z1, z2⟩ := N3.out.cells
            obtain ⟨n1, n3⟩ := F3.out.nw.cells
            have hneq := fun W => pairNeq x' y' na nb W
            have hgd := pairGuard
            by_cases h1 : x' = na ∧ y' = nb
            · rw [decide_eq_true h1] at hneq
              have HS2 := Lib.hid (HS.out.skip0 HP.out (show a p.2.1 c = na ∧ b p.2.2 c = nb by rw [HXA.out, HYB.out]; exact h1))
              clear h1 HS
              go_wp2_with fail
              go_roundg q2
              case measure => omega
              case rel => exact ⟨c + 1, R2, Q2, by go_num, by omega, HS2, F3, X3, HP, hsz3⟩
            · rw [decide_eq_false h1] at hneq
              have hlk := lookB (p := (x', y')) F3.out.mp hsm hks
              by_cases h2 : (x', y') ∈ Q2.map (·.2)
              · rw [decide_eq_true h2] at hlk
                have HS2 := Lib.hid (HS.out.skip1 HP.out (show ∃ q ∈ Q2, q.2 = (a p.2.1 c, b p.2.2 c) by
                  rw [HXA.out, HYB.out]
                  obtain ⟨q, hq, e⟩ := List.mem_map.1 h2
                  exact ⟨q, hq, e⟩))
                clear h1 h2 HS hks hsm
                go_wp2_with fail
                go_roundg q2
                case measure => omega
                case rel => exact ⟨c + 1, R2, Q2, by go_num, by omega, HS2, F3, X3, HP, hsz3⟩
              · rw [decide_eq_false h2] at hlk
                have hkey2 := kyP_of hsm
                have hmp := F3.out.mp
                have hrow := F3.out.rs
                unfold RecsAt at hrow
                rw [HN.out] at hrow
                have hqm : (Q2.map (·.2)).length < 9223372036854775807 := by rw [hqn]; omega
                have HS2 := Lib.hid (show SQ D a b na nb La s t i (c + 1) (R2 ++ [(x', y', i, c)]) (Q2 ++ [(p.1 ++ [(c : Int)], (x', y'))]) by
                  have h := HS.out.add hcL hA hB HP.out (by rw [HXA.out, HYB.out]; exact h1) (by
                    rw [HXA.out, HYB.out]
                    exact fun q hq e => h2 (List.mem_map.2 ⟨q, hq, e⟩))
                  rw [HXA.out, HYB.out] at h
                  exact h)
                have HP2 := Lib.hid (show (Q2 ++ [(p.1 ++ [(c : Int)], (x', y'))])[i]? = some p by
                  rw [List.getElem?_append_left (List.getElem?_eq_some_iff.1 HP.out).1]; exact HP.out)
                clear h1 h2 HS hks
                go_wp2_with (first
                  | (at_mapUpdate; refine wpList_mapUpdate_own _ rfl _ _ _ 76 rfl 58 4 Try.keyLawP Try.underlying76 _ Bm (Q2.map (·.2)).length _ rfl hmp (by unfold maxLen; omega) _ _ _ rfl rfl hkey2 _ [] (plainElem_bool Try.underlying4 true) ?_; intro w1 hown1 hgrow1; (have N4 := N3.out.grown hgrow1 (N3.out.ne_map hmp)); (obtain ⟨y1, y2⟩ := N4.cells); (have hrow1 := World.ownsRow.kept hrow hgrow1 (.inr (fun e => by obtain ⟨cc, fr, h⟩ := row_cellsH hrow e; exact map_not_cellsH hmp h))); (have hs1 := hgrow1.size))
                  | (at_builtin; refine wpList_append_own_at _ rfl _ _ 75 rfl w.heap.size 74 i0 (.agg #[.int .i64 0, .int .i64 0, .int .i64 0, .int .i64 0]) 4 32 Try.underlying75 hi hz0 hz1 hz2 rfl (by decide) _ _ _ rfl (hrow1.alloc _) ⟨w1.heap.size, 0, none⟩ 1 1 [.int .i64 (x' : Int), .int .i64 (y' : Int), .int .i64 (i : Int), .int .i64 (c : Int)] rfl rfl (cell_four_new _ _ _ _ _ _) (by intro u hu; simp at hu; rcases hu with rfl | rfl | rfl | rfl <;> rfl) (by unfold maxLen; omega) (by omega) (by rw [World.size_alloc]; omega) ?_; intro v' w4 hown4 hgrow4 hnil4 hloc4))
                go_roundg q2
                case measure => omega
                case rel =>
                  have hr1 : w1.ownsRow w.heap.size 74 4 (.slice a10 n2 c10) R2.length (rcl R2) := by rw [HN.out]; exact hrow1
                  have hF := F3.out.put (r := (x', y', i, c)) (x := (x', y')) hsz3 hown1 hgrow1 hr1 (by rw [HN.out]; exact hown4) hgrow4
                  have g1 : Bx2 w1 P x y := X3.out.grown hgrow1 (X3.out.ne_map hmp)
                  have g2 : Bx2 (w1.alloc (.cells #[.int .i64 (x' : Int), .int .i64 (y' : Int), .int .i64 (i : Int), .int .i64 (c : Int)] 74)) P x y := g1.keep (below1 w1 _)
                  have hX : Bx2 w4 P x y := g2.grown hgrow4 (g2.ne_row (hrow1.alloc _))
                  exact ⟨c + 1, _, _, by go_num, by omega, HS2, Lib.hid (by rw [List.map_append]; exact hF), Lib.hid hX, HP2, by have h1 := hgrow1.size; have h4 := hgrow4.size; rw [World.size_alloc] at h4; omega⟩
    · obtain rfl : i = n := by omega
      have j0 : ¬ ((i : Int) < (i : Int)) := by omega
      have HW := Lib.hid (HS.out.none (by omega) hD0 ha0 hb0)
      have HBB := Lib.hid HF.out.bl
      clear HS HF hn hnQ hlen hsize hiq
      go_wp2_with fail
      exact bodyPost_ret (v := .tuple #[.slice none 0 0, .bool false]) (by simp [results, Try.results29, go_sem]) rfl ⟨none, 0, [], false, rfl, (ints_nil _ 0).rd, HW.out, HBB.out⟩
end Go.Proofs.Ytblkijdodojaeaa
