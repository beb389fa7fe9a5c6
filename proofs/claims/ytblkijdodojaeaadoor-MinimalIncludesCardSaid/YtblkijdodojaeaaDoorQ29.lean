/- Pairs that a search has found, in memory; what minimal.wordTo returns. Conditions: the queue can be read; each pair but the first one was found behind one before. What minimal.firstWord returns: the first list of labels that leads to a pair as wanted, if there is one. Conditions: the machines can be read; at most 64 states and 256 labels; what is wanted is told by a function. What minimal.classesOf returns: the classes of the states of a machine. Conditions: the machine can be read; at most 64 states, 1 to 256 labels. -/
import Derived.Test.YtblkijdodojaeaaDoorQ28
import Derived.Laws.StructEq
import Derived.ChangeKeysEq
import Derived.Shelf.SlicesE.Equal
import Derived.Lib.LazyBuf
import Derived.BigQuiet
import Derived.Test.YtblkijdodojaeaaDoorQ10

namespace Go.Proofs.YtblkijdodojaeaaDoor
open Go.RowKit Go.Maps Go.Lib
set_option linter.unusedSimpArgs false
set_option linter.unusedVariables false

def encR (r : Rec) : List Value := [.int .i64 (r.1 : Int), .int .i64 (r.2.1 : Int), .int .i64 (r.2.2.1 : Int), .int .i64 (r.2.2.2 : Int)]
abbrev recV (a b c d : Nat) : Value := .agg #[.int .i64 (a : Int), .int .i64 (b : Int), .int .i64 (c : Int), .int .i64 (d : Int)]
def rcl (R : List Rec) : List Value := R.flatMap encR
theorem rcl_snoc (R : List Rec) (r : Rec) : rcl (R ++ [r]) = rcl R ++ [.int .i64 (r.1 : Int), .int .i64 (r.2.1 : Int), .int .i64 (r.2.2.1 : Int), .int .i64 (r.2.2.2 : Int)] := by unfold rcl; rw [List.flatMap_append]; rfl
theorem rcl_len (R : List Rec) : (rcl R).length = R.length * 4 := by
  induction R with
  | nil => rfl
  | cons p rs ih => show (_ :: _ :: _ :: _ :: rcl rs).length = _; rw [List.length_cons, List.length_cons, List.length_cons, List.length_cons, ih, List.length_cons]; omega
theorem rcl_at {R : List Rec} : ∀ {i : Nat} {r : Rec}, R[i]? = some r → (rcl R)[i * 4]? = some (.int .i64 (r.1 : Int)) ∧ (rcl R)[i * 4 + 1]? = some (.int .i64 (r.2.1 : Int)) ∧ (rcl R)[i * 4 + 2]? = some (.int .i64 (r.2.2.1 : Int)) ∧ (rcl R)[i * 4 + 3]? = some (.int .i64 (r.2.2.2 : Int)) := by
  induction R with
  | nil => intro i p h; cases h
  | cons q rs ih =>
    intro i p h
    cases i with
    | zero => simp at h; subst h; exact ⟨rfl, rfl, rfl, rfl⟩
    | succ i =>
      have := ih (i := i) (by simpa using h)
      rw [show (i + 1) * 4 = i * 4 + 1 + 1 + 1 + 1 by omega]
      exact this
def RecsAt (W : World) (B : Nat) (v : Value) (R : List Rec) : Prop := W.ownsRow B 152 4 v R.length (rcl R)
/-- Found pairs that can be read. -/
def RecsRd (W : World) (v : Value) (R : List Rec) : Prop := ∃ a c, v = .slice a R.length c ∧ ∀ (i : Nat) (r : Rec), R[i]? = some r → ∃ b off, a = some ⟨b, off, none⟩ ∧
  W.cell? ⟨b, off + i * 4, none⟩ = some (.int .i64 (r.1 : Int)) ∧ W.cell? ⟨b, off + i * 4 + 1, none⟩ = some (.int .i64 (r.2.1 : Int)) ∧ W.cell? ⟨b, off + i * 4 + 2, none⟩ = some (.int .i64 (r.2.2.1 : Int)) ∧ W.cell? ⟨b, off + i * 4 + 3, none⟩ = some (.int .i64 (r.2.2.2 : Int))
section
variable {W W' : World} {B : Nat} {v : Value} {R : List Rec}
theorem RecsAt.keep (h : RecsAt W B v R) (hb : Below W.heap.size W W') : RecsAt W' B v R := World.ownsRow.kept h (grown_none hb) (by cases v.ownBlock <;> simp)
theorem RecsAt.slice (h : RecsAt W B v R) : ∃ a c, v = .slice a R.length c := own_slice h
theorem RecsAt.row (h : RecsAt W B v R) (h0 : 0 < R.length) : ∃ g c, v = .slice (some ⟨g, 0, none⟩) R.length c := by
  obtain ⟨g, c, hv, _⟩ := World.ownsRow.form h h0
  exact ⟨g, c, hv⟩
theorem RecsAt.cell {g c i : Nat} {r : Rec} (h : RecsAt W B (.slice (some ⟨g, 0, none⟩) R.length c) R) (hx : R[i]? = some r) :
    W.cell? ⟨g, i * 4, none⟩ = some (.int .i64 (r.1 : Int)) ∧ W.cell? ⟨g, i * 4 + 1, none⟩ = some (.int .i64 (r.2.1 : Int)) ∧ W.cell? ⟨g, i * 4 + 2, none⟩ = some (.int .i64 (r.2.2.1 : Int)) ∧ W.cell? ⟨g, i * 4 + 3, none⟩ = some (.int .i64 (r.2.2.2 : Int)) := by
  have hi : i < R.length := (List.getElem?_eq_some_iff.1 hx).1
  obtain ⟨k1, k2, k3, k4⟩ := rcl_at hx
  exact ⟨(World.ownsRow.cellAt h (i * 4) (by omega)).trans k1, (World.ownsRow.cellAt h (i * 4 + 1) (by omega)).trans k2, (World.ownsRow.cellAt h (i * 4 + 2) (by omega)).trans k3, (World.ownsRow.cellAt h (i * 4 + 3) (by omega)).trans k4⟩
theorem RecsAt.rd (h : RecsAt W B v R) : RecsRd W v R := by
  obtain ⟨a, c, rfl⟩ := h.slice
  refine ⟨a, c, rfl, fun i r hx => ?_⟩
  have hi : i < R.length := (List.getElem?_eq_some_iff.1 hx).1
  obtain ⟨g, c2, hv⟩ := h.row (by omega)
  injection hv with e1 e2 e3
  subst e1
  exact ⟨g, 0, rfl, by rw [Nat.zero_add]; exact RecsAt.cell h hx⟩
theorem RecsRd.keep (h : RecsRd W v R) (hb : Below W.heap.size W W') : RecsRd W' v R := by
  obtain ⟨a, c, rfl, h1⟩ := h
  refine ⟨a, c, rfl, fun i r hx => ?_⟩
  obtain ⟨b, off, rfl, k1, k2, k3, k4⟩ := h1 i r hx
  exact ⟨b, off, rfl, cell_keep k1 hb, cell_keep k2 hb, cell_keep k3 hb, cell_keep k4 hb⟩
theorem RecsRd.form (h : RecsRd W v R) : ∃ a c, v = .slice a R.length c := by
  obtain ⟨a, c, h1, -⟩ := h
  exact ⟨a, c, h1⟩
theorem RecsRd.at (h : RecsRd W v R) {i : Nat} {r : Rec} (hx : R[i]? = some r) : ∃ b off c, v = .slice (some ⟨b, off, none⟩) R.length c ∧
    W.cell? ⟨b, off + i * 4, none⟩ = some (.int .i64 (r.1 : Int)) ∧ W.cell? ⟨b, off + i * 4 + 1, none⟩ = some (.int .i64 (r.2.1 : Int)) ∧ W.cell? ⟨b, off + i * 4 + 2, none⟩ = some (.int .i64 (r.2.2.1 : Int)) ∧ W.cell? ⟨b, off + i * 4 + 3, none⟩ = some (.int .i64 (r.2.2.2 : Int)) := by
  obtain ⟨a, c, rfl, h1⟩ := h
  obtain ⟨b, off, rfl, k⟩ := h1 i r hx
  exact ⟨b, off, c, rfl, k⟩
end
theorem Tryd.infoFound : (Tryd.prog.info? 152).map (fun i => (i.zero, i.size, i.bytes)) = some (some (.agg #[.int .i64 0, .int .i64 0, .int .i64 0, .int .i64 0]), 4, 32) := by kernel_rfl
theorem cell_four_new (w : World) (x y z u : Value) (t : TypeId) : ∀ j v, [x, y, z, u][j]? = some v → (w.alloc (.cells #[x, y, z, u] t)).cell? ((⟨w.heap.size, 0, none⟩ : Addr).add j) = some v := by
  intro j v hj
  match j, hj with
  | 0, hj => simp at hj; subst hj; simp [Addr.add]
  | 1, hj => simp at hj; subst hj; simp [Addr.add]
  | 2, hj => simp at hj; subst hj; simp [Addr.add]
  | 3, hj => simp at hj; subst hj; simp [Addr.add]
theorem pairEq (d : Nat) (a b c e : Nat) (w : World) : (Op.equalIn (d + 2) 111 (.agg #[.int .i64 (a : Int), .int .i64 (b : Int)]) (.agg #[.int .i64 (c : Int), .int .i64 (e : Int)])).run Tryd.prog w = .ok (decide (a = c ∧ b = e)) w := by
  have u3 := Tryd.underlying3
  obtain ⟨i0, hi, -⟩ := info_parts Tryd.infoI64
  rw [run_equalIn_array w (d + 1) #[.int .i64 (a : Int), .int .i64 (b : Int)] #[.int .i64 (c : Int), .int .i64 (e : Int)] Tryd.underlying111 hi]
  rw [Tryd.arrP.one]
  simp only [show List.range 2 = [0, 1] from rfl, Op.eqItems]
  go_simp
  by_cases h1 : a = c <;> by_cases h2 : b = e <;> simp [h1, h2] <;> first | omega | (intro _; omega)
theorem pairNeq (a b c e : Nat) (w : World) : (binOp .neq 111 (.agg #[.int .i64 (a : Int), .int .i64 (b : Int)]) (.agg #[.int .i64 (c : Int), .int .i64 (e : Int)])).run Tryd.prog w = .ok (.bool (!decide (a = c ∧ b = e))) w := by
  rw [run_neq_struct, show (10000 : Nat) = 9998 + 2 from rfl, pairEq]
  rfl
theorem pairGuard (op : BinOp) (x y : Operand) (a b : Array Value) (w : World) : (eqGuard op 111 x y (.agg a) (.agg b)).run Tryd.prog w = .ok () w := run_eqGuard_agg w op 111 x y a b (by kernel_rfl)
theorem foundGuard (op : BinOp) (x y : Operand) (a b : Array Value) (w : World) : (eqGuard op 152 x y (.agg a) (.agg b)).run Tryd.prog w = .ok () w := run_eqGuard_agg w op 152 x y a b (by kernel_rfl)
theorem foundNeq (r q : Rec) (w : World) : (binOp .neq 152 (recV r.1 r.2.1 r.2.2.1 r.2.2.2) (recV q.1 q.2.1 q.2.2.1 q.2.2.2)).run Tryd.prog w = .ok (.bool (!decide (r = q))) w := by
  have u3 := Tryd.underlying3
  have a3 := Tryd.isAgg3
  have z3 := Tryd.sizeOf3
  have zp := Tryd.sizeOf111
  have ap := Tryd.isAgg111
  have hS : Tryd.prog.underlying 152 = some (.struct (Tryd.prog.fieldsOf 152)) := by kernel_rfl
  have hp : Tryd.prog.stoodInHeld 152 = false := by kernel_rfl
  have hP := fun (d : Nat) (a b c e : Nat) (w : World) => pairEq d a b c e w
  rw [run_neq_struct, show (10000 : Nat) = 9999 + 1 from rfl, run_equalIn_agg w 9999 152 _ _ hS hp]
  simp only [Program.fieldsOf, Tryd.underlying152]
  rw [show (9999 : Nat) = 9997 + 2 from rfl]
  go_simp
  obtain ⟨a, b, c, d⟩ := r
  obtain ⟨e, f, g, h⟩ := q
  simp only [show ∀ x y : Nat, ((x : Int) = (y : Int)) = (x = y) from fun x y => propext (by omega)]
  by_cases h1 : a = e <;> by_cases h2 : b = f <;> by_cases h3 : c = g <;> by_cases h4 : d = h <;> simp [h1, h2, h3, h4]
theorem ints_revH {w W : World} {g c q : Nat} {l : List Int} {m : Nat} (hm : l.length = m) (h : IntsAt W w.heap.size (.slice (some ⟨g, 0, none⟩) m c) l) :
    IntsRd ((W.drewN q).setCells g 0 (((l.take m).reverse).map (Value.int .i64))) (.slice (some ⟨g, 0, none⟩) m c) l.reverse := by
  subst hm
  rw [List.take_length]
  refine ⟨_, c, by rw [List.length_reverse], fun i x hx => ⟨g, 0, rfl, ?_⟩⟩
  have hi : i < (l.reverse.map (Value.int .i64)).length := by rw [List.length_map]; exact (List.getElem?_eq_some_iff.1 hx).1
  have hs : ∀ j, j < (l.reverse.map (Value.int .i64)).length → ((W.drewN q).cell? ⟨g, 0 + j, none⟩).isSome = true := fun j hj => by
    have hj2 : j < l.length := by rw [List.length_map, List.length_reverse] at hj; exact hj
    have h2 : (W.drewN q).cell? ⟨g, 0 + j, none⟩ = some (.int .i64 l[j]) := by rw [Nat.zero_add]; exact IntsAt.cell h (List.getElem?_eq_getElem hj2)
    rw [h2]; rfl
  rw [World.cell?_setCells_in g _ 0 _ hs i hi]
  rw [List.getElem_map]
  obtain ⟨h3, h4⟩ := List.getElem?_eq_some_iff.1 hx
  rw [h4]
theorem rev_anyH (w W : World) (v : Value) (l : List Int) (h : IntsAt W w.heap.size v l) (hl : l.length ≤ 100000) (hw : w.heap.size ≤ W.heap.size) :
    Calls Tryd.prog 89 #[v] W fun e w' => e = .returned (.tuple #[]) ∧ IntsRd w' v l.reverse ∧ Below w.heap.size W w' := by
  by_cases h0 : l = []
  · subst h0
    obtain ⟨a, c, rfl⟩ := h.slice
    refine (Tryd.slices_Reverse_int_empty a c W).mono ?_
    rintro e w' ⟨he, rfl⟩
    exact ⟨he, ⟨a, c, rfl, fun i x hx => by simp at hx⟩, Below.refl _ _⟩
  · obtain ⟨g, c, rfl⟩ := h.row (List.length_pos_iff.2 h0)
    have hc : ∀ j, j < l.length → W.cell? ⟨g, 0 + j, none⟩ = some (.int .i64 (l.getD j 0)) := fun j hj => by
      rw [Nat.zero_add, List.getD_eq_getElem?_getD, List.getElem?_eq_getElem hj]
      exact IntsAt.cell h (List.getElem?_eq_getElem hj)
    have hf : ∀ j, j < l.length → W.frozen? ⟨g, 0 + j, none⟩ = false := fun j hj => by
      rcases h.2 with ⟨h1, h2⟩ | ⟨g2, cap, cur, h1, h2, h3, _⟩
      · exact absurd (List.length_eq_zero_iff.1 h2) h0
      · injection h1 with h1
        injection h1 with h1
        injection h1 with h1
        subst h1
        simp [World.frozen?, h3]
    refine (Tryd.slices_Reverse_int_cells g 0 l.length c l W (Nat.le_refl _) (by omega) hc hf).mono ?_
    rintro e w' ⟨he, q, rfl⟩
    have hg : w.heap.size ≤ g := (World.ownsRow.lt h g rfl).1
    exact ⟨he, ints_revH rfl h, Lib.below_setCells g hg _ _ (below_drewM (Below.refl _ W) q)⟩
theorem blk_loH {W W4 : World} {A t s k p : Nat} {v : Value} {xs : List Value} {o : Obj} (hp : p < W.heap.size) (hr : W.ownsRow A t s v k xs) (hA : p < A) (hg : (W.alloc o).grownBy W4 v.ownBlock) : W4.heap[p]? = W.heap[p]? :=
  (hg.block p (by rw [World.size_alloc]; omega) (fun e => by have := (hr.lt p e.symm).1; omega)).trans (Below.heap_alloc _ _ _ hp)
theorem boxed_loH {W W4 : World} {A t s k p : Nat} {u v : Value} {ty : TypeId} {xs : List Value} {o : Obj} (h : Boxed W p ty u) (hr : W.ownsRow A t s v k xs) (hA : p < A) (hg : (W.alloc o).grownBy W4 v.ownBlock) : Boxed W4 p ty u := (blk_loH h.lt hr hA hg).trans h
theorem boxg_loH {W W4 : World} {A t s k p : Nat} {x y : Int} {z v : Value} {xs : List Value} {o : Obj} (h : BoxG W p x y z) (hp : p < W.heap.size) (hr : W.ownsRow A t s v k xs) (hA : p < A) (hg : (W.alloc o).grownBy W4 v.ownBlock) : BoxG W4 p x y z :=
  have hb := blk_loH hp hr hA hg
  ⟨(World.cell?_of_block (a := ⟨p, 0, none⟩) hb).trans h.1, (World.cell?_of_block (a := ⟨p, 1, none⟩) hb).trans h.2.1, (World.cell?_of_block (a := ⟨p, 2, none⟩) hb).trans h.2.2⟩
/-- A found pair in a variable. -/
def Bx4 (W : World) (p : Nat) (r : Rec) : Prop := W.heap[p]? = some (.cells #[.int .i64 (r.1 : Int), .int .i64 (r.2.1 : Int), .int .i64 (r.2.2.1 : Int), .int .i64 (r.2.2.2 : Int)] 152 (0, 0))
theorem Bx4.new (W : World) (r : Rec) : Bx4 (W.alloc (.cells #[.int .i64 (r.1 : Int), .int .i64 (r.2.1 : Int), .int .i64 (r.2.2.1 : Int), .int .i64 (r.2.2.2 : Int)] 152)) W.heap.size r := heap_alloc_new W _
theorem Bx4.lt {W : World} {p : Nat} {r : Rec} (h : Bx4 W p r) : p < W.heap.size := (Array.getElem?_eq_some_iff.1 h).1
theorem Bx4.cells {W : World} {p : Nat} {r : Rec} (h : Bx4 W p r) : (W.cell? ⟨p, 0, none⟩ = some (.int .i64 (r.1 : Int)) ∧ W.cell? ⟨p, 1, none⟩ = some (.int .i64 (r.2.1 : Int)) ∧ W.cell? ⟨p, 2, none⟩ = some (.int .i64 (r.2.2.1 : Int)) ∧ W.cell? ⟨p, 3, none⟩ = some (.int .i64 (r.2.2.2 : Int))) ∧
    (W.frozen? ⟨p, 0, none⟩ = false ∧ W.frozen? ⟨p, 1, none⟩ = false ∧ W.frozen? ⟨p, 2, none⟩ = false ∧ W.frozen? ⟨p, 3, none⟩ = false) := by
  unfold Bx4 at h
  refine ⟨⟨by simp [World.cell?, h], by simp [World.cell?, h], by simp [World.cell?, h], by simp [World.cell?, h]⟩, by simp [World.frozen?, h], by simp [World.frozen?, h], by simp [World.frozen?, h], by simp [World.frozen?, h]⟩
theorem Bx4.set {W : World} {p : Nat} {r : Rec} (h : Bx4 W p r) (q : Rec) : Bx4 ((((W.setCell ⟨p, 0, none⟩ (.int .i64 (q.1 : Int))).setCell ⟨p, 1, none⟩ (.int .i64 (q.2.1 : Int))).setCell ⟨p, 2, none⟩ (.int .i64 (q.2.2.1 : Int))).setCell ⟨p, 3, none⟩ (.int .i64 (q.2.2.2 : Int))) p q := by
  obtain ⟨hlt, hk⟩ := Array.getElem?_eq_some_iff.1 h
  unfold Bx4 World.setCell
  simp [Array.getElem?_modify, Array.getElem?_eq_getElem hlt, hk]
theorem recQ_zero {R : List Rec} {Q : List (List Int × (Nat × Nat))} (h : RecQ R Q) {k : Nat} {r r0 : Rec} (hr : R[k]? = some r) (h0 : R[0]? = some r0) (e : r = r0) : k = 0 := by
  have hl := h.len
  have hk : k < Q.length := by have := (List.getElem?_eq_some_iff.1 hr).1; omega
  have h1 := List.getElem?_eq_getElem hk
  have h2 := List.getElem?_eq_getElem (show 0 < Q.length by omega)
  have e1 := h.at_ k r _ hr h1
  have e2 := h.at_ 0 r0 _ h0 h2
  have h3 : (Q.map (·.2))[k]? = (Q.map (·.2))[0]? := by
    rw [List.getElem?_map, List.getElem?_map, h1, h2, Option.map_some, Option.map_some, e1, e2, e]
  exact (List.getElem?_inj (by rw [List.length_map]; exact hk) h.nd).1 h3
set_option maxRecDepth 100000 in
set_option maxHeartbeats 6400000 in
theorem wordTo_any (R : List Rec) (Q : List (List Int × (Nat × Nat))) (v : Value) (k0 : Nat) (r0 : Rec) (q0 : List Int × (Nat × Nat)) (w : World) (hrd : RecsRd w v R) (hrq : RecQ R Q) (hr0 : R[k0]? = some r0) (hq0 : Q[k0]? = some q0) (hn : R.length ≤ 100000) :
    Calls Tryd.prog 109 #[v, recV r0.1 r0.2.1 r0.2.2.1 r0.2.2.2] w fun e w' => ∃ a c, e = .returned (.slice a q0.1.length c) ∧ IntsRd w' (.slice a q0.1.length c) q0.1 ∧ Below w.heap.size w w' := by
  obtain ⟨i0, hi, hz0, hz1, hz2⟩ := info_parts Tryd.infoI64
  have hneq := foundNeq
  have hgd := foundGuard
  have HRD := Lib.hid hrd
  have HRQ := Lib.hid hrq
  obtain ⟨s0, t0, hQ0, hR0'⟩ := hrq.root
  obtain ⟨⟨s, t, y0, l0⟩, hR0⟩ : ∃ r, R[0]? = some r := ⟨_, hR0'⟩
  have hk0 : k0 < R.length := (List.getElem?_eq_some_iff.1 hr0).1
  have HR0 := Lib.hid hR0
  have HQ0 := Lib.hid hQ0
  have HRR := Lib.hid hr0
  have HQQ := Lib.hid hq0
  obtain ⟨a, c, hv⟩ := hrd.form
  subst hv
  have X0 := Lib.hid (Bx4.new w r0)
  have B0 := Lib.hid (below1 w (.cells #[.int .i64 (r0.1 : Int), .int .i64 (r0.2.1 : Int), .int .i64 (r0.2.2.1 : Int), .int .i64 (r0.2.2.2 : Int)] 152))
  have Z0 := Lib.hid (World.size_alloc w (.cells #[.int .i64 (r0.1 : Int), .int .i64 (r0.2.1 : Int), .int .i64 (r0.2.2.1 : Int), .int .i64 (r0.2.2.2 : Int)] 152))
  clear hrd hrq hR0 hQ0 hr0 hq0 hR0'
  go_enter Tryd.func109, Tryd.ntmps109
  go_wp2_with fail
  generalize (w.alloc (.cells #[.int .i64 (r0.1 : Int), .int .i64 (r0.2.1 : Int), .int .i64 (r0.2.2.1 : Int), .int .i64 (r0.2.2.2 : Int)] 152)) = X at *
  have I0 := Lib.hid (ints_nil X (w.heap.size + 1))
  go_loopg [5] R.length (fun q s5 wx => ∃ (k x y bh lb : Nat) (p : List Int × (Nat × Nat)) (ls : List Int), k ≤ q ∧ Hid (R[k]? = some (x, y, bh, lb)) ∧ Hid (Q[k]? = some p) ∧ Hid (p.1 ++ ls.reverse = q0.1) ∧ Hid (IntsAt wx (w.heap.size + 1) s5 ls) ∧ Hid (Bx4 wx w.heap.size (x, y, bh, lb)) ∧ Hid (Below w.heap.size w wx) ∧ w.heap.size + 1 ≤ wx.heap.size ∧ ls.length + q ≤ R.length)
  case atStart => exact ⟨k0, r0.1, r0.2.1, r0.2.2.1, r0.2.2.2, q0, [], by omega, HRR, HQQ, Lib.hid (by rw [List.reverse_nil, List.append_nil]), I0, X0, B0, by rw [Z0.out]; exact Nat.le_refl _, by simp⟩
  case round =>
    clear X0 B0 I0 HRR HQQ Z0
    obtain ⟨k, x, y, bh, lb, p, ls, hkq, HK, HP, HL, HI, HX, HB, hsz, hll⟩ := hrel
    have hd : Below wr.heap.size wr wr.drew := (Below.refl _ _).drew
    obtain ⟨⟨x1, x2, x3, x4⟩, f1, f2, f3, f4⟩ := HX.out.cells
    obtain ⟨b0, o0, cc0, hv0, k1, k2, k3, k4⟩ := (HRD.out.keep HB.out).at HR0.out
    injection hv0 with e1 e2 e3
    subst e1
    have heq := fun W => foundNeq (x, y, bh, lb) (s, t, y0, l0) W
    dsimp only at heq k1 k2 k3 k4 x1 x2 x3 x4
    rw [Nat.zero_mul, Nat.add_zero] at k1 k2 k3 k4
    have hR1 : 0 < R.length := by omega
    have hR2 : (0 : Int) < (R.length : Int) := by omega
    clear e2 e3 hneq
    by_cases h0 : k = 0
    · subst h0
      have d1 : decide ((x, y, bh, lb) = (s, t, y0, l0)) = true := decide_eq_true (by
        have := HK.out.symm.trans HR0.out
        injection this)
      rw [d1] at heq
      have HE := Lib.hid (show ls.reverse = q0.1 by
        have h1 := HP.out.symm.trans HQ0.out
        injection h1 with h1
        have h2 := HL.out
        rw [h1] at h2
        exact h2)
      have HI2 := Lib.hid (IntsAt.keep HI.out hd)
      have HB2 := Lib.hid (HB.out.trans (hd.mono HB.out.size))
      have hsz2 : w.heap.size + 1 ≤ wr.drew.heap.size := hsz
      obtain ⟨a5, c5, rfl⟩ := HI.out.slice
      obtain ⟨m5, hm5⟩ : ∃ m, ls.length = m := ⟨_, rfl⟩
      have HM5 := Lib.hid hm5
      rw [hm5] at HI2 ⊢
      clear d1 HI HB HX hsz hd hm5
      go_wp2_with fail
      go_region
      generalize wr.drew = Y at *
      have HRV := Lib.hid (rev_anyH w Y (.slice a5 m5 c5) ls (own_low HI2.out (by omega)) (by omega) (by omega))
      go_wp2_with (go_at_call 89; (with_reducible refine HRV.out.mono ?_); rintro e W2 ⟨rfl, hi2, b2⟩)
      go_ret
      have hlq : q0.1.length = m5 := by rw [← HE.out, List.length_reverse, HM5.out]
      rw [hlq]
      refine ⟨_, _, rfl, ?_, HB2.out.trans b2⟩
      rw [← HE.out]
      exact hi2
    · have d1 : decide ((x, y, bh, lb) = (s, t, y0, l0)) = false := decide_eq_false (fun e => h0 (recQ_zero HRQ.out HK.out HR0.out e))
      rw [d1] at heq
      obtain ⟨hbk, p2, hp2, hpe⟩ := HRQ.out.par k _ p (by omega) HK.out HP.out
      dsimp only at hbk hp2 hpe
      obtain ⟨⟨x', y', bh', lb'⟩, hr2⟩ : ∃ r, R[bh]? = some r := ⟨_, List.getElem?_eq_getElem (by have := (List.getElem?_eq_some_iff.1 hp2).1; have := HRQ.out.len; omega)⟩
      have HK2 := Lib.hid hr2
      have HP2 := Lib.hid hp2
      have HL2 := Lib.hid (show p2.1 ++ (ls ++ [(lb : Int)]).reverse = q0.1 by
        rw [← HL.out, hpe, List.reverse_append, List.append_assoc]; rfl)
      have HI2 := Lib.hid (IntsAt.keep HI.out hd)
      have HX2 := Lib.hid (show Bx4 wr.drew w.heap.size (x, y, bh, lb) from HX.out)
      have HB2 := Lib.hid (HB.out.trans (hd.mono HB.out.size))
      have hsz2 : w.heap.size + 1 ≤ wr.drew.heap.size := hsz
      obtain ⟨a5, c5, rfl⟩ := HI.out.slice
      obtain ⟨m5, hm5⟩ : ∃ m, ls.length = m := ⟨_, rfl⟩
      have HM5 := Lib.hid hm5
      have hown := HI2.out
      unfold IntsAt at hown
      rw [hm5] at hown hll ⊢
      have hbR : bh < R.length := (List.getElem?_eq_some_iff.1 hr2).1
      have j1 : (bh : Int) < (R.length : Int) := by omega
      obtain ⟨q', rfl⟩ : ∃ q', gk = q' + 1 := ⟨gk - 1, by omega⟩
      clear d1 HI HB HX hsz hd hm5 hp2 hpe
      go_wp2_with fail
      go_region
      clear x1 x2 x3 x4 f1 f2 f3 f4 k1 k2 k3 k4 heq
      generalize wr.drew = Y at *
      obtain ⟨⟨x1, x2, x3, x4⟩, f1, f2, f3, f4⟩ := HX2.out.cells
      dsimp only at x1 x2 x3 x4
      go_upto_region 3 with (at_builtin; refine wpList_append_own_at _ rfl _ _ 28 rfl (w.heap.size + 1) 3 i0 (.int .i64 0) 1 8 Tryd.underlying28 hi hz0 hz1 hz2 rfl (by decide) _ _ _ rfl (hown.alloc _) ⟨Y.heap.size, 0, none⟩ 1 1 [.int .i64 (lb : Int)] rfl rfl (cell_one_new _ _ _) (by intro u hu; simp at hu; subst hu; rfl) (by unfold maxLen; omega) (by omega) (by rw [World.size_alloc]; omega) ?_; intro v' w4 hown4 hgrow4 hnil4 hloc4)
      have hX4 : Bx4 w4 w.heap.size (x, y, bh, lb) := (blk_loH (by omega) hown (by omega) hgrow4).trans HX2.out
      have HB4 := Lib.hid ((HB2.out.alloc (by omega) _).grown hgrow4 (by rw [World.size_alloc]; omega) (fun k e => by have := (hown.lt k e).1; omega))
      obtain ⟨b3, o3, cc3, hv3, k1, k2, k3, k4⟩ := (HRD.out.keep HB4.out).at hr2
      injection hv3 with e1 e2 e3
      injection e1 with e1
      injection e1 with e1 e4
      subst e1
      subst e4
      clear x1 x2 x3 x4 f1 f2 f3 f4 e2 e3 hr2
      obtain ⟨⟨x1, x2, x3, x4⟩, f1, f2, f3, f4⟩ := hX4.cells
      dsimp only at x1 x2 x3 x4 k1 k2 k3 k4
      have HX5 := Lib.hid (hX4.set (x', y', bh', lb'))
      have hz4 : w.heap.size + 1 ≤ w4.heap.size := by have := hgrow4.size; rw [World.size_alloc] at this; omega
      have HI4 := Lib.hid (show IntsAt w4 (w.heap.size + 1) v' (ls ++ [(lb : Int)]) by
        unfold IntsAt
        rw [intz_snoc, List.length_append, HM5.out]
        exact hown4)
      clear hX4 hown4 hown hgrow4 hnil4 hloc4
      go_wp2_with fail
      go_roundg q'
      case measure => omega
      case rel =>
        have e1 : w.heap.size < w.heap.size + 1 := by omega
        exact ⟨bh, x', y', bh', lb', p2, ls ++ [(lb : Int)], by omega, HK2, HP2, HL2, Lib.hid (ownsRow_setCell_below (ownsRow_setCell_below (ownsRow_setCell_below (ownsRow_setCell_below HI4.out e1 _) e1 _) e1 _) e1 _), HX5, Lib.hid ((((HB4.out.setCell (p := ⟨w.heap.size, 0, none⟩) (Nat.le_refl _) _).setCell (p := ⟨w.heap.size, 1, none⟩) (Nat.le_refl _) _).setCell (p := ⟨w.heap.size, 2, none⟩) (Nat.le_refl _) _).setCell (p := ⟨w.heap.size, 3, none⟩) (Nat.le_refl _) _), by rw [World.size_setCell, World.size_setCell, World.size_setCell, World.size_setCell]; exact hz4, by rw [List.length_append, HM5.out]; simp; omega⟩
end Go.Proofs.YtblkijdodojaeaaDoor

namespace Go.Proofs.YtblkijdodojaeaaDoor
open Go.RowKit Go.Maps Go.Lib
set_option linter.unusedSimpArgs false
set_option linter.unusedVariables false

theorem wpList_insert_ownH {H : Type} {P : Program} (w : World) {ops : Array Oper} {rest : List Oper} {o : Oper} {a : Act} {Q : Exit → Act → World → Prop}
    (hg : o.guard = none) (m x v : Operand) (t : TypeId) (hop : o.op = Op.insert t m x v)
    (k e : TypeId) (K : Keyed P k) (ht : P.underlying t = some (.map k e)) (R : Value → Option (DataW H × List MemPlace)) (b n : Nat) (D : DataW H)
    (hm : a.eval m = .map (some b)) (hown : w.ownsMap P k R b n D) (hn : n < maxLen) (key val : Value) (kl : Lit) (hx : a.eval x = key) (hv : a.eval v = val) (hkey : keyOf P k key = some kl)
    (d : DataW H) (ps : List MemPlace) (hval : R val = some (d, ps))
    (hK : ∀ w', w'.ownsMap P k R b (n + 1) (D.put kl d) → w.grownBy w' (some b) → wpList P ops Q rest (a.put o.dst undef) w') :
    wpList P ops Q (o :: rest) a w := by
  refine wpList_plain hg fun K' hK' => ?_
  obtain ⟨w', hrun, r1, r2⟩ := hown.update K ht hn hkey hval
  unfold Oper.wp
  simp [execOp, hop, hm, hx, hv, hrun, Result.andThen]
  exact hK' _ _ (hK w' r1 r2)
/-- The map that tells which pairs are known. -/
def setP (K : List (Nat × Nat)) : MapH := K.foldl (fun m p => m.put (kyP p) (.lit (.bool true))) (.map [])
theorem setP_snoc (K : List (Nat × Nat)) (x : Nat × Nat) : setP (K ++ [x]) = (setP K).put (kyP x) (.lit (.bool true)) := by
  unfold setP; rw [List.foldl_append]; rfl
theorem setP_tidy : ∀ (K : List (Nat × Nat)), Tidy (setP K) :=
  snocP tidy_empty (fun l x ih => by rw [setP_snoc]; exact ih.put (kyP_key _) _)
set_option maxRecDepth 100000 in
theorem setP_at {p : Nat × Nat} (hp : SmP p) : ∀ (K : List (Nat × Nat)), (∀ x ∈ K, SmP x) → (setP K).atKey (kyP p) (.lit (.bool false)) = .lit (.bool (decide (p ∈ K))) :=
  snocP (fun _ => by rw [atKey_of_not_has (by simp [setP, Maps.has])]; simp) (fun l x ih hs => by
    rw [setP_snoc]
    by_cases e : p = x
    · subst e
      rw [atKey_put_same (setP_tidy l).isMap (kyP_key _)]; simp
    · rw [atKey_put_other (kyP_ne hp (hs x (by simp)) e), ih (fun y hy => hs y (List.mem_append_left _ hy))]
      have e2 : decide (p ∈ l) = decide (p ∈ l ++ [x]) := decide_eq_decide.2 (by
        rw [List.mem_append, List.mem_singleton]
        exact ⟨.inl, fun h => h.resolve_right e⟩)
      exact congrArg (fun b => DataW.lit (Lit.bool b)) e2)
theorem Tryd.zeroBH (w : World) : (zeroValue 4).run Tryd.prog w = .ok (.bool false) w := by kernel_rfl
theorem plainB_inv {P : Program} {e : TypeId} (he : P.underlying e = some .bool) {v : Value} {z : MapH × List MemPlace} (h : plainElem P e v = some z) : ∃ x, v = .bool x ∧ z = (.lit (.bool x), []) := by
  unfold plainElem at h
  rw [he] at h
  cases v <;> simp at h
  exact ⟨_, rfl, h.symm⟩
set_option maxRecDepth 100000 in
theorem lookB {W : World} {b n : Nat} {K : List (Nat × Nat)} {p : Nat × Nat} (h : W.ownsMap Tryd.prog 111 (plainElem Tryd.prog 4) b n (setP K)) (hp : SmP p) (hK : ∀ x ∈ K, SmP x) :
    (Instr.lookup 154 (.map (some b)) (prV p.1 p.2) false).run Tryd.prog W = .ok (.bool (decide (p ∈ K))) W := by
  obtain ⟨v, ps, hrun, hv⟩ := h.lookup Tryd.keyLawP Tryd.underlying154 (Tryd.zeroBH W) (plainElem_bool Tryd.underlying4 false) (kyP_of hp)
  rw [setP_at hp K hK] at hv
  obtain ⟨x, hx, hz⟩ := plainB_inv Tryd.underlying4 hv
  have hz2 := congrArg Prod.fst hz
  dsimp only at hz2
  injection hz2 with hz2
  injection hz2 with hz2
  rw [hz2, ← hx]
  exact hrun
/-- A pair in a variable. -/
def Bx2 (W : World) (p x y : Nat) : Prop := W.heap[p]? = some (.cells #[.int .i64 (x : Int), .int .i64 (y : Int)] 111 (0, 0))
theorem Bx2.new (W : World) (x y : Nat) : Bx2 (W.alloc (.cells #[.int .i64 (x : Int), .int .i64 (y : Int)] 111)) W.heap.size x y := heap_alloc_new W _
theorem Bx2.lt {W : World} {p x y : Nat} (h : Bx2 W p x y) : p < W.heap.size := (Array.getElem?_eq_some_iff.1 h).1
theorem Bx2.cells {W : World} {p x y : Nat} (h : Bx2 W p x y) : W.cell? ⟨p, 0, none⟩ = some (.int .i64 (x : Int)) ∧ W.cell? ⟨p, 1, none⟩ = some (.int .i64 (y : Int)) := by
  unfold Bx2 at h
  exact ⟨by simp [World.cell?, h], by simp [World.cell?, h]⟩
theorem Bx2.keep {W W' : World} {p x y : Nat} (h : Bx2 W p x y) (hb : Below W.heap.size W W') : Bx2 W' p x y := (hb.block p h.lt).trans h
theorem Bx2.grown {W W' : World} {p x y : Nat} {row : Option Nat} (h : Bx2 W p x y) (hg : W.grownBy W' row) (hr : row ≠ some p) : Bx2 W' p x y := (hg.block p h.lt (fun e => hr e.symm)).trans h
theorem Bx2.ne_map {W : World} {p x y b n : Nat} {D : MapH} {Q : Value → Option (MapH × List MemPlace)} {k : TypeId} (h : Bx2 W p x y) (hm : W.ownsMap Tryd.prog k Q b n D) : some b ≠ some p := fun e => by
  injection e with e
  subst e
  exact map_not_cellsH hm h
theorem row_cellsH {W : World} {A t s k g : Nat} {v : Value} {xs : List Value} (hr : W.ownsRow A t s v k xs) (hg : v.ownBlock = some g) : ∃ c fr, W.heap[g]? = some (.cells c t fr) := by
  rcases hr.2 with ⟨rfl, _⟩ | ⟨g2, cap, cur, rfl, _, hgb, _⟩
  · simp [Value.ownBlock] at hg
  · obtain rfl : g2 = g := by simpa [Value.ownBlock] using hg
    exact ⟨_, _, hgb⟩
theorem Bx2.ne_row {W : World} {p x y B n : Nat} {v : Value} {xs : List Value} (h : Bx2 W p x y) (hr : W.ownsRow B 152 4 v n xs) : v.ownBlock ≠ some p := fun e => by
  obtain ⟨c, fr, h2⟩ := row_cellsH hr e
  unfold Bx2 at h
  rw [h] at h2
  injection h2 with h2
  injection h2 with _ h2 _
  exact absurd h2 (by decide)
/-- What a search holds: what it found, what is known, the pair of what is none. -/
structure FS (lo Bm pN na nb : Nat) (R : List Rec) (K : List (Nat × Nat)) (v : Value) (Wm W : World) : Prop where
  bl : Below lo Wm W
  rs : RecsAt W lo v R
  mp : W.ownsMap Tryd.prog 111 (plainElem Tryd.prog 4) Bm K.length (setP K)
  nw : Bx2 W pN na nb
  hB : lo ≤ Bm
theorem FS.keep {lo Bm pN na nb : Nat} {R : List Rec} {K : List (Nat × Nat)} {v : Value} {Wm W W' : World} (h : FS lo Bm pN na nb R K v Wm W) (hlo : lo ≤ W.heap.size) (hb : Below W.heap.size W W') : FS lo Bm pN na nb R K v Wm W' :=
  ⟨h.bl.trans (hb.mono hlo), h.rs.keep hb, h.mp.kept (grown_none hb) (by simp), h.nw.keep hb, h.hB⟩
/-- One pair more. -/
theorem FS.put {lo Bm pN na nb : Nat} {R : List Rec} {K : List (Nat × Nat)} {v v4 : Value} {Wm W w1 w4 : World} {o : Obj} {r : Rec} {x : Nat × Nat} (h : FS lo Bm pN na nb R K v Wm W) (hlo : lo ≤ W.heap.size)
    (hm1 : w1.ownsMap Tryd.prog 111 (plainElem Tryd.prog 4) Bm (K.length + 1) ((setP K).put (kyP x) (.lit (.bool true)))) (hg1 : W.grownBy w1 (some Bm))
    (hr1 : w1.ownsRow lo 152 4 v R.length (rcl R))
    (hr4 : w4.ownsRow lo 152 4 v4 (R.length + 1) (rcl R ++ [.int .i64 (r.1 : Int), .int .i64 (r.2.1 : Int), .int .i64 (r.2.2.1 : Int), .int .i64 (r.2.2.2 : Int)])) (hg4 : (w1.alloc o).grownBy w4 v.ownBlock) :
    FS lo Bm pN na nb (R ++ [r]) (K ++ [x]) v4 Wm w4 := by
  have b1 : Below lo Wm w1 := h.bl.grown hg1 hlo (fun k e => by injection e with e; have := h.hB; omega)
  have hs1 : lo ≤ w1.heap.size := by have := hg1.size; omega
  have n1 := h.nw.grown hg1 (h.nw.ne_map h.mp)
  have n2 : Bx2 (w1.alloc o) pN na nb := n1.keep (below1 w1 o)
  have hr2 := hr1.alloc o
  refine ⟨(b1.alloc hs1 o).grown hg4 (by rw [World.size_alloc]; omega) (fun k e => (hr1.lt k e).1), ?_, ?_, n2.grown hg4 (n2.ne_row hr2), h.hB⟩
  · unfold RecsAt
    rw [rcl_snoc, List.length_append]
    exact hr4
  · rw [setP_snoc, List.length_append]
    refine (hm1.alloc o).kept hg4 (fun e => ?_)
    obtain ⟨c, fr, h2⟩ := row_cellsH hr2 e.symm
    exact map_not_cellsH (hm1.alloc o) h2
theorem recs_one (W : World) (s t : Nat) : RecsAt (W.alloc (.cells #[.int .i64 (s : Int), .int .i64 (t : Int), .int .i64 0, .int .i64 0] 152)) W.heap.size (.slice (some ⟨W.heap.size, 0, none⟩) 1 1) [(s, t, 0, 0)] :=
  ⟨rfl, .inr ⟨W.heap.size, 1, #[.int .i64 (s : Int), .int .i64 (t : Int), .int .i64 0, .int .i64 0], rfl, Nat.le_refl _, heap_alloc_new W _, Nat.le_refl _, by unfold maxLen; omega, rfl, rfl⟩⟩
/-- A list of labels and whether there is one. -/
def FWOut (D : Bool → Bool → Bool) (a b : Nat → Nat → Nat) (na nb La s t : Nat) (w : World) (e : Ending) (w' : World) : Prop :=
  ∃ g c u is, e = .returned (.tuple #[.slice g u.length c, .bool is]) ∧ IntsRd w' (.slice g u.length c) u ∧ FW D a b na nb La s t u is ∧ Below w.heap.size w w'
theorem exactlyOne_any (x y : Bool) (w : World) : Calls Tryd.prog 43 #[.bool x, .bool y] w fun e w' => e = .returned (.bool (x != y)) ∧ w' = w := by
  go_enter Tryd.func43, Tryd.ntmps43
  go_wp2_with fail
  go_ret
  exact ⟨rfl, rfl⟩
theorem onlyFirst_any (x y : Bool) (w : World) : Calls Tryd.prog 40 #[.bool x, .bool y] w fun e w' => e = .returned (.bool (x && !y)) ∧ w' = w := by
  cases x
  · go_enter Tryd.func40, Tryd.ntmps40
    go_wp2_with fail
    go_ret
    exact ⟨rfl, rfl⟩
  · go_enter Tryd.func40, Tryd.ntmps40
    go_wp2_with fail
    go_ret
    exact ⟨by cases y <;> rfl, rfl⟩
end Go.Proofs.YtblkijdodojaeaaDoor

namespace Go.Proofs.YtblkijdodojaeaaDoor
open Go.RowKit Go.Maps
set_option linter.unusedSimpArgs false
set_option linter.unusedVariables false

theorem labsI_inj {a b : List Nat} (h : labsI a = labsI b) : a = b := by
  unfold labsI at h
  exact (List.map_inj_right (fun x y e => by omega)).1 h
theorem labsI_take (c : List Nat) (k : Nat) : (labsI c).take k = labsI (c.take k) := by unfold labsI; rw [List.map_take]
theorem ints_pre {W : World} {g : Nat} {N n c : Nat} {l : List Int} (h : IntsRd W (.slice (some ⟨g, 0, none⟩) N c) l) (hn : n ≤ l.length) : IntsRd W (.slice (some ⟨g, 0, none⟩) n c) (l.take n) := by
  obtain ⟨a, c2, hv, h1⟩ := h
  injection hv with e1 e2 e3
  subst e1
  subst e3
  refine ⟨_, _, by rw [List.length_take, Nat.min_eq_left hn], fun i x hx => ?_⟩
  have hi : i < n := by
    have := (List.getElem?_eq_some_iff.1 hx).1
    rw [List.length_take] at this
    omega
  rw [List.getElem?_take_of_lt hi] at hx
  exact h1 i x hx
set_option maxRecDepth 100000 in
set_option maxHeartbeats 6400000 in
theorem classesOf_any (m : Nat → Nat → Nat) (n La : Nat) (am : Option Addr) (cm : Nat) (w : World) (hrm : RowsRd w (.slice am (n + 1) cm) (mRows m n La)) (hm : ∀ s l, s < n + 1 → m s l < n + 1) (hn : n ≤ 64) (hL1 : 1 ≤ La) (hL : La ≤ 256) :
    Calls Tryd.prog 106 #[.slice am (n + 1) cm] w fun e w' => ∃ g c, e = .returned (.slice (some ⟨g, 0, none⟩) n c) ∧ w.heap.size ≤ g ∧ IntsRd w' (.slice (some ⟨g, 0, none⟩) n c) (labsI (classN m La n)) ∧ Below w.heap.size w w' := by
  have hmk := make_intsH (n + 1) (by omega)
  have HRM := Lib.hid hrm
  obtain ⟨K, hK1, hK2, hK3, hK4⟩ := stopC_get m La n hL1
  have HK2 := Lib.hid hK2
  have HK3 := Lib.hid hK3
  have HK4 := Lib.hid hK4
  have HNO := Lib.hid (fun W => mnone_any am n cm W (by omega))
  have HSP : Hid (∀ W (c : List Nat) (g l : Nat), RowsRd W (.slice am (n + 1) cm) (mRows m n La) → IntsRd W (.slice (some ⟨g, 0, none⟩) (n + 1) (n + 1)) (labsI c) → c.length = n + 1 → (∀ x ∈ c, x ≤ n + 1) → l < La → Calls Tryd.prog 124 #[.slice am (n + 1) cm, .slice (some ⟨g, 0, none⟩) (n + 1) (n + 1), .int .i64 (l : Int)] W fun e w' => ∃ R, e = .returned (.slice (some ⟨R, 0, none⟩) (n + 1) (n + 1)) ∧ W.heap.size ≤ R ∧ IntsRd w' (.slice (some ⟨R, 0, none⟩) (n + 1) (n + 1)) (labsI (splitC m c l)) ∧ Below W.heap.size W w') :=
    Lib.hid (fun W c g l h1 h2 h3 h4 h5 => split_any m n La l c _ _ W h1 h2 h3 h4 h5 hm hn hL)
  have HEQ : Hid (∀ W u u' (a b : List Nat), IntsRd W u (labsI a) → IntsRd W u' (labsI b) → a.length = n + 1 → b.length = n + 1 → Calls Tryd.prog 13 #[u, u'] W fun e W' => e = .returned (.bool (decide (a = b))) ∧ Below W.heap.size W W') := Lib.hid (fun W u u' a b h1 h2 h3 h4 => by
    refine (intsEq_any h1 h2 (by rw [labsI_lenH]; omega) (by rw [labsI_lenH]; omega)).mono ?_
    rintro e W' ⟨rfl, h5⟩
    refine ⟨?_, h5⟩
    congr 2
    rw [decide_eq_decide]
    exact ⟨labsI_inj, fun e => by rw [e]⟩)
  have hup : ∀ k j, ((List.range j).foldl (splitC m) (rndC m La (startC n) k)).length = n + 1 ∧ ∀ x ∈ (List.range j).foldl (splitC m) (rndC m La (startC n) k), x ≤ n + 1 := fun k j =>
    ⟨by rw [upC_len, rndC_len, startC_len], upC_le (by rw [rndC_len, startC_len]; exact Nat.le_refl _) (rndC_le k) j⟩
  have HUP := Lib.hid hup
  have hrow := mRows_at (m := m) (La := La) (n := n) (j := n) (Nat.lt_succ_self n)
  have HROW := Lib.hid hrow
  obtain ⟨N, hN⟩ : ∃ N, n + 1 = N := ⟨_, rfl⟩
  rw [hN] at hmk HNO HSP HEQ HUP HRM ⊢
  have HNN := Lib.hid hN
  have hN1 : n < N := by omega
  have hN2 : N ≤ 65 := by omega
  have R0 := Lib.hid ((IRow.made w N).set n 1)
  obtain ⟨R, hR⟩ : ∃ R, w.heap.size = R := ⟨_, rfl⟩
  have c0 := (IRow.made w N).cell hN1
  have f0 := (IRow.made w N).frozen n
  have B0 := Lib.hid (show Below w.heap.size w ((w.alloc (.cells (madeCells #[.int .i64 0] N) 3)).setCell ⟨R, n, none⟩ (.int .i64 1)) from (below1 w (.cells (madeCells #[.int .i64 0] N) 3)).setCell (by show w.heap.size ≤ R; omega) (.int .i64 1))
  clear hrm hN hK1 hK2 hK3 hK4 hup hrow hm
  go_enter Tryd.func106, Tryd.ntmps106
  rw [hR] at R0 c0 f0
  go_upto_region 2 with fail
  have HRR := Lib.hid hR
  clear hR hmk
  generalize (w.alloc (.cells (madeCells #[.int .i64 0] N) 3)) = X at *
  go_wp2_with (go_at_call 108; (with_reducible refine (HNO.out _).mono ?_); rintro e W3 ⟨rfl, rfl⟩)
  have I0 := Lib.hid (show IntsRd (W3.setCell ⟨R, n, none⟩ (.int .i64 1)) (.slice (some ⟨R, 0, none⟩) N N) (labsI (startC n)) by
    have hl := startC_len n
    rw [HNN.out] at hl
    refine ⟨_, _, by rw [labsI_lenH, hl], fun j x hx => ⟨R, 0, rfl, ?_⟩⟩
    have hj : j < N := by
      have := (List.getElem?_eq_some_iff.1 hx).1
      rwa [labsI_lenH, hl] at this
    rw [natR (by omega), startC_at (by rw [HNN.out]; exact hj)] at hx
    injection hx with hx
    rw [Nat.zero_add, R0.out.cell hj, ← hx]
    by_cases e : j = n
    · rw [if_pos e, if_pos e]; rfl
    · rw [if_neg e, if_neg e]; rfl)
  clear R0 c0 f0
  generalize (W3.setCell ⟨R, n, none⟩ (.int .i64 1)) = Y at *
  go_loopg [3] K (fun q s3 wx => ∃ (k g : Nat), k + q = K ∧ s3 = .slice (some ⟨g, 0, none⟩) N N ∧ w.heap.size ≤ g ∧ Hid (IntsRd wx (.slice (some ⟨g, 0, none⟩) N N) (labsI (rndC m La (startC n) k))) ∧ Hid (Below w.heap.size w wx))
  case atStart => exact ⟨0, R, by omega, rfl, by rw [HRR.out]; exact Nat.le_refl _, I0, B0⟩
  case round =>
    clear I0 B0
    obtain ⟨k, g, hk, rfl, hwg, HI, HB⟩ := hrel
    obtain ⟨q, rfl⟩ : ∃ q, q = gk := ⟨_, rfl⟩
    obtain ⟨b2, o2, k2, u2, hv2, p2, r2⟩ := (HRM.out.keep HB.out).at HROW.out
    injection hv2 with e4 e5 e6
    subst e4
    obtain ⟨a7, c7, hu7⟩ := r2.form
    rw [mRow_len] at hu7
    subst hu7
    have jn : (n : Int) < (N : Int) := by omega
    clear e5 e6 r2
    go_upto_region 5 with (go_at_call 108; (with_reducible refine (HNO.out _).mono ?_); rintro e W4 ⟨rfl, rfl⟩)
    have HIK := Lib.hid HI.out
    have hu0 := HUP.out k 0
    go_loopg [4, 20] La (fun q2 s4 s20 wx => ∃ (j g2 : Nat), j + q2 = La ∧ s20 = .int .i64 (j : Int) ∧ s4 = .slice (some ⟨g2, 0, none⟩) N N ∧ w.heap.size ≤ g2 ∧ Hid (IntsRd wx (.slice (some ⟨g2, 0, none⟩) N N) (labsI ((List.range j).foldl (splitC m) (rndC m La (startC n) k)))) ∧ Hid (Below W4.heap.size W4 wx))
    case atStart => exact ⟨0, g, by omega, rfl, rfl, hwg, HI, Lib.hid (Below.refl _ _)⟩
    case round =>
      clear p2 HI
      obtain ⟨j, g2, hj, rfl, rfl, hwg2, HJ, HB2⟩ := hrel
      have BW := Lib.hid (HB.out.trans (HB2.out.mono HB.out.size))
      rcases gk with _ | q2
      · obtain rfl : j = La := by omega
        have j0 : ¬ ((j : Int) < (j : Int)) := by omega
        have hu1 := HUP.out k j
        have HEQ2 := Lib.hid (HEQ.out wr _ _ _ _ HJ.out (HIK.out.keep HB2.out) hu1.1 hu0.1)
        by_cases hkK : k = K
        · have d1 : decide ((List.range j).foldl (splitC m) (rndC m j (startC n) k) = rndC m j (startC n) k) = true := decide_eq_true (by rw [hkK]; exact HK2.out)
          rw [d1] at HEQ2
          have HF := Lib.hid (show labsI (classN m j n) = (labsI (rndC m j (startC n) k)).take n by rw [HK4.out, labsI_take, hkK])
          have hlen : (labsI (rndC m j (startC n) k)).length = N := by rw [labsI_lenH]; exact hu0.1
          have hle : (n : Int) ≤ (N : Int) := by omega
          have HLE := Lib.hid hlen
          clear d1 hu0 hu1 HEQ hkK hlen
          go_wp2_with (first
            | (go_at_call 108; (with_reducible refine (HNO.out _).mono ?_); rintro e W6 ⟨rfl, hW6⟩)
            | (go_at_call 13; (with_reducible refine HEQ2.out.mono ?_); rintro e W5 ⟨rfl, b5⟩; (have B5 := Lib.hid (BW.out.trans (b5.mono BW.out.size))); (have I5 := Lib.hid ((HIK.out.keep HB2.out).keep b5)); clear b5))
          go_ret
          refine ⟨_, _, rfl, hwg, ?_, B5.out⟩
          rw [HF.out]
          exact ints_pre I5.out (by rw [HLE.out]; omega)
        · have d1 : decide ((List.range j).foldl (splitC m) (rndC m j (startC n) k) = rndC m j (startC n) k) = false := decide_eq_false (HK3.out k (by omega))
          rw [d1] at HEQ2
          clear d1 hu0 hu1 HEQ
          obtain ⟨q, rfl⟩ : ∃ q', q = q' + 1 := ⟨q - 1, by omega⟩
          go_wp2_with (go_at_call 13; (with_reducible refine HEQ2.out.mono ?_); rintro e W5 ⟨rfl, b5⟩; (have B5 := Lib.hid (BW.out.trans (b5.mono BW.out.size))); (have I5 := Lib.hid (HJ.out.keep b5)); clear b5)
          go_roundg q
          case measure => omega
          case rel => exact ⟨k + 1, g2, by omega, rfl, hwg2, I5, B5⟩
      · have hu1 := HUP.out k j
        have HS2 := Lib.hid (HSP.out wr _ g2 j (HRM.out.keep BW.out) HJ.out hu1.1 hu1.2 (by omega))
        have j1 : (j : Int) < (La : Int) := by omega
        clear hu1
        go_wp2_with (go_at_call 124; (with_reducible refine HS2.out.mono ?_); rintro e W5 ⟨R5, rfl, hwR, i5, b5⟩; (have I5 := Lib.hid i5); (have B5 := Lib.hid (HB2.out.trans (b5.mono HB2.out.size))); clear i5 b5)
        go_roundg q2
        case measure => omega
        case rel => exact ⟨j + 1, R5, by omega, by go_num, rfl, by have := BW.out.size; omega, Lib.hid (by rw [List.range_succ, List.foldl_append]; exact I5.out), B5⟩
end Go.Proofs.YtblkijdodojaeaaDoor
