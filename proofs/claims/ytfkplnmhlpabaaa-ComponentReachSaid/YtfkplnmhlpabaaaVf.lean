/- What graph.members and graph.passed return. Conditions: at most 64 states, edges between states. -/
import Derived.Test.YtfkplnmhlpabaaaVe
namespace Go.Proofs.Ytfkplnmhlpabaaa
open Go.RowKit
set_option linter.unusedSimpArgs false
set_option linter.unusedVariables false

/-- Truth values that can be read. -/
def BRd (W : World) (v : Value) (n : Nat) (f : Nat → Bool) : Prop := ∃ b c, v = .slice (some ⟨b, 0, none⟩) n c ∧ ∀ i, i < n → W.cell? ⟨b, i, none⟩ = some (.bool (f i))
theorem BRd.keep {W W' : World} {v : Value} {n : Nat} {f : Nat → Bool} (h : BRd W v n f) (hb : Below W.heap.size W W') : BRd W' v n f := by
  obtain ⟨b, c, rfl, h1⟩ := h
  exact ⟨b, c, rfl, fun i hi => cell_keep (h1 i hi) hb⟩
/-- Truth values in a row of one's own. -/
def BRow (W : World) (b n : Nat) (f : Nat → Bool) : Prop := W.rowIs b 4 n (fun i => .bool (f i))
theorem BRow.keep {W W' : World} {b n : Nat} {f : Nat → Bool} (h : BRow W b n f) (hb : Below W.heap.size W W') : BRow W' b n f := World.rowIs.of_block h (hb.block b (World.rowIs.lt h))
theorem BRow.rd {W : World} {b n : Nat} {f : Nat → Bool} (h : BRow W b n f) (c : Nat) : BRd W (.slice (some ⟨b, 0, none⟩) n c) n f := ⟨b, c, rfl, fun i hi => World.rowIs.cell h hi⟩
theorem BRow.made (w : World) (n : Nat) : BRow (w.alloc (.cells (madeCells #[.bool false] n) 4)) w.heap.size n (fun _ => false) := World.rowIs_made w _ n _
theorem BRow.set {W : World} {b n : Nat} {f : Nat → Bool} (h : BRow W b n f) (i : Nat) (x : Bool) : BRow (W.setCell ⟨b, i, none⟩ (.bool x)) b n (fun j => if j = i then x else f j) :=
  World.rowIs.congr (World.rowIs.set h i (.bool x)) (fun j _ => by dsimp only; split <;> rfl)
theorem BRow.other {W : World} {b n : Nat} {f : Nat → Bool} (h : BRow W b n f) {a : Addr} (ha : b ≠ a.block) (v : Value) : BRow (W.setCell a v) b n f := World.rowIs.setOther h ha v
theorem BRow.congr {W : World} {b n : Nat} {f g : Nat → Bool} (h : BRow W b n f) (e : ∀ i, i < n → f i = g i) : BRow W b n g := World.rowIs.congr h (fun i hi => by rw [e i hi])
theorem Try.infoBool : (Try.prog.info? 4).map (fun i => (i.zero, i.size, i.bytes)) = some (some (.bool false), 1, 1) := by kernel_rfl
theorem make_bools (n : Nat) (hn : n ≤ 100000) (W : World) : (Instr.makeSlice 53 (.int .i64 (n : Int)) (.int .i64 (n : Int))).run Try.prog W = .ok (.slice (some ⟨W.heap.size, 0, none⟩) n n) (W.alloc (.cells (madeCells #[.bool false] n) 4)) :=
  run_make_row' _ _ _ 1 Try.underlying53 Try.infoBool rfl _ _ n (by omega) (by omega) W
theorem make_ints (n : Nat) (hn : n ≤ 100000) (W : World) : (Instr.makeSlice 34 (.int .i64 (n : Int)) (.int .i64 (n : Int))).run Try.prog W = .ok (.slice (some ⟨W.heap.size, 0, none⟩) n n) (W.alloc (.cells (madeCells #[.int .i64 0] n) 3)) :=
  run_make_row' _ _ _ 8 Try.underlying34 Try.infoI64 rfl _ _ n (by omega) (by omega) W
/-- The states that belong. -/
def mems (n : Nat) (f : Nat → Bool) : List Int := ((List.range n).filter f).map fun (i : Nat) => (i : Int)
theorem mems_succ (n : Nat) (f : Nat → Bool) : mems (n + 1) f = mems n f ++ (if f n = true then [(n : Int)] else []) := by
  unfold mems
  rw [List.range_succ, List.filter_append, List.map_append]
  congr 1
  cases h : f n <;> simp [List.filter_cons, h]
theorem mems_len (n : Nat) (f : Nat → Bool) : (mems n f).length ≤ n := by
  unfold mems
  rw [List.length_map]
  exact Nat.le_trans (List.length_filter_le _ _) (by simp)
def NewInts (w : World) (l : List Int) (e : Ending) (w' : World) : Prop := ∃ v, e = .returned v ∧ IntsAt w' w.heap.size v l ∧ Below w.heap.size w w'
end Go.Proofs.Ytfkplnmhlpabaaa
