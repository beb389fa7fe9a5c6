/- Lists of integers and of runs in memory, and bytes of a string in a row. No condition. -/
import Derived.Test.YtokpfbbhkmlclaaGreatDoorUh
namespace Go.Proofs.YtokpfbbhkmlclaaGreatDoor
open Go.RowKit
set_option linter.unusedSimpArgs false
set_option linter.unusedVariables false

theorem own_slice {W : World} {B t k n : Nat} {v : Value} {xs : List Value} (h : W.ownsRow B t k v n xs) : ∃ a c, v = .slice a n c := by
  rcases h.2 with ⟨h1, h2⟩ | ⟨g, cap, cur, h1, _⟩
  · exact ⟨none, 0, by rw [h1, h2]⟩
  · exact ⟨_, _, h1⟩
theorem own_low {W : World} {A B t k n : Nat} {v : Value} {xs : List Value} (h : W.ownsRow B t k v n xs) (hA : A ≤ B) : W.ownsRow A t k v n xs := by
  refine ⟨h.1, ?_⟩
  rcases h.2 with h1 | ⟨g, cap, cur, h1, h2, h3⟩
  · exact .inl h1
  · exact .inr ⟨g, cap, cur, h1, Nat.le_trans hA h2, h3⟩
/-- Integers. -/
def intz (l : List Int) : List Value := l.map (Value.int .i64)
theorem intz_len (l : List Int) : (intz l).length = l.length := List.length_map _
theorem intz_snoc (l : List Int) (z : Int) : intz (l ++ [z]) = intz l ++ [.int .i64 z] := by unfold intz; rw [List.map_append]; rfl
def IntsAt (W : World) (B : Nat) (v : Value) (l : List Int) : Prop := W.ownsRow B 3 1 v l.length (intz l)
section
variable {W W' : World} {B : Nat} {v : Value} {l : List Int}
theorem IntsAt.keep (h : IntsAt W B v l) (hb : Below W.heap.size W W') : IntsAt W' B v l := World.ownsRow.kept h (grown_none hb) (by cases v.ownBlock <;> simp)
theorem IntsAt.slice (h : IntsAt W B v l) : ∃ a c, v = .slice a l.length c := own_slice h
theorem IntsAt.row (h : IntsAt W B v l) (h0 : 0 < l.length) : ∃ g c, v = .slice (some ⟨g, 0, none⟩) l.length c := by
  obtain ⟨g, c, hv, _⟩ := World.ownsRow.form h h0
  exact ⟨g, c, hv⟩
theorem IntsAt.cell {g c i : Nat} {x : Int} (h : IntsAt W B (.slice (some ⟨g, 0, none⟩) l.length c) l) (hx : l[i]? = some x) : W.cell? ⟨g, i, none⟩ = some (.int .i64 x) := by
  have hi : i < l.length := (List.getElem?_eq_some_iff.1 hx).1
  rw [World.ownsRow.cellAt h i (by omega)]
  unfold intz
  rw [List.getElem?_map, hx]; rfl
end
theorem ints_nil (W : World) (B : Nat) : IntsAt W B (.slice none 0 0) [] := World.ownsRow_nil _ _ _ _
/-- Runs: a letter's number and a length. -/
def rcl (rs : List (Int × Int)) : List Value := rs.flatMap fun p => [.int .i64 p.1, .int .i64 p.2]
theorem rcl_snoc (rs : List (Int × Int)) (p : Int × Int) : rcl (rs ++ [p]) = rcl rs ++ [.int .i64 p.1, .int .i64 p.2] := by unfold rcl; rw [List.flatMap_append]; rfl
theorem rcl_len (rs : List (Int × Int)) : (rcl rs).length = rs.length * 2 := by
  induction rs with
  | nil => rfl
  | cons p rs ih => show (_ :: _ :: rcl rs).length = _; rw [List.length_cons, List.length_cons, ih, List.length_cons]; omega
theorem rcl_at {rs : List (Int × Int)} : ∀ {i : Nat} {p : Int × Int}, rs[i]? = some p → (rcl rs)[i * 2]? = some (.int .i64 p.1) ∧ (rcl rs)[i * 2 + 1]? = some (.int .i64 p.2) := by
  induction rs with
  | nil => intro i p h; cases h
  | cons q rs ih =>
    intro i p h
    cases i with
    | zero => simp at h; subst h; exact ⟨rfl, rfl⟩
    | succ i =>
      have := ih (i := i) (by simpa using h)
      rw [show (i + 1) * 2 = i * 2 + 1 + 1 by omega]
      exact this
def RunsAt (W : World) (B : Nat) (v : Value) (rs : List (Int × Int)) : Prop := W.ownsRow B 46 2 v rs.length (rcl rs)
section
variable {W W' : World} {B : Nat} {v : Value} {rs : List (Int × Int)}
theorem RunsAt.keep (h : RunsAt W B v rs) (hb : Below W.heap.size W W') : RunsAt W' B v rs := World.ownsRow.kept h (grown_none hb) (by cases v.ownBlock <;> simp)
theorem RunsAt.slice (h : RunsAt W B v rs) : ∃ a c, v = .slice a rs.length c := own_slice h
theorem RunsAt.row (h : RunsAt W B v rs) (h0 : 0 < rs.length) : ∃ g c, v = .slice (some ⟨g, 0, none⟩) rs.length c := by
  obtain ⟨g, c, hv, _⟩ := World.ownsRow.form h h0
  exact ⟨g, c, hv⟩
theorem RunsAt.addr {a : Option Addr} {c : Nat} (h : RunsAt W B (.slice a rs.length c) rs) (h0 : 0 < rs.length) : ∃ g, a = some ⟨g, 0, none⟩ := by
  obtain ⟨g, c', hv⟩ := h.row h0
  injection hv with h1
  exact ⟨g, h1⟩
theorem RunsAt.cell {g c i : Nat} {p : Int × Int} (h : RunsAt W B (.slice (some ⟨g, 0, none⟩) rs.length c) rs) (hx : rs[i]? = some p) : W.cell? ⟨g, i * 2, none⟩ = some (.int .i64 p.1) ∧ W.cell? ⟨g, i * 2 + 1, none⟩ = some (.int .i64 p.2) := by
  have hi : i < rs.length := (List.getElem?_eq_some_iff.1 hx).1
  obtain ⟨k1, k2⟩ := rcl_at hx
  exact ⟨(World.ownsRow.cellAt h (i * 2) (by omega)).trans k1, (World.ownsRow.cellAt h (i * 2 + 1) (by omega)).trans k2⟩
end
theorem runs_nil (W : World) (B : Nat) : RunsAt W B (.slice none 0 0) [] := World.ownsRow_nil _ _ _ _
theorem Tryz.infoRun : (Tryz.prog.info? 46).map (fun i => (i.zero, i.size, i.bytes)) = some (some (.agg #[.int .i64 0, .int .i64 0]), 2, 16) := by kernel_rfl
theorem cell_two_new (w : World) (x y : Value) (t : TypeId) : ∀ j u, [x, y][j]? = some u → (w.alloc (.cells #[x, y] t)).cell? ((⟨w.heap.size, 0, none⟩ : Addr).add j) = some u := by
  intro j u hj
  match j, hj with
  | 0, hj =>
    simp at hj
    subst hj
    simp [Addr.add]
  | 1, hj =>
    simp at hj
    subst hj
    simp [Addr.add]
/-- Bytes in a row that can be written. -/
def BRow (W : World) (b : Nat) (l : List UInt8) : Prop := ∀ j c, l[j]? = some c → W.cell? ⟨b, j, none⟩ = some (.int .u8 (c.toNat : Int)) ∧ W.frozen? ⟨b, j, none⟩ = false
section
variable {W W' : World} {b : Nat} {l : List UInt8}
theorem BRow.keep (h : BRow W b l) (hb : Below W.heap.size W W') : BRow W' b l := fun j c hc => ⟨cell_keep (h j c hc).1 hb, frozen_keep (h j c hc).1 (h j c hc).2 hb⟩
theorem BRow.set (h : BRow W b l) {i : Nat} (d : UInt8) : BRow (W.setCell ⟨b, i, none⟩ (.int .u8 (d.toNat : Int))) b (l.set i d) := fun j c hc => by
  rw [World.frozen?_setCell]
  have hj : j < l.length := by
    have := (List.getElem?_eq_some_iff.1 hc).1
    rwa [List.length_set] at this
  obtain ⟨k1, k2⟩ := h j l[j] (List.getElem?_eq_getElem hj)
  refine ⟨?_, k2⟩
  by_cases e : i = j
  · subst e
    rw [List.getElem?_set_self hj] at hc
    injection hc with hc
    subst hc
    exact World.cell?_setCell_same _ _ _ k1
  · rw [List.getElem?_set_ne e] at hc
    rw [List.getElem?_eq_getElem hj] at hc
    injection hc with hc
    subst hc
    rw [World.cell?_setCell_other _ _ _ _ (fun e2 => e (by injection e2)), k1]
theorem BRow.other (h : BRow W b l) {a : Addr} (v : Value) (ha : a.block ≠ b) : BRow (W.setCell a v) b l := fun j c hc => by
  rw [World.frozen?_setCell, World.cell?_setCell_far _ _ _ _ ha]
  exact h j c hc
end
theorem bytes_row (w : World) (l : List UInt8) : BRow (Lib.bytesWorld w 5 ⟨l.toArray⟩) w.heap.size l := fun j c hj => by
  have hjl : j < l.length := (List.getElem?_eq_some_iff.1 hj).1
  constructor
  · rw [Lib.bytesWorld_cell _ _ _ _ hjl]
    have : (⟨l.toArray⟩ : ByteArray).data.toList.getD j 0 = c := by show l.getD j 0 = c; rw [List.getD_eq_getElem?_getD, hj]; rfl
    rw [this]
  · have hs : l.length ≤ (Lib.bytesCells w 5 ⟨l.toArray⟩).size := by
      unfold Lib.bytesCells
      rw [Array.size_append, Array.size_map]
      exact Nat.le_add_right _ _
    unfold World.frozen?
    rw [Lib.bytesWorld_at_new]
    simp
    omega
theorem row_back {W : World} {b c : Nat} {l : List UInt8} (h : BRow W b l) : (convert 69 9 (.slice (some ⟨b, 0, none⟩) l.length c)).run Tryz.prog W = .ok (.string ⟨l.toArray⟩) W := by
  refine run_convert_bytes_back _ 69 9 5 ⟨b, 0, none⟩ c l Tryz.underlying69 Tryz.underlying5 Tryz.underlying9 (fun j hj => ?_)
  rw [show (⟨b, 0, none⟩ : Addr).add j = ⟨b, j, none⟩ by unfold Addr.add; split <;> simp_all, (h j l[j] (List.getElem?_eq_getElem hj)).1]
end Go.Proofs.YtokpfbbhkmlclaaGreatDoor
