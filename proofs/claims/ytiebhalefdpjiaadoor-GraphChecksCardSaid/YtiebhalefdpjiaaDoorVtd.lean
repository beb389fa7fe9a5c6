/- What slices.Compact returns for the edges of a row of one's own: each once, where equal ones stand beside each other. Condition: at most 100000 edges. -/
import Derived.Test.YtiebhalefdpjiaaDoorVtc
import Derived.Test.YtiebhalefdpjiaaDoorVm
namespace Go.Proofs.YtiebhalefdpjiaaDoor
open Go.RowKit Go.Shelf
set_option linter.unusedSimpArgs false
set_option linter.unusedVariables false

theorem eqlE : EqlAt Tryd.prog 43 (fun x => .agg (encE x).toArray) eqE := by
  refine ⟨fun x y w => ?_, GuardAt.agg _ (by kernel_rfl)⟩
  have u3 := Tryd.underlying3
  have a3 := Tryd.isAgg3
  have z3 := Tryd.sizeOf3
  have hS : Tryd.prog.underlying 43 = some (.struct (Tryd.prog.fieldsOf 43)) := by kernel_rfl
  have hp : Tryd.prog.stoodInHeld 43 = false := by kernel_rfl
  simp only [encE]
  rw [run_eql_struct, show (10000 : Nat) = 9999 + 1 from rfl, run_equalIn_agg w 9999 43 _ _ hS hp]
  simp only [Program.fieldsOf, Tryd.underlying43]
  go_simp
  unfold eqE
  by_cases h1 : x.1 = y.1 <;> by_cases h2 : x.2.1 = y.2.1 <;> by_cases h3 : x.2.2 = y.2.2 <;> simp [h1, h2, h3]
/-- A row whose first edges are f's. -/
def ERow (W : World) (g cap n : Nat) (f : Nat → E3) : Prop := ∃ F : Nat → Value, W.rowIs g 43 (cap * 3) F ∧ n ≤ cap ∧ ∀ i, i < n → F (i * 3) = .int .i64 (f i).1 ∧ F (i * 3 + 1) = .int .i64 (f i).2.1 ∧ F (i * 3 + 2) = .int .i64 (f i).2.2
theorem ERow.of {W : World} {B g cap : Nat} {es : List E3} (h : EdgesAt W B (.slice (some ⟨g, 0, none⟩) es.length cap) es) : ERow W g cap es.length (fun i => es[i]!) ∧ B ≤ g ∧ cap ≤ maxLen := by
  rcases h.2 with ⟨h0, _⟩ | ⟨g', cap', cur, hv, k1, k2, k3, k4, k5, k6⟩
  · cases h0
  · injection hv with e1 e2 e3
    injection e1 with e1
    injection e1 with e1
    subst e1
    subst e3
    refine ⟨⟨fun i => cur[i]!, ⟨cur, k2, k5, fun i hi => ?_⟩, k3, fun i hi => ?_⟩, k1, k4⟩
    · dsimp only
      rw [Array.getElem?_eq_getElem (by omega), getElem!_pos cur i (by omega)]
    · obtain ⟨x1, x2, x3⟩ := ecl_at (List.getElem?_eq_getElem hi)
      have hc : ∀ j, j < es.length * 3 → cur[j]? = (ecl es)[j]? := fun j hj => by
        rw [← k6, List.getElem?_take_of_lt hj, Array.getElem?_toList]
      have h1 : ∀ j v, j < es.length * 3 → (ecl es)[j]? = some v → cur[j]! = v := fun j v hj hv => by
        rw [← hc j hj] at hv
        obtain ⟨a, b⟩ := Array.getElem?_eq_some_iff.1 hv
        rw [getElem!_pos cur j a, b]
      have he : es[i]! = es[i] := getElem!_pos es i hi
      dsimp only
      rw [he]
      exact ⟨h1 _ _ (by omega) x1, h1 _ _ (by omega) x2, h1 _ _ (by omega) x3⟩
theorem ERow.cells {W : World} {g cap n : Nat} {f : Nat → E3} (h : ERow W g cap n f) {i : Nat} (hi : i < n) {x y z : Int} (he : f i = (x, y, z)) :
    W.cell? ⟨g, i * 3, none⟩ = some (.int .i64 x) ∧ W.cell? ⟨g, i * 3 + 1, none⟩ = some (.int .i64 y) ∧ W.cell? ⟨g, i * 3 + 2, none⟩ = some (.int .i64 z) := by
  obtain ⟨F, h1, h2, h3⟩ := h
  obtain ⟨k1, k2, k3⟩ := h3 i hi
  rw [he] at k1 k2 k3
  exact ⟨by rw [World.rowIs.cell h1 (by omega), k1], by rw [World.rowIs.cell h1 (by omega), k2], by rw [World.rowIs.cell h1 (by omega), k3]⟩
theorem ERow.frozen {W : World} {g cap n : Nat} {f : Nat → E3} (h : ERow W g cap n f) (i : Nat) : W.frozen? ⟨g, i, none⟩ = false := by
  obtain ⟨F, ⟨c, h1, -⟩, -⟩ := h
  simp [World.frozen?, h1]
theorem ERow.drew {W : World} {g cap n : Nat} {f : Nat → E3} (h : ERow W g cap n f) (q : Nat) : ERow (W.drewN q) g cap n f := h
theorem ERow.set {W : World} {g cap n : Nat} {f : Nat → E3} (h : ERow W g cap n f) {i : Nat} (hi : i < n) (x y z : Int) :
    ERow (((W.setCell ⟨g, i * 3, none⟩ (.int .i64 x)).setCell ⟨g, i * 3 + 1, none⟩ (.int .i64 y)).setCell ⟨g, i * 3 + 2, none⟩ (.int .i64 z)) g cap n (fun j => if j = i then (x, y, z) else f j) := by
  obtain ⟨F, h1, h2, h3⟩ := h
  refine ⟨_, World.rowIs.set (World.rowIs.set (World.rowIs.set h1 (i * 3) (.int .i64 x)) (i * 3 + 1) (.int .i64 y)) (i * 3 + 2) (.int .i64 z), h2, fun j hj => ?_⟩
  obtain ⟨k1, k2, k3⟩ := h3 j hj
  by_cases e : j = i
  · subst e
    simp
  · dsimp only
    rw [if_neg e]
    refine ⟨?_, ?_, ?_⟩
    · rw [if_neg (by omega), if_neg (by omega), if_neg (by omega)]; exact k1
    · rw [if_neg (by omega), if_neg (by omega), if_neg (by omega)]; exact k2
    · rw [if_neg (by omega), if_neg (by omega), if_neg (by omega)]; exact k3
theorem row_setCells {t : TypeId} {g m : Nat} : ∀ (vs : List Value) (o : Nat) (W : World) (F : Nat → Value), W.rowIs g t m F → ∃ F', (W.setCells g o vs).rowIs g t m F' ∧ ∀ i, i < o → F' i = F i
  | [], o, W, F, h => ⟨F, h, fun _ _ => rfl⟩
  | v :: r, o, W, F, h => by
    obtain ⟨F', h1, h2⟩ := row_setCells r (o + 1) _ _ (World.rowIs.set h o v)
    refine ⟨F', h1, fun i hi => ?_⟩
    rw [h2 i (by omega), if_neg (by omega)]
theorem ERow.clear {W : World} {g cap n : Nat} {f : Nat → E3} (h : ERow W g cap n f) {k : Nat} (hk : k ≤ n) (vs : List Value) : ERow (W.setCells g (k * 3) vs) g cap k f := by
  obtain ⟨F, h1, h2, h3⟩ := h
  obtain ⟨F', k1, k2⟩ := row_setCells vs (k * 3) W F h1
  refine ⟨F', k1, by omega, fun i hi => ?_⟩
  obtain ⟨x1, x2, x3⟩ := h3 i (by omega)
  exact ⟨by rw [k2 _ (by omega)]; exact x1, by rw [k2 _ (by omega)]; exact x2, by rw [k2 _ (by omega)]; exact x3⟩
theorem ERow.less {W : World} {g cap n : Nat} {f : Nat → E3} (h : ERow W g cap n f) {k : Nat} (hk : k ≤ n) : ERow W g cap k f := by
  obtain ⟨F, h1, h2, h3⟩ := h
  exact ⟨F, h1, by omega, fun i hi => h3 i (by omega)⟩
theorem ERow.at {W : World} {B g cap : Nat} {f : Nat → E3} {l : List E3} (h : ERow W g cap l.length f) (hB : B ≤ g) (hc : cap ≤ maxLen) (hl : ∀ i, i < l.length → l[i]? = some (f i)) : EdgesAt W B (.slice (some ⟨g, 0, none⟩) l.length cap) l := by
  obtain ⟨F, ⟨c, k1, k2, k3⟩, h2, h3⟩ := h
  refine ⟨ecl_len l, .inr ⟨g, cap, c, rfl, hB, k1, h2, hc, k2, ?_⟩⟩
  apply List.ext_getElem?
  intro t
  by_cases ht : t < l.length * 3
  · rw [List.getElem?_take_of_lt ht, Array.getElem?_toList, k3 t (by omega)]
    obtain ⟨i, hi⟩ : ∃ i, t / 3 = i := ⟨_, rfl⟩
    obtain ⟨d, hd⟩ : ∃ d, t % 3 = d := ⟨_, rfl⟩
    have hil : i < l.length := by omega
    obtain ⟨x1, x2, x3⟩ := ecl_at (hl i hil)
    obtain ⟨y1, y2, y3⟩ := h3 i hil
    rcases (show d = 0 ∨ d = 1 ∨ d = 2 by omega) with rfl | rfl | rfl
    · rw [show t = i * 3 by omega, x1, y1]
    · rw [show t = i * 3 + 1 by omega, x2, y2]
    · rw [show t = i * 3 + 2 by omega, x3, y3]
  · rw [List.getElem?_take_eq_none (by omega), List.getElem?_eq_none (by rw [ecl_len]; omega)]
/-- clear of a row's end. -/
theorem run_clearE {W : World} {g cap n : Nat} {f : Nat → E3} (h : ERow W g cap n f) {k : Nat} (hk : k < n) (c : Nat) : ∃ vs : List Value, ∀ ty : TypeId,
    (Builtin.clear_ #[22] ty #[.slice (some ⟨g, k * 3, none⟩) (n - k) c]).run Tryd.prog W = .ok (.tuple #[]) (W.setCells g (k * 3) vs) := by
  obtain ⟨F, h1, h2, h3⟩ := h
  refine ⟨(Builtin.zeroCells #[.int .i64 0, .int .i64 0, .int .i64 0] (n - k)).toList, fun ty => ?_⟩
  have hsz : (Builtin.zeroCells #[Value.int .i64 0, .int .i64 0, .int .i64 0] (n - k)).size = (n - k) * 3 := by rw [size_zeroCells]; rfl
  have hst := run_storeCells_cells (P := Tryd.prog) g (k * 3) (Builtin.zeroCells #[.int .i64 0, .int .i64 0, .int .i64 0] (n - k)).toList 0 W
    (fun j hj => by rw [Array.length_toList, hsz] at hj; rw [World.rowIs.cell h1 (by omega)]; rfl)
    (fun j hj => by obtain ⟨cc, hc, -⟩ := h1; simp [World.frozen?, hc])
    (fun v hv => by
      obtain ⟨i, hi, rfl⟩ := Array.mem_iff_getElem.1 (Array.mem_toList_iff.1 hv)
      simp only [Builtin.zeroCells, Array.getElem_map, Array.getElem_range]
      have hm : i % 3 = 0 ∨ i % 3 = 1 ∨ i % 3 = 2 := by omega
      show (#[Value.int .i64 0, .int .i64 0, .int .i64 0][i % 3]!).oneCell' = true
      rcases hm with h | h | h <;> rw [h] <;> rfl)
  simp only [Nat.add_zero] at hst
  obtain ⟨m, hm⟩ : ∃ m, n - k = m + 1 := ⟨n - k - 1, by omega⟩
  rw [hm] at hst ⊢
  simp [Builtin.clear_, Tryd.runUnderlying22, Tryd.zeroValue43, hst, go_sem]
end Go.Proofs.YtiebhalefdpjiaaDoor
