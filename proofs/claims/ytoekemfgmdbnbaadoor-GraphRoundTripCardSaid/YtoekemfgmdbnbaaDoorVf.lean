/- What graph.members and graph.passed return. Conditions: at most 64 states, edges between states. -/
import Derived.Test.YtoekemfgmdbnbaaDoorVe
namespace Go.Proofs.YtoekemfgmdbnbaaDoor
open Go.RowKit
set_option linter.unusedSimpArgs false
set_option linter.unusedVariables false

/-- Truth values that can be read. -/
def BRd (W : World) (v : Value) (n : Nat) (f : Nat → Bool) : Prop := ∃ b c, v = .slice (some ⟨b, 0, none⟩) n c ∧ ∀ i, i < n → W.cell? ⟨b, i, none⟩ = some (.bool (f i))
theorem BRd.keep {W W' : World} {v : Value} {n : Nat} {f : Nat → Bool} (h : BRd W v n f) (hb : Below W.heap.size W W') : BRd W' v n f := by
  obtain ⟨b, c, rfl, h1⟩ := h
  exact ⟨b, c, rfl, fun i hi => cell_keep (h1 i hi) hb⟩
/-- Truth values in a row of one's own. -/
def BRow (W : World) (b n : Nat) (f : Nat → Bool) : Prop := W.rowIs b 4 n (fun i => .bool (f i))
theorem BRow.keep {W W' : World} {b n : Nat} {f : Nat → Bool} (h : BRow W b n f) (hb : Below W.heap.size W W') : BRow W' b n f := World.rowIs.of_block h (hb.block b (World.rowIs.lt h))
theorem BRow.rd {W : World} {b n : Nat} {f : Nat → Bool} (h : BRow W b n f) (c : Nat) : BRd W (.slice (some ⟨b, 0, none⟩) n c) n f := ⟨b, c, rfl, fun i hi => World.rowIs.cell h hi⟩
theorem BRow.made (w : World) (n : Nat) : BRow (w.alloc (.cells (madeCells #[.bool false] n) 4)) w.heap.size n (fun _ => false) := World.rowIs_made w _ n _
theorem BRow.set {W : World} {b n : Nat} {f : Nat → Bool} (h : BRow W b n f) (i : Nat) (x : Bool) : BRow (W.setCell ⟨b, i, none⟩ (.bool x)) b n (fun j => if j = i then x else f j) :=
  World.rowIs.congr (World.rowIs.set h i (.bool x)) (fun j _ => by dsimp only; split <;> rfl)
theorem BRow.other {W : World} {b n : Nat} {f : Nat → Bool} (h : BRow W b n f) {a : Addr} (ha : b ≠ a.block) (v : Value) : BRow (W.setCell a v) b n f := World.rowIs.setOther h ha v
theorem BRow.congr {W : World} {b n : Nat} {f g : Nat → Bool} (h : BRow W b n f) (e : ∀ i, i < n → f i = g i) : BRow W b n g := World.rowIs.congr h (fun i hi => by rw [e i hi])
theorem Tryd.infoBool : (Tryd.prog.info? 4).map (fun i => (i.zero, i.size, i.bytes)) = some (some (.bool false), 1, 1) := by kernel_rfl
theorem make_bools (n : Nat) (hn : n ≤ 100000) (W : World) : (Instr.makeSlice 74 (.int .i64 (n : Int)) (.int .i64 (n : Int))).run Tryd.prog W = .ok (.slice (some ⟨W.heap.size, 0, none⟩) n n) (W.alloc (.cells (madeCells #[.bool false] n) 4)) :=
  run_make_row' _ _ _ 1 Tryd.underlying74 Tryd.infoBool rfl _ _ n (by omega) (by omega) W
theorem make_ints (n : Nat) (hn : n ≤ 100000) (W : World) : (Instr.makeSlice 41 (.int .i64 (n : Int)) (.int .i64 (n : Int))).run Tryd.prog W = .ok (.slice (some ⟨W.heap.size, 0, none⟩) n n) (W.alloc (.cells (madeCells #[.int .i64 0] n) 3)) :=
  run_make_row' _ _ _ 8 Tryd.underlying41 Tryd.infoI64 rfl _ _ n (by omega) (by omega) W
/-- The states that belong. -/
def mems (n : Nat) (f : Nat → Bool) : List Int := ((List.range n).filter f).map fun (i : Nat) => (i : Int)
theorem mems_succ (n : Nat) (f : Nat → Bool) : mems (n + 1) f = mems n f ++ (if f n = true then [(n : Int)] else []) := by
  unfold mems
  rw [List.range_succ, List.filter_append, List.map_append]
  congr 1
  cases h : f n <;> simp [List.filter_cons, h]
theorem mems_len (n : Nat) (f : Nat → Bool) : (mems n f).length ≤ n := by
  unfold mems
  rw [List.length_map]
  exact Nat.le_trans (List.length_filter_le _ _) (by simp)
def NewInts (w : World) (l : List Int) (e : Ending) (w' : World) : Prop := ∃ v, e = .returned v ∧ IntsAt w' w.heap.size v l ∧ Below w.heap.size w w'
set_option maxRecDepth 100000 in
set_option maxHeartbeats 1600000 in
theorem members_any (n : Nat) (f : Nat → Bool) (v : Value) (w : World) (hrd : BRd w v n f) (hn : n ≤ 64) :
    Calls Tryd.prog 38 #[v] w (NewInts w (mems n f)) := by
  obtain ⟨i0, hi, hz0, hz1, hz2⟩ := info_parts Tryd.infoI64
  obtain ⟨b, c, rfl, hc⟩ := hrd
  have HC := Lib.hid hc
  clear hc
  go_enter Tryd.func38, Tryd.ntmps38
  go_wp2_with fail
  go_loopg [3, 8] n (fun q s3 s8 wx => ∃ i : Nat, i + q = n ∧ s8 = .int .i64 (i : Int) ∧ IntsAt wx w.heap.size s3 (mems i f) ∧ Below w.heap.size w wx)
  case atStart => exact ⟨0, by omega, rfl, ints_nil _ _, Below.refl _ _⟩
  case round =>
    obtain ⟨i, hin, rfl, hown, hb⟩ := hrel
    obtain ⟨a3, c3, rfl⟩ := hown.slice
    rcases gk with _ | q
    · obtain rfl : i = n := by omega
      have HI := Lib.hid hown
      clear hown
      obtain ⟨m, hm⟩ : ∃ m, (mems i f).length = m := ⟨_, rfl⟩
      rw [hm] at HI ⊢
      clear hm
      go_wp2_with fail
      go_ret
      exact ⟨_, rfl, HI.out, hb⟩
    · have hcell := (hb.cell (p := ⟨b, i, none⟩) (World.block_lt_of_cell? _ _ (HC.out i (by omega)))).trans (HC.out i (by omega))
      have hml := mems_len i f
      have hsn := mems_succ i f
      have j1 : (i : Int) < (n : Int) := by omega
      cases hfi : f i with
      | true =>
        rw [hfi] at hcell
        have HS := Lib.hid (show mems (i + 1) f = mems i f ++ [(i : Int)] by rw [hsn, hfi]; rfl)
        have hlt := hown.lt
        have hown0 := hown
        unfold IntsAt at hown0
        obtain ⟨m, hm⟩ : ∃ m, (mems i f).length = m := ⟨_, rfl⟩
        rw [hm] at hown0 hml hlt ⊢
        have HM := Lib.hid hm
        clear hfi hsn hown hm
        go_wp2_with (first | (at_builtin; refine wpList_append_own_at _ rfl _ _ 41 rfl w.heap.size 3 i0 (.int .i64 0) 1 8 Tryd.underlying41 hi hz0 hz1 hz2 rfl (by decide) _ _ _ rfl (hown0.alloc _) ⟨wr.heap.size, 0, none⟩ 1 1 [.int .i64 (i : Int)] rfl rfl ?c1 ?c2 ?c3 ?c4 ?c5 ?_))
        case c1 => exact World.news_of_block (cs := #[.int .i64 (i : Int)]) (t := 3) (fr := (0, 0)) (heap_alloc_new wr _)
        case c2 => intro u hu; simp at hu; subst hu; rfl
        case c3 => unfold maxLen; omega
        case c4 => omega
        case c5 => rw [World.size_alloc]; have := hb.size; omega
        intro v' W2 hown2 hgrow _ hv'
        have hb2 : Below w.heap.size w W2 := (hb.alloc hb.size _).grown hgrow (by rw [World.size_alloc]; have := hb.size; omega) (fun k hk => (hlt k hk).1)
        rw [← intz_snoc, ← HS.out] at hown2
        have HI2 := Lib.hid (show IntsAt W2 w.heap.size v' (mems (i + 1) f) by unfold IntsAt; rw [HS.out, List.length_append, HM.out]; rw [HS.out] at hown2; exact hown2)
        obtain ⟨a', c', rfl⟩ := own_slice hown2
        clear hown0 hown2 hgrow hlt hv' hb
        go_wp2_with fail
        go_roundg q
        case measure => omega
        case rel => exact ⟨i + 1, by omega, by go_num, HI2.out, hb2⟩
      | false =>
        rw [hfi] at hcell
        have HI2 := Lib.hid (show IntsAt wr w.heap.size (.slice a3 (mems i f).length c3) (mems (i + 1) f) by rw [hsn, hfi]; simpa using hown)
        obtain ⟨m, hm⟩ : ∃ m, (mems i f).length = m := ⟨_, rfl⟩
        rw [hm] at HI2 ⊢
        clear hfi hsn hown hm
        go_wp2_with fail
        go_roundg q
        case measure => omega
        case rel => exact ⟨i + 1, by omega, by go_num, HI2.out, hb⟩
end Go.Proofs.YtoekemfgmdbnbaaDoor
