/- What states.MovesOf, Step and Follow do. Conditions: a valid graph's sizes; the library's table reads as its text lays it. What states.Moves.Step and Follow do. Conditions: the moves can be read; the set is one of states; the library's table reads as its text lays it. Graphs' variables that lie beside rows of their own. No condition. -/
import Derived.Test.YtblkijdodojaeaaDoorQ11
import Derived.Test.YtblkijdodojaeaaDoorQ12
import Derived.Test.YtblkijdodojaeaaDoorQ04
import Derived.RangeFuncBox

namespace Go.Proofs.YtblkijdodojaeaaDoor
open Go.RowKit
set_option linter.unusedSimpArgs false
set_option linter.unusedVariables false

theorem Tryd.infoSet : (Tryd.prog.info? 75).map (fun i => (i.zero, i.size, i.bytes)) = some (some (.int .u64 0), 1, 8) := by kernel_rfl
theorem Tryd.infoSets : (Tryd.prog.info? 117).map (fun i => (i.zero, i.size, i.bytes)) = some (some (.slice none 0 0), 1, 24) := by kernel_rfl
theorem make_sets (n : Nat) (hn : n ≤ 100000) (W : World) : (Instr.makeSlice 117 (.int .i64 (n : Int)) (.int .i64 (n : Int))).run Tryd.prog W = .ok (.slice (some ⟨W.heap.size, 0, none⟩) n n) (W.alloc (.cells (madeCells #[.int .u64 0] n) 75)) :=
  run_make_row' _ _ _ 8 Tryd.underlying117 Tryd.infoSet rfl _ _ n (by omega) (by omega) W
theorem make_moves (n : Nat) (hn : n ≤ 100000) (W : World) : (Instr.makeSlice 114 (.int .i64 (n : Int)) (.int .i64 (n : Int))).run Tryd.prog W = .ok (.slice (some ⟨W.heap.size, 0, none⟩) n n) (W.alloc (.cells (madeCells #[.slice none 0 0] n) 117)) :=
  run_make_row' _ _ _ 24 Tryd.underlying114 Tryd.infoSets rfl _ _ n (by omega) (by omega) W
abbrev u64v (S : Nat) : Value := .int .u64 (S : Int)
abbrev rowV (b n : Nat) (l : Nat) : Value := .slice (some ⟨b + 1 + l, 0, none⟩) n n
/-- The rows of sets, i of them laid. -/
structure MvW (b L n i : Nat) (F : Nat → Nat → Nat) (W : World) : Prop where
  top : W.rowIs b 117 L (fun l => if l < i then rowV b n l else .slice none 0 0)
  rows : ∀ l, l < i → W.rowIs (b + 1 + l) 75 n (fun s => u64v (F l s))
section
variable {b L n i : Nat} {F F' : Nat → Nat → Nat} {W W' : World}
theorem MvW.keep (h : MvW b L n i F W) (hb : Below W.heap.size W W') : MvW b L n i F W' :=
  ⟨World.rowIs.of_block h.top (hb.block b (World.rowIs.lt h.top)), fun l hl => World.rowIs.of_block (h.rows l hl) (hb.block _ (World.rowIs.lt (h.rows l hl)))⟩
theorem MvW.lt (h : MvW b L n i F W) : b < W.heap.size := World.rowIs.lt h.top
theorem MvW.congr (h : MvW b L n i F W) (e : ∀ l s, l < i → s < n → F l s = F' l s) : MvW b L n i F' W :=
  ⟨h.top, fun l hl => World.rowIs.congr (h.rows l hl) (fun s hs => by rw [e l s hl hs])⟩
theorem MvW.cell (h : MvW b L n i F W) {l : Nat} (hl : l < i) (hi : i ≤ L) : W.cell? ⟨b, l, none⟩ = some (rowV b n l) := by
  rw [World.rowIs.cell h.top (show l < L by omega), if_pos hl]
theorem MvW.at (h : MvW b L n i F W) {l s : Nat} (hl : l < i) (hs : s < n) : W.cell? ⟨b + 1 + l, s, none⟩ = some (u64v (F l s)) := World.rowIs.cell (h.rows l hl) hs
theorem MvW.made (w : World) (L n : Nat) (F : Nat → Nat → Nat) : MvW w.heap.size L n 0 F (w.alloc (.cells (madeCells #[.slice none 0 0] L) 117)) :=
  ⟨World.rowIs.congr (World.rowIs_made w _ L _) (fun l _ => by rw [if_neg (by omega)]), fun l hl => absurd hl (by omega)⟩
/-- A row more. -/
theorem MvW.more (h : MvW b L n i (fun _ _ => 0) W) (hs : W.heap.size = b + 1 + i) : MvW b L n (i + 1) (fun _ _ => 0) ((W.alloc (.cells (madeCells #[.int .u64 0] n) 75)).setCell ⟨b, i, none⟩ (rowV b n i)) := by
  have hb := below1 W (.cells (madeCells #[.int .u64 0] n) 75)
  have h2 := h.keep hb
  refine ⟨World.rowIs.congr (World.rowIs.set h2.top i _) (fun l _ => ?_), fun l hl => ?_⟩
  · by_cases e : l = i
    · subst e; rw [if_pos rfl, if_pos (by omega)]
    · rw [if_neg e]
      by_cases h3 : l < i
      · rw [if_pos h3, if_pos (by omega)]
      · rw [if_neg h3, if_neg (by omega)]
  · refine World.rowIs.setOther ?_ (by show b + 1 + l ≠ b; omega) _
    by_cases e : l = i
    · subst e
      have h4 := World.rowIs_made W (.int .u64 0) n 75
      rw [hs] at h4
      exact h4
    · exact h2.rows l (by omega)
/-- A set written. -/
theorem MvW.set (h : MvW b L n i F W) (x y S : Nat) : MvW b L n i (fun l s => if l = y ∧ s = x then S else F l s) (W.setCell ⟨b + 1 + y, x, none⟩ (u64v S)) := by
  refine ⟨World.rowIs.setOther h.top (by show b ≠ b + 1 + y; omega) _, fun l hl => ?_⟩
  by_cases e : l = y
  · subst e
    exact World.rowIs.congr (World.rowIs.set (h.rows l hl) x _) (fun s _ => by
      by_cases e2 : s = x
      · subst e2; rw [if_pos rfl, if_pos ⟨rfl, rfl⟩]
      · rw [if_neg e2, if_neg (fun h => e2 h.2)])
  · exact World.rowIs.congr (World.rowIs.setOther (h.rows l hl) (by show b + 1 + l ≠ b + 1 + y; omega) _) (fun s _ => by rw [if_neg (fun h => e h.1)])
end
/-- The moves of a graph that can be read. -/
def MvRd (W : World) (v : Value) (es : List E3) (L n : Nat) : Prop := ∃ b, v = .slice (some ⟨b, 0, none⟩) L L ∧ MvW b L n L (mvN es) W
theorem MvRd.keep {W W' : World} {v : Value} {es : List E3} {L n : Nat} (h : MvRd W v es L n) (hb : Below W.heap.size W W') : MvRd W' v es L n := by
  obtain ⟨b, h1, h2⟩ := h
  exact ⟨b, h1, h2.keep hb⟩
/-- The cells that the statement of the second loop reads. -/
def SM (P0 b n x y z S : Nat) (W : World) : Prop := W.cell? ⟨P0, 0, none⟩ = some (.int .i64 (x : Int)) ∧ W.cell? ⟨P0, 1, none⟩ = some (.int .i64 (y : Int)) ∧ W.cell? ⟨P0, 2, none⟩ = some (.int .i64 (z : Int)) ∧ W.cell? ⟨b, y, none⟩ = some (rowV b n y) ∧ W.cell? ⟨b + 1 + y, x, none⟩ = some (u64v S)
theorem SM.keep {P0 b n x y z S : Nat} {W W' : World} (h : SM P0 b n x y z S W) (hb : Below W.heap.size W W') : SM P0 b n x y z S W' := ⟨cell_keep h.1 hb, cell_keep h.2.1 hb, cell_keep h.2.2.1 hb, cell_keep h.2.2.2.1 hb, cell_keep h.2.2.2.2 hb⟩
theorem ints_lit1 (W : World) (z : Int) (t : TypeId) : IntsRd (W.alloc (.cells #[.int .i64 z] t)) (.slice (some ⟨W.heap.size, 0, none⟩) 1 1) [z] := by
  refine ⟨_, _, rfl, fun i x hx => ⟨W.heap.size, 0, rfl, ?_⟩⟩
  cases i with
  | zero => simp at hx; subst hx; simp [go_sem]
  | succ i => simp at hx
theorem mvN_nil (l s : Nat) : mvN [] l s = 0 := by
  apply Nat.eq_of_testBit_eq
  intro i
  unfold mvN
  rw [mkN_bit, Nat.zero_testBit]; simp
theorem mvN_upd {es : List E3} {x y z l s : Nat} (hz : z < 64) : mvN (es ++ [((x : Int), (y : Int), (z : Int))]) l s = if l = y ∧ s = x then mvN es y x ||| 2 ^ z else mvN es l s := by
  rw [mvN_snoc es _ l s (by show (0 : Int) ≤ (z : Int); omega) (by show (z : Int) < 64; omega)]
  dsimp only
  by_cases h : l = y ∧ s = x
  · obtain ⟨rfl, rfl⟩ := h
    rw [if_pos ⟨rfl, rfl⟩, if_pos ⟨rfl, rfl⟩, Int.toNat_natCast]
  · rw [if_neg h, if_neg (fun h2 => h ⟨by omega, by omega⟩)]
set_option maxRecDepth 100000 in
set_option maxHeartbeats 6400000 in
theorem moves_any (L n : Nat) (es : List E3) (v : Value) (w : World) (hrd : EdgesRd w v es) (hL : L ≤ 256) (hn : n ≤ 64) (hok : ∀ e ∈ es, okE (L : Int) (n : Int) e = true) (hlen : es.length ≤ 1024) :
    Calls Tryd.prog 78 #[grV (L : Int) (n : Int) v] w fun e w' => ∃ u, e = .returned u ∧ MvRd w' u es L n ∧ Below w.heap.size w w' := by
  have hmx : Tryd.prog.follows .mixedOrders = true := by kernel_rfl
  have HMM := make_moves L (by omega)
  have HMS := make_sets n (by omega)
  have HRD := Lib.hid hrd
  have HOK := Lib.hid hok
  obtain ⟨a, c, rfl⟩ := hrd.form
  have z0 := World.size_alloc w (.cells #[.int .i64 (L : Int), .int .i64 (n : Int), .slice a es.length c] 24)
  have b0 := below1 w (.cells #[.int .i64 (L : Int), .int .i64 (n : Int), .slice a es.length c] 24)
  have g0 := BoxG.new w (L : Int) (n : Int) (.slice a es.length c) 24
  obtain ⟨x1, x2, x3⟩ := id g0
  clear hrd hok
  go_enter Tryd.func78, Tryd.ntmps78
  go_wp2_with fail
  generalize (w.alloc (.cells #[.int .i64 (L : Int), .int .i64 (n : Int), .slice a es.length c] 24)) = W0 at *
  have T0 := Lib.hid (MvW.made W0 L n (fun _ _ => 0))
  have G0 := Lib.hid (g0.keep (below1 W0 (.cells (madeCells #[.slice none 0 0] L) 117)))
  have B0 := Lib.hid (below_more b0 (Nat.le_refl _) (below1 W0 (.cells (madeCells #[.slice none 0 0] L) 117)))
  have Z0 := Lib.hid (World.size_alloc W0 (.cells (madeCells #[.slice none 0 0] L) 117))
  rw [z0] at T0 Z0
  obtain ⟨p, hp⟩ : ∃ p, w.heap.size = p := ⟨_, rfl⟩
  rw [hp] at T0 Z0 G0 ⊢
  clear x1 x2 x3 g0 b0 z0
  generalize (W0.alloc (.cells (madeCells #[.slice none 0 0] L) 117)) = W1 at *
  go_loopg [12] L (fun q s12 wx => ∃ i : Nat, i + q = L ∧ s12 = .int .i64 (i : Int) ∧ Hid (MvW (p + 1) L n i (fun _ _ => 0) wx) ∧ wx.heap.size = p + 1 + 1 + i ∧ Hid (BoxG wx p (L : Int) (n : Int) (.slice a es.length c)) ∧ Hid (Below p w wx))
  case atStart => exact ⟨0, by omega, rfl, T0, Z0.out, G0, by rw [← hp]; exact B0⟩
  case round =>
    clear T0 Z0 G0 B0
    obtain ⟨i, hin, rfl, T, hsz, G, HB⟩ := hrel
    obtain ⟨x1, x2, x3⟩ := id G.out
    rcases gk with _ | q
    · obtain rfl : i = L := by omega
      clear hsz
      go_upto_region 8 with fail
      clear x1 x2 x3
      obtain ⟨Wo, hWo⟩ : ∃ Wo, Wo = wr := ⟨_, rfl⟩
      have T2 := Lib.hid (T.out.congr (F' := mvN (es.take 0)) (fun l s _ _ => (mvN_nil l s).symm))
      clear T hWo
      go_loopg [25] es.length (fun q s25 wx => ∃ k : Nat, k + q = es.length ∧ s25 = .int .i64 (k : Int) ∧ Hid (MvW (p + 1) i n i (mvN (es.take k)) wx) ∧ Hid (BoxG wx p (i : Int) (n : Int) (.slice a es.length c)) ∧ Hid (Below p w wx))
      case atStart => exact ⟨0, by omega, rfl, T2, G, HB⟩
      case round =>
        clear T2 G HB
        obtain ⟨k, hkn, rfl, T, G, HB⟩ := hrel
        rcases gk with _ | q
        · obtain rfl : k = es.length := by omega
          have HE := Lib.hid (List.take_length (l := es))
          go_wp2_with fail
          go_ret
          exact ⟨_, rfl, ⟨_, rfl, by rw [HE.out] at T; exact T.out⟩, by rw [hp]; exact HB.out⟩
        · obtain ⟨e, he⟩ : ∃ e, es[k]? = some e := ⟨_, List.getElem?_eq_getElem (by omega)⟩
          have hek := HOK.out e (List.mem_of_getElem? he)
          obtain ⟨bb, off, c', hv, k1, k2, k3⟩ := (HRD.out.keep (by rw [hp]; exact HB.out)).at he
          injection hv with e1 e2 e3
          subst e1
          subst e3
          have HT := Lib.hid (take_snoc he)
          obtain ⟨x, y, z⟩ := e
          rw [okE_iff] at hek
          dsimp only at hek k1 k2 k3
          obtain ⟨hx0, hx1, hy0, hy1, hz0, hz1⟩ := hek
          obtain ⟨x, rfl⟩ : ∃ m : Nat, x = (m : Int) := ⟨x.toNat, by omega⟩
          obtain ⟨y, rfl⟩ : ∃ m : Nat, y = (m : Int) := ⟨y.toNat, by omega⟩
          obtain ⟨z, rfl⟩ : ∃ m : Nat, z = (m : Int) := ⟨z.toNat, by omega⟩
          have hxn : x < n := by omega
          have hyn : y < i := by omega
          have hzn : z < 64 := by omega
          have o1 := below1 wr (.cells #[.int .i64 (x : Int), .int .i64 (y : Int), .int .i64 (z : Int)] 63)
          have T1 := Lib.hid (T.out.keep o1)
          have G1 := Lib.hid (G.out.keep o1)
          have B1 := Lib.hid (below_more HB.out (by have := HB.out.size; omega) o1)
          have X1 := Box3.new wr (x : Int) (y : Int) (z : Int) 63
          have j1 : (k : Int) < (es.length : Int) := by omega
          have j2 : (x : Int) < (n : Int) := by omega
          have j3 : (y : Int) < (i : Int) := by omega
          go_upto_region 10 with fail
          obtain ⟨W1, hW1⟩ : ∃ W1, wr.alloc (.cells #[.int .i64 (x : Int), .int .i64 (y : Int), .int .i64 (z : Int)] 63) = W1 := ⟨_, rfl⟩
          obtain ⟨P0, hP0⟩ : ∃ P0, wr.heap.size = P0 := ⟨_, rfl⟩
          rw [hP0] at X1
          rw [hW1] at T1 X1 B1 G1 ⊢
          rw [hP0]
          obtain ⟨x1, x2, x3, -, -, -⟩ := id X1
          obtain ⟨S, hS⟩ : ∃ S, mvN (es.take k) y x = S := ⟨_, rfl⟩
          have hS64 : S < 18446744073709551616 := by rw [← hS]; exact mvN_lt _ _ _
          have hSM : SM P0 (p + 1) n x y z S W1 := ⟨x1, x2, x3, T1.out.cell hyn (Nat.le_refl _), by rw [← hS]; exact T1.out.at hyn hxn⟩
          obtain ⟨Z, hZ⟩ : ∃ Z, 2 ^ z = Z := ⟨_, rfl⟩
          have HOR := Lib.hid (bits_or_u64_nat S Z hS64 (by rw [← hZ]; exact pow_lt64 hzn))
          have HOF := Lib.hid (show ofN [(z : Int)] = Z by rw [← hZ]; unfold ofN; simp)
          have HZ := Lib.hid hZ
          have HS := Lib.hid hS
          have HWB := Lib.hid (B1.out.size)
          clear hW1 hP0 k1 k2 k3 X1 T G HB e2 he o1 hS hZ
          have hR0 : SM P0 (p + 1) n x y z S W1.drew := hSM
          have hRA : ∀ o, SM P0 (p + 1) n x y z S (W1.alloc o).drew := fun o => hSM.keep (below1 W1 o).drew
          have HCO := Lib.hid (setOf_any [(z : Int)] _ (W1.alloc (.cells #[.int .i64 (z : Int)] 3)).drew ((ints_lit1 W1 (z : Int) 3).keep (Below.refl _ _).drew) (fun s hs => by simp at hs; subst hs; omega) (by simp))
          rw [HOF.out] at HCO
          -- region 10
          refine regionT (T := T2 15 15 (SM P0 (p + 1) n x y z S) (SM P0 (p + 1) n x y z S)) hmx ?_
          have hR := hR0
          refine take1 (i := 0) (v := ?_) rfl (by kernel_rfl) (by kernel_rfl) (by kernel_rfl) (by kernel_rfl) (by kernel_rfl) (by decide) (by decide) (fun _ _ _ h => h) (Or.inl ⟨by rfl, ?_⟩) hR hR ?_
          rotate_left
          · intro w hSw
            (try unfold SM at hSw)
            go_simp
            all_goals with_reducible rfl
          (try simp only [Act.put, List.setIfInBounds_toArray, List.set_cons_zero, List.set_cons_succ])
          refine take1 (i := 1) (v := ?_) rfl (by kernel_rfl) (by kernel_rfl) (by kernel_rfl) (by kernel_rfl) (by kernel_rfl) (by decide) (by decide) (fun _ _ _ h => h) (Or.inl ⟨by rfl, ?_⟩) hR hR ?_
          rotate_left
          · intro w hSw
            (try unfold SM at hSw)
            go_simp
            all_goals with_reducible rfl
          (try simp only [Act.put, List.setIfInBounds_toArray, List.set_cons_zero, List.set_cons_succ])
          refine take1 (i := 2) (v := ?_) rfl (by kernel_rfl) (by kernel_rfl) (by kernel_rfl) (by kernel_rfl) (by kernel_rfl) (by decide) (by decide) (fun _ _ _ h => h) (Or.inl ⟨by rfl, ?_⟩) hR hR ?_
          rotate_left
          · intro w hSw
            (try unfold SM at hSw)
            go_simp
            all_goals with_reducible rfl
          (try simp only [Act.put, List.setIfInBounds_toArray, List.set_cons_zero, List.set_cons_succ])
          refine take1 (i := 3) (v := ?_) rfl (by kernel_rfl) (by kernel_rfl) (by kernel_rfl) (by kernel_rfl) (by kernel_rfl) (by decide) (by decide) (fun _ _ _ h => h) (Or.inl ⟨by rfl, ?_⟩) hR hR ?_
          rotate_left
          · intro w hSw
            (try unfold SM at hSw)
            go_simp
            all_goals with_reducible rfl
          (try simp only [Act.put, List.setIfInBounds_toArray, List.set_cons_zero, List.set_cons_succ])
          refine take1 (i := 4) (v := ?_) rfl (by kernel_rfl) (by kernel_rfl) (by kernel_rfl) (by kernel_rfl) (by kernel_rfl) (by decide) (by decide) (fun _ _ _ h => h) (Or.inl ⟨by rfl, ?_⟩) hR hR ?_
          rotate_left
          · intro w hSw
            (try unfold SM at hSw)
            go_simp
            all_goals with_reducible rfl
          (try simp only [Act.put, List.setIfInBounds_toArray, List.set_cons_zero, List.set_cons_succ])
          refine take1 (i := 5) (v := ?_) rfl (by kernel_rfl) (by kernel_rfl) (by kernel_rfl) (by kernel_rfl) (by kernel_rfl) (by decide) (by decide) (fun _ _ _ h => h) (Or.inl ⟨by rfl, ?_⟩) hR hR ?_
          rotate_left
          · intro w hSw
            (try unfold SM at hSw)
            go_simp
            all_goals with_reducible rfl
          (try simp only [Act.put, List.setIfInBounds_toArray, List.set_cons_zero, List.set_cons_succ])
          refine take1 (i := 6) (v := ?_) rfl (by kernel_rfl) (by kernel_rfl) (by kernel_rfl) (by kernel_rfl) (by kernel_rfl) (by decide) (by decide) (fun _ _ _ h => h) (Or.inl ⟨by rfl, ?_⟩) hR hR ?_
          rotate_left
          · intro w hSw
            (try unfold SM at hSw)
            go_simp
            all_goals with_reducible rfl
          (try simp only [Act.put, List.setIfInBounds_toArray, List.set_cons_zero, List.set_cons_succ])
          refine take1 (i := 7) (v := ?_) rfl (by kernel_rfl) (by kernel_rfl) (by kernel_rfl) (by kernel_rfl) (by kernel_rfl) (by decide) (by decide) (fun _ _ _ h => h) (Or.inl ⟨by rfl, ?_⟩) hR hR ?_
          rotate_left
          · intro w hSw
            (try unfold SM at hSw)
            go_simp
            all_goals with_reducible rfl
          (try simp only [Act.put, List.setIfInBounds_toArray, List.set_cons_zero, List.set_cons_succ])
          refine take1 (i := 8) (v := ?_) rfl (by kernel_rfl) (by kernel_rfl) (by kernel_rfl) (by kernel_rfl) (by kernel_rfl) (by decide) (by decide) (fun _ _ _ h => h) (Or.inl ⟨by rfl, ?_⟩) hR hR ?_
          rotate_left
          · intro w hSw
            (try unfold SM at hSw)
            go_simp
            all_goals with_reducible rfl
          (try simp only [Act.put, List.setIfInBounds_toArray, List.set_cons_zero, List.set_cons_succ])
          refine take1 (i := 9) (v := ?_) rfl (by kernel_rfl) (by kernel_rfl) (by kernel_rfl) (by kernel_rfl) (by kernel_rfl) (by decide) (by decide) (fun _ _ _ h => h) (Or.inl ⟨by rfl, ?_⟩) hR hR ?_
          rotate_left
          · intro w hSw
            (try unfold SM at hSw)
            go_simp
            all_goals with_reducible rfl
          (try simp only [Act.put, List.setIfInBounds_toArray, List.set_cons_zero, List.set_cons_succ])
          refine take1 (i := 10) (v := ?_) rfl (by kernel_rfl) (by kernel_rfl) (by kernel_rfl) (by kernel_rfl) (by kernel_rfl) (by decide) (by decide) (fun _ _ _ h => h) (Or.inl ⟨by rfl, ?_⟩) hR hR ?_
          rotate_left
          · intro w hSw
            (try unfold SM at hSw)
            go_simp
            all_goals with_reducible rfl
          (try simp only [Act.put, List.setIfInBounds_toArray, List.set_cons_zero, List.set_cons_succ])
          refine stepT (i := 11) (by kernel_rfl) rfl (fun K hK => ?_)
          go_simp
          refine hK.out _ _ ⟨fun _ => (hRA (.cells #[.int .i64 (z : Int)] 3)), fun _ => (hRA (.cells #[.int .i64 (z : Int)] 3))⟩ ?_
          clear hK K hR
          have hR := (hRA (.cells #[.int .i64 (z : Int)] 3))
          (try simp only [Act.put, List.setIfInBounds_toArray, List.set_cons_zero, List.set_cons_succ])
          refine stepT (i := 12) (by kernel_rfl) rfl (fun K hK => ?_)
          go_simp
          go_at_call 52
          (with_reducible refine HCO.out.mono ?_)
          rintro e0 W4 ⟨rfl, b4⟩
          have HK4 := Lib.hid (below_more (below1 W1 (.cells #[.int .i64 (z : Int)] 3)).drew (Nat.le_refl _) b4)
          have hR4 : SM P0 (p + 1) n x y z S W4 := hSM.keep HK4.out
          have f4 : W4.frozen? ⟨p + 1 + 1 + y, x, none⟩ = false := World.rowIs.frozen ((T1.out.keep HK4.out).rows y hyn) x
          have c4 := hR4.2.2.2.2
          go_wp2_with fail
          refine hK.out _ _ ⟨fun _ => hR4, fun _ => hR4⟩ ?_
          clear hK K hR
          have hR := hR4
          (try simp only [Act.put, List.setIfInBounds_toArray, List.set_cons_zero, List.set_cons_succ])
          refine take1 (i := 13) (v := ?_) rfl (by kernel_rfl) (by kernel_rfl) (by kernel_rfl) (by kernel_rfl) (by kernel_rfl) (by decide) (by decide) (fun _ _ _ h => h) (Or.inl ⟨by rfl, ?_⟩) hR hR ?_
          rotate_left
          · intro w hSw
            (try unfold SM at hSw)
            go_simp
            all_goals with_reducible rfl
          (try simp only [Act.put, List.setIfInBounds_toArray, List.set_cons_zero, List.set_cons_succ])
          refine take1 (i := 14) (v := ?_) rfl (by kernel_rfl) (by kernel_rfl) (by kernel_rfl) (by kernel_rfl) (by kernel_rfl) (by decide) (by decide) (fun _ _ _ h => h) (Or.inl ⟨by rfl, ?_⟩) hR hR ?_
          rotate_left
          · intro w hSw
            (try unfold SM at hSw)
            go_simp
            all_goals with_reducible rfl
          (try simp only [Act.put, List.setIfInBounds_toArray, List.set_cons_zero, List.set_cons_succ])
          refine stepT (i := 15) (by kernel_rfl) rfl (fun K hK => ?_)
          go_simp
          refine hK.out _ _ ⟨fun h => absurd h (by decide), fun h => absurd h (by decide)⟩ ?_
          clear hK K
          (try simp only [Act.put, List.setIfInBounds_toArray, List.set_cons_zero, List.set_cons_succ])
          refine doneT (by kernel_rfl) ?_ _
          -- behind region 10
          go_wp2_with fail
          go_roundg q
          case measure => omega
          case rel =>
            refine ⟨k + 1, by omega, by go_num, Lib.hid ?_, Lib.hid ?_, Lib.hid ?_⟩
            · rw [HOR.out]
              refine ((T1.out.keep (HK4.out)).set x y (S ||| Z)).congr (fun l s _ _ => ?_)
              rw [HT.out, mvN_upd hzn, HS.out, HZ.out]
            · have h4 := G1.out.keep HK4.out
              exact ⟨by rw [World.cell?_setCell_far _ _ _ _ (by show p + 1 + 1 + y ≠ p; omega)]; exact h4.1, by rw [World.cell?_setCell_far _ _ _ _ (by show p + 1 + 1 + y ≠ p; omega)]; exact h4.2.1, by rw [World.cell?_setCell_far _ _ _ _ (by show p + 1 + 1 + y ≠ p; omega)]; exact h4.2.2⟩
            · exact (below_more B1.out (by omega) HK4.out).setCell (by show p ≤ p + 1 + 1 + y; omega) _
    · have j1 : (i : Int) < (L : Int) := by omega
      have hTM := Lib.hid (T.out.more (by omega))
      have f0 := World.rowIs.frozen (T.out.top) i
      have c0 := World.rowIs.cell T.out.top (show i < L by omega)
      rw [if_neg (Nat.lt_irrefl i)] at c0
      have hb1 := below1 wr (.cells (madeCells #[.int .u64 0] n) 75)
      have c1 := cell_keep c0 hb1
      have f1 := frozen_keep c0 f0 hb1
      have hz1 := World.size_alloc wr (.cells (madeCells #[.int .u64 0] n) 75)
      have G1 := Lib.hid (G.out.keep hb1)
      have B1 := Lib.hid (below_more HB.out (by omega) hb1)
      rw [hsz] at hz1
      have HSZ := Lib.hid hsz
      clear T G HB c0 f0 hb1
      go_wp2_with fail
      clear x1 x2 x3
      go_roundg q
      case measure => omega
      case rel =>
        refine ⟨i + 1, by omega, by go_num, ?_, ?_, Lib.hid ?_, Lib.hid ?_⟩
        · exact hTM
        · rw [World.size_setCell]; omega
        · have h4 := G1.out
          exact ⟨by rw [World.cell?_setCell_far _ _ _ _ (by show p + 1 ≠ p; omega)]; exact h4.1, by rw [World.cell?_setCell_far _ _ _ _ (by show p + 1 ≠ p; omega)]; exact h4.2.1, by rw [World.cell?_setCell_far _ _ _ _ (by show p + 1 ≠ p; omega)]; exact h4.2.2⟩
        · exact B1.out.setCell (by show p ≤ p + 1; omega) _
end Go.Proofs.YtblkijdodojaeaaDoor

namespace Go.Proofs.YtblkijdodojaeaaDoor
open Go.RowKit
set_option linter.unusedSimpArgs false
set_option linter.unusedVariables false

theorem beq0 (S : Nat) : ((S : Int) != 0) = decide (S ≠ 0) := by
  rw [Bool.eq_iff_iff, bne_iff_ne, decide_eq_true_iff]; omega
set_option maxRecDepth 100000 in
set_option maxHeartbeats 6400000 in
theorem mstep_any (es : List E3) (L n : Nat) (v : Value) (S l : Nat) (w : World) (hm : MvRd w v es L n) (hS : S < 18446744073709551616) (hbit : ∀ i, S.testBit i = true → i < n) (hn : n ≤ 64) (hl : l < L) (hT : TabD w) :
    Calls Tryd.prog 110 #[v, u64v S, .int .i64 (l : Int)] w fun e w' => e = .returned (u64v (stN es S l)) ∧ Below w.heap.size w w' := by
  have hmx : Tryd.prog.follows .mixedOrders = true := by kernel_rfl
  obtain ⟨b, rfl, hM⟩ := hm
  have HM := Lib.hid hM
  have HT := Lib.hid hT
  have HB := Lib.hid hbit
  have HF := Lib.hid (fromN_start hS)
  have HZ := Lib.hid (accN_zero es l S)
  clear hM hT hbit hS
  go_enter Tryd.func110, Tryd.ntmps110
  go_wp2_with fail
  go_loopg [1, 7] 64 (fun q s1 s7 wx => ∃ c cur : Nat, c + q = 64 ∧ s1 = .int .u64 (cur : Int) ∧ Hid (fromN S c cur) ∧ s7 = .int .u64 ((accN es l S c : Nat) : Int) ∧ Hid (Below w.heap.size w wx))
  case atStart => exact ⟨0, S, by omega, rfl, HF, by rw [HZ.out]; rfl, Lib.hid (Below.refl _ _)⟩
  case round =>
    clear HF HZ
    obtain ⟨c, cur, hcq, rfl, HF, rfl, hb⟩ := hrel
    by_cases h0 : cur = 0
    · subst h0
      have HE := Lib.hid (fromN_accEnd (es := es) (l := l) HF.out (by omega))
      clear HF
      go_wp2_with fail
      go_ret
      exact ⟨by rw [HE.out]; rfl, hb.out⟩
    · have j0 : ((cur : Int) != 0) = true := by rw [bne_iff_ne]; omega
      obtain ⟨f1, f2, f3, f4⟩ := fromN_ctz HF.out h0
      have HTZ := Lib.hid (tz_any cur h0 HF.out.1)
      have HS := Lib.hid (fromN_acc (es := es) (l := l) HF.out h0)
      have HC := Lib.hid (clr_op h0 HF.out.1)
      have HF2 := Lib.hid (fromN_step HF.out h0)
      have hA := accN_lt es l S c
      generalize Lib.ctz 64 cur = k at *
      have hkn := HB.out k f3
      have HO := Lib.hid (bits_or_u64_nat (accN es l S c) (mvN es l k) hA (mvN_lt es l k))
      have j1 : (l : Int) < (L : Int) := by omega
      have j2 : (k : Int) < (n : Int) := by omega
      have hM2 := HM.out.keep hb.out
      have KX := Lib.hid (fun W (bb : Below wr.heap.size wr W) => show W.cell? ⟨b, l, none⟩ = some (rowV b n l) ∧ W.cell? ⟨b + 1 + l, k, none⟩ = some (u64v (mvN es l k)) from ⟨cell_keep (hM2.cell hl (Nat.le_refl _)) bb, cell_keep (hM2.at hl hkn) bb⟩)
      have KT := Lib.hid (fun W (bb : Below wr.heap.size wr W) => HTZ.out W ((HT.out.keep hb.out).keep bb))
      clear HF f4 hM2
      generalize accN es l S c = A at *
      generalize mvN es l k = M at *
      go_upto_region 4 with fail
      obtain ⟨Wo, hWo⟩ : ∃ Wo, Wo = wr := ⟨_, rfl⟩
      rw [← hWo] at KX KT hb ⊢
      clear hWo
      have BB := (Below.refl Wo.heap.size Wo).drew
      go_region_held3 (fun W => W.cell? ⟨b, l, none⟩ = some (rowV b n l) ∧ W.cell? ⟨b + 1 + l, k, none⟩ = some (u64v M)) (first | exact KX.out _ BB | exact KX.out _ (by assumption) | go_keep)
        (first
          | (go_at_call 128; (with_reducible refine (KT.out _ BB).mono ?_); rintro e0 W5 ⟨rfl, rfl⟩))
      all_goals
        go_wp2_with fail
        go_roundg (64 - (k + 1))
        case measure => omega
        case rel => exact ⟨k + 1, clr cur, by omega, by rw [HC.out], HF2, by rw [HO.out, HS.out], Lib.hid hb.out.drew⟩
end Go.Proofs.YtblkijdodojaeaaDoor

namespace Go.Proofs.YtblkijdodojaeaaDoor
open Go.RowKit
set_option linter.unusedSimpArgs false
set_option linter.unusedVariables false

/-- A graph's variable, whole. -/
def GBox (W : World) (p : Nat) (x y z : Value) : Prop := W.heap[p]? = some (.cells #[x, y, z] 24 (0, 0))
theorem GBox.new (W : World) (x y z : Value) : GBox (W.alloc (.cells #[x, y, z] 24)) W.heap.size x y z := heap_alloc_new W _
theorem GBox.keep {W W' : World} {p : Nat} {x y z : Value} (h : GBox W p x y z) (hb : Below W.heap.size W W') : GBox W' p x y z := (hb.block p (Array.getElem?_eq_some_iff.1 h).1).trans h
theorem GBox.lt {W : World} {p : Nat} {x y z : Value} (h : GBox W p x y z) : p < W.heap.size := (Array.getElem?_eq_some_iff.1 h).1
theorem GBox.cells {W : World} {p : Nat} {x y z : Value} (h : GBox W p x y z) : W.cell? ⟨p, 0, none⟩ = some x ∧ W.cell? ⟨p, 1, none⟩ = some y ∧ W.cell? ⟨p, 2, none⟩ = some z ∧ W.frozen? ⟨p, 0, none⟩ = false ∧ W.frozen? ⟨p, 1, none⟩ = false ∧ W.frozen? ⟨p, 2, none⟩ = false := by
  refine ⟨?_, ?_, ?_, ?_, ?_, ?_⟩ <;> simp [World.cell?, World.frozen?, show W.heap[p]? = _ from h]
theorem GBox.g {W : World} {p : Nat} {L S : Int} {v : Value} (h : GBox W p (.int .i64 L) (.int .i64 S) v) : BoxG W p L S v := ⟨h.cells.1, h.cells.2.1, h.cells.2.2.1⟩
theorem grownBy_setCellJ (W : World) (b j : Nat) (v : Value) : W.grownBy (W.setCell ⟨b, j, none⟩ v) (some b) :=
  ⟨rfl, rfl, rfl, (KeepsWalks.setCell W _ v).size, fun k _ hk => Below.heap_setCell _ _ _ k (fun e => hk (by rw [e]))⟩
theorem GBox.not_row {W : World} {p : Nat} {x y z : Value} (h : GBox W p x y z) {t : TypeId} (ht : t ≠ 24) {base size k : Nat} {v : Value} {xs : List Value} (hr : W.ownsRow base t size v k xs) : v.ownBlock ≠ some p := by
  rcases hr.2 with ⟨rfl, _⟩ | ⟨g, cap, cur, rfl, _, hgb, _⟩
  · simp [Value.ownBlock]
  · intro e
    obtain rfl : g = p := by simpa [Value.ownBlock] using e
    have := (show W.heap[g]? = _ from h).symm.trans hgb
    simp at this
    exact ht this.2.symm
theorem GBox.set {W : World} {p : Nat} {x y z : Value} (h : GBox W p x y z) (x' y' z' : Value) : GBox (((W.setCell ⟨p, 0, none⟩ x').setCell ⟨p, 1, none⟩ y').setCell ⟨p, 2, none⟩ z') p x' y' z' := by
  obtain ⟨hlt, hk⟩ := Array.getElem?_eq_some_iff.1 h
  unfold GBox World.setCell
  simp [Array.getElem?_modify, Array.getElem?_eq_getElem hlt, hk]
theorem GBox.row {W : World} {p : Nat} {x y z : Value} (h : GBox W p x y z) {t : TypeId} (ht : t ≠ 24) {base size k : Nat} {v : Value} {xs : List Value} (hr : W.ownsRow base t size v k xs) (x' y' z' : Value) :
    (((W.setCell ⟨p, 0, none⟩ x').setCell ⟨p, 1, none⟩ y').setCell ⟨p, 2, none⟩ z').ownsRow base t size v k xs :=
  ((hr.kept (grownBy_setCellJ W p 0 x') (.inr (h.not_row ht hr))).kept (grownBy_setCellJ _ p 1 y') (.inr (h.not_row ht hr))).kept (grownBy_setCellJ _ p 2 z') (.inr (h.not_row ht hr))
theorem set3_below {w W : World} {B p : Nat} (h : Below B w W) (hp : B ≤ p) (x y z : Value) : Below B w (((W.setCell ⟨p, 0, none⟩ x).setCell ⟨p, 1, none⟩ y).setCell ⟨p, 2, none⟩ z) :=
  ((h.setCell (p := ⟨p, 0, none⟩) hp _).setCell (p := ⟨p, 1, none⟩) hp _).setCell (p := ⟨p, 2, none⟩) hp _
end Go.Proofs.YtblkijdodojaeaaDoor
