/- What minimal.machineOf returns: the machine of a deterministic graph. Conditions: the edges can be read, lead from states with labels to states; at most 64 states and 256 labels. Plain facts on a search breadth first over pairs of states of two machines. No condition. What minimal.split returns: classes that a label divides. Conditions: the machine and the classes can be read; at most 64 states and 256 labels. -/
import Derived.Test.YtblkijdodojaeaaDoorQ27
import Derived.Test.YtblkijdodojaeaaDoorQ12
import Derived.BigRegion
import Derived.Test.YtblkijdodojaeaaDoorQ01
import Derived.Maps.OwnSet
import Derived.Maps.OwnOps
import Derived.WideKeyPair

namespace Go.Proofs.YtblkijdodojaeaaDoor
open Go.RowKit
set_option linter.unusedSimpArgs false
set_option linter.unusedVariables false

/-- Where a label leads, n for nowhere. -/
def mT (n : Nat) (es : List E3) (j l : Nat) : Nat := es.foldl (fun x e => if e.1 = (j : Int) ∧ e.2.1 = (l : Int) then e.2.2.toNat else x) n
theorem mT_snoc (n : Nat) (es : List E3) (e : E3) (j l : Nat) : mT n (es ++ [e]) j l = if e.1 = (j : Int) ∧ e.2.1 = (l : Int) then e.2.2.toNat else mT n es j l := by
  unfold mT; rw [List.foldl_append]; rfl
theorem mT_ind {P : Nat → Prop} {n j l : Nat} (h0 : P n) : ∀ {es : List E3}, (∀ e ∈ es, e.1 = (j : Int) → e.2.1 = (l : Int) → P e.2.2.toNat) → P (mT n es j l) := fun {es} h => by
  have h2 : ∀ k, P (mT n (es.take k) j l) := fun k => by
    induction k with
    | zero => exact h0
    | succ k ih =>
      by_cases hk : k < es.length
      · have hx := List.getElem?_eq_getElem hk
        rw [take_snoc hx, mT_snoc]
        split
        · rename_i hc
          exact h _ (List.getElem_mem hk) hc.1 hc.2
        · exact ih
      · rw [List.take_of_length_le (by omega)] at ih ⊢; exact ih
  have := h2 es.length
  rwa [List.take_length] at this
theorem mT_le {La : Int} {n : Nat} {es : List E3} (hok : ∀ e ∈ es, okE La (n : Int) e = true) (j l : Nat) : mT n es j l ≤ n :=
  mT_ind (P := fun x => x ≤ n) (Nat.le_refl n) (fun e he _ _ => by have := okE_iff.1 (hok e he); omega)
theorem mT_none {La : Int} {n : Nat} {es : List E3} (hok : ∀ e ∈ es, okE La (n : Int) e = true) (l : Nat) : mT n es n l = n :=
  mT_ind (P := fun x => x = n) rfl (fun e he h _ => by have := okE_iff.1 (hok e he); omega)
def mRow (m : Nat → Nat → Nat) (La j : Nat) : List Int := (List.range La).map fun l => ((m j l : Nat) : Int)
def mRows (m : Nat → Nat → Nat) (n La : Nat) : List (List Int) := (List.range (n + 1)).map (mRow m La)
theorem mRow_len (m : Nat → Nat → Nat) (La j : Nat) : (mRow m La j).length = La := by unfold mRow; rw [List.length_map, List.length_range]
theorem mRow_at {m : Nat → Nat → Nat} {La j l : Nat} (h : l < La) : (mRow m La j)[l]? = some ((m j l : Nat) : Int) := by unfold mRow; rw [List.getElem?_map, List.getElem?_range h]; rfl
theorem mRows_len (m : Nat → Nat → Nat) (n La : Nat) : (mRows m n La).length = n + 1 := by unfold mRows; rw [List.length_map, List.length_range]
theorem mRows_at {m : Nat → Nat → Nat} {n La j : Nat} (h : j < n + 1) : (mRows m n La)[j]? = some (mRow m La j) := by unfold mRows; rw [List.getElem?_map, List.getElem?_range h]; rfl
theorem Tryd.infoRowH : (Tryd.prog.info? 28).map (fun i => (i.zero, i.size, i.bytes)) = some (some (.slice none 0 0), 1, 24) := by kernel_rfl
theorem make_mach (n : Nat) (hn : n ≤ 100000) (W : World) : (Instr.makeSlice 106 (.int .i64 (n : Int)) (.int .i64 (n : Int))).run Tryd.prog W = .ok (.slice (some ⟨W.heap.size, 0, none⟩) n n) (W.alloc (.cells (madeCells #[(.slice none 0 0)] n) 28)) :=
  run_make_row' _ _ _ 24 Tryd.underlying106 Tryd.infoRowH rfl _ _ n (by omega) (by omega) W
theorem mnone_any (a : Option Addr) (k c : Nat) (w : World) (hk : k ≤ 100000) : Calls Tryd.prog 108 #[.slice a (k + 1) c] w fun e w' => e = .returned (.int .i64 (k : Int)) ∧ w' = w := by
  have hw : IntKind.i64.wrap (((k + 1 : Nat) : Int) - 1) = (k : Int) := by rw [IntWalk.i64_in _ (by omega)]; omega
  obtain ⟨m, hm⟩ : ∃ m, k + 1 = m := ⟨_, rfl⟩
  rw [hm] at hw ⊢
  clear hm
  go_enter Tryd.func108, Tryd.ntmps108
  go_wp2_with fail
  go_ret
  exact ⟨rfl, rfl⟩
abbrev rowH (La r : Nat) : Value := .slice (some ⟨r, 0, none⟩) La La
/-- A machine that is being filled: a row of rows, each in a block of its own. -/
structure MA (w : World) (M La N i : Nat) (rs : Nat → Nat) (f : Nat → Nat → Nat) (W : World) : Prop where
  hb : Below w.heap.size w W
  hM : w.heap.size ≤ M
  hl : W.rowIs M 28 N (fun j => if j < i then rowH La (rs j) else .slice none 0 0)
  hr : ∀ j, j < i → M < rs j ∧ IRow W (rs j) La (fun l => ((f j l : Nat) : Int))
  ha : ∀ j k, j < k → k < i → rs j ≠ rs k
section
variable {w W W' : World} {M La N i : Nat} {rs : Nat → Nat} {f : Nat → Nat → Nat}
theorem MA.lt (h : MA w M La N i rs f W) : M < W.heap.size := World.rowIs.lt h.hl
theorem MA.keep (h : MA w M La N i rs f W) (k : Below W.heap.size W W') : MA w M La N i rs f W' :=
  ⟨h.hb.trans (k.mono h.hb.size), h.hM, World.rowIs.of_block h.hl (k.block M h.lt), fun j hj => ⟨(h.hr j hj).1, (h.hr j hj).2.keep k⟩, h.ha⟩
theorem MA.start (w : World) (La N : Nat) : MA w w.heap.size La N 0 (fun _ => 0) (fun _ _ => 0) (w.alloc (.cells (madeCells #[(.slice none 0 0)] N) 28)) :=
  ⟨below1 w _, Nat.le_refl _, World.rowIs.congr (World.rowIs_made w _ N _) (fun j _ => by rw [if_neg (by omega)]), fun j hj => absurd hj (Nat.not_lt_zero _), fun j k _ hk => absurd hk (Nat.not_lt_zero _)⟩
theorem MA.put (h : MA w M La N i rs f W) {R z : Nat} (hR : W.heap.size ≤ R) (k : Below W.heap.size W W') (hrow : IRow W' R La (fun _ => (z : Int))) :
    MA w M La N (i + 1) (fun j => if j = i then R else rs j) (fun j l => if j = i then z else f j l) (W'.setCell ⟨M, i, none⟩ (rowH La R)) := by
  have hM := h.lt
  have h2 := h.keep k
  refine ⟨h2.hb.setCell h.hM _, h.hM, World.rowIs.congr (World.rowIs.set h2.hl i (rowH La R)) (fun j hj => ?_), fun j hj => ?_, fun j l hjl hl => ?_⟩
  · by_cases e : j = i
    · subst e; rw [if_pos rfl, if_pos (by omega), if_pos rfl]
    · rw [if_neg e]
      by_cases hj2 : j < i
      · rw [if_pos hj2, if_pos (by omega), if_neg e]
      · rw [if_neg hj2, if_neg (by omega)]
  · try dsimp only
    by_cases e : j = i
    · subst e
      rw [if_pos rfl]
      refine ⟨by omega, ?_⟩
      have h3 : IRow (W'.setCell ⟨M, j, none⟩ (rowH La R)) R La (fun _ => (z : Int)) := hrow.other (by show R ≠ M; omega) _
      exact h3.congr (fun l _ => by rw [if_pos rfl])
    · rw [if_neg e]
      have h3 := h2.hr j (by omega)
      refine ⟨h3.1, ?_⟩
      have h4 : IRow (W'.setCell ⟨M, i, none⟩ (rowH La R)) (rs j) La (fun l => ((f j l : Nat) : Int)) := h3.2.other (by show rs j ≠ M; have := h3.1; omega) _
      exact h4.congr (fun l _ => by rw [if_neg e])
  · try dsimp only
    rw [if_neg (show ¬ j = i by omega)]
    by_cases e : l = i
    · rw [if_pos e]
      have := (h.hr j (by omega)).2.lt
      omega
    · rw [if_neg e]; exact h.ha j l hjl (by omega)
theorem MA.set (h : MA w M La N i rs f W) {j : Nat} (hj : j < i) (l z : Nat) : MA w M La N i rs (fun j' l' => if j' = j ∧ l' = l then z else f j' l') (W.setCell ⟨rs j, l, none⟩ (.int .i64 (z : Int))) := by
  have h1 := h.hr j hj
  have hM := h.hM
  refine ⟨h.hb.setCell (by show w.heap.size ≤ rs j; omega) _, h.hM, World.rowIs.setOther h.hl (by show M ≠ rs j; omega) _, fun k hk => ?_, h.ha⟩
  have h2 := h.hr k hk
  refine ⟨h2.1, ?_⟩
  by_cases e : k = j
  · subst e
    have h3 := h2.2.set l (z : Int)
    refine h3.congr (fun l' _ => ?_)
    by_cases e2 : l' = l
    · rw [if_pos e2, if_pos ⟨rfl, e2⟩]
    · rw [if_neg e2, if_neg (fun e3 => e2 e3.2)]
  · have hne : rs k ≠ rs j := by
      rcases Nat.lt_or_gt_of_ne e with hlt | hgt
      · exact h.ha k j hlt hj
      · exact fun e2 => h.ha j k hgt hk e2.symm
    have h3 : IRow (W.setCell ⟨rs j, l, none⟩ (.int .i64 (z : Int))) (rs k) La (fun l => ((f k l : Nat) : Int)) := h2.2.other hne _
    exact h3.congr (fun l' _ => by rw [if_neg (fun e3 => e e3.1)])
theorem MA.recast (h : MA w M La N i rs f W) {g : Nat → Nat → Nat} (e : ∀ j l, j < i → l < La → f j l = g j l) : MA w M La N i rs g W :=
  ⟨h.hb, h.hM, h.hl, fun j hj => ⟨(h.hr j hj).1, (h.hr j hj).2.congr (fun l hl => by rw [e j l hj hl])⟩, h.ha⟩
theorem MA.rd {n : Nat} (h : MA w M La (n + 1) (n + 1) rs f W) (c : Nat) : RowsRd W (.slice (some ⟨M, 0, none⟩) (n + 1) c) (mRows f n La) := by
  refine ⟨_, c, by rw [mRows_len], fun j r hr => ?_⟩
  have hj : j < n + 1 := by
    have := (List.getElem?_eq_some_iff.1 hr).1
    rwa [mRows_len] at this
  rw [mRows_at hj] at hr
  injection hr with hr
  subst hr
  refine ⟨M, 0, rowH La (rs j), rfl, ?_, ?_⟩
  · rw [Nat.zero_add, World.rowIs.cell h.hl hj, if_pos hj]
  · refine ⟨some ⟨rs j, 0, none⟩, La, by rw [mRow_len], fun l x hx => ?_⟩
    have hl : l < La := by
      have := (List.getElem?_eq_some_iff.1 hx).1
      rwa [mRow_len] at this
    rw [mRow_at hl] at hx
    injection hx with hx
    exact ⟨rs j, 0, rfl, by rw [Nat.zero_add, (h.hr j hj).2.cell hl, hx]⟩
end
set_option maxRecDepth 100000 in
set_option maxHeartbeats 6400000 in
theorem machineOf_any (L : Int) (La n : Nat) (es : List E3) (v : Value) (w : World) (hrd : EdgesRd w v es) (hok : ∀ e ∈ es, okE (La : Int) (n : Int) e = true) (hn : n ≤ 64) (hL : La ≤ 256) (hl : es.length ≤ 100000) :
    Calls Tryd.prog 75 #[grV L (n : Int) v, .int .i64 (La : Int)] w fun e w' => ∃ M, e = .returned (.slice (some ⟨M, 0, none⟩) (n + 1) (n + 1)) ∧ RowsRd w' (.slice (some ⟨M, 0, none⟩) (n + 1) (n + 1)) (mRows (mT n es) n La) ∧ Below w.heap.size w w' := by
  have hmx : Tryd.prog.follows .mixedOrders = true := by kernel_rfl
  have hmk := make_mach (n + 1) (by omega)
  have hw1 : IntKind.i64.wrap ((n : Int) + 1) = ((n + 1 : Nat) : Int) := by rw [IntWalk.i64_in _ (by omega)]; omega
  have HOK := Lib.hid hok
  have HRD := Lib.hid hrd
  have HNO := Lib.hid (fun a c W => mnone_any a n c W (by omega))
  obtain ⟨a, c, hv⟩ := hrd.form
  subst hv
  have B0 := Lib.hid (below1 w (.cells #[.int .i64 L, .int .i64 (n : Int), .slice a es.length c] 24))
  have G0 := Lib.hid (BoxG.new w L (n : Int) (.slice a es.length c) 24)
  obtain ⟨x1, x2, x3⟩ := id G0.out
  obtain ⟨N, hN⟩ : ∃ N, n + 1 = N := ⟨_, rfl⟩
  have HN := Lib.hid hN
  rw [hN] at hmk hw1 HNO ⊢
  have hN1 : n < N := by omega
  have hN2 : N ≤ 65 := by omega
  clear hrd hok hN
  go_enter Tryd.func75, Tryd.ntmps75
  go_wp2_with fail
  obtain ⟨W1, hW1⟩ : ∃ W1, w.alloc (.cells #[.int .i64 L, .int .i64 (n : Int), .slice a es.length c] 24) = W1 := ⟨_, rfl⟩
  have z1 : W1.heap.size = w.heap.size + 1 := by rw [← hW1, World.size_alloc]
  rw [hW1] at B0 G0 ⊢
  have A0 := Lib.hid (MA.start W1 La N)
  obtain ⟨M, hM⟩ : ∃ M, w.heap.size + 1 = M := ⟨_, rfl⟩
  rw [← z1] at hM
  rw [hM] at A0
  rw [← z1, hM]
  have hMw : w.heap.size ≤ M := by omega
  have HM := Lib.hid hM
  clear hW1 x1 x2 x3 hM z1 hmk
  generalize (W1.alloc (.cells (madeCells #[(.slice none 0 0)] N) 28)) = X at *
  go_loopg [15] N (fun q s15 wx => ∃ (i : Nat) (rs : Nat → Nat) (f : Nat → Nat → Nat), i + q = N ∧ s15 = .int .i64 (i : Int) ∧ Hid (∀ j l, j < i → l < La → f j l = n) ∧ Hid (MA W1 M La N i rs f wx))
  case atStart => exact ⟨0, _, _, by omega, rfl, Lib.hid (fun j l hj => absurd hj (Nat.not_lt_zero _)), A0⟩
  case round =>
    clear A0
    obtain ⟨i, rs, f, hin, rfl, HF, HA⟩ := hrel
    rcases gk with _ | q
    · obtain rfl : i = N := by omega
      have j0 : ¬ ((i : Int) < (i : Int)) := by omega
      have A1 := Lib.hid (HA.out.recast (g := mT n (es.take 0)) (fun j l hj hl => HF.out j l hj hl))
      obtain ⟨x1, x2, x3⟩ := G0.out.keep HA.out.hb
      go_upto_region 8 with fail
      clear x1 x2 x3 HF HA
      go_loopg [30] es.length (fun q s30 wx => ∃ k : Nat, k + q = es.length ∧ s30 = .int .i64 (k : Int) ∧ Hid (MA W1 M La i i rs (mT n (es.take k)) wx))
      case atStart => exact ⟨0, by omega, rfl, A1⟩
      case round =>
        clear A1
        obtain ⟨k, hkn, rfl, HA⟩ := hrel
        rcases gk with _ | q2
        · obtain rfl : k = es.length := by omega
          have j5 : ¬ ((es.length : Int) < (es.length : Int)) := by omega
          have h9 := HA.out
          rw [List.take_length] at h9
          have HR := Lib.hid (show RowsRd wr (.slice (some ⟨M, 0, none⟩) i i) (mRows (mT n es) n La) by
            have e := HN.out
            subst e
            exact h9.rd (n + 1))
          have HB := Lib.hid (B0.out.trans (h9.hb.mono (by rw [HM.out]; exact hMw)))
          clear h9 HA
          go_wp2_with fail
          go_ret
          exact ⟨M, rfl, HR.out, HB.out⟩
        · obtain ⟨e, he⟩ : ∃ e, es[k]? = some e := ⟨_, List.getElem?_eq_getElem (by omega)⟩
          have hok := okE_iff.1 (HOK.out e (List.mem_of_getElem? he))
          have HT := Lib.hid (show mT n (es.take (k + 1)) = mT n (es.take k ++ [e]) by rw [take_snoc he])
          obtain ⟨b, off, c', hv, k1, k2, k3⟩ := (HRD.out.keep (B0.out.trans (HA.out.hb.mono (by rw [HM.out]; exact hMw)))).at he
          injection hv with e1 e2 e3
          subst e1
          obtain ⟨x, y, z⟩ := e
          dsimp only at k1 k2 k3 hok
          obtain ⟨x, rfl⟩ : ∃ m : Nat, x = (m : Int) := ⟨x.toNat, by omega⟩
          obtain ⟨y, rfl⟩ : ∃ m : Nat, y = (m : Int) := ⟨y.toNat, by omega⟩
          obtain ⟨z, rfl⟩ : ∃ m : Nat, z = (m : Int) := ⟨z.toNat, by omega⟩
          have hxn : x < i := by have := HN.out; omega
          have hyn : y < La := by omega
          have j1 : (k : Int) < (es.length : Int) := by omega
          clear he e2 e3 hok
          go_upto_region 10 with fail
          obtain ⟨P0, hP0⟩ : ∃ P0, wr.heap.size = P0 := ⟨_, rfl⟩
          have X1 := BoxG.new wr (x : Int) (y : Int) (.int .i64 (z : Int)) 63
          have A1 := Lib.hid (HA.out.keep (below1 wr (.cells #[.int .i64 (x : Int), .int .i64 (y : Int), .int .i64 (z : Int)] 63)))
          rw [hP0] at X1 ⊢
          clear HA k1 k2 k3 hP0
          generalize (wr.alloc (.cells #[.int .i64 (x : Int), .int .i64 (y : Int), .int .i64 (z : Int)] 63)) = V1 at *
          obtain ⟨z1, z2, z3⟩ := id X1
          have cx : V1.cell? ⟨M, x, none⟩ = some (rowH La (rs x)) := by
            have h := World.rowIs.cell A1.out.hl hxn
            rw [if_pos hxn] at h
            exact h
          have c4 := (A1.out.hr x hxn).2.cell hyn
          have f4 := (A1.out.hr x hxn).2.frozen y
          have HS := Lib.hid (A1.out.set hxn y z)
          have j3 : (x : Int) < (i : Int) := by omega
          have j4 : (y : Int) < (La : Int) := by omega
          clear X1
          go_region
          go_wp2_with fail
          go_roundg q2
          case measure => omega
          case rel => exact ⟨k + 1, by omega, by go_num, Lib.hid ((HS.out.recast (g := mT n (es.take (k + 1))) (fun j l hj hl => by
            rw [HT.out, mT_snoc]
            try dsimp only
            by_cases h : j = x ∧ l = y
            · rw [if_pos h, if_pos (by omega)]; rfl
            · rw [if_neg h, if_neg (by omega)])).keep (Below.refl _ _).drew)⟩
    · have j1 : (i : Int) < (N : Int) := by omega
      obtain ⟨R, hR⟩ : ∃ R, (wr.alloc (.cells #[.int .i64 (n : Int)] 3)).heap.size = R := ⟨_, rfl⟩
      have HRR := Lib.hid hR
      have HRP : Hid (Calls Tryd.prog 61 #[.slice (some ⟨wr.heap.size, 0, none⟩) 1 1, .int .i64 (La : Int)] (wr.alloc (.cells #[.int .i64 (n : Int)] 3)) fun e w' => e = .returned (rowH La R) ∧ IRow w' R La (fun _ => (n : Int)) ∧ Below (wr.alloc (.cells #[.int .i64 (n : Int)] 3)).heap.size (wr.alloc (.cells #[.int .i64 (n : Int)] 3)) w') := Lib.hid (by
        rw [← hR]
        exact repeatH_any La wr.heap.size 1 (n : Int) _ hL (by have h := heap_alloc_new wr (.cells #[.int .i64 (n : Int)] 3); unfold World.cell?; rw [h]; rfl))
      clear hR
      go_wp2_with (first
        | (go_at_call 108; (with_reducible refine (HNO.out _ _ _).mono ?_); rintro e W3 ⟨rfl, rfl⟩)
        | (go_at_call 61; (with_reducible refine HRP.out.mono ?_); rintro e W5 ⟨rfl, hrow, b5⟩; (have k5 := Lib.hid (below_more (below1 _ _) (Nat.le_refl _) b5)); (have h5 := HA.out.keep k5.out); (have c4 := World.rowIs.cell h5.hl (show i < N by omega)); (rw [if_neg (Nat.lt_irrefl i)] at c4); (have f4 := World.rowIs.frozen h5.hl i); (have HP := Lib.hid (HA.out.put (R := R) (by rw [← HRR.out, World.size_alloc]; omega) k5.out hrow)); clear b5 hrow h5))
      go_roundg q
      case measure => omega
      case rel => exact ⟨i + 1, _, _, by omega, by go_num, Lib.hid (fun j l hj hl => by
        try dsimp only
        by_cases e : j = i
        · rw [if_pos e]
        · rw [if_neg e]; exact HF.out j l (by omega) hl), HP⟩
end Go.Proofs.YtblkijdodojaeaaDoor

namespace Go.Proofs.YtblkijdodojaeaaDoor
set_option linter.unusedVariables false
set_option linter.unusedSectionVars false

/-- A pair of states to which a label leads, unless neither is one. -/
def pstep (a b : Nat → Nat → Nat) (na nb : Nat) (p : Nat × Nat) (l : Nat) : Option (Nat × Nat) := if a p.1 l = na ∧ b p.2 l = nb then none else some (a p.1 l, b p.2 l)
theorem mrun_none {a : Nat → Nat → Nat} {n : Nat} (h : ∀ l, a n l = n) : ∀ w, mrun a n w = n
  | [] => rfl
  | l :: w => by rw [mrun_cons, h l]; exact mrun_none h w
theorem runS_pair {a b : Nat → Nat → Nat} {na nb : Nat} (ha : ∀ l, a na l = na) (hb : ∀ l, b nb l = nb) : ∀ (w : List Nat) (s t : Nat), ¬ (mrun a s w = na ∧ mrun b t w = nb) → runS (pstep a b na nb) (s, t) w = some (mrun a s w, mrun b t w)
  | [], _, _, _ => rfl
  | l :: w, s, t, h => by
    rw [mrun_cons, mrun_cons] at h ⊢
    unfold runS
    have h1 : ¬ (a s l = na ∧ b t l = nb) := fun e => by
      rw [e.1, e.2, mrun_none ha, mrun_none hb] at h
      exact h ⟨rfl, rfl⟩
    unfold pstep
    rw [if_neg h1]
    exact runS_pair ha hb w _ _ h
/-- A pair, the number of the one behind which it was found, the label. -/
abbrev Rec := Nat × Nat × Nat × Nat
/-- The queue of a search, with the labels that lead to each pair. -/
structure RecQ (R : List Rec) (Q : List (List Int × (Nat × Nat))) : Prop where
  len : R.length = Q.length
  at_ : ∀ (k : Nat) (r : Rec) (q : List Int × (Nat × Nat)), R[k]? = some r → Q[k]? = some q → q.2 = (r.1, r.2.1)
  par : ∀ (k : Nat) (r : Rec) (q : List Int × (Nat × Nat)), 0 < k → R[k]? = some r → Q[k]? = some q → r.2.2.1 < k ∧ ∃ p, Q[r.2.2.1]? = some p ∧ q.1 = p.1 ++ [(r.2.2.2 : Int)]
  root : ∃ s t, Q[0]? = some ([], (s, t)) ∧ R[0]? = some (s, t, 0, 0)
  nd : (Q.map (·.2)).Nodup
theorem RecQ.start (s t : Nat) : RecQ [(s, t, 0, 0)] [([], (s, t))] := by
  refine ⟨rfl, fun k r q hr hq => ?_, fun k r q hk hr hq => ?_, ⟨s, t, rfl, rfl⟩, by simp⟩
  · rcases k with _ | k
    · injection hr with hr; injection hq with hq; subst hr; subst hq; rfl
    · simp at hr
  · rcases k with _ | k
    · omega
    · simp at hr
theorem RecQ.add {R : List Rec} {Q : List (List Int × (Nat × Nat))} (h : RecQ R Q) {i : Nat} {p : List Int × (Nat × Nat)} (hp : Q[i]? = some p) (x y l : Nat) (hn : ∀ q ∈ Q, q.2 ≠ (x, y)) :
    RecQ (R ++ [(x, y, i, l)]) (Q ++ [(p.1 ++ [(l : Int)], (x, y))]) := by
  have hi := (List.getElem?_eq_some_iff.1 hp).1
  have hl := h.len
  refine ⟨by simp [hl], fun k r q hr hq => ?_, fun k r q hk hr hq => ?_, ?_, ?_⟩
  · by_cases hk : k < Q.length
    · rw [List.getElem?_append_left (by omega)] at hr hq
      exact h.at_ k r q hr hq
    · rw [List.getElem?_append_right (by omega)] at hr hq
      rw [hl] at hr
      rcases hd : k - Q.length with _ | d
      · rw [hd] at hr hq
        injection hr with hr; injection hq with hq; subst hr; subst hq; rfl
      · rw [hd] at hr; simp at hr
  · by_cases hk2 : k < Q.length
    · rw [List.getElem?_append_left (by omega)] at hr hq
      obtain ⟨h1, p2, h2, h3⟩ := h.par k r q hk hr hq
      exact ⟨h1, p2, by rw [List.getElem?_append_left (by omega)]; exact h2, h3⟩
    · rw [List.getElem?_append_right (by omega)] at hr hq
      rw [hl] at hr
      rcases hd : k - Q.length with _ | d
      · rw [hd] at hr hq
        injection hr with hr; injection hq with hq; subst hr; subst hq
        exact ⟨by show i < k; omega, p, by show (Q ++ _)[i]? = _; rw [List.getElem?_append_left (by omega)]; exact hp, rfl⟩
      · rw [hd] at hr; simp at hr
  · obtain ⟨s, t, h1, h2⟩ := h.root
    exact ⟨s, t, by rw [List.getElem?_append_left (by omega)]; exact h1, by rw [List.getElem?_append_left (by omega)]; exact h2⟩
  · rw [List.map_append, List.nodup_append]
    refine ⟨h.nd, by simp, fun x2 hx y2 hy => ?_⟩
    rw [List.mem_map] at hx
    obtain ⟨q, hq, rfl⟩ := hx
    rw [List.map_singleton, List.mem_singleton] at hy
    subst hy
    exact hn q hq
/-- What a search knows: the labels below c of number i are done, and all of the numbers before, none of which is as wanted. -/
structure SQ (D : Bool → Bool → Bool) (a b : Nat → Nat → Nat) (na nb La s t i c : Nat) (R : List Rec) (Q : List (List Int × (Nat × Nat))) : Prop where
  rq : RecQ R Q
  bfs : Bfs (pstep a b na nb) La i c Q
  run : ∀ q ∈ Q, ∃ w : List Nat, q.1 = labsI w ∧ (∀ l ∈ w, l < La) ∧ q.2 = (mrun a s w, mrun b t w)
  box : ∀ q ∈ Q, q.2.1 ≤ na ∧ q.2.2 ≤ nb
  hd : Q[0]? = some ([], (s, t))
  no : ∀ (j : Nat) (q : List Int × (Nat × Nat)), j < i → Q[j]? = some q → D (decide (q.2.1 ≠ na)) (decide (q.2.2 ≠ nb)) = false
section
variable {D : Bool → Bool → Bool} {a b : Nat → Nat → Nat} {na nb La s t i c : Nat} {R : List Rec} {Q : List (List Int × (Nat × Nat))}
theorem SQ.start (D : Bool → Bool → Bool) (a b : Nat → Nat → Nat) (La : Nat) (hs : s ≤ na) (ht : t ≤ nb) : SQ D a b na nb La s t 0 0 [(s, t, 0, 0)] [([], (s, t))] := by
  refine ⟨RecQ.start s t, Bfs.start _ _ _, fun q hq => ?_, fun q hq => ?_, rfl, fun j q hj => by omega⟩
  · rw [List.mem_singleton] at hq; subst hq; exact ⟨[], rfl, (fun l hl => by cases hl), rfl⟩
  · rw [List.mem_singleton] at hq; subst hq; exact ⟨hs, ht⟩
theorem SQ.skip0 (h : SQ D a b na nb La s t i c R Q) {p : List Int × (Nat × Nat)} (hp : Q[i]? = some p) (h2 : a p.2.1 c = na ∧ b p.2.2 c = nb) : SQ D a b na nb La s t i (c + 1) R Q :=
  ⟨h.rq, h.bfs.skip hp (fun x hx => by unfold pstep at hx; rw [if_pos h2] at hx; cases hx), h.run, h.box, h.hd, h.no⟩
theorem SQ.skip1 (h : SQ D a b na nb La s t i c R Q) {p : List Int × (Nat × Nat)} (hp : Q[i]? = some p) (h2 : ∃ q ∈ Q, q.2 = (a p.2.1 c, b p.2.2 c)) : SQ D a b na nb La s t i (c + 1) R Q :=
  ⟨h.rq, h.bfs.skip hp (fun x hx => by
    unfold pstep at hx
    split at hx
    · cases hx
    · injection hx with hx; subst hx; exact h2), h.run, h.box, h.hd, h.no⟩
theorem SQ.add (h : SQ D a b na nb La s t i c R Q) (hc : c < La) (hA : ∀ x l, x ≤ na → a x l ≤ na) (hB : ∀ x l, x ≤ nb → b x l ≤ nb) {p : List Int × (Nat × Nat)} (hp : Q[i]? = some p) (h1 : ¬ (a p.2.1 c = na ∧ b p.2.2 c = nb)) (h2 : ∀ q ∈ Q, q.2 ≠ (a p.2.1 c, b p.2.2 c)) :
    SQ D a b na nb La s t i (c + 1) (R ++ [(a p.2.1 c, b p.2.2 c, i, c)]) (Q ++ [(p.1 ++ [(c : Int)], (a p.2.1 c, b p.2.2 c))]) := by
  have hi := (List.getElem?_eq_some_iff.1 hp).1
  refine ⟨h.rq.add hp _ _ _ h2, h.bfs.add hp (by unfold pstep; rw [if_neg h1]), fun q hq => ?_, fun q hq => ?_, ?_, fun j q hj hq => ?_⟩
  · rw [List.mem_append, List.mem_singleton] at hq
    rcases hq with hq | rfl
    · exact h.run q hq
    · obtain ⟨w, e1, e2, e3⟩ := h.run p (List.mem_of_getElem? hp)
      refine ⟨w ++ [c], ?_, fun l hl => ?_, ?_⟩
      · show p.1 ++ [(c : Int)] = _
        rw [e1]; unfold labsI; rw [List.map_append]; rfl
      · rw [List.mem_append, List.mem_singleton] at hl
        rcases hl with hl | rfl
        · exact e2 l hl
        · exact hc
      · rw [mrun_snoc, mrun_snoc, e3]
  · rw [List.mem_append, List.mem_singleton] at hq
    rcases hq with hq | rfl
    · exact h.box q hq
    · have := h.box p (List.mem_of_getElem? hp)
      exact ⟨hA _ _ this.1, hB _ _ this.2⟩
  · rw [List.getElem?_append_left (by omega)]; exact h.hd
  · rw [List.getElem?_append_left (by omega)] at hq
    exact h.no j q hj hq
theorem SQ.next (h : SQ D a b na nb La s t i La R Q) {p : List Int × (Nat × Nat)} (hp : Q[i]? = some p) (hd : D (decide (p.2.1 ≠ na)) (decide (p.2.2 ≠ nb)) = false) : SQ D a b na nb La s t (i + 1) 0 R Q :=
  ⟨h.rq, h.bfs.next, h.run, h.box, h.hd, fun j q hj hq => by
    by_cases e : j = i
    · subst e
      rw [hp] at hq
      injection hq with hq
      subst hq
      exact hd
    · exact h.no j q (by omega) hq⟩
/-- Labels that lead to a pair that is as wanted. -/
def Dif (D : Bool → Bool → Bool) (a b : Nat → Nat → Nat) (na nb s t : Nat) (w : List Nat) : Bool := D (decide (mrun a s w ≠ na)) (decide (mrun b t w ≠ nb))
/-- The result: the first such list of labels, if there is one. -/
def FW (D : Bool → Bool → Bool) (a b : Nat → Nat → Nat) (na nb La s t : Nat) (u : List Int) (is : Bool) : Prop :=
  (is = true ∧ ∃ w : List Nat, u = labsI w ∧ (∀ l ∈ w, l < La) ∧ Dif D a b na nb s t w = true ∧ ∀ w' : List Nat, (∀ l ∈ w', l < La) → Dif D a b na nb s t w' = true → sle u (labsI w')) ∨
  (is = false ∧ u = [] ∧ ∀ w : List Nat, (∀ l ∈ w, l < La) → Dif D a b na nb s t w = false)
theorem SQ.cover (h : SQ D a b na nb La s t i 0 R Q) (hD : D false false = false) (ha : ∀ l, a na l = na) (hb : ∀ l, b nb l = nb) {w : List Nat} (hw : ∀ l ∈ w, l < La) (hd : Dif D a b na nb s t w = true) : ∃ j q, i ≤ j ∧ Q[j]? = some q ∧ sle q.1 (labsI w) := by
  have hne : ¬ (mrun a s w = na ∧ mrun b t w = nb) := fun e => by
    unfold Dif at hd
    rw [e.1, e.2] at hd
    simp [hD] at hd
  rcases h.bfs.least ⟨_, List.mem_of_getElem? h.hd, rfl, rfl⟩ w hw _ (runS_pair ha hb w s t hne) with ⟨j, q, hj, hq, e, -⟩ | h2
  · have h3 := h.no j q hj hq
    rw [e] at h3
    unfold Dif at hd
    rw [hd] at h3
    cases h3
  · exact h2
theorem SQ.found (h : SQ D a b na nb La s t i 0 R Q) (hD : D false false = false) (ha : ∀ l, a na l = na) (hb : ∀ l, b nb l = nb) {p : List Int × (Nat × Nat)} (hp : Q[i]? = some p) (hd : D (decide (p.2.1 ≠ na)) (decide (p.2.2 ≠ nb)) = true) : FW D a b na nb La s t p.1 true := by
  obtain ⟨w, e1, e2, e3⟩ := h.run p (List.mem_of_getElem? hp)
  refine .inl ⟨rfl, w, e1, e2, ?_, fun w' hw' hd' => ?_⟩
  · unfold Dif
    rw [e3] at hd
    exact hd
  · obtain ⟨j, q, hj, hq, hle⟩ := h.cover hD ha hb hw' hd'
    exact sle_trans (h.bfs.from hp hj hq) hle
theorem SQ.none (h : SQ D a b na nb La s t i 0 R Q) (hi : Q.length ≤ i) (hD : D false false = false) (ha : ∀ l, a na l = na) (hb : ∀ l, b nb l = nb) : FW D a b na nb La s t [] false := by
  refine .inr ⟨rfl, rfl, fun w hw => ?_⟩
  cases hd : Dif D a b na nb s t w with
  | false => rfl
  | true =>
    obtain ⟨j, q, hj, hq, -⟩ := h.cover hD ha hb hw hd
    have := (List.getElem?_eq_some_iff.1 hq).1
    omega
def boxL (n m : Nat) : List (Nat × Nat) := (List.range n).flatMap fun x => (List.range m).map fun y => (x, y)
theorem boxL_len (m : Nat) : ∀ n, (boxL n m).length = n * m
  | 0 => by unfold boxL; simp
  | n + 1 => by
    have ih := boxL_len m n
    unfold boxL at ih ⊢
    rw [List.range_succ, List.flatMap_append, List.length_append, ih, Nat.succ_mul]; simp
theorem boxL_mem {n m x y : Nat} (hx : x < n) (hy : y < m) : (x, y) ∈ boxL n m := by
  unfold boxL
  rw [List.mem_flatMap]
  exact ⟨x, List.mem_range.2 hx, List.mem_map.2 ⟨y, List.mem_range.2 hy, rfl⟩⟩
theorem nodup_leH {α : Type} [DecidableEq α] : ∀ {l m : List α}, l.Nodup → (∀ x ∈ l, x ∈ m) → l.length ≤ m.length
  | [], _, _, _ => Nat.zero_le _
  | x :: l, m, h, hm => by
    rw [List.nodup_cons] at h
    have hx := hm x (by simp)
    have h2 := nodup_leH (m := m.erase x) h.2 (fun y hy => (List.mem_erase_of_ne (fun (e : y = x) => h.1 (by rw [← e]; exact hy))).2 (hm y (by simp [hy])))
    have h3 := List.length_erase_of_mem hx
    have h4 : 0 < m.length := List.length_pos_of_mem hx
    rw [List.length_cons]
    omega
theorem SQ.size (h : SQ D a b na nb La s t i c R Q) : Q.length ≤ (na + 1) * (nb + 1) := by
  have h1 := nodup_leH (m := boxL (na + 1) (nb + 1)) h.rq.nd (fun x hx => by
    rw [List.mem_map] at hx
    obtain ⟨q, hq, rfl⟩ := hx
    have := h.box q hq
    exact boxL_mem (x := q.2.1) (y := q.2.2) (Nat.lt_succ_of_le this.1) (Nat.lt_succ_of_le this.2))
  rwa [List.length_map, boxL_len] at h1
end
end Go.Proofs.YtblkijdodojaeaaDoor

namespace Go.Proofs.YtblkijdodojaeaaDoor
open Go.RowKit Go.Maps
set_option linter.unusedSimpArgs false
set_option linter.unusedVariables false

theorem Tryd.arrP : WideMaps.ArrKey Tryd.prog 111 3 2 := ⟨Tryd.underlying111, by kernel_rfl, by kernel_rfl, by kernel_rfl⟩
theorem Tryd.keyLawP : Keyed Tryd.prog 111 := Keyed.of_law Tryd.arrP.law
abbrev prV (x y : Nat) : Value := .agg #[.int .i64 (x : Int), .int .i64 (y : Int)]
abbrev kyP (p : Nat × Nat) : Lit := .string (keyBytes [.int .i64 (p.1 : Int), .int .i64 (p.2 : Int)])
def SmP (p : Nat × Nat) : Prop := p.1 ≤ 100000 ∧ p.2 ≤ 100000
theorem wfN {x : Nat} (h : x ≤ 100000) : (Lit.int .i64 (x : Int)).wf = true := by
  unfold Lit.wf IntKind.min IntKind.max
  simp [IntKind.signed, IntKind.bits]
  omega
theorem kyP_of {p : Nat × Nat} (h : SmP p) : keyOf Tryd.prog 111 (prV p.1 p.2) = some (kyP p) :=
  WideMaps.keyOf_pair Tryd.arrP Tryd.underlying3 ⟨Tryd.prog.types.size - 1, (Nat.sub_add_cancel (of_decide_eq_true (by kernel_rfl))).symm⟩ (wfN h.1) (wfN h.2)
theorem kyP_ne {p q : Nat × Nat} (hp : SmP p) (hq : SmP q) (h : p ≠ q) : kyP p ≠ kyP q := fun e => by
  have h1 := kyP_of hp
  rw [e] at h1
  have h2 := Tryd.keyLawP.inj h1 (kyP_of hq)
  injection h2 with h2
  simp only [Array.mk.injEq, List.cons.injEq, Value.int.injEq, and_true, true_and] at h2
  refine h (Prod.ext ?_ ?_)
  · have := h2.1; omega
  · have := h2.2; omega
abbrev MapH : Type := DataW Unit
def ixD (p : MapH × Nat) (x : Nat × Nat) : MapH × Nat := (p.1.put (kyP x) (.lit (.int .i64 (p.2 : Int))), p.2 + 1)
/-- The map that tells of each pair its number. -/
def mapP (K : List (Nat × Nat)) : MapH := (K.foldl ixD (.map [], 0)).1
theorem mapP_len : ∀ (K : List (Nat × Nat)) (p : MapH × Nat), (K.foldl ixD p).2 = p.2 + K.length
  | [], p => rfl
  | S :: r, p => by rw [List.foldl_cons, mapP_len r, List.length_cons]; show p.2 + 1 + r.length = _; omega
theorem mapP_snoc (K : List (Nat × Nat)) (x : Nat × Nat) : mapP (K ++ [x]) = (mapP K).put (kyP x) (.lit (.int .i64 ((K.length : Nat) : Int))) := by
  unfold mapP
  rw [List.foldl_append]
  show ((K.foldl ixD (.map [], 0)).1.put _ _) = _
  rw [mapP_len K (.map [], 0), Nat.zero_add]
theorem snocP {P : List (Nat × Nat) → Prop} (h0 : P []) (h1 : ∀ l x, P l → P (l ++ [x])) : ∀ l, P l := by
  intro l
  have : ∀ n (l : List (Nat × Nat)), l.length = n → P l := by
    intro n
    induction n with
    | zero => intro l hl; rw [List.length_eq_zero_iff.1 hl]; exact h0
    | succ n ih =>
      intro l hl
      have hne : l ≠ [] := fun e => by rw [e] at hl; cases hl
      rw [← List.dropLast_concat_getLast hne]
      exact h1 _ _ (ih _ (by rw [List.length_dropLast]; omega))
  exact this _ l rfl
theorem kyP_key (p : Nat × Nat) : WideAt.IsKeyLit (kyP p) := trivial
theorem mapP_tidy : ∀ (K : List (Nat × Nat)), Tidy (mapP K) :=
  snocP tidy_empty (fun l x ih => by rw [mapP_snoc]; exact ih.put (kyP_key _) _)
theorem mapP_has {p : Nat × Nat} (hp : SmP p) : ∀ (K : List (Nat × Nat)), (∀ x ∈ K, SmP x) → Maps.has (mapP K) (kyP p) = decide (p ∈ K) :=
  snocP (fun _ => by simp [mapP, Maps.has]) (fun l x ih hs => by
    rw [mapP_snoc]
    by_cases h : p = x
    · subst h
      rw [has_put_same (mapP_tidy l).isMap (kyP_key _)]; simp
    · rw [has_put_other (kyP_ne hp (hs x (by simp)) h), ih (fun y hy => hs y (List.mem_append_left _ hy))]; simp [h])
theorem mapP_at {p : Nat × Nat} (hp : SmP p) (z : MapH) : ∀ (K : List (Nat × Nat)), (∀ x ∈ K, SmP x) → K.Nodup → p ∈ K → (mapP K).atKey (kyP p) z = .lit (.int .i64 ((ixA K p : Nat) : Int)) :=
  snocP (fun _ _ h => by cases h) (fun l x ih hs hn h => by
    rw [mapP_snoc]
    rw [List.nodup_append] at hn
    by_cases e : p = x
    · subst e
      have hx : p ∉ l := fun h2 => hn.2.2 p h2 p (by simp) rfl
      rw [atKey_put_same (mapP_tidy l).isMap (kyP_key _), ixA_new hx]
    · have hl : p ∈ l := by
        rw [List.mem_append, List.mem_singleton] at h
        exact h.resolve_right e
      rw [atKey_put_other (kyP_ne hp (hs x (by simp)) e), ih (fun y hy => hs y (List.mem_append_left _ hy)) hn.1 hl, ixA_old hl])
theorem mapP_size : ∀ (K : List (Nat × Nat)), (∀ x ∈ K, SmP x) → K.Nodup → Maps.size (mapP K) = K.length :=
  snocP (fun _ _ => rfl) (fun l x ih hs hn => by
    rw [mapP_snoc, size_put (mapP_tidy l), mapP_has (hs x (by simp)) l (fun y hy => hs y (List.mem_append_left _ hy))]
    rw [List.nodup_append] at hn
    have hx : x ∉ l := fun h2 => hn.2.2 x h2 x (by simp) rfl
    rw [decide_eq_false hx, ih (fun y hy => hs y (List.mem_append_left _ hy)) hn.1, List.length_append]; rfl)
theorem firsts_nd {α : Type} [DecidableEq α] (l : List α) : (firsts l).Nodup := by
  refine snocI (P := fun l => (firsts l).Nodup) ?_ (fun w x ih => ?_) l
  · unfold firsts; exact List.nodup_nil
  · rw [firsts_snoc]
    split
    · exact ih
    · rename_i h
      rw [List.nodup_append]
      exact ⟨ih, by simp, fun y hy z hz => by rw [List.mem_singleton] at hz; subst hz; exact fun e => h (e ▸ hy)⟩
theorem Tryd.zeroIH (w : World) : (zeroValue 3).run Tryd.prog w = .ok (.int .i64 0) w := by kernel_rfl
theorem map_not_cellsH {W : World} {b n : Nat} {D : MapH} {R : Value → Option (MapH × List MemPlace)} {k : TypeId} (h : W.ownsMap Tryd.prog k R b n D) {c : Array Value} {t : TypeId} {fr : Nat × Nat} : W.heap[b]? ≠ some (.cells c t fr) := by
  obtain ⟨es, clock, hb, _⟩ := h
  rw [hb]; simp
theorem irow_ne {W : World} {b n R N : Nat} {D : MapH} {Q : Value → Option (MapH × List MemPlace)} {k : TypeId} {f : Nat → Int} (h : W.ownsMap Tryd.prog k Q b n D) (hr : IRow W R N f) : R ≠ b := fun e => by
  subst e
  obtain ⟨c, hc, -, -⟩ := hr
  exact map_not_cellsH h hc
theorem natR {c : List Nat} {i : Nat} (h : i < c.length) : (labsI c)[i]? = some ((c.getD i 0 : Nat) : Int) := by
  unfold labsI
  rw [List.getElem?_map, getD_opt h]; rfl
theorem labsI_lenH (w : List Nat) : (labsI w).length = w.length := by unfold labsI; rw [List.length_map]
set_option maxRecDepth 100000 in
set_option maxHeartbeats 6400000 in
theorem split_any (m : Nat → Nat → Nat) (n La l : Nat) (c : List Nat) (vm vc : Value) (w : World) (hrm : RowsRd w vm (mRows m n La)) (hrc : IntsRd w vc (labsI c)) (hc : c.length = n + 1) (hcs : ∀ x ∈ c, x ≤ n + 1) (hl : l < La) (hm : ∀ s l, s < n + 1 → m s l < n + 1) (hn : n ≤ 64) (hL : La ≤ 256) :
    Calls Tryd.prog 124 #[vm, vc, .int .i64 (l : Int)] w fun e w' => ∃ R, e = .returned (.slice (some ⟨R, 0, none⟩) (n + 1) (n + 1)) ∧ w.heap.size ≤ R ∧ IntsRd w' (.slice (some ⟨R, 0, none⟩) (n + 1) (n + 1)) (labsI (splitC m c l)) ∧ Below w.heap.size w w' := by
  have hmk := make_intsH (n + 1) (by omega)
  have hmm := @run_makeMap Tryd.prog
  have HRM := Lib.hid hrm
  have HRC := Lib.hid hrc
  have HM := Lib.hid hm
  obtain ⟨am, cm, hvm⟩ := hrm.form
  rw [mRows_len] at hvm
  subst hvm
  obtain ⟨ac, cc, hvc⟩ := hrc.form
  rw [labsI_lenH, hc] at hvc
  subst hvc
  obtain ⟨N, hN⟩ : ∃ N, n + 1 = N := ⟨_, rfl⟩
  rw [hN] at hmk hc hcs HM HRM HRC ⊢
  have HNN := Lib.hid hN
  have hN2 : N ≤ 65 := by omega
  have HCS := Lib.hid hcs
  have HC := Lib.hid hc
  have hgetc : ∀ i, i < N → c.getD i 0 ≤ N := fun i hi => by
    rw [List.getD_eq_getElem?_getD, List.getElem?_eq_getElem (by omega)]
    exact hcs _ (List.getElem_mem _)
  have HGC := Lib.hid hgetc
  obtain ⟨R, hR⟩ : ∃ R, w.heap.size = R := ⟨_, rfl⟩
  have R0 := Lib.hid ((IRow.made w N).keep (below1 (w.alloc (.cells (madeCells #[.int .i64 0] N) 3)) (.map #[] 0)))
  have M0 := Lib.hid (World.ownsMap_made (H := Unit) (w.alloc (.cells (madeCells #[.int .i64 0] N) 3)) Tryd.prog 111 (plainElem Tryd.prog 3))
  have B0 := Lib.hid (below_more (below1 w (.cells (madeCells #[.int .i64 0] N) 3)) (Nat.le_refl _) (below1 (w.alloc (.cells (madeCells #[.int .i64 0] N) 3)) (.map #[] 0)))
  rw [World.size_alloc, hR] at M0
  rw [hR] at R0
  have HRR := Lib.hid hR
  clear hrm hrc hm hN hcs hc hgetc
  go_enter Tryd.func124, Tryd.ntmps124
  go_wp2_with fail
  clear hmk hmm hR
  generalize ((w.alloc (.cells (madeCells #[.int .i64 0] N) 3)).alloc (.map #[] 0)) = X at *
  go_loopg [20] N (fun q s20 wx => ∃ i : Nat, i + q = N ∧ s20 = .int .i64 (i : Int) ∧ Hid (IRow wx R N (fun j => if j < i then (((splitC m c l).getD j 0 : Nat) : Int) else 0)) ∧ Hid (wx.ownsMap Tryd.prog 111 (plainElem Tryd.prog 3) (R + 1) i (mapP (firsts ((pairsC m c l).take i)))) ∧ Hid (Below w.heap.size w wx))
  case atStart => exact ⟨0, by omega, rfl, Lib.hid (R0.out.congr (fun j _ => by rw [if_neg (by omega)])), M0, B0⟩
  case round =>
    clear R0 M0 B0
    obtain ⟨i, hin, rfl, HR, HP, HB⟩ := hrel
    rcases gk with _ | q
    · obtain rfl : i = N := by omega
      have j0 : ¬ ((i : Int) < (i : Int)) := by omega
      have hl2 : (splitC m c l).length = i := by rw [splitC_len, HC.out]
      have HI := Lib.hid (show IntsRd wr (.slice (some ⟨R, 0, none⟩) i i) (labsI (splitC m c l)) by
        refine ⟨_, _, by rw [labsI_lenH, hl2], fun j x hx => ⟨R, 0, rfl, ?_⟩⟩
        have hj : j < i := by
          have := (List.getElem?_eq_some_iff.1 hx).1
          rwa [labsI_lenH, hl2] at this
        rw [natR (by omega)] at hx
        injection hx with hx
        rw [Nat.zero_add, HR.out.cell hj, if_pos hj, ← hx])
      clear hl2
      go_wp2_with fail
      go_ret
      exact ⟨R, rfl, by rw [HRR.out]; exact Nat.le_refl _, HI.out, HB.out⟩
    · obtain ⟨x, hx⟩ : ∃ x, c.getD i 0 = x := ⟨_, rfl⟩
      obtain ⟨t, ht⟩ : ∃ t, m i l = t := ⟨_, rfl⟩
      obtain ⟨y, hy⟩ : ∃ y, c.getD t 0 = y := ⟨_, rfl⟩
      have hiN : i < N := by omega
      have htN : t < N := by rw [← ht]; exact HM.out i l hiN
      have hxs : x ≤ N := by rw [← hx]; exact HGC.out i hiN
      have hys : y ≤ N := by rw [← hy]; exact HGC.out t htN
      have hs : SmP (x, y) := ⟨by show x ≤ 100000; omega, by show y ≤ 100000; omega⟩
      have hpa : (pairsC m c l)[i]? = some (x, y) := by rw [pairsC_at (by rw [HC.out]; exact hiN), hx, ht, hy]
      obtain ⟨K, hK⟩ : ∃ K, firsts ((pairsC m c l).take i) = K := ⟨_, rfl⟩
      have hKs : ∀ z ∈ K, SmP z := fun z hz => by
        rw [← hK, firsts_mem, mem_take_iff] at hz
        obtain ⟨j, hj, e⟩ := hz
        rw [pairsC_at (by rw [HC.out]; omega)] at e
        injection e with e
        subst e
        have h1 := HGC.out j (by omega)
        have h2 := HGC.out (m j l) (HM.out j l (by omega))
        exact ⟨by show c.getD j 0 ≤ 100000; omega, by show c.getD (m j l) 0 ≤ 100000; omega⟩
      have hKn : K.Nodup := by rw [← hK]; exact firsts_nd _
      have hgs : ∀ k, ixA (firsts (pairsC m c l)) (x, y) = k → (splitC m c l).getD i 0 = k := fun k hk => by
        have h1 : (canon (pairsC m c l))[i]? = some (ixA (firsts (pairsC m c l)) (x, y)) := canon_at hpa
        rw [hk] at h1
        have h2 := getD_opt (c := splitC m c l) (s := i) (by rw [splitC_len, HC.out]; exact hiN)
        have h3 : (splitC m c l)[i]? = some k := h1
        rw [h2] at h3
        injection h3
      have hgT := firsts_take hpa
      have hold : (x, y) ∈ firsts ((pairsC m c l).take i) → ixA (firsts (pairsC m c l)) (x, y) = ixA (firsts ((pairsC m c l).take i)) (x, y) := canon_old hpa
      have hnew : (x, y) ∉ firsts ((pairsC m c l).take i) → ixA (firsts (pairsC m c l)) (x, y) = (firsts ((pairsC m c l).take i)).length := canon_new hpa
      rw [hK] at HP hgT hold hnew
      have HPO := Lib.hid HP.out
      have hmp := HP.out.alloc (.cells #[.int .i64 (x : Int), .int .i64 (y : Int)] 111)
      have hkey := kyP_of hs
      have hlt := HR.out.lt
      have f4 := (HR.out.keep (below1 wr (.cells #[.int .i64 (x : Int), .int .i64 (y : Int)] 111))).frozen i
      have c4 := (HR.out.keep (below1 wr (.cells #[.int .i64 (x : Int), .int .i64 (y : Int)] 111))).cell hiN
      have HR1 := Lib.hid (HR.out.keep (below1 wr (.cells #[.int .i64 (x : Int), .int .i64 (y : Int)] 111)))
      have HB1 := Lib.hid (below_more HB.out (Nat.le_refl _) (below1 wr (.cells #[.int .i64 (x : Int), .int .i64 (y : Int)] 111)))
      obtain ⟨b1, o1, k1, hv1, p1⟩ := (HRC.out.keep HB.out).at (natR (i := i) (by rw [HC.out]; exact hiN))
      rw [labsI_lenH, HC.out] at hv1
      injection hv1 with e1 e2 e3
      subst e1
      obtain ⟨b3, o3, k3, hv3, p3⟩ := (HRC.out.keep HB.out).at (natR (i := t) (by rw [HC.out]; exact htN))
      injection hv3 with e7 e8 e9
      injection e7 with e7
      injection e7 with e7 e10
      subst e7
      subst e10
      obtain ⟨b2, o2, k2, u2, hv2, p2, r2⟩ := (HRM.out.keep HB.out).at (mRows_at (m := m) (La := La) (j := i) (by rw [HNN.out]; exact hiN))
      injection hv2 with e4 e5 e6
      subst e4
      obtain ⟨a7, c7, hu7⟩ := r2.form
      rw [mRow_len] at hu7
      subst hu7
      obtain ⟨b8, o8, k8, hv8, p8⟩ := r2.at (mRow_at hl)
      injection hv8 with e11 e12 e13
      subst e11
      rw [ht] at p8
      rw [hx] at p1
      rw [hy] at p3
      have j1 : (i : Int) < (N : Int) := by omega
      have j2 : (t : Int) < (N : Int) := by omega
      have j3 : (l : Int) < (La : Int) := by omega
      have hz := HRR.out
      have hKK := hK
      clear e2 e3 e5 e6 e8 e9 e12 e13 r2 hx ht hy hK HP hpa
      by_cases hin2 : (x, y) ∈ K
      · have hhas := mapP_has hs K hKs
        rw [decide_eq_true hin2] at hhas
        have HAT := Lib.hid (fun z => mapP_at hs z K hKs hKn hin2)
        have HGS := Lib.hid (hgs _ (hold hin2))
        have HGT := Lib.hid (show firsts ((pairsC m c l).take (i + 1)) = K by rw [hgT, if_pos hin2])
        have HMP := Lib.hid (fun (u : Value) => (HPO.out.setCell (a := ⟨R, i, none⟩) (by show R + 1 ≠ R; omega) u).alloc (.cells #[.int .i64 (x : Int), .int .i64 (y : Int)] 111))
        have HRS := Lib.hid (fun (u : Int) => (HR.out.set i u).keep (below1 _ (.cells #[.int .i64 (x : Int), .int .i64 (y : Int)] 111)))
        have HBS := Lib.hid (fun (u : Value) => below_more (HB.out.setCell (p := ⟨R, i, none⟩) (by show w.heap.size ≤ R; omega) u) (Nat.le_refl _) (below1 _ (.cells #[.int .i64 (x : Int), .int .i64 (y : Int)] 111)))
        clear hgs hold hnew hgT hKs hKn hin2 hs HR1 HB1
        go_wp2_with (at_lookup; refine wpList_lookup_own_ok_int _ rfl _ _ 188 rfl 111 3 .i64 Tryd.keyLawP Tryd.underlying188 Tryd.underlying3 (Tryd.zeroIH _) (R + 1) i (mapP K) rfl hmp _ _ rfl hkey ?_; intro z hat hwz; rw [hhas])
        have hz2 : z = ((ixA K (x, y) : Nat) : Int) := by
          rw [HAT.out] at hat
          injection hat with hat
          injection hat with _ hat
          exact hat.symm
        go_roundg q
        case measure => omega
        case rel =>
          refine ⟨i + 1, by omega, by go_num, Lib.hid ((HRS.out z).congr (fun j _ => ?_)), Lib.hid (by rw [HGT.out]; exact (HMP.out _).mono (Nat.le_succ _)), Lib.hid (HBS.out _)⟩
          try dsimp only
          by_cases e : j = i
          · subst e
            rw [if_pos rfl, if_pos (by omega), HGS.out]; exact hz2
          · rw [if_neg e]
            by_cases e2 : j < i
            · rw [if_pos e2, if_pos (by omega)]
            · rw [if_neg e2, if_neg (by omega)]
      · have hhas := mapP_has hs K hKs
        rw [decide_eq_false hin2] at hhas
        have HGS := Lib.hid (hgs _ (hnew hin2))
        have HGT := Lib.hid (show firsts ((pairsC m c l).take (i + 1)) = K ++ [(x, y)] by rw [hgT, if_neg hin2])
        have hsize := mapP_size K hKs hKn
        have HSZ := Lib.hid hsize
        have hKl : K.length ≤ i := by
          have h1 := firsts_le ((pairsC m c l).take i)
          rw [hKK] at h1
          rw [List.length_take] at h1
          omega
        obtain ⟨z, hz9⟩ : ∃ z, K.length = z := ⟨_, rfl⟩
        have HKL := Lib.hid hz9
        have hze : (Maps.size (mapP K) : Int) = (z : Int) := by rw [hsize, hz9]
        have hzi : z ≤ i := by omega
        clear hgs hold hnew hgT hKs hKn hin2 hsize hz9 hKl hKK
        go_wp2_with (first
          | (at_lookup; refine wpList_lookup_own_ok_int _ rfl _ _ 188 rfl 111 3 .i64 Tryd.keyLawP Tryd.underlying188 Tryd.underlying3 (Tryd.zeroIH _) (R + 1) i (mapP K) rfl hmp _ _ rfl hkey ?_; intro z0 hat hwz; rw [hhas])
          | (at_len; refine wpList_len_own _ rfl _ 188 rfl 111 3 Tryd.underlying188 _ (R + 1) i (mapP K) rfl hmp ?_; rw [hze])
          | (at_mapUpdate; refine wpList_mapUpdate_own _ rfl _ _ _ 188 rfl 111 3 Tryd.keyLawP Tryd.underlying188 _ (R + 1) i _ rfl hmp (by unfold maxLen; omega) _ _ _ rfl rfl hkey _ [] (plainElem_int Tryd.underlying3 (WalkArith.wf_i64 (by omega))) ?_; intro w1 hown1 hgrow1; (have HR5 := Lib.hid (show IRow w1 R N (fun j => if j < i then (((splitC m c l).getD j 0 : Nat) : Int) else 0) from World.rowIs.of_block HR1.out (hgrow1.block R HR1.out.lt (by intro e; injection e with e; omega)))); (have f5 := HR5.out.frozen i); (have c5 := HR5.out.cell hiN)))
        go_roundg q
        case measure => omega
        case rel =>
          refine ⟨i + 1, by omega, by go_num, Lib.hid ((HR5.out.set i (z : Int)).congr (fun j _ => ?_)), Lib.hid ?_, Lib.hid ((HB1.out.grown hgrow1 (by rw [World.size_alloc]; have := HB.out.size; omega) (fun k e => by injection e with e; omega)).setCell (p := ⟨R, i, none⟩) (by show w.heap.size ≤ R; omega) _)⟩
          · try dsimp only
            by_cases e : j = i
            · subst e
              rw [if_pos rfl, if_pos (by omega), HGS.out, HKL.out]
            · rw [if_neg e]
              by_cases e2 : j < i
              · rw [if_pos e2, if_pos (by omega)]
              · rw [if_neg e2, if_neg (by omega)]
          · rw [HGT.out, mapP_snoc, HKL.out]
            exact hown1.setCell (by show R + 1 ≠ R; omega) _
end Go.Proofs.YtblkijdodojaeaaDoor
