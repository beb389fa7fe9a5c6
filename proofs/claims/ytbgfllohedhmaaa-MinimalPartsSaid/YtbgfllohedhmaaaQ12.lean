/- What minimal.machineOf returns: the machine of a deterministic graph. Conditions: the edges can be read, lead from states with labels to states; at most 64 states and 256 labels. Plain facts on lists of labels in order of their length, and then of their labels; searches breadth first. No condition. Plain facts on a search breadth first over pairs of states of two machines. No condition. -/
import Derived.Test.YtbgfllohedhmaaaQ07
import Derived.Test.YtbgfllohedhmaaaQ11
import Derived.BigRegion
import Derived.Test.YtbgfllohedhmaaaQ01

namespace Go.Proofs.Ytbgfllohedhmaaa
open Go.RowKit
set_option linter.unusedSimpArgs false
set_option linter.unusedVariables false

/-- Where a label leads, n for nowhere. -/
def mT (n : Nat) (es : List E3) (j l : Nat) : Nat := es.foldl (fun x e => if e.1 = (j : Int) ∧ e.2.1 = (l : Int) then e.2.2.toNat else x) n
theorem mT_snoc (n : Nat) (es : List E3) (e : E3) (j l : Nat) : mT n (es ++ [e]) j l = if e.1 = (j : Int) ∧ e.2.1 = (l : Int) then e.2.2.toNat else mT n es j l := by
  unfold mT; rw [List.foldl_append]; rfl
theorem mT_ind {P : Nat → Prop} {n j l : Nat} (h0 : P n) : ∀ {es : List E3}, (∀ e ∈ es, e.1 = (j : Int) → e.2.1 = (l : Int) → P e.2.2.toNat) → P (mT n es j l) := fun {es} h => by
  have h2 : ∀ k, P (mT n (es.take k) j l) := fun k => by
    induction k with
    | zero => exact h0
    | succ k ih =>
      by_cases hk : k < es.length
      · have hx := List.getElem?_eq_getElem hk
        rw [take_snoc hx, mT_snoc]
        split
        · rename_i hc
          exact h _ (List.getElem_mem hk) hc.1 hc.2
        · exact ih
      · rw [List.take_of_length_le (by omega)] at ih ⊢; exact ih
  have := h2 es.length
  rwa [List.take_length] at this
theorem mT_le {La : Int} {n : Nat} {es : List E3} (hok : ∀ e ∈ es, okE La (n : Int) e = true) (j l : Nat) : mT n es j l ≤ n :=
  mT_ind (P := fun x => x ≤ n) (Nat.le_refl n) (fun e he _ _ => by have := okE_iff.1 (hok e he); omega)
theorem mT_none {La : Int} {n : Nat} {es : List E3} (hok : ∀ e ∈ es, okE La (n : Int) e = true) (l : Nat) : mT n es n l = n :=
  mT_ind (P := fun x => x = n) rfl (fun e he h _ => by have := okE_iff.1 (hok e he); omega)
def mRow (m : Nat → Nat → Nat) (La j : Nat) : List Int := (List.range La).map fun l => ((m j l : Nat) : Int)
def mRows (m : Nat → Nat → Nat) (n La : Nat) : List (List Int) := (List.range (n + 1)).map (mRow m La)
theorem mRow_len (m : Nat → Nat → Nat) (La j : Nat) : (mRow m La j).length = La := by unfold mRow; rw [List.length_map, List.length_range]
theorem mRow_at {m : Nat → Nat → Nat} {La j l : Nat} (h : l < La) : (mRow m La j)[l]? = some ((m j l : Nat) : Int) := by unfold mRow; rw [List.getElem?_map, List.getElem?_range h]; rfl
theorem mRows_len (m : Nat → Nat → Nat) (n La : Nat) : (mRows m n La).length = n + 1 := by unfold mRows; rw [List.length_map, List.length_range]
theorem mRows_at {m : Nat → Nat → Nat} {n La j : Nat} (h : j < n + 1) : (mRows m n La)[j]? = some (mRow m La j) := by unfold mRows; rw [List.getElem?_map, List.getElem?_range h]; rfl
theorem Try.infoRowH : (Try.prog.info? 27).map (fun i => (i.zero, i.size, i.bytes)) = some (some (.slice none 0 0), 1, 24) := by kernel_rfl
theorem make_mach (n : Nat) (hn : n ≤ 100000) (W : World) : (Instr.makeSlice 46 (.int .i64 (n : Int)) (.int .i64 (n : Int))).run Try.prog W = .ok (.slice (some ⟨W.heap.size, 0, none⟩) n n) (W.alloc (.cells (madeCells #[(.slice none 0 0)] n) 27)) :=
  run_make_row' _ _ _ 24 Try.underlying46 Try.infoRowH rfl _ _ n (by omega) (by omega) W
theorem mnone_any (a : Option Addr) (k c : Nat) (w : World) (hk : k ≤ 100000) : Calls Try.prog 29 #[.slice a (k + 1) c] w fun e w' => e = .returned (.int .i64 (k : Int)) ∧ w' = w := by
  have hw : IntKind.i64.wrap (((k + 1 : Nat) : Int) - 1) = (k : Int) := by rw [IntWalk.i64_in _ (by omega)]; omega
  obtain ⟨m, hm⟩ : ∃ m, k + 1 = m := ⟨_, rfl⟩
  rw [hm] at hw ⊢
  clear hm
  go_enter Try.func29, Try.ntmps29
  go_wp2_with fail
  go_ret
  exact ⟨rfl, rfl⟩
abbrev rowH (La r : Nat) : Value := .slice (some ⟨r, 0, none⟩) La La
/-- A machine that is being filled: a row of rows, each in a block of its own. -/
structure MA (w : World) (M La N i : Nat) (rs : Nat → Nat) (f : Nat → Nat → Nat) (W : World) : Prop where
  hb : Below w.heap.size w W
  hM : w.heap.size ≤ M
  hl : W.rowIs M 27 N (fun j => if j < i then rowH La (rs j) else .slice none 0 0)
  hr : ∀ j, j < i → M < rs j ∧ IRow W (rs j) La (fun l => ((f j l : Nat) : Int))
  ha : ∀ j k, j < k → k < i → rs j ≠ rs k
section
variable {w W W' : World} {M La N i : Nat} {rs : Nat → Nat} {f : Nat → Nat → Nat}
theorem MA.lt (h : MA w M La N i rs f W) : M < W.heap.size := World.rowIs.lt h.hl
theorem MA.keep (h : MA w M La N i rs f W) (k : Below W.heap.size W W') : MA w M La N i rs f W' :=
  ⟨h.hb.trans (k.mono h.hb.size), h.hM, World.rowIs.of_block h.hl (k.block M h.lt), fun j hj => ⟨(h.hr j hj).1, (h.hr j hj).2.keep k⟩, h.ha⟩
theorem MA.start (w : World) (La N : Nat) : MA w w.heap.size La N 0 (fun _ => 0) (fun _ _ => 0) (w.alloc (.cells (madeCells #[(.slice none 0 0)] N) 27)) :=
  ⟨below1 w _, Nat.le_refl _, World.rowIs.congr (World.rowIs_made w _ N _) (fun j _ => by rw [if_neg (by omega)]), fun j hj => absurd hj (Nat.not_lt_zero _), fun j k _ hk => absurd hk (Nat.not_lt_zero _)⟩
theorem MA.put (h : MA w M La N i rs f W) {R z : Nat} (hR : W.heap.size ≤ R) (k : Below W.heap.size W W') (hrow : IRow W' R La (fun _ => (z : Int))) :
    MA w M La N (i + 1) (fun j => if j = i then R else rs j) (fun j l => if j = i then z else f j l) (W'.setCell ⟨M, i, none⟩ (rowH La R)) := by
  have hM := h.lt
  have h2 := h.keep k
  refine ⟨h2.hb.setCell h.hM _, h.hM, World.rowIs.congr (World.rowIs.set h2.hl i (rowH La R)) (fun j hj => ?_), fun j hj => ?_, fun j l hjl hl => ?_⟩
  · by_cases e : j = i
    · subst e; rw [if_pos rfl, if_pos (by omega), if_pos rfl]
    · rw [if_neg e]
      by_cases hj2 : j < i
      · rw [if_pos hj2, if_pos (by omega), if_neg e]
      · rw [if_neg hj2, if_neg (by omega)]
  · try dsimp only
    by_cases e : j = i
    · subst e
      rw [if_pos rfl]
      refine ⟨by omega, ?_⟩
      have h3 : IRow (W'.setCell ⟨M, j, none⟩ (rowH La R)) R La (fun _ => (z : Int)) := hrow.other (by show R ≠ M; omega) _
      exact h3.congr (fun l _ => by rw [if_pos rfl])
    · rw [if_neg e]
      have h3 := h2.hr j (by omega)
      refine ⟨h3.1, ?_⟩
      have h4 : IRow (W'.setCell ⟨M, i, none⟩ (rowH La R)) (rs j) La (fun l => ((f j l : Nat) : Int)) := h3.2.other (by show rs j ≠ M; have := h3.1; omega) _
      exact h4.congr (fun l _ => by rw [if_neg e])
  · try dsimp only
    rw [if_neg (show ¬ j = i by omega)]
    by_cases e : l = i
    · rw [if_pos e]
      have := (h.hr j (by omega)).2.lt
      omega
    · rw [if_neg e]; exact h.ha j l hjl (by omega)
theorem MA.set (h : MA w M La N i rs f W) {j : Nat} (hj : j < i) (l z : Nat) : MA w M La N i rs (fun j' l' => if j' = j ∧ l' = l then z else f j' l') (W.setCell ⟨rs j, l, none⟩ (.int .i64 (z : Int))) := by
  have h1 := h.hr j hj
  have hM := h.hM
  refine ⟨h.hb.setCell (by show w.heap.size ≤ rs j; omega) _, h.hM, World.rowIs.setOther h.hl (by show M ≠ rs j; omega) _, fun k hk => ?_, h.ha⟩
  have h2 := h.hr k hk
  refine ⟨h2.1, ?_⟩
  by_cases e : k = j
  · subst e
    have h3 := h2.2.set l (z : Int)
    refine h3.congr (fun l' _ => ?_)
    by_cases e2 : l' = l
    · rw [if_pos e2, if_pos ⟨rfl, e2⟩]
    · rw [if_neg e2, if_neg (fun e3 => e2 e3.2)]
  · have hne : rs k ≠ rs j := by
      rcases Nat.lt_or_gt_of_ne e with hlt | hgt
      · exact h.ha k j hlt hj
      · exact fun e2 => h.ha j k hgt hk e2.symm
    have h3 : IRow (W.setCell ⟨rs j, l, none⟩ (.int .i64 (z : Int))) (rs k) La (fun l => ((f k l : Nat) : Int)) := h2.2.other hne _
    exact h3.congr (fun l' _ => by rw [if_neg (fun e3 => e e3.1)])
theorem MA.recast (h : MA w M La N i rs f W) {g : Nat → Nat → Nat} (e : ∀ j l, j < i → l < La → f j l = g j l) : MA w M La N i rs g W :=
  ⟨h.hb, h.hM, h.hl, fun j hj => ⟨(h.hr j hj).1, (h.hr j hj).2.congr (fun l hl => by rw [e j l hj hl])⟩, h.ha⟩
theorem MA.rd {n : Nat} (h : MA w M La (n + 1) (n + 1) rs f W) (c : Nat) : RowsRd W (.slice (some ⟨M, 0, none⟩) (n + 1) c) (mRows f n La) := by
  refine ⟨_, c, by rw [mRows_len], fun j r hr => ?_⟩
  have hj : j < n + 1 := by
    have := (List.getElem?_eq_some_iff.1 hr).1
    rwa [mRows_len] at this
  rw [mRows_at hj] at hr
  injection hr with hr
  subst hr
  refine ⟨M, 0, rowH La (rs j), rfl, ?_, ?_⟩
  · rw [Nat.zero_add, World.rowIs.cell h.hl hj, if_pos hj]
  · refine ⟨some ⟨rs j, 0, none⟩, La, by rw [mRow_len], fun l x hx => ?_⟩
    have hl : l < La := by
      have := (List.getElem?_eq_some_iff.1 hx).1
      rwa [mRow_len] at this
    rw [mRow_at hl] at hx
    injection hx with hx
    exact ⟨rs j, 0, rfl, by rw [Nat.zero_add, (h.hr j hj).2.cell hl, hx]⟩
end
set_option maxRecDepth 100000 in
set_option maxHeartbeats 6400000 in
theorem machineOf_any (L : Int) (La n : Nat) (es : List E3) (v : Value) (w : World) (hrd : EdgesRd w v es) (hok : ∀ e ∈ es, okE (La : Int) (n : Int) e = true) (hn : n ≤ 64) (hL : La ≤ 256) (hl : es.length ≤ 100000) :
    Calls Try.prog 18 #[grV L (n : Int) v, .int .i64 (La : Int)] w fun e w' => ∃ M, e = .returned (.slice (some ⟨M, 0, none⟩) (n + 1) (n + 1)) ∧ RowsRd w' (.slice (some ⟨M, 0, none⟩) (n + 1) (n + 1)) (mRows (mT n es) n La) ∧ Below w.heap.size w w' := by
  have hmx : Try.prog.follows .mixedOrders = true := by kernel_rfl
  have hmk := make_mach (n + 1) (by omega)
  have hw1 : IntKind.i64.wrap ((n : Int) + 1) = ((n + 1 : Nat) : Int) := by rw [IntWalk.i64_in _ (by omega)]; omega
  have HOK := Lib.hid hok
  have HRD := Lib.hid hrd
  have HNO := Lib.hid (fun a c W => mnone_any a n c W (by omega))
  obtain ⟨a, c, hv⟩ := hrd.form
  subst hv
  have B0 := Lib.hid (below1 w (.cells #[.int .i64 L, .int .i64 (n : Int), .slice a es.length c] 24))
  have G0 := Lib.hid (BoxG.new w L (n : Int) (.slice a es.length c) 24)
  obtain ⟨x1, x2, x3⟩ := id G0.out
  obtain ⟨N, hN⟩ : ∃ N, n + 1 = N := ⟨_, rfl⟩
  have HN := Lib.hid hN
  rw [hN] at hmk hw1 HNO ⊢
  have hN1 : n < N := by omega
  have hN2 : N ≤ 65 := by omega
  clear hrd hok hN
  go_enter Try.func18, Try.ntmps18
  go_wp2_with fail
  obtain ⟨W1, hW1⟩ : ∃ W1, w.alloc (.cells #[.int .i64 L, .int .i64 (n : Int), .slice a es.length c] 24) = W1 := ⟨_, rfl⟩
  have z1 : W1.heap.size = w.heap.size + 1 := by rw [← hW1, World.size_alloc]
  rw [hW1] at B0 G0 ⊢
  have A0 := Lib.hid (MA.start W1 La N)
  obtain ⟨M, hM⟩ : ∃ M, w.heap.size + 1 = M := ⟨_, rfl⟩
  rw [← z1] at hM
  rw [hM] at A0
  rw [← z1, hM]
  have hMw : w.heap.size ≤ M := by omega
  have HM := Lib.hid hM
  clear hW1 x1 x2 x3 hM z1 hmk
  generalize (W1.alloc (.cells (madeCells #[(.slice none 0 0)] N) 27)) = X at *
  go_loopg [15] N (fun q s15 wx => ∃ (i : Nat) (rs : Nat → Nat) (f : Nat → Nat → Nat), i + q = N ∧ s15 = .int .i64 (i : Int) ∧ Hid (∀ j l, j < i → l < La → f j l = n) ∧ Hid (MA W1 M La N i rs f wx))
  case atStart => exact ⟨0, _, _, by omega, rfl, Lib.hid (fun j l hj => absurd hj (Nat.not_lt_zero _)), A0⟩
  case round =>
    clear A0
    obtain ⟨i, rs, f, hin, rfl, HF, HA⟩ := hrel
    rcases gk with _ | q
    · obtain rfl : i = N := by omega
      have j0 : ¬ ((i : Int) < (i : Int)) := by omega
      have A1 := Lib.hid (HA.out.recast (g := mT n (es.take 0)) (fun j l hj hl => HF.out j l hj hl))
      obtain ⟨x1, x2, x3⟩ := G0.out.keep HA.out.hb
      go_upto_region 8 with fail
      clear x1 x2 x3 HF HA
      go_loopg [30] es.length (fun q s30 wx => ∃ k : Nat, k + q = es.length ∧ s30 = .int .i64 (k : Int) ∧ Hid (MA W1 M La i i rs (mT n (es.take k)) wx))
      case atStart => exact ⟨0, by omega, rfl, A1⟩
      case round =>
        clear A1
        obtain ⟨k, hkn, rfl, HA⟩ := hrel
        rcases gk with _ | q2
        · obtain rfl : k = es.length := by omega
          have j5 : ¬ ((es.length : Int) < (es.length : Int)) := by omega
          have h9 := HA.out
          rw [List.take_length] at h9
          have HR := Lib.hid (show RowsRd wr (.slice (some ⟨M, 0, none⟩) i i) (mRows (mT n es) n La) by
            have e := HN.out
            subst e
            exact h9.rd (n + 1))
          have HB := Lib.hid (B0.out.trans (h9.hb.mono (by rw [HM.out]; exact hMw)))
          clear h9 HA
          go_wp2_with fail
          go_ret
          exact ⟨M, rfl, HR.out, HB.out⟩
        · obtain ⟨e, he⟩ : ∃ e, es[k]? = some e := ⟨_, List.getElem?_eq_getElem (by omega)⟩
          have hok := okE_iff.1 (HOK.out e (List.mem_of_getElem? he))
          have HT := Lib.hid (show mT n (es.take (k + 1)) = mT n (es.take k ++ [e]) by rw [take_snoc he])
          obtain ⟨b, off, c', hv, k1, k2, k3⟩ := (HRD.out.keep (B0.out.trans (HA.out.hb.mono (by rw [HM.out]; exact hMw)))).at he
          injection hv with e1 e2 e3
          subst e1
          obtain ⟨x, y, z⟩ := e
          dsimp only at k1 k2 k3 hok
          obtain ⟨x, rfl⟩ : ∃ m : Nat, x = (m : Int) := ⟨x.toNat, by omega⟩
          obtain ⟨y, rfl⟩ : ∃ m : Nat, y = (m : Int) := ⟨y.toNat, by omega⟩
          obtain ⟨z, rfl⟩ : ∃ m : Nat, z = (m : Int) := ⟨z.toNat, by omega⟩
          have hxn : x < i := by have := HN.out; omega
          have hyn : y < La := by omega
          have j1 : (k : Int) < (es.length : Int) := by omega
          clear he e2 e3 hok
          go_upto_region 10 with fail
          obtain ⟨P0, hP0⟩ : ∃ P0, wr.heap.size = P0 := ⟨_, rfl⟩
          have X1 := BoxG.new wr (x : Int) (y : Int) (.int .i64 (z : Int)) 42
          have A1 := Lib.hid (HA.out.keep (below1 wr (.cells #[.int .i64 (x : Int), .int .i64 (y : Int), .int .i64 (z : Int)] 42)))
          rw [hP0] at X1 ⊢
          clear HA k1 k2 k3 hP0
          generalize (wr.alloc (.cells #[.int .i64 (x : Int), .int .i64 (y : Int), .int .i64 (z : Int)] 42)) = V1 at *
          obtain ⟨z1, z2, z3⟩ := id X1
          have cx : V1.cell? ⟨M, x, none⟩ = some (rowH La (rs x)) := by
            have h := World.rowIs.cell A1.out.hl hxn
            rw [if_pos hxn] at h
            exact h
          have c4 := (A1.out.hr x hxn).2.cell hyn
          have f4 := (A1.out.hr x hxn).2.frozen y
          have HS := Lib.hid (A1.out.set hxn y z)
          have j3 : (x : Int) < (i : Int) := by omega
          have j4 : (y : Int) < (La : Int) := by omega
          clear X1
          go_region
          go_wp2_with fail
          go_roundg q2
          case measure => omega
          case rel => exact ⟨k + 1, by omega, by go_num, Lib.hid ((HS.out.recast (g := mT n (es.take (k + 1))) (fun j l hj hl => by
            rw [HT.out, mT_snoc]
            try dsimp only
            by_cases h : j = x ∧ l = y
            · rw [if_pos h, if_pos (by omega)]; rfl
            · rw [if_neg h, if_neg (by omega)])).keep (Below.refl _ _).drew)⟩
    · have j1 : (i : Int) < (N : Int) := by omega
      obtain ⟨R, hR⟩ : ∃ R, (wr.alloc (.cells #[.int .i64 (n : Int)] 3)).heap.size = R := ⟨_, rfl⟩
      have HRR := Lib.hid hR
      have HRP : Hid (Calls Try.prog 31 #[.slice (some ⟨wr.heap.size, 0, none⟩) 1 1, .int .i64 (La : Int)] (wr.alloc (.cells #[.int .i64 (n : Int)] 3)) fun e w' => e = .returned (rowH La R) ∧ IRow w' R La (fun _ => (n : Int)) ∧ Below (wr.alloc (.cells #[.int .i64 (n : Int)] 3)).heap.size (wr.alloc (.cells #[.int .i64 (n : Int)] 3)) w') := Lib.hid (by
        rw [← hR]
        exact repeatH_any La wr.heap.size 1 (n : Int) _ hL (by have h := heap_alloc_new wr (.cells #[.int .i64 (n : Int)] 3); unfold World.cell?; rw [h]; rfl))
      clear hR
      go_wp2_with (first
        | (go_at_call 29; (with_reducible refine (HNO.out _ _ _).mono ?_); rintro e W3 ⟨rfl, rfl⟩)
        | (go_at_call 31; (with_reducible refine HRP.out.mono ?_); rintro e W5 ⟨rfl, hrow, b5⟩; (have k5 := Lib.hid (below_more (below1 _ _) (Nat.le_refl _) b5)); (have h5 := HA.out.keep k5.out); (have c4 := World.rowIs.cell h5.hl (show i < N by omega)); (rw [if_neg (Nat.lt_irrefl i)] at c4); (have f4 := World.rowIs.frozen h5.hl i); (have HP := Lib.hid (HA.out.put (R := R) (by rw [← HRR.out, World.size_alloc]; omega) k5.out hrow)); clear b5 hrow h5))
      go_roundg q
      case measure => omega
      case rel => exact ⟨i + 1, _, _, by omega, by go_num, Lib.hid (fun j l hj hl => by
        try dsimp only
        by_cases e : j = i
        · rw [if_pos e]
        · rw [if_neg e]; exact HF.out j l (by omega) hl), HP⟩
end Go.Proofs.Ytbgfllohedhmaaa

namespace Go.Proofs.Ytbgfllohedhmaaa

/-- How slices.Compare compares. -/
def cmpL : List Int → List Int → Int
  | [], [] => 0
  | [], _ :: _ => -1
  | _ :: _, [] => 1
  | x :: xs, y :: ys => if x < y then -1 else if y < x then 1 else cmpL xs ys
def slt (u v : List Int) : Prop := u.length < v.length ∨ (u.length = v.length ∧ cmpL u v < 0)
def sle (u v : List Int) : Prop := u.length < v.length ∨ (u.length = v.length ∧ cmpL u v ≤ 0)
instance (u v : List Int) : Decidable (slt u v) := by unfold slt; infer_instance
instance (u v : List Int) : Decidable (sle u v) := by unfold sle; infer_instance
theorem cmpL_refl : ∀ u, cmpL u u = 0
  | [] => rfl
  | x :: xs => by unfold cmpL; rw [if_neg (by omega), if_neg (by omega)]; exact cmpL_refl xs
theorem cmpL_vals : ∀ u v, cmpL u v = -1 ∨ cmpL u v = 0 ∨ cmpL u v = 1
  | [], [] => .inr (.inl rfl)
  | [], _ :: _ => .inl rfl
  | _ :: _, [] => .inr (.inr rfl)
  | x :: xs, y :: ys => by
    unfold cmpL
    split
    · exact .inl rfl
    · split
      · exact .inr (.inr rfl)
      · exact cmpL_vals xs ys
theorem cmpL_turn : ∀ u v, cmpL u v = - cmpL v u
  | [], [] => rfl
  | [], _ :: _ => rfl
  | _ :: _, [] => rfl
  | x :: xs, y :: ys => by
    unfold cmpL
    by_cases h1 : x < y
    · rw [if_pos h1, if_neg (by omega), if_pos h1]
    · by_cases h2 : y < x
      · rw [if_neg h1, if_pos h2, if_pos h2]; rfl
      · rw [if_neg h1, if_neg h2, if_neg h2, if_neg h1]; exact cmpL_turn xs ys
theorem cmpL_eq : ∀ {u v}, cmpL u v = 0 → u = v
  | [], [], _ => rfl
  | [], _ :: _, h => by cases h
  | _ :: _, [], h => by cases h
  | x :: xs, y :: ys, h => by
    unfold cmpL at h
    by_cases h1 : x < y
    · rw [if_pos h1] at h; cases h
    · by_cases h2 : y < x
      · rw [if_neg h1, if_pos h2] at h; cases h
      · rw [if_neg h1, if_neg h2] at h
        rw [cmpL_eq h, show x = y by omega]
theorem cmpL_trans : ∀ {u v w}, cmpL u v ≤ 0 → cmpL v w ≤ 0 → cmpL u w ≤ 0 ∧ ((cmpL u v < 0 ∨ cmpL v w < 0) → cmpL u w < 0)
  | [], [], [], _, _ => ⟨Int.le_refl _, fun h => by rcases h with h | h <;> exact absurd h (by decide)⟩
  | [], _, _ :: _, _, _ => ⟨by show (-1 : Int) ≤ 0; decide, fun _ => by show (-1 : Int) < 0; decide⟩
  | [], _ :: _, [], _, h => absurd h (by show ¬ (1 : Int) ≤ 0; decide)
  | _ :: _, [], _, h, _ => absurd h (by show ¬ (1 : Int) ≤ 0; decide)
  | _ :: _, _ :: _, [], _, h => absurd h (by show ¬ (1 : Int) ≤ 0; decide)
  | x :: xs, y :: ys, z :: zs, h1, h2 => by
    unfold cmpL at h1 h2 ⊢
    by_cases a1 : x < y
    · by_cases b1 : y < z
      · rw [if_pos (show x < z by omega)]; exact ⟨by decide, fun _ => by decide⟩
      · by_cases b2 : z < y
        · rw [if_neg b1, if_pos b2] at h2; exact absurd h2 (by decide)
        · rw [if_pos (show x < z by omega)]; exact ⟨by decide, fun _ => by decide⟩
    · by_cases a2 : y < x
      · rw [if_neg a1, if_pos a2] at h1; exact absurd h1 (by decide)
      · rw [if_neg a1, if_neg a2] at h1
        by_cases b1 : y < z
        · rw [if_pos (show x < z by omega)]; exact ⟨by decide, fun _ => by decide⟩
        · by_cases b2 : z < y
          · rw [if_neg b1, if_pos b2] at h2; exact absurd h2 (by decide)
          · rw [if_neg b1, if_neg b2] at h2
            have h3 := cmpL_trans h1 h2
            rw [if_neg (show ¬ x < z by omega), if_neg (show ¬ z < x by omega), if_neg a1, if_neg a2, if_neg b1, if_neg b2]
            exact h3
theorem cmpL_snoc : ∀ {u v : List Int} (x y : Int), u.length = v.length → cmpL (u ++ [x]) (v ++ [y]) = if cmpL u v = 0 then (if x < y then -1 else if y < x then 1 else 0) else cmpL u v
  | [], [], x, y, _ => by rw [show cmpL [] [] = 0 from rfl, if_pos rfl]; rfl
  | [], _ :: _, _, _, h => by cases h
  | _ :: _, [], _, _, h => by cases h
  | a :: u, b :: v, x, y, h => by
    have h2 : u.length = v.length := by simpa using h
    have ih := cmpL_snoc x y h2
    rw [List.cons_append, List.cons_append]
    unfold cmpL
    by_cases h3 : a < b
    · rw [if_pos h3, if_pos h3, if_neg (by decide)]
    · by_cases h4 : b < a
      · rw [if_neg h3, if_pos h4, if_neg h3, if_pos h4, if_neg (by decide)]
      · rw [if_neg h3, if_neg h4, if_neg h3, if_neg h4]; exact ih
theorem sle_refl (u : List Int) : sle u u := .inr ⟨rfl, by rw [cmpL_refl]; decide⟩
theorem slt_sle {u v : List Int} (h : slt u v) : sle u v := by unfold slt at h; unfold sle; omega
theorem sle_trans {u v w : List Int} (h1 : sle u v) (h2 : sle v w) : sle u w := by
  unfold sle at *
  rcases h1 with h1 | ⟨h1, h3⟩ <;> rcases h2 with h2 | ⟨h2, h4⟩
  · exact .inl (by omega)
  · exact .inl (by omega)
  · exact .inl (by omega)
  · exact .inr ⟨by omega, (cmpL_trans h3 h4).1⟩
theorem slt_of_slt_sle {u v w : List Int} (h1 : slt u v) (h2 : sle v w) : slt u w := by
  unfold sle slt at *
  rcases h1 with h1 | ⟨h1, h3⟩ <;> rcases h2 with h2 | ⟨h2, h4⟩
  · exact .inl (by omega)
  · exact .inl (by omega)
  · exact .inl (by omega)
  · exact .inr ⟨by omega, (cmpL_trans (by omega) h4).2 (.inl h3)⟩
theorem slt_of_sle_slt {u v w : List Int} (h1 : sle u v) (h2 : slt v w) : slt u w := by
  unfold sle slt at *
  rcases h1 with h1 | ⟨h1, h3⟩ <;> rcases h2 with h2 | ⟨h2, h4⟩
  · exact .inl (by omega)
  · exact .inl (by omega)
  · exact .inl (by omega)
  · exact .inr ⟨by omega, (cmpL_trans h3 (by omega)).2 (.inr h4)⟩
theorem slt_irrefl (u : List Int) : ¬ slt u u := by
  unfold slt; rw [cmpL_refl]; omega
theorem sle_antisymm {u v : List Int} (h1 : sle u v) (h2 : sle v u) : u = v := by
  unfold sle at *
  have h3 := cmpL_turn u v
  rcases h1 with h1 | ⟨h1, h4⟩ <;> rcases h2 with h2 | ⟨h2, h5⟩
  · omega
  · omega
  · omega
  · exact cmpL_eq (by omega)
theorem sle_or (u v : List Int) : sle u v ∨ slt v u := by
  unfold sle slt
  have h3 := cmpL_turn u v
  omega
theorem slt_snoc {u v : List Int} (x y : Int) (h : slt u v) : slt (u ++ [x]) (v ++ [y]) := by
  unfold slt at *
  rw [List.length_append, List.length_append]
  rcases h with h | ⟨h1, h2⟩
  · exact .inl (by simp; omega)
  · refine .inr ⟨by simp; omega, ?_⟩
    rw [cmpL_snoc x y h1, if_neg (by omega)]; exact h2
theorem slt_last {u : List Int} {x y : Int} (h : x < y) : slt (u ++ [x]) (u ++ [y]) := by
  refine .inr ⟨by simp, ?_⟩
  rw [cmpL_snoc x y rfl, cmpL_refl, if_pos rfl, if_pos h]; decide
theorem slt_more (u : List Int) (x : Int) : slt u (u ++ [x]) := .inl (by simp)
theorem sle_snoc {u v : List Int} (x : Int) (h : sle u v) : sle (u ++ [x]) (v ++ [x]) := by
  rcases sle_or v u with h2 | h2
  · rw [sle_antisymm h h2]; exact sle_refl _
  · exact slt_sle (slt_snoc x x h2)
/-- A search breadth first: what is found (with the word that leads to it), in order; the labels below c of number i are done, and all of the numbers before. -/
structure Bfs {α : Type} (step : α → Nat → Option α) (La : Nat) (i c : Nat) (Q : List (List Int × α)) : Prop where
  asc : Q.Pairwise fun a b => slt a.1 b.1
  top : ∀ q ∈ Q, ∀ p, Q[i]? = some p → slt q.1 (p.1 ++ [(c : Int)])
  clo : ∀ j l p b, (j < i ∧ l < La ∨ j = i ∧ l < c) → Q[j]? = some p → step p.2 l = some b → ∃ q ∈ Q, q.2 = b ∧ sle q.1 (p.1 ++ [(l : Int)])
theorem Bfs.start {α : Type} (step : α → Nat → Option α) (La : Nat) (a : α) : Bfs step La 0 0 [([], a)] := by
  refine ⟨List.pairwise_singleton _ _, fun q hq p hp => ?_, fun j l p b h _ _ => by omega⟩
  rw [List.mem_singleton] at hq
  subst hq
  exact .inl (by simp)
theorem Bfs.skip {α : Type} {step : α → Nat → Option α} {La i c : Nat} {Q : List (List Int × α)} (h : Bfs step La i c Q) {p : List Int × α} (hp : Q[i]? = some p)
    (h2 : ∀ b, step p.2 c = some b → ∃ q ∈ Q, q.2 = b) : Bfs step La i (c + 1) Q := by
  refine ⟨h.asc, fun q hq p' hp' => ?_, fun j l p' b hjl hp' hb => ?_⟩
  · exact slt_of_slt_sle (h.top q hq p' hp') (slt_sle (slt_last (by omega)))
  · by_cases h3 : j = i ∧ l = c
    · obtain ⟨rfl, rfl⟩ := h3
      rw [hp] at hp'
      injection hp' with hp'
      subst hp'
      obtain ⟨q, hq, e⟩ := h2 b hb
      exact ⟨q, hq, e, slt_sle (h.top q hq p hp)⟩
    · exact h.clo j l p' b (by omega) hp' hb
theorem Bfs.add {α : Type} {step : α → Nat → Option α} {La i c : Nat} {Q : List (List Int × α)} (h : Bfs step La i c Q) {p : List Int × α} (hp : Q[i]? = some p)
    {b : α} (h2 : step p.2 c = some b) : Bfs step La i (c + 1) (Q ++ [(p.1 ++ [(c : Int)], b)]) := by
  have hi : i < Q.length := (List.getElem?_eq_some_iff.1 hp).1
  have hold : ∀ {j : Nat}, j ≤ i → (Q ++ [(p.1 ++ [(c : Int)], b)])[j]? = Q[j]? := fun hj => List.getElem?_append_left (by omega)
  refine ⟨?_, fun q hq p' hp' => ?_, fun j l p' b' hjl hp' hb => ?_⟩
  · rw [List.pairwise_append]
    refine ⟨h.asc, List.pairwise_singleton _ _, fun x hx y hy => ?_⟩
    rw [List.mem_singleton] at hy
    subst hy
    exact h.top x hx p hp
  · rw [hold (Nat.le_refl _)] at hp'
    rw [hp] at hp'
    injection hp' with hp'
    subst hp'
    rw [List.mem_append, List.mem_singleton] at hq
    rcases hq with hq | rfl
    · exact slt_of_slt_sle (h.top q hq p hp) (slt_sle (slt_last (by omega)))
    · exact slt_last (by omega)
  · have hj : j ≤ i := by omega
    rw [hold hj] at hp'
    by_cases h3 : j = i ∧ l = c
    · obtain ⟨rfl, rfl⟩ := h3
      rw [hp] at hp'
      injection hp' with hp'
      subst hp'
      rw [h2] at hb
      injection hb with hb
      subst hb
      exact ⟨_, List.mem_append_right _ (List.mem_singleton.2 rfl), rfl, sle_refl _⟩
    · obtain ⟨q, hq, e1, e2⟩ := h.clo j l p' b' (by omega) hp' hb
      exact ⟨q, List.mem_append_left _ hq, e1, e2⟩
theorem Bfs.next {α : Type} {step : α → Nat → Option α} {La i : Nat} {Q : List (List Int × α)} (h : Bfs step La i La Q) : Bfs step La (i + 1) 0 Q := by
  refine ⟨h.asc, fun q hq p hp => ?_, fun j l p b hjl hp hb => h.clo j l p b (by omega) hp hb⟩
  have hi : i + 1 < Q.length := (List.getElem?_eq_some_iff.1 hp).1
  obtain ⟨o, ho⟩ : ∃ o, Q[i]? = some o := ⟨_, List.getElem?_eq_getElem (by omega)⟩
  have h1 := h.top q hq o ho
  have h2 : slt o.1 p.1 := by
    have h3 := List.pairwise_iff_getElem.1 h.asc i (i + 1) (by omega) hi (by omega)
    rw [List.getElem?_eq_getElem (by omega)] at ho hp
    injection ho with ho
    injection hp with hp
    rw [ho, hp] at h3
    exact h3
  exact slt_of_slt_sle h1 (slt_sle (slt_snoc _ _ h2))
/-- Where a list of labels leads. -/
def runS {α : Type} (step : α → Nat → Option α) : α → List Nat → Option α
  | a, [] => some a
  | a, l :: w => (step a l).bind fun b => runS step b w
def labsI (w : List Nat) : List Int := w.map fun (x : Nat) => (x : Int)
theorem runS_snoc {α : Type} (step : α → Nat → Option α) : ∀ (a : α) (w : List Nat) (l : Nat), runS step a (w ++ [l]) = (runS step a w).bind fun b => step b l
  | a, [], l => by
    show (step a l).bind (fun b => runS step b []) = step a l
    cases step a l <;> rfl
  | a, x :: w, l => by
    rw [List.cons_append]
    unfold runS
    cases h : step a x with
    | none => rfl
    | some b => exact runS_snoc step b w l
theorem snocI {α : Type} {P : List α → Prop} (h0 : P []) (h1 : ∀ w l, P w → P (w ++ [l])) (w : List α) : P w := by
  have h : ∀ n (w : List α), w.length = n → P w := fun n => by
    induction n with
    | zero => intro w hw; rw [List.length_eq_zero_iff] at hw; subst hw; exact h0
    | succ n ih =>
      intro w hw
      have hne : w ≠ [] := fun e => by subst e; cases hw
      rw [← List.dropLast_concat_getLast hne]
      exact h1 _ _ (ih _ (by rw [List.length_dropLast]; omega))
  exact h _ w rfl
/-- What a list of labels leads to is found, by one that is not greater; or the labels of the number i are not greater. -/
theorem Bfs.least {α : Type} {step : α → Nat → Option α} {La i : Nat} {Q : List (List Int × α)} {a : α} (h : Bfs step La i 0 Q) (h0 : ∃ q ∈ Q, q.2 = a ∧ q.1 = []) (w : List Nat) :
    (∀ l ∈ w, l < La) → ∀ b, runS step a w = some b → (∃ j q, j < i ∧ Q[j]? = some q ∧ q.2 = b ∧ sle q.1 (labsI w)) ∨ (∃ j q, i ≤ j ∧ Q[j]? = some q ∧ sle q.1 (labsI w)) := by
  refine snocI (P := fun w => (∀ l ∈ w, l < La) → ∀ b, runS step a w = some b → (∃ j q, j < i ∧ Q[j]? = some q ∧ q.2 = b ∧ sle q.1 (labsI w)) ∨ (∃ j q, i ≤ j ∧ Q[j]? = some q ∧ sle q.1 (labsI w))) ?_ ?_ w
  · intro _ b hb
    injection hb with hb
    subst hb
    obtain ⟨q, hq, e1, e2⟩ := h0
    obtain ⟨j, hj⟩ := List.mem_iff_getElem?.1 hq
    by_cases hji : j < i
    · exact .inl ⟨j, q, hji, hj, e1, by rw [e2]; exact sle_refl _⟩
    · exact .inr ⟨j, q, by omega, hj, by rw [e2]; exact sle_refl _⟩
  · intro w l ih hw b hb
    rw [runS_snoc] at hb
    have hlab : labsI (w ++ [l]) = labsI w ++ [(l : Int)] := by unfold labsI; rw [List.map_append]; rfl
    rw [hlab]
    cases hr : runS step a w with
    | none => rw [hr] at hb; cases hb
    | some m =>
      rw [hr] at hb
      rcases ih (fun x hx => hw x (List.mem_append_left _ hx)) m hr with ⟨j, q, hj, hq, rfl, hle⟩ | ⟨j, q, hj, hq, hle⟩
      · obtain ⟨q2, hq2, e, hle2⟩ := h.clo j l q b (.inl ⟨hj, hw l (by simp)⟩) hq hb
        have hle3 := sle_trans hle2 (sle_snoc (l : Int) hle)
        obtain ⟨k, hk⟩ := List.mem_iff_getElem?.1 hq2
        by_cases hki : k < i
        · exact .inl ⟨k, q2, hki, hk, e, hle3⟩
        · exact .inr ⟨k, q2, by omega, hk, hle3⟩
      · exact .inr ⟨j, q, hj, hq, sle_trans hle (slt_sle (slt_more _ _))⟩
/-- From the number i on, labels are not less than those of i. -/
theorem Bfs.from {α : Type} {step : α → Nat → Option α} {La i c : Nat} {Q : List (List Int × α)} (h : Bfs step La i c Q) {j : Nat} {p q : List Int × α} (hp : Q[i]? = some p) (hj : i ≤ j) (hq : Q[j]? = some q) : sle p.1 q.1 := by
  by_cases e : i = j
  · subst e
    rw [hp] at hq
    injection hq with hq
    subst hq
    exact sle_refl _
  · have hjl := (List.getElem?_eq_some_iff.1 hq).1
    have h3 := List.pairwise_iff_getElem.1 h.asc i j (by omega) hjl (by omega)
    rw [List.getElem?_eq_getElem (by omega)] at hp hq
    injection hp with hp
    injection hq with hq
    rw [hp, hq] at h3
    exact slt_sle h3
end Go.Proofs.Ytbgfllohedhmaaa

namespace Go.Proofs.Ytbgfllohedhmaaa
set_option linter.unusedVariables false
set_option linter.unusedSectionVars false

/-- A pair of states to which a label leads, unless neither is one. -/
def pstep (a b : Nat → Nat → Nat) (na nb : Nat) (p : Nat × Nat) (l : Nat) : Option (Nat × Nat) := if a p.1 l = na ∧ b p.2 l = nb then none else some (a p.1 l, b p.2 l)
theorem mrun_none {a : Nat → Nat → Nat} {n : Nat} (h : ∀ l, a n l = n) : ∀ w, mrun a n w = n
  | [] => rfl
  | l :: w => by rw [mrun_cons, h l]; exact mrun_none h w
theorem runS_pair {a b : Nat → Nat → Nat} {na nb : Nat} (ha : ∀ l, a na l = na) (hb : ∀ l, b nb l = nb) : ∀ (w : List Nat) (s t : Nat), ¬ (mrun a s w = na ∧ mrun b t w = nb) → runS (pstep a b na nb) (s, t) w = some (mrun a s w, mrun b t w)
  | [], _, _, _ => rfl
  | l :: w, s, t, h => by
    rw [mrun_cons, mrun_cons] at h ⊢
    unfold runS
    have h1 : ¬ (a s l = na ∧ b t l = nb) := fun e => by
      rw [e.1, e.2, mrun_none ha, mrun_none hb] at h
      exact h ⟨rfl, rfl⟩
    unfold pstep
    rw [if_neg h1]
    exact runS_pair ha hb w _ _ h
/-- A pair, the number of the one behind which it was found, the label. -/
abbrev Rec := Nat × Nat × Nat × Nat
/-- The queue of a search, with the labels that lead to each pair. -/
structure RecQ (R : List Rec) (Q : List (List Int × (Nat × Nat))) : Prop where
  len : R.length = Q.length
  at_ : ∀ (k : Nat) (r : Rec) (q : List Int × (Nat × Nat)), R[k]? = some r → Q[k]? = some q → q.2 = (r.1, r.2.1)
  par : ∀ (k : Nat) (r : Rec) (q : List Int × (Nat × Nat)), 0 < k → R[k]? = some r → Q[k]? = some q → r.2.2.1 < k ∧ ∃ p, Q[r.2.2.1]? = some p ∧ q.1 = p.1 ++ [(r.2.2.2 : Int)]
  root : ∃ s t, Q[0]? = some ([], (s, t)) ∧ R[0]? = some (s, t, 0, 0)
  nd : (Q.map (·.2)).Nodup
theorem RecQ.start (s t : Nat) : RecQ [(s, t, 0, 0)] [([], (s, t))] := by
  refine ⟨rfl, fun k r q hr hq => ?_, fun k r q hk hr hq => ?_, ⟨s, t, rfl, rfl⟩, by simp⟩
  · rcases k with _ | k
    · injection hr with hr; injection hq with hq; subst hr; subst hq; rfl
    · simp at hr
  · rcases k with _ | k
    · omega
    · simp at hr
theorem RecQ.add {R : List Rec} {Q : List (List Int × (Nat × Nat))} (h : RecQ R Q) {i : Nat} {p : List Int × (Nat × Nat)} (hp : Q[i]? = some p) (x y l : Nat) (hn : ∀ q ∈ Q, q.2 ≠ (x, y)) :
    RecQ (R ++ [(x, y, i, l)]) (Q ++ [(p.1 ++ [(l : Int)], (x, y))]) := by
  have hi := (List.getElem?_eq_some_iff.1 hp).1
  have hl := h.len
  refine ⟨by simp [hl], fun k r q hr hq => ?_, fun k r q hk hr hq => ?_, ?_, ?_⟩
  · by_cases hk : k < Q.length
    · rw [List.getElem?_append_left (by omega)] at hr hq
      exact h.at_ k r q hr hq
    · rw [List.getElem?_append_right (by omega)] at hr hq
      rw [hl] at hr
      rcases hd : k - Q.length with _ | d
      · rw [hd] at hr hq
        injection hr with hr; injection hq with hq; subst hr; subst hq; rfl
      · rw [hd] at hr; simp at hr
  · by_cases hk2 : k < Q.length
    · rw [List.getElem?_append_left (by omega)] at hr hq
      obtain ⟨h1, p2, h2, h3⟩ := h.par k r q hk hr hq
      exact ⟨h1, p2, by rw [List.getElem?_append_left (by omega)]; exact h2, h3⟩
    · rw [List.getElem?_append_right (by omega)] at hr hq
      rw [hl] at hr
      rcases hd : k - Q.length with _ | d
      · rw [hd] at hr hq
        injection hr with hr; injection hq with hq; subst hr; subst hq
        exact ⟨by show i < k; omega, p, by show (Q ++ _)[i]? = _; rw [List.getElem?_append_left (by omega)]; exact hp, rfl⟩
      · rw [hd] at hr; simp at hr
  · obtain ⟨s, t, h1, h2⟩ := h.root
    exact ⟨s, t, by rw [List.getElem?_append_left (by omega)]; exact h1, by rw [List.getElem?_append_left (by omega)]; exact h2⟩
  · rw [List.map_append, List.nodup_append]
    refine ⟨h.nd, by simp, fun x2 hx y2 hy => ?_⟩
    rw [List.mem_map] at hx
    obtain ⟨q, hq, rfl⟩ := hx
    rw [List.map_singleton, List.mem_singleton] at hy
    subst hy
    exact hn q hq
/-- What a search knows: the labels below c of number i are done, and all of the numbers before, none of which is as wanted. -/
structure SQ (D : Bool → Bool → Bool) (a b : Nat → Nat → Nat) (na nb La s t i c : Nat) (R : List Rec) (Q : List (List Int × (Nat × Nat))) : Prop where
  rq : RecQ R Q
  bfs : Bfs (pstep a b na nb) La i c Q
  run : ∀ q ∈ Q, ∃ w : List Nat, q.1 = labsI w ∧ (∀ l ∈ w, l < La) ∧ q.2 = (mrun a s w, mrun b t w)
  box : ∀ q ∈ Q, q.2.1 ≤ na ∧ q.2.2 ≤ nb
  hd : Q[0]? = some ([], (s, t))
  no : ∀ (j : Nat) (q : List Int × (Nat × Nat)), j < i → Q[j]? = some q → D (decide (q.2.1 ≠ na)) (decide (q.2.2 ≠ nb)) = false
section
variable {D : Bool → Bool → Bool} {a b : Nat → Nat → Nat} {na nb La s t i c : Nat} {R : List Rec} {Q : List (List Int × (Nat × Nat))}
theorem SQ.start (D : Bool → Bool → Bool) (a b : Nat → Nat → Nat) (La : Nat) (hs : s ≤ na) (ht : t ≤ nb) : SQ D a b na nb La s t 0 0 [(s, t, 0, 0)] [([], (s, t))] := by
  refine ⟨RecQ.start s t, Bfs.start _ _ _, fun q hq => ?_, fun q hq => ?_, rfl, fun j q hj => by omega⟩
  · rw [List.mem_singleton] at hq; subst hq; exact ⟨[], rfl, (fun l hl => by cases hl), rfl⟩
  · rw [List.mem_singleton] at hq; subst hq; exact ⟨hs, ht⟩
theorem SQ.skip0 (h : SQ D a b na nb La s t i c R Q) {p : List Int × (Nat × Nat)} (hp : Q[i]? = some p) (h2 : a p.2.1 c = na ∧ b p.2.2 c = nb) : SQ D a b na nb La s t i (c + 1) R Q :=
  ⟨h.rq, h.bfs.skip hp (fun x hx => by unfold pstep at hx; rw [if_pos h2] at hx; cases hx), h.run, h.box, h.hd, h.no⟩
theorem SQ.skip1 (h : SQ D a b na nb La s t i c R Q) {p : List Int × (Nat × Nat)} (hp : Q[i]? = some p) (h2 : ∃ q ∈ Q, q.2 = (a p.2.1 c, b p.2.2 c)) : SQ D a b na nb La s t i (c + 1) R Q :=
  ⟨h.rq, h.bfs.skip hp (fun x hx => by
    unfold pstep at hx
    split at hx
    · cases hx
    · injection hx with hx; subst hx; exact h2), h.run, h.box, h.hd, h.no⟩
theorem SQ.add (h : SQ D a b na nb La s t i c R Q) (hc : c < La) (hA : ∀ x l, x ≤ na → a x l ≤ na) (hB : ∀ x l, x ≤ nb → b x l ≤ nb) {p : List Int × (Nat × Nat)} (hp : Q[i]? = some p) (h1 : ¬ (a p.2.1 c = na ∧ b p.2.2 c = nb)) (h2 : ∀ q ∈ Q, q.2 ≠ (a p.2.1 c, b p.2.2 c)) :
    SQ D a b na nb La s t i (c + 1) (R ++ [(a p.2.1 c, b p.2.2 c, i, c)]) (Q ++ [(p.1 ++ [(c : Int)], (a p.2.1 c, b p.2.2 c))]) := by
  have hi := (List.getElem?_eq_some_iff.1 hp).1
  refine ⟨h.rq.add hp _ _ _ h2, h.bfs.add hp (by unfold pstep; rw [if_neg h1]), fun q hq => ?_, fun q hq => ?_, ?_, fun j q hj hq => ?_⟩
  · rw [List.mem_append, List.mem_singleton] at hq
    rcases hq with hq | rfl
    · exact h.run q hq
    · obtain ⟨w, e1, e2, e3⟩ := h.run p (List.mem_of_getElem? hp)
      refine ⟨w ++ [c], ?_, fun l hl => ?_, ?_⟩
      · show p.1 ++ [(c : Int)] = _
        rw [e1]; unfold labsI; rw [List.map_append]; rfl
      · rw [List.mem_append, List.mem_singleton] at hl
        rcases hl with hl | rfl
        · exact e2 l hl
        · exact hc
      · rw [mrun_snoc, mrun_snoc, e3]
  · rw [List.mem_append, List.mem_singleton] at hq
    rcases hq with hq | rfl
    · exact h.box q hq
    · have := h.box p (List.mem_of_getElem? hp)
      exact ⟨hA _ _ this.1, hB _ _ this.2⟩
  · rw [List.getElem?_append_left (by omega)]; exact h.hd
  · rw [List.getElem?_append_left (by omega)] at hq
    exact h.no j q hj hq
theorem SQ.next (h : SQ D a b na nb La s t i La R Q) {p : List Int × (Nat × Nat)} (hp : Q[i]? = some p) (hd : D (decide (p.2.1 ≠ na)) (decide (p.2.2 ≠ nb)) = false) : SQ D a b na nb La s t (i + 1) 0 R Q :=
  ⟨h.rq, h.bfs.next, h.run, h.box, h.hd, fun j q hj hq => by
    by_cases e : j = i
    · subst e
      rw [hp] at hq
      injection hq with hq
      subst hq
      exact hd
    · exact h.no j q (by omega) hq⟩
/-- Labels that lead to a pair that is as wanted. -/
def Dif (D : Bool → Bool → Bool) (a b : Nat → Nat → Nat) (na nb s t : Nat) (w : List Nat) : Bool := D (decide (mrun a s w ≠ na)) (decide (mrun b t w ≠ nb))
/-- The result: the first such list of labels, if there is one. -/
def FW (D : Bool → Bool → Bool) (a b : Nat → Nat → Nat) (na nb La s t : Nat) (u : List Int) (is : Bool) : Prop :=
  (is = true ∧ ∃ w : List Nat, u = labsI w ∧ (∀ l ∈ w, l < La) ∧ Dif D a b na nb s t w = true ∧ ∀ w' : List Nat, (∀ l ∈ w', l < La) → Dif D a b na nb s t w' = true → sle u (labsI w')) ∨
  (is = false ∧ u = [] ∧ ∀ w : List Nat, (∀ l ∈ w, l < La) → Dif D a b na nb s t w = false)
theorem SQ.cover (h : SQ D a b na nb La s t i 0 R Q) (hD : D false false = false) (ha : ∀ l, a na l = na) (hb : ∀ l, b nb l = nb) {w : List Nat} (hw : ∀ l ∈ w, l < La) (hd : Dif D a b na nb s t w = true) : ∃ j q, i ≤ j ∧ Q[j]? = some q ∧ sle q.1 (labsI w) := by
  have hne : ¬ (mrun a s w = na ∧ mrun b t w = nb) := fun e => by
    unfold Dif at hd
    rw [e.1, e.2] at hd
    simp [hD] at hd
  rcases h.bfs.least ⟨_, List.mem_of_getElem? h.hd, rfl, rfl⟩ w hw _ (runS_pair ha hb w s t hne) with ⟨j, q, hj, hq, e, -⟩ | h2
  · have h3 := h.no j q hj hq
    rw [e] at h3
    unfold Dif at hd
    rw [hd] at h3
    cases h3
  · exact h2
theorem SQ.found (h : SQ D a b na nb La s t i 0 R Q) (hD : D false false = false) (ha : ∀ l, a na l = na) (hb : ∀ l, b nb l = nb) {p : List Int × (Nat × Nat)} (hp : Q[i]? = some p) (hd : D (decide (p.2.1 ≠ na)) (decide (p.2.2 ≠ nb)) = true) : FW D a b na nb La s t p.1 true := by
  obtain ⟨w, e1, e2, e3⟩ := h.run p (List.mem_of_getElem? hp)
  refine .inl ⟨rfl, w, e1, e2, ?_, fun w' hw' hd' => ?_⟩
  · unfold Dif
    rw [e3] at hd
    exact hd
  · obtain ⟨j, q, hj, hq, hle⟩ := h.cover hD ha hb hw' hd'
    exact sle_trans (h.bfs.from hp hj hq) hle
theorem SQ.none (h : SQ D a b na nb La s t i 0 R Q) (hi : Q.length ≤ i) (hD : D false false = false) (ha : ∀ l, a na l = na) (hb : ∀ l, b nb l = nb) : FW D a b na nb La s t [] false := by
  refine .inr ⟨rfl, rfl, fun w hw => ?_⟩
  cases hd : Dif D a b na nb s t w with
  | false => rfl
  | true =>
    obtain ⟨j, q, hj, hq, -⟩ := h.cover hD ha hb hw hd
    have := (List.getElem?_eq_some_iff.1 hq).1
    omega
def boxL (n m : Nat) : List (Nat × Nat) := (List.range n).flatMap fun x => (List.range m).map fun y => (x, y)
theorem boxL_len (m : Nat) : ∀ n, (boxL n m).length = n * m
  | 0 => by unfold boxL; simp
  | n + 1 => by
    have ih := boxL_len m n
    unfold boxL at ih ⊢
    rw [List.range_succ, List.flatMap_append, List.length_append, ih, Nat.succ_mul]; simp
theorem boxL_mem {n m x y : Nat} (hx : x < n) (hy : y < m) : (x, y) ∈ boxL n m := by
  unfold boxL
  rw [List.mem_flatMap]
  exact ⟨x, List.mem_range.2 hx, List.mem_map.2 ⟨y, List.mem_range.2 hy, rfl⟩⟩
theorem nodup_leH {α : Type} [DecidableEq α] : ∀ {l m : List α}, l.Nodup → (∀ x ∈ l, x ∈ m) → l.length ≤ m.length
  | [], _, _, _ => Nat.zero_le _
  | x :: l, m, h, hm => by
    rw [List.nodup_cons] at h
    have hx := hm x (by simp)
    have h2 := nodup_leH (m := m.erase x) h.2 (fun y hy => (List.mem_erase_of_ne (fun (e : y = x) => h.1 (by rw [← e]; exact hy))).2 (hm y (by simp [hy])))
    have h3 := List.length_erase_of_mem hx
    have h4 : 0 < m.length := List.length_pos_of_mem hx
    rw [List.length_cons]
    omega
theorem SQ.size (h : SQ D a b na nb La s t i c R Q) : Q.length ≤ (na + 1) * (nb + 1) := by
  have h1 := nodup_leH (m := boxL (na + 1) (nb + 1)) h.rq.nd (fun x hx => by
    rw [List.mem_map] at hx
    obtain ⟨q, hq, rfl⟩ := hx
    have := h.box q hq
    exact boxL_mem (x := q.2.1) (y := q.2.2) (Nat.lt_succ_of_le this.1) (Nat.lt_succ_of_le this.2))
  rwa [List.length_map, boxL_len] at h1
end
end Go.Proofs.Ytbgfllohedhmaaa
