/- What subset.pathsFrom returns: the numbers of paths. Conditions: at most 64 states and 1024 edges; every number that is met is below 2^64. What grooveref12.Same and SameSets return; groovelaw12.even; subset.Count where the number is 7. Conditions: all can be read. What subset.Count returns at the example's graph, and groovelaw12.awake: true. Condition: the library's table reads as its text lays it. -/
import Derived.Test.YtblkijdodojaeaaDoorQ23
import Derived.Test.YtblkijdodojaeaaDoorQ10

namespace Go.Proofs.YtblkijdodojaeaaDoor
open Go.RowKit
set_option linter.unusedSimpArgs false
set_option linter.unusedVariables false

def addF (F f : Nat → Nat) (e : E3) : Nat → Nat := fun s => if (s : Int) = e.1 then f s + F e.2.2.toNat else f s
def lonF (F : Nat → Nat) (es : List E3) : Nat → Nat := es.foldl (addF F) fun _ => 0
theorem lonF_snoc (F : Nat → Nat) (es : List E3) (e : E3) : lonF F (es ++ [e]) = addF F (lonF F es) e := by unfold lonF; rw [List.foldl_append]; rfl
def wayF (es : List E3) : Nat → Nat → Nat
  | 0 => fun _ => 1
  | k + 1 => lonF (wayF es k) es
def DigRd (W : World) (u : Value) (x : Nat) : Prop := (u = .slice none 0 0 ∧ x = 0) ∨ ∃ q c, u = .slice (some ⟨q, 0, none⟩) 1 c ∧ W.cell? ⟨q, 0, none⟩ = some (u64v x)
theorem DigRd.keep {W W' : World} {u : Value} {x : Nat} (h : DigRd W u x) (hb : Below W.heap.size W W') : DigRd W' u x := by
  rcases h with h | ⟨q, c, h1, h2⟩
  · exact .inl h
  · exact .inr ⟨q, c, h1, cell_keep h2 hb⟩
/-- The numbers, read. -/
def NumRd (W : World) (v : Value) (n : Nat) (F : Nat → Nat) : Prop := ∃ b, v = .slice (some ⟨b, 0, none⟩) n n ∧ b < W.heap.size ∧ ∀ s, s < n → ∃ u, W.cell? ⟨b, s, none⟩ = some u ∧ DigRd W u (F s)
theorem NumRd.keep {W W' : World} {v : Value} {n : Nat} {F : Nat → Nat} (h : NumRd W v n F) (hb : Below W.heap.size W W') : NumRd W' v n F := by
  obtain ⟨b, h1, h0, h2⟩ := h
  exact ⟨b, h1, Nat.lt_of_lt_of_le h0 hb.size, fun s hs => by
    obtain ⟨u, k1, k2⟩ := h2 s hs
    exact ⟨u, cell_keep k1 hb, k2.keep hb⟩⟩
def DigW (W : World) (A : Nat) (u : Value) (x : Nat) : Prop := (u = .slice none 0 0 ∧ x = 0) ∨ ∃ g c, u = .slice (some ⟨g, 0, none⟩) 1 c ∧ Dig W A g c x
theorem DigW.own {W : World} {A : Nat} {u : Value} {x : Nat} (h : DigW W A u x) {k : Nat} (hk : u.ownBlock = some k) : A ≤ k ∧ k < W.heap.size ∧ ∃ c fr, W.heap[k]? = some (.cells c 74 fr) := by
  rcases h with ⟨rfl, _⟩ | ⟨g, c, rfl, h2⟩
  · simp [Value.ownBlock] at hk
  · obtain ⟨h3, h4⟩ := World.ownsRow.lt h2 k hk
    exact ⟨h3, h4, row_cells h2 hk⟩
theorem DigW.kept {W W' : World} {A : Nat} {u : Value} {x : Nat} {row : Option Nat} (h : DigW W A u x) (hg : W.grownBy W' row) (hr : ∀ k, u.ownBlock = some k → row ≠ some k) : DigW W' A u x := by
  rcases h with h | ⟨g, c, rfl, h2⟩
  · exact .inl h
  · exact .inr ⟨g, c, rfl, World.ownsRow.kept h2 hg (.inr (fun e => hr g rfl e.symm))⟩
structure LongW (b n : Nat) (us : Nat → Value) (f : Nat → Nat) (W : World) : Prop where
  row : W.rowIs b 87 n us
  own : ∀ s, s < n → DigW W (b + 1) (us s) (f s)
  apart : ∀ s t, s < n → t < n → s ≠ t → ∀ k, (us s).ownBlock = some k → (us t).ownBlock ≠ some k
theorem LongW.keep {b n : Nat} {us : Nat → Value} {f : Nat → Nat} {W W' : World} (h : LongW b n us f W) (hb : Below W.heap.size W W') : LongW b n us f W' :=
  ⟨World.rowIs.of_block h.row (hb.block b (World.rowIs.lt h.row)), fun s hs => (h.own s hs).kept (grown_none hb) (fun k _ => by simp), h.apart⟩
theorem LongW.made (w : World) (n : Nat) : LongW w.heap.size n (fun _ => .slice none 0 0) (fun _ => 0) (w.alloc (.cells (madeCells #[.slice none 0 0] n) 87)) :=
  ⟨World.rowIs_made w _ n _, fun s hs => .inl ⟨rfl, rfl⟩, fun s t _ _ _ k hk => by simp [Value.ownBlock] at hk⟩
theorem LongW.app {b n x y : Nat} {us : Nat → Value} {f : Nat → Nat} {W W' : World} {v' : Value} (h : LongW b n us f W) (hx : x < n) (hg : W.grownBy W' (us x).ownBlock) (hd : DigW W' (b + 1) v' y) (hv : ∀ k, v'.ownBlock = some k → (us x).ownBlock = some k ∨ W.heap.size ≤ k) :
    LongW b n (fun j => if j = x then v' else us j) (fun j => if j = x then y else f j) (W'.setCell ⟨b, x, none⟩ v') := by
  have hbl := World.rowIs.lt h.row
  have hrow : W'.rowIs b 87 n us := World.rowIs.of_block h.row (hg.block b hbl (fun e => by have := ((h.own x hx).own e.symm).1; omega))
  have hset := grownBy_setCellJ W' b x v'
  refine ⟨World.rowIs.set hrow x v', fun s hs => ?_, fun s t hs ht hst k hk => ?_⟩
  · by_cases e : s = x
    · subst e
      rw [if_pos rfl, if_pos rfl]
      exact hd.kept hset (fun k hk e => by injection e with e; subst e; have := (hd.own hk).1; omega)
    · rw [if_neg e, if_neg e]
      have h1 := (h.own s hs).kept hg (fun k hk e2 => h.apart x s hx hs (Ne.symm e) k e2 hk)
      exact h1.kept hset (fun k hk e => by injection e with e; subst e; have := (h1.own hk).1; omega)
  · by_cases e : s = x
    · subst e
      rw [if_pos rfl] at hk
      rw [if_neg (Ne.symm hst)]
      rcases hv k hk with h1 | h1
      · exact h.apart s t hs ht hst k h1
      · exact fun e2 => by have := ((h.own t ht).own e2).2.1; omega
    · rw [if_neg e] at hk
      by_cases e3 : t = x
      · subst e3
        rw [if_pos rfl]
        intro e2
        rcases hv k e2 with h1 | h1
        · exact h.apart s t hs ht hst k hk h1
        · have := ((h.own s hs).own hk).2.1; omega
      · rw [if_neg e3]; exact h.apart s t hs ht hst k hk
theorem LongW.num {b n : Nat} {us : Nat → Value} {f : Nat → Nat} {W : World} (h : LongW b n us f W) : NumRd W (.slice (some ⟨b, 0, none⟩) n n) n f :=
  ⟨b, rfl, World.rowIs.lt h.row, fun s hs => ⟨us s, World.rowIs.cell h.row hs, by
    rcases h.own s hs with h1 | ⟨g, c, h1, h2⟩
    · exact .inl h1
    · exact .inr ⟨g, c, h1, h2.cell⟩⟩⟩
/-- A sum in a row of its own. -/
theorem plus_row (A : Nat) (v u : Value) (x y : Nat) (w : World) (hA : A ≤ w.heap.size) (hv : DigW w A v x) (hu : DigRd w u y) (hxy : x + y < 18446744073709551616) :
    Calls Tryd.prog 91 #[v, u] w fun e w' => ∃ v', e = .returned v' ∧ DigW w' A v' (x + y) ∧ w.grownBy w' v.ownBlock ∧ (∀ k, v'.ownBlock = some k → v.ownBlock = some k ∨ w.heap.size ≤ k) ∧ (∃ a n c, v' = .slice a n c) := by
  rcases hu with ⟨rfl, rfl⟩ | ⟨q, c2, rfl, hc⟩
  · have hf : ∃ a n c, v = .slice a n c := by
      rcases hv with ⟨h, _⟩ | ⟨g, c, h, _⟩
      · exact ⟨_, _, _, h⟩
      · exact ⟨_, _, _, h⟩
    obtain ⟨a, n, c, hvv⟩ := hf
    subst hvv
    refine (plus_none a n c w).mono ?_
    rintro e w' ⟨he, rfl⟩
    exact ⟨_, he, by rw [Nat.add_zero]; exact hv, World.grownBy.refl _ _, fun k hk => .inl hk, _, _, _, rfl⟩
  · rcases hv with ⟨rfl, rfl⟩ | ⟨g, c, rfl, hd⟩
    · refine (plus_new q 0 c2 y w hc (by omega)).mono ?_
      rintro e w' ⟨g, c, he, h1, h2⟩
      exact ⟨_, he, .inr ⟨g, c, rfl, by rw [Nat.zero_add]; exact own_low h1 hA⟩, grown_none h2, fun k hk => .inr (World.ownsRow.lt h1 k hk).1, _, _, _, rfl⟩
    · refine (plus_two A g c q 0 c2 x y w hd hc hxy).mono ?_
      rintro e w' ⟨he, rfl⟩
      exact ⟨_, he, .inr ⟨g, c, rfl, hd.set _⟩, grownBy_setCellJ w g 0 _, fun k hk => .inl hk, _, _, _, rfl⟩
def SP (P0 b bn x z : Nat) (u1 u2 : Value) (W : World) : Prop := W.cell? ⟨P0, 0, none⟩ = some (.int .i64 (x : Int)) ∧ W.cell? ⟨P0, 2, none⟩ = some (.int .i64 (z : Int)) ∧ W.cell? ⟨b, x, none⟩ = some u1 ∧ W.cell? ⟨bn, z, none⟩ = some u2
theorem sp_grown {P0 b bn x z : Nat} {u1 u2 : Value} {W W' : World} (h : SP P0 b bn x z u1 u2 W) {row : Option Nat} (hg : W.grownBy W' row) (h0 : row ≠ some P0) (h1 : row ≠ some b) (h2 : row ≠ some bn) : SP P0 b bn x z u1 u2 W' := by
  have k : ∀ {p o : Nat} {y : Value}, W.cell? ⟨p, o, none⟩ = some y → row ≠ some p → W'.cell? ⟨p, o, none⟩ = some y := fun {p o y} hc hr =>
    (World.cell?_of_block (w := W) (a := ⟨p, o, none⟩) (hg.block p (World.block_lt_of_cell? W ⟨p, o, none⟩ hc) (Ne.symm hr))).trans hc
  exact ⟨k h.1 h0, k h.2.1 h0, k h.2.2.1 h1, k h.2.2.2 h2⟩
set_option maxRecDepth 100000 in
set_option maxHeartbeats 12800000 in
theorem paths_any (La : Int) (n N : Nat) (es : List E3) (v : Value) (w : World) (hrd : EdgesRd w v es) (hn : n ≤ 64) (hN : N ≤ 100000) (hlen : es.length ≤ 1024) (hes : ∀ e ∈ es, 0 ≤ e.1 ∧ e.1 < (n : Int) ∧ 0 ≤ e.2.2 ∧ e.2.2 < (n : Int))
    (hB : ∀ k, k < N → ∀ i, i ≤ es.length → ∀ s, s < n → lonF (wayF es k) (es.take i) s < 18446744073709551616) :
    Calls Tryd.prog 57 #[grV La (n : Int) v, .int .i64 (N : Int)] w fun e w' => ∃ u, e = .returned u ∧ NumRd w' u n (wayF es N) ∧ Below w.heap.size w w' := by
  have hmx : Tryd.prog.follows .mixedOrders = true := by kernel_rfl
  have HMN := make_nats n (by omega)
  have HRD := Lib.hid hrd
  have HES := Lib.hid hes
  have HBB := Lib.hid hB
  obtain ⟨a, c, rfl⟩ := hrd.form
  obtain ⟨W1, hW1⟩ : ∃ W1, ((w.alloc (.cells #[.int .i64 La, .int .i64 (n : Int), .slice a es.length c] 24)).alloc (.cells #[.int .u64 1] 74)).alloc (.cells #[.slice (some ⟨w.heap.size + 1, 0, none⟩) 1 1] 87) = W1 := ⟨_, rfl⟩
  have z1 : W1.heap.size = w.heap.size + 3 := by rw [← hW1, World.size_alloc, World.size_alloc, World.size_alloc]
  have G1 := Lib.hid (show BoxG W1 w.heap.size La (n : Int) (.slice a es.length c) by rw [← hW1]; exact ((BoxG.new w La (n : Int) _ _).keep (below1 _ _)).keep (below1 _ _))
  have B1 := Lib.hid (show Below w.heap.size w W1 by rw [← hW1]; exact below_more (below_more (below1 w _) (Nat.le_refl _) (below1 _ _)) (Nat.le_refl _) (below1 _ _))
  have D1 := Lib.hid (show W1.cell? ⟨w.heap.size + 1, 0, none⟩ = some (u64v 1) by
    rw [← hW1]
    have y1 := (Boxed.new (w.alloc (.cells #[.int .i64 La, .int .i64 (n : Int), .slice a es.length c] 24)) 74 (u64v 1)).cell
    rw [World.size_alloc] at y1
    exact cell_keep y1 (below1 _ _))
  have E1 : W1.cell? ⟨w.heap.size + 1 + 1, 0, none⟩ = some (oneV (w.heap.size + 1)) := by
    rw [← hW1]
    have y1 := (Boxed.new ((w.alloc (.cells #[.int .i64 La, .int .i64 (n : Int), .slice a es.length c] 24)).alloc (.cells #[.int .u64 1] 74)) 87 (oneV (w.heap.size + 1))).cell
    rw [World.size_alloc, World.size_alloc] at y1
    exact y1
  have HRP := Lib.hid (repeatN_any n (w.heap.size + 1 + 1) 1 (w.heap.size + 1) W1 hn E1)
  obtain ⟨x1, x2, x3⟩ := id G1.out
  have HW := Lib.hid hW1
  clear hrd hes hB E1
  go_enter Tryd.func57, Tryd.ntmps57
  go_wp2_with (go_at_call 90; (with_reducible refine HRP.out.mono ?_); rintro e W2 ⟨rfl, hrow, b2⟩)
  have G2 := Lib.hid (G1.out.keep b2)
  have B2 := Lib.hid (show Below w.heap.size w W2 from B1.out.trans (b2.mono (by omega)))
  have NU := Lib.hid (show NumRd W2 (.slice (some ⟨W1.heap.size, 0, none⟩) n n) n (wayF es 0) from ⟨W1.heap.size, rfl, World.rowIs.lt hrow, fun s hs => ⟨_, World.rowIs.cell hrow hs, .inr ⟨_, _, rfl, cell_keep D1.out b2⟩⟩⟩)
  rw [z1] at NU
  have hs2 : w.heap.size + 3 ≤ W2.heap.size := by have := b2.size; omega
  clear x1 x2 x3 hrow b2 G1 B1 D1 HRP
  go_loopg [5, 15] N (fun q s5 s15 wx => ∃ i : Nat, i + q = N ∧ s15 = .int .i64 (i : Int) ∧ Hid (NumRd wx s5 n (wayF es i)) ∧ Hid (BoxG wx w.heap.size La (n : Int) (.slice a es.length c)) ∧ Hid (Below w.heap.size w wx) ∧ w.heap.size + 3 ≤ wx.heap.size)
  case atStart => exact ⟨0, by omega, rfl, NU, G2, B2, hs2⟩
  case round =>
    clear NU G2 B2 hs2
    obtain ⟨i, hin, rfl, NU, G, B, hsz⟩ := hrel
    obtain ⟨bn, rfl, hbn, hnum⟩ := id NU.out
    rcases gk with _ | q
    · obtain rfl : i = N := by omega
      go_wp2_with fail
      go_ret
      exact ⟨_, rfl, NU.out, B.out⟩
    · obtain ⟨x1, x2, x3⟩ := id G.out
      have j1 : (i : Int) < (N : Int) := by omega
      have hb1 := below1 wr (.cells (madeCells #[.slice none 0 0] n) 87)
      obtain ⟨y1, y2, y3⟩ := id (G.out.keep hb1)
      have L0 := Lib.hid (LongW.made wr n)
      have T0 := Lib.hid hb1
      have HNUM := Lib.hid hnum
      clear hnum hb1
      go_upto_region 6 with fail
      clear x1 x2 x3 y1 y2 y3
      obtain ⟨Wo, hWo⟩ : ∃ Wo, Wo = wr := ⟨_, rfl⟩
      rw [← hWo] at hsz hbn L0 T0 NU G B HNUM ⊢
      obtain ⟨b, hb⟩ : ∃ b, Wo.heap.size = b := ⟨_, rfl⟩
      rw [hb] at L0 T0 hbn hsz ⊢
      clear hWo
      generalize Wo.alloc (.cells (madeCells #[.slice none 0 0] n) 87) = W3 at *
      go_loopg [23] es.length (fun q s23 wx => ∃ (k : Nat) (us : Nat → Value), k + q = es.length ∧ s23 = .int .i64 (k : Int) ∧ Hid (LongW b n us (lonF (wayF es i) (es.take k)) wx) ∧ Hid (Below b Wo wx))
      case atStart => exact ⟨0, _, by omega, rfl, L0, T0⟩
      case round =>
        clear L0 T0
        obtain ⟨k, us, hkn, rfl, LW, T⟩ := hrel
        rcases gk with _ | q2
        · obtain rfl : k = es.length := by omega
          have HE := Lib.hid (List.take_length (l := es))
          have HT2 := Lib.hid (show Below Wo.heap.size Wo wr by rw [hb]; exact T.out)
          go_wp2_with fail
          go_roundg q
          case measure => omega
          case rel =>
            refine ⟨i + 1, by omega, by go_num, Lib.hid ?_, Lib.hid (G.out.keep HT2.out), Lib.hid (B.out.trans (HT2.out.mono (by omega))), by have := HT2.out.size; omega⟩
            have h1 := LW.out.num
            rw [HE.out] at h1
            exact h1
        · obtain ⟨e, he⟩ : ∃ e, es[k]? = some e := ⟨_, List.getElem?_eq_getElem (by omega)⟩
          have hek := HES.out e (List.mem_of_getElem? he)
          have HT2 := Lib.hid (show Below Wo.heap.size Wo wr by rw [hb]; exact T.out)
          obtain ⟨bb, off, c', hv, k1, k2, k3⟩ := ((HRD.out.keep B.out).keep HT2.out).at he
          injection hv with e1 e2 e3
          subst e1
          subst e3
          have HT := Lib.hid (take_snoc he)
          obtain ⟨x, y, z⟩ := e
          dsimp only at hek k1 k2 k3
          obtain ⟨hx0, hx1, hz0, hz1⟩ := hek
          obtain ⟨x, rfl⟩ : ∃ m : Nat, x = (m : Int) := ⟨x.toNat, by omega⟩
          obtain ⟨z, rfl⟩ : ∃ m : Nat, z = (m : Int) := ⟨z.toNat, by omega⟩
          have hxn : x < n := by omega
          have hzn : z < n := by omega
          have o1 := below1 wr (.cells #[.int .i64 (x : Int), .int .i64 y, .int .i64 (z : Int)] 63)
          have L1 := Lib.hid (LW.out.keep o1)
          have T1 := Lib.hid (show Below b Wo (wr.alloc (.cells #[.int .i64 (x : Int), .int .i64 y, .int .i64 (z : Int)] 63)) from T.out.alloc (by have := T.out.size; omega) _)
          have X1 := Box3.new wr (x : Int) y (z : Int) 63
          have XH := heap_alloc_new wr (.cells #[.int .i64 (x : Int), .int .i64 y, .int .i64 (z : Int)] 63)
          have j2 : (k : Int) < (es.length : Int) := by omega
          have j3 : (x : Int) < (n : Int) := by omega
          have j4 : (z : Int) < (n : Int) := by omega
          have hbd := HBB.out i (by omega) (k + 1) (by omega) x hxn
          rw [HT.out, lonF_snoc] at hbd
          unfold addF at hbd
          dsimp only at hbd
          rw [if_pos rfl, Int.toNat_natCast] at hbd
          go_upto_region 8 with fail
          obtain ⟨W1, hW1⟩ : ∃ W1, wr.alloc (.cells #[.int .i64 (x : Int), .int .i64 y, .int .i64 (z : Int)] 63) = W1 := ⟨_, rfl⟩
          obtain ⟨P0, hP0⟩ : ∃ P0, wr.heap.size = P0 := ⟨_, rfl⟩
          rw [hP0] at X1 XH
          rw [hW1] at L1 X1 T1 XH ⊢
          rw [hP0]
          obtain ⟨x1, x2, x3, -, -, -⟩ := id X1
          obtain ⟨u2, hu2, hd2⟩ := HNUM.out z hzn
          have HT3 : Below Wo.heap.size Wo W1 := by rw [hb]; exact T1.out
          have cu2 := cell_keep hu2 HT3
          have du2 := hd2.keep HT3
          have cu1 := World.rowIs.cell L1.out.row hxn
          have ho1 := L1.out.own x hxn
          have HPL := Lib.hid (plus_row (b + 1) (us x) u2 (lonF (wayF es i) (es.take k) x) (wayF es i z) W1.drew (by have := World.rowIs.lt L1.out.row; show b + 1 ≤ W1.heap.size; omega) (by exact ho1) (by exact du2) hbd)
          have HO := Lib.hid (fun kk (hk : (us x).ownBlock = some kk) => ho1.own hk)
          obtain ⟨au, nu, cu, hus⟩ : ∃ a n c, us x = .slice a n c := by
            rcases ho1 with ⟨h, _⟩ | ⟨g, c, h, _⟩
            · exact ⟨_, _, _, h⟩
            · exact ⟨_, _, _, h⟩
          obtain ⟨au2, nu2, cu3, hus2⟩ : ∃ a n c, u2 = .slice a n c := by
            rcases hd2 with ⟨h, _⟩ | ⟨g, c, h, _⟩
            · exact ⟨_, _, _, h⟩
            · exact ⟨_, _, _, h⟩
          subst hus2
          have HUS := Lib.hid hus
          rw [hus] at cu1 HPL HO
          have hR0 : SP P0 b bn x z (.slice au nu cu) (.slice au2 nu2 cu3) W1.drew := ⟨x1, x3, cu1, cu2⟩
          have hP1 : (Value.slice au nu cu).ownBlock ≠ some P0 := fun e => by
            obtain ⟨_, _, cc, fr, h5⟩ := HO.out P0 e
            rw [XH] at h5
            injection h5 with h5
            injection h5 with _ h5 _
            exact absurd h5 (by decide)
          have hP2 : (Value.slice au nu cu).ownBlock ≠ some b := fun e => by have := (HO.out b e).1; omega
          have hP3 : (Value.slice au nu cu).ownBlock ≠ some bn := fun e => by have := (HO.out bn e).1; omega
          clear hW1 hP0 k1 k2 k3 X1 LW e2 he o1 hus ho1 hu2 hd2 cu1 cu2 du2 x1 x2 x3 T XH HT3
          -- region 8
          refine regionT (T := T2 15 15 (SP P0 b bn x z (.slice au nu cu) (.slice au2 nu2 cu3)) (SP P0 b bn x z (.slice au nu cu) (.slice au2 nu2 cu3))) hmx ?_
          have hR := hR0
          refine take1 (i := 0) (v := ?_) rfl (by kernel_rfl) (by kernel_rfl) (by kernel_rfl) (by kernel_rfl) (by kernel_rfl) (by decide) (by decide) (fun _ _ _ h => h) (Or.inl ⟨by rfl, ?_⟩) hR hR ?_
          rotate_left
          · intro w hSw
            (try unfold SP at hSw)
            go_simp
            all_goals with_reducible rfl
          (try simp only [Act.put, List.setIfInBounds_toArray, List.set_cons_zero, List.set_cons_succ])
          refine take1 (i := 1) (v := ?_) rfl (by kernel_rfl) (by kernel_rfl) (by kernel_rfl) (by kernel_rfl) (by kernel_rfl) (by decide) (by decide) (fun _ _ _ h => h) (Or.inl ⟨by rfl, ?_⟩) hR hR ?_
          rotate_left
          · intro w hSw
            (try unfold SP at hSw)
            go_simp
            all_goals with_reducible rfl
          (try simp only [Act.put, List.setIfInBounds_toArray, List.set_cons_zero, List.set_cons_succ])
          refine take1 (i := 2) (v := ?_) rfl (by kernel_rfl) (by kernel_rfl) (by kernel_rfl) (by kernel_rfl) (by kernel_rfl) (by decide) (by decide) (fun _ _ _ h => h) (Or.inl ⟨by rfl, ?_⟩) hR hR ?_
          rotate_left
          · intro w hSw
            (try unfold SP at hSw)
            go_simp
            all_goals with_reducible rfl
          (try simp only [Act.put, List.setIfInBounds_toArray, List.set_cons_zero, List.set_cons_succ])
          refine take1 (i := 3) (v := ?_) rfl (by kernel_rfl) (by kernel_rfl) (by kernel_rfl) (by kernel_rfl) (by kernel_rfl) (by decide) (by decide) (fun _ _ _ h => h) (Or.inl ⟨by rfl, ?_⟩) hR hR ?_
          rotate_left
          · intro w hSw
            (try unfold SP at hSw)
            go_simp
            all_goals with_reducible rfl
          (try simp only [Act.put, List.setIfInBounds_toArray, List.set_cons_zero, List.set_cons_succ])
          refine take1 (i := 4) (v := ?_) rfl (by kernel_rfl) (by kernel_rfl) (by kernel_rfl) (by kernel_rfl) (by kernel_rfl) (by decide) (by decide) (fun _ _ _ h => h) (Or.inl ⟨by rfl, ?_⟩) hR hR ?_
          rotate_left
          · intro w hSw
            (try unfold SP at hSw)
            go_simp
            all_goals with_reducible rfl
          (try simp only [Act.put, List.setIfInBounds_toArray, List.set_cons_zero, List.set_cons_succ])
          refine take1 (i := 5) (v := ?_) rfl (by kernel_rfl) (by kernel_rfl) (by kernel_rfl) (by kernel_rfl) (by kernel_rfl) (by decide) (by decide) (fun _ _ _ h => h) (Or.inl ⟨by rfl, ?_⟩) hR hR ?_
          rotate_left
          · intro w hSw
            (try unfold SP at hSw)
            go_simp
            all_goals with_reducible rfl
          (try simp only [Act.put, List.setIfInBounds_toArray, List.set_cons_zero, List.set_cons_succ])
          refine take1 (i := 6) (v := ?_) rfl (by kernel_rfl) (by kernel_rfl) (by kernel_rfl) (by kernel_rfl) (by kernel_rfl) (by decide) (by decide) (fun _ _ _ h => h) (Or.inl ⟨by rfl, ?_⟩) hR hR ?_
          rotate_left
          · intro w hSw
            (try unfold SP at hSw)
            go_simp
            all_goals with_reducible rfl
          (try simp only [Act.put, List.setIfInBounds_toArray, List.set_cons_zero, List.set_cons_succ])
          refine take1 (i := 7) (v := ?_) rfl (by kernel_rfl) (by kernel_rfl) (by kernel_rfl) (by kernel_rfl) (by kernel_rfl) (by decide) (by decide) (fun _ _ _ h => h) (Or.inl ⟨by rfl, ?_⟩) hR hR ?_
          rotate_left
          · intro w hSw
            (try unfold SP at hSw)
            go_simp
            all_goals with_reducible rfl
          (try simp only [Act.put, List.setIfInBounds_toArray, List.set_cons_zero, List.set_cons_succ])
          refine take1 (i := 8) (v := ?_) rfl (by kernel_rfl) (by kernel_rfl) (by kernel_rfl) (by kernel_rfl) (by kernel_rfl) (by decide) (by decide) (fun _ _ _ h => h) (Or.inl ⟨by rfl, ?_⟩) hR hR ?_
          rotate_left
          · intro w hSw
            (try unfold SP at hSw)
            go_simp
            all_goals with_reducible rfl
          (try simp only [Act.put, List.setIfInBounds_toArray, List.set_cons_zero, List.set_cons_succ])
          refine take1 (i := 9) (v := ?_) rfl (by kernel_rfl) (by kernel_rfl) (by kernel_rfl) (by kernel_rfl) (by kernel_rfl) (by decide) (by decide) (fun _ _ _ h => h) (Or.inl ⟨by rfl, ?_⟩) hR hR ?_
          rotate_left
          · intro w hSw
            (try unfold SP at hSw)
            go_simp
            all_goals with_reducible rfl
          (try simp only [Act.put, List.setIfInBounds_toArray, List.set_cons_zero, List.set_cons_succ])
          refine take1 (i := 10) (v := ?_) rfl (by kernel_rfl) (by kernel_rfl) (by kernel_rfl) (by kernel_rfl) (by kernel_rfl) (by decide) (by decide) (fun _ _ _ h => h) (Or.inl ⟨by rfl, ?_⟩) hR hR ?_
          rotate_left
          · intro w hSw
            (try unfold SP at hSw)
            go_simp
            all_goals with_reducible rfl
          (try simp only [Act.put, List.setIfInBounds_toArray, List.set_cons_zero, List.set_cons_succ])
          refine take1 (i := 11) (v := ?_) rfl (by kernel_rfl) (by kernel_rfl) (by kernel_rfl) (by kernel_rfl) (by kernel_rfl) (by decide) (by decide) (fun _ _ _ h => h) (Or.inl ⟨by rfl, ?_⟩) hR hR ?_
          rotate_left
          · intro w hSw
            (try unfold SP at hSw)
            go_simp
            all_goals with_reducible rfl
          (try simp only [Act.put, List.setIfInBounds_toArray, List.set_cons_zero, List.set_cons_succ])
          refine take1 (i := 12) (v := ?_) rfl (by kernel_rfl) (by kernel_rfl) (by kernel_rfl) (by kernel_rfl) (by kernel_rfl) (by decide) (by decide) (fun _ _ _ h => h) (Or.inl ⟨by rfl, ?_⟩) hR hR ?_
          rotate_left
          · intro w hSw
            (try unfold SP at hSw)
            go_simp
            all_goals with_reducible rfl
          (try simp only [Act.put, List.setIfInBounds_toArray, List.set_cons_zero, List.set_cons_succ])
          refine stepT (i := 13) (by kernel_rfl) rfl (fun K hK => ?_)
          go_simp
          go_at_call 91
          (with_reducible refine HPL.out.mono ?_)
          rintro e0 W5 ⟨v5, rfl, hd5, hg5, hv5, ⟨a5, n5, c5, rfl⟩⟩
          have hR5 := sp_grown hR0 hg5 hP1 hP2 hP3
          have hg' : W1.grownBy W5 (Value.slice au nu cu).ownBlock := ⟨hg5.os, hg5.tape, hg5.output, hg5.size, hg5.block⟩
          have f5 : W5.frozen? ⟨b, x, none⟩ = false := World.rowIs.frozen (World.rowIs.of_block L1.out.row (hg'.block b (World.rowIs.lt L1.out.row) (Ne.symm hP2))) x
          have c5' := hR5.2.2.1
          go_wp2_with fail
          refine hK.out _ _ ⟨fun _ => hR5, fun _ => hR5⟩ ?_
          clear hK K hR
          have hR := hR5
          (try simp only [Act.put, List.setIfInBounds_toArray, List.set_cons_zero, List.set_cons_succ])
          refine take1 (i := 14) (v := ?_) rfl (by kernel_rfl) (by kernel_rfl) (by kernel_rfl) (by kernel_rfl) (by kernel_rfl) (by decide) (by decide) (fun _ _ _ h => h) (Or.inl ⟨by rfl, ?_⟩) hR hR ?_
          rotate_left
          · intro w hSw
            (try unfold SP at hSw)
            go_simp
            all_goals with_reducible rfl
          (try simp only [Act.put, List.setIfInBounds_toArray, List.set_cons_zero, List.set_cons_succ])
          refine stepT (i := 15) (by kernel_rfl) rfl (fun K hK => ?_)
          go_simp
          refine hK.out _ _ ⟨fun h => absurd h (by decide), fun h => absurd h (by decide)⟩ ?_
          clear hK K
          (try simp only [Act.put, List.setIfInBounds_toArray, List.set_cons_zero, List.set_cons_succ])
          refine doneT (by kernel_rfl) ?_ _
          -- behind region 8
          go_wp2_with fail
          go_roundg q2
          case measure => omega
          case rel =>
            refine ⟨k + 1, (fun j => if j = x then .slice a5 n5 c5 else us j), by omega, by go_num, Lib.hid ?_, Lib.hid ?_⟩
            · have h1 := L1.out.app (W' := W5) hxn (show W1.grownBy W5 (us x).ownBlock by rw [HUS.out]; exact hg') hd5 (by rw [HUS.out]; exact hv5)
              rw [HT.out, lonF_snoc]
              unfold addF
              dsimp only
              refine ⟨h1.row, fun s hs => ?_, h1.apart⟩
              have h2 := h1.own s hs
              by_cases e : s = x
              · subst e; rw [if_pos rfl] at h2 ⊢; rw [if_pos rfl] at h2; rw [if_pos rfl, Int.toNat_natCast]; exact h2
              · rw [if_neg e] at h2 ⊢; rw [if_neg e] at h2; rw [if_neg (by omega)]; exact h2
            · exact ((T1.out).grown hg' (by have := World.rowIs.lt L1.out.row; omega) (fun kk e => by have := (HO.out kk e).1; omega)).setCell (by show b ≤ b; omega) _
end Go.Proofs.YtblkijdodojaeaaDoor

namespace Go.Proofs.YtblkijdodojaeaaDoor
open Go.RowKit
set_option linter.unusedSimpArgs false
set_option linter.unusedVariables false

theorem take_ne {α : Type} {l m : List α} {i : Nat} {x y : α} (hx : l[i]? = some x) (hy : m[i]? = some y) (h : x ≠ y) : l ≠ m := fun e => h (by rw [e, hy] at hx; injection hx with hx; exact hx.symm)
theorem take_all {α : Type} {l m : List α} (hl : l.length = m.length) (h : l.take l.length = m.take l.length) : l = m := by
  rw [List.take_length, hl, List.take_length] at h; exact h
set_option maxRecDepth 100000 in
set_option maxHeartbeats 3200000 in
theorem same12_any (l m : List Int) (u v : Value) (w : World) (hu : IntsRd w u l) (hv : IntsRd w v m) (hl : l.length ≤ 100000) (hm : m.length ≤ 9223372036854775807) :
    Calls Tryd.prog 29 #[u, v] w fun e w' => e = .returned (.bool (decide (l = m))) ∧ Below w.heap.size w w' := by
  have HU := Lib.hid hu
  have HV := Lib.hid hv
  obtain ⟨a, c, rfl⟩ := hu.form
  obtain ⟨a2, c2, rfl⟩ := hv.form
  clear hu hv
  by_cases h0 : l.length = m.length
  · have d0 : ((l.length : Int) != (m.length : Int)) = false := by rw [h0]; simp
    obtain ⟨R, hR⟩ : ∃ R, decide (l = m) = R := ⟨_, rfl⟩
    have HR := Lib.hid hR
    have HL0 := Lib.hid h0
    rw [hR]
    rw [← h0] at d0 ⊢
    clear hR h0
    go_enter Tryd.func29, Tryd.ntmps29
    go_wp2_with fail
    go_loopg [5] l.length (fun q s5 wx => ∃ i : Nat, i + q = l.length ∧ s5 = .int .i64 (i : Int) ∧ Hid (l.take i = m.take i) ∧ Hid (Below w.heap.size w wx))
    case atStart => exact ⟨0, by omega, rfl, Lib.hid rfl, Lib.hid (Below.refl _ _)⟩
    case round =>
      obtain ⟨i, hin, rfl, HT, HB⟩ := hrel
      rcases gk with _ | q
      · obtain rfl : i = l.length := by omega
        have HE := Lib.hid (show R = true by rw [← HR.out]; exact decide_eq_true (take_all HL0.out HT.out))
        have j1 : ¬ ((l.length : Int) < (l.length : Int)) := by omega
        go_wp2_with fail
        go_ret
        exact ⟨by rw [HE.out]; rfl, HB.out⟩
      · obtain ⟨x, hx⟩ : ∃ x, l[i]? = some x := ⟨_, List.getElem?_eq_getElem (by omega)⟩
        obtain ⟨y, hy⟩ : ∃ y, m[i]? = some y := ⟨_, List.getElem?_eq_getElem (by have := HL0.out; omega)⟩
        obtain ⟨b1, o1, k1, e1, c1⟩ := (HU.out.keep HB.out).at hx
        obtain ⟨b2, o2, k2, e2, c3⟩ := (HV.out.keep HB.out).at hy
        injection e1 with e1 _ e3
        injection e2 with e2 _ e4
        subst e1
        subst e2
        subst e3
        subst e4
        have HX := Lib.hid hx
        have HY := Lib.hid hy
        have HLM := Lib.hid HL0.out
        have j1 : (i : Int) < (l.length : Int) := by omega
        have KX := Lib.hid (show wr.drew.cell? ⟨b1, o1 + i, none⟩ = some (.int .i64 x) ∧ wr.drew.cell? ⟨b2, o2 + i, none⟩ = some (.int .i64 y) from ⟨c1, c3⟩)
        have j2 : i < l.length := by omega
        clear hx hy
        by_cases hxy : x = y
        · have d1 : (x != y) = false := by simpa using hxy
          have HT2 := Lib.hid (show l.take (i + 1) = m.take (i + 1) by rw [take_snoc HX.out, take_snoc HY.out, HT.out, hxy])
          clear hxy
          go_upto_region 6 with fail
          go_region_held3 (fun W => W.cell? ⟨b1, o1 + i, none⟩ = some (.int .i64 x) ∧ W.cell? ⟨b2, o2 + i, none⟩ = some (.int .i64 y)) (first | exact KX.out | go_keep) (fail)
          all_goals
            go_wp2_with fail
            go_roundg q
            case measure => omega
            case rel => exact ⟨i + 1, by omega, by go_num, HT2, Lib.hid HB.out.drew⟩
        · have d1 : (x != y) = true := by simpa using hxy
          have HE := Lib.hid (show R = false by rw [← HR.out]; exact decide_eq_false (take_ne HX.out HY.out hxy))
          clear hxy
          go_upto_region 6 with fail
          go_region_held3 (fun W => W.cell? ⟨b1, o1 + i, none⟩ = some (.int .i64 x) ∧ W.cell? ⟨b2, o2 + i, none⟩ = some (.int .i64 y)) (first | exact KX.out | go_keep) (fail)
          all_goals
            go_wp2_with fail
            go_ret
            exact ⟨by rw [HE.out]; rfl, HB.out.drew⟩
  · have d0 : ((l.length : Int) != (m.length : Int)) = true := by rw [bne_iff_ne]; omega
    have HE := Lib.hid (show decide (l = m) = false from decide_eq_false (fun e => h0 (by rw [e])))
    clear h0
    go_enter Tryd.func29, Tryd.ntmps29
    go_wp2_with fail
    go_ret
    exact ⟨by rw [HE.out]; rfl, Below.refl _ _⟩
set_option maxRecDepth 100000 in
set_option maxHeartbeats 3200000 in
theorem sameSets_any (l m : List (List Int)) (u v : Value) (w : World) (hu : RowsRd w u l) (hv : RowsRd w v m) (hl : l.length ≤ 100000) (hm : m.length ≤ 9223372036854775807) (hl2 : ∀ r ∈ l, r.length ≤ 100000) (hm2 : ∀ r ∈ m, r.length ≤ 100000) :
    Calls Tryd.prog 22 #[u, v] w fun e w' => e = .returned (.bool (decide (l = m))) ∧ Below w.heap.size w w' := by
  have HU := Lib.hid hu
  have HV := Lib.hid hv
  have HL2 := Lib.hid hl2
  have HM2 := Lib.hid hm2
  obtain ⟨a, c, rfl⟩ := hu.form
  obtain ⟨a2, c2, rfl⟩ := hv.form
  clear hu hv hl2 hm2
  by_cases h0 : l.length = m.length
  · have d0 : ((l.length : Int) != (m.length : Int)) = false := by rw [h0]; simp
    obtain ⟨R, hR⟩ : ∃ R, decide (l = m) = R := ⟨_, rfl⟩
    have HR := Lib.hid hR
    have HL0 := Lib.hid h0
    rw [hR]
    rw [← h0] at d0 ⊢
    clear hR h0
    go_enter Tryd.func22, Tryd.ntmps22
    go_wp2_with fail
    go_loopg [5] l.length (fun q s5 wx => ∃ i : Nat, i + q = l.length ∧ s5 = .int .i64 (i : Int) ∧ Hid (l.take i = m.take i) ∧ Hid (Below w.heap.size w wx))
    case atStart => exact ⟨0, by omega, rfl, Lib.hid rfl, Lib.hid (Below.refl _ _)⟩
    case round =>
      obtain ⟨i, hin, rfl, HT, HB⟩ := hrel
      rcases gk with _ | q
      · obtain rfl : i = l.length := by omega
        have HE := Lib.hid (show R = true by rw [← HR.out]; exact decide_eq_true (take_all HL0.out HT.out))
        have j1 : ¬ ((l.length : Int) < (l.length : Int)) := by omega
        go_wp2_with fail
        go_ret
        exact ⟨by rw [HE.out]; rfl, HB.out⟩
      · obtain ⟨x, hx⟩ : ∃ x, l[i]? = some x := ⟨_, List.getElem?_eq_getElem (by omega)⟩
        obtain ⟨y, hy⟩ : ∃ y, m[i]? = some y := ⟨_, List.getElem?_eq_getElem (by have := HL0.out; omega)⟩
        obtain ⟨b1, o1, k1, u1, e1, c1, r1⟩ := (HU.out.keep HB.out).at hx
        obtain ⟨b2, o2, k2, u2, e2, c3, r2⟩ := (HV.out.keep HB.out).at hy
        injection e1 with e1 _ e3
        injection e2 with e2 _ e4
        subst e1
        subst e2
        subst e3
        subst e4
        have HX := Lib.hid hx
        have HY := Lib.hid hy
        have HS := Lib.hid (same12_any x y u1 u2 wr.drew (r1.keep (Below.refl _ _).drew) (r2.keep (Below.refl _ _).drew) (HL2.out x (List.mem_of_getElem? hx)) (by have := HM2.out y (List.mem_of_getElem? hy); omega))
        obtain ⟨a1, k1', rfl⟩ := r1.form
        obtain ⟨a3, k2', rfl⟩ := r2.form
        have j1 : (i : Int) < (l.length : Int) := by omega
        have KX := Lib.hid (show wr.drew.cell? ⟨b1, o1 + i, none⟩ = some (.slice a1 x.length k1') ∧ wr.drew.cell? ⟨b2, o2 + i, none⟩ = some (.slice a3 y.length k2') from ⟨c1, c3⟩)
        have j2 : i < l.length := by omega
        clear hx hy r1 r2 c1 c3
        by_cases hxy : x = y
        · have HT2 := Lib.hid (show l.take (i + 1) = m.take (i + 1) by rw [take_snoc HX.out, take_snoc HY.out, HT.out, hxy])
          rw [decide_eq_true hxy] at HS
          clear hxy
          go_upto_region 6 with fail
          go_region_held3 (fun W => W.cell? ⟨b1, o1 + i, none⟩ = some (.slice a1 x.length k1') ∧ W.cell? ⟨b2, o2 + i, none⟩ = some (.slice a3 y.length k2')) (first | exact KX.out | exact ⟨cell_keep KX.out.1 b5, cell_keep KX.out.2 b5⟩ | go_keep)
            (first | (go_at_call 29; (with_reducible refine HS.out.mono ?_); rintro e0 W5 ⟨rfl, b5⟩))
          all_goals
            go_wp2_with fail
            go_roundg q
            case measure => omega
            case rel => exact ⟨i + 1, by omega, by go_num, HT2, Lib.hid (HB.out.drew.trans (b5.mono HB.out.size))⟩
        · have HE := Lib.hid (show R = false by rw [← HR.out]; exact decide_eq_false (take_ne HX.out HY.out hxy))
          rw [decide_eq_false hxy] at HS
          clear hxy
          go_upto_region 6 with fail
          go_region_held3 (fun W => W.cell? ⟨b1, o1 + i, none⟩ = some (.slice a1 x.length k1') ∧ W.cell? ⟨b2, o2 + i, none⟩ = some (.slice a3 y.length k2')) (first | exact KX.out | exact ⟨cell_keep KX.out.1 b5, cell_keep KX.out.2 b5⟩ | go_keep)
            (first | (go_at_call 29; (with_reducible refine HS.out.mono ?_); rintro e0 W5 ⟨rfl, b5⟩))
          all_goals
            go_wp2_with fail
            go_ret
            exact ⟨by rw [HE.out]; rfl, HB.out.drew.trans (b5.mono HB.out.size)⟩
  · have d0 : ((l.length : Int) != (m.length : Int)) = true := by rw [bne_iff_ne]; omega
    have HE := Lib.hid (show decide (l = m) = false from decide_eq_false (fun e => h0 (by rw [e])))
    clear h0
    go_enter Tryd.func22, Tryd.ntmps22
    go_wp2_with fail
    go_ret
    exact ⟨by rw [HE.out]; rfl, Below.refl _ _⟩
/-- The example's graph. -/
abbrev evE : List E3 := [(0, 0, 1), (0, 1, 0), (1, 0, 0)]
set_option maxRecDepth 100000 in
set_option maxHeartbeats 1600000 in
theorem even_any (w : World) : Calls Tryd.prog 45 #[] w fun e w' => ∃ g, e = .returned (grV 2 2 (.slice (some ⟨g, 0, none⟩) 3 3)) ∧ EdgesRd w' (.slice (some ⟨g, 0, none⟩) 3 3) evE ∧ Below w.heap.size w w' := by
  have hs : (w.alloc (.cells #[.int .i64 2, .int .i64 2, .slice (some ⟨w.heap.size + 1, 0, none⟩) 3 3] 24)).heap.size = w.heap.size + 1 := World.size_alloc ..
  have he : EdgesAt ((w.alloc (.cells #[.int .i64 2, .int .i64 2, .slice (some ⟨w.heap.size + 1, 0, none⟩) 3 3] 24)).alloc (.cells #[.int .i64 0, .int .i64 0, .int .i64 1, .int .i64 0, .int .i64 1, .int .i64 0, .int .i64 1, .int .i64 0, .int .i64 0] 63)) (w.heap.size + 1) (.slice (some ⟨w.heap.size + 1, 0, none⟩) 3 3) evE := by
    have k := edgesLit (w.alloc (.cells #[.int .i64 2, .int .i64 2, .slice (some ⟨w.heap.size + 1, 0, none⟩) 3 3] 24)) evE (by decide) (by decide)
    rw [hs] at k
    exact k
  have HE := Lib.hid he
  have hb := Lib.hid ((below1 w (.cells #[.int .i64 2, .int .i64 2, .slice (some ⟨w.heap.size + 1, 0, none⟩) 3 3] 24)).alloc (by rw [hs]; omega) (.cells #[.int .i64 0, .int .i64 0, .int .i64 1, .int .i64 0, .int .i64 1, .int .i64 0, .int .i64 1, .int .i64 0, .int .i64 0] 63))
  clear he
  go_enter Tryd.func45, Tryd.ntmps45
  go_wp2
  exact bodyPost_ret (v := grV 2 2 (.slice (some ⟨w.heap.size + 1, 0, none⟩) 3 3)) (by simp [results, Tryd.results45, go_sem]) rfl ⟨_, rfl, HE.out.rd, hb.out⟩
end Go.Proofs.YtblkijdodojaeaaDoor

namespace Go.Proofs.YtblkijdodojaeaaDoor
open Go.RowKit
set_option linter.unusedSimpArgs false
set_option linter.unusedVariables false

abbrev bE : Bs := ([3, 1, 2], [(0, 0, 0), (0, 1, 1), (1, 0, 2), (1, 1, 1), (2, 0, 1)])
theorem buildE : buildR 2 2 evE = (0, bE) := by decide +kernel
theorem focE : focR 2 2 evE = ([1], 0, true, 0) := by decide +kernel
theorem setsE : bE.1.map memN = [[0, 1], [0], [1]] := by decide +kernel
theorem wayE : wayF bE.2 3 0 = 7 := by decide +kernel
theorem wayB : ∀ k, k < 3 → ∀ i, i ≤ bE.2.length → ∀ s, s < 3 → lonF (wayF bE.2 k) (bE.2.take i) s < 18446744073709551616 := by
  have h : ∀ k, k < 3 → ∀ i, i < 6 → ∀ s, s < 3 → lonF (wayF bE.2 k) (bE.2.take i) s < 18446744073709551616 := by decide +kernel
  exact fun k hk i hi s hs => h k hk i (by have : bE.2.length = 5 := rfl; omega) s hs
theorem chkE : chkG 2 2 evE = 0 := by decide
theorem build_even (v : Value) (W : World) (h : EdgesRd W v evE) (hT : TabD W) : Calls Tryd.prog 17 #[grV 2 2 v] W fun e w' => ∃ ah ch al, e = .returned (.tuple #[grV 2 3 (.slice ah 5 ch), .slice al 3 3, .int .i64 0]) ∧ EdgesRd w' (.slice ah 5 ch) bE.2 ∧ RowsRd w' (.slice al 3 3) [[0, 1], [0], [1]] ∧ Below W.heap.size W w' := by
  refine (Build_any 2 2 evE v W h (by decide) hT).mono ?_
  rw [buildE]
  rintro e w' ⟨hv, lv, he, h1, h2, h3⟩
  obtain ⟨ah, ch, rfl⟩ := h1.slice
  have h4 := h2.rd
  obtain ⟨al, rfl⟩ := h2.form
  rw [setsE] at h4
  exact ⟨ah, ch, al, he, h1.rd, h4, h3⟩
theorem focus_even (v : Value) (W : World) (h : EdgesRd W v evE) (hT : TabD W) : Calls Tryd.prog 23 #[grV 2 2 v] W fun e w' => ∃ a c, e = .returned (.tuple #[.slice a 1 c, .int .i64 0, .bool true, .int .i64 0]) ∧ IntsRd w' (.slice a 1 c) [1] ∧ Below W.heap.size W w' := by
  refine (Focus_any 2 2 evE v W h (by decide) hT).mono ?_
  rw [focE]
  rintro e w' ⟨hv, he, h1, h3⟩
  obtain ⟨a, c, rfl⟩ := h1.form
  exact ⟨a, c, he, h1, h3⟩
set_option maxRecDepth 100000 in
set_option maxHeartbeats 6400000 in
theorem count7_any (v : Value) (w : World) (hrd : EdgesRd w v evE) (hT : TabD w) :
    Calls Tryd.prog 25 #[grV 2 2 v, .int .i64 3] w fun e w' => e = .returned (.tuple #[.agg #[.bool false, .string ⟨#[7]⟩], .int .i64 0]) ∧ Below w.heap.size w w' := by
  obtain ⟨a, c, hv⟩ : ∃ a c, v = .slice a 3 c := hrd.form
  subst hv
  obtain ⟨W1, hW1⟩ : ∃ W1, ((w.alloc (.cells #[.int .i64 2, .int .i64 2, .slice a 3 c] 24)).alloc (.cells #[.bool false, .string ⟨#[]⟩] 45)) = W1 := ⟨_, rfl⟩
  have z1 : W1.heap.size = w.heap.size + 2 := by rw [← hW1, World.size_alloc, World.size_alloc]
  have G1 := Lib.hid (show BoxG W1 w.heap.size 2 2 (.slice a 3 c) by rw [← hW1]; exact (BoxG.new w 2 2 _ _).keep (below1 _ _))
  have B1 := Lib.hid (show Below w.heap.size w W1 by rw [← hW1]; exact below_more (below1 w _) (Nat.le_refl _) (below1 _ _))
  have R1 := Lib.hid (show W1.heap[w.heap.size + 1]? = some (.cells #[.bool false, .string ⟨#[]⟩] 45 (0, 0)) by
    rw [← hW1]
    have h := heap_alloc_new (w.alloc (.cells #[.int .i64 2, .int .i64 2, .slice a 3 c] 24)) (.cells #[.bool false, .string ⟨#[]⟩] 45)
    rw [World.size_alloc] at h
    exact h)
  have HRD := Lib.hid hrd
  have HT := Lib.hid hT
  have HCH := Lib.hid (fun W h => chkE ▸ gcheck_any 2 2 evE (.slice a 3 c) W h (by decide))
  have HBD := Lib.hid (fun W (h : EdgesRd W (.slice a 3 c) evE) (hT : TabD W) => build_even (.slice a 3 c) W h hT)
  have HPA := Lib.hid (fun W hv (h : EdgesRd W hv bE.2) => paths_any 2 3 3 bE.2 hv W h (by decide) (by decide) (by decide) (by decide) wayB)
  obtain ⟨x1, x2, x3⟩ := id G1.out
  clear hrd hT
  go_enter Tryd.func25, Tryd.ntmps25
  go_wp2_with (first
    | (go_at_call 31; (refine (HCH.out _ (HRD.out.keep B1.out)).mono ?_); rintro e W2 ⟨rfl, b2⟩; (have B2 := Lib.hid (B1.out.trans (b2.mono B1.out.size))); (have R2 := Lib.hid ((b2.block (w.heap.size + 1) (by omega)).trans R1.out)); (have z2 : w.heap.size + 2 ≤ W2.heap.size := by have := b2.size; omega); (obtain ⟨x1, x2, x3⟩ := G1.out.keep b2); clear b2)
    | (go_at_call 17; (refine (HBD.out _ (HRD.out.keep B2.out) (HT.out.keep B2.out)).mono ?_); rintro e W3 ⟨ah, ch, al, rfl, he3, hr3, b3⟩; (have k3 := below_more b3 (by omega) (below1 W3 (.cells #[.int .i64 2, .int .i64 3, .slice ah 5 ch] 24))); (have B3 := Lib.hid (B2.out.trans (k3.mono B2.out.size))); (have R3 := Lib.hid ((k3.block (w.heap.size + 1) (by omega)).trans R2.out)); (have z3 : w.heap.size + 2 ≤ (W3.alloc (.cells #[.int .i64 2, .int .i64 3, .slice ah 5 ch] 24)).heap.size := by have := k3.size; omega); (have HE3 := Lib.hid (he3.keep (below1 W3 (.cells #[.int .i64 2, .int .i64 3, .slice ah 5 ch] 24)))); clear b3 k3 he3 hr3)
    | (go_at_call 57; (refine (HPA.out _ _ HE3.out).mono ?_); rintro e W4 ⟨u, rfl, hnum, b4⟩; (obtain ⟨bn, rfl, -, hn⟩ := hnum); (obtain ⟨u0, cu0, hd0⟩ := hn 0 (by decide)); (rw [wayE] at hd0); (obtain ⟨q0, c0, rfl, h7⟩ : ∃ q c, u0 = .slice (some ⟨q, 0, none⟩) 1 c ∧ W4.cell? ⟨q, 0, none⟩ = some (u64v 7) := by (rcases hd0 with ⟨_, h⟩ | h; (exact absurd h (by decide)); exact h)); (have HV7 := Lib.hid (value7_any q0 0 c0 W4 h7)); (have B4 := Lib.hid (B3.out.trans (b4.mono B3.out.size))); (have R4 := Lib.hid ((b4.block (w.heap.size + 1) (by omega)).trans R3.out)); (have z4 : w.heap.size + 2 ≤ W4.heap.size := by have := b4.size; omega); clear b4 hn hd0 h7)
    | (go_at_call 58; (refine HV7.out.mono ?_); rintro e W5 ⟨rfl, b5⟩; (have B5 := Lib.hid (B4.out.trans (b5.mono B4.out.size))); (have h6 := (b5.block (w.heap.size + 1) (by omega)).trans R4.out); (have r1 : W5.cell? ⟨w.heap.size + 1, 0, none⟩ = some (.bool false) := by simp [World.cell?, h6]); (have r2 : W5.cell? ⟨w.heap.size + 1, 1, none⟩ = some (.string ⟨#[]⟩) := by simp [World.cell?, h6]); (have r3 : W5.frozen? ⟨w.heap.size + 1, 0, none⟩ = false := by simp [World.frozen?, h6]); (have r4 : W5.frozen? ⟨w.heap.size + 1, 1, none⟩ = false := by simp [World.frozen?, h6]); clear b5 h6))
  refine bodyPost_ret (v := .tuple #[.agg #[.bool false, .string ⟨#[7]⟩], .int .i64 0]) (by simp [results, Tryd.results25, go_sem, r1, r2]) rfl ?_
  exact ⟨rfl, (B5.out.setCell (p := ⟨w.heap.size + 1, 0, none⟩) (Nat.le_succ _) _).setCell (p := ⟨w.heap.size + 1, 1, none⟩) (Nat.le_succ _) _⟩
/-- max of three. -/
theorem max_3n {P : Program} (w : World) (ts : Array TypeId) (t : TypeId) (k : IntKind) (x y z : Int) :
    (Builtin.max_ ts t #[.int k x, .int k y, .int k z]).run P w = .ok (.int k (max (max x y) z)) w := by
  have e : ∀ x y : Int, (if y > x then y else x) = max x y := fun x y => by
    rw [Int.max_def]
    split <;> split <;> omega
  simp [Builtin.max_, Builtin.max2, e]
attribute [go_sem] max_3n
theorem lit3 (W : World) : RowsRd ((((W.alloc (.cells #[.int .i64 0, .int .i64 1] 3)).alloc (.cells #[.int .i64 0] 3)).alloc (.cells #[.int .i64 1] 3)).alloc (.cells #[.slice (some ⟨W.heap.size, 0, none⟩) 2 2, .slice (some ⟨W.heap.size + 1, 0, none⟩) 1 1, .slice (some ⟨W.heap.size + 1 + 1, 0, none⟩) 1 1] 28))
    (.slice (some ⟨W.heap.size + 1 + 1 + 1, 0, none⟩) 3 3) [[0, 1], [0], [1]] := by
  have e1 : IntsRd (W.alloc (.cells #[.int .i64 0, .int .i64 1] 3)) (.slice (some ⟨W.heap.size, 0, none⟩) 2 2) [0, 1] := (intsLit W [0, 1] (by decide) (by decide)).rd
  obtain ⟨W1, hW1⟩ : ∃ W1, W.alloc (.cells #[.int .i64 0, .int .i64 1] 3) = W1 := ⟨_, rfl⟩
  have z1 : W1.heap.size = W.heap.size + 1 := by rw [← hW1, World.size_alloc]
  rw [hW1] at e1 ⊢
  have e2 : IntsRd (W1.alloc (.cells #[.int .i64 0] 3)) (.slice (some ⟨W1.heap.size, 0, none⟩) 1 1) [0] := (intsLit W1 [0] (by decide) (by decide)).rd
  have e12 := e1.keep (below1 W1 (.cells #[.int .i64 0] 3))
  obtain ⟨W2, hW2⟩ : ∃ W2, W1.alloc (.cells #[.int .i64 0] 3) = W2 := ⟨_, rfl⟩
  have z2 : W2.heap.size = W.heap.size + 1 + 1 := by rw [← hW2, World.size_alloc, z1]
  rw [z1] at e2
  rw [hW2] at e2 e12 ⊢
  have e3 : IntsRd (W2.alloc (.cells #[.int .i64 1] 3)) (.slice (some ⟨W2.heap.size, 0, none⟩) 1 1) [1] := (intsLit W2 [1] (by decide) (by decide)).rd
  have e13 := e12.keep (below1 W2 (.cells #[.int .i64 1] 3))
  have e23 := e2.keep (below1 W2 (.cells #[.int .i64 1] 3))
  obtain ⟨W3, hW3⟩ : ∃ W3, W2.alloc (.cells #[.int .i64 1] 3) = W3 := ⟨_, rfl⟩
  have z3 : W3.heap.size = W.heap.size + 1 + 1 + 1 := by rw [← hW3, World.size_alloc, z2]
  rw [z2] at e3
  rw [hW3] at e3 e13 e23 ⊢
  have k4 := below1 W3 (.cells #[.slice (some ⟨W.heap.size, 0, none⟩) 2 2, .slice (some ⟨W.heap.size + 1, 0, none⟩) 1 1, .slice (some ⟨W.heap.size + 1 + 1, 0, none⟩) 1 1] 28)
  rw [← z3]
  refine ⟨_, _, rfl, fun i r hr => ?_⟩
  match i, hr with
  | 0, hr =>
    simp at hr
    subst hr
    exact ⟨_, _, _, rfl, by simp [go_sem], e13.keep k4⟩
  | 1, hr =>
    simp at hr
    subst hr
    exact ⟨_, _, _, rfl, by simp [go_sem], e23.keep k4⟩
  | 2, hr =>
    simp at hr
    subst hr
    exact ⟨_, _, _, rfl, by simp [go_sem], e3.keep k4⟩
def SA (p : Nat) (W : World) : Prop := W.cell? ⟨p, 0, none⟩ = some (.bool false) ∧ W.cell? ⟨p, 1, none⟩ = some (.string ⟨#[7]⟩)
theorem SA.keep {p : Nat} {W W' : World} (h : SA p W) (hb : Below W.heap.size W W') : SA p W' := ⟨cell_keep h.1 hb, cell_keep h.2 hb⟩
set_option maxRecDepth 100000 in
set_option maxHeartbeats 6400000 in
theorem awake12_any (w : World) (hT : TabD w) : Calls Tryd.prog 16 #[] w fun e w' => e = .returned (.bool true) ∧ Below w.heap.size w w' := by
  have hmx : Tryd.prog.follows .mixedOrders = true := by kernel_rfl
  have HT := Lib.hid hT
  clear hT
  go_enter Tryd.func16, Tryd.ntmps16
  go_upto_region 2 with (first
    | (go_at_call 45; (with_reducible refine (even_any w).mono ?_); rintro e W1 ⟨g1, rfl, he1, b1⟩)
    | (go_at_call 17; (with_reducible refine (build_even _ W1 he1 (HT.out.keep b1)).mono ?_); rintro e W2 ⟨ah, ch, al, rfl, he2, hr2, b2⟩))
  have k2 := below1 W2 (.cells #[.int .i64 2, .int .i64 3, .slice ah 5 ch] 24)
  have B2 := Lib.hid (below_more (below_more b1 (Nat.le_refl _) b2) (Nat.le_refl _) k2)
  have R2 := Lib.hid (hr2.keep k2)
  have G2 := Lib.hid (BoxG.new W2 2 3 (.slice ah 5 ch) 24)
  obtain ⟨ph, hph⟩ : ∃ ph, W2.heap.size = ph := ⟨_, rfl⟩
  rw [hph] at G2 ⊢
  clear he1 b1 he2 hr2 b2 k2 hph
  generalize W2.alloc (.cells #[.int .i64 2, .int .i64 3, .slice ah 5 ch] 24) = W2 at *
  go_upto_region 3 with (first
    | (go_at_call 45; (with_reducible refine (even_any _).mono ?_); rintro e W3 ⟨g3, rfl, he3, b3⟩)
    | (go_at_call 23; (with_reducible refine (focus_even _ W3 he3 ((HT.out.keep B2.out).keep b3)).mono ?_); rintro e W4 ⟨af, cf, rfl, hf4, b4⟩))
  have k4 := below_more b3 (Nat.le_refl _) b4
  have B4 := Lib.hid (B2.out.trans (k4.mono B2.out.size))
  have R4 := Lib.hid (R2.out.keep k4)
  have G4 := Lib.hid (G2.out.keep k4)
  have F4 := Lib.hid hf4
  clear he3 b3 hf4 b4 k4 B2 R2 G2
  go_upto_region 4 with (first
    | (go_at_call 45; (with_reducible refine (even_any _).mono ?_); rintro e W5 ⟨g5, rfl, he5, b5⟩)
    | (go_at_call 25; (with_reducible refine (count7_any _ W5 he5 ((HT.out.keep B4.out).keep b5)).mono ?_); rintro e W6 ⟨rfl, b6⟩))
  have k6 := below_more (below_more b5 (Nat.le_refl _) b6) (Nat.le_refl _) (below1 W6 (.cells #[.bool false, .string ⟨#[7]⟩] 45))
  have B6 := Lib.hid (B4.out.trans (k6.mono B4.out.size))
  have R6 := Lib.hid (R4.out.keep k6)
  have G6 := Lib.hid (G4.out.keep k6)
  have F6 := Lib.hid (F4.out.keep k6)
  have S6 : SA W6.heap.size (W6.alloc (.cells #[.bool false, .string ⟨#[7]⟩] 45)) := ⟨by simp [go_sem], by simp [go_sem]⟩
  obtain ⟨p8, hp8⟩ : ∃ p8, W6.heap.size = p8 := ⟨_, rfl⟩
  rw [hp8] at S6 ⊢
  clear he5 b5 b6 k6 B4 R4 G4 F4 hp8
  generalize W6.alloc (.cells #[.bool false, .string ⟨#[7]⟩] 45) = W7 at *
  have hR0 : SA p8 W7.drew := S6
  have HL := Lib.hid (same12_any [1] [1] (.slice af 1 cf) (.slice (some ⟨W7.heap.size, 0, none⟩) 1 1) (W7.alloc (.cells #[.int .i64 1] 3)).drew ((F6.out.keep (below1 W7 (.cells #[.int .i64 1] 3))).keep (Below.refl _ _).drew) (((intsLit W7 [1] (by decide) (by decide)).rd).keep (Below.refl _ _).drew) (by decide) (by decide))
  rw [show decide (([1] : List Int) = [1]) = true by decide] at HL
  have HOF := Lib.hid (fun W => of7_any W)
  have HSA := Lib.hid (fun o => show SA p8 (W7.alloc o).drew from S6.keep (below1 W7 o).drew)
  go_region_held3 (fun W => W.cell? ⟨p8, 0, none⟩ = some (.bool false) ∧ W.cell? ⟨p8, 1, none⟩ = some (.string ⟨#[7]⟩))
    (first | exact hR0 | exact HSA.out _ | exact hR6.out | exact hR7.out)
    (first
      | (go_at_call 29; (with_reducible refine HL.out.mono ?_); rintro e0 Y1 ⟨rfl, c1⟩; (have K1 := Lib.hid (below_more (below1 W7 (.cells #[.int .i64 1] 3)).drew (Nat.le_refl _) c1)); (have hR6 := Lib.hid (S6.keep K1.out)))
      | (go_at_call 46; (with_reducible refine (HOF.out _).mono ?_); rintro e0 Y2 ⟨rfl, c2⟩; (have K2 := Lib.hid (below_more K1.out (Nat.le_refl _) c2)); (have hR7 := Lib.hid (S6.keep K2.out))))
  all_goals
    obtain ⟨x1, x2, x3⟩ := G6.out.keep K2.out
    have R7 := R6.out.keep K2.out
    have B7 := Lib.hid (B6.out.trans (K2.out.mono B6.out.size))
    have b9 := below_more (below_more (below_more (below1 Y2 (.cells #[.int .i64 0, .int .i64 1] 3)) (Nat.le_refl _) (below1 _ (.cells #[.int .i64 0] 3))) (Nat.le_refl _) (below1 _ (.cells #[.int .i64 1] 3))) (Nat.le_refl _) (below1 _ (.cells #[.slice (some ⟨Y2.heap.size, 0, none⟩) 2 2, .slice (some ⟨Y2.heap.size + 1, 0, none⟩) 1 1, .slice (some ⟨Y2.heap.size + 1 + 1, 0, none⟩) 1 1] 28))
    have HSS := Lib.hid (sameSets_any _ _ _ _ _ (R7.keep b9) (lit3 Y2) (by decide) (by decide) (by decide) (by decide))
    rw [show decide (([[0, 1], [0], [1]] : List (List Int)) = [[0, 1], [0], [1]]) = true by decide] at HSS
    have B9 := Lib.hid (B7.out.trans (b9.mono B7.out.size))
    clear R7 b9 K2 hR6 hR7 HSA HL HOF
    go_wp2_with (go_at_call 22; (with_reducible refine HSS.out.mono ?_); rintro e0 Y3 ⟨rfl, c3⟩; (have B10 := Lib.hid (B9.out.trans (c3.mono B9.out.size))))
    go_ret
    exact ⟨rfl, B10.out⟩
end Go.Proofs.YtblkijdodojaeaaDoor
