/- For grooveref09.Sorted: an edge put into ascending edges; append in a drawn region, the source nil, empty or not. No condition. -/
import Derived.Test.YtoekemfgmdbnbaaDoorVsm
import Derived.Test.YtoekemfgmdbnbaaDoorVu
import Derived.Test.YtoekemfgmdbnbaaDoorShelf
import Derived.Maps.AppendAt
import Derived.Deep.AppendLies
namespace Go.Proofs.YtoekemfgmdbnbaaDoor
open Go.RowKit Go.Shelf
set_option linter.unusedSimpArgs false
set_option linter.unusedVariables false

theorem ins_pw {O : List E3} {e : E3} {k : Nat} (hp : O.Pairwise (fun a b => ltE a b = true)) (h1 : ∀ x, x ∈ O.take k → ltE x e = true) (h2 : ∀ x, O[k]? = some x → ltE e x = true) :
    (O.take k ++ [e] ++ O.drop k).Pairwise (fun a b => ltE a b = true) := by
  have hd : ∀ y, y ∈ O.drop k → ltE e y = true := by
    intro y hy
    obtain ⟨i, hi⟩ := List.getElem?_of_mem hy
    rw [List.getElem?_drop] at hi
    rcases Nat.eq_zero_or_pos i with h0 | h0
    · subst h0; exact h2 y hi
    · have hl := (List.getElem?_eq_some_iff.1 hi).1
      obtain ⟨x, hx⟩ : ∃ x, O[k]? = some x := ⟨_, List.getElem?_eq_getElem (by omega)⟩
      have hxy : ltE x y = true := by
        have := List.pairwise_iff_getElem.1 hp k (k + i) (by omega) hl (by omega)
        rw [(List.getElem?_eq_some_iff.1 hi).2, (List.getElem?_eq_some_iff.1 hx).2] at this
        exact this
      exact ltE_trans' (h2 x hx) hxy
  have hs : (O.take k ++ O.drop k).Pairwise (fun a b => ltE a b = true) := by rw [List.take_append_drop]; exact hp
  obtain ⟨p1, p2, p3⟩ := List.pairwise_append.1 hs
  rw [List.append_assoc]
  refine List.pairwise_append.2 ⟨p1, ?_, fun a ha b hb => ?_⟩
  · exact List.pairwise_cons.2 ⟨fun y hy => hd y hy, p2⟩
  · rcases List.mem_cons.1 hb with rfl | hb
    · exact h1 a ha
    · exact p3 a ha b hb
theorem ins_mem {O : List E3} {e x : E3} {k : Nat} : x ∈ O.take k ++ [e] ++ O.drop k ↔ x ∈ O ∨ x = e := by
  have h : x ∈ O ↔ x ∈ O.take k ∨ x ∈ O.drop k := by rw [← List.mem_append, List.take_append_drop]
  simp only [List.mem_append, List.mem_singleton]
  rw [h]
  constructor
  · rintro ((h | h) | h)
    · exact .inl (.inl h)
    · exact .inr h
    · exact .inl (.inr h)
  · rintro ((h | h) | h)
    · exact .inl (.inl h)
    · exact .inr h
    · exact .inl (.inr h)
theorem mkE_put {es O : List E3} {e : E3} {i k : Nat} (hO : mkE (es.take i) = O) (he : es[i]? = some e) (h1 : ∀ x, x ∈ O.take k → ltE x e = true) (h2 : ∀ x, O[k]? = some x → ltE e x = true) :
    mkE (es.take (i + 1)) = O.take k ++ [e] ++ O.drop k := by
  subst hO
  refine asc_eq (mkE_pw _) (ins_pw (mkE_pw _) h1 h2) (fun x => ?_)
  rw [ins_mem, mkE_mem, mkE_mem, List.take_add_one, he, List.mem_append]
  simp
theorem mkE_skip {es O : List E3} {e : E3} {i k : Nat} (hO : mkE (es.take i) = O) (he : es[i]? = some e) (hx : O[k]? = some e) : mkE (es.take (i + 1)) = O := by
  subst hO
  refine asc_eq (mkE_pw _) (mkE_pw _) (fun x => ?_)
  have hm : e ∈ es.take i := mkE_mem.1 (List.mem_of_getElem? hx)
  rw [mkE_mem, mkE_mem, List.take_add_one, he, List.mem_append]
  constructor
  · rintro (h | h)
    · exact h
    · simp at h; subst h; exact hm
  · exact fun h => .inl h
theorem mem_take_succ {O : List E3} {y e : E3} {k : Nat} (hy : O[k]? = some y) (hlt : ltE y e = true) (h : ∀ x, x ∈ O.take k → ltE x e = true) : ∀ x, x ∈ O.take (k + 1) → ltE x e = true := by
  intro x hx
  rw [List.take_add_one, hy, List.mem_append] at hx
  rcases hx with hx | hx
  · exact h x hx
  · simp at hx; subst hx; exact hlt
/-! ### Parts of a row -/
theorem rd_take {W : World} {a : Option Addr} {n c k c' : Nat} {es : List E3} (h : EdgesRd W (.slice a n c) es) (hk : k ≤ es.length) : EdgesRd W (.slice a k c') (es.take k) := by
  obtain ⟨a1, c1, h1, h2⟩ := h
  injection h1 with e1 e2 e3
  subst e1
  refine ⟨a, c', by rw [List.length_take, Nat.min_eq_left hk], fun i e he => ?_⟩
  have hi := (List.getElem?_eq_some_iff.1 he).1
  rw [List.length_take] at hi
  rw [List.getElem?_take_of_lt (by omega)] at he
  exact h2 i e he
theorem rd_drop {W : World} {b o n c k m c' : Nat} {es : List E3} (h : EdgesRd W (.slice (some ⟨b, o, none⟩) n c) es) (hm : k + m = es.length) : EdgesRd W (.slice (some ⟨b, o + k * 3, none⟩) m c') (es.drop k) := by
  obtain ⟨a1, c1, h1, h2⟩ := h
  injection h1 with e1 e2 e3
  subst e1
  refine ⟨_, c', by rw [List.length_drop]; congr; omega, fun i e he => ?_⟩
  rw [List.getElem?_drop] at he
  obtain ⟨b2, o2, e4, z1, z2, z3⟩ := h2 (k + i) e he
  injection e4 with e4
  injection e4 with e4 e5
  subst e4
  subst e5
  rw [show o + (k + i) * 3 = o + k * 3 + i * 3 by omega] at z1 z2 z3
  exact ⟨_, _, rfl, z1, z2, z3⟩
theorem rd_none (W : World) (a : Option Addr) (c : Nat) : EdgesRd W (.slice a 0 c) [] := ⟨a, c, rfl, fun i e he => by simp at he⟩
/-! ### append in a drawn region -/
theorem src_cellsU {W : World} {b off : Nat} {es : List E3} (h : ∀ (i : Nat) (e : E3), es[i]? = some e →
    W.cell? ⟨b, off + i * 3, none⟩ = some (.int .i64 e.1) ∧ W.cell? ⟨b, off + i * 3 + 1, none⟩ = some (.int .i64 e.2.1) ∧ W.cell? ⟨b, off + i * 3 + 2, none⟩ = some (.int .i64 e.2.2)) :
    ∀ (j : Nat) (u : Value), (ecl es)[j]? = some u → W.cell? ((⟨b, off, none⟩ : Addr).add j) = some u := by
  intro j u hj
  have hjl := (List.getElem?_eq_some_iff.1 hj).1
  rw [ecl_len] at hjl
  obtain ⟨i, hi⟩ : ∃ i, j / 3 = i := ⟨_, rfl⟩
  obtain ⟨d, hd⟩ : ∃ d, j % 3 = d := ⟨_, rfl⟩
  have hil : i < es.length := by omega
  have he := List.getElem?_eq_getElem hil
  obtain ⟨x1, x2, x3⟩ := ecl_at he
  obtain ⟨y1, y2, y3⟩ := h i _ he
  have ha : ((⟨b, off, none⟩ : Addr).add j) = ⟨b, off + j, none⟩ := by simp [Addr.add]
  rw [ha]
  rcases (show d = 0 ∨ d = 1 ∨ d = 2 by omega) with rfl | rfl | rfl
  · obtain rfl : j = i * 3 := by omega
    rw [x1] at hj; injection hj with hj; subst hj; exact y1
  · obtain rfl : j = i * 3 + 1 := by omega
    rw [x2] at hj; injection hj with hj; subst hj; rw [← Nat.add_assoc]; exact y2
  · obtain rfl : j = i * 3 + 2 := by omega
    rw [x3] at hj; injection hj with hj; subst hj; rw [← Nat.add_assoc]; exact y3
theorem ecl_oneU {es : List E3} : ∀ v ∈ ecl es, v.oneCell' = true := by
  intro v hv
  unfold ecl at hv
  obtain ⟨e, -, h⟩ := List.mem_flatMap.1 hv
  simp [encE] at h
  rcases h with rfl | rfl | rfl <;> rfl
theorem ecl_appendU (es fs : List E3) : ecl (es ++ fs) = ecl es ++ ecl fs := by unfold ecl; rw [List.flatMap_append]
theorem run_append_nilE {w : World} {B : Nat} {v : Value} {es : List E3} (ty : TypeId) (hown : EdgesAt w B v es) (c : Nat) : (Builtin.append_ #[22, 22] ty #[v, .slice none 0 c]).run Tryd.prog w = .ok v w := by
  obtain ⟨i0, hi, hz0, hz1, hz2⟩ := info_parts Tryd.infoEdge
  unfold EdgesAt at hown
  rcases hown.2 with ⟨rfl, -⟩ | ⟨g, cap, cur, rfl, _, _, hnc, _⟩
  · simp [Builtin.append_, run_underlying Tryd.underlying22, sizeOf, typeInfo, hi, Builtin.lenOf, Builtin.firstCells]
  · simp [Builtin.append_, run_underlying Tryd.underlying22, sizeOf, typeInfo, hi, Builtin.lenOf, Builtin.firstCells, hnc, storeCells]
theorem run_appendE {w : World} {B : Nat} {v : Value} {es fs : List E3} (ty : TypeId) (hown : EdgesAt w B v es) (A : Option Addr) (m c : Nat) (hsrc : EdgesRd w (.slice A m c) fs) (h63 : es.length + fs.length ≤ 100000) (hbase : B ≤ w.heap.size) :
    ∃ v' w', (Builtin.append_ #[22, 22] ty #[v, .slice A m c]).run Tryd.prog w = .ok v' w' ∧ EdgesAt w' B v' (es ++ fs) ∧ w.grownBy w' v.ownBlock ∧ (v'.ownBlock = v.ownBlock ∨ v'.ownBlock = some w.heap.size) := by
  obtain ⟨i0, hi, hz0, hz1, hz2⟩ := info_parts Tryd.infoEdge
  obtain ⟨a1, c1, h1, h2⟩ := hsrc
  injection h1 with e1 e2 e3
  subst e1
  subst e2
  subst e3
  rcases A with _ | ad
  · have h0 : fs = [] := by
      rcases fs with _ | ⟨f, r⟩
      · rfl
      · obtain ⟨b, o, h3, _⟩ := h2 0 f rfl
        cases h3
    subst h0
    exact ⟨v, w, run_append_nilE ty hown c, by rw [List.append_nil]; exact hown, World.grownBy.refl w _, .inl rfl⟩
  · have hcells : ∀ j u, (ecl fs)[j]? = some u → w.cell? (ad.add j) = some u := by
      intro j u hu
      have hjl := (List.getElem?_eq_some_iff.1 hu).1
      rw [ecl_len] at hjl
      obtain ⟨b, o, e4, -⟩ := h2 0 _ (List.getElem?_eq_getElem (show 0 < fs.length by omega))
      have e4 : ad = _ := Option.some.inj e4
      subst e4
      refine src_cellsU (es := fs) (fun i e he => ?_) j u hu
      obtain ⟨b2, o2, e5, z⟩ := h2 i e he
      have e5 := Option.some.inj e5
      injection e5 with e5 e6
      subst e5
      subst e6
      exact z
    have hown' := hown
    unfold EdgesAt at hown'
    obtain ⟨v', w', hrun, h3, h4, _, h5⟩ := run_append_own_at (P := Tryd.prog) w B 22 ty 40 i0 (.agg #[.int .i64 0, .int .i64 0, .int .i64 0]) 3 24 Tryd.underlying22 hi hz0 hz1 hz2 rfl (by decide) v es.length (ecl es) hown' ad fs.length c (ecl fs) (ecl_len fs) hcells ecl_oneU (by unfold maxLen; omega) (by omega) hbase
    refine ⟨v', w', hrun, ?_, h4, h5⟩
    unfold EdgesAt
    rw [List.length_append, ecl_appendU]
    exact h3
theorem step_appE {w : World} {ops : Array Oper} {o : Oper} {a : Act} {K : Act → World → Prop} {Q : Exit → Act → World → Prop} {E : Prop} (hgd : o.guard = none) (s x : Operand)
    (ho : o.op = .call { callee := .builtin .append, args := #[s, x], argTypes := #[22, 22] })
    {B : Nat} {v : Value} {es fs : List E3} (hs : a.eval s = v) (hown : EdgesAt w B v es) (A : Option Addr) (m c : Nat) (hx : a.eval x = .slice A m c) (hsrc : EdgesRd w (.slice A m c) fs) (h63 : es.length + fs.length ≤ 100000) (hbase : B ≤ w.heap.size)
    (h : ∀ v' w', EdgesAt w' B v' (es ++ fs) → w.grownBy w' v.ownBlock → (v'.ownBlock = v.ownBlock ∨ v'.ownBlock = some w.heap.size) → K (a.put o.dst v') w') :
    if Region.wanted o (yielded ops a.tmps) = true then Oper.wp Tryd.prog o a w K Q else E := by
  have hw : Region.wanted o (yielded ops a.tmps) = true := by simp [Region.wanted, hgd]
  rw [if_pos hw]
  obtain ⟨v', w', hrun, h2, h3, h4⟩ := run_appendE (w := w) o.type hown A m c hsrc h63 hbase
  unfold Oper.wp execOp
  simp only [ho, resolve, invoke, builtin, Sem.run_bind, Sem.run_pure, Result.andThen_ok, List.map_toArray, List.map_cons, List.map_nil, hs, hx, hrun]
  exact h v' w' h2 h3 h4
/-! ### What a drawn region with appends keeps -/
theorem ff {L : Array Bool} {i j : Nat} (h : i ≠ j) (hf : (L.setIfInBounds i true).getD j false = false) : L.getD j false = false := by
  simp only [Array.getD_eq_getD_getElem?, Array.getElem?_setIfInBounds_ne h] at hf ⊢
  exact hf
theorem fx {L : Array Bool} {i : Nat} (h : i < L.size) : (L.setIfInBounds i true).getD i false = true := by
  simp [Array.getD_eq_getD_getElem?, h]
/-- A row of one edge, apart from a row. -/
def OneE (W : World) (H : Nat) (u : Value) (e : E3) : Prop := ∃ p, u = .slice (some ⟨p, 0, none⟩) 1 1 ∧ Box3 W p e ∧ H ≤ p
theorem OneE.keep {W W' : World} {H : Nat} {u : Value} {e : E3} (h : OneE W H u e) (hb : Below W.heap.size W W') : OneE W' H u e := by
  obtain ⟨p, h1, h2, h3⟩ := h
  exact ⟨p, h1, h2.keep hb, h3⟩
theorem OneE.rd {W : World} {H : Nat} {u : Value} {e : E3} (h : OneE W H u e) : EdgesRd W u [e] := by
  obtain ⟨p, rfl, h2, -⟩ := h
  refine ⟨_, 1, rfl, fun i x hx => ?_⟩
  rcases i with _ | i
  · injection hx with hx
    subst hx
    exact ⟨p, 0, rfl, by simpa using h2.1, by simpa using h2.2.1, by simpa using h2.2.2.1⟩
  · simp at hx
theorem OneE.new {W : World} {H : Nat} {a b c : Int} {t : TypeId} (hb : H ≤ W.heap.size) : OneE (W.alloc (.cells #[.int .i64 a, .int .i64 b, .int .i64 c] t)) H (.slice (some ⟨W.heap.size, 0, none⟩) 1 1) (a, b, c) := ⟨_, rfl, Box3.new _ _ _ _ _, hb⟩
theorem OneE.lt {W : World} {H : Nat} {u : Value} {e : E3} (h : OneE W H u e) {p : Nat} (hp : u.ownBlock = some p) : p < W.heap.size := by
  obtain ⟨q, rfl, h2, -⟩ := h
  injection hp with hp
  subst hp
  exact h2.lt
theorem Box3.grown {W W' : World} {p : Nat} {e : E3} {row : Option Nat} (h : Box3 W p e) (hg : W.grownBy W' row) (hne : some p ≠ row) : Box3 W' p e := by
  have hb := hg.block p h.lt hne
  obtain ⟨h1, h2, h3, h4, h5, h6⟩ := h
  exact ⟨(World.cell?_of_block hb).trans h1, (World.cell?_of_block hb).trans h2, (World.cell?_of_block hb).trans h3, (World.frozen?_of_block hb).trans h4, (World.frozen?_of_block hb).trans h5, (World.frozen?_of_block hb).trans h6⟩
theorem edges_none {W : World} {H : Nat} {t : TypeId} (hb : H ≤ W.heap.size) (ht : t = 40) : EdgesAt (W.alloc (.cells #[] t)) H (.slice (some ⟨W.heap.size, 0, none⟩) 0 0) [] := by
  subst ht
  exact World.ownsRow_made W #[] 0 hb (by unfold maxLen; omega) rfl
/-- The row of one edge lies apart from v's. -/
def Ap (u v : Value) : Prop := u.ownBlock ≠ v.ownBlock
theorem OneE.grown {W W' : World} {H : Nat} {u v : Value} {e : E3} (h : OneE W H u e) (hg : W.grownBy W' v.ownBlock) (ha : Ap u v) : OneE W' H u e := by
  obtain ⟨p, rfl, h2, h3⟩ := h
  exact ⟨p, rfl, h2.grown hg ha, h3⟩
theorem ap_new {W : World} {H : Nat} {v : Value} {es : List E3} {n c : Nat} (h : EdgesAt W H v es) : Ap (.slice (some ⟨W.heap.size, 0, none⟩) n c) v := fun he => by
  have := (h.lt W.heap.size he.symm).2
  omega
theorem OneE.ap {W : World} {H : Nat} {u v v' : Value} {e : E3} (h : OneE W H u e) (ha : Ap u v) (h4 : v'.ownBlock = v.ownBlock ∨ v'.ownBlock = some W.heap.size) : Ap u v' := by
  rcases h4 with h4 | h4
  · unfold Ap; rw [h4]; exact ha
  · intro he
    have := h.lt (p := W.heap.size) (he.trans h4)
    omega
theorem OneE.apart {W : World} {H : Nat} {u : Value} {e : E3} (h : OneE W H u e) (n c : Nat) : Ap u (.slice (some ⟨W.heap.size, 0, none⟩) n c) := fun he => by
  have := h.lt (p := W.heap.size) he
  omega
end Go.Proofs.YtoekemfgmdbnbaaDoor
