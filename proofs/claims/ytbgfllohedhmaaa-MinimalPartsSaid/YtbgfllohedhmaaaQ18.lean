/- What minimal.firstWord returns: the first list of labels that leads to a pair as wanted, if there is one. Conditions: the machines can be read; at most 64 states and 256 labels; what is wanted is told by a function. append of integers onto an own row; places that grooveref13.first found, in memory; what reached returns. Conditions: the places can be read. What graph.leaving's function yields: the edges that leave a state, in order. Conditions: at most 1024 edges, numbers below 64, in order. -/
import Derived.Test.YtbgfllohedhmaaaQ17
import Derived.BigQuiet
import Derived.Maps.AppendAt
import Derived.Deep.AppendLies
import Derived.Test.YtbgfllohedhmaaaQ16
import Derived.Sort.QuietIn

namespace Go.Proofs.Ytbgfllohedhmaaa
open Go.RowKit Go.Maps Go.Lib
set_option linter.unusedSimpArgs false
set_option linter.unusedVariables false

theorem wpList_insert_ownH {H : Type} {P : Program} (w : World) {ops : Array Oper} {rest : List Oper} {o : Oper} {a : Act} {Q : Exit → Act → World → Prop}
    (hg : o.guard = none) (m x v : Operand) (t : TypeId) (hop : o.op = Op.insert t m x v)
    (k e : TypeId) (K : Keyed P k) (ht : P.underlying t = some (.map k e)) (R : Value → Option (DataW H × List MemPlace)) (b n : Nat) (D : DataW H)
    (hm : a.eval m = .map (some b)) (hown : w.ownsMap P k R b n D) (hn : n < maxLen) (key val : Value) (kl : Lit) (hx : a.eval x = key) (hv : a.eval v = val) (hkey : keyOf P k key = some kl)
    (d : DataW H) (ps : List MemPlace) (hval : R val = some (d, ps))
    (hK : ∀ w', w'.ownsMap P k R b (n + 1) (D.put kl d) → w.grownBy w' (some b) → wpList P ops Q rest (a.put o.dst undef) w') :
    wpList P ops Q (o :: rest) a w := by
  refine wpList_plain hg fun K' hK' => ?_
  obtain ⟨w', hrun, r1, r2⟩ := hown.update K ht hn hkey hval
  unfold Oper.wp
  simp [execOp, hop, hm, hx, hv, hrun, Result.andThen]
  exact hK' _ _ (hK w' r1 r2)
/-- The map that tells which pairs are known. -/
def setP (K : List (Nat × Nat)) : MapH := K.foldl (fun m p => m.put (kyP p) (.lit (.bool true))) (.map [])
theorem setP_snoc (K : List (Nat × Nat)) (x : Nat × Nat) : setP (K ++ [x]) = (setP K).put (kyP x) (.lit (.bool true)) := by
  unfold setP; rw [List.foldl_append]; rfl
theorem setP_tidy : ∀ (K : List (Nat × Nat)), Tidy (setP K) :=
  snocP tidy_empty (fun l x ih => by rw [setP_snoc]; exact ih.put (kyP_key _) _)
set_option maxRecDepth 100000 in
theorem setP_at {p : Nat × Nat} (hp : SmP p) : ∀ (K : List (Nat × Nat)), (∀ x ∈ K, SmP x) → (setP K).atKey (kyP p) (.lit (.bool false)) = .lit (.bool (decide (p ∈ K))) :=
  snocP (fun _ => by rw [atKey_of_not_has (by simp [setP, Maps.has])]; simp) (fun l x ih hs => by
    rw [setP_snoc]
    by_cases e : p = x
    · subst e
      rw [atKey_put_same (setP_tidy l).isMap (kyP_key _)]; simp
    · rw [atKey_put_other (kyP_ne hp (hs x (by simp)) e), ih (fun y hy => hs y (List.mem_append_left _ hy))]
      have e2 : decide (p ∈ l) = decide (p ∈ l ++ [x]) := decide_eq_decide.2 (by
        rw [List.mem_append, List.mem_singleton]
        exact ⟨.inl, fun h => h.resolve_right e⟩)
      exact congrArg (fun b => DataW.lit (Lit.bool b)) e2)
theorem Try.zeroBH (w : World) : (zeroValue 4).run Try.prog w = .ok (.bool false) w := by kernel_rfl
theorem plainB_inv {P : Program} {e : TypeId} (he : P.underlying e = some .bool) {v : Value} {z : MapH × List MemPlace} (h : plainElem P e v = some z) : ∃ x, v = .bool x ∧ z = (.lit (.bool x), []) := by
  unfold plainElem at h
  rw [he] at h
  cases v <;> simp at h
  exact ⟨_, rfl, h.symm⟩
set_option maxRecDepth 100000 in
theorem lookB {W : World} {b n : Nat} {K : List (Nat × Nat)} {p : Nat × Nat} (h : W.ownsMap Try.prog 54 (plainElem Try.prog 4) b n (setP K)) (hp : SmP p) (hK : ∀ x ∈ K, SmP x) :
    (Instr.lookup 70 (.map (some b)) (prV p.1 p.2) false).run Try.prog W = .ok (.bool (decide (p ∈ K))) W := by
  obtain ⟨v, ps, hrun, hv⟩ := h.lookup Try.keyLawP Try.underlying70 (Try.zeroBH W) (plainElem_bool Try.underlying4 false) (kyP_of hp)
  rw [setP_at hp K hK] at hv
  obtain ⟨x, hx, hz⟩ := plainB_inv Try.underlying4 hv
  have hz2 := congrArg Prod.fst hz
  dsimp only at hz2
  injection hz2 with hz2
  injection hz2 with hz2
  rw [hz2, ← hx]
  exact hrun
/-- A pair in a variable. -/
def Bx2 (W : World) (p x y : Nat) : Prop := W.heap[p]? = some (.cells #[.int .i64 (x : Int), .int .i64 (y : Int)] 54 (0, 0))
theorem Bx2.new (W : World) (x y : Nat) : Bx2 (W.alloc (.cells #[.int .i64 (x : Int), .int .i64 (y : Int)] 54)) W.heap.size x y := heap_alloc_new W _
theorem Bx2.lt {W : World} {p x y : Nat} (h : Bx2 W p x y) : p < W.heap.size := (Array.getElem?_eq_some_iff.1 h).1
theorem Bx2.cells {W : World} {p x y : Nat} (h : Bx2 W p x y) : W.cell? ⟨p, 0, none⟩ = some (.int .i64 (x : Int)) ∧ W.cell? ⟨p, 1, none⟩ = some (.int .i64 (y : Int)) := by
  unfold Bx2 at h
  exact ⟨by simp [World.cell?, h], by simp [World.cell?, h]⟩
theorem Bx2.keep {W W' : World} {p x y : Nat} (h : Bx2 W p x y) (hb : Below W.heap.size W W') : Bx2 W' p x y := (hb.block p h.lt).trans h
theorem Bx2.grown {W W' : World} {p x y : Nat} {row : Option Nat} (h : Bx2 W p x y) (hg : W.grownBy W' row) (hr : row ≠ some p) : Bx2 W' p x y := (hg.block p h.lt (fun e => hr e.symm)).trans h
theorem Bx2.ne_map {W : World} {p x y b n : Nat} {D : MapH} {Q : Value → Option (MapH × List MemPlace)} {k : TypeId} (h : Bx2 W p x y) (hm : W.ownsMap Try.prog k Q b n D) : some b ≠ some p := fun e => by
  injection e with e
  subst e
  exact map_not_cellsH hm h
theorem row_cellsH {W : World} {A t s k g : Nat} {v : Value} {xs : List Value} (hr : W.ownsRow A t s v k xs) (hg : v.ownBlock = some g) : ∃ c fr, W.heap[g]? = some (.cells c t fr) := by
  rcases hr.2 with ⟨rfl, _⟩ | ⟨g2, cap, cur, rfl, _, hgb, _⟩
  · simp [Value.ownBlock] at hg
  · obtain rfl : g2 = g := by simpa [Value.ownBlock] using hg
    exact ⟨_, _, hgb⟩
theorem Bx2.ne_row {W : World} {p x y B n : Nat} {v : Value} {xs : List Value} (h : Bx2 W p x y) (hr : W.ownsRow B 68 4 v n xs) : v.ownBlock ≠ some p := fun e => by
  obtain ⟨c, fr, h2⟩ := row_cellsH hr e
  unfold Bx2 at h
  rw [h] at h2
  injection h2 with h2
  injection h2 with _ h2 _
  exact absurd h2 (by decide)
/-- What a search holds: what it found, what is known, the pair of what is none. -/
structure FS (lo Bm pN na nb : Nat) (R : List Rec) (K : List (Nat × Nat)) (v : Value) (Wm W : World) : Prop where
  bl : Below lo Wm W
  rs : RecsAt W lo v R
  mp : W.ownsMap Try.prog 54 (plainElem Try.prog 4) Bm K.length (setP K)
  nw : Bx2 W pN na nb
  hB : lo ≤ Bm
theorem FS.keep {lo Bm pN na nb : Nat} {R : List Rec} {K : List (Nat × Nat)} {v : Value} {Wm W W' : World} (h : FS lo Bm pN na nb R K v Wm W) (hlo : lo ≤ W.heap.size) (hb : Below W.heap.size W W') : FS lo Bm pN na nb R K v Wm W' :=
  ⟨h.bl.trans (hb.mono hlo), h.rs.keep hb, h.mp.kept (grown_none hb) (by simp), h.nw.keep hb, h.hB⟩
/-- One pair more. -/
theorem FS.put {lo Bm pN na nb : Nat} {R : List Rec} {K : List (Nat × Nat)} {v v4 : Value} {Wm W w1 w4 : World} {o : Obj} {r : Rec} {x : Nat × Nat} (h : FS lo Bm pN na nb R K v Wm W) (hlo : lo ≤ W.heap.size)
    (hm1 : w1.ownsMap Try.prog 54 (plainElem Try.prog 4) Bm (K.length + 1) ((setP K).put (kyP x) (.lit (.bool true)))) (hg1 : W.grownBy w1 (some Bm))
    (hr1 : w1.ownsRow lo 68 4 v R.length (rcl R))
    (hr4 : w4.ownsRow lo 68 4 v4 (R.length + 1) (rcl R ++ [.int .i64 (r.1 : Int), .int .i64 (r.2.1 : Int), .int .i64 (r.2.2.1 : Int), .int .i64 (r.2.2.2 : Int)])) (hg4 : (w1.alloc o).grownBy w4 v.ownBlock) :
    FS lo Bm pN na nb (R ++ [r]) (K ++ [x]) v4 Wm w4 := by
  have b1 : Below lo Wm w1 := h.bl.grown hg1 hlo (fun k e => by injection e with e; have := h.hB; omega)
  have hs1 : lo ≤ w1.heap.size := by have := hg1.size; omega
  have n1 := h.nw.grown hg1 (h.nw.ne_map h.mp)
  have n2 : Bx2 (w1.alloc o) pN na nb := n1.keep (below1 w1 o)
  have hr2 := hr1.alloc o
  refine ⟨(b1.alloc hs1 o).grown hg4 (by rw [World.size_alloc]; omega) (fun k e => (hr1.lt k e).1), ?_, ?_, n2.grown hg4 (n2.ne_row hr2), h.hB⟩
  · unfold RecsAt
    rw [rcl_snoc, List.length_append]
    exact hr4
  · rw [setP_snoc, List.length_append]
    refine (hm1.alloc o).kept hg4 (fun e => ?_)
    obtain ⟨c, fr, h2⟩ := row_cellsH hr2 e.symm
    exact map_not_cellsH (hm1.alloc o) h2
theorem recs_one (W : World) (s t : Nat) : RecsAt (W.alloc (.cells #[.int .i64 (s : Int), .int .i64 (t : Int), .int .i64 0, .int .i64 0] 68)) W.heap.size (.slice (some ⟨W.heap.size, 0, none⟩) 1 1) [(s, t, 0, 0)] :=
  ⟨rfl, .inr ⟨W.heap.size, 1, #[.int .i64 (s : Int), .int .i64 (t : Int), .int .i64 0, .int .i64 0], rfl, Nat.le_refl _, heap_alloc_new W _, Nat.le_refl _, by unfold maxLen; omega, rfl, rfl⟩⟩
/-- A list of labels and whether there is one. -/
def FWOut (D : Bool → Bool → Bool) (a b : Nat → Nat → Nat) (na nb La s t : Nat) (w : World) (e : Ending) (w' : World) : Prop :=
  ∃ g c u is, e = .returned (.tuple #[.slice g u.length c, .bool is]) ∧ IntsRd w' (.slice g u.length c) u ∧ FW D a b na nb La s t u is ∧ Below w.heap.size w w'
theorem exactlyOne_any (x y : Bool) (w : World) : Calls Try.prog 24 #[.bool x, .bool y] w fun e w' => e = .returned (.bool (x != y)) ∧ w' = w := by
  go_enter Try.func24, Try.ntmps24
  go_wp2_with fail
  go_ret
  exact ⟨rfl, rfl⟩
end Go.Proofs.Ytbgfllohedhmaaa

namespace Go.Proofs.Ytbgfllohedhmaaa
open Go.RowKit
set_option linter.unusedSimpArgs false
set_option linter.unusedVariables false

theorem run_append_nilJ {w : World} {B : Nat} {v : Value} {l : List Int} (ty : TypeId) (hown : IntsAt w B v l) (c : Nat) : (Builtin.append_ #[27, 27] ty #[v, .slice none 0 c]).run Try.prog w = .ok v w := by
  obtain ⟨i0, hi, hz0, hz1, hz2⟩ := info_parts Try.infoI64
  unfold IntsAt at hown
  rcases hown.2 with ⟨rfl, -⟩ | ⟨g, cap, cur, rfl, _, _, hnc, _⟩
  · simp [Builtin.append_, run_underlying Try.underlying27, sizeOf, typeInfo, hi, Builtin.lenOf, Builtin.firstCells]
  · simp [Builtin.append_, run_underlying Try.underlying27, sizeOf, typeInfo, hi, Builtin.lenOf, Builtin.firstCells, hnc, storeCells]
theorem intz_at {l : List Int} {j : Nat} {u : Value} (h : (intz l)[j]? = some u) : ∃ x, l[j]? = some x ∧ u = .int .i64 x := by
  unfold intz at h
  rw [List.getElem?_map] at h
  cases hx : l[j]? with
  | none => rw [hx] at h; cases h
  | some x => rw [hx] at h; injection h with h; exact ⟨x, rfl, h.symm⟩
theorem run_appendIJ {w : World} {B : Nat} {v : Value} {l k : List Int} (ty : TypeId) (hown : IntsAt w B v l) (A : Option Addr) (m c : Nat) (hsrc : IntsRd w (.slice A m c) k) (h63 : l.length + k.length ≤ 100000) (hbase : B ≤ w.heap.size) :
    ∃ v' w', (Builtin.append_ #[27, 27] ty #[v, .slice A m c]).run Try.prog w = .ok v' w' ∧ IntsAt w' B v' (l ++ k) ∧ w.grownBy w' v.ownBlock ∧ (v'.ownBlock = v.ownBlock ∨ v'.ownBlock = some w.heap.size) := by
  obtain ⟨i0, hi, hz0, hz1, hz2⟩ := info_parts Try.infoI64
  obtain ⟨a1, c1, h1, h2⟩ := hsrc
  injection h1 with e1 e2 e3
  subst e1
  subst e2
  subst e3
  rcases A with _ | ad
  · have h0 : k = [] := by
      rcases k with _ | ⟨f, r⟩
      · rfl
      · obtain ⟨b, o, h3, _⟩ := h2 0 f rfl
        cases h3
    subst h0
    exact ⟨v, w, run_append_nilJ ty hown c, by rw [List.append_nil]; exact hown, World.grownBy.refl w _, .inl rfl⟩
  · have hcells : ∀ j u, (intz k)[j]? = some u → w.cell? (ad.add j) = some u := by
      intro j u hu
      obtain ⟨x, hx, rfl⟩ := intz_at hu
      obtain ⟨b, o, e4, e5⟩ := h2 j x hx
      have e4 : ad = _ := Option.some.inj e4
      subst e4
      rw [show ((⟨b, o, none⟩ : Addr).add j) = ⟨b, o + j, none⟩ by simp [Addr.add]]
      exact e5
    have hown' := hown
    unfold IntsAt at hown'
    obtain ⟨v', w', hrun, h3, h4, _, h5⟩ := run_append_own_at (P := Try.prog) w B 27 ty 3 i0 (.int .i64 0) 1 8 Try.underlying27 hi hz0 hz1 hz2 rfl (by decide) v l.length (intz l) hown' ad k.length c (intz k) (by rw [intz_len, Nat.mul_one]) hcells (fun u hu => by
      unfold intz at hu
      obtain ⟨x, -, rfl⟩ := List.mem_map.1 hu
      rfl) (by unfold maxLen; omega) (by omega) hbase
    refine ⟨v', w', hrun, ?_, h4, h5⟩
    unfold IntsAt
    rw [List.length_append, show intz (l ++ k) = intz l ++ intz k from by unfold intz; rw [List.map_append]]
    exact h3
theorem wpList_appIJ {w : World} {ops : Array Oper} {rest : List Oper} {o : Oper} {a : Act} {Q : Exit → Act → World → Prop} (hgd : o.guard = none) (s x : Operand)
    (ho : o.op = .call { callee := .builtin .append, args := #[s, x], argTypes := #[27, 27] })
    {B : Nat} {v : Value} {l k : List Int} (hs : a.eval s = v) (hown : IntsAt w B v l) (A : Option Addr) (m c : Nat) (hx : a.eval x = .slice A m c) (hsrc : IntsRd w (.slice A m c) k) (h63 : l.length + k.length ≤ 100000) (hbase : B ≤ w.heap.size)
    (h : ∀ v' w', IntsAt w' B v' (l ++ k) → w.grownBy w' v.ownBlock → (v'.ownBlock = v.ownBlock ∨ v'.ownBlock = some w.heap.size) → wpList Try.prog ops Q rest (a.put o.dst v') w') :
    wpList Try.prog ops Q (o :: rest) a w := by
  refine wpList_plain hgd fun K hK => ?_
  obtain ⟨v', w', hrun, h2, h3, h4⟩ := run_appendIJ (w := w) o.type hown A m c hsrc h63 hbase
  unfold Oper.wp execOp
  simp only [ho, resolve, invoke, builtin, Sem.run_bind, Sem.run_pure, Result.andThen_ok, List.map_toArray, List.map_cons, List.map_nil, hs, hx, hrun]
  exact hK _ _ (h v' w' h2 h3 h4)
theorem ints_noneJ {W : World} {H : Nat} {t : TypeId} (hb : H ≤ W.heap.size) (ht : t = 3) : IntsAt (W.alloc (.cells #[] t)) H (.slice (some ⟨W.heap.size, 0, none⟩) 0 0) [] := by
  subst ht
  exact World.ownsRow_made W #[] 0 hb (by unfold maxLen; omega) rfl
theorem ints_oneJ (W : World) (x : Int) : IntsRd (W.alloc (.cells #[.int .i64 x] 3)) (.slice (some ⟨W.heap.size, 0, none⟩) 1 1) [x] := by
  refine ⟨_, 1, rfl, fun i y hy => ?_⟩
  rcases i with _ | i
  · injection hy with hy
    subst hy
    exact ⟨W.heap.size, 0, rfl, by simp⟩
  · simp at hy
/-- Rows of different types lie in different blocks. -/
theorem own_neJ {W : World} {A B t1 t2 s1 s2 n1 n2 : Nat} {v1 v2 : Value} {x1 x2 : List Value} (h1 : W.ownsRow A t1 s1 v1 n1 x1) (h2 : W.ownsRow B t2 s2 v2 n2 x2) (ht : t1 ≠ t2) : v1.ownBlock = none ∨ v1.ownBlock ≠ v2.ownBlock := by
  cases e : v1.ownBlock with
  | none => exact .inl rfl
  | some g =>
    right
    intro e2
    obtain ⟨c1, f1, k1⟩ := row_cellsH h1 e
    obtain ⟨c2, f2, k2⟩ := row_cellsH h2 e2.symm
    rw [k1] at k2
    injection k2 with k2
    injection k2 with _ k2
    exact ht k2
/-- A place: the slice of the labels that lead to it, these labels, the pair of states. -/
abbrev Plc := Value × (List Int × (Nat × Nat))
def encP (na nb : Nat) (p : Plc) : List Value := [.int .i64 (tgV na p.2.2.1), .int .i64 (tgV nb p.2.2.2), p.1]
def pcl (na nb : Nat) (P : List Plc) : List Value := P.flatMap (encP na nb)
theorem pcl_snoc (na nb : Nat) (P : List Plc) (p : Plc) : pcl na nb (P ++ [p]) = pcl na nb P ++ [.int .i64 (tgV na p.2.2.1), .int .i64 (tgV nb p.2.2.2), p.1] := by unfold pcl; rw [List.flatMap_append]; rfl
theorem pcl_at {na nb : Nat} {P : List Plc} : ∀ {i : Nat} {p : Plc}, P[i]? = some p → (pcl na nb P)[i * 3]? = some (.int .i64 (tgV na p.2.2.1)) ∧ (pcl na nb P)[i * 3 + 1]? = some (.int .i64 (tgV nb p.2.2.2)) ∧ (pcl na nb P)[i * 3 + 2]? = some p.1 := by
  induction P with
  | nil => intro i p h; cases h
  | cons q rs ih =>
    intro i p h
    rcases i with _ | i
    · injection h with h
      subst h
      exact ⟨rfl, rfl, rfl⟩
    · obtain ⟨k1, k2, k3⟩ := ih (i := i) (p := p) h
      refine ⟨?_, ?_, ?_⟩
      · show (_ :: _ :: _ :: pcl na nb rs)[(i + 1) * 3]? = _
        rw [show (i + 1) * 3 = i * 3 + 1 + 1 + 1 by omega, List.getElem?_cons_succ, List.getElem?_cons_succ, List.getElem?_cons_succ]; exact k1
      · show (_ :: _ :: _ :: pcl na nb rs)[(i + 1) * 3 + 1]? = _
        rw [show (i + 1) * 3 + 1 = i * 3 + 1 + 1 + 1 + 1 by omega, List.getElem?_cons_succ, List.getElem?_cons_succ, List.getElem?_cons_succ]; exact k2
      · show (_ :: _ :: _ :: pcl na nb rs)[(i + 1) * 3 + 2]? = _
        rw [show (i + 1) * 3 + 2 = i * 3 + 2 + 1 + 1 + 1 by omega, List.getElem?_cons_succ, List.getElem?_cons_succ, List.getElem?_cons_succ]; exact k3
/-- The queue of a search, and the labels that lead to its places. -/
structure QA (lo na nb : Nat) (P : List Plc) (v : Value) (W : World) : Prop where
  row : W.ownsRow lo 73 3 v P.length (pcl na nb P)
  wd : ∀ p ∈ P, IntsAt W lo p.1 p.2.1
theorem QA.keep {lo na nb : Nat} {P : List Plc} {v : Value} {W W' : World} (h : QA lo na nb P v W) (hb : Below W.heap.size W W') : QA lo na nb P v W' :=
  ⟨World.ownsRow.kept h.row (grown_none hb) (by cases v.ownBlock <;> simp), fun p hp => (h.wd p hp).keep hb⟩
theorem QA.put {lo na nb : Nat} {P : List Plc} {p : Plc} {v v6 : Value} {W4 W6 : World} {o : Obj} (h : QA lo na nb P v W4) (hu : IntsAt W4 lo p.1 p.2.1)
    (r1 : W6.ownsRow lo 73 3 v6 (P.length + 1) (pcl na nb P ++ [.int .i64 (tgV na p.2.2.1), .int .i64 (tgV nb p.2.2.2), p.1])) (r2 : (W4.alloc o).grownBy W6 v.ownBlock) : QA lo na nb (P ++ [p]) v6 W6 := by
  refine ⟨by rw [pcl_snoc, List.length_append]; exact r1, fun q hq => ?_⟩
  have key : ∀ q : Plc, IntsAt W4 lo q.1 q.2.1 → IntsAt W6 lo q.1 q.2.1 := fun q hq => by
    unfold IntsAt at hq ⊢
    exact (hq.alloc o).kept r2 (own_neJ (hq.alloc o) (h.row.alloc o) (by decide))
  rw [List.mem_append, List.mem_singleton] at hq
  rcases hq with hq | rfl
  · exact key q (h.wd q hq)
  · exact key q hu
theorem QA.cells {lo na nb g n c i : Nat} {P : List Plc} {p : Plc} {W : World} (h : QA lo na nb P (.slice (some ⟨g, 0, none⟩) n c) W) (hn : P.length = n) (hp : P[i]? = some p) :
    W.cell? ⟨g, i * 3, none⟩ = some (.int .i64 (tgV na p.2.2.1)) ∧ W.cell? ⟨g, i * 3 + 1, none⟩ = some (.int .i64 (tgV nb p.2.2.2)) ∧ W.cell? ⟨g, i * 3 + 2, none⟩ = some p.1 := by
  subst hn
  have hi : i < P.length := (List.getElem?_eq_some_iff.1 hp).1
  obtain ⟨k1, k2, k3⟩ := pcl_at (na := na) (nb := nb) hp
  exact ⟨(World.ownsRow.cellAt h.row (i * 3) (by omega)).trans k1, (World.ownsRow.cellAt h.row (i * 3 + 1) (by omega)).trans k2, (World.ownsRow.cellAt h.row (i * 3 + 2) (by omega)).trans k3⟩
theorem Try.infoPlace : (Try.prog.info? 73).map (fun i => (i.zero, i.size, i.bytes)) = some (some (.agg #[.int .i64 0, .int .i64 0, .slice none 0 0]), 3, 40) := by kernel_rfl
set_option maxRecDepth 100000 in
set_option maxHeartbeats 3200000 in
theorem reached_any (lo na nb x y : Nat) (P : List Plc) (v : Value) (w : World) (hQ : QA lo na nb P v w) (hbx : ∀ p ∈ P, p.2.2.1 ≤ na ∧ p.2.2.2 ≤ nb) (hx : x ≤ na) (hy : y ≤ nb) (hn : P.length ≤ 100000) :
    Calls Try.prog 42 #[v, .int .i64 (tgV na x), .int .i64 (tgV nb y)] w fun e w' => e = .returned (.bool (decide (∃ p ∈ P, p.2.2 = (x, y)))) ∧ w' = w := by
  have HQ := Lib.hid hQ
  have HB := Lib.hid hbx
  have HX := Lib.hid hx
  have HY := Lib.hid hy
  obtain ⟨a, c, rfl⟩ := own_slice hQ.row
  obtain ⟨X, hX⟩ : ∃ X, tgV na x = X := ⟨_, rfl⟩
  obtain ⟨Y, hY⟩ : ∃ Y, tgV nb y = Y := ⟨_, rfl⟩
  have HXE := Lib.hid hX
  have HYE := Lib.hid hY
  rw [hX, hY]
  obtain ⟨N, hN⟩ : ∃ N, P.length = N := ⟨_, rfl⟩
  have HN := Lib.hid hN
  rw [hN] at hn HQ ⊢
  clear hQ hbx hx hy hX hY hN
  go_enter Try.func42, Try.ntmps42
  go_wp2_with fail
  go_loopg [7] N (fun q s7 wx => ∃ i : Nat, i + q = N ∧ s7 = .int .i64 (i : Int) ∧ Hid (∀ p ∈ P.take i, p.2.2 ≠ (x, y)) ∧ wx = w)
  case atStart => exact ⟨0, by omega, rfl, Lib.hid (fun p hp => by simp at hp), rfl⟩
  case round =>
    obtain ⟨i, hin, rfl, HI, rfl⟩ := hrel
    rcases gk with _ | q
    · obtain rfl : i = N := by omega
      have HE := Lib.hid (show decide (∃ p ∈ P, p.2.2 = (x, y)) = false from decide_eq_false (fun ⟨p, hp, e⟩ => by
        have h := HI.out p (by rw [List.take_of_length_le (by rw [HN.out]; exact Nat.le_refl _)]; exact hp)
        exact h e))
      have j1 : ¬ ((i : Int) < (i : Int)) := by omega
      clear HI
      go_wp2_with fail
      go_ret
      exact ⟨by rw [HE.out]; rfl, rfl⟩
    · have hNN := HN.out
      obtain ⟨p, hp⟩ : ∃ p, P[i]? = some p := ⟨_, List.getElem?_eq_getElem (by omega)⟩
      obtain ⟨g, c9, hv, -, -⟩ := World.ownsRow.form HQ.out.row (by omega)
      injection hv with e1 e2 e3
      subst e1
      obtain ⟨k1, k2, k3⟩ := QA.cells HQ.out hNN hp
      have hm := List.mem_of_getElem? hp
      obtain ⟨b1, b2⟩ := HB.out p hm
      have j1 : (i : Int) < (N : Int) := by omega
      have HNX := Lib.hid (show p.2.2 ≠ (x, y) → ∀ q ∈ P.take (i + 1), q.2.2 ≠ (x, y) from fun h q hq => by
        rw [List.take_add_one, hp, List.mem_append] at hq
        rcases hq with hq | hq
        · exact HI.out q hq
        · simp at hq; subst hq; exact h)
      by_cases h1 : p.2.2.1 = x
      · rw [h1, HXE.out] at k1
        by_cases h2 : p.2.2.2 = y
        · rw [h2, HYE.out] at k2
          have HE := Lib.hid (show decide (∃ p ∈ P, p.2.2 = (x, y)) = true from decide_eq_true ⟨p, hm, Prod.ext h1 h2⟩)
          clear HI HNX hp k3 hm h1 h2 b1 b2 e2 e3 hNN
          go_wp2_with fail
          go_ret
          exact ⟨by rw [HE.out]; rfl, rfl⟩
        · have HI2 := Lib.hid (HNX.out (fun e => h2 (by rw [e])))
          have hne : tgV nb p.2.2.2 ≠ Y := fun e => h2 (tgV_inj b2 HY.out (e.trans HYE.out.symm))
          obtain ⟨Z, hZ⟩ : ∃ Z, tgV nb p.2.2.2 = Z := ⟨_, rfl⟩
          rw [hZ] at k2 hne
          have d2 : (Z == Y) = false := by simpa using hne
          clear HI HNX hp k3 hm h1 h2 b1 b2 e2 e3 hNN hZ hne
          go_wp2_with fail
          go_roundg q
          case measure => omega
          case rel => exact ⟨i + 1, by omega, by go_num, HI2, rfl⟩
      · have HI2 := Lib.hid (HNX.out (fun e => h1 (by rw [e])))
        have hne : tgV na p.2.2.1 ≠ X := fun e => h1 (tgV_inj b1 HX.out (e.trans HXE.out.symm))
        obtain ⟨Z, hZ⟩ : ∃ Z, tgV na p.2.2.1 = Z := ⟨_, rfl⟩
        rw [hZ] at k1 hne
        have d1 : (Z == X) = false := by simpa using hne
        clear HI HNX hp k2 k3 hm h1 b1 b2 e2 e3 hNN hZ hne
        go_wp2_with fail
        go_roundg q
        case measure => omega
        case rel => exact ⟨i + 1, by omega, by go_num, HI2, rfl⟩
end Go.Proofs.Ytbgfllohedhmaaa

namespace Go.Proofs.Ytbgfllohedhmaaa
open Go.RowKit Go.Shelf
attribute [local go_sem] Oper.semAt_some
set_option linter.unusedSimpArgs false
set_option linter.unusedVariables false

theorem below_grown' {W W1 : World} (h : Below W.heap.size W W1) : W.grownBy W1 none := ⟨h.os, h.tape, h.output, h.size, fun k hk _ => h.block k hk⟩
/-- What a round keeps: what lay below n₀, and the two variables of leaving. -/
def KtG (n₀ B : Nat) (W W1 : World) : Prop := Below n₀ W W1 ∧ W1.heap[B]? = W.heap[B]? ∧ W1.heap[B + 1]? = W.heap[B + 1]?
theorem KtG.refl (n₀ B : Nat) (W : World) : KtG n₀ B W W := ⟨Below.refl _ _, rfl, rfl⟩
theorem KtG.trans {n₀ B : Nat} {X Y Z : World} (h : KtG n₀ B X Y) (k : KtG n₀ B Y Z) : KtG n₀ B X Z := ⟨h.1.trans k.1, k.2.1.trans h.2.1, k.2.2.trans h.2.2⟩
theorem KtG.of_below {n₀ B : Nat} {W W1 : World} (h : Below W.heap.size W W1) (h0 : n₀ ≤ W.heap.size) (h1 : B + 1 < W.heap.size) : KtG n₀ B W W1 := ⟨h.mono h0, h.block _ (by omega), h.block _ h1⟩
/-- An edge that leaves s, by its index. -/
abbrev Lv (es : List E3) (s : Int) : Type := { x : Nat // ∃ e, es[x]? = some e ∧ e.1 = s }
def natV : Value → Nat
  | .int _ z => z.toNat
  | _ => 0
end Go.Proofs.Ytbgfllohedhmaaa
