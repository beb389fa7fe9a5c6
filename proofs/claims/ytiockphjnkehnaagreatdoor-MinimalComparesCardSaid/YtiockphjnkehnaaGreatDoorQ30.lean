/- append of integers onto an own row; places that grooveref13.first found, in memory; what reached returns. Conditions: the places can be read. What slices.Repeat of one integer that is -1 returns. Condition: at most 64. What component.lengths returns: the search in depth. Conditions: at most 64 states, rows of states. -/
import Derived.Test.YtiockphjnkehnaaGreatDoorQ22
import Derived.Test.YtiockphjnkehnaaGreatDoorQ29
import Derived.Maps.AppendAt
import Derived.Deep.AppendLies
import Derived.Test.YtiockphjnkehnaaGreatDoorQ11

namespace Go.Proofs.YtiockphjnkehnaaGreatDoor
open Go.RowKit
set_option linter.unusedSimpArgs false
set_option linter.unusedVariables false

theorem run_append_nilJ {w : World} {B : Nat} {v : Value} {l : List Int} (ty : TypeId) (hown : IntsAt w B v l) (c : Nat) : (Builtin.append_ #[30, 30] ty #[v, .slice none 0 c]).run Tryz.prog w = .ok v w := by
  obtain ⟨i0, hi, hz0, hz1, hz2⟩ := info_parts Tryz.infoI64
  unfold IntsAt at hown
  rcases hown.2 with ⟨rfl, -⟩ | ⟨g, cap, cur, rfl, _, _, hnc, _⟩
  · simp [Builtin.append_, run_underlying Tryz.underlying30, sizeOf, typeInfo, hi, Builtin.lenOf, Builtin.firstCells]
  · simp [Builtin.append_, run_underlying Tryz.underlying30, sizeOf, typeInfo, hi, Builtin.lenOf, Builtin.firstCells, hnc, storeCells]
theorem intz_at {l : List Int} {j : Nat} {u : Value} (h : (intz l)[j]? = some u) : ∃ x, l[j]? = some x ∧ u = .int .i64 x := by
  unfold intz at h
  rw [List.getElem?_map] at h
  cases hx : l[j]? with
  | none => rw [hx] at h; cases h
  | some x => rw [hx] at h; injection h with h; exact ⟨x, rfl, h.symm⟩
theorem run_appendIJ {w : World} {B : Nat} {v : Value} {l k : List Int} (ty : TypeId) (hown : IntsAt w B v l) (A : Option Addr) (m c : Nat) (hsrc : IntsRd w (.slice A m c) k) (h63 : l.length + k.length ≤ 100000) (hbase : B ≤ w.heap.size) :
    ∃ v' w', (Builtin.append_ #[30, 30] ty #[v, .slice A m c]).run Tryz.prog w = .ok v' w' ∧ IntsAt w' B v' (l ++ k) ∧ w.grownBy w' v.ownBlock ∧ (v'.ownBlock = v.ownBlock ∨ v'.ownBlock = some w.heap.size) := by
  obtain ⟨i0, hi, hz0, hz1, hz2⟩ := info_parts Tryz.infoI64
  obtain ⟨a1, c1, h1, h2⟩ := hsrc
  injection h1 with e1 e2 e3
  subst e1
  subst e2
  subst e3
  rcases A with _ | ad
  · have h0 : k = [] := by
      rcases k with _ | ⟨f, r⟩
      · rfl
      · obtain ⟨b, o, h3, _⟩ := h2 0 f rfl
        cases h3
    subst h0
    exact ⟨v, w, run_append_nilJ ty hown c, by rw [List.append_nil]; exact hown, World.grownBy.refl w _, .inl rfl⟩
  · have hcells : ∀ j u, (intz k)[j]? = some u → w.cell? (ad.add j) = some u := by
      intro j u hu
      obtain ⟨x, hx, rfl⟩ := intz_at hu
      obtain ⟨b, o, e4, e5⟩ := h2 j x hx
      have e4 : ad = _ := Option.some.inj e4
      subst e4
      rw [show ((⟨b, o, none⟩ : Addr).add j) = ⟨b, o + j, none⟩ by simp [Addr.add]]
      exact e5
    have hown' := hown
    unfold IntsAt at hown'
    obtain ⟨v', w', hrun, h3, h4, _, h5⟩ := run_append_own_at (P := Tryz.prog) w B 30 ty 3 i0 (.int .i64 0) 1 8 Tryz.underlying30 hi hz0 hz1 hz2 rfl (by decide) v l.length (intz l) hown' ad k.length c (intz k) (by rw [intz_len, Nat.mul_one]) hcells (fun u hu => by
      unfold intz at hu
      obtain ⟨x, -, rfl⟩ := List.mem_map.1 hu
      rfl) (by unfold maxLen; omega) (by omega) hbase
    refine ⟨v', w', hrun, ?_, h4, h5⟩
    unfold IntsAt
    rw [List.length_append, show intz (l ++ k) = intz l ++ intz k from by unfold intz; rw [List.map_append]]
    exact h3
theorem wpList_appIJ {w : World} {ops : Array Oper} {rest : List Oper} {o : Oper} {a : Act} {Q : Exit → Act → World → Prop} (hgd : o.guard = none) (s x : Operand)
    (ho : o.op = .call { callee := .builtin .append, args := #[s, x], argTypes := #[30, 30] })
    {B : Nat} {v : Value} {l k : List Int} (hs : a.eval s = v) (hown : IntsAt w B v l) (A : Option Addr) (m c : Nat) (hx : a.eval x = .slice A m c) (hsrc : IntsRd w (.slice A m c) k) (h63 : l.length + k.length ≤ 100000) (hbase : B ≤ w.heap.size)
    (h : ∀ v' w', IntsAt w' B v' (l ++ k) → w.grownBy w' v.ownBlock → (v'.ownBlock = v.ownBlock ∨ v'.ownBlock = some w.heap.size) → wpList Tryz.prog ops Q rest (a.put o.dst v') w') :
    wpList Tryz.prog ops Q (o :: rest) a w := by
  refine wpList_plain hgd fun K hK => ?_
  obtain ⟨v', w', hrun, h2, h3, h4⟩ := run_appendIJ (w := w) o.type hown A m c hsrc h63 hbase
  unfold Oper.wp execOp
  simp only [ho, resolve, invoke, builtin, Sem.run_bind, Sem.run_pure, Result.andThen_ok, List.map_toArray, List.map_cons, List.map_nil, hs, hx, hrun]
  exact hK _ _ (h v' w' h2 h3 h4)
theorem ints_noneJ {W : World} {H : Nat} {t : TypeId} (hb : H ≤ W.heap.size) (ht : t = 3) : IntsAt (W.alloc (.cells #[] t)) H (.slice (some ⟨W.heap.size, 0, none⟩) 0 0) [] := by
  subst ht
  exact World.ownsRow_made W #[] 0 hb (by unfold maxLen; omega) rfl
theorem ints_oneJ (W : World) (x : Int) : IntsRd (W.alloc (.cells #[.int .i64 x] 3)) (.slice (some ⟨W.heap.size, 0, none⟩) 1 1) [x] := by
  refine ⟨_, 1, rfl, fun i y hy => ?_⟩
  rcases i with _ | i
  · injection hy with hy
    subst hy
    exact ⟨W.heap.size, 0, rfl, by simp⟩
  · simp at hy
theorem own_neJ {W : World} {A B t1 t2 s1 s2 n1 n2 : Nat} {v1 v2 : Value} {x1 x2 : List Value} (h1 : W.ownsRow A t1 s1 v1 n1 x1) (h2 : W.ownsRow B t2 s2 v2 n2 x2) (ht : t1 ≠ t2) : v1.ownBlock = none ∨ v1.ownBlock ≠ v2.ownBlock := by
  cases e : v1.ownBlock with
  | none => exact .inl rfl
  | some g =>
    right
    intro e2
    obtain ⟨c1, f1, k1⟩ := row_cellsH h1 e
    obtain ⟨c2, f2, k2⟩ := row_cellsH h2 e2.symm
    rw [k1] at k2
    injection k2 with k2
    injection k2 with _ k2
    exact ht k2
abbrev Plc := Value × (List Int × (Nat × Nat))
def encP (na nb : Nat) (p : Plc) : List Value := [.int .i64 (tgV na p.2.2.1), .int .i64 (tgV nb p.2.2.2), p.1]
def pcl (na nb : Nat) (P : List Plc) : List Value := P.flatMap (encP na nb)
theorem pcl_snoc (na nb : Nat) (P : List Plc) (p : Plc) : pcl na nb (P ++ [p]) = pcl na nb P ++ [.int .i64 (tgV na p.2.2.1), .int .i64 (tgV nb p.2.2.2), p.1] := by unfold pcl; rw [List.flatMap_append]; rfl
theorem pcl_at {na nb : Nat} {P : List Plc} : ∀ {i : Nat} {p : Plc}, P[i]? = some p → (pcl na nb P)[i * 3]? = some (.int .i64 (tgV na p.2.2.1)) ∧ (pcl na nb P)[i * 3 + 1]? = some (.int .i64 (tgV nb p.2.2.2)) ∧ (pcl na nb P)[i * 3 + 2]? = some p.1 := by
  induction P with
  | nil => intro i p h; cases h
  | cons q rs ih =>
    intro i p h
    rcases i with _ | i
    · injection h with h
      subst h
      exact ⟨rfl, rfl, rfl⟩
    · obtain ⟨k1, k2, k3⟩ := ih (i := i) (p := p) h
      refine ⟨?_, ?_, ?_⟩
      · show (_ :: _ :: _ :: pcl na nb rs)[(i + 1) * 3]? = _
        rw [show (i + 1) * 3 = i * 3 + 1 + 1 + 1 by omega, List.getElem?_cons_succ, List.getElem?_cons_succ, List.getElem?_cons_succ]; exact k1
      · show (_ :: _ :: _ :: pcl na nb rs)[(i + 1) * 3 + 1]? = _
        rw [show (i + 1) * 3 + 1 = i * 3 + 1 + 1 + 1 + 1 by omega, List.getElem?_cons_succ, List.getElem?_cons_succ, List.getElem?_cons_succ]; exact k2
      · show (_ :: _ :: _ :: pcl na nb rs)[(i + 1) * 3 + 2]? = _
        rw [show (i + 1) * 3 + 2 = i * 3 + 2 + 1 + 1 + 1 by omega, List.getElem?_cons_succ, List.getElem?_cons_succ, List.getElem?_cons_succ]; exact k3
structure QA (lo na nb : Nat) (P : List Plc) (v : Value) (W : World) : Prop where
  row : W.ownsRow lo 116 3 v P.length (pcl na nb P)
  wd : ∀ p ∈ P, IntsAt W lo p.1 p.2.1
theorem QA.keep {lo na nb : Nat} {P : List Plc} {v : Value} {W W' : World} (h : QA lo na nb P v W) (hb : Below W.heap.size W W') : QA lo na nb P v W' :=
  ⟨World.ownsRow.kept h.row (grown_none hb) (by cases v.ownBlock <;> simp), fun p hp => (h.wd p hp).keep hb⟩
theorem QA.put {lo na nb : Nat} {P : List Plc} {p : Plc} {v v6 : Value} {W4 W6 : World} {o : Obj} (h : QA lo na nb P v W4) (hu : IntsAt W4 lo p.1 p.2.1)
    (r1 : W6.ownsRow lo 116 3 v6 (P.length + 1) (pcl na nb P ++ [.int .i64 (tgV na p.2.2.1), .int .i64 (tgV nb p.2.2.2), p.1])) (r2 : (W4.alloc o).grownBy W6 v.ownBlock) : QA lo na nb (P ++ [p]) v6 W6 := by
  refine ⟨by rw [pcl_snoc, List.length_append]; exact r1, fun q hq => ?_⟩
  have key : ∀ q : Plc, IntsAt W4 lo q.1 q.2.1 → IntsAt W6 lo q.1 q.2.1 := fun q hq => by
    unfold IntsAt at hq ⊢
    exact (hq.alloc o).kept r2 (own_neJ (hq.alloc o) (h.row.alloc o) (by decide))
  rw [List.mem_append, List.mem_singleton] at hq
  rcases hq with hq | rfl
  · exact key q (h.wd q hq)
  · exact key q hu
theorem QA.cells {lo na nb g n c i : Nat} {P : List Plc} {p : Plc} {W : World} (h : QA lo na nb P (.slice (some ⟨g, 0, none⟩) n c) W) (hn : P.length = n) (hp : P[i]? = some p) :
    W.cell? ⟨g, i * 3, none⟩ = some (.int .i64 (tgV na p.2.2.1)) ∧ W.cell? ⟨g, i * 3 + 1, none⟩ = some (.int .i64 (tgV nb p.2.2.2)) ∧ W.cell? ⟨g, i * 3 + 2, none⟩ = some p.1 := by
  subst hn
  have hi : i < P.length := (List.getElem?_eq_some_iff.1 hp).1
  obtain ⟨k1, k2, k3⟩ := pcl_at (na := na) (nb := nb) hp
  exact ⟨(World.ownsRow.cellAt h.row (i * 3) (by omega)).trans k1, (World.ownsRow.cellAt h.row (i * 3 + 1) (by omega)).trans k2, (World.ownsRow.cellAt h.row (i * 3 + 2) (by omega)).trans k3⟩
theorem Tryz.infoPlace : (Tryz.prog.info? 116).map (fun i => (i.zero, i.size, i.bytes)) = some (some (.agg #[.int .i64 0, .int .i64 0, .slice none 0 0]), 3, 40) := by kernel_rfl
set_option maxRecDepth 100000 in
set_option maxHeartbeats 3200000 in
theorem reached_any (lo na nb x y : Nat) (P : List Plc) (v : Value) (w : World) (hQ : QA lo na nb P v w) (hbx : ∀ p ∈ P, p.2.2.1 ≤ na ∧ p.2.2.2 ≤ nb) (hx : x ≤ na) (hy : y ≤ nb) (hn : P.length ≤ 100000) :
    Calls Tryz.prog 90 #[v, .int .i64 (tgV na x), .int .i64 (tgV nb y)] w fun e w' => e = .returned (.bool (decide (∃ p ∈ P, p.2.2 = (x, y)))) ∧ w' = w := by
  have HQ := Lib.hid hQ
  have HB := Lib.hid hbx
  have HX := Lib.hid hx
  have HY := Lib.hid hy
  obtain ⟨a, c, rfl⟩ := own_slice hQ.row
  obtain ⟨X, hX⟩ : ∃ X, tgV na x = X := ⟨_, rfl⟩
  obtain ⟨Y, hY⟩ : ∃ Y, tgV nb y = Y := ⟨_, rfl⟩
  have HXE := Lib.hid hX
  have HYE := Lib.hid hY
  rw [hX, hY]
  obtain ⟨N, hN⟩ : ∃ N, P.length = N := ⟨_, rfl⟩
  have HN := Lib.hid hN
  rw [hN] at hn HQ ⊢
  clear hQ hbx hx hy hX hY hN
  go_enter Tryz.func90, Tryz.ntmps90
  go_wp2_with fail
  go_loopg [7] N (fun q s7 wx => ∃ i : Nat, i + q = N ∧ s7 = .int .i64 (i : Int) ∧ Hid (∀ p ∈ P.take i, p.2.2 ≠ (x, y)) ∧ wx = w)
  case atStart => exact ⟨0, by omega, rfl, Lib.hid (fun p hp => by simp at hp), rfl⟩
  case round =>
    obtain ⟨i, hin, rfl, HI, rfl⟩ := hrel
    rcases gk with _ | q
    · obtain rfl : i = N := by omega
      have HE := Lib.hid (show decide (∃ p ∈ P, p.2.2 = (x, y)) = false from decide_eq_false (fun ⟨p, hp, e⟩ => by
        have h := HI.out p (by rw [List.take_of_length_le (by rw [HN.out]; exact Nat.le_refl _)]; exact hp)
        exact h e))
      have j1 : ¬ ((i : Int) < (i : Int)) := by omega
      clear HI
      go_wp2_with fail
      go_ret
      exact ⟨by rw [HE.out]; rfl, rfl⟩
    · have hNN := HN.out
      obtain ⟨p, hp⟩ : ∃ p, P[i]? = some p := ⟨_, List.getElem?_eq_getElem (by omega)⟩
      obtain ⟨g, c9, hv, -, -⟩ := World.ownsRow.form HQ.out.row (by omega)
      injection hv with e1 e2 e3
      subst e1
      obtain ⟨k1, k2, k3⟩ := QA.cells HQ.out hNN hp
      have hm := List.mem_of_getElem? hp
      obtain ⟨b1, b2⟩ := HB.out p hm
      have j1 : (i : Int) < (N : Int) := by omega
      have HNX := Lib.hid (show p.2.2 ≠ (x, y) → ∀ q ∈ P.take (i + 1), q.2.2 ≠ (x, y) from fun h q hq => by
        rw [List.take_add_one, hp, List.mem_append] at hq
        rcases hq with hq | hq
        · exact HI.out q hq
        · simp at hq; subst hq; exact h)
      by_cases h1 : p.2.2.1 = x
      · rw [h1, HXE.out] at k1
        by_cases h2 : p.2.2.2 = y
        · rw [h2, HYE.out] at k2
          have HE := Lib.hid (show decide (∃ p ∈ P, p.2.2 = (x, y)) = true from decide_eq_true ⟨p, hm, Prod.ext h1 h2⟩)
          clear HI HNX hp k3 hm h1 h2 b1 b2 e2 e3 hNN
          go_wp2_with fail
          go_ret
          exact ⟨by rw [HE.out]; rfl, rfl⟩
        · have HI2 := Lib.hid (HNX.out (fun e => h2 (by rw [e])))
          have hne : tgV nb p.2.2.2 ≠ Y := fun e => h2 (tgV_inj b2 HY.out (e.trans HYE.out.symm))
          obtain ⟨Z, hZ⟩ : ∃ Z, tgV nb p.2.2.2 = Z := ⟨_, rfl⟩
          rw [hZ] at k2 hne
          have d2 : (Z == Y) = false := by simpa using hne
          clear HI HNX hp k3 hm h1 h2 b1 b2 e2 e3 hNN hZ hne
          go_wp2_with fail
          go_roundg q
          case measure => omega
          case rel => exact ⟨i + 1, by omega, by go_num, HI2, rfl⟩
      · have HI2 := Lib.hid (HNX.out (fun e => h1 (by rw [e])))
        have hne : tgV na p.2.2.1 ≠ X := fun e => h1 (tgV_inj b1 HX.out (e.trans HXE.out.symm))
        obtain ⟨Z, hZ⟩ : ∃ Z, tgV na p.2.2.1 = Z := ⟨_, rfl⟩
        rw [hZ] at k1 hne
        have d1 : (Z == X) = false := by simpa using hne
        clear HI HNX hp k2 k3 hm h1 b1 b2 e2 e3 hNN hZ hne
        go_wp2_with fail
        go_roundg q
        case measure => omega
        case rel => exact ⟨i + 1, by omega, by go_num, HI2, rfl⟩
end Go.Proofs.YtiockphjnkehnaaGreatDoor

namespace Go.Proofs.YtiockphjnkehnaaGreatDoor
open Go.RowKit
set_option linter.unusedSimpArgs false
set_option linter.unusedVariables false

theorem rowIs_rep {t : TypeId} {g n : Nat} (v : Value) : ∀ (m o : Nat) (W : World) (F : Nat → Value), W.rowIs g t n F → (W.setCells g o (List.replicate m v)).rowIs g t n (fun i => if o ≤ i ∧ i < o + m then v else F i)
  | 0, o, W, F, h => World.rowIs.congr h (fun i _ => by rw [if_neg (by omega)])
  | m + 1, o, W, F, h => by
    rw [List.replicate_succ]
    refine World.rowIs.congr (rowIs_rep v m (o + 1) _ _ (World.rowIs.set h o v)) (fun i _ => ?_)
    by_cases h1 : i = o
    · subst h1
      rw [if_neg (by omega), if_pos rfl, if_pos (by omega)]
    · by_cases h2 : o + 1 ≤ i ∧ i < o + 1 + m
      · rw [if_pos h2, if_pos (by omega)]
      · rw [if_neg h2, if_neg h1, if_neg (by omega)]
structure CI (w : World) (R n k : Nat) (W : World) : Prop where
  b : Below w.heap.size w W
  r : IRow W R n (fun j => if j < k then -1 else 0)
theorem infoInts : (Tryz.prog.info? 3).map (·.size) = some 1 := by kernel_rfl
theorem sizeInt : ∀ w, (Go.sizeOf 3).run Tryz.prog w = .ok 1 w := fun w => by kernel_rfl
set_option maxRecDepth 100000 in
theorem copy_ints {w W : World} {R n k : Nat} (h : CI w R n k W) (hR : w.heap.size ≤ R) (hk : k ≤ n) (a : Addr) (sLen cap : Nat) (ty : TypeId) (m : Nat) (hm : m = Nat.min sLen (n - k)) (hc : ∀ j, j < m → W.cell? (a.add j) = some (.int .i64 (-1))) :
    ∃ W', (Builtin.copy_ #[30, 30] ty #[.slice (some ⟨R, k, none⟩) (n - k) (n - k), .slice (some a) sLen cap]).run Tryz.prog W = .ok (.int .i64 (m : Int)) W' ∧ CI w R n (k + m) W' := by
  have hm2 : m ≤ n - k := by rw [hm]; exact Nat.min_le_right _ _
  have hr := run_copy_cells (P := Tryz.prog) W 30 30 ty 3 R k (n - k) (n - k) a sLen cap (List.replicate m (.int .i64 (-1))) Tryz.underlying30 infoInts (by rw [List.length_replicate]; exact hm)
    (fun j u hj => by
      have hj2 : j < m := by have := (List.getElem?_eq_some_iff.1 hj).1; rwa [List.length_replicate] at this
      rw [List.getElem?_replicate, if_pos hj2] at hj
      injection hj with hj
      subst hj
      exact hc j hj2)
    (fun j hj => by rw [List.length_replicate] at hj; rw [h.r.cell (by omega)]; rfl) (fun j hj => by rw [List.length_replicate] at hj; exact h.r.frozen _)
    (fun u hu => by rw [List.eq_of_mem_replicate hu]; rfl)
  rw [List.length_replicate] at hr
  refine ⟨_, hr, ?_⟩
  refine ⟨Lib.below_setCells R hR _ _ h.b, World.rowIs.congr (rowIs_rep _ m k W _ h.r) (fun i _ => ?_)⟩
  by_cases h1 : k ≤ i ∧ i < k + m
  · rw [if_pos h1]
    dsimp only
    rw [if_pos (by omega)]
  · rw [if_neg h1]
    dsimp only
    by_cases h2 : i < k
    · rw [if_pos h2, if_pos (by omega)]
    · rw [if_neg h2, if_neg (by omega)]
theorem CI.drew {w W : World} {R n k : Nat} (h : CI w R n k W) : CI w R n k W.drew := ⟨h.b.drew, h.r⟩
set_option maxRecDepth 100000 in
set_option maxHeartbeats 6400000 in
theorem repeatI_any (n b cap : Nat) (w : World) (hn : n ≤ 64) (hcell : w.cell? ⟨b, 0, none⟩ = some (.int .i64 (-1))) :
    Calls Tryz.prog 69 #[.slice (some ⟨b, 0, none⟩) 1 cap, .int .i64 (n : Int)] w fun e w' => e = .returned (.slice (some ⟨w.heap.size, 0, none⟩) n n) ∧ IRow w' w.heap.size n (fun _ => -1) ∧ Below w.heap.size w w' := by
  have hM : ∀ W, Calls Tryz.prog 97 #[.int .u64 1, .int .u64 (n : Int)] W fun e w' => e = .returned (.tuple #[.int .u64 0, .int .u64 (n : Int)]) ∧ w' = W := fun W => by
    have k := Tryz.bits_Mul 1 n (by omega) (by omega) W
    rw [show 1 * n / 18446744073709551616 = 0 by omega, show 1 * n % 18446744073709551616 = n by omega] at k
    exact k
  have HM := Lib.hid hM
  clear hM
  have hmx : Tryz.prog.follows .mixedOrders = true := by kernel_rfl
  have hmk := make_ints n (by omega)
  have C0 : CI w w.heap.size n 0 (w.alloc (.cells (madeCells #[.int .i64 0] n) 3)) :=
    ⟨below1 w _, (IRow.made w n).congr (fun j _ => by rw [if_neg (by omega)])⟩
  obtain ⟨m, hm⟩ : ∃ m, m = Nat.min 1 (n - 0) := ⟨_, rfl⟩
  obtain ⟨w1, hr1, C1⟩ := copy_ints C0 (Nat.le_refl _) (Nat.zero_le _) ⟨b, 0, none⟩ 1 cap 3 m hm (fun j hj => by
    have h1 : m ≤ 1 := by rw [hm]; exact Nat.min_le_left _ _
    obtain rfl : j = 0 := by omega
    exact cell_keep hcell (below1 w _))
  have hm2 : m ≤ n ∧ (n = m ∨ (1 ≤ m ∧ m ≤ n)) := by
    rcases Nat.eq_zero_or_pos n with h | h
    · subst h; have : m = 0 := hm; omega
    · have : m = 1 := by rw [hm, Nat.sub_zero]; exact Nat.min_eq_left h
      omega
  rw [Nat.sub_zero] at hr1
  rw [Nat.zero_add] at C1
  have HC1 := Lib.hid C1
  have d0 : decide ((9223372036854775807 : Int) < (n : Int)) = false := decide_eq_false (by omega)
  clear C0 C1 hcell hm
  go_enter Tryz.func69, Tryz.ntmps69
  go_wp2_with (first
    | (go_at_call 97; (with_reducible refine (HM.out _).mono ?_); rintro e W0 ⟨rfl, hW⟩; (rw [hW]); (clear hW))
    | (at_builtin; refine Lib.wpList_copy_run _ rfl _ _ 30 30 rfl _ _ rfl rfl hr1 ?_))
  clear hr1 HM hmk
  go_loopg [8] n (fun q s8 wx => ∃ k : Nat, k ≤ n ∧ n - k ≤ q ∧ (n = k ∨ 1 ≤ k) ∧ s8 = .int .i64 (k : Int) ∧ Hid (CI w w.heap.size n k wx))
  case atStart => exact ⟨m, hm2.1, by omega, by omega, rfl, HC1⟩
  case round =>
    clear HC1
    obtain ⟨k, hkn, hgk, hk1, rfl, HB⟩ := hrel
    by_cases hlt : k < n
    · have hmin : min (k : Int) (n : Int) = (k : Int) := by omega
      obtain ⟨m', hm'⟩ : ∃ m', m' = Nat.min k (n - k) := ⟨_, rfl⟩
      have hmk : m' ≤ k := by rw [hm']; exact Nat.min_le_left _ _
      have hmn : m' ≤ n - k := by rw [hm']; exact Nat.min_le_right _ _
      have hm1 : 1 ≤ m' := by
        rw [hm']
        exact Nat.le_min.2 ⟨by omega, by omega⟩
      obtain ⟨w2, hr2, C2⟩ := copy_ints HB.out.drew (Nat.le_refl _) hkn ⟨w.heap.size, 0, none⟩ k n 3 m' hm' (fun j hj => by
        rw [show (⟨w.heap.size, 0, none⟩ : Addr).add j = ⟨w.heap.size, j, none⟩ by unfold Addr.add; split <;> simp_all]
        rw [HB.out.drew.r.cell (by omega), if_pos (by omega)])
      have hsl1 : ∀ W, (Instr.slice 30 (.slice (some ⟨w.heap.size, 0, none⟩) n n) (some (.int .i64 (k : Int))) none none).run Tryz.prog W = .ok (.slice (some ⟨w.heap.size, k, none⟩) (n - k) (n - k)) W := fun W => by
        have h := Lib.run_slice_tailV W 30 3 Tryz.underlying30 sizeInt w.heap.size n k (by omega)
        unfold Lib.tailV at h
        rw [if_neg (by omega)] at h
        exact h
      have hB2 := Lib.hid C2
      have dk : (0 : Int) ≤ (k : Int) := by omega
      have hw : IntKind.i64.wrap ((k : Int) + (m' : Int)) = (k : Int) + (m' : Int) := by clear hmin; rw [IntKind.wrap_i64]; omega
      have dkn : (k : Int) ≤ (n : Int) := by omega
      clear C2 HB hm'
      go_wp2_with fail
      go_region_law (refine step_copy _ rfl (.tmp 41) (.tmp 44) 30 30 rfl (.slice (some ⟨w.heap.size, k, none⟩) (n - k) (n - k)) (.slice (some ⟨w.heap.size, 0, none⟩) k n) (by simp [Act.eval, Act.put]) (by simp [Act.eval, Act.put]) hr2 ?_)
      clear hr2 hsl1 hmin
      go_wp2
      go_roundg (n - (k + m'))
      case measure => omega
      case rel => exact ⟨k + m', by omega, by omega, by omega, by go_num, hB2⟩
    · obtain rfl : k = n := by omega
      have HB2 := Lib.hid (show IRow wr w.heap.size k (fun _ => -1) from HB.out.r.congr (fun i hi => by rw [if_pos hi]))
      have hb := HB.out.b
      clear HB
      go_wp2
      go_ret
      exact ⟨rfl, HB2.out, hb⟩
end Go.Proofs.YtiockphjnkehnaaGreatDoor

namespace Go.Proofs.YtiockphjnkehnaaGreatDoor
open Go.RowKit
set_option linter.unusedSimpArgs false
set_option linter.unusedVariables false

@[go_sem] theorem run_store_funcK {P : Program} {w : World} (a : Addr) (m : Mode) (f : Fn) (ts cs : Array Value) : (store a (.func f ts cs) m).run P w = stored P w a (.func f ts cs) m := run_store P w a _ m rfl
structure VS (w : World) (n p2 g p5 p6 : Nat) (vn : Value) (f : Nat → Int) (W : World) : Prop where
  b : Below w.heap.size w W
  x2 : W.cell? ⟨p2, 0, none⟩ = some vn
  x5 : W.cell? ⟨p5, 0, none⟩ = some (.slice (some ⟨g, 0, none⟩) n n)
  x6 : W.cell? ⟨p6, 0, none⟩ = some (.func (.func 123) #[] #[.pointer (some ⟨p5, 0, none⟩), .pointer (some ⟨p2, 0, none⟩), .pointer (some ⟨p6, 0, none⟩)])
  r : IRow W g n f
  n2 : g ≠ p2
  n5 : g ≠ p5
  n6 : g ≠ p6
  lo : w.heap.size ≤ g
section
variable {w W W' : World} {n p2 g p5 p6 : Nat} {vn : Value} {f f' : Nat → Int}
theorem VS.keep (h : VS w n p2 g p5 p6 vn f W) (hb : Below W.heap.size W W') : VS w n p2 g p5 p6 vn f W' :=
  ⟨h.b.trans (hb.mono h.b.size), cell_keep h.x2 hb, cell_keep h.x5 hb, cell_keep h.x6 hb, h.r.keep hb, h.n2, h.n5, h.n6, h.lo⟩
theorem VS.set (h : VS w n p2 g p5 p6 vn f W) (s : Nat) (l : Int) : VS w n p2 g p5 p6 vn (setN f s l) (W.setCell ⟨g, s, none⟩ (.int .i64 l)) := by
  refine ⟨h.b.setCell h.lo _, ?_, ?_, ?_, h.r.set s l, h.n2, h.n5, h.n6, h.lo⟩
  · rw [World.cell?_setCell_far _ _ _ _ (by exact h.n2)]; exact h.x2
  · rw [World.cell?_setCell_far _ _ _ _ (by exact h.n5)]; exact h.x5
  · rw [World.cell?_setCell_far _ _ _ _ (by exact h.n6)]; exact h.x6
end
def foldG (nx : Nat → List Int) (k : Nat) (l : Int) (ts : List Int) (f : Nat → Int) : Nat → Int := ts.foldl (fun g t => dfsA nx k g t.toNat (l + 1)) f
theorem foldG_snoc (nx : Nat → List Int) (k : Nat) (l : Int) (ts : List Int) (t : Int) (f : Nat → Int) : foldG nx k l (ts ++ [t]) f = dfsA nx k (foldG nx k l ts f) t.toNat (l + 1) := by
  unfold foldG; rw [List.foldl_append]; rfl
theorem foldG_unf (nx : Nat → List Int) (n k : Nat) (l : Int) : ∀ (ts : List Int) (f : Nat → Int), unf n (foldG nx k l ts f) ≤ unf n f
  | [], f => Nat.le_refl _
  | t :: ts, f => Nat.le_trans (foldG_unf nx n k l ts _) (unf_dfs nx n k f t.toNat (l + 1))
set_option maxRecDepth 100000 in
set_option maxHeartbeats 6400000 in
theorem visit_step (w : World) (n p2 g p5 p6 : Nat) (vn : Value) (nx : Nat → List Int) (hn : n ≤ 64) (hrd : RowsRd w vn ((List.range n).map nx)) (hnx : ∀ s, s < n → ∀ u ∈ nx s, 0 ≤ u ∧ u < (n : Int)) (hlen : ∀ s, (nx s).length ≤ 100000) (k : Nat)
    (IH : ∀ (f : Nat → Int) (s : Nat) (l : Nat) (W : World), VS w n p2 g p5 p6 vn f W → s < n → l + unf n f ≤ 64 → unf n f ≤ k →
      Calls Tryz.prog 123 #[.int .i64 (s : Int), .int .i64 (l : Int), .pointer (some ⟨p5, 0, none⟩), .pointer (some ⟨p2, 0, none⟩), .pointer (some ⟨p6, 0, none⟩)] W fun e W' => (∃ u, e = .returned u) ∧ VS w n p2 g p5 p6 vn (dfsA nx (k + 1) f s (l : Int)) W')
    (f : Nat → Int) (s : Nat) (l : Nat) (W : World) (hV : VS w n p2 g p5 p6 vn f W) (hs : s < n) (hl : l + unf n f ≤ 64) (hk : unf n f ≤ k + 1) (hf : f s = -1) :
    Calls Tryz.prog 123 #[.int .i64 (s : Int), .int .i64 (l : Int), .pointer (some ⟨p5, 0, none⟩), .pointer (some ⟨p2, 0, none⟩), .pointer (some ⟨p6, 0, none⟩)] W fun e W' => (∃ u, e = .returned u) ∧ VS w n p2 g p5 p6 vn (dfsA nx (k + 2) f s (l : Int)) W' := by
  have HIH := Lib.hid IH
  have HNX := Lib.hid (hnx s hs)
  have h0 := unf_set (l := (l : Int)) hs hf (by omega)
  have hu : unf n (setN f s (l : Int)) ≤ k := by omega
  have hlu : l + 1 + unf n (setN f s (l : Int)) ≤ 64 := by omega
  have hl64 : l ≤ 64 := by omega
  have HD := Lib.hid (show dfsA nx (k + 2) f s (l : Int) = foldG nx (k + 1) (l : Int) (nx s) (setN f s (l : Int)) from dfsA_new hf)
  have hL := hlen s
  have x5 := hV.x5
  have x2 := hV.x2
  have c0 := hV.r.cell hs
  rw [hf] at c0
  have f0 := hV.r.frozen s
  have V1 := hV.set s (l : Int)
  have x22 := V1.x2
  obtain ⟨rb, off, c, u, hvn, k1, k2⟩ := hrd.at (i := s) (r := nx s) (by rw [List.getElem?_map, List.getElem?_range hs]; rfl)
  have hrl : ((List.range n).map nx).length = n := by rw [List.length_map, List.length_range]
  rw [hrl] at hvn
  have HK2 := Lib.hid k2
  have k1W := cell_keep k1 hV.b
  have k1V := cell_keep k1 V1.b
  obtain ⟨a9, c9, rfl⟩ := k2.form
  subst hvn
  have HV1 := Lib.hid V1
  have j0 : (s : Int) < (n : Int) := by omega
  clear hV V1 IH hrd hnx hlen hf h0 k1 k2 hrl
  go_enter Tryz.func123, Tryz.ntmps123
  go_wp2_with fail
  clear x5 x2 c0 f0 x22 k1W k1V
  generalize W.setCell ⟨g, s, none⟩ (.int .i64 (l : Int)) = W1 at *
  go_loopg [23] (nx s).length (fun q s23 wx => ∃ i : Nat, i + q = (nx s).length ∧ s23 = .int .i64 (i : Int) ∧ Hid (VS w n p2 g p5 p6 (.slice (some ⟨rb, off, none⟩) n c) (foldG nx (k + 1) (l : Int) ((nx s).take i) (setN f s (l : Int))) wx))
  case atStart => exact ⟨0, by omega, rfl, HV1⟩
  case round =>
    clear HV1
    obtain ⟨i, hin, rfl, HV⟩ := hrel
    rcases gk with _ | q
    · obtain rfl : i = (nx s).length := by omega
      rw [List.take_length] at HV
      go_wp2_with fail
      go_end0
      exact ⟨⟨_, rfl⟩, by rw [HD.out]; exact HV.out⟩
    · obtain ⟨t, ht⟩ : ∃ t, (nx s)[i]? = some t := ⟨_, List.getElem?_eq_getElem (by omega)⟩
      obtain ⟨t0, t1⟩ := HNX.out t (List.mem_of_getElem? ht)
      obtain ⟨b, o, cc, hv, k1⟩ := (HK2.out.keep HV.out.b).at ht
      injection hv with e1 e2 e3
      subst e1
      have HT := Lib.hid (take_snoc ht)
      obtain ⟨t, rfl⟩ : ∃ m : Nat, t = (m : Int) := ⟨t.toNat, by omega⟩
      have htn : t < n := by omega
      have hfu := foldG_unf nx n (k + 1) (l : Int) ((nx s).take i) (setN f s (l : Int))
      have x6 := HV.out.x6
      have HC := Lib.hid (fun X hX => HIH.out (foldG nx (k + 1) (l : Int) ((nx s).take i) (setN f s (l : Int))) t (l + 1) X hX htn (by omega) (by omega))
      rw [show ((l + 1 : Nat) : Int) = (l : Int) + 1 by omega] at HC
      have j1 : (i : Int) < ((nx s).length : Int) := by omega
      clear ht hfu e2 e3
      go_wp2_with (go_at_call 123; (with_reducible refine (HC.out _ HV.out).mono ?_); rintro e W5 ⟨⟨u5, rfl⟩, hv5⟩; (have HV5 := Lib.hid hv5); clear hv5)
      go_roundg q
      case measure => omega
      case rel => exact ⟨i + 1, by omega, by go_num, by rw [HT.out, foldG_snoc]; exact HV5⟩
theorem visit_any (w : World) (n p2 g p5 p6 : Nat) (vn : Value) (nx : Nat → List Int) (hn : n ≤ 64) (hrd : RowsRd w vn ((List.range n).map nx)) (hnx : ∀ s, s < n → ∀ u ∈ nx s, 0 ≤ u ∧ u < (n : Int)) (hlen : ∀ s, (nx s).length ≤ 100000) : ∀ (k : Nat)
    (f : Nat → Int) (s : Nat) (l : Nat) (W : World), VS w n p2 g p5 p6 vn f W → s < n → l + unf n f ≤ 64 → unf n f ≤ k →
      Calls Tryz.prog 123 #[.int .i64 (s : Int), .int .i64 (l : Int), .pointer (some ⟨p5, 0, none⟩), .pointer (some ⟨p2, 0, none⟩), .pointer (some ⟨p6, 0, none⟩)] W fun e W' => (∃ u, e = .returned u) ∧ VS w n p2 g p5 p6 vn (dfsA nx (k + 1) f s (l : Int)) W' := by
  have found : ∀ (k : Nat) (f : Nat → Int) (s : Nat) (l : Nat) (W : World), VS w n p2 g p5 p6 vn f W → s < n → f s ≠ -1 →
      Calls Tryz.prog 123 #[.int .i64 (s : Int), .int .i64 (l : Int), .pointer (some ⟨p5, 0, none⟩), .pointer (some ⟨p2, 0, none⟩), .pointer (some ⟨p6, 0, none⟩)] W fun e W' => (∃ u, e = .returned u) ∧ VS w n p2 g p5 p6 vn (dfsA nx (k + 1) f s (l : Int)) W' := by
    intro k f s l W hV hs hf
    rw [dfsA_found hf]
    have x5 := hV.x5
    have c0 := hV.r.cell hs
    have j0 : (s : Int) < (n : Int) := by omega
    obtain ⟨z, hz⟩ : ∃ z, f s = z := ⟨_, rfl⟩
    rw [hz] at c0 hf
    have j1 : (z != -1) = true := by simpa using hf
    have HV := Lib.hid hV
    clear hV hrd hnx hlen hz
    go_enter Tryz.func123, Tryz.ntmps123
    go_wp2_with fail
    refine bodyPost_ret (results_none rfl _ _ _) rfl ?_
    exact ⟨⟨_, rfl⟩, HV.out⟩
  intro k
  induction k with
  | zero =>
    intro f s l W hV hs hl hk
    refine found 0 f s l W hV hs (fun h => ?_)
    have := unf_set (l := (0 : Int)) hs h (by omega)
    omega
  | succ k ih =>
    intro f s l W hV hs hl hk
    by_cases hf : f s = -1
    · exact visit_step w n p2 g p5 p6 vn nx hn hrd hnx hlen k ih f s l W hV hs hl hk hf
    · exact found (k + 1) f s l W hV hs hf
theorem vs_start {w W4 : World} {n p5 : Nat} {vn : Value} (b4 : Below w.heap.size w W4) (hlt : w.heap.size + 2 < p5) (h5 : p5 < W4.heap.size) (c0 : W4.cell? ⟨w.heap.size, 0, none⟩ = some vn) (c5 : W4.cell? ⟨p5, 0, none⟩ = some (.slice (some ⟨w.heap.size + 2, 0, none⟩) n n)) (i4 : IRow W4 (w.heap.size + 2) n (fun _ => -1)) :
    VS w n w.heap.size (w.heap.size + 2) p5 W4.heap.size vn (fun _ => -1) (W4.alloc (.cells #[.func (.func 123) #[] #[.pointer (some ⟨p5, 0, none⟩), .pointer (some ⟨w.heap.size, 0, none⟩), .pointer (some ⟨W4.heap.size, 0, none⟩)]] 154)) := by
  have k5 := below1 W4 (.cells #[.func (.func 123) #[] #[.pointer (some ⟨p5, 0, none⟩), .pointer (some ⟨w.heap.size, 0, none⟩), .pointer (some ⟨W4.heap.size, 0, none⟩)]] 154)
  refine ⟨below_more b4 (Nat.le_refl _) k5, cell_keep c0 k5, cell_keep c5 k5, ?_, i4.keep k5, by omega, by omega, by omega, by omega⟩
  simp [go_sem]
set_option maxRecDepth 100000 in
set_option maxHeartbeats 6400000 in
theorem lengths_any (n : Nat) (vn : Value) (nx : Nat → List Int) (s : Nat) (w : World) (hn : n ≤ 64) (hrd : RowsRd w vn ((List.range n).map nx)) (hnx : ∀ s, s < n → ∀ u ∈ nx s, 0 ≤ u ∧ u < (n : Int)) (hlen : ∀ s, (nx s).length ≤ 100000) (hs : s < n) :
    Calls Tryz.prog 115 #[vn, .int .i64 (s : Int)] w fun e w' => e = .returned (.slice (some ⟨w.heap.size + 2, 0, none⟩) n n) ∧ IRow w' (w.heap.size + 2) n (dfsA nx (n + 1) (fun _ => -1) s 0) ∧ Below w.heap.size w w' := by
  obtain ⟨a, c, hvn⟩ := hrd.form
  rw [List.length_map, List.length_range] at hvn
  subst hvn
  have HRD := Lib.hid hrd
  have HNX := Lib.hid hnx
  have HL := Lib.hid hlen
  have hnp : (-1 : Int) < 0 := by decide
  obtain ⟨W1, hW1⟩ : ∃ W1, w.alloc (.cells #[.slice a n c] 45) = W1 := ⟨_, rfl⟩
  have z1 : W1.heap.size = w.heap.size + 1 := by rw [← hW1, World.size_alloc]
  have c1 : W1.cell? ⟨w.heap.size, 0, none⟩ = some (.slice a n c) := by rw [← hW1]; simp [go_sem]
  have b1 : Below w.heap.size w W1 := by rw [← hW1]; exact below1 _ _
  obtain ⟨W2, hW2⟩ : ∃ W2, W1.alloc (.cells #[.int .i64 (-1)] 3) = W2 := ⟨_, rfl⟩
  have z2 : W2.heap.size = w.heap.size + 2 := by rw [← hW2, World.size_alloc]; omega
  have c2 : W2.cell? ⟨w.heap.size + 1, 0, none⟩ = some (.int .i64 (-1)) := by rw [← hW2, ← z1]; simp [go_sem]
  have c1' : W2.cell? ⟨w.heap.size, 0, none⟩ = some (.slice a n c) := by rw [← hW2]; exact cell_keep c1 (below1 _ _)
  have b2 : Below w.heap.size w W2 := by rw [← hW2]; exact below_more b1 (Nat.le_refl _) (below1 _ _)
  have hr := repeatI_any n (w.heap.size + 1) 1 W2 hn c2
  rw [z2] at hr
  rw [← hW2, ← hW1] at hr
  have HR := Lib.hid hr
  have HB2 := Lib.hid b2
  have HC1 := Lib.hid c1'
  have HZ2 := Lib.hid z2
  rw [← hW2, ← hW1] at HB2 HC1 HZ2
  clear hrd hnx hlen b1 b2 hr hW1 hW2 c1 c1' c2 z1 z2
  clear W2 W1
  have c1 : (w.alloc (.cells #[.slice a n c] 45)).cell? ⟨w.heap.size, 0, none⟩ = some (.slice a n c) := by simp [go_sem]
  have hb3 := Lib.hid (fun W3 (h : Below (w.heap.size + 2) ((w.alloc (.cells #[.slice a n c] 45)).alloc (.cells #[.int .i64 (-1)] 3)) W3) => show Below w.heap.size w W3 from below_more HB2.out (by omega) (by rw [HZ2.out]; exact h))
  have hc3 := Lib.hid (fun W3 (h : Below (w.heap.size + 2) ((w.alloc (.cells #[.slice a n c] 45)).alloc (.cells #[.int .i64 (-1)] 3)) W3) => show W3.cell? ⟨w.heap.size, 0, none⟩ = some (.slice a n c) from cell_keep HC1.out (by rw [HZ2.out]; exact h))
  have hu := Lib.hid (unf_le n (fun _ => -1))
  have HVA := Lib.hid (fun p5 p6 W hW => visit_any w n w.heap.size (w.heap.size + 2) p5 p6 (.slice a n c) nx hn HRD.out HNX.out HL.out n (fun _ => -1) s 0 W hW hs (by have := hu.out; omega) hu.out)
  rw [show ((0 : Nat) : Int) = 0 from rfl] at HVA
  clear HB2 HC1 HZ2 hu HNX HL HRD
  go_enter Tryz.func115, Tryz.ntmps115
  go_upto_region 2 with (go_at_call 69; (with_reducible refine HR.out.mono ?_); rintro e W3 ⟨rfl, i3, b3⟩; clear c1)
  have hlt := i3.lt
  have b4 := below_more (hb3.out W3 b3) (Nat.le_refl _) (below1 W3 (.cells #[.slice (some ⟨w.heap.size + 2, 0, none⟩) n n] 30))
  have c4 := cell_keep (hc3.out W3 b3) (below1 W3 (.cells #[.slice (some ⟨w.heap.size + 2, 0, none⟩) n n] 30))
  have i4 := i3.keep (below1 W3 (.cells #[.slice (some ⟨w.heap.size + 2, 0, none⟩) n n] 30))
  have c5 : (W3.alloc (.cells #[.slice (some ⟨w.heap.size + 2, 0, none⟩) n n] 30)).cell? ⟨W3.heap.size, 0, none⟩ = some (.slice (some ⟨w.heap.size + 2, 0, none⟩) n n) := by simp [go_sem]
  have z4 := World.size_alloc W3 (.cells #[.slice (some ⟨w.heap.size + 2, 0, none⟩) n n] 30)
  generalize W3.alloc (.cells #[.slice (some ⟨w.heap.size + 2, 0, none⟩) n n] 30) = W4 at *
  obtain ⟨p5, hp5⟩ : ∃ p5, W3.heap.size = p5 := ⟨_, rfl⟩
  rw [hp5] at hlt c5 z4 ⊢
  have hv := vs_start b4 hlt (by omega) c4 c5 i4
  have x6 := hv.x6
  have HV := Lib.hid hv
  clear hv b4 c4 c5 i4 i3 b3 hp5 hb3 hc3 HR hlt z4
  go_wp2_with (go_at_call 123; (with_reducible refine (HVA.out _ _ _ HV.out).mono ?_); rintro e W5 ⟨⟨u5, rfl⟩, hv5⟩; clear x6; (have x5 := hv5.x5); (have HV5 := Lib.hid hv5); clear hv5)
  go_ret
  exact ⟨rfl, HV5.out.r, HV5.out.b⟩
end Go.Proofs.YtiockphjnkehnaaGreatDoor
