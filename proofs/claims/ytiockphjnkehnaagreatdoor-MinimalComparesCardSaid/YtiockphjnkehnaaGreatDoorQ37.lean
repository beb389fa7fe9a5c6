/- What grooveref12.sets returns: the graph of sets from a set on, or that there are too many. Conditions: the edges and the set can be read; the graph is valid. What grooveref12.From and Build return. Conditions: the edges and the set can be read; the numbers of edges and members are those of slices. -/
import Derived.Test.YtiockphjnkehnaaGreatDoorQ36
import Derived.Test.YtiockphjnkehnaaGreatDoorQ17
import Derived.Test.YtiockphjnkehnaaGreatDoorQ16
import Derived.Deep.CutBlock
import Derived.Deep.RegionHeld3
import Derived.Test.YtiockphjnkehnaaGreatDoorQ14

namespace Go.Proofs.YtiockphjnkehnaaGreatDoor
open Go.RowKit
set_option linter.unusedSimpArgs false
set_option linter.unusedVariables false

theorem row_cellsO {W : World} {A t s k g : Nat} {v : Value} {xs : List Value} (hr : W.ownsRow A t s v k xs) (hg : v.ownBlock = some g) : ∃ c fr, W.heap[g]? = some (.cells c t fr) := by
  rcases hr.2 with ⟨rfl, _⟩ | ⟨g2, cap, cur, rfl, _, hgb, _⟩
  · simp [Value.ownBlock] at hg
  · obtain rfl : g2 = g := by simpa [Value.ownBlock] using hg
    exact ⟨_, _, hgb⟩
theorem own_neO {W : World} {A B t1 t2 s1 s2 n1 n2 : Nat} {v1 v2 : Value} {x1 x2 : List Value} (h1 : W.ownsRow A t1 s1 v1 n1 x1) (h2 : W.ownsRow B t2 s2 v2 n2 x2) (ht : t1 ≠ t2) : v1.ownBlock = none ∨ v1.ownBlock ≠ v2.ownBlock := by
  cases e : v1.ownBlock with
  | none => exact .inl rfl
  | some g =>
    right
    intro e2
    obtain ⟨c1, f1, k1⟩ := row_cellsO h1 e
    obtain ⟨c2, f2, k2⟩ := row_cellsO h2 e2.symm
    rw [k1] at k2
    injection k2 with k2
    injection k2 with _ k2
    exact ht k2
theorem own_keepO {W W' : World} {A t s k : Nat} {v : Value} {xs : List Value} (h : W.ownsRow A t s v k xs) (hb : Below W.heap.size W W') : W'.ownsRow A t s v k xs := World.ownsRow.kept h (grown_none hb) (by cases v.ownBlock <;> simp)
structure AL (lo : Nat) (vs : Value) (sets : List Nat) (va : Value) (U : List Value) (W : World) : Prop where
  row : W.ownsRow lo 30 1 va sets.length U
  len : U.length = sets.length
  fst : U[0]? = some vs
  own : ∀ i, 0 < i → ∀ u T, U[i]? = some u → sets[i]? = some T → IntsAt W lo u (memN T)
structure SX (w : World) (La : Int) (n : Nat) (v vs : Value) (b : Bs) (va u : Value) (U : List Value) (W : World) : Prop where
  p : PO w La (n : Int) 0 v u W
  e : EdgesAt W (w.heap.size + 3) u b.2
  a : AL (w.heap.size + 3) vs b.1 va U W
section
variable {w W W' : World} {La : Int} {n : Nat} {v vs va u : Value} {b : Bs} {U : List Value}
theorem AL.keep {lo : Nat} {sets : List Nat} (h : AL lo vs sets va U W) (hb : Below W.heap.size W W') : AL lo vs sets va U W' :=
  ⟨own_keepO h.row hb, h.len, h.fst, fun i hi x T h1 h2 => (h.own i hi x T h1 h2).keep hb⟩
theorem SX.keep (h : SX w La n v vs b va u U W) (hb : Below W.heap.size W W') : SX w La n v vs b va u U W' := ⟨h.p.keep hb, h.e.keep hb, h.a.keep hb⟩
theorem AL.rows {lo : Nat} {sets : List Nat} (h : AL lo vs sets va U W) {S : Nat} (hst : IntsRd W vs (memN S)) (hS : sets[0]? = some S) : RowsRd W va (sets.map memN) := by
  obtain ⟨a9, c9, rfl⟩ := own_slice h.row
  refine ⟨a9, c9, by rw [List.length_map], fun i r hr => ?_⟩
  rw [List.getElem?_map] at hr
  cases hT : sets[i]? with
  | none => rw [hT] at hr; cases hr
  | some T =>
    rw [hT] at hr
    injection hr with hr
    subst hr
    have hi := (List.getElem?_eq_some_iff.1 hT).1
    obtain ⟨g, c, hv, -, -⟩ := World.ownsRow.form h.row (by omega)
    injection hv with e1 e2 e3
    subst e1
    have hlen := h.len
    obtain ⟨x, hx⟩ : ∃ x, U[i]? = some x := ⟨_, List.getElem?_eq_getElem (by omega)⟩
    have hc : W.cell? ⟨g, i, none⟩ = some x := by
      have := World.ownsRow.cellAt h.row i (by omega)
      rw [this, hx]
    refine ⟨g, 0, x, rfl, by rw [Nat.zero_add]; exact hc, ?_⟩
    rcases Nat.eq_zero_or_pos i with h0 | h0
    · subst h0
      rw [h.fst] at hx
      injection hx with hx
      subst hx
      rw [hS] at hT
      injection hT with hT
      subst hT
      exact hst
    · exact (h.own i h0 x T hx hT).rd
theorem AL.set {lo : Nat} {sets : List Nat} (h : AL lo vs sets va U W) (a : Addr) (ha : a.block < lo) (y : Value) : AL lo vs sets va U (W.setCell a y) :=
  ⟨ownsRow_setCell_below h.row ha y, h.len, h.fst, fun i hi x T h1 h2 => ownsRow_setCell_below (h.own i hi x T h1 h2) ha y⟩
theorem SX.rows (h : SX w La n v vs b va u U W) {S : Nat} (hst : IntsRd w vs (memN S)) (hS : b.1[0]? = some S) : RowsRd W va (b.1.map memN) := h.a.rows (hst.keep h.p.b) hS
theorem SX.addSet {o : Obj} {va' x : Value} {T : Nat} (h : SX w La n v vs b va u U W) (h0 : 0 < b.1.length) (hx : IntsAt W (w.heap.size + 3) x (memN T))
    (r1 : W'.ownsRow (w.heap.size + 3) 30 1 va' (b.1.length + 1) (U ++ [x])) (r2 : (W.alloc o).grownBy W' va.ownBlock) : SX w La n v vs (b.1 ++ [T], b.2) va' u (U ++ [x]) W' := by
  have hlt := (h.a.row.alloc o).lt
  have hz : w.heap.size + 3 ≤ W.heap.size := h.p.z
  have hb3 : Below (w.heap.size + 3) W W' := ((Below.refl (w.heap.size + 3) W).alloc hz o).grown r2 (by rw [World.size_alloc]; omega) (fun k hk => (hlt k hk).1)
  have hlen := h.a.len
  refine ⟨h.p.low hb3, ?_, ?_, by rw [List.length_append, List.length_append, hlen]; rfl, by rw [List.getElem?_append_left (by omega)]; exact h.a.fst, fun i hi y T' h1 h2 => ?_⟩
  · have he := h.e
    unfold EdgesAt at he ⊢
    exact (he.alloc o).kept r2 (own_neO (he.alloc o) (h.a.row.alloc o) (by decide))
  · show W'.ownsRow _ _ 1 va' (b.1 ++ [T]).length _
    rw [List.length_append]
    exact r1
  · have key : ∀ y T', IntsAt W (w.heap.size + 3) y (memN T') → IntsAt W' (w.heap.size + 3) y (memN T') := fun y T' hy => by
      unfold IntsAt at hy ⊢
      exact (hy.alloc o).kept r2 (own_neO (hy.alloc o) (h.a.row.alloc o) (by decide))
    by_cases hi2 : i < U.length
    · rw [List.getElem?_append_left hi2] at h1
      rw [List.getElem?_append_left (by omega)] at h2
      exact key y T' (h.a.own i hi y T' h1 h2)
    · have hi3 : i = U.length := by
        have := (List.getElem?_eq_some_iff.1 h1).1
        rw [List.length_append, List.length_singleton] at this
        omega
      subst hi3
      rw [List.getElem?_append_right (Nat.le_refl _), Nat.sub_self] at h1
      rw [hlen, List.getElem?_append_right (Nat.le_refl _), Nat.sub_self] at h2
      injection h1 with h1
      injection h2 with h2
      subst h1
      subst h2
      exact key x T hx
theorem SX.addEdge {o : Obj} {u' : Value} {e : E3} (h : SX w La n v vs b va u U W)
    (r1 : W'.ownsRow (w.heap.size + 3) 39 3 u' (b.2.length + 1) (ecl b.2 ++ [.int .i64 e.1, .int .i64 e.2.1, .int .i64 e.2.2])) (r2 : (W.alloc o).grownBy W' u.ownBlock) : SX w La n v vs (b.1, b.2 ++ [e]) va u' U (W'.setCell ⟨w.heap.size + 2, 2, none⟩ u') := by
  have he := h.e
  unfold EdgesAt at he
  have hlt := (he.alloc o).lt
  have hz : w.heap.size + 3 ≤ W.heap.size := h.p.z
  have hb3 : Below (w.heap.size + 3) W W' := ((Below.refl (w.heap.size + 3) W).alloc hz o).grown r2 (by rw [World.size_alloc]; omega) (fun k hk => (hlt k hk).1)
  have hsc : ∀ {B t k m : Nat} {y : Value} {xs : List Value}, W'.ownsRow B t k y m xs → w.heap.size + 3 ≤ B → (W'.setCell ⟨w.heap.size + 2, 2, none⟩ u').ownsRow B t k y m xs := fun {B t k m y xs} hy hB => ownsRow_setCell_below hy (by show w.heap.size + 2 < B; omega) u'
  refine ⟨(h.p.low hb3).set u', ?_, hsc ((h.a.row.alloc o).kept r2 (own_neO (h.a.row.alloc o) (he.alloc o) (by decide))) (Nat.le_refl _), h.a.len, h.a.fst, fun i hi y T h1 h2 => ?_⟩
  · unfold EdgesAt
    rw [List.length_append, ecl_snoc]
    exact hsc r1 (Nat.le_refl _)
  · have hy := h.a.own i hi y T h1 h2
    unfold IntsAt at hy ⊢
    exact hsc ((hy.alloc o).kept r2 (own_neO (hy.alloc o) (he.alloc o) (by decide))) (Nat.le_refl _)
end
theorem memN_zero : memN 0 = [] := by
  cases h : memN 0 with
  | nil => rfl
  | cons x r =>
    have hm : x ∈ memN 0 := by rw [h]; exact List.mem_cons_self
    unfold memN at hm
    obtain ⟨i, -, -, h2⟩ := mems_mem.1 hm
    rw [Nat.zero_testBit] at h2
    cases h2
theorem memN_len (S : Nat) : (memN S).length ≤ 64 := mems_len 64 _
theorem memN_pos {T : Nat} (hT : T < 18446744073709551616) (h : T ≠ 0) : 0 < (memN T).length := by
  rcases Nat.eq_zero_or_pos (memN T).length with h1 | h1
  · exact absurd (memN_inj hT (by omega) (by rw [List.eq_nil_of_length_eq_zero h1, memN_zero])) h
  · exact h1
theorem idxM_map {sets : List Nat} {T : Nat} (hs : ∀ S ∈ sets, S < 18446744073709551616) (hT : T < 18446744073709551616) : idxM (sets.map memN) (memN T) = if T ∈ sets then ((sets.idxOf T : Nat) : Int) else -1 := by
  have hm : memN T ∈ sets.map memN ↔ T ∈ sets := by
    rw [List.mem_map]
    exact ⟨fun ⟨S, h1, h2⟩ => memN_inj (hs S h1) hT h2 ▸ h1, fun h => ⟨T, h, rfl⟩⟩
  unfold idxM
  by_cases h : T ∈ sets
  · rw [if_pos (hm.2 h), if_pos h]
    congr 1
    have key : ∀ l : List Nat, (∀ S ∈ l, S < 18446744073709551616) → (l.map memN).idxOf (memN T) = l.idxOf T := fun l => by
      induction l with
      | nil => intro _; rfl
      | cons S r ih =>
        intro hl
        rw [List.map_cons, List.idxOf_cons, List.idxOf_cons]
        by_cases e : S = T
        · subst e; simp
        · have e2 : memN S ≠ memN T := fun e2 => e (memN_inj (hl S List.mem_cons_self) hT e2)
          rw [beq_false_of_ne e, beq_false_of_ne e2, ih (fun x hx => hl x (List.mem_cons_of_mem _ hx))]
    rw [key sets hs]
  · rw [if_neg (fun h2 => h (hm.1 h2)), if_neg h]
theorem al_one (W : World) (a : Option Addr) (m c S : Nat) : AL W.heap.size (.slice a m c) [S] (.slice (some ⟨W.heap.size, 0, none⟩) 1 1) [.slice a m c] (W.alloc (.cells #[.slice a m c] 30)) :=
  ⟨⟨rfl, .inr ⟨W.heap.size, 1, #[.slice a m c], rfl, Nat.le_refl _, heap_alloc_new W _, Nat.le_refl _, by unfold maxLen; omega, rfl, rfl⟩⟩, rfl, rfl, fun i hi x T h1 h2 => by
    have := (List.getElem?_eq_some_iff.1 h1).1
    rw [List.length_singleton] at this
    omega⟩
def SetsR (w : World) (La : Int) (vs : Value) (r : Option Bs) (e : Ending) (w' : World) : Prop :=
  (r = none ∧ e = .returned (.tuple #[grV 0 0 (.slice none 0 0), .slice none 0 0, .bool false]) ∧ Below w.heap.size w w') ∨
  (∃ b, r = some b ∧ ∃ b9 d9 a9 c9 lo U, e = .returned (.tuple #[grV La ((b.1.length : Nat) : Int) (.slice b9 b.2.length d9), .slice a9 b.1.length c9, .bool true]) ∧ w.heap.size ≤ lo ∧ EdgesAt w' lo (.slice b9 b.2.length d9) b.2 ∧ AL lo vs b.1 (.slice a9 b.1.length c9) U w' ∧ Below w.heap.size w w')
set_option maxRecDepth 100000 in
set_option maxHeartbeats 12800000 in
theorem sets12_any (La n S : Nat) (es : List E3) (v vs : Value) (w : World) (hrd : EdgesRd w v es) (hst : IntsRd w vs (memN S)) (hvg : VG (La : Int) (n : Int) es) (hS : S < 18446744073709551616) (hSb : ∀ i, S.testBit i = true → i < n) :
    Calls Tryz.prog 85 #[grV (La : Int) (n : Int) v, vs] w (SetsR w (La : Int) vs (builtN es La S)) := by
  obtain ⟨iE, hiE, he0, he1, he2⟩ := info_parts Tryz.infoEdge
  obtain ⟨iR, hiR, hr0, hr1, hr2⟩ := info_parts Tryz.infoRow
  have hn64 : n ≤ 64 := by have := hvg.s2; omega
  have hL256 : La ≤ 256 := by have := hvg.l2; omega
  have hlen := hvg.len
  have HOK := Lib.hid hvg.ok
  have HRD := Lib.hid hrd
  have HST := Lib.hid hst
  have HSTEP : Hid (∀ W u T l, EdgesRd W v es → IntsRd W u (memN T) → T < 18446744073709551616 → (∀ i, T.testBit i = true → i < n) → l < La → Calls Tryz.prog 105 #[grV (La : Int) (n : Int) v, u, .int .i64 ((l : Nat) : Int)] W (IOut W (memN (stN es T l), 0))) := Lib.hid (fun W u T l h1 h2 h3 h4 h5 => by
    have k := rstep_any (La : Int) (n : Int) (l : Int) es v u (memN T) W h1 (by omega) h2 (by have := memN_len T; omega)
    rw [stepR_memN hvg h3 h4 h5] at k
    exact k)
  have HIX : Hid (∀ W u x (sets : List Nat) T, RowsRd W u (sets.map memN) → IntsRd W x (memN T) → sets.length ≤ 1000 → (∀ S ∈ sets, S < 18446744073709551616) → T < 18446744073709551616 → Calls Tryz.prog 106 #[u, x] W fun e w' => e = .returned (.int .i64 (if T ∈ sets then ((sets.idxOf T : Nat) : Int) else -1)) ∧ Below W.heap.size W w') := Lib.hid (fun W u x sets T h1 h2 h3 h4 h5 => by
    have k := index12_any (sets.map memN) (memN T) u x W h1 h2 (by rw [List.length_map]; omega) (fun r hr => by obtain ⟨S, -, rfl⟩ := List.mem_map.1 hr; have := memN_len S; omega) (by have := memN_len T; omega)
    rw [idxM_map h4 h5] at k
    exact k)
  have H0 := Lib.hid (HeadN.start (es := es) (La := La) hSb hS)
  obtain ⟨a, c, rfl⟩ := hrd.form
  obtain ⟨ax, cx, rfl⟩ := hst.form
  obtain ⟨mS, hmS⟩ : ∃ mS, (memN S).length = mS := ⟨_, rfl⟩
  have HMS := Lib.hid hmS
  have P0 := PO.start w (La : Int) (n : Int) 0 (.slice a es.length c) 24
  have g1 := (BoxG.new w (La : Int) (n : Int) (.slice a es.length c) 24).keep (below1 _ (.cells #[.int .i64 0, .int .i64 0, .slice none 0 0] 24))
  have hz3 : (((w.alloc (.cells #[.int .i64 (La : Int), .int .i64 (n : Int), .slice a es.length c] 24)).alloc (.cells #[.int .i64 0, .int .i64 0, .slice none 0 0] 24)).alloc (.cells #[.int .i64 (La : Int), .int .i64 ((0 : Nat) : Int), .slice none 0 0] 24)).heap.size = w.heap.size + 3 := by rw [World.size_alloc, World.size_alloc, World.size_alloc]
  have A0 := al_one (((w.alloc (.cells #[.int .i64 (La : Int), .int .i64 (n : Int), .slice a es.length c] 24)).alloc (.cells #[.int .i64 0, .int .i64 0, .slice none 0 0] 24)).alloc (.cells #[.int .i64 (La : Int), .int .i64 ((0 : Nat) : Int), .slice none 0 0] 24)) ax (memN S).length cx S
  rw [hz3] at A0
  have X0 := Lib.hid (show SX w (La : Int) n (.slice a es.length c) (.slice ax (memN S).length cx) ([S], []) (.slice (some ⟨w.heap.size + 3, 0, none⟩) 1 1) (.slice none 0 0) [.slice ax (memN S).length cx] _ from ⟨P0.keep (below1 _ (.cells #[.slice ax (memN S).length cx] 30)), edges_nil _ _, A0⟩)
  rw [hmS] at X0 HST ⊢
  obtain ⟨x1, x2, x3⟩ := g1
  clear hrd hst hvg hS hSb P0 hz3 A0 hmS
  go_enter Tryz.func85, Tryz.ntmps85
  go_wp2_with fail
  clear x1 x2 x3
  generalize ((((w.alloc (.cells #[.int .i64 (La : Int), .int .i64 (n : Int), .slice a es.length c] 24)).alloc (.cells #[.int .i64 0, .int .i64 0, .slice none 0 0] 24)).alloc (.cells #[.int .i64 (La : Int), .int .i64 ((0 : Nat) : Int), .slice none 0 0] 24)).alloc (.cells #[.slice ax mS cx] 30)) = W0 at *
  go_loopg [8, 9, 10, 11, 12, 13] 65 (fun q s8 s9 s10 s11 s12 s13 wx => ∃ (i : Nat) (b : Bs) (u : Value) (U : List Value), i + q = 65 ∧ s9 = .int .i64 (i : Int) ∧ Hid (HeadN es La n S i b) ∧ Hid (SX w (La : Int) n (.slice a es.length c) (.slice ax mS cx) b s8 u U wx))
  case atStart => exact ⟨0, ([S], []), _, _, by omega, rfl, H0, X0⟩
  case round =>
    clear X0 H0
    obtain ⟨i, b, u, U, hiq, rfl, HH, HX⟩ := hrel
    have hsm := HH.out.small
    obtain ⟨av, cv, hva⟩ := own_slice HX.out.a.row
    subst hva
    obtain ⟨N1, hN1⟩ : ∃ N1, b.1.length = N1 := ⟨_, rfl⟩
    have HN1 := Lib.hid hN1
    by_cases hi : i < b.1.length
    · obtain ⟨q, rfl⟩ : ∃ q, gk = q + 1 := ⟨gk - 1, by omega⟩
      have hi1 : i < N1 := by omega
      rw [hN1] at HX ⊢
      have j1 : (i : Int) < (N1 : Int) := by omega
      have HHI := Lib.hid hi
      clear hN1 hi
      go_wp2_with fail
      go_loopg [8, 10, 11, 12, 13] La (fun q2 s8 s10 s11 s12 s13 wx => ∃ (l : Nat) (u' : Value) (U' : List Value), l + q2 = La ∧ s10 = .int .i64 (l : Int) ∧ Hid (¬ tooN (rowN es i b l)) ∧ Hid (SX w (La : Int) n (.slice a es.length c) (.slice ax mS cx) (rowN es i b l) s8 u' U' wx))
      case atStart => exact ⟨0, u, U, by omega, rfl, Lib.hid HH.out.ok, HX⟩
      case round =>
        clear HX
        obtain ⟨l, u', U', hlq, rfl, HT, HX⟩ := hrel
        have hrl := rowN_len es i b l
        have hrs : (rowN es i b l).1.length ≤ 64 ∧ (rowN es i b l).2.length ≤ 1024 := by
          have := HT.out
          unfold tooN at this
          omega
        obtain ⟨av', cv', hva⟩ := own_slice HX.out.a.row
        subst hva
        have hee := HX.out.e
        obtain ⟨bu, cu, hu⟩ := hee.slice
        subst hu
        clear hee
        obtain ⟨x1, x2, x3⟩ := id HX.out.p.g
        obtain ⟨M1, hM1⟩ : ∃ M1, (rowN es i b l).1.length = M1 := ⟨_, rfl⟩
        obtain ⟨M2, hM2⟩ : ∃ M2, (rowN es i b l).2.length = M2 := ⟨_, rfl⟩
        have HM1 := Lib.hid hM1
        have HM2 := Lib.hid hM2
        rw [hM1] at hrl hrs
        rw [hM2] at hrl hrs
        rw [hM1, hM2] at HX
        rw [hM1]
        clear hM1 hM2
        have hbl : i < b.1.length := HHI.out
        rcases gk with _ | q2
        · obtain rfl : l = La := by omega
          have j0 : ¬ ((l : Int) < (l : Int)) := by omega
          have HH2 := Lib.hid (HH.out.next HOK.out HHI.out HT.out)
          clear HH
          go_wp2_with fail
          go_roundg q
          case measure => omega
          case rel => exact ⟨i + 1, _, _, U', by omega, by go_num, HH2, HX⟩
        · have hlL : l < La := by omega
          have j2 : (l : Int) < (La : Int) := by omega
          have hiM : i < M1 := by omega
          have hgi : (rowN es i b l).1.getD i 0 = b.1.getD i 0 := rowN_get hbl l
          obtain ⟨Si, hSi⟩ : ∃ Si, (rowN es i b l).1.getD i 0 = Si := ⟨_, rfl⟩
          have hSm : (rowN es i b l).1[i]? = some Si := by
            rw [← hSi, List.getD_eq_getElem?_getD, List.getElem?_eq_getElem (by rw [HM1.out]; exact hiM)]; rfl
          have hmem := List.mem_of_getElem? hSm
          have hlts := rowN_lt (es := es) (i := i) HH.out.lt l
          have hbns := rowN_small (i := i) HOK.out HH.out.sm l
          have hfst : (rowN es i b l).1[0]? = some S := by
            have h3 := rowN_get (es := es) (i := i) (j := 0) (b := b) (by omega) l
            have h4 : (rowN es i b l).1[0]? = some ((rowN es i b l).1.getD 0 0) := by
              rw [List.getD_eq_getElem?_getD, List.getElem?_eq_getElem (show 0 < (rowN es i b l).1.length by rw [HM1.out]; omega)]; rfl
            have h5 : b.1.getD 0 0 = S := by rw [List.getD_eq_getElem?_getD, HH.out.fst]; rfl
            rw [h4, h3, h5]
          have HFST := Lib.hid hfst
          have HLTS := Lib.hid hlts
          obtain ⟨b1, o1, k1, u1, e1, p1, r1⟩ := (HX.out.rows (U := U') HST.out hfst).at (i := i) (r := memN Si) (by rw [List.getElem?_map, hSm]; rfl)
          rw [List.length_map, HM1.out] at e1
          injection e1 with e1 e1b e1c
          subst e1
          subst e1c
          obtain ⟨a1, c1, hu1⟩ := r1.form
          subst hu1
          obtain ⟨m1, hm1⟩ : ∃ m1, (memN Si).length = m1 := ⟨_, rfl⟩
          rw [hm1] at p1 r1
          obtain ⟨T, hT⟩ : ∃ T, stN es Si l = T := ⟨_, rfl⟩
          have hTl : T < 18446744073709551616 := by rw [← hT]; exact stN_lt _ _ _
          have HTT := Lib.hid hT
          have C1 := Lib.hid (hT ▸ HSTEP.out wr.drew _ Si l ((HRD.out.keep HX.out.p.b).keep (Below.refl _ _).drew) (r1.keep (Below.refl _ _).drew) (hlts Si hmem) (hbns Si hmem) hlL)
          have BD := Lib.hid (Below.refl wr.heap.size wr).drew
          have KX : Hid (∀ W, Below wr.heap.size wr W → W.cell? ⟨w.heap.size, 0, none⟩ = some (.int .i64 (La : Int)) ∧ W.cell? ⟨w.heap.size, 1, none⟩ = some (.int .i64 (n : Int)) ∧ W.cell? ⟨w.heap.size, 2, none⟩ = some (.slice a es.length c) ∧ W.cell? ⟨b1, o1 + i, none⟩ = some (.slice a1 m1 c1)) :=
            Lib.hid (fun W hb => by
              obtain ⟨y1, y2, y3⟩ := HX.out.p.g.keep hb
              exact ⟨y1, y2, y3, cell_keep p1 hb⟩)
          have j3 : (i : Int) < (M1 : Int) := by omega
          have HVIS := Lib.hid (show rowN es i b (l + 1) = visN es i (rowN es i b l) l from rowN_succ es i b l)
          have HSI := Lib.hid hSi
          clear p1 r1 hgi hSm hmem hlts hbns hfst hm1 hT e1b hSi
          go_upto_region 9 with fail
          go_region_held3 (fun W => W.cell? ⟨w.heap.size, 0, none⟩ = some (.int .i64 (La : Int)) ∧ W.cell? ⟨w.heap.size, 1, none⟩ = some (.int .i64 (n : Int)) ∧ W.cell? ⟨w.heap.size, 2, none⟩ = some (.slice a es.length c) ∧ W.cell? ⟨b1, o1 + i, none⟩ = some (.slice a1 m1 c1))
            (first | exact KX.out _ BD.out | exact KX.out _ K1.out)
            (first
              | (go_at_call 105; (with_reducible refine C1.out.mono ?_); rintro e0 Y1 ⟨un, rfl, iown, q1⟩; (dsimp only at iown); (obtain ⟨an, cn, hun⟩ := iown.slice); subst hun; (have K1 := Lib.hid (below_more BD.out (Nat.le_refl _) q1)); (have IN := Lib.hid iown); (have hYs := q1.size); clear q1 C1 iown))
          all_goals
            have HX1 := Lib.hid (HX.out.keep K1.out)
            have INR := Lib.hid IN.out.rd
            have INL := Lib.hid (own_low IN.out (show w.heap.size + 3 ≤ wr.drew.heap.size from HX.out.p.z))
            clear IN KX K1 BD x1 x2 x3
            by_cases hT0 : T = 0
            · have hm0 : (memN T).length = 0 := by rw [hT0, memN_zero]; rfl
              have HR := Lib.hid (show rowN es i b (l + 1) = rowN es i b l by rw [HVIS.out]; exact visN_none (by rw [HSI.out, HTT.out]; exact hT0))
              rw [hm0]
              clear hT0 hm0
              go_wp2_with fail
              go_roundg q2
              case measure => omega
              case rel => exact ⟨l + 1, _, _, by omega, by go_num, Lib.hid (by rw [HR.out]; exact HT.out), Lib.hid (by rw [HR.out]; exact HX1.out)⟩
            · have hmp := memN_pos hTl hT0
              have hml := memN_len T
              obtain ⟨mT, hmT⟩ : ∃ mT, (memN T).length = mT := ⟨_, rfl⟩
              have C2 := HIX.out Y1 (.slice (some ⟨b1, o1, none⟩) M1 cv') (.slice an (memN T).length cn) (rowN es i b l).1 T (HX1.out.rows HST.out HFST.out) INR.out (by rw [HM1.out]; omega) HLTS.out hTl
              unfold IntsAt at INL
              rw [hmT] at INL C2 hmp hml ⊢
              have d0 : ((mT : Int) == 0) = false := by rw [beq_eq_false_iff_ne]; omega
              obtain ⟨kx, hkx⟩ : ∃ kx : Int, (if T ∈ (rowN es i b l).1 then (((rowN es i b l).1.idxOf T : Nat) : Int) else -1) = kx := ⟨_, rfl⟩
              rw [hkx] at C2
              have HC2 := Lib.hid C2
              clear C2
              go_upto_if 48 with (go_at_call 106; (with_reducible refine HC2.out.mono ?_); rintro e0 Y2 ⟨rfl, q7⟩; (have HX2 := Lib.hid (HX1.out.keep q7)); (have INL2 := Lib.hid (own_keepO INL.out q7)); clear q7)
              go_cut [8, 13] (fun s8 s13 wx => ∃ U2, s13 = .int .i64 (((rowN es i b l).1.idxOf T : Nat) : Int) ∧ Hid (SX w (La : Int) n (.slice a es.length c) (.slice ax mS cx) ((if T ∈ (rowN es i b l).1 then (rowN es i b l).1 else (rowN es i b l).1 ++ [T]), (rowN es i b l).2) s8 (.slice bu M2 cu) U2 wx))
              case first =>
                by_cases hm : T ∈ (rowN es i b l).1
                · rw [if_pos hm] at hkx
                  obtain ⟨k2, hk2⟩ : ∃ k2, (rowN es i b l).1.idxOf T = k2 := ⟨_, rfl⟩
                  rw [hk2] at hkx
                  subst hkx
                  have d1 : ((k2 : Int) == -1) = false := by rw [beq_eq_false_iff_ne]; omega
                  have HX4 := Lib.hid (show SX w (La : Int) n (.slice a es.length c) (.slice ax mS cx) ((if T ∈ (rowN es i b l).1 then (rowN es i b l).1 else (rowN es i b l).1 ++ [T]), (rowN es i b l).2) (.slice (some ⟨b1, o1, none⟩) M1 cv') (.slice bu M2 cu) U' Y2 by rw [if_pos hm]; exact HX2.out)
                  have HK2 := Lib.hid hk2
                  clear hm hk2
                  go_wp2_with fail
                  go_meet
                  exact ⟨U', by rw [HK2.out], HX4⟩
                · rw [if_neg hm] at hkx
                  subst hkx
                  have HIXL := Lib.hid (show (rowN es i b l).1.idxOf T = M1 by rw [← HM1.out]; exact List.idxOf_eq_length hm)
                  have hrow : Y2.ownsRow (w.heap.size + 3) 30 1 (.slice (some ⟨b1, o1, none⟩) M1 cv') M1 U' := by have h9 := HX2.out.a.row; rw [HM1.out] at h9; exact h9
                  have HM := Lib.hid hm
                  have hz2 := HX2.out.p.z
                  clear hm
                  go_wp2_with (at_builtin; refine wpList_append_own_at _ rfl _ _ 45 rfl (w.heap.size + 3) 30 iR (.slice none 0 0) 1 24 Tryz.underlying45 hiR hr0 hr1 hr2 rfl (by decide) _ _ _ rfl (hrow.alloc _) ⟨Y2.heap.size, 0, none⟩ 1 1 [.slice an mT cn] rfl rfl (cell_one_new _ _ _) (by intro u hu; simp at hu; subst hu; rfl) (by unfold maxLen; omega) (by omega) (by rw [World.size_alloc]; omega) ?_; intro v' W4 t1 t2 t3 t4)
                  go_meet
                  refine ⟨U' ++ [.slice an mT cn], by rw [HIXL.out], Lib.hid ?_⟩
                  rw [if_neg HM.out]
                  exact HX2.out.addSet (by rw [HM1.out]; omega) (show IntsAt Y2 (w.heap.size + 3) (.slice an mT cn) (memN T) by unfold IntsAt; rw [hmT]; exact INL2.out) (by rw [HM1.out]; exact t1) t2
              case rest =>
                obtain ⟨U2, rfl, HX3⟩ := hcut
                obtain ⟨Z, rfl⟩ : ∃ Z, Z = wc := ⟨_, rfl⟩
                obtain ⟨av3, cv3, hva⟩ := own_slice HX3.out.a.row
                subst hva
                have HVI : rowN es i b (l + 1) = ((if T ∈ (rowN es i b l).1 then (rowN es i b l).1 else (rowN es i b l).1 ++ [T]), (rowN es i b l).2 ++ [((i : Int), (l : Int), (((rowN es i b l).1.idxOf T : Nat) : Int))]) := by
                  rw [HVIS.out]
                  unfold visN
                  rw [HSI.out, HTT.out, if_neg hT0]
                obtain ⟨B2, hB2⟩ : ∃ B2, (if T ∈ (rowN es i b l).1 then (rowN es i b l).1 else (rowN es i b l).1 ++ [T]) = B2 := ⟨_, rfl⟩
                obtain ⟨k2, hk2⟩ : ∃ k2, (rowN es i b l).1.idxOf T = k2 := ⟨_, rfl⟩
                rw [hB2] at HX3 HVI ⊢
                rw [hk2] at HVI ⊢
                have HVI2 := Lib.hid HVI
                have hBl : B2.length ≤ M1 + 1 := by
                  rw [← hB2]
                  split
                  · rw [HM1.out]; omega
                  · rw [List.length_append, HM1.out]; exact Nat.le_refl _
                have hk2l : k2 ≤ M1 := by rw [← hk2, ← HM1.out]; exact List.idxOf_le_length
                obtain ⟨L2, hL2⟩ : ∃ L2, B2.length = L2 := ⟨_, rfl⟩
                have HL2 := Lib.hid hL2
                dsimp only at HX3
                rw [hL2] at HX3 hBl
                dsimp only
                rw [hL2]
                have hown : Z.ownsRow (w.heap.size + 3) 39 3 (.slice bu M2 cu) M2 (ecl (rowN es i b l).2) := by have h9 := HX3.out.e; unfold EdgesAt at h9; dsimp only at h9; rw [HM2.out] at h9; exact h9
                obtain ⟨⟨o1, o2, o3⟩, o4, o5, o6⟩ := id HX3.out.p.o
                have hz3 := HX3.out.p.z
                clear hB2 hk2 hL2 HVI HIX hkx HX1 INL INR HC2 hTl hT0
                go_wp2_with (at_builtin; refine wpList_append_own_at _ rfl _ _ 22 rfl (w.heap.size + 3) 39 iE (.agg #[.int .i64 0, .int .i64 0, .int .i64 0]) 3 24 Tryz.underlying22 hiE he0 he1 he2 rfl (by decide) _ _ _ rfl (hown.alloc _) ⟨Z.heap.size, 0, none⟩ 1 1 [.int .i64 (i : Int), .int .i64 (l : Int), .int .i64 (k2 : Int)] rfl rfl (cell_three_new _ _ _ _ _) (by intro u hu; simp at hu; rcases hu with rfl | rfl | rfl <;> rfl) (by unfold maxLen; omega) (by omega) (by rw [World.size_alloc]; omega) ?_)
                intro v' W5 t1 t2 t3 t4
                have hlt := (hown.alloc (.cells #[.int .i64 (i : Int), .int .i64 (l : Int), .int .i64 (k2 : Int)] 39)).lt
                have hb5 : Below (w.heap.size + 3) Z W5 := ((Below.refl (w.heap.size + 3) Z).alloc hz3 _).grown t2 (by rw [World.size_alloc]; omega) (fun k hk => (hlt k hk).1)
                have P5 := Lib.hid (HX3.out.p.low hb5)
                obtain ⟨bu', cu', rfl⟩ := own_slice t1
                have HX5 := Lib.hid (HX3.out.addEdge (e := ((i : Int), (l : Int), (k2 : Int))) (by dsimp only; rw [HM2.out]; exact t1) t2)
                clear t1 t2 t3 t4 hlt hb5 hown o1 o2 o3 o4 o5 o6
                obtain ⟨⟨o1, o2, o3⟩, o4, o5, o6⟩ := id P5.out.o
                obtain ⟨⟨r1, r2, r3⟩, r4, r5, r6⟩ := id P5.out.r
                have HMAN := Lib.hid (show tooN (rowN es i b (l + 1)) → builtN es La S = none from fun h => HH.out.many HHI.out hlL h)
                have HTOO := Lib.hid (show tooN (rowN es i b (l + 1)) ↔ 64 < L2 ∨ 1024 < M2 + 1 by
                  rw [HVI2.out]
                  unfold tooN
                  dsimp only
                  rw [HL2.out, List.length_append, HM2.out, List.length_singleton])
                by_cases h1 : 64 < L2
                · have d1 : decide ((64 : Int) < (L2 : Int)) = true := decide_eq_true (by omega)
                  have HNO := Lib.hid (HMAN.out (HTOO.out.2 (.inl h1)))
                  have HBB := Lib.hid HX5.out.p.b
                  clear h1
                  go_wp2_with fail
                  exact bodyPost_ret (v := .tuple #[grV 0 0 (.slice none 0 0), .slice none 0 0, .bool false]) (by simp [results, Tryz.results85, go_sem, r1, r2, r3]) rfl (.inl ⟨HNO.out, rfl, below_over HBB.out (Nat.le_succ _) _ _ _⟩)
                · have d1 : decide ((64 : Int) < (L2 : Int)) = false := decide_eq_false (by omega)
                  by_cases h2 : 1024 < M2 + 1
                  · have d2 : decide ((1024 : Int) < ((M2 + 1 : Nat) : Int)) = true := decide_eq_true (by omega)
                    have d3 : decide ((1024 : Int) < (M2 : Int) + 1) = true := decide_eq_true (by omega)
                    have HNO := Lib.hid (HMAN.out (HTOO.out.2 (.inr h2)))
                    have HBB := Lib.hid HX5.out.p.b
                    clear h1 h2
                    go_wp2_with fail
                    exact bodyPost_ret (v := .tuple #[grV 0 0 (.slice none 0 0), .slice none 0 0, .bool false]) (by simp [results, Tryz.results85, go_sem, r1, r2, r3]) rfl (.inl ⟨HNO.out, rfl, below_over HBB.out (Nat.le_succ _) _ _ _⟩)
                  · have d2 : decide ((1024 : Int) < ((M2 + 1 : Nat) : Int)) = false := decide_eq_false (by omega)
                    have d3 : decide ((1024 : Int) < (M2 : Int) + 1) = false := decide_eq_false (by omega)
                    have HT2 := Lib.hid (show ¬ tooN (rowN es i b (l + 1)) from fun h => by
                      rcases HTOO.out.1 h with h | h
                      · exact h1 h
                      · exact h2 h)
                    clear h1 h2
                    go_wp2_with fail
                    go_roundg q2
                    case measure => omega
                    case rel => exact ⟨l + 1, _, U2, by omega, by go_num, HT2, Lib.hid (by rw [HVI2.out]; exact HX5.out)⟩
    · have HDO := Lib.hid (HH.out.done hi)
      rw [hN1] at HX ⊢
      have j0 : ¬ ((i : Int) < (N1 : Int)) := by omega
      have hee := HX.out.e
      obtain ⟨bu, cu, hu⟩ := hee.slice
      subst hu
      obtain ⟨M2, hM2⟩ : ∃ M2, b.2.length = M2 := ⟨_, rfl⟩
      have HM2 := Lib.hid hM2
      rw [hM2] at HX
      obtain ⟨⟨o1, o2, o3⟩, o4, o5, o6⟩ := id HX.out.p.o
      obtain ⟨⟨r1, r2, r3⟩, r4, r5, r6⟩ := id HX.out.p.r
      have HF0 := Lib.hid HH.out.fst
      clear hee hN1 hM2 hi HH hsm
      go_wp2_with fail
      have A1 := (HX.out.a.set ⟨w.heap.size + 2, 1, none⟩ (by show w.heap.size + 2 < _; omega) (.int .i64 (N1 : Int)))
      have A4 := ((A1.set ⟨w.heap.size + 1, 0, none⟩ (by show w.heap.size + 1 < _; omega) (.int .i64 (La : Int))).set ⟨w.heap.size + 1, 1, none⟩ (by show w.heap.size + 1 < _; omega) (.int .i64 (N1 : Int))).set ⟨w.heap.size + 1, 2, none⟩ (by show w.heap.size + 1 < _; omega) (.slice bu M2 cu)
      have E4 := edges_over (ownsRow_setCell_below HX.out.e (a := ⟨w.heap.size + 2, 1, none⟩) (by show w.heap.size + 2 < _; omega) (.int .i64 (N1 : Int))) (b := w.heap.size + 1) (by omega) (.int .i64 (La : Int)) (.int .i64 (N1 : Int)) (.slice bu M2 cu) (Nat.le_refl _)
      have B4 := below_over (HX.out.p.b.setCell (p := ⟨w.heap.size + 2, 1, none⟩) (by show w.heap.size ≤ w.heap.size + 2; omega) (.int .i64 (N1 : Int))) (b := w.heap.size + 1) (Nat.le_succ _) (.int .i64 (La : Int)) (.int .i64 (N1 : Int)) (.slice bu M2 cu)
      exact bodyPost_ret (v := .tuple #[grV (La : Int) (N1 : Int) (.slice bu M2 cu), .slice av N1 cv, .bool true]) (by simp [results, Tryz.results85, go_sem, r1, r2, r3]) rfl
        (.inr ⟨b, HDO.out, bu, cu, av, cv, w.heap.size + 3, U, by rw [HN1.out, HM2.out], by omega, by rw [HM2.out]; exact E4, by rw [HN1.out]; exact A4, B4⟩)
end Go.Proofs.YtiockphjnkehnaaGreatDoor

namespace Go.Proofs.YtiockphjnkehnaaGreatDoor
open Go.RowKit
set_option linter.unusedSimpArgs false
set_option linter.unusedVariables false

def SROut (L n : Int) (es : List E3) (rows : List (List Int)) (z : Int) (w : World) (e : Ending) (w' : World) : Prop :=
  ∃ b d a c, e = .returned (.tuple #[grV L n (.slice b es.length d), .slice a rows.length c, .int .i64 z]) ∧ EdgesRd w' (.slice b es.length d) es ∧ RowsRd w' (.slice a rows.length c) rows ∧ Below w.heap.size w w'
abbrev RSO (La : Int) (r : Int × Bs) : World → Ending → World → Prop := SROut (onOk r.1 La) ((r.2.1.length : Nat) : Int) r.2.2 (r.2.1.map memN) r.1
theorem rows_nilO (W : World) : RowsRd W (.slice none 0 0) [] := ⟨none, 0, rfl, fun i r h => by simp at h⟩
theorem edges_nilO (W : World) : EdgesRd W (.slice none 0 0) [] := ⟨none, 0, rfl, fun i e he => by simp at he⟩
theorem rout_err {La z : Int} {w w' : World} (hz : z ≠ 0) (hb : Below w.heap.size w w') : RSO La (z, ([], [])) w (.returned (.tuple #[grV 0 0 (.slice none 0 0), .slice none 0 0, .int .i64 z])) w' :=
  ⟨none, 0, none, 0, by unfold onOk; rw [if_neg hz]; rfl, edges_nilO _, rows_nilO _, hb⟩
def FromR (w : World) (La : Int) (vs : Value) (S : Nat) (r : Int × Bs) (e : Ending) (w' : World) : Prop :=
  (r.1 ≠ 0 ∧ r.2 = ([], []) ∧ e = .returned (.tuple #[grV 0 0 (.slice none 0 0), .slice none 0 0, .int .i64 r.1]) ∧ Below w.heap.size w w') ∨
  (r.1 = 0 ∧ ∃ b9 d9 a9 c9 lo U, e = .returned (.tuple #[grV La ((r.2.1.length : Nat) : Int) (.slice b9 r.2.2.length d9), .slice a9 r.2.1.length c9, .int .i64 0]) ∧ w.heap.size ≤ lo ∧ EdgesAt w' lo (.slice b9 r.2.2.length d9) r.2.2 ∧ AL lo vs r.2.1 (.slice a9 r.2.1.length c9) U w' ∧ r.2.1[0]? = some S ∧ Below w.heap.size w w')
theorem FromR.err {w w' : World} {La z : Int} {vs : Value} {S : Nat} (hz : z ≠ 0) (hb : Below w.heap.size w w') : FromR w La vs S (z, ([], [])) (.returned (.tuple #[grV 0 0 (.slice none 0 0), .slice none 0 0, .int .i64 z])) w' := .inl ⟨hz, rfl, rfl, hb⟩
theorem FromR.out {w w' : World} {La : Int} {vs : Value} {S : Nat} {r : Int × Bs} {e : Ending} (h : FromR w La vs S r e w') (hst : r.1 = 0 → IntsRd w vs (memN S)) : RSO La r w e w' := by
  obtain ⟨z, b⟩ := r
  rcases h with ⟨h1, h2, h3, h4⟩ | ⟨h1, b9, d9, a9, c9, lo, U, h2, h3, h4, h5, h6, h7⟩
  · dsimp only at h1 h2 h3
    subst h2
    rw [h3]
    exact rout_err h1 h4
  · dsimp only at h1 h2 h4 h5 h6
    subst h1
    exact ⟨b9, d9, a9, c9, by
      rw [h2]
      show _ = Ending.returned (.tuple #[grV (onOk 0 La) ((b.1.length : Nat) : Int) (.slice b9 b.2.length d9), .slice a9 (b.1.map memN).length c9, .int .i64 0])
      rw [List.length_map]; rfl, EdgesAt.rd h4, by
      show RowsRd _ (.slice a9 (b.1.map memN).length c9) (b.1.map memN)
      rw [List.length_map]; exact h5.rows ((hst rfl).keep h7) h6, h7⟩
set_option maxRecDepth 100000 in
set_option maxHeartbeats 6400000 in
theorem rfrom_core (La n : Nat) (es : List E3) (v vs : Value) (set : List Int) (w : World) (hrd : EdgesRd w v es) (hst : IntsRd w vs set) (hvg : VG (La : Int) (n : Int) es) (hne : set ≠ []) (hl : set.length ≤ 9223372036854775807) :
    Calls Tryz.prog 55 #[grV (La : Int) (n : Int) v, vs] w (FromR w (La : Int) vs (ofN set) (fromR (La : Int) (n : Int) es set)) := by
  have hn64 : n ≤ 64 := by have := hvg.s2; omega
  have hlen := hvg.len
  have HVC := Lib.hid hvg.chk
  have HC : Hid (∀ W, EdgesRd W v es → Calls Tryz.prog 23 #[grV (La : Int) (n : Int) v] W fun e W' => e = .returned (.int .i64 0) ∧ Below W.heap.size W W') := Lib.hid (fun W h => by
    have k := rcheck_any (La : Int) (n : Int) es v W h (by omega)
    rw [hvg.chk] at k
    exact k)
  have HSE : Hid (∀ W, chkS (n : Int) none set = 0 → EdgesRd W v es → IntsRd W vs set → Calls Tryz.prog 85 #[grV (La : Int) (n : Int) v, vs] W (SetsR W (La : Int) vs (builtN es La (ofN set)))) := Lib.hid (fun W h0 h1 h2 => by
    have hsg := chkS_ok h0
    have hb : ∀ s ∈ set, 0 ≤ s ∧ s < 64 := fun s hs => by have := hsg.bd s hs; omega
    exact sets12_any La n (ofN set) es v vs W h1 (by rw [memN_ofN hsg hn64]; exact h2) hvg (ofN_lt64 hb) (ofN_small hsg hn64))
  have HFR : Hid (∀ z, chkS (n : Int) none set = z → z ≠ 0 → fromR (La : Int) (n : Int) es set = (z, ([], []))) := Lib.hid (fun z h1 h2 => by
    unfold fromR
    rw [if_pos HVC.out, if_neg (by rw [h1]; exact h2), h1])
  have HFO : Hid (chkS (n : Int) none set = 0 → fromR (La : Int) (n : Int) es set = (bErr (builtN es La (ofN set)), bSets (builtN es La (ofN set)))) := Lib.hid (fun h1 => by
    unfold fromR
    rw [if_pos HVC.out, if_pos h1, if_neg hne, Int.toNat_natCast])
  have HRD := Lib.hid hrd
  have HST := Lib.hid hst
  have K0 := Lib.hid (KB.start w (La : Int) (n : Int) v 24)
  obtain ⟨⟨x1, x2, x3⟩, ⟨⟨r1, r2, r3⟩, r4, r5, r6⟩, -⟩ := id K0.out
  obtain ⟨a, c, rfl⟩ := hrd.form
  obtain ⟨a2, c2, rfl⟩ := hst.form
  have hsl : set.length ≠ 0 := fun h => hne (List.eq_nil_of_length_eq_zero h)
  have d0 : ((set.length : Int) == 0) = false := by rw [beq_eq_false_iff_ne]; omega
  obtain ⟨P, hP⟩ : ∃ P, FromR w (La : Int) (.slice a2 set.length c2) (ofN set) (fromR (La : Int) (n : Int) es set) = P := ⟨_, rfl⟩
  have HP := Lib.hid hP
  rw [hP]
  clear hrd hst hvg hP
  go_enter Tryz.func55, Tryz.ntmps55
  go_wp2_with (go_at_call 23; (with_reducible refine (HC.out _ (HRD.out.keep K0.out.bel)).mono ?_); rintro e0 W1 ⟨rfl, b1⟩; (have K1 := Lib.hid (K0.out.keep b1)); (clear b1 x1 x2 x3 r1 r2 r3 r4 r5 r6))
  go_loopg [7] set.length (fun q s7 wx => ∃ i : Nat, i + q = set.length ∧ s7 = .int .i64 (i : Int) ∧ Hid (chkS (n : Int) (prevI set i) (set.drop i) = chkS (n : Int) none set) ∧ Hid (KB w (La : Int) (n : Int) (.slice a es.length c) wx))
  case atStart => exact ⟨0, by omega, rfl, Lib.hid rfl, K1⟩
  case round =>
    clear K1 K0
    obtain ⟨i, hi, rfl, HI, HK⟩ := hrel
    obtain ⟨⟨g1, g2, g3⟩, ⟨⟨r1, r2, r3⟩, r4, r5, r6⟩, -⟩ := id HK.out
    rcases gk with _ | q
    · obtain rfl : i = set.length := by omega
      have hE : chkS (n : Int) none set = 0 := by rw [← HI.out, List.drop_length]; rfl
      have HCS := Lib.hid (HSE.out wr hE (HRD.out.keep HK.out.bel) (HST.out.keep HK.out.bel))
      have hF := HFO.out hE
      rw [hF] at HP
      have j0 : ¬ ((set.length : Int) < (set.length : Int)) := by omega
      cases hb : builtN es La (ofN set) with
      | none =>
        rw [hb] at HCS HP
        have HN : Hid (Calls Tryz.prog 85 #[grV (La : Int) (n : Int) (.slice a es.length c), .slice a2 set.length c2] wr fun e w' => e = .returned (.tuple #[grV 0 0 (.slice none 0 0), .slice none 0 0, .bool false]) ∧ Below wr.heap.size wr w') := Lib.hid (by
          refine HCS.out.mono ?_
          rintro e w' (⟨-, h1, h2⟩ | ⟨b, h1, -⟩)
          · exact ⟨h1, h2⟩
          · cases h1)
        clear HCS hb hF hE HI HSE HFO HFR
        go_wp2_with (go_at_call 85; (with_reducible refine HN.out.mono ?_); rintro e0 W5 ⟨rfl, q5⟩; (have nb5 := below1 W5 (.cells #[.int .i64 0, .int .i64 0, .slice none 0 0] 24)); (have K5 := Lib.hid ((HK.out.keep q5).keep nb5)); clear q5 nb5 g1 g2 g3 r1 r2 r3 r4 r5 r6; (obtain ⟨⟨r1, r2, r3⟩, r4, r5, r6⟩ := id K5.out.2.1))
        rw [← HP.out]
        exact bodyPost_ret (v := .tuple #[grV 0 0 (.slice none 0 0), .slice none 0 0, .int .i64 4]) (by simp [results, Tryz.results55, go_sem, r1, r2, r3]) rfl (FromR.err (by decide) (below_over K5.out.bel (Nat.le_succ _) _ _ _))
      | some b =>
        rw [hb] at HCS HP
        have HN : Hid (Calls Tryz.prog 85 #[grV (La : Int) (n : Int) (.slice a es.length c), .slice a2 set.length c2] wr fun e w' => ∃ b9 d9 a9 c9 lo U, e = .returned (.tuple #[grV (La : Int) ((b.1.length : Nat) : Int) (.slice b9 b.2.length d9), .slice a9 b.1.length c9, .bool true]) ∧ wr.heap.size ≤ lo ∧ EdgesAt w' lo (.slice b9 b.2.length d9) b.2 ∧ AL lo (.slice a2 set.length c2) b.1 (.slice a9 b.1.length c9) U w' ∧ Below wr.heap.size wr w') := Lib.hid (by
          refine HCS.out.mono ?_
          rintro e w' (⟨h1, -⟩ | ⟨b', h1, h2⟩)
          · cases h1
          · injection h1 with h1
            subst h1
            exact h2)
        obtain ⟨n1, hn1⟩ : ∃ n1, b.1.length = n1 := ⟨_, rfl⟩
        obtain ⟨n2, hn2⟩ : ∃ n2, b.2.length = n2 := ⟨_, rfl⟩
        have HN1 := Lib.hid hn1
        have HN2 := Lib.hid hn2
        rw [hn1, hn2] at HN
        have hsg := chkS_ok hE
        have hm0 : memN (ofN set) = set := memN_ofN hsg hn64
        have hb0 : b.1[0]? = some (ofN set) := by
          have hbs : ∀ s ∈ set, 0 ≤ s ∧ s < 64 := fun s hs => by have := hsg.bd s hs; omega
          exact (built_res (ofN_ne hbs hne) (ofN_lt64 hbs) hb).hd
        have HM0 := Lib.hid hm0
        have HB0 := Lib.hid hb0
        have HLO := Lib.hid HK.out.2.2.2
        clear HCS hb hF hE HI HSE HFO HFR hn1 hn2 hsg hm0 hb0
        go_wp2_with (go_at_call 85; (with_reducible refine HN.out.mono ?_); rintro e0 W5 ⟨b9, d9, a9, c9, lo, U, rfl, hlo, e9, r9, q5⟩; (have nb5 := below1 W5 (.cells #[.int .i64 (La : Int), .int .i64 (n1 : Int), .slice b9 n2 d9] 24)); (have K5 := Lib.hid ((HK.out.keep q5).keep nb5)); (have E5 := Lib.hid (e9.keep nb5)); (have R5 := Lib.hid (r9.keep nb5)); (have X5 := BoxG.new W5 (La : Int) (n1 : Int) (.slice b9 n2 d9) 24); (have HL2 := Lib.hid (show w.heap.size + 2 ≤ lo from Nat.le_trans HLO.out hlo)); clear q5 nb5 g1 g2 g3 r1 r2 r3 r4 r5 r6 e9 r9 hlo; (obtain ⟨⟨r1, r2, r3⟩, r4, r5, r6⟩ := id K5.out.2.1); (obtain ⟨z1, z2, z3⟩ := X5))
        have hl2 := HL2.out
        have B9 := below_over K5.out.bel (Nat.le_succ w.heap.size) (.int .i64 (La : Int)) (.int .i64 (n1 : Int)) (.slice b9 n2 d9)
        have A9 := ((R5.out.set ⟨w.heap.size + 1, 0, none⟩ (by show w.heap.size + 1 < lo; omega) (.int .i64 (La : Int))).set ⟨w.heap.size + 1, 1, none⟩ (by show w.heap.size + 1 < lo; omega) (.int .i64 (n1 : Int))).set ⟨w.heap.size + 1, 2, none⟩ (by show w.heap.size + 1 < lo; omega) (.slice b9 n2 d9)
        have E9 := edges_over E5.out (b := w.heap.size + 1) (by omega) (.int .i64 (La : Int)) (.int .i64 (n1 : Int)) (.slice b9 n2 d9) (Nat.le_refl _)
        rw [← HP.out]
        exact bodyPost_ret (v := .tuple #[grV (La : Int) (n1 : Int) (.slice b9 n2 d9), .slice a9 n1 c9, .int .i64 0]) (by simp [results, Tryz.results55, go_sem, r1, r2, r3]) rfl
          (.inr ⟨rfl, b9, d9, a9, c9, lo, U, by
            show _ = Ending.returned (.tuple #[grV (La : Int) ((b.1.length : Nat) : Int) (.slice b9 b.2.length d9), .slice a9 b.1.length c9, .int .i64 0])
            rw [HN1.out, HN2.out], by omega, by show EdgesAt _ lo (.slice b9 b.2.length d9) b.2; rw [HN2.out]; exact E9, by show AL lo _ b.1 (.slice a9 b.1.length c9) U _; rw [HN1.out]; exact A9, HB0.out, B9⟩)
    · obtain ⟨x, hx⟩ : ∃ x, set[i]? = some x := ⟨_, List.getElem?_eq_getElem (by omega)⟩
      have hrd := HST.out.keep HK.out.bel
      obtain ⟨b, off, c', hv, k1⟩ := hrd.at hx
      injection hv with e1 e2 e3
      subst e1
      subst e3
      have HDR := drop_at hx
      have j1 : (i : Int) < (set.length : Int) := by omega
      have hKD : ∀ nq, KB w (La : Int) (n : Int) (.slice a es.length c) (wr.drewN nq) := fun nq => HK.out.keep (below_drewM (Below.refl _ _) nq)
      by_cases h1 : inB (n : Int) x = true
      · have hin := inB_true.1 h1
        have d1 : decide (x < 0) = false := decide_eq_false (by omega)
        have d2 : decide ((n : Int) ≤ x) = false := decide_eq_false (by omega)
        go_upto_region 8 with fail
        go_quiet (fail)
        rename_i nq
        clear d1 d2
        rcases Nat.eq_zero_or_pos i with h0 | h0
        · have HI2 := Lib.hid (show chkS (n : Int) (prevI set (i + 1)) (set.drop (i + 1)) = chkS (n : Int) none set by
            rw [← HI.out, HDR, prevI_succ hx, chkS_step (by omega) (fun q hq => by rw [h0, prevI_zero] at hq; cases hq)])
          have d6 : decide ((0 : Int) < (i : Int)) = false := decide_eq_false (by omega)
          have d7 : decide (0 < i) = false := decide_eq_false (by omega)
          clear HI HDR hx h1 h0 hin e2 hrd
          go_upto_region 10 with fail
          go_quiet (fail)
          rename_i nq2
          go_wp2_with fail
          go_roundg q
          case measure => omega
          case rel => exact ⟨i + 1, by omega, by go_num, HI2, Lib.hid (hKD _)⟩
        · obtain ⟨j, hj⟩ : ∃ j, i = j + 1 := ⟨i - 1, by omega⟩
          obtain ⟨y, hy⟩ : ∃ y, set[j]? = some y := ⟨_, List.getElem?_eq_getElem (by omega)⟩
          have hpv : prevI set i = some y := by rw [hj]; exact prevI_succ hy
          obtain ⟨b2, off2, c2', hv, k2⟩ := hrd.at hy
          injection hv with e1 e2 e3
          injection e1 with e1
          injection e1 with e1 e4
          subst e1
          subst e4
          subst e3
          have hw : IntKind.i64.wrap ((i : Int) - 1) = (j : Int) := by rw [IntKind.wrap_i64]; omega
          have d6 : decide ((0 : Int) < (i : Int)) = true := decide_eq_true (by omega)
          have d7 : decide (0 < i) = true := decide_eq_true (by omega)
          have j2 : (j : Int) < (set.length : Int) := by omega
          by_cases hlt : y < x
          · have HI2 := Lib.hid (show chkS (n : Int) (prevI set (i + 1)) (set.drop (i + 1)) = chkS (n : Int) none set by
              rw [← HI.out, HDR, prevI_succ hx, chkS_step (by omega) (fun q hq => by rw [hpv] at hq; injection hq with hq; omega)])
            have d8 : decide (x ≤ y) = false := decide_eq_false (by omega)
            clear HI HDR hx h1 h0 hin e2 hrd hj hpv hlt hy
            go_upto_region 10 with fail
            go_quiet (fail)
            rename_i nq2
            go_wp2_with fail
            go_roundg q
            case measure => omega
            case rel => exact ⟨i + 1, by omega, by go_num, HI2, Lib.hid (hKD _)⟩
          · have HE := Lib.hid (HFR.out 10 (show chkS (n : Int) none set = 10 by rw [← HI.out, HDR, hpv]; exact chkS_order (by omega) (by omega)) (by decide))
            have d8 : decide (x ≤ y) = true := decide_eq_true (by omega)
            clear HI HDR hx h1 h0 hin e2 hrd hj hpv hlt hy
            go_upto_region 10 with fail
            go_quiet (fail)
            rename_i nq2
            go_wp2_with fail
            rw [← HP.out, HE.out]
            exact bodyPost_ret (v := .tuple #[grV 0 0 (.slice none 0 0), .slice none 0 0, .int .i64 10]) (by simp [results, Tryz.results55, go_sem, r1, r2, r3]) rfl (FromR.err (by decide) (below_over (hKD _).bel (Nat.le_succ _) _ _ _))
      · have h2 : inB (n : Int) x = false := by simpa using h1
        have hin := inB_false.1 h2
        have HE := Lib.hid (HFR.out 25 (show chkS (n : Int) none set = 25 by rw [← HI.out, HDR]; exact chkS_bad (by omega)) (by decide))
        clear HI HDR hx h1 h2 e2 hrd
        by_cases h3 : x < 0
        · have d1 : decide (x < 0) = true := decide_eq_true h3
          clear h3 hin
          go_upto_region 8 with fail
          go_quiet (fail)
          rename_i nq
          go_wp2_with fail
          rw [← HP.out, HE.out]
          exact bodyPost_ret (v := .tuple #[grV 0 0 (.slice none 0 0), .slice none 0 0, .int .i64 25]) (by simp [results, Tryz.results55, go_sem, r1, r2, r3]) rfl (FromR.err (by decide) (below_over (hKD _).bel (Nat.le_succ _) _ _ _))
        · have d1 : decide (x < 0) = false := decide_eq_false h3
          have d2 : decide ((n : Int) ≤ x) = true := decide_eq_true (by omega)
          clear h3 hin
          go_upto_region 8 with fail
          go_quiet (fail)
          rename_i nq
          go_wp2_with fail
          rw [← HP.out, HE.out]
          exact bodyPost_ret (v := .tuple #[grV 0 0 (.slice none 0 0), .slice none 0 0, .int .i64 25]) (by simp [results, Tryz.results55, go_sem, r1, r2, r3]) rfl (FromR.err (by decide) (below_over (hKD _).bel (Nat.le_succ _) _ _ _))
theorem ofN_states {n : Nat} (hn : n ≤ 64) : ofN (mems n (fun _ => true)) = fullN n := by
  have hb : ∀ s ∈ mems n (fun _ => true), 0 ≤ s ∧ s < 64 := fun s hs => by
    obtain ⟨i, rfl, h, -⟩ := mems_iff.1 hs; omega
  refine set_ext (ofN_lt64 hb) (fullN_lt hn) (fun i hi => ?_)
  rw [ofN_bit hb, fullN_bit, decide_eq_decide, mems_iff]
  exact ⟨fun ⟨j, h1, h2, _⟩ => by omega, fun h => ⟨i, rfl, h, rfl⟩⟩
set_option maxRecDepth 100000 in
set_option maxHeartbeats 6400000 in
theorem rbuild_any (La S : Int) (es : List E3) (v : Value) (w : World) (hrd : EdgesRd w v es) (hn : es.length ≤ 9223372036854775807) :
    Calls Tryz.prog 25 #[grV La S v] w (RSO La (buildR La S es) w) := by
  have hmx : Tryz.prog.follows .mixedOrders = true := by kernel_rfl
  obtain ⟨hbx, hgx, hbb, hsz⟩ := two_boxes w La S v
  have HCH := Lib.hid (rcheck_any La S es v _ (hrd.keep hbb) hn)
  have HBX := Lib.hid hbx
  have HGX := Lib.hid hgx
  have HBB := Lib.hid hbb
  obtain ⟨x1, x2, x3⟩ := id hbx
  by_cases h0 : chkG La S es = 0
  · have hvg := chkG_zero h0
    obtain ⟨n, rfl⟩ : ∃ n : Nat, S = (n : Int) := ⟨S.toNat, by have := hvg.s1; omega⟩
    obtain ⟨La, rfl⟩ : ∃ n : Nat, La = (n : Int) := ⟨La.toNat, by have := hvg.l1; omega⟩
    rw [h0] at HCH
    by_cases hz : n = 0
    · have HE := Lib.hid (show buildR (La : Int) (n : Int) es = (0, ([], [])) by unfold buildR; rw [if_pos h0, if_pos (by omega)])
      have d0 : ((n : Int) == 0) = true := by rw [beq_iff_eq]; omega
      obtain ⟨a, c, rfl⟩ := hrd.form
      clear hrd hbx hgx hbb h0 hvg hz
      rw [HE.out]
      go_enter Tryz.func25, Tryz.ntmps25
      go_wp2_with (go_at_call 23; (with_reducible refine HCH.out.mono ?_); rintro e W2 ⟨rfl, b2⟩; (obtain ⟨x1, x2, x3⟩ := HBX.out.keep b2); (obtain ⟨r1, r2, r3, r4, r5, r6⟩ := (HGX.out.keep b2).cells); (have HB2 := Lib.hid (HBB.out.trans (b2.mono HBB.out.size))))
      exact bodyPost_ret (v := .tuple #[grV (La : Int) 0 (.slice none 0 0), .slice none 0 0, .int .i64 0]) (by simp [results, Tryz.results25, go_sem, r1, r2, r3]) rfl
        ⟨none, 0, none, 0, rfl, edges_nilO _, rows_nilO _, below_over HB2.out (Nat.le_succ _) _ _ _⟩
    · have hn64 : n ≤ 64 := by have := hvg.s2; omega
      obtain ⟨st, hst⟩ : ∃ st, mems n (fun _ => true) = st := ⟨_, rfl⟩
      have hsg : SG (n : Int) st := by rw [← hst]; exact mems_sg n _
      have hne : st ≠ [] := fun e => by
        have h1 : (0 : Int) ∈ st := by rw [← hst]; exact mems_iff.2 ⟨0, rfl, by omega, rfl⟩
        rw [e] at h1; cases h1
      have hof : ofN st = fullN n := by rw [← hst]; exact ofN_states hn64
      obtain ⟨mm, hmm⟩ : ∃ mm, st.length = mm := ⟨_, rfl⟩
      have hmm2 : mm ≤ 64 := by have := mems_len n (fun _ => true); rw [hst, hmm] at this; omega
      have hfr : fromR (La : Int) (n : Int) es st = buildR (La : Int) (n : Int) es := by
        unfold fromR buildR
        rw [if_pos h0, if_pos hsg.chk, if_neg hne, if_pos h0, if_neg (by omega), hof, Int.toNat_natCast, Int.toNat_natCast]
      have d0 : ((n : Int) == 0) = false := by rw [beq_eq_false_iff_ne]; omega
      obtain ⟨a, c, rfl⟩ := hrd.form
      have HRD := Lib.hid hrd
      have HV : Hid (∀ W, Calls Tryz.prog 56 #[grV (La : Int) (n : Int) (.slice a es.length c)] W fun e w' => ∃ a c, e = .returned (.slice a mm c) ∧ IntsAt w' W.heap.size (.slice a mm c) st ∧ Below W.heap.size W w') := Lib.hid (fun W => by
        have k := states12_any (La : Int) n (.slice a es.length c) W ⟨_, _, _, rfl⟩ hn64
        rw [hst, hmm] at k
        exact k)
      have hmem : memN (fullN n) = st := by rw [← hof]; exact memN_ofN hsg hn64
      have HMEM := Lib.hid hmem
      obtain ⟨z, hzz⟩ : ∃ z, (buildR (La : Int) (n : Int) es).1 = z := ⟨_, rfl⟩
      by_cases hz0 : z = 0
      · subst hz0
        obtain ⟨b, hb⟩ : ∃ b, (buildR (La : Int) (n : Int) es).2 = b := ⟨_, rfl⟩
        have hbr : buildR (La : Int) (n : Int) es = (0, b) := Prod.ext hzz hb
        obtain ⟨n1, hn1⟩ : ∃ n1, b.1.length = n1 := ⟨_, rfl⟩
        obtain ⟨n2, hn2⟩ : ∃ n2, b.2.length = n2 := ⟨_, rfl⟩
        have HN1 := Lib.hid hn1
        have HN2 := Lib.hid hn2
        have HF : Hid (∀ W u, EdgesRd W (.slice a es.length c) es → IntsRd W u st → Calls Tryz.prog 55 #[grV (La : Int) (n : Int) (.slice a es.length c), u] W fun e w' => ∃ b9 d9 a9 c9 lo U, e = .returned (.tuple #[grV (La : Int) (n1 : Int) (.slice b9 n2 d9), .slice a9 n1 c9, .int .i64 0]) ∧ W.heap.size ≤ lo ∧ EdgesAt w' lo (.slice b9 n2 d9) b.2 ∧ AL lo u b.1 (.slice a9 n1 c9) U w' ∧ Below W.heap.size W w') := Lib.hid (fun W u h1 h2 => by
          refine (rfrom_core La n es (.slice a es.length c) u st W h1 h2 hvg hne (by omega)).mono ?_
          rw [hfr, hbr]
          rintro e w' (⟨k1, -⟩ | ⟨-, b9, d9, a9, c9, lo, U, k2, k3, k4, k5, k6, k7⟩)
          · exact absurd rfl k1
          · dsimp only at k2 k4 k5
            rw [hn1, hn2] at k2
            rw [hn2] at k4
            rw [hn1] at k5
            exact ⟨b9, d9, a9, c9, lo, U, k2, k3, k4, k5, k7⟩)
        have hB0 : b.1[0]? = some (fullN n) := by
          have h1 : buildR (La : Int) (n : Int) es = (bErr (builtN es La (fullN n)), bSets (builtN es La (fullN n))) := by
            unfold buildR; rw [if_pos h0, if_neg (by omega), Int.toNat_natCast, Int.toNat_natCast]
          rw [hbr] at h1
          cases hbu : builtN es La (fullN n) with
          | none => rw [hbu] at h1; injection h1 with h1; cases h1
          | some b' =>
            rw [hbu] at h1
            injection h1 with _ h1
            have h3 : b = b' := h1
            rw [h3]
            exact (built_res (fullN_ne hz) (fullN_lt hn64) hbu).hd
        have HB0 := Lib.hid hB0
        rw [hbr]
        clear hrd hbx hgx hbb h0 hvg hz hst hsg hne hof hmm hfr hmem hzz hb hbr hn1 hn2 hB0
        go_enter Tryz.func25, Tryz.ntmps25
        go_upto_region 5 with (go_at_call 23; (with_reducible refine HCH.out.mono ?_); rintro e W2 ⟨rfl, b2⟩; (obtain ⟨x1, x2, x3⟩ := HBX.out.keep b2))
        have HG := Lib.hid (show GBox W2.drew (w.heap.size + 1) (.int .i64 0) (.int .i64 0) (.slice none 0 0) from (show GBox W2 (w.heap.size + 1) (.int .i64 0) (.int .i64 0) (.slice none 0 0) from HGX.out.keep b2))
        have HBB := Lib.hid (show Below w.heap.size w W2.drew from (HBB.out.trans (b2.mono HBB.out.size)).drew)
        have hR0 : SG3 w.heap.size (La : Int) (n : Int) (.slice a es.length c) W2.drew := ⟨x1, x2, x3⟩
        have hsw : w.heap.size + 1 < W2.drew.heap.size := HG.out.lt
        clear x1 x2 x3 b2
        refine regionT (T := T2 8 8 (SG3 w.heap.size (La : Int) (n : Int) (.slice a es.length c)) (SG3 w.heap.size (La : Int) (n : Int) (.slice a es.length c))) hmx ?_
        have hR := hR0
        refine take1 (i := 0) (v := ?_) rfl (by kernel_rfl) (by kernel_rfl) (by kernel_rfl) (by kernel_rfl) (by kernel_rfl) (by decide) (by decide) (fun _ _ _ h => h) (Or.inl ⟨by rfl, ?_⟩) hR hR ?_
        rotate_left
        · intro w hSw
          (try unfold SG3 at hSw)
          go_simp
          all_goals with_reducible rfl
        (try simp only [Act.put, List.setIfInBounds_toArray, List.set_cons_zero, List.set_cons_succ])
        refine take1 (i := 1) (v := ?_) rfl (by kernel_rfl) (by kernel_rfl) (by kernel_rfl) (by kernel_rfl) (by kernel_rfl) (by decide) (by decide) (fun _ _ _ h => h) (Or.inl ⟨by rfl, ?_⟩) hR hR ?_
        rotate_left
        · intro w hSw
          (try unfold SG3 at hSw)
          go_simp
          all_goals with_reducible rfl
        (try simp only [Act.put, List.setIfInBounds_toArray, List.set_cons_zero, List.set_cons_succ])
        refine stepT (i := 2) (by kernel_rfl) rfl (fun K hK => ?_)
        go_simp
        go_at_call 56
        (with_reducible refine (HV.out W2.drew).mono ?_)
        rintro e0 W5 ⟨au, cu, rfl, iu, b5⟩
        have IU := Lib.hid iu
        have hR5 := hR0.keep5 b5
        have HB6 := Lib.hid (show Below w.heap.size w W5 from HBB.out.trans (b5.mono (by have := HBB.out.size; omega)))
        go_wp2_with fail
        refine hK.out _ _ ⟨fun _ => hR5, fun _ => hR5⟩ ?_
        clear hK K hR
        have hR := hR5
        (try simp only [Act.put, List.setIfInBounds_toArray, List.set_cons_zero, List.set_cons_succ])
        refine stepT (i := 3) (by kernel_rfl) rfl (fun K hK => ?_)
        go_simp
        go_at_call 55
        (with_reducible refine (HF.out W5 (.slice au mm cu) (HRD.out.keep HB6.out) IU.out.rd).mono ?_)
        rintro e0 W6 ⟨b9, d9, a9, c9, lo, U, rfl, hlo, e9, r9, b6⟩
        have hR6 := hR5.keep5 b6
        have HB7 := Lib.hid (show Below w.heap.size w W6 from HB6.out.trans (b6.mono (by have := HB6.out.size; omega)))
        have IU6 := Lib.hid (IU.out.keep b6)
        have hz5 := b5.size
        have G7 := GBox.keep (W := W2.drew) (W' := W5) HG.out b5
        have G8 := G7.keep b6
        obtain ⟨r1, r2, r3, r4, r5, r6⟩ := G8.cells
        go_wp2_with fail
        refine hK.out _ _ ⟨fun _ => hR6, fun _ => hR6⟩ ?_
        clear hK K hR
        have hR := hR6
        (try simp only [Act.put, List.setIfInBounds_toArray, List.set_cons_zero, List.set_cons_succ])
        refine take1 (i := 4) (v := ?_) rfl (by kernel_rfl) (by kernel_rfl) (by kernel_rfl) (by kernel_rfl) (by kernel_rfl) (by decide) (by decide) (fun _ _ _ h => h) (Or.inl ⟨by rfl, ?_⟩) hR hR ?_
        rotate_left
        · intro w hSw
          (try unfold SG3 at hSw)
          go_simp
          all_goals with_reducible rfl
        (try simp only [Act.put, List.setIfInBounds_toArray, List.set_cons_zero, List.set_cons_succ])
        refine take1 (i := 5) (v := ?_) rfl (by kernel_rfl) (by kernel_rfl) (by kernel_rfl) (by kernel_rfl) (by kernel_rfl) (by decide) (by decide) (fun _ _ _ h => h) (Or.inl ⟨by rfl, ?_⟩) hR hR ?_
        rotate_left
        · intro w hSw
          (try unfold SG3 at hSw)
          go_simp
          all_goals with_reducible rfl
        (try simp only [Act.put, List.setIfInBounds_toArray, List.set_cons_zero, List.set_cons_succ])
        refine take1 (i := 6) (v := ?_) rfl (by kernel_rfl) (by kernel_rfl) (by kernel_rfl) (by kernel_rfl) (by kernel_rfl) (by decide) (by decide) (fun _ _ _ h => h) (Or.inl ⟨by rfl, ?_⟩) hR hR ?_
        rotate_left
        · intro w hSw
          (try unfold SG3 at hSw)
          go_simp
          all_goals with_reducible rfl
        (try simp only [Act.put, List.setIfInBounds_toArray, List.set_cons_zero, List.set_cons_succ])
        refine stepT (i := 7) (by kernel_rfl) rfl (fun K hK => ?_)
        go_simp
        have hR7 := hR6.far (show w.heap.size + 1 ≠ w.heap.size by omega) (.int .i64 (La : Int)) (.int .i64 (n1 : Int)) (.slice b9 n2 d9)
        refine hK.out _ _ ⟨fun _ => hR7, fun _ => hR7⟩ ?_
        clear hK K hR
        have hR := hR7
        (try simp only [Act.put, List.setIfInBounds_toArray, List.set_cons_zero, List.set_cons_succ])
        refine stepT (i := 8) (by kernel_rfl) rfl (fun K hK => ?_)
        go_simp
        refine hK.out _ _ ⟨fun h => absurd h (by decide), fun h => absurd h (by decide)⟩ ?_
        clear hK K
        (try simp only [Act.put, List.setIfInBounds_toArray, List.set_cons_zero, List.set_cons_succ])
        refine stepT (i := 9) (by kernel_rfl) rfl (fun K hK => ?_)
        go_simp
        refine hK.out _ _ ⟨fun h => absurd h (by decide), fun h => absurd h (by decide)⟩ ?_
        clear hK K
        (try simp only [Act.put, List.setIfInBounds_toArray, List.set_cons_zero, List.set_cons_succ])
        refine doneT (by kernel_rfl) ?_ _
        go_wp2_with fail
        have A9 := ((r9.set ⟨w.heap.size + 1, 0, none⟩ (by show w.heap.size + 1 < lo; omega) (.int .i64 (La : Int))).set ⟨w.heap.size + 1, 1, none⟩ (by show w.heap.size + 1 < lo; omega) (.int .i64 (n1 : Int))).set ⟨w.heap.size + 1, 2, none⟩ (by show w.heap.size + 1 < lo; omega) (.slice b9 n2 d9)
        have E9 := edges_over e9 (b := w.heap.size + 1) (by omega) (.int .i64 (La : Int)) (.int .i64 (n1 : Int)) (.slice b9 n2 d9) (Nat.le_refl _)
        have B9 := below_over HB7.out (Nat.le_succ w.heap.size) (.int .i64 (La : Int)) (.int .i64 (n1 : Int)) (.slice b9 n2 d9)
        have I9 := ownsRow_setCell_below (ownsRow_setCell_below (ownsRow_setCell_below IU6.out (a := ⟨w.heap.size + 1, 0, none⟩) (by show w.heap.size + 1 < _; omega) (.int .i64 (La : Int))) (a := ⟨w.heap.size + 1, 1, none⟩) (by show w.heap.size + 1 < _; omega) (.int .i64 (n1 : Int))) (a := ⟨w.heap.size + 1, 2, none⟩) (by show w.heap.size + 1 < _; omega) (.slice b9 n2 d9)
        exact bodyPost_ret (v := .tuple #[grV (La : Int) (n1 : Int) (.slice b9 n2 d9), .slice a9 n1 c9, .int .i64 0]) (by simp [results, Tryz.results25, go_sem, r1, r2, r3]) rfl
          ⟨b9, d9, a9, c9, by
            show _ = Ending.returned (.tuple #[grV (onOk 0 (La : Int)) ((b.1.length : Nat) : Int) (.slice b9 b.2.length d9), .slice a9 (b.1.map memN).length c9, .int .i64 0])
            rw [List.length_map, HN1.out, HN2.out]; rfl, by show EdgesRd _ (.slice b9 b.2.length d9) b.2; rw [HN2.out]; exact EdgesAt.rd E9, by show RowsRd _ (.slice a9 (b.1.map memN).length c9) (b.1.map memN); rw [List.length_map, HN1.out]; exact A9.rows (S := fullN n) (by rw [HMEM.out]; exact IntsAt.rd I9) HB0.out, B9⟩
      · have hbr : buildR (La : Int) (n : Int) es = (z, ([], [])) := by
          refine Prod.ext hzz ?_
          have h1 : buildR (La : Int) (n : Int) es = (bErr (builtN es La (fullN n)), bSets (builtN es La (fullN n))) := by
            unfold buildR; rw [if_pos h0, if_neg (by omega), Int.toNat_natCast, Int.toNat_natCast]
          rw [h1] at hzz ⊢
          cases hbu : builtN es La (fullN n) with
          | none => rfl
          | some b' => rw [hbu] at hzz; exact absurd hzz.symm hz0
        have HF : Hid (∀ W u, EdgesRd W (.slice a es.length c) es → IntsRd W u st → Calls Tryz.prog 55 #[grV (La : Int) (n : Int) (.slice a es.length c), u] W fun e w' => e = .returned (.tuple #[grV 0 0 (.slice none 0 0), .slice none 0 0, .int .i64 z]) ∧ Below W.heap.size W w') := Lib.hid (fun W u h1 h2 => by
          refine (rfrom_core La n es (.slice a es.length c) u st W h1 h2 hvg hne (by omega)).mono ?_
          rw [hfr, hbr]
          rintro e w' (⟨-, -, k1, k2⟩ | ⟨k1, -⟩)
          · exact ⟨k1, k2⟩
          · exact absurd k1 hz0)
        rw [hbr]
        have HZ0 := Lib.hid hz0
        clear hrd hbx hgx hbb h0 hvg hz hst hsg hne hof hmm hfr hmem hzz hbr hz0
        go_enter Tryz.func25, Tryz.ntmps25
        go_upto_region 5 with (go_at_call 23; (with_reducible refine HCH.out.mono ?_); rintro e W2 ⟨rfl, b2⟩; (obtain ⟨x1, x2, x3⟩ := HBX.out.keep b2))
        have HG := Lib.hid (show GBox W2.drew (w.heap.size + 1) (.int .i64 0) (.int .i64 0) (.slice none 0 0) from (show GBox W2 (w.heap.size + 1) (.int .i64 0) (.int .i64 0) (.slice none 0 0) from HGX.out.keep b2))
        have HBB := Lib.hid (show Below w.heap.size w W2.drew from (HBB.out.trans (b2.mono HBB.out.size)).drew)
        have hR0 : SG3 w.heap.size (La : Int) (n : Int) (.slice a es.length c) W2.drew := ⟨x1, x2, x3⟩
        have hsw : w.heap.size + 1 < W2.drew.heap.size := HG.out.lt
        clear x1 x2 x3 b2
        refine regionT (T := T2 8 8 (SG3 w.heap.size (La : Int) (n : Int) (.slice a es.length c)) (SG3 w.heap.size (La : Int) (n : Int) (.slice a es.length c))) hmx ?_
        have hR := hR0
        refine take1 (i := 0) (v := ?_) rfl (by kernel_rfl) (by kernel_rfl) (by kernel_rfl) (by kernel_rfl) (by kernel_rfl) (by decide) (by decide) (fun _ _ _ h => h) (Or.inl ⟨by rfl, ?_⟩) hR hR ?_
        rotate_left
        · intro w hSw
          (try unfold SG3 at hSw)
          go_simp
          all_goals with_reducible rfl
        (try simp only [Act.put, List.setIfInBounds_toArray, List.set_cons_zero, List.set_cons_succ])
        refine take1 (i := 1) (v := ?_) rfl (by kernel_rfl) (by kernel_rfl) (by kernel_rfl) (by kernel_rfl) (by kernel_rfl) (by decide) (by decide) (fun _ _ _ h => h) (Or.inl ⟨by rfl, ?_⟩) hR hR ?_
        rotate_left
        · intro w hSw
          (try unfold SG3 at hSw)
          go_simp
          all_goals with_reducible rfl
        (try simp only [Act.put, List.setIfInBounds_toArray, List.set_cons_zero, List.set_cons_succ])
        refine stepT (i := 2) (by kernel_rfl) rfl (fun K hK => ?_)
        go_simp
        go_at_call 56
        (with_reducible refine (HV.out W2.drew).mono ?_)
        rintro e0 W5 ⟨au, cu, rfl, iu, b5⟩
        have IU := Lib.hid iu
        have hR5 := hR0.keep5 b5
        have HB6 := Lib.hid (show Below w.heap.size w W5 from HBB.out.trans (b5.mono (by have := HBB.out.size; omega)))
        go_wp2_with fail
        refine hK.out _ _ ⟨fun _ => hR5, fun _ => hR5⟩ ?_
        clear hK K hR
        have hR := hR5
        (try simp only [Act.put, List.setIfInBounds_toArray, List.set_cons_zero, List.set_cons_succ])
        refine stepT (i := 3) (by kernel_rfl) rfl (fun K hK => ?_)
        go_simp
        go_at_call 55
        (with_reducible refine (HF.out W5 (.slice au mm cu) (HRD.out.keep HB6.out) IU.out.rd).mono ?_)
        rintro e0 W6 ⟨rfl, b6⟩
        have hR6 := hR5.keep5 b6
        have HB7 := Lib.hid (show Below w.heap.size w W6 from HB6.out.trans (b6.mono (by have := HB6.out.size; omega)))
        have IU6 := Lib.hid (IU.out.keep b6)
        have hz5 := b5.size
        have G7 := GBox.keep (W := W2.drew) (W' := W5) HG.out b5
        have G8 := G7.keep b6
        obtain ⟨r1, r2, r3, r4, r5, r6⟩ := G8.cells
        go_wp2_with fail
        refine hK.out _ _ ⟨fun _ => hR6, fun _ => hR6⟩ ?_
        clear hK K hR
        have hR := hR6
        (try simp only [Act.put, List.setIfInBounds_toArray, List.set_cons_zero, List.set_cons_succ])
        refine take1 (i := 4) (v := ?_) rfl (by kernel_rfl) (by kernel_rfl) (by kernel_rfl) (by kernel_rfl) (by kernel_rfl) (by decide) (by decide) (fun _ _ _ h => h) (Or.inl ⟨by rfl, ?_⟩) hR hR ?_
        rotate_left
        · intro w hSw
          (try unfold SG3 at hSw)
          go_simp
          all_goals with_reducible rfl
        (try simp only [Act.put, List.setIfInBounds_toArray, List.set_cons_zero, List.set_cons_succ])
        refine take1 (i := 5) (v := ?_) rfl (by kernel_rfl) (by kernel_rfl) (by kernel_rfl) (by kernel_rfl) (by kernel_rfl) (by decide) (by decide) (fun _ _ _ h => h) (Or.inl ⟨by rfl, ?_⟩) hR hR ?_
        rotate_left
        · intro w hSw
          (try unfold SG3 at hSw)
          go_simp
          all_goals with_reducible rfl
        (try simp only [Act.put, List.setIfInBounds_toArray, List.set_cons_zero, List.set_cons_succ])
        refine take1 (i := 6) (v := ?_) rfl (by kernel_rfl) (by kernel_rfl) (by kernel_rfl) (by kernel_rfl) (by kernel_rfl) (by decide) (by decide) (fun _ _ _ h => h) (Or.inl ⟨by rfl, ?_⟩) hR hR ?_
        rotate_left
        · intro w hSw
          (try unfold SG3 at hSw)
          go_simp
          all_goals with_reducible rfl
        (try simp only [Act.put, List.setIfInBounds_toArray, List.set_cons_zero, List.set_cons_succ])
        refine stepT (i := 7) (by kernel_rfl) rfl (fun K hK => ?_)
        go_simp
        have hR7 := hR6.far (show w.heap.size + 1 ≠ w.heap.size by omega) (.int .i64 0) (.int .i64 0) (.slice none 0 0)
        refine hK.out _ _ ⟨fun _ => hR7, fun _ => hR7⟩ ?_
        clear hK K hR
        have hR := hR7
        (try simp only [Act.put, List.setIfInBounds_toArray, List.set_cons_zero, List.set_cons_succ])
        refine stepT (i := 8) (by kernel_rfl) rfl (fun K hK => ?_)
        go_simp
        refine hK.out _ _ ⟨fun h => absurd h (by decide), fun h => absurd h (by decide)⟩ ?_
        clear hK K
        (try simp only [Act.put, List.setIfInBounds_toArray, List.set_cons_zero, List.set_cons_succ])
        refine stepT (i := 9) (by kernel_rfl) rfl (fun K hK => ?_)
        go_simp
        refine hK.out _ _ ⟨fun h => absurd h (by decide), fun h => absurd h (by decide)⟩ ?_
        clear hK K
        (try simp only [Act.put, List.setIfInBounds_toArray, List.set_cons_zero, List.set_cons_succ])
        refine doneT (by kernel_rfl) ?_ _
        go_wp2_with fail
        exact bodyPost_ret (v := .tuple #[grV 0 0 (.slice none 0 0), .slice none 0 0, .int .i64 z]) (by simp [results, Tryz.results25, go_sem, r1, r2, r3]) rfl (rout_err HZ0.out (below_over HB7.out (Nat.le_succ _) _ _ _))
  · have HE := Lib.hid (show buildR La S es = (1, ([], [])) by unfold buildR; rw [if_neg h0])
    obtain ⟨z, hz⟩ : ∃ z, chkG La S es = z := ⟨_, rfl⟩
    rw [hz] at HCH h0
    have d1 : (z != 0) = true := by simpa using h0
    obtain ⟨a, c, rfl⟩ := hrd.form
    clear hrd hbx hgx hbb h0 hz
    rw [HE.out]
    go_enter Tryz.func25, Tryz.ntmps25
    go_wp2_with (go_at_call 23; (with_reducible refine HCH.out.mono ?_); rintro e W2 ⟨rfl, b2⟩; (obtain ⟨r1, r2, r3, r4, r5, r6⟩ := (HGX.out.keep b2).cells); (have HB2 := Lib.hid (HBB.out.trans (b2.mono HBB.out.size))))
    exact bodyPost_ret (v := .tuple #[grV 0 0 (.slice none 0 0), .slice none 0 0, .int .i64 1]) (by simp [results, Tryz.results25, go_sem, r1, r2, r3]) rfl (rout_err (by decide) (below_over HB2.out (Nat.le_succ _) _ _ _))
end Go.Proofs.YtiockphjnkehnaaGreatDoor
