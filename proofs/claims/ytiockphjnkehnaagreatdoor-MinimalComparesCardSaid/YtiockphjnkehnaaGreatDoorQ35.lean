/- What grooveref10.has, Of, Cyclic, Sinks and Irreducible return, for any graph. Plain facts for ComponentMutual: where a state lies among the components. No condition. ComponentParts: the reference's Irreducible, and the walk. Condition: the edges can be read. -/
import Derived.Test.YtiockphjnkehnaaGreatDoorQ34
import Derived.BigQuiet
import Derived.Test.YtiockphjnkehnaaGreatDoorQ10
import Derived.Test.YtiockphjnkehnaaGreatDoorQ08

namespace Go.Proofs.YtiockphjnkehnaaGreatDoor
open Go.RowKit Go.Shelf
set_option linter.unusedSimpArgs false
set_option linter.unusedVariables false

set_option maxRecDepth 100000 in
set_option maxHeartbeats 3200000 in
theorem refHas_any (l : List Int) (x : Int) (v : Value) (w : World) (hrd : IntsRd w v l) (hn : l.length ≤ 100000) :
    Calls Tryz.prog 60 #[v, .int .i64 x] w fun e w' => e = .returned (.bool (decide (x ∈ l))) ∧ w' = w := by
  have HRD := Lib.hid hrd
  obtain ⟨a, c, rfl⟩ := hrd.form
  obtain ⟨m, hm⟩ : ∃ m, l.length = m := ⟨_, rfl⟩
  have HM := Lib.hid hm
  rw [hm] at hn ⊢
  clear hrd hm
  go_enter Tryz.func60, Tryz.ntmps60
  go_wp2_with fail
  go_loopg [5] m (fun q s5 wx => ∃ i : Nat, i + q = m ∧ s5 = .int .i64 (i : Int) ∧ Hid (x ∉ l.take i) ∧ wx = w)
  case atStart => exact ⟨0, by omega, rfl, Lib.hid (by simp), rfl⟩
  case round =>
    obtain ⟨i, him, rfl, HT, rfl⟩ := hrel
    rcases gk with _ | q
    · obtain rfl : m = i := by omega
      have HE := Lib.hid (show decide (x ∈ l) = false from decide_eq_false (by
        have := HT.out
        rwa [List.take_of_length_le (by rw [HM.out]; exact Nat.le_refl _)] at this))
      go_wp2_with fail
      go_ret
      exact ⟨by rw [HE.out]; rfl, rfl⟩
    · obtain ⟨y, hy⟩ : ∃ y, l[i]? = some y := ⟨_, List.getElem?_eq_getElem (by rw [HM.out]; omega)⟩
      obtain ⟨b, off, c', hv, k1⟩ := HRD.out.at hy
      injection hv with e1 e2 e3
      subst e1
      have HY := Lib.hid hy
      have j1 : (i : Int) < (m : Int) := by omega
      clear hy e2 e3
      by_cases hxy : y = x
      · subst hxy
        have HE := Lib.hid (show decide (y ∈ l) = true from decide_eq_true (List.mem_of_getElem? HY.out))
        go_wp2_with fail
        go_ret
        exact ⟨by rw [HE.out]; rfl, rfl⟩
      · have HT2 := Lib.hid (show x ∉ l.take (i + 1) by
          rw [take_snoc HY.out, List.mem_append, List.mem_singleton]
          rintro (h | h)
          · exact HT.out h
          · exact hxy h.symm)
        have e5 : (y == x) = false := by rw [beq_eq_false_iff_ne]; exact hxy
        go_wp2_with fail
        go_roundg q
        case measure => omega
        case rel => exact ⟨i + 1, by omega, by go_num, HT2, rfl⟩
set_option maxRecDepth 100000 in
set_option maxHeartbeats 3200000 in
theorem refOf_any (L S : Int) (es : List E3) (v : Value) (w : World) (hrd : EdgesRd w v es) (hn : es.length ≤ 9223372036854775807) :
    Calls Tryz.prog 53 #[grV L S v] w (ROut w (partsR L S es (fun _ => true)) (errC L S es)) := by
  by_cases h0 : chkG L S es = 0
  · have hvg := chkG_zero h0
    have hs1 := hvg.s1
    obtain ⟨n, rfl⟩ : ∃ n : Nat, S = (n : Int) := ⟨S.toNat, by omega⟩
    have e0 : errC L (n : Int) es = 0 := by unfold errC; rw [if_pos h0]
    have e1 : partsR L (n : Int) es (fun _ => true) = comps es n := by unfold partsR; rw [if_pos h0, Int.toNat_natCast]; exact List.filter_eq_self.2 (fun _ _ => rfl)
    rw [e0, e1]
    exact refOf_good L n es v w hrd hvg
  · have e0 : errC L S es = 1 := by unfold errC; rw [if_neg h0]
    have e1 : partsR L S es (fun _ => true) = [] := by unfold partsR; rw [if_neg h0]
    rw [e0, e1]
    obtain ⟨z, hz⟩ : ∃ z, chkG L S es = z := ⟨_, rfl⟩
    have HCK := Lib.hid (fun W h => hz ▸ rcheck_any L S es v W h hn)
    rw [hz] at h0
    have d0 : (z != 0) = true := by simpa using h0
    have b1 := below1 w (.cells #[.int .i64 L, .int .i64 S, v] 24)
    have G1 := Lib.hid (BoxG.new w L S v 24)
    have HB := Lib.hid b1
    have HRD := Lib.hid hrd
    obtain ⟨a, c, rfl⟩ := hrd.form
    obtain ⟨x1, x2, x3⟩ := id G1.out
    clear hrd b1 h0 hz e0 e1
    go_enter Tryz.func53, Tryz.ntmps53
    go_wp2_with (go_at_call 23; (with_reducible refine (HCK.out _ (HRD.out.keep HB.out)).mono ?_); rintro e W2 ⟨rfl, b2⟩; (have B2 := Lib.hid (below_more (below_more HB.out (Nat.le_refl _) b2) (Nat.le_refl _) (below1 W2 (.cells #[] 30)))); clear b2 x1 x2 x3)
    exact bodyPost_ret (v := .tuple #[.slice (some ⟨W2.heap.size, 0, none⟩) 0 0, .int .i64 1]) (by simp [results, Tryz.results53, go_sem]) rfl ⟨_, rfl, ⟨_, 0, rfl, fun i r hr => by simp at hr⟩, B2.out⟩
structure MP (Wb : World) (rows : List (List Int)) (u : Value) (os : List Value) (X : World) : Prop where
  b : Below Wb.heap.size Wb X
  o : X.ownsRow Wb.heap.size 30 1 u os.length os
  l : os.length = rows.length
  e : ∀ (j : Nat) (u' : Value) (r : List Int), os[j]? = some u' → rows[j]? = some r → IntsRd Wb u' r
section
variable {Wb X Y : World} {u u' : Value} {os : List Value} {rows : List (List Int)} {r : List Int}
theorem MP.keep (h : MP Wb rows u os X) (hb : Below X.heap.size X Y) : MP Wb rows u os Y :=
  ⟨below_more h.b (Nat.le_refl _) hb, World.ownsRow.kept h.o (grown_none hb) (by cases u.ownBlock <;> simp), h.l, h.e⟩
theorem MP.app (h : MP Wb rows u os X) {o : Obj} {u2 : Value} (hu : IntsRd Wb u' r) (hg : (X.alloc o).grownBy Y u.ownBlock) (ho : Y.ownsRow Wb.heap.size 30 1 u2 (os.length + 1) (os ++ [u'])) : MP Wb (rows ++ [r]) u2 (os ++ [u']) Y := by
  have hlt := h.o.lt
  have hsz := h.b.size
  refine ⟨Below.grown (h.b.alloc h.b.size o) hg (by rw [World.size_alloc]; omega) (fun q e => by have := (hlt q e).1; omega), by rw [List.length_append]; exact ho, by rw [List.length_append, List.length_append, h.l]; rfl, fun j z c hj hc => ?_⟩
  by_cases hjl : j < os.length
  · rw [List.getElem?_append_left hjl] at hj
    rw [List.getElem?_append_left (by rw [← h.l]; exact hjl)] at hc
    exact h.e j z c hj hc
  · rw [List.getElem?_append_right (by omega)] at hj
    rw [List.getElem?_append_right (by rw [← h.l]; omega)] at hc
    have e0 : j - os.length = 0 := by have := (List.getElem?_eq_some_iff.1 hj).1; simp at this; omega
    rw [e0] at hj
    rw [← h.l, e0] at hc
    simp at hj hc
    subst hj hc
    exact hu
theorem MP.rd (h : MP Wb rows u os X) : RowsRd X u rows := by
  rcases Nat.eq_zero_or_pos rows.length with h0 | h0
  · obtain rfl : rows = [] := List.eq_nil_of_length_eq_zero h0
    obtain ⟨a, c, hv⟩ := own_slice h.o
    rw [h.l] at hv
    exact ⟨a, c, hv, fun i r hr => by simp at hr⟩
  · have ho := h.o
    obtain ⟨g, c, hv, -, -⟩ := World.ownsRow.form ho (by rw [h.l]; exact h0)
    subst hv
    refine ⟨some ⟨g, 0, none⟩, c, by rw [h.l], fun i r hr => ?_⟩
    have hi : i < os.length := by rw [h.l]; exact (List.getElem?_eq_some_iff.1 hr).1
    obtain ⟨u', hu'⟩ : ∃ u', os[i]? = some u' := ⟨_, List.getElem?_eq_getElem hi⟩
    refine ⟨g, 0, u', rfl, ?_, (h.e i u' r hu' hr).keep h.b⟩
    rw [Nat.zero_add, World.ownsRow.cellAt ho i (by omega), hu']
end
set_option maxRecDepth 100000 in
set_option maxHeartbeats 12800000 in
theorem refCyc_any (L S : Int) (es : List E3) (v : Value) (w : World) (hrd : EdgesRd w v es) (hn : es.length ≤ 9223372036854775807) :
    Calls Tryz.prog 54 #[grV L S v] w (ROut w ((partsR L S es (fun _ => true)).filter (fun c => hasEd es c true)) (errC L S es)) := by
  obtain ⟨iR, ri, rz0, rz1, rz2⟩ := info_parts Tryz.infoRow
  have HOF := Lib.hid (fun W h => refOf_any L S es v W h hn)
  have hrow : ∀ x ∈ partsR L S es (fun _ => true), x.length ≤ 64 := fun x hx => by
    unfold partsR at hx
    split at hx
    · obtain ⟨r, -, rfl⟩ := comps_mem (List.mem_filter.1 hx).1
      have := (chkG_zero ‹_›).s2
      have := (chkG_zero ‹_›).s1
      exact Nat.le_trans (compF_len _ _ _) (by omega)
    · cases hx
  have hkl : (partsR L S es (fun _ => true)).length ≤ 64 := by
    unfold partsR
    split
    · have := (chkG_zero ‹_›).s2
      have := (chkG_zero ‹_›).s1
      exact Nat.le_trans (List.length_filter_le _ _) (Nat.le_trans (comps_len _ _) (by omega))
    · exact Nat.zero_le _
  have HRL := Lib.hid hrow
  obtain ⟨K, hK⟩ : ∃ K, partsR L S es (fun _ => true) = K := ⟨_, rfl⟩
  obtain ⟨z, hz⟩ : ∃ z, errC L S es = z := ⟨_, rfl⟩
  rw [hK] at HOF HRL hkl ⊢
  rw [hz] at HOF ⊢
  have b1 := below1 w (.cells #[.int .i64 L, .int .i64 S, v] 24)
  have G1 := Lib.hid (BoxG.new w L S v 24)
  have HB := Lib.hid b1
  have HRD := Lib.hid hrd
  obtain ⟨a, c, rfl⟩ := hrd.form
  obtain ⟨x1, x2, x3⟩ := id G1.out
  clear hrd b1 hrow hK hz
  go_enter Tryz.func54, Tryz.ntmps54
  go_wp2_with (go_at_call 53; (with_reducible refine (HOF.out _ (HRD.out.keep HB.out)).mono ?_); rintro e W2 ⟨v2, rfl, r2, b2⟩; (have B2 := Lib.hid (below_more HB.out (Nat.le_refl _) b2)); (have G2 := Lib.hid (G1.out.keep b2)); (have R2 := Lib.hid r2); (obtain ⟨a2, c2, rfl⟩ := r2.form); clear b2 r2 x1 x2 x3)
  have HM0 := Lib.hid (show MP W2 ((K.take 0).filter (fun c => hasEd es c true)) (.slice (some ⟨W2.heap.size, 0, none⟩) 0 0) [] (W2.alloc (.cells #[] 30)) from ⟨below1 W2 _, emptyLit W2 _, rfl, fun j u' r hj hr => by simp at hj⟩)
  have HGX := Lib.hid (fun X (h : Below W2.heap.size W2 X) => G2.out.keep h)
  have HEX := Lib.hid (fun X (h : Below W2.heap.size W2 X) => HRD.out.keep (below_more B2.out (Nat.le_refl _) h))
  have HBX := Lib.hid (fun X (h : Below W2.heap.size W2 X) => below_more B2.out (Nat.le_refl _) h)
  clear HB B2 G1 G2 HOF
  generalize W2.alloc (.cells #[] 30) = W3 at *
  go_loopg [6, 7] K.length (fun q s6 s7 wx => ∃ (i : Nat) (os : List Value) (uo : Value), i + q = K.length ∧ s6 = uo ∧ s7 = .int .i64 (i : Int) ∧ Hid (MP W2 ((K.take i).filter (fun c => hasEd es c true)) uo os wx))
  case atStart => exact ⟨0, [], _, by omega, rfl, rfl, HM0⟩
  case round =>
    clear HM0
    obtain ⟨i, os, uo, hin, hu6, rfl, HO⟩ := hrel
    obtain ⟨ao, co, huo⟩ := own_slice HO.out.o
    subst huo
    subst hu6
    rcases gk with _ | q
    · obtain rfl : i = K.length := by omega
      have hfin := HO.out.rd
      have hl := HO.out.l
      rw [List.take_length] at hfin hl
      rw [hl] at hfin ⊢
      have HFIN := Lib.hid hfin
      have HBF := Lib.hid (HBX.out _ HO.out.b)
      clear hfin
      go_wp2_with fail
      exact bodyPost_ret (v := .tuple #[.slice ao (K.filter (fun c => hasEd es c true)).length co, .int .i64 z]) (by simp [results, Tryz.results54, go_sem]) rfl ⟨_, rfl, HFIN.out, HBF.out⟩
    · obtain ⟨row, hrow⟩ : ∃ e, K[i]? = some e := ⟨_, List.getElem?_eq_getElem (by omega)⟩
      obtain ⟨b, off, c', u, hv, k1, r1⟩ := R2.out.at hrow
      injection hv with e1 e2 e3
      subst e1
      have hrl := HRL.out row (List.mem_of_getElem? hrow)
      obtain ⟨au, cu, rfl⟩ := r1.form
      have HR1 := Lib.hid r1
      have HK1 := Lib.hid (fun X (h : Below W2.heap.size W2 X) => cell_keep k1 h)
      have HTK : (K.take (i + 1)).filter (fun c => hasEd es c true) = (K.take i).filter (fun c => hasEd es c true) ++ [row].filter (fun c => hasEd es c true) := by rw [take_snoc hrow, List.filter_append]
      have HTK := Lib.hid HTK
      obtain ⟨m, hm⟩ : ∃ m, row.length = m := ⟨_, rfl⟩
      have HMM := Lib.hid hm
      rw [hm] at hrl HK1 HR1 k1
      have hosl : os.length ≤ 64 := by
        rw [HO.out.l]
        exact Nat.le_trans (List.length_filter_le _ _) (by rw [List.length_take]; omega)
      have j1 : (i : Int) < (K.length : Int) := by omega
      have HF0 := Lib.hid (show (es.take 0).any (fun e => decide (e.1 ∈ row) && (decide (e.2.2 ∈ row) == true)) = false from rfl)
      obtain ⟨x1, x2, x3⟩ := id (HGX.out _ HO.out.b)
      clear hrow r1 hm e2 e3 k1
      go_wp2_with fail
      clear x1 x2 x3
      go_loopg [8, 9] es.length (fun q2 s8 s9 wx => ∃ (k : Nat) (F : Bool), k + q2 = es.length ∧ s8 = .bool F ∧ s9 = .int .i64 (k : Int) ∧ Hid ((es.take k).any (fun e => decide (e.1 ∈ row) && (decide (e.2.2 ∈ row) == true)) = F) ∧ Hid (MP W2 ((K.take i).filter (fun c => hasEd es c true)) (.slice ao os.length co) os wx))
      case atStart => exact ⟨0, false, by omega, rfl, rfl, HF0, HO⟩
      case round =>
        clear HF0 HO
        obtain ⟨k, F, hk, rfl, rfl, HF, HO⟩ := hrel
        obtain ⟨x1, x2, x3⟩ := id (HGX.out _ HO.out.b)
        have k1 := HK1.out _ HO.out.b
        rcases gk with _ | q2
        · obtain rfl : k = es.length := by omega
          have hF := HF.out
          rw [List.take_length] at hF
          have hF2 : hasEd es row true = F := hF
          have hol := HO.out.o
          have hsz := HO.out.b.size
          cases F with
          | false =>
            have HT2 := Lib.hid (show (K.take (i + 1)).filter (fun c => hasEd es c true) = (K.take i).filter (fun c => hasEd es c true) by rw [HTK.out]; simp [hF2])
            clear hF hF2 HF
            go_wp2_with fail
            go_roundg q
            case measure => omega
            case rel => exact ⟨i + 1, _, _, by omega, rfl, by go_num, by rw [HT2.out]; exact HO⟩
          | true =>
            have HT2 := Lib.hid (show (K.take (i + 1)).filter (fun c => hasEd es c true) = (K.take i).filter (fun c => hasEd es c true) ++ [row] by rw [HTK.out]; simp [hF2])
            have HIR := Lib.hid (show IntsRd W2 (.slice au m cu) row from HR1.out)
            obtain ⟨no, hno⟩ : ∃ no, os.length = no := ⟨_, rfl⟩
            have HNO := Lib.hid hno
            rw [hno] at hol hosl HO ⊢
            clear hF hF2 HF hno
            go_wp2_with (at_builtin; refine wpList_append_own_at _ rfl _ _ 45 rfl _ 30 iR (.slice none 0 0) 1 24 Tryz.underlying45 ri rz0 rz1 rz2 rfl (by decide) _ _ _ rfl (hol.alloc _) ⟨wr.heap.size, 0, none⟩ 1 1 [.slice au m cu] rfl rfl (cell_one_new _ _ _) (by intro u hu; simp at hu; subst hu; rfl) (by unfold maxLen; omega) (by omega) (by rw [World.size_alloc]; omega) ?_; intro v' w4 hown4 hgrow4 _ _; (have H4 := Lib.hid (HO.out.app HIR.out hgrow4 (by rw [HNO.out]; exact hown4))); clear hown4 hgrow4)
            go_roundg q
            case measure => omega
            case rel => exact ⟨i + 1, _, _, by omega, rfl, by go_num, by rw [HT2.out]; exact H4⟩
        · obtain ⟨e, he⟩ : ∃ e, es[k]? = some e := ⟨_, List.getElem?_eq_getElem (by omega)⟩
          have HTE := Lib.hid (show (es.take (k + 1)).any (fun e => decide (e.1 ∈ row) && (decide (e.2.2 ∈ row) == true)) = (F || (decide (e.1 ∈ row) && (decide (e.2.2 ∈ row) == true))) by rw [take_snoc he, List.any_append, HF.out]; simp)
          obtain ⟨bb, off2, c3, hv, y1, y2, y3⟩ := (HEX.out _ HO.out.b).at he
          injection hv with q1 q2' q3
          subst q1
          obtain ⟨x, y, zz⟩ := e
          dsimp only at y1 y2 y3 HTE
          have H1 := Lib.hid (fun q => refHas_any row x (.slice au m cu) (wr.drewN q) ((HR1.out.keep HO.out.b).keep (below_drewM (Below.refl _ _) q)) (by rw [HMM.out]; omega))
          have H2 := Lib.hid (fun q => refHas_any row zz (.slice au m cu) (wr.drewN q) ((HR1.out.keep HO.out.b).keep (below_drewM (Below.refl _ _) q)) (by rw [HMM.out]; omega))
          have HMD := Lib.hid (fun q => HO.out.keep (below_drewM (Below.refl _ _) q))
          obtain ⟨d1, hd1⟩ : ∃ d, decide (x ∈ row) = d := ⟨_, rfl⟩
          obtain ⟨d2, hd2⟩ : ∃ d, decide (zz ∈ row) = d := ⟨_, rfl⟩
          rw [hd1] at H1 HTE
          rw [hd2] at H2 HTE
          have j3 : (k : Int) < (es.length : Int) := by omega
          clear he hd1 hd2 q2' q3 HF
          have hcase : F = true ∨ (F = false ∧ d1 = false) ∨ (F = false ∧ d1 = true ∧ d2 = false) ∨ (F = false ∧ d1 = true ∧ d2 = true) := by
            cases F <;> cases d1 <;> cases d2 <;> simp
          rcases hcase with rfl | ⟨rfl, rfl⟩ | ⟨rfl, rfl, rfl⟩ | ⟨rfl, rfl, rfl⟩
          all_goals
            go_upto_region 10 with fail
            go_quiet (first
              | (go_at_call_of 60 x; refine Calls.quiet_of_same (H1.out _))
              | (go_at_call_of 60 zz; refine Calls.quiet_of_same (H2.out _)))
            go_wp2_with fail
            go_roundg q2
            case measure => omega
            case rel => exact ⟨k + 1, _, by omega, rfl, by go_num, HTE, Lib.hid (HMD.out _)⟩
set_option maxRecDepth 100000 in
set_option maxHeartbeats 12800000 in
theorem refSnk_any (L S : Int) (es : List E3) (v : Value) (w : World) (hrd : EdgesRd w v es) (hn : es.length ≤ 9223372036854775807) :
    Calls Tryz.prog 27 #[grV L S v] w (ROut w ((partsR L S es (fun _ => true)).filter (fun c => !hasEd es c false)) (errC L S es)) := by
  obtain ⟨iR, ri, rz0, rz1, rz2⟩ := info_parts Tryz.infoRow
  have HOF := Lib.hid (fun W h => refOf_any L S es v W h hn)
  have hrow : ∀ x ∈ partsR L S es (fun _ => true), x.length ≤ 64 := fun x hx => by
    unfold partsR at hx
    split at hx
    · obtain ⟨r, -, rfl⟩ := comps_mem (List.mem_filter.1 hx).1
      have := (chkG_zero ‹_›).s2
      have := (chkG_zero ‹_›).s1
      exact Nat.le_trans (compF_len _ _ _) (by omega)
    · cases hx
  have hkl : (partsR L S es (fun _ => true)).length ≤ 64 := by
    unfold partsR
    split
    · have := (chkG_zero ‹_›).s2
      have := (chkG_zero ‹_›).s1
      exact Nat.le_trans (List.length_filter_le _ _) (Nat.le_trans (comps_len _ _) (by omega))
    · exact Nat.zero_le _
  have HRL := Lib.hid hrow
  obtain ⟨K, hK⟩ : ∃ K, partsR L S es (fun _ => true) = K := ⟨_, rfl⟩
  obtain ⟨z, hz⟩ : ∃ z, errC L S es = z := ⟨_, rfl⟩
  rw [hK] at HOF HRL hkl ⊢
  rw [hz] at HOF ⊢
  have b1 := below1 w (.cells #[.int .i64 L, .int .i64 S, v] 24)
  have G1 := Lib.hid (BoxG.new w L S v 24)
  have HB := Lib.hid b1
  have HRD := Lib.hid hrd
  obtain ⟨a, c, rfl⟩ := hrd.form
  obtain ⟨x1, x2, x3⟩ := id G1.out
  clear hrd b1 hrow hK hz
  go_enter Tryz.func27, Tryz.ntmps27
  go_wp2_with (go_at_call 53; (with_reducible refine (HOF.out _ (HRD.out.keep HB.out)).mono ?_); rintro e W2 ⟨v2, rfl, r2, b2⟩; (have B2 := Lib.hid (below_more HB.out (Nat.le_refl _) b2)); (have G2 := Lib.hid (G1.out.keep b2)); (have R2 := Lib.hid r2); (obtain ⟨a2, c2, rfl⟩ := r2.form); clear b2 r2 x1 x2 x3)
  have HM0 := Lib.hid (show MP W2 ((K.take 0).filter (fun c => !hasEd es c false)) (.slice (some ⟨W2.heap.size, 0, none⟩) 0 0) [] (W2.alloc (.cells #[] 30)) from ⟨below1 W2 _, emptyLit W2 _, rfl, fun j u' r hj hr => by simp at hj⟩)
  have HGX := Lib.hid (fun X (h : Below W2.heap.size W2 X) => G2.out.keep h)
  have HEX := Lib.hid (fun X (h : Below W2.heap.size W2 X) => HRD.out.keep (below_more B2.out (Nat.le_refl _) h))
  have HBX := Lib.hid (fun X (h : Below W2.heap.size W2 X) => below_more B2.out (Nat.le_refl _) h)
  clear HB B2 G1 G2 HOF
  generalize W2.alloc (.cells #[] 30) = W3 at *
  go_loopg [6, 7] K.length (fun q s6 s7 wx => ∃ (i : Nat) (os : List Value) (uo : Value), i + q = K.length ∧ s6 = uo ∧ s7 = .int .i64 (i : Int) ∧ Hid (MP W2 ((K.take i).filter (fun c => !hasEd es c false)) uo os wx))
  case atStart => exact ⟨0, [], _, by omega, rfl, rfl, HM0⟩
  case round =>
    clear HM0
    obtain ⟨i, os, uo, hin, hu6, rfl, HO⟩ := hrel
    obtain ⟨ao, co, huo⟩ := own_slice HO.out.o
    subst huo
    subst hu6
    rcases gk with _ | q
    · obtain rfl : i = K.length := by omega
      have hfin := HO.out.rd
      have hl := HO.out.l
      rw [List.take_length] at hfin hl
      rw [hl] at hfin ⊢
      have HFIN := Lib.hid hfin
      have HBF := Lib.hid (HBX.out _ HO.out.b)
      clear hfin
      go_wp2_with fail
      exact bodyPost_ret (v := .tuple #[.slice ao (K.filter (fun c => !hasEd es c false)).length co, .int .i64 z]) (by simp [results, Tryz.results27, go_sem]) rfl ⟨_, rfl, HFIN.out, HBF.out⟩
    · obtain ⟨row, hrow⟩ : ∃ e, K[i]? = some e := ⟨_, List.getElem?_eq_getElem (by omega)⟩
      obtain ⟨b, off, c', u, hv, k1, r1⟩ := R2.out.at hrow
      injection hv with e1 e2 e3
      subst e1
      have hrl := HRL.out row (List.mem_of_getElem? hrow)
      obtain ⟨au, cu, rfl⟩ := r1.form
      have HR1 := Lib.hid r1
      have HK1 := Lib.hid (fun X (h : Below W2.heap.size W2 X) => cell_keep k1 h)
      have HTK : (K.take (i + 1)).filter (fun c => !hasEd es c false) = (K.take i).filter (fun c => !hasEd es c false) ++ [row].filter (fun c => !hasEd es c false) := by rw [take_snoc hrow, List.filter_append]
      have HTK := Lib.hid HTK
      obtain ⟨m, hm⟩ : ∃ m, row.length = m := ⟨_, rfl⟩
      have HMM := Lib.hid hm
      rw [hm] at hrl HK1 HR1 k1
      have hosl : os.length ≤ 64 := by
        rw [HO.out.l]
        exact Nat.le_trans (List.length_filter_le _ _) (by rw [List.length_take]; omega)
      have j1 : (i : Int) < (K.length : Int) := by omega
      have HF0 := Lib.hid (show (es.take 0).any (fun e => decide (e.1 ∈ row) && (decide (e.2.2 ∈ row) == false)) = false from rfl)
      obtain ⟨x1, x2, x3⟩ := id (HGX.out _ HO.out.b)
      clear hrow r1 hm e2 e3 k1
      go_wp2_with fail
      clear x1 x2 x3
      go_loopg [8, 9] es.length (fun q2 s8 s9 wx => ∃ (k : Nat) (F : Bool), k + q2 = es.length ∧ s8 = .bool F ∧ s9 = .int .i64 (k : Int) ∧ Hid ((es.take k).any (fun e => decide (e.1 ∈ row) && (decide (e.2.2 ∈ row) == false)) = F) ∧ Hid (MP W2 ((K.take i).filter (fun c => !hasEd es c false)) (.slice ao os.length co) os wx))
      case atStart => exact ⟨0, false, by omega, rfl, rfl, HF0, HO⟩
      case round =>
        clear HF0 HO
        obtain ⟨k, F, hk, rfl, rfl, HF, HO⟩ := hrel
        obtain ⟨x1, x2, x3⟩ := id (HGX.out _ HO.out.b)
        have k1 := HK1.out _ HO.out.b
        rcases gk with _ | q2
        · obtain rfl : k = es.length := by omega
          have hF := HF.out
          rw [List.take_length] at hF
          have hF2 : hasEd es row false = F := hF
          have hol := HO.out.o
          have hsz := HO.out.b.size
          cases F with
          | true =>
            have HT2 := Lib.hid (show (K.take (i + 1)).filter (fun c => !hasEd es c false) = (K.take i).filter (fun c => !hasEd es c false) by rw [HTK.out]; simp [hF2])
            clear hF hF2 HF
            go_wp2_with fail
            go_roundg q
            case measure => omega
            case rel => exact ⟨i + 1, _, _, by omega, rfl, by go_num, by rw [HT2.out]; exact HO⟩
          | false =>
            have HT2 := Lib.hid (show (K.take (i + 1)).filter (fun c => !hasEd es c false) = (K.take i).filter (fun c => !hasEd es c false) ++ [row] by rw [HTK.out]; simp [hF2])
            have HIR := Lib.hid (show IntsRd W2 (.slice au m cu) row from HR1.out)
            obtain ⟨no, hno⟩ : ∃ no, os.length = no := ⟨_, rfl⟩
            have HNO := Lib.hid hno
            rw [hno] at hol hosl HO ⊢
            clear hF hF2 HF hno
            go_wp2_with (at_builtin; refine wpList_append_own_at _ rfl _ _ 45 rfl _ 30 iR (.slice none 0 0) 1 24 Tryz.underlying45 ri rz0 rz1 rz2 rfl (by decide) _ _ _ rfl (hol.alloc _) ⟨wr.heap.size, 0, none⟩ 1 1 [.slice au m cu] rfl rfl (cell_one_new _ _ _) (by intro u hu; simp at hu; subst hu; rfl) (by unfold maxLen; omega) (by omega) (by rw [World.size_alloc]; omega) ?_; intro v' w4 hown4 hgrow4 _ _; (have H4 := Lib.hid (HO.out.app HIR.out hgrow4 (by rw [HNO.out]; exact hown4))); clear hown4 hgrow4)
            go_roundg q
            case measure => omega
            case rel => exact ⟨i + 1, _, _, by omega, rfl, by go_num, by rw [HT2.out]; exact H4⟩
        · obtain ⟨e, he⟩ : ∃ e, es[k]? = some e := ⟨_, List.getElem?_eq_getElem (by omega)⟩
          have HTE := Lib.hid (show (es.take (k + 1)).any (fun e => decide (e.1 ∈ row) && (decide (e.2.2 ∈ row) == false)) = (F || (decide (e.1 ∈ row) && (decide (e.2.2 ∈ row) == false))) by rw [take_snoc he, List.any_append, HF.out]; simp)
          obtain ⟨bb, off2, c3, hv, y1, y2, y3⟩ := (HEX.out _ HO.out.b).at he
          injection hv with q1 q2' q3
          subst q1
          obtain ⟨x, y, zz⟩ := e
          dsimp only at y1 y2 y3 HTE
          have H1 := Lib.hid (fun q => refHas_any row x (.slice au m cu) (wr.drewN q) ((HR1.out.keep HO.out.b).keep (below_drewM (Below.refl _ _) q)) (by rw [HMM.out]; omega))
          have H2 := Lib.hid (fun q => refHas_any row zz (.slice au m cu) (wr.drewN q) ((HR1.out.keep HO.out.b).keep (below_drewM (Below.refl _ _) q)) (by rw [HMM.out]; omega))
          have HMD := Lib.hid (fun q => HO.out.keep (below_drewM (Below.refl _ _) q))
          obtain ⟨d1, hd1⟩ : ∃ d, decide (x ∈ row) = d := ⟨_, rfl⟩
          obtain ⟨d2, hd2⟩ : ∃ d, decide (zz ∈ row) = d := ⟨_, rfl⟩
          rw [hd1] at H1 HTE
          rw [hd2] at H2 HTE
          have j3 : (k : Int) < (es.length : Int) := by omega
          clear he hd1 hd2 q2' q3 HF
          have hcase : F = true ∨ (F = false ∧ d1 = false) ∨ (F = false ∧ d1 = true ∧ d2 = false) ∨ (F = false ∧ d1 = true ∧ d2 = true) := by
            cases F <;> cases d1 <;> cases d2 <;> simp
          rcases hcase with rfl | ⟨rfl, rfl⟩ | ⟨rfl, rfl, rfl⟩ | ⟨rfl, rfl, rfl⟩
          all_goals
            go_upto_region 10 with fail
            go_quiet (first
              | (go_at_call_of 60 x; refine Calls.quiet_of_same (H1.out _))
              | (go_at_call_of 60 zz; refine Calls.quiet_of_same (H2.out _)))
            go_wp2_with fail
            go_roundg q2
            case measure => omega
            case rel => exact ⟨k + 1, _, by omega, rfl, by go_num, HTE, Lib.hid (HMD.out _)⟩
end Go.Proofs.YtiockphjnkehnaaGreatDoor

namespace Go.Proofs.YtiockphjnkehnaaGreatDoor
set_option linter.unusedVariables false

section
variable {K : List (List Int)}
end
section
variable {L : Int} {n : Nat} {es : List E3}
theorem reps_idx {i j r : Nat} (hi : (repsK es n n)[i]? = some r) (hj : (repsK es n n)[j]? = some r) : i = j := by
  have hp := reps_asc es n n
  rw [List.pairwise_iff_getElem] at hp
  obtain ⟨a1, a2⟩ := List.getElem?_eq_some_iff.1 hi
  obtain ⟨b1, b2⟩ := List.getElem?_eq_some_iff.1 hj
  rcases Nat.lt_trichotomy i j with h | h | h
  · have := hp i j a1 b1 h; omega
  · exact h
  · have := hp j i b1 a1 h; omega
theorem comps_all (h : ∀ e ∈ es, okE L (n : Int) e = true) {t : Nat} (ht : t < n) : ∃ j r, j < (comps es n).length ∧ r ∈ repsK es n n ∧ compB es n r t = true ∧ (comps es n).getD j [] = compF es n r ∧ (t : Int) ∈ (comps es n).getD j [] := by
  obtain ⟨r, hr, hrt⟩ := rep_of h ht
  obtain ⟨j, hj⟩ := List.mem_iff_getElem?.1 hr
  have hc : (comps es n)[j]? = some (compF es n r) := by unfold comps; rw [List.getElem?_map, hj]; rfl
  have hg : (comps es n).getD j [] = compF es n r := by rw [List.getD_eq_getElem?_getD, hc]; rfl
  obtain ⟨a, b⟩ := (compB_iff h (reps_lt hr).1 ht).1 hrt
  exact ⟨j, r, (List.getElem?_eq_some_iff.1 hc).1, hr, hrt, hg, by rw [hg]; exact (compF_mem h (reps_lt hr).1).2 ⟨t, rfl, ht, a, b⟩⟩
end
end Go.Proofs.YtiockphjnkehnaaGreatDoor

namespace Go.Proofs.YtiockphjnkehnaaGreatDoor
open Go.RowKit Go.Shelf
set_option linter.unusedSimpArgs false
set_option linter.unusedVariables false

theorem parts_filter (L S : Int) (es : List E3) (q : List Int → Bool) : (partsR L S es (fun _ => true)).filter q = partsR L S es q := by
  unfold partsR
  split
  · rw [List.filter_eq_self.2 (fun _ _ => rfl)]
  · rfl
theorem irr_parts {L : Int} {n : Nat} {es : List E3} (h : ∀ e ∈ es, okE L (n : Int) e = true) : irrB es n = (decide ((comps es n).length = 1) && decide ((cycs es n).length = 1)) := by
  rw [Bool.eq_iff_iff, Bool.and_eq_true, decide_eq_true_iff, decide_eq_true_iff]
  constructor
  · intro hi
    have h1 : (cycs es n).length = 1 := by
      unfold irrB at hi
      rw [Bool.and_eq_true, decide_eq_true_iff] at hi
      exact hi.1
    obtain ⟨hne, hc⟩ := (irr_iff h).1 hi
    refine ⟨?_, h1⟩
    have h2 : 1 ≤ (comps es n).length := by
      have h3 : (cycs es n).length ≤ (comps es n).length := List.length_filter_le _ _
      omega
    unfold comps at h2 ⊢
    rw [List.length_map] at h2 ⊢
    have h3 : ∀ i j r s : Nat, (repsK es n n)[i]? = some r → (repsK es n n)[j]? = some s → i = j := fun i j r s hr hs => by
      have mr := List.mem_of_getElem? hr
      have ms := List.mem_of_getElem? hs
      have rn := (reps_lt mr).1
      have sn := (reps_lt ms).1
      obtain rfl : r = s := rep_one mr ms ((compB_iff h rn sn).2 ⟨hc r s rn sn, hc s r sn rn⟩)
      exact reps_idx hr hs
    refine Classical.byContradiction fun hlen => ?_
    have h4 : 1 < (repsK es n n).length := by omega
    have := h3 0 1 _ _ (List.getElem?_eq_getElem (by omega)) (List.getElem?_eq_getElem h4)
    omega
  · rintro ⟨h1, h2⟩
    unfold irrB
    rw [Bool.and_eq_true, decide_eq_true_iff, decide_eq_true_iff]
    refine ⟨h2, ?_⟩
    obtain ⟨c, hc⟩ := List.length_eq_one_iff.1 h1
    obtain ⟨d, hd⟩ := List.length_eq_one_iff.1 h2
    have hdc : d ∈ comps es n := (List.mem_filter.1 (show d ∈ cycs es n by rw [hd]; exact List.mem_singleton_self _)).1
    rw [hc] at hdc
    obtain rfl := List.mem_singleton.1 hdc
    rw [hd]
    show d.length = n
    obtain ⟨r, hr, rfl⟩ := comps_mem (show d ∈ comps es n by rw [hc]; exact List.mem_singleton_self _)
    have hall : ∀ t, t < n → compB es n r t = true := fun t ht => by
      obtain ⟨j, q, a1, a2, a3, a4, a5⟩ := comps_all h ht
      have hj : j = 0 := by rw [h1] at a1; omega
      subst hj
      rw [hc] at a5
      obtain ⟨y, hy, hyn, y1, y2⟩ := (compF_mem h (reps_lt hr).1).1 (show (t : Int) ∈ compF es n r from a5)
      obtain rfl : t = y := by omega
      exact (compB_iff h (reps_lt hr).1 ht).2 ⟨y1, y2⟩
    unfold compF
    rw [mems_all hall, allI_len]
set_option maxRecDepth 100000 in
set_option maxHeartbeats 3200000 in
theorem refIrr_any (L S : Int) (es : List E3) (v : Value) (w : World) (hrd : EdgesRd w v es) (hn : es.length ≤ 9223372036854775807) :
    Calls Tryz.prog 24 #[grV L S v] w fun e w' => e = .returned (.tuple #[.bool (irrR L S es), .int .i64 (errC L S es)]) ∧ Below w.heap.size w w' := by
  have HOF := Lib.hid (fun W h => refOf_any L S es v W h hn)
  have HCY := Lib.hid (fun W h => refCyc_any L S es v W h hn)
  rw [parts_filter] at HCY
  have hir : irrR L S es = (decide (errC L S es = 0) && (decide ((partsR L S es (fun _ => true)).length = 1) && decide ((partsR L S es (fun c => hasEd es c true)).length = 1))) := by
    unfold irrR errC partsR
    by_cases h0 : chkG L S es = 0
    · rw [if_pos h0, if_pos h0, if_pos h0, if_pos h0, List.filter_eq_self.2 (fun _ _ => rfl)]
      have hvg := chkG_zero h0
      have hs1 := hvg.s1
      obtain ⟨n, rfl⟩ : ∃ n : Nat, S = (n : Int) := ⟨S.toNat, by omega⟩
      rw [Int.toNat_natCast, irr_parts hvg.ok]
      rfl
    · rw [if_neg h0, if_neg h0]; rfl
  obtain ⟨K, hK⟩ : ∃ K, partsR L S es (fun _ => true) = K := ⟨_, rfl⟩
  obtain ⟨M, hM⟩ : ∃ M, partsR L S es (fun c => hasEd es c true) = M := ⟨_, rfl⟩
  obtain ⟨z, hz⟩ : ∃ z, errC L S es = z := ⟨_, rfl⟩
  obtain ⟨I, hI⟩ : ∃ I, irrR L S es = I := ⟨_, rfl⟩
  rw [hK, hz] at HOF
  rw [hM, hz] at HCY
  rw [hK, hM, hz, hI] at hir
  rw [hz, hI]
  have b1 := below1 w (.cells #[.int .i64 L, .int .i64 S, v] 24)
  have G1 := Lib.hid (BoxG.new w L S v 24)
  have HB := Lib.hid b1
  have HRD := Lib.hid hrd
  obtain ⟨a, c, rfl⟩ := hrd.form
  obtain ⟨x1, x2, x3⟩ := id G1.out
  obtain ⟨d1, hd1⟩ : ∃ d, (z == 0) = d := ⟨_, rfl⟩
  obtain ⟨d2, hd2⟩ : ∃ d, ((K.length : Int) == 1) = d := ⟨_, rfl⟩
  obtain ⟨d3, hd3⟩ : ∃ d, ((M.length : Int) == 1) = d := ⟨_, rfl⟩
  have e1 : decide (z = 0) = d1 := by rw [← hd1, Bool.eq_iff_iff, decide_eq_true_iff, beq_iff_eq]
  have e2 : decide (K.length = 1) = d2 := by rw [← hd2, Bool.eq_iff_iff, decide_eq_true_iff, beq_iff_eq]; omega
  have e3 : decide (M.length = 1) = d3 := by rw [← hd3, Bool.eq_iff_iff, decide_eq_true_iff, beq_iff_eq]; omega
  rw [e1, e2, e3] at hir
  have HI := Lib.hid hir
  clear hrd b1 hK hM hz hI hir e1 e2 e3
  cases d1 <;> cases d2 <;> cases d3
  all_goals
    go_enter Tryz.func24, Tryz.ntmps24
    go_wp2_with (first
      | (go_at_call 53; (with_reducible refine (HOF.out _ (HRD.out.keep HB.out)).mono ?_); rintro e W2 ⟨v2, rfl, r2, b2⟩; (have B2 := Lib.hid (below_more HB.out (Nat.le_refl _) b2)); (have G2 := Lib.hid (G1.out.keep b2)); (obtain ⟨a2, c2, rfl⟩ := r2.form); clear b2 r2 x1 x2 x3; (obtain ⟨x1, x2, x3⟩ := id G2.out))
      | (go_at_call 54; (with_reducible refine (HCY.out _ (HRD.out.keep B2.out)).mono ?_); rintro e W3 ⟨v3, rfl, r3, b3⟩; (have B3 := Lib.hid (below_more B2.out (Nat.le_refl _) b3)); (obtain ⟨a3, c3, rfl⟩ := r3.form); clear b3 r3 x1 x2 x3))
    exact bodyPost_ret (v := .tuple #[.bool I, .int .i64 z]) (by rw [HI.out]; simp [results, Tryz.results24, go_sem]) rfl ⟨rfl, B3.out⟩
end Go.Proofs.YtiockphjnkehnaaGreatDoor
