/- What grooveref09.SameSet and grooveref13.classes return: the classes of the states. Conditions: the edges can be read; the graph is valid and deterministic. For grooveref09.Sorted: an edge put into ascending edges; append in a drawn region, the source nil, empty or not. No condition. -/
import Derived.Test.YtbgfllohedhmaaaQ26
import Derived.Deep.CutBlock
import Derived.Test.YtbgfllohedhmaaaQ13
import Derived.Test.YtbgfllohedhmaaaQ15
import Derived.Test.YtbgfllohedhmaaaQ05
import Derived.Maps.AppendAt
import Derived.Deep.AppendLies

namespace Go.Proofs.Ytbgfllohedhmaaa
open Go.RowKit
set_option linter.unusedSimpArgs false
set_option linter.unusedVariables false

theorem take_neJ {α : Type} {l m : List α} {i : Nat} {x y : α} (hx : l[i]? = some x) (hy : m[i]? = some y) (h : x ≠ y) : l ≠ m := fun e => h (by rw [e, hy] at hx; injection hx with hx; exact hx.symm)
theorem take_allJ {α : Type} {l m : List α} (hl : l.length = m.length) (h : l.take l.length = m.take l.length) : l = m := by
  rw [List.take_length, hl, List.take_length] at h; exact h
set_option maxRecDepth 100000 in
set_option maxHeartbeats 3200000 in
theorem sameSet_any (l m : List Int) (u v : Value) (w : World) (hu : IntsRd w u l) (hv : IntsRd w v m) (hl : l.length ≤ 100000) (hm : m.length ≤ 9223372036854775807) :
    Calls Try.prog 35 #[u, v] w fun e w' => e = .returned (.bool (decide (l = m))) ∧ Below w.heap.size w w' := by
  have HU := Lib.hid hu
  have HV := Lib.hid hv
  obtain ⟨a, c, rfl⟩ := hu.form
  obtain ⟨a2, c2, rfl⟩ := hv.form
  clear hu hv
  by_cases h0 : l.length = m.length
  · have d0 : ((l.length : Int) != (m.length : Int)) = false := by rw [h0]; simp
    obtain ⟨R, hR⟩ : ∃ R, decide (l = m) = R := ⟨_, rfl⟩
    have HR := Lib.hid hR
    have HL0 := Lib.hid h0
    rw [hR]
    rw [← h0] at d0 ⊢
    clear hR h0
    go_enter Try.func35, Try.ntmps35
    go_wp2_with fail
    go_loopg [5] l.length (fun q s5 wx => ∃ i : Nat, i + q = l.length ∧ s5 = .int .i64 (i : Int) ∧ Hid (l.take i = m.take i) ∧ Hid (Below w.heap.size w wx))
    case atStart => exact ⟨0, by omega, rfl, Lib.hid rfl, Lib.hid (Below.refl _ _)⟩
    case round =>
      obtain ⟨i, hin, rfl, HT, HB⟩ := hrel
      rcases gk with _ | q
      · obtain rfl : i = l.length := by omega
        have HE := Lib.hid (show R = true by rw [← HR.out]; exact decide_eq_true (take_allJ HL0.out HT.out))
        have j1 : ¬ ((l.length : Int) < (l.length : Int)) := by omega
        go_wp2_with fail
        go_ret
        exact ⟨by rw [HE.out]; rfl, HB.out⟩
      · obtain ⟨x, hx⟩ : ∃ x, l[i]? = some x := ⟨_, List.getElem?_eq_getElem (by omega)⟩
        obtain ⟨y, hy⟩ : ∃ y, m[i]? = some y := ⟨_, List.getElem?_eq_getElem (by have := HL0.out; omega)⟩
        obtain ⟨b1, o1, k1, e1, c1⟩ := (HU.out.keep HB.out).at hx
        obtain ⟨b2, o2, k2, e2, c3⟩ := (HV.out.keep HB.out).at hy
        injection e1 with e1 _ e3
        injection e2 with e2 _ e4
        subst e1
        subst e2
        subst e3
        subst e4
        have HX := Lib.hid hx
        have HY := Lib.hid hy
        have HLM := Lib.hid HL0.out
        have j1 : (i : Int) < (l.length : Int) := by omega
        have KX := Lib.hid (show wr.drew.cell? ⟨b1, o1 + i, none⟩ = some (.int .i64 x) ∧ wr.drew.cell? ⟨b2, o2 + i, none⟩ = some (.int .i64 y) from ⟨c1, c3⟩)
        have j2 : i < l.length := by omega
        clear hx hy
        by_cases hxy : x = y
        · have d1 : (x != y) = false := by simpa using hxy
          have HT2 := Lib.hid (show l.take (i + 1) = m.take (i + 1) by rw [take_snoc HX.out, take_snoc HY.out, HT.out, hxy])
          clear hxy
          go_upto_region 6 with fail
          go_region_held3 (fun W => W.cell? ⟨b1, o1 + i, none⟩ = some (.int .i64 x) ∧ W.cell? ⟨b2, o2 + i, none⟩ = some (.int .i64 y)) (first | exact KX.out | go_keep) (fail)
          all_goals
            go_wp2_with fail
            go_roundg q
            case measure => omega
            case rel => exact ⟨i + 1, by omega, by go_num, HT2, Lib.hid HB.out.drew⟩
        · have d1 : (x != y) = true := by simpa using hxy
          have HE := Lib.hid (show R = false by rw [← HR.out]; exact decide_eq_false (take_neJ HX.out HY.out hxy))
          clear hxy
          go_upto_region 6 with fail
          go_region_held3 (fun W => W.cell? ⟨b1, o1 + i, none⟩ = some (.int .i64 x) ∧ W.cell? ⟨b2, o2 + i, none⟩ = some (.int .i64 y)) (first | exact KX.out | go_keep) (fail)
          all_goals
            go_wp2_with fail
            go_ret
            exact ⟨by rw [HE.out]; rfl, HB.out.drew⟩
  · have d0 : ((l.length : Int) != (m.length : Int)) = true := by rw [bne_iff_ne]; omega
    have HE := Lib.hid (show decide (l = m) = false from decide_eq_false (fun e => h0 (by rw [e])))
    clear h0
    go_enter Try.func35, Try.ntmps35
    go_wp2_with fail
    go_ret
    exact ⟨by rw [HE.out]; rfl, Below.refl _ _⟩
/-- How the numbers of a round arise. -/
theorem refR_walk (m : Nat → Nat → Nat) (n La : Nat) (c : List Nat) : ∃ fl rr : Nat → Nat, fl 0 = 0 ∧ (∀ j, (refR m n La c).getD j 0 = rr j) ∧ (∀ s t, s < n → t < n → sigC m n La c s = sigC m n La c t → rr s = rr t) ∧
    (∀ i, i < n → (∃ t, t < i ∧ sigC m n La c t = sigC m n La c i) → fl (i + 1) = fl i) ∧ (∀ i, i < n → (¬ ∃ t, t < i ∧ sigC m n La c t = sigC m n La c i) → rr i = fl i ∧ fl (i + 1) = fl i + 1) ∧ (∀ i, fl i ≤ i) := by
  have hmem : ∀ i, i < n → (sigC m n La c i ∈ firsts ((sigs m n La c).take i) ↔ ∃ t, t < i ∧ sigC m n La c t = sigC m n La c i) := fun i hi => by
    rw [firsts_mem, mem_take_iff]
    constructor
    · rintro ⟨j, hj, e⟩
      rw [sigs_at (by omega)] at e
      injection e with e
      exact ⟨j, hj, e⟩
    · rintro ⟨j, hj, e⟩
      exact ⟨j, hj, by rw [sigs_at (by omega), e]⟩
  refine ⟨fun i => (firsts ((sigs m n La c).take i)).length, fun j => (refR m n La c).getD j 0, rfl, fun _ => rfl, fun s t hs ht e => (refR_iff hs ht).2 e, fun i hi h => ?_, fun i hi h => ?_, fun i => ?_⟩
  · show (firsts ((sigs m n La c).take (i + 1))).length = _
    rw [firsts_take (sigs_at hi), if_pos ((hmem i hi).2 h)]
  · have hn : sigC m n La c i ∉ firsts ((sigs m n La c).take i) := fun h2 => h ((hmem i hi).1 h2)
    constructor
    · have h1 : (refR m n La c)[i]? = some (ixA (firsts (sigs m n La c)) (sigC m n La c i)) := canon_at (sigs_at hi)
      have h2 : ixA (firsts (sigs m n La c)) (sigC m n La c i) = (firsts ((sigs m n La c).take i)).length := canon_new (sigs_at hi) hn
      rw [refR_at hi, h2] at h1
      injection h1
    · show (firsts ((sigs m n La c).take (i + 1))).length = _
      rw [firsts_take (sigs_at hi), if_neg hn, List.length_append, List.length_singleton]
  · have := firsts_le ((sigs m n La c).take i)
    rw [List.length_take] at this
    show (firsts ((sigs m n La c).take i)).length ≤ i
    omega
theorem ints_cellJ {W : World} {g N k : Nat} {c : List Nat} (h : IntsRd W (.slice (some ⟨g, 0, none⟩) N k) (labsI c)) {i : Nat} (hi : i < c.length) : W.cell? ⟨g, i, none⟩ = some (.int .i64 ((c.getD i 0 : Nat) : Int)) := by
  obtain ⟨b1, o1, k1, hv1, p1⟩ := h.at (natR hi)
  injection hv1 with e1 e2 e3
  injection e1 with e1
  injection e1 with e1 e4
  subst e1
  subst e4
  rwa [Nat.zero_add] at p1
theorem irow_rdJ {W : World} {R n : Nat} {l : List Nat} {f : Nat → Int} (h : IRow W R n f) (hl : l.length = n) (hf : ∀ i, i < n → f i = ((l.getD i 0 : Nat) : Int)) : IntsRd W (.slice (some ⟨R, 0, none⟩) n n) (labsI l) := by
  refine ⟨_, _, by rw [labsI_lenH, hl], fun j x hx => ⟨R, 0, rfl, ?_⟩⟩
  have hj : j < n := by
    have := (List.getElem?_eq_some_iff.1 hx).1
    rwa [labsI_lenH, hl] at this
  rw [natR (by omega)] at hx
  injection hx with hx
  rw [Nat.zero_add, h.cell hj, ← hx, hf j hj]
set_option maxRecDepth 100000 in
set_option maxHeartbeats 6400000 in
theorem classes13_any (La n : Nat) (es : List E3) (v : Value) (w : World) (hrd : EdgesRd w v es) (hvg : VG (La : Int) (n : Int) es) (hd : detE es = true) :
    Calls Try.prog 20 #[grV (La : Int) (n : Int) v] w fun e w' => ∃ g, e = .returned (.slice (some ⟨g, 0, none⟩) n n) ∧ w.heap.size ≤ g ∧ IntsRd w' (.slice (some ⟨g, 0, none⟩) n n) (labsI (classN (mT n es) La n)) ∧ Below w.heap.size w w' := by
  have hn64 : n ≤ 64 := by have := hvg.s2; omega
  have hL1 : 1 ≤ La := by have := hvg.l1; omega
  obtain ⟨K, -, hK2, hK3, hK4⟩ := refC_get (mT n es) n La hL1 (fun s l => mT_le hvg.ok s l) (fun l => mT_none hvg.ok l)
  have HK2 := Lib.hid hK2
  have HK3 := Lib.hid hK3
  have HK4 := Lib.hid hK4
  have hmk := make_intsH n (by omega)
  have HAL := Lib.hid (fun W vc c s t h1 h2 h3 => alike_any La n s t es v vc c W h1 h2 hvg hd h3)
  have HSS : Hid (∀ W u u' (a b : List Nat), IntsRd W u (labsI a) → IntsRd W u' (labsI b) → a.length = n → b.length = n → Calls Try.prog 35 #[u, u'] W fun e W' => e = .returned (.bool (decide (a = b))) ∧ Below W.heap.size W W') := Lib.hid (fun W u u' a b h1 h2 h3 h4 => by
    refine (sameSet_any _ _ u u' W h1 h2 (by rw [labsI_lenH]; omega) (by rw [labsI_lenH]; omega)).mono ?_
    rintro e W' ⟨rfl, h5⟩
    refine ⟨?_, h5⟩
    congr 2
    rw [decide_eq_decide]
    exact ⟨labsI_inj, fun e => by rw [e]⟩)
  have HRD := Lib.hid hrd
  have b0 := below1 w (.cells #[.int .i64 (La : Int), .int .i64 (n : Int), v] 24)
  have b1 := below1 (w.alloc (.cells #[.int .i64 (La : Int), .int .i64 (n : Int), v] 24)) (.cells (madeCells #[.int .i64 0] n) 3)
  have B0 := Lib.hid (below_more b0 (Nat.le_refl _) b1)
  have G1 := BoxG.new w (La : Int) (n : Int) v 24
  have G0 := Lib.hid (G1.keep b1)
  have I0 := IRow.made (w.alloc (.cells #[.int .i64 (La : Int), .int .i64 (n : Int), v] 24)) n
  rw [World.size_alloc] at I0
  have R0 := Lib.hid (irow_rdJ (l := refC (mT n es) n La 0) I0 (refC_len 0) (fun i hi => by
    show (0 : Int) = _
    show (0 : Int) = (((List.replicate n 0).getD i 0 : Nat) : Int)
    rw [List.getD_eq_getElem?_getD, List.getElem?_replicate, if_pos hi]; rfl))
  obtain ⟨x1, x2, x3⟩ := id G1
  obtain ⟨a, k0, rfl⟩ := hrd.form
  clear hrd hvg hd hK2 hK3 hK4 b0 b1 G1 I0
  go_enter Try.func20, Try.ntmps20
  go_wp2_with fail
  clear x1 x2 x3
  generalize ((w.alloc (.cells #[.int .i64 (La : Int), .int .i64 (n : Int), .slice a es.length k0] 24)).alloc (.cells (madeCells #[.int .i64 0] n) 3)) = W2 at *
  go_loopg [3, 4, 5, 6, 7] K (fun q s3 s4 s5 s6 s7 wx => ∃ (k g : Nat), k + q = K ∧ s3 = .slice (some ⟨g, 0, none⟩) n n ∧ w.heap.size ≤ g ∧ Hid (IntsRd wx (.slice (some ⟨g, 0, none⟩) n n) (labsI (refC (mT n es) n La k))) ∧ Hid (Below W2.heap.size W2 wx))
  case atStart => exact ⟨0, w.heap.size + 1, by omega, rfl, by omega, R0, Lib.hid (Below.refl _ _)⟩
  case round =>
    clear R0
    obtain ⟨k, g, hk, rfl, hwg, HI, HB⟩ := hrel
    obtain ⟨q, rfl⟩ : ∃ q, q = gk := ⟨_, rfl⟩
    obtain ⟨Wo, rfl⟩ : ∃ Wo, Wo = wr := ⟨_, rfl⟩
    obtain ⟨c, hc⟩ : ∃ c, refC (mT n es) n La k = c := ⟨_, rfl⟩
    have HCC := Lib.hid hc
    have hcl : c.length = n := by rw [← hc]; exact refC_len k
    rw [hc] at HI
    clear hc
    obtain ⟨fl, rr, h0, h1, h2, h3, h4, h5⟩ := refR_walk (mT n es) n La c
    have HF0 := Lib.hid h0
    have HF1 := Lib.hid h1
    have HF2 := Lib.hid h2
    have HF3 := Lib.hid h3
    have HF4 := Lib.hid h4
    have HF5 := Lib.hid h5
    clear h0 h1 h2 h3 h4 h5
    obtain ⟨x1, x2, x3⟩ := G0.out.keep HB.out
    have T0 := Lib.hid (IRow.made Wo n)
    have BM := Lib.hid (below1 Wo (.cells (madeCells #[.int .i64 0] n) 3))
    go_wp2_with fail
    clear x1 x2 x3
    obtain ⟨R, hR⟩ : ∃ R, Wo.heap.size = R := ⟨_, rfl⟩
    rw [hR] at T0 BM ⊢
    have HRR := Lib.hid hR
    clear hR
    generalize (Wo.alloc (.cells (madeCells #[.int .i64 0] n) 3)) = X at *
    go_loopg [5, 6, 7] n (fun q2 s5 s6 s7 wx => ∃ i : Nat, i + q2 = n ∧ s6 = .int .i64 (i : Int) ∧ s5 = .int .i64 (fl i : Int) ∧ Hid (IRow wx R n (fun j => if j < i then (rr j : Int) else 0)) ∧ Hid (Below R Wo wx))
    case atStart => exact ⟨0, by omega, rfl, by rw [HF0.out]; rfl, Lib.hid (T0.out.congr (fun j _ => by rw [if_neg (by omega)])), BM⟩
    case round =>
      clear T0 BM
      obtain ⟨i, hin, rfl, rfl, HR, HBR⟩ := hrel
      have HBO := Lib.hid (HB.out.trans ((show Below Wo.heap.size Wo wr by rw [HRR.out]; exact HBR.out).mono HB.out.size))
      have HIW := Lib.hid (HI.out.keep (show Below Wo.heap.size Wo wr by rw [HRR.out]; exact HBR.out))
      obtain ⟨x1, x2, x3⟩ := G0.out.keep HBO.out
      rcases gk with _ | q2
      · obtain rfl : i = n := by omega
        have j0 : ¬ ((i : Int) < (i : Int)) := by omega
        have IR := Lib.hid (irow_rdJ (l := refR (mT i es) i La c) HR.out refR_len (fun j hj => by rw [if_pos hj, HF1.out]))
        have HE2 := Lib.hid (HSS.out wr _ _ _ _ IR.out HIW.out refR_len hcl)
        have hce := HCC.out
        by_cases hkK : k = K
        · have d1 : decide (refR (mT i es) i La c = c) = true := decide_eq_true (by
            have := HK2.out
            rw [← hkK] at this
            show _ = _
            rw [← hce]
            exact this)
          rw [d1] at HE2
          have HF := Lib.hid (show classN (mT i es) La i = c by rw [← HK4.out, ← hkK, hce])
          clear d1 HSS hkK hce
          go_wp2_with (go_at_call 35; (with_reducible refine HE2.out.mono ?_); rintro e W5 ⟨rfl, b5⟩; (have B5 := Lib.hid (HBO.out.trans (b5.mono HBO.out.size))); (have I5 := Lib.hid (HIW.out.keep b5)); clear b5)
          go_ret
          exact ⟨g, rfl, hwg, by rw [HF.out]; exact I5.out, B0.out.trans (B5.out.mono B0.out.size)⟩
        · have d1 : decide (refR (mT i es) i La c = c) = false := decide_eq_false (fun e => HK3.out k (by omega) (by
            show refR (mT i es) i La (refC (mT i es) i La k) = _
            rw [hce]; exact e))
          rw [d1] at HE2
          obtain ⟨q, rfl⟩ : ∃ q', q = q' + 1 := ⟨q - 1, by omega⟩
          have HRN := Lib.hid (show refC (mT i es) i La (k + 1) = refR (mT i es) i La c by
            show refR (mT i es) i La (refC (mT i es) i La k) = _
            rw [hce])
          have hRw : w.heap.size ≤ R := by have := B0.out.size; have := HB.out.size; have := HRR.out; omega
          clear d1 HSS hce
          go_wp2_with (go_at_call 35; (with_reducible refine HE2.out.mono ?_); rintro e W5 ⟨rfl, b5⟩; (have B5 := Lib.hid (HBO.out.trans (b5.mono HBO.out.size))); (have I5 := Lib.hid (IR.out.keep b5)); clear b5)
          go_roundg q
          case measure => omega
          case rel => exact ⟨k + 1, R, by omega, rfl, hRw, Lib.hid (by rw [HRN.out]; exact I5.out), B5⟩
      · have hiN : i < n := by omega
        have j1 : (i : Int) < (n : Int) := by omega
        have f0 := HR.out.frozen i
        have c0 := HR.out.cell hiN
        have R1 := Lib.hid (HR.out.set i (-1))
        have B1 := Lib.hid (HBR.out.setCell (p := ⟨R, i, none⟩) (Nat.le_refl _) (.int .i64 (-1)))
        go_upto_block 4 with fail
        clear f0 c0 x1 x2 x3 HBO HIW HR HBR
        generalize (wr.setCell ⟨R, i, none⟩ (.int .i64 (-1))) = Y at *
        go_cut [7] (fun s7 wx => ∃ z : Int, Hid (IRow wx R n (fun j => if j = i then z else if j < i then (rr j : Int) else 0)) ∧ Hid ((∃ t, t < i ∧ sigC (mT n es) n La c t = sigC (mT n es) n La c i) ∧ z = (rr i : Int) ∨ (¬ ∃ t, t < i ∧ sigC (mT n es) n La c t = sigC (mT n es) n La c i) ∧ z = -1) ∧ Hid (Below R Wo wx))
        case first =>
          go_wp2_with fail
          go_loopg [7] i (fun q3 s7 wx => ∃ t : Nat, t + q3 = i ∧ s7 = .int .i64 (t : Int) ∧ Hid (IRow wx R n (fun j => if j = i then -1 else if j < i then (rr j : Int) else 0)) ∧ Hid (∀ t', t' < t → sigC (mT n es) n La c t' ≠ sigC (mT n es) n La c i) ∧ Hid (Below R Wo wx))
          case atStart => exact ⟨0, by omega, rfl, R1, Lib.hid (fun t' h => absurd h (by omega)), B1⟩
          case round =>
            clear R1 B1
            obtain ⟨t, htn, rfl, HR, HNE, HBR⟩ := hrel
            rcases gk with _ | q3
            · obtain rfl : t = i := by omega
              have j0 : ¬ ((t : Int) < (t : Int)) := by omega
              go_wp2_with fail
              go_meet
              exact ⟨-1, HR, Lib.hid (.inr ⟨fun ⟨t', h1, h2⟩ => HNE.out t' h1 h2, rfl⟩), HBR⟩
            · have hti : t < i := by omega
              have htn : t < n := by omega
              have HBO := Lib.hid (HB.out.trans ((show Below Wo.heap.size Wo wr by rw [HRR.out]; exact HBR.out).mono HB.out.size))
              have HIW := Lib.hid (HI.out.keep (show Below Wo.heap.size Wo wr by rw [HRR.out]; exact HBR.out))
              have HBW := Lib.hid (B0.out.trans (HBO.out.mono B0.out.size))
              have j2 : (t : Int) < (i : Int) := by omega
              have j3 : (t : Int) < (n : Int) := by omega
              have HSE := Lib.hid (sig_iff (m := mT n es) (n := n) (La := La) (c := c) (s := i) (t := t))
              obtain ⟨x, hx⟩ : ∃ x, c.getD i 0 = x := ⟨_, rfl⟩
              obtain ⟨y, hy⟩ : ∃ y, c.getD t 0 = y := ⟨_, rfl⟩
              have p1 := ints_cellJ HIW.out (i := i) (by omega)
              have p2 := ints_cellJ HIW.out (i := t) (by omega)
              rw [hx] at p1
              rw [hy] at p2
              have HNX := Lib.hid (show ¬ (sigC (mT n es) n La c i = sigC (mT n es) n La c t) → ∀ t', t' < t + 1 → sigC (mT n es) n La c t' ≠ sigC (mT n es) n La c i from fun h t' h1 => by
                rcases (show t' < t ∨ t' = t by omega) with h2 | rfl
                · exact HNE.out t' h2
                · exact fun e => h e.symm)
              rw [hx, hy] at HSE
              clear hx hy HNE
              by_cases hxy : x = y
              · subst hxy
                obtain ⟨A, hA⟩ : ∃ A, decide ((sigC (mT n es) n La c i).2 = (sigC (mT n es) n La c t).2) = A := ⟨_, rfl⟩
                have HC1 := Lib.hid (HAL.out wr.drew (.slice (some ⟨g, 0, none⟩) n n) c i t ((HRD.out.keep HBW.out).keep (Below.refl _ _).drew) (HIW.out.keep (Below.refl _ _).drew) hcl)
                rw [hA] at HC1
                have BD := Lib.hid (Below.refl wr.heap.size wr).drew
                have KX : Hid (∀ W, Below wr.heap.size wr W → W.cell? ⟨g, i, none⟩ = some (.int .i64 (x : Int)) ∧ W.cell? ⟨g, t, none⟩ = some (.int .i64 (x : Int)) ∧ W.cell? ⟨w.heap.size, 0, none⟩ = some (.int .i64 (La : Int)) ∧ W.cell? ⟨w.heap.size, 1, none⟩ = some (.int .i64 (n : Int)) ∧ W.cell? ⟨w.heap.size, 2, none⟩ = some (.slice a es.length k0)) :=
                  Lib.hid (fun W hb => ⟨cell_keep p1 hb, cell_keep p2 hb, (G0.out.keep HBO.out).keep hb⟩)
                have HAA := Lib.hid hA
                clear hA p1 p2
                cases A with
                | true =>
                  have HS := Lib.hid (show sigC (mT n es) n La c t = sigC (mT n es) n La c i from (HSE.out.2 ⟨rfl, of_decide_eq_true HAA.out⟩).symm)
                  clear HSE HNX HAA
                  go_upto_region 10 with fail
                  go_region_held3 (fun W => W.cell? ⟨g, i, none⟩ = some (.int .i64 (x : Int)) ∧ W.cell? ⟨g, t, none⟩ = some (.int .i64 (x : Int)) ∧ W.cell? ⟨w.heap.size, 0, none⟩ = some (.int .i64 (La : Int)) ∧ W.cell? ⟨w.heap.size, 1, none⟩ = some (.int .i64 (n : Int)) ∧ W.cell? ⟨w.heap.size, 2, none⟩ = some (.slice a es.length k0))
                    (first | exact KX.out _ BD.out | exact KX.out _ K1.out)
                    (first
                      | (go_at_call 34; (with_reducible refine HC1.out.mono ?_); rintro e0 Y1 ⟨rfl, q1⟩; (have K1 := Lib.hid (below_more BD.out (Nat.le_refl _) q1)); clear q1 HC1))
                  all_goals
                    have HR2 := Lib.hid (HR.out.keep K1.out)
                    have c1 := HR2.out.cell htn
                    have c2 := HR2.out.cell hiN
                    have f2 := HR2.out.frozen i
                    rw [if_neg (show t ≠ i by omega), if_pos hti] at c1
                    rw [if_pos rfl] at c2
                    have HB2 := Lib.hid (HBR.out.trans (K1.out.mono (show R ≤ wr.heap.size by have := HBR.out.size; have := HRR.out; omega)))
                    go_wp2_with fail
                    go_meet
                    refine ⟨(rr i : Int), Lib.hid ((HR2.out.set i (rr t : Int)).congr (fun j _ => ?_)), Lib.hid (.inl ⟨⟨t, hti, HS.out⟩, rfl⟩), Lib.hid (HB2.out.setCell (p := ⟨R, i, none⟩) (Nat.le_refl _) _)⟩
                    try dsimp only
                    by_cases e : j = i
                    · rw [if_pos e, if_pos e, HF2.out t i htn hiN HS.out]
                    · rw [if_neg e, if_neg e, if_neg e]
                | false =>
                  have HN2 := Lib.hid (HNX.out (fun e => of_decide_eq_false HAA.out (HSE.out.1 e).2))
                  clear HSE HNX HAA
                  go_upto_region 10 with fail
                  go_region_held3 (fun W => W.cell? ⟨g, i, none⟩ = some (.int .i64 (x : Int)) ∧ W.cell? ⟨g, t, none⟩ = some (.int .i64 (x : Int)) ∧ W.cell? ⟨w.heap.size, 0, none⟩ = some (.int .i64 (La : Int)) ∧ W.cell? ⟨w.heap.size, 1, none⟩ = some (.int .i64 (n : Int)) ∧ W.cell? ⟨w.heap.size, 2, none⟩ = some (.slice a es.length k0))
                    (first | exact KX.out _ BD.out | exact KX.out _ K1.out)
                    (first
                      | (go_at_call 34; (with_reducible refine HC1.out.mono ?_); rintro e0 Y1 ⟨rfl, q1⟩; (have K1 := Lib.hid (below_more BD.out (Nat.le_refl _) q1)); clear q1 HC1))
                  all_goals
                    have HR2 := Lib.hid (HR.out.keep K1.out)
                    have HB2 := Lib.hid (HBR.out.trans (K1.out.mono (show R ≤ wr.heap.size by have := HBR.out.size; have := HRR.out; omega)))
                    go_wp2_with fail
                    go_roundg q3
                    case measure => omega
                    case rel => exact ⟨t + 1, by omega, by go_num, HR2, HN2, HB2⟩
              · have d1 : ((x : Int) == (y : Int)) = false := by rw [beq_eq_false_iff_ne]; omega
                have HN2 := Lib.hid (HNX.out (fun e => hxy (HSE.out.1 e).1))
                clear HSE HNX hxy HAL
                go_upto_region 10 with fail
                go_quiet (fail)
                go_wp2_with fail
                go_roundg q3
                case measure => omega
                case rel => exact ⟨t + 1, by omega, by go_num, Lib.hid (HR.out.keep (below_drewM (Below.refl _ _) _)), HN2, Lib.hid (below_drewM HBR.out _)⟩
        case rest =>
          clear R1 B1
          obtain ⟨z, HR, HZ, HBR⟩ := hcut
          have c0 := HR.out.cell hiN
          have f0 := HR.out.frozen i
          rw [if_pos rfl] at c0
          have HBO := Lib.hid (HB.out.trans ((show Below Wo.heap.size Wo wc by rw [HRR.out]; exact HBR.out).mono HB.out.size))
          obtain ⟨x1, x2, x3⟩ := G0.out.keep HBO.out
          rcases HZ.out with ⟨hm, rfl⟩ | ⟨hm, rfl⟩
          · have d1 : decide ((rr i : Int) < 0) = false := decide_eq_false (by omega)
            have HFL := Lib.hid (HF3.out i hiN hm)
            clear HZ hm
            go_wp2_with fail
            go_roundg q2
            case measure => omega
            case rel => exact ⟨i + 1, by omega, by go_num, by rw [HFL.out], Lib.hid (HR.out.congr (fun j _ => by
              by_cases e : j = i
              · rw [if_pos e, if_pos (by omega), e]
              · rw [if_neg e]
                by_cases e2 : j < i
                · rw [if_pos e2, if_pos (by omega)]
                · rw [if_neg e2, if_neg (by omega)])), HBR⟩
          · have HFL := Lib.hid (HF4.out i hiN hm)
            have hfi := HF5.out i
            obtain ⟨y, hy⟩ : ∃ y, fl i = y := ⟨_, rfl⟩
            rw [hy] at HFL hfi ⊢
            have hw : IntKind.i64.wrap ((y : Int) + 1) = (y : Int) + 1 := by rw [IntWalk.i64_in _ (by omega)]
            clear HZ hm hy
            go_wp2_with fail
            go_roundg q2
            case measure => omega
            case rel => exact ⟨i + 1, by omega, by go_num, by rw [HFL.out.2]; go_num, Lib.hid ((HR.out.set i (y : Int)).congr (fun j _ => by
              try dsimp only
              by_cases e : j = i
              · rw [if_pos e, if_pos (by omega), e, HFL.out.1]
              · rw [if_neg e, if_neg e]
                by_cases e2 : j < i
                · rw [if_pos e2, if_pos (by omega)]
                · rw [if_neg e2, if_neg (by omega)])), Lib.hid (HBR.out.setCell (p := ⟨R, i, none⟩) (Nat.le_refl _) _)⟩
end Go.Proofs.Ytbgfllohedhmaaa

namespace Go.Proofs.Ytbgfllohedhmaaa
open Go.RowKit Go.Shelf
set_option linter.unusedSimpArgs false
set_option linter.unusedVariables false

theorem ins_pw {O : List E3} {e : E3} {k : Nat} (hp : O.Pairwise (fun a b => ltE a b = true)) (h1 : ∀ x, x ∈ O.take k → ltE x e = true) (h2 : ∀ x, O[k]? = some x → ltE e x = true) :
    (O.take k ++ [e] ++ O.drop k).Pairwise (fun a b => ltE a b = true) := by
  have hd : ∀ y, y ∈ O.drop k → ltE e y = true := by
    intro y hy
    obtain ⟨i, hi⟩ := List.getElem?_of_mem hy
    rw [List.getElem?_drop] at hi
    rcases Nat.eq_zero_or_pos i with h0 | h0
    · subst h0; exact h2 y hi
    · have hl := (List.getElem?_eq_some_iff.1 hi).1
      obtain ⟨x, hx⟩ : ∃ x, O[k]? = some x := ⟨_, List.getElem?_eq_getElem (by omega)⟩
      have hxy : ltE x y = true := by
        have := List.pairwise_iff_getElem.1 hp k (k + i) (by omega) hl (by omega)
        rw [(List.getElem?_eq_some_iff.1 hi).2, (List.getElem?_eq_some_iff.1 hx).2] at this
        exact this
      exact ltE_trans' (h2 x hx) hxy
  have hs : (O.take k ++ O.drop k).Pairwise (fun a b => ltE a b = true) := by rw [List.take_append_drop]; exact hp
  obtain ⟨p1, p2, p3⟩ := List.pairwise_append.1 hs
  rw [List.append_assoc]
  refine List.pairwise_append.2 ⟨p1, ?_, fun a ha b hb => ?_⟩
  · exact List.pairwise_cons.2 ⟨fun y hy => hd y hy, p2⟩
  · rcases List.mem_cons.1 hb with rfl | hb
    · exact h1 a ha
    · exact p3 a ha b hb
theorem ins_mem {O : List E3} {e x : E3} {k : Nat} : x ∈ O.take k ++ [e] ++ O.drop k ↔ x ∈ O ∨ x = e := by
  have h : x ∈ O ↔ x ∈ O.take k ∨ x ∈ O.drop k := by rw [← List.mem_append, List.take_append_drop]
  simp only [List.mem_append, List.mem_singleton]
  rw [h]
  constructor
  · rintro ((h | h) | h)
    · exact .inl (.inl h)
    · exact .inr h
    · exact .inl (.inr h)
  · rintro ((h | h) | h)
    · exact .inl (.inl h)
    · exact .inr h
    · exact .inl (.inr h)
theorem mkE_put {es O : List E3} {e : E3} {i k : Nat} (hO : mkE (es.take i) = O) (he : es[i]? = some e) (h1 : ∀ x, x ∈ O.take k → ltE x e = true) (h2 : ∀ x, O[k]? = some x → ltE e x = true) :
    mkE (es.take (i + 1)) = O.take k ++ [e] ++ O.drop k := by
  subst hO
  refine asc_eq (mkE_pw _) (ins_pw (mkE_pw _) h1 h2) (fun x => ?_)
  rw [ins_mem, mkE_mem, mkE_mem, List.take_add_one, he, List.mem_append]
  simp
theorem mkE_skip {es O : List E3} {e : E3} {i k : Nat} (hO : mkE (es.take i) = O) (he : es[i]? = some e) (hx : O[k]? = some e) : mkE (es.take (i + 1)) = O := by
  subst hO
  refine asc_eq (mkE_pw _) (mkE_pw _) (fun x => ?_)
  have hm : e ∈ es.take i := mkE_mem.1 (List.mem_of_getElem? hx)
  rw [mkE_mem, mkE_mem, List.take_add_one, he, List.mem_append]
  constructor
  · rintro (h | h)
    · exact h
    · simp at h; subst h; exact hm
  · exact fun h => .inl h
theorem mem_take_succ {O : List E3} {y e : E3} {k : Nat} (hy : O[k]? = some y) (hlt : ltE y e = true) (h : ∀ x, x ∈ O.take k → ltE x e = true) : ∀ x, x ∈ O.take (k + 1) → ltE x e = true := by
  intro x hx
  rw [List.take_add_one, hy, List.mem_append] at hx
  rcases hx with hx | hx
  · exact h x hx
  · simp at hx; subst hx; exact hlt
/-! ### Parts of a row -/
theorem rd_take {W : World} {a : Option Addr} {n c k c' : Nat} {es : List E3} (h : EdgesRd W (.slice a n c) es) (hk : k ≤ es.length) : EdgesRd W (.slice a k c') (es.take k) := by
  obtain ⟨a1, c1, h1, h2⟩ := h
  injection h1 with e1 e2 e3
  subst e1
  refine ⟨a, c', by rw [List.length_take, Nat.min_eq_left hk], fun i e he => ?_⟩
  have hi := (List.getElem?_eq_some_iff.1 he).1
  rw [List.length_take] at hi
  rw [List.getElem?_take_of_lt (by omega)] at he
  exact h2 i e he
theorem rd_drop {W : World} {b o n c k m c' : Nat} {es : List E3} (h : EdgesRd W (.slice (some ⟨b, o, none⟩) n c) es) (hm : k + m = es.length) : EdgesRd W (.slice (some ⟨b, o + k * 3, none⟩) m c') (es.drop k) := by
  obtain ⟨a1, c1, h1, h2⟩ := h
  injection h1 with e1 e2 e3
  subst e1
  refine ⟨_, c', by rw [List.length_drop]; congr; omega, fun i e he => ?_⟩
  rw [List.getElem?_drop] at he
  obtain ⟨b2, o2, e4, z1, z2, z3⟩ := h2 (k + i) e he
  injection e4 with e4
  injection e4 with e4 e5
  subst e4
  subst e5
  rw [show o + (k + i) * 3 = o + k * 3 + i * 3 by omega] at z1 z2 z3
  exact ⟨_, _, rfl, z1, z2, z3⟩
theorem rd_none (W : World) (a : Option Addr) (c : Nat) : EdgesRd W (.slice a 0 c) [] := ⟨a, c, rfl, fun i e he => by simp at he⟩
/-! ### append in a drawn region -/
theorem src_cellsU {W : World} {b off : Nat} {es : List E3} (h : ∀ (i : Nat) (e : E3), es[i]? = some e →
    W.cell? ⟨b, off + i * 3, none⟩ = some (.int .i64 e.1) ∧ W.cell? ⟨b, off + i * 3 + 1, none⟩ = some (.int .i64 e.2.1) ∧ W.cell? ⟨b, off + i * 3 + 2, none⟩ = some (.int .i64 e.2.2)) :
    ∀ (j : Nat) (u : Value), (ecl es)[j]? = some u → W.cell? ((⟨b, off, none⟩ : Addr).add j) = some u := by
  intro j u hj
  have hjl := (List.getElem?_eq_some_iff.1 hj).1
  rw [ecl_len] at hjl
  obtain ⟨i, hi⟩ : ∃ i, j / 3 = i := ⟨_, rfl⟩
  obtain ⟨d, hd⟩ : ∃ d, j % 3 = d := ⟨_, rfl⟩
  have hil : i < es.length := by omega
  have he := List.getElem?_eq_getElem hil
  obtain ⟨x1, x2, x3⟩ := ecl_at he
  obtain ⟨y1, y2, y3⟩ := h i _ he
  have ha : ((⟨b, off, none⟩ : Addr).add j) = ⟨b, off + j, none⟩ := by simp [Addr.add]
  rw [ha]
  rcases (show d = 0 ∨ d = 1 ∨ d = 2 by omega) with rfl | rfl | rfl
  · obtain rfl : j = i * 3 := by omega
    rw [x1] at hj; injection hj with hj; subst hj; exact y1
  · obtain rfl : j = i * 3 + 1 := by omega
    rw [x2] at hj; injection hj with hj; subst hj; rw [← Nat.add_assoc]; exact y2
  · obtain rfl : j = i * 3 + 2 := by omega
    rw [x3] at hj; injection hj with hj; subst hj; rw [← Nat.add_assoc]; exact y3
theorem ecl_oneU {es : List E3} : ∀ v ∈ ecl es, v.oneCell' = true := by
  intro v hv
  unfold ecl at hv
  obtain ⟨e, -, h⟩ := List.mem_flatMap.1 hv
  simp [encE] at h
  rcases h with rfl | rfl | rfl <;> rfl
theorem ecl_appendU (es fs : List E3) : ecl (es ++ fs) = ecl es ++ ecl fs := by unfold ecl; rw [List.flatMap_append]
theorem run_append_nilE {w : World} {B : Nat} {v : Value} {es : List E3} (ty : TypeId) (hown : EdgesAt w B v es) (c : Nat) : (Builtin.append_ #[22, 22] ty #[v, .slice none 0 c]).run Try.prog w = .ok v w := by
  obtain ⟨i0, hi, hz0, hz1, hz2⟩ := info_parts Try.infoEdge
  unfold EdgesAt at hown
  rcases hown.2 with ⟨rfl, -⟩ | ⟨g, cap, cur, rfl, _, _, hnc, _⟩
  · simp [Builtin.append_, run_underlying Try.underlying22, sizeOf, typeInfo, hi, Builtin.lenOf, Builtin.firstCells]
  · simp [Builtin.append_, run_underlying Try.underlying22, sizeOf, typeInfo, hi, Builtin.lenOf, Builtin.firstCells, hnc, storeCells]
theorem run_appendE {w : World} {B : Nat} {v : Value} {es fs : List E3} (ty : TypeId) (hown : EdgesAt w B v es) (A : Option Addr) (m c : Nat) (hsrc : EdgesRd w (.slice A m c) fs) (h63 : es.length + fs.length ≤ 100000) (hbase : B ≤ w.heap.size) :
    ∃ v' w', (Builtin.append_ #[22, 22] ty #[v, .slice A m c]).run Try.prog w = .ok v' w' ∧ EdgesAt w' B v' (es ++ fs) ∧ w.grownBy w' v.ownBlock ∧ (v'.ownBlock = v.ownBlock ∨ v'.ownBlock = some w.heap.size) := by
  obtain ⟨i0, hi, hz0, hz1, hz2⟩ := info_parts Try.infoEdge
  obtain ⟨a1, c1, h1, h2⟩ := hsrc
  injection h1 with e1 e2 e3
  subst e1
  subst e2
  subst e3
  rcases A with _ | ad
  · have h0 : fs = [] := by
      rcases fs with _ | ⟨f, r⟩
      · rfl
      · obtain ⟨b, o, h3, _⟩ := h2 0 f rfl
        cases h3
    subst h0
    exact ⟨v, w, run_append_nilE ty hown c, by rw [List.append_nil]; exact hown, World.grownBy.refl w _, .inl rfl⟩
  · have hcells : ∀ j u, (ecl fs)[j]? = some u → w.cell? (ad.add j) = some u := by
      intro j u hu
      have hjl := (List.getElem?_eq_some_iff.1 hu).1
      rw [ecl_len] at hjl
      obtain ⟨b, o, e4, -⟩ := h2 0 _ (List.getElem?_eq_getElem (show 0 < fs.length by omega))
      have e4 : ad = _ := Option.some.inj e4
      subst e4
      refine src_cellsU (es := fs) (fun i e he => ?_) j u hu
      obtain ⟨b2, o2, e5, z⟩ := h2 i e he
      have e5 := Option.some.inj e5
      injection e5 with e5 e6
      subst e5
      subst e6
      exact z
    have hown' := hown
    unfold EdgesAt at hown'
    obtain ⟨v', w', hrun, h3, h4, _, h5⟩ := run_append_own_at (P := Try.prog) w B 22 ty 42 i0 (.agg #[.int .i64 0, .int .i64 0, .int .i64 0]) 3 24 Try.underlying22 hi hz0 hz1 hz2 rfl (by decide) v es.length (ecl es) hown' ad fs.length c (ecl fs) (ecl_len fs) hcells ecl_oneU (by unfold maxLen; omega) (by omega) hbase
    refine ⟨v', w', hrun, ?_, h4, h5⟩
    unfold EdgesAt
    rw [List.length_append, ecl_appendU]
    exact h3
theorem step_appE {w : World} {ops : Array Oper} {o : Oper} {a : Act} {K : Act → World → Prop} {Q : Exit → Act → World → Prop} {E : Prop} (hgd : o.guard = none) (s x : Operand)
    (ho : o.op = .call { callee := .builtin .append, args := #[s, x], argTypes := #[22, 22] })
    {B : Nat} {v : Value} {es fs : List E3} (hs : a.eval s = v) (hown : EdgesAt w B v es) (A : Option Addr) (m c : Nat) (hx : a.eval x = .slice A m c) (hsrc : EdgesRd w (.slice A m c) fs) (h63 : es.length + fs.length ≤ 100000) (hbase : B ≤ w.heap.size)
    (h : ∀ v' w', EdgesAt w' B v' (es ++ fs) → w.grownBy w' v.ownBlock → (v'.ownBlock = v.ownBlock ∨ v'.ownBlock = some w.heap.size) → K (a.put o.dst v') w') :
    if Region.wanted o (yielded ops a.tmps) = true then Oper.wp Try.prog o a w K Q else E := by
  have hw : Region.wanted o (yielded ops a.tmps) = true := by simp [Region.wanted, hgd]
  rw [if_pos hw]
  obtain ⟨v', w', hrun, h2, h3, h4⟩ := run_appendE (w := w) o.type hown A m c hsrc h63 hbase
  unfold Oper.wp execOp
  simp only [ho, resolve, invoke, builtin, Sem.run_bind, Sem.run_pure, Result.andThen_ok, List.map_toArray, List.map_cons, List.map_nil, hs, hx, hrun]
  exact h v' w' h2 h3 h4
/-! ### What a drawn region with appends keeps -/
theorem ff {L : Array Bool} {i j : Nat} (h : i ≠ j) (hf : (L.setIfInBounds i true).getD j false = false) : L.getD j false = false := by
  simp only [Array.getD_eq_getD_getElem?, Array.getElem?_setIfInBounds_ne h] at hf ⊢
  exact hf
theorem fx {L : Array Bool} {i : Nat} (h : i < L.size) : (L.setIfInBounds i true).getD i false = true := by
  simp [Array.getD_eq_getD_getElem?, h]
/-- A row of one edge, apart from a row. -/
def OneE (W : World) (H : Nat) (u : Value) (e : E3) : Prop := ∃ p, u = .slice (some ⟨p, 0, none⟩) 1 1 ∧ Box3 W p e ∧ H ≤ p
theorem OneE.keep {W W' : World} {H : Nat} {u : Value} {e : E3} (h : OneE W H u e) (hb : Below W.heap.size W W') : OneE W' H u e := by
  obtain ⟨p, h1, h2, h3⟩ := h
  exact ⟨p, h1, h2.keep hb, h3⟩
theorem OneE.rd {W : World} {H : Nat} {u : Value} {e : E3} (h : OneE W H u e) : EdgesRd W u [e] := by
  obtain ⟨p, rfl, h2, -⟩ := h
  refine ⟨_, 1, rfl, fun i x hx => ?_⟩
  rcases i with _ | i
  · injection hx with hx
    subst hx
    exact ⟨p, 0, rfl, by simpa using h2.1, by simpa using h2.2.1, by simpa using h2.2.2.1⟩
  · simp at hx
theorem OneE.new {W : World} {H : Nat} {a b c : Int} {t : TypeId} (hb : H ≤ W.heap.size) : OneE (W.alloc (.cells #[.int .i64 a, .int .i64 b, .int .i64 c] t)) H (.slice (some ⟨W.heap.size, 0, none⟩) 1 1) (a, b, c) := ⟨_, rfl, Box3.new _ _ _ _ _, hb⟩
theorem OneE.lt {W : World} {H : Nat} {u : Value} {e : E3} (h : OneE W H u e) {p : Nat} (hp : u.ownBlock = some p) : p < W.heap.size := by
  obtain ⟨q, rfl, h2, -⟩ := h
  injection hp with hp
  subst hp
  exact h2.lt
theorem Box3.grown {W W' : World} {p : Nat} {e : E3} {row : Option Nat} (h : Box3 W p e) (hg : W.grownBy W' row) (hne : some p ≠ row) : Box3 W' p e := by
  have hb := hg.block p h.lt hne
  obtain ⟨h1, h2, h3, h4, h5, h6⟩ := h
  exact ⟨(World.cell?_of_block hb).trans h1, (World.cell?_of_block hb).trans h2, (World.cell?_of_block hb).trans h3, (World.frozen?_of_block hb).trans h4, (World.frozen?_of_block hb).trans h5, (World.frozen?_of_block hb).trans h6⟩
theorem edges_none {W : World} {H : Nat} {t : TypeId} (hb : H ≤ W.heap.size) (ht : t = 42) : EdgesAt (W.alloc (.cells #[] t)) H (.slice (some ⟨W.heap.size, 0, none⟩) 0 0) [] := by
  subst ht
  exact World.ownsRow_made W #[] 0 hb (by unfold maxLen; omega) rfl
/-- The row of one edge lies apart from v's. -/
def Ap (u v : Value) : Prop := u.ownBlock ≠ v.ownBlock
theorem OneE.grown {W W' : World} {H : Nat} {u v : Value} {e : E3} (h : OneE W H u e) (hg : W.grownBy W' v.ownBlock) (ha : Ap u v) : OneE W' H u e := by
  obtain ⟨p, rfl, h2, h3⟩ := h
  exact ⟨p, rfl, h2.grown hg ha, h3⟩
theorem ap_new {W : World} {H : Nat} {v : Value} {es : List E3} {n c : Nat} (h : EdgesAt W H v es) : Ap (.slice (some ⟨W.heap.size, 0, none⟩) n c) v := fun he => by
  have := (h.lt W.heap.size he.symm).2
  omega
theorem OneE.ap {W : World} {H : Nat} {u v v' : Value} {e : E3} (h : OneE W H u e) (ha : Ap u v) (h4 : v'.ownBlock = v.ownBlock ∨ v'.ownBlock = some W.heap.size) : Ap u v' := by
  rcases h4 with h4 | h4
  · unfold Ap; rw [h4]; exact ha
  · intro he
    have := h.lt (p := W.heap.size) (he.trans h4)
    omega
theorem OneE.apart {W : World} {H : Nat} {u : Value} {e : E3} (h : OneE W H u e) (n c : Nat) : Ap u (.slice (some ⟨W.heap.size, 0, none⟩) n c) := fun he => by
  have := h.lt (p := W.heap.size) he
  omega
end Go.Proofs.Ytbgfllohedhmaaa
