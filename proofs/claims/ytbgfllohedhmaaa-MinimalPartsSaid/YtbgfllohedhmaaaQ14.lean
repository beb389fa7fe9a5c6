/- What minimal.split returns: classes that a label divides. Conditions: the machine and the classes can be read; at most 64 states and 256 labels. What minimal.classesOf returns: the classes of the states of a machine. Conditions: the machine can be read; at most 64 states, 1 to 256 labels. What minimal.checkDeterministic and Partition return. Condition: the edges can be read. -/
import Derived.Test.YtbgfllohedhmaaaQ12
import Derived.Maps.OwnSet
import Derived.Maps.OwnOps
import Derived.WideKeyPair
import Derived.Test.YtbgfllohedhmaaaQ09

namespace Go.Proofs.Ytbgfllohedhmaaa
open Go.RowKit Go.Maps
set_option linter.unusedSimpArgs false
set_option linter.unusedVariables false

theorem Try.arrP : WideMaps.ArrKey Try.prog 54 3 2 := ⟨Try.underlying54, by kernel_rfl, by kernel_rfl, by kernel_rfl⟩
theorem Try.keyLawP : Keyed Try.prog 54 := Keyed.of_law Try.arrP.law
abbrev prV (x y : Nat) : Value := .agg #[.int .i64 (x : Int), .int .i64 (y : Int)]
abbrev kyP (p : Nat × Nat) : Lit := .string (keyBytes [.int .i64 (p.1 : Int), .int .i64 (p.2 : Int)])
def SmP (p : Nat × Nat) : Prop := p.1 ≤ 100000 ∧ p.2 ≤ 100000
theorem wfN {x : Nat} (h : x ≤ 100000) : (Lit.int .i64 (x : Int)).wf = true := by
  unfold Lit.wf IntKind.min IntKind.max
  simp [IntKind.signed, IntKind.bits]
  omega
theorem kyP_of {p : Nat × Nat} (h : SmP p) : keyOf Try.prog 54 (prV p.1 p.2) = some (kyP p) :=
  WideMaps.keyOf_pair Try.arrP Try.underlying3 ⟨Try.prog.types.size - 1, (Nat.sub_add_cancel (of_decide_eq_true (by kernel_rfl))).symm⟩ (wfN h.1) (wfN h.2)
theorem kyP_ne {p q : Nat × Nat} (hp : SmP p) (hq : SmP q) (h : p ≠ q) : kyP p ≠ kyP q := fun e => by
  have h1 := kyP_of hp
  rw [e] at h1
  have h2 := Try.keyLawP.inj h1 (kyP_of hq)
  injection h2 with h2
  simp only [Array.mk.injEq, List.cons.injEq, Value.int.injEq, and_true, true_and] at h2
  refine h (Prod.ext ?_ ?_)
  · have := h2.1; omega
  · have := h2.2; omega
abbrev MapH : Type := DataW Unit
def ixD (p : MapH × Nat) (x : Nat × Nat) : MapH × Nat := (p.1.put (kyP x) (.lit (.int .i64 (p.2 : Int))), p.2 + 1)
/-- The map that tells of each pair its number. -/
def mapP (K : List (Nat × Nat)) : MapH := (K.foldl ixD (.map [], 0)).1
theorem mapP_len : ∀ (K : List (Nat × Nat)) (p : MapH × Nat), (K.foldl ixD p).2 = p.2 + K.length
  | [], p => rfl
  | S :: r, p => by rw [List.foldl_cons, mapP_len r, List.length_cons]; show p.2 + 1 + r.length = _; omega
theorem mapP_snoc (K : List (Nat × Nat)) (x : Nat × Nat) : mapP (K ++ [x]) = (mapP K).put (kyP x) (.lit (.int .i64 ((K.length : Nat) : Int))) := by
  unfold mapP
  rw [List.foldl_append]
  show ((K.foldl ixD (.map [], 0)).1.put _ _) = _
  rw [mapP_len K (.map [], 0), Nat.zero_add]
theorem snocP {P : List (Nat × Nat) → Prop} (h0 : P []) (h1 : ∀ l x, P l → P (l ++ [x])) : ∀ l, P l := by
  intro l
  have : ∀ n (l : List (Nat × Nat)), l.length = n → P l := by
    intro n
    induction n with
    | zero => intro l hl; rw [List.length_eq_zero_iff.1 hl]; exact h0
    | succ n ih =>
      intro l hl
      have hne : l ≠ [] := fun e => by rw [e] at hl; cases hl
      rw [← List.dropLast_concat_getLast hne]
      exact h1 _ _ (ih _ (by rw [List.length_dropLast]; omega))
  exact this _ l rfl
theorem kyP_key (p : Nat × Nat) : WideAt.IsKeyLit (kyP p) := trivial
theorem mapP_tidy : ∀ (K : List (Nat × Nat)), Tidy (mapP K) :=
  snocP tidy_empty (fun l x ih => by rw [mapP_snoc]; exact ih.put (kyP_key _) _)
theorem mapP_has {p : Nat × Nat} (hp : SmP p) : ∀ (K : List (Nat × Nat)), (∀ x ∈ K, SmP x) → Maps.has (mapP K) (kyP p) = decide (p ∈ K) :=
  snocP (fun _ => by simp [mapP, Maps.has]) (fun l x ih hs => by
    rw [mapP_snoc]
    by_cases h : p = x
    · subst h
      rw [has_put_same (mapP_tidy l).isMap (kyP_key _)]; simp
    · rw [has_put_other (kyP_ne hp (hs x (by simp)) h), ih (fun y hy => hs y (List.mem_append_left _ hy))]; simp [h])
theorem mapP_at {p : Nat × Nat} (hp : SmP p) (z : MapH) : ∀ (K : List (Nat × Nat)), (∀ x ∈ K, SmP x) → K.Nodup → p ∈ K → (mapP K).atKey (kyP p) z = .lit (.int .i64 ((ixA K p : Nat) : Int)) :=
  snocP (fun _ _ h => by cases h) (fun l x ih hs hn h => by
    rw [mapP_snoc]
    rw [List.nodup_append] at hn
    by_cases e : p = x
    · subst e
      have hx : p ∉ l := fun h2 => hn.2.2 p h2 p (by simp) rfl
      rw [atKey_put_same (mapP_tidy l).isMap (kyP_key _), ixA_new hx]
    · have hl : p ∈ l := by
        rw [List.mem_append, List.mem_singleton] at h
        exact h.resolve_right e
      rw [atKey_put_other (kyP_ne hp (hs x (by simp)) e), ih (fun y hy => hs y (List.mem_append_left _ hy)) hn.1 hl, ixA_old hl])
theorem mapP_size : ∀ (K : List (Nat × Nat)), (∀ x ∈ K, SmP x) → K.Nodup → Maps.size (mapP K) = K.length :=
  snocP (fun _ _ => rfl) (fun l x ih hs hn => by
    rw [mapP_snoc, size_put (mapP_tidy l), mapP_has (hs x (by simp)) l (fun y hy => hs y (List.mem_append_left _ hy))]
    rw [List.nodup_append] at hn
    have hx : x ∉ l := fun h2 => hn.2.2 x h2 x (by simp) rfl
    rw [decide_eq_false hx, ih (fun y hy => hs y (List.mem_append_left _ hy)) hn.1, List.length_append]; rfl)
theorem firsts_nd {α : Type} [DecidableEq α] (l : List α) : (firsts l).Nodup := by
  refine snocI (P := fun l => (firsts l).Nodup) ?_ (fun w x ih => ?_) l
  · unfold firsts; exact List.nodup_nil
  · rw [firsts_snoc]
    split
    · exact ih
    · rename_i h
      rw [List.nodup_append]
      exact ⟨ih, by simp, fun y hy z hz => by rw [List.mem_singleton] at hz; subst hz; exact fun e => h (e ▸ hy)⟩
theorem Try.zeroIH (w : World) : (zeroValue 3).run Try.prog w = .ok (.int .i64 0) w := by kernel_rfl
theorem map_not_cellsH {W : World} {b n : Nat} {D : MapH} {R : Value → Option (MapH × List MemPlace)} {k : TypeId} (h : W.ownsMap Try.prog k R b n D) {c : Array Value} {t : TypeId} {fr : Nat × Nat} : W.heap[b]? ≠ some (.cells c t fr) := by
  obtain ⟨es, clock, hb, _⟩ := h
  rw [hb]; simp
theorem irow_ne {W : World} {b n R N : Nat} {D : MapH} {Q : Value → Option (MapH × List MemPlace)} {k : TypeId} {f : Nat → Int} (h : W.ownsMap Try.prog k Q b n D) (hr : IRow W R N f) : R ≠ b := fun e => by
  subst e
  obtain ⟨c, hc, -, -⟩ := hr
  exact map_not_cellsH h hc
theorem natR {c : List Nat} {i : Nat} (h : i < c.length) : (labsI c)[i]? = some ((c.getD i 0 : Nat) : Int) := by
  unfold labsI
  rw [List.getElem?_map, getD_opt h]; rfl
theorem labsI_lenH (w : List Nat) : (labsI w).length = w.length := by unfold labsI; rw [List.length_map]
set_option maxRecDepth 100000 in
set_option maxHeartbeats 6400000 in
theorem split_any (m : Nat → Nat → Nat) (n La l : Nat) (c : List Nat) (vm vc : Value) (w : World) (hrm : RowsRd w vm (mRows m n La)) (hrc : IntsRd w vc (labsI c)) (hc : c.length = n + 1) (hcs : ∀ x ∈ c, x ≤ n + 1) (hl : l < La) (hm : ∀ s l, s < n + 1 → m s l < n + 1) (hn : n ≤ 64) (hL : La ≤ 256) :
    Calls Try.prog 30 #[vm, vc, .int .i64 (l : Int)] w fun e w' => ∃ R, e = .returned (.slice (some ⟨R, 0, none⟩) (n + 1) (n + 1)) ∧ w.heap.size ≤ R ∧ IntsRd w' (.slice (some ⟨R, 0, none⟩) (n + 1) (n + 1)) (labsI (splitC m c l)) ∧ Below w.heap.size w w' := by
  have hmk := make_intsH (n + 1) (by omega)
  have hmm := @run_makeMap Try.prog
  have HRM := Lib.hid hrm
  have HRC := Lib.hid hrc
  have HM := Lib.hid hm
  obtain ⟨am, cm, hvm⟩ := hrm.form
  rw [mRows_len] at hvm
  subst hvm
  obtain ⟨ac, cc, hvc⟩ := hrc.form
  rw [labsI_lenH, hc] at hvc
  subst hvc
  obtain ⟨N, hN⟩ : ∃ N, n + 1 = N := ⟨_, rfl⟩
  rw [hN] at hmk hc hcs HM HRM HRC ⊢
  have HNN := Lib.hid hN
  have hN2 : N ≤ 65 := by omega
  have HCS := Lib.hid hcs
  have HC := Lib.hid hc
  have hgetc : ∀ i, i < N → c.getD i 0 ≤ N := fun i hi => by
    rw [List.getD_eq_getElem?_getD, List.getElem?_eq_getElem (by omega)]
    exact hcs _ (List.getElem_mem _)
  have HGC := Lib.hid hgetc
  obtain ⟨R, hR⟩ : ∃ R, w.heap.size = R := ⟨_, rfl⟩
  have R0 := Lib.hid ((IRow.made w N).keep (below1 (w.alloc (.cells (madeCells #[.int .i64 0] N) 3)) (.map #[] 0)))
  have M0 := Lib.hid (World.ownsMap_made (H := Unit) (w.alloc (.cells (madeCells #[.int .i64 0] N) 3)) Try.prog 54 (plainElem Try.prog 3))
  have B0 := Lib.hid (below_more (below1 w (.cells (madeCells #[.int .i64 0] N) 3)) (Nat.le_refl _) (below1 (w.alloc (.cells (madeCells #[.int .i64 0] N) 3)) (.map #[] 0)))
  rw [World.size_alloc, hR] at M0
  rw [hR] at R0
  have HRR := Lib.hid hR
  clear hrm hrc hm hN hcs hc hgetc
  go_enter Try.func30, Try.ntmps30
  go_wp2_with fail
  clear hmk hmm hR
  generalize ((w.alloc (.cells (madeCells #[.int .i64 0] N) 3)).alloc (.map #[] 0)) = X at *
  go_loopg [20] N (fun q s20 wx => ∃ i : Nat, i + q = N ∧ s20 = .int .i64 (i : Int) ∧ Hid (IRow wx R N (fun j => if j < i then (((splitC m c l).getD j 0 : Nat) : Int) else 0)) ∧ Hid (wx.ownsMap Try.prog 54 (plainElem Try.prog 3) (R + 1) i (mapP (firsts ((pairsC m c l).take i)))) ∧ Hid (Below w.heap.size w wx))
  case atStart => exact ⟨0, by omega, rfl, Lib.hid (R0.out.congr (fun j _ => by rw [if_neg (by omega)])), M0, B0⟩
  case round =>
    clear R0 M0 B0
    obtain ⟨i, hin, rfl, HR, HP, HB⟩ := hrel
    rcases gk with _ | q
    · obtain rfl : i = N := by omega
      have j0 : ¬ ((i : Int) < (i : Int)) := by omega
      have hl2 : (splitC m c l).length = i := by rw [splitC_len, HC.out]
      have HI := Lib.hid (show IntsRd wr (.slice (some ⟨R, 0, none⟩) i i) (labsI (splitC m c l)) by
        refine ⟨_, _, by rw [labsI_lenH, hl2], fun j x hx => ⟨R, 0, rfl, ?_⟩⟩
        have hj : j < i := by
          have := (List.getElem?_eq_some_iff.1 hx).1
          rwa [labsI_lenH, hl2] at this
        rw [natR (by omega)] at hx
        injection hx with hx
        rw [Nat.zero_add, HR.out.cell hj, if_pos hj, ← hx])
      clear hl2
      go_wp2_with fail
      go_ret
      exact ⟨R, rfl, by rw [HRR.out]; exact Nat.le_refl _, HI.out, HB.out⟩
    · obtain ⟨x, hx⟩ : ∃ x, c.getD i 0 = x := ⟨_, rfl⟩
      obtain ⟨t, ht⟩ : ∃ t, m i l = t := ⟨_, rfl⟩
      obtain ⟨y, hy⟩ : ∃ y, c.getD t 0 = y := ⟨_, rfl⟩
      have hiN : i < N := by omega
      have htN : t < N := by rw [← ht]; exact HM.out i l hiN
      have hxs : x ≤ N := by rw [← hx]; exact HGC.out i hiN
      have hys : y ≤ N := by rw [← hy]; exact HGC.out t htN
      have hs : SmP (x, y) := ⟨by show x ≤ 100000; omega, by show y ≤ 100000; omega⟩
      have hpa : (pairsC m c l)[i]? = some (x, y) := by rw [pairsC_at (by rw [HC.out]; exact hiN), hx, ht, hy]
      obtain ⟨K, hK⟩ : ∃ K, firsts ((pairsC m c l).take i) = K := ⟨_, rfl⟩
      have hKs : ∀ z ∈ K, SmP z := fun z hz => by
        rw [← hK, firsts_mem, mem_take_iff] at hz
        obtain ⟨j, hj, e⟩ := hz
        rw [pairsC_at (by rw [HC.out]; omega)] at e
        injection e with e
        subst e
        have h1 := HGC.out j (by omega)
        have h2 := HGC.out (m j l) (HM.out j l (by omega))
        exact ⟨by show c.getD j 0 ≤ 100000; omega, by show c.getD (m j l) 0 ≤ 100000; omega⟩
      have hKn : K.Nodup := by rw [← hK]; exact firsts_nd _
      have hgs : ∀ k, ixA (firsts (pairsC m c l)) (x, y) = k → (splitC m c l).getD i 0 = k := fun k hk => by
        have h1 : (canon (pairsC m c l))[i]? = some (ixA (firsts (pairsC m c l)) (x, y)) := canon_at hpa
        rw [hk] at h1
        have h2 := getD_opt (c := splitC m c l) (s := i) (by rw [splitC_len, HC.out]; exact hiN)
        have h3 : (splitC m c l)[i]? = some k := h1
        rw [h2] at h3
        injection h3
      have hgT := firsts_take hpa
      have hold : (x, y) ∈ firsts ((pairsC m c l).take i) → ixA (firsts (pairsC m c l)) (x, y) = ixA (firsts ((pairsC m c l).take i)) (x, y) := canon_old hpa
      have hnew : (x, y) ∉ firsts ((pairsC m c l).take i) → ixA (firsts (pairsC m c l)) (x, y) = (firsts ((pairsC m c l).take i)).length := canon_new hpa
      rw [hK] at HP hgT hold hnew
      have HPO := Lib.hid HP.out
      have hmp := HP.out.alloc (.cells #[.int .i64 (x : Int), .int .i64 (y : Int)] 54)
      have hkey := kyP_of hs
      have hlt := HR.out.lt
      have f4 := (HR.out.keep (below1 wr (.cells #[.int .i64 (x : Int), .int .i64 (y : Int)] 54))).frozen i
      have c4 := (HR.out.keep (below1 wr (.cells #[.int .i64 (x : Int), .int .i64 (y : Int)] 54))).cell hiN
      have HR1 := Lib.hid (HR.out.keep (below1 wr (.cells #[.int .i64 (x : Int), .int .i64 (y : Int)] 54)))
      have HB1 := Lib.hid (below_more HB.out (Nat.le_refl _) (below1 wr (.cells #[.int .i64 (x : Int), .int .i64 (y : Int)] 54)))
      obtain ⟨b1, o1, k1, hv1, p1⟩ := (HRC.out.keep HB.out).at (natR (i := i) (by rw [HC.out]; exact hiN))
      rw [labsI_lenH, HC.out] at hv1
      injection hv1 with e1 e2 e3
      subst e1
      obtain ⟨b3, o3, k3, hv3, p3⟩ := (HRC.out.keep HB.out).at (natR (i := t) (by rw [HC.out]; exact htN))
      injection hv3 with e7 e8 e9
      injection e7 with e7
      injection e7 with e7 e10
      subst e7
      subst e10
      obtain ⟨b2, o2, k2, u2, hv2, p2, r2⟩ := (HRM.out.keep HB.out).at (mRows_at (m := m) (La := La) (j := i) (by rw [HNN.out]; exact hiN))
      injection hv2 with e4 e5 e6
      subst e4
      obtain ⟨a7, c7, hu7⟩ := r2.form
      rw [mRow_len] at hu7
      subst hu7
      obtain ⟨b8, o8, k8, hv8, p8⟩ := r2.at (mRow_at hl)
      injection hv8 with e11 e12 e13
      subst e11
      rw [ht] at p8
      rw [hx] at p1
      rw [hy] at p3
      have j1 : (i : Int) < (N : Int) := by omega
      have j2 : (t : Int) < (N : Int) := by omega
      have j3 : (l : Int) < (La : Int) := by omega
      have hz := HRR.out
      have hKK := hK
      clear e2 e3 e5 e6 e8 e9 e12 e13 r2 hx ht hy hK HP hpa
      by_cases hin2 : (x, y) ∈ K
      · have hhas := mapP_has hs K hKs
        rw [decide_eq_true hin2] at hhas
        have HAT := Lib.hid (fun z => mapP_at hs z K hKs hKn hin2)
        have HGS := Lib.hid (hgs _ (hold hin2))
        have HGT := Lib.hid (show firsts ((pairsC m c l).take (i + 1)) = K by rw [hgT, if_pos hin2])
        have HMP := Lib.hid (fun (u : Value) => (HPO.out.setCell (a := ⟨R, i, none⟩) (by show R + 1 ≠ R; omega) u).alloc (.cells #[.int .i64 (x : Int), .int .i64 (y : Int)] 54))
        have HRS := Lib.hid (fun (u : Int) => (HR.out.set i u).keep (below1 _ (.cells #[.int .i64 (x : Int), .int .i64 (y : Int)] 54)))
        have HBS := Lib.hid (fun (u : Value) => below_more (HB.out.setCell (p := ⟨R, i, none⟩) (by show w.heap.size ≤ R; omega) u) (Nat.le_refl _) (below1 _ (.cells #[.int .i64 (x : Int), .int .i64 (y : Int)] 54)))
        clear hgs hold hnew hgT hKs hKn hin2 hs HR1 HB1
        go_wp2_with (at_lookup; refine wpList_lookup_own_ok_int _ rfl _ _ 77 rfl 54 3 .i64 Try.keyLawP Try.underlying77 Try.underlying3 (Try.zeroIH _) (R + 1) i (mapP K) rfl hmp _ _ rfl hkey ?_; intro z hat hwz; rw [hhas])
        have hz2 : z = ((ixA K (x, y) : Nat) : Int) := by
          rw [HAT.out] at hat
          injection hat with hat
          injection hat with _ hat
          exact hat.symm
        go_roundg q
        case measure => omega
        case rel =>
          refine ⟨i + 1, by omega, by go_num, Lib.hid ((HRS.out z).congr (fun j _ => ?_)), Lib.hid (by rw [HGT.out]; exact (HMP.out _).mono (Nat.le_succ _)), Lib.hid (HBS.out _)⟩
          try dsimp only
          by_cases e : j = i
          · subst e
            rw [if_pos rfl, if_pos (by omega), HGS.out]; exact hz2
          · rw [if_neg e]
            by_cases e2 : j < i
            · rw [if_pos e2, if_pos (by omega)]
            · rw [if_neg e2, if_neg (by omega)]
      · have hhas := mapP_has hs K hKs
        rw [decide_eq_false hin2] at hhas
        have HGS := Lib.hid (hgs _ (hnew hin2))
        have HGT := Lib.hid (show firsts ((pairsC m c l).take (i + 1)) = K ++ [(x, y)] by rw [hgT, if_neg hin2])
        have hsize := mapP_size K hKs hKn
        have HSZ := Lib.hid hsize
        have hKl : K.length ≤ i := by
          have h1 := firsts_le ((pairsC m c l).take i)
          rw [hKK] at h1
          rw [List.length_take] at h1
          omega
        obtain ⟨z, hz9⟩ : ∃ z, K.length = z := ⟨_, rfl⟩
        have HKL := Lib.hid hz9
        have hze : (Maps.size (mapP K) : Int) = (z : Int) := by rw [hsize, hz9]
        have hzi : z ≤ i := by omega
        clear hgs hold hnew hgT hKs hKn hin2 hsize hz9 hKl hKK
        go_wp2_with (first
          | (at_lookup; refine wpList_lookup_own_ok_int _ rfl _ _ 77 rfl 54 3 .i64 Try.keyLawP Try.underlying77 Try.underlying3 (Try.zeroIH _) (R + 1) i (mapP K) rfl hmp _ _ rfl hkey ?_; intro z0 hat hwz; rw [hhas])
          | (at_len; refine wpList_len_own _ rfl _ 77 rfl 54 3 Try.underlying77 _ (R + 1) i (mapP K) rfl hmp ?_; rw [hze])
          | (at_mapUpdate; refine wpList_mapUpdate_own _ rfl _ _ _ 77 rfl 54 3 Try.keyLawP Try.underlying77 _ (R + 1) i _ rfl hmp (by unfold maxLen; omega) _ _ _ rfl rfl hkey _ [] (plainElem_int Try.underlying3 (WalkArith.wf_i64 (by omega))) ?_; intro w1 hown1 hgrow1; (have HR5 := Lib.hid (show IRow w1 R N (fun j => if j < i then (((splitC m c l).getD j 0 : Nat) : Int) else 0) from World.rowIs.of_block HR1.out (hgrow1.block R HR1.out.lt (by intro e; injection e with e; omega)))); (have f5 := HR5.out.frozen i); (have c5 := HR5.out.cell hiN)))
        go_roundg q
        case measure => omega
        case rel =>
          refine ⟨i + 1, by omega, by go_num, Lib.hid ((HR5.out.set i (z : Int)).congr (fun j _ => ?_)), Lib.hid ?_, Lib.hid ((HB1.out.grown hgrow1 (by rw [World.size_alloc]; have := HB.out.size; omega) (fun k e => by injection e with e; omega)).setCell (p := ⟨R, i, none⟩) (by show w.heap.size ≤ R; omega) _)⟩
          · try dsimp only
            by_cases e : j = i
            · subst e
              rw [if_pos rfl, if_pos (by omega), HGS.out, HKL.out]
            · rw [if_neg e]
              by_cases e2 : j < i
              · rw [if_pos e2, if_pos (by omega)]
              · rw [if_neg e2, if_neg (by omega)]
          · rw [HGT.out, mapP_snoc, HKL.out]
            exact hown1.setCell (by show R + 1 ≠ R; omega) _
end Go.Proofs.Ytbgfllohedhmaaa

namespace Go.Proofs.Ytbgfllohedhmaaa
open Go.RowKit Go.Maps
set_option linter.unusedSimpArgs false
set_option linter.unusedVariables false

theorem labsI_inj {a b : List Nat} (h : labsI a = labsI b) : a = b := by
  unfold labsI at h
  exact (List.map_inj_right (fun x y e => by omega)).1 h
theorem labsI_take (c : List Nat) (k : Nat) : (labsI c).take k = labsI (c.take k) := by unfold labsI; rw [List.map_take]
theorem ints_pre {W : World} {g : Nat} {N n c : Nat} {l : List Int} (h : IntsRd W (.slice (some ⟨g, 0, none⟩) N c) l) (hn : n ≤ l.length) : IntsRd W (.slice (some ⟨g, 0, none⟩) n c) (l.take n) := by
  obtain ⟨a, c2, hv, h1⟩ := h
  injection hv with e1 e2 e3
  subst e1
  subst e3
  refine ⟨_, _, by rw [List.length_take, Nat.min_eq_left hn], fun i x hx => ?_⟩
  have hi : i < n := by
    have := (List.getElem?_eq_some_iff.1 hx).1
    rw [List.length_take] at this
    omega
  rw [List.getElem?_take_of_lt hi] at hx
  exact h1 i x hx
set_option maxRecDepth 100000 in
set_option maxHeartbeats 6400000 in
theorem classesOf_any (m : Nat → Nat → Nat) (n La : Nat) (am : Option Addr) (cm : Nat) (w : World) (hrm : RowsRd w (.slice am (n + 1) cm) (mRows m n La)) (hm : ∀ s l, s < n + 1 → m s l < n + 1) (hn : n ≤ 64) (hL1 : 1 ≤ La) (hL : La ≤ 256) :
    Calls Try.prog 17 #[.slice am (n + 1) cm] w fun e w' => ∃ g c, e = .returned (.slice (some ⟨g, 0, none⟩) n c) ∧ w.heap.size ≤ g ∧ IntsRd w' (.slice (some ⟨g, 0, none⟩) n c) (labsI (classN m La n)) ∧ Below w.heap.size w w' := by
  have hmk := make_intsH (n + 1) (by omega)
  have HRM := Lib.hid hrm
  obtain ⟨K, hK1, hK2, hK3, hK4⟩ := stopC_get m La n hL1
  have HK2 := Lib.hid hK2
  have HK3 := Lib.hid hK3
  have HK4 := Lib.hid hK4
  have HNO := Lib.hid (fun W => mnone_any am n cm W (by omega))
  have HSP : Hid (∀ W (c : List Nat) (g l : Nat), RowsRd W (.slice am (n + 1) cm) (mRows m n La) → IntsRd W (.slice (some ⟨g, 0, none⟩) (n + 1) (n + 1)) (labsI c) → c.length = n + 1 → (∀ x ∈ c, x ≤ n + 1) → l < La → Calls Try.prog 30 #[.slice am (n + 1) cm, .slice (some ⟨g, 0, none⟩) (n + 1) (n + 1), .int .i64 (l : Int)] W fun e w' => ∃ R, e = .returned (.slice (some ⟨R, 0, none⟩) (n + 1) (n + 1)) ∧ W.heap.size ≤ R ∧ IntsRd w' (.slice (some ⟨R, 0, none⟩) (n + 1) (n + 1)) (labsI (splitC m c l)) ∧ Below W.heap.size W w') :=
    Lib.hid (fun W c g l h1 h2 h3 h4 h5 => split_any m n La l c _ _ W h1 h2 h3 h4 h5 hm hn hL)
  have HEQ : Hid (∀ W u u' (a b : List Nat), IntsRd W u (labsI a) → IntsRd W u' (labsI b) → a.length = n + 1 → b.length = n + 1 → Calls Try.prog 12 #[u, u'] W fun e W' => e = .returned (.bool (decide (a = b))) ∧ Below W.heap.size W W') := Lib.hid (fun W u u' a b h1 h2 h3 h4 => by
    refine (intsEq_any h1 h2 (by rw [labsI_lenH]; omega) (by rw [labsI_lenH]; omega)).mono ?_
    rintro e W' ⟨rfl, h5⟩
    refine ⟨?_, h5⟩
    congr 2
    rw [decide_eq_decide]
    exact ⟨labsI_inj, fun e => by rw [e]⟩)
  have hup : ∀ k j, ((List.range j).foldl (splitC m) (rndC m La (startC n) k)).length = n + 1 ∧ ∀ x ∈ (List.range j).foldl (splitC m) (rndC m La (startC n) k), x ≤ n + 1 := fun k j =>
    ⟨by rw [upC_len, rndC_len, startC_len], upC_le (by rw [rndC_len, startC_len]; exact Nat.le_refl _) (rndC_le k) j⟩
  have HUP := Lib.hid hup
  have hrow := mRows_at (m := m) (La := La) (n := n) (j := n) (Nat.lt_succ_self n)
  have HROW := Lib.hid hrow
  obtain ⟨N, hN⟩ : ∃ N, n + 1 = N := ⟨_, rfl⟩
  rw [hN] at hmk HNO HSP HEQ HUP HRM ⊢
  have HNN := Lib.hid hN
  have hN1 : n < N := by omega
  have hN2 : N ≤ 65 := by omega
  have R0 := Lib.hid ((IRow.made w N).set n 1)
  obtain ⟨R, hR⟩ : ∃ R, w.heap.size = R := ⟨_, rfl⟩
  have c0 := (IRow.made w N).cell hN1
  have f0 := (IRow.made w N).frozen n
  have B0 := Lib.hid (show Below w.heap.size w ((w.alloc (.cells (madeCells #[.int .i64 0] N) 3)).setCell ⟨R, n, none⟩ (.int .i64 1)) from (below1 w (.cells (madeCells #[.int .i64 0] N) 3)).setCell (by show w.heap.size ≤ R; omega) (.int .i64 1))
  clear hrm hN hK1 hK2 hK3 hK4 hup hrow hm
  go_enter Try.func17, Try.ntmps17
  rw [hR] at R0 c0 f0
  go_upto_region 2 with fail
  have HRR := Lib.hid hR
  clear hR hmk
  generalize (w.alloc (.cells (madeCells #[.int .i64 0] N) 3)) = X at *
  go_wp2_with (go_at_call 29; (with_reducible refine (HNO.out _).mono ?_); rintro e W3 ⟨rfl, rfl⟩)
  have I0 := Lib.hid (show IntsRd (W3.setCell ⟨R, n, none⟩ (.int .i64 1)) (.slice (some ⟨R, 0, none⟩) N N) (labsI (startC n)) by
    have hl := startC_len n
    rw [HNN.out] at hl
    refine ⟨_, _, by rw [labsI_lenH, hl], fun j x hx => ⟨R, 0, rfl, ?_⟩⟩
    have hj : j < N := by
      have := (List.getElem?_eq_some_iff.1 hx).1
      rwa [labsI_lenH, hl] at this
    rw [natR (by omega), startC_at (by rw [HNN.out]; exact hj)] at hx
    injection hx with hx
    rw [Nat.zero_add, R0.out.cell hj, ← hx]
    by_cases e : j = n
    · rw [if_pos e, if_pos e]; rfl
    · rw [if_neg e, if_neg e]; rfl)
  clear R0 c0 f0
  generalize (W3.setCell ⟨R, n, none⟩ (.int .i64 1)) = Y at *
  go_loopg [3] K (fun q s3 wx => ∃ (k g : Nat), k + q = K ∧ s3 = .slice (some ⟨g, 0, none⟩) N N ∧ w.heap.size ≤ g ∧ Hid (IntsRd wx (.slice (some ⟨g, 0, none⟩) N N) (labsI (rndC m La (startC n) k))) ∧ Hid (Below w.heap.size w wx))
  case atStart => exact ⟨0, R, by omega, rfl, by rw [HRR.out]; exact Nat.le_refl _, I0, B0⟩
  case round =>
    clear I0 B0
    obtain ⟨k, g, hk, rfl, hwg, HI, HB⟩ := hrel
    obtain ⟨q, rfl⟩ : ∃ q, q = gk := ⟨_, rfl⟩
    obtain ⟨b2, o2, k2, u2, hv2, p2, r2⟩ := (HRM.out.keep HB.out).at HROW.out
    injection hv2 with e4 e5 e6
    subst e4
    obtain ⟨a7, c7, hu7⟩ := r2.form
    rw [mRow_len] at hu7
    subst hu7
    have jn : (n : Int) < (N : Int) := by omega
    clear e5 e6 r2
    go_upto_region 5 with (go_at_call 29; (with_reducible refine (HNO.out _).mono ?_); rintro e W4 ⟨rfl, rfl⟩)
    have HIK := Lib.hid HI.out
    have hu0 := HUP.out k 0
    go_loopg [4, 20] La (fun q2 s4 s20 wx => ∃ (j g2 : Nat), j + q2 = La ∧ s20 = .int .i64 (j : Int) ∧ s4 = .slice (some ⟨g2, 0, none⟩) N N ∧ w.heap.size ≤ g2 ∧ Hid (IntsRd wx (.slice (some ⟨g2, 0, none⟩) N N) (labsI ((List.range j).foldl (splitC m) (rndC m La (startC n) k)))) ∧ Hid (Below W4.heap.size W4 wx))
    case atStart => exact ⟨0, g, by omega, rfl, rfl, hwg, HI, Lib.hid (Below.refl _ _)⟩
    case round =>
      clear p2 HI
      obtain ⟨j, g2, hj, rfl, rfl, hwg2, HJ, HB2⟩ := hrel
      have BW := Lib.hid (HB.out.trans (HB2.out.mono HB.out.size))
      rcases gk with _ | q2
      · obtain rfl : j = La := by omega
        have j0 : ¬ ((j : Int) < (j : Int)) := by omega
        have hu1 := HUP.out k j
        have HEQ2 := Lib.hid (HEQ.out wr _ _ _ _ HJ.out (HIK.out.keep HB2.out) hu1.1 hu0.1)
        by_cases hkK : k = K
        · have d1 : decide ((List.range j).foldl (splitC m) (rndC m j (startC n) k) = rndC m j (startC n) k) = true := decide_eq_true (by rw [hkK]; exact HK2.out)
          rw [d1] at HEQ2
          have HF := Lib.hid (show labsI (classN m j n) = (labsI (rndC m j (startC n) k)).take n by rw [HK4.out, labsI_take, hkK])
          have hlen : (labsI (rndC m j (startC n) k)).length = N := by rw [labsI_lenH]; exact hu0.1
          have hle : (n : Int) ≤ (N : Int) := by omega
          have HLE := Lib.hid hlen
          clear d1 hu0 hu1 HEQ hkK hlen
          go_wp2_with (first
            | (go_at_call 29; (with_reducible refine (HNO.out _).mono ?_); rintro e W6 ⟨rfl, hW6⟩)
            | (go_at_call 12; (with_reducible refine HEQ2.out.mono ?_); rintro e W5 ⟨rfl, b5⟩; (have B5 := Lib.hid (BW.out.trans (b5.mono BW.out.size))); (have I5 := Lib.hid ((HIK.out.keep HB2.out).keep b5)); clear b5))
          go_ret
          refine ⟨_, _, rfl, hwg, ?_, B5.out⟩
          rw [HF.out]
          exact ints_pre I5.out (by rw [HLE.out]; omega)
        · have d1 : decide ((List.range j).foldl (splitC m) (rndC m j (startC n) k) = rndC m j (startC n) k) = false := decide_eq_false (HK3.out k (by omega))
          rw [d1] at HEQ2
          clear d1 hu0 hu1 HEQ
          obtain ⟨q, rfl⟩ : ∃ q', q = q' + 1 := ⟨q - 1, by omega⟩
          go_wp2_with (go_at_call 12; (with_reducible refine HEQ2.out.mono ?_); rintro e W5 ⟨rfl, b5⟩; (have B5 := Lib.hid (BW.out.trans (b5.mono BW.out.size))); (have I5 := Lib.hid (HJ.out.keep b5)); clear b5)
          go_roundg q
          case measure => omega
          case rel => exact ⟨k + 1, g2, by omega, rfl, hwg2, I5, B5⟩
      · have hu1 := HUP.out k j
        have HS2 := Lib.hid (HSP.out wr _ g2 j (HRM.out.keep BW.out) HJ.out hu1.1 hu1.2 (by omega))
        have j1 : (j : Int) < (La : Int) := by omega
        clear hu1
        go_wp2_with (go_at_call 30; (with_reducible refine HS2.out.mono ?_); rintro e W5 ⟨R5, rfl, hwR, i5, b5⟩; (have I5 := Lib.hid i5); (have B5 := Lib.hid (HB2.out.trans (b5.mono HB2.out.size))); clear i5 b5)
        go_roundg q2
        case measure => omega
        case rel => exact ⟨j + 1, R5, by omega, by go_num, rfl, by have := BW.out.size; omega, Lib.hid (by rw [List.range_succ, List.foldl_append]; exact I5.out), B5⟩
end Go.Proofs.Ytbgfllohedhmaaa

namespace Go.Proofs.Ytbgfllohedhmaaa
open Go.RowKit Go.Maps Go.Lib
set_option linter.unusedSimpArgs false
set_option linter.unusedVariables false

/-- Why a graph is not a deterministic one. -/
def cdR (La S : Int) (es : List E3) : Int := if chkG La S es = 0 then (if detE es = true then 0 else 8) else 1
theorem cdR_zero {La S : Int} {es : List E3} (h : cdR La S es = 0) : VG La S es ∧ detE es = true := by
  unfold cdR at h
  by_cases h1 : chkG La S es = 0
  · rw [if_pos h1] at h
    by_cases h2 : detE es = true
    · exact ⟨chkG_zero h1, h2⟩
    · rw [if_neg h2] at h; cases h
  · rw [if_neg h1] at h; cases h
theorem cdR_ok {La S : Int} {es : List E3} (hvg : VG La S es) (hd : detE es = true) : cdR La S es = 0 := by
  unfold cdR; rw [if_pos hvg.chk, if_pos hd]
set_option maxRecDepth 100000 in
set_option maxHeartbeats 3200000 in
theorem checkDet_any (La S : Int) (es : List E3) (v : Value) (w : World) (hrd : EdgesRd w v es) (hn : es.length ≤ 9223372036854775807) :
    Calls Try.prog 16 #[grV La S v] w fun e w' => e = .returned (.int .i64 (cdR La S es)) ∧ Below w.heap.size w w' := by
  have HD := Lib.hid (deterministic_any La S es v _ (hrd.keep (below1 w (.cells #[.int .i64 La, .int .i64 S, v] 24))) hn)
  have B0 := Lib.hid (below1 w (.cells #[.int .i64 La, .int .i64 S, v] 24))
  obtain ⟨x1, x2, x3⟩ := BoxG.new w La S v 24
  obtain ⟨z, hz⟩ : ∃ z, cdR La S es = z := ⟨_, rfl⟩
  have HZ := Lib.hid hz
  rw [hz]
  obtain ⟨a, c, rfl⟩ := hrd.form
  clear hrd hz
  by_cases h1 : chkG La S es = 0
  · by_cases h2 : detE es = true
    · have e1 : detR La S es = (true, 0) := by unfold detR; rw [if_pos h1, h2]
      have HE := Lib.hid (show z = 0 by rw [← HZ.out]; unfold cdR; rw [if_pos h1, if_pos h2])
      rw [e1] at HD
      clear HZ h1 h2 e1
      go_enter Try.func16, Try.ntmps16
      go_wp2_with (go_at_call 28; (with_reducible refine HD.out.mono ?_); rintro e W1 ⟨rfl, b1⟩; (have B1 := Lib.hid (below_more B0.out (Nat.le_refl _) b1)); clear b1 x1 x2 x3)
      go_ret
      exact ⟨by rw [HE.out]; rfl, B1.out⟩
    · have e1 : detR La S es = (false, 0) := by unfold detR; rw [if_pos h1, Bool.eq_false_iff.2 h2]
      have HE := Lib.hid (show z = 8 by rw [← HZ.out]; unfold cdR; rw [if_pos h1, if_neg h2])
      rw [e1] at HD
      clear HZ h1 h2 e1
      go_enter Try.func16, Try.ntmps16
      go_wp2_with (go_at_call 28; (with_reducible refine HD.out.mono ?_); rintro e W1 ⟨rfl, b1⟩; (have B1 := Lib.hid (below_more B0.out (Nat.le_refl _) b1)); clear b1 x1 x2 x3)
      go_ret
      exact ⟨by rw [HE.out]; rfl, B1.out⟩
  · have e1 : detR La S es = (false, 1) := by unfold detR; rw [if_neg h1]
    have HE := Lib.hid (show z = 1 by rw [← HZ.out]; unfold cdR; rw [if_neg h1])
    rw [e1] at HD
    clear HZ h1 e1
    go_enter Try.func16, Try.ntmps16
    go_wp2_with (go_at_call 28; (with_reducible refine HD.out.mono ?_); rintro e W1 ⟨rfl, b1⟩; (have B1 := Lib.hid (below_more B0.out (Nat.le_refl _) b1)); clear b1 x1 x2 x3)
    go_ret
    exact ⟨by rw [HE.out]; rfl, B1.out⟩
set_option maxRecDepth 100000 in
set_option maxHeartbeats 3200000 in
theorem part_yes (La n : Nat) (es : List E3) (v : Value) (w : World) (hrd : EdgesRd w v es) (hvg : VG (La : Int) (n : Int) es) (hd : detE es = true) :
    Calls Try.prog 6 #[grV (La : Int) (n : Int) v] w fun e w' => ∃ g c, e = .returned (.tuple #[.slice (some ⟨g, 0, none⟩) n c, .int .i64 0]) ∧ w.heap.size ≤ g ∧ IntsRd w' (.slice (some ⟨g, 0, none⟩) n c) (labsI (classN (mT n es) La n)) ∧ Below w.heap.size w w' := by
  have hn64 : n ≤ 64 := by have := hvg.s2; omega
  have hL256 : La ≤ 256 := by have := hvg.l2; omega
  have hL1 : 1 ≤ La := by have := hvg.l1; omega
  have hl := hvg.len
  have HCD : Hid (∀ W, EdgesRd W v es → Calls Try.prog 16 #[grV (La : Int) (n : Int) v] W fun e W' => e = .returned (.int .i64 0) ∧ Below W.heap.size W W') := Lib.hid (fun W h => by
    refine (checkDet_any La n es v W h (by omega)).mono ?_
    rw [cdR_ok hvg hd]
    exact fun e W' h => h)
  have HMO := Lib.hid (fun W h => machineOf_any (La : Int) La n es v W h hvg.ok hn64 hL256 (by omega))
  have HCO := Lib.hid (fun M W h => classesOf_any (mT n es) n La (some ⟨M, 0, none⟩) (n + 1) W h (fun s l _ => Nat.lt_succ_of_le (mT_le hvg.ok s l)) hn64 hL1 hL256)
  have HRD := Lib.hid hrd
  have B0 := Lib.hid (below1 w (.cells #[.int .i64 (La : Int), .int .i64 (n : Int), v] 24))
  have G0 := Lib.hid (BoxG.new w (La : Int) (n : Int) v 24)
  obtain ⟨x1, x2, x3⟩ := id G0.out
  obtain ⟨a, c, rfl⟩ := hrd.form
  clear hrd hvg hd
  go_enter Try.func6, Try.ntmps6
  go_wp2_with (first
    | (go_at_call 16; (with_reducible refine (HCD.out _ (HRD.out.keep B0.out)).mono ?_); rintro e W1 ⟨rfl, b1⟩; (have B1 := Lib.hid (below_more B0.out (Nat.le_refl _) b1)); (have G1 := Lib.hid (G0.out.keep b1)); clear b1 x1 x2 x3; (obtain ⟨x1, x2, x3⟩ := id G1.out))
    | (go_at_call 18; (with_reducible refine (HMO.out _ (HRD.out.keep B1.out)).mono ?_); rintro e W2 ⟨M, rfl, r2, b2⟩; (have B2 := Lib.hid (B1.out.trans (b2.mono B1.out.size))); (have R2 := Lib.hid r2); clear b2 r2 x1 x2 x3)
    | (go_at_call 17; (with_reducible refine (HCO.out _ _ R2.out).mono ?_); rintro e W3 ⟨g3, c3, rfl, hg3, i3, b3⟩; (have B3 := Lib.hid (B2.out.trans (b3.mono B2.out.size))); (have I3 := Lib.hid i3); clear b3 i3))
  exact bodyPost_ret (v := .tuple #[.slice (some ⟨g3, 0, none⟩) n c3, .int .i64 0]) (by simp [results, Try.results6, go_sem]) rfl ⟨g3, c3, rfl, by have := B2.out.size; omega, I3.out, B3.out⟩
set_option maxRecDepth 100000 in
set_option maxHeartbeats 3200000 in
theorem part_no (La S z : Int) (es : List E3) (v : Value) (w : World) (hrd : EdgesRd w v es) (hn : es.length ≤ 9223372036854775807) (hz : cdR La S es = z) (h0 : z ≠ 0) :
    Calls Try.prog 6 #[grV La S v] w fun e w' => e = .returned (.tuple #[.slice none 0 0, .int .i64 z]) ∧ Below w.heap.size w w' := by
  have HCD := Lib.hid (checkDet_any La S es v _ (hrd.keep (below1 w (.cells #[.int .i64 La, .int .i64 S, v] 24))) hn)
  rw [hz] at HCD
  have B0 := Lib.hid (below1 w (.cells #[.int .i64 La, .int .i64 S, v] 24))
  obtain ⟨x1, x2, x3⟩ := BoxG.new w La S v 24
  have d1 : (z != 0) = true := by simpa using h0
  obtain ⟨a, c, rfl⟩ := hrd.form
  clear hrd hz h0
  go_enter Try.func6, Try.ntmps6
  go_wp2_with (go_at_call 16; (with_reducible refine HCD.out.mono ?_); rintro e W1 ⟨rfl, b1⟩; (have B1 := Lib.hid (below_more B0.out (Nat.le_refl _) b1)); clear b1 x1 x2 x3)
  exact bodyPost_ret (v := .tuple #[.slice none 0 0, .int .i64 z]) (by simp [results, Try.results6, go_sem]) rfl ⟨rfl, B1.out⟩
end Go.Proofs.Ytbgfllohedhmaaa
