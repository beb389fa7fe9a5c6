/- Lists of integers that the reference implementation reads, and what its functions of layer 1 return for them. Condition: at most 1000 bytes each. What the reference implementation's Degree, Canonical and coef of polynomials return. Condition: at most 1000 coefficients of at most 1000 bytes. What the reference implementation's Derivative of a polynomial returns. Condition: at most 1000 coefficients of at most 1000 bytes, products too. -/
import Derived.Test.YtgcogpfmhmmgdaaGreatDoorQ40
import Derived.Test.YtgcogpfmhmmgdaaGreatDoorQ45
import Derived.Test.YtgcogpfmhmmgdaaGreatDoorQ46
import Derived.Deep.RegionHeld3
import Derived.Deep.AppendLies
import Derived.Deep.RegionLaw

namespace Go.Proofs.YtgcogpfmhmmgdaaGreatDoor
open Go.RowKit Go.Shelf
set_option linter.unusedSimpArgs false
set_option linter.unusedVariables false

/-- A list of integers that can be read. -/
def PolyR (W : World) (v : Value) (L : List Int) : Prop :=
  ∃ (A : Option Addr) (c : Nat) (g : Nat → Bool) (s : Nat → ByteArray), v = .slice A L.length c ∧ ∀ i, i < L.length → ∃ a, A = some a ∧ W.cell? (a.add (i * 2)) = some (.bool (g i)) ∧ W.cell? ⟨(a.add (i * 2)).block, (a.add (i * 2)).off + 1, none⟩ = some (.string (s i)) ∧ (s i).size ≤ 1000 ∧ zv (g i) (s i) = co L i
theorem PolyR.keep {W W1 : World} {v : Value} {L : List Int} (h : PolyR W v L) (hb : Below W.heap.size W W1) : PolyR W1 v L := by
  obtain ⟨A, c, g, s, h1, h2⟩ := h
  refine ⟨A, c, g, s, h1, fun i hi => ?_⟩
  obtain ⟨a, k1, k2, k3, k4⟩ := h2 i hi
  exact ⟨a, k1, cell_keep k2 hb, cell_keep k3 hb, k4⟩
theorem PolyR.slice {W : World} {v : Value} {L : List Int} (h : PolyR W v L) : ∃ A c, v = .slice A L.length c := by
  obtain ⟨A, c, g, s, h1, -⟩ := h
  exact ⟨A, c, h1⟩
theorem PolyS.r {W : World} {v : Value} {L : List Int} (h : PolyS W v L) (hb : PB L 200) : PolyR W v L := by
  obtain ⟨A, c, h1, h2, h3⟩ := h
  refine ⟨A, c, fun i => sg (co L i), fun i => mg (co L i), h1, fun i hi => ?_⟩
  obtain ⟨b, k1, k2, k3⟩ := h3 i hi
  have e : (⟨b, 0, none⟩ : Addr).add (i * 2) = ⟨b, i * 2, none⟩ := by unfold Addr.add; split <;> simp_all
  have := mg_size (hb i)
  exact ⟨⟨b, 0, none⟩, k1, by rw [e]; exact k2, by rw [e]; exact k3, (show (mg (co L i)).size ≤ 1000 by omega), zv_mg _⟩
theorem ArgV.r {W : World} {v : Value} {n : Nat} {g : Nat → Bool} {s : Nat → ByteArray} (h : ArgV W v n g s) (hs : ∀ i, i < n → (s i).size ≤ 3) : PolyR W v (intsOf n g s) := by
  obtain ⟨A, c, h1, h2, h3⟩ := h
  refine ⟨A, c, g, s, by rw [intsOf_len]; exact h1, fun i hi => ?_⟩
  rw [intsOf_len] at hi
  obtain ⟨a, k1, k2, k3⟩ := h3 i hi
  have := hs i hi
  exact ⟨a, k1, k2, k3, by omega, (co_intsOf hi).symm⟩
/-- The reference implementation's functions of layer 1, for bytes as they lie there. -/
theorem rcmpV (g1 g2 : Bool) (s1 s2 : ByteArray) (z1 z2 : Int) (w : World) (h1 : s1.size ≤ 1000000) (h2 : s2.size ≤ 1000000) (e1 : zv g1 s1 = z1) (e2 : zv g2 s2 = z2) :
    Calls Tryz.prog 54 #[.agg #[.bool g1, .string s1], .agg #[.bool g2, .string s2]] w fun e w' => e = .returned (.int .i64 (cmpZ z1 z2)) ∧ Below w.heap.size w w' := by
  obtain ⟨⟨l1⟩⟩ := s1
  obtain ⟨⟨l2⟩⟩ := s2
  exact rcompare_any g1 g2 l1 l2 z1 z2 w (Nat.le_trans h1 (by decide)) (Nat.le_trans h2 (by decide)) e1 e2
theorem raddV (g1 g2 : Bool) (s1 s2 : ByteArray) (z1 z2 : Int) (w : World) (h1 : s1.size ≤ 1000000) (h2 : s2.size ≤ 1000000) (e1 : zv g1 s1 = z1) (e2 : zv g2 s2 = z2) :
    Calls Tryz.prog 33 #[.agg #[.bool g1, .string s1], .agg #[.bool g2, .string s2]] w (IntOut w (z1 + z2)) := by
  obtain ⟨⟨l1⟩⟩ := s1
  obtain ⟨⟨l2⟩⟩ := s2
  exact radd01_any g1 g2 l1 l2 z1 z2 w (Nat.le_trans h1 (by decide)) (Nat.le_trans h2 (by decide)) e1 e2
theorem rsubV (g1 g2 : Bool) (s1 s2 : ByteArray) (z1 z2 : Int) (w : World) (h1 : s1.size ≤ 1000000) (h2 : s2.size ≤ 1000000) (e1 : zv g1 s1 = z1) (e2 : zv g2 s2 = z2) :
    Calls Tryz.prog 40 #[.agg #[.bool g1, .string s1], .agg #[.bool g2, .string s2]] w (IntOut w (z1 - z2)) := by
  obtain ⟨⟨l1⟩⟩ := s1
  obtain ⟨⟨l2⟩⟩ := s2
  exact rsub01_any g1 g2 l1 l2 z1 z2 w (Nat.le_trans h1 (by decide)) (Nat.le_trans h2 (by decide)) e1 e2
theorem rmulV (g1 g2 : Bool) (s1 s2 : ByteArray) (z1 z2 : Int) (w : World) (h1 : s1.size ≤ 1000000) (h2 : s2.size ≤ 1000000) (e1 : zv g1 s1 = z1) (e2 : zv g2 s2 = z2) :
    Calls Tryz.prog 44 #[.agg #[.bool g1, .string s1], .agg #[.bool g2, .string s2]] w (IntOut w (z1 * z2)) := by
  obtain ⟨⟨l1⟩⟩ := s1
  obtain ⟨⟨l2⟩⟩ := s2
  exact rmul01_any g1 g2 l1 l2 z1 z2 w (Nat.le_trans h1 (by decide)) (Nat.le_trans h2 (by decide)) e1 e2
theorem rnegV (g1 : Bool) (s1 : ByteArray) (z1 : Int) (w : World) (h1 : s1.size ≤ 1000000) (e1 : zv g1 s1 = z1) :
    Calls Tryz.prog 78 #[.agg #[.bool g1, .string s1]] w (IntOut w (-z1)) := by
  obtain ⟨⟨l1⟩⟩ := s1
  exact rneg_int g1 l1 z1 w (Nat.le_trans h1 (by decide)) e1
theorem rprintV (g1 : Bool) (s1 : ByteArray) (z1 : Int) (w : World) (h1 : s1.size ≤ 1000000) (e1 : zv g1 s1 = z1) :
    Calls Tryz.prog 88 #[.agg #[.bool g1, .string s1]] w fun e w' => e = .returned (.string ⟨(prZ z1).toArray⟩) ∧ Below w.heap.size w w' := by
  obtain ⟨⟨l1⟩⟩ := s1
  exact rprint01_any g1 l1 z1 w h1 e1
theorem cmpZ_zero (z : Int) : (cmpZ z 0 == 0) = decide (z = 0) := by
  unfold cmpZ
  by_cases h : z = 0
  · subst h; rfl
  · rw [decide_eq_false h, beq_eq_false_iff_ne]
    split
    · decide
    · split
      · decide
      · omega
theorem cmpZ_negB (z : Int) : decide (cmpZ z 0 < 0) = decide (z < 0) := by
  unfold cmpZ
  by_cases h : z < 0
  · rw [if_pos h, decide_eq_true h]; rfl
  · rw [if_neg h, decide_eq_false h]
    split <;> rfl
theorem zv_zero : zv false ⟨#[]⟩ = 0 := by rfl
set_option maxRecDepth 100000 in
theorem refZero_any (g : Bool) (s : ByteArray) (z : Int) (w : World) (hs : s.size ≤ 1000000) (hz : zv g s = z) :
    Calls Tryz.prog 35 #[.agg #[.bool g, .string s]] w fun e w' => e = .returned (.bool (decide (z = 0))) ∧ Below w.heap.size w w' := by
  have HC := Lib.hid (fun W => rcmpV g false s ⟨#[]⟩ z 0 W hs (by decide) hz zv_zero)
  have HZ := Lib.hid (cmpZ_zero z)
  obtain ⟨c, hc⟩ : ∃ c, cmpZ z 0 = c := ⟨_, rfl⟩
  rw [hc] at HZ
  simp only [hc] at HC
  clear hc hz
  go_enter Tryz.func35, Tryz.ntmps35
  go_wp2_with (go_at_call 54; (with_reducible refine (HC.out _).mono ?_); rintro e W1 ⟨rfl, b1⟩)
  go_ret
  exact ⟨congrArg (fun b => Ending.returned (.bool b)) HZ.out, below_more (below1 w _) (Nat.le_refl _) b1⟩
end Go.Proofs.YtgcogpfmhmmgdaaGreatDoor

namespace Go.Proofs.YtgcogpfmhmmgdaaGreatDoor
open Go.RowKit Go.Shelf
set_option linter.unusedSimpArgs false
set_option linter.unusedVariables false

set_option maxRecDepth 100000 in
set_option maxHeartbeats 3200000 in
theorem refDeg_any (v : Value) (L : List Int) (w : World) (h : PolyR w v L) (hn : L.length ≤ 1000000) :
    Calls Tryz.prog 11 #[v] w fun e w' => e = .returned (.int .i64 (degZ L)) ∧ Below w.heap.size w w' := by
  obtain ⟨A, c, g, s, rfl, hcell⟩ := h
  have H := Lib.hid hcell
  clear hcell
  go_enter Tryz.func11, Tryz.ntmps11
  go_wp2_with fail
  go_loopg [3] L.length (fun q s3 wx => q ≤ L.length ∧ s3 = .int .i64 ((q : Int) - 1) ∧ Below w.heap.size w wx ∧ Hid (∀ i, q ≤ i → co L i = 0))
  case atStart => exact ⟨Nat.le_refl _, rfl, Below.refl _ _, fun i hi => co_ge hi⟩
  case round =>
    obtain ⟨hq, rfl, hb, hz⟩ := hrel
    rcases gk with _ | q
    · have HD := Lib.hid (deg_of hz.out (.inl rfl))
      go_wp2
      go_ret
      exact ⟨by rw [HD.out]; rfl, hb⟩
    · obtain ⟨a, rfl, c0, c1, hsz, hI⟩ := H.out q (by omega)
      have x0 := cell_keep c0 hb
      have x1 := cell_keep c1 hb
      have HZ0 := Lib.hid (fun W => refZero_any (g q) (s q) (co L q) W (Nat.le_trans hsz (by decide)) hI)
      have hq1 : ((q + 1 : Nat) : Int) - 1 = (q : Int) := by omega
      have hq0 : (0 : Int) ≤ (q : Int) := by omega
      have hql : (q : Int) < (L.length : Int) := by omega
      have HQ := Lib.hid hq
      clear c0 c1 hI hq hsz
      rw [hq1]
      by_cases hm : co L q = 0
      · have HZ := Lib.hid (show ∀ i, q ≤ i → co L i = 0 by
          intro i hi
          rcases Nat.lt_or_ge q i with h1 | h1
          · exact hz.out i (by omega)
          · rw [show i = q by omega]; exact hm)
        rw [show decide (co L q = 0) = true from decide_eq_true hm] at HZ0
        clear hz hm
        go_wp2_with fail
        refine (HZ0.out _).mono ?_
        rintro e W1 ⟨rfl, b1⟩
        have hb2 := below_more hb (Nat.le_refl _) b1
        clear hb b1 x0 x1
        go_wp2_with fail
        go_roundg q
        case measure => omega
        case rel => exact ⟨by have := HQ.out; omega, by go_num, hb2, HZ⟩
      · have HD := Lib.hid (deg_of (n := q + 1) hz.out (.inr hm))
        rw [show decide (co L q = 0) = false from decide_eq_false hm] at HZ0
        clear hz hm
        go_wp2_with fail
        refine (HZ0.out _).mono ?_
        rintro e W1 ⟨rfl, b1⟩
        have hb2 := below_more hb (Nat.le_refl _) b1
        clear hb b1 x0 x1
        go_wp2
        go_ret
        exact ⟨by rw [HD.out, hq1]; rfl, hb2⟩
/-- An empty row of integers that was just made. -/
theorem own_empty (w : World) : (w.alloc (.cells #[] 27)).ownsRow w.heap.size 27 2 (.slice (some ⟨w.heap.size, 0, none⟩) 0 0) 0 (pcl []) :=
  ⟨rfl, .inr ⟨w.heap.size, 0, #[], rfl, Nat.le_refl _, heap_alloc_new w _, Nat.le_refl _, by unfold maxLen; omega, rfl, rfl⟩⟩
set_option maxRecDepth 100000 in
set_option maxHeartbeats 3200000 in
theorem refCan_any (v : Value) (L : List Int) (w : World) (h : PolyR w v L) (hn : L.length ≤ 1000) :
    Calls Tryz.prog 9 #[v] w (ListOut w (trm L)) := by
  have HD0 := Lib.hid (fun W (b : Below w.heap.size w W) => refDeg_any v L W (h.keep b) (by omega))
  obtain ⟨i0, hi, hz0, hz1, hz2⟩ := info_parts infoI
  obtain ⟨A, c, g, s, rfl, hcell⟩ := h
  have H := Lib.hid hcell
  have tl := trm_len L
  obtain ⟨n, hnT⟩ : ∃ n, (trm L).length = n := ⟨_, rfl⟩
  obtain ⟨m, hm⟩ : ∃ m : Int, degZ L = m := ⟨_, rfl⟩
  have hnm : (n : Int) = m + 1 := by unfold degZ at hm; omega
  simp only [hm] at HD0
  rw [hnT] at tl
  have HT := Lib.hid (fun i => co_trm L i)
  have HN := Lib.hid hnT
  clear hcell hnT hm
  go_enter Tryz.func9, Tryz.ntmps9
  go_wp2_with fail
  refine (HD0.out _ (below1 w _)).mono ?_
  rintro e W0 ⟨rfl, b0'⟩
  have own0 := (own_empty w).kept (grown_noneQ b0') (by cases (Value.slice (some ⟨w.heap.size, 0, none⟩) 0 0).ownBlock <;> simp)
  have b0 := below_more (below1 w _) (Nat.le_refl _) b0'
  clear b0'
  go_wp2_with fail
  go_loopg [3, 5] n (fun q s3 s5 wx => ∃ i : Nat, i + q = n ∧ s5 = .int .i64 (i : Int) ∧ (∃ a c, s3 = .slice a i c) ∧ wx.ownsRow w.heap.size 27 2 s3 i (pcl ((trm L).take i)) ∧ Below w.heap.size w wx)
  case atStart => exact ⟨0, by omega, rfl, ⟨_, 0, rfl⟩, own0, b0⟩
  case round =>
    clear b0 own0
    obtain ⟨i, hin, rfl, ⟨a, c3, rfl⟩, hown, hbw⟩ := hrel
    rcases gk with _ | q
    · obtain rfl : i = n := by omega
      have hP := Lib.hid (show PolyS wr (.slice a i c3) (trm L) from own_polyS (B := w.heap.size) (by rw [HN.out]; rw [← HN.out, List.take_length] at hown; rw [HN.out] at hown; exact hown))
      have hlm : ¬ ((i : Int) ≤ m) := by omega
      clear hown
      go_wp2
      go_ret
      exact ⟨_, rfl, hP.out, hbw⟩
    · obtain ⟨aa, rfl, c0, c1, hsz, hI⟩ := H.out i (by omega)
      have x0 := cell_keep c0 hbw
      have x1 := cell_keep c1 hbw
      have hlm : (i : Int) ≤ m := by omega
      have hil : (i : Int) < (L.length : Int) := by omega
      have hsn := Lib.hid (show (trm L).take (i + 1) = (trm L).take i ++ [co L i + 0] by rw [List.take_add_one, co_get (by rw [HN.out]; omega), HT.out]; simp)
      have HO := Lib.hid (fun W => raddV (g i) false (s i) ⟨#[]⟩ (co L i) 0 W (Nat.le_trans hsz (by decide)) (by decide) hI zv_zero)
      obtain ⟨z, hz⟩ : ∃ z, co L i + 0 = z := ⟨_, rfl⟩
      simp only [hz] at hsn HO
      have hlt := hown.lt
      clear hz c0 c1 hsz hI
      go_wp2_with (first
        | (go_at_call 33; (with_reducible refine (HO.out _).mono ?_); rintro e W1 ⟨rfl, b1'⟩; (have hown1 := hown.kept (grown_noneQ b1') (by cases (Value.slice a i c3).ownBlock <;> simp)); (have hlt1 := hown1.lt); (have hbw1 := below_more hbw (Nat.le_refl _) b1'); (have hbs := hbw1.size))
        | (at_builtin; refine wpList_append_own_at _ rfl _ _ 22 rfl w.heap.size 27 i0 (.agg #[.bool false, .string ⟨#[]⟩]) 2 24 Tryz.underlying22 hi hz0 hz1 hz2 rfl (by decide) _ _ _ rfl (hown1.alloc _) ⟨W1.heap.size, 0, none⟩ 1 1 [.bool (sg z), .string (mg z)] rfl rfl ?c1 ?c2 ?c3 ?c4 ?c5 ?_))
      case c1 => exact cell_two_new _ _ _ _
      case c2 => intro u hu; simp at hu; rcases hu with rfl | rfl <;> rfl
      case c3 => unfold maxLen; omega
      case c4 => omega
      case c5 => rw [World.size_alloc]; omega
      intro v' W2 hown2 hgrow _ hv'
      have hb2 : Below w.heap.size w W2 := (hbw1.alloc hbs _).grown hgrow (by rw [World.size_alloc]; omega) (fun k hk => (hlt1 k hk).1)
      rw [← pcl_snoc, ← hsn.out] at hown2
      obtain ⟨a', c', rfl⟩ := own_sliceQ hown2
      clear hown hown1 hgrow hlt hlt1 hv' hbw hbw1
      go_wp2
      go_roundg q
      case measure => omega
      case rel => exact ⟨i + 1, by omega, rfl, ⟨a', c', rfl⟩, hown2, hb2⟩
/-- What returns an integer of at most 1000 bytes as it lies there. -/
def RefIn (w : World) (z : Int) (e : Ending) (w' : World) : Prop := ∃ g s, e = .returned (.agg #[.bool g, .string s]) ∧ s.size ≤ 1000 ∧ zv g s = z ∧ Below w.heap.size w w'
set_option maxRecDepth 100000 in
set_option maxHeartbeats 3200000 in
theorem refCoef_any (v : Value) (L : List Int) (i : Nat) (w : World) (h : PolyR w v L) (hn : L.length ≤ 1000000) (hi : i ≤ 1000000000) :
    Calls Tryz.prog 38 #[v, .int .i64 (i : Int)] w (RefIn w (co L i)) := by
  obtain ⟨A, c, g, s, rfl, hcell⟩ := h
  have r := ResCell.new w 27
  obtain ⟨r1, r2, r3, r4⟩ := r
  have hb := below1 w (.cells #[.bool false, .string ⟨#[]⟩] 27)
  by_cases hl : i < L.length
  · obtain ⟨a, rfl, c0, c1, hs, hI⟩ := hcell i hl
    have x0 := cell_keep c0 hb
    have x1 := cell_keep c1 hb
    have hil : (i : Int) < (L.length : Int) := by omega
    have HI := Lib.hid (And.intro hs hI)
    clear c0 c1 hI hcell hl hs
    go_enter Tryz.func38, Tryz.ntmps38
    go_wp2_with fail
    refine bodyPost_ret (v := .agg #[.bool (g i), .string (s i)]) (by simp [results, Tryz.results38, go_sem, r1, r2, r3, r4]) rfl ⟨g i, s i, rfl, HI.out.1, HI.out.2, ?_⟩
    first | exact hb | exact below1 w _ | exact (hb.setCell (Nat.le_refl _) _).setCell (Nat.le_refl _) _
  · have hz : co L i = 0 := co_ge (by omega)
    have hil : (L.length : Int) ≤ (i : Int) := by omega
    rw [hz]
    clear hcell
    go_enter Tryz.func38, Tryz.ntmps38
    go_wp2_with fail
    refine bodyPost_ret (v := .agg #[.bool false, .string ⟨#[]⟩]) (by simp [results, Tryz.results38, go_sem, r1, r2, r3, r4]) rfl ⟨_, _, rfl, by decide, zv_zero, ?_⟩
    first | exact hb | exact below1 w _ | exact (hb.setCell (Nat.le_refl _) _).setCell (Nat.le_refl _) _
end Go.Proofs.YtgcogpfmhmmgdaaGreatDoor

namespace Go.Proofs.YtgcogpfmhmmgdaaGreatDoor
open Go.RowKit Go.Shelf
set_option linter.unusedSimpArgs false
set_option linter.unusedVariables false

/-- The derivative, zeros at the end too. -/
def derX (L : List Int) : List Int := (List.range (L.length - 1)).map fun i => co L (i + 1) * ((i : Int) + 1)
theorem derX_len (L : List Int) : (derX L).length = L.length - 1 := by unfold derX; rw [List.length_map, List.length_range]
theorem co_derX (L : List Int) (i : Nat) : co (derX L) i = co L (i + 1) * ((i : Int) + 1) := by
  rcases Nat.lt_or_ge i (L.length - 1) with h | h
  · unfold derX
    show (List.map _ _).getD i 0 = _
    rw [List.getD_eq_getElem?_getD, List.getElem?_map, List.getElem?_range h]; rfl
  · rw [co_ge (by rw [derX_len]; exact h), co_ge (by omega), Int.zero_mul]
theorem derX_snoc (L : List Int) (i : Nat) (h : i < (derX L).length) : (derX L).take (i + 1) = (derX L).take i ++ [co L (i + 1) * ((i : Int) + 1)] := by
  rw [List.take_add_one, co_get h, co_derX]; rfl
theorem trm_derX (L : List Int) : (trm (derX L)).length = (trm L).length - 1 := by
  refine trm_len_of (fun i hi => ?_) ?_
  · rw [co_derX, trm_above L (by omega), Int.zero_mul]
  · rcases Nat.eq_zero_or_pos ((trm L).length - 1) with h | h
    · exact .inl h
    · refine .inr ?_
      obtain ⟨n, hn⟩ : ∃ n, (trm L).length = n + 2 := ⟨(trm L).length - 2, by omega⟩
      have h1 := trm_last L (n := n + 1) (by omega)
      rw [show (trm L).length - 1 - 1 = n by omega, co_derX]
      exact Int.mul_ne_zero h1 (by omega)
theorem mg_little {k : Nat} (h : k ≤ 100000) : (mg (k : Int)).size ≤ 1000 :=
  Nat.le_trans (mg_size (z := (k : Int)) (k := 2) (by rw [Int.natAbs_natCast]; exact Nat.lt_of_le_of_lt h (by decide))) (by decide)
set_option maxRecDepth 100000 in
set_option maxHeartbeats 12800000 in
theorem refDer_any (v1 : Value) (L : List Int) (w : World) (h1 : PolyR w v1 L) (hL : L.length ≤ 1000) (hb : PB (derX L) 200) :
    Calls Tryz.prog 17 #[v1] w (ListOut w (trm (derX L))) := by
  obtain ⟨i0, hi, hz0, hz1, hz2⟩ := info_parts infoI
  obtain ⟨A1, c1, g, s, rfl, hcell⟩ := h1
  have H := Lib.hid hcell
  obtain ⟨X, hX⟩ : ∃ X, derX L = X := ⟨_, rfl⟩
  obtain ⟨n, hn⟩ : ∃ n, L.length - 1 = n := ⟨_, rfl⟩
  have hxl : X.length = n := by rw [← hX, derX_len, hn]
  have HSN := Lib.hid (fun i (h : i < n) => show X.take (i + 1) = X.take i ++ [co L (i + 1) * ((i : Int) + 1)] by
    rw [← hX]; exact derX_snoc L i (by rw [hX, hxl]; exact h))
  rw [hX] at hb ⊢
  have HXB := Lib.hid hb
  have hn1 : n ≤ 1000 := by omega
  have HXL := Lib.hid hxl
  clear hX hxl hcell hb
  go_enter Tryz.func17, Tryz.ntmps17
  go_wp2_with fail
  go_loopg [3, 4] n (fun q s3 s4 wx => ∃ i k : Nat, k = i + 1 ∧ i + q = n ∧ s4 = .int .i64 (k : Int) ∧ (∃ a c, s3 = .slice a i c) ∧ wx.ownsRow w.heap.size 27 2 s3 i (pcl (X.take i)) ∧ Below w.heap.size w wx)
  case atStart => exact ⟨0, 1, rfl, by omega, rfl, ⟨_, 0, rfl⟩, own_empty w, below1 w _⟩
  case round =>
    obtain ⟨i, k, hki, hin, rfl, ⟨a, c3, rfl⟩, hown, hbw⟩ := hrel
    rcases gk with _ | q
    · obtain rfl : i = n := by omega
      have hP := Lib.hid (show PolyS wr (.slice a i c3) X from own_polyS (B := w.heap.size) (by rw [HXL.out]; rw [← HXL.out, List.take_length] at hown; rw [HXL.out] at hown; exact hown))
      have hkl : ¬ ((k : Int) < (L.length : Int)) := by omega
      clear hown
      go_wp2_with fail
      refine (refCan_any _ X _ (hP.out.r HXB.out) (by rw [HXL.out]; exact hn1)).mono ?_
      rintro e W2 ⟨v, rfl, pv, b2⟩
      go_wp2
      go_ret
      exact ⟨_, rfl, pv, below_more hbw (Nat.le_refl _) b2⟩
    · obtain ⟨aa, rfl, c0, c1', hsz, hI⟩ := H.out k (by omega)
      have hkl : (k : Int) < (L.length : Int) := by omega
      have hsn := Lib.hid (HSN.out i (by omega))
      obtain ⟨z, hz⟩ : ∃ z, co L (i + 1) * ((i : Int) + 1) = z := ⟨_, rfl⟩
      rw [hz] at hsn
      have hzk : co L k * (k : Int) = z := by rw [← hz, hki]; rfl
      obtain ⟨b0, m0, hm0, hv0, HO⟩ : ∃ b0 m0, m0.size ≤ 1000 ∧ zv b0 m0 = (k : Int) ∧ Hid (∀ W, Calls Tryz.prog 45 #[.int .i64 (k : Int)] W fun e w' => e = .returned (.agg #[.bool b0, .string m0]) ∧ Below W.heap.size W w') :=
        ⟨sg (k : Int), mg (k : Int), mg_little (by omega), zv_mg _, Lib.hid (fun W => rof01_any (k : Int) W (by omega) (by omega))⟩
      have HM := Lib.hid (fun W => rmulV (g k) b0 (s k) m0 (co L k) (k : Int) W (Nat.le_trans hsz (by decide)) (Nat.le_trans hm0 (by decide)) hI hv0)
      rw [hzk] at HM
      have HC0 := Lib.hid (fun W (b : Below w.heap.size w W) => cell_keep c0 b)
      have HC1 := Lib.hid (fun W (b : Below w.heap.size w W) => cell_keep c1' b)
      have hownD := (show wr.drew.ownsRow w.heap.size 27 2 (.slice a i c3) i (pcl (X.take i)) from hown)
      have hbD := hbw.drew
      have x0 := HC0.out _ hbD
      have x1 := HC1.out _ hbD
      have HK := Lib.hid (And.intro hki hin)
      have hi5 : i ≤ 1000 := by omega
      clear hz hzk c0 c1' hsz hI hm0 hv0 hown hbw hki hin
      go_wp2_with fail
      go_region_law (first
        | (refine step_append_lies _ rfl (.tmp 12) (.tmp 20) 22 rfl w.heap.size 27 i0 (.agg #[.bool false, .string ⟨#[]⟩]) 2 24 Tryz.underlying22 hi hz0 hz1 hz2 rfl (by decide) (.slice a i c3) i (pcl (X.take i)) (by simp [Act.eval, Act.put]) (hownD.alloc _) ⟨W2.heap.size, 0, none⟩ 1 1 [.bool (sg z), .string (mg z)] (by simp [Act.eval, Act.put]) rfl (cell_two_new _ _ _ _) (by intro u hu; simp at hu; rcases hu with rfl | rfl <;> rfl) (by decide) (by unfold maxLen; omega) (by omega) (Nat.le_trans hbD.size (below1 W2 _).size) _ rfl ?_; intro g9 c9 W4 r1 r2 r3 r4)
        | (go_simp; go_at_call 45; (with_reducible refine (HO.out _).mono ?_); rintro e W1 ⟨rfl, bb⟩; (have hownD := hownD.kept (grown_noneQ bb) (by cases (Value.slice a i c3).ownBlock <;> simp)); (have hbD := below_more hbD (Nat.le_refl _) bb); (have x0 := HC0.out _ hbD); (have x1 := HC1.out _ hbD))
        | (go_simp; go_at_call 44; (with_reducible refine (HM.out _).mono ?_); rintro e W2 ⟨rfl, bb⟩; (have hownD := hownD.kept (grown_noneQ bb) (by cases (Value.slice a i c3).ownBlock <;> simp)); (have hbD := below_more hbD (Nat.le_refl _) bb)))
      all_goals
        have hlt := hownD.lt
        have hb5 : Below w.heap.size w W4 := (hbD.alloc hbD.size _).grown r2 (Nat.le_trans hbD.size (below1 W2 _).size) (fun k hk => (hlt k hk).1)
        have r5 := r1
        rw [← pcl_snoc, ← hsn.out] at r5
        clear r1 r2 r3 r4 hownD hbD hlt
        go_wp2
        go_roundg q
        case measure => omega
        case rel => exact ⟨i + 1, k + 1, by have := HK.out.1; omega, by have := HK.out.2; omega, by go_num, ⟨_, c9, rfl⟩, r5, hb5⟩
end Go.Proofs.YtgcogpfmhmmgdaaGreatDoor
